/-
  Draws of the law of Records; its looks whether lists are alike; the functions of Records where rows stand.
-/
import Derived.Test.YtjjnmeahcjpinaaD2
import Derived.Test.YtjjnmeahcjpinaaB9
namespace Go.Proofs.Ytjjnmeahcjpinaa
open Go.Shelf Go.RowKit Go.Joins M
attribute [local go_sem] Oper.semAt_some

section
variable {a : Option Addr} {len cap : Nat} {zs : List Int} {g0 : Nat} {W : World}
set_option maxRecDepth 100000 in
set_option maxHeartbeats 1000000 in
theorem dSet (hl : len ≤ 4096) (hr : Rd W g0 a len zs) :
    Calls Try.prog 11 #[.slice a len cap] W fun e w' => ∃ g n c L, ∃ r : Rc, e = .returned (.tuple #[.slice (some ⟨g, 0, none⟩) n c, r.v]) ∧ Hid (L.length = n ∧ n ≤ 10) ∧ Sg W w' [rG kR (.slice (some ⟨g, 0, none⟩) n c) L] := by
  have hS0 := (Sg.nil W).lit kR [zrc] 1 rfl (by decide) #[.int .i64 0, .int .i64 0, .int .i64 0, .int .i64 0, .string ByteArray.empty] rfl
  change Sg W (W.alloc (.cells #[.int .i64 0, .int .i64 0, .int .i64 0, .int .i64 0, .string ByteArray.empty] 28)) _ at hS0
  go_enter Try.func11, Try.ntmps11
  go_wp2_with (first
    | (go_at_call 44; refine (newC hS0 hl hr).mono ?_; rintro e w1 ⟨C, rfl, hS1⟩)
    | (go_at_call 45; refine (anyC hS1).mono ?_; rintro e w2 ⟨g, n, c, L, rfl, hL, hS2⟩)
    | (go_at_call 46; refine (recC hS2).mono ?_; rintro e w3 ⟨r, rfl, hS3⟩; obtain ⟨⟨y0, y1, y2, y3, y4⟩, yf, yg⟩ := boxF (b := W.heap.size) (r := zrc) hS3.sg (by simp)))
  have hS4 := Sc.setAll (A := [_]) hS3 r
  obtain ⟨⟨u0, u1, u2, u3, u4⟩, uf, ug⟩ := boxF (b := W.heap.size) (r := r) hS4.sg (by simp)
  refine bodyPost_ret (v := .tuple #[.slice (some ⟨g, 0, none⟩) n c, .agg #[.int .i64 r.t, .int .i64 r.i, .int .i64 r.x, .int .i64 r.y, .string r.s]]) (by simp [results, Try.results11, go_sem, u0, u1, u2, u3, u4]) rfl ⟨g, n, c, L, ?_⟩
  first
    | exact ⟨r, rfl, hL, hS4.sg.sub (by simp)⟩
    | exact ⟨⟨r, rfl⟩, hL, hS4.sg.sub (by simp)⟩
set_option maxHeartbeats 1000000 in
theorem dCut (hl : len ≤ 4096) (hr : Rd W g0 a len zs) :
    Calls Try.prog 13 #[.slice a len cap] W fun e w' => ∃ g n c L, ∃ t i : Int, e = .returned (.tuple #[.slice (some ⟨g, 0, none⟩) n c, .int .i64 t, .int .i64 i]) ∧ Hid (L.length = n ∧ n ≤ 10) ∧ Sg W w' [rG kR (.slice (some ⟨g, 0, none⟩) n c) L] := by
  have f1 : True := trivial
  go_enter Try.func13, Try.ntmps13
  go_wp2_with (first
    | (go_at_call 44; refine (newC (Sg.nil W) hl hr).mono ?_; rintro e w1 ⟨C, rfl, hS1⟩)
    | (go_at_call 45; refine (anyC hS1).mono ?_; rintro e w2 ⟨g, n, c, L, rfl, hL, hS2⟩)
    | (go_at_call 52; clear f1; refine (belowC hS2 3 (by decide) (by decide)).mono ?_; rintro e w3 ⟨t, rfl, t0, t1, hS3⟩)
    | (go_at_call 52; refine (belowC hS3 7 (by decide) (by decide)).mono ?_; rintro e w4 ⟨i, rfl, i0, i1, hS4⟩))
  refine bodyPost_ret (v := .tuple #[.slice (some ⟨g, 0, none⟩) n c, .int .i64 (1 + t), .int .i64 (1 + i)]) (by simp [results, Try.results13, go_sem]) rfl ?_
  exact ⟨g, n, c, L, 1 + t, 1 + i, rfl, hL, hS4.sg⟩
set_option maxHeartbeats 1000000 in
theorem dOf (hl : len ≤ 4096) (hr : Rd W g0 a len zs) :
    Calls Try.prog 15 #[.slice a len cap] W fun e w' => ∃ g n c L, ∃ t : Int, e = .returned (.tuple #[.slice (some ⟨g, 0, none⟩) n c, .int .i64 t]) ∧ Hid (L.length = n ∧ n ≤ 10) ∧ Sg W w' [rG kR (.slice (some ⟨g, 0, none⟩) n c) L] := by
  go_enter Try.func15, Try.ntmps15
  go_wp2_with (first
    | (go_at_call 44; refine (newC (Sg.nil W) hl hr).mono ?_; rintro e w1 ⟨C, rfl, hS1⟩)
    | (go_at_call 45; refine (anyC hS1).mono ?_; rintro e w2 ⟨g, n, c, L, rfl, hL, hS2⟩)
    | (go_at_call 52; refine (belowC hS2 5 (by decide) (by decide)).mono ?_; rintro e w3 ⟨t, rfl, t0, t1, hS3⟩))
  refine bodyPost_ret (v := .tuple #[.slice (some ⟨g, 0, none⟩) n c, .int .i64 t]) (by simp [results, Try.results15, go_sem]) rfl ?_
  exact ⟨g, n, c, L, t, rfl, hL, hS3.sg⟩
set_option maxHeartbeats 1000000 in
theorem dIn (hl : len ≤ 4096) (hr : Rd W g0 a len zs) :
    Calls Try.prog 17 #[.slice a len cap] W fun e w' => ∃ g n c L, ∃ t : Int, ∃ q m cc cs, e = .returned (.tuple #[.slice (some ⟨g, 0, none⟩) n c, .int .i64 t, .slice q m cc]) ∧ Hid ((L.length = n ∧ n ≤ 10) ∧ (cs.length = m ∧ m ≤ 10)) ∧ Sg W w' [rG kC (.slice q m cc) cs, rG kR (.slice (some ⟨g, 0, none⟩) n c) L] := by
  go_enter Try.func17, Try.ntmps17
  go_wp2_with (first
    | (go_at_call 44; refine (newC (Sg.nil W) hl hr).mono ?_; rintro e w1 ⟨C, rfl, hS1⟩)
    | (go_at_call 45; refine (anyC hS1).mono ?_; rintro e w2 ⟨g, n, c, L, rfl, hL, hS2⟩)
    | (go_at_call 52; refine (belowC hS2 3 (by decide) (by decide)).mono ?_; rintro e w3 ⟨t, rfl, t0, t1, hS3⟩)
    | (go_at_call 55; refine (cellsC hS3).mono ?_; rintro e w4 ⟨q, m, cc, cs, rfl, hcs, hS4⟩))
  refine bodyPost_ret (v := .tuple #[.slice (some ⟨g, 0, none⟩) n c, .int .i64 (1 + t), .slice q m cc]) (by simp [results, Try.results17, go_sem]) rfl ?_
  exact ⟨g, n, c, L, 1 + t, q, m, cc, cs, rfl, ⟨hL.out, hcs.out⟩, hS4.sg⟩
set_option maxHeartbeats 1000000 in
theorem dSame (hl : len ≤ 4096) (hr : Rd W g0 a len zs) :
    Calls Try.prog 19 #[.slice a len cap] W fun e w' => ∃ g n c L g2 n2 c2 L2, e = .returned (.tuple #[.slice (some ⟨g, 0, none⟩) n c, .slice (some ⟨g2, 0, none⟩) n2 c2]) ∧ Hid ((L.length = n ∧ n ≤ 10) ∧ (L2.length = n2 ∧ n2 ≤ 10)) ∧ Sg W w' [rG kR (.slice (some ⟨g2, 0, none⟩) n2 c2) L2, rG kR (.slice (some ⟨g, 0, none⟩) n c) L] := by
  go_enter Try.func19, Try.ntmps19
  go_upto_if 11 with (first
    | (go_at_call 44; refine (newC (Sg.nil W) hl hr).mono ?_; rintro e w1 ⟨C, rfl, hS1⟩)
    | (go_at_call 45; refine (anyC hS1).mono ?_; rintro e w2 ⟨g, n, c, L, rfl, hL, hS2⟩)
    | (go_at_call 57; refine (onceC hS2 2 (by decide) (by decide)).mono ?_; rintro e w3 ⟨b3, rfl, hS3⟩))
  clear hS1 hS2
  cases b3
  · go_wp2_with (go_at_call 45; refine (anyC hS3).mono ?_; rintro e w4 ⟨g2, n2, c2, L2, rfl, hL2, hS4⟩)
    refine bodyPost_ret (v := .tuple #[.slice (some ⟨g, 0, none⟩) n c, .slice (some ⟨g2, 0, none⟩) n2 c2]) (by simp [results, Try.results19, go_sem]) rfl ?_
    exact ⟨g, n, c, L, g2, n2, c2, L2, rfl, ⟨hL.out, hL2.out⟩, hS4.sg⟩
  · have hS4 : Sg W (w3.alloc (.cells #[] 28)) ([] ++ rG kR (.slice (some ⟨w3.heap.size, 0, none⟩) 0 0) [] :: [rG kR (.slice (some ⟨g, 0, none⟩) n c) L]) := hS3.sg.lit kR [] 0 rfl (by decide) #[] rfl
    go_wp2_with (at_builtin; refine wpList_sgapp0 appR rfl _ _ rfl (A := []) (B := L) (m := n) hS4 (Below.refl _ _) hL.out.1 rfl ⟨g, 0, none⟩ c rfl (cs_src (OwG.cs (hS4.mem (K := kR) (v := .slice (some ⟨g, 0, none⟩) n c) (L := L) (by simp)))) (oneRs _) (.inr (by simp)) (by have := hL.out.2; omega) ?_; intro g2 c2 w5 hS5 _ _)
    refine bodyPost_ret (v := .tuple #[.slice (some ⟨g, 0, none⟩) n c, .slice (some ⟨g2, 0, none⟩) n c2]) (by simp [results, Try.results19, go_sem]) rfl ?_
    exact ⟨g, n, c, L, g2, n, c2, L, rfl, ⟨hL.out, hL.out⟩, hS5⟩
end
set_option maxHeartbeats 1000000 in
theorem likeR_same (p q : Option Addr) (cap cap' : Nat) (L : List Rc) (n : Nat) (hn : L.length = n) (w : World) (hp : SlG kR w p L) (hq : SlG kR w q L) (_hb : n ≤ 10000000) :
    Calls Try.prog 21 #[.slice p n cap, .slice q n cap'] w fun e w' => e = .returned (.bool true) ∧ Below w.heap.size w w' := by
  have HN : Hid (L.length = n) := hn
  clear hn
  go_enter Try.func21, Try.ntmps21
  go_wp2
  go_loopw [5] (fun i wr => ∃ k : Nat, k ≤ n ∧ i = .int .i64 k ∧ Below w.heap.size w wr) (fun i _ => n - (intOf i).toNat)
  case atStart => exact ⟨0, by omega, rfl, Below.refl _ _⟩
  case round =>
    obtain ⟨k, hk, rfl, hb⟩ := hrel
    by_cases hlt : k < n
    · have hki : (k : Int) < n := by omega
      have hkL : k < L.length := by rw [HN.out]; exact hlt
      obtain ⟨g, off, rfl, hC⟩ := (hp.step hb).at hkL
      obtain ⟨g2, off2, rfl, hC2⟩ := (hq.step hb).at hkL
      obtain ⟨c0, c1, c2, c3, c4⟩ := hC.r5 (getR hkL)
      obtain ⟨d0, d1, d2, d3, d4⟩ := hC2.r5 (getR hkL)
      generalize L.getD k zrc = m at c0 c1 c2 c3 c4 d0 d1 d2 d3 d4
      clear hC hC2
      go_wp2
      go_region
      all_goals
        go_wp2
        go_roundw
        case rel => exact ⟨k + 1, by omega, by go_num, hb.drew⟩
        case measure => simp [intOf]; omega
    · obtain rfl : k = n := by omega
      go_wp2
      go_ret
      exact ⟨rfl, hb⟩
set_option maxHeartbeats 1000000 in
theorem likeI_same (p q : Option Addr) (cap cap' : Nat) (L : List Int) (n : Nat) (hn : L.length = n) (w : World) (hp : SlG kI w p L) (hq : SlG kI w q L) (_hb : n ≤ 10000000) :
    Calls Try.prog 25 #[.slice p n cap, .slice q n cap'] w fun e w' => e = .returned (.bool true) ∧ Below w.heap.size w w' := by
  have HN : Hid (L.length = n) := hn
  clear hn
  go_enter Try.func25, Try.ntmps25
  go_wp2
  go_loopw [5] (fun i wr => ∃ k : Nat, k ≤ n ∧ i = .int .i64 k ∧ Below w.heap.size w wr) (fun i _ => n - (intOf i).toNat)
  case atStart => exact ⟨0, by omega, rfl, Below.refl _ _⟩
  case round =>
    obtain ⟨k, hk, rfl, hb⟩ := hrel
    by_cases hlt : k < n
    · have hki : (k : Int) < n := by omega
      have hkL : k < L.length := by rw [HN.out]; exact hlt
      obtain ⟨g, off, rfl, hC⟩ := (hp.step hb).at hkL
      obtain ⟨g2, off2, rfl, hC2⟩ := (hq.step hb).at hkL
      have hgi : L[k]? = some (L.getD k 0) := by simp [List.getD, hkL]
      have c0 := hC.int hgi
      have d0 := hC2.int hgi
      clear hC hC2
      go_wp2
      go_region
      all_goals
        go_wp2
        go_roundw
        case rel => exact ⟨k + 1, by omega, by go_num, hb.drew⟩
        case measure => simp [intOf]; omega
    · obtain rfl : k = n := by omega
      go_wp2
      go_ret
      exact ⟨rfl, hb⟩
set_option maxRecDepth 100000 in
set_option maxHeartbeats 1000000 in
theorem swapped_nil (w : World) : Calls Try.prog 49 #[.slice none 0 0, .int .i64 0, .int .i64 0, .slice none 0 0] w fun e w' => ∃ q c, e = .returned (.slice q 0 c) ∧ Sg w w' [rG kR (.slice q 0 c) []] := by
  have HC := Lib.hid (fun gb W c0 c1 c2 hgb => concat3_any gb ⟨none, 0, 0⟩ ⟨none, 0, 0⟩ ⟨none, 0, 0⟩ [] [] [] W c0 c1 c2 hgb (.inl rfl) (.inl rfl) (.inl rfl) rfl rfl rfl (.inr rfl) (.inr rfl) (.inr rfl) (by decide))
  simp only at HC
  go_enter Try.func49, Try.ntmps49
  go_wp2
  go_region_with ((go_at_call 78; refine (HC.out _ _ ?_ ?_ ?_ ?_).mono ?_; (focus (simp [go_sem]; done)); (focus (simp [go_sem]; done)); (focus (simp [go_sem]; done)); (focus (simp; done)); rintro e w1 ⟨q, c, rfl, hS⟩))
  all_goals
    go_wp2
    go_ret
    exact ⟨q, c, rfl, by simpa using ((Sg.nil w).step (below_alloc1 _ _).drew).addL hS⟩
/-- Cut of no Record at all. -/
theorem iCut_nil (t i : Int) (w : World) : Calls Try.prog 14 #[.slice none 0 0, .int .i64 t, .int .i64 i] w fun e w' => ∃ q m c, e = .returned (.tuple #[.slice q m c, .bool false]) ∧ Below w.heap.size w w' := by
  have hok : recsB [] = true := rfl
  have HOK := Lib.hid (iOk_v hok none 0 0 rfl w (.inl rfl) (by decide))
  have HAL : Hid (∀ W, Calls Try.prog 47 #[.slice none 0 0, .agg #[.int .i64 t, .int .i64 i, .int .i64 0, .int .i64 0, .string ByteArray.empty], .func (.func 48) #[] #[]] W fun e w' => e = .returned (.tuple #[.int .i64 ((0 : Nat) : Int), .int .i64 ((0 : Nat) : Int)]) ∧ Below W.heap.size W w') := fun W => alike_any none 0 [] 0 rfl W (.inl rfl) (by decide) (kq t i) rfl rfl rfl
  simp only [Int.ofNat_zero] at HAL
  go_enter Try.func14, Try.ntmps14
  go_wp2_with (first
    | (go_at_call 22; refine HOK.out.mono ?_; rintro e w1 ⟨rfl, hb1⟩)
    | (go_at_call 47; refine (HAL.out _).mono ?_; rintro e w2 ⟨rfl, hb2⟩)
    | (go_at_call 49; refine (swapped_nil _).mono ?_; rintro e w3 ⟨q3, c3, rfl, h3⟩))
  go_ret2
  exact ⟨q3, 0, c3, rfl, bstep (bstep hb1 hb2 (Nat.le_refl _)) h3.bel (Nat.le_refl _)⟩
end Go.Proofs.Ytjjnmeahcjpinaa
