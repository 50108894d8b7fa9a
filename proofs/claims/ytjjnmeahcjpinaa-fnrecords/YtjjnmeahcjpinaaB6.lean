/-
  Where one stands in a list of Records; a list with a piece swapped; a copy.
-/
import Derived.Test.YtjjnmeahcjpinaaB5
namespace Go.Proofs.Ytjjnmeahcjpinaa
open Go.Shelf Go.RowKit Go.Joins
attribute [local go_sem] Oper.semAt_some

set_option maxHeartbeats 1000000 in
theorem alike_any (p : Option Addr) (cap : Nat) (L : List Rc) (n : Nat) (hn : L.length = n) (w : World) (hL : SlG kR w p L) (hb0 : n ≤ 10000000) (q : Rc) (hr : riseB L = true) {kf kp : Nat} (hkf : pos L q = kf) (hkp : past L q = kp) :
    Calls Try.prog 47 #[.slice p n cap, q.v, .func (.func 48) #[] #[]] w fun e w' => e = .returned (.tuple #[.int .i64 (kf : Int), .int .i64 (kp : Int)]) ∧ Below w.heap.size w w' := by
  have hle := past_le L q
  obtain ⟨b, hb⟩ : ∃ b, isAt L q = b := ⟨_, rfl⟩
  have hpp : kp = if b = true then kf + 1 else kf := by rw [← hkp, ← hkf]; unfold past; rw [hb]
  obtain ⟨qt, qi, qx, qy, qs⟩ := q
  have HS := Lib.hid (fun (W : World) (h : Below w.heap.size w W) => search_any p cap L n hn W (hL.step h) hb0 ⟨qt, qi, qx, qy, qs⟩ hr hkf hb)
  rw [hkp, hkf, hn] at hle
  clear hn hL hr hkf hkp hb
  have hst := (St.nil w).push [.int .i64 qt, .int .i64 qi, .int .i64 qx, .int .i64 qy, .string qs] 28
  cases b
  · simp at hpp
    subst hpp
    go_enter Try.func47, Try.ntmps47
    go_wp2_with (go_at_call 75; refine (HS.out _ hst.bel).mono ?_; rintro e w1 ⟨rfl, hb1⟩)
    go_ret2
    exact ⟨rfl, (hst.step hb1).bel⟩
  · simp at hpp
    subst hpp
    go_enter Try.func47, Try.ntmps47
    go_wp2_with (go_at_call 75; refine (HS.out _ hst.bel).mono ?_; rintro e w1 ⟨rfl, hb1⟩)
    go_ret2
    exact ⟨rfl, (hst.step hb1).bel⟩
set_option maxRecDepth 100000 in
set_option maxHeartbeats 1000000 in
theorem concat1_any (gb : Nat) (a : Sv) (A : List Rc) (w : World) (h0 : w.cell? ⟨gb, 0, none⟩ = some (.slice a.p a.n a.c)) (hgb : gb < w.heap.size)
    (hA : SlG kR w a.p A) (la : A.length = a.n) (oa : okv a) (hs : a.n ≤ 1000000) :
    Calls Try.prog 78 #[.slice (some ⟨gb, 0, none⟩) 1 1] w fun e w' => ∃ q cap, e = .returned (.slice q a.n cap) ∧ Sg w w' [rG kR (.slice q a.n cap) A] := by
  obtain ⟨ap, an, ac⟩ := a
  simp only at h0 hA la hs ⊢
  have HG := Lib.hid (show ∀ (m : Int) (n : Nat) (w : World), m = n → n ≤ 1100000 → Calls Try.prog 96 #[.slice none 0 0, .int .i64 m] w fun e w' => ∃ q cap, e = .returned (.slice q 0 cap) ∧ Sg w w' [rG kR (.slice q 0 cap) []] from fun m n w e h => e ▸ grow_any n w h)
  have HA := Lib.hid hA
  have HO := Lib.hid oa
  have HL := Lib.hid la
  clear hA oa la
  have s1 : ¬ ((an : Int) < 0) := by omega
  go_enter Try.func78, Try.ntmps78
  go_wp2
  refine wp_loop_rounds 2 ?_
  rw [rounds_succ]
  go_wp2
  rw [rounds_succ]
  go_wp2_with (go_at_call 96; refine (HG.out _ an _ (by omega) (by omega)).mono ?_; rintro e w1 ⟨q1, cap1, rfl, hS1⟩)
  have c0 := (hS1.bel.cell (p := ⟨gb, 0, none⟩) hgb).trans h0
  refine wp_loop_rounds 2 ?_
  rw [rounds_succ]
  go_wp2_with (at_builtin; refine wpList_ap appR2 oneRs rfl _ _ rfl (A := []) (M := ([] : List Rc)) (L := A) (m := 0) (s := ⟨ap, an, ac⟩) hS1 (Below.refl _ _) (HA.out.step hS1.bel) rfl HL.out (by simp only; omega) HO.out rfl rfl ?_; intro q2 cap2 w2 hS2 _ _ _)
  simp only [Nat.zero_add, List.nil_append] at hS2
  rw [rounds_succ]
  go_wp2
  go_ret
  exact ⟨q2, cap2, by simp, hS2⟩
theorem copied_any (a : Sv) (A : List Rc) (w : World) (hA : SlG kR w a.p A) (la : A.length = a.n) (oa : okv a) (hs : a.n ≤ 1000000) :
    Calls Try.prog 51 #[.slice a.p a.n a.c] w fun e w' => ∃ q cap, e = .returned (.slice q a.n cap) ∧ Sg w w' [rG kR (.slice q a.n cap) A] := by
  obtain ⟨ap, an, ac⟩ := a
  have HC := Lib.hid (fun gb W h0 hgb h => concat1_any gb ⟨ap, an, ac⟩ A W h0 hgb h la oa hs)
  have HA := Lib.hid hA
  clear hA la oa
  go_enter Try.func51, Try.ntmps51
  go_wp2_with (go_at_call 78; refine (HC.out _ _ ?_ ?_ ?_).mono ?_; (focus (simp [go_sem]; done)); (focus (simp; done)); (focus exact HA.out.step (below_alloc1 _ _)); rintro e w1 ⟨q, cap, rfl, hS⟩)
  go_ret
  exact ⟨q, cap, rfl, by simpa using (Sg.nil w).step (below_alloc1 _ _) |>.addL hS⟩
set_option maxRecDepth 100000 in
set_option maxHeartbeats 1000000 in
theorem swapped_any (g off cap : Nat) (L : List Rc) (n : Nat) (hn : L.length = n) (w : World) (hL : CsG kR w g off L) (hcap : n ≤ cap) (hb0 : n ≤ 1000) (kf kp : Nat) (h1 : kf ≤ kp) (h2 : kp ≤ n) (b : Sv) (B : List Rc) (hB : SlG kR w b.p B) (lb : B.length = b.n) (ob : okv b) (hb1 : b.n ≤ 1000) :
    Calls Try.prog 49 #[.slice (some ⟨g, off, none⟩) n cap, .int .i64 (kf : Int), .int .i64 (kp : Int), .slice b.p b.n b.c] w fun e w' => ∃ q c, e = .returned (.slice q (kf + b.n + (n - kp)) c) ∧ Sg w w' [rG kR (.slice q (kf + b.n + (n - kp)) c) (L.take kf ++ B ++ L.drop kp)] := by
  have i1 : (kf : Int) ≤ cap := by omega
  have i2 : (kp : Int) ≤ n := by omega
  have i3 : (n : Int) ≤ cap := by omega
  obtain ⟨bp, bn, bc⟩ := b
  simp only at hB lb hb1 ⊢
  by_cases hck : cap = kp
  · obtain rfl : n = cap := by omega
    subst hck
    have HC := Lib.hid (fun gb W c0 c1 c2 hgb (hW : Below w.heap.size w W) => concat3_any gb ⟨some ⟨g, off, none⟩, kf, n⟩ ⟨bp, bn, bc⟩ ⟨some ⟨g, off, none⟩, 0, 0⟩ (L.take kf) B [] W c0 c1 c2 hgb (.inr ⟨g, off, rfl, (hL.step hW).take kf⟩) (hB.step hW) (.inl rfl) (by rw [List.length_take, hn]; simp only; omega) lb rfl (.inl ⟨_, rfl⟩) ob (.inl ⟨_, rfl⟩) (by simp only; omega))
    simp only at HC
    have hd : L.drop n = [] := List.drop_eq_nil_of_le (by omega)
    rw [hd]
    clear hL hB lb ob hn hd
    go_enter Try.func49, Try.ntmps49
    go_wp2
    go_region_with ((go_at_call 78; refine (HC.out _ _ ?_ ?_ ?_ ?_ ?_).mono ?_; (focus (simp [go_sem]; done)); (focus (simp [go_sem]; done)); (focus (simp [go_sem]; done)); (focus (simp; done)); (focus exact (below_alloc1 _ _).drew); rintro e w1 ⟨q, c, rfl, hS⟩))
    all_goals
      go_wp2
      go_ret
      exact ⟨q, c, by rw [Nat.sub_self]; rfl, by simpa using ((Sg.nil w).step (below_alloc1 _ _).drew).addL hS⟩
  · have HC := Lib.hid (fun gb W c0 c1 c2 hgb (hW : Below w.heap.size w W) => concat3_any gb ⟨some ⟨g, off, none⟩, kf, cap⟩ ⟨bp, bn, bc⟩ ⟨some ⟨g, off + kp * 5, none⟩, n - kp, cap - kp⟩ (L.take kf) B (L.drop kp) W c0 c1 c2 hgb (.inr ⟨g, off, rfl, (hL.step hW).take kf⟩) (hB.step hW) (.inr ⟨g, off + kp * 5, rfl, (hL.step hW).drop kp⟩) (by rw [List.length_take, hn]; simp only; omega) lb (by rw [List.length_drop, hn]) (.inl ⟨_, rfl⟩) ob (.inl ⟨_, rfl⟩) (by simp only; omega))
    simp only at HC
    clear hL hB lb ob hn
    go_enter Try.func49, Try.ntmps49
    go_wp2
    go_region_with ((go_at_call 78; refine (HC.out _ _ ?_ ?_ ?_ ?_ ?_).mono ?_; (focus (simp [go_sem]; done)); (focus (simp [go_sem]; done)); (focus (simp [go_sem]; done)); (focus (simp; done)); (focus exact (below_alloc1 _ _).drew); rintro e w1 ⟨q, c, rfl, hS⟩))
    all_goals
      go_wp2
      go_ret
      exact ⟨q, c, rfl, by simpa using ((Sg.nil w).step (below_alloc1 _ _).drew).addL hS⟩
end Go.Proofs.Ytjjnmeahcjpinaa
