/-
  Owns grown, put together, copied, a piece swapped for others: slices.Grow and slices.Concat over Owns.
-/
import Derived.Test.YtamnmakegdnblaaKD0
import Derived.Test.YtamnmakegdnblaaKB5
import Derived.Shelf.Spec.SlicesGrow
import Derived.Shelf.SlGeneric
import Derived.Laws.OwnMore
import Derived.Lib.Hide
import Derived.Deep.RegionWith
namespace Go.Proofs
open Go.Shelf
def Try.growC_ren : Go.Shelf.Ren := ⟨fun | 4 => 102 | n => n, fun | 22 => 83 | 25 => 73 | 0 => 0 | 3 => 3 | 4 => 4 | 9 => 9 | 20 => 20 | n => n, fun | n => n⟩
theorem Try.growC : Go.Proofs.Lays8.n4 Try.prog Try.growC_ren := {
  mixed := by kernel_rfl
  f4 := ⟨Try.f102.name, by decide, Try.func102.trans (congrArg some (by kernel_rfl))⟩
  t0 := Try.underlying0
  a0 := Try.isAgg0
  z0 := Try.sizeOf0
  v0 := Try.zeroValue0
  t3 := Try.underlying3
  a3 := Try.isAgg3
  z3 := Try.sizeOf3
  v3 := Try.zeroValue3
  t4 := Try.underlying4
  a4 := Try.isAgg4
  z4 := Try.sizeOf4
  v4 := Try.zeroValue4
  t9 := Try.underlying9
  a9 := Try.isAgg9
  z9 := Try.sizeOf9
  v9 := Try.zeroValue9
  t20 := Try.underlying20
  a20 := Try.isAgg20
  z20 := Try.sizeOf20
  v20 := Try.zeroValue20
  t22 := Try.underlying83
  a22 := Try.isAgg83
  z22 := Try.sizeOf83
  v22 := Try.zeroValue83 }
end Go.Proofs
namespace Go.Proofs.Ytamnmakegdnblaa.K.D
open Go.Shelf Go.RowKit Go.Joins
attribute [local go_sem] Oper.semAt_some

abbrev zO : Value := .agg #[.int .i64 0, .int .i64 0, .int .i64 0, .int .i64 0]
theorem appO2 : Ap kO 83 (.agg #[.int .i64 0, .int .i64 0, .int .i64 0, .int .i64 0]) 32 := ⟨Try.underlying83, info73, rfl, by decide, by decide⟩
theorem sg_nilrow (w : World) : Sg w w [rG kO (.slice none 0 0) []] := by
  refine ⟨Below.refl _ _, fun r hr => ?_, List.pairwise_singleton _ _⟩
  obtain rfl := List.mem_singleton.mp hr
  exact ⟨rfl, .inl ⟨rfl, rfl⟩⟩
theorem grow_any (n : Nat) (w : World) (h2 : n ≤ 1100000) :
    Calls Try.prog 102 #[.slice none 0 0, .int .i64 (n : Int)] w fun e w' => ∃ q cap, e = .returned (.slice q 0 cap) ∧ Sg w w' [rG kO (.slice q 0 cap) []] := by
  by_cases h0 : n = 0
  · subst h0
    go_enter Try.func102, Try.ntmps102
    go_wp2
    go_ret
    exact ⟨none, 0, rfl, sg_nilrow w⟩
  obtain ⟨i0, hi, hz0, hz1, hz2⟩ := info_parts info73
  have h : Calls Try.prog 102 #[.slice none 0 0, .int .i64 (n : Int)] w _ := Any8.slices_Grow_grow Try.growC i0 _ hi hz0 (by omega) none 0 0 n [] w (Nat.le_refl _) (by omega) (by rw [hz2]; omega) (by omega) (by simp) (fun _ => rfl) (fun a h => by cases h)
  refine h.mono ?_
  rintro e w' ⟨he, rfl⟩
  have hge := grownCap_ge w (0 + n) 0 73
  have hle := grownCap_le_maxLen w (0 + n) 0 73 (by unfold maxLen; omega)
  change e = .returned (.slice (some ⟨w.heap.size, 0, none⟩) 0 (grownCap w (0 + n) 0 73)) at he
  refine ⟨_, _, he, (Below.refl _ _).drew.alloc (Nat.le_refl _) _, ?_, List.pairwise_singleton _ _⟩
  intro r hr
  obtain rfl := List.mem_singleton.mp hr
  refine ⟨rfl, .inr ⟨w.heap.size, _, _, rfl, Nat.le_refl _, heap_alloc_new w.drew _, Nat.zero_le _, hle, ?_, by simp [rG, Kd.flat]⟩⟩
  change _ = grownCap w (0 + n) 0 73 * 4
  have hz : ∀ k, (Builtin.zeroCells zO.cells k).size = k * 4 := fun k => by simp [Builtin.zeroCells, Value.cells]
  rw [Array.size_append, Array.size_append, hz, hz]
  change 0 + (0 + n - 0) * 4 + (grownCap w (0 + n) 0 73 - (0 + n)) * 4 = grownCap w (0 + n) 0 73 * 4
  omega
set_option maxRecDepth 100000 in
set_option maxHeartbeats 1500000 in
theorem concat3_any (gb : Nat) (a b c : Sv) (A B C : List On) (w : World) (h0 : w.cell? ⟨gb, 0, none⟩ = some (.slice a.p a.n a.c)) (h1 : w.cell? ⟨gb, 1, none⟩ = some (.slice b.p b.n b.c)) (h2 : w.cell? ⟨gb, 2, none⟩ = some (.slice c.p c.n c.c)) (hgb : gb < w.heap.size)
    (hA : SlG kO w a.p A) (hB : SlG kO w b.p B) (hC : SlG kO w c.p C) (la : A.length = a.n) (lb : B.length = b.n) (lc : C.length = c.n) (oa : okv a) (ob : okv b) (oc : okv c) (hs : a.n + b.n + c.n ≤ 1000000) :
    Calls Try.prog 96 #[.slice (some ⟨gb, 0, none⟩) 3 3] w fun e w' => ∃ q cap, e = .returned (.slice q (a.n + b.n + c.n) cap) ∧ Sg w w' [rG kO (.slice q (a.n + b.n + c.n) cap) (A ++ B ++ C)] := by
  obtain ⟨ap, an, ac⟩ := a
  obtain ⟨bp, bn, bc⟩ := b
  obtain ⟨cp, cn, cc⟩ := c
  simp only at h0 h1 h2 hA hB hC la lb lc hs ⊢
  have HG := Lib.hid (show ∀ (m : Int) (n : Nat) (w : World), m = n → n ≤ 1100000 → Calls Try.prog 102 #[.slice none 0 0, .int .i64 m] w fun e w' => ∃ q cap, e = .returned (.slice q 0 cap) ∧ Sg w w' [rG kO (.slice q 0 cap) []] from fun m n w e h => e ▸ grow_any n w h)
  have HA := Lib.hid hA
  have HB := Lib.hid hB
  have HC := Lib.hid hC
  have HO := Lib.hid (show okv ⟨ap, an, ac⟩ ∧ okv ⟨bp, bn, bc⟩ ∧ okv ⟨cp, cn, cc⟩ from ⟨oa, ob, oc⟩)
  have HL := Lib.hid (show A.length = an ∧ B.length = bn ∧ C.length = cn from ⟨la, lb, lc⟩)
  clear hA hB hC oa ob oc la lb lc
  have s1 : ¬ ((an : Int) < 0) := by omega
  have s2 : ¬ ((an : Int) + bn < 0) := by omega
  have s3 : ¬ ((an : Int) + bn + cn < 0) := by omega
  go_enter Try.func96, Try.ntmps96
  go_wp2
  refine wp_loop_rounds 4 ?_
  rw [rounds_succ]
  go_wp2
  rw [rounds_succ]
  go_wp2
  rw [rounds_succ]
  go_wp2
  rw [rounds_succ]
  go_wp2_with (go_at_call 102; refine (HG.out _ (an + bn + cn) _ (by omega) (by omega)).mono ?_; rintro e w1 ⟨q1, cap1, rfl, hS1⟩)
  have c0 := (hS1.bel.cell (p := ⟨gb, 0, none⟩) hgb).trans h0
  refine wp_loop_rounds 4 ?_
  rw [rounds_succ]
  go_wp2_with (at_builtin; refine wpList_ap appO2 oneOs rfl _ _ rfl (A := []) (M := ([] : List On)) (L := A) (m := 0) (s := ⟨ap, an, ac⟩) hS1 (Below.refl _ _) (HA.out.step hS1.bel) rfl HL.out.1 (by simp only; omega) HO.out.1 rfl rfl ?_; intro q2 cap2 w2 hS2 _ _ _)
  clear c0 hS1
  simp only [Nat.zero_add, List.nil_append] at hS2
  have c1 := (hS2.bel.cell (p := ⟨gb, 1, none⟩) hgb).trans h1
  rw [rounds_succ]
  go_wp2_with (at_builtin; refine wpList_ap appO2 oneOs rfl _ _ rfl (A := []) (M := A) (L := B) (m := an) (s := ⟨bp, bn, bc⟩) hS2 (Below.refl _ _) (HB.out.step hS2.bel) HL.out.1 HL.out.2.1 (by simp only; omega) HO.out.2.1 rfl rfl ?_; intro q3 cap3 w3 hS3 _ _ _)
  clear c1 hS2
  have c2 := (hS3.bel.cell (p := ⟨gb, 2, none⟩) hgb).trans h2
  rw [rounds_succ]
  go_wp2_with (at_builtin; refine wpList_ap appO2 oneOs rfl _ _ rfl (A := []) (M := A ++ B) (L := C) (m := an + bn) (s := ⟨cp, cn, cc⟩) hS3 (Below.refl _ _) (HC.out.step hS3.bel) (by rw [List.length_append, HL.out.1, HL.out.2.1]) HL.out.2.2 (by simp only; omega) HO.out.2.2 rfl rfl ?_; intro q4 cap4 w4 hS4 _ _ _)
  rw [rounds_succ]
  go_wp2
  go_ret
  exact ⟨q4, cap4, rfl, hS4⟩
set_option maxRecDepth 100000 in
set_option maxHeartbeats 1000000 in
theorem concat1_any (gb : Nat) (a : Sv) (A : List On) (w : World) (h0 : w.cell? ⟨gb, 0, none⟩ = some (.slice a.p a.n a.c)) (hgb : gb < w.heap.size)
    (hA : SlG kO w a.p A) (la : A.length = a.n) (oa : okv a) (hs : a.n ≤ 1000000) :
    Calls Try.prog 96 #[.slice (some ⟨gb, 0, none⟩) 1 1] w fun e w' => ∃ q cap, e = .returned (.slice q a.n cap) ∧ Sg w w' [rG kO (.slice q a.n cap) A] := by
  obtain ⟨ap, an, ac⟩ := a
  simp only at h0 hA la hs ⊢
  have HG := Lib.hid (show ∀ (m : Int) (n : Nat) (w : World), m = n → n ≤ 1100000 → Calls Try.prog 102 #[.slice none 0 0, .int .i64 m] w fun e w' => ∃ q cap, e = .returned (.slice q 0 cap) ∧ Sg w w' [rG kO (.slice q 0 cap) []] from fun m n w e h => e ▸ grow_any n w h)
  have HA := Lib.hid hA
  have HO := Lib.hid oa
  have HL := Lib.hid la
  clear hA oa la
  have s1 : ¬ ((an : Int) < 0) := by omega
  go_enter Try.func96, Try.ntmps96
  go_wp2
  refine wp_loop_rounds 2 ?_
  rw [rounds_succ]
  go_wp2
  rw [rounds_succ]
  go_wp2_with (go_at_call 102; refine (HG.out _ an _ (by omega) (by omega)).mono ?_; rintro e w1 ⟨q1, cap1, rfl, hS1⟩)
  have c0 := (hS1.bel.cell (p := ⟨gb, 0, none⟩) hgb).trans h0
  refine wp_loop_rounds 2 ?_
  rw [rounds_succ]
  go_wp2_with (at_builtin; refine wpList_ap appO2 oneOs rfl _ _ rfl (A := []) (M := ([] : List On)) (L := A) (m := 0) (s := ⟨ap, an, ac⟩) hS1 (Below.refl _ _) (HA.out.step hS1.bel) rfl HL.out (by simp only; omega) HO.out rfl rfl ?_; intro q2 cap2 w2 hS2 _ _ _)
  simp only [Nat.zero_add, List.nil_append] at hS2
  rw [rounds_succ]
  go_wp2
  go_ret
  exact ⟨q2, cap2, by simp, hS2⟩
theorem copied_any (a : Sv) (A : List On) (w : World) (hA : SlG kO w a.p A) (la : A.length = a.n) (oa : okv a) (hs : a.n ≤ 1000000) :
    Calls Try.prog 95 #[.slice a.p a.n a.c] w fun e w' => ∃ q cap, e = .returned (.slice q a.n cap) ∧ Sg w w' [rG kO (.slice q a.n cap) A] := by
  obtain ⟨ap, an, ac⟩ := a
  have HC := Lib.hid (fun gb W h0 hgb h => concat1_any gb ⟨ap, an, ac⟩ A W h0 hgb h la oa hs)
  have HA := Lib.hid hA
  clear hA la oa
  go_enter Try.func95, Try.ntmps95
  go_wp2_with (go_at_call 96; refine (HC.out _ _ ?_ ?_ ?_).mono ?_; (focus (simp [go_sem]; done)); (focus (simp; done)); (focus exact HA.out.step (below_alloc1 _ _)); rintro e w1 ⟨q, cap, rfl, hS⟩)
  go_ret
  exact ⟨q, cap, rfl, by simpa using (Sg.nil w).step (below_alloc1 _ _) |>.addL hS⟩
set_option maxRecDepth 100000 in
set_option maxHeartbeats 1000000 in
theorem swapped_any (g off cap : Nat) (L : List On) (n : Nat) (hn : L.length = n) (w : World) (hL : CsG kO w g off L) (hcap : n ≤ cap) (hb0 : n ≤ 1000) (kf kp : Nat) (h1 : kf ≤ kp) (h2 : kp ≤ n) (b : Sv) (B : List On) (hB : SlG kO w b.p B) (lb : B.length = b.n) (ob : okv b) (hb1 : b.n ≤ 1000) :
    Calls Try.prog 77 #[.slice (some ⟨g, off, none⟩) n cap, .int .i64 (kf : Int), .int .i64 (kp : Int), .slice b.p b.n b.c] w fun e w' => ∃ q c, e = .returned (.slice q (kf + b.n + (n - kp)) c) ∧ Sg w w' [rG kO (.slice q (kf + b.n + (n - kp)) c) (L.take kf ++ B ++ L.drop kp)] := by
  have i1 : (kf : Int) ≤ cap := by omega
  have i2 : (kp : Int) ≤ n := by omega
  have i3 : (n : Int) ≤ cap := by omega
  obtain ⟨bp, bn, bc⟩ := b
  simp only at hB lb hb1 ⊢
  by_cases hck : cap = kp
  · obtain rfl : n = cap := by omega
    subst hck
    have HC := Lib.hid (fun gb W c0 c1 c2 hgb (hW : Below w.heap.size w W) => concat3_any gb ⟨some ⟨g, off, none⟩, kf, n⟩ ⟨bp, bn, bc⟩ ⟨some ⟨g, off, none⟩, 0, 0⟩ (L.take kf) B [] W c0 c1 c2 hgb (.inr ⟨g, off, rfl, (hL.step hW).take kf⟩) (hB.step hW) (.inl rfl) (by rw [List.length_take, hn]; simp only; omega) lb rfl (.inl ⟨_, rfl⟩) ob (.inl ⟨_, rfl⟩) (by simp only; omega))
    simp only at HC
    have hd : L.drop n = [] := List.drop_eq_nil_of_le (by omega)
    rw [hd]
    clear hL hB lb ob hn hd
    go_enter Try.func77, Try.ntmps77
    go_wp2
    go_region_with ((go_at_call 96; refine (HC.out _ _ ?_ ?_ ?_ ?_ ?_).mono ?_; (focus (simp [go_sem]; done)); (focus (simp [go_sem]; done)); (focus (simp [go_sem]; done)); (focus (simp; done)); (focus exact (below_alloc1 _ _).drew); rintro e w1 ⟨q, c, rfl, hS⟩))
    all_goals
      go_wp2
      go_ret
      exact ⟨q, c, by rw [Nat.sub_self]; rfl, by simpa using ((Sg.nil w).step (below_alloc1 _ _).drew).addL hS⟩
  · have HC := Lib.hid (fun gb W c0 c1 c2 hgb (hW : Below w.heap.size w W) => concat3_any gb ⟨some ⟨g, off, none⟩, kf, cap⟩ ⟨bp, bn, bc⟩ ⟨some ⟨g, off + kp * 4, none⟩, n - kp, cap - kp⟩ (L.take kf) B (L.drop kp) W c0 c1 c2 hgb (.inr ⟨g, off, rfl, (hL.step hW).take kf⟩) (hB.step hW) (.inr ⟨g, off + kp * 4, rfl, (hL.step hW).drop kp⟩) (by rw [List.length_take, hn]; simp only; omega) lb (by rw [List.length_drop, hn]) (.inl ⟨_, rfl⟩) ob (.inl ⟨_, rfl⟩) (by simp only; omega))
    simp only at HC
    clear hL hB lb ob hn
    go_enter Try.func77, Try.ntmps77
    go_wp2
    go_region_with ((go_at_call 96; refine (HC.out _ _ ?_ ?_ ?_ ?_ ?_).mono ?_; (focus (simp [go_sem]; done)); (focus (simp [go_sem]; done)); (focus (simp [go_sem]; done)); (focus (simp; done)); (focus exact (below_alloc1 _ _).drew); rintro e w1 ⟨q, c, rfl, hS⟩))
    all_goals
      go_wp2
      go_ret
      exact ⟨q, c, rfl, by simpa using ((Sg.nil w).step (below_alloc1 _ _).drew).addL hS⟩
end Go.Proofs.Ytamnmakegdnblaa.K.D
