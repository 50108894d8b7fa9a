/-
  The law's marks and looks: trees. How many Nodes a tree has.
-/
import Derived.Test.YtipfcmfcdfofmaaX4
namespace Go.Proofs.Ytipfcmfcdfofmaa
open Go.RowKit Go.Joins
attribute [local go_sem] Oper.semAt_some

theorem grow_prop {P : Nd → Prop} (hP : ∀ ns fr, (∀ nd ∈ ns, P nd) → ∀ nd ∈ rowUp ns fr, P nd) : ∀ (d : Nat) (ns : List Nd) (fr : Nat), ns.length - fr ≤ d → (∀ nd ∈ ns, P nd) → ∀ nd ∈ grow ns fr, P nd
  | 0, ns, fr, hd, h => by rw [grow_end (by omega)]; exact h
  | d + 1, ns, fr, hd, h => by
    by_cases h1 : ns.length - fr ≤ 1
    · rw [grow_end h1]; exact h
    · rw [grow_on h1]
      refine grow_prop hP d _ _ ?_ ?_
      · simp [rowUp_len, cnt]; omega
      · intro nd hnd
        rcases List.mem_append.mp hnd with hh | hh
        · exact h nd hh
        · exact hP ns fr h nd hh
theorem grow_len : ∀ (d : Nat) (ns : List Nd) (fr : Nat), ns.length - fr ≤ d → ns.length + (ns.length - fr) ≤ 30 → (grow ns fr).length ≤ 30
  | 0, ns, fr, hd, h => by rw [grow_end (by omega)]; omega
  | d + 1, ns, fr, hd, h => by
    by_cases h1 : ns.length - fr ≤ 1
    · rw [grow_end h1]; omega
    · rw [grow_on h1]
      refine grow_len d _ _ ?_ ?_
      · simp [rowUp_len, cnt]; omega
      · simp [rowUp_len, cnt]; omega
theorem plN_bd (L : List Mk) : (plN L).length ≤ 30 ∧ ∀ nd ∈ plN L, nd.ps.length ≤ 4 := by
  unfold plN
  split
  · rename_i h
    have h60 : L.length ≤ 60 := by simp [mksB] at h; exact h.1
    have hl : (leafs (srtM fO L)).length ≤ 15 := by rw [leafs_len, srtM_len]; unfold cnt; omega
    refine ⟨grow_len _ _ _ (Nat.le_refl _) (by omega), grow_prop (P := fun nd => nd.ps.length ≤ 4) (fun ns fr _ nd hnd => ?_) _ _ _ (Nat.le_refl _) (fun nd hnd => ?_)⟩
    · simp only [rowUp, List.mem_map, List.mem_range] at hnd
      obtain ⟨j, _, rfl⟩ := hnd
      rw [forkN_ps, upto_len, four_len]; omega
    · simp only [leafs, List.mem_map, List.mem_range] at hnd
      obtain ⟨j, _, rfl⟩ := hnd
      simp only [leafN, List.length_map, four_len]; omega
  · simp
theorem plM_bd (L : List Mk) : (plM L).length ≤ 60 := by
  unfold plM
  split
  · rename_i h; simp [mksB] at h; exact h.1
  · simp
set_option maxHeartbeats 1000000 in
theorem eqTree_same (p1 p2 q1 q2 : Option Addr) (c1 c2 d1 d2 : Nat) (M : List Mk) (m : Nat) (hm : M.length = m) (A B : List (Nd × Sv)) (n : Nat) (hn : A.length = n) (he : A.map Prod.fst = B.map Prod.fst) (hmb : m ≤ 1000) (hb : n ≤ 1000) (hps : ∀ x ∈ A, x.1.ps.length ≤ 1000) (w : World) (hp1 : SlG kM w p1 M) (hp2 : SlG kM w p2 M) (hq1 : RdN w q1 A) (hq2 : RdN w q2 B) :
    Calls Try.prog 17 #[.agg #[.slice p1 m c1, .slice q1 n d1], .agg #[.slice p2 m c2, .slice q2 n d2]] w fun e w' => e = .returned (.bool true) ∧ Below w.heap.size w w' := by
  have HE1 : Hid (∀ W, Below w.heap.size w W → Calls Try.prog 18 #[.slice p1 m c1, .slice p2 m c2] W fun e w' => e = .returned (.bool true) ∧ Below W.heap.size W w') := fun W h => eqMarkS_same p1 p2 c1 c2 M m hm W (hp1.step h) (hp2.step h) (by omega)
  have HE2 : Hid (∀ W, Below w.heap.size w W → Calls Try.prog 48 #[.slice q1 n d1, .slice q2 n d2] W fun e w' => e = .returned (.bool true) ∧ Below W.heap.size W w') := fun W h => eqNodeS_same q1 q2 d1 d2 A B n hn he hb hps W (hq1.step h) (hq2.step h)
  have hst := ((St.nil w).push [.slice p1 m c1, .slice q1 n d1] 27).push [.slice p2 m c2, .slice q2 n d2] 27
  simp only [World.size_alloc] at hst
  clear hm hn he hps hp1 hp2 hq1 hq2
  go_enter Try.func17, Try.ntmps17
  go_wp2_with (first
    | (go_at_call 18; refine (HE1.out _ hst.bel).mono ?_; rintro e w1 ⟨rfl, hb2⟩; have hs1 := hst.step hb2; have hk := hs1.has; simp [Has, HasAt] at hk)
    | (go_at_call 48; refine (HE2.out _ hs1.bel).mono ?_; rintro e w2 ⟨rfl, hb3⟩))
  go_ret
  exact ⟨rfl, bstep hs1.bel hb3 (Nat.le_refl _)⟩
set_option maxHeartbeats 1000000 in
theorem markTree_any (p q : Option Addr) (m n c d : Nat) (M : List Mk) (NL : List (Nd × Sv)) (A Bs : List Rw) (w W : World) (hS : Sg w W (A ++ (treeR (.slice p m c) (.slice q n d) M NL ++ Bs))) (hmb : m ≤ 1000) (hb : n ≤ 1000) (hps : ∀ x ∈ NL, x.1.ps.length ≤ 1000) :
    Calls Try.prog 20 #[.agg #[.slice p m c, .slice q n d], .int .i64 1] W fun e w' => e = .returned (.int .i64 (endK (1 + 3 * m) NL)) ∧ Sg w w' (A ++ (treeR (.slice p m c) (.slice q n d) (mkM 1 m) (mkNs (1 + 3 * m) NL) ++ Bs)) := by
  have hS0 : Sg w W (A ++ rG kM (.slice p m c) M :: (trR (.slice q n d) NL ++ Bs)) := hS
  have hS1 := hS0.lit kT [(⟨p, m, c⟩, ⟨q, n, d⟩)] 1 rfl (by decide) #[.slice p m c, .slice q n d] rfl
  have HPS : Hid (∀ x ∈ NL, x.1.ps.length ≤ 1000) := hps
  clear hS hS0 hps
  have hS2 : Sg w (W.alloc (.cells #[.slice p m c, .slice q n d] 27)) ((rG kT (.slice (some ⟨W.heap.size, 0, none⟩) 1 1) [(⟨p, m, c⟩, ⟨q, n, d⟩)] :: A) ++ rG kM (.slice p m c) M :: (trR (.slice q n d) NL ++ Bs)) := hS1
  clear hS1
  go_enter Try.func20, Try.ntmps20
  go_wp2_with (first
    | (go_at_call 19; refine (markMarkS_any p m c 1 M _ _ w _ hS2 (by omega) (by omega) (by omega)).mono ?_; rintro e w1 ⟨rfl, hS3⟩; obtain ⟨u0, u1, _, ug⟩ := hS3.two (K := kT) (g := W.heap.size) (c := 1) (p := (⟨p, m, c⟩, ⟨q, n, d⟩)) (by simp) rfl; have hS4 : Sg w w1 ((rG kT (.slice (some ⟨W.heap.size, 0, none⟩) 1 1) [(⟨p, m, c⟩, ⟨q, n, d⟩)] :: (A ++ [rG kM (.slice p m c) (mkM 1 m)])) ++ (trR (.slice q n d) NL ++ Bs)) := by simpa using hS3)
    | (go_at_call 50; refine (markNodeS_any q n d (1 + 3 * m) NL _ _ w _ hS4 hb HPS.out (by omega) (by omega)).mono ?_; rintro e w2 ⟨rfl, hS5⟩))
  go_ret
  refine ⟨rfl, ?_⟩
  have h := hS5.sub (rs' := (A ++ [rG kM (.slice p m c) (mkM 1 m)]) ++ (trR (.slice q n d) (mkNs (1 + 3 * m) NL) ++ Bs)) (by simp)
  simpa [treeR] using h
set_option maxHeartbeats 1000000 in
theorem heldTree_any (p q : Option Addr) (m n c d : Nat) (NL : List (Nd × Sv)) (hn : NL.length = n) (w : World) (h1 : SlG kM w p (mkM 1 m)) (h2 : RdN w q (mkNs (1 + 3 * m) NL)) (hmb : m ≤ 1000) (hb : n ≤ 1000) (hps : ∀ x ∈ NL, x.1.ps.length ≤ 1000) :
    Calls Try.prog 21 #[.agg #[.slice p m c, .slice q n d], .int .i64 1] w fun e w' => e = .returned (.int .i64 (endK (1 + 3 * m) NL)) ∧ Below w.heap.size w w' := by
  have hbd := endK_bd (1 + 3 * m) NL hps
  have H1 : Hid (∀ W, Below w.heap.size w W → Calls Try.prog 51 #[.slice p m c, .int .i64 1] W fun e w' => e = .returned (.int .i64 (1 + 3 * m)) ∧ w' = W) := fun W h => heldMarkS_any p c 1 m W (h1.step h) (by omega) (by omega) (by omega)
  have H2 : Hid (∀ W, Below w.heap.size w W → Calls Try.prog 52 #[.slice q n d, .int .i64 (1 + 3 * m)] W fun e w' => e = .returned (.int .i64 (endK (1 + 3 * m) NL)) ∧ w' = W) := fun W h => heldNodeS_any q n d (1 + 3 * m) NL hn W (h2.step h) hb hps (by omega) (by omega)
  obtain ⟨z, hz⟩ : ∃ z, endK (1 + 3 * m) NL = z := ⟨_, rfl⟩
  rw [hz] at hbd H2 ⊢
  have hz0 : ¬ z < 0 := by omega
  have hz1 : ¬ (1 : Int) + 3 * (m : Int) < 0 := by omega
  clear hbd hz hn h1 h2 hps
  have hb1 := below_alloc1 w (.cells #[.slice p m c, .slice q n d] 27)
  go_enter Try.func21, Try.ntmps21
  go_wp2_with (first
    | (go_at_call 51; refine (H1.out _ hb1).mono ?_; rintro e w1 ⟨rfl, rfl⟩)
    | (go_at_call 52; refine (H2.out _ hb1).mono ?_; rintro e w2 ⟨rfl, rfl⟩))
  go_ret
  exact ⟨rfl, hb1⟩
end Go.Proofs.Ytipfcmfcdfofmaa
