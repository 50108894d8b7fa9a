/-
  A number into a list that rises (the spec's); the Ids of a Batch, the program's and the spec's.
-/
import Derived.Test.YtbkiogedipmioaaIB3
import Derived.Test.YtbkiogedipmioaaL4
namespace Go.Proofs.Ytbkiogedipmioaa.I
open Go.Shelf Go.RowKit Go.Joins
attribute [local go_sem] Oper.semAt_some

theorem lit_ci (W : World) (z : Int) : CsG kI (W.alloc (.cells #[.int .i64 z] 2)) W.heap.size 0 [z] :=
  OwG.cs (((Sg.nil W).lit kI [z] 1 rfl (by decide) #[.int .i64 z] rfl).mem (K := kI) (v := .slice (some ⟨W.heap.size, 0, none⟩) 1 1) (L := [z]) (by simp))
theorem dropI {w : World} {g : Nat} {L : List Int} (h : CsG kI w g 0 L) (k : Nat) : CsG kI w g k (L.drop k) := by
  have := h.drop k
  simpa [kI] using this
theorem putI_here {L : List Int} {z : Int} {k : Nat} (hk : k < L.length) (hlo : ∀ j, j < k → L.getD j 0 < z) (h : L.getD k 0 = z) : putI L z = L := by
  induction L generalizing k with
  | nil => simp at hk
  | cons a t ih =>
    cases k with
    | zero => simp at h; subst h; simp [putI]
    | succ k =>
      have h0 := hlo 0 (by omega)
      simp at h0
      rw [putI, if_pos h0, ih (k := k) (by simp at hk; omega) (fun j hj => by have := hlo (j + 1) (by omega); simpa using this) (by simpa using h)]
theorem putI_new {L : List Int} {z : Int} {k : Nat} (hk : k ≤ L.length) (hlo : ∀ j, j < k → L.getD j 0 < z) (h : k < L.length → z < L.getD k 0) : putI L z = L.take k ++ [z] ++ L.drop k := by
  induction L generalizing k with
  | nil => simp at hk; subst hk; simp [putI]
  | cons a t ih =>
    cases k with
    | zero =>
      have h0 := h (by simp)
      simp at h0
      rw [putI, if_neg (by omega), if_neg (by omega)]; simp
    | succ k =>
      have h0 := hlo 0 (by omega)
      simp at h0
      rw [putI, if_pos h0, ih (k := k) (by simp at hk; omega) (fun j hj => by have := hlo (j + 1) (by omega); simpa using this) (fun hl => by have := h (by simp; omega); simpa using this)]; simp
set_option maxRecDepth 100000 in
set_option maxHeartbeats 4000000 in
theorem put_any (g N c : Nat) (L : List Int) (z : Int) (w W : World) (hS : Sg w W [rG kI (.slice (some ⟨g, 0, none⟩) N c) L]) (hn : N ≤ 1000) {v : List Int} (hv : putI L z = v) :
    Calls Try.prog 44 #[.slice (some ⟨g, 0, none⟩) N c, .int .i64 z] W fun e w' => ∃ q m c', e = .returned (.slice q m c') ∧ v.length = m ∧ Sg w w' [rG kI (.slice q m c') v] := by
  have ho := hS.mem (K := kI) (v := .slice (some ⟨g, 0, none⟩) N c) (L := L) (by simp)
  have hNl := (OwG.len ho).symm
  have hC := OwG.cs ho
  have hcap : N ≤ c := by rcases ho.2 with ⟨h1, _⟩ | ⟨_, _, _, h1, _, _, h2, _⟩; (cases h1); (injection h1 with _ _ h1; have := hNl; omega)
  have HN : Hid (L.length = N) := hNl
  have HV : Hid (putI L z = v) := hv
  clear hNl hv ho
  go_enter Try.func44, Try.ntmps44
  go_wp2
  go_loop [5] (fun kv => ∃ k : Nat, k ≤ N ∧ kv = .int .i64 k ∧ Hid (∀ j, j < k → L.getD j 0 < z)) (fun kv => N - (intOf kv).toNat)
  case atStart => exact ⟨0, by omega, rfl, fun j hj => by omega⟩
  case round =>
    obtain ⟨k, hk, rfl, hlo⟩ := hrel
    by_cases hlt : k < N
    · have hki : (k : Int) < N := by omega
      have hkL : k < L.length := by rw [HN.out]; exact hlt
      have x0 := hC.int (getI hkL)
      rw [Nat.zero_add] at x0
      obtain ⟨y, hy⟩ : ∃ y, L.getD k 0 = y := ⟨_, rfl⟩
      rw [hy] at x0
      have HY : Hid (L.getD k 0 = y) := hy
      clear hy
      by_cases h1 : y < z
      · go_wp2
        go_round
        case rel =>
          refine ⟨k + 1, by omega, by go_num, fun j hj => ?_⟩
          by_cases e : j = k
          · rw [e, HY.out]; exact h1
          · exact hlo.out j (by omega)
        case measure => simp [intOf]; omega
      · by_cases h2 : y = z
        · have HVL : Hid (v = L) := (by rw [← HV.out]; exact putI_here hkL hlo.out (by rw [HY.out]; exact h2) : v = L)
          subst h2
          go_wp2
          go_ret
          exact ⟨_, N, c, rfl, by rw [HVL.out]; exact HN.out, by rw [HVL.out]; exact hS⟩
        · have HVL : Hid (v = L.take k ++ [z] ++ L.drop k) := (by rw [← HV.out]; exact putI_new (by omega) hlo.out (fun _ => by rw [HY.out]; omega) : v = _)
          have hdl : Hid ((L.drop k).length = N - k ∧ (L.take k).length = k ∧ v.length = k + 1 + (N - k)) := by
            show _ ∧ _ ∧ _
            have := HN.out
            rw [HVL.out]
            refine ⟨by simp; omega, by simp; omega, by simp; omega⟩
          have hS0 : Sg w (W.alloc (.cells #[] 2)) [rG kI (.slice (some ⟨W.heap.size, 0, none⟩) 0 0) [], rG kI (.slice (some ⟨g, 0, none⟩) N c) L] := hS.lit kI [] 0 rfl (by decide) #[] rfl
          have hD := Lib.hid (fun W' (h : Sg w W' [rG kI (.slice (some ⟨g, 0, none⟩) N c) L]) => OwG.cs (h.mem (K := kI) (v := .slice (some ⟨g, 0, none⟩) N c) (L := L) (by simp)))
          have hck : ¬ c = k := by omega
          have hkc : (k : Int) ≤ c := by omega
          have hyz : ¬ y = z := h2
          clear hC hS
          go_upto_region 7 with (at_builtin; refine wpList_ap appI oneIs rfl _ _ rfl (A := []) (M := ([] : List Int)) (L := L.drop k) (m := 0) (s := ⟨some ⟨g, k, none⟩, N - k, c - k⟩) hS0 (Below.refl _ _) (.inr ⟨g, k, rfl, dropI (hD.out _ (hS0.sub (by simp))) k⟩) rfl hdl.out.1 (by simp only; omega) (.inl ⟨_, rfl⟩) rfl rfl ?_; intro q1 c1 w1 hS1 _ _ _; simp only [Nat.zero_add, List.nil_append] at hS1)
          have hS2 : Sg w (w1.alloc (.cells #[] 2)) [rG kI (.slice (some ⟨w1.heap.size, 0, none⟩) 0 0) [], rG kI (.slice q1 (N - k) c1) (L.drop k), rG kI (.slice (some ⟨g, 0, none⟩) N c) L] := hS1.lit kI [] 0 rfl (by decide) #[] rfl
          have hok1 := own_okv (hS1.mem (K := kI) (v := .slice q1 (N - k) c1) (L := L.drop k) (by simp))
          clear hS0 hS1
          go_wp2_with (first
            | (at_builtin; refine wpList_ap appI oneIs rfl _ _ rfl (A := []) (M := ([] : List Int)) (L := L.take k) (m := 0) (s := ⟨some ⟨g, 0, none⟩, k, c⟩) hS2 (Below.refl _ _) (.inr ⟨g, 0, rfl, (hD.out _ (hS2.sub (by simp))).take k⟩) rfl hdl.out.2.1 (by simp only; omega) (.inl ⟨_, rfl⟩) rfl rfl ?_; intro q2 c2 w2 hS3 _ _ _; simp only [Nat.zero_add, List.nil_append] at hS3)
            | (at_builtin; refine wpList_ap appI oneIs rfl _ _ rfl (A := []) (M := L.take k) (L := [z]) (m := k) (s := ⟨some ⟨w2.heap.size, 0, none⟩, 1, 1⟩) hS3 (below_alloc1 _ _) (.inr ⟨_, 0, rfl, lit_ci w2 z⟩) hdl.out.2.1 rfl (by simp only; omega) (.inl ⟨_, rfl⟩) rfl rfl ?_; intro q3 c3 w3 hS4 _ _ _)
            | (at_builtin; refine wpList_ap appI oneIs rfl _ _ rfl (A := []) (M := L.take k ++ [z]) (L := L.drop k) (m := k + 1) (s := ⟨q1, N - k, c1⟩) hS4 (Below.refl _ _) (OwG.sl (hS4.mem (K := kI) (v := .slice q1 (N - k) c1) (L := L.drop k) (by simp))) (by rw [List.length_append, hdl.out.2.1]; rfl) hdl.out.1 (by simp only; omega) hok1 rfl rfl ?_; intro q4 c4 w4 hS5 _ _ _))
          go_ret
          exact ⟨q4, _, c4, rfl, hdl.out.2.2, by rw [HVL.out]; exact hS5.sub (by simp)⟩
    · obtain rfl : k = N := by omega
      have hki : ¬ (k : Int) < k := by omega
      have hkc : (k : Int) ≤ c := by omega
      by_cases hck : c = k
      · subst hck
        have HVL : Hid (v = L.take c ++ [z] ++ L.drop c) := (by rw [← HV.out]; exact putI_new (by rw [HN.out]; exact Nat.le_refl _) hlo.out (fun h => by rw [HN.out] at h; omega) : v = _)
        have hdl : Hid ((L.drop c).length = 0 ∧ (L.take c).length = c ∧ v.length = c + 1 + 0) := by
          show _ ∧ _ ∧ _
          have := HN.out
          rw [HVL.out]
          refine ⟨by simp; omega, by simp; omega, by simp; omega⟩
        have hS0 : Sg w (W.alloc (.cells #[] 2)) [rG kI (.slice (some ⟨W.heap.size, 0, none⟩) 0 0) [], rG kI (.slice (some ⟨g, 0, none⟩) c c) L] := hS.lit kI [] 0 rfl (by decide) #[] rfl
        have hD := Lib.hid (fun W' (h : Sg w W' [rG kI (.slice (some ⟨g, 0, none⟩) c c) L]) => OwG.cs (h.mem (K := kI) (v := .slice (some ⟨g, 0, none⟩) c c) (L := L) (by simp)))
        clear hC hS
        go_upto_region 7 with (at_builtin; refine wpList_ap appI oneIs rfl _ _ rfl (A := []) (M := ([] : List Int)) (L := L.drop c) (m := 0) (s := ⟨some ⟨g, 0, none⟩, 0, 0⟩) hS0 (Below.refl _ _) (.inl (List.eq_nil_of_length_eq_zero hdl.out.1)) rfl hdl.out.1 (by simp only; omega) (.inl ⟨_, rfl⟩) rfl rfl ?_; intro q1 c1 w1 hS1 _ _ _; simp only [Nat.zero_add, List.nil_append] at hS1)
        have hS2 : Sg w (w1.alloc (.cells #[] 2)) [rG kI (.slice (some ⟨w1.heap.size, 0, none⟩) 0 0) [], rG kI (.slice q1 (0) c1) (L.drop c), rG kI (.slice (some ⟨g, 0, none⟩) c c) L] := hS1.lit kI [] 0 rfl (by decide) #[] rfl
        have hok1 := own_okv (hS1.mem (K := kI) (v := .slice q1 (0) c1) (L := L.drop c) (by simp))
        clear hS0 hS1
        go_wp2_with (first
          | (at_builtin; refine wpList_ap appI oneIs rfl _ _ rfl (A := []) (M := ([] : List Int)) (L := L.take c) (m := 0) (s := ⟨some ⟨g, 0, none⟩, c, c⟩) hS2 (Below.refl _ _) (.inr ⟨g, 0, rfl, (hD.out _ (hS2.sub (by simp))).take c⟩) rfl hdl.out.2.1 (by simp only; omega) (.inl ⟨_, rfl⟩) rfl rfl ?_; intro q2 c2 w2 hS3 _ _ _; simp only [Nat.zero_add, List.nil_append] at hS3)
          | (at_builtin; refine wpList_ap appI oneIs rfl _ _ rfl (A := []) (M := L.take c) (L := [z]) (m := c) (s := ⟨some ⟨w2.heap.size, 0, none⟩, 1, 1⟩) hS3 (below_alloc1 _ _) (.inr ⟨_, 0, rfl, lit_ci w2 z⟩) hdl.out.2.1 rfl (by simp only; omega) (.inl ⟨_, rfl⟩) rfl rfl ?_; intro q3 c3 w3 hS4 _ _ _)
          | (at_builtin; refine wpList_ap appI oneIs rfl _ _ rfl (A := []) (M := L.take c ++ [z]) (L := L.drop c) (m := c + 1) (s := ⟨q1, 0, c1⟩) hS4 (Below.refl _ _) (OwG.sl (hS4.mem (K := kI) (v := .slice q1 (0) c1) (L := L.drop c) (by simp))) (by rw [List.length_append, hdl.out.2.1]; rfl) hdl.out.1 (by simp only; omega) hok1 rfl rfl ?_; intro q4 c4 w4 hS5 _ _ _))
        go_ret
        exact ⟨q4, _, c4, rfl, hdl.out.2.2, by rw [HVL.out]; exact hS5.sub (by simp)⟩
      · have hck2 : ¬ (c : Int) = k := by omega
        have HVL : Hid (v = L.take k ++ [z] ++ L.drop k) := (by rw [← HV.out]; exact putI_new (by rw [HN.out]; exact Nat.le_refl _) hlo.out (fun h => by rw [HN.out] at h; omega) : v = _)
        have hdl : Hid ((L.drop k).length = 0 ∧ (L.take k).length = k ∧ v.length = k + 1 + 0) := by
          show _ ∧ _ ∧ _
          have := HN.out
          rw [HVL.out]
          refine ⟨by simp; omega, by simp; omega, by simp; omega⟩
        have hS0 : Sg w (W.alloc (.cells #[] 2)) [rG kI (.slice (some ⟨W.heap.size, 0, none⟩) 0 0) [], rG kI (.slice (some ⟨g, 0, none⟩) k c) L] := hS.lit kI [] 0 rfl (by decide) #[] rfl
        have hD := Lib.hid (fun W' (h : Sg w W' [rG kI (.slice (some ⟨g, 0, none⟩) k c) L]) => OwG.cs (h.mem (K := kI) (v := .slice (some ⟨g, 0, none⟩) k c) (L := L) (by simp)))
        clear hC hS
        go_upto_region 7 with (at_builtin; refine wpList_ap appI oneIs rfl _ _ rfl (A := []) (M := ([] : List Int)) (L := L.drop k) (m := 0) (s := ⟨some ⟨g, k, none⟩, 0, c - k⟩) hS0 (Below.refl _ _) (.inl (List.eq_nil_of_length_eq_zero hdl.out.1)) rfl hdl.out.1 (by simp only; omega) (.inl ⟨_, rfl⟩) rfl rfl ?_; intro q1 c1 w1 hS1 _ _ _; simp only [Nat.zero_add, List.nil_append] at hS1)
        have hS2 : Sg w (w1.alloc (.cells #[] 2)) [rG kI (.slice (some ⟨w1.heap.size, 0, none⟩) 0 0) [], rG kI (.slice q1 (0) c1) (L.drop k), rG kI (.slice (some ⟨g, 0, none⟩) k c) L] := hS1.lit kI [] 0 rfl (by decide) #[] rfl
        have hok1 := own_okv (hS1.mem (K := kI) (v := .slice q1 (0) c1) (L := L.drop k) (by simp))
        clear hS0 hS1
        go_wp2_with (first
          | (at_builtin; refine wpList_ap appI oneIs rfl _ _ rfl (A := []) (M := ([] : List Int)) (L := L.take k) (m := 0) (s := ⟨some ⟨g, 0, none⟩, k, c⟩) hS2 (Below.refl _ _) (.inr ⟨g, 0, rfl, (hD.out _ (hS2.sub (by simp))).take k⟩) rfl hdl.out.2.1 (by simp only; omega) (.inl ⟨_, rfl⟩) rfl rfl ?_; intro q2 c2 w2 hS3 _ _ _; simp only [Nat.zero_add, List.nil_append] at hS3)
          | (at_builtin; refine wpList_ap appI oneIs rfl _ _ rfl (A := []) (M := L.take k) (L := [z]) (m := k) (s := ⟨some ⟨w2.heap.size, 0, none⟩, 1, 1⟩) hS3 (below_alloc1 _ _) (.inr ⟨_, 0, rfl, lit_ci w2 z⟩) hdl.out.2.1 rfl (by simp only; omega) (.inl ⟨_, rfl⟩) rfl rfl ?_; intro q3 c3 w3 hS4 _ _ _)
          | (at_builtin; refine wpList_ap appI oneIs rfl _ _ rfl (A := []) (M := L.take k ++ [z]) (L := L.drop k) (m := k + 1) (s := ⟨q1, 0, c1⟩) hS4 (Below.refl _ _) (OwG.sl (hS4.mem (K := kI) (v := .slice q1 (0) c1) (L := L.drop k) (by simp))) (by rw [List.length_append, hdl.out.2.1]; rfl) hdl.out.1 (by simp only; omega) hok1 rfl rfl ?_; intro q4 c4 w4 hS5 _ _ _))
        go_ret
        exact ⟨q4, _, c4, rfl, hdl.out.2.2, by rw [HVL.out]; exact hS5.sub (by simp)⟩
end Go.Proofs.Ytbkiogedipmioaa.I
