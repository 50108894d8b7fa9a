/-
  The mathematics of a heap of pairs: up and down.
-/
import Derived.Test.YtocfdmlkicndoaaHA4
namespace Go.Proofs.Ytocfdmlkicndoaa

def leP (p q : P3) : Prop := ltP q p = false
theorem leP_iff {p q : P3} : leP p q ↔ (p.a < q.a ∨ p.a = q.a ∧ (p.i < q.i ∨ p.i = q.i ∧ p.j ≤ q.j)) := by
  unfold leP ltP; rw [decide_eq_false_iff_not]; omega
theorem ltP_iff {p q : P3} : ltP p q = true ↔ (p.a < q.a ∨ p.a = q.a ∧ (p.i < q.i ∨ p.i = q.i ∧ p.j < q.j)) := by
  unfold ltP; rw [decide_eq_true_iff]
theorem leP_refl (p : P3) : leP p p := by rw [leP_iff]; omega
theorem leP_trans {p q r : P3} (h : leP p q) (k : leP q r) : leP p r := by rw [leP_iff] at *; omega
theorem leP_of_lt {p q : P3} (h : ltP p q = true) : leP p q := by rw [ltP_iff] at h; rw [leP_iff]; omega
theorem leP_antisymm {p q : P3} (h : leP p q) (k : leP q p) : p = q := by
  rw [leP_iff] at *
  obtain ⟨a, b, c⟩ := p
  obtain ⟨a', b', c'⟩ := q
  simp only at h k
  have e1 : a = a' := by omega
  have e2 : b = b' := by omega
  have e3 : c = c' := by omega
  rw [e1, e2, e3]

theorem swp_get {L : List P3} {i j k : Nat} (hi : i < L.length) (hj : j < L.length) : (swp L i j).getD k zp = if k = j then L.getD i zp else if k = i then L.getD j zp else L.getD k zp := by
  unfold swp
  simp only [List.getD_eq_getElem?_getD, List.getElem?_set, List.length_set]
  by_cases h1 : k = j
  · subst h1; simp [hi, hj]
  · rw [if_neg (fun e => h1 e.symm), if_neg h1]
    by_cases h2 : k = i
    · subst h2; simp [hi, hj]
    · rw [if_neg (fun e => h2 e.symm), if_neg h2]
theorem swp_perm {L : List P3} {i j : Nat} (hi : i < L.length) (hj : j < L.length) : (swp L i j).Perm L := by
  have := List.set_set_perm hi hj
  unfold swp
  simpa [List.getD, hi, hj] using this
theorem swp_append {H : List P3} {m : P3} {i j : Nat} (hi : i < H.length) (hj : j < H.length) : swp (H ++ [m]) i j = swp H i j ++ [m] := by
  unfold swp
  have e1 : (H ++ [m]).getD j zp = H.getD j zp := by simp [List.getD, List.getElem?_append_left hj]
  have e2 : (H ++ [m]).getD i zp = H.getD i zp := by simp [List.getD, List.getElem?_append_left hi]
  rw [e1, e2, List.set_append_left _ _ hi, List.set_append_left _ _ (by simpa using hj)]
theorem swp_ends {H : List P3} {a z : P3} : swp (a :: H ++ [z]) 0 (H.length + 1) = z :: H ++ [a] := by
  unfold swp
  have e1 : (a :: H ++ [z]).getD (H.length + 1) zp = z := by simp [List.getD]
  have e2 : (a :: H ++ [z]).getD 0 zp = a := by simp [List.getD]
  rw [e1, e2]
  simp

def isHeap (L : List P3) : Prop := ∀ k, 0 < k → k < L.length → leP (L.getD ((k - 1) / 2) zp) (L.getD k zp)
structure UpInv (L : List P3) (j : Nat) : Prop where
  h1 : ∀ k, 0 < k → k < L.length → k ≠ j → leP (L.getD ((k - 1) / 2) zp) (L.getD k zp)
  h2 : ∀ k, 0 < k → k < L.length → (k - 1) / 2 = j → 0 < j → leP (L.getD ((j - 1) / 2) zp) (L.getD k zp)
theorem UpInv.start {L : List P3} (h : isHeap L) (c : P3) : UpInv (L ++ [c]) L.length := by
  have g : ∀ k, k < L.length → (L ++ [c]).getD k zp = L.getD k zp := fun k hk => by simp [List.getD, List.getElem?_append_left hk]
  refine ⟨fun k h0 hk hne => ?_, fun k h0 hk he _ => ?_⟩
  · simp at hk
    rw [g k (by omega), g _ (by omega)]
    exact h k h0 (by omega)
  · simp at hk; omega
theorem UpInv.done {L : List P3} {j : Nat} (h : UpInv L j) (hj : 0 < j → ltP (L.getD j zp) (L.getD ((j - 1) / 2) zp) = false) : isHeap L := by
  intro k h0 hk
  by_cases e : k = j
  · subst e; exact hj h0
  · exact h.h1 k h0 hk e
theorem UpInv.next {L : List P3} {j : Nat} (h : UpInv L j) (h0 : 0 < j) (hj : j < L.length) (hl : ltP (L.getD j zp) (L.getD ((j - 1) / 2) zp) = true) : UpInv (swp L ((j - 1) / 2) j) ((j - 1) / 2) := by
  have hi : (j - 1) / 2 < L.length := by omega
  have hne : (j - 1) / 2 ≠ j := by omega
  have hlt := leP_of_lt hl
  refine ⟨fun k k0 hk kne => ?_, fun k k0 hk kp ip => ?_⟩
  · rw [swp_len] at hk
    rw [swp_get hi hj, swp_get hi hj]
    by_cases e1 : k = j
    · subst e1
      rw [if_neg hne, if_pos rfl, if_pos rfl]
      exact hlt
    · rw [if_neg e1, if_neg kne]
      by_cases e2 : (k - 1) / 2 = j
      · rw [if_pos e2]
        exact h.h2 k k0 hk e2 h0
      · rw [if_neg e2]
        by_cases e3 : (k - 1) / 2 = (j - 1) / 2
        · rw [if_pos e3]
          have := h.h1 k k0 hk e1
          rw [e3] at this
          exact leP_trans hlt this
        · rw [if_neg e3]
          exact h.h1 k k0 hk e1
  · rw [swp_len] at hk
    have hpp : (((j - 1) / 2) - 1) / 2 ≠ (j - 1) / 2 := by omega
    have hpj : (((j - 1) / 2) - 1) / 2 ≠ j := by omega
    have hi1 := h.h1 ((j - 1) / 2) ip hi hne
    rw [swp_get hi hj, swp_get hi hj, if_neg hpj, if_neg hpp]
    by_cases e1 : k = j
    · subst e1; rw [if_pos rfl]; exact hi1
    · rw [if_neg e1, if_neg (by omega)]
      have := h.h1 k k0 hk e1
      rw [kp] at this
      exact leP_trans hi1 this

structure DownInv (L : List P3) (i : Nat) : Prop where
  h1 : ∀ k, 0 < k → k < L.length → (k - 1) / 2 ≠ i → leP (L.getD ((k - 1) / 2) zp) (L.getD k zp)
  h2 : ∀ k, 0 < k → k < L.length → (k - 1) / 2 = i → 0 < i → leP (L.getD ((i - 1) / 2) zp) (L.getD k zp)
theorem DownInv.done {L : List P3} {i : Nat} (h : DownInv L i) (hi : ∀ k, 0 < k → k < L.length → (k - 1) / 2 = i → leP (L.getD i zp) (L.getD k zp)) : isHeap L := by
  intro k h0 hk
  by_cases e : (k - 1) / 2 = i
  · rw [e]; exact hi k h0 hk e
  · exact h.h1 k h0 hk e
theorem DownInv.next {L : List P3} {i j : Nat} (h : DownInv L i) (h0 : 0 < j) (hj : j < L.length) (hp : (j - 1) / 2 = i) (hl : ltP (L.getD j zp) (L.getD i zp) = true) (hm : ∀ k, 0 < k → k < L.length → (k - 1) / 2 = i → leP (L.getD j zp) (L.getD k zp)) : DownInv (swp L i j) j := by
  have hi : i < L.length := by omega
  have hne : i ≠ j := by omega
  have hlt := leP_of_lt hl
  refine ⟨fun k k0 hk kne => ?_, fun k k0 hk kp ip => ?_⟩
  · rw [swp_len] at hk
    rw [swp_get hi hj, swp_get hi hj, if_neg kne]
    by_cases e1 : k = j
    · subst e1
      rw [if_pos hp, if_pos rfl]
      exact hlt
    · rw [if_neg e1]
      by_cases e2 : (k - 1) / 2 = i
      · rw [if_pos e2, if_neg (by omega)]
        exact hm k k0 hk e2
      · rw [if_neg e2]
        by_cases e3 : k = i
        · subst e3
          rw [if_pos rfl]
          exact h.h2 j h0 hj hp k0
        · rw [if_neg e3]
          exact h.h1 k k0 hk e2
  · rw [swp_len] at hk
    have hkj : k ≠ j := by omega
    have hki : k ≠ i := by omega
    rw [swp_get hi hj, swp_get hi hj, hp, if_neg hne, if_pos rfl, if_neg hkj, if_neg hki]
    have := h.h1 k k0 hk (by omega)
    rw [kp] at this
    exact this
theorem DownInv.start {a z : P3} {H : List P3} (h : isHeap (a :: H ++ [z])) : DownInv (z :: H) 0 := by
  have g : ∀ k, 0 < k → k < H.length + 1 → (a :: H ++ [z]).getD k zp = (z :: H).getD k zp := fun k h0 hk => by
    obtain ⟨k, rfl⟩ : ∃ m, k = m + 1 := ⟨k - 1, by omega⟩
    simp only [List.cons_append, List.getD_cons_succ]
    simp [List.getD, List.getElem?_append_left (show k < H.length by omega)]
  refine ⟨fun k h0 hk hne => ?_, fun k _ _ _ h => by omega⟩
  simp only [List.length_cons] at hk
  have := h k h0 (by simp; omega)
  rw [g k h0 hk, g ((k - 1) / 2) (by omega) (by omega)] at this
  exact this
theorem isHeap.min {L : List P3} (h : isHeap L) : ∀ k, k < L.length → leP (L.getD 0 zp) (L.getD k zp) := by
  intro k
  induction k using Nat.strongRecOn with
  | ind k ih =>
    intro hk
    by_cases h0 : k = 0
    · subst h0; exact leP_refl _
    · exact leP_trans (ih ((k - 1) / 2) (by omega) (by omega)) (h k (by omega) hk)
theorem isHeap.nil : isHeap [] := fun k _ hk => by simp at hk
end Go.Proofs.Ytocfdmlkicndoaa
