/-
  All pairs in their order; the least of them.
-/
import Derived.Test.YtocfdmlkicndoaaHB1
namespace Go.Proofs.Ytocfdmlkicndoaa

def leB (p q : P3) : Bool := !ltP q p
theorem leB_iff {p q : P3} : leB p q = true ↔ leP p q := by unfold leB leP; cases ltP q p <;> simp
/-- The pairs of L in their order. -/
def srtP (L : List T2) : List P3 := (prs L L.length).mergeSort leB
theorem srt_perm (L : List T2) : (srtP L).Perm (prs L L.length) := List.mergeSort_perm _ _
theorem srt_pair (L : List T2) : (srtP L).Pairwise leP := by
  have := List.pairwise_mergeSort (le := leB) (fun a b c h k => leB_iff.mpr (leP_trans (leB_iff.mp h) (leB_iff.mp k))) (fun a b => by
    rw [Bool.or_eq_true, leB_iff, leB_iff, leP_iff, leP_iff]; omega) (prs L L.length)
  exact this.imp fun h => leB_iff.mp h
theorem mem_prs {L : List T2} {n : Nat} {q : P3} : q ∈ prs L n ↔ ∃ i k, i < k ∧ k < n ∧ q = prP L i k := by
  unfold prs prK
  simp only [List.mem_flatMap, List.mem_map, List.mem_range]
  constructor
  · rintro ⟨k, hk, i, hi, rfl⟩; exact ⟨i, k, hi, hk, rfl⟩
  · rintro ⟨i, k, hi, hk, rfl⟩; exact ⟨k, hk, i, hi, rfl⟩
theorem prs_len2 (L : List T2) : ∀ n, 2 * (prs L n).length = n * (n - 1)
  | 0 => by simp [prs]
  | n + 1 => by
    have := prs_len2 L n
    rw [prs_succ, List.length_append, prK_len, Nat.mul_add, this]
    cases n with
    | zero => rfl
    | succ m => simp only [Nat.add_sub_cancel]; grind
theorem srtP_len (L : List T2) : 2 * (srtP L).length = L.length * (L.length - 1) := by rw [(srt_perm L).length_eq]; exact prs_len2 L _
theorem srt_pos {L : List T2} (h : 2 ≤ L.length) : 0 < (srtP L).length := by
  have := srtP_len L
  have h2 : 2 * 1 ≤ L.length * (L.length - 1) := Nat.mul_le_mul h (by omega)
  omega
theorem mem_srt {L : List T2} {q : P3} : q ∈ srtP L ↔ ∃ i k, i < k ∧ k < L.length ∧ q = prP L i k := (srt_perm L).mem_iff.trans mem_prs
theorem getD_mem {M : List P3} {k : Nat} (h : k < M.length) : M.getD k zp ∈ M := by simp [List.getD, h]
theorem sorted_le {s : List P3} (hs : s.Pairwise leP) {i j : Nat} (hij : i ≤ j) (hj : j < s.length) : leP (s.getD i zp) (s.getD j zp) := by
  rcases Nat.eq_or_lt_of_le hij with rfl | h
  · exact leP_refl _
  · have := List.pairwise_iff_getElem.mp hs i j (by omega) hj h
    simpa [List.getD, hj, show i < s.length by omega] using this
theorem least_of {s : List P3} (hs : s.Pairwise leP) {c : P3} (hc : c ∈ s) (hl : ∀ q ∈ s, leP c q) : c = s.getD 0 zp := by
  obtain ⟨i, hi, rfl⟩ := List.getElem_of_mem hc
  have h1 := sorted_le hs (Nat.zero_le i) hi
  have h2 := hl _ (getD_mem (show 0 < s.length by omega))
  have e : s.getD i zp = s[i] := by simp [List.getD, hi]
  rw [e] at h1
  exact leP_antisymm h2 h1
theorem top_eq {M s : List P3} (hp : M.Perm s) (hs : s.Pairwise leP) (hh : isHeap M) (h0 : 0 < M.length) : M.getD 0 zp = s.getD 0 zp := by
  refine least_of hs (hp.mem_iff.mp (getD_mem h0)) fun q hq => ?_
  obtain ⟨i, hi, rfl⟩ := List.getElem_of_mem (hp.mem_iff.mpr hq)
  have := hh.min i hi
  simpa [List.getD, hi] using this
theorem perm_next {M M' s : List P3} {k : Nat} (hk : k < s.length) (hp : M.Perm (s.drop k)) (hs : s.Pairwise leP) (hh : isHeap M) (hn : (M' ++ [M.getD 0 zp]).Perm M) : M.getD 0 zp = s.getD k zp ∧ M'.Perm (s.drop (k + 1)) := by
  have hd : s.drop k = s.getD k zp :: s.drop (k + 1) := by rw [List.drop_eq_getElem_cons hk]; simp [List.getD, hk]
  have h0 : 0 < M.length := by rw [hp.length_eq, List.length_drop]; omega
  have e := top_eq hp (hs.sublist (List.drop_sublist _ _)) hh h0
  rw [hd] at e
  have e' : M.getD 0 zp = s.getD k zp := by simpa using e
  refine ⟨e', ?_⟩
  have h1 := hn.trans hp
  rw [hd, e'] at h1
  have h2 : (s.getD k zp :: M').Perm (s.getD k zp :: s.drop (k + 1)) := (List.perm_append_comm (l₁ := [s.getD k zp]) (l₂ := M')).trans h1
  exact h2.cons_inv

/-- The pair (i', k') lies ahead of (i, k). -/
def Pc (n i k i' k' : Nat) : Prop := i' < k' ∧ k' < n ∧ (i' < i ∨ (i' = i ∧ k' < k))
def NInv (L : List T2) (i k : Nat) (best : Int) (a b : Nat) : Prop :=
  (best = -1 ∧ ∀ i' k', ¬ Pc L.length i k i' k') ∨ (Pc L.length i k a b ∧ best = apT (L.getD a zro) (L.getD b zro) ∧ ∀ i' k', Pc L.length i k i' k' → leP (prP L a b) (prP L i' k'))
theorem NInv.row {L : List T2} {i : Nat} {best : Int} {a b : Nat} (h : NInv L i L.length best a b) : NInv L (i + 1) (i + 2) best a b := by
  have e : ∀ i' k', Pc L.length (i + 1) (i + 2) i' k' ↔ Pc L.length i L.length i' k' := fun i' k' => by unfold Pc; omega
  rcases h with ⟨h1, h2⟩ | ⟨h1, h2, h3⟩
  · exact .inl ⟨h1, fun i' k' hp => h2 i' k' ((e i' k').mp hp)⟩
  · exact .inr ⟨(e a b).mpr h1, h2, fun i' k' hp => h3 i' k' ((e i' k').mp hp)⟩
theorem NInv.take {L : List T2} {i k : Nat} {best : Int} {a b : Nat} (h : NInv L i k best a b) (hik : i < k) (hk : k < L.length) (ht : best < 0 ∨ apT (L.getD i zro) (L.getD k zro) < best) (hnn : ∀ i' k', Pc L.length i k i' k' → 0 ≤ apT (L.getD i' zro) (L.getD k' zro)) : NInv L i (k + 1) (apT (L.getD i zro) (L.getD k zro)) i k := by
  refine .inr ⟨⟨hik, hk, .inr ⟨rfl, by omega⟩⟩, rfl, fun i' k' hp => ?_⟩
  by_cases e : i' = i ∧ k' = k
  · rw [e.1, e.2]; exact leP_refl _
  · have hp' : Pc L.length i k i' k' := by unfold Pc at hp ⊢; omega
    rcases h with ⟨h1, h2⟩ | ⟨h1, h2, h3⟩
    · exact absurd hp' (h2 i' k')
    · have h4 := h3 i' k' hp'
      have h5 := hnn a b h1
      rw [leP_iff] at h4 ⊢
      simp only [prP] at h4 ⊢
      omega
theorem NInv.skip {L : List T2} {i k : Nat} {best : Int} {a b : Nat} (h : NInv L i k best a b) (hb : 0 ≤ best) (ht : best ≤ apT (L.getD i zro) (L.getD k zro)) : NInv L i (k + 1) best a b := by
  rcases h with ⟨h1, h2⟩ | ⟨h1, h2, h3⟩
  · omega
  · refine .inr ⟨by unfold Pc at h1 ⊢; omega, h2, fun i' k' hp => ?_⟩
    by_cases e : i' = i ∧ k' = k
    · rw [e.1, e.2, leP_iff]
      simp only [prP]
      unfold Pc at h1
      omega
    · exact h3 i' k' (by unfold Pc at hp ⊢; omega)
theorem NInv.start (L : List T2) : NInv L 0 1 (-1) 0 0 := .inl ⟨rfl, fun i' k' h => by unfold Pc at h; omega⟩
theorem NInv.nn {L : List T2} {i k : Nat} {best : Int} {a b : Nat} (h : NInv L i k best a b) (hnn : ∀ i' k', Pc L.length i k i' k' → 0 ≤ apT (L.getD i' zro) (L.getD k' zro)) : best = -1 ∨ 0 ≤ best := by
  rcases h with ⟨h1, h2⟩ | ⟨h1, h2, h3⟩
  · exact .inl h1
  · right; rw [h2]; exact hnn a b h1
theorem NInv.done {L : List T2} (h2 : 2 ≤ L.length) {best : Int} {a b : Nat} (h : NInv L L.length (L.length + 1) best a b) : (srtP L).getD 0 zp = ⟨best, a, b⟩ := by
  rcases h with ⟨_, h⟩ | ⟨h1, h3, h4⟩
  · exact absurd (show Pc L.length L.length (L.length + 1) 0 1 by unfold Pc; omega) (h 0 1)
  · have hm : prP L a b ∈ srtP L := mem_srt.mpr ⟨a, b, h1.1, h1.2.1, rfl⟩
    rw [← least_of (srt_pair L) hm fun q hq => ?_]
    · unfold prP; rw [h3]
    · obtain ⟨i, k, hi, hk, rfl⟩ := mem_srt.mp hq
      exact h4 i k ⟨hi, hk, .inl (by omega)⟩
end Go.Proofs.Ytocfdmlkicndoaa
