/-
  What is extreme of all is so at a corner.
-/
import Derived.Test.YtocfdmlkicndoaaE1
namespace Go.Proofs.Ytocfdmlkicndoaa
def hulT (L : List T2) : List T2 := if okS L then hullS (srtT L) else []
theorem mxs_ge {a b : Int} {L : List T2} : ∀ {k : Nat}, k ≤ L.length → ∀ i, i < k → lin a b (L.getD i zro) ≤ mxs a b L k
  | k + 1, hk, i, hi => by
    simp only [mxs]
    rcases Nat.lt_or_ge i k with h | h
    · have := mxs_ge (a := a) (b := b) (L := L) (k := k) (by omega) i h; omega
    · have : i = k := by omega
      subst this; omega
theorem mxs_at {a b : Int} {L : List T2} (h0 : 0 < L.length) : ∀ {k : Nat}, k ≤ L.length → ∃ c ∈ L, mxs a b L k = lin a b c
  | 0, _ => ⟨L[0], List.getElem_mem h0, by simp only [mxs]; rw [getD_at h0]⟩
  | k + 1, hk => by
    obtain ⟨c, h1, h2⟩ := mxs_at (a := a) (b := b) h0 (k := k) (by omega)
    simp only [mxs]
    rcases Int.le_total (mxs a b L k) (lin a b (L.getD k zro)) with h | h
    · exact ⟨L[k], List.getElem_mem (by omega), by rw [getD_at (show k < L.length by omega)] at *; omega⟩
    · exact ⟨c, h1, by omega⟩
theorem mxs_mem {a b : Int} {L : List T2} {c : T2} (hc : c ∈ L) : lin a b c ≤ mxs a b L L.length := by
  obtain ⟨i, hi, rfl⟩ := List.mem_iff_getElem.mp hc
  have := mxs_ge (a := a) (b := b) (L := L) (k := L.length) (Nat.le_refl _) i hi
  rwa [getD_at hi] at this
theorem okS_ris {L : List T2} (h : okS L = true) : Ris 1000 1 (srtT L) :=
  srt_ris (srt_srt L) fun c hc => spB_t.mp (okS_all h c ((srt_mem L).mp hc))
theorem hul_ok {L : List T2} (h : okS L = true) : okS (hulT L) = true := by
  have e : hulT L = hullS (srtT L) := by simp [hulT, h]
  unfold okS
  rw [Bool.and_eq_true]
  refine ⟨decide_eq_true ?_, List.all_eq_true.mpr fun c hc => ?_⟩
  · have h1 := hull_len (okS_ris h)
    have h2 := srt_len L
    have h3 := okS_len h
    rw [e]; omega
  · rw [e] at hc
    exact okS_all h c ((srt_mem L).mp (hull_sub hc))
theorem hul_nil {L : List T2} : (hulT L).length = 0 ↔ okS L = false ∨ L = [] := by
  cases h : okS L
  · simp [hulT, h]
  · have e : hulT L = hullS (srtT L) := by simp [hulT, h]
    constructor
    · intro h0
      right
      cases L with
      | nil => rfl
      | cons c t =>
        exfalso
        obtain ⟨d, hd, _⟩ := hull_ext (a := 0) (b := 0) (okS_ris h) (t := c) ((srt_mem _).mpr (by simp))
        rw [← e, List.eq_nil_of_length_eq_zero h0] at hd
        simp at hd
    · rintro (h1 | rfl)
      · cases h1
      · simp [hulT, srtT, hullS, okS]
theorem ext_hull {L : List T2} {a b : Int} (h : okS L = true) (h0 : L ≠ []) (ha : wgB a = true) (hb : wgB b = true) : extI (hulT L) a b = extI L a b := by
  have e : hulT L = hullS (srtT L) := by simp [hulT, h]
  have hp : 0 < L.length := List.length_pos_iff.mpr h0
  have hq : 0 < (hulT L).length := by
    rcases Nat.eq_zero_or_pos (hulT L).length with h1 | h1
    · rcases hul_nil.mp h1 with h2 | h2
      · rw [h] at h2; cases h2
      · exact absurd h2 h0
    · exact h1
  have e1 : extI L a b = mxs a b L L.length := by simp [extI, h, ha, hb, hp]
  have e2 : extI (hulT L) a b = mxs a b (hulT L) (hulT L).length := by simp [extI, hul_ok h, ha, hb, hq]
  rw [e1, e2]
  obtain ⟨c, h1, h2⟩ := mxs_at (a := a) (b := b) hp (Nat.le_refl _)
  obtain ⟨d, h3, h4⟩ := mxs_at (a := a) (b := b) hq (Nat.le_refl _)
  have h5 : d ∈ L := by rw [e] at h3; exact (srt_mem L).mp (hull_sub h3)
  obtain ⟨f, h6, h7⟩ := hull_ext (a := a) (b := b) (okS_ris h) (t := c) ((srt_mem L).mpr h1)
  rw [← e] at h6
  have k1 := mxs_mem (a := a) (b := b) h5
  have k2 := mxs_mem (a := a) (b := b) h6
  omega
end Go.Proofs.Ytocfdmlkicndoaa
