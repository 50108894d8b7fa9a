/-
  What the law of pairs asks, of a list of right Spots: no two are nearer than the nearest, none farther apart than the farthest; the farthest are corners of the hull.
-/
import Derived.Test.YtocfdmlkicndoaaSP3
import Derived.Test.YtocfdmlkicndoaaHC6
import Derived.Test.YtocfdmlkicndoaaX1
namespace Go.Proofs.Ytocfdmlkicndoaa

theorem spL_len40 (L : List T2) : (spL L).length ≤ 40 := by
  unfold spL
  cases hs : hpr L
  · simp
  · rw [if_pos rfl, sprK_len]; exact okS_len ((Bool.and_eq_true _ _).mp hs).1
def apNN (L : List T2) : Prop := ∀ i k, i < L.length → k < L.length → 0 ≤ apT (L.getD i zro) (L.getD k zro)
theorem apNN_of {L : List T2} (h : okS L = true) : apNN L := fun _ _ hi hk => (apT_bd (okS_all h _ (getS_mem hi)) (okS_all h _ (getS_mem hk))).1
theorem apBD_of {L : List T2} (h : okS L = true) {i k : Nat} (hi : i < L.length) (hk : k < L.length) : apT (L.getD i zro) (L.getD k zro) ≤ 130050 := (apT_bd (okS_all h _ (getS_mem hi)) (okS_all h _ (getS_mem hk))).2
theorem hpr_ok {L : List T2} (h : hpr L = true) : okS L = true ∧ 2 ≤ L.length := ⟨((Bool.and_eq_true _ _).mp h).1, of_decide_eq_true ((Bool.and_eq_true _ _).mp h).2⟩
theorem ne_is {L : List T2} (h : hpr L = true) : ∃ a b : Nat, a < b ∧ b < L.length ∧ neT L = ⟨apT (L.getD a zro) (L.getD b zro), a, b⟩ := by
  obtain ⟨h1, h2⟩ := hpr_ok h
  have hp := srt_pos h2
  obtain ⟨a, b, hab, hb, e⟩ := mem_srt.mp (getD_mem hp)
  refine ⟨a, b, hab, hb, ?_⟩
  unfold neT
  rw [if_pos h, e]; rfl
theorem pair_le {L : List T2} (h : hpr L = true) {i k : Nat} (hi : i < L.length) (hk : k < L.length) (hne : i ≠ k) : (neT L).a ≤ apT (L.getD i zro) (L.getD k zro) ∧ apT (L.getD i zro) (L.getD k zro) ≤ faI L := by
  obtain ⟨h1, h2⟩ := hpr_ok h
  have hp := srt_pos h2
  have key : ∀ a b, a < b → b < L.length → (neT L).a ≤ apT (L.getD a zro) (L.getD b zro) ∧ apT (L.getD a zro) (L.getD b zro) ≤ faI L := by
    intro a b hab hb
    have hm : prP L a b ∈ srtP L := mem_srt.mpr ⟨a, b, hab, hb, rfl⟩
    constructor
    · unfold neT
      rw [if_pos h]
      obtain ⟨j, hj, e⟩ := List.getElem_of_mem hm
      have := sorted_le (srt_pair L) (Nat.zero_le j) hj
      rw [show (srtP L).getD j zp = prP L a b by simp [List.getD, hj, e], leP_iff] at this
      simp only [prP] at this ⊢
      omega
    · unfold faI
      rw [if_pos h]
      exact lasA_max (srt_pair L) hp _ hm
  rcases Nat.lt_or_ge i k with hlt | hge
  · exact key i k hlt hk
  · rw [apT_symm]; exact key k i (by omega) hi
theorem fa_at {L : List T2} (h : hpr L = true) : ∃ i k, i < k ∧ k < L.length ∧ faI L = apT (L.getD i zro) (L.getD k zro) := by
  obtain ⟨h1, h2⟩ := hpr_ok h
  obtain ⟨q, hq, e⟩ := lasA_mem (srt_pos h2)
  obtain ⟨i, k, hi, hk, rfl⟩ := mem_srt.mp hq
  refine ⟨i, k, hi, hk, ?_⟩
  unfold faI; rw [if_pos h, ← e]; rfl
theorem sp_at {L : List T2} (h : hpr L = true) {i : Nat} (hi : i < L.length) : (∃ k, k < L.length ∧ k ≠ i ∧ (spL L).getD i 0 = apT (L.getD i zro) (L.getD k zro)) ∧ ∀ k, k < L.length → k ≠ i → (spL L).getD i 0 ≤ apT (L.getD i zro) (L.getD k zro) := by
  obtain ⟨h1, h2⟩ := hpr_ok h
  have hnn := apNN_of h1
  have hS := spr_inv hnn (srtP L).length (Nat.le_refl _) i (by rw [sprK_len]; exact hi)
  rw [List.take_length] at hS
  have e0 : spL L = sprK (srtP L) L.length (srtP L).length := by unfold spL; rw [if_pos h]
  rw [e0]
  have key : ∀ j, j < L.length → j ≠ i → ∃ q ∈ srtP L, hasI q i ∧ q.a = apT (L.getD i zro) (L.getD j zro) := by
    intro j hj hne
    rcases Nat.lt_or_ge j i with hlt | hge
    · exact ⟨prP L j i, mem_srt.mpr ⟨j, i, hlt, hi, rfl⟩, hasI_pr.mpr (.inr rfl), by unfold prP; exact apT_symm _ _⟩
    · exact ⟨prP L i j, mem_srt.mpr ⟨i, j, by omega, hj, rfl⟩, hasI_pr.mpr (.inl rfl), rfl⟩
  rcases hS with ⟨_, h3⟩ | ⟨q, hq, hqi, e, hmin⟩
  · obtain ⟨o, ho, hoi⟩ : ∃ o, o < L.length ∧ o ≠ i := by
      by_cases e : i = 0
      · exact ⟨1, by omega, by omega⟩
      · exact ⟨0, by omega, by omega⟩
    obtain ⟨q, hq, hqi, _⟩ := key o ho hoi
    exact absurd hqi (h3 q hq)
  · rw [e]
    constructor
    · obtain ⟨a, b, hab, hb, rfl⟩ := mem_srt.mp hq
      rcases hasI_pr.mp hqi with rfl | rfl
      · exact ⟨b, hb, by omega, rfl⟩
      · exact ⟨a, by omega, by omega, by unfold prP; exact apT_symm _ _⟩
    · intro k hk hne
      obtain ⟨r, hr, hri, hra⟩ := key k hk hne
      rw [← hra]; exact hmin r hr hri
theorem spL_len2 {L : List T2} (h : hpr L = true) : (spL L).length = L.length := by unfold spL; rw [if_pos h, sprK_len]
/-- The least of the first i. -/
def LInv (l : List Int) (i : Nat) (m : Int) : Prop := (m = -1 ∧ i = 0) ∨ (0 < i ∧ (∃ j, j < i ∧ m = l.getD j 0) ∧ ∀ j, j < i → m ≤ l.getD j 0)
theorem LInv.start (l : List Int) : LInv l 0 (-1) := .inl ⟨rfl, rfl⟩
theorem LInv.take {l : List Int} {i : Nat} {m : Int} (h : LInv l i m) (ht : i = 0 ∨ l.getD i 0 < m) : LInv l (i + 1) (l.getD i 0) := by
  refine .inr ⟨by omega, ⟨i, by omega, rfl⟩, fun j hj => ?_⟩
  by_cases e : j = i
  · rw [e]; exact Int.le_refl _
  · rcases h with ⟨_, h2⟩ | ⟨_, _, h3⟩
    · omega
    · have := h3 j (by omega); omega
theorem LInv.skip {l : List Int} {i : Nat} {m : Int} (h : LInv l i m) (h0 : i ≠ 0) (ht : m ≤ l.getD i 0) : LInv l (i + 1) m := by
  rcases h with ⟨_, h2⟩ | ⟨_, ⟨j, h3, h4⟩, h5⟩
  · omega
  · refine .inr ⟨by omega, ⟨j, by omega, h4⟩, fun j' hj' => ?_⟩
    by_cases e : j' = i
    · rw [e]; exact ht
    · exact h5 j' (by omega)
theorem LInv.done {L : List T2} (h : hpr L = true) {m : Int} (hm : LInv (spL L) L.length m) : m = (neT L).a := by
  obtain ⟨h1, h2⟩ := hpr_ok h
  obtain ⟨a, b, hab, hb, e⟩ := ne_is h
  rcases hm with ⟨_, h3⟩ | ⟨_, ⟨j, hj, h4⟩, h5⟩
  · omega
  · obtain ⟨⟨k, hk, hne, hs⟩, _⟩ := sp_at h hj
    have b1 := (pair_le h hj hk (fun x => hne x.symm)).1
    have b2 := h5 a (by omega)
    have b3 := (sp_at h (show a < L.length by omega)).2 b hb (by omega)
    have b4 : (neT L).a = apT (L.getD a zro) (L.getD b zro) := by rw [e]
    omega
theorem LInv.nn {L : List T2} (h : hpr L = true) {i : Nat} {m : Int} (hi : i ≤ L.length) (hm : LInv (spL L) i m) : (m = -1 ∧ i = 0) ∨ (0 ≤ m ∧ i ≠ 0) := by
  rcases hm with hm | ⟨h0, ⟨j, hj, h4⟩, _⟩
  · exact .inl hm
  · right
    obtain ⟨⟨k, hk, hne, hs⟩, _⟩ := sp_at h (show j < L.length by omega)
    rw [h4, hs]
    exact ⟨apNN_of (hpr_ok h).1 j k (by omega) hk, by omega⟩
theorem cl_at {L : List T2} (h : hpr L = true) {m : Int} (hm : 0 ≤ m) : clI L m = cnt (srtP L) m := by unfold clI; rw [(hpr_ok h).1, decide_eq_true hm]; rfl
theorem cl_less {L : List T2} (h : hpr L = true) (hd : 0 < (neT L).a) : clI L ((neT L).a - 1) = 0 := by
  rw [cl_at h (by omega)]
  have : cnt (srtP L) ((neT L).a - 1) = 0 := by
    unfold cnt
    rw [List.countP_eq_zero]
    intro q hq
    obtain ⟨i, k, hi, hk, rfl⟩ := mem_srt.mp hq
    have := (pair_le h (show i < L.length by omega) hk (by omega)).1
    show ¬ decide (apT (L.getD i zro) (L.getD k zro) ≤ (neT L).a - 1) = true
    rw [decide_eq_true_iff]; omega
  rw [this]; rfl
theorem cl_one {L : List T2} (h : hpr L = true) : 1 ≤ clI L (neT L).a := by
  obtain ⟨a, b, hab, hb, e⟩ := ne_is h
  have h0 : 0 ≤ (neT L).a := by rw [e]; exact apNN_of (hpr_ok h).1 a b (by omega) hb
  rw [cl_at h h0]
  have : 0 < cnt (srtP L) (neT L).a := by
    unfold cnt
    rw [List.countP_pos_iff]
    exact ⟨prP L a b, mem_srt.mpr ⟨a, b, hab, hb, rfl⟩, by rw [e]; simp [prP]⟩
  omega
theorem cl_all {L : List T2} (h : hpr L = true) : clI L (faI L) = ((L.length : Int) * ((L.length : Int) - 1)).tdiv 2 := by
  obtain ⟨h1, h2⟩ := hpr_ok h
  obtain ⟨i, k, hi, hk, e⟩ := fa_at h
  have h0 : 0 ≤ faI L := by rw [e]; exact apNN_of h1 i k (by omega) hk
  rw [cl_at h h0]
  have hc : cnt (srtP L) (faI L) = (srtP L).length := by
    unfold cnt
    rw [List.countP_eq_length]
    intro q hq
    obtain ⟨i, k, hi, hk, rfl⟩ := mem_srt.mp hq
    have := (pair_le h (show i < L.length by omega) hk (by omega)).2
    exact decide_eq_true this
  rw [hc]
  have hl := srtP_len L
  have e2 : (L.length : Int) * ((L.length : Int) - 1) = 2 * ((srtP L).length : Int) := by
    have : ((2 * (srtP L).length : Nat) : Int) = ((L.length * (L.length - 1) : Nat) : Int) := by rw [hl]
    rw [Int.natCast_mul, Int.natCast_mul] at this
    rw [show ((L.length - 1 : Nat) : Int) = (L.length : Int) - 1 by omega] at this
    omega
  rw [e2, Int.mul_tdiv_cancel_left _ (by decide)]

theorem hul_mem {L : List T2} {c : T2} (h : c ∈ hulT L) : c ∈ L := by
  unfold hulT at h
  split at h
  · exact (srt_mem L).mp (hull_sub h)
  · simp at h
theorem idx {L : List T2} {c : T2} (h : c ∈ L) : ∃ i, i < L.length ∧ L.getD i zro = c := by
  obtain ⟨i, hi, e⟩ := List.getElem_of_mem h
  exact ⟨i, hi, by simp [List.getD, hi, e]⟩
theorem hul_ext {L : List T2} (h : okS L = true) {a b : Int} (ha : wgB a = true) (hb : wgB b = true) {c : T2} (hc : c ∈ L) : ∃ d ∈ hulT L, lin a b c ≤ lin a b d := by
  have hne : L ≠ [] := fun e => by rw [e] at hc; simp at hc
  have e := ext_hull h hne ha hb
  have hl : 0 < L.length := List.length_pos_of_mem hc
  have hh : 0 < (hulT L).length := by
    rcases Nat.eq_zero_or_pos (hulT L).length with h0 | h0
    · rcases hul_nil.mp h0 with h1 | h1
      · rw [h1] at h; cases h
      · exact absurd h1 hne
    · exact h0
  unfold extI at e
  rw [h, hul_ok h, ha, hb, decide_eq_true hl, decide_eq_true hh] at e
  simp only [Bool.and_self, if_true] at e
  obtain ⟨d, hd, e2⟩ := mxs_at (a := a) (b := b) hh (Nat.le_refl _)
  exact ⟨d, hd, by rw [← e2, e]; exact mxs_mem hc⟩
theorem cs_ineq (ux uy vx vy : Int) (h : ux * ux + uy * uy ≤ ux * vx + uy * vy) : ux * ux + uy * uy ≤ vx * vx + vy * vy := by
  have h1 : 0 ≤ (ux - vx) * (ux - vx) := by
    rcases Int.le_total 0 (ux - vx) with k | k
    · exact Int.mul_nonneg k k
    · exact Int.mul_nonneg_of_nonpos_of_nonpos k k
  have h2 : 0 ≤ (uy - vy) * (uy - vy) := by
    rcases Int.le_total 0 (uy - vy) with k | k
    · exact Int.mul_nonneg k k
    · exact Int.mul_nonneg_of_nonpos_of_nonpos k k
  have e1 : (ux - vx) * (ux - vx) = ux * ux - 2 * (ux * vx) + vx * vx := by grind
  have e2 : (uy - vy) * (uy - vy) = uy * uy - 2 * (uy * vy) + vy * vy := by grind
  omega
/-- Two corners of the hull are as far apart as any two of the Spots. -/
theorem hul_far {L : List T2} (h : okS L = true) {p q : T2} (hp : p ∈ L) (hq : q ∈ L) : ∃ c ∈ hulT L, ∃ d ∈ hulT L, apT p q ≤ apT c d := by
  have kp := spB_t.mp (show spB p.x p.y = true from okS_all h p hp)
  have kq := spB_t.mp (show spB q.x q.y = true from okS_all h q hq)
  obtain ⟨c, hc, c1⟩ := hul_ext h (a := p.x - q.x) (b := p.y - q.y) (wgB_t.mpr (by omega)) (wgB_t.mpr (by omega)) hp
  obtain ⟨d, hd, d1⟩ := hul_ext h (a := q.x - p.x) (b := q.y - p.y) (wgB_t.mpr (by omega)) (wgB_t.mpr (by omega)) hq
  refine ⟨c, hc, d, hd, ?_⟩
  rw [apT_ok (okS_all h p hp) (okS_all h q hq), apT_ok (okS_all h c (hul_mem hc)) (okS_all h d (hul_mem hd))]
  refine cs_ineq _ _ _ _ ?_
  unfold lin at c1 d1
  have e1 : (p.x - q.x) * p.x + (p.y - q.y) * p.y + ((q.x - p.x) * q.x + (q.y - p.y) * q.y) = (p.x - q.x) * (p.x - q.x) + (p.y - q.y) * (p.y - q.y) := by grind
  have e2 : (p.x - q.x) * c.x + (p.y - q.y) * c.y + ((q.x - p.x) * d.x + (q.y - p.y) * d.y) = (p.x - q.x) * (c.x - d.x) + (p.y - q.y) * (c.y - d.y) := by grind
  omega
theorem apT_self {c : T2} (h : c.ok = true) : apT c c = 0 := by rw [apT_ok h h]; simp
theorem mem_le {L : List T2} (h : hpr L = true) {c d : T2} (hc : c ∈ L) (hd : d ∈ L) : apT c d ≤ faI L := by
  obtain ⟨i, hi, rfl⟩ := idx hc
  obtain ⟨k, hk, rfl⟩ := idx hd
  by_cases e : i = k
  · subst e
    rw [apT_self (okS_all (hpr_ok h).1 _ hc)]
    obtain ⟨a, b, hab, hb, e⟩ := fa_at h
    rw [e]; exact apNN_of (hpr_ok h).1 a b (by omega) hb
  · exact (pair_le h hi hk e).2
theorem far_hull {L : List T2} (h : hpr L = true) : ((hulT L).length < 2 → faI L = 0) ∧ (2 ≤ (hulT L).length → faI (hulT L) = faI L) := by
  obtain ⟨h1, h2⟩ := hpr_ok h
  obtain ⟨i, k, hi, hk, e⟩ := fa_at h
  obtain ⟨c, hc, d, hd, hcd⟩ := hul_far h1 (getS_mem (show i < L.length by omega)) (getS_mem hk)
  rw [← e] at hcd
  have h0 : 0 ≤ faI L := by rw [e]; exact apNN_of h1 i k (by omega) hk
  obtain ⟨a, ha, ea⟩ := idx hc
  obtain ⟨b, hb, eb⟩ := idx hd
  constructor
  · intro hl
    have hab : a = b := by omega
    subst hab
    have : c = d := by rw [← ea, eb]
    rw [this, apT_self (okS_all h1 d (hul_mem hd))] at hcd
    omega
  · intro hl
    have hh : hpr (hulT L) = true := by unfold hpr; rw [hul_ok h1, decide_eq_true hl]; rfl
    obtain ⟨i', k', hi', hk', e'⟩ := fa_at hh
    have b1 : faI (hulT L) ≤ faI L := by rw [e']; exact mem_le h (hul_mem (getS_mem (show i' < _ by omega))) (hul_mem (getS_mem hk'))
    have b2 := mem_le hh hc hd
    omega
end Go.Proofs.Ytocfdmlkicndoaa
