/-
  A right Directory told by stretches of z order: each Own begins where the one ahead of it ends, and the last one ends with the grid. Plain mathematics.
-/
import Derived.Test.YtamnmakegdnblaaKD4
import Derived.Test.YtamnmakegdnblaaMM3
namespace Go.Proofs.Ytamnmakegdnblaa.K.D
open Go.Shelf Go.RowKit Go.Joins

def On.t (o : On) : M.T3 := ⟨o.l, o.x, o.y⟩
theorem onB_ok {o : On} (h : onB o = true) : o.t.ok = true := (Bool.and_eq_true_iff.mp h).1
theorem zz_lo {c : M.T3} (h : c.ok = true) : M.zz (c.x * M.sd c.l) (c.y * M.sd c.l) 8 = c.lo := by
  obtain ⟨n, n8, a1, a2, a3, hx, hx1, hy, hy1⟩ := M.ok_nat h
  obtain ⟨h0, h8, _⟩ := M.ok_iff.mp h
  have hsd : M.sd c.l = 2 ^ (8 - n) := by unfold M.sd; rw [← M.pw8 h0 h8, a3]
  rw [hsd]
  have hz := M.zz_split (c.x * 2 ^ (8 - n)) (c.y * 2 ^ (8 - n)) (8 - n) n
  rw [show 8 - n + n = 8 by omega, M.zz_low, M.half_low, M.half_low, Int.zero_add] at hz
  rw [hz]
  unfold M.T3.lo
  rw [M.sz_of a3, a2]
theorem area_sz {o : On} (h : onB o = true) : area o = o.t.sz := by
  have hk := onB_ok h
  obtain ⟨n, n8, a1, a2, a3, hx, hx1, hy, hy1⟩ := M.ok_nat hk
  obtain ⟨h0, h8, _⟩ := M.ok_iff.mp hk
  have hsd : M.sd o.l = 2 ^ (8 - n) := by
    have h1 : M.sd o.t.l = 2 ^ (8 - n) := by unfold M.sd; rw [← M.pw8 h0 h8, a3]
    exact h1
  have e : area o = M.sd o.l * M.sd o.l := rfl
  rw [e, hsd, M.sz_of a3, show (4 : Int) = 2 ^ 2 by rfl, ← Int.pow_mul, ← Int.pow_add]
  congr 1
  omega
theorem hi_bd {c : M.T3} (h : c.ok = true) : 0 ≤ c.lo ∧ c.hi ≤ 65536 := by
  obtain ⟨n, n8, a1, a2, a3, hx, hx1, hy, hy1⟩ := M.ok_nat h
  have hb := M.zz_bd c.x c.y n
  have hs : c.sz = 4 ^ (8 - n) := M.sz_of a3
  have hl : c.lo = 4 ^ (8 - n) * M.zz c.x c.y n := by unfold M.T3.lo; rw [hs, a2]
  have hp := M.pow4 (8 - n)
  have h2 : (4 : Int) ^ (8 - n) * (M.zz c.x c.y n + 1) ≤ 4 ^ (8 - n) * 4 ^ n := Int.mul_le_mul_of_nonneg_left (by omega) (by omega)
  rw [← Int.pow_add, show 8 - n + n = 8 by omega, Int.mul_add, Int.mul_one] at h2
  refine ⟨?_, ?_⟩
  · rw [hl]; exact Int.mul_nonneg (by omega) hb.1
  · unfold M.T3.hi; rw [hl, hs]; exact Int.le_trans h2 (by decide)
theorem plO_lo {o : On} (h : onB o = true) : plO o = o.t.lo * 16 + o.l := by
  unfold plO plc
  have := zz_lo (onB_ok h)
  rw [show M.zz (o.x * M.sd o.l) (o.y * M.sd o.l) 8 = o.t.lo from this]
theorem insO_iff {a b : On} (ha : onB a = true) (hb : onB b = true) : insO a b = true ↔ (b.t.lo ≤ a.t.lo ∧ a.t.hi ≤ b.t.hi) := by
  have h := M.ins_iff (onB_ok ha) (onB_ok hb)
  rw [← h]
  unfold M.insT insO
  rw [M.insB_eq]
  have h1 : M.cellB a.l a.x a.y = true := onB_ok ha
  have h2 : M.cellB b.l b.x b.y = true := onB_ok hb
  show _ ↔ ((M.cellB a.l a.x a.y && M.cellB b.l b.x b.y) && M.lInB a.l a.x a.y b.l b.x b.y) = true
  rw [h1, h2]; simp

/-- Each begins where the one ahead of it ends. -/
def wholeB (L : List On) : Bool := (List.range L.length).all (fun j => decide ((L.getD j zon).t.lo = arS L j)) && decide (arS L L.length = 65536)
/-- The program's look at a Directory. -/
def pdirB (e : Int) (L : List On) : Bool := M.inB e 1 100000 && (decide (L.length ≤ 64) && (L.all onB && wholeB L))
theorem lvl {o : On} (h : onB o = true) : 0 ≤ o.l ∧ o.l ≤ 8 := by
  have h' := onB_ok h
  obtain ⟨a, b, _⟩ := M.ok_iff.mp h'
  exact ⟨a, b⟩
theorem arS_zero (L : List On) : arS L 0 = 0 := rfl
theorem all_iff {L : List On} : L.all onB = true ↔ ∀ j, j < L.length → onB (L.getD j zon) = true := by
  rw [List.all_eq_true]
  constructor
  · intro h j hj
    exact h _ (List.mem_of_getElem? (getO hj))
  · intro h o ho
    obtain ⟨k, hk, rfl⟩ := List.getElem_of_mem ho
    have := h k hk
    rwa [show L.getD k zon = L[k] by simp [List.getD, hk]] at this
theorem arS_mono {L : List On} (hon : ∀ j, j < L.length → onB (L.getD j zon) = true) : ∀ (d k : Nat), k + d ≤ L.length → arS L k + d ≤ arS L (k + d)
  | 0, k, _ => by simp
  | d + 1, k, h => by
    have h1 := arS_mono hon d k (by omega)
    have h2 := arS_succ (L := L) (k := k + d) (by omega)
    have h3 := (area_bd (hon (k + d) (by omega))).1
    rw [show k + (d + 1) = k + d + 1 by omega, h2]
    omega
theorem whole_dir {e : Int} {L : List On} (he : M.inB e 1 100000 = true) (hn : L.length ≤ 64) (hon : ∀ j, j < L.length → onB (L.getD j zon) = true) (hlo : ∀ j, j < L.length → (L.getD j zon).t.lo = arS L j) (hs : arS L L.length = 65536) : dirB e L = true := by
  have hpos : 1 ≤ L.length := by
    rcases Nat.eq_zero_or_pos L.length with h | h
    · rw [h, arS_zero] at hs; omega
    · exact h
  have hhi : ∀ j, j < L.length → (L.getD j zon).t.hi = arS L (j + 1) := fun j hj => by
    rw [arS_succ hj, area_sz (hon j hj), ← hlo j hj]; rfl
  unfold dirB
  rw [he, hs, decide_eq_true (⟨hpos, hn⟩ : 1 ≤ L.length ∧ L.length ≤ 64)]
  have hall : (List.range L.length).all (okAt L) = true := by
    rw [List.all_eq_true]
    intro j hj
    rw [List.mem_range] at hj
    refine okAt_yes (hon j hj) ?_ ?_
    · by_cases h0 : j = 0
      · exact .inl h0
      · refine .inr ?_
        rw [plO_lo (hon j hj), plO_lo (hon (j - 1) (by omega)), hlo j hj, hlo (j - 1) (by omega)]
        have h1 := arS_mono hon 1 (j - 1) (by omega)
        rw [show j - 1 + 1 = j by omega] at h1
        have h2 := lvl (hon j hj)
        have h3 := lvl (hon (j - 1) (by omega))
        simp only [Int.natCast_one] at h1
        omega
    · rw [List.all_eq_true]
      intro k hk
      rw [List.mem_range] at hk
      have hk' : k < L.length := by omega
      have h1 := arS_mono hon (j - (k + 1)) (k + 1) (by omega)
      rw [show k + 1 + (j - (k + 1)) = j by omega] at h1
      have e1 := hlo j hj
      have e2 := hlo k hk'
      have e3 := hhi j hj
      have e4 := hhi k hk'
      have l1 := M.T3.lt (L.getD j zon).t
      have l2 := M.T3.lt (L.getD k zon).t
      unfold apO
      have n1 : insO (L.getD j zon) (L.getD k zon) = false := by
        cases h : insO (L.getD j zon) (L.getD k zon)
        · rfl
        · have := (insO_iff (hon j hj) (hon k hk')).mp h; omega
      have n2 : insO (L.getD k zon) (L.getD j zon) = false := by
        cases h : insO (L.getD k zon) (L.getD j zon)
        · rfl
        · have := (insO_iff (hon k hk') (hon j hj)).mp h; omega
      rw [n1, n2]; rfl
  rw [hall]; rfl
theorem dir_whole {e : Int} {L : List On} (h : dirB e L = true) : M.inB e 1 100000 = true ∧ L.length ≤ 64 ∧ (∀ j, j < L.length → onB (L.getD j zon) = true) ∧ (∀ j, j < L.length → (L.getD j zon).t.lo = arS L j) ∧ arS L L.length = 65536 := by
  unfold dirB at h
  simp only [Bool.and_eq_true, decide_eq_true_eq] at h
  obtain ⟨he, ⟨hn1, hn2⟩, hall, hs⟩ := h
  have hon : ∀ j, j < L.length → onB (L.getD j zon) = true := fun j hj => on_at hall hj
  have hok : ∀ j, j < L.length → okAt L j = true := fun j hj => by
    rw [List.all_eq_true] at hall
    exact hall j (List.mem_range.mpr hj)
  have hstep : ∀ j, j + 1 < L.length → (L.getD j zon).t.hi ≤ (L.getD (j + 1) zon).t.lo := fun j hj => by
    have h1 := hok (j + 1) hj
    unfold okAt at h1
    simp only [Bool.and_eq_true, Bool.or_eq_true, beq_iff_eq, decide_eq_true_eq] at h1
    obtain ⟨-, h2, h3⟩ := h1
    have hpl : plO (L.getD j zon) < plO (L.getD (j + 1) zon) := by
      rcases h2 with h2 | h2
      · omega
      · simpa using h2
    rw [plO_lo (hon j (by omega)), plO_lo (hon (j + 1) hj)] at hpl
    rw [List.all_eq_true] at h3
    have h4 := h3 j (List.mem_range.mpr (by omega))
    unfold apO at h4
    simp only [Bool.and_eq_true, Bool.not_eq_true'] at h4
    have v1 := lvl (hon j (by omega))
    have v2 := lvl (hon (j + 1) hj)
    have w1 := M.T3.lt (L.getD j zon).t
    have w2 := M.T3.lt (L.getD (j + 1) zon).t
    rcases M.lam (onB_ok (hon j (by omega))) (onB_ok (hon (j + 1) hj)) with h5 | h5 | h5 | h5
    · exact h5
    · omega
    · exfalso
      have h6 := (M.ins_iff (onB_ok (hon j (by omega))) (onB_ok (hon (j + 1) hj))).mp h5
      have h7 := (insO_iff (hon j (by omega)) (hon (j + 1) hj)).mpr h6
      rw [h4.2] at h7; cases h7
    · exfalso
      have h6 := (M.ins_iff (onB_ok (hon (j + 1) hj)) (onB_ok (hon j (by omega)))).mp h5
      have h7 := (insO_iff (hon (j + 1) hj) (hon j (by omega))).mpr h6
      rw [h4.1] at h7; cases h7
  have hsz : ∀ j, j < L.length → (L.getD j zon).t.hi = (L.getD j zon).t.lo + area (L.getD j zon) := fun j hj => by rw [area_sz (hon j hj)]; rfl
  have up : ∀ j, j < L.length → arS L j ≤ (L.getD j zon).t.lo := fun j => by
    induction j with
    | zero => intro hj; rw [arS_zero]; exact (hi_bd (onB_ok (hon 0 hj))).1
    | succ j ih =>
      intro hj
      have := ih (by omega)
      have h2 := hstep j hj
      rw [hsz j (by omega)] at h2
      rw [arS_succ (by omega)]
      omega
  have down : ∀ d j, j + d + 1 = L.length → (L.getD j zon).t.lo ≤ arS L j := fun d => by
    induction d with
    | zero =>
      intro j hj
      have h1 := (hi_bd (onB_ok (hon j (by omega)))).2
      rw [hsz j (by omega)] at h1
      have h2 := arS_succ (L := L) (k := j) (by omega)
      rw [show j + 1 = L.length by omega, hs] at h2
      omega
    | succ d ih =>
      intro j hj
      have h1 := ih (j + 1) (by omega)
      have h2 := hstep j (by omega)
      rw [hsz j (by omega)] at h2
      rw [arS_succ (by omega)] at h1
      omega
  exact ⟨he, hn2, hon, fun j hj => Int.le_antisymm (down (L.length - j - 1) j (by omega)) (up j hj), hs⟩
theorem wholeB_iff {L : List On} : wholeB L = true ↔ (∀ j, j < L.length → (L.getD j zon).t.lo = arS L j) ∧ arS L L.length = 65536 := by
  unfold wholeB
  simp only [Bool.and_eq_true, decide_eq_true_eq, List.all_eq_true, List.mem_range]
theorem pdir_eq (e : Int) (L : List On) : pdirB e L = dirB e L := by
  rw [Bool.eq_iff_iff]
  constructor
  · intro h
    unfold pdirB at h
    simp only [Bool.and_eq_true, decide_eq_true_eq] at h
    obtain ⟨he, hn, hon, hw⟩ := h
    obtain ⟨h1, h2⟩ := wholeB_iff.mp hw
    exact whole_dir he hn (all_iff.mp hon) h1 h2
  · intro h
    obtain ⟨he, hn, hon, hlo, hs⟩ := dir_whole h
    unfold pdirB
    rw [he, decide_eq_true hn, all_iff.mpr hon, wholeB_iff.mpr ⟨hlo, hs⟩]; rfl
end Go.Proofs.Ytamnmakegdnblaa.K.D
