/-
  Pick's theorem: twice the Spots within a shape, and those on its edges, less two, is twice its area.
-/
import Derived.Test.YtipdfajojcpolaaPK10
namespace Go.Proofs.Ytipdfajojcpolaa
structure Shp (n : Nat) (p : Nat → T2) : Prop where
  n3 : 3 ≤ n
  per : ∀ i, p (i + n) = p i
  tn : ∀ i, kx (ev p i) (ev p (i + 1)) ≠ 0
  nc : ∀ i t, 2 ≤ t → t + 2 ≤ n → NC (p i) (p (i + 1)) (p (i + t)) (p (i + t + 1))
theorem Shp.sp {n : Nat} {p : Nat → T2} (h : Shp n p) : Sp n p where
  n3 := h.n3
  per := h.per
  nd i t h1 h2 := (h.nc i t h1 h2).nd
  tn := h.tn
  dj i t h1 h2 _ hK _ a b := (h.nc i t h1 h2).apart hK a.op b.op
theorem On.start (a b : T2) : On a b a := ⟨by simp [tr, kx, df], by simp [bt]⟩
theorem On.end' (a b : T2) : On a b b := ⟨by simp only [tr, kx]; grind, by simp [bt]⟩
theorem On.turn {a b c s : T2} (h1 : On a b s) (h2 : On b c s) (hk : kx (df b a) (df c b) ≠ 0) : s = b := by
  obtain ⟨e1, _⟩ := h1
  obtain ⟨e2, _⟩ := h2
  have x : kx (df b a) (df c b) * (s.x - b.x) = 0 := by simp only [tr, kx, df] at *; grind
  have y : kx (df b a) (df c b) * (s.y - b.y) = 0 := by simp only [tr, kx, df] at *; grind
  have x' : s.x - b.x = 0 := by rcases Int.mul_eq_zero.mp x with e | e; exact absurd e hk; exact e
  have y' : s.y - b.y = 0 := by rcases Int.mul_eq_zero.mp y with e | e; exact absurd e hk; exact e
  exact T2.ext' (by omega) (by omega)
def onE (p : Nat → T2) (s : T2) (j : Nat) : Prop := On (p j) (p (j + 1)) s
def hop (p : Nat → T2) (s : T2) (j : Nat) : Int := onI (p j) (p (j + 1)) s - eqI (p (j + 1)) s
theorem hop_t {p : Nat → T2} {s : T2} {j : Nat} (h : onE p s j) (hne : s ≠ p (j + 1)) : hop p s j = 1 := by
  unfold hop eqI
  rw [onI_t h, if_neg (fun e => hne (T2.ext' e.1 e.2))]; rfl
theorem hop_f {p : Nat → T2} {s : T2} {j : Nat} (h : ¬ (onE p s j ∧ s ≠ p (j + 1))) : hop p s j = 0 := by
  unfold hop eqI
  by_cases ho : onE p s j
  · have e : s = p (j + 1) := by
      rcases Classical.em (s = p (j + 1)) with e | e
      · exact e
      · exact absurd ⟨ho, e⟩ h
    rw [onI_t ho, if_pos ⟨by rw [e], by rw [e]⟩]; rfl
  · have hn : ¬ (s.x = (p (j + 1)).x ∧ s.y = (p (j + 1)).y) := fun e => ho (by rw [onE, T2.ext' e.1 e.2]; exact On.end' _ _)
    rw [onI_f ho, if_neg hn]; rfl
theorem Shp.ne {n : Nat} {p : Nat → T2} (h : Shp n p) (i : Nat) : p i ≠ p (i + 1) := fun e => h.tn i (by unfold ev; rw [← e]; simp [kx, df])
theorem Shp.off {n : Nat} {p : Nat → T2} (h : Shp n p) {i j : Nat} (hi : i < j) (hj : j < n) {s : T2} (h1 : onE p s i ∧ s ≠ p (i + 1)) (h2 : onE p s j ∧ s ≠ p (j + 1)) : False := by
  obtain ⟨t, rfl⟩ : ∃ t, j = i + t := ⟨j - i, by omega⟩
  by_cases e1 : t = 1
  · subst e1
    exact h1.2 (On.turn h1.1 h2.1 (h.tn i))
  · by_cases e2 : t + 1 = n
    · have hi0 : i = 0 := by omega
      subst hi0
      have p1 : p (t + 1) = p 0 := by rw [e2]; have := h.per 0; rwa [Nat.zero_add] at this
      have p2 : p (t + 1 + 1) = p 1 := by rw [e2, show n + 1 = 1 + n by omega]; exact h.per 1
      have tn := h.tn t
      unfold onE at h1 h2
      unfold ev at tn
      simp only [Nat.zero_add] at h1 h2
      rw [p1] at h2 tn
      rw [p2] at tn
      exact h2.2 (On.turn h2.1 h1.1 tn)
    · exact (h.nc i t (by omega) (by omega)).none h1.1 h2.1
theorem hop_sum {n : Nat} {p : Nat → T2} (h : Shp n p) (s : T2) (hs : ∃ j, j < n ∧ onE p s j) : sm (hop p s) n = 1 := by
  have n3 := h.n3
  have : ∃ j, j < n ∧ (onE p s j ∧ s ≠ p (j + 1)) := by
    obtain ⟨j, hj, ho⟩ := hs
    rcases Classical.em (s = p (j + 1)) with e | e
    · by_cases hl : j + 1 = n
      · refine ⟨0, by omega, ?_, ?_⟩
        · have p1 : p (j + 1) = p 0 := by rw [hl]; have := h.per 0; rwa [Nat.zero_add] at this
          rw [onE, e, p1]; exact On.start _ _
        · have p1 : p (j + 1) = p 0 := by rw [hl]; have := h.per 0; rwa [Nat.zero_add] at this
          rw [e, p1]; exact h.ne 0
      · refine ⟨j + 1, by omega, ?_, ?_⟩
        · rw [onE, e]; exact On.start _ _
        · rw [e]; exact h.ne (j + 1)
    · exact ⟨j, hj, ho, e⟩
  obtain ⟨j, hj, ho⟩ := this
  have := sm_one (f := hop p s) (g := fun _ => 0) (j := j) (c := 1) hj (fun i hi hij => hop_f fun hh => by
    rcases Nat.lt_or_gt_of_ne hij with l | l
    · exact h.off l hj hh ho
    · exact h.off l hi ho hh) (by rw [hop_t ho.1 ho.2]; rfl)
  rw [this, sm_zero]; rfl
theorem hop_none {n : Nat} {p : Nat → T2} (s : T2) (hs : ¬ ∃ j, j < n ∧ onE p s j) : sm (hop p s) n = 0 :=
  (sm_congr fun j hj => hop_f fun hh => hs ⟨j, hj, hh.1⟩).trans (sm_zero n)
theorem Op.mid {a b s : T2} (h : Op (df (mu 1 a) s) (df (mu 1 b) s)) : ∃ t m, Mid s a b t m := by
  rw [mu1, mu1] at h
  obtain ⟨hk, ho | ⟨z1, z2, ho⟩⟩ := h
  · unfold opp at ho
    simp only [kx, df] at hk ho
    rcases ho with ⟨a1, a2⟩ | ⟨a1, a2⟩
    · exact ⟨a.y - s.y, a.y - b.y, by omega, by omega, by grind, by grind⟩
    · exact ⟨s.y - a.y, b.y - a.y, by omega, by omega, by grind, by grind⟩
  · unfold opp at ho
    simp only [kx, df] at hk ho z1 z2
    rcases ho with ⟨a1, a2⟩ | ⟨a1, a2⟩
    · exact ⟨a.x - s.x, a.x - b.x, by omega, by omega, by grind, by grind⟩
    · exact ⟨s.x - a.x, b.x - a.x, by omega, by omega, by grind, by grind⟩
/-- What is crossed from a Spot on an edge. -/
theorem W_on {n : Nat} {p : Nat → T2} (h : Shp n p) (s : T2) (j : Nat) : hop p s j * W n p s = hop p s j * (lam n p 0 - hB (ev p j)) + eqI (p j) s * (W n p (p j) - (lam n p 0 - hB (ev p j))) := by
  by_cases hh : onE p s j ∧ s ≠ p (j + 1)
  · rw [hop_t hh.1 hh.2]
    unfold eqI
    rcases On.op hh.1 with e | e | e
    · have : s = p j := T2.ext' e.1 e.2
      rw [if_pos e, this]; omega
    · exact absurd (T2.ext' e.1 e.2) hh.2
    · obtain ⟨t, m, hm⟩ := e.mid
      have hne : ¬ (s.x = (p j).x ∧ s.y = (p j).y) := by
        intro e
        obtain ⟨h1, h2, hx, hy⟩ := hm
        have ne := h.ne j
        rw [e.1, Int.sub_self, Int.mul_zero] at hx
        rw [e.2, Int.sub_self, Int.mul_zero] at hy
        have zx : (p (j + 1)).x - (p j).x = 0 := by rcases Int.mul_eq_zero.mp hx.symm with e | e <;> omega
        have zy : (p (j + 1)).y - (p j).y = 0 := by rcases Int.mul_eq_zero.mp hy.symm with e | e <;> omega
        exact ne (T2.ext' (by omega) (by omega))
      rw [if_neg hne, W_mid h.sp.toPg j hm]; omega
  · rw [hop_f hh]
    have hne : eqI (p j) s = 0 := by
      unfold eqI
      rw [if_neg]
      intro e
      have : s = p j := T2.ext' e.1 e.2
      exact hh ⟨by rw [onE, this]; exact On.start _ _, by rw [this]; exact h.ne j⟩
    rw [hne]; simp
theorem onI_nn (a b s : T2) : 0 ≤ onI a b s := by unfold onI; split <;> omega
theorem sm_nn {f : Nat → Int} (hf : ∀ i, 0 ≤ f i) : ∀ n, 0 ≤ sm f n
  | 0 => by simp [sm]
  | n + 1 => by have := sm_nn hf n; have := hf n; simp only [sm]; omega
theorem sm_le {f : Nat → Int} (hf : ∀ i, 0 ≤ f i) {j : Nat} : ∀ {n}, j < n → f j ≤ sm f n
  | n + 1, h => by
    simp only [sm]
    by_cases e : j = n
    · subst e; have := sm_nn hf j; omega
    · have := sm_le hf (n := n) (j := j) (by omega); have := hf n; omega
def innI (n : Nat) (p : Nat → T2) (s : T2) : Int := if sm (fun j => onI (p j) (p (j + 1)) s) n = 0 ∧ W n p s % 2 = 1 then 1 else 0
theorem on_none {n : Nat} {p : Nat → T2} {s : T2} : sm (fun j => onI (p j) (p (j + 1)) s) n = 0 ↔ ¬ ∃ j, j < n ∧ onE p s j := by
  constructor
  · rintro h ⟨j, hj, ho⟩
    have := sm_le (f := fun j => onI (p j) (p (j + 1)) s) (fun i => onI_nn _ _ _) hj
    simp only [onI_t ho] at this
    omega
  · intro h
    exact (sm_congr fun j hj => onI_f fun ho => h ⟨j, hj, ho⟩).trans (sm_zero n)
theorem off_cond {a b s : T2} (h : ¬ On a b s) : kx (df a s) (df b s) = 0 → ¬ (((df a s).y < 0 ∧ 0 ≤ (df b s).y) ∨ ((df b s).y < 0 ∧ 0 ≤ (df a s).y)) := by
  intro hk hs
  have e : tr a b s = kx (df a s) (df b s) := by simp only [tr, kx, df]; grind
  refine h ⟨by rw [e]; exact hk, ?_, ?_⟩
  · -- across
    show (df a s).x * (df b s).x ≤ 0
    generalize df a s = u at *
    generalize df b s = v at *
    have hk' : u.x * v.y = u.y * v.x := by simp only [kx] at hk; omega
    rcases hs with ⟨h1, h2⟩ | ⟨h1, h2⟩
    · refine sq_le (k := u.y) (by omega) ?_
      have e2 : u.y * u.y * (u.x * v.x) = u.x * u.x * (u.y * v.y) := by grind
      rw [e2]
      have : 0 ≤ u.x * u.x := by
        rcases Int.le_total 0 u.x with h | h
        · exact Int.mul_nonneg h h
        · exact Int.mul_nonneg_of_nonpos_of_nonpos h h
      exact Int.mul_nonpos_of_nonneg_of_nonpos this (Int.mul_nonpos_of_nonpos_of_nonneg (by omega) h2)
    · refine sq_le (k := v.y) (by omega) ?_
      have e2 : v.y * v.y * (u.x * v.x) = v.x * v.x * (u.y * v.y) := by grind
      rw [e2]
      have : 0 ≤ v.x * v.x := by
        rcases Int.le_total 0 v.x with h | h
        · exact Int.mul_nonneg h h
        · exact Int.mul_nonneg_of_nonpos_of_nonpos h h
      exact Int.mul_nonpos_of_nonneg_of_nonpos this (Int.mul_nonpos_of_nonneg_of_nonpos h2 (by omega))
  · show (df a s).y * (df b s).y ≤ 0
    rcases hs with ⟨h1, h2⟩ | ⟨h1, h2⟩
    · exact Int.mul_nonpos_of_nonpos_of_nonneg (by omega) h2
    · exact Int.mul_nonpos_of_nonneg_of_nonpos h2 (by omega)
/-- Within or not, by what is crossed. -/
theorem inn_eq {n : Nat} {p : Nat → T2} (h : Shp n p) (s : T2) : innI n p s = (2 * lam n p 0 - 1) * (W n p s - sm (hop p s) n * W n p s) := by
  have hl := (turned h.sp.toPg).2
  unfold innI
  by_cases ho : ∃ j, j < n ∧ onE p s j
  · rw [if_neg (fun hh => on_none.mp hh.1 ho), hop_sum h s ho]; simp
  · rw [hop_none s ho]
    have hW := W_off h.sp s (fun j hj => off_cond fun hon => ho ⟨j, hj, hon⟩)
    have ho2 := on_none.mpr ho
    rw [Int.zero_mul, Int.sub_zero]
    rcases hl with l | l
    · rw [l] at hW ⊢
      rcases hW with e | e
      · rw [e, if_neg (by omega)]; rfl
      · rw [e, if_pos ⟨ho2, by omega⟩]; rfl
    · rw [l] at hW ⊢
      rcases hW with e | e
      · rw [e, if_pos ⟨ho2, by omega⟩]; rfl
      · rw [e, if_neg (by omega)]; rfl
/-- Twice the area, with its sign; how many Spots lie on the edges. -/
def sDb (n : Nat) (p : Nat → T2) : Int := sm (fun j => ((p (j + 1)).y - (p j).y) * ((p j).x + (p (j + 1)).x)) n
def sEd (n : Nat) (p : Nat → T2) : Int := sm (fun j => gdI (p j) (p (j + 1))) n
theorem pick0 {n : Nat} {p : Nat → T2} (h : Shp n p) {X0 Y0 : Int} {w hh : Nat} (hb : ∀ j, InB X0 Y0 w hh (p j)) : 2 * bx X0 Y0 w hh (innI n p) = (2 * lam n p 0 - 1) * sDb n p - sEd n p + 2 := by
  obtain ⟨ht, hl⟩ := turned h.sp.toPg
  have e1 : bx X0 Y0 w hh (innI n p) = (2 * lam n p 0 - 1) * (bx X0 Y0 w hh (W n p) - bx X0 Y0 w hh (fun s => sm (hop p s) n * W n p s)) := by
    rw [← bx_sub, ← bx_mul]
    exact bx_congr fun s _ => inn_eq h s
  -- all that is crossed
  have e2 : 2 * bx X0 Y0 w hh (W n p) = sDb n p + sEd n p - 2 * sm (fun j => gdI (p j) (p (j + 1)) * hB (ev p j)) n := by
    have a : bx X0 Y0 w hh (W n p) = sm (fun j => bx X0 Y0 w hh (fun s => chi (df (p j) s) (df (p (j + 1)) s))) n := bx_sm (fun j s => chi (df (p j) s) (df (p (j + 1)) s)) n
    rw [a, ← sm_mul]
    have b : sm (fun j => 2 * bx X0 Y0 w hh (fun s => chi (df (p j) s) (df (p (j + 1)) s))) n = sm (fun j => (((p (j + 1)).y - (p j).y) * ((p j).x + (p (j + 1)).x) + gdI (p j) (p (j + 1)) - 2 * (gdI (p j) (p (j + 1)) * hB (ev p j))) - (((2 * X0 - 1) * (p (j + 1)).y - (p (j + 1)).x) - ((2 * X0 - 1) * (p j).y - (p j).x))) n := by
      refine sm_congr fun j _ => ?_
      rw [box_edge (hb j) (hb (j + 1))]
      unfold ev
      grind
    rw [b, sm_sub, sm_sub, sm_add, sm_mul]
    have tel := sm_tel (fun j => -((2 * X0 - 1) * (p j).y - (p j).x)) n
    have hp : p n = p 0 := by have := h.per 0; rwa [Nat.zero_add] at this
    rw [hp] at tel
    have tel' : sm (fun j => ((2 * X0 - 1) * (p (j + 1)).y - (p (j + 1)).x) - ((2 * X0 - 1) * (p j).y - (p j).x)) n = 0 := by
      rw [← Int.sub_self (-((2 * X0 - 1) * (p 0).y - (p 0).x)), ← tel]
      exact sm_congr fun j _ => by omega
    rw [tel']
    unfold sDb sEd
    omega
  -- what is crossed from the edges
  have e3 : bx X0 Y0 w hh (fun s => sm (hop p s) n * W n p s) = lam n p 0 * sEd n p - sm (fun j => gdI (p j) (p (j + 1)) * hB (ev p j)) n - (2 * lam n p 0 - 1) := by
    have a : bx X0 Y0 w hh (fun s => sm (hop p s) n * W n p s) = bx X0 Y0 w hh (fun s => sm (fun j => hop p s j * W n p s) n) := bx_congr fun s _ => by
      rw [Int.mul_comm, ← sm_mul]
      exact sm_congr fun j _ => Int.mul_comm _ _
    rw [a, bx_sm (fun j s => hop p s j * W n p s) n]
    have b : ∀ j, bx X0 Y0 w hh (fun s => hop p s j * W n p s) = gdI (p j) (p (j + 1)) * (lam n p 0 - hB (ev p j)) + (W n p (p j) - (lam n p 0 - hB (ev p j))) := by
      intro j
      have c : bx X0 Y0 w hh (fun s => hop p s j * W n p s) = bx X0 Y0 w hh (fun s => (lam n p 0 - hB (ev p j)) * hop p s j + eqI (p j) s * (W n p (p j) - (lam n p 0 - hB (ev p j)))) := bx_congr fun s _ => by rw [W_on h s j]; grind
      rw [c, bx_add, bx_mul, bx_eq (hb j) (fun _ => W n p (p j) - (lam n p 0 - hB (ev p j)))]
      have d : bx X0 Y0 w hh (fun s => hop p s j) = gdI (p j) (p (j + 1)) := by
        have : bx X0 Y0 w hh (fun s => hop p s j) = bx X0 Y0 w hh (onI (p j) (p (j + 1))) - bx X0 Y0 w hh (fun s => eqI (p (j + 1)) s * 1) := by
          rw [← bx_sub]
          exact bx_congr fun s _ => by unfold hop; omega
        rw [this, on_edge (hb j) (hb (j + 1)), bx_eq (hb (j + 1)) (fun _ => 1)]; omega
      rw [d, Int.mul_comm]
    have c : sm (fun j => bx X0 Y0 w hh (fun s => hop p s j * W n p s)) n = sm (fun j => (lam n p 0 * gdI (p j) (p (j + 1)) - gdI (p j) (p (j + 1)) * hB (ev p j)) + (W n p (p j) - (lam n p 0 - hB (ev p j)))) n := sm_congr fun j _ => by rw [b]; grind
    rw [c, sm_add, sm_sub, sm_mul, sm_sub, sm_sub, sm_const]
    -- the corners
    have per : sm (fun j => W n p (p j)) n = sm (fun j => W n p (p (j + 1))) n := (sm_shift (f := fun j => W n p (p j)) (n := n) (fun i => by rw [h.per]) 1).symm
    have d : sm (fun j => W n p (p (j + 1))) n = sm (fun j => lam n p 0 - chi (ev p j) (ev p (j + 1)) - hB (ev p j)) n := sm_congr fun j _ => by
      have := lam_at h.sp.toPg j
      unfold lam at this
      unfold lam
      omega
    rw [per, d, sm_sub, sm_sub, sm_const, ht]
    unfold sEd
    omega
  rw [e1, show 2 * ((2 * lam n p 0 - 1) * (bx X0 Y0 w hh (W n p) - bx X0 Y0 w hh (fun s => sm (hop p s) n * W n p s))) = (2 * lam n p 0 - 1) * (2 * bx X0 Y0 w hh (W n p) - 2 * bx X0 Y0 w hh (fun s => sm (hop p s) n * W n p s)) by grind, e2, e3]
  rcases hl with l | l
  · rw [l]; omega
  · rw [l]; omega
theorem gdI_pos {a b : T2} (h : a ≠ b) : 1 ≤ gdI a b := by
  unfold gdI
  have : 0 < Nat.gcd (b.y - a.y).natAbs (b.x - a.x).natAbs := by
    rcases Nat.eq_zero_or_pos (Nat.gcd (b.y - a.y).natAbs (b.x - a.x).natAbs) with z | z
    · have := Nat.gcd_eq_zero_iff.mp z
      exact absurd (T2.ext' (by omega) (by omega)) h
    · exact z
  omega
/-- Pick's theorem. -/
theorem pick {n : Nat} {p : Nat → T2} (h : Shp n p) {X0 Y0 : Int} {w hh : Nat} (hb : ∀ j, InB X0 Y0 w hh (p j)) : 2 * bx X0 Y0 w hh (innI n p) = max (sDb n p) (- sDb n p) - sEd n p + 2 := by
  have a := pick0 h hb
  have hl := (turned h.sp.toPg).2
  have f0 : 0 ≤ bx X0 Y0 w hh (innI n p) := by
    unfold bx
    refine sm_nn (fun r => sm_nn (fun x => ?_) _) _
    unfold innI; split <;> omega
  have b0 : (n : Int) ≤ sEd n p := by
    have : sm (fun _ => 1) n ≤ sEd n p := by
      unfold sEd
      have : ∀ m, sm (fun _ => (1 : Int)) m ≤ sm (fun j => gdI (p j) (p (j + 1))) m := by
        intro m
        induction m with
        | zero => simp [sm]
        | succ m ih => have := gdI_pos (h.ne m); simp only [sm]; omega
      exact this n
    rw [sm_const] at this; omega
  have n3 := h.n3
  rcases hl with l | l
  · rw [l] at a; omega
  · rw [l] at a; omega
end Go.Proofs.Ytipdfajojcpolaa
