/-
  Two edges have a place in common just where their boxes meet and each parts the other's ends: the spec's question and the program's are one.
-/
import Derived.Test.YtocfdmlkicndoaaRows
namespace Go.Proofs.Ytocfdmlkicndoaa

/-- Twice the area of a triangle, with its sign. -/
def cr (ax ay bx by' cx cy : Int) : Int := (bx - ax) * (cy - ay) - (by' - ay) * (cx - ax)
def btw (a b c : Int) : Prop := min a b ≤ c ∧ c ≤ max a b
def over (a b c d : Int) : Prop := max (min a b) (min c d) ≤ min (max a b) (max c d)

theorem cr_r {ax ay bx by' cx cy dx dy : Int} (h : cr ax ay bx by' cx cy = 0) : cr cx cy dx dy ax ay * (bx - ax) = - (cr ax ay bx by' dx dy * (ax - cx)) := by unfold cr at *; grind
theorem cr_s {ax ay bx by' cx cy dx dy : Int} (h : cr ax ay bx by' cx cy = 0) : cr cx cy dx dy bx by' * (bx - ax) = - (cr ax ay bx by' dx dy * (bx - cx)) := by unfold cr at *; grind
theorem cr_ry {ax ay bx by' cx cy dx dy : Int} (h : cr ax ay bx by' cx cy = 0) : cr cx cy dx dy ax ay * (by' - ay) = - (cr ax ay bx by' dx dy * (ay - cy)) := by unfold cr at *; grind
theorem cr_sy {ax ay bx by' cx cy dx dy : Int} (h : cr ax ay bx by' cx cy = 0) : cr cx cy dx dy bx by' * (by' - ay) = - (cr ax ay bx by' dx dy * (by' - cy)) := by unfold cr at *; grind
theorem sq_pos {a : Int} (h : a ≠ 0) : 0 < a * a := by
  rcases Int.lt_or_gt_of_ne h with h | h
  · exact Int.mul_pos_of_neg_of_neg h h
  · exact Int.mul_pos h h
theorem sq_nn (a : Int) : 0 ≤ a * a := by
  by_cases h : a = 0
  · subst h; simp
  · exact Int.le_of_lt (sq_pos h)
/-- r s u u = q q m, r s ≤ 0, q not 0: m ≤ 0. -/
theorem sign1 {r s u q m : Int} (h : r * s * (u * u) = q * q * m) (hq : q ≠ 0) (h0 : r * s ≤ 0) : m ≤ 0 := by
  have h1 : r * s * (u * u) ≤ 0 := Int.mul_nonpos_of_nonpos_of_nonneg h0 (sq_nn u)
  have h2 := sq_pos hq
  rcases Int.lt_or_le 0 m with hm | hm
  · have := Int.mul_pos h2 hm; omega
  · exact hm
theorem sign2 {r s u q m : Int} (h : r * s * (u * u) = q * q * m) (hu : u ≠ 0) (h0 : m ≤ 0) : r * s ≤ 0 := by
  have h1 : q * q * m ≤ 0 := Int.mul_nonpos_of_nonneg_of_nonpos (sq_nn q) h0
  have h2 := sq_pos hu
  rcases Int.lt_or_le 0 (r * s) with hm | hm
  · have := Int.mul_pos hm h2; omega
  · exact hm
theorem btw_iff {a b c : Int} : btw a b c ↔ (a - c) * (b - c) ≤ 0 := by
  unfold btw
  constructor
  · intro h
    rcases Int.le_total a b with hab | hab
    · exact Int.mul_nonpos_of_nonpos_of_nonneg (by omega) (by omega)
    · exact Int.mul_nonpos_of_nonneg_of_nonpos (by omega) (by omega)
  · intro h
    rcases Int.lt_trichotomy c a with h1 | h1 | h1
    · rcases Int.lt_or_le c b with h2 | h2
      · have := Int.mul_pos (show 0 < a - c by omega) (show 0 < b - c by omega); omega
      · omega
    · omega
    · rcases Int.lt_or_le b c with h2 | h2
      · have := Int.mul_pos_of_neg_of_neg (show a - c < 0 by omega) (show b - c < 0 by omega); omega
      · omega
theorem rs_x {ax ay bx by' cx cy dx dy : Int} (h : cr ax ay bx by' cx cy = 0) : cr cx cy dx dy ax ay * cr cx cy dx dy bx by' * ((bx - ax) * (bx - ax)) = cr ax ay bx by' dx dy * cr ax ay bx by' dx dy * ((ax - cx) * (bx - cx)) := by
  have h1 := cr_r (dx := dx) (dy := dy) h
  have h2 := cr_s (dx := dx) (dy := dy) h
  generalize cr cx cy dx dy ax ay = r at *
  generalize cr cx cy dx dy bx by' = s at *
  generalize cr ax ay bx by' dx dy = q at *
  have : r * s * ((bx - ax) * (bx - ax)) = (r * (bx - ax)) * (s * (bx - ax)) := by grind
  rw [this, h1, h2]; grind
theorem rs_y {ax ay bx by' cx cy dx dy : Int} (h : cr ax ay bx by' cx cy = 0) : cr cx cy dx dy ax ay * cr cx cy dx dy bx by' * ((by' - ay) * (by' - ay)) = cr ax ay bx by' dx dy * cr ax ay bx by' dx dy * ((ay - cy) * (by' - cy)) := by
  have h1 := cr_ry (dx := dx) (dy := dy) h
  have h2 := cr_sy (dx := dx) (dy := dy) h
  generalize cr cx cy dx dy ax ay = r at *
  generalize cr cx cy dx dy bx by' = s at *
  generalize cr ax ay bx by' dx dy = q at *
  have : r * s * ((by' - ay) * (by' - ay)) = (r * (by' - ay)) * (s * (by' - ay)) := by grind
  rw [this, h1, h2]; grind
/-- On a line: between in x is between in y. -/
theorem line_y {ax ay bx by' cx cy : Int} (h : cr ax ay bx by' cx cy = 0) (hx : ax ≠ bx) (hb : btw ax bx cx) : btw ay by' cy := by
  rw [btw_iff] at *
  have e : (ay - cy) * (by' - cy) * ((bx - ax) * (bx - ax)) = (by' - ay) * (by' - ay) * ((ax - cx) * (bx - cx)) := by
    have h1 : (ay - cy) * (bx - ax) = (by' - ay) * (ax - cx) := by unfold cr at h; grind
    have h2 : (by' - cy) * (bx - ax) = (by' - ay) * (bx - cx) := by unfold cr at h; grind
    have : (ay - cy) * (by' - cy) * ((bx - ax) * (bx - ax)) = ((ay - cy) * (bx - ax)) * ((by' - cy) * (bx - ax)) := by grind
    rw [this, h1, h2]; grind
  exact sign2 e (by omega) hb
theorem line_x {ax ay bx by' cx cy : Int} (h : cr ax ay bx by' cx cy = 0) (hy : ay ≠ by') (hb : btw ay by' cy) : btw ax bx cx := by
  refine line_y (ax := ay) (ay := ax) (bx := by') (by' := bx) (cx := cy) (cy := cx) ?_ hy hb
  unfold cr at *; grind
/-- c is on the edge a b. -/
def on (ax ay bx by' cx cy : Int) : Prop := cr ax ay bx by' cx cy = 0 ∧ btw ax bx cx ∧ btw ay by' cy
theorem fwd {ax ay bx by' cx cy dx dy : Int} (hp : cr ax ay bx by' cx cy = 0) (hx : over ax bx cx dx) (hy : over ay by' cy dy) (h : cr cx cy dx dy ax ay * cr cx cy dx dy bx by' ≤ 0) :
    on ax ay bx by' cx cy ∨ on ax ay bx by' dx dy ∨ on cx cy dx dy ax ay ∨ on cx cy dx dy bx by' := by
  by_cases hq : cr ax ay bx by' dx dy = 0
  · by_cases hab : ax = bx ∧ ay = by'
    · obtain ⟨rfl, rfl⟩ := hab
      have hr : cr cx cy dx dy ax ay = 0 := by
        by_cases h0 : cr cx cy dx dy ax ay = 0
        · exact h0
        · have := sq_pos h0; omega
      exact .inr (.inr (.inl ⟨hr, by unfold over at hx; unfold btw; omega, by unfold over at hy; unfold btw; omega⟩))
    · have hr : cr cx cy dx dy ax ay = 0 := by
        rcases Classical.em (ax = bx) with e | e
        · have := cr_ry (dx := dx) (dy := dy) hp
          rw [hq] at this
          have hne : by' - ay ≠ 0 := by omega
          rcases Int.mul_eq_zero.mp (show cr cx cy dx dy ax ay * (by' - ay) = 0 by omega) with h | h
          · exact h
          · exact absurd h hne
        · have := cr_r (dx := dx) (dy := dy) hp
          rw [hq] at this
          rcases Int.mul_eq_zero.mp (show cr cx cy dx dy ax ay * (bx - ax) = 0 by omega) with h | h
          · exact h
          · omega
      have hs : cr cx cy dx dy bx by' = 0 := by
        rcases Classical.em (ax = bx) with e | e
        · have := cr_sy (dx := dx) (dy := dy) hp
          rw [hq] at this
          rcases Int.mul_eq_zero.mp (show cr cx cy dx dy bx by' * (by' - ay) = 0 by omega) with h | h
          · exact h
          · omega
        · have := cr_s (dx := dx) (dy := dy) hp
          rw [hq] at this
          rcases Int.mul_eq_zero.mp (show cr cx cy dx dy bx by' * (bx - ax) = 0 by omega) with h | h
          · exact h
          · omega
      by_cases e : ax = bx
      · have hne : ay ≠ by' := by omega
        have : btw ay by' cy ∨ btw ay by' dy ∨ (cy ≠ dy ∧ btw cy dy ay) := by unfold over at hy; unfold btw; omega
        rcases this with h | h | ⟨hc, h⟩
        · exact .inl ⟨hp, line_x hp hne h, h⟩
        · exact .inr (.inl ⟨hq, line_x hq hne h, h⟩)
        · exact .inr (.inr (.inl ⟨hr, line_x hr hc h, h⟩))
      · have : btw ax bx cx ∨ btw ax bx dx ∨ (cx ≠ dx ∧ btw cx dx ax) := by unfold over at hx; unfold btw; omega
        rcases this with h | h | ⟨hc, h⟩
        · exact .inl ⟨hp, h, line_y hp e h⟩
        · exact .inr (.inl ⟨hq, h, line_y hq e h⟩)
        · exact .inr (.inr (.inl ⟨hr, h, line_y hr hc h⟩))
  · exact .inl ⟨hp, btw_iff.mpr (sign1 (rs_x hp) hq h), btw_iff.mpr (sign1 (rs_y hp) hq h)⟩
theorem cr_swap (ax ay bx by' cx cy : Int) : cr bx by' ax ay cx cy = - cr ax ay bx by' cx cy := by unfold cr; grind
theorem over_sym {a b c d : Int} : over a b c d ↔ over c d a b := by unfold over; omega
theorem over_sw {a b c d : Int} : over a b d c ↔ over a b c d := by unfold over; omega
theorem bwd {ax ay bx by' cx cy dx dy : Int} (hc : on ax ay bx by' cx cy) : over ax bx cx dx ∧ over ay by' cy dy ∧ cr ax ay bx by' cx cy * cr ax ay bx by' dx dy ≤ 0 ∧ cr cx cy dx dy ax ay * cr cx cy dx dy bx by' ≤ 0 := by
  obtain ⟨hp, hx, hy⟩ := hc
  refine ⟨by unfold btw at hx; unfold over; omega, by unfold btw at hy; unfold over; omega, by rw [hp, Int.zero_mul]; exact Int.le_refl _, ?_⟩
  by_cases e : bx - ax = 0
  · by_cases e2 : by' - ay = 0
    · have : cr cx cy dx dy ax ay = 0 := by
        have h1 : ax = cx := by unfold btw at hx; omega
        have h2 : ay = cy := by unfold btw at hy; omega
        subst h1 h2; unfold cr; grind
      rw [this, Int.zero_mul]; exact Int.le_refl _
    · exact sign2 (rs_y hp) e2 (btw_iff.mp hy)
  · exact sign2 (rs_x hp) e (btw_iff.mp hx)
/-- The ends of each lie on both sides of the other: the boxes meet. -/
theorem sep {p q r s a b c d m : Int} (h1 : s * a - r * b + q * c - p * d = 0) (h2 : s - r + q - p = 0) (hpq : p * q < 0) (hrs : r * s < 0) (ha : a < m) (hb : b < m) (hc : m ≤ c) (hd : m ≤ d) : False := by
  have e : s * (a - m) - r * (b - m) + q * (c - m) - p * (d - m) = 0 := by
    have : s * (a - m) - r * (b - m) + q * (c - m) - p * (d - m) = (s * a - r * b + q * c - p * d) - m * (s - r + q - p) := by grind
    rw [this, h1, h2]; simp
  rcases Int.lt_trichotomy s 0 with hs | hs | hs
  · have hr : 0 < r := by
      rcases Int.lt_or_le 0 r with h | h
      · exact h
      · have := Int.mul_nonneg_of_nonpos_of_nonpos h (Int.le_of_lt hs); omega
    have hq : 0 < q := by
      rcases Int.lt_trichotomy q 0 with h | h | h
      · have : p < 0 := by omega
        have := Int.mul_pos_of_neg_of_neg this h; omega
      · subst h; simp at hpq
      · exact h
    have hp : p < 0 := by
      rcases Int.lt_or_le p 0 with h | h
      · exact h
      · have := Int.mul_nonneg h (Int.le_of_lt hq); omega
    have t1 := Int.mul_pos_of_neg_of_neg hs (show a - m < 0 by omega)
    have t2 := Int.mul_pos hr (show 0 < m - b by omega)
    have t2' : r * (m - b) = - (r * (b - m)) := by grind
    have t3 := Int.mul_nonneg (Int.le_of_lt hq) (show 0 ≤ c - m by omega)
    have t4 := Int.mul_nonneg (show 0 ≤ - p by omega) (show 0 ≤ d - m by omega)
    have t4' : -p * (d - m) = - (p * (d - m)) := by grind
    omega
  · subst hs; simp at hrs
  · have hr : r < 0 := by
      rcases Int.lt_or_le r 0 with h | h
      · exact h
      · have := Int.mul_nonneg h (Int.le_of_lt hs); omega
    have hq : q < 0 := by
      rcases Int.lt_trichotomy q 0 with h | h | h
      · exact h
      · subst h; simp at hpq
      · have : 0 < p := by omega
        have := Int.mul_pos this h; omega
    have hp : 0 < p := by
      rcases Int.lt_or_le 0 p with h | h
      · exact h
      · have := Int.mul_nonneg_of_nonpos_of_nonpos h (Int.le_of_lt hq); omega
    have t1 := Int.mul_pos hs (show 0 < m - a by omega)
    have t1' : s * (m - a) = - (s * (a - m)) := by grind
    have t2 := Int.mul_pos_of_neg_of_neg hr (show b - m < 0 by omega)
    have t3 := Int.mul_nonneg (show 0 ≤ - q by omega) (show 0 ≤ c - m by omega)
    have t3' : -q * (c - m) = - (q * (c - m)) := by grind
    have t4 := Int.mul_nonneg (Int.le_of_lt hp) (show 0 ≤ d - m by omega)
    omega
theorem id_x (ax ay bx by' cx cy dx dy : Int) : cr cx cy dx dy bx by' * ax - cr cx cy dx dy ax ay * bx + cr ax ay bx by' dx dy * cx - cr ax ay bx by' cx cy * dx = 0 := by unfold cr; grind
theorem id_y (ax ay bx by' cx cy dx dy : Int) : cr cx cy dx dy bx by' * ay - cr cx cy dx dy ax ay * by' + cr ax ay bx by' dx dy * cy - cr ax ay bx by' cx cy * dy = 0 := by unfold cr; grind
theorem id_1 (ax ay bx by' cx cy dx dy : Int) : cr cx cy dx dy bx by' - cr cx cy dx dy ax ay + cr ax ay bx by' dx dy - cr ax ay bx by' cx cy = 0 := by unfold cr; grind
theorem over_of {p q r s a b c d : Int} (h1 : s * a - r * b + q * c - p * d = 0) (h2 : s - r + q - p = 0) (hpq : p * q < 0) (hrs : r * s < 0) : over a b c d := by
  unfold over
  rcases Int.lt_or_le (max a b) (min c d) with h | h
  · exact (sep (m := min c d) h1 h2 hpq hrs (by omega) (by omega) (by omega) (by omega)).elim
  · rcases Int.lt_or_le (max c d) (min a b) with h' | h'
    · exact (sep (p := r) (q := s) (r := p) (s := q) (a := c) (b := d) (c := a) (d := b) (m := min a b) (by omega) (by omega) hrs hpq (by omega) (by omega) (by omega) (by omega)).elim
    · omega
/-- The program's question is the spec's. -/
theorem meets_cut (ax ay bx by' cx cy dx dy : Int) :
    (over ax bx cx dx ∧ over ay by' cy dy ∧ cr ax ay bx by' cx cy * cr ax ay bx by' dx dy ≤ 0 ∧ cr cx cy dx dy ax ay * cr cx cy dx dy bx by' ≤ 0) ↔
    ((cr ax ay bx by' cx cy * cr ax ay bx by' dx dy < 0 ∧ cr cx cy dx dy ax ay * cr cx cy dx dy bx by' < 0) ∨ on ax ay bx by' cx cy ∨ on ax ay bx by' dx dy ∨ on cx cy dx dy ax ay ∨ on cx cy dx dy bx by') := by
  constructor
  · rintro ⟨hx, hy, hpq, hrs⟩
    by_cases h1 : cr ax ay bx by' cx cy * cr ax ay bx by' dx dy = 0
    · right
      rcases Int.mul_eq_zero.mp h1 with h | h
      · exact fwd h hx hy hrs
      · have := fwd (ax := ax) (ay := ay) (bx := bx) (by' := by') (cx := dx) (cy := dy) (dx := cx) (dy := cy) h (over_sw.mpr hx) (over_sw.mpr hy) (by rw [cr_swap cx cy dx dy ax ay, cr_swap cx cy dx dy bx by', Int.neg_mul_neg]; exact hrs)
        have sw : ∀ u v, on dx dy cx cy u v → on cx cy dx dy u v := fun u v ⟨a, b, c⟩ => ⟨by rw [cr_swap] at a; omega, by unfold btw at *; omega, by unfold btw at *; omega⟩
        rcases this with h | h | h | h
        · exact .inr (.inl h)
        · exact .inl h
        · exact .inr (.inr (.inl (sw _ _ h)))
        · exact .inr (.inr (.inr (sw _ _ h)))
    · by_cases h2 : cr cx cy dx dy ax ay * cr cx cy dx dy bx by' = 0
      · right
        rcases Int.mul_eq_zero.mp h2 with h | h
        · rcases fwd (ax := cx) (ay := cy) (bx := dx) (by' := dy) (cx := ax) (cy := ay) (dx := bx) (dy := by') h (over_sym.mp hx) (over_sym.mp hy) hpq with h | h | h | h
          · exact .inr (.inr (.inl h))
          · exact .inr (.inr (.inr h))
          · exact .inl h
          · exact .inr (.inl h)
        · have sw : ∀ u v, on bx by' ax ay u v → on ax ay bx by' u v := fun u v ⟨a, b, c⟩ => ⟨by rw [cr_swap] at a; omega, by unfold btw at *; omega, by unfold btw at *; omega⟩
          rcases fwd (ax := cx) (ay := cy) (bx := dx) (by' := dy) (cx := bx) (cy := by') (dx := ax) (dy := ay) h (over_sw.mpr (over_sym.mp hx)) (over_sw.mpr (over_sym.mp hy)) (by rw [cr_swap ax ay bx by' cx cy, cr_swap ax ay bx by' dx dy, Int.neg_mul_neg]; exact hpq) with h | h | h | h
          · exact .inr (.inr (.inr h))
          · exact .inr (.inr (.inl h))
          · exact .inl (sw _ _ h)
          · exact .inr (.inl (sw _ _ h))
      · exact .inl ⟨by omega, by omega⟩
  · rintro (⟨h1, h2⟩ | h | h | h | h)
    · exact ⟨over_of (id_x ax ay bx by' cx cy dx dy) (id_1 ax ay bx by' cx cy dx dy) h1 h2, over_of (id_y ax ay bx by' cx cy dx dy) (id_1 ax ay bx by' cx cy dx dy) h1 h2, by omega, by omega⟩
    · exact bwd h
    · obtain ⟨a, b, c, d⟩ := bwd (dx := cx) (dy := cy) h
      exact ⟨over_sw.mp a, over_sw.mp b, by rw [Int.mul_comm]; exact c, by rw [cr_swap cx cy dx dy ax ay, cr_swap cx cy dx dy bx by', Int.neg_mul_neg] at d; exact d⟩
    · obtain ⟨a, b, c, d⟩ := bwd (dx := bx) (dy := by') h
      exact ⟨over_sym.mp a, over_sym.mp b, d, c⟩
    · obtain ⟨a, b, c, d⟩ := bwd (dx := ax) (dy := ay) h
      exact ⟨over_sym.mp (over_sw.mp a), over_sym.mp (over_sw.mp b), by rw [cr_swap ax ay bx by' cx cy, cr_swap ax ay bx by' dx dy, Int.neg_mul_neg] at d; exact d, by rw [Int.mul_comm]; exact c⟩
end Go.Proofs.Ytocfdmlkicndoaa
