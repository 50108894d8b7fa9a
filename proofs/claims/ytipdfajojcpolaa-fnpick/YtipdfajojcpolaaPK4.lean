/-
  Turned and grown shapes; what is crossed from a place on an edge.
-/
import Derived.Test.YtipdfajojcpolaaPK3
namespace Go.Proofs.Ytipdfajojcpolaa
theorem Pg.shift {n : Nat} {p : Nat → T2} (h : Pg n p) (c : Nat) : Pg n (fun i => p (i + c)) where
  n3 := h.n3
  per i := by show p (i + n + c) = p (i + c); rw [show i + n + c = i + c + n by omega]; exact h.per _
  nd i t h1 h2 := by
    have := h.nd (i + c) t h1 h2
    show ND (p (i + c)) (p (i + 1 + c)) (p (i + t + c)) (p (i + t + 1 + c))
    rw [show i + 1 + c = i + c + 1 by omega, show i + t + c = i + c + t by omega, show i + t + 1 + c = i + c + t + 1 by omega]
    exact this
  tn i := by
    have := h.tn (i + c)
    have e : ∀ k, ev (fun i => p (i + c)) k = ev p (k + c) := fun k => by show df (p (k + 1 + c)) (p (k + c)) = _; rw [show k + 1 + c = k + c + 1 by omega]; rfl
    rw [e, e, show i + 1 + c = i + c + 1 by omega]
    exact this
theorem ev_shift (p : Nat → T2) (c k : Nat) : ev (fun i => p (i + c)) k = ev p (k + c) := by show df (p (k + 1 + c)) (p (k + c)) = _; rw [show k + 1 + c = k + c + 1 by omega]; rfl
theorem W_sh {n : Nat} {p : Nat → T2} (hp : ∀ i, p (i + n) = p i) (s : T2) (c : Nat) : W n (fun i => p (i + c)) s = W n p s := by
  rw [← W_shift hp s c]
  unfold W
  refine sm_congr fun t _ => ?_
  show chi (df (p (t + c)) s) (df (p (t + 1 + c)) s) = _
  rw [show t + 1 + c = c + t + 1 by omega, show t + c = c + t by omega]
theorem lam_sh {n : Nat} {p : Nat → T2} (hp : ∀ i, p (i + n) = p i) (c i : Nat) : lam n (fun i => p (i + c)) i = lam n p (i + c) := by
  unfold lam
  rw [W_sh hp, ev_shift, ev_shift]
  show W n p (p (i + 1 + c)) + _ + _ = _
  rw [show i + 1 + c = i + c + 1 by omega]
def lowT (a b : T2) : Prop := a.y < b.y ∨ (a.y = b.y ∧ a.x ≤ b.x)
theorem low_of (p : Nat → T2) : ∀ m : Nat, ∃ c, c ≤ m ∧ ∀ i, i ≤ m → lowT (p c) (p i)
  | 0 => ⟨0, by omega, fun i hi => by obtain rfl : i = 0 := by omega
                                      right; omega⟩
  | m + 1 => by
    obtain ⟨c, h1, h2⟩ := low_of p m
    by_cases h : lowT (p c) (p (m + 1))
    · refine ⟨c, by omega, fun i hi => ?_⟩
      by_cases e : i = m + 1
      · subst e; exact h
      · exact h2 i (by omega)
    · refine ⟨m + 1, by omega, fun i hi => ?_⟩
      by_cases e : i = m + 1
      · subst e; right; omega
      · have := h2 i (by omega)
        unfold lowT at *; omega
theorem per_mod {n : Nat} {p : Nat → T2} (hp : ∀ i, p (i + n) = p i) (i : Nat) : p i = p (i % n) := by
  have : ∀ q r, p (r + n * q) = p r := by
    intro q
    induction q with
    | zero => intro r; simp
    | succ q ih => intro r; rw [Nat.mul_succ, ← Nat.add_assoc, hp, ih]
  conv => lhs; rw [← Nat.mod_add_div i n]
  exact this _ _
theorem low_ex {n : Nat} {p : Nat → T2} (h : Pg n p) : ∃ c, Low (fun i => p (i + c)) := by
  have n3 := h.n3
  obtain ⟨c, _, h2⟩ := low_of p (n - 1)
  refine ⟨c, fun i => ?_⟩
  have := h2 ((i + c) % n) (by have := Nat.mod_lt (i + c) (show 0 < n by omega); omega)
  rw [← per_mod h.per] at this
  simp only [Nat.zero_add]
  exact this
/-- All turns together, and the number that is the same at every corner. -/
theorem turned {n : Nat} {p : Nat → T2} (h : Pg n p) : sm (fun t => chi (ev p t) (ev p (t + 1))) n = 2 * lam n p 0 - 1 ∧ (lam n p 0 = 0 ∨ lam n p 0 = 1) := by
  obtain ⟨c, hl⟩ := low_ex h
  have a := turns (h.shift c) hl
  obtain ⟨_, _, _, b⟩ := low_h (h.shift c) hl
  rw [lam_sh h.per, lam_at h] at a b
  refine ⟨?_, b⟩
  rw [← a]
  have := sm_shift (f := fun t => chi (ev p t) (ev p (t + 1))) (n := n) (fun i => by
    have e : ∀ k, ev p (k + n) = ev p k := fun k => by unfold ev; rw [show k + n + 1 = k + 1 + n by omega, h.per, h.per]
    rw [e, show i + n + 1 = i + 1 + n by omega, e]) c
  rw [← this]
  refine sm_congr fun t _ => ?_
  rw [ev_shift, ev_shift, show t + 1 + c = t + c + 1 by omega]
/-- X lies on the edge aa', between its ends. -/
def Mid (X a a' : T2) (t m : Int) : Prop := 0 < t ∧ t < m ∧ m * (X.x - a.x) = t * (a'.x - a.x) ∧ m * (X.y - a.y) = t * (a'.y - a.y)
theorem ND.part {a a' b b' X : T2} {t m : Int} (h : ND a a' b b') (hX : Mid X a a' t m) : ND X a' b b' := by
  obtain ⟨h1, h2, hx, hy⟩ := hX
  have hm : 0 < m := by omega
  have hmt : 0 < m - t := by omega
  have k2 : m * kx (df b' X) (df b' a') = (m - t) * kx (df b' a) (df b' a') := by simp only [kx, df]; grind
  have k4 : m * kx (df b a') (df b X) = (m - t) * kx (df b a') (df b a) := by simp only [kx, df]; grind
  have k1 : m * kx (df b X) (df b' X) = (m - t) * kx (df b a) (df b' a) - t * kx (df b' a') (df b a') := by simp only [kx, df]; grind
  unfold ND at *
  generalize kx (df b' a') (df b a') = q3 at *
  generalize kx (df b' a) (df b' a') = q2 at *
  generalize kx (df b a') (df b a) = q4 at *
  generalize kx (df b a) (df b' a) = q1 at *
  generalize kx (df b' X) (df b' a') = r2 at *
  generalize kx (df b a') (df b X) = r4 at *
  generalize kx (df b X) (df b' X) = r1 at *
  have zz : ∀ {r q : Int}, m * r = (m - t) * q → (0 ≤ r → 0 ≤ q) ∧ (r ≤ 0 → q ≤ 0) ∧ (q = 0 → r = 0) := by
    intro r q e
    refine ⟨fun hr => ?_, fun hr => ?_, fun hq => ?_⟩
    · exact pos_of hmt (by rw [Int.mul_comm]; exact e.symm) (Int.mul_nonneg (by omega) hr)
    · exact neg_of hmt (by rw [Int.mul_comm]; exact e.symm) (Int.mul_nonpos_of_nonneg_of_nonpos (by omega) hr)
    · rw [hq, Int.mul_zero] at e
      rcases Int.mul_eq_zero.mp e with e | e <;> omega
  constructor
  · intro p1 p2 p3 p4
    have m1 := Int.mul_nonneg (Int.le_of_lt hm) p1
    have m3 := Int.mul_nonneg (Int.le_of_lt h1) p3
    have p1' : 0 ≤ q1 := pos_of (s := m * r1 + t * q3) hmt (by rw [Int.mul_comm]; omega) (by omega)
    obtain ⟨z1, z2, z3, z4⟩ := h.l p1' ((zz k2).1 p2) p3 ((zz k4).1 p4)
    refine ⟨?_, (zz k2).2.2 z2, z3, (zz k4).2.2 z4⟩
    rw [z1, z3] at k1
    simp only [Int.mul_zero, Int.sub_zero] at k1
    rcases Int.mul_eq_zero.mp k1 with e | e
    · omega
    · exact e
  · intro p1 p2 p3 p4
    have m1 := Int.mul_nonpos_of_nonneg_of_nonpos (Int.le_of_lt hm) p1
    have m3 := Int.mul_nonpos_of_nonneg_of_nonpos (Int.le_of_lt h1) p3
    have p1' : q1 ≤ 0 := neg_of (s := m * r1 + t * q3) hmt (by rw [Int.mul_comm]; omega) (by omega)
    obtain ⟨z1, z2, z3, z4⟩ := h.r p1' ((zz k2).2.1 p2) p3 ((zz k4).2.1 p4)
    refine ⟨?_, (zz k2).2.2 z2, z3, (zz k4).2.2 z4⟩
    rw [z1, z3] at k1
    simp only [Int.mul_zero, Int.sub_zero] at k1
    rcases Int.mul_eq_zero.mp k1 with e | e
    · omega
    · exact e
/-- The edge before, and what is left of this one behind X. -/
theorem ND.prev {o a a' X : T2} {t m : Int} (hX : Mid X a a' t m) (hk : kx (df a o) (df a' a) ≠ 0) : ND X a' o a := by
  obtain ⟨h1, h2, hx, hy⟩ := hX
  have e1 : m * kx (df o X) (df a X) = t * kx (df a o) (df a' a) := by simp only [kx, df]; grind
  have e3 : kx (df a a') (df o a') = - kx (df a o) (df a' a) := by simp only [kx, df]; grind
  unfold ND
  rw [e3]
  generalize kx (df a o) (df a' a) = k at *
  generalize kx (df o X) (df a X) = k1 at *
  have hm : 0 < m := by omega
  constructor
  · intro p1 _ p3 _
    have := Int.mul_neg_of_pos_of_neg h1 (show k < 0 by omega)
    have := Int.mul_nonneg (Int.le_of_lt hm) p1
    omega
  · intro p1 _ p3 _
    have := Int.mul_pos h1 (show 0 < k by omega)
    have := Int.mul_nonpos_of_nonneg_of_nonpos (Int.le_of_lt hm) p1
    omega
theorem chi_pos {u v w : T2} {a b : Int} (ha : 0 < a) (hb : 0 < b) (hx : a * u.x = b * w.x) (hy : a * u.y = b * w.y) : chi u v = chi w v := by
  have hk : a * kx u v = b * kx w v := by simp only [kx]; grind
  have sgn : ∀ {r q : Int}, a * r = b * q → (0 < r ↔ 0 < q) ∧ (r < 0 ↔ q < 0) := by
    intro r q e
    rcases Int.lt_trichotomy r 0 with h | h | h
    · have := Int.mul_neg_of_pos_of_neg ha h
      rcases Int.lt_or_le q 0 with h' | h'
      · omega
      · have := Int.mul_nonneg (Int.le_of_lt hb) h'; omega
    · subst h
      rw [Int.mul_zero] at e
      have : q = 0 := by rcases Int.mul_eq_zero.mp e.symm with h | h <;> omega
      omega
    · have := Int.mul_pos ha h
      rcases Int.lt_or_le 0 q with h' | h'
      · omega
      · have := Int.mul_nonpos_of_nonneg_of_nonpos (Int.le_of_lt hb) h'; omega
  have s1 := sgn hk
  have s2 := sgn hy
  unfold chi chN
  split <;> split <;> (try split) <;> (try split) <;> omega
/-- What is crossed from a place on an edge. -/
theorem W_mid {n : Nat} {p : Nat → T2} (h : Pg n p) (i : Nat) {X : T2} {t m : Int} (hX : Mid X (p i) (p (i + 1)) t m) : W n p X = lam n p 0 - hB (ev p i) := by
  obtain ⟨k, rfl⟩ : ∃ k, n = k + 3 := ⟨n - 3, by have := h.n3; omega⟩
  rw [← lam_at h i]
  unfold lam
  suffices hs : W (k + 3) p X = W (k + 3) p (p (i + 1)) + chi (ev p i) (ev p (i + 1)) by omega
  rw [← W_shift h.per X (i + 1), ← W_shift h.per (p (i + 1)) (i + 1)]
  have split3 : ∀ f : Nat → Int, sm f (k + 3) = f 0 + sm (fun t => f (t + 1)) (k + 1) + f (k + 2) := fun f => by
    have a1 := sm_head f (k + 1)
    have a3 : sm f (k + 3) = sm f (k + 1 + 1) + f (k + 2) := rfl
    omega
  rw [split3, split3]
  have hq : p (i + 1 + (k + 2) + 1) = p (i + 1) := by rw [show i + 1 + (k + 2) + 1 = i + 1 + (k + 3) by omega]; exact h.per _
  have hq0 : p (i + 1 + (k + 2)) = p i := by rw [show i + 1 + (k + 2) = i + (k + 3) by omega]; exact h.per _
  have tel := sm_tel (fun t => chi (df (p (i + 1 + (t + 1))) X) (df (p (i + 1 + (t + 1))) (p (i + 1)))) (k + 1)
  have cells : sm (fun t => chi (df (p (i + 1 + (t + 1))) X) (df (p (i + 1 + (t + 1) + 1)) X)) (k + 1) - sm (fun t => chi (df (p (i + 1 + (t + 1))) (p (i + 1))) (df (p (i + 1 + (t + 1) + 1)) (p (i + 1)))) (k + 1) = chi (df (p (i + 1 + (0 + 1))) X) (df (p (i + 1 + (0 + 1))) (p (i + 1))) - chi (df (p (i + 1 + (k + 1 + 1))) X) (df (p (i + 1 + (k + 1 + 1))) (p (i + 1))) := by
    rw [← sm_sub]
    refine (sm_congr fun r hr => ?_).trans tel
    have nd : ND X (p (i + 1)) (p (i + 1 + (r + 1))) (p (i + 1 + (r + 1) + 1)) := by
      by_cases e : r = k
      · subst e
        have e1 : p (i + 1 + (r + 1) + 1) = p i := by rw [show i + 1 + (r + 1) + 1 = i + (r + 3) by omega]; exact h.per _
        rw [e1]
        refine ND.prev hX ?_
        have := h.tn (i + 1 + (r + 1))
        unfold ev at this
        rw [e1, show i + 1 + (r + 1) + 1 + 1 = i + 1 + (r + 3) by omega, h.per] at this
        exact this
      · have := h.nd i (r + 2) (by omega) (by omega)
        rw [show i + (r + 2) = i + 1 + (r + 1) by omega] at this
        exact this.part hX
    have := cell' nd
    rw [this]
    simp only [show i + 1 + (r + 1) + 1 = i + 1 + (r + 1 + 1) by omega]
  obtain ⟨h1, h2, hx, hy⟩ := hX
  have z1 : chi (df (p i) X) (df (p i) (p (i + 1))) = 0 := by
    refine chi_k0 ?_
    have : m * kx (df (p i) X) (df (p i) (p (i + 1))) = 0 := by simp only [kx, df]; grind
    rcases Int.mul_eq_zero.mp this with e | e
    · omega
    · exact e
  have z2 : chi (df (p i) X) (df (p (i + 1)) X) = 0 := by
    refine chi_k0 ?_
    have : m * kx (df (p i) X) (df (p (i + 1)) X) = 0 := by simp only [kx, df]; grind
    rcases Int.mul_eq_zero.mp this with e | e
    · omega
    · exact e
  simp only [show k + 1 + 1 = k + 2 by omega, show i + 1 + (0 + 1) = i + 2 by omega, hq0, z1] at cells
  simp only [hq, hq0, show i + 1 + 0 = i + 1 by omega, show i + 1 + 1 = i + 2 by omega, chi_z1, chi_z2, z2]
  have t1 := chi_tri (u := df (p (i + 1)) X) (v := ev p (i + 1)) (w := df (p (i + 2)) X) (by simp only [ev, df, Nat.add_assoc, Nat.reduceAdd]; omega) (by simp only [ev, df, Nat.add_assoc, Nat.reduceAdd]; omega)
  have n4 : df (p (i + 2)) (p (i + 1)) = ev p (i + 1) := rfl
  rw [n4] at cells
  have c1 : chi (df (p (i + 1)) X) (ev p (i + 1)) = chi (ev p i) (ev p (i + 1)) := by
    refine chi_pos (a := m) (b := m - t) (by omega) (by omega) ?_ ?_
    · simp only [ev, df]; grind
    · simp only [ev, df]; grind
  omega
end Go.Proofs.Ytipdfajojcpolaa
