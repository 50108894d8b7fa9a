/-
  Two edges that the spec does not find to meet have no place in common.
-/
import Derived.Test.YtipdfajojcpolaaPK7
namespace Go.Proofs.Ytipdfajojcpolaa
/-- To opposite sides of the origin, on one line with it. -/
def Op (u v : T2) : Prop := kx u v = 0 ∧ (opp u.y v.y ∨ (u.y = 0 ∧ v.y = 0 ∧ opp u.x v.x))
theorem opp_mul {m n a b : Int} (h : m * a = n * b) (ho : opp m n) : (0 < b → a < 0) ∧ (b < 0 → 0 < a) ∧ (b = 0 → a = 0) := by
  unfold opp at ho
  rcases ho with ⟨hm, hn⟩ | ⟨hm, hn⟩
  · refine ⟨fun hb => ?_, fun hb => ?_, fun hb => ?_⟩
    · have := Int.mul_neg_of_neg_of_pos hn hb
      rcases Int.lt_or_le a 0 with h' | h'
      · exact h'
      · have := Int.mul_nonneg (Int.le_of_lt hm) h'; omega
    · have := Int.mul_pos_of_neg_of_neg hn hb
      rcases Int.lt_or_le 0 a with h' | h'
      · exact h'
      · have := Int.mul_nonpos_of_nonneg_of_nonpos (Int.le_of_lt hm) h'; omega
    · rw [hb, Int.mul_zero] at h
      rcases Int.mul_eq_zero.mp h with e | e <;> omega
  · refine ⟨fun hb => ?_, fun hb => ?_, fun hb => ?_⟩
    · have := Int.mul_pos hn hb
      rcases Int.lt_or_le a 0 with h' | h'
      · exact h'
      · have := Int.mul_nonpos_of_nonpos_of_nonneg (Int.le_of_lt hm) h'; omega
    · have := Int.mul_neg_of_pos_of_neg hn hb
      rcases Int.lt_or_le 0 a with h' | h'
      · exact h'
      · have := Int.mul_nonneg_of_nonpos_of_nonpos (Int.le_of_lt hm) h'; omega
    · rw [hb, Int.mul_zero] at h
      rcases Int.mul_eq_zero.mp h with e | e <;> omega
theorem Op.k {u u' : T2} (h : Op u u') (v : T2) : (0 < kx u v → kx u' v < 0) ∧ (kx u v < 0 → 0 < kx u' v) ∧ (kx u v = 0 → kx u' v = 0) := by
  obtain ⟨hk, ho | ⟨z1, z2, ho⟩⟩ := h
  · refine opp_mul (m := u.y) (n := u'.y) ?_ ho
    simp only [kx] at *; grind
  · refine opp_mul (m := u.x) (n := u'.x) ?_ ho
    simp only [kx] at *; grind
theorem opp_comm {m n : Int} : opp m n ↔ opp n m := by unfold opp; omega
theorem opp_neg {m n : Int} : opp (-m) (-n) ↔ opp m n := by unfold opp; omega
theorem opp_sq {K m n : Int} (hK : 0 < K) : opp (K * K * m) (K * K * n) ↔ opp m n := by
  have hq := Int.mul_pos hK hK
  have sg : ∀ r : Int, (0 < K * K * r ↔ 0 < r) ∧ (K * K * r < 0 ↔ r < 0) := by
    intro r
    rcases Int.lt_trichotomy r 0 with h | h | h
    · have := Int.mul_neg_of_pos_of_neg hq h; omega
    · subst h; simp
    · have := Int.mul_pos hq h; omega
  have a := sg m
  have b := sg n
  unfold opp; omega
def sw (u : T2) : T2 := ⟨u.y, u.x⟩
theorem NC.sw {a a' b b' : T2} (h : NC a a' b b') : NC (sw a) (sw a') (sw b) (sw b') := by
  have e : ∀ p q r, tr (Go.Proofs.Ytipdfajojcpolaa.sw p) (Go.Proofs.Ytipdfajojcpolaa.sw q) (Go.Proofs.Ytipdfajojcpolaa.sw r) = - tr p q r := fun p q r => by simp only [tr, kx, df, Go.Proofs.Ytipdfajojcpolaa.sw]; grind
  have e2 : ∀ p q r, bt (Go.Proofs.Ytipdfajojcpolaa.sw p) (Go.Proofs.Ytipdfajojcpolaa.sw q) (Go.Proofs.Ytipdfajojcpolaa.sw r) ↔ bt p q r := fun p q r => by unfold bt Go.Proofs.Ytipdfajojcpolaa.sw; exact and_comm
  refine ⟨?_, ?_, ?_, ?_, ?_⟩
  · rw [e, e, e, e, opp_neg, opp_neg]; exact h.x
  · rw [e, e2]; intro z; exact h.p (by omega)
  · rw [e, e2]; intro z; exact h.q (by omega)
  · rw [e, e2]; intro z; exact h.r (by omega)
  · rw [e, e2]; intro z; exact h.s (by omega)
theorem sq_le {k m : Int} (hk : k ≠ 0) (h : k * k * m ≤ 0) : m ≤ 0 := by
  have hq : 0 < k * k := by
    rcases Int.lt_or_gt_of_ne hk with h | h
    · exact Int.mul_pos_of_neg_of_neg h h
    · exact Int.mul_pos h h
  rcases Int.lt_or_le 0 m with h' | h'
  · have := Int.mul_pos hq h'; omega
  · exact h'
/-- The end a of an edge lies between the ends of another on the same line. -/
theorem lies {a b b' X : T2} {K : Int} (hK : 0 < K) (hu : 0 < (df (mu K a) X).y) (hv : (df (mu K a) X).y ≤ (df (mu K b) X).y) (hv' : (df (mu K b') X).y < 0) (k1 : kx (df (mu K a) X) (df (mu K b) X) = 0) (k2 : kx (df (mu K a) X) (df (mu K b') X) = 0) : bt b b' a := by
  have ex : K * K * ((b.x - a.x) * (b'.x - a.x)) = ((df (mu K b) X).x - (df (mu K a) X).x) * ((df (mu K b') X).x - (df (mu K a) X).x) := by simp only [df, mu]; grind
  have ey : K * K * ((b.y - a.y) * (b'.y - a.y)) = ((df (mu K b) X).y - (df (mu K a) X).y) * ((df (mu K b') X).y - (df (mu K a) X).y) := by simp only [df, mu]; grind
  have hy : ((df (mu K b) X).y - (df (mu K a) X).y) * ((df (mu K b') X).y - (df (mu K a) X).y) ≤ 0 := Int.mul_nonpos_of_nonneg_of_nonpos (by omega) (by omega)
  generalize df (mu K a) X = u at *
  generalize df (mu K b) X = v at *
  generalize df (mu K b') X = v' at *
  refine ⟨sq_le (k := K) (by omega) ?_, sq_le (k := K) (by omega) (by rw [ey]; exact hy)⟩
  rw [ex]
  refine sq_le (k := u.y) (by omega) ?_
  have e : u.y * u.y * ((v.x - u.x) * (v'.x - u.x)) = u.x * u.x * ((v.y - u.y) * (v'.y - u.y)) := by simp only [kx] at k1 k2; grind
  rw [e]
  have : 0 ≤ u.x * u.x := by
    rcases Int.le_total 0 u.x with h | h
    · exact Int.mul_nonneg h h
    · exact Int.mul_nonneg_of_nonpos_of_nonpos h h
  exact Int.mul_nonpos_of_nonneg_of_nonpos this hy
theorem tr_mu (K : Int) (a b c X : T2) : K * K * tr a b c = kx (df (mu K b) X) (df (mu K c) X) - kx (df (mu K a) X) (df (mu K c) X) + kx (df (mu K a) X) (df (mu K b) X) := by simp only [tr, kx, df, mu]; grind
theorem kxn (u v : T2) : kx v u = - kx u v := by simp only [kx]; grind
theorem NC.aparty {a a' b b' X : T2} {K : Int} (h : NC a a' b b') (hK : 0 < K) (ha : kx (df (mu K a) X) (df (mu K a') X) = 0) (hb : kx (df (mu K b) X) (df (mu K b') X) = 0) (hc : kx (df (mu K a) X) (df (mu K b) X) = 0)
    (oa : opp (df (mu K a) X).y (df (mu K a') X).y) (ob : opp (df (mu K b) X).y (df (mu K b') X).y) : False := by
  have hsq := Int.mul_pos hK hK
  have c1 := (Op.k ⟨ha, .inl oa⟩ (df (mu K b) X)).2.2 hc
  have hcn := kxn (df (mu K a) X) (df (mu K b) X)
  have c2 := (Op.k ⟨hb, .inl ob⟩ (df (mu K a) X)).2.2 (by omega)
  have c1n := kxn (df (mu K a') X) (df (mu K b) X)
  have c3 := (Op.k ⟨hb, .inl ob⟩ (df (mu K a') X)).2.2 (by omega)
  have c2n := kxn (df (mu K b') X) (df (mu K a) X)
  have c3n := kxn (df (mu K b') X) (df (mu K a') X)
  have zero : ∀ {t : Int}, K * K * t = 0 → t = 0 := fun e => by rcases Int.mul_eq_zero.mp e with e | e <;> omega
  have tp := zero ((tr_mu K a a' b X).trans (by omega))
  have tq := zero ((tr_mu K a a' b' X).trans (by omega))
  have tr' := zero ((tr_mu K b b' a X).trans (by omega))
  have ts := zero ((tr_mu K b b' a' X).trans (by omega))
  have swp : ∀ p q r : T2, bt p q r → bt q p r := fun p q r hh => by unfold bt at *; rw [Int.mul_comm (q.x - r.x), Int.mul_comm (q.y - r.y)]; exact hh
  unfold opp at oa ob
  rcases oa with ⟨a1, a2⟩ | ⟨a1, a2⟩ <;> rcases ob with ⟨b1, b2⟩ | ⟨b1, b2⟩
  · rcases Int.le_total (df (mu K a) X).y (df (mu K b) X).y with l | l
    · exact h.r tr' (lies hK a1 l b2 hc (by omega))
    · exact h.p tp (lies hK b1 l a2 (by omega) (by omega))
  · rcases Int.le_total (df (mu K a) X).y (df (mu K b') X).y with l | l
    · exact h.r tr' (swp _ _ _ (lies hK a1 l b1 (by omega) hc))
    · exact h.q tq (lies hK b2 l a2 (by omega) (by omega))
  · rcases Int.le_total (df (mu K a') X).y (df (mu K b) X).y with l | l
    · exact h.s ts (lies hK a2 l b2 (by omega) (by omega))
    · exact h.p tp (swp _ _ _ (lies hK b1 l a1 (by omega) (by omega)))
  · rcases Int.le_total (df (mu K a') X).y (df (mu K b') X).y with l | l
    · exact h.s ts (swp _ _ _ (lies hK a2 l b1 (by omega) (by omega)))
    · exact h.q tq (swp _ _ _ (lies hK b2 l a1 (by omega) (by omega)))
/-- No place in common, between the ends of both. -/
theorem NC.apart {a a' b b' X : T2} {K : Int} (h : NC a a' b b') (hK : 0 < K) (oa : Op (df (mu K a) X) (df (mu K a') X)) (ob : Op (df (mu K b) X) (df (mu K b') X)) : False := by
  have k1 := oa.k (df (mu K b) X)
  have k2 := oa.k (df (mu K b') X)
  have k3 := ob.k (df (mu K a) X)
  have k4 := ob.k (df (mu K a') X)
  have n1 := kxn (df (mu K a) X) (df (mu K b) X)
  have n2 := kxn (df (mu K a) X) (df (mu K b') X)
  have n3 := kxn (df (mu K a') X) (df (mu K b) X)
  have n4 := kxn (df (mu K a') X) (df (mu K b') X)
  have za := oa.1
  have zb := ob.1
  by_cases hc : kx (df (mu K a) X) (df (mu K b) X) = 0
  · obtain ⟨ha, ya⟩ := oa
    obtain ⟨hb, yb⟩ := ob
    rcases ya with ya | ⟨y1, y2, xa⟩
    · rcases yb with yb | ⟨y3, y4, xb⟩
      · exact h.aparty hK ha hb hc ya yb
      · exfalso
        have e : kx (df (mu K a) X) (df (mu K b) X) = -((df (mu K a) X).y * (df (mu K b) X).x) := by simp only [kx, y3]; grind
        rw [e] at hc
        have : (df (mu K a) X).y * (df (mu K b) X).x = 0 := by omega
        unfold opp at ya xb
        rcases Int.mul_eq_zero.mp this with e | e <;> omega
    · rcases yb with yb | ⟨y3, y4, xb⟩
      · exfalso
        have e : kx (df (mu K a) X) (df (mu K b) X) = (df (mu K a) X).x * (df (mu K b) X).y := by simp only [kx, y1]; grind
        rw [e] at hc
        unfold opp at yb xa
        rcases Int.mul_eq_zero.mp hc with e | e <;> omega
      · have es : ∀ q : T2, df (mu K (Go.Proofs.Ytipdfajojcpolaa.sw q)) (Go.Proofs.Ytipdfajojcpolaa.sw X) = Go.Proofs.Ytipdfajojcpolaa.sw (df (mu K q) X) := fun q => rfl
        have ks : ∀ u v : T2, kx (Go.Proofs.Ytipdfajojcpolaa.sw u) (Go.Proofs.Ytipdfajojcpolaa.sw v) = - kx u v := fun u v => by simp only [kx, Go.Proofs.Ytipdfajojcpolaa.sw]; grind
        refine h.sw.aparty (X := Go.Proofs.Ytipdfajojcpolaa.sw X) hK ?_ ?_ ?_ ?_ ?_
        · rw [es, es, ks]; omega
        · rw [es, es, ks]; omega
        · rw [es, es, ks]; omega
        · rw [es, es]; exact xa
        · rw [es, es]; exact xb
  · have tp := tr_mu K a a' b X
    have tq := tr_mu K a a' b' X
    have tr' := tr_mu K b b' a X
    have ts := tr_mu K b b' a' X
    refine h.x ⟨(opp_sq hK).mp ?_, (opp_sq hK).mp ?_⟩
    · rw [tp, tq]; unfold opp; omega
    · rw [tr', ts]; unfold opp; omega
theorem mu1 (u : T2) : mu 1 u = u := by simp [mu]
/-- c lies on the edge ab, its ends too. -/
def On (a b c : T2) : Prop := tr a b c = 0 ∧ bt a b c
theorem On.op {a b c : T2} (h : On a b c) : (c.x = a.x ∧ c.y = a.y) ∨ (c.x = b.x ∧ c.y = b.y) ∨ Op (df (mu 1 a) c) (df (mu 1 b) c) := by
  obtain ⟨h1, h2, h3⟩ := h
  rw [mu1, mu1]
  have e : kx (df a c) (df b c) = tr a b c := by simp only [tr, kx, df]; grind
  have sx := mul_sg (a.x - c.x) (b.x - c.x)
  have sy := mul_sg (a.y - c.y) (b.y - c.y)
  have e2 : kx (df a c) (df b c) = (a.x - c.x) * (b.y - c.y) - (a.y - c.y) * (b.x - c.x) := rfl
  by_cases y0 : (a.y - c.y) * (b.y - c.y) = 0
  · rcases Int.mul_eq_zero.mp y0 with z | z
    · -- a and c on one row
      have e3 : (a.x - c.x) * (b.y - c.y) = 0 := by rw [← h1, ← e, e2, z]; simp
      rcases Int.mul_eq_zero.mp e3 with z2 | z2
      · left; omega
      · by_cases x0 : (a.x - c.x) * (b.x - c.x) = 0
        · rcases Int.mul_eq_zero.mp x0 with z3 | z3
          · left; omega
          · right; left; omega
        · right; right
          refine ⟨by rw [e]; exact h1, .inr ⟨z, z2, ?_⟩⟩
          show opp (a.x - c.x) (b.x - c.x)
          unfold opp; omega
    · have e3 : (a.y - c.y) * (b.x - c.x) = 0 := by have : (a.y - c.y) * (b.x - c.x) = (a.x - c.x) * (b.y - c.y) - kx (df a c) (df b c) := by rw [e2]; omega
                                                    rw [this, e, h1, z]; simp
      rcases Int.mul_eq_zero.mp e3 with z2 | z2
      · by_cases x0 : (a.x - c.x) * (b.x - c.x) = 0
        · rcases Int.mul_eq_zero.mp x0 with z3 | z3
          · left; omega
          · right; left; omega
        · right; right
          refine ⟨by rw [e]; exact h1, .inr ⟨z2, z, ?_⟩⟩
          show opp (a.x - c.x) (b.x - c.x)
          unfold opp; omega
      · right; left; omega
  · right; right
    refine ⟨by rw [e]; exact h1, .inl ?_⟩
    show opp (a.y - c.y) (b.y - c.y)
    unfold opp; omega
theorem T2.ext' {a b : T2} (hx : a.x = b.x) (hy : a.y = b.y) : a = b := by cases a; cases b; simp only at hx hy; subst hx hy; rfl
/-- No Spot on both. -/
theorem NC.none {a a' b b' c : T2} (h : NC a a' b b') (h1 : On a a' c) (h2 : On b b' c) : False := by
  rcases h1.op with e | e | oa
  · obtain rfl := T2.ext' e.1 e.2
    exact h.r h2.1 h2.2
  · obtain rfl := T2.ext' e.1 e.2
    exact h.s h2.1 h2.2
  · rcases h2.op with e | e | ob
    · obtain rfl := T2.ext' e.1 e.2
      exact h.p h1.1 h1.2
    · obtain rfl := T2.ext' e.1 e.2
      exact h.q h1.1 h1.2
    · exact h.apart (K := 1) (by omega) oa ob
theorem So.op {X a b : T2} (h : So X a b) : Op (df a X) (df b X) := by
  refine ⟨h.1, .inl ?_⟩
  have := h.2
  unfold opp df; simp only; omega
end Go.Proofs.Ytipdfajojcpolaa
