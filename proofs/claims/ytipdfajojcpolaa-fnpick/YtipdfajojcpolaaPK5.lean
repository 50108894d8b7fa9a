/-
  What is crossed from a Spot that lies on no edge: the number of all corners, or one less.
-/
import Derived.Test.YtipdfajojcpolaaPK4
namespace Go.Proofs.Ytipdfajojcpolaa
def mu (K : Int) (u : T2) : T2 := ⟨K * u.x, K * u.y⟩
theorem chi_mu {K : Int} (hK : 0 < K) (u v : T2) : chi (mu K u) (mu K v) = chi u v := by
  rw [chi_pos (u := mu K u) (w := u) (a := 1) (b := K) (by omega) hK (by simp [mu]) (by simp [mu]), ← Int.neg_neg (chi u (mu K v)), ← chi_neg, chi_pos (u := mu K v) (w := v) (a := 1) (b := K) (by omega) hK (by simp [mu]) (by simp [mu]), chi_neg, Int.neg_neg]
theorem df_mu (K : Int) (a s : T2) : df (mu K a) (mu K s) = mu K (df a s) := by simp only [df, mu]; congr 1 <;> grind
theorem kx_mu (K : Int) (u v : T2) : kx (mu K u) (mu K v) = K * K * kx u v := by simp only [kx, mu]; grind
theorem hB_mu {K : Int} (hK : 0 < K) (u : T2) : hB (mu K u) = hB u := by
  have sg : ∀ r : Int, (0 < K * r ↔ 0 < r) ∧ (K * r = 0 ↔ r = 0) := by
    intro r
    rcases Int.lt_trichotomy r 0 with h | h | h
    · have := Int.mul_neg_of_pos_of_neg hK h; omega
    · subst h; simp
    · have := Int.mul_pos hK h; omega
  unfold hB mu
  have a := sg u.x
  have b := sg u.y
  simp only [a.1, b.1, b.2]
theorem W_mu {n : Nat} {p : Nat → T2} {K : Int} (hK : 0 < K) (s : T2) : W n (fun i => mu K (p i)) (mu K s) = W n p s := by
  unfold W
  refine sm_congr fun j _ => ?_
  rw [df_mu, df_mu, chi_mu hK]
theorem ev_mu (p : Nat → T2) (K : Int) (i : Nat) : ev (fun i => mu K (p i)) i = mu K (ev p i) := df_mu _ _ _
theorem lam_mu {n : Nat} {p : Nat → T2} {K : Int} (hK : 0 < K) (i : Nat) : lam n (fun i => mu K (p i)) i = lam n p i := by
  unfold lam
  rw [W_mu hK, ev_mu, ev_mu, chi_mu hK, hB_mu hK]
theorem Out.mul {k1 k2 k3 k4 c : Int} (h : Out k1 k2 k3 k4) (hc : 0 < c) : Out (c * k1) (c * k2) (c * k3) (c * k4) := by
  have sg : ∀ r : Int, (0 ≤ c * r → 0 ≤ r) ∧ (c * r ≤ 0 → r ≤ 0) := by
    intro r
    rcases Int.lt_trichotomy r 0 with h | h | h
    · have := Int.mul_neg_of_pos_of_neg hc h; omega
    · subst h; simp
    · have := Int.mul_pos hc h; omega
  constructor
  · intro a b d e
    obtain ⟨z1, z2, z3, z4⟩ := h.l ((sg _).1 a) ((sg _).1 b) ((sg _).1 d) ((sg _).1 e)
    simp [z1, z2, z3, z4]
  · intro a b d e
    obtain ⟨z1, z2, z3, z4⟩ := h.r ((sg _).2 a) ((sg _).2 b) ((sg _).2 d) ((sg _).2 e)
    simp [z1, z2, z3, z4]
theorem Pg.mul {n : Nat} {p : Nat → T2} (h : Pg n p) {K : Int} (hK : 0 < K) : Pg n (fun i => mu K (p i)) where
  n3 := h.n3
  per i := by show mu K (p (i + n)) = mu K (p i); rw [h.per]
  nd i t h1 h2 := by
    have := (h.nd i t h1 h2).mul (c := K * K) (Int.mul_pos hK hK)
    unfold ND
    simp only [df_mu, kx_mu]
    exact this
  tn i := by
    rw [ev_mu, ev_mu, kx_mu]
    have := h.tn i
    intro e
    rcases Int.mul_eq_zero.mp e with e | e
    · have := Int.mul_pos hK hK; omega
    · exact this e
/-- X lies on the edge ab, and neither end is as high. -/
def So (X a b : T2) : Prop := kx (df a X) (df b X) = 0 ∧ ((a.y < X.y ∧ X.y < b.y) ∨ (b.y < X.y ∧ X.y < a.y))
theorem argmin (Q : Nat → Prop) (f : Nat → Int) : ∀ n : Nat, (∃ j, j < n ∧ Q j) → ∃ j, j < n ∧ Q j ∧ ∀ i, i < n → Q i → f j ≤ f i
  | 0, ⟨j, hj, _⟩ => by omega
  | n + 1, ⟨j, hj, hq⟩ => by
    by_cases h : ∃ j, j < n ∧ Q j
    · obtain ⟨k, h1, h2, h3⟩ := argmin Q f n h
      by_cases hn : Q n ∧ f n < f k
      · refine ⟨n, by omega, hn.1, fun i hi qi => ?_⟩
        by_cases e : i = n
        · subst e; omega
        · have := h3 i (by omega) qi; omega
      · refine ⟨k, by omega, h2, fun i hi qi => ?_⟩
        by_cases e : i = n
        · subst e
          rcases Int.lt_or_le (f i) (f k) with h' | h'
          · exact absurd ⟨qi, h'⟩ hn
          · exact h'
        · exact h3 i (by omega) qi
    · obtain rfl : j = n := by
        rcases Nat.lt_or_ge j n with h' | h'
        · exact absurd ⟨j, h', hq⟩ h
        · omega
      refine ⟨j, by omega, hq, fun i hi qi => ?_⟩
      by_cases e : i = j
      · subst e; omega
      · exact absurd ⟨i, by omega, qi⟩ h
theorem sm_one {f g : Nat → Int} {j : Nat} {c : Int} : ∀ {n : Nat}, j < n → (∀ i, i < n → i ≠ j → f i = g i) → f j = g j + c → sm f n = sm g n + c
  | n + 1, hj, h1, h2 => by
    simp only [sm]
    by_cases e : j = n
    · subst e
      rw [sm_congr (fun i hi => h1 i (by omega) (by omega)), h2]; omega
    · rw [sm_one (n := n) (by omega) (fun i hi => h1 i (by omega)) h2, h1 n (by omega) (by omega)]; omega
set_option maxHeartbeats 2000000 in
/-- On a row that no corner is on, where each edge that goes through it does so at a Spot. -/
theorem W_row {n : Nat} {p : Nat → T2} (h : Pg n p) (S : T2) (hrow : ∀ j, (p j).y ≠ S.y) (xi : Nat → Int)
    (hxi : ∀ j, j < n → (p j).y ≠ (p (j + 1)).y → kx (df (p j) S) (df (p (j + 1)) S) = xi j * ((p (j + 1)).y - (p j).y))
    (hd : ∀ i j, i < n → j < n → i ≠ j → ∀ X, So X (p i) (p (i + 1)) → So X (p j) (p (j + 1)) → False) : W n p S = lam n p 0 ∨ W n p S = lam n p 0 - 1 := by
  have hlam := (turned h).2
  by_cases hc : ∃ j, j < n ∧ chi (df (p j) S) (df (p (j + 1)) S) ≠ 0
  · obtain ⟨j, hj, hcj, hmin⟩ := argmin _ xi n hc
    -- what is crossed, and where
    have fact : ∀ i, i < n → (chi (df (p i) S) (df (p (i + 1)) S) = 1 ↔ ((p i).y < S.y ∧ S.y < (p (i + 1)).y ∧ 0 < xi i)) ∧ (chi (df (p i) S) (df (p (i + 1)) S) = -1 ↔ ((p (i + 1)).y < S.y ∧ S.y < (p i).y ∧ 0 < xi i)) ∧ (chi (df (p i) S) (df (p (i + 1)) S) = 0 ∨ chi (df (p i) S) (df (p (i + 1)) S) = 1 ∨ chi (df (p i) S) (df (p (i + 1)) S) = -1) := by
      intro i hi
      have r1 := hrow i
      have r2 := hrow (i + 1)
      have hk := hxi i hi
      have sgn := mul_sg (xi i) ((p (i + 1)).y - (p i).y)
      have mp : 0 < xi i → 0 < (p (i + 1)).y - (p i).y → 0 < xi i * ((p (i + 1)).y - (p i).y) := Int.mul_pos
      have mn : 0 < xi i → (p (i + 1)).y - (p i).y < 0 → xi i * ((p (i + 1)).y - (p i).y) < 0 := Int.mul_neg_of_pos_of_neg
      unfold chi
      generalize kx (df (p i) S) (df (p (i + 1)) S) = k at *
      generalize xi i * ((p (i + 1)).y - (p i).y) = q at *
      simp only [df]
      unfold chN
      split <;> (try split) <;> omega
    have hxj : 0 < xi j := by have := fact j hj; omega
    obtain ⟨X, hX⟩ : ∃ X : T2, X = ⟨S.x + xi j, S.y⟩ := ⟨_, rfl⟩
    have kX : ∀ i, i < n → (p i).y ≠ (p (i + 1)).y → kx (df (p i) X) (df (p (i + 1)) X) = (xi i - xi j) * ((p (i + 1)).y - (p i).y) := by
      intro i hin hi
      have e : kx (df (p i) X) (df (p (i + 1)) X) = kx (df (p i) S) (df (p (i + 1)) S) - xi j * ((p (i + 1)).y - (p i).y) := by rw [hX]; simp only [kx, df]; grind
      rw [e, hxi i hin hi]; grind
    have hXy : X.y = S.y := by rw [hX]
    have same : ∀ i, i < n → i ≠ j → chi (df (p i) S) (df (p (i + 1)) S) = chi (df (p i) X) (df (p (i + 1)) X) := by
      intro i hi hij
      have fi := fact i hi
      have fj := fact j hj
      have mi := hmin i hi
      have ne : ((p i).y < S.y ∧ S.y < (p (i + 1)).y) ∨ ((p (i + 1)).y < S.y ∧ S.y < (p i).y) → xi i ≠ xi j := by
        intro hs e
        refine hd i j hi hj hij X ⟨?_, by rw [hXy]; exact hs⟩ ⟨?_, by rw [hXy]; omega⟩
        · rw [kX i hi (by omega), e]; simp
        · rw [kX j hj (by omega)]; simp
      have r1 := hrow i
      have r2 := hrow (i + 1)
      have hk := kX i hi
      have sgn := mul_sg (xi i - xi j) ((p (i + 1)).y - (p i).y)
      have mp : 0 < xi i - xi j → 0 < (p (i + 1)).y - (p i).y → 0 < (xi i - xi j) * ((p (i + 1)).y - (p i).y) := Int.mul_pos
      have mn : 0 < xi i - xi j → (p (i + 1)).y - (p i).y < 0 → (xi i - xi j) * ((p (i + 1)).y - (p i).y) < 0 := Int.mul_neg_of_pos_of_neg
      have ci : chi (df (p i) X) (df (p (i + 1)) X) = chN ((p i).y - S.y) ((p (i + 1)).y - S.y) (kx (df (p i) X) (df (p (i + 1)) X)) := by unfold chi; rw [← hXy]; rfl
      rw [ci]
      generalize chi (df (p i) S) (df (p (i + 1)) S) = c at *
      generalize chi (df (p j) S) (df (p (j + 1)) S) = cj at *
      generalize kx (df (p i) X) (df (p (i + 1)) X) = k at *
      generalize (xi i - xi j) * ((p (i + 1)).y - (p i).y) = q at *
      unfold chN
      split
      · omega
      · split <;> omega
    have fj := fact j hj
    have zj : chi (df (p j) X) (df (p (j + 1)) X) = 0 := by
      refine chi_k0 ?_
      rw [kX j hj (by omega)]; simp
    have hW : W n p S = W n p X + chi (df (p j) S) (df (p (j + 1)) S) := by
      unfold W
      exact sm_one hj same (by rw [zj]; omega)
    have kS := hxi j hj (by omega)
    have hmid : ∃ t m, Mid X (p j) (p (j + 1)) t m := by
      rcases (show ((p j).y < S.y ∧ S.y < (p (j + 1)).y) ∨ ((p (j + 1)).y < S.y ∧ S.y < (p j).y) by omega) with hs | hs
      · refine ⟨S.y - (p j).y, (p (j + 1)).y - (p j).y, by omega, by omega, ?_, ?_⟩
        · rw [hX]; simp only [kx, df] at kS ⊢; grind
        · rw [hX]; simp only; grind
      · refine ⟨(p j).y - S.y, (p j).y - (p (j + 1)).y, by omega, by omega, ?_, ?_⟩
        · rw [hX]; simp only [kx, df] at kS ⊢; grind
        · rw [hX]; simp only; grind
    obtain ⟨t, m, hm⟩ := hmid
    rw [hW, W_mid h j hm]
    have hh : hB (ev p j) = if (p j).y < (p (j + 1)).y then 1 else 0 := by
      unfold hB ev df
      simp only
      have : (p j).y ≠ (p (j + 1)).y := by omega
      split <;> split <;> omega
    rw [hh]
    split <;> omega
  · have hz : W n p S = 0 := by
      unfold W
      refine (sm_congr fun j hj => ?_).trans (sm_zero n)
      rcases Int.lt_trichotomy (chi (df (p j) S) (df (p (j + 1)) S)) 0 with h' | h' | h'
      · exact absurd ⟨j, hj, by omega⟩ hc
      · exact h'
      · exact absurd ⟨j, hj, by omega⟩ hc
    rw [hz]; omega
end Go.Proofs.Ytipdfajojcpolaa
