/-
  What is crossed from a Spot on no edge: at whatever Spot.
-/
import Derived.Test.YtipdfajojcpolaaPK5
namespace Go.Proofs.Ytipdfajojcpolaa
structure Sp (n : Nat) (p : Nat → T2) : Prop extends Pg n p where
  dj : ∀ i t, 2 ≤ t → t + 2 ≤ n → ∀ K : Int, 0 < K → ∀ X, So X (mu K (p i)) (mu K (p (i + 1))) → So X (mu K (p (i + t))) (mu K (p (i + t + 1))) → False
theorem So.turn {X a b c : T2} (h1 : So X a b) (h2 : So X b c) : kx (df b a) (df c b) = 0 := by
  obtain ⟨e1, y1⟩ := h1
  obtain ⟨e2, y2⟩ := h2
  have hy : b.y - X.y ≠ 0 := by omega
  have e : (b.y - X.y) * kx (df b a) (df c b) = 0 := by simp only [kx, df] at *; grind
  rcases Int.mul_eq_zero.mp e with h | h
  · exact absurd h hy
  · exact h
theorem Sp.far {n : Nat} {p : Nat → T2} (h : Sp n p) {K : Int} (hK : 0 < K) {i j : Nat} (hij : i < j) (hj : j < n) {X : T2} (h1 : So X (mu K (p i)) (mu K (p (i + 1)))) (h2 : So X (mu K (p j)) (mu K (p (j + 1)))) : False := by
  have hm := h.toPg.mul hK
  obtain ⟨t, rfl⟩ : ∃ t, j = i + t := ⟨j - i, by omega⟩
  by_cases e1 : t = 1
  · subst e1
    have := hm.tn i
    unfold ev at this
    exact this (So.turn h1 h2)
  · by_cases e2 : t + 1 = n
    · have hi : i = 0 := by omega
      subst hi
      have := hm.tn t
      unfold ev at this
      have p1 : p (t + 1) = p 0 := by rw [e2]; have := h.per 0; rwa [Nat.zero_add] at this
      have p2 : p (t + 1 + 1) = p 1 := by rw [e2, show n + 1 = 1 + n by omega]; exact h.per 1
      simp only [Nat.zero_add] at h1 h2
      rw [p1] at h2
      simp only [p1, p2] at this
      exact this (So.turn h2 h1)
    · exact h.dj i t (by omega) (by omega) K hK X h1 h2
theorem chi_pert {a b : T2} {K : Int} (h2 : 2 ≤ K) (hl : a.x - b.x < K) (hg : -K < a.x - b.x) (hoff : kx a b = 0 → ¬ ((a.y < 0 ∧ 0 ≤ b.y) ∨ (b.y < 0 ∧ 0 ≤ a.y))) : chi ⟨K * a.x, K * a.y + 1⟩ ⟨K * b.x, K * b.y + 1⟩ = chi a b := by
  have hK : 0 < K := by omega
  have ek : kx ⟨K * a.x, K * a.y + 1⟩ ⟨K * b.x, K * b.y + 1⟩ = K * (K * kx a b + (a.x - b.x)) := by simp only [kx]; grind
  have yy : ∀ r : Int, (r < 0 → K * r + 1 < 0) ∧ (0 ≤ r → 0 ≤ K * r + 1) := by
    intro r
    constructor
    · intro h
      have := Int.mul_le_mul_of_nonneg_left (show r ≤ -1 by omega) (show 0 ≤ K by omega)
      omega
    · intro h
      have := Int.mul_nonneg (show 0 ≤ K by omega) h
      omega
  have kk : (0 < kx a b → 0 < K * (K * kx a b + (a.x - b.x))) ∧ (kx a b < 0 → K * (K * kx a b + (a.x - b.x)) < 0) := by
    constructor
    · intro h
      refine Int.mul_pos hK ?_
      have := Int.mul_le_mul_of_nonneg_left (show 1 ≤ kx a b by omega) (show 0 ≤ K by omega)
      omega
    · intro h
      refine Int.mul_neg_of_pos_of_neg hK ?_
      have := Int.mul_le_mul_of_nonneg_left (show kx a b ≤ -1 by omega) (show 0 ≤ K by omega)
      omega
  have ya := yy a.y
  have yb := yy b.y
  unfold chi
  rw [ek]
  generalize K * (K * kx a b + (a.x - b.x)) = q at *
  generalize kx a b = k at *
  simp only
  generalize K * a.y + 1 = a' at *
  generalize K * b.y + 1 = b' at *
  unfold chN
  split <;> split <;> (try split) <;> (try split) <;> omega
theorem bound_ex (f : Nat → Int) : ∀ n : Nat, ∃ K : Int, 2 ≤ K ∧ ∀ j, j < n → f j < K ∧ -K < f j
  | 0 => ⟨2, by omega, fun j hj => by omega⟩
  | n + 1 => by
    obtain ⟨K, h1, h2⟩ := bound_ex f n
    refine ⟨K + (f n).natAbs, by omega, fun j hj => ?_⟩
    by_cases e : j = n
    · subst e; omega
    · have := h2 j (by omega); omega
theorem div_ex (f : Nat → Int) : ∀ n : Nat, ∃ M : Int, 0 < M ∧ ∀ j, j < n → f j ≠ 0 → f j ∣ M
  | 0 => ⟨1, by omega, fun j hj => by omega⟩
  | n + 1 => by
    obtain ⟨M, h1, h2⟩ := div_ex f n
    by_cases e : f n = 0
    · refine ⟨M, h1, fun j hj h => ?_⟩
      by_cases e' : j = n
      · subst e'; exact absurd e h
      · exact h2 j (by omega) h
    · refine ⟨M * (f n).natAbs, Int.mul_pos h1 (by omega), fun j hj h => ?_⟩
      by_cases e' : j = n
      · subst e'
        exact Int.dvd_trans (Int.dvd_natAbs.mpr (Int.dvd_refl _)) (Int.dvd_mul_left _ _)
      · exact Int.dvd_trans (h2 j (by omega) h) (Int.dvd_mul_right _ _)
/-- What is crossed from a Spot that lies on no edge. -/
theorem W_off {n : Nat} {p : Nat → T2} (h : Sp n p) (s : T2) (hoff : ∀ j, j < n → kx (df (p j) s) (df (p (j + 1)) s) = 0 → ¬ (((df (p j) s).y < 0 ∧ 0 ≤ (df (p (j + 1)) s).y) ∨ ((df (p (j + 1)) s).y < 0 ∧ 0 ≤ (df (p j) s).y))) : W n p s = lam n p 0 ∨ W n p s = lam n p 0 - 1 := by
  obtain ⟨K, hK2, hKb⟩ := bound_ex (fun j => (p j).x - (p (j + 1)).x) n
  have hK : 0 < K := by omega
  obtain ⟨S, hS⟩ : ∃ S : T2, S = ⟨K * s.x, K * s.y - 1⟩ := ⟨_, rfl⟩
  have hd : ∀ j, df (mu K (p j)) S = ⟨K * (df (p j) s).x, K * (df (p j) s).y + 1⟩ := fun j => by rw [hS]; simp only [df, mu]; congr 1 <;> grind
  have hW : W n (fun i => mu K (p i)) S = W n p s := by
    unfold W
    refine sm_congr fun j hj => ?_
    show chi (df (mu K (p j)) S) (df (mu K (p (j + 1))) S) = _
    rw [hd, hd]
    have := hKb j hj
    exact chi_pert hK2 (by simp only [df]; omega) (by simp only [df]; omega) (hoff j hj)
  have hPg := h.toPg.mul hK
  obtain ⟨M, hM, hMd⟩ := div_ex (fun j => (mu K (p (j + 1))).y - (mu K (p j)).y) n
  rw [← hW, ← W_mu (K := M) hM, ← lam_mu (p := p) hK, ← lam_mu (K := M) hM]
  have hMK := Int.mul_pos hM hK
  refine W_row (hPg.mul hM) (mu M S) ?_ (fun j => kx (df (mu K (p j)) S) (df (mu K (p (j + 1))) S) * (M / ((mu K (p (j + 1))).y - (mu K (p j)).y))) ?_ ?_
  · intro j e
    have e : M * (K * (p j).y) = M * S.y := e
    have e2 : K * (p j).y = S.y := Int.eq_of_mul_eq_mul_left (by omega) e
    rw [hS] at e2
    simp only at e2
    have e3 : K * ((p j).y - s.y) = -1 := by rw [Int.mul_sub]; omega
    rcases Int.lt_or_le ((p j).y - s.y) 0 with h' | h'
    · have := Int.mul_le_mul_of_nonneg_left (show (p j).y - s.y ≤ -1 by omega) (show 0 ≤ K by omega)
      omega
    · have := Int.mul_nonneg (show 0 ≤ K by omega) h'
      omega
  · intro j hj hne
    have hne : M * (mu K (p j)).y ≠ M * (mu K (p (j + 1))).y := hne
    have hdy : (mu K (p (j + 1))).y - (mu K (p j)).y ≠ 0 := fun e => hne (by rw [show (mu K (p j)).y = (mu K (p (j + 1))).y by omega])
    have hdv := Int.ediv_mul_cancel (hMd j hj hdy)
    show kx (df (mu M (mu K (p j))) (mu M S)) (df (mu M (mu K (p (j + 1)))) (mu M S)) = _ * (M * (mu K (p (j + 1))).y - M * (mu K (p j)).y)
    rw [df_mu, df_mu, kx_mu, ← Int.mul_sub]
    generalize (mu K (p (j + 1))).y - (mu K (p j)).y = dy at *
    generalize kx (df (mu K (p j)) S) (df (mu K (p (j + 1))) S) = k at *
    generalize M / dy = d at *
    grind
  · have mm : ∀ u : T2, mu M (mu K u) = mu (M * K) u := fun u => by simp only [mu]; congr 1 <;> grind
    intro i j hi hj hij X h1 h2
    simp only [mm] at h1 h2
    rcases Nat.lt_or_gt_of_ne hij with h' | h'
    · exact h.far hMK h' hj h1 h2
    · exact h.far hMK h' hi h2 h1
end Go.Proofs.Ytipdfajojcpolaa
