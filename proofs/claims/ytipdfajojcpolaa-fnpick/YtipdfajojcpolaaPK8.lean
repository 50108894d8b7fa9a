/-
  Sums over rows: how far each row goes, how many Spots an edge has.
-/
import Derived.Test.YtipdfajojcpolaaPK7b
namespace Go.Proofs.Ytipdfajojcpolaa
theorem sm_cat (f : Nat → Int) (a : Nat) : ∀ b : Nat, sm f (a + b) = sm f a + sm (fun k => f (a + k)) b
  | 0 => by simp [sm]
  | b + 1 => by
    have := sm_cat f a b
    rw [show a + (b + 1) = a + b + 1 by omega]
    simp only [sm]; omega
theorem sm_mul (c : Int) (f : Nat → Int) : ∀ n : Nat, sm (fun i => c * f i) n = c * sm f n
  | 0 => by simp [sm]
  | n + 1 => by simp only [sm]; rw [sm_mul c f n, Int.mul_add]
theorem sm_const (c : Int) : ∀ n : Nat, sm (fun _ => c) n = n * c
  | 0 => by simp [sm]
  | n + 1 => by simp only [sm]; rw [sm_const c n]; grind
theorem sm_rev (f : Nat → Int) : ∀ D : Nat, sm (fun k => f (D - k)) D = sm (fun k => f (k + 1)) D
  | 0 => rfl
  | D + 1 => by
    rw [sm_head]
    have e : sm (fun i => f (D + 1 - (i + 1))) D = sm (fun k => f (D - k)) D := sm_congr fun i _ => by congr 1; omega
    rw [e, sm_rev f D]
    simp only [sm, Nat.sub_zero]; omega
/-- The least whole number that is not below t / d. -/
def cl (t d : Int) : Int := -((-t) / d)
theorem cl_lt {x t d : Int} (hd : 0 < d) : x < cl t d ↔ x * d < t := by
  unfold cl
  have h1 := Int.mul_ediv_self_le (x := -t) (k := d) (by omega)
  have h2 := Int.lt_mul_ediv_self_add (x := -t) (k := d) hd
  generalize -t / d = q at *
  constructor
  · intro h
    have := Int.mul_le_mul_of_nonneg_left (show q + 1 ≤ -x by omega) (Int.le_of_lt hd)
    have e1 : d * (q + 1) = d * q + d := by grind
    have e2 : d * -x = -(x * d) := by grind
    omega
  · intro h
    rcases Int.lt_or_le x (-q) with h' | h'
    · exact h'
    · have := Int.mul_le_mul_of_nonneg_left (show -q ≤ x by omega) (Int.le_of_lt hd)
      have e1 : d * -q = -(d * q) := by grind
      have e2 : d * x = x * d := by grind
      omega
theorem cl_pair {k D : Nat} {dx : Int} (hk : k ≤ D) (hD : 0 < D) : cl (k * dx) D + cl ((D - k : Nat) * dx) D = dx + (1 - if (D : Int) ∣ k * dx then 1 else 0) := by
  have hDi : (0 : Int) < D := by omega
  have e : -(((D - k : Nat) : Int) * dx) = k * dx + -dx * D := by
    have : ((D - k : Nat) : Int) = D - k := by omega
    rw [this]; grind
  unfold cl
  rw [e, Int.add_mul_ediv_right _ _ (by omega), Int.neg_ediv]
  have hs : (D : Int).sign = 1 := Int.sign_eq_one_of_pos hDi
  rw [hs]
  split <;> omega
theorem cl_sum {D : Nat} (dx : Int) (hD : 0 < D) : 2 * sm (fun k => cl ((k + 1 : Nat) * dx) D) D = D * dx + dx + D - sm (fun k => if (D : Int) ∣ k * dx then 1 else 0) D := by
  have hDi : (0 : Int) < D := by omega
  have r := sm_rev (fun k => cl (k * dx) D) D
  have h1 := sm_head (fun k => cl ((k : Nat) * dx) D) D
  have c0 : cl ((0 : Nat) * dx) D = 0 := by simp [cl]
  have cD : cl ((D : Nat) * dx) D = dx := by unfold cl; rw [show -((D : Int) * dx) = -dx * D by grind, Int.mul_ediv_cancel _ (by omega)]; omega
  have h2 : sm (fun k => cl ((k : Nat) * dx) D) (D + 1) = sm (fun k => cl ((k : Nat) * dx) D) D + cl ((D : Nat) * dx) D := rfl
  have pr : sm (fun k => cl ((k : Nat) * dx) D) D + sm (fun k => cl ((D - k : Nat) * dx) D) D = sm (fun k => dx + (1 - if (D : Int) ∣ (k : Nat) * dx then 1 else 0)) D := by
    rw [← sm_add]
    exact sm_congr fun k hk => cl_pair (by omega) hD
  rw [sm_add, sm_sub, sm_const, sm_const] at pr
  rw [c0] at h1
  rw [cD] at h2
  have e0 : (D : Int) * (1 : Int) = D := by omega
  omega
theorem mults (D : Nat) (hD : 0 < D) : ∀ g : Nat, sm (fun k => if D ∣ k then 1 else 0) (g * D) = g
  | 0 => by simp [sm]
  | g + 1 => by
    rw [Nat.add_mul, Nat.one_mul, sm_cat, mults D hD g]
    obtain ⟨d, rfl⟩ : ∃ d, D = d + 1 := ⟨D - 1, by omega⟩
    rw [sm_head]
    have z : sm (fun i => if (d + 1) ∣ g * (d + 1) + (i + 1) then (1 : Int) else 0) d = sm (fun _ => 0) d := sm_congr fun i hi => by
      rw [if_neg]
      intro h
      have := (Nat.dvd_add_right (Nat.dvd_mul_left (d + 1) g)).mp h
      have := Nat.le_of_dvd (by omega) this
      omega
    rw [z, sm_zero, if_pos (by rw [Nat.add_zero]; exact Nat.dvd_mul_left _ _)]
    omega
theorem cnt_gcd {D : Nat} (dx : Int) (hD : 0 < D) : sm (fun k => if (D : Int) ∣ (k : Nat) * dx then 1 else 0) D = Nat.gcd D dx.natAbs := by
  obtain ⟨g, hg⟩ : ∃ g, g = Nat.gcd D dx.natAbs := ⟨_, rfl⟩
  have hgp : 0 < g := by rw [hg]; exact Nat.gcd_pos_of_pos_left _ hD
  obtain ⟨D', hD'⟩ : g ∣ D := by rw [hg]; exact Nat.gcd_dvd_left _ _
  obtain ⟨x', hx'⟩ : g ∣ dx.natAbs := by rw [hg]; exact Nat.gcd_dvd_right _ _
  have hco : Nat.gcd D' x' = 1 := by
    have : g * Nat.gcd D' x' = g * 1 := by rw [← Nat.gcd_mul_left, ← hD', ← hx', ← hg, Nat.mul_one]
    exact Nat.eq_of_mul_eq_mul_left hgp this
  have hD'p : 0 < D' := by
    rcases Nat.eq_zero_or_pos D' with h | h
    · subst h; simp at hD'; omega
    · exact h
  have key : ∀ k : Nat, ((D : Int) ∣ (k : Nat) * dx) ↔ D' ∣ k := by
    intro k
    have a : ((D : Int) ∣ (k : Int) * dx) ↔ D ∣ k * dx.natAbs := by
      rw [← Int.natAbs_dvd_natAbs, Int.natAbs_mul, Int.natAbs_natCast, Int.natAbs_natCast]
    rw [a, hD', hx', show k * (g * x') = g * (k * x') by rw [Nat.mul_left_comm]]
    rw [Nat.mul_dvd_mul_iff_left hgp]
    constructor
    · intro h; exact Nat.Coprime.dvd_of_dvd_mul_right hco h
    · intro h; exact Nat.dvd_trans h (Nat.dvd_mul_right _ _)
  have e : sm (fun k => if (D : Int) ∣ (k : Nat) * dx then (1 : Int) else 0) D = sm (fun k => if D' ∣ k then 1 else 0) D := sm_congr fun k _ => by simp only [key]
  rw [e, ← hg]
  conv => lhs; rw [hD']
  exact mults D' hD'p g
theorem row_sum {X0 T : Int} : ∀ {w : Nat}, X0 ≤ T → T ≤ X0 + w → sm (fun x => if X0 + (x : Nat) < T then 1 else 0) w = T - X0
  | 0, h1, h2 => by simp [sm]; omega
  | w + 1, h1, h2 => by
    simp only [sm]
    by_cases h : T ≤ X0 + w
    · rw [row_sum h1 h, if_neg (by omega)]; omega
    · rw [if_pos (by omega)]
      have : sm (fun x => if X0 + (x : Nat) < T then (1 : Int) else 0) w = sm (fun _ => 1) w := sm_congr fun x hx => if_pos (by omega)
      rw [this, sm_const]; omega
theorem one_sum {c : Nat} : ∀ {w : Nat}, c < w → sm (fun x => if x = c then 1 else 0) w = 1
  | w + 1, h => by
    simp only [sm]
    by_cases e : c = w
    · subst e
      rw [if_pos rfl, (sm_congr fun x hx => if_neg (by omega)).trans (sm_zero c)]; rfl
    · rw [one_sum (w := w) (by omega), if_neg (by omega)]; rfl
/-- What a window of the rows holds. -/
theorem window {f : Nat → Int} {h c d : Nat} (hh : c + d ≤ h) (hin : ∀ r, r < h → ¬ (c ≤ r ∧ r < c + d) → f r = 0) : sm f h = sm (fun k => f (c + k)) d := by
  obtain ⟨e, rfl⟩ : ∃ e, h = c + d + e := ⟨h - (c + d), by omega⟩
  rw [sm_cat, sm_cat]
  have z1 : sm f c = 0 := (sm_congr fun r hr => hin r (by omega) (by omega)).trans (sm_zero c)
  have z2 : sm (fun k => f (c + d + k)) e = 0 := (sm_congr fun r hr => hin (c + d + r) (by omega) (by omega)).trans (sm_zero e)
  rw [z1, z2]; omega
end Go.Proofs.Ytipdfajojcpolaa
