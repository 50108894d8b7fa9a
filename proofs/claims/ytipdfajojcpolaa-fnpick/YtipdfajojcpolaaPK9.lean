/-
  Sums over all Spots of a box: what an edge is crossed, how many Spots it has.
-/
import Derived.Test.YtipdfajojcpolaaPK8
namespace Go.Proofs.Ytipdfajojcpolaa
def bx (X0 Y0 : Int) (w h : Nat) (f : T2 → Int) : Int := sm (fun r => sm (fun x => f ⟨X0 + (x : Nat), Y0 + (r : Nat)⟩) w) h
structure InB (X0 Y0 : Int) (w h : Nat) (a : T2) : Prop where
  x0 : X0 ≤ a.x
  x1 : a.x < X0 + w
  y0 : Y0 ≤ a.y
  y1 : a.y < Y0 + h
section
variable {X0 Y0 : Int} {w h : Nat}
theorem bx_congr {f g : T2 → Int} (e : ∀ s, InB X0 Y0 w h s → f s = g s) : bx X0 Y0 w h f = bx X0 Y0 w h g :=
  sm_congr fun r hr => sm_congr fun x hx => e _ ⟨by simp only; omega, by simp only; omega, by simp only; omega, by simp only; omega⟩
theorem bx_add (f g : T2 → Int) : bx X0 Y0 w h (fun s => f s + g s) = bx X0 Y0 w h f + bx X0 Y0 w h g := by
  unfold bx
  rw [← sm_add]
  exact sm_congr fun r _ => sm_add _ _ _
theorem bx_sub (f g : T2 → Int) : bx X0 Y0 w h (fun s => f s - g s) = bx X0 Y0 w h f - bx X0 Y0 w h g := by
  unfold bx
  rw [← sm_sub]
  exact sm_congr fun r _ => sm_sub _ _ _
theorem bx_mul (c : Int) (f : T2 → Int) : bx X0 Y0 w h (fun s => c * f s) = c * bx X0 Y0 w h f := by
  unfold bx
  rw [← sm_mul]
  exact sm_congr fun r _ => sm_mul _ _ _
theorem bx_zero : bx X0 Y0 w h (fun _ => 0) = 0 := by
  unfold bx
  exact (sm_congr fun r _ => sm_zero _).trans (sm_zero _)
theorem bx_sm (F : Nat → T2 → Int) : ∀ n : Nat, bx X0 Y0 w h (fun s => sm (fun j => F j s) n) = sm (fun j => bx X0 Y0 w h (F j)) n
  | 0 => bx_zero
  | n + 1 => by simp only [sm]; rw [bx_add, bx_sm F n]
def eqI (b s : T2) : Int := if s.x = b.x ∧ s.y = b.y then 1 else 0
theorem bx_eq {b : T2} (hb : InB X0 Y0 w h b) (f : T2 → Int) : bx X0 Y0 w h (fun s => eqI b s * f s) = f b := by
  obtain ⟨x0, x1, y0, y1⟩ := hb
  unfold bx
  have e : sm (fun r => sm (fun x => eqI b ⟨X0 + (x : Nat), Y0 + (r : Nat)⟩ * f ⟨X0 + (x : Nat), Y0 + (r : Nat)⟩) w) h = sm (fun r => f b * if r = (b.y - Y0).toNat then 1 else 0) h := by
    refine sm_congr fun r hr => ?_
    by_cases hry : r = (b.y - Y0).toNat
    · rw [if_pos hry]
      have e2 : sm (fun x => eqI b ⟨X0 + (x : Nat), Y0 + (r : Nat)⟩ * f ⟨X0 + (x : Nat), Y0 + (r : Nat)⟩) w = sm (fun x => f b * if x = (b.x - X0).toNat then 1 else 0) w := by
        refine sm_congr fun x hx => ?_
        unfold eqI
        by_cases hxx : x = (b.x - X0).toNat
        · rw [if_pos hxx, if_pos (by simp only; omega)]
          have : (⟨X0 + (x : Nat), Y0 + (r : Nat)⟩ : T2) = b := T2.ext' (by simp only; omega) (by simp only; omega)
          rw [this]; omega
        · rw [if_neg hxx, if_neg (by simp only; omega)]; omega
      rw [e2, sm_mul, one_sum (by omega)]
    · rw [if_neg hry]
      refine (sm_congr fun x hx => ?_).trans ((sm_zero w).trans (by omega))
      unfold eqI
      rw [if_neg (by simp only; omega)]; omega
  rw [e, sm_mul, one_sum (by omega)]; omega
def gdI (a b : T2) : Int := (Nat.gcd (b.y - a.y).natAbs (b.x - a.x).natAbs : Nat)
theorem box_up {a b : T2} (ha : InB X0 Y0 w h a) (hb : InB X0 Y0 w h b) (hup : a.y < b.y) : 2 * bx X0 Y0 w h (fun s => chi (df a s) (df b s)) = (b.y - a.y) * (a.x + b.x) - 2 * X0 * (b.y - a.y) + (b.x - a.x) + (b.y - a.y) - gdI a b := by
  obtain ⟨x0, x1, y0, y1⟩ := ha
  obtain ⟨x0', x1', y0', y1'⟩ := hb
  obtain ⟨D, hD⟩ : ∃ D : Nat, b.y = a.y + D := ⟨(b.y - a.y).toNat, by omega⟩
  obtain ⟨c, hc⟩ : ∃ c : Nat, a.y + 1 = Y0 + c := ⟨(a.y + 1 - Y0).toNat, by omega⟩
  have hDp : 0 < D := by omega
  have hDi : (0 : Int) < D := by omega
  obtain ⟨dx, hdx⟩ : ∃ dx, dx = b.x - a.x := ⟨_, rfl⟩
  unfold bx
  rw [window (c := c) (d := D) (by omega)]
  · have e : sm (fun k => sm (fun x => chi (df a ⟨X0 + (x : Nat), Y0 + ((c + k : Nat) : Int)⟩) (df b ⟨X0 + (x : Nat), Y0 + ((c + k : Nat) : Int)⟩)) w) D = sm (fun k => (a.x - X0) + cl ((k + 1 : Nat) * dx) D) D := by
      refine sm_congr fun k hk => ?_
      have kd : ((k + 1 : Nat) : Int) ≤ D := by omega
      have kp : (0 : Int) ≤ ((k + 1 : Nat) : Int) := by omega
      -- between the ends
      have lo : X0 - a.x ≤ cl ((k + 1 : Nat) * dx) D := by
        have : X0 - a.x - 1 < cl ((k + 1 : Nat) * dx) D := by
          rw [cl_lt hDi]
          have p1 : (X0 - a.x) * D = (X0 - a.x - 1) * D + D := by grind
          rcases Int.le_total 0 dx with hx | hx
          · have := Int.mul_nonneg kp hx
            have := Int.mul_nonpos_of_nonpos_of_nonneg (show X0 - a.x ≤ 0 by omega) (Int.le_of_lt hDi)
            omega
          · have q1 := Int.mul_le_mul_of_nonneg_right (show X0 - a.x ≤ dx by omega) (Int.le_of_lt hDi)
            have q2 : (D : Int) * dx ≤ ((k + 1 : Nat) : Int) * dx := Int.mul_le_mul_of_nonpos_right kd hx
            have q3 : dx * D = D * dx := Int.mul_comm _ _
            omega
        omega
      have hi : cl ((k + 1 : Nat) * dx) D ≤ X0 + w - a.x := by
        rcases Int.lt_or_le (X0 + w - a.x) (cl ((k + 1 : Nat) * dx) D) with h' | h'
        · exfalso
          rw [cl_lt hDi] at h'
          rcases Int.le_total 0 dx with hx | hx
          · have q1 := Int.mul_le_mul_of_nonneg_right (show dx ≤ X0 + w - a.x by omega) (Int.le_of_lt hDi)
            have q2 : ((k + 1 : Nat) : Int) * dx ≤ (D : Int) * dx := Int.mul_le_mul_of_nonneg_right kd hx
            have q3 : dx * D = D * dx := Int.mul_comm _ _
            omega
          · have := Int.mul_nonpos_of_nonneg_of_nonpos kp hx
            have := Int.mul_nonneg (show 0 ≤ X0 + w - a.x by omega) (Int.le_of_lt hDi)
            omega
        · exact h'
      rw [show (a.x - X0) + cl ((k + 1 : Nat) * dx) D = (a.x + cl ((k + 1 : Nat) * dx) D) - X0 by omega, ← row_sum (X0 := X0) (T := a.x + cl ((k + 1 : Nat) * dx) D) (w := w) (by omega) (by omega)]
      refine sm_congr fun x hx => ?_
      unfold chi
      rw [ch_up (by simp only [df]; omega) (by simp only [df]; omega)]
      have ek : kx (df a ⟨X0 + (x : Nat), Y0 + ((c + k : Nat) : Int)⟩) (df b ⟨X0 + (x : Nat), Y0 + ((c + k : Nat) : Int)⟩) = ((k + 1 : Nat) : Int) * dx - (X0 + (x : Nat) - a.x) * D := by
        have ey : Y0 + ((c + k : Nat) : Int) = a.y + ((k + 1 : Nat) : Int) := by omega
        rw [ey]
        simp only [kx, df]
        rw [hD, hdx]
        grind
      rw [ek]
      have := cl_lt (x := X0 + (x : Nat) - a.x) (t := ((k + 1 : Nat) : Int) * dx) hDi
      by_cases hh : X0 + (x : Nat) < a.x + cl ((k + 1 : Nat) * dx) D
      · rw [if_pos hh, if_pos (by have := this.mp (by omega); omega)]
      · rw [if_neg hh, if_neg (fun h' => hh (by have := this.mpr (by omega); omega))]
    rw [e, sm_add, sm_const]
    have s := cl_sum dx hDp
    rw [cnt_gcd dx hDp] at s
    have g : gdI a b = (Nat.gcd D dx.natAbs : Nat) := by unfold gdI; rw [hdx, hD, show a.y + (D : Int) - a.y = D by omega, Int.natAbs_natCast]
    rw [g, hD]
    have : (a.y + (D : Int) - a.y) = D := by omega
    rw [this]
    grind
  · intro r hr hn
    refine (sm_congr fun x _ => ?_).trans (sm_zero w)
    unfold chi
    rcases (show r < c ∨ c + D ≤ r by omega) with h' | h'
    · exact ch_pp (by simp only [df]; omega) (by simp only [df]; omega)
    · exact ch_nn (by simp only [df]; omega) (by simp only [df]; omega)
theorem gdI_comm (a b : T2) : gdI a b = gdI b a := by
  unfold gdI
  rw [show (a.y - b.y).natAbs = (b.y - a.y).natAbs by omega, show (a.x - b.x).natAbs = (b.x - a.x).natAbs by omega]
theorem gdI_level {a b : T2} (h : a.y = b.y) : gdI a b = (b.x - a.x).natAbs := by
  unfold gdI
  rw [show (b.y - a.y).natAbs = 0 by omega, Nat.gcd_zero_left]
/-- What an edge is crossed, over all Spots of the box. -/
theorem box_edge {a b : T2} (ha : InB X0 Y0 w h a) (hb : InB X0 Y0 w h b) : 2 * bx X0 Y0 w h (fun s => chi (df a s) (df b s)) = (b.y - a.y) * (a.x + b.x) - 2 * X0 * (b.y - a.y) + (b.x - a.x) + (b.y - a.y) + gdI a b * (1 - 2 * hB (df b a)) := by
  rcases Int.lt_trichotomy a.y b.y with hy | hy | hy
  · rw [box_up ha hb hy]
    have : hB (df b a) = 1 := by unfold hB df; rw [if_pos (by simp only; omega)]
    rw [this]; omega
  · have z : bx X0 Y0 w h (fun s => chi (df a s) (df b s)) = 0 := by
      refine (bx_congr fun s _ => ?_).trans bx_zero
      unfold chi
      rcases Int.lt_or_le (a.y - s.y) 0 with h' | h'
      · exact ch_nn h' (by simp only [df]; omega)
      · exact ch_pp h' (by simp only [df]; omega)
    rw [z, gdI_level hy, show b.y - a.y = 0 by omega]
    unfold hB df
    simp only
    by_cases hx : a.x < b.x
    · rw [if_pos (by omega)]; omega
    · rw [if_neg (by omega)]; omega
  · have u := box_up hb ha hy
    have e : bx X0 Y0 w h (fun s => chi (df a s) (df b s)) = - bx X0 Y0 w h (fun s => chi (df b s) (df a s)) := by
      have : bx X0 Y0 w h (fun s => chi (df a s) (df b s)) = bx X0 Y0 w h (fun s => -1 * chi (df b s) (df a s)) := bx_congr fun s _ => by rw [chi_neg]; omega
      rw [this, bx_mul]; omega
    have : hB (df b a) = 0 := by unfold hB df; rw [if_neg (by simp only; omega)]
    rw [e, this, gdI_comm a b]
    have e2 : (a.y - b.y) * (b.x + a.x) = -((b.y - a.y) * (a.x + b.x)) := by grind
    have e3 : 2 * X0 * (a.y - b.y) = -(2 * X0 * (b.y - a.y)) := by grind
    omega
end
end Go.Proofs.Ytipdfajojcpolaa
