/-
  How many Spots of a box lie on an edge.
-/
import Derived.Test.YtipdfajojcpolaaPK9
namespace Go.Proofs.Ytipdfajojcpolaa
def onI (a b s : T2) : Int := if tr a b s = 0 ∧ (a.x - s.x) * (b.x - s.x) ≤ 0 ∧ (a.y - s.y) * (b.y - s.y) ≤ 0 then 1 else 0
theorem onI_t {a b s : T2} : On a b s → onI a b s = 1 := fun h => if_pos h
theorem onI_f {a b s : T2} : ¬ On a b s → onI a b s = 0 := fun h => if_neg h
theorem onI_comm (a b s : T2) : onI a b s = onI b a s := by
  unfold onI
  have e : tr b a s = - tr a b s := by simp only [tr, kx, df]; grind
  have e1 : (b.x - s.x) * (a.x - s.x) = (a.x - s.x) * (b.x - s.x) := Int.mul_comm _ _
  have e2 : (b.y - s.y) * (a.y - s.y) = (a.y - s.y) * (b.y - s.y) := Int.mul_comm _ _
  rw [e, e1, e2]
  by_cases h : tr a b s = 0 ∧ (a.x - s.x) * (b.x - s.x) ≤ 0 ∧ (a.y - s.y) * (b.y - s.y) ≤ 0
  · rw [if_pos h, if_pos (by omega)]
  · rw [if_neg h, if_neg (by omega)]
section
variable {X0 Y0 : Int} {w h : Nat}
theorem on_up {a b : T2} (ha : InB X0 Y0 w h a) (hb : InB X0 Y0 w h b) (hup : a.y < b.y) : bx X0 Y0 w h (onI a b) = gdI a b + 1 := by
  obtain ⟨x0, x1, y0, y1⟩ := ha
  obtain ⟨x0', x1', y0', y1'⟩ := hb
  obtain ⟨D, hD⟩ : ∃ D : Nat, b.y = a.y + D := ⟨(b.y - a.y).toNat, by omega⟩
  obtain ⟨c, hc⟩ : ∃ c : Nat, a.y = Y0 + c := ⟨(a.y - Y0).toNat, by omega⟩
  have hDp : 0 < D := by omega
  have hDi : (0 : Int) < D := by omega
  obtain ⟨dx, hdx⟩ : ∃ dx, dx = b.x - a.x := ⟨_, rfl⟩
  unfold bx
  rw [window (c := c) (d := D + 1) (by omega)]
  · have e : sm (fun k => sm (fun x => onI a b ⟨X0 + (x : Nat), Y0 + ((c + k : Nat) : Int)⟩) w) (D + 1) = sm (fun k => if (D : Int) ∣ (k : Nat) * dx then 1 else 0) (D + 1) := by
      refine sm_congr fun k hk => ?_
      have ey : Y0 + ((c + k : Nat) : Int) = a.y + (k : Int) := by omega
      rw [ey]
      have et : ∀ x : Int, tr a b ⟨x, a.y + (k : Int)⟩ = (k : Int) * dx - D * (x - a.x) := fun x => by simp only [tr, kx, df]; rw [hD, hdx]; grind
      by_cases hdv : (D : Int) ∣ (k : Nat) * dx
      · rw [if_pos hdv]
        obtain ⟨q, hq⟩ := hdv
        have kp : (0 : Int) ≤ (k : Int) := by omega
        have kd : (k : Int) ≤ D := by omega
        -- q lies between 0 and dx
        have hq2 : (0 ≤ q ∧ q ≤ dx) ∨ (dx ≤ q ∧ q ≤ 0) := by
          rcases Int.le_total 0 dx with hx | hx
          · left
            constructor
            · exact pos_of hDi (by rw [Int.mul_comm]; exact hq.symm) (Int.mul_nonneg kp hx)
            · have : 0 ≤ dx - q := pos_of (s := (D - k) * dx) hDi (by grind) (Int.mul_nonneg (by omega) hx)
              omega
          · right
            constructor
            · have : dx - q ≤ 0 := neg_of (s := (D - k) * dx) hDi (by grind) (Int.mul_nonpos_of_nonneg_of_nonpos (by omega) hx)
              omega
            · exact neg_of hDi (by rw [Int.mul_comm]; exact hq.symm) (Int.mul_nonpos_of_nonneg_of_nonpos kp hx)
        rw [← one_sum (c := (a.x + q - X0).toNat) (w := w) (by omega)]
        refine sm_congr fun x hx => ?_
        unfold onI
        rw [et, hq, ← Int.mul_sub]
        by_cases hxx : x = (a.x + q - X0).toNat
        · rw [if_pos hxx, if_pos]
          refine ⟨?_, ?_, ?_⟩
          · rw [show q - (X0 + (x : Int) - a.x) = 0 by omega]; simp
          · simp only
            rw [show a.x - (X0 + (x : Int)) = -q by omega, show b.x - (X0 + (x : Int)) = dx - q by omega]
            rcases hq2 with ⟨h1, h2⟩ | ⟨h1, h2⟩
            · exact Int.mul_nonpos_of_nonpos_of_nonneg (by omega) (by omega)
            · exact Int.mul_nonpos_of_nonneg_of_nonpos (by omega) (by omega)
          · simp only
            exact Int.mul_nonpos_of_nonpos_of_nonneg (by omega) (by omega)
        · rw [if_neg hxx, if_neg]
          rintro ⟨e0, _⟩
          rcases Int.mul_eq_zero.mp e0 with e0 | e0 <;> omega
      · rw [if_neg hdv]
        refine (sm_congr fun x _ => ?_).trans (sm_zero w)
        unfold onI
        rw [et, if_neg]
        rintro ⟨e0, _⟩
        exact hdv ⟨X0 + (x : Int) - a.x, by omega⟩
    rw [e]
    simp only [sm]
    rw [cnt_gcd dx hDp, if_pos (Int.dvd_mul_right _ _)]
    unfold gdI
    rw [hdx, hD, show a.y + (D : Int) - a.y = D by omega, Int.natAbs_natCast]
  · intro r hr hn
    refine (sm_congr fun x _ => ?_).trans (sm_zero w)
    unfold onI
    rw [if_neg]
    rintro ⟨_, _, h3⟩
    simp only at h3
    rcases (show r < c ∨ c + (D + 1) ≤ r by omega) with h' | h'
    · have := Int.mul_pos (show 0 < a.y - (Y0 + (r : Int)) by omega) (show 0 < b.y - (Y0 + (r : Int)) by omega); omega
    · have := Int.mul_pos_of_neg_of_neg (show a.y - (Y0 + (r : Int)) < 0 by omega) (show b.y - (Y0 + (r : Int)) < 0 by omega); omega
theorem on_level {a b : T2} (ha : InB X0 Y0 w h a) (hb : InB X0 Y0 w h b) (hy : a.y = b.y) (hx : a.x ≤ b.x) : bx X0 Y0 w h (onI a b) = gdI a b + 1 := by
  obtain ⟨x0, x1, y0, y1⟩ := ha
  obtain ⟨x0', x1', y0', y1'⟩ := hb
  rw [gdI_level hy]
  unfold bx
  obtain ⟨c, hc⟩ : ∃ c : Nat, a.y = Y0 + c := ⟨(a.y - Y0).toNat, by omega⟩
  rw [window (c := c) (d := 1) (by omega)]
  · simp only [sm, Nat.add_zero]
    have e : sm (fun x => onI a b ⟨X0 + (x : Nat), Y0 + (c : Int)⟩) w = sm (fun x => (if X0 + (x : Nat) < b.x + 1 then 1 else 0) - if X0 + (x : Nat) < a.x then 1 else 0) w := by
      refine sm_congr fun x _ => ?_
      unfold onI
      have et : tr a b ⟨X0 + (x : Nat), Y0 + (c : Int)⟩ = 0 := by simp only [tr, kx, df]; rw [← hc, hy]; grind
      have ey : (a.y - (Y0 + (c : Int))) * (b.y - (Y0 + (c : Int))) ≤ 0 := by rw [← hc, show a.y - a.y = 0 by omega]; simp
      simp only [et, ey, and_true, true_and]
      by_cases h1 : X0 + (x : Int) < a.x
      · have := Int.mul_pos (show 0 < a.x - (X0 + (x : Int)) by omega) (show 0 < b.x - (X0 + (x : Int)) by omega)
        rw [if_neg (by omega), if_pos (show X0 + (x : Int) < b.x + 1 by omega), if_pos h1]; rfl
      · by_cases h2 : X0 + (x : Int) < b.x + 1
        · rw [if_pos (Int.mul_nonpos_of_nonpos_of_nonneg (by omega) (by omega)), if_pos h2, if_neg h1]; rfl
        · have := Int.mul_pos_of_neg_of_neg (show a.x - (X0 + (x : Int)) < 0 by omega) (show b.x - (X0 + (x : Int)) < 0 by omega)
          rw [if_neg (by omega), if_neg h2, if_neg h1]; rfl
    rw [e, sm_sub, row_sum (by omega) (by omega), row_sum (by omega) (by omega)]
    omega
  · intro r hr hn
    refine (sm_congr fun x _ => ?_).trans (sm_zero w)
    unfold onI
    rw [if_neg]
    rintro ⟨_, _, h3⟩
    simp only at h3
    rcases (show r < c ∨ c + 1 ≤ r by omega) with h' | h'
    · have := Int.mul_pos (show 0 < a.y - (Y0 + (r : Int)) by omega) (show 0 < b.y - (Y0 + (r : Int)) by omega); omega
    · have := Int.mul_pos_of_neg_of_neg (show a.y - (Y0 + (r : Int)) < 0 by omega) (show b.y - (Y0 + (r : Int)) < 0 by omega); omega
theorem on_edge {a b : T2} (ha : InB X0 Y0 w h a) (hb : InB X0 Y0 w h b) : bx X0 Y0 w h (onI a b) = gdI a b + 1 := by
  have sw : bx X0 Y0 w h (onI a b) = bx X0 Y0 w h (onI b a) := bx_congr fun s _ => onI_comm a b s
  rcases Int.lt_trichotomy a.y b.y with hy | hy | hy
  · exact on_up ha hb hy
  · rcases Int.le_total a.x b.x with hx | hx
    · exact on_level ha hb hy hx
    · rw [sw, on_level hb ha hy.symm hx, gdI_comm]
  · rw [sw, on_up hb ha hy, gdI_comm]
end
end Go.Proofs.Ytipdfajojcpolaa
