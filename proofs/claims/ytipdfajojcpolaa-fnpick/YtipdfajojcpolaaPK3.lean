/-
  How often the edges of a shape turn: once around, to the left or to the right.
-/
import Derived.Test.YtipdfajojcpolaaPK2
namespace Go.Proofs.Ytipdfajojcpolaa
/-- The lowest corner, of those the leftmost. -/
def Low (p : Nat → T2) : Prop := ∀ i, (p 0).y < (p i).y ∨ ((p 0).y = (p i).y ∧ (p 0).x ≤ (p i).x)
def G (p : Nat → T2) (i r : Nat) : Int := sm (fun t => chi (df (p (i + 1 + t)) (p i)) (df (p (i + 1 + t + 1)) (p i))) r
theorem low_chi {n : Nat} {p : Nat → T2} (hl : Low p) (hp : p n = p 0) (i j : Nat) : chi (df (p n) (p i)) (df (p n) (p j)) = 0 := by
  rw [hp]
  have hi := hl i
  have hj := hl j
  have k1 : (p 0).y - (p i).y = 0 → kx (df (p 0) (p i)) (df (p 0) (p j)) = ((p 0).x - (p i).x) * ((p 0).y - (p j).y) := by intro h; simp only [kx, df, h]; grind
  have k2 : (p 0).y - (p j).y = 0 → kx (df (p 0) (p i)) (df (p 0) (p j)) = -(((p 0).y - (p i).y) * ((p 0).x - (p j).x)) := by intro h; simp only [kx, df, h]; grind
  have s1 := mul_sg ((p 0).x - (p i).x) ((p 0).y - (p j).y)
  have s2 := mul_sg ((p 0).y - (p i).y) ((p 0).x - (p j).x)
  unfold chi
  generalize kx (df (p 0) (p i)) (df (p 0) (p j)) = k at *
  generalize ((p 0).x - (p i).x) * ((p 0).y - (p j).y) = m0 at *
  generalize ((p 0).y - (p i).y) * ((p 0).x - (p j).x) = m1 at *
  simp only [df]
  unfold chN
  split <;> (try split) <;> omega
theorem G_step {n : Nat} {p : Nat → T2} (h : Pg n p) (hl : Low p) {i r : Nat} (hi : 1 ≤ i) (hn : n = i + 2 + r) : G p i (r + 1) = chi (ev p i) (ev p (i + 1)) + G p (i + 1) r := by
  have hp : p n = p 0 := by have := h.per 0; rwa [Nat.zero_add] at this
  unfold G
  rw [sm_head]
  have tel := sm_tel (fun t => chi (df (p (i + 2 + t)) (p i)) (df (p (i + 2 + t)) (p (i + 1)))) r
  have cells : sm (fun t => chi (df (p (i + 1 + (t + 1))) (p i)) (df (p (i + 1 + (t + 1) + 1)) (p i))) r - sm (fun t => chi (df (p (i + 1 + 1 + t)) (p (i + 1))) (df (p (i + 1 + 1 + t + 1)) (p (i + 1)))) r = chi (df (p (i + 2 + 0)) (p i)) (df (p (i + 2 + 0)) (p (i + 1))) - chi (df (p (i + 2 + r)) (p i)) (df (p (i + 2 + r)) (p (i + 1))) := by
    rw [← sm_sub]
    refine (sm_congr fun t ht => ?_).trans tel
    have := cell' (h.nd i (t + 2) (by omega) (by omega))
    simp only [show i + (t + 2) = i + 2 + t by omega, show i + 2 + t + 1 = i + 2 + (t + 1) by omega] at this
    simp only [show i + 1 + (t + 1) = i + 2 + t by omega, show i + 2 + t + 1 = i + 2 + (t + 1) by omega, show i + 1 + 1 + t = i + 2 + t by omega]
    exact this
  have z := low_chi hl hp i (i + 1)
  rw [hn] at z
  rw [z] at cells
  have t1 := chi_tri (u := ev p i) (v := ev p (i + 1)) (w := df (p (i + 2)) (p i)) (by simp only [ev, df, Nat.add_assoc, Nat.reduceAdd]; omega) (by simp only [ev, df, Nat.add_assoc, Nat.reduceAdd]; omega)
  have n3 : df (p (i + 1)) (p i) = ev p i := rfl
  have n4 : df (p (i + 2)) (p (i + 1)) = ev p (i + 1) := rfl
  simp only [Nat.add_zero] at cells ⊢
  rw [n4] at cells
  rw [n3, show i + 1 + 1 = i + 2 by omega]
  simp only [show i + 1 + 1 = i + 2 by omega] at cells
  omega
theorem G_all {n : Nat} {p : Nat → T2} (h : Pg n p) (hl : Low p) : ∀ (r i : Nat), 1 ≤ i → n = i + 1 + r → G p i r = sm (fun t => chi (ev p (i + t)) (ev p (i + t + 1))) r
  | 0, i, _, _ => rfl
  | r + 1, i, hi, hn => by
    rw [G_step h hl hi (by omega), sm_head, G_all h hl r (i + 1) (by omega) (by omega)]
    simp only [Nat.add_zero]
    congr 1
    refine sm_congr fun t _ => ?_
    rw [show i + 1 + t = i + (t + 1) by omega]
theorem low_W {n : Nat} {p : Nat → T2} (hl : Low p) : W n p (p 0) = 0 := by
  unfold W
  refine (sm_congr fun j _ => ?_).trans (sm_zero n)
  have h1 := hl j
  have h2 := hl (j + 1)
  unfold chi
  exact ch_pp (by simp only [df]; omega) (by simp only [df]; omega)
theorem low_h {n : Nat} {p : Nat → T2} (h : Pg n p) (hl : Low p) : hB (ev p 0) = 1 ∧ hB (ev p (n - 1)) = 0 ∧ lam n p 0 = chi (ev p (n - 1)) (ev p 0) ∧ (lam n p 0 = 0 ∨ lam n p 0 = 1) := by
  have n3 := h.n3
  have hp : p n = p 0 := by have := h.per 0; rwa [Nat.zero_add] at this
  have hn1 : p (n - 1 + 1) = p 0 := by rw [show n - 1 + 1 = n by omega]; exact hp
  have hn2 : p (n - 1 + 1 + 1) = p 1 := by rw [show n - 1 + 1 + 1 = 1 + n by omega]; exact h.per 1
  have e2 : ev p (n - 1 + 1) = ev p 0 := by unfold ev; rw [hn1, hn2]
  have tn := h.tn (n - 1)
  rw [e2] at tn
  have h1 := hl 1
  have h2 := hl (n - 1)
  have x0 : (ev p 0).x = (p 1).x - (p 0).x := rfl
  have y0 : (ev p 0).y = (p 1).y - (p 0).y := rfl
  have x1 : (ev p (n - 1)).x = (p 0).x - (p (n - 1)).x := by unfold ev; rw [hn1]; rfl
  have y1 : (ev p (n - 1)).y = (p 0).y - (p (n - 1)).y := by unfold ev; rw [hn1]; rfl
  have nz0 : ¬ ((ev p 0).x = 0 ∧ (ev p 0).y = 0) := fun ⟨a, b⟩ => tn (by simp [kx, a, b])
  have nz1 : ¬ ((ev p (n - 1)).x = 0 ∧ (ev p (n - 1)).y = 0) := fun ⟨a, b⟩ => tn (by simp [kx, a, b])
  have hb0 : hB (ev p 0) = 1 := by unfold hB; rw [if_pos (by omega)]
  have hb1 : hB (ev p (n - 1)) = 0 := by unfold hB; rw [if_neg (by omega)]
  have hlam : lam n p 0 = chi (ev p (n - 1)) (ev p 0) := by
    rw [← lam_at h (n - 1)]
    unfold lam
    rw [hn1, e2, low_W hl, hb1]; omega
  refine ⟨hb0, hb1, hlam, ?_⟩
  rw [hlam]
  unfold chi chN
  rw [y0]
  split
  · right; rfl
  · split
    · omega
    · left; rfl
/-- All turns together. -/
theorem turns {n : Nat} {p : Nat → T2} (h : Pg n p) (hl : Low p) : sm (fun t => chi (ev p t) (ev p (t + 1))) n = 2 * lam n p 0 - 1 := by
  have n3 := h.n3
  obtain ⟨hb0, hb1, hlam, _⟩ := low_h h hl
  have hp : p n = p 0 := by have := h.per 0; rwa [Nat.zero_add] at this
  have e2 : ev p (n - 1 + 1) = ev p 0 := by
    unfold ev
    rw [show n - 1 + 1 = n by omega, hp, show n + 1 = 1 + n by omega, h.per 1]
  obtain ⟨m, rfl⟩ : ∃ m, n = m + 2 := ⟨n - 2, by omega⟩
  have hW : W (m + 2) p (p 1) = G p 1 m := by
    rw [← W_shift h.per (p 1) 1, sm_head]
    have a : sm (fun i => chi (df (p (1 + (i + 1))) (p 1)) (df (p (1 + (i + 1) + 1)) (p 1))) (m + 1) = sm (fun i => chi (df (p (1 + (i + 1))) (p 1)) (df (p (1 + (i + 1) + 1)) (p 1))) m + chi (df (p (1 + (m + 1))) (p 1)) (df (p (1 + (m + 1) + 1)) (p 1)) := rfl
    rw [a]
    have hz : p (1 + (m + 1) + 1) = p 1 := by rw [show 1 + (m + 1) + 1 = 1 + (m + 2) by omega]; exact h.per 1
    rw [hz, chi_z2]
    simp only [Nat.add_zero, chi_z1]
    have : G p 1 m = sm (fun i => chi (df (p (1 + (i + 1))) (p 1)) (df (p (1 + (i + 1) + 1)) (p 1))) m := by
      unfold G
      refine sm_congr fun t _ => ?_
      rw [show 1 + 1 + t = 1 + (t + 1) by omega]
    omega
  have hG := G_all h hl m 1 (by omega) (by omega)
  have hl0 : lam (m + 2) p 0 = W (m + 2) p (p 1) + chi (ev p 0) (ev p 1) + hB (ev p 0) := rfl
  have s1 : sm (fun t => chi (ev p t) (ev p (t + 1))) (m + 2) = sm (fun t => chi (ev p t) (ev p (t + 1))) (m + 1) + chi (ev p (m + 1)) (ev p (m + 1 + 1)) := rfl
  have s2 := sm_head (fun t => chi (ev p t) (ev p (t + 1))) m
  have s3 : sm (fun t => chi (ev p (t + 1)) (ev p (t + 1 + 1))) m = sm (fun t => chi (ev p (1 + t)) (ev p (1 + t + 1))) m := by
    refine sm_congr fun t _ => ?_
    rw [Nat.add_comm t 1]
  simp only [show m + 2 - 1 = m + 1 by omega] at e2 hlam
  rw [e2] at s1
  simp only [Nat.zero_add] at s2
  omega
end Go.Proofs.Ytipdfajojcpolaa
