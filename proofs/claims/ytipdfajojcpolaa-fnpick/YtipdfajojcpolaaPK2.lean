/-
  Around a shape: what is crossed from a corner, and how often the edges turn.
-/
import Derived.Test.YtipdfajojcpolaaPK1
namespace Go.Proofs.Ytipdfajojcpolaa
def sm (f : Nat → Int) : Nat → Int
  | 0 => 0
  | m + 1 => sm f m + f m
theorem sm_congr {f g : Nat → Int} : ∀ {n : Nat}, (∀ i, i < n → f i = g i) → sm f n = sm g n
  | 0, _ => rfl
  | n + 1, h => by simp only [sm]; rw [sm_congr (fun i hi => h i (by omega)), h n (by omega)]
theorem sm_add (f g : Nat → Int) : ∀ n : Nat, sm (fun i => f i + g i) n = sm f n + sm g n
  | 0 => rfl
  | n + 1 => by simp only [sm]; rw [sm_add f g n]; omega
theorem sm_sub (f g : Nat → Int) : ∀ n : Nat, sm (fun i => f i - g i) n = sm f n - sm g n
  | 0 => rfl
  | n + 1 => by simp only [sm]; rw [sm_sub f g n]; omega
theorem sm_tel (g : Nat → Int) : ∀ n : Nat, sm (fun i => g i - g (i + 1)) n = g 0 - g n
  | 0 => by simp [sm]
  | n + 1 => by simp only [sm]; rw [sm_tel g n]; omega
theorem sm_head (f : Nat → Int) : ∀ n : Nat, sm f (n + 1) = f 0 + sm (fun i => f (i + 1)) n
  | 0 => by simp [sm]
  | n + 1 => by
    have := sm_head f n
    simp only [sm] at this ⊢
    omega
theorem sm_zero : ∀ n : Nat, sm (fun _ => 0) n = 0
  | 0 => rfl
  | n + 1 => by simp only [sm]; rw [sm_zero n]; rfl
theorem sm_shift {f : Nat → Int} {n : Nat} (hp : ∀ i, f (i + n) = f i) : ∀ c : Nat, sm (fun i => f (i + c)) n = sm f n
  | 0 => rfl
  | c + 1 => by
    have ih := sm_shift hp c
    have h1 := sm_head (fun i => f (i + c)) n
    simp only [sm] at h1
    have h2 := hp c
    rw [Nat.add_comm] at h2
    have e : (fun i => f (i + 1 + c)) = fun i => f (i + (c + 1)) := by funext i; congr 1; omega
    rw [e] at h1
    simp only [Nat.zero_add] at h1
    omega
def neg (u : T2) : T2 := ⟨-u.x, -u.y⟩
def hB (u : T2) : Int := if 0 < u.y ∨ (u.y = 0 ∧ 0 < u.x) then 1 else 0
theorem chi_k0 {u v : T2} (h : kx u v = 0) : chi u v = 0 := by unfold chi; rw [h]; exact ch_0 _ _
theorem chi_tri {u v w : T2} (hx : w.x = u.x + v.x) (hy : w.y = u.y + v.y) : chi u w + chi w v = chi u v := by
  have e1 : kx u w = kx u v := by simp only [kx, hx, hy]; grind
  have e2 : kx w v = kx u v := by simp only [kx, hx, hy]; grind
  unfold chi
  rw [e1, e2, hy]
  generalize kx u v = k
  unfold chN
  split <;> split <;> split <;> (try split) <;> (try split) <;> (try split) <;> omega
theorem mul_sg (a b : Int) : (0 < a * b → (0 < a ∧ 0 < b) ∨ (a < 0 ∧ b < 0)) ∧ (a * b < 0 → (0 < a ∧ b < 0) ∨ (a < 0 ∧ 0 < b)) := by
  rcases Int.lt_trichotomy a 0 with ha | ha | ha <;> rcases Int.lt_trichotomy b 0 with hb | hb | hb
  · have := Int.mul_pos_of_neg_of_neg ha hb; omega
  · subst hb; simp
  · have := Int.mul_neg_of_neg_of_pos ha hb; omega
  · subst ha; simp
  · subst ha; simp
  · subst ha; simp
  · have := Int.mul_neg_of_pos_of_neg ha hb; omega
  · subst hb; simp
  · have := Int.mul_pos ha hb; omega
theorem chi_opp {u v : T2} (hk : kx u v ≠ 0) : chi u v - chi (neg u) (neg v) = hB v - hB u := by
  have e1 : kx (neg u) (neg v) = kx u v := by simp only [kx, neg]; grind
  have key0 : u.y = 0 → kx u v = u.x * v.y := by intro h; simp only [kx, h]; grind
  have key1 : v.y = 0 → kx u v = -(u.y * v.x) := by intro h; simp only [kx, h]; grind
  have s0 := mul_sg u.x v.y
  have s1 := mul_sg u.y v.x
  unfold chi
  rw [e1]
  generalize kx u v = k at *
  generalize u.x * v.y = m0 at *
  generalize u.y * v.x = m1 at *
  simp only [neg]
  unfold hB chN
  split <;> split <;> (try split) <;> (try split) <;> (try split) <;> (try split) <;> omega
def ev (p : Nat → T2) (i : Nat) : T2 := df (p (i + 1)) (p i)
def W (n : Nat) (p : Nat → T2) (s : T2) : Int := sm (fun j => chi (df (p j) s) (df (p (j + 1)) s)) n
structure Pg (n : Nat) (p : Nat → T2) : Prop where
  n3 : 3 ≤ n
  per : ∀ i, p (i + n) = p i
  nd : ∀ i t, 2 ≤ t → t + 2 ≤ n → ND (p i) (p (i + 1)) (p (i + t)) (p (i + t + 1))
  tn : ∀ i, kx (ev p i) (ev p (i + 1)) ≠ 0
theorem W_shift {n : Nat} {p : Nat → T2} (hp : ∀ i, p (i + n) = p i) (s : T2) (c : Nat) : sm (fun t => chi (df (p (c + t)) s) (df (p (c + t + 1)) s)) n = W n p s := by
  have := sm_shift (f := fun j => chi (df (p j) s) (df (p (j + 1)) s)) (n := n) (fun i => by simp only [show i + n + 1 = i + 1 + n by omega, hp]) c
  refine Eq.trans (sm_congr fun i _ => ?_) this
  simp only [Nat.add_comm i c]
theorem chi_z1 (s : T2) (v : T2) : chi (df s s) v = 0 := chi_k0 (by simp [kx, df])
theorem chi_z2 (s : T2) (v : T2) : chi v (df s s) = 0 := chi_k0 (by simp [kx, df])
/-- What is crossed from one corner and from the next. -/
theorem W_next {n : Nat} {p : Nat → T2} (h : Pg n p) (i : Nat) : W n p (p (i + 1)) + chi (neg (ev p i)) (neg (ev p (i + 1))) = W n p (p (i + 2)) + chi (ev p (i + 1)) (ev p (i + 2)) := by
  obtain ⟨m, rfl⟩ : ∃ m, n = m + 3 := ⟨n - 3, by have := h.n3; omega⟩
  rw [← W_shift h.per (p (i + 1)) (i + 1), ← W_shift h.per (p (i + 2)) (i + 1)]
  have split3 : ∀ f : Nat → Int, sm f (m + 3) = f 0 + f 1 + sm (fun t => f (t + 1 + 1)) m + f (m + 2) := fun f => by
    have a1 := sm_head f (m + 1)
    have a2 := sm_head (fun i => f (i + 1)) m
    have a3 : sm f (m + 3) = sm f (m + 1 + 1) + f (m + 2) := rfl
    simp only [Nat.zero_add] at a2
    omega
  rw [split3, split3]
  have tel := sm_tel (fun t => chi (df (p (i + 1 + (t + 1 + 1))) (p (i + 1))) (df (p (i + 1 + (t + 1 + 1))) (p (i + 2)))) m
  have cells : sm (fun t => chi (df (p (i + 1 + (t + 1 + 1))) (p (i + 1))) (df (p (i + 1 + (t + 1 + 1) + 1)) (p (i + 1)))) m - sm (fun t => chi (df (p (i + 1 + (t + 1 + 1))) (p (i + 2))) (df (p (i + 1 + (t + 1 + 1) + 1)) (p (i + 2)))) m = chi (df (p (i + 1 + (0 + 1 + 1))) (p (i + 1))) (df (p (i + 1 + (0 + 1 + 1))) (p (i + 2))) - chi (df (p (i + 1 + (m + 1 + 1))) (p (i + 1))) (df (p (i + 1 + (m + 1 + 1))) (p (i + 2))) := by
    rw [← sm_sub]
    refine (sm_congr fun t ht => ?_).trans tel
    have nd := h.nd (i + 1) (t + 1 + 1) (by omega) (by omega)
    have := cell' nd
    simp only [show i + 1 + 1 = i + 2 by omega] at this
    rw [this]
    simp only [show i + 1 + (t + 1 + 1) + 1 = i + 1 + (t + 1 + 1 + 1) by omega]
  have hq : p (i + 1 + (m + 2) + 1) = p (i + 1) := by rw [show i + 1 + (m + 2) + 1 = i + 1 + (m + 3) by omega]; exact h.per _
  have hq0 : p (i + 1 + (m + 2)) = p i := by rw [show i + 1 + (m + 2) = i + (m + 3) by omega]; exact h.per _
  simp only [show m + 1 + 1 = m + 2 by omega, show i + 1 + (0 + 1 + 1) = i + 3 by omega, hq0] at cells
  simp only [hq, hq0, show i + 1 + 0 = i + 1 by omega, show i + 1 + 1 = i + 2 by omega, show i + 2 + 1 = i + 3 by omega, chi_z1, chi_z2]
  have t1 := chi_tri (u := ev p (i + 1)) (v := ev p (i + 2)) (w := df (p (i + 3)) (p (i + 1))) (by simp only [ev, df, Nat.add_assoc, Nat.reduceAdd]; omega) (by simp only [ev, df, Nat.add_assoc, Nat.reduceAdd]; omega)
  have t2 := chi_tri (u := neg (ev p i)) (v := neg (ev p (i + 1))) (w := df (p i) (p (i + 2))) (by simp only [ev, df, neg, Nat.add_assoc, Nat.reduceAdd]; omega) (by simp only [ev, df, neg, Nat.add_assoc, Nat.reduceAdd]; omega)
  have n1 : df (p i) (p (i + 1)) = neg (ev p i) := by simp only [ev, df, neg]; congr 1 <;> omega
  have n2 : df (p (i + 1)) (p (i + 2)) = neg (ev p (i + 1)) := by simp only [ev, df, neg, Nat.add_assoc, Nat.reduceAdd]; congr 1 <;> omega
  have n3 : df (p (i + 2)) (p (i + 1)) = ev p (i + 1) := rfl
  have n4 : df (p (i + 3)) (p (i + 2)) = ev p (i + 2) := rfl
  rw [n1] at cells
  rw [n2, n3]
  rw [n4] at cells
  omega
def lam (n : Nat) (p : Nat → T2) (i : Nat) : Int := W n p (p (i + 1)) + chi (ev p i) (ev p (i + 1)) + hB (ev p i)
theorem lam_next {n : Nat} {p : Nat → T2} (h : Pg n p) (i : Nat) : lam n p (i + 1) = lam n p i := by
  have a := W_next h i
  have b := chi_opp (h.tn i)
  unfold lam
  simp only [show i + 1 + 1 = i + 2 by omega] at *
  omega
theorem lam_at {n : Nat} {p : Nat → T2} (h : Pg n p) : ∀ i, lam n p i = lam n p 0
  | 0 => rfl
  | i + 1 => (lam_next h i).trans (lam_at h i)
end Go.Proofs.Ytipdfajojcpolaa
