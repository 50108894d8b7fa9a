/-
  The spec's Joined: the list that its recursion makes.
-/
import Derived.Test.YtbkiogedipmioaaGreatVMM3
import Derived.Test.YtbkiogedipmioaaGreatVML6
import Derived.Deep.Cut
import Derived.Deep.CutBlock
namespace Go.Proofs.YtbkiogedipmioaaGreat.V.M
open Go.RowKit Go.Joins
attribute [local go_sem ↓] Go.wp_at_zero Go.wp_at_succ

def anyOf (L : List T3) (c : T3) : Bool := L.any fun a => insT a c
def much (L : List T3) : Nat → T3 → Int
  | 0, c => if haveB L c then 2 else 0
  | n + 1, c => if haveB L c then 2 else if anyOf L c then (if (List.range 4).all (fun i => much L n (c.q i) == 2) then 2 else 1) else 0
theorem much_le (L : List T3) : ∀ n c, 0 ≤ much L n c ∧ much L n c ≤ 2
  | 0, c => by simp only [much]; split <;> simp
  | n + 1, c => by simp only [much]; split <;> (try split) <;> (try split) <;> simp
theorem have_of8 {L : List T3} (hok : ∀ a ∈ L, a.ok = true) {c : T3} (hc : c.ok = true) (h8 : c.l = 8) (h : anyOf L c = true) : haveB L c = true := by
  obtain ⟨a, ha, hi⟩ := List.any_eq_true.mp h
  obtain ⟨u, v⟩ := (ins_iff (hok a ha) hc).mp hi
  have hs : c.sz = 1 := by unfold T3.sz; rw [h8]; rfl
  have := a.sz_pos
  refine List.any_eq_true.mpr ⟨a, ha, (ins_iff hc (hok a ha)).mpr ?_⟩
  unfold T3.hi at *
  omega

end Go.Proofs.YtbkiogedipmioaaGreat.V.M
namespace Go.Proofs.YtbkiogedipmioaaGreat.V.M
open Go.RowKit Go.Joins
attribute [local go_sem ↓] Go.wp_at_zero Go.wp_at_succ

def cvB (x y a b : Int) (c : T3) : Bool := mB (rX c.l c.x c.y) (rY c.l c.x c.y) (rS c.l c.x c.y) (rS c.l c.x c.y) x y a b
def cvAllB (x y a b : Int) (c : T3) : Bool := decide (max (rX c.l c.x c.y) x = rX c.l c.x c.y ∧ max (rY c.l c.x c.y) y = rY c.l c.x c.y ∧ mW (rX c.l c.x c.y) (rS c.l c.x c.y) x a = rS c.l c.x c.y ∧ mW (rY c.l c.x c.y) (rS c.l c.x c.y) y b = rS c.l c.x c.y)
def cvAll (x y a b : Int) (c : T3) : Prop := cvAllB x y a b c = true
theorem cvAll_iff {x y a b : Int} {c : T3} : cvAll x y a b c ↔ max (rX c.l c.x c.y) x = rX c.l c.x c.y ∧ max (rY c.l c.x c.y) y = rY c.l c.x c.y ∧ mW (rX c.l c.x c.y) (rS c.l c.x c.y) x a = rS c.l c.x c.y ∧ mW (rY c.l c.x c.y) (rS c.l c.x c.y) y b = rS c.l c.x c.y := decide_eq_true_iff
def cvF (x y a b : Int) (c : T3) : Int := if cvB x y a b c then (if cvAllB x y a b c then 2 else 1) else 0
theorem cv8 {x y a b : Int} {c : T3} (hc : c.ok = true) (h8 : c.l = 8) (hb : cvB x y a b c = true) : cvAll x y a b c := by
  have h' : cellB c.l c.x c.y = true := hc
  unfold cvB mB at hb
  have hb := of_decide_eq_true hb
  rw [cvAll_iff]
  simp only [mW, rX, rY, rS, h', if_true] at hb ⊢
  have hs : sd c.l = 1 := by rw [h8]; decide
  rw [hs] at hb ⊢
  omega

theorem cell_three_at {w : World} {g : Nat} {a b c : Value} {t : TypeId} (hg : g = w.heap.size) : ∀ j u, [a, b, c][j]? = some u → (w.alloc (.cells #[a, b, c] t)).cell? ((⟨g, 0, none⟩ : Addr).add j) = some u := by
  subst hg; exact cell_three_new w a b c t

def coverL (x y a b : Int) : List T3 := if okB x y a b then dec (cvF x y a b) 8 zro else []
theorem own_empty (w : World) (base : Nat) (hb : base ≤ w.heap.size) : Ow (w.alloc (.cells #[] 89)) base (.slice (some ⟨w.heap.size, 0, none⟩) 0 0) [] :=
  ⟨rfl, .inr ⟨w.heap.size, 0, #[], rfl, hb, World.alloc_heap_new _ _, Nat.le_refl _, Nat.zero_le _, rfl, rfl⟩⟩
theorem own_empty_at {w : World} {base g : Nat} (hg : g = w.heap.size) (hb : base ≤ w.heap.size) : Ow (w.alloc (.cells #[] 89)) base (.slice (some ⟨g, 0, none⟩) 0 0) [] := by subst hg; exact own_empty w base hb

end Go.Proofs.YtbkiogedipmioaaGreat.V.M
namespace Go.Proofs.YtbkiogedipmioaaGreat.V.M
open Go.RowKit Go.Joins
attribute [local go_sem ↓] Go.wp_at_zero Go.wp_at_succ

def muF (L : List T3) (c : T3) : Int := much L (8 - c.l).toNat c
theorem no_cov {L : List T3} (hok : ∀ a ∈ L, a.ok = true) {c : T3} (hc : c.ok = true) (h1 : haveB L c = false) (h2 : anyOf L c = false) : ∀ k, mem k c → ¬ cov L k := by
  rintro k ⟨k1, k2⟩ ⟨a, ha, a1, a2⟩
  rcases lam hc (hok a ha) with h | h | h | h
  · omega
  · omega
  · have : haveB L c = true := List.any_eq_true.mpr ⟨a, ha, h⟩
    rw [h1] at this; cases this
  · have : anyOf L c = true := List.any_eq_true.mpr ⟨a, ha, h⟩
    rw [h2] at this; cases this
theorem much_two {L : List T3} (hok : ∀ a ∈ L, a.ok = true) : ∀ (n : Nat) (c : T3), c.ok = true → (8 - c.l).toNat = n → (much L n c = 2 ↔ full (cov L) c) ∧ (much L n c = 0 → ∀ k, mem k c → ¬ cov L k) := by
  intro n
  induction n with
  | zero =>
    intro c hc hn
    have h8 : c.l = 8 := by have := (ok_iff.mp hc).2.1; omega
    cases hh : haveB L c
    · have h2 : anyOf L c = false := by
        rw [Bool.eq_false_iff]; intro h; have := have_of8 hok hc h8 h; rw [hh] at this; cases this
      have hno := no_cov hok hc hh h2
      simp only [much, hh]
      exact ⟨⟨fun h => by simp at h, fun h => (hno c.lo ⟨Int.le_refl _, c.lt⟩ (h c.lo ⟨Int.le_refl _, c.lt⟩)).elim⟩, fun _ => hno⟩
    · simp only [much, hh]
      exact ⟨⟨fun _ => have_full hok hc hh, fun _ => rfl⟩, fun h => by simp at h⟩
  | succ n ih =>
    intro c hc hn
    have hl : c.l < 8 := by omega
    cases hh : haveB L c
    · cases h2 : anyOf L c
      · have hno := no_cov hok hc hh h2
        simp only [much, hh, h2]
        exact ⟨⟨fun h => by simp at h, fun h => (hno c.lo ⟨Int.le_refl _, c.lt⟩ (h c.lo ⟨Int.le_refl _, c.lt⟩)).elim⟩, fun _ => hno⟩
      · have hq : ∀ i, i < 4 → (much L n (c.q i) = 2 ↔ full (cov L) (c.q i)) := fun i hi => (ih (c.q i) (q_ok hc hl hi) (by show (8 - (c.l + 1)).toNat = n; omega)).1
        simp only [much, hh, h2]
        cases hall : (List.range 4).all (fun i => much L n (c.q i) == 2)
        · refine ⟨⟨fun h => by simp at h, fun h => ?_⟩, fun h => by simp at h⟩
          have : (List.range 4).all (fun i => much L n (c.q i) == 2) = true := List.all_eq_true.mpr fun i hi => by
            simp at hi; simp [(hq i hi).mpr (full_q hc hl hi h)]
          rw [hall] at this; cases this
        · refine ⟨⟨fun _ => full_of_q hc hl fun i hi => (hq i hi).mp (by have := List.all_eq_true.mp hall i (by simp; omega); simpa using this), fun _ => rfl⟩, fun h => by simp at h⟩
    · simp only [much, hh]
      exact ⟨⟨fun _ => have_full hok hc hh, fun _ => rfl⟩, fun h => by simp at h⟩
theorem muF_tells {L : List T3} (hok : ∀ a ∈ L, a.ok = true) : Tells (muF L) (cov L) := by
  refine ⟨fun c hc => (much_two hok _ c hc rfl).1, fun c hc => (much_two hok _ c hc rfl).2, fun c hc h8 => ?_⟩
  unfold muF
  rw [show (8 - c.l).toNat = 0 by omega]
  simp only [much]
  cases haveB L c <;> simp
theorem muF_at {L : List T3} {c : T3} {n : Nat} (h : (8 - c.l).toNat = n) : much L n c = muF L c := by subst h; rfl

/-- A list that lies below base. -/
def Slb (base : Nat) (w : World) (p : Option Addr) (L : List T3) : Prop := L = [] ∨ ∃ g off, p = some ⟨g, off, none⟩ ∧ g < base ∧ Cs w g off L
theorem Slb.sl {base : Nat} {w : World} {p : Option Addr} {L : List T3} (h : Slb base w p L) : Sl w p L := by
  rcases h with h | ⟨g, off, h1, _, h2⟩
  · exact .inl h
  · exact .inr ⟨g, off, h1, h2⟩
theorem Slb.step {base : Nat} {w w' : World} {p : Option Addr} {L : List T3} (h : Slb base w p L) (hb : Below w.heap.size w w') : Slb base w' p L := by
  rcases h with h | ⟨g, off, h1, h2, h3⟩
  · exact .inl h
  · exact .inr ⟨g, off, h1, h2, h3.step hb⟩
theorem Cs.grown {w w' : World} {g off : Nat} {L : List T3} {row : Option Nat} (h : Cs w g off L) (hg : w.grownBy w' row) (hne : row ≠ some g) : Cs w' g off L := by
  have hp : w'.heap[g]? = w.heap[g]? := hg.block g h.1 (fun e => hne e.symm)
  exact ⟨Nat.lt_of_lt_of_le h.1 hg.size, fun k c hk => ⟨(World.cell?_of_block (a := ⟨g, _, none⟩) hp).trans (h.2 k c hk).1, (World.cell?_of_block (a := ⟨g, _, none⟩) hp).trans (h.2 k c hk).2.1, (World.cell?_of_block (a := ⟨g, _, none⟩) hp).trans (h.2 k c hk).2.2⟩⟩
theorem Slb.grown {base : Nat} {w w' : World} {p : Option Addr} {L : List T3} {row : Option Nat} (h : Slb base w p L) (hg : w.grownBy w' row) (hr : ∀ r, row = some r → base ≤ r) : Slb base w' p L := by
  rcases h with h | ⟨g, off, h1, h2, h3⟩
  · exact .inl h
  · exact .inr ⟨g, off, h1, h2, h3.grown hg (fun e => by have := hr g e; omega)⟩
theorem Sl.slb {w : World} {p : Option Addr} {L : List T3} (h : Sl w p L) {base : Nat} (hb : w.heap.size ≤ base) : Slb base w p L := by
  rcases h with h | ⟨g, off, h1, h2⟩
  · exact .inl h
  · exact .inr ⟨g, off, h1, Nat.lt_of_lt_of_le h2.1 hb, h2⟩

def joinL (L : List T3) : List T3 := if okL L then dec (muF L) 8 zro else []

end Go.Proofs.YtbkiogedipmioaaGreat.V.M
