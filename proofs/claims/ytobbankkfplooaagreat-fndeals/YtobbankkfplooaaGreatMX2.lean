/-
  The spec's Inside, and the law of Inside, walked.
-/
import Derived.Test.YtobbankkfplooaaGreatMC3
import Derived.Laws.EntriesVeiled
import Derived.Deep.RegionHeld3
namespace Go.Proofs.YtobbankkfplooaaGreat.M
open Go.RowKit Go.Joins
attribute [local go_sem] Oper.semAt_some

def half (x : Int) : Nat → Int
  | 0 => x
  | k + 1 => half x k / 2
def encU (l x y : Int) (k : Nat) : Value := .agg #[.int .i64 (l - k), .int .i64 (half x k), .int .i64 (half y k)]
def cellsU (l x y : Int) (k : Nat) : Array Value := #[.int .i64 (l - k), .int .i64 (half x k), .int .i64 (half y k)]
theorem up_ok {l x y : Int} (h : cellB l x y = true) (h0 : l ≠ 0) : cellB (l - 1) (x / 2) (y / 2) = true := by
  obtain ⟨a, b, c, d, e, f⟩ := cellB_t.mp h
  have hp : (2 : Int) ^ l.toNat = 2 * 2 ^ (l - 1).toNat := by
    rw [show l.toNat = (l - 1).toNat + 1 by omega, Int.pow_succ]; omega
  exact cellB_t.mpr (by omega)
theorem anc_ok {l x y : Int} (h : cellB l x y = true) : ∀ {k : Nat}, k ≤ l.toNat → cellB (l - k) (half x k) (half y k) = true
  | 0, _ => by simpa [half] using h
  | k + 1, hk => by
    have hl := cell_lev h
    have := up_ok (anc_ok h (k := k) (by omega)) (by omega)
    rw [show l - ((k + 1 : Nat) : Int) = l - k - 1 by omega]
    exact this
def intAt : Option Value → Int
  | some (.int _ n) => n
  | _ => 0
theorem keepF_cell {B g i : Nat} {W W' : World} (h : KeepF B W W') (hB : B ≤ g) (hg : g < W.heap.size) : W'.cell? ⟨g, i, none⟩ = W.cell? ⟨g, i, none⟩ := World.cell?_of_block (h.same g hB hg)
theorem keepF_frozen {B g i : Nat} {W W' : World} (h : KeepF B W W') (hB : B ≤ g) (hg : g < W.heap.size) : W'.frozen? ⟨g, i, none⟩ = W.frozen? ⟨g, i, none⟩ := World.frozen?_of_block (h.same g hB hg)

/-- Whether the Cell (m, p, q) is the k-th around (l, x, y), k below N. -/
def isUp (l x y m p q : Int) : Nat → Bool
  | 0 => false
  | k + 1 => isUp l x y m p q k || (l - k == m && half x k == p && half y k == q)
end Go.Proofs.YtobbankkfplooaaGreat.M
namespace Go.Proofs.YtobbankkfplooaaGreat.M
open Go.RowKit Go.Joins
attribute [local go_sem] Oper.semAt_some

theorem St.stab {B : Nat} {w X Y : World} {l : List (Nat × List Value)} (h : St w X l) (hb : Below B X Y) (hB : w.heap.size ≤ B) (hl : ∀ p ∈ l, p.1 < B) : St w Y l := by
  refine ⟨h.bel.trans (hb.mono hB), ?_⟩
  have hh := h.has
  clear h
  induction l with
  | nil => trivial
  | cons p t ih =>
    obtain ⟨⟨h1, h2, h3⟩, h4⟩ := hh
    have hp := hl p (List.mem_cons_self ..)
    refine ⟨⟨Nat.lt_of_lt_of_le h1 hb.size, fun o => (hb.frozen (p := ⟨p.1, o, none⟩) hp).trans (h2 o), ?_⟩, ih (fun q hq => hl q (List.mem_cons_of_mem _ hq)) h4⟩
    have : ∀ (i : Nat) (vs : List Value), HasAt X p.1 i vs → HasAt Y p.1 i vs := by
      intro i vs
      induction vs generalizing i with
      | nil => intro _; trivial
      | cons v vs ihv => intro hv; exact ⟨(hb.cell (p := ⟨p.1, i, none⟩) hp).trans hv.1, ihv _ hv.2⟩
    exact this _ _ h3
theorem HasAt.far {W : World} {b g i : Nat} {v : Value} (hne : b ≠ g) : ∀ {j : Nat} {vs : List Value}, HasAt W g j vs → HasAt (W.setCell ⟨b, i, none⟩ v) g j vs
  | _, [], _ => trivial
  | j, _ :: _, ⟨h, t⟩ => ⟨(World.cell?_of_block (Below.heap_setCell W ⟨b, i, none⟩ v g (fun e => hne (by have e' : g = b := e; omega)))).trans h, HasAt.far hne t⟩
theorem Has.far {W : World} {b i : Nat} {v : Value} : ∀ {l : List (Nat × List Value)}, (∀ p ∈ l, b ≠ p.1) → Has W l → Has (W.setCell ⟨b, i, none⟩ v) l
  | [], _, _ => trivial
  | p :: _, hl, ⟨⟨h1, h2, h3⟩, t⟩ => ⟨⟨by simpa using h1, fun o => (World.frozen?_setCell ..).trans (h2 o), HasAt.far (hl p (List.mem_cons_self ..)) h3⟩, Has.far (fun q hq => hl q (List.mem_cons_of_mem _ hq)) t⟩
/-- A store into a box of one cell. -/
theorem St.set1 {w W : World} {b : Nat} {u : Value} {l : List (Nat × List Value)} (h : St w W ((b, [u]) :: l)) (v : Value) (hb : w.heap.size ≤ b) (hl : ∀ p ∈ l, b ≠ p.1) : St w (W.setCell ⟨b, 0, none⟩ v) ((b, [v]) :: l) := by
  obtain ⟨h1, ⟨h2, h3, h4, _⟩, h5⟩ := h
  exact ⟨h1.setCell (p := ⟨b, 0, none⟩) hb _, ⟨⟨by simpa using h2, fun o => (World.frozen?_setCell ..).trans (h3 o), World.cell?_setCell_same' _ _ _ (by rw [h4]; rfl), trivial⟩, Has.far hl h5⟩⟩

theorem isUp_mono {l x y m p q : Int} {j k : Nat} (hjk : j ≤ k) (h : isUp l x y m p q j = true) : isUp l x y m p q k = true := by
  induction k with
  | zero => rw [Nat.le_zero.mp hjk] at h; exact h
  | succ k ih =>
    rcases Nat.lt_or_ge j (k + 1) with hj | hj
    · simp only [isUp, ih (by omega), Bool.true_or]
    · rw [show k + 1 = j by omega]; exact h
def insB (l x y m p q : Int) : Bool := (cellB l x y && cellB m p q) && isUp l x y m p q (l.toNat + 1)

end Go.Proofs.YtobbankkfplooaaGreat.M
namespace Go.Proofs.YtobbankkfplooaaGreat.M
open Go.RowKit Go.Joins

theorem keepS {P C : World → Prop} (hS : ∀ w', P w' → C w') {w' : World} (h : P w') : P w' ∧ C w' := ⟨h, hS _ h⟩
def lInB (l x y m p q : Int) : Bool := decide (m ≤ l ∧ x / 2 ^ (l - m).toNat = p ∧ y / 2 ^ (l - m).toNat = q)
theorem half_eq (x : Int) : ∀ k : Nat, half x k = x / 2 ^ k
  | 0 => by simp [half]
  | k + 1 => by
    rw [half, half_eq x k, Int.pow_succ]
    exact Int.ediv_ediv_of_nonneg (Int.pow_nonneg (by decide))
theorem isUp_iff {l x y m p q : Int} : ∀ {n : Nat}, isUp l x y m p q n = true ↔ ∃ k : Nat, k < n ∧ l - k = m ∧ half x k = p ∧ half y k = q
  | 0 => by simp [isUp]
  | n + 1 => by
    rw [isUp, Bool.or_eq_true, isUp_iff]
    simp only [Bool.and_eq_true, beq_iff_eq]
    constructor
    · rintro (⟨k, h1, h2⟩ | ⟨⟨h1, h2⟩, h3⟩)
      · exact ⟨k, by omega, h2⟩
      · exact ⟨n, by omega, h1, h2, h3⟩
    · rintro ⟨k, h1, h2, h3, h4⟩
      by_cases e : k = n
      · subst e; exact .inr ⟨⟨h2, h3⟩, h4⟩
      · exact .inl ⟨k, by omega, h2, h3, h4⟩
theorem insB_eq (l x y m p q : Int) : insB l x y m p q = ((cellB l x y && cellB m p q) && lInB l x y m p q) := by
  cases hv : (cellB l x y && cellB m p q)
  · simp [insB, hv]
  · obtain ⟨g1, g2⟩ := (Bool.and_eq_true _ _).mp hv
    have h1 := cell_lev g1
    have h2 := cell_lev g2
    rw [insB, hv, Bool.true_and, Bool.true_and, Bool.eq_iff_iff, isUp_iff, lInB, decide_eq_true_iff]
    constructor
    · rintro ⟨k, a, b, c, d⟩
      have : (l - m).toNat = k := by omega
      rw [this, ← half_eq, ← half_eq]
      exact ⟨by omega, c, d⟩
    · rintro ⟨a, b, c⟩
      exact ⟨(l - m).toNat, by omega, by omega, by rw [half_eq]; exact b, by rw [half_eq]; exact c⟩

end Go.Proofs.YtobbankkfplooaaGreat.M
