/-
  The program's Inside: it goes through the Cells around the first and looks whether one of them is the second.
-/
import Derived.Test.YtipfcmfcdfofmaaOU2
import Derived.Laws.EntriesVeiled
namespace Go.Proofs.Ytipfcmfcdfofmaa.O
open Go.RowKit Go.Joins
attribute [local go_sem] Oper.semAt_some

set_option maxHeartbeats 1000000 in
theorem every_cc (x1 y1 a1 x2 y2 a2 : Int) (g : Nat) (w : World) (hg : g < w.heap.size)
    (h0 : w.cell? ⟨g, 0, none⟩ = some (.func (Fn.func 113) #[.agg #[.int .i64 x1, .int .i64 y1, .int .i64 a1]] #[])) (h1 : w.cell? ⟨g, 1, none⟩ = some (.func (Fn.func 113) #[.agg #[.int .i64 x2, .int .i64 y2, .int .i64 a2]] #[])) :
    Calls Try.prog 30 #[.slice (some ⟨g, 0, none⟩) 2 2] w fun e w' => e = .returned (.bool (cellB x1 y1 a1 && cellB x2 y2 a2)) ∧ Below w.heap.size w w' := by
  cases k1 : cellB x1 y1 a1
  · go_enter Try.func30, Try.ntmps30
    go_wp2
    refine wp_loop_rounds 3 ?_
    rw [rounds_succ]
    go_wp2_with ((go_at_call 113; refine (isRight_any x1 y1 a1 _).mono ?_; rintro e w1 ⟨rfl, hb2⟩; (first | replace hb := bstep hb hb2 (Nat.le_refl _) | replace hb := bstepA hb hb2 (Nat.le_refl _) | have hb := hb2); (try clear hc hf); obtain ⟨hc, hf⟩ := bcell hb))
    go_ret
    exact ⟨rfl, hb⟩
  cases k2 : cellB x2 y2 a2
  · go_enter Try.func30, Try.ntmps30
    go_wp2
    refine wp_loop_rounds 3 ?_
    rw [rounds_succ]
    go_wp2_with ((go_at_call 113; refine (isRight_any x1 y1 a1 _).mono ?_; rintro e w1 ⟨rfl, hb2⟩; (first | replace hb := bstep hb hb2 (Nat.le_refl _) | replace hb := bstepA hb hb2 (Nat.le_refl _) | have hb := hb2); (try clear hc hf); obtain ⟨hc, hf⟩ := bcell hb))
    rw [rounds_succ]
    go_wp2_with ((go_at_call 113; refine (isRight_any x2 y2 a2 _).mono ?_; rintro e w1 ⟨rfl, hb2⟩; (first | replace hb := bstep hb hb2 (Nat.le_refl _) | replace hb := bstepA hb hb2 (Nat.le_refl _) | have hb := hb2); (try clear hc hf); obtain ⟨hc, hf⟩ := bcell hb))
    go_ret
    exact ⟨rfl, hb⟩
  · go_enter Try.func30, Try.ntmps30
    go_wp2
    refine wp_loop_rounds 3 ?_
    rw [rounds_succ]
    go_wp2_with ((go_at_call 113; refine (isRight_any x1 y1 a1 _).mono ?_; rintro e w1 ⟨rfl, hb2⟩; (first | replace hb := bstep hb hb2 (Nat.le_refl _) | replace hb := bstepA hb hb2 (Nat.le_refl _) | have hb := hb2); (try clear hc hf); obtain ⟨hc, hf⟩ := bcell hb))
    rw [rounds_succ]
    go_wp2_with ((go_at_call 113; refine (isRight_any x2 y2 a2 _).mono ?_; rintro e w1 ⟨rfl, hb2⟩; (first | replace hb := bstep hb hb2 (Nat.le_refl _) | replace hb := bstepA hb hb2 (Nat.le_refl _) | have hb := hb2); (try clear hc hf); obtain ⟨hc, hf⟩ := bcell hb))
    rw [rounds_succ]
    go_wp2
    go_ret
    exact ⟨rfl, hb⟩


theorem every_cc_v (x1 y1 a1 x2 y2 a2 : Int) (v : Bool) (g : Nat) (w : World) (hv : (cellB x1 y1 a1 && cellB x2 y2 a2) = v) (hg : g < w.heap.size)
    (h0 : w.cell? ⟨g, 0, none⟩ = some (.func (Fn.func 113) #[.agg #[.int .i64 x1, .int .i64 y1, .int .i64 a1]] #[])) (h1 : w.cell? ⟨g, 1, none⟩ = some (.func (Fn.func 113) #[.agg #[.int .i64 x2, .int .i64 y2, .int .i64 a2]] #[])) :
    Calls Try.prog 30 #[.slice (some ⟨g, 0, none⟩) 2 2] w fun e w' => e = .returned (.bool v) ∧ Below w.heap.size w w' := by
  subst hv; exact every_cc x1 y1 a1 x2 y2 a2 g w hg h0 h1

theorem St.stab {B : Nat} {w X Y : World} {l : List (Nat × List Value)} (h : St w X l) (hb : Below B X Y) (hB : w.heap.size ≤ B) (hl : ∀ p ∈ l, p.1 < B) : St w Y l := by
  refine ⟨h.bel.trans (hb.mono hB), ?_⟩
  have hh := h.has
  clear h
  induction l with
  | nil => trivial
  | cons p t ih =>
    obtain ⟨⟨h1, h2, h3⟩, h4⟩ := hh
    have hp := hl p (List.mem_cons_self ..)
    refine ⟨⟨Nat.lt_of_lt_of_le h1 hb.size, fun o => (hb.frozen (p := ⟨p.1, o, none⟩) hp).trans (h2 o), ?_⟩, ih (fun q hq => hl q (List.mem_cons_of_mem _ hq)) h4⟩
    have : ∀ (i : Nat) (vs : List Value), HasAt X p.1 i vs → HasAt Y p.1 i vs := by
      intro i vs
      induction vs generalizing i with
      | nil => intro _; trivial
      | cons v vs ihv => intro hv; exact ⟨(hb.cell (p := ⟨p.1, i, none⟩) hp).trans hv.1, ihv _ hv.2⟩
    exact this _ _ h3
theorem HasAt.far {W : World} {b g i : Nat} {v : Value} (hne : b ≠ g) : ∀ {j : Nat} {vs : List Value}, HasAt W g j vs → HasAt (W.setCell ⟨b, i, none⟩ v) g j vs
  | _, [], _ => trivial
  | j, _ :: _, ⟨h, t⟩ => ⟨(World.cell?_of_block (Below.heap_setCell W ⟨b, i, none⟩ v g (fun e => hne (by have e' : g = b := e; omega)))).trans h, HasAt.far hne t⟩
theorem Has.far {W : World} {b i : Nat} {v : Value} : ∀ {l : List (Nat × List Value)}, (∀ p ∈ l, b ≠ p.1) → Has W l → Has (W.setCell ⟨b, i, none⟩ v) l
  | [], _, _ => trivial
  | p :: _, hl, ⟨⟨h1, h2, h3⟩, t⟩ => ⟨⟨by simpa using h1, fun o => (World.frozen?_setCell ..).trans (h2 o), HasAt.far (hl p (List.mem_cons_self ..)) h3⟩, Has.far (fun q hq => hl q (List.mem_cons_of_mem _ hq)) t⟩
/-- A store into a box of one cell. -/
theorem St.set1 {w W : World} {b : Nat} {u : Value} {l : List (Nat × List Value)} (h : St w W ((b, [u]) :: l)) (v : Value) (hb : w.heap.size ≤ b) (hl : ∀ p ∈ l, b ≠ p.1) : St w (W.setCell ⟨b, 0, none⟩ v) ((b, [v]) :: l) := by
  obtain ⟨h1, ⟨h2, h3, h4, _⟩, h5⟩ := h
  exact ⟨h1.setCell (p := ⟨b, 0, none⟩) hb _, ⟨⟨by simpa using h2, fun o => (World.frozen?_setCell ..).trans (h3 o), World.cell?_setCell_same' _ _ _ (by rw [h4]; rfl), trivial⟩, Has.far hl h5⟩⟩

theorem isUp_mono {l x y m p q : Int} {j k : Nat} (hjk : j ≤ k) (h : isUp l x y m p q j = true) : isUp l x y m p q k = true := by
  induction k with
  | zero => rw [Nat.le_zero.mp hjk] at h; exact h
  | succ k ih =>
    rcases Nat.lt_or_ge j (k + 1) with hj | hj
    · simp only [isUp, ih (by omega), Bool.true_or]
    · rw [show k + 1 = j by omega]; exact h
def insB (l x y m p q : Int) : Bool := (cellB l x y && cellB m p q) && isUp l x y m p q (l.toNat + 1)

end Go.Proofs.Ytipfcmfcdfofmaa.O
