/-
  A drawn region, operation by operation: what a frame holds is told slot by slot.
-/
import Derived.Test.YtppoafggiejdgaaGreatKB2
import Derived.Deep.QuietTactic
import Derived.BigQuiet
namespace Go.Proofs.YtppoafggiejdgaaGreat.K
open Go.RowKit Go.Joins

/-- A frame of N slots of which some are told. -/
structure Fr (N : Nat) (A : Act) (l : List (Nat × Value)) : Prop where
  size : A.tmps.size = N
  has : ∀ p ∈ l, A.tmps[p.1]? = some p.2
theorem Fr.get {N : Nat} {A : Act} {l : List (Nat × Value)} (h : Fr N A l) {d : Nat} {v : Value} (hm : (d, v) ∈ l) : A.tmps[d]? = some v := h.has _ hm
theorem Fr.put {N : Nat} {A : Act} {l : List (Nat × Value)} (h : Fr N A l) {d : Nat} {v : Value} (hd : d < N) (hne : ∀ p ∈ l, p.1 ≠ d) : Fr N (A.put (some d) v) ((d, v) :: l) := by
  refine ⟨by simp [Act.put, h.size], fun p hp => ?_⟩
  rcases List.mem_cons.mp hp with rfl | hp
  · show (A.tmps.setIfInBounds d v)[d]? = some v
    rw [Array.getElem?_setIfInBounds_self_of_lt (by rw [h.size]; exact hd)]
  · show (A.tmps.setIfInBounds d v)[p.1]? = some p.2
    rw [Array.getElem?_setIfInBounds_ne (Ne.symm (hne p hp))]
    exact h.has p hp
section
variable {N : Nat} {ops : Array Oper} {C : World → Prop} {Q : Act → Prop} {A : Act} {o : Oper} {rest : List Oper} {l : List (Nat × Value)} {d e j : Nat} {v : Value} {want b : Bool}
theorem q_step (hf : Fr N A l) (hw : o.guard = none) (hd : o.dst = some d) (hlt : d < N) (hne : ∀ p ∈ l, p.1 ≠ d)
    (hq : ∀ w, C w → o.quietAt Tryz.prog A C w v) (k : ∀ A', A' = A.put (some d) v → Fr N A' ((d, v) :: l) → wpQuiet Tryz.prog ops C Q rest A') : wpQuiet Tryz.prog ops C Q (o :: rest) A :=
  BigFrame.wpQuiet_want (by simp [Region.wanted, hw]) (fun K hK => ⟨v, hq, hK _ (by rw [hd]; exact k _ rfl (hf.put hlt hne))⟩)
theorem q_want (hf : Fr N A l) (hg : o.guard = some (j, want)) (hj : (ops[j]?).bind (·.dst) = some e) (hv : (e, .bool want) ∈ l) (hd : o.dst = some d) (hlt : d < N) (hne : ∀ p ∈ l, p.1 ≠ d)
    (hq : ∀ w, C w → o.quietAt Tryz.prog A C w v) (k : ∀ A', A' = A.put (some d) v → Fr N A' ((d, v) :: l) → wpQuiet Tryz.prog ops C Q rest A') : wpQuiet Tryz.prog ops C Q (o :: rest) A :=
  BigFrame.wpQuiet_want (by rw [Region.wanted, hg]; simp [yielded, hj, hf.get hv]) (fun K hK => ⟨v, hq, hK _ (by rw [hd]; exact k _ rfl (hf.put hlt hne))⟩)
theorem q_skip (hf : Fr N A l) (hg : o.guard = some (j, want)) (hj : (ops[j]?).bind (·.dst) = some e) (hv : (e, .bool b) ∈ l) (hb : (b == want) = false)
    (hd : o.dst = some d) (hlt : d < N) (hne : ∀ p ∈ l, p.1 ≠ d) (k : ∀ A', A' = A.put (some d) undef → Fr N A' ((d, undef) :: l) → wpQuiet Tryz.prog ops C Q rest A') : wpQuiet Tryz.prog ops C Q (o :: rest) A :=
  BigFrame.wpQuiet_skip (by rw [Region.wanted, hg]; simp [yielded, hj, hf.get hv]; simpa using hb) (by rw [hd]; exact k _ rfl (hf.put hlt hne))
theorem q_skipU (hf : Fr N A l) (hg : o.guard = some (j, want)) (hj : (ops[j]?).bind (·.dst) = some e) (hv : (e, undef) ∈ l)
    (hd : o.dst = some d) (hlt : d < N) (hne : ∀ p ∈ l, p.1 ≠ d) (k : ∀ A', A' = A.put (some d) undef → Fr N A' ((d, undef) :: l) → wpQuiet Tryz.prog ops C Q rest A') : wpQuiet Tryz.prog ops C Q (o :: rest) A :=
  BigFrame.wpQuiet_skip (by rw [Region.wanted, hg]; simp [yielded, hj, hf.get hv, undef]) (by rw [hd]; exact k _ rfl (hf.put hlt hne))
end
theorem q_intro {ops : Array Oper} {C : World → Prop} {Q : Act → Prop} {os : List Oper} {A0 : Act} (h : ∀ A, A = A0 → wpQuiet Tryz.prog ops C Q os A) : wpQuiet Tryz.prog ops C Q os A0 := h _ rfl
end Go.Proofs.YtppoafggiejdgaaGreat.K
