/-
  The law of Reaches, walked: the program answers as the spec, and the list that was handed in reads as before.
-/
import Derived.Test.YtkinbgcnenieeaaML5
import Derived.Deep.Cut
import Derived.Deep.CutBlock
namespace Go.Proofs.Ytkinbgcnenieeaa.M
open Go.RowKit Go.Joins
attribute [local go_sem ↓] Go.wp_at_zero Go.wp_at_succ

theorem toCellS_g (p : Option Addr) (cap : Nat) (L : List T3) (w : World) (hL : Sl w p L) (hn : L.length ≤ 1048576) :
    Calls Try.prog 50 #[.slice p L.length cap] w fun e w' => ∃ p1 cap1, e = .returned (.slice p1 L.length cap1) ∧ Ow w' w.heap.size (.slice p1 L.length cap1) L ∧ Below w.heap.size w w' :=
  (toCellS_any p cap L w hL hn).mono fun _ _ ⟨h1, h2, h3⟩ => ⟨_, _, h1, h2, h3⟩
theorem ins8 {c : T3} {s t : Int} (h : c.ok = true) (hs : spB s t = true) : insT ⟨8, s, t⟩ c = inC c s t := by
  have h' : cellB c.l c.x c.y = true := h
  obtain ⟨h0, h8, hx, hx1, hy, hy1⟩ := cellB_t.mp h'
  obtain ⟨s0, s1, t0, t1⟩ := spB_t.mp hs
  unfold insT inC inR
  rw [insB_eq]
  simp only [rX, rY, rS, h', if_true, cell8_ok hs, Bool.and_self, Bool.true_and, lInB]
  generalize c.l = l at *
  generalize c.x = x at *
  generalize c.y = y at *
  refine decide_eq_decide.mpr ?_
  unfold sd
  rcases nine h0 h8 with rfl | rfl | rfl | rfl | rfl | rfl | rfl | rfl | rfl <;> simp at hx1 hy1 ⊢ <;> omega
theorem any_ins8 {L : List T3} {s t : Int} (h : okL L = true) (hs : spB s t = true) : haveB L ⟨8, s, t⟩ = L.any fun c => inC c s t := by
  have h2 := List.all_eq_true.mp ((Bool.and_eq_true _ _).mp h).2
  unfold haveB
  rw [Bool.eq_iff_iff, List.any_eq_true, List.any_eq_true]
  constructor
  · rintro ⟨c, hc, hi⟩; exact ⟨c, hc, by rw [← ins8 (h2 c hc) hs]; exact hi⟩
  · rintro ⟨c, hc, hi⟩; exact ⟨c, hc, by rw [ins8 (h2 c hc) hs]; exact hi⟩
theorem okL_all {L : List T3} (h : okL L = true) : ∀ c ∈ L, c.ok = true := List.all_eq_true.mp ((Bool.and_eq_true _ _).mp h).2

theorem l3Reaches_v {L : List T3} {s t : Int} {v : Bool} (hv : (L.any fun c => inC c s t) = v) (p : Option Addr) (cap : Nat) (w : World) (hL : Sl w p L) (hn : L.length ≤ 1048576) (hok : ∀ c ∈ L, c.ok = true) :
    Calls Try.prog 21 #[.slice p L.length cap, .agg #[.int .i64 s, .int .i64 t]] w fun e w' => e = .returned (.bool v) ∧ Below w.heap.size w w' := by subst hv; exact l3Reaches_any p cap L s t w hL hn hok

theorem iReaches_v {L : List T3} {s t : Int} {v : Bool} (hv : reachI L s t = v) (p : Option Addr) (cap : Nat) (w : World) (hL : Sl w p L) (hn : L.length ≤ 1048576) :
    Calls Try.prog 41 #[.slice p L.length cap, .agg #[.int .i64 s, .int .i64 t]] w fun e w' => e = .returned (.bool v) ∧ Below w.heap.size w w' := by subst hv; exact iReaches_any p cap L s t w hL hn

end Go.Proofs.Ytkinbgcnenieeaa.M
