/-
  Papers: Genuine, the program's and the spec's.
-/
import Derived.Test.YtbkiogedipmioaaGreatP8
import Derived.Test.YtbkiogedipmioaaGreatFq
namespace Go.Proofs.YtbkiogedipmioaaGreat
open Go.RowKit Go.Joins M
attribute [local go_sem] Oper.semAt_some

theorem heldAs_any (tn tag : Int) (p : Option Addr) (n cap : Nat) (w : World) :
    Calls Tryz.prog 32 #[.agg #[.int .i64 tn, .slice p n cap, .int .i64 tag]] w fun e w' => e = .returned (.agg #[.slice p n cap, .int .i64 tn, .int .i64 tag]) ∧ Below w.heap.size w w' := by
  go_enter Tryz.func32, Tryz.ntmps32
  go_wp2
  refine bodyPost_ret (v := .agg #[.slice p n cap, .int .i64 tn, .int .i64 tag]) (by simp [results, Tryz.results32, go_sem]) rfl ⟨rfl, ?_⟩
  exact below_alloc2 _ _ _
theorem ppB_t {tn tag : Int} {L : List Cl} (h : ppB tn L tag = true) : tenB tn = true ∧ (1 ≤ L.length ∧ L.length ≤ 6) ∧ L.all clB = true ∧ inB tag = true := by
  unfold ppB clsB at h
  rw [Bool.and_eq_true, Bool.and_eq_true, Bool.and_eq_true, decide_eq_true_iff] at h
  exact ⟨h.1, h.2.1.1, h.2.1.2, h.2.2⟩
end Go.Proofs.YtbkiogedipmioaaGreat
