/-
  The law's looks at marks: lists of Clauses, Papers; marks of Papers.
-/
import Derived.Test.YtkinbgcnenieeaaV2
namespace Go.Proofs.Ytkinbgcnenieeaa
open Go.Shelf Go.RowKit Go.Joins M
attribute [local go_sem] Oper.semAt_some

set_option maxHeartbeats 2000000 in
theorem markPaper_any (tn tag : Int) (p : Option Addr) (n c : Nat) (k0 : Int) (QL : List CQ) (A Bs : List Rw) (w W : World) (hS : Sg w W (A ++ (trX (.slice p n c) QL [] ++ Bs))) (hb : n ≤ 10) (hk0 : 0 ≤ k0) (hk1 : k0 ≤ 20000000) (hsm : sm6 QL) :
    Calls Try.prog 14 #[.agg #[.int .i64 tn, .slice p n c, .int .i64 tag], .int .i64 k0] W fun e w' => e = .returned (.int .i64 (endQ k0 QL)) ∧ Sg w w' (A ++ (trX (.slice p n c) (mkQs k0 QL) [] ++ Bs)) := by
  have hS1 := hS.lit kP [⟨tn, ⟨p, n, c⟩, tag⟩] 1 rfl (by decide) #[.int .i64 tn, .slice p n c, .int .i64 tag] rfl
  change Sg w (W.alloc (.cells #[.int .i64 tn, .slice p n c, .int .i64 tag] 31)) _ at hS1
  have HM := Lib.hid (markClauseS_any p n c k0 QL (rG kP (.slice (some ⟨W.heap.size, 0, none⟩) 1 1) [⟨tn, ⟨p, n, c⟩, tag⟩] :: A) Bs w (W.alloc (.cells #[.int .i64 tn, .slice p n c, .int .i64 tag] 31)) hS1 hb hsm hk0 hk1)
  clear hS hsm hS1
  obtain ⟨x, hx⟩ : ∃ x, endQ k0 QL = x := ⟨_, rfl⟩
  rw [hx] at HM ⊢
  clear hx
  go_enter Try.func14, Try.ntmps14
  go_wp2_with (go_at_call 32; refine (HM.out).mono ?_; rintro e w1 ⟨rfl, hS2⟩)
  go_ret
  exact ⟨rfl, Sg.d0 hS2⟩
end Go.Proofs.Ytkinbgcnenieeaa
