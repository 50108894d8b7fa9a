/-
  Where one stands in a list of Records; a list with a piece swapped; a copy.
-/
import Derived.Test.YtbkiogedipmioaaGreatVUB5
namespace Go.Proofs.YtbkiogedipmioaaGreat.V.U
open Go.Shelf Go.RowKit Go.Joins
attribute [local go_sem] Oper.semAt_some

theorem sg_bel {w W : World} (h : Below w.heap.size w W) : Sg w W [] := ⟨h, by simp, .nil⟩

set_option maxHeartbeats 1000000 in
theorem alike_any (p : Option Addr) (cap : Nat) (L : List Rc) (n : Nat) (hn : L.length = n) (w : World) (hL : SlG kR w p L) (hb0 : n ≤ 10000000) (q : Rc) (hr : riseB L = true) {kf kp : Nat} (hkf : pos L q = kf) (hkp : past L q = kp) :
    Calls Tryz.prog 113 #[.slice p n cap, q.v, .func (.func 72) #[] #[]] w fun e w' => e = .returned (.tuple #[.int .i64 (kf : Int), .int .i64 (kp : Int)]) ∧ Below w.heap.size w w' := by
  have hle := past_le L q
  obtain ⟨b, hb⟩ : ∃ b, isAt L q = b := ⟨_, rfl⟩
  have hpp : kp = if b = true then kf + 1 else kf := by rw [← hkp, ← hkf]; unfold past; rw [hb]
  obtain ⟨qt, qi, qx, qy, qs⟩ := q
  have HS := Lib.hid (fun (W : World) (h : Below w.heap.size w W) => search_any p cap L n hn W (hL.step h) hb0 ⟨qt, qi, qx, qy, qs⟩ hr hkf hb)
  rw [hkp, hkf, hn] at hle
  clear hn hL hr hkf hkp hb
  have hst := (St.nil w).push [.int .i64 qt, .int .i64 qi, .int .i64 qx, .int .i64 qy, .string qs] 79
  cases b
  · simp at hpp
    subst hpp
    go_enter Tryz.func113, Tryz.ntmps113
    go_wp2_with (go_at_call 129; refine (HS.out _ hst.bel).mono ?_; rintro e w1 ⟨rfl, hb1⟩)
    go_ret2
    exact ⟨rfl, (hst.step hb1).bel⟩
  · simp at hpp
    subst hpp
    go_enter Tryz.func113, Tryz.ntmps113
    go_wp2_with (go_at_call 129; refine (HS.out _ hst.bel).mono ?_; rintro e w1 ⟨rfl, hb1⟩)
    go_ret2
    exact ⟨rfl, (hst.step hb1).bel⟩
end Go.Proofs.YtbkiogedipmioaaGreat.V.U
