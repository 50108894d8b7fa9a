/-
  The law of ShardOk walked.
-/
import Derived.Test.YtppoafggiejdgaaGreatKY6
import Derived.Test.YtppoafggiejdgaaGreatKY4
import Derived.Test.YtppoafggiejdgaaGreatKB6
namespace Go.Proofs.YtppoafggiejdgaaGreat.K.Y
open Go.Shelf Go.RowKit Go.Joins
attribute [local go_sem] Oper.semAt_some

theorem Sg.dr {w W : World} {rs : List Rw} (h : Sg w W rs) : Sg w W.drew rs := h.step (Below.refl _ _).drew
theorem bx5 {w W : World} {v0 v1 v2 v3 v4 : Value} {ty : TypeId} (h : Below (w.alloc (.cells #[v0, v1, v2, v3, v4] ty)).heap.size (w.alloc (.cells #[v0, v1, v2, v3, v4] ty)) W) : W.cell? ⟨w.heap.size, 0, none⟩ = some v0 ∧ W.cell? ⟨w.heap.size, 1, none⟩ = some v1 ∧ W.cell? ⟨w.heap.size, 2, none⟩ = some v2 ∧ W.cell? ⟨w.heap.size, 3, none⟩ = some v3 ∧ W.cell? ⟨w.heap.size, 4, none⟩ = some v4 := by
  have := (((St.nil w).push [v0, v1, v2, v3, v4] ty).step h).has
  simp [Has, HasAt] at this
  simp [this]
theorem ssz_parts {h : Hv} {R : List Rc} {QL : List YQ} {O : List Int} {w : World} (H : RdLS w h R QL O) (hz : ssz h R QL ≤ 1048576) : h.r.n ≤ 1048576 ∧ h.y.n ≤ 1048576 ∧ h.o.n ≤ 1048576 ∧ h.g.size ≤ 1048576 ∧ ∀ q ∈ QL, q.2.n ≤ 1048576 := by
  unfold ssz at hz
  have h1 : h.r.n ≤ rsz R := by unfold rsz; rw [H.rn]; omega
  have h2 : h.y.n ≤ ysz QL := by unfold ysz; rw [H.yn]; omega
  refine ⟨by omega, by omega, by omega, by omega, fun q hq => ?_⟩
  have := ysz_mem hq
  rw [(H.y.2 q hq).2] at this
  omega
end Go.Proofs.YtppoafggiejdgaaGreat.K.Y
