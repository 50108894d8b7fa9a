/-
  Items: their kinds. An Item lies as a Record does: Kind, Id, the Spot, the Text.
-/
import Derived.Test.YtobbankkfplooaaGreatKB5
namespace Go.Proofs.YtobbankkfplooaaGreat.K
open Go.Shelf Go.RowKit Go.Joins
namespace I
def kR : Kd Rc := ⟨91, 5, fun r => [.int .i64 r.t, .int .i64 r.i, .int .i64 r.x, .int .i64 r.y, .string r.s], fun _ => rfl⟩
def kL : Kd Rc := ⟨138, 5, fun r => [.int .i64 r.t, .int .i64 r.i, .int .i64 r.x, .int .i64 r.y, .string r.s], fun _ => rfl⟩
theorem info91 : (Tryz.prog.info? 91).map (fun i => (i.zero, i.size, i.bytes)) = some (some (.agg #[.int .i64 0, .int .i64 0, .int .i64 0, .int .i64 0, .string ByteArray.empty]), 5, 48) := by kernel_rfl
theorem oneRs (L : List Rc) : ∀ u ∈ kR.flat L, u.oneCell' = true := fun u hu => by
  unfold Kd.flat at hu
  obtain ⟨s, _, hs⟩ := List.mem_flatMap.mp hu
  simp [kR] at hs
  rcases hs with rfl | rfl | rfl | rfl | rfl <;> rfl
theorem appR : Ap kR 65 zR 48 := ⟨Tryz.underlying65, info91, rfl, by decide, by decide⟩
end I
theorem CsG.i5 {w : World} {g off : Nat} {L : List Rc} (h : CsG I.kR w g off L) {k : Nat} {r : Rc} (hk : L[k]? = some r) : w.cell? ⟨g, off + k * 5, none⟩ = some (.int .i64 r.t) ∧ w.cell? ⟨g, off + k * 5 + 1, none⟩ = some (.int .i64 r.i) ∧ w.cell? ⟨g, off + k * 5 + 2, none⟩ = some (.int .i64 r.x) ∧ w.cell? ⟨g, off + k * 5 + 3, none⟩ = some (.int .i64 r.y) ∧ w.cell? ⟨g, off + k * 5 + 4, none⟩ = some (.string r.s) :=
  ⟨h.at hk (i := 0) rfl, h.at hk (i := 1) rfl, h.at hk (i := 2) rfl, h.at hk (i := 3) rfl, h.at hk (i := 4) rfl⟩
theorem CsG.j5 {w : World} {g off : Nat} {L : List Rc} (h : CsG I.kL w g off L) {k : Nat} {r : Rc} (hk : L[k]? = some r) : w.cell? ⟨g, off + k * 5, none⟩ = some (.int .i64 r.t) ∧ w.cell? ⟨g, off + k * 5 + 1, none⟩ = some (.int .i64 r.i) ∧ w.cell? ⟨g, off + k * 5 + 2, none⟩ = some (.int .i64 r.x) ∧ w.cell? ⟨g, off + k * 5 + 3, none⟩ = some (.int .i64 r.y) ∧ w.cell? ⟨g, off + k * 5 + 4, none⟩ = some (.string r.s) :=
  ⟨h.at hk (i := 0) rfl, h.at hk (i := 1) rfl, h.at hk (i := 2) rfl, h.at hk (i := 3) rfl, h.at hk (i := 4) rfl⟩
end Go.Proofs.YtobbankkfplooaaGreat.K
