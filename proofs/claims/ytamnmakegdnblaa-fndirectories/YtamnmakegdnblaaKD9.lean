/-
  The new Directory: the specification's.
-/
import Derived.Test.YtamnmakegdnblaaKD2
namespace Go.Proofs.Ytamnmakegdnblaa.K.D
open Go.Shelf Go.RowKit Go.Joins
attribute [local go_sem] Oper.semAt_some

set_option maxRecDepth 100000 in
set_option maxHeartbeats 2000000 in
theorem sNewDirectory_any (w : World) :
    Calls Try.prog 22 #[] w fun ee w' => ∃ g, ee = .returned (Dv.v ⟨1, some ⟨g, 0, none⟩, 1, 1⟩) ∧ Sg w w' [rG kO (.slice (some ⟨g, 0, none⟩) 1 1) [zon]] := by
  have hx := ((Sg.nil w).lit kD [⟨1, some ⟨w.heap.size + 1, 0, none⟩, 1, 1⟩] 1 rfl (by decide) #[.int .i64 1, .slice (some ⟨w.heap.size + 1, 0, none⟩) 1 1] rfl).lit kO [zon] 1 rfl (by decide) #[.int .i64 0, .int .i64 0, .int .i64 0, .int .i64 0] rfl
  simp only [World.size_alloc] at hx
  go_enter Try.func22, Try.ntmps22
  go_wp2
  refine bodyPost_ret (v := .agg #[.int .i64 1, .slice (some ⟨w.heap.size + 1, 0, none⟩) 1 1]) (by simp [results, Try.results22, go_sem]) rfl ⟨w.heap.size + 1, rfl, ?_⟩
  exact hx.sub (List.Sublist.cons_cons _ (List.nil_sublist _))
end Go.Proofs.Ytamnmakegdnblaa.K.D
