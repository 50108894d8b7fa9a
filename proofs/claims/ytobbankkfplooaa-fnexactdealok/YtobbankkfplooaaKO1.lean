/-
  A list of Records, and a Record, as an argument's reading tells them.
-/
import Derived.Test.YtobbankkfplooaaKB1
import Derived.OpenShut
import Derived.Deep.Slices
import Derived.ProofKit
namespace Go.Proofs.Ytobbankkfplooaa.K
open Go.RowKit Go.Joins Go.WideShapes Go.ChangeShapes

theorem addr_ad (b off j : Nat) : (⟨b, off, none⟩ : Addr).add j = ⟨b, off + j, none⟩ := by unfold Addr.add; split <;> simp_all
end Go.Proofs.Ytobbankkfplooaa.K
