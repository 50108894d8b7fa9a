/-
  The contracts of the library's sort of numbers at this program: each number of a function or a type has its place, each field is a fact of the program's own or a comparison.
-/
import Derived.Test.YtobbankkfplooaaKISh
namespace Go.Proofs
open Go.Shelf
end Go.Proofs
