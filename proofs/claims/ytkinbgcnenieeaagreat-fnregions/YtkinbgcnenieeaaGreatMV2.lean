/-
  Common: the spec's recursion over two lists.
-/
import Derived.Test.YtkinbgcnenieeaaGreatMJ5
import Derived.Test.YtkinbgcnenieeaaGreatMM5
namespace Go.Proofs.YtkinbgcnenieeaaGreat.M
open Go.RowKit Go.Joins
attribute [local go_sem ↓] Go.wp_at_zero Go.wp_at_succ

theorem dec_canon {L : List T3} (hok : ∀ c ∈ L, c.ok = true) : Canon (dec (muF L) 8 zro) ∧ ∀ n, cov (dec (muF L) 8 zro) n ↔ cov L n := by
  have hd := dec_of (muF_tells hok) 8 zro zro_ok (by decide)
  refine ⟨hd.canon, fun n => ⟨fun h => (hd.has n (hd.out h)).mpr h, ?_⟩⟩
  rintro ⟨c, hc, n1, n2⟩
  have := ok_in (hok c hc)
  exact (hd.has n ⟨by rw [zro_lo]; omega, by rw [zro_hi]; omega⟩).mp ⟨c, hc, n1, n2⟩
def comS (L K : List T3) : List T3 := if okL L && okL K then dec (cmF L K) 8 zro else []

end Go.Proofs.YtkinbgcnenieeaaGreat.M
