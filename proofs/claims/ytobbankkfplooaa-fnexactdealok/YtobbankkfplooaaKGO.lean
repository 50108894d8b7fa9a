/-
  A Deal as an argument's reading tells it.
-/
import Derived.Test.YtobbankkfplooaaKG1
import Derived.Test.YtobbankkfplooaaKYO
namespace Go.Proofs.Ytobbankkfplooaa.K.G
open Go.RowKit Go.Joins Go.WideShapes Go.ChangeShapes Y

theorem cells25 : Try.prog.cellsOf 25 = 6 := by kernel_rfl
set_option maxRecDepth 100000 in
theorem open_D {H : Type} {enc : TypeId × Value → H} {w : World} {base : Nat} {spare : Nat → Bool} {held : Bool} {r : Reach} {b0 : Nat} {d : DataW H} {p : List MemPlace} {v : Value}
    (hv : Value.okWide Try.prog w r b0 25 v) (h : DataW.Trod enc Try.prog w base spare held 25 v d p) : ∃ (hd : Gv) (QL : List YQ) (O V : List Int), v = hd.v ∧ RdLG w hd QL O V ∧ SmG hd QL := by
  obtain ⟨cs, rfl, hsz⟩ := okWide_struct Try.underlying25 hv
  obtain ⟨fuel, hf⟩ := h
  have hl5 : cs.toList.length = 6 := by rw [Array.length_toList, hsz, cells25]
  obtain ⟨xs, k, hk, hxy, _, hxl, hf⟩ := DataW.trod_struct Try.underlying25 hf
  obtain ⟨cs⟩ := cs
  simp only at hl5
  match xs, hxl, cs, hl5 with
  | [y0, y1, y2, y3, y4, y5], _, [v0, v1, v2, v3, v4, v5], _ =>
    have g0 := hf 0 _ rfl
    have g1 := hf 1 _ rfl
    have g2 := hf 2 _ rfl
    have g3 := hf 3 _ rfl
    have g4 := hf 4 _ rfl
    have g5 := hf 5 _ rfl
    simp [cells22, cells23, cells2, Value.cells] at g0 g1 g2 g3 g4 g5
    obtain ⟨t, e0, _, _⟩ := DataW.trod_int Try.underlying2 g0
    obtain ⟨q, e1, _, _⟩ := DataW.trod_int Try.underlying2 g1
    obtain ⟨s1, QL, e2, l1, r1, m1, b1⟩ := open_Y g2
    obtain ⟨s2, O, e3, l2, r2, b2, _⟩ := open_I g3
    obtain ⟨s3, V, e4, l3, r3, b3, _⟩ := open_I g4
    obtain ⟨s, e5, _, _⟩ := DataW.trod_int Try.underlying2 g5
    simp at e0 e1 e2 e3 e4 e5
    subst e0 e1 e2 e3 e4 e5
    exact ⟨⟨t, q, s1, s2, s3, s⟩, QL, O, V, rfl, ⟨r1, l1, r2, l2, r3, l3⟩, ⟨b1, m1, b2, b3⟩⟩
end Go.Proofs.Ytobbankkfplooaa.K.G
