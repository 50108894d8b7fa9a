/-
  Lists of Cells, as a row's reading tells them; the library's tables, as the row lists them.
-/
import Derived.Test.YtachodaecpnhbaaGreatDoorY2
import Derived.OpenShut
import Derived.Deep.Slices
import Derived.ProofKit
import Derived.Lib.LaidTab
import Derived.LaidLaws
import Derived.Stop.LaidErr
namespace Go.Proofs.YtachodaecpnhbaaGreatDoor
open Go.RowKit Go.Joins Go.WideShapes Go.ChangeShapes

theorem addr_ad (b off j : Nat) : (⟨b, off, none⟩ : Addr).add j = ⟨b, off + j, none⟩ := by unfold Addr.add; split <;> simp_all
theorem cs_of {α : Type} {K : Kd α} (hp : 0 < K.n) {w : World} {b off len : Nat} {q : Nat → α} (hb : b < w.heap.size) (hq : ∀ i, i < len → ∀ j u, (K.vs (q i))[j]? = some u → w.cell? ⟨b, off + (i * K.n + j), none⟩ = some u) : CsG K w b off ((List.range len).map q) := by
  refine ⟨hb, fun j u hj => ?_⟩
  have hl := Kd.flat_len (K := K) ((List.range len).map q)
  have hjl : j < len * K.n := by
    have := (List.getElem?_eq_some_iff.1 hj).1
    rw [hl] at this; simpa using this
  have hi : j / K.n < len := (Nat.div_lt_iff_lt_mul hp).mpr hjl
  have hk : ((List.range len).map q)[j / K.n]? = some (q (j / K.n)) := by simp [hi]
  have hg := Kd.flat_get (K := K) hk (i := j % K.n) (Nat.mod_lt _ hp)
  have e3 : j / K.n * K.n + j % K.n = j := by rw [Nat.mul_comm]; exact Nat.div_add_mod j K.n
  rw [e3, hj] at hg
  have := hq (j / K.n) hi (j % K.n) u hg.symm
  rwa [e3] at this
theorem cells126 : Tryz.prog.cellsOf 126 = 3 := by kernel_rfl
theorem cells2 : Tryz.prog.cellsOf 2 = 1 := by kernel_rfl
theorem cells46 : Tryz.prog.cellsOf 46 = 1 := by kernel_rfl
set_option maxRecDepth 100000 in
theorem open_C {H : Type} {enc : TypeId × Value → H} {w : World} {base : Nat} {spare : Nat → Bool} {held : Bool} {fuel : Nat} {x : DataW H × List MemPlace} {cs : List Value}
    (h : DataW.trod enc Tryz.prog w base spare held fuel 46 cs = some x) : ∃ (s : Sv) (L : List T3), cs = [.slice s.p s.n s.c] ∧ L.length = s.n ∧ SlG kL w s.p L ∧ s.n ≤ maxLen := by
  rcases Go.Deep.open_slice Tryz.underlying46 h with ⟨hcs, _⟩ | ⟨a, len, cap, m, n, D, Pl, hcs, _, hl, hm, hmm, _, hx⟩
  · exact ⟨⟨none, 0, 0⟩, [], hcs, rfl, .inl rfl, Nat.zero_le _⟩
  · have hlm : len ≤ m := by rw [hmm]; split <;> omega
    have each : ∀ i, i < len → ∃ c : T3, ∀ j u, (kL.vs c)[j]? = some u → w.cell? (a.add (i * 3 + j)) = some u := by
      intro i hi
      obtain ⟨cs', h1, h2⟩ := hx i (by omega)
      rw [cells126] at h1
      obtain ⟨_, hlen, hcell⟩ := World.cells?_some h1
      obtain ⟨xs, k, hk, hxy, _, hxl, hf⟩ := DataW.trod_struct Tryz.underlying126 h2
      match xs, hxl, cs', hlen with
      | [y0, y1, y2], _, [v0, v1, v2], _ =>
        have g0 := hf 0 _ rfl
        have g1 := hf 1 _ rfl
        have g2 := hf 2 _ rfl
        simp [cells2] at g0 g1 g2
        obtain ⟨a0, e0, _, _⟩ := DataW.trod_int Tryz.underlying2 g0
        obtain ⟨a1, e1, _, _⟩ := DataW.trod_int Tryz.underlying2 g1
        obtain ⟨a2, e2, _, _⟩ := DataW.trod_int Tryz.underlying2 g2
        simp at e0 e1 e2
        subst e0 e1 e2
        refine ⟨⟨a0, a1, a2⟩, fun j u hu => ?_⟩
        have hj3 : j < 3 := (List.getElem?_eq_some_iff.1 hu).1
        have dj := hcell j (by omega)
        rw [Go.Deep.add_add] at dj
        have : j = 0 ∨ j = 1 ∨ j = 2 := by omega
        rcases this with rfl | rfl | rfl <;> (simp [kL] at hu; subst hu; simpa using dj)
    by_cases h0 : len = 0
    · subst h0; exact ⟨⟨some a, 0, cap⟩, [], hcs, rfl, .inl rfl, Nat.zero_le _⟩
    obtain ⟨q, hq⟩ : ∃ q : Nat → T3, ∀ i, i < len → ∀ j u, (kL.vs (q i))[j]? = some u → w.cell? (a.add (i * 3 + j)) = some u := by
      haveI : Inhabited T3 := ⟨z3⟩
      exact Go.Deep.choose_lt each
    obtain ⟨b, off, spot⟩ := a
    have hc0 := hq 0 (by omega) 0 _ rfl
    have hspot : spot = none := by simpa [Addr.add] using World.cell?_spot hc0
    subst hspot
    have hb := World.block_lt_of_cell? w _ hc0
    simp [Addr.add] at hb
    refine ⟨⟨some ⟨b, off, none⟩, len, cap⟩, (List.range len).map q, hcs, by simp, .inr ⟨b, off, rfl, cs_of (by decide) hb fun i hi j u hu => ?_⟩, by show len ≤ maxLen; omega⟩
    have := hq i hi j u hu
    rw [addr_ad] at this
    exact this

def tab32 : List Int := [0, 1, 28, 2, 29, 14, 24, 3, 30, 22, 20, 15, 25, 17, 4, 8, 31, 27, 13, 23, 21, 19, 16, 7, 26, 12, 18, 6, 11, 5, 10, 9]
def tab64 : List Int := [0, 1, 56, 2, 57, 49, 28, 3, 61, 58, 42, 50, 38, 29, 17, 4, 62, 47, 59, 36, 45, 43, 51, 22, 53, 39, 33, 30, 24, 18, 12, 5, 63, 55, 48, 27, 60, 41, 37, 16, 46, 35, 44, 21, 52, 32, 23, 11, 54, 26, 40, 15, 34, 20, 31, 10, 25, 14, 19, 9, 13, 8, 7, 6]
def setB (b : Nat) (cs : Array Value) (h : Array Obj) : Array Obj := h.modify b fun
  | .cells _ t frozen => .cells cs t frozen
  | o => o
theorem gTab : Tryz.prog.globalNamed "internal/strconv.uint64pow10" = some 0 := by kernel_rfl
theorem gTabType : (Tryz.prog.globals[0]?).map (·.type) = some 166 := by kernel_rfl
theorem cells166 : Tryz.prog.cellsOf 166 = 20 := by kernel_rfl
theorem cells155 : Tryz.prog.cellsOf 155 = 1 := by kernel_rfl
/-- What the row's list gives: the table of tens. -/
theorem table {W : World} (h : laidMet Tryz.prog Rows.fnExactMintedRow.laid W) : TB W := by
  have h' : laidMet Tryz.prog [("math/bits.deBruijn32tab", Rows.laid_math_bits_deBruijn32tab), ("math/bits.deBruijn64tab", Rows.laid_math_bits_deBruijn64tab), ("internal/strconv.uint64pow10", Lib.tabData .u64 Lib.pow10Tab)] W := h
  exact Lib.tabIs_of_head (rest := []) gTab gTabType Tryz.underlying166 Tryz.underlying155 cells155 cells166 h'.tail.tail
end Go.Proofs.YtachodaecpnhbaaGreatDoor
