/-
  The kinds of elements that the tree's lists have; what is written into rows of one's own.
-/
import Derived.Test.YtipfcmfcdfofmaaGreatRG
import Derived.Test.YtipfcmfcdfofmaaGreatMT
import Derived.Deep.AppendLies
namespace Go.Proofs.YtipfcmfcdfofmaaGreat
open Go.RowKit Go.Joins

/-- A slice, as it lies in a cell. -/
structure Sv where
  p : Option Addr
  n : Nat
  c : Nat
def Sv.v (s : Sv) : Value := .slice s.p s.n s.c
def kM : Kd Mk := ⟨45, 3, fun m => [.int .i64 m.i, .int .i64 m.x, .int .i64 m.y], fun _ => rfl⟩
def kI : Kd Int := ⟨2, 1, fun n => [.int .i64 n], fun _ => rfl⟩
def kS : Kd T2 := ⟨43, 2, fun c => [.int .i64 c.x, .int .i64 c.y], fun _ => rfl⟩
def kN : Kd (Nd × Sv) := ⟨49, 6, fun p => [.int .i64 p.1.b.x, .int .i64 p.1.b.y, .int .i64 p.1.b.w, .int .i64 p.1.b.h, .bool p.1.lf, .slice p.2.p p.2.n p.2.c], fun _ => rfl⟩
def kV : Kd Value := ⟨142, 1, fun v => [v], fun _ => rfl⟩
def kT : Kd (Sv × Sv) := ⟨28, 2, fun p => [.slice p.1.p p.1.n p.1.c, .slice p.2.p p.2.n p.2.c], fun _ => rfl⟩
theorem info45 : (Tryz.prog.info? 45).map (fun i => (i.zero, i.size, i.bytes)) = some (some (.agg #[.int .i64 0, .int .i64 0, .int .i64 0]), 3, 24) := by kernel_rfl
theorem info2 : (Tryz.prog.info? 2).map (fun i => (i.zero, i.size, i.bytes)) = some (some (.int .i64 0), 1, 8) := by kernel_rfl
theorem info43 : (Tryz.prog.info? 43).map (fun i => (i.zero, i.size, i.bytes)) = some (some (.agg #[.int .i64 0, .int .i64 0]), 2, 16) := by kernel_rfl
theorem info49 : (Tryz.prog.info? 49).map (fun i => (i.zero, i.size, i.bytes)) = some (some (.agg #[.int .i64 0, .int .i64 0, .int .i64 0, .int .i64 0, .bool false, .slice none 0 0]), 6, 64) := by kernel_rfl
theorem info142 : (Tryz.prog.info? 142).map (fun i => (i.zero, i.size, i.bytes)) = some (some .nilIface, 1, 16) := by kernel_rfl
theorem CsG.mk {w : World} {g off : Nat} {L : List Mk} (h : CsG kM w g off L) {k : Nat} {m : Mk} (hk : L[k]? = some m) : w.cell? ⟨g, off + k * 3, none⟩ = some (.int .i64 m.i) ∧ w.cell? ⟨g, off + k * 3 + 1, none⟩ = some (.int .i64 m.x) ∧ w.cell? ⟨g, off + k * 3 + 2, none⟩ = some (.int .i64 m.y) :=
  ⟨h.at hk (i := 0) rfl, h.at hk (i := 1) rfl, h.at hk (i := 2) rfl⟩
theorem CsG.int {w : World} {g off : Nat} {L : List Int} (h : CsG kI w g off L) {k : Nat} {n : Int} (hk : L[k]? = some n) : w.cell? ⟨g, off + k, none⟩ = some (.int .i64 n) := by
  have := h.at hk (i := 0) (u := .int .i64 n) rfl
  simpa [kI] using this
theorem CsG.spot {w : World} {g off : Nat} {L : List T2} (h : CsG kS w g off L) {k : Nat} {c : T2} (hk : L[k]? = some c) : w.cell? ⟨g, off + k * 2, none⟩ = some (.int .i64 c.x) ∧ w.cell? ⟨g, off + k * 2 + 1, none⟩ = some (.int .i64 c.y) :=
  ⟨h.at hk (i := 0) rfl, h.at hk (i := 1) rfl⟩
theorem CsG.val {w : World} {g off : Nat} {L : List Value} (h : CsG kV w g off L) {k : Nat} {v : Value} (hk : L[k]? = some v) : w.cell? ⟨g, off + k, none⟩ = some v := by
  have := h.at hk (i := 0) (u := v) rfl
  simpa [kV] using this
theorem CsG.nd {w : World} {g off : Nat} {L : List (Nd × Sv)} (h : CsG kN w g off L) {k : Nat} {p : Nd × Sv} (hk : L[k]? = some p) :
    w.cell? ⟨g, off + k * 6, none⟩ = some (.int .i64 p.1.b.x) ∧ w.cell? ⟨g, off + k * 6 + 1, none⟩ = some (.int .i64 p.1.b.y) ∧ w.cell? ⟨g, off + k * 6 + 2, none⟩ = some (.int .i64 p.1.b.w) ∧ w.cell? ⟨g, off + k * 6 + 3, none⟩ = some (.int .i64 p.1.b.h) ∧ w.cell? ⟨g, off + k * 6 + 4, none⟩ = some (.bool p.1.lf) ∧ w.cell? ⟨g, off + k * 6 + 5, none⟩ = some (.slice p.2.p p.2.n p.2.c) :=
  ⟨h.at hk (i := 0) rfl, h.at hk (i := 1) rfl, h.at hk (i := 2) rfl, h.at hk (i := 3) rfl, h.at hk (i := 4) rfl, h.at hk (i := 5) rfl⟩
/-- A cell of a row of one's own is written. -/
theorem own_set {W : World} {base size n g cap : Nat} {e : TypeId} {xs : List Value} (h : W.ownsRow base e size (.slice (some ⟨g, 0, none⟩) n cap) n xs) (j : Nat) (u : Value) :
    (W.setCell ⟨g, j, none⟩ u).ownsRow base e size (.slice (some ⟨g, 0, none⟩) n cap) n (xs.set j u) ∧ W.grownBy (W.setCell ⟨g, j, none⟩ u) (some g) := World.ownsRow.stored h j u
theorem own_lit (W : World) (cs : Array Value) (e : TypeId) (size n : Nat) (hs : cs.size = n * size) (hm : n ≤ 1000000) : (W.alloc (.cells cs e)).ownsRow W.heap.size e size (.slice (some ⟨W.heap.size, 0, none⟩) n n) n cs.toList := by
  exact World.ownsRow_lit (base := W.heap.size) (e := e) (size := size) W cs n (Nat.le_refl _) (by unfold maxLen; omega) hs
end Go.Proofs.YtipfcmfcdfofmaaGreat
