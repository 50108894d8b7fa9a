/-
  Readies in memory; whether they are right, the program's look; no number twice.
-/
import Derived.Test.YtobbankkfplooaaKY1
import Derived.Test.YtobbankkfplooaaKNG
import Derived.Test.YtobbankkfplooaaKID1
namespace Go.Proofs.Ytobbankkfplooaa.K.Y
open Go.Shelf Go.RowKit Go.Joins
attribute [local go_sem] Oper.semAt_some

abbrev YQ := Yd × Sv
def zyq : YQ := (zyd, ⟨none, 0, 0⟩)
def kY : Kd YQ := ⟨51, 3, fun y => [.int .i64 y.1.t, .int .i64 y.1.q, .slice y.2.p y.2.n y.2.c], fun _ => rfl⟩
def kLY : Kd YQ := ⟨63, 3, fun y => [.int .i64 y.1.t, .int .i64 y.1.q, .slice y.2.p y.2.n y.2.c], fun _ => rfl⟩
theorem CsG.y3 {w : World} {g off : Nat} {L : List YQ} (h : CsG kY w g off L) {k : Nat} {y : YQ} (hk : L[k]? = some y) : w.cell? ⟨g, off + k * 3, none⟩ = some (.int .i64 y.1.t) ∧ w.cell? ⟨g, off + k * 3 + 1, none⟩ = some (.int .i64 y.1.q) ∧ w.cell? ⟨g, off + k * 3 + 2, none⟩ = some (.slice y.2.p y.2.n y.2.c) :=
  ⟨h.at hk (i := 0) rfl, h.at hk (i := 1) rfl, h.at hk (i := 2) rfl⟩
theorem CsG.ly3 {w : World} {g off : Nat} {L : List YQ} (h : CsG kLY w g off L) {k : Nat} {y : YQ} (hk : L[k]? = some y) : w.cell? ⟨g, off + k * 3, none⟩ = some (.int .i64 y.1.t) ∧ w.cell? ⟨g, off + k * 3 + 1, none⟩ = some (.int .i64 y.1.q) ∧ w.cell? ⟨g, off + k * 3 + 2, none⟩ = some (.slice y.2.p y.2.n y.2.c) :=
  ⟨h.at hk (i := 0) rfl, h.at hk (i := 1) rfl, h.at hk (i := 2) rfl⟩
theorem getY {L : List YQ} {k : Nat} (hk : k < L.length) : L[k]? = some (L.getD k zyq) := by simp [List.getD, hk]
/-- A Ready's Items as one reads them. -/
def RdI (K : Kd Rc) (W : World) (y : YQ) : Prop := SlG K W y.2.p y.1.L ∧ y.1.L.length = y.2.n
theorem RdI.step {K : Kd Rc} {w w' : World} {y : YQ} (h : RdI K w y) (hb : Below w.heap.size w w') : RdI K w' y := ⟨h.1.step hb, h.2⟩
/-- A list of Readies as one reads it: the program's, the law's. -/
def RdY (W : World) (p : Option Addr) (QL : List YQ) : Prop := SlG kY W p QL ∧ ∀ y ∈ QL, RdI I.kR W y
def RdLY (W : World) (p : Option Addr) (QL : List YQ) : Prop := SlG kLY W p QL ∧ ∀ y ∈ QL, RdI I.kL W y
theorem RdY.step {w w' : World} {p : Option Addr} {QL : List YQ} (h : RdY w p QL) (hb : Below w.heap.size w w') : RdY w' p QL := ⟨h.1.step hb, fun q hq => (h.2 q hq).step hb⟩
theorem RdLY.step {w w' : World} {p : Option Addr} {QL : List YQ} (h : RdLY w p QL) (hb : Below w.heap.size w w') : RdLY w' p QL := ⟨h.1.step hb, fun q hq => (h.2 q hq).step hb⟩
def yds (QL : List YQ) : List Yd := QL.map (·.1)
theorem yds_len (QL : List YQ) : (yds QL).length = QL.length := by simp [yds]
theorem yds_get {QL : List YQ} {k : Nat} (hk : k < QL.length) : (yds QL)[k]? = some (QL.getD k zyq).1 := by simp [yds, List.getD, hk]
theorem yds_take {QL : List YQ} {k : Nat} (hk : k < QL.length) : (yds QL).take (k + 1) = (yds QL).take k ++ [(QL.getD k zyq).1] := by
  rw [List.take_add_one, yds_get hk]; rfl

theorem batB_yB (y : Yd) : I.batB y.t y.q y.L = yB y := rfl
theorem take_ids {L : List Rc} {t : Int} {k : Nat} (hk : k < L.length) : (L.take (k + 1)).map (fun r => numN t r.i) = (L.take k).map (fun r => numN t r.i) ++ [numN t (L.getD k zrc).i] := by
  rw [List.take_add_one, getR hk]; simp
theorem sg_nil2 (w : World) : Sg w w [rG kI (.slice none 0 0) [], rG kI (.slice none 0 0) []] := by
  refine ⟨Below.refl _ _, fun r hr => ?_, ?_⟩
  · simp at hr
    subst hr
    exact ⟨rfl, .inl ⟨rfl, rfl⟩⟩
  · simp [rG, Value.ownBlock]
theorem flat_len6 : ∀ {Y : List Yd}, Y.all yB = true → (Y.flatMap idsN).length ≤ 6 * Y.length
  | [], _ => by simp
  | y :: t, h => by
    rw [List.all_cons, Bool.and_eq_true] at h
    have h1 := flat_len6 h.2
    have h2 := (yB_parts h.1).2.2.1
    rw [List.flatMap_cons, List.length_append, List.length_cons]
    have : (idsN y).length = y.L.length := by simp [idsN]
    omega
end Go.Proofs.Ytobbankkfplooaa.K.Y
