/-
  Seals: the step of a seal, a sealing's state in memory, take, end.
-/
import Derived.Test.YtbkiogedipmioaaGreatRows
import Derived.WalkKit
import Derived.WalkSpells
import Derived.WalkLawsBesides
import Derived.RowKit3
import Derived.Lib.SmallJoins
namespace Go.Proofs.YtbkiogedipmioaaGreat.V
open Go.RowKit Go.Joins

theorem ret_bool {a b : Bool} (h : a = b) : Ending.returned (.bool a) = .returned (.bool b) := by rw [h]
theorem ret_i64 {a b : Int} (h : a = b) : Ending.returned (.int .i64 a) = .returned (.int .i64 b) := by rw [h]
theorem bstep {B : Nat} {W w1 w2 : World} (h : Below B W w1) (hb : Below w1.heap.size w1 w2) (hB : B ≤ W.heap.size) : Below B W w2 := h.trans (hb.mono (Nat.le_trans hB h.size))

/-- One byte more. -/
def st (h b : Int) : Int := (h * 1000003 + b + 1) % 2147483647
/-- What is the byte at k; 0 behind the end. -/
def bt (s : ByteArray) (k : Nat) : Int := if h : k < s.size then ((s[k]'h).toNat : Int) else 0
/-- What the first k bytes make of a key. -/
def hs (s : ByteArray) (key : Int) : Nat → Int
  | 0 => key
  | k + 1 => st (hs s key k) (bt s k)
def inB (h : Int) : Bool := decide (0 ≤ h ∧ h ≤ 2147483646)
theorem inB_t {h : Int} : inB h = true ↔ (0 ≤ h ∧ h ≤ 2147483646) := by unfold inB; exact decide_eq_true_iff
/-- The seal. -/
def slI (key : Int) (s : ByteArray) : Int := if inB key = true then hs s key (s.size + 7) else -1

theorem bt_bd (s : ByteArray) (k : Nat) : 0 ≤ bt s k ∧ bt s k ≤ 255 := by
  unfold bt
  split
  · rename_i h
    have := UInt8.toNat_lt (s[k]'h)
    omega
  · omega
theorem bt_at {s : ByteArray} {k : Nat} (h : k < s.size) : bt s k = ((s[k]'h).toNat : Int) := by unfold bt; rw [dif_pos h]
theorem bt_end {s : ByteArray} {k : Nat} (h : s.size ≤ k) : bt s k = 0 := by unfold bt; rw [dif_neg (by omega)]
theorem st_bd (h b : Int) : 0 ≤ st h b ∧ st h b ≤ 2147483646 := by
  unfold st
  omega
theorem hs_bd {s : ByteArray} {key : Int} (hk : 0 ≤ key ∧ key ≤ 2147483646) : ∀ k, 0 ≤ hs s key k ∧ hs s key k ≤ 2147483646
  | 0 => hk
  | _ + 1 => st_bd _ _
theorem slI_bd (key : Int) (s : ByteArray) : -1 ≤ slI key s ∧ slI key s ≤ 2147483646 := by
  unfold slI
  split
  · rename_i h
    have := hs_bd (s := s) (inB_t.mp h) (s.size + 7)
    omega
  · omega

/-- A sealing at block g: its hash, its Once's word, its lock's state. -/
structure Sln (g : Nat) (h d m : Int) (w : World) : Prop where
  c0 : w.cell? ⟨g, 0, none⟩ = some (.int .i64 h)
  c1 : w.cell? ⟨g, 1, none⟩ = some (.int .u32 d)
  c2 : w.cell? ⟨g, 2, none⟩ = some (.int .i32 m)
  f0 : w.frozen? ⟨g, 0, none⟩ = false
  f1 : w.frozen? ⟨g, 1, none⟩ = false
  f2 : w.frozen? ⟨g, 2, none⟩ = false
theorem Sln.set0 {g : Nat} {h d m : Int} {w : World} (hs : Sln g h d m w) (x : Int) : Sln g x d m (w.setCell ⟨g, 0, none⟩ (.int .i64 x)) := by
  obtain ⟨c0, c1, c2, f0, f1, f2⟩ := hs
  constructor <;> go_simp
theorem Sln.set1 {g : Nat} {h d m : Int} {w : World} (hs : Sln g h d m w) (x : Int) : Sln g h x m (w.setCell ⟨g, 1, none⟩ (.int .u32 x)) := by
  obtain ⟨c0, c1, c2, f0, f1, f2⟩ := hs
  constructor <;> go_simp
theorem Sln.set2 {g : Nat} {h d m : Int} {w : World} (hs : Sln g h d m w) (x : Int) : Sln g h d x (w.setCell ⟨g, 2, none⟩ (.int .i32 x)) := by
  obtain ⟨c0, c1, c2, f0, f1, f2⟩ := hs
  constructor <;> go_simp
theorem Sln.drew {g : Nat} {h d m : Int} {w : World} (hs : Sln g h d m w) : Sln g h d m w.drew := by
  obtain ⟨c0, c1, c2, f0, f1, f2⟩ := hs
  constructor <;> go_simp

def zs (h : Int) : Nat → Int
  | 0 => h
  | k + 1 => st (zs h k) 0
theorem zs_bd {h : Int} (hk : 0 ≤ h ∧ h ≤ 2147483646) : ∀ k, 0 ≤ zs h k ∧ zs h k ≤ 2147483646
  | 0 => hk
  | _ + 1 => st_bd _ _
theorem zs_hs {s : ByteArray} {key : Int} : ∀ k, zs (hs s key s.size) k = hs s key (s.size + k)
  | 0 => rfl
  | k + 1 => by
    show st _ 0 = st _ (bt s (s.size + k))
    rw [zs_hs k, bt_end (by omega)]
    rfl

end Go.Proofs.YtbkiogedipmioaaGreat.V
