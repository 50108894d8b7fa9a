/-
  Contracts of the drawing functions, fourth part: a Cell drawn. What is drawn is not told: that the call answers three numbers, and that of what was there only the cursor turns.
-/
import Derived.Test.YtobbankkfplooaaGreatMC3
import Derived.Deep.QuietTactic
import Derived.BigQuiet
import Derived.Deep.Cut
import Derived.Deep.RegionHeld3
import Derived.Deep.DrawnRows
import Derived.Test.YtobbankkfplooaaGreatMX2
namespace Go.Proofs.YtobbankkfplooaaGreat.M
open Go.RowKit Go.Joins

theorem i64_and255 (n : Int) : bits .and .i64 n 255 = n % 256 := by
  have h255 : (BitVec.ofInt 64 255).toNat = 2 ^ 8 - 1 := by decide
  have key : (BitVec.ofInt 64 n &&& BitVec.ofInt 64 255).toNat = (n % ((2 ^ 64 : Nat) : Int)).toNat % 2 ^ 8 := by
    rw [BitVec.toNat_and, BitVec.toNat_ofInt, h255, Nat.and_two_pow_sub_one_eq_mod]
  show IntKind.i64.wrap ((BitVec.ofInt 64 n &&& BitVec.ofInt 64 255).toNat : Nat) = n % 256
  rw [key, IntKind.wrap_i64]
  omega
theorem i64_and30 (n : Int) : bits .and .i64 n 1073741823 = n % 1073741824 := by
  have h30 : (BitVec.ofInt 64 1073741823).toNat = 2 ^ 30 - 1 := by decide
  have key : (BitVec.ofInt 64 n &&& BitVec.ofInt 64 1073741823).toNat = (n % ((2 ^ 64 : Nat) : Int)).toNat % 2 ^ 30 := by
    rw [BitVec.toNat_and, BitVec.toNat_ofInt, h30, Nat.and_two_pow_sub_one_eq_mod]
  show IntKind.i64.wrap ((BitVec.ofInt 64 n &&& BitVec.ofInt 64 1073741823).toNat : Nat) = n % 1073741824
  rw [key, IntKind.wrap_i64]
  omega

/-- Only block g, and new ones, may have turned. -/
structure Turn (g : Nat) (w w' : World) : Prop where
  os : w'.os = w.os
  tape : w'.tape = w.tape
  output : w'.output = w.output
  size : w.heap.size ≤ w'.heap.size
  block : ∀ k, k < w.heap.size → k ≠ g → w'.heap[k]? = w.heap[k]?
theorem Turn.refl (g : Nat) (w : World) : Turn g w w := ⟨rfl, rfl, rfl, Nat.le_refl _, fun _ _ _ => rfl⟩
theorem Turn.trans {g : Nat} {a b c : World} (h : Turn g a b) (k : Turn g b c) : Turn g a c :=
  ⟨k.os.trans h.os, k.tape.trans h.tape, k.output.trans h.output, Nat.le_trans h.size k.size, fun i hi hg => (k.block i (Nat.lt_of_lt_of_le hi h.size) hg).trans (h.block i hi hg)⟩
theorem Turn.drew {g : Nat} {a w : World} (h : Turn g a w) : Turn g a w.drew := ⟨h.os, h.tape, h.output, h.size, h.block⟩
theorem Turn.drewN {g : Nat} {a w : World} (h : Turn g a w) (n : Nat) : Turn g a (w.drewN n) := ⟨h.os, h.tape, h.output, h.size, h.block⟩
theorem Turn.alloc {g : Nat} {a w : World} (h : Turn g a w) (o : Obj) : Turn g a (w.alloc o) :=
  ⟨h.os, h.tape, h.output, Nat.le_trans h.size (by simp), fun k hk hg => (Below.heap_alloc w o k (Nat.lt_of_lt_of_le hk h.size)).trans (h.block k hk hg)⟩
theorem Turn.setCell {g o : Nat} {a w : World} (h : Turn g a w) (u : Value) : Turn g a (w.setCell ⟨g, o, none⟩ u) :=
  ⟨h.os, h.tape, h.output, by simpa using h.size, fun k hk hg => (Below.heap_setCell w ⟨g, o, none⟩ u k hg).trans (h.block k hk hg)⟩
theorem Turn.setNew {g b o : Nat} {a w : World} (h : Turn g a w) (hb : a.heap.size ≤ b) (u : Value) : Turn g a (w.setCell ⟨b, o, none⟩ u) :=
  ⟨h.os, h.tape, h.output, by simpa using h.size, fun k hk hg => (Below.heap_setCell w ⟨b, o, none⟩ u k (by dsimp only; omega)).trans (h.block k hk hg)⟩
theorem Turn.cell {g : Nat} {w w' : World} (h : Turn g w w') {b o : Nat} (hb : b < w.heap.size) (hg : b ≠ g) : w'.cell? ⟨b, o, none⟩ = w.cell? ⟨b, o, none⟩ := World.cell?_of_block (w := w) (h.block b hb hg)
theorem Turn.frozen {g : Nat} {w w' : World} (h : Turn g w w') {b o : Nat} (hb : b < w.heap.size) (hg : b ≠ g) : w'.frozen? ⟨b, o, none⟩ = w.frozen? ⟨b, o, none⟩ := World.frozen?_of_block (w := w) (h.block b hb hg)
theorem Turn.below {g B : Nat} {w w' : World} (h : Turn g w w') (h1 : B ≤ g) (h2 : B ≤ w.heap.size) : Below B w w' := ⟨h.os, h.tape, h.output, h.size, fun k hk => h.block k (by omega) (by omega)⟩
theorem Turn.of {g : Nat} {w w' : World} (h : Below w.heap.size w w') : Turn g w w' := ⟨h.os, h.tape, h.output, h.size, fun k hk _ => h.block k hk⟩

/-- The bytes of a slice that lies elsewhere than block g. -/
def Rd (w : World) (g : Nat) (a : Option Addr) (len : Nat) (zs : List Int) : Prop :=
  len = 0 ∨ ∃ b off, a = some ⟨b, off, none⟩ ∧ b ≠ g ∧ b < w.heap.size ∧ ∀ j, j < len → w.cell? ⟨b, off + j, none⟩ = some (.int .u8 (zs.getD j 0)) ∧ 0 ≤ zs.getD j 0 ∧ zs.getD j 0 ≤ 255
theorem Rd.turn {w w' : World} {g : Nat} {a : Option Addr} {len : Nat} {zs : List Int} (h : Rd w g a len zs) (t : Turn g w w') : Rd w' g a len zs := by
  rcases h with h | ⟨b, off, ha, hg, hb, hc⟩
  · exact .inl h
  · exact .inr ⟨b, off, ha, hg, Nat.lt_of_lt_of_le hb t.size, fun j hj => ⟨(t.cell hb hg).trans (hc j hj).1, (hc j hj).2⟩⟩

/-- A cursor lies in block g. -/
structure Cur (w : World) (g : Nat) (a : Option Addr) (len cap : Nat) (zs : List Int) : Prop where
  hg : g < w.heap.size
  hl : len ≤ 4096
  c0 : w.cell? ⟨g, 0, none⟩ = some (.slice a len cap)
  c1 : ∃ i : Nat, i ≤ len ∧ w.cell? ⟨g, 1, none⟩ = some (.int .i64 (i : Int))
  c2 : ∃ h : Int, w.cell? ⟨g, 2, none⟩ = some (.int .i64 h)
  f1 : w.frozen? ⟨g, 1, none⟩ = false
  f2 : w.frozen? ⟨g, 2, none⟩ = false
  rd : Rd w g a len zs
/-- What keeps block g as it is keeps the cursor. -/
theorem Cur.keep {w w' : World} {g : Nat} {a : Option Addr} {len cap : Nat} {zs : List Int} (h : Cur w g a len cap zs) (t : Turn g w w') (hb : w'.heap[g]? = w.heap[g]?) : Cur w' g a len cap zs := by
  have hc : ∀ o, w'.cell? ⟨g, o, none⟩ = w.cell? ⟨g, o, none⟩ := fun o => World.cell?_of_block (w := w) hb
  have hf : ∀ o, w'.frozen? ⟨g, o, none⟩ = w.frozen? ⟨g, o, none⟩ := fun o => World.frozen?_of_block (w := w) hb
  obtain ⟨i, hi, h1⟩ := h.c1
  obtain ⟨k, h2⟩ := h.c2
  exact ⟨Nat.lt_of_lt_of_le h.hg t.size, h.hl, (hc 0).trans h.c0, ⟨i, hi, (hc 1).trans h1⟩, ⟨k, (hc 2).trans h2⟩, (hf 1).trans h.f1, (hf 2).trans h.f2, h.rd.turn t⟩
theorem Cur.below {w w' : World} {g : Nat} {a : Option Addr} {len cap : Nat} {zs : List Int} (h : Cur w g a len cap zs) (t : Below w.heap.size w w') : Cur w' g a len cap zs := h.keep (Turn.of t) (t.block g h.hg)
theorem Cur.alloc {w : World} {g : Nat} {a : Option Addr} {len cap : Nat} {zs : List Int} (h : Cur w g a len cap zs) (o : Obj) : Cur (w.alloc o) g a len cap zs := h.below (below_alloc1 w o)
theorem Cur.drew {w : World} {g : Nat} {a : Option Addr} {len cap : Nat} {zs : List Int} (h : Cur w g a len cap zs) : Cur w.drew g a len cap zs := h.keep (Turn.refl g w).drew rfl
theorem Cur.drewN {w : World} {g : Nat} {a : Option Addr} {len cap : Nat} {zs : List Int} (h : Cur w g a len cap zs) (n : Nat) : Cur (w.drewN n) g a len cap zs := h.keep ((Turn.refl g w).drewN n) rfl
theorem Cur.setNew {w : World} {g b o : Nat} {u : Value} {a : Option Addr} {len cap : Nat} {zs : List Int} (h : Cur w g a len cap zs) (hb : b ≠ g) (hd : ∀ B off, a = some ⟨B, off, none⟩ → B ≠ b) : Cur (w.setCell ⟨b, o, none⟩ u) g a len cap zs := by
  have hc : ∀ k o', k ≠ b → (w.setCell ⟨b, o, none⟩ u).cell? ⟨k, o', none⟩ = w.cell? ⟨k, o', none⟩ := fun k o' hk => World.cell?_of_block (w := w) (Below.heap_setCell w ⟨b, o, none⟩ u k hk)
  obtain ⟨i, hi, h1⟩ := h.c1
  obtain ⟨k, h2⟩ := h.c2
  refine ⟨by simpa using h.hg, h.hl, (hc g 0 (Ne.symm hb)).trans h.c0, ⟨i, hi, (hc g 1 (Ne.symm hb)).trans h1⟩, ⟨k, (hc g 2 (Ne.symm hb)).trans h2⟩, by simp [h.f1], by simp [h.f2], ?_⟩
  rcases h.rd with h | ⟨B, off, ha, hg, hB, hr⟩
  · exact .inl h
  · exact .inr ⟨B, off, ha, hg, by simpa using hB, fun j hj => ⟨(hc B _ (hd B off ha)).trans (hr j hj).1, (hr j hj).2⟩⟩
/-- The two stores of one byte drawn. -/
theorem Cur.step {w : World} {g : Nat} {a : Option Addr} {len cap : Nat} {zs : List Int} (h : Cur w g a len cap zs) (k : Int) (i : Nat) (hi : i ≤ len) : Cur ((w.setCell ⟨g, 2, none⟩ (.int .i64 k)).setCell ⟨g, 1, none⟩ (.int .i64 (i : Int))) g a len cap zs := by
  obtain ⟨i0, hi0, h1⟩ := h.c1
  obtain ⟨k0, h2⟩ := h.c2
  have e0 : ∀ w : World, ∀ u v, ((w.setCell ⟨g, 2, none⟩ u).setCell ⟨g, 1, none⟩ v).cell? ⟨g, 0, none⟩ = w.cell? ⟨g, 0, none⟩ := fun w u v => by
    rw [World.cell?_setCell_other _ _ _ _ (by simp), World.cell?_setCell_other _ _ _ _ (by simp)]
  have e1 : ((w.setCell ⟨g, 2, none⟩ (.int .i64 k)).setCell ⟨g, 1, none⟩ (.int .i64 (i : Int))).cell? ⟨g, 1, none⟩ = some (.int .i64 (i : Int)) :=
    World.cell?_setCell_same _ _ _ (u := .int .i64 (i0 : Int)) (by rw [World.cell?_setCell_other _ _ _ _ (by simp)]; exact h1)
  have e2 : ((w.setCell ⟨g, 2, none⟩ (.int .i64 k)).setCell ⟨g, 1, none⟩ (.int .i64 (i : Int))).cell? ⟨g, 2, none⟩ = some (.int .i64 k) := by
    rw [World.cell?_setCell_other _ _ _ _ (by simp)]
    exact World.cell?_setCell_same _ _ _ h2
  exact ⟨by simpa using h.hg, h.hl, (e0 _ _ _).trans h.c0, ⟨i, hi, e1⟩, ⟨k, e2⟩, by simp [h.f1], by simp [h.f2], h.rd.turn (((Turn.refl g w).setCell _).setCell _)⟩
theorem Cur.step1 {w : World} {g : Nat} {a : Option Addr} {len cap : Nat} {zs : List Int} (h : Cur w g a len cap zs) (k : Int) : Cur (w.setCell ⟨g, 2, none⟩ (.int .i64 k)) g a len cap zs := by
  obtain ⟨i0, hi0, h1⟩ := h.c1
  obtain ⟨k0, h2⟩ := h.c2
  refine ⟨by simpa using h.hg, h.hl, ?_, ⟨i0, hi0, ?_⟩, ⟨k, World.cell?_setCell_same _ _ _ h2⟩, by simp [h.f1], by simp [h.f2], h.rd.turn ((Turn.refl g w).setCell _)⟩
  · rw [World.cell?_setCell_other _ _ _ _ (by simp)]; exact h.c0
  · rw [World.cell?_setCell_other _ _ _ _ (by simp)]; exact h1

set_option maxHeartbeats 2000000 in
theorem byte_in (g : Nat) (a : Option Addr) (len cap : Nat) (zs : List Int) (i : Nat) (w : World) (hcur : Cur w g a len cap zs) (h1 : w.cell? ⟨g, 1, none⟩ = some (.int .i64 (i : Int))) (hi : i < len) :
    Calls Tryz.prog 86 #[.pointer (some ⟨g, 0, none⟩)] w fun e w' => ∃ x : Int, e = .returned (.int .i64 x) ∧ 0 ≤ x ∧ x ≤ 255 ∧ Turn g w w' ∧ Cur w' g a len cap zs := by
  obtain ⟨h, h2⟩ := hcur.c2
  have h0 := hcur.c0
  have f1 := hcur.f1
  have f2 := hcur.f2
  have hl := hcur.hl
  have HC : Hid (Cur w g a len cap zs) := hcur
  rcases hcur.rd with h' | ⟨b, off, rfl, hbg, hbs, hr⟩
  · omega
  clear hcur
  have hr1 := (hr i hi).1
  have hr2 := (hr i hi).2.1
  have hr3 := (hr i hi).2.2
  clear hr
  have hi' : (i : Int) < (len : Int) := by omega
  have hi0 : (0 : Int) ≤ (i : Int) := by omega
  have ha := i64_and255
  have hcl : ∀ (w : World) (o o' : Nat) (v : Value), (w.setCell ⟨g, o, none⟩ v).cell? ⟨b, o', none⟩ = w.cell? ⟨b, o', none⟩ := fun w o o' v => World.cell?_of_block (w := w) (Below.heap_setCell w ⟨g, o, none⟩ v b hbg)
  generalize zs.getD i 0 = z at hr1 hr2 hr3
  go_enter Tryz.func86, Tryz.ntmps86
  go_wp2
  go_quiet (fail)
  go_wp2
  go_quiet (fail)
  go_wp2
  go_quiet (fail)
  go_wp2
  go_ret
  refine ⟨_, rfl, Int.emod_nonneg _ (by decide), Int.le_of_lt_add_one (Int.emod_lt_of_pos _ (by decide)), (((Turn.refl g w).setCell _).drewN _).setCell _, ?_⟩
  rw [show ((i : Int) + 1) = ((i + 1 : Nat) : Int) by omega]
  exact (HC.out.step _ (i + 1) hi).drewN _

set_option maxHeartbeats 2000000 in
theorem byte_out (g : Nat) (a : Option Addr) (len cap : Nat) (zs : List Int) (i : Nat) (w : World) (hcur : Cur w g a len cap zs) (h1 : w.cell? ⟨g, 1, none⟩ = some (.int .i64 (i : Int))) (hi : ¬ i < len) :
    Calls Tryz.prog 86 #[.pointer (some ⟨g, 0, none⟩)] w fun e w' => ∃ x : Int, e = .returned (.int .i64 x) ∧ 0 ≤ x ∧ x ≤ 255 ∧ Turn g w w' ∧ Cur w' g a len cap zs := by
  obtain ⟨h, h2⟩ := hcur.c2
  have h0 := hcur.c0
  have f1 := hcur.f1
  have f2 := hcur.f2
  have HC : Hid (Cur w g a len cap zs) := hcur
  clear hcur
  have hi' : ¬ (i : Int) < (len : Int) := by omega
  have ha := i64_and255
  go_enter Tryz.func86, Tryz.ntmps86
  go_wp2
  go_quiet (fail)
  go_wp2
  go_quiet (fail)
  go_wp2
  go_ret
  exact ⟨_, rfl, Int.emod_nonneg _ (by decide), Int.le_of_lt_add_one (Int.emod_lt_of_pos _ (by decide)), (((Turn.refl g w).setCell _).drewN _).drewN _, ((HC.out.step1 _).drewN _).drewN _⟩

theorem byte_any (g : Nat) (a : Option Addr) (len cap : Nat) (zs : List Int) (w : World) (hcur : Cur w g a len cap zs) :
    Calls Tryz.prog 86 #[.pointer (some ⟨g, 0, none⟩)] w fun e w' => ∃ x : Int, e = .returned (.int .i64 x) ∧ 0 ≤ x ∧ x ≤ 255 ∧ Turn g w w' ∧ Cur w' g a len cap zs := by
  obtain ⟨i, _, h1⟩ := hcur.c1
  by_cases hlt : i < len
  · exact byte_in g a len cap zs i w hcur h1 hlt
  · exact byte_out g a len cap zs i w hcur h1 hlt

set_option maxHeartbeats 400000 in
theorem below_any (g : Nat) (a : Option Addr) (len cap : Nat) (zs : List Int) (n : Int) (w : World) (hcur : Cur w g a len cap zs) (hn1 : 1 ≤ n) (hn2 : n ≤ 256) :
    Calls Tryz.prog 64 #[.pointer (some ⟨g, 0, none⟩), .int .i64 n] w fun e w' => ∃ x : Int, e = .returned (.int .i64 x) ∧ 0 ≤ x ∧ x < n ∧ Turn g w w' ∧ Cur w' g a len cap zs := by
  have HC : Hid (Cur w g a len cap zs) := hcur
  clear hcur
  go_enter Tryz.func64, Tryz.ntmps64
  go_wp2_with (go_at_call 86; refine (byte_any _ _ _ _ _ _ HC.out).mono ?_; rintro e w1 ⟨x, rfl, hx0, hx1, ht, hcur'⟩)
  go_ret
  exact ⟨_, rfl, Int.emod_nonneg _ (by omega), Int.emod_lt_of_pos _ (by omega), ht, hcur'⟩

set_option maxHeartbeats 400000 in
theorem once_any (g : Nat) (a : Option Addr) (len cap : Nat) (zs : List Int) (n : Int) (w : World) (hcur : Cur w g a len cap zs) (hn1 : 1 ≤ n) (hn2 : n ≤ 256) :
    Calls Tryz.prog 31 #[.pointer (some ⟨g, 0, none⟩), .int .i64 n] w fun e w' => ∃ x : Bool, e = .returned (.bool x) ∧ Turn g w w' ∧ Cur w' g a len cap zs := by
  have HC : Hid (Cur w g a len cap zs) := hcur
  clear hcur
  go_enter Tryz.func31, Tryz.ntmps31
  go_wp2_with (go_at_call 64; refine (below_any _ _ _ _ _ _ _ HC.out hn1 hn2).mono ?_; rintro e w1 ⟨x, rfl, hx0, hx1, ht, hcur'⟩)
  go_ret
  exact ⟨_, rfl, ht, hcur'⟩

/-! ### A fresh cursor, and a number below n out of the bytes -/
set_option maxHeartbeats 1000000 in
theorem new_any (a : Option Addr) (len cap : Nat) (zs : List Int) (w : World) (hl : len ≤ 4096) (hr : Rd w w.heap.size a len zs) :
    Calls Tryz.prog 28 #[.slice a len cap] w fun e w' => ∃ h : Int, e = .returned (.pointer (some ⟨w.heap.size, 0, none⟩)) ∧ w' = w.alloc (.cells #[.slice a len cap, .int .i64 0, .int .i64 h] 86) := by
  have ha := i64_and30
  go_enter Tryz.func28, Tryz.ntmps28
  go_wp2
  go_loop [3, 4] (fun h i => ∃ k : Nat, k ≤ len ∧ i = .int .i64 k ∧ ∃ n : Int, 0 ≤ n ∧ n ≤ 1073741824 ∧ h = .int .i64 n) (fun _ i => len - (intOf i).toNat)
  case atStart => exact ⟨0, Nat.zero_le _, rfl, _, by omega, by omega, rfl⟩
  case round =>
    obtain ⟨k, hk, rfl, n, hn1, hn2, rfl⟩ := hrel
    by_cases hlt : k < len
    · rcases hr with h' | ⟨b, off, rfl, _, _, hr⟩
      · omega
      have hr1 := (hr k hlt).1
      have hr2 := (hr k hlt).2.1
      have hr3 := (hr k hlt).2.2
      clear hr
      generalize zs.getD k 0 = z at hr1 hr2 hr3
      go_wp2
      go_round
      case rel => exact ⟨k + 1, by omega, by go_num, _, Int.emod_nonneg _ (by decide), Int.le_of_lt (Int.emod_lt_of_pos _ (by decide)), rfl⟩
      case measure => simp [intOf]; omega
    · go_wp2
      go_ret
      exact ⟨rfl, _, rfl⟩

end Go.Proofs.YtobbankkfplooaaGreat.M
namespace Go.Proofs.YtobbankkfplooaaGreat.M
open Go.RowKit Go.Joins
attribute [local go_sem ↓] Go.wp_at_zero Go.wp_at_succ

theorem Cur.keep2 {w0 w1 w' : World} {g : Nat} {a : Option Addr} {len cap : Nat} {zs : List Int} (h : Cur w1 g a len cap zs) (h0 : Rd w0 g a len zs) (t : Turn g w0 w') (hb : w'.heap[g]? = w1.heap[g]?) (hs : g < w'.heap.size) : Cur w' g a len cap zs := by
  have hc : ∀ o, w'.cell? ⟨g, o, none⟩ = w1.cell? ⟨g, o, none⟩ := fun o => World.cell?_of_block (w := w1) hb
  have hf : ∀ o, w'.frozen? ⟨g, o, none⟩ = w1.frozen? ⟨g, o, none⟩ := fun o => World.frozen?_of_block (w := w1) hb
  obtain ⟨i, hi, h1⟩ := h.c1
  obtain ⟨k, h2⟩ := h.c2
  exact ⟨hs, h.hl, (hc 0).trans h.c0, ⟨i, hi, (hc 1).trans h1⟩, ⟨k, (hc 2).trans h2⟩, (hf 1).trans h.f1, (hf 2).trans h.f2, h0.turn t⟩
/-- One cell stored elsewhere. -/
theorem Cur.set {w0 w1 : World} {g b o : Nat} {a : Option Addr} {len cap : Nat} {zs : List Int} {v : Value} (h0 : Rd w0 g a len zs) (h : Turn g w0 w1 ∧ Cur w1 g a len cap zs) (hb : w0.heap.size ≤ b) (hn : b ≠ g) : Turn g w0 (w1.setCell ⟨b, o, none⟩ v) ∧ Cur (w1.setCell ⟨b, o, none⟩ v) g a len cap zs :=
  ⟨h.1.setNew hb v, h.2.keep2 h0 (h.1.setNew hb v) (Below.heap_setCell w1 ⟨b, o, none⟩ v g (Ne.symm hn)) (by simpa using h.2.hg)⟩
theorem Cur.set4 {w0 w1 : World} {g b : Nat} {a : Option Addr} {len cap : Nat} {zs : List Int} {v0 v1 v2 v3 : Value} (h0 : Rd w0 g a len zs) (h : Turn g w0 w1 ∧ Cur w1 g a len cap zs) (hb : w0.heap.size ≤ b) (hn : b ≠ g) :
    Turn g w0 ((((w1.setCell ⟨b, 0, none⟩ v0).setCell ⟨b, 1, none⟩ v1).setCell ⟨b, 2, none⟩ v2).setCell ⟨b, 3, none⟩ v3) ∧ Cur ((((w1.setCell ⟨b, 0, none⟩ v0).setCell ⟨b, 1, none⟩ v1).setCell ⟨b, 2, none⟩ v2).setCell ⟨b, 3, none⟩ v3) g a len cap zs :=
  Cur.set h0 (Cur.set h0 (Cur.set h0 (Cur.set h0 h hb hn) hb hn) hb hn) hb hn
theorem Cur.set2 {w0 w1 : World} {g b : Nat} {a : Option Addr} {len cap : Nat} {zs : List Int} {v0 v1 : Value} (h0 : Rd w0 g a len zs) (h : Turn g w0 w1 ∧ Cur w1 g a len cap zs) (hb : w0.heap.size ≤ b) (hn : b ≠ g) :
    Turn g w0 ((w1.setCell ⟨b, 0, none⟩ v0).setCell ⟨b, 1, none⟩ v1) ∧ Cur ((w1.setCell ⟨b, 0, none⟩ v0).setCell ⟨b, 1, none⟩ v1) g a len cap zs :=
  Cur.set h0 (Cur.set h0 h hb hn) hb hn
theorem Cur.al {w0 w1 : World} {g : Nat} {a : Option Addr} {len cap : Nat} {zs : List Int} (h : Turn g w0 w1 ∧ Cur w1 g a len cap zs) (o : Obj) : Turn g w0 (w1.alloc o) ∧ Cur (w1.alloc o) g a len cap zs := ⟨h.1.alloc o, h.2.alloc o⟩
theorem Cur.dr {w0 w1 : World} {g : Nat} {a : Option Addr} {len cap : Nat} {zs : List Int} (h : Turn g w0 w1 ∧ Cur w1 g a len cap zs) : Turn g w0 w1.drew ∧ Cur w1.drew g a len cap zs := ⟨h.1.drew, h.2.drew⟩
def sel (x : Int) (l : List Int) : Int := l.getD x.toNat 0
theorem sel3 {x : Int} (h0 : 0 ≤ x) (h1 : x < 3) (i0 i1 i2 : Int) : (#[Value.int .i64 i0, .int .i64 i1, .int .i64 i2] : Array Value)[x.toNat]? = some (.int .i64 (sel x [i0, i1, i2])) := by
  have h : x = 0 ∨ x = 1 ∨ x = 2 := by omega
  rcases h with rfl | rfl | rfl <;> rfl
theorem sel4 {x : Int} (h0 : 0 ≤ x) (h1 : x < 4) (i0 i1 i2 i3 : Int) : (#[Value.int .i64 i0, .int .i64 i1, .int .i64 i2, .int .i64 i3] : Array Value)[x.toNat]? = some (.int .i64 (sel x [i0, i1, i2, i3])) := by
  have h : x = 0 ∨ x = 1 ∨ x = 2 ∨ x = 3 := by omega
  rcases h with rfl | rfl | rfl | rfl <;> rfl
theorem sel3L {x : Int} (h0 : 0 ≤ x) (h1 : x < 3) (i0 i1 i2 : Int) (h : x.toNat < [Value.int .i64 i0, .int .i64 i1, .int .i64 i2].length) : [Value.int .i64 i0, .int .i64 i1, .int .i64 i2][x.toNat] = .int .i64 (sel x [i0, i1, i2]) := by
  have h : x = 0 ∨ x = 1 ∨ x = 2 := by omega
  rcases h with rfl | rfl | rfl <;> rfl
theorem sel4L {x : Int} (h0 : 0 ≤ x) (h1 : x < 4) (i0 i1 i2 i3 : Int) (h : x.toNat < [Value.int .i64 i0, .int .i64 i1, .int .i64 i2, .int .i64 i3].length) : [Value.int .i64 i0, .int .i64 i1, .int .i64 i2, .int .i64 i3][x.toNat] = .int .i64 (sel x [i0, i1, i2, i3]) := by
  have h : x = 0 ∨ x = 1 ∨ x = 2 ∨ x = 3 := by omega
  rcases h with rfl | rfl | rfl | rfl <;> rfl
theorem sel5L {x : Int} (h0 : 0 ≤ x) (h1 : x < 5) (i0 i1 i2 i3 i4 : Int) (h : x.toNat < [Value.int .i64 i0, .int .i64 i1, .int .i64 i2, .int .i64 i3, .int .i64 i4].length) : [Value.int .i64 i0, .int .i64 i1, .int .i64 i2, .int .i64 i3, .int .i64 i4][x.toNat] = .int .i64 (sel x [i0, i1, i2, i3, i4]) := by
  have h : x = 0 ∨ x = 1 ∨ x = 2 ∨ x = 3 ∨ x = 4 := by omega
  rcases h with rfl | rfl | rfl | rfl | rfl <;> rfl
theorem sel5 {x : Int} (h0 : 0 ≤ x) (h1 : x < 5) (i0 i1 i2 i3 i4 : Int) : (#[Value.int .i64 i0, .int .i64 i1, .int .i64 i2, .int .i64 i3, .int .i64 i4] : Array Value)[x.toNat]? = some (.int .i64 (sel x [i0, i1, i2, i3, i4])) := by
  have h : x = 0 ∨ x = 1 ∨ x = 2 ∨ x = 3 ∨ x = 4 := by omega
  rcases h with rfl | rfl | rfl | rfl | rfl <;> rfl

theorem turn_lt {g : Nat} {X w1 : World} {o : Obj} (h : Turn g (X.alloc o) w1) : X.heap.size < w1.heap.size := by have := h.size; simp at this; omega
theorem turn_ltd {g : Nat} {X w1 : World} {o : Obj} (h : Turn g (X.alloc o).drew w1) : X.heap.size < w1.heap.size := by have := h.size; simp at this; omega
theorem turn_lt2 {g : Nat} {X w1 : World} {o p : Obj} (h : Turn g ((X.alloc o).alloc p) w1) : X.heap.size < w1.heap.size ∧ X.heap.size + 1 < w1.heap.size := by have := h.size; simp at this; omega
theorem turn_lt2d {g : Nat} {X w1 : World} {o p : Obj} (h : Turn g ((X.alloc o).alloc p).drew w1) : X.heap.size < w1.heap.size ∧ X.heap.size + 1 < w1.heap.size := by have := h.size; simp at this; omega

theorem Cur.fresh {w : World} {a : Option Addr} {len cap : Nat} {zs : List Int} {h : Int} (hl : len ≤ 4096) (hr : Rd w w.heap.size a len zs) : Cur (w.alloc (.cells #[.slice a len cap, .int .i64 0, .int .i64 h] 86)) w.heap.size a len cap zs :=
  ⟨by simp, hl, by simp [go_sem], ⟨0, Nat.zero_le _, by simp [go_sem]⟩, ⟨h, by simp [go_sem]⟩, by simp [go_sem], by simp [go_sem], hr.turn ((Turn.refl _ w).alloc _)⟩
theorem Rd.up {w w' : World} {g g' : Nat} {a : Option Addr} {len : Nat} {zs : List Int} (h : Rd w g a len zs) (t : Below w.heap.size w w') (hg : w.heap.size ≤ g') : Rd w' g' a len zs := by
  rcases h with h | ⟨b, off, ha, _, hb, hc⟩
  · exact .inl h
  · exact .inr ⟨b, off, ha, by omega, Nat.lt_of_lt_of_le hb t.size, fun j hj => ⟨(t.cell (p := ⟨b, off + j, none⟩) hb).trans (hc j hj).1, (hc j hj).2⟩⟩

set_option maxHeartbeats 400000 in
theorem big_any (a : Option Addr) (len cap : Nat) (w : World) :
    Calls Tryz.prog 7 #[.slice a len cap] w fun e w' => e = .returned (.bool (decide (4096 < (len : Int)))) ∧ w = w' := by
  go_enter Tryz.func7, Tryz.ntmps7
  go_wp2
  go_ret
  exact ⟨rfl, rfl⟩

end Go.Proofs.YtobbankkfplooaaGreat.M
namespace Go.Proofs.YtobbankkfplooaaGreat.M
open Go.RowKit Go.Joins
theorem St.join {w X Y : World} {l l2 : List (Nat × List Value)} (h : St w X l) (h2 : St X Y l2) : St w Y (l2 ++ l) := by
  have hx := h.step h2.bel
  refine ⟨hx.bel, ?_⟩
  have hh := h2.has
  clear h h2
  induction l2 with
  | nil => exact hx.has
  | cons p t ih => exact ⟨hh.1, ih hh.2⟩
theorem St.dist {w X : World} {l : List (Nat × List Value)} (h : St w X l) {g : Nat} (hg : X.heap.size ≤ g) : ∀ p ∈ l, g ≠ p.1 := fun p hp => by have := (h.has.mem hp).1; omega
theorem HasAt.get {W : World} {b : Nat} : ∀ {vs : List Value} {i : Nat}, HasAt W b i vs → ∀ j v, vs[j]? = some v → W.cell? ⟨b, i + j, none⟩ = some v
  | _ :: _, i, ⟨h, t⟩, 0, v, hv => by simp at hv; subst hv; exact h
  | _ :: vs, i, ⟨h, t⟩, j + 1, v, hv => by have := HasAt.get t j v (by simpa using hv); rwa [show i + (j + 1) = i + 1 + j by omega]
theorem St.set {w W : World} {b : Nat} {vs : List Value} {l : List (Nat × List Value)} (h : St w W ((b, vs) :: l)) (i : Nat) (hi : i < vs.length) (v : Value) (hb : w.heap.size ≤ b) (hl : ∀ p ∈ l, b ≠ p.1) : St w (W.setCell ⟨b, i, none⟩ v) ((b, vs.set i v) :: l) := by
  obtain ⟨h1, ⟨h2, h3, h4⟩, h5⟩ := h
  refine ⟨h1.setCell (p := ⟨b, i, none⟩) hb _, ⟨⟨by simpa using h2, fun o => (World.frozen?_setCell ..).trans (h3 o), hasAt_of _ _ (fun j u hj => ?_)⟩, Has.far hl h5⟩⟩
  have hg := HasAt.get h4
  by_cases e : i = j
  · subst e
    have hu : u = v := by rw [List.getElem?_set_self hi] at hj; exact (Option.some.inj hj).symm
    subst hu
    have := hg i _ (List.getElem?_eq_getElem hi)
    rw [Nat.zero_add] at this ⊢
    exact World.cell?_setCell_same' _ _ _ (by rw [this]; rfl)
  · rw [List.getElem?_set_ne e] at hj
    have := hg j u hj
    rw [Nat.zero_add] at this ⊢
    refine (World.cell?_setCell_other _ _ _ _ (fun q => e ?_)).trans this
    injection q
end Go.Proofs.YtobbankkfplooaaGreat.M
namespace Go.Proofs.YtobbankkfplooaaGreat.M
open Go.RowKit Go.Joins
attribute [local go_sem ↓] Go.wp_at_zero Go.wp_at_succ

theorem Has.keep {X Y : World} : ∀ {l : List (Nat × List Value)}, Has X l → X.heap.size ≤ Y.heap.size → (∀ p ∈ l, Y.heap[p.1]? = X.heap[p.1]?) → Has Y l
  | [], _, _, _ => trivial
  | p :: _, ⟨⟨h1, h2, h3⟩, t⟩, hz, hl => by
    have hp := hl p (List.mem_cons_self ..)
    refine ⟨⟨Nat.lt_of_lt_of_le h1 hz, fun o => (World.frozen?_of_block hp).trans (h2 o), hasAt_of _ _ (fun j u hj => ?_)⟩, Has.keep t hz (fun q hq => hl q (List.mem_cons_of_mem _ hq))⟩
    exact (World.cell?_of_block hp).trans (HasAt.get h3 j u hj)
theorem Has.set {W : World} {b : Nat} {vs : List Value} {l : List (Nat × List Value)} (h : Has W ((b, vs) :: l)) (i : Nat) (hi : i < vs.length) (v : Value) (hl : ∀ p ∈ l, b ≠ p.1) : Has (W.setCell ⟨b, i, none⟩ v) ((b, vs.set i v) :: l) := by
  have h0 : St W W ((b, vs) :: l) := ⟨Below.refl _ _, h⟩
  obtain ⟨⟨h2, h3, h4⟩, h5⟩ := h
  refine ⟨⟨by simpa using h2, fun o => (World.frozen?_setCell ..).trans (h3 o), hasAt_of _ _ (fun j u hj => ?_)⟩, Has.far hl h5⟩
  have hg := HasAt.get h4
  by_cases e : i = j
  · subst e
    have hu : u = v := by rw [List.getElem?_set_self hi] at hj; exact (Option.some.inj hj).symm
    subst hu
    have := hg i _ (List.getElem?_eq_getElem hi)
    rw [Nat.zero_add] at this ⊢
    exact World.cell?_setCell_same' _ _ _ (by rw [this]; rfl)
  · rw [List.getElem?_set_ne e] at hj
    have := hg j u hj
    rw [Nat.zero_add] at this ⊢
    refine (World.cell?_setCell_other _ _ _ _ (fun q => e ?_)).trans this
    injection q

/-- What lies where while a cursor in block g goes on: of what was there in w only block g has turned; each listed block holds its values. -/
structure StC (w wx : World) (g : Nat) (a : Option Addr) (len cap : Nat) (zs : List Int) (l : List (Nat × List Value)) : Prop where
  rd : Rd w g a len zs
  turn : Turn g w wx
  cur : Cur wx g a len cap zs
  has : Has wx l
  ne : ∀ p ∈ l, p.1 ≠ g
theorem StC.nil {w : World} {g : Nat} {a : Option Addr} {len cap : Nat} {zs : List Int} (h : Cur w g a len cap zs) : StC w w g a len cap zs [] := ⟨h.rd, Turn.refl _ _, h, trivial, fun p hp => by cases hp⟩
theorem StC.call {w wx w1 : World} {g : Nat} {a : Option Addr} {len cap : Nat} {zs : List Int} {l : List (Nat × List Value)} (h : StC w wx g a len cap zs l) (t : Turn g wx w1) (c : Cur w1 g a len cap zs) : StC w w1 g a len cap zs l :=
  ⟨h.rd, h.turn.trans t, c, h.has.keep t.size (fun p hp => t.block p.1 (h.has.mem hp).1 (h.ne p hp)), h.ne⟩
theorem StC.step {w wx w1 : World} {g : Nat} {a : Option Addr} {len cap : Nat} {zs : List Int} {l : List (Nat × List Value)} (h : StC w wx g a len cap zs l) (hb : Below wx.heap.size wx w1) : StC w w1 g a len cap zs l := h.call (Turn.of hb) (h.cur.below hb)
theorem StC.push {w wx : World} {g : Nat} {a : Option Addr} {len cap : Nat} {zs : List Int} {l : List (Nat × List Value)} (h : StC w wx g a len cap zs l) (vs : List Value) (t : TypeId) : StC w (wx.alloc (.cells vs.toArray t)) g a len cap zs ((wx.heap.size, vs) :: l) := by
  have h1 := h.step (below_alloc1 wx (.cells vs.toArray t))
  have h2 := ((St.nil wx).push vs t).has
  exact ⟨h.rd, h1.turn, h1.cur, ⟨h2.1, h1.has⟩, fun p hp => by
    rcases List.mem_cons.mp hp with rfl | hp
    · have := h.cur.hg; show wx.heap.size ≠ g; omega
    · exact h.ne p hp⟩
theorem StC.set {w wx : World} {g b : Nat} {a : Option Addr} {len cap : Nat} {zs vs} {l : List (Nat × List Value)} (h : StC w wx g a len cap zs ((b, vs) :: l)) (i : Nat) (hi : i < vs.length) (v : Value) (hb : w.heap.size ≤ b) (hl : ∀ p ∈ l, b ≠ p.1) : StC w (wx.setCell ⟨b, i, none⟩ v) g a len cap zs ((b, vs.set i v) :: l) := by
  have hn : b ≠ g := h.ne _ (List.mem_cons_self ..)
  obtain ⟨t, c⟩ := Cur.set (o := i) (v := v) h.rd ⟨h.turn, h.cur⟩ hb hn
  exact ⟨h.rd, t, c, h.has.set i hi v hl, fun p hp => by
    rcases List.mem_cons.mp hp with rfl | hp
    · exact hn
    · exact h.ne p (List.mem_cons_of_mem _ hp)⟩
theorem StC.sub {w wx : World} {g : Nat} {a : Option Addr} {len cap : Nat} {zs : List Int} {l l' : List (Nat × List Value)} (h : StC w wx g a len cap zs l) (hs : ∀ p ∈ l', p ∈ l) : StC w wx g a len cap zs l' := ⟨h.rd, h.turn, h.cur, h.has.sub hs, fun p hp => h.ne p (hs p hp)⟩
theorem StC.dr {w wx : World} {g : Nat} {a : Option Addr} {len cap : Nat} {zs : List Int} {l : List (Nat × List Value)} (h : StC w wx g a len cap zs l) : StC w wx.drew g a len cap zs l := h.step (Below.refl _ _).drew

end Go.Proofs.YtobbankkfplooaaGreat.M
namespace Go.Proofs.YtobbankkfplooaaGreat.M
open Go.RowKit Go.Joins
attribute [local go_sem ↓] Go.wp_at_zero Go.wp_at_succ

theorem cell_sel4 {w wx : World} {g b : Nat} {a : Option Addr} {len cap : Nat} {zs : List Int} {q i0 i1 i2 i3 : Int} {l : List (Nat × List Value)} (h : StC w wx g a len cap zs ((b, [.int .i64 i0, .int .i64 i1, .int .i64 i2, .int .i64 i3]) :: l)) (h0 : 0 ≤ q) (h1 : q < 4) : wx.cell? ⟨b, q.toNat, none⟩ = some (.int .i64 (sel q [i0, i1, i2, i3])) := by
  have := HasAt.get h.has.1.2.2 q.toNat (.int .i64 (sel q [i0, i1, i2, i3])) (by
    have h : q = 0 ∨ q = 1 ∨ q = 2 ∨ q = 3 := by omega
    rcases h with rfl | rfl | rfl | rfl <;> rfl)
  rwa [Nat.zero_add] at this
theorem cell_sel3 {w wx : World} {g b : Nat} {a : Option Addr} {len cap : Nat} {zs : List Int} {q i0 i1 i2 : Int} {l : List (Nat × List Value)} (h : StC w wx g a len cap zs ((b, [.int .i64 i0, .int .i64 i1, .int .i64 i2]) :: l)) (h0 : 0 ≤ q) (h1 : q < 3) : wx.cell? ⟨b, q.toNat, none⟩ = some (.int .i64 (sel q [i0, i1, i2])) := by
  have := HasAt.get h.has.1.2.2 q.toNat (.int .i64 (sel q [i0, i1, i2])) (by
    have h : q = 0 ∨ q = 1 ∨ q = 2 := by omega
    rcases h with rfl | rfl | rfl <;> rfl)
  rwa [Nat.zero_add] at this

end Go.Proofs.YtobbankkfplooaaGreat.M
