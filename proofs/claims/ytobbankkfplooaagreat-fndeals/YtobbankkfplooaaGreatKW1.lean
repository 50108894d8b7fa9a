/-
  Deals that are alike, as the law holds them against each other.
-/
import Derived.Test.YtobbankkfplooaaGreatKE0
import Derived.Deep.QuietTactic
import Derived.BigQuiet
namespace Go.Proofs.YtobbankkfplooaaGreat.K.G
open Go.Shelf Go.RowKit Go.Joins Y
attribute [local go_sem] Oper.semAt_some

set_option maxHeartbeats 1000000 in
theorem likeInts_same (p q : Option Addr) (cp cq : Nat) (L : List Int) (n : Nat) (hn : L.length = n) (w : World) (hp : SlG kI w p L) (hq : SlG kI w q L) (hb0 : n ≤ 1000000) :
    Calls Tryz.prog 43 #[.slice p n cp, .slice q n cq] w fun e w' => e = .returned (.bool true) ∧ Below w.heap.size w w' := by
  have HN : Hid (L.length = n ∧ SlG kI w p L ∧ SlG kI w q L) := ⟨hn, hp, hq⟩
  clear hn hp hq
  go_enter Tryz.func43, Tryz.ntmps43
  go_wp2
  go_loopw [5] (fun i wr => ∃ k : Nat, i = .int .i64 k ∧ k ≤ n ∧ Below w.heap.size w wr) (fun i _ => n - (intOf i).toNat)
  case atStart => exact ⟨0, rfl, by omega, Below.refl _ _⟩
  case round =>
    obtain ⟨k, rfl, hk, hb⟩ := hrel
    by_cases hlt : k < n
    · have hki : (k : Int) < n := by omega
      have hkL : k < L.length := by rw [HN.out.1]; exact hlt
      obtain ⟨g, off, rfl, hC⟩ := (HN.out.2.1.step hb).at hkL
      obtain ⟨g2, off2, rfl, hC2⟩ := (HN.out.2.2.step hb).at hkL
      have hg := List.getElem?_eq_getElem hkL
      generalize L[k] = a at hg
      have c0 := hC.int hg
      have d0 := hC2.int hg
      clear hC hC2 hg
      go_wp2
      go_quiet (fail)
      go_wp2
      go_roundw
      case rel => exact ⟨k + 1, by go_num, by omega, belN hb _⟩
      case measure => simp [intOf]; omega
    · have hki : ¬ (k : Int) < n := by omega
      go_wp2
      go_ret
      exact ⟨rfl, hb⟩
theorem run_eq89 (n : Nat) (x y : Int) (w : World) : (Op.equalIn (n + 1 + 1) 89 (.agg #[.int .i64 x, .int .i64 y]) (.agg #[.int .i64 x, .int .i64 y])).run Tryz.prog w = .ok true w := by
  have hS : Tryz.prog.underlying 89 = some (.struct (Tryz.prog.fieldsOf 89)) := by kernel_rfl
  have hp : Tryz.prog.stoodInHeld 89 = false := by kernel_rfl
  have a2 := Tryz.isAgg2
  have z2 := Tryz.sizeOf2
  have e := fun x y => run_equalIn_int (P := Tryz.prog) w n 2 .i64 .i64 x y Tryz.underlying2
  rw [run_equalIn_agg w (n + 1) 89 _ _ hS hp]
  simp only [Program.fieldsOf, Tryz.underlying89]
  simp [Op.eqFields, part, a2, z2, e]
theorem run_neq91 (r : Rc) (w : World) : (binOp .neq 91 (.agg #[.int .i64 r.t, .int .i64 r.i, .int .i64 r.x, .int .i64 r.y, .string r.s]) (.agg #[.int .i64 r.t, .int .i64 r.i, .int .i64 r.x, .int .i64 r.y, .string r.s])).run Tryz.prog w = .ok (.bool false) w := by
  have hS : Tryz.prog.underlying 91 = some (.struct (Tryz.prog.fieldsOf 91)) := by kernel_rfl
  have hp : Tryz.prog.stoodInHeld 91 = false := by kernel_rfl
  have a2 := Tryz.isAgg2
  have z2 := Tryz.sizeOf2
  have a9 := Tryz.isAgg9
  have z9 := Tryz.sizeOf9
  have a89 := Tryz.isAgg89
  have z89 := Tryz.sizeOf89
  have e := fun x y => run_equalIn_int (P := Tryz.prog) w 9998 2 .i64 .i64 x y Tryz.underlying2
  have es := fun x y => run_equalIn_string (P := Tryz.prog) w 9998 9 x y Tryz.underlying9
  have e89 := run_eq89 9997 r.x r.y w
  rw [run_neq_struct, show (10000 : Nat) = 9999 + 1 from rfl, run_equalIn_agg w 9999 91 _ _ hS hp]
  simp only [Program.fieldsOf, Tryz.underlying91]
  simp [Op.eqFields, part, a2, z2, a9, z9, a89, z89, e, es, e89]
set_option maxHeartbeats 1000000 in
theorem likeItems_same (p q : Option Addr) (cp cq : Nat) (L : List Rc) (n : Nat) (hn : L.length = n) (w : World) (hp : SlG I.kR w p L) (hq : SlG I.kR w q L) (hb0 : n ≤ 1000000) :
    Calls Tryz.prog 72 #[.slice p n cp, .slice q n cq] w fun e w' => e = .returned (.bool true) ∧ Below w.heap.size w w' := by
  have HN : Hid (L.length = n ∧ SlG I.kR w p L ∧ SlG I.kR w q L) := ⟨hn, hp, hq⟩
  clear hn hp hq
  go_enter Tryz.func72, Tryz.ntmps72
  go_wp2
  go_loopw [5] (fun i wr => ∃ k : Nat, i = .int .i64 k ∧ k ≤ n ∧ Below w.heap.size w wr) (fun i _ => n - (intOf i).toNat)
  case atStart => exact ⟨0, rfl, by omega, Below.refl _ _⟩
  case round =>
    obtain ⟨k, rfl, hk, hb⟩ := hrel
    by_cases hlt : k < n
    · have hki : (k : Int) < n := by omega
      have hkL : k < L.length := by rw [HN.out.1]; exact hlt
      obtain ⟨g, off, rfl, hC⟩ := (HN.out.2.1.step hb).at hkL
      obtain ⟨g2, off2, rfl, hC2⟩ := (HN.out.2.2.step hb).at hkL
      have hg := List.getElem?_eq_getElem hkL
      generalize L[k] = a at hg
      obtain ⟨c0, c1, c2, c3, c4⟩ := hC.i5 hg
      obtain ⟨d0, d1, d2, d3, d4⟩ := hC2.i5 hg
      have hne := run_neq91 a
      clear hC hC2 hg
      go_wp2
      go_quiet (fail)
      go_wp2
      go_roundw
      case rel => exact ⟨k + 1, by go_num, by omega, belN hb _⟩
      case measure => simp [intOf]; omega
    · have hki : ¬ (k : Int) < n := by omega
      go_wp2
      go_ret
      exact ⟨rfl, hb⟩
end Go.Proofs.YtobbankkfplooaaGreat.K.G
