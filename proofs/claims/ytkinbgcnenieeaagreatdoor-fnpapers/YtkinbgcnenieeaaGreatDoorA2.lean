/-
  Seals: sync.Once in a sealing (first Do; its lock free), tag, Seal, Longer: the program's.
-/
import Derived.Test.YtkinbgcnenieeaaGreatDoorA1
import Derived.Tactics
import Derived.Tactics2
import Derived.Defers
import Derived.Laws.Pointers
import Derived.Laws.LoneSync
import Derived.RegionTactic
import Derived.RegionCalls
import Derived.ChangeAlike
namespace Go.Proofs.YtkinbgcnenieeaaGreatDoor
open Go.RowKit Go.Joins

theorem disable (w : World) : (callFunc 114 #[]).run Tryz.prog w = .ok (.value (.tuple #[])) w := run_call_mark0 Tryz.func114 (by kernel_rfl) (by kernel_rfl) (by kernel_rfl) .disable (by kernel_rfl) w
theorem enable (w : World) : (callFunc 116 #[]).run Tryz.prog w = .ok (.value (.tuple #[])) w := run_call_mark0 Tryz.func116 (by kernel_rfl) (by kernel_rfl) (by kernel_rfl) .enable (by kernel_rfl) w
theorem acquire (a : Addr) (w : World) : (callFunc 117 #[.pointer (some a)]).run Tryz.prog w = .ok (.value (.tuple #[])) w := run_call_marked Tryz.func117 (by kernel_rfl) (by kernel_rfl) (by kernel_rfl) .acquire (by kernel_rfl) a w
theorem releaseMerge (a : Addr) (w : World) : (callFunc 119 #[.pointer (some a)]).run Tryz.prog w = .ok (.value (.tuple #[])) w := run_call_marked Tryz.func119 (by kernel_rfl) (by kernel_rfl) (by kernel_rfl) .releaseMerge (by kernel_rfl) a w

theorem store_deferred (a : Addr) (x : Value) (u : FrameMode) (w : World) (hc : w.cell? a = some x) (hz : w.frozen? a = false) :
    CallsD Tryz.prog 105 #[.pointer (some a), .bool true] u w fun e u' w' => u' = u ∧ (e = .returned (.tuple #[]) ∧ w' = w.drew.setCell a (.int .u32 1)) := by
  have hc' : w.drew.cell? a = some x := by go_simp
  have hz' : w.drew.frozen? a = false := by go_simp
  have hst := run_call_store (P := Tryz.prog) Tryz.func112 (by kernel_rfl) (by kernel_rfl) (by kernel_rfl) (by kernel_rfl) (k := .u32) (y := 1) hc' hz'
  go_enter_d Tryz.func105, Tryz.ntmps105
  go_wp2
  go_region_calls
  all_goals (go_end0; exact ⟨rfl, rfl⟩)

set_option maxRecDepth 100000 in
theorem unlock_deferred (a : Addr) (u : FrameMode) (w : World) (hc : w.cell? a = some (.int .i32 1)) (hz : w.frozen? a = false) :
    CallsD Tryz.prog 104 #[.pointer (some a)] u w fun e u' w' => u' = u ∧ (e = .returned (.tuple #[]) ∧ w' = w.setCell a (.int .i32 0)) := by
  have hd := disable
  have he := enable
  have hr := releaseMerge
  have hadd := run_call_add (P := Tryz.prog) Tryz.func120 (by kernel_rfl) (by kernel_rfl) (by kernel_rfl) .i32 (by kernel_rfl) (y := -1) (s := 0) hc hz (by simp [go_sem]; rfl)
  have hcv := run_convert_to_unsafe (P := Tryz.prog) (src := 160) (dst := 135) Tryz.underlying160 Tryz.underlying135 (by kernel_rfl) hc
  go_enter_d Tryz.func104, Tryz.ntmps104
  go_wp2
  go_end0
  go_wp2
  go_end0
  exact ⟨rfl, rfl⟩

set_option maxRecDepth 100000 in
theorem lock_free (a : Addr) (w : World) (hc : w.cell? a = some (.int .i32 0)) (hz : w.frozen? a = false) :
    Calls Tryz.prog 103 #[.pointer (some a)] w fun e w' => e = .returned (.tuple #[]) ∧ w' = w.setCell a (.int .i32 1) := by
  have hd := disable
  have he := enable
  have ha := acquire
  have hcas := run_call_cas_hit (P := Tryz.prog) Tryz.func115 (by kernel_rfl) (by kernel_rfl) (by kernel_rfl) .i32 (by kernel_rfl) (y := 1) hc hz
  have hc' : (w.setCell a (.int .i32 1)).cell? a = some (.int .i32 1) := World.cell?_setCell_same w a _ hc
  have hcv := run_convert_to_unsafe (P := Tryz.prog) (src := 160) (dst := 135) Tryz.underlying160 Tryz.underlying135 (by kernel_rfl) hc'
  go_enter Tryz.func103, Tryz.ntmps103
  go_wp2
  first | go_end0 | (simp only [Exit.inBlock, Exit.then]; refine bodyPost_ret (results_none rfl _ _ _) rfl ?_) | refine bodyPost_ret (results_none rfl _ _ _) rfl ?_
  go_wp2
  go_end0
  exact ⟨rfl, rfl⟩

set_option maxRecDepth 100000 in
set_option maxHeartbeats 1600000 in
theorem slow_any (g : Nat) (h : Int) (w : World) (hS : Sln g h 0 0 w) (h0 : 0 ≤ h) (h1 : h ≤ 2147483646) :
    Calls Tryz.prog 95 #[.pointer (some ⟨g, 1, none⟩), .func (.func 85) #[.pointer (some ⟨g, 0, none⟩)] #[]] w fun e w' => e = .returned (.tuple #[]) ∧ Sln g (zs h 7) 1 0 w' ∧ Below g w w' := by
  have hS1 := hS.set2 1
  have hb1 : Below g w (w.setCell ⟨g, 2, none⟩ (.int .i32 1)) := (Below.refl _ _).setCell (p := ⟨g, 2, none⟩) (Nat.le_refl _) _
  have hl := run_call_load (P := Tryz.prog) Tryz.func102 (by kernel_rfl) (by kernel_rfl) (by kernel_rfl) .u32 (by kernel_rfl) (w := w.setCell ⟨g, 2, none⟩ (.int .i32 1)) (a := ⟨g, 1, none⟩) (x := 0) hS1.c1
  have hnot : ∀ (x : Bool) (w : World), (Op.unary .not (.bool x)).run Tryz.prog w = .ok (.bool (!x)) w := fun _ _ => rfl
  go_enter_defers Tryz.func95, Tryz.ntmps95
  go_wp2_with (first
    | (go_at_call 103; refine (lock_free ⟨g, 2, none⟩ _ hS.c2 hS.f2).mono ?_; rintro e w' ⟨rfl, rfl⟩)
    | (go_at_call 94; go_in)
    | (go_at_call 85; refine (end_any g h 0 1 _ hS1 h0 h1).mono ?_; rintro e w2 ⟨rfl, hS2, hb2⟩))
  -- two deferred calls, the last laid first
  refine leaves_cons (f := 105) (args := #[.pointer (some ⟨g, 1, none⟩), .bool true]) (by simp) (by simp [go_sem]) ?_
  refine (store_deferred ⟨g, 1, none⟩ (.int .u32 0) .returning _ hS2.c1 hS2.f1).mono ?_
  rintro e u' w3 ⟨rfl, rfl, rfl⟩
  have hS3 := hS2.drew.set1 1
  have hb3 : Below g w (w2.drew.setCell ⟨g, 1, none⟩ (.int .u32 1)) := (hb1.trans hb2).drew.setCell (p := ⟨g, 1, none⟩) (Nat.le_refl _) _
  refine leaves_cons (f := 104) (args := #[.pointer (some ⟨g, 2, none⟩)]) (by simp [settle]) (by simp [go_sem]) ?_
  refine (unlock_deferred ⟨g, 2, none⟩ _ _ hS3.c2 hS3.f2).mono ?_
  rintro e u' w4 ⟨rfl, rfl, rfl⟩
  have hS4 := hS3.set2 0
  have hb4 := hb3.setCell (p := ⟨g, 2, none⟩) (Nat.le_refl _) (.int .i32 0)
  simp [Leaves, settle, results, Tryz.results95]
  exact ⟨hS4, hb4⟩

set_option maxRecDepth 100000 in
set_option maxHeartbeats 1600000 in
theorem do_first (g : Nat) (h : Int) (w : World) (hS : Sln g h 0 0 w) (h0 : 0 ≤ h) (h1 : h ≤ 2147483646) :
    Calls Tryz.prog 84 #[.pointer (some ⟨g, 1, none⟩), .func (.func 85) #[.pointer (some ⟨g, 0, none⟩)] #[]] w fun e w' => e = .returned (.tuple #[]) ∧ Sln g (zs h 7) 1 0 w' ∧ Below g w w' := by
  have hl := run_call_load (P := Tryz.prog) Tryz.func102 (by kernel_rfl) (by kernel_rfl) (by kernel_rfl) .u32 (by kernel_rfl) hS.c1
  have hnot : ∀ (x : Bool) (w : World), (Op.unary .not (.bool x)).run Tryz.prog w = .ok (.bool (!x)) w := fun _ _ => rfl
  go_enter Tryz.func84, Tryz.ntmps84
  go_wp2_with (first | (go_at_call 95; refine (slow_any g h _ hS h0 h1).mono ?_; rintro e w1 ⟨rfl, hS1, hb1⟩) | (go_at_call 94; go_in))
  go_end0
  exact ⟨rfl, hS1, hb1⟩

set_option maxHeartbeats 1000000 in
theorem tag_any (g : Nat) (h : Int) (w : World) (hS : Sln g h 0 0 w) (h0 : 0 ≤ h) (h1 : h ≤ 2147483646) :
    Calls Tryz.prog 74 #[.pointer (some ⟨g, 0, none⟩)] w fun e w' => e = .returned (.int .i64 (zs h 7)) ∧ Below g w w' := by
  have hmf : ∀ (fn : Fn) (first cap : Array Value) (w : World), (Instr.makeFunc fn first cap).run Tryz.prog w = .ok (.func fn first cap) w := fun _ _ _ _ => rfl
  obtain ⟨c0, c1, c2, f0, f1, f2⟩ := id hS
  go_enter Tryz.func74, Tryz.ntmps74
  go_wp2_with (go_at_call 84; refine (do_first g h _ hS h0 h1).mono ?_; rintro e w1 ⟨rfl, hS1, hb1⟩; clear c0 c1 c2 f0 f1 f2; obtain ⟨c0, c1, c2, f0, f1, f2⟩ := id hS1)
  go_ret
  exact ⟨rfl, hb1⟩

set_option maxHeartbeats 400000 in
theorem isSeal_any (h : Int) (w : World) :
    Calls Tryz.prog 33 #[.int .i64 h] w fun e w' => e = .returned (.bool (inB h)) ∧ w' = w := by
  go_enter Tryz.func33, Tryz.ntmps33
  go_wp2
  all_goals (go_ret; exact ⟨ret_bool (by unfold inB; first | exact (decide_eq_true (by omega)).symm | exact (decide_eq_false (by omega)).symm | exact decide_eq_decide.mpr (by omega)), rfl⟩)
theorem isSeal_v {h : Int} {v : Bool} (hv : inB h = v) (w : World) : Calls Tryz.prog 33 #[.int .i64 h] w fun e w' => e = .returned (.bool v) ∧ w' = w := hv ▸ isSeal_any h w

theorem idx {s : ByteArray} {k : Nat} (h : k < s.size) (w : World) : (Instr.index 9 (.string s) (.int .i64 (k : Int))).run Tryz.prog w = .ok (.int .u8 (bt s k)) w := by
  rw [run_index_string w 9 s .i64 (k : Int) Tryz.underlying9, dif_pos ⟨by omega, by omega⟩, bt_at h]
  rfl
end Go.Proofs.YtkinbgcnenieeaaGreatDoor
