/-
  The place of a Cell in order, as the specification reckons it.
-/
import Derived.Test.YtamnmakegdnblaaKD2
import Derived.Test.YtamnmakegdnblaaMO1
import Derived.Deep.RegionHeld3
namespace Go.Proofs.Ytamnmakegdnblaa.K.D
open Go.Shelf Go.RowKit Go.Joins
attribute [local go_sem] Oper.semAt_some

open M in
set_option maxHeartbeats 1000000 in
theorem l2Order_any {s t : Int} (h : spB s t = true) (w : World) :
    Calls Try.prog 67 #[.agg #[.int .i64 s, .int .i64 t]] w fun e w' => e = .returned (.int .i64 (zz s t 8)) ∧ Below w.heap.size w w' := by
  obtain ⟨a, b, c, d⟩ := spB_t.mp h
  go_enter Try.func67, Try.ntmps67
  go_wp2
  go_loop [3, 4] (fun n i => ∃ k : Nat, k ≤ 8 ∧ n = .int .i64 (zz s t k) ∧ i = .int .i64 k) (fun _ i => 8 - (intOf i).toNat)
  case atStart => exact ⟨0, by omega, rfl, rfl⟩
  case round =>
    obtain ⟨k, hk, rfl, rfl⟩ := hrel
    by_cases hlt : k < 8
    · have q1 := half_eq s k
      have q2 := half_eq t k
      have q3 : (s / 2 ^ k).tmod 2 = half s k % 2 := by rw [← q1]; exact Int.tmod_eq_emod_of_nonneg (half_nn a k)
      have q4 : (t / 2 ^ k).tmod 2 = half t k % 2 := by rw [← q2]; exact Int.tmod_eq_emod_of_nonneg (half_nn c k)
      have r1 : wrap64 ((s / 2 ^ k).tmod 2 * 2 ^ (2 * k)) = half s k % 2 * 2 ^ (2 * k) := by rw [q3]; exact bit_w (by omega) (by omega) (by omega)
      have r2 : wrap64 ((t / 2 ^ k).tmod 2 * 2 ^ (2 * k + 1)) = half t k % 2 * 2 ^ (2 * k + 1) := by rw [q4]; exact bit_w (by omega) (by omega) (by omega)
      have r3 := or_step (s := s) (t := t) hlt
      clear q1 q2 q3 q4
      go_wp2
      refine ⟨⟨k + 1, by omega, ?_, by go_num⟩, by simp [intOf]; omega⟩
      first | rfl | rw [r1, r2, r3]
    · go_wp2
      obtain rfl : k = 8 := by omega
      go_ret
      exact ⟨rfl, below_alloc1 _ _⟩
/-- The place of a right Cell. -/
def plc (l x y : Int) : Int := M.zz (x * M.sd l) (y * M.sd l) 8 * 16 + l
open M in
theorem plc_bd {l x y : Int} (h : cellB l x y = true) : 0 ≤ plc l x y ∧ plc l x y ≤ 10000000 := by
  obtain ⟨h0, h8, -⟩ := cellB_t.mp h
  have := zz_bd (x * sd l) (y * sd l) 8
  have := pow4_le (k := 8) (by decide)
  unfold plc
  omega
set_option maxRecDepth 100000 in
set_option maxHeartbeats 2000000 in
open M in
theorem l2Place_any {l x y : Int} (h : cellB l x y = true) (w : World) :
    Calls Try.prog 55 #[.agg #[.int .i64 l, .int .i64 x, .int .i64 y]] w fun e w' => e = .returned (.int .i64 (plc l x y)) ∧ Below w.heap.size w w' := by
  have hb := plc_bd h
  obtain ⟨h0, h8, hx, hx1, hy, hy1⟩ := cellB_t.mp h
  obtain ⟨q1, q2⟩ := mul_bd h0 h8 hx hx1
  obtain ⟨r1, r2⟩ := mul_bd h0 h8 hy hy1
  obtain ⟨p1, p2⟩ := sd_bd h0 h8
  have HR : Hid (∀ w, Calls Try.prog 56 #[.agg #[.int .i64 l, .int .i64 x, .int .i64 y]] w fun e w' => e = .returned (.agg #[.int .i64 (x * sd l), .int .i64 (y * sd l), .int .i64 (sd l), .int .i64 (sd l)]) ∧ Below w.heap.size w w') := fun w => by
    have := l2Rect_any h w
    simp only [rX, rY, rS, h, if_true] at this
    exact this
  have HO : Hid (∀ w, Calls Try.prog 67 #[.agg #[.int .i64 (x * sd l), .int .i64 (y * sd l)]] w fun e w' => e = .returned (.int .i64 (zz (x * sd l) (y * sd l) 8)) ∧ Below w.heap.size w w') := fun w => l2Order_any (spB_t.mpr ⟨by omega, by omega, by omega, by omega⟩) w
  have hz := zz_bd (x * sd l) (y * sd l) 8
  have hp := pow4_le (k := 8) (by decide)
  obtain ⟨z, hzz⟩ : ∃ z, zz (x * sd l) (y * sd l) 8 = z := ⟨_, rfl⟩
  have hv : plc l x y = z * 16 + l := by unfold plc; rw [hzz]
  rw [hzz] at HO hz
  rw [hv]
  have e1 : IntKind.i64.wrap (z * 16) = z * 16 := by rw [IntKind.wrap_i64]; omega
  have e2 : IntKind.i64.wrap (z * 16 + l) = z * 16 + l := by rw [IntKind.wrap_i64]; omega
  generalize x * sd l = a at *
  generalize y * sd l = b at *
  generalize sd l = d at *
  clear hb h hv hzz hp
  have hst := (K.St.nil w).push [.int .i64 l, .int .i64 x, .int .i64 y] 28
  go_enter Try.func55, Try.ntmps55
  go_upto_region 2 with (go_at_call 56; refine (HR.out _).mono ?_; rintro e w1 ⟨rfl, hb1⟩; have hs1 := (hst.step hb1).push [.int .i64 a, .int .i64 b, .int .i64 d, .int .i64 d] 47; clear hst)
  have HC : Hid (∀ w', Below (w1.alloc (.cells #[.int .i64 a, .int .i64 b, .int .i64 d, .int .i64 d] 47)).heap.size (w1.alloc (.cells #[.int .i64 a, .int .i64 b, .int .i64 d, .int .i64 d] 47)) w' → w'.cell? ⟨w1.heap.size, 0, none⟩ = some (.int .i64 a) ∧ w'.cell? ⟨w1.heap.size, 1, none⟩ = some (.int .i64 b) ∧ w'.cell? ⟨w.heap.size, 0, none⟩ = some (.int .i64 l)) := fun w' hb => by
    have := (hs1.step hb).has
    simp [K.Has, K.HasAt] at this
    simp [this]
  have hb0 : Below (w1.alloc (.cells #[.int .i64 a, .int .i64 b, .int .i64 d, .int .i64 d] 47)).heap.size (w1.alloc (.cells #[.int .i64 a, .int .i64 b, .int .i64 d, .int .i64 d] 47)) (w1.alloc (.cells #[.int .i64 a, .int .i64 b, .int .i64 d, .int .i64 d] 47)) := Below.refl _ _
  go_region_held3 (fun w' => w'.cell? ⟨w1.heap.size, 0, none⟩ = some (.int .i64 a) ∧ w'.cell? ⟨w1.heap.size, 1, none⟩ = some (.int .i64 b) ∧ w'.cell? ⟨w.heap.size, 0, none⟩ = some (.int .i64 l))
    (first
      | assumption
      | with_reducible exact HC.out _ hb0
      | with_reducible exact HC.out _ hb0.drew)
    (first
      | (go_at_call 67; refine (HO.out _).mono ?_; rintro e w2 ⟨rfl, hb2⟩; replace hb0 := bstep hb0.drew hb2 (Nat.le_refl _); clear hb2))
  go_wp2
  go_ret
  exact ⟨rfl, (hs1.step hb0).bel⟩
end Go.Proofs.Ytamnmakegdnblaa.K.D
