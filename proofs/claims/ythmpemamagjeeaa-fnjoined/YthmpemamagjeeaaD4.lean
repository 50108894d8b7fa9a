/-
  Contracts of the drawing functions, fourth part: a Cell drawn. What is drawn is not told: that the call answers three numbers, and that of what was there only the cursor turns.
-/
import Derived.Test.YthmpemamagjeeaaD3
namespace Go.Proofs.Ythmpemamagjeeaa
open Go.RowKit Go.Joins
attribute [local go_sem ↓] Go.wp_at_zero Go.wp_at_succ

theorem cell_sel4 {w wx : World} {g b : Nat} {a : Option Addr} {len cap : Nat} {zs : List Int} {q i0 i1 i2 i3 : Int} {l : List (Nat × List Value)} (h : StC w wx g a len cap zs ((b, [.int .i64 i0, .int .i64 i1, .int .i64 i2, .int .i64 i3]) :: l)) (h0 : 0 ≤ q) (h1 : q < 4) : wx.cell? ⟨b, q.toNat, none⟩ = some (.int .i64 (sel q [i0, i1, i2, i3])) := by
  have := HasAt.get h.has.1.2.2 q.toNat (.int .i64 (sel q [i0, i1, i2, i3])) (by
    have h : q = 0 ∨ q = 1 ∨ q = 2 ∨ q = 3 := by omega
    rcases h with rfl | rfl | rfl | rfl <;> rfl)
  rwa [Nat.zero_add] at this
theorem cell_sel3 {w wx : World} {g b : Nat} {a : Option Addr} {len cap : Nat} {zs : List Int} {q i0 i1 i2 : Int} {l : List (Nat × List Value)} (h : StC w wx g a len cap zs ((b, [.int .i64 i0, .int .i64 i1, .int .i64 i2]) :: l)) (h0 : 0 ≤ q) (h1 : q < 3) : wx.cell? ⟨b, q.toNat, none⟩ = some (.int .i64 (sel q [i0, i1, i2])) := by
  have := HasAt.get h.has.1.2.2 q.toNat (.int .i64 (sel q [i0, i1, i2])) (by
    have h : q = 0 ∨ q = 1 ∨ q = 2 := by omega
    rcases h with rfl | rfl | rfl <;> rfl)
  rwa [Nat.zero_add] at this

set_option maxRecDepth 100000 in
set_option maxHeartbeats 4000000 in
theorem l2Draw_any (g : Nat) (a : Option Addr) (len cap : Nat) (zs : List Int) (w : World) (hcur : Cur w g a len cap zs) :
    Calls Try.prog 79 #[.pointer (some ⟨g, 0, none⟩)] w fun e w' => ∃ l x y : Int, e = .returned (.agg #[.int .i64 l, .int .i64 x, .int .i64 y]) ∧ Turn g w w' ∧ Cur w' g a len cap zs := by
  have hs := StC.nil hcur
  clear hcur
  go_enter Try.func79, Try.ntmps79
  go_upto_if 9 with (first | (go_at_call 69; refine (below_any g a len cap zs _ _ ?_ ?_ ?_).mono ?_; (focus (first | exact hs.cur | exact (hs.push _ _).cur | exact ((hs.push _ _).push _ _).cur)); (focus omega); (focus omega); rintro e w1 ⟨v, rfl, v0, v1, ht, hc⟩; (first | replace hs := hs.call ht hc | replace hs := (hs.push _ _).call ht hc | replace hs := ((hs.push _ _).push _ _).call ht hc); (try simp only [World.size_alloc] at hs); (try clear hk); have hk := hs.has; simp [Has, HasAt] at hk) | (go_at_call 68; refine (once_any g a len cap zs _ _ ?_ ?_ ?_).mono ?_; (focus (first | exact hs.cur | exact (hs.push _ _).cur | exact ((hs.push _ _).push _ _).cur)); (focus omega); (focus omega); rintro e w1 ⟨b, rfl, ht, hc⟩; (first | replace hs := hs.call ht hc | replace hs := (hs.push _ _).call ht hc | replace hs := ((hs.push _ _).push _ _).call ht hc); (try simp only [World.size_alloc] at hs); (try clear hk); have hk := hs.has; simp [Has, HasAt] at hk))
  rename_i w0 ht0 _ _ _
  have hw0 : w.heap.size < w0.heap.size := by have := ht0.size; simp at this; omega
  clear ht0 hk ht hc
  generalize w0.heap.size = g3 at hs hw0 ⊢
  go_cut [] from 4 (fun wx => ∃ L : Int, 0 ≤ L ∧ L ≤ 8 ∧ StC w wx g a len cap zs [(g3, [.int .i64 L, .int .i64 0, .int .i64 0]), (w.heap.size, [.int .i64 0, .int .i64 0, .int .i64 0])])
  case first =>
    have hk := hs.has
    simp [Has, HasAt] at hk
    cases b
    · go_wp2
      go_meet
      exact ⟨3 + v, by omega, by omega, hs⟩
    · go_wp2_with ((go_at_call 69; refine (below_any g a len cap zs _ _ ?_ ?_ ?_).mono ?_; (focus (first | exact hs.cur | exact (hs.push _ _).cur | exact ((hs.push _ _).push _ _).cur)); (focus omega); (focus omega); rintro e w1 ⟨u, rfl, u0, u1, ht, hc⟩; (first | replace hs := hs.call ht hc | replace hs := (hs.push _ _).call ht hc | replace hs := ((hs.push _ _).push _ _).call ht hc); (try simp only [World.size_alloc] at hs); (try clear hk); have hk := hs.has; simp [Has, HasAt] at hk))
      go_meet
      exact ⟨u, by omega, by omega, hs.set 0 (by simp) (.int .i64 u) (by omega) (by simp; omega)⟩
  case rest =>
  clear hs
  obtain ⟨L, L0, L8, hs⟩ := hcut
  have hk := hs.has
  simp [Has, HasAt] at hk
  obtain ⟨p1, p2⟩ := pw L0 L8
  have e1 : wrap64 (2 ^ L.toNat) = 2 ^ L.toNat := w64 (by omega) (by omega)
  go_upto_region 5 with (first | (go_at_call 91; refine (sMin6_any _ _).mono ?_; rintro e w1 ⟨rfl, rfl⟩) | (go_at_call 69; refine (below_any g a len cap zs _ _ ?_ ?_ ?_).mono ?_; (focus (first | exact hs.cur | exact (hs.push _ _).cur | exact ((hs.push _ _).push _ _).cur)); (focus omega); (focus omega); rintro e w1 ⟨xx, rfl, xx0, xx1, ht, hc⟩; (first | replace hs := hs.call ht hc | replace hs := (hs.push _ _).call ht hc | replace hs := ((hs.push _ _).push _ _).call ht hc); (try simp only [World.size_alloc] at hs); (try clear hk); have hk := hs.has; simp [Has, HasAt] at hk))
  replace hs := hs.set 1 (by simp) (.int .i64 xx) (by omega) (by simp; omega)
  simp only [List.set_cons_succ, List.set_cons_zero] at hs
  clear hk
  have hk := hs.has
  simp [Has, HasAt] at hk
  go_upto_region 6 with (first | (go_at_call 91; refine (sMin6_any _ _).mono ?_; rintro e w1 ⟨rfl, rfl⟩) | (go_at_call 69; refine (below_any g a len cap zs _ _ ?_ ?_ ?_).mono ?_; (focus (first | exact hs.cur | exact (hs.push _ _).cur | exact ((hs.push _ _).push _ _).cur)); (focus omega); (focus omega); rintro e w1 ⟨yy, rfl, yy0, yy1, ht, hc⟩; (first | replace hs := hs.call ht hc | replace hs := (hs.push _ _).call ht hc | replace hs := ((hs.push _ _).push _ _).call ht hc); (try simp only [World.size_alloc] at hs); (try clear hk); have hk := hs.has; simp [Has, HasAt] at hk))
  replace hs := hs.set 2 (by simp) (.int .i64 yy) (by omega) (by simp; omega)
  simp only [List.set_cons_succ, List.set_cons_zero] at hs
  clear hk
  have hk := hs.has
  simp [Has, HasAt] at hk
  go_upto_if 30 with (first | (go_at_call 68; refine (once_any g a len cap zs _ _ ?_ ?_ ?_).mono ?_; (focus (first | exact hs.cur | exact (hs.push _ _).cur | exact ((hs.push _ _).push _ _).cur)); (focus omega); (focus omega); rintro e w1 ⟨b2, rfl, ht, hc⟩; (first | replace hs := hs.call ht hc | replace hs := (hs.push _ _).call ht hc | replace hs := ((hs.push _ _).push _ _).call ht hc); (try simp only [World.size_alloc] at hs); (try clear hk); have hk := hs.has; simp [Has, HasAt] at hk))
  go_cut [] from 4 (fun wx => ∃ l x y : Int, StC w wx g a len cap zs [(g3, [.int .i64 l, .int .i64 x, .int .i64 y]), (w.heap.size, [.int .i64 0, .int .i64 0, .int .i64 0])])
  case first =>
    cases b2
    · go_wp2
      go_meet
      exact ⟨L, xx, yy, hs⟩
    · go_upto_region 8 with ((go_at_call 69; refine (below_any g a len cap zs _ _ ?_ ?_ ?_).mono ?_; (focus (first | exact hs.cur | exact (hs.push _ _).cur | exact ((hs.push _ _).push _ _).cur)); (focus omega); (focus omega); rintro e w1 ⟨z, rfl, z0, z1, ht, hc⟩; (first | replace hs := hs.call ht hc | replace hs := (hs.push _ _).call ht hc | replace hs := ((hs.push _ _).push _ _).call ht hc); (try simp only [World.size_alloc] at hs); (try clear hk); have hk := hs.has; simp [Has, HasAt] at hk))
      have hz : z = 0 ∨ z = 1 ∨ z = 2 := by omega
      rcases hz with rfl | rfl | rfl
      · go_wp2_with (first | (go_at_call 69; refine (below_any g a len cap zs _ _ ?_ ?_ ?_).mono ?_; (focus (first | exact hs.cur | exact (hs.push _ _).cur | exact ((hs.push _ _).push _ _).cur)); (focus omega); (focus omega); rintro e w1 ⟨q, rfl, q0, q1, ht, hc⟩; (first | replace hs := hs.call ht hc | replace hs := (hs.push _ _).call ht hc | replace hs := ((hs.push _ _).push _ _).call ht hc); (try simp only [World.size_alloc] at hs); (try clear hk); have hk := hs.has; simp [Has, HasAt] at hk; have hq := cell_sel4 hs q0 q1))
        go_meet
        exact ⟨_, xx, yy, ((hs.sub (l' := [(g3, [.int .i64 L, .int .i64 xx, .int .i64 yy]), (w.heap.size, [.int .i64 0, .int .i64 0, .int .i64 0])]) (by simp)).set 0 (by simp) _ (by omega) (by simp; omega))⟩
      · go_wp2_with (first | (go_at_call 69; refine (below_any g a len cap zs _ _ ?_ ?_ ?_).mono ?_; (focus (first | exact hs.cur | exact (hs.push _ _).cur | exact ((hs.push _ _).push _ _).cur)); (focus omega); (focus omega); rintro e w1 ⟨q, rfl, q0, q1, ht, hc⟩; (first | replace hs := hs.call ht hc | replace hs := (hs.push _ _).call ht hc | replace hs := ((hs.push _ _).push _ _).call ht hc); (try simp only [World.size_alloc] at hs); (try clear hk); have hk := hs.has; simp [Has, HasAt] at hk; have hq := cell_sel3 hs q0 q1))
        go_meet
        exact ⟨L, _, yy, ((hs.sub (l' := [(g3, [.int .i64 L, .int .i64 xx, .int .i64 yy]), (w.heap.size, [.int .i64 0, .int .i64 0, .int .i64 0])]) (by simp)).set 1 (by simp) _ (by omega) (by simp; omega))⟩
      · go_wp2_with (first | (go_at_call 69; refine (below_any g a len cap zs _ _ ?_ ?_ ?_).mono ?_; (focus (first | exact hs.cur | exact (hs.push _ _).cur | exact ((hs.push _ _).push _ _).cur)); (focus omega); (focus omega); rintro e w1 ⟨q, rfl, q0, q1, ht, hc⟩; (first | replace hs := hs.call ht hc | replace hs := (hs.push _ _).call ht hc | replace hs := ((hs.push _ _).push _ _).call ht hc); (try simp only [World.size_alloc] at hs); (try clear hk); have hk := hs.has; simp [Has, HasAt] at hk; have hq := cell_sel3 hs q0 q1))
        go_meet
        exact ⟨L, xx, _, ((hs.sub (l' := [(g3, [.int .i64 L, .int .i64 xx, .int .i64 yy]), (w.heap.size, [.int .i64 0, .int .i64 0, .int .i64 0])]) (by simp)).set 2 (by simp) _ (by omega) (by simp; omega))⟩
  case rest =>
  clear hs hk
  obtain ⟨l, x, y, hs⟩ := hcut
  have hk := hs.has
  simp [Has, HasAt] at hk
  go_wp2
  have hs2 := (((hs.sub (l' := [(w.heap.size, [.int .i64 0, .int .i64 0, .int .i64 0]), (g3, [.int .i64 l, .int .i64 x, .int .i64 y])]) (by simp)).set 0 (by simp) (.int .i64 l) (Nat.le_refl _) (by simp; omega)).set 1 (by simp) (.int .i64 x) (Nat.le_refl _) (by simp; omega)).set 2 (by simp) (.int .i64 y) (Nat.le_refl _) (by simp; omega)
  exact bodyPost_ret (v := .agg #[.int .i64 l, .int .i64 x, .int .i64 y]) (by simp [results, Try.results79, go_sem, hk]) rfl ⟨l, x, y, rfl, hs2.turn, hs2.cur⟩
end Go.Proofs.Ythmpemamagjeeaa
