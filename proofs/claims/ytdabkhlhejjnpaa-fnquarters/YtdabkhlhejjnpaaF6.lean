/-
  The law FnQuarters, walked from its start.
-/
import Derived.Test.YtdabkhlhejjnpaaF5
namespace Go.Proofs.Ytdabkhlhejjnpaa
open Go.RowKit Go.Joins
attribute [local go_sem ↓] Go.wp_at_zero Go.wp_at_succ

/-- The Cell of a Level at a Spot has that Level, and its box holds the Spot. -/
theorem at_holds (s t l : Int) (hl : levB l = true) (hs : spB s t = true) : aL s t l = l ∧ holdsB (rX (aL s t l) (aX s t l) (aY s t l)) (rY (aL s t l) (aX s t l) (aY s t l)) (rS (aL s t l) (aX s t l) (aY s t l)) (rS (aL s t l) (aX s t l) (aY s t l)) s t = true := by
  have e1 : aL s t l = l := by simp [aL, hl, hs]
  have e2 : aX s t l = s / 2 ^ (8 - l).toNat := by simp [aX, hl, hs]
  have e3 : aY s t l = t / 2 ^ (8 - l).toNat := by simp [aY, hl, hs]
  obtain ⟨h0, h8⟩ := levB_t.mp hl
  obtain ⟨a, b, c, d⟩ := spB_t.mp hs
  rw [e1, e2, e3]
  refine ⟨rfl, ?_⟩
  have hc : cellB l (s / 2 ^ (8 - l).toNat) (t / 2 ^ (8 - l).toNat) = true := by
    rw [cellB_t]
    rcases nine h0 h8 with rfl | rfl | rfl | rfl | rfl | rfl | rfl | rfl | rfl <;> simp <;> omega
  rw [rX, rY, rS, if_pos hc, if_pos hc, if_pos hc, holdsB, hs]
  clear hc hl hs e1 e2 e3
  rw [Bool.and_eq_true, Bool.and_eq_true]
  refine ⟨⟨okB_t.mpr ?_, rfl⟩, by unfold inR; refine decide_eq_true ?_; unfold sd; rcases nine h0 h8 with rfl | rfl | rfl | rfl | rfl | rfl | rfl | rfl | rfl <;> simp <;> omega⟩
  unfold sd
  rcases nine h0 h8 with rfl | rfl | rfl | rfl | rfl | rfl | rfl | rfl | rfl <;> simp <;> omega

theorem like_q (l x y : Int) (g1 c1 g2 c2 : Nat) (w : World) (h1 : Has w [(g1, qs l x y 4)]) (h2 : Has w [(g2, qs l x y 4)]) :
    Calls Try.prog 20 #[.slice (some ⟨g1, 0, none⟩) 4 c1, .slice (some ⟨g2, 0, none⟩) 4 c2] w fun e w' => e = .returned (.bool true) ∧ Below w.heap.size w w' := by
  rw [qs_eq] at h1 h2
  exact like4 _ _ _ _ _ _ _ _ _ _ _ _ _ _ _ _ _ h1.1.2.2 h2.1.2.2

set_option maxRecDepth 100000 in
set_option maxHeartbeats 8000000 in
theorem quarters_small (a : Option Addr) (len cap : Nat) (zs : List Int) (g : Nat) (w : World) (hl : len ≤ 4096) (hr : Rd w g a len zs) :
    Calls Try.prog 3 #[.slice a len cap] w fun e w' => e = .returned (.bool true) ∧ Below w.heap.size w w' := by
  have HR : Hid (∀ w', Below w.heap.size w w' → Rd w' w.heap.size a len zs) := fun w' h => hr.up h (Nat.le_refl _)
  have hl' : decide (4096 < (len : Int)) = false := by simp; omega
  have hs := St.nil w
  clear hr
  go_enter Try.func3, Try.ntmps3
  go_upto_region 4 with (first | (go_at_call 12; refine (big_any _ _ _ _).mono ?_; rintro e w1 ⟨rfl, rfl⟩) | (go_at_call 13; refine (drawQuarters_any a len cap zs _ _ hl (HR.out _ hs.bel)).mono ?_; rintro e w3 ⟨l, x, y, rfl, hb2⟩; replace hs := hs.step hb2))
  by_cases hq : cellB l x y = false ∨ l = 8
  · go_upto_region 10 with (first | (go_at_call 14; refine (iQuarters_no hq _).mono ?_; rintro e w4 ⟨rfl, hb2⟩; (first | replace hs := hs.step hb2 | replace hs := (hs.push _ _).step hb2 | replace hs := ((hs.push _ _).push _ _).step hb2 | replace hs := (((hs.push _ _).push _ _).push _ _).step hb2 | replace hs := ((((hs.push _ _).push _ _).push _ _).push _ _).step hb2); (try simp only [World.size_alloc] at hs); (try clear hk); have hk := hs.has; (try simp [Has, HasAt] at hk)) | (go_at_call 15; (first | refine (drawUp_any a len cap zs _ _ hl (HR.out _ hs.bel)).mono ?_ | refine (drawUp_any a len cap zs _ _ hl (HR.out _ (hs.push _ _).bel)).mono ?_ | refine (drawUp_any a len cap zs _ _ hl (HR.out _ ((hs.push _ _).push _ _).bel)).mono ?_ | refine (drawUp_any a len cap zs _ _ hl (HR.out _ (((hs.push _ _).push _ _).push _ _).bel)).mono ?_); rintro e w5 ⟨v0, v1, v2, rfl, hb2⟩; (first | replace hs := hs.step hb2 | replace hs := (hs.push _ _).step hb2 | replace hs := ((hs.push _ _).push _ _).step hb2 | replace hs := (((hs.push _ _).push _ _).push _ _).step hb2 | replace hs := ((((hs.push _ _).push _ _).push _ _).push _ _).step hb2); (try simp only [World.size_alloc] at hs); (try clear hk); have hk := hs.has; (try simp [Has, HasAt] at hk)) | (go_at_call 16; (first | refine (drawCellAt_any a len cap zs _ _ hl (HR.out _ hs.bel)).mono ?_ | refine (drawCellAt_any a len cap zs _ _ hl (HR.out _ (hs.push _ _).bel)).mono ?_ | refine (drawCellAt_any a len cap zs _ _ hl (HR.out _ ((hs.push _ _).push _ _).bel)).mono ?_ | refine (drawCellAt_any a len cap zs _ _ hl (HR.out _ (((hs.push _ _).push _ _).push _ _).bel)).mono ?_); rintro e w6 ⟨s, t, lv, rfl, hb2⟩; (first | replace hs := hs.step hb2 | replace hs := (hs.push _ _).step hb2 | replace hs := ((hs.push _ _).push _ _).step hb2 | replace hs := (((hs.push _ _).push _ _).push _ _).step hb2 | replace hs := ((((hs.push _ _).push _ _).push _ _).push _ _).step hb2); (try simp only [World.size_alloc] at hs); (try clear hk); have hk := hs.has; (try simp [Has, HasAt] at hk)) | (go_at_call 18; (first | refine (drawInside_any a len cap zs _ _ hl (HR.out _ hs.bel)).mono ?_ | refine (drawInside_any a len cap zs _ _ hl (HR.out _ (hs.push _ _).bel)).mono ?_ | refine (drawInside_any a len cap zs _ _ hl (HR.out _ ((hs.push _ _).push _ _).bel)).mono ?_ | refine (drawInside_any a len cap zs _ _ hl (HR.out _ (((hs.push _ _).push _ _).push _ _).bel)).mono ?_); rintro e w9 ⟨al, ax, ay, bl, bx, by', rfl, hb2⟩; (first | replace hs := hs.step hb2 | replace hs := (hs.push _ _).step hb2 | replace hs := ((hs.push _ _).push _ _).step hb2 | replace hs := (((hs.push _ _).push _ _).push _ _).step hb2 | replace hs := ((((hs.push _ _).push _ _).push _ _).push _ _).step hb2); (try simp only [World.size_alloc] at hs); (try clear hk); have hk := hs.has; (try simp [Has, HasAt] at hk)) | (go_at_call 17; refine (iCellAt_any _ _ _ _).mono ?_; rintro e w8 ⟨rfl, hb2⟩; (first | replace hs := hs.step hb2 | replace hs := (hs.push _ _).step hb2 | replace hs := ((hs.push _ _).push _ _).step hb2 | replace hs := (((hs.push _ _).push _ _).push _ _).step hb2 | replace hs := ((((hs.push _ _).push _ _).push _ _).push _ _).step hb2); (try simp only [World.size_alloc] at hs); (try clear hk); have hk := hs.has; (try simp [Has, HasAt] at hk)) | (go_at_call 19; refine (iInside_any _ _ _ _ _ _ _).mono ?_; rintro e w11 ⟨rfl, hb2⟩; (first | replace hs := hs.step hb2 | replace hs := (hs.push _ _).step hb2 | replace hs := ((hs.push _ _).push _ _).step hb2 | replace hs := (((hs.push _ _).push _ _).push _ _).step hb2 | replace hs := ((((hs.push _ _).push _ _).push _ _).push _ _).step hb2); (try simp only [World.size_alloc] at hs); (try clear hk); have hk := hs.has; (try simp [Has, HasAt] at hk)))
    generalize w9.heap.size + 1 = g10 at hs ⊢
    generalize w9.heap.size = g9 at hs ⊢
    generalize w8.heap.size = g8 at hs ⊢
    generalize w6.heap.size = g6 at hs ⊢
    generalize w5.heap.size = g5 at hs ⊢
    generalize w3.heap.size = g3 at hs ⊢
    have hat := at_holds s t lv
    clear hk
    generalize hz0 : aL s t lv = z0 at hs hat ⊢
    generalize hz1 : aX s t lv = z1 at hs hat ⊢
    generalize hz2 : aY s t lv = z2 at hs hat ⊢
    have hS : ∀ w', St w w' [(g10, [.int .i64 bl, .int .i64 bx, .int .i64 by']), (g9, [.int .i64 al, .int .i64 ax, .int .i64 ay]), (g8, [.int .i64 z0, .int .i64 z1, .int .i64 z2]), (g6, [.int .i64 s, .int .i64 t]), (g5, [.int .i64 v0, .int .i64 v1, .int .i64 v2]), (g3, [.int .i64 l, .int .i64 x, .int .i64 y])] → (w'.cell? ⟨g10, 0, none⟩ = some (.int .i64 (bl)) ∧ w'.cell? ⟨g10, 1, none⟩ = some (.int .i64 (bx)) ∧ w'.cell? ⟨g10, 2, none⟩ = some (.int .i64 (by')) ∧ w'.cell? ⟨g9, 0, none⟩ = some (.int .i64 (al)) ∧ w'.cell? ⟨g9, 1, none⟩ = some (.int .i64 (ax)) ∧ w'.cell? ⟨g9, 2, none⟩ = some (.int .i64 (ay)) ∧ w'.cell? ⟨g8, 0, none⟩ = some (.int .i64 (z0)) ∧ w'.cell? ⟨g8, 1, none⟩ = some (.int .i64 (z1)) ∧ w'.cell? ⟨g8, 2, none⟩ = some (.int .i64 (z2)) ∧ w'.cell? ⟨g6, 0, none⟩ = some (.int .i64 (s)) ∧ w'.cell? ⟨g6, 1, none⟩ = some (.int .i64 (t)) ∧ w'.cell? ⟨g5, 0, none⟩ = some (.int .i64 (v0)) ∧ w'.cell? ⟨g5, 1, none⟩ = some (.int .i64 (v1)) ∧ w'.cell? ⟨g5, 2, none⟩ = some (.int .i64 (v2)) ∧ w'.cell? ⟨g3, 0, none⟩ = some (.int .i64 (l)) ∧ w'.cell? ⟨g3, 1, none⟩ = some (.int .i64 (x)) ∧ w'.cell? ⟨g3, 2, none⟩ = some (.int .i64 (y))) := by
      intro w' h
      have hk := h.has
      simp [Has, HasAt] at hk
      simp [hk]
    go_cut [78] from 39 (fun v wx => v = .bool false ∧ St w wx [(g10, [.int .i64 bl, .int .i64 bx, .int .i64 by']), (g9, [.int .i64 al, .int .i64 ax, .int .i64 ay]), (g8, [.int .i64 z0, .int .i64 z1, .int .i64 z2]), (g6, [.int .i64 s, .int .i64 t]), (g5, [.int .i64 v0, .int .i64 v1, .int .i64 v2]), (g3, [.int .i64 l, .int .i64 x, .int .i64 y])])
    case first =>
      go_region_held3 (fun w' => St w w' [(g10, [.int .i64 bl, .int .i64 bx, .int .i64 by']), (g9, [.int .i64 al, .int .i64 ax, .int .i64 ay]), (g8, [.int .i64 z0, .int .i64 z1, .int .i64 z2]), (g6, [.int .i64 s, .int .i64 t]), (g5, [.int .i64 v0, .int .i64 v1, .int .i64 v2]), (g3, [.int .i64 l, .int .i64 x, .int .i64 y])] ∧ w'.cell? ⟨g10, 0, none⟩ = some (.int .i64 (bl)) ∧ w'.cell? ⟨g10, 1, none⟩ = some (.int .i64 (bx)) ∧ w'.cell? ⟨g10, 2, none⟩ = some (.int .i64 (by')) ∧ w'.cell? ⟨g9, 0, none⟩ = some (.int .i64 (al)) ∧ w'.cell? ⟨g9, 1, none⟩ = some (.int .i64 (ax)) ∧ w'.cell? ⟨g9, 2, none⟩ = some (.int .i64 (ay)) ∧ w'.cell? ⟨g8, 0, none⟩ = some (.int .i64 (z0)) ∧ w'.cell? ⟨g8, 1, none⟩ = some (.int .i64 (z1)) ∧ w'.cell? ⟨g8, 2, none⟩ = some (.int .i64 (z2)) ∧ w'.cell? ⟨g6, 0, none⟩ = some (.int .i64 (s)) ∧ w'.cell? ⟨g6, 1, none⟩ = some (.int .i64 (t)) ∧ w'.cell? ⟨g5, 0, none⟩ = some (.int .i64 (v0)) ∧ w'.cell? ⟨g5, 1, none⟩ = some (.int .i64 (v1)) ∧ w'.cell? ⟨g5, 2, none⟩ = some (.int .i64 (v2)) ∧ w'.cell? ⟨g3, 0, none⟩ = some (.int .i64 (l)) ∧ w'.cell? ⟨g3, 1, none⟩ = some (.int .i64 (x)) ∧ w'.cell? ⟨g3, 2, none⟩ = some (.int .i64 (y))) (first | exact ‹St _ _ _ ∧ _› | exact keepS hS ((‹St _ _ _ ∧ _›).1.step hb2) | exact keepS hS hs.dr | fail) (first | (go_at_call 21; refine (sQuarters_no hq _).mono ?_; rintro e w1 ⟨rfl, hb2⟩) | (go_at_call 20; refine (like0 _ _ _ _ _).mono ?_; rintro e w1 ⟨rfl, hb2⟩) | (go_at_call 22; refine (iUp_any _ _ _ _).mono ?_; rintro e w1 ⟨rfl, hb2⟩) | (go_at_call 23; refine (sUp_any _ _ _ _).mono ?_; rintro e w1 ⟨rfl, hb2⟩) | (go_at_call 24; have hA := sCellAt_any s t lv; rw [hz0, hz1, hz2] at hA; refine (hA _).mono ?_; clear hA; rintro e w1 ⟨rfl, hb2⟩) | (go_at_call 25; refine (sInside_any _ _ _ _ _ _ _).mono ?_; rintro e w1 ⟨rfl, hb2⟩) | (go_at_call 26; refine (iRectOf_any _ _ _ _).mono ?_; rintro e w1 ⟨rfl, hb2⟩) | (go_at_call 27; refine (sRectOf_any _ _ _ _).mono ?_; rintro e w1 ⟨rfl, hb2⟩) | (go_at_call 28; refine (iCellOk_any _ _ _ _).mono ?_; rintro e w1 ⟨rfl, hb2⟩) | (go_at_call 29; refine (sCellOk_any _ _ _ _).mono ?_; rintro e w1 ⟨rfl, hb2⟩))
      all_goals
        obtain ⟨hs2, _⟩ := ‹St _ _ _ ∧ _›
        go_wp2
        go_meet
        exact ⟨rfl, hs2⟩
    case rest =>
    clear hs
    obtain ⟨rfl, hs⟩ := hcut
    rename_i hK1 _ hK
    refine hK _ _ ?_
    refine wp_cond (t := false) rfl ?_
    refine wp_skip ?_
    exact hK1 _ _ (quart_t4no w _ g3 g6 g8 g9 g10 l x y s t lv z0 z1 z2 al ax ay bl bx by' hat (hs.sub (by simp)))
  · have hc : cellB l x y = true := by cases h : cellB l x y; exact absurd (.inl h) hq; rfl
    have h8 : l ≠ 8 := fun e => hq (.inr e)
    go_upto_region 10 with (first | (go_at_call 14; refine (iQuarters_yes hc h8 _).mono ?_; rintro e w4 ⟨g4, qc4, rfl, hg4, hc4, hst⟩; replace hs := (hs.push _ _).join hst; simp only [List.cons_append, List.nil_append] at hs; clear hst; (try simp only [World.size_alloc] at hs); (try clear hk); have hk := hs.has; simp [Has, HasAt] at hk) | (go_at_call 15; (first | refine (drawUp_any a len cap zs _ _ hl (HR.out _ hs.bel)).mono ?_ | refine (drawUp_any a len cap zs _ _ hl (HR.out _ (hs.push _ _).bel)).mono ?_ | refine (drawUp_any a len cap zs _ _ hl (HR.out _ ((hs.push _ _).push _ _).bel)).mono ?_ | refine (drawUp_any a len cap zs _ _ hl (HR.out _ (((hs.push _ _).push _ _).push _ _).bel)).mono ?_); rintro e w5 ⟨v0, v1, v2, rfl, hb2⟩; (first | replace hs := hs.step hb2 | replace hs := (hs.push _ _).step hb2 | replace hs := ((hs.push _ _).push _ _).step hb2 | replace hs := (((hs.push _ _).push _ _).push _ _).step hb2 | replace hs := ((((hs.push _ _).push _ _).push _ _).push _ _).step hb2); (try simp only [World.size_alloc] at hs); (try clear hk); have hk := hs.has; (try simp [Has, HasAt] at hk)) | (go_at_call 16; (first | refine (drawCellAt_any a len cap zs _ _ hl (HR.out _ hs.bel)).mono ?_ | refine (drawCellAt_any a len cap zs _ _ hl (HR.out _ (hs.push _ _).bel)).mono ?_ | refine (drawCellAt_any a len cap zs _ _ hl (HR.out _ ((hs.push _ _).push _ _).bel)).mono ?_ | refine (drawCellAt_any a len cap zs _ _ hl (HR.out _ (((hs.push _ _).push _ _).push _ _).bel)).mono ?_); rintro e w6 ⟨s, t, lv, rfl, hb2⟩; (first | replace hs := hs.step hb2 | replace hs := (hs.push _ _).step hb2 | replace hs := ((hs.push _ _).push _ _).step hb2 | replace hs := (((hs.push _ _).push _ _).push _ _).step hb2 | replace hs := ((((hs.push _ _).push _ _).push _ _).push _ _).step hb2); (try simp only [World.size_alloc] at hs); (try clear hk); have hk := hs.has; (try simp [Has, HasAt] at hk)) | (go_at_call 18; (first | refine (drawInside_any a len cap zs _ _ hl (HR.out _ hs.bel)).mono ?_ | refine (drawInside_any a len cap zs _ _ hl (HR.out _ (hs.push _ _).bel)).mono ?_ | refine (drawInside_any a len cap zs _ _ hl (HR.out _ ((hs.push _ _).push _ _).bel)).mono ?_ | refine (drawInside_any a len cap zs _ _ hl (HR.out _ (((hs.push _ _).push _ _).push _ _).bel)).mono ?_); rintro e w9 ⟨al, ax, ay, bl, bx, by', rfl, hb2⟩; (first | replace hs := hs.step hb2 | replace hs := (hs.push _ _).step hb2 | replace hs := ((hs.push _ _).push _ _).step hb2 | replace hs := (((hs.push _ _).push _ _).push _ _).step hb2 | replace hs := ((((hs.push _ _).push _ _).push _ _).push _ _).step hb2); (try simp only [World.size_alloc] at hs); (try clear hk); have hk := hs.has; (try simp [Has, HasAt] at hk)) | (go_at_call 17; refine (iCellAt_any _ _ _ _).mono ?_; rintro e w8 ⟨rfl, hb2⟩; (first | replace hs := hs.step hb2 | replace hs := (hs.push _ _).step hb2 | replace hs := ((hs.push _ _).push _ _).step hb2 | replace hs := (((hs.push _ _).push _ _).push _ _).step hb2 | replace hs := ((((hs.push _ _).push _ _).push _ _).push _ _).step hb2); (try simp only [World.size_alloc] at hs); (try clear hk); have hk := hs.has; (try simp [Has, HasAt] at hk)) | (go_at_call 19; refine (iInside_any _ _ _ _ _ _ _).mono ?_; rintro e w11 ⟨rfl, hb2⟩; (first | replace hs := hs.step hb2 | replace hs := (hs.push _ _).step hb2 | replace hs := ((hs.push _ _).push _ _).step hb2 | replace hs := (((hs.push _ _).push _ _).push _ _).step hb2 | replace hs := ((((hs.push _ _).push _ _).push _ _).push _ _).step hb2); (try simp only [World.size_alloc] at hs); (try clear hk); have hk := hs.has; (try simp [Has, HasAt] at hk)))
    generalize w9.heap.size + 1 = g10 at hs ⊢
    generalize w9.heap.size = g9 at hs ⊢
    generalize w8.heap.size = g8 at hs ⊢
    generalize w6.heap.size = g6 at hs ⊢
    generalize w5.heap.size = g5 at hs ⊢
    generalize w3.heap.size = g3 at hs ⊢
    have hat := at_holds s t lv
    clear hk
    generalize hz0 : aL s t lv = z0 at hs hat ⊢
    generalize hz1 : aX s t lv = z1 at hs hat ⊢
    generalize hz2 : aY s t lv = z2 at hs hat ⊢
    have hS : ∀ w', St w w' [(g10, [.int .i64 bl, .int .i64 bx, .int .i64 by']), (g9, [.int .i64 al, .int .i64 ax, .int .i64 ay]), (g8, [.int .i64 z0, .int .i64 z1, .int .i64 z2]), (g6, [.int .i64 s, .int .i64 t]), (g5, [.int .i64 v0, .int .i64 v1, .int .i64 v2]), (g4, qs l x y 4), (g3, [.int .i64 l, .int .i64 x, .int .i64 y])] → (w'.cell? ⟨g10, 0, none⟩ = some (.int .i64 (bl)) ∧ w'.cell? ⟨g10, 1, none⟩ = some (.int .i64 (bx)) ∧ w'.cell? ⟨g10, 2, none⟩ = some (.int .i64 (by')) ∧ w'.cell? ⟨g9, 0, none⟩ = some (.int .i64 (al)) ∧ w'.cell? ⟨g9, 1, none⟩ = some (.int .i64 (ax)) ∧ w'.cell? ⟨g9, 2, none⟩ = some (.int .i64 (ay)) ∧ w'.cell? ⟨g8, 0, none⟩ = some (.int .i64 (z0)) ∧ w'.cell? ⟨g8, 1, none⟩ = some (.int .i64 (z1)) ∧ w'.cell? ⟨g8, 2, none⟩ = some (.int .i64 (z2)) ∧ w'.cell? ⟨g6, 0, none⟩ = some (.int .i64 (s)) ∧ w'.cell? ⟨g6, 1, none⟩ = some (.int .i64 (t)) ∧ w'.cell? ⟨g5, 0, none⟩ = some (.int .i64 (v0)) ∧ w'.cell? ⟨g5, 1, none⟩ = some (.int .i64 (v1)) ∧ w'.cell? ⟨g5, 2, none⟩ = some (.int .i64 (v2)) ∧ w'.cell? ⟨g3, 0, none⟩ = some (.int .i64 (l)) ∧ w'.cell? ⟨g3, 1, none⟩ = some (.int .i64 (x)) ∧ w'.cell? ⟨g3, 2, none⟩ = some (.int .i64 (y))) := by
      intro w' h
      have hk := h.has
      simp [Has, HasAt] at hk
      simp [hk]
    go_cut [78] from 39 (fun v wx => v = .bool false ∧ St w wx [(g10, [.int .i64 bl, .int .i64 bx, .int .i64 by']), (g9, [.int .i64 al, .int .i64 ax, .int .i64 ay]), (g8, [.int .i64 z0, .int .i64 z1, .int .i64 z2]), (g6, [.int .i64 s, .int .i64 t]), (g5, [.int .i64 v0, .int .i64 v1, .int .i64 v2]), (g4, qs l x y 4), (g3, [.int .i64 l, .int .i64 x, .int .i64 y])])
    case first =>
      go_region_held3 (fun w' => St w w' [(g10, [.int .i64 bl, .int .i64 bx, .int .i64 by']), (g9, [.int .i64 al, .int .i64 ax, .int .i64 ay]), (g8, [.int .i64 z0, .int .i64 z1, .int .i64 z2]), (g6, [.int .i64 s, .int .i64 t]), (g5, [.int .i64 v0, .int .i64 v1, .int .i64 v2]), (g4, qs l x y 4), (g3, [.int .i64 l, .int .i64 x, .int .i64 y])] ∧ w'.cell? ⟨g10, 0, none⟩ = some (.int .i64 (bl)) ∧ w'.cell? ⟨g10, 1, none⟩ = some (.int .i64 (bx)) ∧ w'.cell? ⟨g10, 2, none⟩ = some (.int .i64 (by')) ∧ w'.cell? ⟨g9, 0, none⟩ = some (.int .i64 (al)) ∧ w'.cell? ⟨g9, 1, none⟩ = some (.int .i64 (ax)) ∧ w'.cell? ⟨g9, 2, none⟩ = some (.int .i64 (ay)) ∧ w'.cell? ⟨g8, 0, none⟩ = some (.int .i64 (z0)) ∧ w'.cell? ⟨g8, 1, none⟩ = some (.int .i64 (z1)) ∧ w'.cell? ⟨g8, 2, none⟩ = some (.int .i64 (z2)) ∧ w'.cell? ⟨g6, 0, none⟩ = some (.int .i64 (s)) ∧ w'.cell? ⟨g6, 1, none⟩ = some (.int .i64 (t)) ∧ w'.cell? ⟨g5, 0, none⟩ = some (.int .i64 (v0)) ∧ w'.cell? ⟨g5, 1, none⟩ = some (.int .i64 (v1)) ∧ w'.cell? ⟨g5, 2, none⟩ = some (.int .i64 (v2)) ∧ w'.cell? ⟨g3, 0, none⟩ = some (.int .i64 (l)) ∧ w'.cell? ⟨g3, 1, none⟩ = some (.int .i64 (x)) ∧ w'.cell? ⟨g3, 2, none⟩ = some (.int .i64 (y))) (first | exact ‹St _ _ _ ∧ _› | exact keepS hS ((‹St _ _ _ ∧ _›).1.step hb2) | exact keepS hS hs.dr | fail) (first | (go_at_call 21; refine (sQuarters_yes hc h8 _).mono ?_; rintro e w1 ⟨gq, cq, rfl, hgq, hcq, hst⟩; have hb2 := hst.bel) | (go_at_call 20; refine (like_q l x y _ _ _ _ _ (((‹St _ _ _ ∧ _›).1.sub (l' := [(g4, qs l x y 4)]) (by simp)).has) (hst.has)).mono ?_; rintro e w1 ⟨rfl, hb2⟩) | (go_at_call 22; refine (iUp_any _ _ _ _).mono ?_; rintro e w1 ⟨rfl, hb2⟩) | (go_at_call 23; refine (sUp_any _ _ _ _).mono ?_; rintro e w1 ⟨rfl, hb2⟩) | (go_at_call 24; have hA := sCellAt_any s t lv; rw [hz0, hz1, hz2] at hA; refine (hA _).mono ?_; clear hA; rintro e w1 ⟨rfl, hb2⟩) | (go_at_call 25; refine (sInside_any _ _ _ _ _ _ _).mono ?_; rintro e w1 ⟨rfl, hb2⟩) | (go_at_call 26; refine (iRectOf_any _ _ _ _).mono ?_; rintro e w1 ⟨rfl, hb2⟩) | (go_at_call 27; refine (sRectOf_any _ _ _ _).mono ?_; rintro e w1 ⟨rfl, hb2⟩) | (go_at_call 28; refine (iCellOk_any _ _ _ _).mono ?_; rintro e w1 ⟨rfl, hb2⟩) | (go_at_call 29; refine (sCellOk_any _ _ _ _).mono ?_; rintro e w1 ⟨rfl, hb2⟩))
      all_goals
        obtain ⟨hs2, _⟩ := ‹St _ _ _ ∧ _›
        go_wp2
        go_meet
        exact ⟨rfl, hs2⟩
    case rest =>
    clear hs
    obtain ⟨rfl, hs⟩ := hcut
    rename_i hK1 _ hK
    refine hK _ _ ?_
    refine wp_cond (t := false) rfl ?_
    refine wp_skip ?_
    exact hK1 _ _ (quart_t4yes w _ g3 g4 qc4 g6 g8 g9 g10 l x y s t lv z0 z1 z2 al ax ay bl bx by' hc h8 hat (hs.sub (by simp)))
end Go.Proofs.Ytdabkhlhejjnpaa
