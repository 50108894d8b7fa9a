/-
  Contracts of the program's Meet and Around: what each answers for whatever numbers; nothing old in memory turns.
-/
import Derived.Test.YtipfcmfcdfofmaaGreatMW5
namespace Go.Proofs.YtipfcmfcdfofmaaGreat.M
open Go.RowKit Go.Joins
attribute [local go_sem ↓] Go.wp_at_zero Go.wp_at_succ

theorem ends1b (p q : Int) (g : Nat) (w : World) (h0 : w.cell? ⟨g, 0, none⟩ = some (.int .i64 q)) :
    Calls Tryz.prog 56 #[.int .i64 p, .slice (some ⟨g, 0, none⟩) 1 1] w fun e w' => e = .returned (.tuple #[.int .i64 (min p q), .int .i64 (max p q)]) ∧ Below w.heap.size w w' :=
  (ends1 p q g w h0).mono fun _ _ h => ⟨h.1, h.2 ▸ Below.refl _ _⟩
theorem ends3b (p q r s : Int) (g : Nat) (w : World) (h0 : w.cell? ⟨g, 0, none⟩ = some (.int .i64 q)) (h1 : w.cell? ⟨g, 1, none⟩ = some (.int .i64 r)) (h2 : w.cell? ⟨g, 2, none⟩ = some (.int .i64 s)) (hp : p ≤ q) (hr : r ≤ s) :
    Calls Tryz.prog 56 #[.int .i64 p, .slice (some ⟨g, 0, none⟩) 3 3] w fun e w' => e = .returned (.tuple #[.int .i64 (min p r), .int .i64 (max q s)]) ∧ Below w.heap.size w w' :=
  (ends3 p q r s g w h0 h1 h2 hp hr).mono fun _ _ h => ⟨h.1, h.2 ▸ Below.refl _ _⟩
theorem ok_meet {x1 y1 a1 b1 x2 y2 a2 b2 : Int} (h1 : okB x1 y1 a1 b1 = true) (h2 : okB x2 y2 a2 b2 = true) :
    okB (max x1 x2) (max y1 y2) (min (x1 + a1 - 1) (x2 + a2 - 1) - max x1 x2 + 1) (min (y1 + b1 - 1) (y2 + b2 - 1) - max y1 y2 + 1) = mB x1 y1 a1 b1 x2 y2 a2 b2 := by
  have k := okB_t.mp h1
  have k' := okB_t.mp h2
  unfold okB mB mW
  exact decide_eq_decide.mpr (by omega)

theorem meet_val {x1 y1 a1 b1 x2 y2 a2 b2 : Int} (hv : (okB x1 y1 a1 b1 && okB x2 y2 a2 b2) = true) (hm : mB x1 y1 a1 b1 x2 y2 a2 b2 = true) : Ending.returned (.tuple #[.agg #[.int .i64 (max x1 x2), .int .i64 (max y1 y2), .int .i64 (min (x1 + a1 - 1) (x2 + a2 - 1) - max x1 x2 + 1), .int .i64 (min (y1 + b1 - 1) (y2 + b2 - 1) - max y1 y2 + 1)], .bool true]) = .returned (meetV x1 y1 a1 b1 x2 y2 a2 b2) := by
  have e1 : min (x1 + a1 - 1) (x2 + a2 - 1) - max x1 x2 + 1 = mW x1 a1 x2 a2 := by unfold mW; omega
  have e2 : min (y1 + b1 - 1) (y2 + b2 - 1) - max y1 y2 + 1 = mW y1 b1 y2 b2 := by unfold mW; omega
  rw [e1, e2]; simp [meetV, hv, hm]


set_option maxRecDepth 100000 in
set_option maxHeartbeats 1000000 in
theorem iMeet_not (x1 y1 a1 b1 x2 y2 a2 b2 : Int) (w : World) (hv : (okB x1 y1 a1 b1 && okB x2 y2 a2 b2) = false) :
    Calls Tryz.prog 24 #[.agg #[.int .i64 x1, .int .i64 y1, .int .i64 a1, .int .i64 b1], .agg #[.int .i64 x2, .int .i64 y2, .int .i64 a2, .int .i64 b2]] w fun e w' => e = .returned (meetV x1 y1 a1 b1 x2 y2 a2 b2) ∧ Below w.heap.size w w' := by
  go_enter Tryz.func24, Tryz.ntmps24
  go_wp2_with ((go_at_call 43; refine (every_rr_v x1 y1 a1 b1 x2 y2 a2 b2 _ _ _ hv ?_ ?_ ?_).mono ?_; (focus (simp; done)); (focus (simp [go_sem]; done)); (focus (simp [go_sem]; done)); rintro e w1 ⟨rfl, hb2⟩; have hb := bstepA (Below.refl _ _) hb2 (Nat.le_refl _); obtain ⟨hc, hf⟩ := bcell hb))
  exact bodyPost_ret (v := .tuple #[.agg #[.int .i64 0, .int .i64 0, .int .i64 0, .int .i64 0], .bool false]) (by simp [results, Tryz.results24, go_sem, hc]) rfl ⟨by simp [meetV, hv], sc4 (ba3 hb) (by omega)⟩

set_option maxRecDepth 100000 in
set_option maxHeartbeats 4000000 in
theorem iMeet_no (x1 y1 a1 b1 x2 y2 a2 b2 : Int) (w : World) (hv : (okB x1 y1 a1 b1 && okB x2 y2 a2 b2) = true) (hm : mB x1 y1 a1 b1 x2 y2 a2 b2 = false) :
    Calls Tryz.prog 24 #[.agg #[.int .i64 x1, .int .i64 y1, .int .i64 a1, .int .i64 b1], .agg #[.int .i64 x2, .int .i64 y2, .int .i64 a2, .int .i64 b2]] w fun e w' => e = .returned (meetV x1 y1 a1 b1 x2 y2 a2 b2) ∧ Below w.heap.size w w' := by
    obtain ⟨g1, g2⟩ := (Bool.and_eq_true _ _).mp hv
    have k := okB_t.mp g1
    have k' := okB_t.mp g2
    have hok := ok_meet g1 g2
    rw [hm] at hok
    have hS : ∀ w', Below (((w.alloc (.cells #[.int .i64 x1, .int .i64 y1, .int .i64 a1, .int .i64 b1] 31)).alloc (.cells #[.int .i64 x2, .int .i64 y2, .int .i64 a2, .int .i64 b2] 31)).alloc (.cells #[.int .i64 0, .int .i64 0, .int .i64 0, .int .i64 0] 31)).heap.size (((w.alloc (.cells #[.int .i64 x1, .int .i64 y1, .int .i64 a1, .int .i64 b1] 31)).alloc (.cells #[.int .i64 x2, .int .i64 y2, .int .i64 a2, .int .i64 b2] 31)).alloc (.cells #[.int .i64 0, .int .i64 0, .int .i64 0, .int .i64 0] 31)) w' → (w'.cell? ⟨w.heap.size, 0, none⟩ = some (.int .i64 x1) ∧ w'.cell? ⟨w.heap.size, 1, none⟩ = some (.int .i64 y1) ∧ w'.cell? ⟨w.heap.size, 2, none⟩ = some (.int .i64 a1) ∧ w'.cell? ⟨w.heap.size, 3, none⟩ = some (.int .i64 b1) ∧ w'.cell? ⟨w.heap.size + 1, 0, none⟩ = some (.int .i64 x2) ∧ w'.cell? ⟨w.heap.size + 1, 1, none⟩ = some (.int .i64 y2) ∧ w'.cell? ⟨w.heap.size + 1, 2, none⟩ = some (.int .i64 a2) ∧ w'.cell? ⟨w.heap.size + 1, 3, none⟩ = some (.int .i64 b2)) := by
      intro w' h
      obtain ⟨hcl, _⟩ := bcell h
      refine ⟨?_, ?_, ?_, ?_, ?_, ?_, ?_, ?_⟩ <;> (rw [hcl _ _ (by simp <;> omega)]; simp [go_sem])
    go_enter Tryz.func24, Tryz.ntmps24
    go_wp2_with (first | (go_at_call 43; refine (every_rr_v x1 y1 a1 b1 x2 y2 a2 b2 _ _ _ hv ?_ ?_ ?_).mono ?_; (focus (simp; done)); (focus (simp [go_sem]; done)); (focus (simp [go_sem]; done)); rintro e w1 ⟨rfl, hb2⟩; have hb := bstepA (Below.refl _ _) hb2 (Nat.le_refl _); obtain ⟨hc, hf⟩ := bcell hb) | (go_at_call 56; refine (ends1b _ x2 _ _ ?_).mono ?_; (focus (simp [go_sem]; done)); rintro e w1 ⟨rfl, hb2⟩; replace hb := bstepA hb hb2 (Nat.le_refl _); (try clear hc hf); obtain ⟨hc, hf⟩ := bcell hb) | (go_at_call 56; refine (ends1b _ y2 _ _ ?_).mono ?_; (focus (simp [go_sem]; done)); rintro e w1 ⟨rfl, hb2⟩; replace hb := bstepA hb hb2 (Nat.le_refl _); (try clear hc hf); obtain ⟨hc, hf⟩ := bcell hb))
    go_region_held3 (fun w' => Below (((w.alloc (.cells #[.int .i64 x1, .int .i64 y1, .int .i64 a1, .int .i64 b1] 31)).alloc (.cells #[.int .i64 x2, .int .i64 y2, .int .i64 a2, .int .i64 b2] 31)).alloc (.cells #[.int .i64 0, .int .i64 0, .int .i64 0, .int .i64 0] 31)).heap.size (((w.alloc (.cells #[.int .i64 x1, .int .i64 y1, .int .i64 a1, .int .i64 b1] 31)).alloc (.cells #[.int .i64 x2, .int .i64 y2, .int .i64 a2, .int .i64 b2] 31)).alloc (.cells #[.int .i64 0, .int .i64 0, .int .i64 0, .int .i64 0] 31)) w' ∧ w'.cell? ⟨w.heap.size, 0, none⟩ = some (.int .i64 x1) ∧ w'.cell? ⟨w.heap.size, 1, none⟩ = some (.int .i64 y1) ∧ w'.cell? ⟨w.heap.size, 2, none⟩ = some (.int .i64 a1) ∧ w'.cell? ⟨w.heap.size, 3, none⟩ = some (.int .i64 b1) ∧ w'.cell? ⟨w.heap.size + 1, 0, none⟩ = some (.int .i64 x2) ∧ w'.cell? ⟨w.heap.size + 1, 1, none⟩ = some (.int .i64 y2) ∧ w'.cell? ⟨w.heap.size + 1, 2, none⟩ = some (.int .i64 a2) ∧ w'.cell? ⟨w.heap.size + 1, 3, none⟩ = some (.int .i64 b2)) (first | exact ‹Below _ _ _ ∧ _› | exact keepS hS (bstep (‹Below _ _ _ ∧ _›).1 hb2 (Nat.le_refl _)) | exact keepS hS ((‹Below _ _ _ ∧ _›).1.alloc (‹Below _ _ _ ∧ _›).1.size _) | exact keepS hS hb.drew | exact keepS hS (Below.refl _ _).drew | fail)
      (first | (go_at_call 57; refine (lastX_any _ _ _ _ _ g1).mono ?_; rintro e w1 ⟨rfl, hb2⟩) | (go_at_call 57; refine (lastX_any _ _ _ _ _ g2).mono ?_; rintro e w1 ⟨rfl, hb2⟩) | (go_at_call 56; refine (ends1b _ (x2 + a2 - 1) _ _ ?_).mono ?_; (focus (simp [go_sem]; done)); rintro e w1 ⟨rfl, hb2⟩))
    obtain ⟨hb, _⟩ := ‹Below _ _ _ ∧ _›
    obtain ⟨hc, hf⟩ := bcell hb
    go_wp2
    go_region_held3 (fun w' => Below (((w.alloc (.cells #[.int .i64 x1, .int .i64 y1, .int .i64 a1, .int .i64 b1] 31)).alloc (.cells #[.int .i64 x2, .int .i64 y2, .int .i64 a2, .int .i64 b2] 31)).alloc (.cells #[.int .i64 0, .int .i64 0, .int .i64 0, .int .i64 0] 31)).heap.size (((w.alloc (.cells #[.int .i64 x1, .int .i64 y1, .int .i64 a1, .int .i64 b1] 31)).alloc (.cells #[.int .i64 x2, .int .i64 y2, .int .i64 a2, .int .i64 b2] 31)).alloc (.cells #[.int .i64 0, .int .i64 0, .int .i64 0, .int .i64 0] 31)) w' ∧ w'.cell? ⟨w.heap.size, 0, none⟩ = some (.int .i64 x1) ∧ w'.cell? ⟨w.heap.size, 1, none⟩ = some (.int .i64 y1) ∧ w'.cell? ⟨w.heap.size, 2, none⟩ = some (.int .i64 a1) ∧ w'.cell? ⟨w.heap.size, 3, none⟩ = some (.int .i64 b1) ∧ w'.cell? ⟨w.heap.size + 1, 0, none⟩ = some (.int .i64 x2) ∧ w'.cell? ⟨w.heap.size + 1, 1, none⟩ = some (.int .i64 y2) ∧ w'.cell? ⟨w.heap.size + 1, 2, none⟩ = some (.int .i64 a2) ∧ w'.cell? ⟨w.heap.size + 1, 3, none⟩ = some (.int .i64 b2)) (first | exact ‹Below _ _ _ ∧ _› | exact keepS hS (bstep (‹Below _ _ _ ∧ _›).1 hb2 (Nat.le_refl _)) | exact keepS hS ((‹Below _ _ _ ∧ _›).1.alloc (‹Below _ _ _ ∧ _›).1.size _) | exact keepS hS hb.drew | exact keepS hS (Below.refl _ _).drew | fail)
      (first | (go_at_call 58; refine (lastY_any _ _ _ _ _ g1).mono ?_; rintro e w1 ⟨rfl, hb2⟩) | (go_at_call 58; refine (lastY_any _ _ _ _ _ g2).mono ?_; rintro e w1 ⟨rfl, hb2⟩) | (go_at_call 56; refine (ends1b _ (y2 + b2 - 1) _ _ ?_).mono ?_; (focus (simp [go_sem]; done)); rintro e w1 ⟨rfl, hb2⟩))
    obtain ⟨hb, _⟩ := ‹Below _ _ _ ∧ _›
    obtain ⟨hc, hf⟩ := bcell hb
    go_wp2_with (first | (go_at_call 59; refine (spanned_any _ _ _ _ _ ?_).mono ?_; (focus omega); rintro e w1 ⟨rfl, hb2⟩; replace hb := bstep hb hb2 (Nat.le_refl _); (try clear hc hf); obtain ⟨hc, hf⟩ := bcell hb) | (go_at_call 45; refine (rcRight_any _ _ _ _ _).mono ?_; rintro e w1 ⟨rfl, hb2⟩; obtain ⟨hc2, hf2⟩ := bcell hb2; replace hb := bstepA hb hb2 (Nat.le_refl _); (try clear hc hf); obtain ⟨hc, hf⟩ := bcell hb))
    exact bodyPost_ret (v := .tuple #[.agg #[.int .i64 0, .int .i64 0, .int .i64 0, .int .i64 0], .bool false]) (by simp [results, Tryz.results24, go_sem, hc]) rfl ⟨by simp [meetV, hm], sc4 (ba3 hb) (by omega)⟩

set_option maxRecDepth 100000 in
set_option maxHeartbeats 4000000 in
theorem iMeet_yes (x1 y1 a1 b1 x2 y2 a2 b2 : Int) (w : World) (hv : (okB x1 y1 a1 b1 && okB x2 y2 a2 b2) = true) (hm : mB x1 y1 a1 b1 x2 y2 a2 b2 = true) :
    Calls Tryz.prog 24 #[.agg #[.int .i64 x1, .int .i64 y1, .int .i64 a1, .int .i64 b1], .agg #[.int .i64 x2, .int .i64 y2, .int .i64 a2, .int .i64 b2]] w fun e w' => e = .returned (meetV x1 y1 a1 b1 x2 y2 a2 b2) ∧ Below w.heap.size w w' := by
    obtain ⟨g1, g2⟩ := (Bool.and_eq_true _ _).mp hv
    have k := okB_t.mp g1
    have k' := okB_t.mp g2
    have hok := ok_meet g1 g2
    rw [hm] at hok
    have hS : ∀ w', Below (((w.alloc (.cells #[.int .i64 x1, .int .i64 y1, .int .i64 a1, .int .i64 b1] 31)).alloc (.cells #[.int .i64 x2, .int .i64 y2, .int .i64 a2, .int .i64 b2] 31)).alloc (.cells #[.int .i64 0, .int .i64 0, .int .i64 0, .int .i64 0] 31)).heap.size (((w.alloc (.cells #[.int .i64 x1, .int .i64 y1, .int .i64 a1, .int .i64 b1] 31)).alloc (.cells #[.int .i64 x2, .int .i64 y2, .int .i64 a2, .int .i64 b2] 31)).alloc (.cells #[.int .i64 0, .int .i64 0, .int .i64 0, .int .i64 0] 31)) w' → (w'.cell? ⟨w.heap.size, 0, none⟩ = some (.int .i64 x1) ∧ w'.cell? ⟨w.heap.size, 1, none⟩ = some (.int .i64 y1) ∧ w'.cell? ⟨w.heap.size, 2, none⟩ = some (.int .i64 a1) ∧ w'.cell? ⟨w.heap.size, 3, none⟩ = some (.int .i64 b1) ∧ w'.cell? ⟨w.heap.size + 1, 0, none⟩ = some (.int .i64 x2) ∧ w'.cell? ⟨w.heap.size + 1, 1, none⟩ = some (.int .i64 y2) ∧ w'.cell? ⟨w.heap.size + 1, 2, none⟩ = some (.int .i64 a2) ∧ w'.cell? ⟨w.heap.size + 1, 3, none⟩ = some (.int .i64 b2)) := by
      intro w' h
      obtain ⟨hcl, _⟩ := bcell h
      refine ⟨?_, ?_, ?_, ?_, ?_, ?_, ?_, ?_⟩ <;> (rw [hcl _ _ (by simp <;> omega)]; simp [go_sem])
    go_enter Tryz.func24, Tryz.ntmps24
    go_wp2_with (first | (go_at_call 43; refine (every_rr_v x1 y1 a1 b1 x2 y2 a2 b2 _ _ _ hv ?_ ?_ ?_).mono ?_; (focus (simp; done)); (focus (simp [go_sem]; done)); (focus (simp [go_sem]; done)); rintro e w1 ⟨rfl, hb2⟩; have hb := bstepA (Below.refl _ _) hb2 (Nat.le_refl _); obtain ⟨hc, hf⟩ := bcell hb) | (go_at_call 56; refine (ends1b _ x2 _ _ ?_).mono ?_; (focus (simp [go_sem]; done)); rintro e w1 ⟨rfl, hb2⟩; replace hb := bstepA hb hb2 (Nat.le_refl _); (try clear hc hf); obtain ⟨hc, hf⟩ := bcell hb) | (go_at_call 56; refine (ends1b _ y2 _ _ ?_).mono ?_; (focus (simp [go_sem]; done)); rintro e w1 ⟨rfl, hb2⟩; replace hb := bstepA hb hb2 (Nat.le_refl _); (try clear hc hf); obtain ⟨hc, hf⟩ := bcell hb))
    go_region_held3 (fun w' => Below (((w.alloc (.cells #[.int .i64 x1, .int .i64 y1, .int .i64 a1, .int .i64 b1] 31)).alloc (.cells #[.int .i64 x2, .int .i64 y2, .int .i64 a2, .int .i64 b2] 31)).alloc (.cells #[.int .i64 0, .int .i64 0, .int .i64 0, .int .i64 0] 31)).heap.size (((w.alloc (.cells #[.int .i64 x1, .int .i64 y1, .int .i64 a1, .int .i64 b1] 31)).alloc (.cells #[.int .i64 x2, .int .i64 y2, .int .i64 a2, .int .i64 b2] 31)).alloc (.cells #[.int .i64 0, .int .i64 0, .int .i64 0, .int .i64 0] 31)) w' ∧ w'.cell? ⟨w.heap.size, 0, none⟩ = some (.int .i64 x1) ∧ w'.cell? ⟨w.heap.size, 1, none⟩ = some (.int .i64 y1) ∧ w'.cell? ⟨w.heap.size, 2, none⟩ = some (.int .i64 a1) ∧ w'.cell? ⟨w.heap.size, 3, none⟩ = some (.int .i64 b1) ∧ w'.cell? ⟨w.heap.size + 1, 0, none⟩ = some (.int .i64 x2) ∧ w'.cell? ⟨w.heap.size + 1, 1, none⟩ = some (.int .i64 y2) ∧ w'.cell? ⟨w.heap.size + 1, 2, none⟩ = some (.int .i64 a2) ∧ w'.cell? ⟨w.heap.size + 1, 3, none⟩ = some (.int .i64 b2)) (first | exact ‹Below _ _ _ ∧ _› | exact keepS hS (bstep (‹Below _ _ _ ∧ _›).1 hb2 (Nat.le_refl _)) | exact keepS hS ((‹Below _ _ _ ∧ _›).1.alloc (‹Below _ _ _ ∧ _›).1.size _) | exact keepS hS hb.drew | exact keepS hS (Below.refl _ _).drew | fail)
      (first | (go_at_call 57; refine (lastX_any _ _ _ _ _ g1).mono ?_; rintro e w1 ⟨rfl, hb2⟩) | (go_at_call 57; refine (lastX_any _ _ _ _ _ g2).mono ?_; rintro e w1 ⟨rfl, hb2⟩) | (go_at_call 56; refine (ends1b _ (x2 + a2 - 1) _ _ ?_).mono ?_; (focus (simp [go_sem]; done)); rintro e w1 ⟨rfl, hb2⟩))
    obtain ⟨hb, _⟩ := ‹Below _ _ _ ∧ _›
    obtain ⟨hc, hf⟩ := bcell hb
    go_wp2
    go_region_held3 (fun w' => Below (((w.alloc (.cells #[.int .i64 x1, .int .i64 y1, .int .i64 a1, .int .i64 b1] 31)).alloc (.cells #[.int .i64 x2, .int .i64 y2, .int .i64 a2, .int .i64 b2] 31)).alloc (.cells #[.int .i64 0, .int .i64 0, .int .i64 0, .int .i64 0] 31)).heap.size (((w.alloc (.cells #[.int .i64 x1, .int .i64 y1, .int .i64 a1, .int .i64 b1] 31)).alloc (.cells #[.int .i64 x2, .int .i64 y2, .int .i64 a2, .int .i64 b2] 31)).alloc (.cells #[.int .i64 0, .int .i64 0, .int .i64 0, .int .i64 0] 31)) w' ∧ w'.cell? ⟨w.heap.size, 0, none⟩ = some (.int .i64 x1) ∧ w'.cell? ⟨w.heap.size, 1, none⟩ = some (.int .i64 y1) ∧ w'.cell? ⟨w.heap.size, 2, none⟩ = some (.int .i64 a1) ∧ w'.cell? ⟨w.heap.size, 3, none⟩ = some (.int .i64 b1) ∧ w'.cell? ⟨w.heap.size + 1, 0, none⟩ = some (.int .i64 x2) ∧ w'.cell? ⟨w.heap.size + 1, 1, none⟩ = some (.int .i64 y2) ∧ w'.cell? ⟨w.heap.size + 1, 2, none⟩ = some (.int .i64 a2) ∧ w'.cell? ⟨w.heap.size + 1, 3, none⟩ = some (.int .i64 b2)) (first | exact ‹Below _ _ _ ∧ _› | exact keepS hS (bstep (‹Below _ _ _ ∧ _›).1 hb2 (Nat.le_refl _)) | exact keepS hS ((‹Below _ _ _ ∧ _›).1.alloc (‹Below _ _ _ ∧ _›).1.size _) | exact keepS hS hb.drew | exact keepS hS (Below.refl _ _).drew | fail)
      (first | (go_at_call 58; refine (lastY_any _ _ _ _ _ g1).mono ?_; rintro e w1 ⟨rfl, hb2⟩) | (go_at_call 58; refine (lastY_any _ _ _ _ _ g2).mono ?_; rintro e w1 ⟨rfl, hb2⟩) | (go_at_call 56; refine (ends1b _ (y2 + b2 - 1) _ _ ?_).mono ?_; (focus (simp [go_sem]; done)); rintro e w1 ⟨rfl, hb2⟩))
    obtain ⟨hb, _⟩ := ‹Below _ _ _ ∧ _›
    obtain ⟨hc, hf⟩ := bcell hb
    go_wp2_with (first | (go_at_call 59; refine (spanned_any _ _ _ _ _ ?_).mono ?_; (focus omega); rintro e w1 ⟨rfl, hb2⟩; replace hb := bstep hb hb2 (Nat.le_refl _); (try clear hc hf); obtain ⟨hc, hf⟩ := bcell hb) | (go_at_call 45; refine (rcRight_any _ _ _ _ _).mono ?_; rintro e w1 ⟨rfl, hb2⟩; obtain ⟨hc2, hf2⟩ := bcell hb2; replace hb := bstepA hb hb2 (Nat.le_refl _); (try clear hc hf); obtain ⟨hc, hf⟩ := bcell hb))
    exact bodyPost_ret (v := .tuple #[.agg #[.int .i64 (max x1 x2), .int .i64 (max y1 y2), .int .i64 (min (x1 + a1 - 1) (x2 + a2 - 1) - max x1 x2 + 1), .int .i64 (min (y1 + b1 - 1) (y2 + b2 - 1) - max y1 y2 + 1)], .bool true]) (by simp [results, Tryz.results24, go_sem, hc]) rfl ⟨meet_val hv hm, sc4 (ba3 hb) (by omega)⟩

theorem iMeet_any (x1 y1 a1 b1 x2 y2 a2 b2 : Int) (w : World) :
    Calls Tryz.prog 24 #[.agg #[.int .i64 x1, .int .i64 y1, .int .i64 a1, .int .i64 b1], .agg #[.int .i64 x2, .int .i64 y2, .int .i64 a2, .int .i64 b2]] w fun e w' => e = .returned (meetV x1 y1 a1 b1 x2 y2 a2 b2) ∧ Below w.heap.size w w' := by
  cases hv : (okB x1 y1 a1 b1 && okB x2 y2 a2 b2)
  · exact iMeet_not _ _ _ _ _ _ _ _ w hv
  · cases hm : mB x1 y1 a1 b1 x2 y2 a2 b2
    · exact iMeet_no _ _ _ _ _ _ _ _ w hv hm
    · exact iMeet_yes _ _ _ _ _ _ _ _ w hv hm
end Go.Proofs.YtipfcmfcdfofmaaGreat.M
