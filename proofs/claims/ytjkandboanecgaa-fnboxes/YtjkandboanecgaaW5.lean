/-
  Contracts of the program's Apart, Far, Holds: what each answers for whatever numbers; nothing old in memory turns.
-/
import Derived.Test.YtjkandboanecgaaW4
namespace Go.Proofs.Ytjkandboanecgaa
open Go.RowKit Go.Joins
attribute [local go_sem ↓] Go.wp_at_zero Go.wp_at_succ

theorem keepS {P C : World → Prop} (hS : ∀ w', P w' → C w') {w' : World} (h : P w') : P w' ∧ C w' := ⟨h, hS _ h⟩
theorem every_rr_v (x1 y1 a1 b1 x2 y2 a2 b2 : Int) (v : Bool) (g : Nat) (w : World) (hv : (okB x1 y1 a1 b1 && okB x2 y2 a2 b2) = v) (hg : g < w.heap.size)
    (h0 : w.cell? ⟨g, 0, none⟩ = some (.func (Fn.func 37) #[.agg #[.int .i64 x1, .int .i64 y1, .int .i64 a1, .int .i64 b1]] #[])) (h1 : w.cell? ⟨g, 1, none⟩ = some (.func (Fn.func 37) #[.agg #[.int .i64 x2, .int .i64 y2, .int .i64 a2, .int .i64 b2]] #[])) :
    Calls Try.prog 36 #[.slice (some ⟨g, 0, none⟩) 2 2] w fun e w' => e = .returned (.bool v) ∧ Below w.heap.size w w' := by
  subst hv; exact every_rr x1 y1 a1 b1 x2 y2 a2 b2 g w hg h0 h1
theorem every_rs_v (x1 y1 a1 b1 x2 y2 : Int) (v : Bool) (g : Nat) (w : World) (hv : (okB x1 y1 a1 b1 && spB x2 y2) = v) (hg : g < w.heap.size)
    (h0 : w.cell? ⟨g, 0, none⟩ = some (.func (Fn.func 37) #[.agg #[.int .i64 x1, .int .i64 y1, .int .i64 a1, .int .i64 b1]] #[])) (h1 : w.cell? ⟨g, 1, none⟩ = some (.func (Fn.func 43) #[.agg #[.int .i64 x2, .int .i64 y2]] #[])) :
    Calls Try.prog 36 #[.slice (some ⟨g, 0, none⟩) 2 2] w fun e w' => e = .returned (.bool v) ∧ Below w.heap.size w w' := by
  subst hv; exact every_rs x1 y1 a1 b1 x2 y2 g w hg h0 h1
theorem every_ss_v (x1 y1 x2 y2 : Int) (v : Bool) (g : Nat) (w : World) (hv : (spB x1 y1 && spB x2 y2) = v) (hg : g < w.heap.size)
    (h0 : w.cell? ⟨g, 0, none⟩ = some (.func (Fn.func 43) #[.agg #[.int .i64 x1, .int .i64 y1]] #[])) (h1 : w.cell? ⟨g, 1, none⟩ = some (.func (Fn.func 43) #[.agg #[.int .i64 x2, .int .i64 y2]] #[])) :
    Calls Try.prog 36 #[.slice (some ⟨g, 0, none⟩) 2 2] w fun e w' => e = .returned (.bool v) ∧ Below w.heap.size w w' := by
  subst hv; exact every_ss x1 y1 x2 y2 g w hg h0 h1

set_option maxHeartbeats 1000000 in
theorem iApart_any (s1 t1 s2 t2 : Int) (w : World) :
    Calls Try.prog 21 #[.agg #[.int .i64 s1, .int .i64 t1], .agg #[.int .i64 s2, .int .i64 t2]] w fun e w' => e = .returned (.int .i64 (apI s1 t1 s2 t2)) ∧ Below w.heap.size w w' := by
  cases hv : (spB s1 t1 && spB s2 t2)
  · go_enter Try.func21, Try.ntmps21
    go_wp2_with ((go_at_call 36; refine (every_ss_v s1 t1 s2 t2 _ _ _ hv ?_ ?_ ?_).mono ?_; (focus (simp; done)); (focus (simp [go_sem]; done)); (focus (simp [go_sem]; done)); rintro e w1 ⟨rfl, hb2⟩; have hb := bstepA (Below.refl _ _) hb2 (Nat.le_refl _); obtain ⟨hc, hf⟩ := bcell hb))
    go_ret
    exact ⟨ret_i64 (by simp [apI, hv]), ba2 hb⟩
  · obtain ⟨g1, g2⟩ := (Bool.and_eq_true _ _).mp hv
    have k := spB_t.mp g1
    have k' := spB_t.mp g2
    obtain ⟨k1, k2⟩ := sq_bd (d := s1 - s2) (by omega) (by omega)
    obtain ⟨k3, k4⟩ := sq_bd (d := t1 - t2) (by omega) (by omega)
    clear g1 g2
    go_enter Try.func21, Try.ntmps21
    go_wp2_with ((go_at_call 36; refine (every_ss_v s1 t1 s2 t2 _ _ _ hv ?_ ?_ ?_).mono ?_; (focus (simp; done)); (focus (simp [go_sem]; done)); (focus (simp [go_sem]; done)); rintro e w1 ⟨rfl, hb2⟩; have hb := bstepA (Below.refl _ _) hb2 (Nat.le_refl _); obtain ⟨hc, hf⟩ := bcell hb))
    go_ret
    exact ⟨ret_i64 (by simp [apI, hv]), ba2 hb⟩

theorem near_sq (x a s : Int) (h1 : 1 ≤ a) : (near x a s - s) * (near x a s - s) = fd x a s * fd x a s := by
  have h : near x a s - s = fd x a s ∨ near x a s - s = - fd x a s := by unfold near fd; omega
  rcases h with h | h <;> rw [h]
  rw [Int.neg_mul_neg]
theorem near_in {x a s : Int} (h1 : 1 ≤ a) : near x a s = s ↔ (x ≤ s ∧ s < x + a) := by unfold near; omega
theorem near_sp {x y a b s t : Int} (h : okB x y a b = true) (h' : spB s t = true) : spB (near x a s) (near y b t) = true := by
  have k := okB_t.mp h
  have k' := spB_t.mp h'
  apply spB_t.mpr; unfold near; omega
theorem ap_near (x y a b s t : Int) (h : okB x y a b = true) (h' : spB s t = true) : apI (near x a s) (near y b t) s t = farI x y a b s t := by
  have k := okB_t.mp h
  simp only [apI, farI, near_sp h h', h, h', Bool.and_self, if_true]
  rw [near_sq x a s (by omega), near_sq y b t (by omega)]

set_option maxHeartbeats 1000000 in
theorem iFar_any (x1 y1 a1 b1 s2 t2 : Int) (w : World) :
    Calls Try.prog 16 #[.agg #[.int .i64 x1, .int .i64 y1, .int .i64 a1, .int .i64 b1], .agg #[.int .i64 s2, .int .i64 t2]] w fun e w' => e = .returned (.int .i64 (farI x1 y1 a1 b1 s2 t2)) ∧ Below w.heap.size w w' := by
  cases hv : (okB x1 y1 a1 b1 && spB s2 t2)
  · go_enter Try.func16, Try.ntmps16
    go_wp2_with ((go_at_call 36; refine (every_rs_v x1 y1 a1 b1 s2 t2 _ _ _ hv ?_ ?_ ?_).mono ?_; (focus (simp; done)); (focus (simp [go_sem]; done)); (focus (simp [go_sem]; done)); rintro e w1 ⟨rfl, hb2⟩; have hb := bstepA (Below.refl _ _) hb2 (Nat.le_refl _); obtain ⟨hc, hf⟩ := bcell hb))
    go_ret
    exact ⟨ret_i64 (by simp [farI, hv]), ba2 hb⟩
  · obtain ⟨g1, g2⟩ := (Bool.and_eq_true _ _).mp hv
    have hS : ∀ w', Below ((w.alloc (.cells #[.int .i64 x1, .int .i64 y1, .int .i64 a1, .int .i64 b1] 25)).alloc (.cells #[.int .i64 s2, .int .i64 t2] 32)).heap.size ((w.alloc (.cells #[.int .i64 x1, .int .i64 y1, .int .i64 a1, .int .i64 b1] 25)).alloc (.cells #[.int .i64 s2, .int .i64 t2] 32)) w' → (w'.cell? ⟨w.heap.size, 0, none⟩ = some (.int .i64 x1) ∧ w'.cell? ⟨w.heap.size, 1, none⟩ = some (.int .i64 y1) ∧ w'.cell? ⟨w.heap.size, 2, none⟩ = some (.int .i64 a1) ∧ w'.cell? ⟨w.heap.size, 3, none⟩ = some (.int .i64 b1) ∧ w'.cell? ⟨w.heap.size + 1, 0, none⟩ = some (.int .i64 s2) ∧ w'.cell? ⟨w.heap.size + 1, 1, none⟩ = some (.int .i64 t2)) := by
      intro w' h
      obtain ⟨hcl, _⟩ := bcell h
      refine ⟨?_, ?_, ?_, ?_, ?_, ?_⟩ <;> (rw [hcl _ _ (by simp <;> omega)]; simp [go_sem])
    go_enter Try.func16, Try.ntmps16
    go_wp2_with ((go_at_call 36; refine (every_rs_v x1 y1 a1 b1 s2 t2 _ _ _ hv ?_ ?_ ?_).mono ?_; (focus (simp; done)); (focus (simp [go_sem]; done)); (focus (simp [go_sem]; done)); rintro e w1 ⟨rfl, hb2⟩; have hb := bstepA (Below.refl _ _) hb2 (Nat.le_refl _); obtain ⟨hc, hf⟩ := bcell hb))
    go_region_held3 (fun w' => Below ((w.alloc (.cells #[.int .i64 x1, .int .i64 y1, .int .i64 a1, .int .i64 b1] 25)).alloc (.cells #[.int .i64 s2, .int .i64 t2] 32)).heap.size ((w.alloc (.cells #[.int .i64 x1, .int .i64 y1, .int .i64 a1, .int .i64 b1] 25)).alloc (.cells #[.int .i64 s2, .int .i64 t2] 32)) w' ∧ w'.cell? ⟨w.heap.size, 0, none⟩ = some (.int .i64 x1) ∧ w'.cell? ⟨w.heap.size, 1, none⟩ = some (.int .i64 y1) ∧ w'.cell? ⟨w.heap.size, 2, none⟩ = some (.int .i64 a1) ∧ w'.cell? ⟨w.heap.size, 3, none⟩ = some (.int .i64 b1) ∧ w'.cell? ⟨w.heap.size + 1, 0, none⟩ = some (.int .i64 s2) ∧ w'.cell? ⟨w.heap.size + 1, 1, none⟩ = some (.int .i64 t2)) (first | exact ‹Below _ _ _ ∧ _› | exact keepS hS (bstep (‹Below _ _ _ ∧ _›).1 hb2 (Nat.le_refl _)) | exact keepS hS ((‹Below _ _ _ ∧ _›).1.alloc (‹Below _ _ _ ∧ _›).1.size _) | exact keepS hS hb.drew | exact keepS hS (Below.refl _ _).drew | fail)
      (first | (go_at_call 44; refine (nearest_any _ _ _ _ _ _ _ g1).mono ?_; rintro e w1 ⟨rfl, hb2⟩) | (go_at_call 21; refine (iApart_any _ _ _ _ _).mono ?_; rintro e w1 ⟨rfl, hb2⟩))
    obtain ⟨hb, _⟩ := ‹Below _ _ _ ∧ _›
    go_wp2
    go_ret
    exact ⟨ret_i64 (ap_near _ _ _ _ _ _ g1 g2), ba2 hb⟩

end Go.Proofs.Ytjkandboanecgaa
