/-
  The program's Holds: whether a box has a Spot, over whatever numbers.
-/
import Derived.Test.YtamnmakegdnblaaMM3
import Derived.Test.YtamnmakegdnblaaKP2
import Derived.Test.YtamnmakegdnblaaMD4
import Derived.Laws.EntriesVeiled
namespace Go.Proofs.Ytamnmakegdnblaa.M
open Go.RowKit Go.Joins
attribute [local go_sem ↓] Go.wp_at_zero Go.wp_at_succ

def holdsB (x y a b s t : Int) : Bool := okB x y a b && spB s t && inR x y a b s t

set_option maxHeartbeats 400000 in
theorem lastX_any (x1 y1 a1 b1 : Int) (w : World) (h : okB x1 y1 a1 b1 = true) :
    Calls Try.prog 87 #[.agg #[.int .i64 x1, .int .i64 y1, .int .i64 a1, .int .i64 b1]] w fun e w' => e = .returned (.int .i64 (x1 + a1 - 1)) ∧ Below w.heap.size w w' := by
  have k := okB_t.mp h
  clear h
  go_enter Try.func87, Try.ntmps87
  go_wp2
  go_ret
  exact ⟨rfl, below_alloc1 _ _⟩

set_option maxHeartbeats 400000 in
theorem lastY_any (x1 y1 a1 b1 : Int) (w : World) (h : okB x1 y1 a1 b1 = true) :
    Calls Try.prog 88 #[.agg #[.int .i64 x1, .int .i64 y1, .int .i64 a1, .int .i64 b1]] w fun e w' => e = .returned (.int .i64 (y1 + b1 - 1)) ∧ Below w.heap.size w w' := by
  have k := okB_t.mp h
  clear h
  go_enter Try.func88, Try.ntmps88
  go_wp2
  go_ret
  exact ⟨rfl, below_alloc1 _ _⟩

set_option maxHeartbeats 1000000 in
theorem every_rs (x1 y1 a1 b1 x2 y2 : Int) (g : Nat) (w : World) (hg : g < w.heap.size)
    (h0 : w.cell? ⟨g, 0, none⟩ = some (.func (Fn.func 64) #[.agg #[.int .i64 x1, .int .i64 y1, .int .i64 a1, .int .i64 b1]] #[])) (h1 : w.cell? ⟨g, 1, none⟩ = some (.func (Fn.func 58) #[.agg #[.int .i64 x2, .int .i64 y2]] #[])) :
    Calls Try.prog 63 #[.slice (some ⟨g, 0, none⟩) 2 2] w fun e w' => e = .returned (.bool (okB x1 y1 a1 b1 && spB x2 y2)) ∧ Below w.heap.size w w' := by
  cases k1 : okB x1 y1 a1 b1
  · go_enter Try.func63, Try.ntmps63
    go_wp2
    refine wp_loop_rounds 3 ?_
    rw [rounds_succ]
    go_wp2_with ((go_at_call 64; refine (K.D.rcRight_any x1 y1 a1 b1 _).mono ?_; rintro e w1 ⟨rfl, hb2⟩; (first | replace hb := bstep hb hb2 (Nat.le_refl _) | replace hb := bstepA hb hb2 (Nat.le_refl _) | have hb := hb2); (try clear hc hf); obtain ⟨hc, hf⟩ := bcell hb))
    go_ret
    exact ⟨rfl, hb⟩
  cases k2 : spB x2 y2
  · go_enter Try.func63, Try.ntmps63
    go_wp2
    refine wp_loop_rounds 3 ?_
    rw [rounds_succ]
    go_wp2_with ((go_at_call 64; refine (K.D.rcRight_any x1 y1 a1 b1 _).mono ?_; rintro e w1 ⟨rfl, hb2⟩; (first | replace hb := bstep hb hb2 (Nat.le_refl _) | replace hb := bstepA hb hb2 (Nat.le_refl _) | have hb := hb2); (try clear hc hf); obtain ⟨hc, hf⟩ := bcell hb))
    rw [rounds_succ]
    go_wp2_with ((go_at_call 58; refine (spRight_any x2 y2 _).mono ?_; rintro e w1 ⟨rfl, hb2⟩; (first | replace hb := bstep hb hb2 (Nat.le_refl _) | replace hb := bstepA hb hb2 (Nat.le_refl _) | have hb := hb2); (try clear hc hf); obtain ⟨hc, hf⟩ := bcell hb))
    go_ret
    exact ⟨rfl, hb⟩
  · go_enter Try.func63, Try.ntmps63
    go_wp2
    refine wp_loop_rounds 3 ?_
    rw [rounds_succ]
    go_wp2_with ((go_at_call 64; refine (K.D.rcRight_any x1 y1 a1 b1 _).mono ?_; rintro e w1 ⟨rfl, hb2⟩; (first | replace hb := bstep hb hb2 (Nat.le_refl _) | replace hb := bstepA hb hb2 (Nat.le_refl _) | have hb := hb2); (try clear hc hf); obtain ⟨hc, hf⟩ := bcell hb))
    rw [rounds_succ]
    go_wp2_with ((go_at_call 58; refine (spRight_any x2 y2 _).mono ?_; rintro e w1 ⟨rfl, hb2⟩; (first | replace hb := bstep hb hb2 (Nat.le_refl _) | replace hb := bstepA hb hb2 (Nat.le_refl _) | have hb := hb2); (try clear hc hf); obtain ⟨hc, hf⟩ := bcell hb))
    rw [rounds_succ]
    go_wp2
    go_ret
    exact ⟨rfl, hb⟩

set_option maxHeartbeats 1000000 in
theorem ends1 (p q : Int) (g : Nat) (w : World) (h0 : w.cell? ⟨g, 0, none⟩ = some (.int .i64 q)) :
    Calls Try.prog 100 #[.int .i64 p, .slice (some ⟨g, 0, none⟩) 1 1] w fun e w' => e = .returned (.tuple #[.int .i64 (min p q), .int .i64 (max p q)]) ∧ w = w' := by
  go_enter Try.func100, Try.ntmps100
  go_wp2
  refine wp_loop_rounds 2 ?_
  rw [rounds_succ]
  go_wp2
  all_goals (rw [rounds_succ]; go_wp2)
  all_goals (go_ret2; exact ⟨ret_two (by omega) (by omega), rfl⟩)

theorem wr {n : Int} (h1 : -1000000 ≤ n) (h2 : n ≤ 1000000) : IntKind.i64.wrap n = n := by rw [IntKind.wrap_i64]; omega

def near (x a s : Int) : Int := min (max s x) (x + a - 1)

set_option maxHeartbeats 1000000 in
theorem drawnIn_any (n f l : Int) (w : World) :
    Calls Try.prog 86 #[.int .i64 n, .int .i64 f, .int .i64 l] w fun e w' => e = .returned (.int .i64 (min (max n f) l)) ∧ Below w.heap.size w w' := by
  go_enter Try.func86, Try.ntmps86
  go_wp2_with (first | (go_at_call 100; refine (ends1 _ f _ _ ?_).mono ?_; (focus (simp [go_sem]; done)); rintro e w1 ⟨rfl, rfl⟩) | (go_at_call 100; refine (ends1 _ l _ _ ?_).mono ?_; (focus (simp [go_sem]; done)); rintro e w1 ⟨rfl, rfl⟩))
  go_ret
  exact ⟨rfl, below_alloc2 _ _ _⟩

set_option maxHeartbeats 2000000 in
theorem nearest_any (x1 y1 a1 b1 s2 t2 : Int) (w : World) (h1 : okB x1 y1 a1 b1 = true) :
    Calls Try.prog 65 #[.agg #[.int .i64 x1, .int .i64 y1, .int .i64 a1, .int .i64 b1], .agg #[.int .i64 s2, .int .i64 t2]] w fun e w' => e = .returned (.agg #[.int .i64 (near x1 a1 s2), .int .i64 (near y1 b1 t2)]) ∧ Below w.heap.size w w' := by
  unfold near
  have hS : ∀ w', Below (w.heap.size + 1 + 1) (((w.alloc (.cells #[.int .i64 x1, .int .i64 y1, .int .i64 a1, .int .i64 b1] 47)).alloc (.cells #[.int .i64 s2, .int .i64 t2] 37)).alloc (.cells #[.int .i64 0, .int .i64 0] 37)) w' → (w'.cell? ⟨w.heap.size, 0, none⟩ = some (.int .i64 x1) ∧ w'.cell? ⟨w.heap.size, 1, none⟩ = some (.int .i64 y1) ∧ w'.cell? ⟨w.heap.size, 2, none⟩ = some (.int .i64 a1) ∧ w'.cell? ⟨w.heap.size, 3, none⟩ = some (.int .i64 b1) ∧ w'.cell? ⟨w.heap.size + 1, 0, none⟩ = some (.int .i64 s2) ∧ w'.cell? ⟨w.heap.size + 1, 1, none⟩ = some (.int .i64 t2)) := by
    intro w' h
    have hcl := fun b o (hb : b < w.heap.size + 1 + 1) => h.cell (p := ⟨b, o, none⟩) hb
    refine ⟨?_, ?_, ?_, ?_, ?_, ?_⟩ <;> (rw [hcl _ _ (by omega)]; simp [go_sem])
  go_enter Try.func65, Try.ntmps65
  go_wp2
  go_region_held3 (fun w' => (Below (w.heap.size + 1 + 1) (((w.alloc (.cells #[.int .i64 x1, .int .i64 y1, .int .i64 a1, .int .i64 b1] 47)).alloc (.cells #[.int .i64 s2, .int .i64 t2] 37)).alloc (.cells #[.int .i64 0, .int .i64 0] 37)) w' ∧ w'.cell? ⟨w.heap.size + 1 + 1, 0, none⟩ = some (peek w' ⟨w.heap.size + 1 + 1, 0, none⟩) ∧ w'.cell? ⟨w.heap.size + 1 + 1, 1, none⟩ = some (peek w' ⟨w.heap.size + 1 + 1, 1, none⟩) ∧ w'.frozen? ⟨w.heap.size + 1 + 1, 0, none⟩ = false ∧ w'.frozen? ⟨w.heap.size + 1 + 1, 1, none⟩ = false) ∧ w'.cell? ⟨w.heap.size, 0, none⟩ = some (.int .i64 x1) ∧ w'.cell? ⟨w.heap.size, 1, none⟩ = some (.int .i64 y1) ∧ w'.cell? ⟨w.heap.size, 2, none⟩ = some (.int .i64 a1) ∧ w'.cell? ⟨w.heap.size, 3, none⟩ = some (.int .i64 b1) ∧ w'.cell? ⟨w.heap.size + 1, 0, none⟩ = some (.int .i64 s2) ∧ w'.cell? ⟨w.heap.size + 1, 1, none⟩ = some (.int .i64 t2)) (first | (refine ⟨⟨(Below.refl _ _).drew, ?_⟩, hS _ (Below.refl _ _).drew⟩; simp [go_sem, peek]) | (obtain ⟨⟨hB, hT⟩, _⟩ := ‹(Below _ _ _ ∧ _) ∧ _›; have hB' := bstep hB hb2 (by simp); exact ⟨⟨hB', thr_step (Nat.lt_of_lt_of_le (by simp) hB.size) hb2 hT⟩, hS _ hB'⟩) | (obtain ⟨⟨hB, hT⟩, _⟩ := ‹(Below _ _ _ ∧ _) ∧ _›; exact ⟨⟨sc2 hB (Nat.le_refl _), thr_set hT⟩, hS _ (sc2 hB (Nat.le_refl _))⟩))
    (first | (go_at_call 87; refine (lastX_any _ _ _ _ _ h1).mono ?_; rintro e w1 ⟨rfl, hb2⟩) | (go_at_call 88; refine (lastY_any _ _ _ _ _ h1).mono ?_; rintro e w1 ⟨rfl, hb2⟩) | (go_at_call 86; refine (drawnIn_any _ _ _ _).mono ?_; rintro e w1 ⟨rfl, hb2⟩))
  rename_i wa ha wb hb wc hc hH
  obtain ⟨⟨hB, hT⟩, _⟩ := hH
  have q := bstep (bstep (bstep ha hb (Nat.le_refl _)) hc (Nat.le_refl _)) hb2 (Nat.le_refl _)
  obtain ⟨qc, _⟩ := bcell q
  clear hT
  go_wp2
  refine bodyPost_ret (v := .agg #[.int .i64 (min (max s2 x1) (x1 + a1 - 1)), .int .i64 (min (max t2 y1) (y1 + b1 - 1))]) (by simp [results, Try.results65, go_sem, qc]) rfl ⟨rfl, ?_⟩
  exact (below_alloc3 _ _ _ _).trans (hB.mono (by omega))

theorem every_rs_v (x1 y1 a1 b1 x2 y2 : Int) (v : Bool) (g : Nat) (w : World) (hv : (okB x1 y1 a1 b1 && spB x2 y2) = v) (hg : g < w.heap.size)
    (h0 : w.cell? ⟨g, 0, none⟩ = some (.func (Fn.func 64) #[.agg #[.int .i64 x1, .int .i64 y1, .int .i64 a1, .int .i64 b1]] #[])) (h1 : w.cell? ⟨g, 1, none⟩ = some (.func (Fn.func 58) #[.agg #[.int .i64 x2, .int .i64 y2]] #[])) :
    Calls Try.prog 63 #[.slice (some ⟨g, 0, none⟩) 2 2] w fun e w' => e = .returned (.bool v) ∧ Below w.heap.size w w' := by
  subst hv; exact every_rs x1 y1 a1 b1 x2 y2 g w hg h0 h1

theorem near_in {x a s : Int} (h1 : 1 ≤ a) : near x a s = s ↔ (x ≤ s ∧ s < x + a) := by unfold near; omega

set_option maxHeartbeats 1000000 in
theorem iHolds_any (x1 y1 a1 b1 s2 t2 : Int) (w : World) :
    Calls Try.prog 25 #[.agg #[.int .i64 x1, .int .i64 y1, .int .i64 a1, .int .i64 b1], .agg #[.int .i64 s2, .int .i64 t2]] w fun e w' => e = .returned (.bool (holdsB x1 y1 a1 b1 s2 t2)) ∧ Below w.heap.size w w' := by
  have hS : ∀ w', Below ((w.alloc (.cells #[.int .i64 x1, .int .i64 y1, .int .i64 a1, .int .i64 b1] 47)).alloc (.cells #[.int .i64 s2, .int .i64 t2] 37)).heap.size ((w.alloc (.cells #[.int .i64 x1, .int .i64 y1, .int .i64 a1, .int .i64 b1] 47)).alloc (.cells #[.int .i64 s2, .int .i64 t2] 37)) w' → (w'.cell? ⟨w.heap.size, 0, none⟩ = some (.int .i64 x1) ∧ w'.cell? ⟨w.heap.size, 1, none⟩ = some (.int .i64 y1) ∧ w'.cell? ⟨w.heap.size, 2, none⟩ = some (.int .i64 a1) ∧ w'.cell? ⟨w.heap.size, 3, none⟩ = some (.int .i64 b1) ∧ w'.cell? ⟨w.heap.size + 1, 0, none⟩ = some (.int .i64 s2) ∧ w'.cell? ⟨w.heap.size + 1, 1, none⟩ = some (.int .i64 t2)) := by
    intro w' h
    obtain ⟨hcl, _⟩ := bcell h
    refine ⟨?_, ?_, ?_, ?_, ?_, ?_⟩ <;> (rw [hcl _ _ (by simp <;> omega)]; simp [go_sem])
  cases hv : (okB x1 y1 a1 b1 && spB s2 t2)
  · go_enter Try.func25, Try.ntmps25
    go_wp2
    go_region_with ((go_at_call 63; refine (every_rs_v x1 y1 a1 b1 s2 t2 _ _ _ hv ?_ ?_ ?_).mono ?_; (focus (simp; done)); (focus (simp [go_sem]; done)); (focus (simp [go_sem]; done)); rintro e w1 ⟨rfl, hb2⟩))
    all_goals (go_wp2; go_ret; exact ⟨ret_bool (by simp [holdsB, hv]), ba2 (bstepA (Below.refl _ _).drew hb2 (Nat.le_refl _))⟩)
  · obtain ⟨g1, g2⟩ := (Bool.and_eq_true _ _).mp hv
    have k := okB_t.mp g1
    have hn : (near x1 a1 s2 == s2 && near y1 b1 t2 == t2) = inR x1 y1 a1 b1 s2 t2 := by
      unfold inR; rw [Bool.eq_iff_iff]; simp only [Bool.and_eq_true, beq_iff_eq, decide_eq_true_iff, near_in (x := x1) (s := s2) (show 1 ≤ a1 by omega), near_in (x := y1) (s := t2) (show 1 ≤ b1 by omega)]; omega
    have HN : Hid (inR x1 y1 a1 b1 s2 t2 = (near x1 a1 s2 == s2 && near y1 b1 t2 == t2)) := hn.symm
    clear hn k
    cases hq1 : (near x1 a1 s2 == s2) <;> cases hq2 : (near y1 b1 t2 == t2)
    all_goals
      go_enter Try.func25, Try.ntmps25
      go_wp2
      go_region_held3 (fun w' => Below ((w.alloc (.cells #[.int .i64 x1, .int .i64 y1, .int .i64 a1, .int .i64 b1] 47)).alloc (.cells #[.int .i64 s2, .int .i64 t2] 37)).heap.size ((w.alloc (.cells #[.int .i64 x1, .int .i64 y1, .int .i64 a1, .int .i64 b1] 47)).alloc (.cells #[.int .i64 s2, .int .i64 t2] 37)) w' ∧ w'.cell? ⟨w.heap.size, 0, none⟩ = some (.int .i64 x1) ∧ w'.cell? ⟨w.heap.size, 1, none⟩ = some (.int .i64 y1) ∧ w'.cell? ⟨w.heap.size, 2, none⟩ = some (.int .i64 a1) ∧ w'.cell? ⟨w.heap.size, 3, none⟩ = some (.int .i64 b1) ∧ w'.cell? ⟨w.heap.size + 1, 0, none⟩ = some (.int .i64 s2) ∧ w'.cell? ⟨w.heap.size + 1, 1, none⟩ = some (.int .i64 t2)) (first | exact ‹Below _ _ _ ∧ _› | exact keepS hS (bstep (‹Below _ _ _ ∧ _›).1 hb2 (Nat.le_refl _)) | exact keepS hS ((‹Below _ _ _ ∧ _›).1.alloc (‹Below _ _ _ ∧ _›).1.size _) | exact keepS hS hb.drew | exact keepS hS (Below.refl _ _).drew | fail)
        (first | (go_at_call 63; refine (every_rs_v x1 y1 a1 b1 s2 t2 _ _ _ hv ?_ ?_ ?_).mono ?_; (focus (simp; done)); (focus (simp [go_sem]; done)); (focus (simp [go_sem]; done)); rintro e w1 ⟨rfl, hb2⟩) | (go_at_call 65; refine (nearest_any _ _ _ _ _ _ _ g1).mono ?_; rintro e w1 ⟨rfl, hb2⟩))
      all_goals (obtain ⟨hb, _⟩ := ‹Below _ _ _ ∧ _›; go_wp2; go_ret; exact ⟨ret_bool (by rw [holdsB, hv, HN.out, hq1, hq2]; rfl), ba2 hb⟩)

end Go.Proofs.Ytamnmakegdnblaa.M
