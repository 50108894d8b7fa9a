/-
  The law of Cover, walked: the program's list is the spec's, it is new memory, and a second call answers as the first.
-/
import Derived.Test.YthmpemamagjeeaaK4
namespace Go.Proofs.Ythmpemamagjeeaa
open Go.RowKit Go.Joins
attribute [local go_sem ↓] Go.wp_at_zero Go.wp_at_succ

theorem coverL_len (x y a b : Int) : (coverL x y a b).length ≤ 65536 := by
  unfold coverL
  split
  · exact dec_len _ 8 _
  · simp
theorem iCover_v {x y a b : Int} {L : List T3} (h : coverL x y a b = L) (w : World) :
    Calls Try.prog 13 #[.agg #[.int .i64 x, .int .i64 y, .int .i64 a, .int .i64 b]] w fun e w' => ∃ p cap, e = .returned (.slice p L.length cap) ∧ Ow w' w.heap.size (.slice p L.length cap) L ∧ Below w.heap.size w w' := by
  subst h
  exact (iCover_any x y a b w).mono fun _ _ ⟨v', h1, h2, h3⟩ => by
    obtain ⟨p, cap, rfl, _⟩ := Ow.form h2
    exact ⟨p, cap, h1, h2, h3⟩
theorem sCover_v {x y a b : Int} {L : List T3} (h : coverL x y a b = L) (w : World) :
    Calls Try.prog 16 #[.agg #[.int .i64 x, .int .i64 y, .int .i64 a, .int .i64 b]] w fun e w' => ∃ p cap, e = .returned (.slice p L.length cap) ∧ Ow w' w.heap.size (.slice p L.length cap) L ∧ Below w.heap.size w w' := by
  subst h
  exact (sCover_any x y a b w).mono fun _ _ ⟨v', h1, h2, h3⟩ => by
    obtain ⟨p, cap, rfl, _⟩ := Ow.form h2
    exact ⟨p, cap, h1, h2, h3⟩
/-- A list's marks. -/
theorem markCellS_x (p : Option Addr) (cap base : Nat) (L : List T3) (w : World) (hL : Ow w base (.slice p L.length cap) L) (hn : L.length ≤ 10000000) :
    Calls Try.prog 38 #[.slice p L.length cap, .int .i64 1] w fun e w' => e = .returned (.int .i64 (1 + 3 * L.length)) ∧ Ow w' base (.slice p L.length cap) (mk 1 L.length) ∧ w.grownBy w' (Value.slice p L.length cap).ownBlock := markCellS_any p cap base 1 L w hL hn (by decide) (by decide)

set_option maxRecDepth 100000 in
set_option maxHeartbeats 2000000 in
theorem exactCover (x y a b : Int) (w : World) :
    Calls Try.prog 6 #[.agg #[.int .i64 x, .int .i64 y, .int .i64 a, .int .i64 b]] w fun e w' => e = .returned (.bool true) ∧ Below w.heap.size w w' := by
  generalize hL : coverL x y a b = L
  have hn : L.length ≤ 65536 := by rw [← hL]; exact coverL_len x y a b
  have hni : (0 : Int) ≤ 1 + 3 * L.length := by omega
  have hx := Sx.nil (w.alloc (.cells #[.int .i64 x, .int .i64 y, .int .i64 a, .int .i64 b] 51))
  have hS : ∀ {w' : World} {ls : List (Value × List T3)}, Sx (w.alloc (.cells #[.int .i64 x, .int .i64 y, .int .i64 a, .int .i64 b] 51)) w' ls → (w'.cell? ⟨w.heap.size, 0, none⟩ = some (.int .i64 x) ∧ w'.cell? ⟨w.heap.size, 1, none⟩ = some (.int .i64 y) ∧ w'.cell? ⟨w.heap.size, 2, none⟩ = some (.int .i64 a) ∧ w'.cell? ⟨w.heap.size, 3, none⟩ = some (.int .i64 b)) := by
    intro w' ls h
    obtain ⟨hc, _⟩ := bcell h.bel
    rw [hc _ _ (by simp), hc _ _ (by simp), hc _ _ (by simp), hc _ _ (by simp)]
    simp [go_sem]
  have hcc := hS hx
  go_enter Try.func6, Try.ntmps6
  go_upto_region 6 with (first
    | (go_at_call 36; refine (toRect_any _ _ _ _ _).mono ?_; rintro e w1 ⟨rfl, hb2⟩; replace hx := hx.step hb2; clear hcc; have hcc := hS hx)
    | (go_at_call 16; refine (sCover_v hL _).mono ?_; rintro e w1 ⟨p0, cap0, rfl, hO, hb2⟩; replace hx := hx.add hO hb2; clear hcc; have hcc := hS hx)
    | (go_at_call 13; refine (iCover_v hL _).mono ?_; rintro e w1 ⟨p1, cap1, rfl, hO1, hb2⟩; replace hx := hx.add hO1 hb2; clear hcc; have hcc := hS hx)
    | (go_at_call 37; refine (eqCellS_same _ _ _ _ L _ (Ow.sl (hx.own _ (List.mem_cons_self ..))) (Ow.sl (hx.own _ (List.mem_cons_of_mem _ (List.mem_cons_self ..)))) (by omega)).mono ?_; rintro e w1 ⟨rfl, hb2⟩; replace hx := hx.step hb2; clear hcc; have hcc := hS hx))
  go_upto_region 13 with (first
    | (go_at_call 38; refine (markCellS_x _ _ _ L _ (hx.own _ (List.mem_cons_self ..)) (by omega)).mono ?_; rintro e w1 ⟨rfl, hO2, hg2⟩; replace hx := hx.put (A := []) hO2 hg2; clear hcc; have hcc := hS hx)
    | (go_at_call 39; refine (heldCellS_any _ _ 1 L.length _ (Ow.sl (hx.own _ (List.mem_cons_self ..))) (by omega) (by decide) (by decide)).mono ?_; rintro e w1 ⟨rfl, rfl⟩))
  go_wp2_with (first
    | (go_at_call 36; refine (toRect_any _ _ _ _ _).mono ?_; rintro e w1 ⟨rfl, hb2⟩; replace hx := hx.step hb2; clear hcc; have hcc := hS hx)
    | (go_at_call 13; refine (iCover_v hL _).mono ?_; rintro e w1 ⟨p3, cap3, rfl, hO3, hb2⟩; replace hx := hx.add hO3 hb2; clear hcc; have hcc := hS hx)
    | (go_at_call 37; refine (eqCellS_same _ _ _ _ L _ (Ow.sl (hx.own _ (List.mem_cons_self ..))) (Ow.sl (hx.own _ (List.mem_cons_of_mem _ (List.mem_cons_of_mem _ (List.mem_cons_self ..))))) (by omega)).mono ?_; rintro e w1 ⟨rfl, hb2⟩; replace hx := hx.step hb2; clear hcc; have hcc := hS hx)
    | (go_at_call 39; refine (heldCellS_any _ _ 1 L.length _ (Ow.sl (hx.own _ (List.mem_cons_of_mem _ (List.mem_cons_self ..)))) (by omega) (by decide) (by decide)).mono ?_; rintro e w1 ⟨rfl, rfl⟩))
  go_ret
  exact ⟨rfl, ba1 hx.bel⟩
end Go.Proofs.Ythmpemamagjeeaa
