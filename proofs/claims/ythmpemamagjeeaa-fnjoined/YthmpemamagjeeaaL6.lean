/-
  The law of Reaches, walked: the program answers as the spec, and the list that was handed in reads as before.
-/
import Derived.Test.YthmpemamagjeeaaL5
import Derived.Deep.Cut
import Derived.Deep.CutBlock
namespace Go.Proofs.Ythmpemamagjeeaa
open Go.RowKit Go.Joins
attribute [local go_sem ↓] Go.wp_at_zero Go.wp_at_succ

theorem toCellS_g (p : Option Addr) (cap : Nat) (L : List T3) (w : World) (hL : Sl w p L) (hn : L.length ≤ 1048576) :
    Calls Try.prog 41 #[.slice p L.length cap] w fun e w' => ∃ p1 cap1, e = .returned (.slice p1 L.length cap1) ∧ Ow w' w.heap.size (.slice p1 L.length cap1) L ∧ Below w.heap.size w w' :=
  (toCellS_any p cap L w hL hn).mono fun _ _ ⟨h1, h2, h3⟩ => ⟨_, _, h1, h2, h3⟩
theorem ins8 {c : T3} {s t : Int} (h : c.ok = true) (hs : spB s t = true) : insT ⟨8, s, t⟩ c = inC c s t := by
  have h' : cellB c.l c.x c.y = true := h
  obtain ⟨h0, h8, hx, hx1, hy, hy1⟩ := cellB_t.mp h'
  obtain ⟨s0, s1, t0, t1⟩ := spB_t.mp hs
  unfold insT inC inR
  rw [insB_eq]
  simp only [rX, rY, rS, h', if_true, cell8_ok hs, Bool.and_self, Bool.true_and, lInB]
  generalize c.l = l at *
  generalize c.x = x at *
  generalize c.y = y at *
  refine decide_eq_decide.mpr ?_
  unfold sd
  rcases nine h0 h8 with rfl | rfl | rfl | rfl | rfl | rfl | rfl | rfl | rfl <;> simp at hx1 hy1 ⊢ <;> omega
theorem any_ins8 {L : List T3} {s t : Int} (h : okL L = true) (hs : spB s t = true) : haveB L ⟨8, s, t⟩ = L.any fun c => inC c s t := by
  have h2 := List.all_eq_true.mp ((Bool.and_eq_true _ _).mp h).2
  unfold haveB
  rw [Bool.eq_iff_iff, List.any_eq_true, List.any_eq_true]
  constructor
  · rintro ⟨c, hc, hi⟩; exact ⟨c, hc, by rw [← ins8 (h2 c hc) hs]; exact hi⟩
  · rintro ⟨c, hc, hi⟩; exact ⟨c, hc, by rw [ins8 (h2 c hc) hs]; exact hi⟩
theorem okL_all {L : List T3} (h : okL L = true) : ∀ c ∈ L, c.ok = true := List.all_eq_true.mp ((Bool.and_eq_true _ _).mp h).2

theorem l3Reaches_v {L : List T3} {s t : Int} {v : Bool} (hv : (L.any fun c => inC c s t) = v) (p : Option Addr) (cap : Nat) (w : World) (hL : Sl w p L) (hn : L.length ≤ 1048576) (hok : ∀ c ∈ L, c.ok = true) :
    Calls Try.prog 58 #[.slice p L.length cap, .agg #[.int .i64 s, .int .i64 t]] w fun e w' => e = .returned (.bool v) ∧ Below w.heap.size w w' := by subst hv; exact l3Reaches_any p cap L s t w hL hn hok

set_option maxHeartbeats 1000000 in
theorem sReaches_any (p : Option Addr) (cap : Nat) (L : List T3) (s t : Int) (w : World) (hL : Sl w p L) (hn : L.length ≤ 1048576) :
    Calls Try.prog 18 #[.slice p L.length cap, .agg #[.int .i64 s, .int .i64 t]] w fun e w' => e = .returned (.bool (reachI L s t)) ∧ Below w.heap.size w w' := by
  have hs := St.nil w
  cases hv : okL L
  · rw [reachI, hv]
    go_enter Try.func18, Try.ntmps18
    go_wp2_with (go_at_call 56; refine (l3Cells_v hv p cap _ (hL.step (hs.push _ _).bel) (by omega)).mono ?_; rintro e w1 ⟨rfl, hb2⟩; replace hs := (hs.push _ _).step hb2; (try simp only [World.size_alloc] at hs); have hk := hs.has; simp [Has, HasAt] at hk)
    go_ret
    exact ⟨rfl, hs.bel⟩
  cases hsp : spB s t
  · rw [reachI, hv, hsp]
    go_enter Try.func18, Try.ntmps18
    go_wp2_with (first
      | (go_at_call 56; refine (l3Cells_v hv p cap _ (hL.step (hs.push _ _).bel) (by omega)).mono ?_; rintro e w1 ⟨rfl, hb2⟩; replace hs := (hs.push _ _).step hb2; (try simp only [World.size_alloc] at hs); have hk := hs.has; simp [Has, HasAt] at hk)
      | (go_at_call 57; refine (sSpot_v hsp _).mono ?_; rintro e w1 ⟨rfl, hb2⟩; replace hs := hs.step hb2; clear hk; have hk := hs.has; simp [Has, HasAt] at hk))
    go_ret
    exact ⟨rfl, hs.bel⟩
  · rw [reachI, hv, hsp, any_ins8 hv hsp]
    cases hh : (L.any fun c => inC c s t)
    all_goals
      go_enter Try.func18, Try.ntmps18
      go_wp2_with (first
        | (go_at_call 56; refine (l3Cells_v hv p cap _ (hL.step (hs.push _ _).bel) (by omega)).mono ?_; rintro e w1 ⟨rfl, hb2⟩; replace hs := (hs.push _ _).step hb2; (try simp only [World.size_alloc] at hs); have hk := hs.has; simp [Has, HasAt] at hk)
        | (go_at_call 57; refine (sSpot_v hsp _).mono ?_; rintro e w1 ⟨rfl, hb2⟩; replace hs := hs.step hb2; clear hk; have hk := hs.has; simp [Has, HasAt] at hk)
        | (go_at_call 58; refine (l3Reaches_v hh p cap _ (hL.step hs.bel) hn (okL_all hv)).mono ?_; rintro e w1 ⟨rfl, hb2⟩; replace hs := hs.step hb2; clear hk; have hk := hs.has; simp [Has, HasAt] at hk))
      go_ret
      exact ⟨rfl, hs.bel⟩

theorem sReaches_v {L : List T3} {s t : Int} {v : Bool} (hv : reachI L s t = v) (p : Option Addr) (cap : Nat) (w : World) (hL : Sl w p L) (hn : L.length ≤ 1048576) :
    Calls Try.prog 18 #[.slice p L.length cap, .agg #[.int .i64 s, .int .i64 t]] w fun e w' => e = .returned (.bool v) ∧ Below w.heap.size w w' := by subst hv; exact sReaches_any p cap L s t w hL hn
theorem iReaches_v {L : List T3} {s t : Int} {v : Bool} (hv : reachI L s t = v) (p : Option Addr) (cap : Nat) (w : World) (hL : Sl w p L) (hn : L.length ≤ 1048576) :
    Calls Try.prog 17 #[.slice p L.length cap, .agg #[.int .i64 s, .int .i64 t]] w fun e w' => e = .returned (.bool v) ∧ Below w.heap.size w w' := by subst hv; exact iReaches_any p cap L s t w hL hn

set_option maxRecDepth 100000 in
set_option maxHeartbeats 2000000 in
theorem exactReaches (p : Option Addr) (cap : Nat) (L : List T3) (s t : Int) (w : World) (hL : Sl w p L) (hm : L.length ≤ maxLen) :
    Calls Try.prog 8 #[.slice p L.length cap, .agg #[.int .i64 s, .int .i64 t]] w fun e w' => e = .returned (.bool true) ∧ Below w.heap.size w w' := by
  by_cases hn : L.length ≤ 1048576
  · have hni : (L.length : Int) ≤ 1048576 := by omega
    have hb0 := below_alloc1 w (.cells #[.int .i64 s, .int .i64 t] 59)
    have hx := Sx.nil (w.alloc (.cells #[.int .i64 s, .int .i64 t] 59))
    have hL0 := hL.step hb0
    have hS : ∀ w', Sx (w.alloc (.cells #[.int .i64 s, .int .i64 t] 59)) w' [] → (w'.cell? ⟨w.heap.size, 0, none⟩ = some (.int .i64 s) ∧ w'.cell? ⟨w.heap.size, 1, none⟩ = some (.int .i64 t)) := by
      intro w' h
      obtain ⟨hc, _⟩ := bcell h.bel
      rw [hc _ _ (by simp), hc _ _ (by simp)]
      simp [go_sem]
    have hcc := hS _ hx
    generalize hv : reachI L s t = v
    go_enter Try.func8, Try.ntmps8
    go_upto_region 5 with (go_at_call 40; refine (szCellS_ok _ _ _ _ _ hni (by omega)).mono ?_; rintro e w1 ⟨rfl, rfl⟩)
    go_region_held3 (fun w' => Sx (w.alloc (.cells #[.int .i64 s, .int .i64 t] 59)) w' [] ∧ (w'.cell? ⟨w.heap.size, 0, none⟩ = some (.int .i64 s) ∧ w'.cell? ⟨w.heap.size, 1, none⟩ = some (.int .i64 t))) (first | exact ‹Sx _ _ _ ∧ _› | exact keepS hS ((‹Sx _ _ _ ∧ _›).1.step hb2) | exact keepS hS (hx.step (Below.refl _ _).drew) | fail)
      (first
        | (go_at_call 41; refine (toCellS_g p cap L _ (hL0.step (‹Sx _ _ _ ∧ _›).1.bel) hn).mono ?_; rintro e w1 ⟨p1, cap1, rfl, hO, hb2⟩)
        | (go_at_call 42; refine (toSpot_any _ _ _).mono ?_; rintro e w1 ⟨rfl, hb2⟩; (try replace hO := own_of_below hO hb2))
        | (go_at_call 18; refine (sReaches_v hv _ _ _ (Ow.sl hO) hn).mono ?_; rintro e w1 ⟨rfl, hb2⟩))
    clear hx hcc
    obtain ⟨hx, hcc⟩ := ‹Sx _ _ _ ∧ _›
    go_wp2_with (first
      | (go_at_call 41; refine (toCellS_g p cap L _ (hL0.step hx.bel) hn).mono ?_; rintro e w1 ⟨p1, cap1, rfl, hO, hb2⟩; replace hx := hx.add hO hb2; clear hcc; have hcc := hS _ (hx.sub (List.nil_sublist _)))
      | (go_at_call 42; refine (toSpot_any _ _ _).mono ?_; rintro e w1 ⟨rfl, hb2⟩; replace hx := hx.step hb2; clear hcc; have hcc := hS _ (hx.sub (List.nil_sublist _)))
      | (go_at_call 17; refine (iReaches_v hv _ _ _ (Ow.sl (hx.own _ (List.mem_cons_self ..))) hn).mono ?_; rintro e w1 ⟨rfl, hb2⟩; replace hx := hx.step hb2; clear hcc; have hcc := hS _ (hx.sub (List.nil_sublist _)))
      | (go_at_call 37; refine (eqCellS_same _ _ _ _ L _ (Ow.sl (hx.own _ (List.mem_cons_of_mem _ (List.mem_cons_self ..)))) (Ow.sl (hx.own _ (List.mem_cons_self ..))) (by omega)).mono ?_; rintro e w1 ⟨rfl, hb2⟩; replace hx := hx.step hb2))
    go_ret
    exact ⟨rfl, ba1 hx.bel⟩
  · have hni : (1048576 : Int) < L.length := by omega
    go_enter Try.func8, Try.ntmps8
    go_wp2_with (go_at_call 40; refine (szCellS_no _ _ _ _ _ hni (by omega) hm).mono ?_; rintro e w1 ⟨rfl, rfl⟩)
    go_ret
    exact ⟨rfl, below_alloc1 _ _⟩
end Go.Proofs.Ythmpemamagjeeaa
