/-
  The spec's Joined: how much of a Cell right Cells have.
-/
import Derived.Test.YthmpemamagjeeaaM3
import Derived.Test.YthmpemamagjeeaaL6
namespace Go.Proofs.Ythmpemamagjeeaa
open Go.RowKit Go.Joins
attribute [local go_sem ↓] Go.wp_at_zero Go.wp_at_succ

def anyOf (L : List T3) (c : T3) : Bool := L.any fun a => insT a c
def much (L : List T3) : Nat → T3 → Int
  | 0, c => if haveB L c then 2 else 0
  | n + 1, c => if haveB L c then 2 else if anyOf L c then (if (List.range 4).all (fun i => much L n (c.q i) == 2) then 2 else 1) else 0
theorem much_le (L : List T3) : ∀ n c, 0 ≤ much L n c ∧ much L n c ≤ 2
  | 0, c => by simp only [much]; split <;> simp
  | n + 1, c => by simp only [much]; split <;> (try split) <;> (try split) <;> simp
theorem l2In_v {a b : T3} {v : Bool} (ha : a.ok = true) (hb : b.ok = true) (hv : insT a b = v) (w : World) :
    Calls Try.prog 90 #[.agg #[.int .i64 a.l, .int .i64 a.x, .int .i64 a.y], .agg #[.int .i64 b.l, .int .i64 b.x, .int .i64 b.y]] w fun e w' => e = .returned (.bool v) ∧ Below w.heap.size w w' := by
  have h1 : cellB a.l a.x a.y = true := ha
  have h2 : cellB b.l b.x b.y = true := hb
  unfold insT at hv
  rw [insB_eq, h1, h2, Bool.true_and, Bool.true_and] at hv
  exact lInside_v (cell_lev h1) (cell_lev h2) hv w

def MuP (L : List T3) (p : Option Addr) (cap n : Nat) : Prop := ∀ (c : T3) (w : World), c.ok = true → (8 - c.l).toNat = n → Sl w p L →
    Calls Try.prog 72 #[.slice p L.length cap, .agg #[.int .i64 c.l, .int .i64 c.x, .int .i64 c.y]] w fun e w' => e = .returned (.int .i64 (much L n c)) ∧ Below w.heap.size w w'
theorem have_of8 {L : List T3} (hok : ∀ a ∈ L, a.ok = true) {c : T3} (hc : c.ok = true) (h8 : c.l = 8) (h : anyOf L c = true) : haveB L c = true := by
  obtain ⟨a, ha, hi⟩ := List.any_eq_true.mp h
  obtain ⟨u, v⟩ := (ins_iff (hok a ha) hc).mp hi
  have hs : c.sz = 1 := by unfold T3.sz; rw [h8]; rfl
  have := a.sz_pos
  refine List.any_eq_true.mpr ⟨a, ha, (ins_iff hc (hok a ha)).mpr ?_⟩
  unfold T3.hi at *
  omega

set_option maxRecDepth 100000 in
set_option maxHeartbeats 4000000 in
theorem l3Much_step {L : List T3} (hok : ∀ a ∈ L, a.ok = true) (hn : L.length ≤ 1048576) (p : Option Addr) (cap n : Nat) (ih : ∀ m, n = m + 1 → MuP L p cap m) : MuP L p cap n := by
  intro c w hc hnl hL
  have hs0 := (St.nil w).push [.int .i64 c.l, .int .i64 c.x, .int .i64 c.y] 38
  go_enter Try.func72, Try.ntmps72
  go_wp2
  go_loopw [5, 6] (fun sv i wr => ∃ k : Nat, k ≤ L.length ∧ i = .int .i64 k ∧ sv = .bool (anyOf (L.take k) c) ∧ (L.take k).any (insT c) = false ∧ St w wr [(w.heap.size, [.int .i64 c.l, .int .i64 c.x, .int .i64 c.y])]) (fun _ i _ => L.length - (intOf i).toNat)
  case atStart => exact ⟨0, by omega, rfl, rfl, rfl, hs0⟩
  case round =>
    obtain ⟨k, hk, rfl, rfl, hall, hst⟩ := hrel
    by_cases hlt : k < L.length
    · have hki : (k : Int) < L.length := by omega
      obtain ⟨g, off, rfl, hC⟩ := hL.at hlt
      have hS : ∀ w', St w w' [(w.heap.size, [.int .i64 c.l, .int .i64 c.x, .int .i64 c.y])] → ((w'.cell? ⟨g, off + k * 3, none⟩ = some (.int .i64 L[k].l) ∧ w'.cell? ⟨g, off + k * 3 + 1, none⟩ = some (.int .i64 L[k].x) ∧ w'.cell? ⟨g, off + k * 3 + 2, none⟩ = some (.int .i64 L[k].y)) ∧ w'.cell? ⟨w.heap.size, 0, none⟩ = some (.int .i64 c.l) ∧ w'.cell? ⟨w.heap.size, 1, none⟩ = some (.int .i64 c.x) ∧ w'.cell? ⟨w.heap.size, 2, none⟩ = some (.int .i64 c.y)) :=
        fun w' h => ⟨(hC.step h.bel).2 k L[k] (List.getElem?_eq_getElem hlt), h.has.1.2.2.1, h.has.1.2.2.2.1, h.has.1.2.2.2.2.1⟩
      have hcc := hS _ hst
      have hcell := hok _ (List.getElem_mem hlt)
      cases hv : insT c L[k]
      · cases hsm : anyOf (L.take k) c
        · generalize hv2 : insT L[k] c = v2
          go_wp2
          go_region_held3 (fun w' => St w w' [(w.heap.size, [.int .i64 c.l, .int .i64 c.x, .int .i64 c.y])] ∧ ((w'.cell? ⟨g, off + k * 3, none⟩ = some (.int .i64 L[k].l) ∧ w'.cell? ⟨g, off + k * 3 + 1, none⟩ = some (.int .i64 L[k].x) ∧ w'.cell? ⟨g, off + k * 3 + 2, none⟩ = some (.int .i64 L[k].y)) ∧ w'.cell? ⟨w.heap.size, 0, none⟩ = some (.int .i64 c.l) ∧ w'.cell? ⟨w.heap.size, 1, none⟩ = some (.int .i64 c.x) ∧ w'.cell? ⟨w.heap.size, 2, none⟩ = some (.int .i64 c.y))) (first | exact ‹St _ _ _ ∧ _› | exact keepS hS ((‹St _ _ _ ∧ _›).1.step hb2) | exact keepS hS hst.dr | fail)
            (first | (go_at_call 90; refine (l2In_v hc hcell hv _).mono ?_; rintro e w1 ⟨rfl, hb2⟩))
          clear hst hcc
          obtain ⟨hst, hcc⟩ := ‹St _ _ _ ∧ _›
          go_wp2
          go_region_held3 (fun w' => St w w' [(w.heap.size, [.int .i64 c.l, .int .i64 c.x, .int .i64 c.y])] ∧ ((w'.cell? ⟨g, off + k * 3, none⟩ = some (.int .i64 L[k].l) ∧ w'.cell? ⟨g, off + k * 3 + 1, none⟩ = some (.int .i64 L[k].x) ∧ w'.cell? ⟨g, off + k * 3 + 2, none⟩ = some (.int .i64 L[k].y)) ∧ w'.cell? ⟨w.heap.size, 0, none⟩ = some (.int .i64 c.l) ∧ w'.cell? ⟨w.heap.size, 1, none⟩ = some (.int .i64 c.x) ∧ w'.cell? ⟨w.heap.size, 2, none⟩ = some (.int .i64 c.y))) (first | exact ‹St _ _ _ ∧ _› | exact keepS hS ((‹St _ _ _ ∧ _›).1.step hb2) | exact keepS hS hst.dr | fail)
            (first | (go_at_call 90; refine (l2In_v hcell hc hv2 _).mono ?_; rintro e w1 ⟨rfl, hb2⟩))
          clear hst hcc
          obtain ⟨hst, hcc⟩ := ‹St _ _ _ ∧ _›
          go_wp2
          go_roundw
          case rel => exact ⟨k + 1, by omega, by go_num, by rw [anyOf, any_take hlt]; unfold anyOf at hsm; rw [hsm, hv2, Bool.false_or], by rw [any_take hlt, hall, hv]; rfl, hst⟩
          case measure => simp [intOf]; omega
        · go_wp2
          go_region_held3 (fun w' => St w w' [(w.heap.size, [.int .i64 c.l, .int .i64 c.x, .int .i64 c.y])] ∧ ((w'.cell? ⟨g, off + k * 3, none⟩ = some (.int .i64 L[k].l) ∧ w'.cell? ⟨g, off + k * 3 + 1, none⟩ = some (.int .i64 L[k].x) ∧ w'.cell? ⟨g, off + k * 3 + 2, none⟩ = some (.int .i64 L[k].y)) ∧ w'.cell? ⟨w.heap.size, 0, none⟩ = some (.int .i64 c.l) ∧ w'.cell? ⟨w.heap.size, 1, none⟩ = some (.int .i64 c.x) ∧ w'.cell? ⟨w.heap.size, 2, none⟩ = some (.int .i64 c.y))) (first | exact ‹St _ _ _ ∧ _› | exact keepS hS ((‹St _ _ _ ∧ _›).1.step hb2) | exact keepS hS hst.dr | fail)
            (first | (go_at_call 90; refine (l2In_v hc hcell hv _).mono ?_; rintro e w1 ⟨rfl, hb2⟩))
          clear hst hcc
          obtain ⟨hst, hcc⟩ := ‹St _ _ _ ∧ _›
          go_wp2
          go_quiet (fail)
          go_wp2
          go_roundw
          case rel => exact ⟨k + 1, by omega, by go_num, by rw [anyOf, any_take hlt]; unfold anyOf at hsm; rw [hsm]; rfl, by rw [any_take hlt, hall, hv]; rfl, ⟨bdrewN hst.bel _, hst.has⟩⟩
          case measure => simp [intOf]; omega
      · go_wp2
        go_region_held3 (fun w' => St w w' [(w.heap.size, [.int .i64 c.l, .int .i64 c.x, .int .i64 c.y])] ∧ ((w'.cell? ⟨g, off + k * 3, none⟩ = some (.int .i64 L[k].l) ∧ w'.cell? ⟨g, off + k * 3 + 1, none⟩ = some (.int .i64 L[k].x) ∧ w'.cell? ⟨g, off + k * 3 + 2, none⟩ = some (.int .i64 L[k].y)) ∧ w'.cell? ⟨w.heap.size, 0, none⟩ = some (.int .i64 c.l) ∧ w'.cell? ⟨w.heap.size, 1, none⟩ = some (.int .i64 c.x) ∧ w'.cell? ⟨w.heap.size, 2, none⟩ = some (.int .i64 c.y))) (first | exact ‹St _ _ _ ∧ _› | exact keepS hS ((‹St _ _ _ ∧ _›).1.step hb2) | exact keepS hS hst.dr | fail)
          (first | (go_at_call 90; refine (l2In_v hc hcell hv _).mono ?_; rintro e w1 ⟨rfl, hb2⟩))
        clear hst hcc
        obtain ⟨hst, hcc⟩ := ‹St _ _ _ ∧ _›
        go_wp2
        go_ret
        have hh : haveB L c = true := any_yes hlt hv
        exact ⟨ret_i64 (by cases n <;> simp [much, hh]), hst.bel⟩
    · obtain rfl : k = L.length := by omega
      rw [List.take_length] at hall ⊢
      have hh : haveB L c = false := hall
      cases hsm : anyOf L c
      · go_wp2
        go_ret
        exact ⟨ret_i64 (by cases n <;> simp [much, hh, hsm]), hst.bel⟩
      · have hl8 : c.l < 8 := by
          rcases Int.lt_or_le c.l 8 with h | h
          · exact h
          · have := have_of8 hok hc (by have := (ok_iff.mp hc).2.1; omega) hsm; rw [hh] at this; cases this
        obtain ⟨m, rfl⟩ : ∃ m, n = m + 1 := ⟨n - 1, by omega⟩
        have ihm := ih m rfl
        go_wp2
        go_loopw [7] (fun i wr => ∃ k : Nat, k ≤ 4 ∧ i = .int .i64 k ∧ (∀ j, j < k → much L m (c.q j) = 2) ∧ St w wr [(w.heap.size, [.int .i64 c.l, .int .i64 c.x, .int .i64 c.y])]) (fun i _ => 4 - (intOf i).toNat)
        case atStart => exact ⟨0, by omega, rfl, by omega, hst⟩
        case round =>
          obtain ⟨k, hk4, rfl, hj, hst⟩ := hrel
          have hk1 := hst.has
          simp [Has, HasAt] at hk1
          by_cases hlt : k < 4
          · have hnum : (k : Int) < 4 := by omega
            by_cases h2 : much L m (c.q k) = 2
            · generalize hmv : much L m (c.q k) = mv at h2
              subst h2
              go_wp2_with (first
                | (go_at_call 83; refine (l2Quarter_any hc hlt _).mono ?_; rintro e w2 ⟨rfl, hb2⟩; replace hst := hst.step hb2)
                | (go_at_call 72; refine (ihm (c.q k) _ (q_ok hc hl8 hlt) (by show (8 - (c.l + 1)).toNat = m; omega) (hL.step hst.bel)).mono ?_; rw [hmv]; rintro e w3 ⟨rfl, hb3⟩; replace hst := hst.step hb3))
              go_roundw
              case rel => exact ⟨k + 1, by omega, by go_num, fun j hj' => by by_cases e : j = k; (subst e; exact hmv); exact hj j (by omega), hst⟩
              case measure => simp [intOf]; omega
            · have hm2 : much L m (c.q k) < 2 := by have := (much_le L m (c.q k)).2; omega
              generalize hmv : much L m (c.q k) = mv at h2 hm2
              go_wp2_with (first
                | (go_at_call 83; refine (l2Quarter_any hc hlt _).mono ?_; rintro e w2 ⟨rfl, hb2⟩; replace hst := hst.step hb2)
                | (go_at_call 72; refine (ihm (c.q k) _ (q_ok hc hl8 hlt) (by show (8 - (c.l + 1)).toNat = m; omega) (hL.step hst.bel)).mono ?_; rw [hmv]; rintro e w3 ⟨rfl, hb3⟩; replace hst := hst.step hb3))
              go_ret
              refine ⟨ret_i64 ?_, hst.bel⟩
              have : (List.range 4).all (fun i => much L m (c.q i) == 2) = false := by
                rw [Bool.eq_false_iff]; intro h; have := List.all_eq_true.mp h k (by simp; omega); rw [hmv] at this; simp at this; exact h2 this
              simp only [much, hh, hsm, this]; rfl
          · obtain rfl : k = 4 := by omega
            go_wp2
            go_ret
            refine ⟨ret_i64 ?_, hst.bel⟩
            have : (List.range 4).all (fun i => much L m (c.q i) == 2) = true := List.all_eq_true.mpr fun i hi => by simp at hi; simp [hj i hi]
            simp only [much, hh, hsm, this]; rfl
end Go.Proofs.Ythmpemamagjeeaa
