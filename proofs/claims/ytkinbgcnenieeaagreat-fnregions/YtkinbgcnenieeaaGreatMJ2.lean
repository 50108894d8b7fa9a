/-
  The spec's Joined: the list that its recursion makes.
-/
import Derived.Test.YtkinbgcnenieeaaGreatMM3
import Derived.Test.YtkinbgcnenieeaaGreatML6
import Derived.Deep.Cut
import Derived.Deep.CutBlock
namespace Go.Proofs.YtkinbgcnenieeaaGreat.M
open Go.RowKit Go.Joins
attribute [local go_sem ↓] Go.wp_at_zero Go.wp_at_succ

def anyOf (L : List T3) (c : T3) : Bool := L.any fun a => insT a c
def much (L : List T3) : Nat → T3 → Int
  | 0, c => if haveB L c then 2 else 0
  | n + 1, c => if haveB L c then 2 else if anyOf L c then (if (List.range 4).all (fun i => much L n (c.q i) == 2) then 2 else 1) else 0
theorem much_le (L : List T3) : ∀ n c, 0 ≤ much L n c ∧ much L n c ≤ 2
  | 0, c => by simp only [much]; split <;> simp
  | n + 1, c => by simp only [much]; split <;> (try split) <;> (try split) <;> simp
theorem l2In_v {a b : T3} {v : Bool} (ha : a.ok = true) (hb : b.ok = true) (hv : insT a b = v) (w : World) :
    Calls Tryz.prog 65 #[.agg #[.int .i64 a.l, .int .i64 a.x, .int .i64 a.y], .agg #[.int .i64 b.l, .int .i64 b.x, .int .i64 b.y]] w fun e w' => e = .returned (.bool v) ∧ Below w.heap.size w w' := by
  have h1 : cellB a.l a.x a.y = true := ha
  have h2 : cellB b.l b.x b.y = true := hb
  unfold insT at hv
  rw [insB_eq, h1, h2, Bool.true_and, Bool.true_and] at hv
  exact lInside_v (cell_lev h1) (cell_lev h2) hv w

def MuP (L : List T3) (p : Option Addr) (cap n : Nat) : Prop := ∀ (c : T3) (w : World), c.ok = true → (8 - c.l).toNat = n → Sl w p L →
    Calls Tryz.prog 48 #[.slice p L.length cap, .agg #[.int .i64 c.l, .int .i64 c.x, .int .i64 c.y]] w fun e w' => e = .returned (.int .i64 (much L n c)) ∧ Below w.heap.size w w'
theorem have_of8 {L : List T3} (hok : ∀ a ∈ L, a.ok = true) {c : T3} (hc : c.ok = true) (h8 : c.l = 8) (h : anyOf L c = true) : haveB L c = true := by
  obtain ⟨a, ha, hi⟩ := List.any_eq_true.mp h
  obtain ⟨u, v⟩ := (ins_iff (hok a ha) hc).mp hi
  have hs : c.sz = 1 := by unfold T3.sz; rw [h8]; rfl
  have := a.sz_pos
  refine List.any_eq_true.mpr ⟨a, ha, (ins_iff hc (hok a ha)).mpr ?_⟩
  unfold T3.hi at *
  omega

set_option maxRecDepth 100000 in
set_option maxHeartbeats 4000000 in
theorem l3Much_step {L : List T3} (hok : ∀ a ∈ L, a.ok = true) (hn : L.length ≤ 1048576) (p : Option Addr) (cap n : Nat) (ih : ∀ m, n = m + 1 → MuP L p cap m) : MuP L p cap n := by
  intro c w hc hnl hL
  have hs0 := (St.nil w).push [.int .i64 c.l, .int .i64 c.x, .int .i64 c.y] 55
  go_enter Tryz.func48, Tryz.ntmps48
  go_wp2
  go_loopw [5, 6] (fun sv i wr => ∃ k : Nat, k ≤ L.length ∧ i = .int .i64 k ∧ sv = .bool (anyOf (L.take k) c) ∧ (L.take k).any (insT c) = false ∧ St w wr [(w.heap.size, [.int .i64 c.l, .int .i64 c.x, .int .i64 c.y])]) (fun _ i _ => L.length - (intOf i).toNat)
  case atStart => exact ⟨0, by omega, rfl, rfl, rfl, hs0⟩
  case round =>
    obtain ⟨k, hk, rfl, rfl, hall, hst⟩ := hrel
    by_cases hlt : k < L.length
    · have hki : (k : Int) < L.length := by omega
      obtain ⟨g, off, rfl, hC⟩ := hL.at hlt
      have hS : ∀ w', St w w' [(w.heap.size, [.int .i64 c.l, .int .i64 c.x, .int .i64 c.y])] → ((w'.cell? ⟨g, off + k * 3, none⟩ = some (.int .i64 L[k].l) ∧ w'.cell? ⟨g, off + k * 3 + 1, none⟩ = some (.int .i64 L[k].x) ∧ w'.cell? ⟨g, off + k * 3 + 2, none⟩ = some (.int .i64 L[k].y)) ∧ w'.cell? ⟨w.heap.size, 0, none⟩ = some (.int .i64 c.l) ∧ w'.cell? ⟨w.heap.size, 1, none⟩ = some (.int .i64 c.x) ∧ w'.cell? ⟨w.heap.size, 2, none⟩ = some (.int .i64 c.y)) :=
        fun w' h => ⟨(hC.step h.bel).2 k L[k] (List.getElem?_eq_getElem hlt), h.has.1.2.2.1, h.has.1.2.2.2.1, h.has.1.2.2.2.2.1⟩
      have hcc := hS _ hst
      have hcell := hok _ (List.getElem_mem hlt)
      cases hv : insT c L[k]
      · cases hsm : anyOf (L.take k) c
        · generalize hv2 : insT L[k] c = v2
          go_wp2
          go_region_held3 (fun w' => St w w' [(w.heap.size, [.int .i64 c.l, .int .i64 c.x, .int .i64 c.y])] ∧ ((w'.cell? ⟨g, off + k * 3, none⟩ = some (.int .i64 L[k].l) ∧ w'.cell? ⟨g, off + k * 3 + 1, none⟩ = some (.int .i64 L[k].x) ∧ w'.cell? ⟨g, off + k * 3 + 2, none⟩ = some (.int .i64 L[k].y)) ∧ w'.cell? ⟨w.heap.size, 0, none⟩ = some (.int .i64 c.l) ∧ w'.cell? ⟨w.heap.size, 1, none⟩ = some (.int .i64 c.x) ∧ w'.cell? ⟨w.heap.size, 2, none⟩ = some (.int .i64 c.y))) (first | exact ‹St _ _ _ ∧ _› | exact keepS hS ((‹St _ _ _ ∧ _›).1.step hb2) | exact keepS hS hst.dr | fail)
            (first | (go_at_call 65; refine (l2In_v hc hcell hv _).mono ?_; rintro e w1 ⟨rfl, hb2⟩))
          clear hst hcc
          obtain ⟨hst, hcc⟩ := ‹St _ _ _ ∧ _›
          go_wp2
          go_region_held3 (fun w' => St w w' [(w.heap.size, [.int .i64 c.l, .int .i64 c.x, .int .i64 c.y])] ∧ ((w'.cell? ⟨g, off + k * 3, none⟩ = some (.int .i64 L[k].l) ∧ w'.cell? ⟨g, off + k * 3 + 1, none⟩ = some (.int .i64 L[k].x) ∧ w'.cell? ⟨g, off + k * 3 + 2, none⟩ = some (.int .i64 L[k].y)) ∧ w'.cell? ⟨w.heap.size, 0, none⟩ = some (.int .i64 c.l) ∧ w'.cell? ⟨w.heap.size, 1, none⟩ = some (.int .i64 c.x) ∧ w'.cell? ⟨w.heap.size, 2, none⟩ = some (.int .i64 c.y))) (first | exact ‹St _ _ _ ∧ _› | exact keepS hS ((‹St _ _ _ ∧ _›).1.step hb2) | exact keepS hS hst.dr | fail)
            (first | (go_at_call 65; refine (l2In_v hcell hc hv2 _).mono ?_; rintro e w1 ⟨rfl, hb2⟩))
          clear hst hcc
          obtain ⟨hst, hcc⟩ := ‹St _ _ _ ∧ _›
          go_wp2
          go_roundw
          case rel => exact ⟨k + 1, by omega, by go_num, by rw [anyOf, any_take hlt]; unfold anyOf at hsm; rw [hsm, hv2, Bool.false_or], by rw [any_take hlt, hall, hv]; rfl, hst⟩
          case measure => simp [intOf]; omega
        · go_wp2
          go_region_held3 (fun w' => St w w' [(w.heap.size, [.int .i64 c.l, .int .i64 c.x, .int .i64 c.y])] ∧ ((w'.cell? ⟨g, off + k * 3, none⟩ = some (.int .i64 L[k].l) ∧ w'.cell? ⟨g, off + k * 3 + 1, none⟩ = some (.int .i64 L[k].x) ∧ w'.cell? ⟨g, off + k * 3 + 2, none⟩ = some (.int .i64 L[k].y)) ∧ w'.cell? ⟨w.heap.size, 0, none⟩ = some (.int .i64 c.l) ∧ w'.cell? ⟨w.heap.size, 1, none⟩ = some (.int .i64 c.x) ∧ w'.cell? ⟨w.heap.size, 2, none⟩ = some (.int .i64 c.y))) (first | exact ‹St _ _ _ ∧ _› | exact keepS hS ((‹St _ _ _ ∧ _›).1.step hb2) | exact keepS hS hst.dr | fail)
            (first | (go_at_call 65; refine (l2In_v hc hcell hv _).mono ?_; rintro e w1 ⟨rfl, hb2⟩))
          clear hst hcc
          obtain ⟨hst, hcc⟩ := ‹St _ _ _ ∧ _›
          go_wp2
          go_quiet (fail)
          go_wp2
          go_roundw
          case rel => exact ⟨k + 1, by omega, by go_num, by rw [anyOf, any_take hlt]; unfold anyOf at hsm; rw [hsm]; rfl, by rw [any_take hlt, hall, hv]; rfl, ⟨bdrewN hst.bel _, hst.has⟩⟩
          case measure => simp [intOf]; omega
      · go_wp2
        go_region_held3 (fun w' => St w w' [(w.heap.size, [.int .i64 c.l, .int .i64 c.x, .int .i64 c.y])] ∧ ((w'.cell? ⟨g, off + k * 3, none⟩ = some (.int .i64 L[k].l) ∧ w'.cell? ⟨g, off + k * 3 + 1, none⟩ = some (.int .i64 L[k].x) ∧ w'.cell? ⟨g, off + k * 3 + 2, none⟩ = some (.int .i64 L[k].y)) ∧ w'.cell? ⟨w.heap.size, 0, none⟩ = some (.int .i64 c.l) ∧ w'.cell? ⟨w.heap.size, 1, none⟩ = some (.int .i64 c.x) ∧ w'.cell? ⟨w.heap.size, 2, none⟩ = some (.int .i64 c.y))) (first | exact ‹St _ _ _ ∧ _› | exact keepS hS ((‹St _ _ _ ∧ _›).1.step hb2) | exact keepS hS hst.dr | fail)
          (first | (go_at_call 65; refine (l2In_v hc hcell hv _).mono ?_; rintro e w1 ⟨rfl, hb2⟩))
        clear hst hcc
        obtain ⟨hst, hcc⟩ := ‹St _ _ _ ∧ _›
        go_wp2
        go_ret
        have hh : haveB L c = true := any_yes hlt hv
        exact ⟨ret_i64 (by cases n <;> simp [much, hh]), hst.bel⟩
    · obtain rfl : k = L.length := by omega
      rw [List.take_length] at hall ⊢
      have hh : haveB L c = false := hall
      cases hsm : anyOf L c
      · go_wp2
        go_ret
        exact ⟨ret_i64 (by cases n <;> simp [much, hh, hsm]), hst.bel⟩
      · have hl8 : c.l < 8 := by
          rcases Int.lt_or_le c.l 8 with h | h
          · exact h
          · have := have_of8 hok hc (by have := (ok_iff.mp hc).2.1; omega) hsm; rw [hh] at this; cases this
        obtain ⟨m, rfl⟩ : ∃ m, n = m + 1 := ⟨n - 1, by omega⟩
        have ihm := ih m rfl
        go_wp2
        go_loopw [7] (fun i wr => ∃ k : Nat, k ≤ 4 ∧ i = .int .i64 k ∧ (∀ j, j < k → much L m (c.q j) = 2) ∧ St w wr [(w.heap.size, [.int .i64 c.l, .int .i64 c.x, .int .i64 c.y])]) (fun i _ => 4 - (intOf i).toNat)
        case atStart => exact ⟨0, by omega, rfl, by omega, hst⟩
        case round =>
          obtain ⟨k, hk4, rfl, hj, hst⟩ := hrel
          have hk1 := hst.has
          simp [Has, HasAt] at hk1
          by_cases hlt : k < 4
          · have hnum : (k : Int) < 4 := by omega
            by_cases h2 : much L m (c.q k) = 2
            · generalize hmv : much L m (c.q k) = mv at h2
              subst h2
              go_wp2_with (first
                | (go_at_call 49; refine (l2Quarter_any hc hlt _).mono ?_; rintro e w2 ⟨rfl, hb2⟩; replace hst := hst.step hb2)
                | (go_at_call 48; refine (ihm (c.q k) _ (q_ok hc hl8 hlt) (by show (8 - (c.l + 1)).toNat = m; omega) (hL.step hst.bel)).mono ?_; rw [hmv]; rintro e w3 ⟨rfl, hb3⟩; replace hst := hst.step hb3))
              go_roundw
              case rel => exact ⟨k + 1, by omega, by go_num, fun j hj' => by by_cases e : j = k; (subst e; exact hmv); exact hj j (by omega), hst⟩
              case measure => simp [intOf]; omega
            · have hm2 : much L m (c.q k) < 2 := by have := (much_le L m (c.q k)).2; omega
              generalize hmv : much L m (c.q k) = mv at h2 hm2
              go_wp2_with (first
                | (go_at_call 49; refine (l2Quarter_any hc hlt _).mono ?_; rintro e w2 ⟨rfl, hb2⟩; replace hst := hst.step hb2)
                | (go_at_call 48; refine (ihm (c.q k) _ (q_ok hc hl8 hlt) (by show (8 - (c.l + 1)).toNat = m; omega) (hL.step hst.bel)).mono ?_; rw [hmv]; rintro e w3 ⟨rfl, hb3⟩; replace hst := hst.step hb3))
              go_ret
              refine ⟨ret_i64 ?_, hst.bel⟩
              have : (List.range 4).all (fun i => much L m (c.q i) == 2) = false := by
                rw [Bool.eq_false_iff]; intro h; have := List.all_eq_true.mp h k (by simp; omega); rw [hmv] at this; simp at this; exact h2 this
              simp only [much, hh, hsm, this]; rfl
          · obtain rfl : k = 4 := by omega
            go_wp2
            go_ret
            refine ⟨ret_i64 ?_, hst.bel⟩
            have : (List.range 4).all (fun i => much L m (c.q i) == 2) = true := List.all_eq_true.mpr fun i hi => by simp at hi; simp [hj i hi]
            simp only [much, hh, hsm, this]; rfl
end Go.Proofs.YtkinbgcnenieeaaGreat.M
namespace Go.Proofs.YtkinbgcnenieeaaGreat.M
open Go.RowKit Go.Joins
attribute [local go_sem ↓] Go.wp_at_zero Go.wp_at_succ

def cvB (x y a b : Int) (c : T3) : Bool := mB (rX c.l c.x c.y) (rY c.l c.x c.y) (rS c.l c.x c.y) (rS c.l c.x c.y) x y a b
def cvAllB (x y a b : Int) (c : T3) : Bool := decide (max (rX c.l c.x c.y) x = rX c.l c.x c.y ∧ max (rY c.l c.x c.y) y = rY c.l c.x c.y ∧ mW (rX c.l c.x c.y) (rS c.l c.x c.y) x a = rS c.l c.x c.y ∧ mW (rY c.l c.x c.y) (rS c.l c.x c.y) y b = rS c.l c.x c.y)
def cvAll (x y a b : Int) (c : T3) : Prop := cvAllB x y a b c = true
theorem cvAll_iff {x y a b : Int} {c : T3} : cvAll x y a b c ↔ max (rX c.l c.x c.y) x = rX c.l c.x c.y ∧ max (rY c.l c.x c.y) y = rY c.l c.x c.y ∧ mW (rX c.l c.x c.y) (rS c.l c.x c.y) x a = rS c.l c.x c.y ∧ mW (rY c.l c.x c.y) (rS c.l c.x c.y) y b = rS c.l c.x c.y := decide_eq_true_iff
def cvF (x y a b : Int) (c : T3) : Int := if cvB x y a b c then (if cvAllB x y a b c then 2 else 1) else 0
theorem cv8 {x y a b : Int} {c : T3} (hc : c.ok = true) (h8 : c.l = 8) (hb : cvB x y a b c = true) : cvAll x y a b c := by
  have h' : cellB c.l c.x c.y = true := hc
  unfold cvB mB at hb
  have hb := of_decide_eq_true hb
  rw [cvAll_iff]
  simp only [mW, rX, rY, rS, h', if_true] at hb ⊢
  have hs : sd c.l = 1 := by rw [h8]; decide
  rw [hs] at hb ⊢
  omega

theorem cell_three_at {w : World} {g : Nat} {a b c : Value} {t : TypeId} (hg : g = w.heap.size) : ∀ j u, [a, b, c][j]? = some u → (w.alloc (.cells #[a, b, c] t)).cell? ((⟨g, 0, none⟩ : Addr).add j) = some u := by
  subst hg; exact cell_three_new w a b c t

def coverL (x y a b : Int) : List T3 := if okB x y a b then dec (cvF x y a b) 8 zro else []
theorem own_empty (w : World) (base : Nat) (hb : base ≤ w.heap.size) : Ow (w.alloc (.cells #[] 55)) base (.slice (some ⟨w.heap.size, 0, none⟩) 0 0) [] :=
  ⟨rfl, .inr ⟨w.heap.size, 0, #[], rfl, hb, World.alloc_heap_new _ _, Nat.le_refl _, Nat.zero_le _, rfl, rfl⟩⟩
theorem own_empty_at {w : World} {base g : Nat} (hg : g = w.heap.size) (hb : base ≤ w.heap.size) : Ow (w.alloc (.cells #[] 55)) base (.slice (some ⟨g, 0, none⟩) 0 0) [] := by subst hg; exact own_empty w base hb

end Go.Proofs.YtkinbgcnenieeaaGreat.M
namespace Go.Proofs.YtkinbgcnenieeaaGreat.M
open Go.RowKit Go.Joins
attribute [local go_sem ↓] Go.wp_at_zero Go.wp_at_succ

theorem l3Much_any {L : List T3} (hok : ∀ a ∈ L, a.ok = true) (hn : L.length ≤ 1048576) (p : Option Addr) (cap : Nat) : ∀ n, MuP L p cap n := by
  intro n
  induction n with
  | zero => exact l3Much_step hok hn p cap 0 (fun m h => by omega)
  | succ n ih => exact l3Much_step hok hn p cap (n + 1) (fun m h => by obtain rfl : n = m := by omega
                                                                       exact ih)
def muF (L : List T3) (c : T3) : Int := much L (8 - c.l).toNat c
theorem no_cov {L : List T3} (hok : ∀ a ∈ L, a.ok = true) {c : T3} (hc : c.ok = true) (h1 : haveB L c = false) (h2 : anyOf L c = false) : ∀ k, mem k c → ¬ cov L k := by
  rintro k ⟨k1, k2⟩ ⟨a, ha, a1, a2⟩
  rcases lam hc (hok a ha) with h | h | h | h
  · omega
  · omega
  · have : haveB L c = true := List.any_eq_true.mpr ⟨a, ha, h⟩
    rw [h1] at this; cases this
  · have : anyOf L c = true := List.any_eq_true.mpr ⟨a, ha, h⟩
    rw [h2] at this; cases this
theorem much_two {L : List T3} (hok : ∀ a ∈ L, a.ok = true) : ∀ (n : Nat) (c : T3), c.ok = true → (8 - c.l).toNat = n → (much L n c = 2 ↔ full (cov L) c) ∧ (much L n c = 0 → ∀ k, mem k c → ¬ cov L k) := by
  intro n
  induction n with
  | zero =>
    intro c hc hn
    have h8 : c.l = 8 := by have := (ok_iff.mp hc).2.1; omega
    cases hh : haveB L c
    · have h2 : anyOf L c = false := by
        rw [Bool.eq_false_iff]; intro h; have := have_of8 hok hc h8 h; rw [hh] at this; cases this
      have hno := no_cov hok hc hh h2
      simp only [much, hh]
      exact ⟨⟨fun h => by simp at h, fun h => (hno c.lo ⟨Int.le_refl _, c.lt⟩ (h c.lo ⟨Int.le_refl _, c.lt⟩)).elim⟩, fun _ => hno⟩
    · simp only [much, hh]
      exact ⟨⟨fun _ => have_full hok hc hh, fun _ => rfl⟩, fun h => by simp at h⟩
  | succ n ih =>
    intro c hc hn
    have hl : c.l < 8 := by omega
    cases hh : haveB L c
    · cases h2 : anyOf L c
      · have hno := no_cov hok hc hh h2
        simp only [much, hh, h2]
        exact ⟨⟨fun h => by simp at h, fun h => (hno c.lo ⟨Int.le_refl _, c.lt⟩ (h c.lo ⟨Int.le_refl _, c.lt⟩)).elim⟩, fun _ => hno⟩
      · have hq : ∀ i, i < 4 → (much L n (c.q i) = 2 ↔ full (cov L) (c.q i)) := fun i hi => (ih (c.q i) (q_ok hc hl hi) (by show (8 - (c.l + 1)).toNat = n; omega)).1
        simp only [much, hh, h2]
        cases hall : (List.range 4).all (fun i => much L n (c.q i) == 2)
        · refine ⟨⟨fun h => by simp at h, fun h => ?_⟩, fun h => by simp at h⟩
          have : (List.range 4).all (fun i => much L n (c.q i) == 2) = true := List.all_eq_true.mpr fun i hi => by
            simp at hi; simp [(hq i hi).mpr (full_q hc hl hi h)]
          rw [hall] at this; cases this
        · refine ⟨⟨fun _ => full_of_q hc hl fun i hi => (hq i hi).mp (by have := List.all_eq_true.mp hall i (by simp; omega); simpa using this), fun _ => rfl⟩, fun h => by simp at h⟩
    · simp only [much, hh]
      exact ⟨⟨fun _ => have_full hok hc hh, fun _ => rfl⟩, fun h => by simp at h⟩
theorem muF_tells {L : List T3} (hok : ∀ a ∈ L, a.ok = true) : Tells (muF L) (cov L) := by
  refine ⟨fun c hc => (much_two hok _ c hc rfl).1, fun c hc => (much_two hok _ c hc rfl).2, fun c hc h8 => ?_⟩
  unfold muF
  rw [show (8 - c.l).toNat = 0 by omega]
  simp only [much]
  cases haveB L c <;> simp
theorem muF_at {L : List T3} {c : T3} {n : Nat} (h : (8 - c.l).toNat = n) : much L n c = muF L c := by subst h; rfl

/-- A list that lies below base. -/
def Slb (base : Nat) (w : World) (p : Option Addr) (L : List T3) : Prop := L = [] ∨ ∃ g off, p = some ⟨g, off, none⟩ ∧ g < base ∧ Cs w g off L
theorem Slb.sl {base : Nat} {w : World} {p : Option Addr} {L : List T3} (h : Slb base w p L) : Sl w p L := by
  rcases h with h | ⟨g, off, h1, _, h2⟩
  · exact .inl h
  · exact .inr ⟨g, off, h1, h2⟩
theorem Slb.step {base : Nat} {w w' : World} {p : Option Addr} {L : List T3} (h : Slb base w p L) (hb : Below w.heap.size w w') : Slb base w' p L := by
  rcases h with h | ⟨g, off, h1, h2, h3⟩
  · exact .inl h
  · exact .inr ⟨g, off, h1, h2, h3.step hb⟩
theorem Cs.grown {w w' : World} {g off : Nat} {L : List T3} {row : Option Nat} (h : Cs w g off L) (hg : w.grownBy w' row) (hne : row ≠ some g) : Cs w' g off L := by
  have hp : w'.heap[g]? = w.heap[g]? := hg.block g h.1 (fun e => hne e.symm)
  exact ⟨Nat.lt_of_lt_of_le h.1 hg.size, fun k c hk => ⟨(World.cell?_of_block (a := ⟨g, _, none⟩) hp).trans (h.2 k c hk).1, (World.cell?_of_block (a := ⟨g, _, none⟩) hp).trans (h.2 k c hk).2.1, (World.cell?_of_block (a := ⟨g, _, none⟩) hp).trans (h.2 k c hk).2.2⟩⟩
theorem Slb.grown {base : Nat} {w w' : World} {p : Option Addr} {L : List T3} {row : Option Nat} (h : Slb base w p L) (hg : w.grownBy w' row) (hr : ∀ r, row = some r → base ≤ r) : Slb base w' p L := by
  rcases h with h | ⟨g, off, h1, h2, h3⟩
  · exact .inl h
  · exact .inr ⟨g, off, h1, h2, h3.grown hg (fun e => by have := hr g e; omega)⟩
theorem Sl.slb {w : World} {p : Option Addr} {L : List T3} (h : Sl w p L) {base : Nat} (hb : w.heap.size ≤ base) : Slb base w p L := by
  rcases h with h | ⟨g, off, h1, h2⟩
  · exact .inl h
  · exact .inr ⟨g, off, h1, Nat.lt_of_lt_of_le h2.1 hb, h2⟩

theorem much_v {L : List T3} {p : Option Addr} {cap n : Nat} {c : T3} {v : Int} (h : MuP L p cap n) (hc : c.ok = true) (hn : (8 - c.l).toNat = n) (hv : muF L c = v) (w : World) (hL : Sl w p L) :
    Calls Tryz.prog 48 #[.slice p L.length cap, .agg #[.int .i64 c.l, .int .i64 c.x, .int .i64 c.y]] w fun e w' => e = .returned (.int .i64 v) ∧ Below w.heap.size w w' := by
  subst hv; rw [← muF_at hn]; exact h c w hc hn hL

def joinL (L : List T3) : List T3 := if okL L then dec (muF L) 8 zro else []

end Go.Proofs.YtkinbgcnenieeaaGreat.M
