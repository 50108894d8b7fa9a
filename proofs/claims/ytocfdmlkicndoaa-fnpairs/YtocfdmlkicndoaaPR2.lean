/-
  The draws of the law of pairs; lists of numbers alike.
-/
import Derived.Test.YtocfdmlkicndoaaN1
import Derived.Deep.QuietTactic
import Derived.BigQuiet
import Derived.Test.YtocfdmlkicndoaaD3
import Derived.Test.YtocfdmlkicndoaaSP5
import Derived.Test.YtocfdmlkicndoaaH1
namespace Go.Proofs.Ytocfdmlkicndoaa
open Go.RowKit Go.Joins

/-- A frame of N slots of which some are told. -/
structure Fr (N : Nat) (A : Act) (l : List (Nat × Value)) : Prop where
  size : A.tmps.size = N
  has : ∀ p ∈ l, A.tmps[p.1]? = some p.2
theorem Fr.get {N : Nat} {A : Act} {l : List (Nat × Value)} (h : Fr N A l) {d : Nat} {v : Value} (hm : (d, v) ∈ l) : A.tmps[d]? = some v := h.has _ hm
theorem Fr.put {N : Nat} {A : Act} {l : List (Nat × Value)} (h : Fr N A l) {d : Nat} {v : Value} (hd : d < N) (hne : ∀ p ∈ l, p.1 ≠ d) : Fr N (A.put (some d) v) ((d, v) :: l) := by
  refine ⟨by simp [Act.put, h.size], fun p hp => ?_⟩
  rcases List.mem_cons.mp hp with rfl | hp
  · show (A.tmps.setIfInBounds d v)[d]? = some v
    rw [Array.getElem?_setIfInBounds_self_of_lt (by rw [h.size]; exact hd)]
  · show (A.tmps.setIfInBounds d v)[p.1]? = some p.2
    rw [Array.getElem?_setIfInBounds_ne (Ne.symm (hne p hp))]
    exact h.has p hp
section
variable {N : Nat} {ops : Array Oper} {C : World → Prop} {Q : Act → Prop} {A : Act} {o : Oper} {rest : List Oper} {l : List (Nat × Value)} {d e j : Nat} {v : Value} {want b : Bool}
theorem q_step (hf : Fr N A l) (hw : o.guard = none) (hd : o.dst = some d) (hlt : d < N) (hne : ∀ p ∈ l, p.1 ≠ d)
    (hq : ∀ w, C w → o.quietAt Try.prog A C w v) (k : ∀ A', A' = A.put (some d) v → Fr N A' ((d, v) :: l) → wpQuiet Try.prog ops C Q rest A') : wpQuiet Try.prog ops C Q (o :: rest) A :=
  BigFrame.wpQuiet_want (by simp [Region.wanted, hw]) (fun K hK => ⟨v, hq, hK _ (by rw [hd]; exact k _ rfl (hf.put hlt hne))⟩)
theorem q_want (hf : Fr N A l) (hg : o.guard = some (j, want)) (hj : (ops[j]?).bind (·.dst) = some e) (hv : (e, .bool want) ∈ l) (hd : o.dst = some d) (hlt : d < N) (hne : ∀ p ∈ l, p.1 ≠ d)
    (hq : ∀ w, C w → o.quietAt Try.prog A C w v) (k : ∀ A', A' = A.put (some d) v → Fr N A' ((d, v) :: l) → wpQuiet Try.prog ops C Q rest A') : wpQuiet Try.prog ops C Q (o :: rest) A :=
  BigFrame.wpQuiet_want (by rw [Region.wanted, hg]; simp [yielded, hj, hf.get hv]) (fun K hK => ⟨v, hq, hK _ (by rw [hd]; exact k _ rfl (hf.put hlt hne))⟩)
theorem q_skip (hf : Fr N A l) (hg : o.guard = some (j, want)) (hj : (ops[j]?).bind (·.dst) = some e) (hv : (e, .bool b) ∈ l) (hb : (b == want) = false)
    (hd : o.dst = some d) (hlt : d < N) (hne : ∀ p ∈ l, p.1 ≠ d) (k : ∀ A', A' = A.put (some d) undef → Fr N A' ((d, undef) :: l) → wpQuiet Try.prog ops C Q rest A') : wpQuiet Try.prog ops C Q (o :: rest) A :=
  BigFrame.wpQuiet_skip (by rw [Region.wanted, hg]; simp [yielded, hj, hf.get hv]; simpa using hb) (by rw [hd]; exact k _ rfl (hf.put hlt hne))
end
theorem q_intro {ops : Array Oper} {C : World → Prop} {Q : Act → Prop} {os : List Oper} {A0 : Act} (h : ∀ A, A = A0 → wpQuiet Try.prog ops C Q os A) : wpQuiet Try.prog ops C Q os A0 := h _ rfl
end Go.Proofs.Ytocfdmlkicndoaa
namespace Go.Proofs.Ytocfdmlkicndoaa
open Go.RowKit Go.Joins
attribute [local go_sem ↓] Go.wp_at_zero Go.wp_at_succ

set_option maxRecDepth 100000 in
set_option maxHeartbeats 2000000 in
theorem drawNearest_any (a : Option Addr) (len cap : Nat) (zs : List Int) (w : World) (hl : len ≤ 4096) (hr : Rd w w.heap.size a len zs) :
    Calls Try.prog 9 #[.slice a len cap] w fun e w' => ∃ q cap' L, e = .returned (.slice (some ⟨q, 0, none⟩) L.length cap') ∧ Ow w' w.heap.size (.slice (some ⟨q, 0, none⟩) L.length cap') L ∧ Below w.heap.size w w' ∧ L.length ≤ 41 := by
  go_enter Try.func9, Try.ntmps9
  go_upto_region 2 with (go_at_call 29; refine (new_any a len cap zs _ hl hr).mono ?_; rintro e w1 ⟨h, rfl, rfl⟩)
  have hcur := Cur.fresh (cap := cap) (h := h) hl hr
  have hb1 := below_alloc1 w (.cells #[.slice a len cap, .int .i64 0, .int .i64 h] 76)
  have hg : w.heap.size < (w.alloc (.cells #[.slice a len cap, .int .i64 0, .int .i64 h] 76)).heap.size := by simp
  generalize w.alloc _ = W1 at hcur hb1 hg ⊢
  have hrd := hcur.rd
  go_wp2_with (go_at_call 30; refine (l5Draw_any _ _ _ _ _ _ hcur hrd).mono ?_; rintro e w2 ⟨q, cap', L, rfl, hD, hLl⟩)
  go_ret
  exact ⟨q, cap', L, rfl, Ow.mono hD.own (Nat.le_of_lt hg), hb1.trans (hD.turn.below (Nat.le_refl _) (Nat.le_of_lt hg)), hLl⟩

set_option maxRecDepth 100000 in
set_option maxHeartbeats 2000000 in
theorem drawClose_any (a : Option Addr) (len cap : Nat) (zs : List Int) (w : World) (hl : len ≤ 4096) (hr : Rd w w.heap.size a len zs) :
    Calls Try.prog 13 #[.slice a len cap] w fun e w' => ∃ q cap' L x, e = .returned (.tuple #[.slice (some ⟨q, 0, none⟩) L.length cap', .int .i64 x]) ∧ Ow w' w.heap.size (.slice (some ⟨q, 0, none⟩) L.length cap') L ∧ Below w.heap.size w w' ∧ L.length ≤ 41 := by
  go_enter Try.func13, Try.ntmps13
  go_upto_region 2 with (go_at_call 29; refine (new_any a len cap zs _ hl hr).mono ?_; rintro e w1 ⟨h, rfl, rfl⟩)
  have hcur := Cur.fresh (cap := cap) (h := h) hl hr
  have hb1 := below_alloc1 w (.cells #[.slice a len cap, .int .i64 0, .int .i64 h] 76)
  have hg : w.heap.size < (w.alloc (.cells #[.slice a len cap, .int .i64 0, .int .i64 h] 76)).heap.size := by simp
  generalize w.alloc _ = W1 at hcur hb1 hg ⊢
  have hrd := hcur.rd
  go_wp2_with (first
    | (go_at_call 30; refine (l5Draw_any _ _ _ _ _ _ hcur hrd).mono ?_; rintro e w2 ⟨q, cap', L, rfl, hD, hLl⟩)
    | (go_at_call 36; refine (from_any _ _ _ _ _ _ hD.cur).mono ?_; rintro e w3 ⟨x, rfl, ht3, hc3⟩; replace hD := hD.call hg ht3 hc3; clear ht3 hc3))
  refine bodyPost_ret (v := .tuple #[.slice (some ⟨q, 0, none⟩) L.length cap', .int .i64 x]) (by simp [results, Try.results13, go_sem]) rfl ?_
  exact ⟨q, cap', L, x, rfl, Ow.mono hD.own (Nat.le_of_lt hg), hb1.trans (hD.turn.below (Nat.le_refl _) (Nat.le_of_lt hg)), hLl⟩

set_option maxHeartbeats 1000000 in
theorem likeInts_same (p q : Option Addr) (cap cap' : Nat) (L : List Int) (w : World) (hp : Sl1 w p L) (hq : Sl1 w q L) (_hn : L.length ≤ 10000000) :
    Calls Try.prog 17 #[.slice p L.length cap, .slice q L.length cap'] w fun e w' => e = .returned (.bool true) ∧ Below w.heap.size w w' := by
  go_enter Try.func17, Try.ntmps17
  go_wp2
  go_loopw [5] (fun i wr => ∃ k : Nat, k ≤ L.length ∧ i = .int .i64 k ∧ Below w.heap.size w wr) (fun i _ => L.length - (intOf i).toNat)
  case atStart => exact ⟨0, by omega, rfl, Below.refl _ _⟩
  case round =>
    obtain ⟨k, hk, rfl, hb⟩ := hrel
    by_cases hlt : k < L.length
    · have hki : (k : Int) < L.length := by omega
      obtain ⟨g, off, rfl, hC⟩ := (hp.step hb).at hlt
      obtain ⟨g2, off2, rfl, hC2⟩ := (hq.step hb).at hlt
      have c0 := hC.2 k L[k] (List.getElem?_eq_getElem hlt)
      have d0 := hC2.2 k L[k] (List.getElem?_eq_getElem hlt)
      go_wp2
      go_region_with fail
      all_goals
        go_wp2
        go_roundw
        case rel => exact ⟨k + 1, by omega, by go_num, hb.drew⟩
        case measure => simp [intOf]; omega
    · obtain rfl : k = L.length := by omega
      go_wp2
      go_ret
      exact ⟨rfl, hb⟩
theorem iHull_v {L M : List T2} (hM : hulT L = M) (p : Option Addr) (cap : Nat) (hn : L.length ≤ 1048576) (w : World) (hL : Sl w p L) :
    Calls Try.prog 21 #[.slice p L.length cap] w fun e w' => ∃ q cap', e = .returned (.slice q M.length cap') ∧ Ow w' w.heap.size (.slice q M.length cap') M ∧ Below w.heap.size w w' := by
  subst hM
  exact iHull_any p cap L hn w hL
end Go.Proofs.Ytocfdmlkicndoaa
