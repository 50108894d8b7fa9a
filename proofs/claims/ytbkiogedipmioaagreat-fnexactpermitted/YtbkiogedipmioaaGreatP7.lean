/-
  Papers: lists of Clauses and Papers are right, the program's and the spec's looks; the texts of all Clauses.
-/
import Derived.Test.YtbkiogedipmioaaGreatP2
import Derived.Deep.RegionHeld3
import Derived.Deep.CutRange
import Derived.BigRegion
import Derived.Lib.Hide
namespace Go.Proofs.YtbkiogedipmioaaGreat
open Go.RowKit Go.Joins M
attribute [local go_sem] Oper.semAt_some

theorem Sg.three {α : Type} {K : Kd α} {w W : World} {rs : List Rw} {g n : Nat} {p : α} {a b c : Value} (h : Sg w W rs) (hm : rG K (.slice (some ⟨g, 0, none⟩) 1 n) [p] ∈ rs) (hv : K.vs p = [a, b, c]) :
    W.cell? ⟨g, 0, none⟩ = some a ∧ W.cell? ⟨g, 1, none⟩ = some b ∧ W.cell? ⟨g, 2, none⟩ = some c ∧ (∀ j, W.frozen? ⟨g, j, none⟩ = false) ∧ g < W.heap.size := by
  have ho := h.mem hm
  have h0 := (OwG.cs ho).at (k := 0) (a := p) rfl (i := 0) (u := a) (by rw [hv]; rfl)
  have h1 := (OwG.cs ho).at (k := 0) (a := p) rfl (i := 1) (u := b) (by rw [hv]; rfl)
  have h2 := (OwG.cs ho).at (k := 0) (a := p) rfl (i := 2) (u := c) (by rw [hv]; rfl)
  simp only [Nat.zero_mul, Nat.zero_add] at h0 h1 h2
  exact ⟨h0, h1, h2, OwG.fz ho, (OwG.cs ho).1⟩
theorem keepG {A B : World → Prop} (h : Hid (∀ w', A w' → B w')) {w' : World} (ha : A w') : A w' ∧ B w' := ⟨ha, h.out w' ha⟩
abbrev CQ := Cl × Sv × Sv
def zcl : Cl := ⟨[], [], 0⟩
def zsv : Sv := ⟨none, 0, 0⟩
def zq : CQ := (zcl, zsv, zsv)
theorem getQ {L : List CQ} {k : Nat} (hk : k < L.length) : L[k]? = some (L.getD k zq) := by simp [List.getD, hk]
/-- A list of Clauses as one reads it. -/
def RdS (W : World) (p : Option Addr) (QL : List CQ) : Prop := SlG kQ W p QL ∧ ∀ q ∈ QL, RdQ W q.1 q.2.1 q.2.2
theorem RdS.step {w w' : World} {p : Option Addr} {QL : List CQ} (h : RdS w p QL) (hb : Below w.heap.size w w') : RdS w' p QL := ⟨h.1.step hb, fun q hq => (h.2 q hq).step hb⟩
def cls (QL : List CQ) : List Cl := QL.map Prod.fst
theorem cls_take (QL : List CQ) (k : Nat) : cls (QL.take k) = (cls QL).take k := by unfold cls; rw [List.map_take]
theorem cls_len (QL : List CQ) : (cls QL).length = QL.length := by unfold cls; simp
theorem cls_get {QL : List CQ} {k : Nat} (hk : k < QL.length) : (cls QL)[k]? = some (QL.getD k zq).1 := by unfold cls; rw [List.getElem?_map, getQ hk]; rfl
theorem all_takeC {QL : List CQ} {k : Nat} (hk : k < QL.length) : ((cls QL).take (k + 1)).all clB = (((cls QL).take k).all clB && clB (QL.getD k zq).1) := by
  rw [List.take_add_one, cls_get hk, List.all_append]; simp
theorem all_noC {QL : List CQ} {k : Nat} (hk : k < QL.length) (h : clB (QL.getD k zq).1 = false) : (cls QL).all clB = false := by
  rw [Bool.eq_false_iff]; intro h2; rw [List.all_eq_true] at h2; have := h2 _ (List.mem_of_getElem? (cls_get hk)); rw [h] at this; cases this
theorem Sg.nilRow {α : Type} (K : Kd α) {w W : World} {rs : List Rw} (h : Sg w W rs) : Sg w W (rG K (.slice none 0 0) [] :: rs) :=
  ⟨h.bel, fun r hr => by
    rcases List.mem_cons.mp hr with rfl | hr
    · exact World.ownsRow_nil ..
    · exact h.own r hr, .cons (fun q _ => .inl rfl) h.dis⟩
theorem clsB_n {L : List Cl} {n : Nat} (hn : L.length = n) : clsB L = (decide (1 ≤ n ∧ n ≤ 6) && L.all clB) := by unfold clsB; rw [hn]

set_option maxHeartbeats 1000000 in
theorem iClauses_any (p : Option Addr) (cap n : Nat) (QL : List CQ) (hn : QL.length = n) (hb0 : n ≤ 10000000) (w : World) (hR : RdS w p QL) :
    Calls Tryz.prog 76 #[.slice p n cap] w fun e w' => e = .returned (.bool (clsB (cls QL))) ∧ Below w.heap.size w w' := by
  have HN : Hid (QL.length = n ∧ RdS w p QL) := ⟨hn, hR⟩
  have HE : Hid (clsB (cls QL) = (decide (1 ≤ n ∧ n ≤ 6) && (cls QL).all clB)) := clsB_n (by rw [cls_len, hn])
  clear hn hR
  by_cases h1 : n < 1
  · have h1' : (n : Int) < 1 := by omega
    go_enter Tryz.func76, Tryz.ntmps76
    go_wp2
    go_ret
    exact ⟨ret_bool (by rw [HE.out, decide_eq_false (by omega)]; rfl), Below.refl _ _⟩
  have h1' : ¬ (n : Int) < 1 := by omega
  by_cases h6 : 6 < n
  · have h6' : (6 : Int) < n := by omega
    go_enter Tryz.func76, Tryz.ntmps76
    go_wp2
    go_ret
    exact ⟨ret_bool (by rw [HE.out, decide_eq_false (by omega)]; rfl), Below.refl _ _⟩
  have h6' : ¬ (6 : Int) < n := by omega
  go_enter Tryz.func76, Tryz.ntmps76
  go_wp2
  go_loopw [15] (fun i wr => ∃ k : Nat, k ≤ n ∧ i = .int .i64 k ∧ Hid (((cls QL).take k).all clB = true) ∧ Below w.heap.size w wr) (fun i _ => n - (intOf i).toNat)
  case atStart => exact ⟨0, by omega, rfl, rfl, Below.refl _ _⟩
  case round =>
    obtain ⟨k, hk, rfl, hall, hb⟩ := hrel
    by_cases hlt : k < n
    · have hki : (k : Int) < n := by omega
      have hkL : k < QL.length := by rw [HN.out.1]; exact hlt
      obtain ⟨g, off, rfl, hC⟩ := (HN.out.2.1.step hb).at hkL
      obtain ⟨c0, c1, c2⟩ := hC.q3 (getQ hkL)
      have hq := HN.out.2.2 _ (List.mem_of_getElem? (getQ hkL))
      have hat := all_takeC hkL
      have hno := all_noC hkL
      obtain ⟨⟨c, s, t⟩, hx⟩ : ∃ x : CQ, QL.getD k zq = x := ⟨_, rfl⟩
      rw [hx] at c0 c1 c2 hq hat hno
      simp only at c0 c1 c2 hq hat hno
      have HQ := Lib.hid hq
      have HAT := Lib.hid hat
      have HNO := Lib.hid hno
      clear hC hkL hq hat hno hx
      cases hv : clB c
      · go_wp2_with (go_at_call 112; refine (iClause_v hv _ ((HQ.out.step hb).step (below_alloc1 _ _))).mono ?_; rintro e w1 ⟨rfl, hb2⟩)
        go_ret
        exact ⟨ret_bool (by rw [HE.out, HNO.out hv, Bool.and_false]), bstepA hb hb2 (Nat.le_refl _)⟩
      · go_wp2_with (go_at_call 112; refine (iClause_v hv _ ((HQ.out.step hb).step (below_alloc1 _ _))).mono ?_; rintro e w1 ⟨rfl, hb2⟩)
        go_roundw
        case rel => exact ⟨k + 1, by omega, by go_num, by rw [HAT.out, hall.out, hv]; exact rfl, bstepA hb hb2 (Nat.le_refl _)⟩
        case measure => simp [intOf]; omega
    · obtain rfl : k = n := by omega
      have HF : Hid ((cls QL).all clB = true) := by
        have h := hall.out
        rw [List.take_of_length_le (by rw [cls_len, HN.out.1]; exact Nat.le_refl _)] at h
        exact h
      go_wp2
      go_ret
      exact ⟨ret_bool (by rw [HE.out, HF.out, decide_eq_true (by omega)]; rfl), hb⟩

theorem isTenant_any (n : Int) (w : World) : Calls Tryz.prog 73 #[.int .i64 n] w fun e w' => e = .returned (.bool (tenB n)) ∧ w' = w := by
  go_enter Tryz.func73, Tryz.ntmps73
  go_wp2
  all_goals (go_ret; exact ⟨ret_bool (by unfold tenB; first | exact (decide_eq_true (by omega)).symm | exact (decide_eq_false (by omega)).symm | exact decide_eq_decide.mpr (by omega)), rfl⟩)
theorem isTenant_v {n : Int} {v : Bool} (hv : tenB n = v) (w : World) : Calls Tryz.prog 73 #[.int .i64 n] w fun e w' => e = .returned (.bool v) ∧ w' = w := hv ▸ isTenant_any n w
theorem sTenant_v {n : Int} {v : Bool} (hv : tenB n = v) (w : World) : Calls Tryz.prog 37 #[.int .i64 n, .int .i64 1, .int .i64 99] w fun e w' => e = .returned (.bool v) ∧ w' = w := hv ▸ l1In_any n 1 99 w
/-- Is a Paper right? -/
def ppB (tn : Int) (L : List Cl) (tag : Int) : Bool := tenB tn && (clsB L && inB tag)

set_option maxHeartbeats 1000000 in
theorem iPaper_v {tn tag : Int} {p : Option Addr} {cap n : Nat} {QL : List CQ} {v : Bool} (hv : ppB tn (cls QL) tag = v) (hn : QL.length = n) (hb0 : n ≤ 10000000) (w : World) (hR : RdS w p QL) :
    Calls Tryz.prog 33 #[.agg #[.slice p n cap, .int .i64 tn, .int .i64 tag]] w fun e w' => e = .returned (.bool v) ∧ Below w.heap.size w w' := by
  have hst := (St.nil w).push [.slice p n cap, .int .i64 tn, .int .i64 tag] 71
  have H1 : Hid (∀ W, Below w.heap.size w W → Calls Tryz.prog 76 #[.slice p n cap] W fun e w' => e = .returned (.bool (clsB (cls QL))) ∧ Below W.heap.size W w') := fun W h => iClauses_any p cap n QL hn hb0 W (hR.step h)
  clear hn hR
  unfold ppB at hv
  cases h0 : tenB tn
  · rw [h0, Bool.false_and] at hv
    subst hv
    go_enter Tryz.func33, Tryz.ntmps33
    go_wp2_with (go_at_call 73; refine (isTenant_v h0 _).mono ?_; rintro e w1 ⟨rfl, hw1⟩; obtain rfl := hw1.symm)
    go_ret
    exact ⟨rfl, hst.bel⟩
  rw [h0, Bool.true_and] at hv
  cases h1 : clsB (cls QL)
  · rw [h1, Bool.false_and] at hv
    rw [h1] at H1
    subst hv
    go_enter Tryz.func33, Tryz.ntmps33
    go_wp2_with (first
      | (go_at_call 73; refine (isTenant_v h0 _).mono ?_; rintro e w1 ⟨rfl, hw1⟩; obtain rfl := hw1.symm)
      | (go_at_call 76; refine (H1.out _ hst.bel).mono ?_; rintro e w1 ⟨rfl, hb1⟩))
    go_ret
    exact ⟨rfl, (hst.step hb1).bel⟩
  rw [h1, Bool.true_and] at hv
  rw [h1] at H1
  go_enter Tryz.func33, Tryz.ntmps33
  go_wp2_with (first
    | (go_at_call 73; refine (isTenant_v h0 _).mono ?_; rintro e w1 ⟨rfl, hw1⟩; obtain rfl := hw1.symm)
    | (go_at_call 76; refine (H1.out _ hst.bel).mono ?_; rintro e w1 ⟨rfl, hb1⟩; have hs1 := hst.step hb1; have hk := hs1.has; simp [Has, HasAt] at hk)
    | (go_at_call 77; refine (isSeal_v hv _).mono ?_; rintro e w2 ⟨rfl, hw2⟩; obtain rfl := hw2.symm))
  go_ret
  exact ⟨rfl, hs1.bel⟩
end Go.Proofs.YtbkiogedipmioaaGreat
