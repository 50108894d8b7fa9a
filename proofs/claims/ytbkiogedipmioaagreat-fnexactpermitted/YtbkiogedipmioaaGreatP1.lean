/-
  Papers: kinds of elements; the looks whether Cells, lists of Cells and Clauses are right, the program's and the spec's.
-/
import Derived.Test.YtbkiogedipmioaaGreatPM
import Derived.Test.YtbkiogedipmioaaGreatA3
namespace Go.Proofs.YtbkiogedipmioaaGreat
open Go.RowKit Go.Joins M
attribute [local go_sem] Oper.semAt_some

/-- A slice, as it lies in a cell. -/
structure Sv where
  p : Option Addr
  n : Nat
  c : Nat
def Sv.v (s : Sv) : Value := .slice s.p s.n s.c
def kC : Kd T3 := ⟨89, 3, fun c => [.int .i64 c.l, .int .i64 c.x, .int .i64 c.y], fun _ => rfl⟩
def kQ : Kd (Cl × Sv × Sv) := ⟨110, 3, fun q => [.slice q.2.1.p q.2.1.n q.2.1.c, .slice q.2.2.p q.2.2.n q.2.2.c, .int .i64 q.1.un], fun _ => rfl⟩
theorem info89 : (Tryz.prog.info? 89).map (fun i => (i.zero, i.size, i.bytes)) = some (some (.agg #[.int .i64 0, .int .i64 0, .int .i64 0]), 3, 24) := by kernel_rfl
theorem info110 : (Tryz.prog.info? 110).map (fun i => (i.zero, i.size, i.bytes)) = some (some (.agg #[.slice none 0 0, .slice none 0 0, .int .i64 0]), 3, 56) := by kernel_rfl
theorem CsG.c3 {w : World} {g off : Nat} {L : List T3} (h : CsG kC w g off L) {k : Nat} {c : T3} (hk : L[k]? = some c) : w.cell? ⟨g, off + k * 3, none⟩ = some (.int .i64 c.l) ∧ w.cell? ⟨g, off + k * 3 + 1, none⟩ = some (.int .i64 c.x) ∧ w.cell? ⟨g, off + k * 3 + 2, none⟩ = some (.int .i64 c.y) :=
  ⟨h.at hk (i := 0) rfl, h.at hk (i := 1) rfl, h.at hk (i := 2) rfl⟩
theorem CsG.q3 {w : World} {g off : Nat} {L : List (Cl × Sv × Sv)} (h : CsG kQ w g off L) {k : Nat} {q : Cl × Sv × Sv} (hk : L[k]? = some q) : w.cell? ⟨g, off + k * 3, none⟩ = some (.slice q.2.1.p q.2.1.n q.2.1.c) ∧ w.cell? ⟨g, off + k * 3 + 1, none⟩ = some (.slice q.2.2.p q.2.2.n q.2.2.c) ∧ w.cell? ⟨g, off + k * 3 + 2, none⟩ = some (.int .i64 q.1.un) :=
  ⟨h.at hk (i := 0) rfl, h.at hk (i := 1) rfl, h.at hk (i := 2) rfl⟩
def z3 : T3 := ⟨0, 0, 0⟩
theorem getC {L : List T3} {k : Nat} (hk : k < L.length) : L[k]? = some (L.getD k z3) := by simp [List.getD, hk]
theorem all_take {α : Type} {L : List α} {f : α → Bool} {k : Nat} (hk : k < L.length) : (L.take (k + 1)).all f = ((L.take k).all f && f L[k]) := by
  rw [List.take_succ_eq_append_getElem hk, List.all_append]; simp
theorem all_no {α : Type} {L : List α} {f : α → Bool} {k : Nat} (hk : k < L.length) (h : f L[k] = false) : L.all f = false := by
  rw [Bool.eq_false_iff]; intro h2; rw [List.all_eq_true] at h2; have := h2 L[k] (List.getElem_mem hk); rw [h] at this; cases this
theorem iCell_v {l x y : Int} {v : Bool} (hv : M.cellB l x y = v) (w : World) :
    Calls Tryz.prog 85 #[.agg #[.int .i64 l, .int .i64 x, .int .i64 y]] w fun e w' => e = .returned (.bool v) ∧ Below w.heap.size w w' := by subst hv; exact M.isRight_any l x y w
theorem sCell_v {l x y : Int} {v : Bool} (hv : M.cellB l x y = v) (w : World) :
    Calls Tryz.prog 125 #[.agg #[.int .i64 l, .int .i64 x, .int .i64 y]] w fun e w' => e = .returned (.bool v) ∧ Below w.heap.size w w' := by subst hv; exact M.sCellOk_any l x y w
theorem below_drewN {B : Nat} {a w : World} (h : Below B a w) (n : Nat) : Below B a (w.drewN n) := h.trans ⟨rfl, rfl, rfl, Nat.le_refl _, fun _ _ => rfl⟩
theorem bstepA {B : Nat} {W w1 w2 : World} {o : Obj} (h : Below B W w1) (hb : Below (w1.alloc o).heap.size (w1.alloc o) w2) (hB : B ≤ W.heap.size) : Below B W w2 :=
  bstep (h.alloc (Nat.le_trans hB h.size) o) hb hB
theorem ba1 {w w1 : World} {o : Obj} (hb : Below (w.alloc o).heap.size (w.alloc o) w1) : Below w.heap.size w w1 := (below_alloc1 w o).trans (hb.mono (by simp))

set_option maxHeartbeats 1000000 in
theorem areRight_any (p : Option Addr) (cap : Nat) (L : List T3) (n : Nat) (hn : L.length = n) (w : World) (hL : SlG kC w p L) (hb0 : n ≤ 10000000) :
    Calls Tryz.prog 48 #[.slice p n cap] w fun e w' => e = .returned (.bool (okL L)) ∧ Below w.heap.size w w' := by
  subst hn
  by_cases h100 : L.length ≤ 100
  · have hi : (L.length : Int) ≤ 100 := by omega
    go_enter Tryz.func48, Tryz.ntmps48
    go_wp2
    go_loopw [10] (fun i wr => ∃ k : Nat, k ≤ L.length ∧ i = .int .i64 k ∧ (L.take k).all T3.ok = true ∧ Below w.heap.size w wr) (fun i _ => L.length - (intOf i).toNat)
    case atStart => exact ⟨0, by omega, rfl, rfl, Below.refl _ _⟩
    case round =>
      obtain ⟨k, hk, rfl, hall, hb⟩ := hrel
      by_cases hlt : k < L.length
      · have hki : (k : Int) < L.length := by omega
        obtain ⟨g, off, rfl, hC⟩ := (hL.step hb).at hlt
        obtain ⟨c0, c1, c2⟩ := hC.c3 (List.getElem?_eq_getElem hlt)
        cases hv : T3.ok L[k]
        · go_wp2_with (go_at_call 85; refine (iCell_v hv _).mono ?_; rintro e w1 ⟨rfl, hb2⟩)
          go_ret
          exact ⟨ret_bool (by rw [okL, all_no hlt hv, Bool.and_false]), bstepA hb hb2 (Nat.le_refl _)⟩
        · go_wp2_with (go_at_call 85; refine (iCell_v hv _).mono ?_; rintro e w1 ⟨rfl, hb2⟩)
          go_roundw
          case rel => exact ⟨k + 1, by omega, by go_num, by rw [all_take hlt, hall, hv]; rfl, bstepA hb hb2 (Nat.le_refl _)⟩
          case measure => simp [intOf]; omega
      · obtain rfl : k = L.length := by omega
        go_wp2
        go_ret
        rw [List.take_length] at hall
        exact ⟨ret_bool (by rw [okL, hall, decide_eq_true h100]; rfl), hb⟩
  · have hi : ¬ (L.length : Int) ≤ 100 := by omega
    go_enter Tryz.func48, Tryz.ntmps48
    go_wp2
    go_ret
    exact ⟨ret_bool (by rw [okL, decide_eq_false h100]; rfl), Below.refl _ _⟩
set_option maxHeartbeats 1000000 in
theorem l3Cells_any (p : Option Addr) (cap : Nat) (L : List T3) (n : Nat) (hn : L.length = n) (w : World) (hL : SlG kC w p L) (hb0 : n ≤ 10000000) :
    Calls Tryz.prog 115 #[.slice p n cap] w fun e w' => e = .returned (.bool (okL L)) ∧ Below w.heap.size w w' := by
  subst hn
  go_enter Tryz.func115, Tryz.ntmps115
  go_wp2
  go_loopw [3] (fun i wr => ∃ k : Nat, k ≤ L.length ∧ i = .int .i64 k ∧ (L.take k).all T3.ok = true ∧ Below w.heap.size w wr) (fun i _ => L.length - (intOf i).toNat)
  case atStart => exact ⟨0, by omega, rfl, rfl, Below.refl _ _⟩
  case round =>
    obtain ⟨k, hk, rfl, hall, hb⟩ := hrel
    by_cases hlt : k < L.length
    · have hki : (k : Int) < L.length := by omega
      obtain ⟨g, off, rfl, hC⟩ := (hL.step hb).at hlt
      obtain ⟨c0, c1, c2⟩ := hC.c3 (List.getElem?_eq_getElem hlt)
      cases hv : T3.ok L[k]
      · go_wp2_with (go_at_call 125; refine (sCell_v hv _).mono ?_; rintro e w1 ⟨rfl, hb2⟩)
        go_ret
        exact ⟨ret_bool (by rw [okL, all_no hlt hv, Bool.and_false]), bstep hb hb2 (Nat.le_refl _)⟩
      · go_wp2_with (go_at_call 125; refine (sCell_v hv _).mono ?_; rintro e w1 ⟨rfl, hb2⟩)
        go_roundw
        case rel => exact ⟨k + 1, by omega, by go_num, by rw [all_take hlt, hall, hv]; rfl, bstep hb hb2 (Nat.le_refl _)⟩
        case measure => simp [intOf]; omega
    · obtain rfl : k = L.length := by omega
      go_wp2
      go_ret
      rw [List.take_length] at hall
      exact ⟨ret_bool (by rw [okL, hall, Bool.and_true]; exact decide_eq_decide.mpr (by omega)), hb⟩
theorem isTime_any (n : Int) (w : World) : Calls Tryz.prog 34 #[.int .i64 n] w fun e w' => e = .returned (.bool (timeB n)) ∧ w' = w := by
  go_enter Tryz.func34, Tryz.ntmps34
  go_wp2
  all_goals (go_ret; exact ⟨ret_bool (by unfold timeB; first | exact (decide_eq_true (by omega)).symm | exact (decide_eq_false (by omega)).symm | exact decide_eq_decide.mpr (by omega)), rfl⟩)
theorem isTime_v {n : Int} {v : Bool} (hv : timeB n = v) (w : World) : Calls Tryz.prog 34 #[.int .i64 n] w fun e w' => e = .returned (.bool v) ∧ w' = w := hv ▸ isTime_any n w
theorem areRight_v {L : List T3} {v : Bool} (hv : okL L = v) (p : Option Addr) (cap n : Nat) (hn : L.length = n) (w : World) (hL : SlG kC w p L) (hb0 : n ≤ 10000000) :
    Calls Tryz.prog 48 #[.slice p n cap] w fun e w' => e = .returned (.bool v) ∧ Below w.heap.size w w' := hv ▸ areRight_any p cap L n hn w hL hb0
theorem l3Cells_v {L : List T3} {v : Bool} (hv : okL L = v) (p : Option Addr) (cap n : Nat) (hn : L.length = n) (w : World) (hL : SlG kC w p L) (hb0 : n ≤ 10000000) :
    Calls Tryz.prog 115 #[.slice p n cap] w fun e w' => e = .returned (.bool v) ∧ Below w.heap.size w w' := hv ▸ l3Cells_any p cap L n hn w hL hb0
theorem ofB_eq {L : List T3} {n : Nat} (hn : L.length = n) : ofB L = (decide (n ≤ 8) && okL L) := by unfold ofB; rw [hn]
theorem isOfClause_v {L : List T3} {v : Bool} (hv : ofB L = v) (p : Option Addr) (cap n : Nat) (hn : L.length = n) (w : World) (hL : SlG kC w p L) (hb0 : n ≤ 10000000) :
    Calls Tryz.prog 128 #[.slice p n cap] w fun e w' => e = .returned (.bool v) ∧ Below w.heap.size w w' := by
  rw [ofB_eq hn] at hv
  have HC : Hid (∀ v, okL L = v → Calls Tryz.prog 48 #[.slice p n cap] w fun e w' => e = .returned (.bool v) ∧ Below w.heap.size w w') := fun v h => areRight_v h p cap n hn w hL hb0
  clear hn
  by_cases h8 : n ≤ 8
  · have h8' : (n : Int) ≤ 8 := by omega
    rw [decide_eq_true h8, Bool.true_and] at hv
    go_enter Tryz.func128, Tryz.ntmps128
    go_wp2_with (go_at_call 48; refine (HC.out v hv).mono ?_; rintro e w1 ⟨rfl, hb2⟩)
    all_goals (go_ret; exact ⟨rfl, hb2⟩)
  · have h8' : ¬ (n : Int) ≤ 8 := by omega
    rw [decide_eq_false h8, Bool.false_and] at hv
    subst hv
    go_enter Tryz.func128, Tryz.ntmps128
    go_wp2
    go_ret
    exact ⟨rfl, Below.refl _ _⟩
end Go.Proofs.YtbkiogedipmioaaGreat
