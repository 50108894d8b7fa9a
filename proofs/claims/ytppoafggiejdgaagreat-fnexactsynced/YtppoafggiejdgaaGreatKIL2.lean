/-
  The law's looks at lists of Items: alike, how big.
-/
import Derived.Test.YtppoafggiejdgaaGreatKIL1
import Derived.Test.YtppoafggiejdgaaGreatKL2
namespace Go.Proofs.YtppoafggiejdgaaGreat.K.I
open Go.Shelf Go.RowKit Go.Joins
attribute [local go_sem] Oper.semAt_some

set_option maxHeartbeats 1000000 in
theorem eqRec_same (r : Rc) (w : World) : Calls Tryz.prog 86 #[r.v, r.v] w fun e w' => e = .returned (.bool true) ∧ Below w.heap.size w w' := by
  obtain ⟨t, i, x, y, s⟩ := r
  have hE : ∀ w, Calls Tryz.prog 72 #[.agg #[.int .i64 x, .int .i64 y], .agg #[.int .i64 x, .int .i64 y]] w fun e w' => e = .returned (.bool true) ∧ Below w.heap.size w w' := fun w => by
    go_enter Tryz.func72, Tryz.ntmps72
    go_wp2
    go_ret
    exact ⟨rfl, below_alloc2 _ _ _⟩
  have hst := ((St.nil w).push [.int .i64 t, .int .i64 i, .int .i64 x, .int .i64 y, .string s] 88).push [.int .i64 t, .int .i64 i, .int .i64 x, .int .i64 y, .string s] 88
  simp only [World.size_alloc] at hst
  go_enter Tryz.func86, Tryz.ntmps86
  go_wp2_with (go_at_call 72; refine (hE _).mono ?_; rintro e w1 ⟨rfl, hb2⟩; have hs1 := hst.step hb2; have hk := hs1.has; simp [Has, HasAt] at hk)
  go_ret
  exact ⟨rfl, hs1.bel⟩
set_option maxHeartbeats 1000000 in
theorem eqRecS_same (p q : Option Addr) (cap cap' : Nat) (L : List Rc) (n : Nat) (hn : L.length = n) (w : World) (hp : SlG kR w p L) (hq : SlG kR w q L) (_hb : n ≤ 10000000) :
    Calls Tryz.prog 73 #[.slice p n cap, .slice q n cap'] w fun e w' => e = .returned (.bool true) ∧ Below w.heap.size w w' := by
  have HN : Hid (L.length = n) := hn
  clear hn
  go_enter Tryz.func73, Tryz.ntmps73
  go_wp2
  go_loopw [5] (fun i wr => ∃ k : Nat, k ≤ n ∧ i = .int .i64 k ∧ Below w.heap.size w wr) (fun i _ => n - (intOf i).toNat)
  case atStart => exact ⟨0, by omega, rfl, Below.refl _ _⟩
  case round =>
    obtain ⟨k, hk, rfl, hb⟩ := hrel
    by_cases hlt : k < n
    · have hki : (k : Int) < n := by omega
      have hkL : k < L.length := by rw [HN.out]; exact hlt
      obtain ⟨g, off, rfl, hC⟩ := (hp.step hb).at hkL
      obtain ⟨g2, off2, rfl, hC2⟩ := (hq.step hb).at hkL
      obtain ⟨c0, c1, c2, c3, c4⟩ := hC.i5 (getR hkL)
      obtain ⟨d0, d1, d2, d3, d4⟩ := hC2.i5 (getR hkL)
      generalize L.getD k zrc = m at c0 c1 c2 c3 c4 d0 d1 d2 d3 d4
      clear hC hC2
      go_wp2
      go_region_with ((go_at_call 86; refine (eqRec_same m _).mono ?_; rintro e w1 ⟨rfl, hb2⟩))
      all_goals
        go_wp2
        go_roundw
        case rel => exact ⟨k + 1, by omega, by go_num, bstep hb.drew hb2 (Nat.le_refl _)⟩
        case measure => simp [intOf]; omega
    · obtain rfl : k = n := by omega
      go_wp2
      go_ret
      exact ⟨rfl, hb⟩
theorem szRec_any (r : Rc) (a : Int) (w : World) (ha : 0 ≤ a) (ha2 : a ≤ 1048576) (hm : r.s.size ≤ maxLen) : Calls Tryz.prog 74 #[r.v, .int .i64 a] w fun e w' => e = .returned (.int .i64 (if a < r.s.size then -1 else a - r.s.size)) ∧ Below w.heap.size w w' := by
  unfold maxLen at hm
  by_cases h : a < r.s.size
  · have h2 : a - (r.s.size : Int) < 0 := by omega
    rw [if_pos h]
    go_enter Tryz.func74, Tryz.ntmps74
    go_wp2
    go_ret
    exact ⟨rfl, below_alloc1 _ _⟩
  · have h2 : ¬ a - (r.s.size : Int) < 0 := by omega
    rw [if_neg h]
    go_enter Tryz.func74, Tryz.ntmps74
    go_wp2
    go_ret
    exact ⟨rfl, below_alloc1 _ _⟩
theorem szRec_v {r : Rc} {a v : Int} (hv : (if a < r.s.size then -1 else a - (r.s.size : Int)) = v) (w : World) (ha : 0 ≤ a) (ha2 : a ≤ 1048576) (hm : r.s.size ≤ maxLen) : Calls Tryz.prog 74 #[r.v, .int .i64 a] w fun e w' => e = .returned (.int .i64 v) ∧ Below w.heap.size w w' := hv ▸ szRec_any r a w ha ha2 hm
set_option maxHeartbeats 1000000 in
theorem szRecS_any (p : Option Addr) (cap : Nat) (L : List Rc) (n : Nat) (hn : L.length = n) (a : Int) (w : World) (hL : SlG kL w p L) (ha : 0 ≤ a) (ha2 : a ≤ 1048576) (hm : n ≤ maxLen) (hms : ∀ r ∈ L, r.s.size ≤ maxLen) {v : Int} (hv : (if a < rsz L then -1 else a - (rsz L : Int)) = v) :
    Calls Tryz.prog 52 #[.slice p n cap, .int .i64 a] w fun e w' => e = .returned (.int .i64 v) ∧ Below w.heap.size w w' := by
  unfold maxLen at hm
  have HN : Hid (L.length = n) := hn
  have HS : Hid (∀ r ∈ L, r.s.size ≤ maxLen) := hms
  have hr : rsz L = n + tsz L n := by unfold rsz; rw [hn]
  rw [hr] at hv
  have HV : Hid ((if a < (n + tsz L n : Nat) then -1 else a - ((n + tsz L n : Nat) : Int)) = v) := hv
  clear hn hms hr hv
  by_cases h0 : a < n
  · have h2 : a - (n : Int) < 0 := by omega
    go_enter Tryz.func52, Tryz.ntmps52
    go_wp2
    go_ret
    exact ⟨ret_i64 (by rw [← HV.out, if_pos (by omega)]), Below.refl _ _⟩
  · have h2 : ¬ a - (n : Int) < 0 := by omega
    go_enter Tryz.func52, Tryz.ntmps52
    go_wp2
    go_loopw [1, 5] (fun lv i wr => ∃ (k : Nat) (b : Int), k ≤ n ∧ i = .int .i64 k ∧ lv = .int .i64 b ∧ 0 ≤ b ∧ b ≤ 1048576 ∧ Hid (b = a - n - (tsz L k : Int)) ∧ Below w.heap.size w wr) (fun _ i _ => n - (intOf i).toNat)
    case atStart => exact ⟨0, a - n, by omega, rfl, rfl, by omega, by omega, (by simp [tsz] : a - n = a - n - (tsz L 0 : Int)), Below.refl _ _⟩
    case round =>
      obtain ⟨k, b, hk, rfl, rfl, hb0, hb1, hbv, hb⟩ := hrel
      by_cases hlt : k < n
      · have hki : (k : Int) < n := by omega
        have hkL : k < L.length := by rw [HN.out]; exact hlt
        obtain ⟨g, off, rfl, hC⟩ := (hL.step hb).at hkL
        have hg := List.getElem?_eq_getElem hkL
        generalize L[k] = r at hg
        obtain ⟨c0, c1, c2, c3, c4⟩ := hC.j5 hg
        have ht := tsz_succ hg
        have hl := tsz_le (L := L) (show k + 1 ≤ n by omega)
        have hrm := HS.out r (List.mem_of_getElem? hg)
        have HT : Hid (tsz L (k + 1) = tsz L k + r.s.size ∧ tsz L (k + 1) ≤ tsz L n) := ⟨ht, hl⟩
        clear hg hC ht hl
        by_cases hlt2 : b < r.s.size
        · have hvv : (if b < r.s.size then -1 else b - (r.s.size : Int)) = -1 := if_pos hlt2
          go_wp2_with (go_at_call 74; refine (szRec_v (r := r) hvv _ hb0 hb1 hrm).mono ?_; rintro e w1 ⟨rfl, hb2⟩)
          go_ret
          exact ⟨ret_i64 (by rw [← HV.out, if_pos (by have := HT.out; have := hbv.out; omega)]), bstep hb hb2 (Nat.le_refl _)⟩
        · have hvv : (if b < r.s.size then -1 else b - (r.s.size : Int)) = b - r.s.size := if_neg hlt2
          have hnn : ¬ b - (r.s.size : Int) < 0 := by omega
          go_wp2_with (go_at_call 74; refine (szRec_v (r := r) hvv _ hb0 hb1 hrm).mono ?_; rintro e w1 ⟨rfl, hb2⟩)
          go_roundw
          case rel => exact ⟨k + 1, b - r.s.size, by omega, by go_num, rfl, by omega, by omega, (by rw [HT.out.1, hbv.out]; omega : b - (r.s.size : Int) = a - n - (tsz L (k + 1) : Int)), bstep hb hb2 (Nat.le_refl _)⟩
          case measure => simp [intOf]; omega
      · obtain rfl : k = n := by omega
        go_wp2
        go_ret
        exact ⟨ret_i64 (by rw [← HV.out, if_neg (by have := hbv.out; omega), hbv.out]; omega), hb⟩
end Go.Proofs.YtppoafggiejdgaaGreat.K.I
