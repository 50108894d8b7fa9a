/-
  Whether a Deal is right: the program's look.
-/
import Derived.Test.YtobbankkfplooaaKP3
import Derived.Test.YtobbankkfplooaaKG1
import Derived.Test.YtobbankkfplooaaKIB2
namespace Go.Proofs.Ytobbankkfplooaa.K.G
open Go.Shelf Go.RowKit Go.Joins Y
attribute [local go_sem] Oper.semAt_some

set_option maxHeartbeats 1000000 in
/-- Whether a Batch is of the Deal. -/
theorem isPart_v (h : Gv) (t q : Int) (L : List Rc) (sv : Sv) {v : Bool} (hv : partB h.t h.q ⟨t, q, L⟩ = v) (w : World) (hL : SlG I.kR w sv.p L) (hl : L.length = sv.n) (hb0 : sv.n ≤ 10000000) :
    Calls Try.prog 42 #[h.v, I.batV t q sv.p sv.n sv.c] w fun e w' => e = .returned (.bool v) ∧ Below w.heap.size w w' := by
  have HB : Hid (∀ W v, Below w.heap.size w W → I.batB t q L = v → Calls Try.prog 58 #[I.batV t q sv.p sv.n sv.c] W fun e w' => e = .returned (.bool v) ∧ Below W.heap.size W w') := fun W v h h2 => I.iBat_v h2 sv.p sv.c sv.n hl W (hL.step h) hb0
  unfold partB at hv
  change (I.batB t q L && (decide (t = h.t) && decide (q = h.q))) = v at hv
  generalize I.batB t q L = b0 at hv HB
  clear hL hl hb0
  obtain ⟨sp, sn, sc⟩ := sv
  obtain ⟨dt, dq, ⟨yp, yn, yc⟩, ⟨op, on, oc⟩, ⟨up, un, uc⟩, ds⟩ := h
  simp only at HB hv
  have hst := ((St.nil w).push [.int .i64 dt, .int .i64 dq, .slice yp yn yc, .slice op on oc, .slice up un uc, .int .i64 ds] 30).push [.int .i64 t, .int .i64 q, .slice sp sn sc] 51
  cases b0
  · rw [Bool.false_and] at hv
    subst hv
    go_enter Try.func42, Try.ntmps42
    go_wp2_with (go_at_call 58; refine (HB.out _ _ hst.bel rfl).mono ?_; rintro e w1 ⟨rfl, hb1⟩)
    go_ret
    exact ⟨rfl, (hst.step hb1).bel⟩
  rw [Bool.true_and] at hv
  by_cases h1 : t = dt
  · rw [decide_eq_true h1, Bool.true_and] at hv
    subst h1
    by_cases h2 : q = dq
    · rw [decide_eq_true h2] at hv
      subst h2 hv
      go_enter Try.func42, Try.ntmps42
      go_wp2_with (go_at_call 58; refine (HB.out _ _ hst.bel rfl).mono ?_; rintro e w1 ⟨rfl, hb1⟩; have hs := (hst.step hb1); have hk := hs.has; simp [Has, HasAt] at hk)
      go_ret
      exact ⟨rfl, (hst.step hb1).bel⟩
    · rw [decide_eq_false h2] at hv
      have h2' : (q == dq) = false := by simpa using h2
      subst hv
      go_enter Try.func42, Try.ntmps42
      go_wp2_with (go_at_call 58; refine (HB.out _ _ hst.bel rfl).mono ?_; rintro e w1 ⟨rfl, hb1⟩; have hs := (hst.step hb1); have hk := hs.has; simp [Has, HasAt] at hk)
      go_ret
      exact ⟨rfl, (hst.step hb1).bel⟩
  · rw [decide_eq_false h1, Bool.false_and] at hv
    have h1' : (t == dt) = false := by simpa using h1
    subst hv
    go_enter Try.func42, Try.ntmps42
    go_wp2_with (go_at_call 58; refine (HB.out _ _ hst.bel rfl).mono ?_; rintro e w1 ⟨rfl, hb1⟩; have hs := (hst.step hb1); have hk := hs.has; simp [Has, HasAt] at hk)
    go_ret
    exact ⟨rfl, (hst.step hb1).bel⟩
set_option maxHeartbeats 1000000 in
theorem areB_any (h : Gv) (QL : List YQ) (p : Option Addr) (cap n : Nat) (hn : QL.length = n) (hb0 : n ≤ 10000000) (hsm : ∀ y ∈ QL, y.2.n ≤ 10000000) (w : World) (hR : RdY w p QL) {fb : Bool} (hv : (yds QL).all (partB h.t h.q) = fb) :
    Calls Try.prog 41 #[.slice p n cap, .func (.func 42) #[h.v] #[]] w fun e w' => e = .returned (.bool fb) ∧ Below w.heap.size w w' := by
  have HN : Hid (QL.length = n ∧ RdY w p QL ∧ ∀ y ∈ QL, y.2.n ≤ 10000000) := ⟨hn, hR, hsm⟩
  have HV := Lib.hid hv
  have HP := Lib.hid (fun t q L sv v hv W hL hl hb0 => isPart_v h t q L sv (v := v) hv W hL hl hb0)
  generalize partB h.t h.q = f at HV HP
  generalize h.v = hvv at HP
  clear hn hR hsm hv h
  go_enter Try.func41, Try.ntmps41
  go_wp2
  go_loopw [9] (fun i wr => ∃ k : Nat, k ≤ n ∧ i = .int .i64 k ∧ Hid (((yds QL).take k).all f = true) ∧ Below w.heap.size w wr) (fun i _ => n - (intOf i).toNat)
  case atStart => exact ⟨0, by omega, rfl, rfl, Below.refl _ _⟩
  case round =>
    obtain ⟨k, hk, rfl, hall, hb⟩ := hrel
    by_cases hlt : k < n
    · have hki : (k : Int) < n := by omega
      have hkL : k < QL.length := by rw [HN.out.1]; exact hlt
      obtain ⟨g, off, rfl, hC⟩ := (HN.out.2.1.1.step hb).at hkL
      obtain ⟨c0, c1, c2⟩ := CsG.y3 hC (getY hkL)
      have hq := HN.out.2.1.2 _ (List.mem_of_getElem? (getY hkL))
      have hbd := HN.out.2.2 _ (List.mem_of_getElem? (getY hkL))
      have htk := yds_take hkL
      have hgt := yds_get hkL
      obtain ⟨⟨⟨t, q, L⟩, ⟨sp, sn, sc⟩⟩, hx⟩ : ∃ x : YQ, QL.getD k zyq = x := ⟨_, rfl⟩
      rw [hx] at c0 c1 c2 hq hbd htk hgt
      simp only at c0 c1 c2 hq hbd htk hgt
      have HB : Hid (∀ W v, Below w.heap.size w W → f ⟨t, q, L⟩ = v → Calls Try.prog 42 #[hvv, I.batV t q sp sn sc] W fun e w' => e = .returned (.bool v) ∧ Below W.heap.size W w') := fun W v h h2 => HP.out t q L ⟨sp, sn, sc⟩ v h2 W (hq.1.step h) hq.2 hbd
      have HT : Hid ((yds QL).take (k + 1) = (yds QL).take k ++ [⟨t, q, L⟩] ∧ (yds QL)[k]? = some ⟨t, q, L⟩) := ⟨htk, hgt⟩
      have hal := hb.alloc hb.size (.cells #[.int .i64 t, .int .i64 q, .slice sp sn sc] 51)
      clear hC hkL hq hbd htk hgt hx
      cases hr : f ⟨t, q, L⟩
      · go_wp2_with (go_at_call 42; refine (HB.out _ _ hal hr).mono ?_; rintro e w1 ⟨rfl, hb1⟩)
        go_ret
        refine ⟨ret_bool ?_, bstep hal hb1 (Nat.le_refl _)⟩
        rw [← HV.out, all_no (f := f) HT.out.2 hr]
      · go_wp2_with (go_at_call 42; refine (HB.out _ _ hal hr).mono ?_; rintro e w1 ⟨rfl, hb1⟩)
        go_roundw
        case rel => exact ⟨k + 1, by omega, by go_num, Lib.hid (by rw [HT.out.1, List.all_append, hall.out]; simp [hr]), bstep hal hb1 (Nat.le_refl _)⟩
        case measure => simp [intOf]; omega
    · obtain rfl : k = n := by omega
      go_wp2
      go_ret
      refine ⟨ret_bool ?_, hb⟩
      have h2 := hall.out
      rw [List.take_of_length_le (by rw [yds_len, HN.out.1]; exact Nat.le_refl _)] at h2
      rw [← HV.out, h2]
end Go.Proofs.Ytobbankkfplooaa.K.G
