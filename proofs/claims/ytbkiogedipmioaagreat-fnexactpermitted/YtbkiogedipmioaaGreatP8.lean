/-
  Papers: the spec's look whether a Paper is right; the texts of all Clauses; the chain.
-/
import Derived.Test.YtbkiogedipmioaaGreatP7
namespace Go.Proofs.YtbkiogedipmioaaGreat
open Go.RowKit Go.Joins M
attribute [local go_sem] Oper.semAt_some

set_option maxRecDepth 100000 in
set_option maxHeartbeats 2000000 in
theorem sPaper_v {tn tag : Int} {p : Option Addr} {cap n : Nat} {QL : List CQ} {v : Bool} (hv : ppB tn (cls QL) tag = v) (hn : QL.length = n) (hb0 : n ≤ 10000000) (w : World) (hR : RdS w p QL) :
    Calls Tryz.prog 36 #[.agg #[.int .i64 tn, .slice p n cap, .int .i64 tag]] w fun e w' => e = .returned (.bool v) ∧ Below w.heap.size w w' := by
  have hst := (St.nil w).push [.int .i64 tn, .slice p n cap, .int .i64 tag] 26
  have HN : Hid (QL.length = n ∧ RdS w p QL) := ⟨hn, hR⟩
  have HE : Hid (clsB (cls QL) = (decide (1 ≤ n ∧ n ≤ 6) && (cls QL).all clB)) := clsB_n (by rw [cls_len, hn])
  clear hn hR
  unfold ppB at hv
  rw [HE.out] at hv
  clear HE
  cases h0 : tenB tn
  · rw [h0, Bool.false_and] at hv
    subst hv
    go_enter Tryz.func36, Tryz.ntmps36
    go_wp2_with (go_at_call 37; refine (sTenant_v h0 _).mono ?_; rintro e w1 ⟨rfl, hw1⟩; obtain rfl := hw1.symm)
    go_ret
    exact ⟨rfl, hst.bel⟩
  rw [h0, Bool.true_and] at hv
  by_cases h1 : n < 1
  · have h1' : (n : Int) < 1 := by omega
    rw [decide_eq_false (by omega), Bool.false_and, Bool.false_and] at hv
    subst hv
    go_enter Tryz.func36, Tryz.ntmps36
    go_wp2_with (go_at_call 37; refine (sTenant_v h0 _).mono ?_; rintro e w1 ⟨rfl, hw1⟩; obtain rfl := hw1.symm)
    go_ret
    exact ⟨rfl, hst.bel⟩
  have h1' : ¬ (n : Int) < 1 := by omega
  by_cases h6 : 6 < n
  · have h6' : (6 : Int) < n := by omega
    rw [decide_eq_false (by omega), Bool.false_and, Bool.false_and] at hv
    subst hv
    go_enter Tryz.func36, Tryz.ntmps36
    go_wp2_with (go_at_call 37; refine (sTenant_v h0 _).mono ?_; rintro e w1 ⟨rfl, hw1⟩; obtain rfl := hw1.symm)
    go_ret
    exact ⟨rfl, hst.bel⟩
  have h6' : ¬ (6 : Int) < n := by omega
  rw [decide_eq_true (by omega), Bool.true_and] at hv
  have f0 : True := trivial
  cases h2 : inB tag
  · rw [h2, Bool.and_false] at hv
    subst hv
    go_enter Tryz.func36, Tryz.ntmps36
    go_wp2_with (first
      | (go_at_call 37; clear f0; refine (sTenant_v h0 _).mono ?_; rintro e w1 ⟨rfl, hw1⟩; obtain rfl := hw1.symm)
      | (go_at_call 37; refine (sIn_v h2 _).mono ?_; rintro e w1 ⟨rfl, hw1⟩; obtain rfl := hw1.symm))
    go_ret
    exact ⟨rfl, hst.bel⟩
  rw [h2, Bool.and_true] at hv
  have HV := Lib.hid hv
  clear hv
  go_enter Tryz.func36, Tryz.ntmps36
  go_wp2_with (first
    | (go_at_call 37; clear f0; refine (sTenant_v h0 _).mono ?_; rintro e w1 ⟨rfl, hw1⟩; obtain rfl := hw1.symm)
    | (go_at_call 37; refine (sIn_v h2 _).mono ?_; rintro e w1 ⟨rfl, hw1⟩; obtain rfl := hw1.symm))
  go_loopw [3] (fun i wr => ∃ k : Nat, k ≤ n ∧ i = .int .i64 k ∧ Hid (((cls QL).take k).all clB = true) ∧ St w wr [(w.heap.size, [.int .i64 tn, .slice p n cap, .int .i64 tag])]) (fun i _ => n - (intOf i).toNat)
  case atStart => exact ⟨0, by omega, rfl, rfl, hst⟩
  case round =>
    obtain ⟨k, hk, rfl, hall, hs⟩ := hrel
    have hb := hs.bel
    have hk1 := hs.has
    simp [Has, HasAt] at hk1
    by_cases hlt : k < n
    · have hki : (k : Int) < n := by omega
      have hkL : k < QL.length := by rw [HN.out.1]; exact hlt
      obtain ⟨g, off, rfl, hC⟩ := (HN.out.2.1.step hb).at hkL
      obtain ⟨c0, c1, c2⟩ := hC.q3 (getQ hkL)
      have hq := HN.out.2.2 _ (List.mem_of_getElem? (getQ hkL))
      have hat := all_takeC hkL
      have hno := all_noC hkL
      obtain ⟨⟨c, s, t⟩, hx⟩ : ∃ x : CQ, QL.getD k zq = x := ⟨_, rfl⟩
      rw [hx] at c0 c1 c2 hq hat hno
      simp only at c0 c1 c2 hq hat hno
      have HQ := Lib.hid hq
      have HAT := Lib.hid hat
      have HNO := Lib.hid hno
      clear hC hkL hq hat hno hx
      cases hc : clB c
      · go_wp2_with (go_at_call 79; refine (sClause_v hc _ (HQ.out.step hb)).mono ?_; rintro e w1 ⟨rfl, hb2⟩)
        go_ret
        exact ⟨ret_bool (by rw [← HV.out, HNO.out hc]), (hs.step hb2).bel⟩
      · go_wp2_with (go_at_call 79; refine (sClause_v hc _ (HQ.out.step hb)).mono ?_; rintro e w1 ⟨rfl, hb2⟩)
        go_roundw
        case rel => exact ⟨k + 1, by omega, by go_num, by rw [HAT.out, hall.out, hc]; exact rfl, hs.step hb2⟩
        case measure => simp [intOf]; omega
    · obtain rfl : k = n := by omega
      have HF : Hid ((cls QL).all clB = true) := by
        have h := hall.out
        rw [List.take_of_length_le (by rw [cls_len, HN.out.1]; exact Nat.le_refl _)] at h
        exact h
      go_wp2
      go_ret
      exact ⟨ret_bool (by rw [← HV.out, HF.out]), hs.bel⟩

end Go.Proofs.YtbkiogedipmioaaGreat
