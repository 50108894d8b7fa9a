/-
  The law's looks at marks: lists of Clauses, Papers; marks of Papers.
-/
import Derived.Test.YtachodaecpnhbaaGreatDoorV2
namespace Go.Proofs.YtachodaecpnhbaaGreatDoor
open Go.Shelf Go.RowKit Go.Joins
attribute [local go_sem] Oper.semAt_some

set_option maxRecDepth 100000 in
set_option maxHeartbeats 4000000 in
theorem heldClauseS_any (p : Option Addr) (c n : Nat) (k0 : Int) (QL : List CQ) (hn : QL.length = n) (hb : n ≤ 10) (hk0 : 0 ≤ k0) (hk1 : k0 ≤ 20000000) (hsm : sm6 QL) (w : World) (hR : RdS w p (mkQs k0 QL)) :
    Calls Tryz.prog 67 #[.slice p n c, .int .i64 k0] w fun e w' => e = .returned (.int .i64 (endQ k0 QL)) ∧ w' = w := by
  have HM : Hid (QL.length = n ∧ sm6 QL ∧ RdS w p (mkQs k0 QL)) := ⟨hn, hsm, hR⟩
  clear hn hsm hR
  go_enter Tryz.func67, Tryz.ntmps67
  go_wp2
  go_loop [1, 5] (fun kv i => ∃ k : Nat, k ≤ n ∧ i = .int .i64 k ∧ kv = .int .i64 (endQ k0 (QL.take k))) (fun _ i => n - (intOf i).toNat)
  case atStart => exact ⟨0, by omega, rfl, by simp [endQ]⟩
  case round =>
    obtain ⟨k, hk, rfl, rfl⟩ := hrel
    by_cases hlt : k < n
    · have hki : (k : Int) < n := by omega
      have hkN : k < QL.length := by rw [HM.out.1]; exact hlt
      have hgk := getQ hkN
      have htk := take_getQ hkN
      have hbd := endQ_bd k0 (QL.take k) fun x hx => HM.out.2.1 x (List.mem_of_mem_take hx)
      have hpl := HM.out.2.1 _ (List.mem_of_getElem? hgk)
      have hes := endQ_snoc k0 (QL.take k) (QL.getD k zq)
      rw [← htk] at hes
      have hbl : ((QL.take k).length : Int) ≤ 10 := by simp; omega
      have hat := mkQs_at k0 QL k _ hgk
      obtain ⟨⟨cc, s, t⟩, hq⟩ : ∃ q : CQ, QL.getD k zq = q := ⟨_, rfl⟩
      rw [hq] at hes hpl hat
      obtain ⟨κ, hκ⟩ : ∃ κ, endQ k0 (QL.take k) = κ := ⟨_, rfl⟩
      rw [hκ] at hes hbd hat ⊢
      simp only at hpl
      have hκ0 : 0 ≤ κ := by omega
      have hκ1 : κ ≤ 90000000 := by omega
      obtain ⟨g, off, rfl, hC⟩ := HM.out.2.2.1.at (k := k) (by rw [mkQs_len]; exact hkN)
      obtain ⟨d0, d1, d2⟩ := hC.q3 hat
      have hQ := HM.out.2.2.2 _ (List.mem_of_getElem? hat)
      simp only [mkQ] at d0 d1 d2 hQ
      have m1 := heldCellS_any s.p s.c κ s.n w hQ.r1 (by omega) hκ0 (by omega)
      have m2 := heldCellS_any t.p t.c (κ + 3 * s.n) t.n w hQ.r2 (by omega) (by omega) (by omega)
      have HM1 := Lib.hid m1
      have HM2 := Lib.hid m2
      have HSM : Hid (s.n ≤ 1100000 ∧ t.n ≤ 1100000) := hpl
      have HX : Hid (endQ k0 (QL.take (k + 1)) = κ + 3 * s.n + 3 * t.n + 1) := hes
      have c1 : ¬ κ + 3 * (s.n : Int) < 0 := by omega
      have c2 : ¬ κ + 3 * (s.n : Int) + 3 * (t.n : Int) < 0 := by omega
      clear hgk htk hbd hpl hes hbl hat hq hκ hC hQ m1 m2 hkN
      have f0 : True := trivial
      go_wp2_with (first
        | (go_at_call 92; clear f0; refine (HM1.out).mono ?_; rintro e w1 ⟨rfl, hw1⟩; obtain rfl := hw1.symm)
        | (go_at_call 92; refine (HM2.out).mono ?_; rintro e w1 ⟨rfl, hw1⟩; obtain rfl := hw1.symm))
      go_round
      case rel =>
        refine ⟨k + 1, by omega, by go_num, ?_⟩
        rw [HX.out]
        obtain ⟨ha, hb⟩ := HSM.out
        congr 1; unfold wrap64; omega
      case measure => simp [intOf]; omega
    · obtain rfl : k = n := by omega
      have e1 : QL.take k = QL := List.take_of_length_le (by rw [HM.out.1]; exact Nat.le_refl _)
      rw [e1]
      clear e1
      go_wp2
      go_ret
      exact ⟨rfl, rfl⟩
set_option maxHeartbeats 2000000 in
theorem markPaper_any (tn tag : Int) (p : Option Addr) (n c : Nat) (k0 : Int) (QL : List CQ) (A Bs : List Rw) (w W : World) (hS : Sg w W (A ++ (trX (.slice p n c) QL [] ++ Bs))) (hb : n ≤ 10) (hk0 : 0 ≤ k0) (hk1 : k0 ≤ 20000000) (hsm : sm6 QL) :
    Calls Tryz.prog 26 #[.agg #[.int .i64 tn, .slice p n c, .int .i64 tag], .int .i64 k0] W fun e w' => e = .returned (.int .i64 (endQ k0 QL)) ∧ Sg w w' (A ++ (trX (.slice p n c) (mkQs k0 QL) [] ++ Bs)) := by
  have hS1 := hS.lit kP [⟨tn, ⟨p, n, c⟩, tag⟩] 1 rfl (by decide) #[.int .i64 tn, .slice p n c, .int .i64 tag] rfl
  change Sg w (W.alloc (.cells #[.int .i64 tn, .slice p n c, .int .i64 tag] 26)) _ at hS1
  have HM := Lib.hid (markClauseS_any p n c k0 QL (rG kP (.slice (some ⟨W.heap.size, 0, none⟩) 1 1) [⟨tn, ⟨p, n, c⟩, tag⟩] :: A) Bs w (W.alloc (.cells #[.int .i64 tn, .slice p n c, .int .i64 tag] 26)) hS1 hb hsm hk0 hk1)
  clear hS hsm hS1
  obtain ⟨x, hx⟩ : ∃ x, endQ k0 QL = x := ⟨_, rfl⟩
  rw [hx] at HM ⊢
  clear hx
  go_enter Tryz.func26, Tryz.ntmps26
  go_wp2_with (go_at_call 66; refine (HM.out).mono ?_; rintro e w1 ⟨rfl, hS2⟩)
  go_ret
  exact ⟨rfl, Sg.d0 hS2⟩
set_option maxHeartbeats 2000000 in
theorem heldPaper_any (tn tag : Int) (p : Option Addr) (n c : Nat) (k0 : Int) (QL : List CQ) (hn : QL.length = n) (hb : n ≤ 10) (hk0 : 0 ≤ k0) (hk1 : k0 ≤ 20000000) (hsm : sm6 QL) (w : World) (hR : RdS w p (mkQs k0 QL)) :
    Calls Tryz.prog 27 #[.agg #[.int .i64 tn, .slice p n c, .int .i64 tag], .int .i64 k0] w fun e w' => e = .returned (.int .i64 (endQ k0 QL)) ∧ Below w.heap.size w w' := by
  have HM := Lib.hid fun W h => heldClauseS_any p c n k0 QL hn hb hk0 hk1 hsm W (hR.step h)
  have h0 := (endQ_bd k0 QL hsm).1
  have hneg : ¬ endQ k0 QL < 0 := by omega
  clear hR hsm h0
  obtain ⟨x, hx⟩ : ∃ x, endQ k0 QL = x := ⟨_, rfl⟩
  rw [hx] at HM hneg ⊢
  clear hx
  have hb1 := below_alloc1 w (.cells #[.int .i64 tn, .slice p n c, .int .i64 tag] 26)
  go_enter Tryz.func27, Tryz.ntmps27
  go_wp2_with (go_at_call 67; refine (HM.out _ hb1).mono ?_; rintro e w1 ⟨rfl, hw1⟩; obtain rfl := hw1.symm)
  go_ret
  exact ⟨rfl, hb1⟩
end Go.Proofs.YtachodaecpnhbaaGreatDoor
