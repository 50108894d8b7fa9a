/-
  The program's ShapeOk.
-/
import Derived.Test.YtipdfajojcpolaaA7
namespace Go.Proofs.Ytipdfajojcpolaa
open Go.RowKit Go.Joins
attribute [local go_sem ↓] Go.wp_at_zero Go.wp_at_succ

theorem Eds.nth {w : World} {v : Value} {L : List T2} (h : Eds w v L) : ∃ g cap gr, v = .slice (some ⟨g, 0, none⟩) L.length cap ∧ g < w.heap.size ∧ ∀ i, i < L.length → w.cell? ⟨g, i, none⟩ = some (.slice (some ⟨gr, i * 2, none⟩) 2 2) ∧ Eg w (some ⟨gr, i * 2, none⟩) (nth L i) (nth L ((i + 1) % L.length)) := by
  obtain ⟨g, cap, gr, h1, h2, h3⟩ := h.at
  refine ⟨g, cap, gr, h1, h2, fun i hi => ?_⟩
  rw [nth_lt hi, nth_lt (Nat.mod_lt _ (by omega))]
  exact h3 i hi
theorem sl_cs {w : World} {p : Option Addr} {L : List T2} (h : Sl w p L) (h0 : 0 < L.length) : ∃ g off, p = some ⟨g, off, none⟩ ∧ Cs w g off L := h.at h0
theorem meets_v {p q : Option Addr} {a b c d : T2} {v : Bool} (hv : cutB a b c d = v) (ha : a.ok = true) (hb : b.ok = true) (hc : c.ok = true) (hd : d.ok = true) (w : World) (hE : Eg w p a b) (hF : Eg w q c d) :
    Calls Try.prog 39 #[.slice p 2 2, .slice q 2 2] w fun e w' => e = .returned (.bool v) ∧ Below w.heap.size w w' := by subst hv; rw [← mt_cut]; exact meets_any ha hb hc hd w hE hF
theorem mod2 (i n : Nat) : ((i + 1) % n + 1) % n = (i + 2) % n := by rw [Nat.mod_add_mod]
theorem tmod1 (i n : Nat) : ((i : Int) + 1).tmod (n : Int) = (((i + 1) % n : Nat) : Int) := by
  have : ((i : Int) + 1) = ((i + 1 : Nat) : Int) := by omega
  rw [this, Int.ofNat_tmod]

set_option maxHeartbeats 4000000 in
theorem iShapeOk_any (p : Option Addr) (cap : Nat) (L : List T2) (w : World) (hL : Sl w p L) (hn : L.length ≤ 1048576) :
    Calls Try.prog 18 #[.slice p L.length cap] w fun e w' => e = .returned (.bool (shB L)) ∧ Below w.heap.size w w' := by
  cases hr : rtB L
  · go_enter Try.func18, Try.ntmps18
    go_wp2_with (go_at_call 37; refine (areRight_v hr p cap _ hL hn).mono ?_; rintro e w1 ⟨rfl, hb2⟩)
    go_ret
    exact ⟨ret_bool (by rw [sh_no1 hr]), hb2⟩
  · obtain ⟨h3, h12⟩ := rt_len hr
    have h3i : (3 : Int) ≤ L.length := by omega
    have h12i : (L.length : Int) ≤ 12 := by omega
    obtain ⟨g, off, rfl, hC⟩ := sl_cs hL (by omega)
    go_enter Try.func18, Try.ntmps18
    go_upto_region 3 with (go_at_call 37; refine (areRight_v hr _ cap _ hL hn).mono ?_; rintro e w1 ⟨rfl, hb2⟩)
    go_cut [3] from 12 to 13 (fun s3 wx => Eds wx s3 L ∧ Below w.heap.size w wx)
    case first =>
      go_wp2_with (go_at_call 27; refine (edges_any g off cap L (by omega) _ (hC.step hb2) h12).mono ?_; rintro e w1 ⟨v, rfl, hE, hb3⟩)
      go_meet
      exact ⟨hE, bstep hb2 hb3 (Nat.le_refl _)⟩
    case rest =>
    obtain ⟨hE, hB⟩ := hcut
    obtain ⟨ge, ce, gr, rfl, hge, hAt⟩ := hE.nth
    clear hE hb2
    go_wp2
    go_loopw [16] (fun i wr => ∃ k : Nat, k ≤ L.length ∧ i = .int .i64 k ∧ (∀ j, j < k → crN L j ≠ 0 ∧ ∀ m, m < L.length → badK L j m = false) ∧ Below wc.heap.size wc wr) (fun i _ => L.length - (intOf i).toNat)
    case atStart => exact ⟨0, by omega, rfl, fun j h => by omega, Below.refl _ _⟩
    case round =>
      obtain ⟨k, hk, rfl, hgood, hb⟩ := hrel
      by_cases hlt : k < L.length
      · have hki : (k : Int) < L.length := by omega
        have hki2 : (k : Int) < 12 := by omega
        obtain ⟨hc1, hE1⟩ := hAt k hlt
        have hm : (k + 1) % L.length < L.length := Nat.mod_lt _ (by omega)
        have hmi : (((k + 1) % L.length : Nat) : Int) < L.length := by omega
        obtain ⟨hc2, hE2⟩ := hAt _ hm
        rw [mod2] at hE2
        have hT := tmod1 k L.length
        replace hc1 := (hb.cell (p := ⟨ge, k, none⟩) hge).trans hc1
        replace hc2 := (hb.cell (p := ⟨ge, (k + 1) % L.length, none⟩) hge).trans hc2
        replace hE1 := hE1.step hb
        replace hE2 := hE2.step hb
        have hA := nth_ok hr hlt
        have hA2 := nth_ok hr hm
        have hA3 := nth_ok hr (i := (k + 2) % L.length) (Nat.mod_lt _ (by omega))
        have hcrN : crN L k = crT (nth L k) (nth L ((k + 1) % L.length)) (nth L ((k + 2) % L.length)) := rfl
        have hEa : ∀ W, Below wc.heap.size wc W → Eg W (some ⟨gr, k * 2, none⟩) (nth L k) (nth L ((k + 1) % L.length)) := fun W h => (hAt k hlt).2.step h
        have hcut : ∀ j, cutN L k j = cutB (nth L k) (nth L ((k + 1) % L.length)) (nth L j) (nth L ((j + 1) % L.length)) := fun j => rfl
        generalize hmm : (k + 1) % L.length = m at hm hmi hc2 hE1 hE2 hT hA2 hcrN hcut hEa
        generalize nth L k = a at hE1 hA hcrN hcut hEa
        generalize nth L m = b at hE1 hE2 hA2 hcrN hcut hEa
        generalize nth L ((k + 2) % L.length) = c at hE2 hA3 hcrN
        obtain ⟨gx, ox, ex, hgx, n0, n1, n2, n3⟩ := id hE2
        injection ex with ex
        injection ex with ex1 ex2
        subst ex1 ex2
        by_cases hz : crT a b c = 0
        · go_wp2_with (go_at_call 38; refine (side_v (sg_z hz) hA hA2 hA3 _ _ hE1).mono ?_; rintro e w2 ⟨rfl, hb2⟩)
          go_ret
          exact ⟨ret_bool (sh_no2 hlt (hcrN.trans hz)).symm, bstep hB (bstep hb hb2 (Nat.le_refl _)) (Nat.le_refl _)⟩
        generalize hs : sg (crT a b c) = s
        have hs1 : s = 1 ∨ s = -1 := by have := sg_cases (crT a b c); omega
        rcases hs1 with rfl | rfl
        all_goals
          go_wp2_with (go_at_call 38; refine (side_v hs hA hA2 hA3 _ _ hE1).mono ?_; rintro e w2 ⟨rfl, hb2⟩)
          have hb0 := bstep hb hb2 (Nat.le_refl _)
          go_loopw [7] (fun jv wq => ∃ j : Nat, k + 2 ≤ j ∧ j ≤ 13 ∧ jv = .int .i64 j ∧ (∀ m, m < L.length → m < j → badK L k m = false) ∧ Below wc.heap.size wc wq) (fun jv _ => 13 - (intOf jv).toNat)
          case atStart => exact ⟨k + 2, by omega, by omega, by go_num, fun m _ h => by rw [badK, decide_eq_false (by omega)]; rfl, hb0⟩
          case round =>
            obtain ⟨j, hj2, hj13, rfl, hno, hbq⟩ := hrel
            by_cases hjl : j < L.length
            · have hji : (j : Int) < L.length := by omega
              obtain ⟨hcj, hEj⟩ := hAt j hjl
              replace hcj := (hbq.cell (p := ⟨ge, j, none⟩) hge).trans hcj
              replace hEj := hEj.step hbq
              have hD1 := nth_ok hr hjl
              have hD2 := nth_ok hr (i := (j + 1) % L.length) (Nat.mod_lt _ (by omega))
              have hcj2 := hcut j
              have hEk := hEa _ hbq
              by_cases hcl : k = 0 ∧ j + 1 = L.length
              · have hkb : ((k : Int) == 0) = true := by simp [hcl.1]
                have hjb : ((j : Int) == (L.length : Int) - 1) = true := by simp; omega
                have HC : Hid (k = 0 ∧ j + 1 = L.length) := hcl
                clear hcl
                go_wp2
                go_roundw
                case rel =>
                  refine ⟨j + 1, by omega, by omega, by go_num, fun m hm1 hm2 => ?_, hbq⟩
                  by_cases e : m = j
                  · subst e; have := HC.out; rw [badK, decide_eq_false (by omega)]; rfl
                  · exact hno m hm1 (by omega)
                case measure => simp [intOf]; omega
              · have HB : Hid (badK L k j = cutB a b (nth L j) (nth L ((j + 1) % L.length))) := by
                  show badK L k j = _
                  rw [badK, hcut, decide_eq_true ⟨hj2, hcl⟩, Bool.true_and]
                by_cases hk0 : k = 0
                · have hkb : ((k : Int) == 0) = true := by simp [hk0]
                  have hjb : ((j : Int) == (L.length : Int) - 1) = false := by simp; omega
                  clear hk0 hcl
                  cases hv : cutB a b (nth L j) (nth L ((j + 1) % L.length))
                  · go_wp2_with (go_at_call 39; refine (meets_v hv hA hA2 hD1 hD2 _ hEk hEj).mono ?_; rintro e w3 ⟨rfl, hb3⟩)
                    go_roundw
                    case rel =>
                      refine ⟨j + 1, by omega, by omega, by go_num, fun m hm1 hm2 => ?_, bstep hbq hb3 (Nat.le_refl _)⟩
                      by_cases e : m = j
                      · subst e; exact HB.out.trans hv
                      · exact hno m hm1 (by omega)
                    case measure => simp [intOf]; omega
                  · go_wp2_with (go_at_call 39; refine (meets_v hv hA hA2 hD1 hD2 _ hEk hEj).mono ?_; rintro e w3 ⟨rfl, hb3⟩)
                    go_ret
                    exact ⟨ret_bool (sh_no3 hlt hjl (HB.out.trans hv)).symm, bstep hB (bstep hbq hb3 (Nat.le_refl _)) (Nat.le_refl _)⟩

                · have hkb : ((k : Int) == 0) = false := by simp; omega
                  clear hk0 hcl
                  cases hv : cutB a b (nth L j) (nth L ((j + 1) % L.length))
                  · go_wp2_with (go_at_call 39; refine (meets_v hv hA hA2 hD1 hD2 _ hEk hEj).mono ?_; rintro e w3 ⟨rfl, hb3⟩)
                    go_roundw
                    case rel =>
                      refine ⟨j + 1, by omega, by omega, by go_num, fun m hm1 hm2 => ?_, bstep hbq hb3 (Nat.le_refl _)⟩
                      by_cases e : m = j
                      · subst e; exact HB.out.trans hv
                      · exact hno m hm1 (by omega)
                    case measure => simp [intOf]; omega
                  · go_wp2_with (go_at_call 39; refine (meets_v hv hA hA2 hD1 hD2 _ hEk hEj).mono ?_; rintro e w3 ⟨rfl, hb3⟩)
                    go_ret
                    exact ⟨ret_bool (sh_no3 hlt hjl (HB.out.trans hv)).symm, bstep hB (bstep hbq hb3 (Nat.le_refl _)) (Nat.le_refl _)⟩

            · have hji : ¬ (j : Int) < L.length := by omega
              go_wp2
              go_roundw
              case rel =>
                refine ⟨k + 1, by omega, by go_num, fun q hq => ?_, hbq⟩
                by_cases e : q = k
                · subst e; exact ⟨fun h => hz (hcrN.symm.trans h), fun m hm1 => hno m hm1 (by omega)⟩
                · exact hgood q (by omega)
              case measure => simp [intOf]; omega
      · obtain rfl : k = L.length := by omega
        go_wp2
        go_ret
        exact ⟨ret_bool (sh_yes hr hgood).symm, bstep hB hb (Nat.le_refl _)⟩
end Go.Proofs.Ytipdfajojcpolaa
