/-
  Whether a Batch and a Deal are right: the specification's.
-/
import Derived.Test.YtobbankkfplooaaGreatKP6
import Derived.Test.YtobbankkfplooaaGreatKIB3
namespace Go.Proofs.YtobbankkfplooaaGreat.K.G
open Go.Shelf Go.RowKit Go.Joins Y
attribute [local go_sem] Oper.semAt_some

set_option maxHeartbeats 1000000 in
theorem sBat_v {t s : Int} {L : List Rc} {v : Bool} (hv : I.batB t s L = v) (p : Option Addr) (c n : Nat) (hn : L.length = n) (w : World) (hL : SlG I.kR w p L) (hb0 : n ≤ 10000000) :
    Calls Tryz.prog 51 #[I.batV t s p n c] w fun e w' => e = .returned (.bool v) ∧ Below w.heap.size w w' := by
  unfold I.batB at hv
  have hst := (St.nil w).push [.int .i64 t, .int .i64 s, .slice p n c] 67
  have HI : Hid (∀ W v, Below w.heap.size w W → I.itsB L = v → Calls Tryz.prog 80 #[.slice p n c] W fun e w' => e = .returned (.bool v) ∧ Below W.heap.size W w') := fun W v hb h => I.sIts_v h p c n hn W (hL.step hb) hb0
  clear hn hL
  cases h1 : (rgB t 1 99 && rgB s 1 100000)
  · rw [h1, Bool.false_and] at hv
    subst hv
    go_enter Tryz.func51, Tryz.ntmps51
    go_wp2_with (go_at_call 48; refine (I.sNum_v h1 _).mono ?_; rintro e w1 ⟨rfl, hw1⟩; obtain rfl := hw1.symm)
    go_ret
    exact ⟨rfl, hst.bel⟩
  rw [h1, Bool.true_and] at hv
  go_enter Tryz.func51, Tryz.ntmps51
  go_wp2_with (first | (go_at_call 48; refine (I.sNum_v h1 _).mono ?_; rintro e w1 ⟨rfl, hw1⟩; obtain rfl := hw1.symm) | (go_at_call 80; refine (HI.out _ _ hst.bel hv).mono ?_; rintro e w1 ⟨rfl, hb1⟩))
  go_ret
  exact ⟨rfl, (hst.step hb1).bel⟩
set_option maxRecDepth 100000 in
set_option maxHeartbeats 4000000 in
theorem sDealOk_v {h : Gv} {QL : List YQ} {O V : List Int} {v : Bool} (hv : dealB h.t h.q (yds QL) O V h.s = v) (w : World) (H : RdG w h QL O V) :
    Calls Tryz.prog 18 #[h.v] w fun e w' => e = .returned (.bool v) ∧ Below w.heap.size w w' := by
  have HF : Hid (¬ DealP h.t h.q (yds QL) O V h.s → v = false) := fun hn => by rw [← hv]; exact deal_no hn
  have HT : Hid (DealP h.t h.q (yds QL) O V h.s → v = true) := fun hp => by rw [← hv]; exact deal_iff.2 hp
  clear hv
  have HL : Hid ((yds QL).length = h.y.n ∧ O.length = h.o.n ∧ V.length = h.u.n) := ⟨by rw [yds_len]; exact H.yn, H.on, H.un⟩
  have HR := Lib.hid (fun W (hb : Below w.heap.size w W) v hv => l1Rises_v (L := O) (v := v) hv h.o.p h.o.c h.o.n H.on W (H.o.step hb) H.b.2.1)
  have HH := Lib.hid H
  clear H
  obtain ⟨t, q, ⟨yp, yn, yc⟩, ⟨op, on, oc⟩, ⟨up, un, uc⟩, s⟩ := h
  simp only at HF HT HL HR HH
  have hlit := (Sg.nil w).lit kG [⟨t, q, ⟨yp, yn, yc⟩, ⟨op, on, oc⟩, ⟨up, un, uc⟩, s⟩] 1 rfl (by decide) #[.int .i64 t, .int .i64 q, .slice yp yn yc, .slice op on oc, .slice up un uc, .int .i64 s] rfl
  change Sg w (w.alloc (.cells #[.int .i64 t, .int .i64 q, .slice yp yn yc, .slice op on oc, .slice up un uc, .int .i64 s] 27)) _ at hlit
  have HC := Lib.hid (fun W (hb : Sg w W [rG kG (.slice (some ⟨w.heap.size, 0, none⟩) 1 1) [⟨t, q, ⟨yp, yn, yc⟩, ⟨op, on, oc⟩, ⟨up, un, uc⟩, s⟩]]) => g6 hb (K := kG) (g := w.heap.size) (n := 1) (q := ⟨t, q, ⟨yp, yn, yc⟩, ⟨op, on, oc⟩, ⟨up, un, uc⟩, s⟩) (by simp) rfl)
  simp only at HC
  cases h1 : (rgB t 1 99 && rgB q 1 100000)
  · have HN : Hid (v = false) := HF.out fun hp => by
      unfold rgB at h1; rw [decide_eq_true hp.tn, decide_eq_true hp.qn] at h1; cases h1
    go_enter Tryz.func18, Tryz.ntmps18
    go_wp2_with (go_at_call 48; refine (I.sNum_v h1 _).mono ?_; rintro e w1 ⟨rfl, hw1⟩; obtain rfl := hw1.symm)
    go_ret
    exact ⟨ret_bool HN.out.symm, hlit.bel⟩
  by_cases h2 : yn < 1
  · have HN : Hid (v = false) := HF.out fun hp => by have := hp.n.1; rw [HL.out.1] at this; omega
    have h2' : (yn : Int) < 1 := by omega
    go_enter Tryz.func18, Tryz.ntmps18
    go_wp2_with (go_at_call 48; refine (I.sNum_v h1 _).mono ?_; rintro e w1 ⟨rfl, hw1⟩; obtain rfl := hw1.symm)
    go_ret
    exact ⟨ret_bool HN.out.symm, hlit.bel⟩
  have h2' : ¬ (yn : Int) < 1 := by omega
  by_cases h3 : 4 < yn
  · have HN : Hid (v = false) := HF.out fun hp => by have := hp.n.2; rw [HL.out.1] at this; omega
    have h3' : (4 : Int) < yn := by omega
    go_enter Tryz.func18, Tryz.ntmps18
    go_wp2_with (go_at_call 48; refine (I.sNum_v h1 _).mono ?_; rintro e w1 ⟨rfl, hw1⟩; obtain rfl := hw1.symm)
    go_ret
    exact ⟨ret_bool HN.out.symm, hlit.bel⟩
  have h3' : ¬ (4 : Int) < yn := by omega
  by_cases h4 : on = yn
  case neg =>
    have HN : Hid (v = false) := HF.out fun hp => by have := hp.on; rw [HL.out.1, HL.out.2.1] at this; exact h4 this
    have h4' : ((on : Int) != yn) = true := by simp; omega
    have h4'' : ¬ (on : Int) = yn := by omega
    go_enter Tryz.func18, Tryz.ntmps18
    go_wp2_with (go_at_call 48; refine (I.sNum_v h1 _).mono ?_; rintro e w1 ⟨rfl, hw1⟩; obtain rfl := hw1.symm)
    go_ret
    exact ⟨ret_bool HN.out.symm, hlit.bel⟩
  have h4 := h4.symm
  subst h4
  by_cases h5 : un = yn
  case neg =>
    have HN : Hid (v = false) := HF.out fun hp => by have := hp.un; rw [HL.out.1, HL.out.2.2] at this; exact h5 this
    have h5' : ((un : Int) != yn) = true := by simp; omega
    have h5'' : ¬ (un : Int) = yn := by omega
    go_enter Tryz.func18, Tryz.ntmps18
    go_wp2_with (first | (go_at_call 48; refine (I.sNum_v h1 _).mono ?_; rintro e w1 ⟨rfl, hw1⟩; obtain rfl := hw1.symm))
    go_ret
    exact ⟨ret_bool HN.out.symm, hlit.bel⟩
  have h5 := h5.symm
  subst h5
  cases h6 : rgB s 0 2
  · have HN : Hid (v = false) := HF.out fun hp => by
      have := hp.st
      unfold rgB at h6; rw [decide_eq_false_iff_not] at h6; omega
    go_enter Tryz.func18, Tryz.ntmps18
    go_wp2_with (first | (go_at_call 48; refine (I.sNum_v h1 _).mono ?_; rintro e w1 ⟨rfl, hw1⟩; obtain rfl := hw1.symm) | (go_at_call 49; refine (l1In_v h6 _).mono ?_; rintro e w2 ⟨rfl, hw2⟩; obtain rfl := hw2.symm))
    go_ret
    exact ⟨ret_bool HN.out.symm, hlit.bel⟩
  have HO : Hid (∀ W, Below w.heap.size w W → ∃ g off a b, op = some ⟨g, off, none⟩ ∧ W.cell? ⟨g, off, none⟩ = some (.int .i64 a) ∧ W.cell? ⟨g, off + (yn - 1), none⟩ = some (.int .i64 b) ∧ O[0]? = some a ∧ O[yn - 1]? = some b) := fun W hb => by
    have h0 : 0 < O.length := by rw [HL.out.2.1]; omega
    have h9 : yn - 1 < O.length := by rw [HL.out.2.1]; omega
    obtain ⟨g, off, rfl, hC⟩ := (HH.out.o.step hb).at h0
    exact ⟨g, off, _, _, rfl, by have := hC.int (List.getElem?_eq_getElem h0); simpa using this, hC.int (List.getElem?_eq_getElem h9), List.getElem?_eq_getElem h0, List.getElem?_eq_getElem h9⟩
  cases h7 : riseN O
  · have HN : Hid (v = false) := HF.out fun hp => by have := hp.r; rw [h7] at this; cases this
    go_enter Tryz.func18, Tryz.ntmps18
    go_wp2_with (first | (go_at_call 48; refine (I.sNum_v h1 _).mono ?_; rintro e w1 ⟨rfl, hw1⟩; obtain rfl := hw1.symm) | (go_at_call 49; refine (l1In_v h6 _).mono ?_; rintro e w2 ⟨rfl, hw2⟩; obtain rfl := hw2.symm) | (go_at_call 50; refine (HR.out _ hlit.bel _ h7).mono ?_; rintro e w3 ⟨rfl, hb3⟩; have hS3 := hlit.step hb3; obtain ⟨y0, y1, y2, y3, y4, y5, _, _⟩ := HC.out _ hS3))
    go_ret
    exact ⟨ret_bool HN.out.symm, hS3.bel⟩
  obtain ⟨og, oo, oa, ob, rfl, _, _, ha, hbb⟩ := HO.out _ (Below.refl _ _)
  have HO : Hid (∀ W, Below w.heap.size w W → W.cell? ⟨og, oo, none⟩ = some (.int .i64 oa) ∧ W.cell? ⟨og, oo + (yn - 1), none⟩ = some (.int .i64 ob)) := fun W hb => by
    obtain ⟨g, off, a, b, e, c0, c1, e0, e1⟩ := HO.out W hb
    cases e
    rw [ha] at e0; rw [hbb] at e1
    cases e0; cases e1
    exact ⟨c0, c1⟩
  have HA : Hid (O[0]? = some oa ∧ O[yn - 1]? = some ob ∧ riseN O = true) := ⟨ha, hbb, h7⟩
  clear ha hbb
  have hyi : IntKind.i64.wrap ((yn : Int) - 1) = ((yn - 1 : Nat) : Int) := by rw [IntKind.wrap_i64]; omega
  have hyk : ((yn - 1 : Nat) : Int) < yn := by omega
  have hy0 : (0 : Int) < yn := by omega
  by_cases h8 : oa < 0
  · have HN : Hid (v = false) := HF.out fun hp => by have := (hp.o oa (List.mem_of_getElem? HA.out.1)).1; omega
    go_enter Tryz.func18, Tryz.ntmps18
    go_wp2_with (first | (go_at_call 48; refine (I.sNum_v h1 _).mono ?_; rintro e w1 ⟨rfl, hw1⟩; obtain rfl := hw1.symm) | (go_at_call 49; refine (l1In_v h6 _).mono ?_; rintro e w2 ⟨rfl, hw2⟩; obtain rfl := hw2.symm) | (go_at_call 50; refine (HR.out _ hlit.bel _ h7).mono ?_; rintro e w3 ⟨rfl, hb3⟩; have hS3 := hlit.step hb3; obtain ⟨y0, y1, y2, y3, y4, y5, _, _⟩ := HC.out _ hS3; obtain ⟨o0, oL⟩ := HO.out _ hS3.bel))
    go_ret
    exact ⟨ret_bool HN.out.symm, hS3.bel⟩
  by_cases h9 : 3 < ob
  · have HN : Hid (v = false) := HF.out fun hp => by have := (hp.o ob (List.mem_of_getElem? HA.out.2.1)).2; omega
    go_enter Tryz.func18, Tryz.ntmps18
    go_wp2_with (first | (go_at_call 48; refine (I.sNum_v h1 _).mono ?_; rintro e w1 ⟨rfl, hw1⟩; obtain rfl := hw1.symm) | (go_at_call 49; refine (l1In_v h6 _).mono ?_; rintro e w2 ⟨rfl, hw2⟩; obtain rfl := hw2.symm) | (go_at_call 50; refine (HR.out _ hlit.bel _ h7).mono ?_; rintro e w3 ⟨rfl, hb3⟩; have hS3 := hlit.step hb3; obtain ⟨y0, y1, y2, y3, y4, y5, _, _⟩ := HC.out _ hS3; obtain ⟨o0, oL⟩ := HO.out _ hS3.bel))
    go_ret
    exact ⟨ret_bool HN.out.symm, hS3.bel⟩
  have HW : Hid (DealP t q (yds QL) O V s ↔ (s = 1 → ∀ x ∈ V, x = 1) ∧ (∀ y ∈ yds QL, yB y = true ∧ y.t = t ∧ y.q = q) ∧ ∀ x ∈ V, x = 0 ∨ x = 1 ∨ x = 2) := by
    refine ⟨fun hp => ⟨hp.d, hp.y, hp.u⟩, fun ⟨p1, p2, p3⟩ => ⟨?_, ?_, by rw [HL.out.1]; omega, by rw [HL.out.1, HL.out.2.1], by rw [HL.out.1, HL.out.2.2], ?_, h7, rise_ends (n := yn - 1) (by rw [HL.out.2.1]; omega) h7 HA.out.1 HA.out.2.1 (by omega) (by omega), p2, p3, p1⟩⟩
    · unfold rgB at h1; simp only [Bool.and_eq_true, decide_eq_true_eq] at h1; exact h1.1
    · unfold rgB at h1; simp only [Bool.and_eq_true, decide_eq_true_eq] at h1; exact h1.2
    · unfold rgB at h6; simp only [decide_eq_true_eq] at h6; omega
  go_enter Tryz.func18, Tryz.ntmps18
  go_wp2_with (first | (go_at_call 48; refine (I.sNum_v h1 _).mono ?_; rintro e w1 ⟨rfl, hw1⟩; obtain rfl := hw1.symm) | (go_at_call 49; refine (l1In_v h6 _).mono ?_; rintro e w2 ⟨rfl, hw2⟩; obtain rfl := hw2.symm) | (go_at_call 50; refine (HR.out _ hlit.bel _ h7).mono ?_; rintro e w3 ⟨rfl, hb3⟩; have hS3 := hlit.step hb3; obtain ⟨y0, y1, y2, y3, y4, y5, _, _⟩ := HC.out _ hS3; obtain ⟨o0, oL⟩ := HO.out _ hS3.bel))
  have hyp : 0 < QL.length := by have := HH.out.yn; simp only at this; omega
  obtain ⟨gy, oy, rfl, _⟩ := HH.out.y.1.at hyp
  have huP : 0 < V.length := by rw [HL.out.2.2]; omega
  obtain ⟨gu, ou, rfl, _⟩ := HH.out.u.at huP
  clear hyp huP
  have HY : Hid (∀ k, k < yn → ∃ bt bq L sp sn sc, (yds QL)[k]? = some ⟨bt, bq, L⟩ ∧ (∀ W, Below w.heap.size w W → W.cell? ⟨gy, oy + k * 3, none⟩ = some (.int .i64 bt) ∧ W.cell? ⟨gy, oy + k * 3 + 1, none⟩ = some (.int .i64 bq) ∧ W.cell? ⟨gy, oy + k * 3 + 2, none⟩ = some (.slice sp sn sc) ∧ SlG I.kR W sp L) ∧ L.length = sn ∧ sn ≤ 10000000) := fun k hk => by
    have hkL : k < QL.length := by have := HH.out.yn; simp only at this; omega
    obtain ⟨⟨⟨bt, bq, L⟩, ⟨sp, sn, sc⟩⟩, hx⟩ : ∃ x : YQ, QL.getD k zyq = x := ⟨_, rfl⟩
    have hq := HH.out.y.2 _ (List.mem_of_getElem? (getY hkL))
    have hbd := HH.out.ys _ (List.mem_of_getElem? (getY hkL))
    have hgt := yds_get hkL
    have hgl := getY hkL
    rw [hx] at hq hbd hgt hgl
    refine ⟨bt, bq, L, sp, sn, sc, hgt, fun W hW => ?_, hq.2, hbd⟩
    obtain ⟨g', o', e, hC⟩ := (HH.out.y.1.step hW).at hkL
    cases e
    obtain ⟨c0, c1, c2⟩ := CsG.y3 hC hgl
    exact ⟨c0, c1, c2, hq.1.step hW⟩
  have HU : Hid (∀ k, k < yn → ∃ x, V[k]? = some x ∧ ∀ W, Below w.heap.size w W → W.cell? ⟨gu, ou + k, none⟩ = some (.int .i64 x)) := fun k hk => by
    have hkL : k < V.length := by rw [HL.out.2.2]; exact hk
    refine ⟨V[k], List.getElem?_eq_getElem hkL, fun W hW => ?_⟩
    obtain ⟨g', o', e, hC⟩ := (HH.out.u.step hW).at hkL
    cases e
    exact hC.int (List.getElem?_eq_getElem hkL)
  have HVn : Hid (V.length = yn ∧ (yds QL).length = yn) := ⟨HL.out.2.2, HL.out.1⟩
  clear HH HO HR HL y0 y1 y2 y3 y4 y5 o0 oL hb3 hlit
  go_loopw [4, 5] (fun av iv wr => ∃ (k : Nat) (b : Bool), k ≤ yn ∧ av = .bool b ∧ iv = .int .i64 k ∧ Hid ((V.take k).all (fun x => decide (x = 1)) = b ∧ (∀ (j : Nat) y, j < k → (yds QL)[j]? = some y → yB y = true ∧ y.t = t ∧ y.q = q) ∧ ∀ (j : Nat) x, j < k → V[j]? = some x → x = 0 ∨ x = 1 ∨ x = 2) ∧ Sg w wr [rG kG (.slice (some ⟨w.heap.size, 0, none⟩) 1 1) [⟨t, q, ⟨some ⟨gy, oy, none⟩, yn, yc⟩, ⟨some ⟨og, oo, none⟩, yn, oc⟩, ⟨some ⟨gu, ou, none⟩, yn, uc⟩, s⟩]]) (fun _ iv _ => yn - (intOf iv).toNat)
  case atStart => exact ⟨0, true, by omega, rfl, rfl, ⟨rfl, fun j y hj => by omega, fun j x hj => by omega⟩, hS3⟩
  case round =>
    clear hS3
    obtain ⟨k, b, hk, rfl, rfl, hall, hS1⟩ := hrel
    by_cases hlt : k < yn
    · have hki : (k : Int) < yn := by omega
      obtain ⟨bt, bq, L, sp, sn, sc, hgY, hcY, hLn, hbd⟩ := HY.out k hlt
      obtain ⟨x, hgV, hcV⟩ := HU.out k hlt
      have HG : Hid ((yds QL)[k]? = some ⟨bt, bq, L⟩ ∧ V[k]? = some x) := ⟨hgY, hgV⟩
      obtain ⟨bb, hbb⟩ : ∃ bb, I.batB bt bq L = bb := ⟨_, rfl⟩
      have HB := Lib.hid (fun W (hW : Below w.heap.size w W) => sBat_v hbb sp sc sn hLn W (hcY W hW).2.2.2 hbd)
      have HBB := Lib.hid hbb
      obtain ⟨b3, hb3⟩ : ∃ b3, rgB x 0 2 = b3 := ⟨_, rfl⟩
      have I1 := Lib.hid (fun W => l1In_v hb3 W)
      have HB3 := Lib.hid hb3
      have hS : ∀ W, Sg w W [rG kG (.slice (some ⟨w.heap.size, 0, none⟩) 1 1) [⟨t, q, ⟨some ⟨gy, oy, none⟩, yn, yc⟩, ⟨some ⟨og, oo, none⟩, yn, oc⟩, ⟨some ⟨gu, ou, none⟩, yn, uc⟩, s⟩]] → _ := fun W hb => And.intro (g6 hb (K := kG) (g := w.heap.size) (n := 1) (q := ⟨t, q, ⟨some ⟨gy, oy, none⟩, yn, yc⟩, ⟨some ⟨og, oo, none⟩, yn, oc⟩, ⟨some ⟨gu, ou, none⟩, yn, uc⟩, s⟩) (by simp) rfl) (And.intro (And.intro (hcY W hb.bel).1 (And.intro (hcY W hb.bel).2.1 (hcY W hb.bel).2.2.1)) (hcV W hb.bel))
      simp only at hS
      clear hgY hgV hcY hcV hLn hbd hbb hb3
      cases bb
      · have HN : Hid (v = false) := HF.out fun hp => by
          have := (hp.y _ (List.mem_of_getElem? HG.out.1)).1
          have h2 := HBB.out
          unfold yB at this; rw [h2] at this; cases this
        go_upto_region 8 with (fail)
        refine wp_region_quiet (C := fun w' => Sg w w' [rG kG (.slice (some ⟨w.heap.size, 0, none⟩) 1 1) [⟨t, q, ⟨some ⟨gy, oy, none⟩, yn, yc⟩, ⟨some ⟨og, oo, none⟩, yn, oc⟩, ⟨some ⟨gu, ou, none⟩, yn, uc⟩, s⟩]]) (by kernel_rfl) (by kernel_rfl) (hS1.step (Below.refl _ _).drew) ?_
        refine q_intro (fun A hA => ?_)
        have hf : Fr 123 A [(1, .pointer (some ⟨w.heap.size, 0, none⟩)), (5, .int .i64 (k : Int))] := by subst hA; exact ⟨rfl, by simp⟩
        refine q_step hf (d := 70) (v := .pointer (some ⟨w.heap.size, 2, none⟩)) rfl rfl (by decide) (by simp) (fun w' hw' => ?_) (fun A hA70 hf => ?_)
        · have f1 := hf.get (d := 1) (v := .pointer (some ⟨w.heap.size, 0, none⟩)) (by simp)
          clear hf
          simp [Oper.quietAt, Oper.quietUpon, go_sem, f1]
        refine q_step hf (d := 71) (v := .slice (some ⟨gy, oy, none⟩) yn yc) rfl rfl (by decide) (by simp) (fun w' hw' => ?_) (fun A hA71 hf => ?_)
        · have hc := hS _ hw'
          have f70 := hf.get (d := 70) (v := .pointer (some ⟨w.heap.size, 2, none⟩)) (by simp)
          clear hf
          simp [Oper.quietAt, Oper.quietUpon, go_sem, f70, hc]
        refine q_step hf (d := 72) (v := .int .i64 (k : Int)) rfl rfl (by decide) (by simp) (fun w' hw' => ?_) (fun A hA72 hf => ?_)
        · have f5 := hf.get (d := 5) (v := .int .i64 (k : Int)) (by simp)
          clear hf
          simp [Oper.quietAt, Oper.quietUpon, go_sem, f5]
        refine q_step hf (d := 73) (v := .pointer (some ⟨gy, oy + k * 3, none⟩)) rfl rfl (by decide) (by simp) (fun w' hw' => ?_) (fun A hA73 hf => ?_)
        · have f71 := hf.get (d := 71) (v := .slice (some ⟨gy, oy, none⟩) yn yc) (by simp)
          have f72 := hf.get (d := 72) (v := .int .i64 (k : Int)) (by simp)
          clear hf
          simp [Oper.quietAt, Oper.quietUpon, go_sem, f71, f72, hki]
        refine q_step hf (d := 74) (v := I.batV bt bq sp sn sc) rfl rfl (by decide) (by simp) (fun w' hw' => ?_) (fun A hA74 hf => ?_)
        · have hc := hS _ hw'
          have f73 := hf.get (d := 73) (v := .pointer (some ⟨gy, oy + k * 3, none⟩)) (by simp)
          clear hf
          simp [Oper.quietAt, Oper.quietUpon, go_sem, f73, hc, I.batV]
        refine q_step hf (d := 75) (v := .bool false) rfl rfl (by decide) (by simp) (fun w' hw' => ?_) (fun A hA75 hf => ?_)
        · have f74 := hf.get (d := 74) (v := I.batV bt bq sp sn sc) (by simp)
          clear hf
          simp [Oper.quietAt, Oper.quietUpon, go_sem, f74]
          exact (HB.out _ hw'.bel).mono fun e w1 h => ⟨h.1, hw'.step h.2⟩
        refine q_step hf (d := 76) (v := .bool true) rfl rfl (by decide) (by simp) (fun w' hw' => ?_) (fun A hA76 hf => ?_)
        · have f75 := hf.get (d := 75) (v := .bool false) (by simp)
          clear hf
          simp [Oper.quietAt, Oper.quietUpon, go_sem, f75]
        refine q_step hf (d := 77) (v := .bool true) rfl rfl (by decide) (by simp) (fun w' hw' => ?_) (fun A hA77 hf => ?_)
        · have f76 := hf.get (d := 76) (v := .bool true) (by simp)
          clear hf
          simp [Oper.quietAt, Oper.quietUpon, go_sem, f76]
        refine q_skip hf (d := 78) (e := 77) (b := true) rfl rfl (by simp) rfl rfl (by decide) (by simp) (fun A hA78 hf => ?_)
        refine q_skip hf (d := 79) (e := 77) (b := true) rfl rfl (by simp) rfl rfl (by decide) (by simp) (fun A hA79 hf => ?_)
        refine q_skip hf (d := 80) (e := 77) (b := true) rfl rfl (by simp) rfl rfl (by decide) (by simp) (fun A hA80 hf => ?_)
        refine q_skip hf (d := 81) (e := 77) (b := true) rfl rfl (by simp) rfl rfl (by decide) (by simp) (fun A hA81 hf => ?_)
        refine q_skip hf (d := 82) (e := 77) (b := true) rfl rfl (by simp) rfl rfl (by decide) (by simp) (fun A hA82 hf => ?_)
        refine q_skip hf (d := 83) (e := 77) (b := true) rfl rfl (by simp) rfl rfl (by decide) (by simp) (fun A hA83 hf => ?_)
        refine q_skip hf (d := 84) (e := 77) (b := true) rfl rfl (by simp) rfl rfl (by decide) (by simp) (fun A hA84 hf => ?_)
        refine q_skip hf (d := 85) (e := 77) (b := true) rfl rfl (by simp) rfl rfl (by decide) (by simp) (fun A hA85 hf => ?_)
        refine q_skip hf (d := 86) (e := 77) (b := true) rfl rfl (by simp) rfl rfl (by decide) (by simp) (fun A hA86 hf => ?_)
        refine q_step hf (d := 87) (v := .bool true) rfl rfl (by decide) (by simp) (fun w' hw' => ?_) (fun A hA87 hf => ?_)
        · have f77 := hf.get (d := 77) (v := .bool true) (by simp)
          clear hf
          simp [Oper.quietAt, Oper.quietUpon, go_sem, f77]
        refine q_step hf (d := 88) (v := .bool true) rfl rfl (by decide) (by simp) (fun w' hw' => ?_) (fun A hA88 hf => ?_)
        · have f87 := hf.get (d := 87) (v := .bool true) (by simp)
          clear hf
          simp [Oper.quietAt, Oper.quietUpon, go_sem, f87]
        refine q_skip hf (d := 89) (e := 88) (b := true) rfl rfl (by simp) rfl rfl (by decide) (by simp) (fun A hA89 hf => ?_)
        refine q_skip hf (d := 90) (e := 88) (b := true) rfl rfl (by simp) rfl rfl (by decide) (by simp) (fun A hA90 hf => ?_)
        refine q_skip hf (d := 91) (e := 88) (b := true) rfl rfl (by simp) rfl rfl (by decide) (by simp) (fun A hA91 hf => ?_)
        refine q_skip hf (d := 92) (e := 88) (b := true) rfl rfl (by simp) rfl rfl (by decide) (by simp) (fun A hA92 hf => ?_)
        refine q_skip hf (d := 93) (e := 88) (b := true) rfl rfl (by simp) rfl rfl (by decide) (by simp) (fun A hA93 hf => ?_)
        refine q_skip hf (d := 94) (e := 88) (b := true) rfl rfl (by simp) rfl rfl (by decide) (by simp) (fun A hA94 hf => ?_)
        refine q_skip hf (d := 95) (e := 88) (b := true) rfl rfl (by simp) rfl rfl (by decide) (by simp) (fun A hA95 hf => ?_)
        refine q_skip hf (d := 96) (e := 88) (b := true) rfl rfl (by simp) rfl rfl (by decide) (by simp) (fun A hA96 hf => ?_)
        refine q_skip hf (d := 97) (e := 88) (b := true) rfl rfl (by simp) rfl rfl (by decide) (by simp) (fun A hA97 hf => ?_)
        refine q_step hf (d := 98) (v := .bool true) rfl rfl (by decide) (by simp) (fun w' hw' => ?_) (fun A hA98 hf => ?_)
        · have f88 := hf.get (d := 88) (v := .bool true) (by simp)
          clear hf
          simp [Oper.quietAt, Oper.quietUpon, go_sem, f88]
        refine q_step hf (d := 99) (v := .bool true) rfl rfl (by decide) (by simp) (fun w' hw' => ?_) (fun A hA99 hf => ?_)
        · have f98 := hf.get (d := 98) (v := .bool true) (by simp)
          clear hf
          simp [Oper.quietAt, Oper.quietUpon, go_sem, f98]
        refine q_skip hf (d := 100) (e := 99) (b := true) rfl rfl (by simp) rfl rfl (by decide) (by simp) (fun A hA100 hf => ?_)
        refine q_skip hf (d := 101) (e := 99) (b := true) rfl rfl (by simp) rfl rfl (by decide) (by simp) (fun A hA101 hf => ?_)
        refine q_skip hf (d := 102) (e := 99) (b := true) rfl rfl (by simp) rfl rfl (by decide) (by simp) (fun A hA102 hf => ?_)
        refine q_skip hf (d := 103) (e := 99) (b := true) rfl rfl (by simp) rfl rfl (by decide) (by simp) (fun A hA103 hf => ?_)
        refine q_skip hf (d := 104) (e := 99) (b := true) rfl rfl (by simp) rfl rfl (by decide) (by simp) (fun A hA104 hf => ?_)
        refine q_skip hf (d := 105) (e := 99) (b := true) rfl rfl (by simp) rfl rfl (by decide) (by simp) (fun A hA105 hf => ?_)
        refine q_skip hf (d := 106) (e := 99) (b := true) rfl rfl (by simp) rfl rfl (by decide) (by simp) (fun A hA106 hf => ?_)
        refine q_step hf (d := 107) (v := .bool true) rfl rfl (by decide) (by simp) (fun w' hw' => ?_) (fun A hA107 hf => ?_)
        · have f99 := hf.get (d := 99) (v := .bool true) (by simp)
          clear hf
          simp [Oper.quietAt, Oper.quietUpon, go_sem, f99]
        refine wpQuiet_nil (fun w' hw' => ?_)
        clear hf
        subst hA107 hA106 hA105 hA104 hA103 hA102 hA101 hA100 hA99 hA98 hA97 hA96 hA95 hA94 hA93 hA92 hA91 hA90 hA89 hA88 hA87 hA86 hA85 hA84 hA83 hA82 hA81 hA80 hA79 hA78 hA77 hA76 hA75 hA74 hA73 hA72 hA71 hA70 hA
        simp only [Act.put, List.setIfInBounds_toArray, List.set_cons_succ, List.set_cons_zero]
        go_wp2
        go_ret
        exact ⟨ret_bool HN.out.symm, hw'.bel⟩
      by_cases d1 : bt = t
      case neg =>
        have HN : Hid (v = false) := HF.out fun hp => d1 (hp.y _ (List.mem_of_getElem? HG.out.1)).2.1
        have e1 : ¬ bt = t := d1
        go_upto_region 8 with (fail)
        refine wp_region_quiet (C := fun w' => Sg w w' [rG kG (.slice (some ⟨w.heap.size, 0, none⟩) 1 1) [⟨t, q, ⟨some ⟨gy, oy, none⟩, yn, yc⟩, ⟨some ⟨og, oo, none⟩, yn, oc⟩, ⟨some ⟨gu, ou, none⟩, yn, uc⟩, s⟩]]) (by kernel_rfl) (by kernel_rfl) (hS1.step (Below.refl _ _).drew) ?_
        refine q_intro (fun A hA => ?_)
        have hf : Fr 123 A [(1, .pointer (some ⟨w.heap.size, 0, none⟩)), (5, .int .i64 (k : Int))] := by subst hA; exact ⟨rfl, by simp⟩
        refine q_step hf (d := 70) (v := .pointer (some ⟨w.heap.size, 2, none⟩)) rfl rfl (by decide) (by simp) (fun w' hw' => ?_) (fun A hA70 hf => ?_)
        · have f1 := hf.get (d := 1) (v := .pointer (some ⟨w.heap.size, 0, none⟩)) (by simp)
          clear hf
          simp [Oper.quietAt, Oper.quietUpon, go_sem, f1]
        refine q_step hf (d := 71) (v := .slice (some ⟨gy, oy, none⟩) yn yc) rfl rfl (by decide) (by simp) (fun w' hw' => ?_) (fun A hA71 hf => ?_)
        · have hc := hS _ hw'
          have f70 := hf.get (d := 70) (v := .pointer (some ⟨w.heap.size, 2, none⟩)) (by simp)
          clear hf
          simp [Oper.quietAt, Oper.quietUpon, go_sem, f70, hc]
        refine q_step hf (d := 72) (v := .int .i64 (k : Int)) rfl rfl (by decide) (by simp) (fun w' hw' => ?_) (fun A hA72 hf => ?_)
        · have f5 := hf.get (d := 5) (v := .int .i64 (k : Int)) (by simp)
          clear hf
          simp [Oper.quietAt, Oper.quietUpon, go_sem, f5]
        refine q_step hf (d := 73) (v := .pointer (some ⟨gy, oy + k * 3, none⟩)) rfl rfl (by decide) (by simp) (fun w' hw' => ?_) (fun A hA73 hf => ?_)
        · have f71 := hf.get (d := 71) (v := .slice (some ⟨gy, oy, none⟩) yn yc) (by simp)
          have f72 := hf.get (d := 72) (v := .int .i64 (k : Int)) (by simp)
          clear hf
          simp [Oper.quietAt, Oper.quietUpon, go_sem, f71, f72, hki]
        refine q_step hf (d := 74) (v := I.batV bt bq sp sn sc) rfl rfl (by decide) (by simp) (fun w' hw' => ?_) (fun A hA74 hf => ?_)
        · have hc := hS _ hw'
          have f73 := hf.get (d := 73) (v := .pointer (some ⟨gy, oy + k * 3, none⟩)) (by simp)
          clear hf
          simp [Oper.quietAt, Oper.quietUpon, go_sem, f73, hc, I.batV]
        refine q_step hf (d := 75) (v := .bool true) rfl rfl (by decide) (by simp) (fun w' hw' => ?_) (fun A hA75 hf => ?_)
        · have f74 := hf.get (d := 74) (v := I.batV bt bq sp sn sc) (by simp)
          clear hf
          simp [Oper.quietAt, Oper.quietUpon, go_sem, f74]
          exact (HB.out _ hw'.bel).mono fun e w1 h => ⟨h.1, hw'.step h.2⟩
        refine q_step hf (d := 76) (v := .bool false) rfl rfl (by decide) (by simp) (fun w' hw' => ?_) (fun A hA76 hf => ?_)
        · have f75 := hf.get (d := 75) (v := .bool true) (by simp)
          clear hf
          simp [Oper.quietAt, Oper.quietUpon, go_sem, f75]
        refine q_step hf (d := 77) (v := .bool false) rfl rfl (by decide) (by simp) (fun w' hw' => ?_) (fun A hA77 hf => ?_)
        · have f76 := hf.get (d := 76) (v := .bool false) (by simp)
          clear hf
          simp [Oper.quietAt, Oper.quietUpon, go_sem, f76]
        refine q_want hf (d := 78) (v := .pointer (some ⟨w.heap.size, 2, none⟩)) (e := 77) rfl rfl (by simp) rfl (by decide) (by simp) (fun w' hw' => ?_) (fun A hA78 hf => ?_)
        · have f1 := hf.get (d := 1) (v := .pointer (some ⟨w.heap.size, 0, none⟩)) (by simp)
          clear hf
          simp [Oper.quietAt, Oper.quietUpon, go_sem, f1]
        refine q_want hf (d := 79) (v := .slice (some ⟨gy, oy, none⟩) yn yc) (e := 77) rfl rfl (by simp) rfl (by decide) (by simp) (fun w' hw' => ?_) (fun A hA79 hf => ?_)
        · have hc := hS _ hw'
          have f78 := hf.get (d := 78) (v := .pointer (some ⟨w.heap.size, 2, none⟩)) (by simp)
          clear hf
          simp [Oper.quietAt, Oper.quietUpon, go_sem, f78, hc]
        refine q_want hf (d := 80) (v := .int .i64 (k : Int)) (e := 77) rfl rfl (by simp) rfl (by decide) (by simp) (fun w' hw' => ?_) (fun A hA80 hf => ?_)
        · have f5 := hf.get (d := 5) (v := .int .i64 (k : Int)) (by simp)
          clear hf
          simp [Oper.quietAt, Oper.quietUpon, go_sem, f5]
        refine q_want hf (d := 81) (v := .pointer (some ⟨gy, oy + k * 3, none⟩)) (e := 77) rfl rfl (by simp) rfl (by decide) (by simp) (fun w' hw' => ?_) (fun A hA81 hf => ?_)
        · have f79 := hf.get (d := 79) (v := .slice (some ⟨gy, oy, none⟩) yn yc) (by simp)
          have f80 := hf.get (d := 80) (v := .int .i64 (k : Int)) (by simp)
          clear hf
          simp [Oper.quietAt, Oper.quietUpon, go_sem, f79, f80, hki]
        refine q_want hf (d := 82) (v := .pointer (some ⟨gy, oy + k * 3, none⟩)) (e := 77) rfl rfl (by simp) rfl (by decide) (by simp) (fun w' hw' => ?_) (fun A hA82 hf => ?_)
        · have f81 := hf.get (d := 81) (v := .pointer (some ⟨gy, oy + k * 3, none⟩)) (by simp)
          clear hf
          simp [Oper.quietAt, Oper.quietUpon, go_sem, f81]
        refine q_want hf (d := 83) (v := .int .i64 bt) (e := 77) rfl rfl (by simp) rfl (by decide) (by simp) (fun w' hw' => ?_) (fun A hA83 hf => ?_)
        · have hc := hS _ hw'
          have f82 := hf.get (d := 82) (v := .pointer (some ⟨gy, oy + k * 3, none⟩)) (by simp)
          clear hf
          simp [Oper.quietAt, Oper.quietUpon, go_sem, f82, hc]
        refine q_want hf (d := 84) (v := .pointer (some ⟨w.heap.size, 0, none⟩)) (e := 77) rfl rfl (by simp) rfl (by decide) (by simp) (fun w' hw' => ?_) (fun A hA84 hf => ?_)
        · have f1 := hf.get (d := 1) (v := .pointer (some ⟨w.heap.size, 0, none⟩)) (by simp)
          clear hf
          simp [Oper.quietAt, Oper.quietUpon, go_sem, f1]
        refine q_want hf (d := 85) (v := .int .i64 t) (e := 77) rfl rfl (by simp) rfl (by decide) (by simp) (fun w' hw' => ?_) (fun A hA85 hf => ?_)
        · have hc := hS _ hw'
          have f84 := hf.get (d := 84) (v := .pointer (some ⟨w.heap.size, 0, none⟩)) (by simp)
          clear hf
          simp [Oper.quietAt, Oper.quietUpon, go_sem, f84, hc]
        refine q_want hf (d := 86) (v := .bool true) (e := 77) rfl rfl (by simp) rfl (by decide) (by simp) (fun w' hw' => ?_) (fun A hA86 hf => ?_)
        · have f83 := hf.get (d := 83) (v := .int .i64 bt) (by simp)
          have f85 := hf.get (d := 85) (v := .int .i64 t) (by simp)
          clear hf
          simp [Oper.quietAt, Oper.quietUpon, go_sem, f83, f85, e1]
        refine q_step hf (d := 87) (v := .bool true) rfl rfl (by decide) (by simp) (fun w' hw' => ?_) (fun A hA87 hf => ?_)
        · have f77 := hf.get (d := 77) (v := .bool false) (by simp)
          have f86 := hf.get (d := 86) (v := .bool true) (by simp)
          clear hf
          simp [Oper.quietAt, Oper.quietUpon, go_sem, f77, f86]
        refine q_step hf (d := 88) (v := .bool true) rfl rfl (by decide) (by simp) (fun w' hw' => ?_) (fun A hA88 hf => ?_)
        · have f87 := hf.get (d := 87) (v := .bool true) (by simp)
          clear hf
          simp [Oper.quietAt, Oper.quietUpon, go_sem, f87]
        refine q_skip hf (d := 89) (e := 88) (b := true) rfl rfl (by simp) rfl rfl (by decide) (by simp) (fun A hA89 hf => ?_)
        refine q_skip hf (d := 90) (e := 88) (b := true) rfl rfl (by simp) rfl rfl (by decide) (by simp) (fun A hA90 hf => ?_)
        refine q_skip hf (d := 91) (e := 88) (b := true) rfl rfl (by simp) rfl rfl (by decide) (by simp) (fun A hA91 hf => ?_)
        refine q_skip hf (d := 92) (e := 88) (b := true) rfl rfl (by simp) rfl rfl (by decide) (by simp) (fun A hA92 hf => ?_)
        refine q_skip hf (d := 93) (e := 88) (b := true) rfl rfl (by simp) rfl rfl (by decide) (by simp) (fun A hA93 hf => ?_)
        refine q_skip hf (d := 94) (e := 88) (b := true) rfl rfl (by simp) rfl rfl (by decide) (by simp) (fun A hA94 hf => ?_)
        refine q_skip hf (d := 95) (e := 88) (b := true) rfl rfl (by simp) rfl rfl (by decide) (by simp) (fun A hA95 hf => ?_)
        refine q_skip hf (d := 96) (e := 88) (b := true) rfl rfl (by simp) rfl rfl (by decide) (by simp) (fun A hA96 hf => ?_)
        refine q_skip hf (d := 97) (e := 88) (b := true) rfl rfl (by simp) rfl rfl (by decide) (by simp) (fun A hA97 hf => ?_)
        refine q_step hf (d := 98) (v := .bool true) rfl rfl (by decide) (by simp) (fun w' hw' => ?_) (fun A hA98 hf => ?_)
        · have f88 := hf.get (d := 88) (v := .bool true) (by simp)
          clear hf
          simp [Oper.quietAt, Oper.quietUpon, go_sem, f88]
        refine q_step hf (d := 99) (v := .bool true) rfl rfl (by decide) (by simp) (fun w' hw' => ?_) (fun A hA99 hf => ?_)
        · have f98 := hf.get (d := 98) (v := .bool true) (by simp)
          clear hf
          simp [Oper.quietAt, Oper.quietUpon, go_sem, f98]
        refine q_skip hf (d := 100) (e := 99) (b := true) rfl rfl (by simp) rfl rfl (by decide) (by simp) (fun A hA100 hf => ?_)
        refine q_skip hf (d := 101) (e := 99) (b := true) rfl rfl (by simp) rfl rfl (by decide) (by simp) (fun A hA101 hf => ?_)
        refine q_skip hf (d := 102) (e := 99) (b := true) rfl rfl (by simp) rfl rfl (by decide) (by simp) (fun A hA102 hf => ?_)
        refine q_skip hf (d := 103) (e := 99) (b := true) rfl rfl (by simp) rfl rfl (by decide) (by simp) (fun A hA103 hf => ?_)
        refine q_skip hf (d := 104) (e := 99) (b := true) rfl rfl (by simp) rfl rfl (by decide) (by simp) (fun A hA104 hf => ?_)
        refine q_skip hf (d := 105) (e := 99) (b := true) rfl rfl (by simp) rfl rfl (by decide) (by simp) (fun A hA105 hf => ?_)
        refine q_skip hf (d := 106) (e := 99) (b := true) rfl rfl (by simp) rfl rfl (by decide) (by simp) (fun A hA106 hf => ?_)
        refine q_step hf (d := 107) (v := .bool true) rfl rfl (by decide) (by simp) (fun w' hw' => ?_) (fun A hA107 hf => ?_)
        · have f99 := hf.get (d := 99) (v := .bool true) (by simp)
          clear hf
          simp [Oper.quietAt, Oper.quietUpon, go_sem, f99]
        refine wpQuiet_nil (fun w' hw' => ?_)
        clear hf
        subst hA107 hA106 hA105 hA104 hA103 hA102 hA101 hA100 hA99 hA98 hA97 hA96 hA95 hA94 hA93 hA92 hA91 hA90 hA89 hA88 hA87 hA86 hA85 hA84 hA83 hA82 hA81 hA80 hA79 hA78 hA77 hA76 hA75 hA74 hA73 hA72 hA71 hA70 hA
        simp only [Act.put, List.setIfInBounds_toArray, List.set_cons_succ, List.set_cons_zero]
        go_wp2
        go_ret
        exact ⟨ret_bool HN.out.symm, hw'.bel⟩
      subst d1
      by_cases d2 : bq = q
      case neg =>
        have HN : Hid (v = false) := HF.out fun hp => d2 (hp.y _ (List.mem_of_getElem? HG.out.1)).2.2
        have e2 : ¬ bq = q := d2
        go_upto_region 8 with (fail)
        refine wp_region_quiet (C := fun w' => Sg w w' [rG kG (.slice (some ⟨w.heap.size, 0, none⟩) 1 1) [⟨bt, q, ⟨some ⟨gy, oy, none⟩, yn, yc⟩, ⟨some ⟨og, oo, none⟩, yn, oc⟩, ⟨some ⟨gu, ou, none⟩, yn, uc⟩, s⟩]]) (by kernel_rfl) (by kernel_rfl) (hS1.step (Below.refl _ _).drew) ?_
        refine q_intro (fun A hA => ?_)
        have hf : Fr 123 A [(1, .pointer (some ⟨w.heap.size, 0, none⟩)), (5, .int .i64 (k : Int))] := by subst hA; exact ⟨rfl, by simp⟩
        refine q_step hf (d := 70) (v := .pointer (some ⟨w.heap.size, 2, none⟩)) rfl rfl (by decide) (by simp) (fun w' hw' => ?_) (fun A hA70 hf => ?_)
        · have f1 := hf.get (d := 1) (v := .pointer (some ⟨w.heap.size, 0, none⟩)) (by simp)
          clear hf
          simp [Oper.quietAt, Oper.quietUpon, go_sem, f1]
        refine q_step hf (d := 71) (v := .slice (some ⟨gy, oy, none⟩) yn yc) rfl rfl (by decide) (by simp) (fun w' hw' => ?_) (fun A hA71 hf => ?_)
        · have hc := hS _ hw'
          have f70 := hf.get (d := 70) (v := .pointer (some ⟨w.heap.size, 2, none⟩)) (by simp)
          clear hf
          simp [Oper.quietAt, Oper.quietUpon, go_sem, f70, hc]
        refine q_step hf (d := 72) (v := .int .i64 (k : Int)) rfl rfl (by decide) (by simp) (fun w' hw' => ?_) (fun A hA72 hf => ?_)
        · have f5 := hf.get (d := 5) (v := .int .i64 (k : Int)) (by simp)
          clear hf
          simp [Oper.quietAt, Oper.quietUpon, go_sem, f5]
        refine q_step hf (d := 73) (v := .pointer (some ⟨gy, oy + k * 3, none⟩)) rfl rfl (by decide) (by simp) (fun w' hw' => ?_) (fun A hA73 hf => ?_)
        · have f71 := hf.get (d := 71) (v := .slice (some ⟨gy, oy, none⟩) yn yc) (by simp)
          have f72 := hf.get (d := 72) (v := .int .i64 (k : Int)) (by simp)
          clear hf
          simp [Oper.quietAt, Oper.quietUpon, go_sem, f71, f72, hki]
        refine q_step hf (d := 74) (v := I.batV bt bq sp sn sc) rfl rfl (by decide) (by simp) (fun w' hw' => ?_) (fun A hA74 hf => ?_)
        · have hc := hS _ hw'
          have f73 := hf.get (d := 73) (v := .pointer (some ⟨gy, oy + k * 3, none⟩)) (by simp)
          clear hf
          simp [Oper.quietAt, Oper.quietUpon, go_sem, f73, hc, I.batV]
        refine q_step hf (d := 75) (v := .bool true) rfl rfl (by decide) (by simp) (fun w' hw' => ?_) (fun A hA75 hf => ?_)
        · have f74 := hf.get (d := 74) (v := I.batV bt bq sp sn sc) (by simp)
          clear hf
          simp [Oper.quietAt, Oper.quietUpon, go_sem, f74]
          exact (HB.out _ hw'.bel).mono fun e w1 h => ⟨h.1, hw'.step h.2⟩
        refine q_step hf (d := 76) (v := .bool false) rfl rfl (by decide) (by simp) (fun w' hw' => ?_) (fun A hA76 hf => ?_)
        · have f75 := hf.get (d := 75) (v := .bool true) (by simp)
          clear hf
          simp [Oper.quietAt, Oper.quietUpon, go_sem, f75]
        refine q_step hf (d := 77) (v := .bool false) rfl rfl (by decide) (by simp) (fun w' hw' => ?_) (fun A hA77 hf => ?_)
        · have f76 := hf.get (d := 76) (v := .bool false) (by simp)
          clear hf
          simp [Oper.quietAt, Oper.quietUpon, go_sem, f76]
        refine q_want hf (d := 78) (v := .pointer (some ⟨w.heap.size, 2, none⟩)) (e := 77) rfl rfl (by simp) rfl (by decide) (by simp) (fun w' hw' => ?_) (fun A hA78 hf => ?_)
        · have f1 := hf.get (d := 1) (v := .pointer (some ⟨w.heap.size, 0, none⟩)) (by simp)
          clear hf
          simp [Oper.quietAt, Oper.quietUpon, go_sem, f1]
        refine q_want hf (d := 79) (v := .slice (some ⟨gy, oy, none⟩) yn yc) (e := 77) rfl rfl (by simp) rfl (by decide) (by simp) (fun w' hw' => ?_) (fun A hA79 hf => ?_)
        · have hc := hS _ hw'
          have f78 := hf.get (d := 78) (v := .pointer (some ⟨w.heap.size, 2, none⟩)) (by simp)
          clear hf
          simp [Oper.quietAt, Oper.quietUpon, go_sem, f78, hc]
        refine q_want hf (d := 80) (v := .int .i64 (k : Int)) (e := 77) rfl rfl (by simp) rfl (by decide) (by simp) (fun w' hw' => ?_) (fun A hA80 hf => ?_)
        · have f5 := hf.get (d := 5) (v := .int .i64 (k : Int)) (by simp)
          clear hf
          simp [Oper.quietAt, Oper.quietUpon, go_sem, f5]
        refine q_want hf (d := 81) (v := .pointer (some ⟨gy, oy + k * 3, none⟩)) (e := 77) rfl rfl (by simp) rfl (by decide) (by simp) (fun w' hw' => ?_) (fun A hA81 hf => ?_)
        · have f79 := hf.get (d := 79) (v := .slice (some ⟨gy, oy, none⟩) yn yc) (by simp)
          have f80 := hf.get (d := 80) (v := .int .i64 (k : Int)) (by simp)
          clear hf
          simp [Oper.quietAt, Oper.quietUpon, go_sem, f79, f80, hki]
        refine q_want hf (d := 82) (v := .pointer (some ⟨gy, oy + k * 3, none⟩)) (e := 77) rfl rfl (by simp) rfl (by decide) (by simp) (fun w' hw' => ?_) (fun A hA82 hf => ?_)
        · have f81 := hf.get (d := 81) (v := .pointer (some ⟨gy, oy + k * 3, none⟩)) (by simp)
          clear hf
          simp [Oper.quietAt, Oper.quietUpon, go_sem, f81]
        refine q_want hf (d := 83) (v := .int .i64 bt) (e := 77) rfl rfl (by simp) rfl (by decide) (by simp) (fun w' hw' => ?_) (fun A hA83 hf => ?_)
        · have hc := hS _ hw'
          have f82 := hf.get (d := 82) (v := .pointer (some ⟨gy, oy + k * 3, none⟩)) (by simp)
          clear hf
          simp [Oper.quietAt, Oper.quietUpon, go_sem, f82, hc]
        refine q_want hf (d := 84) (v := .pointer (some ⟨w.heap.size, 0, none⟩)) (e := 77) rfl rfl (by simp) rfl (by decide) (by simp) (fun w' hw' => ?_) (fun A hA84 hf => ?_)
        · have f1 := hf.get (d := 1) (v := .pointer (some ⟨w.heap.size, 0, none⟩)) (by simp)
          clear hf
          simp [Oper.quietAt, Oper.quietUpon, go_sem, f1]
        refine q_want hf (d := 85) (v := .int .i64 bt) (e := 77) rfl rfl (by simp) rfl (by decide) (by simp) (fun w' hw' => ?_) (fun A hA85 hf => ?_)
        · have hc := hS _ hw'
          have f84 := hf.get (d := 84) (v := .pointer (some ⟨w.heap.size, 0, none⟩)) (by simp)
          clear hf
          simp [Oper.quietAt, Oper.quietUpon, go_sem, f84, hc]
        refine q_want hf (d := 86) (v := .bool false) (e := 77) rfl rfl (by simp) rfl (by decide) (by simp) (fun w' hw' => ?_) (fun A hA86 hf => ?_)
        · have f83 := hf.get (d := 83) (v := .int .i64 bt) (by simp)
          have f85 := hf.get (d := 85) (v := .int .i64 bt) (by simp)
          clear hf
          simp [Oper.quietAt, Oper.quietUpon, go_sem, f83, f85]
        refine q_step hf (d := 87) (v := .bool false) rfl rfl (by decide) (by simp) (fun w' hw' => ?_) (fun A hA87 hf => ?_)
        · have f77 := hf.get (d := 77) (v := .bool false) (by simp)
          have f86 := hf.get (d := 86) (v := .bool false) (by simp)
          clear hf
          simp [Oper.quietAt, Oper.quietUpon, go_sem, f77, f86]
        refine q_step hf (d := 88) (v := .bool false) rfl rfl (by decide) (by simp) (fun w' hw' => ?_) (fun A hA88 hf => ?_)
        · have f87 := hf.get (d := 87) (v := .bool false) (by simp)
          clear hf
          simp [Oper.quietAt, Oper.quietUpon, go_sem, f87]
        refine q_want hf (d := 89) (v := .pointer (some ⟨w.heap.size, 2, none⟩)) (e := 88) rfl rfl (by simp) rfl (by decide) (by simp) (fun w' hw' => ?_) (fun A hA89 hf => ?_)
        · have f1 := hf.get (d := 1) (v := .pointer (some ⟨w.heap.size, 0, none⟩)) (by simp)
          clear hf
          simp [Oper.quietAt, Oper.quietUpon, go_sem, f1]
        refine q_want hf (d := 90) (v := .slice (some ⟨gy, oy, none⟩) yn yc) (e := 88) rfl rfl (by simp) rfl (by decide) (by simp) (fun w' hw' => ?_) (fun A hA90 hf => ?_)
        · have hc := hS _ hw'
          have f89 := hf.get (d := 89) (v := .pointer (some ⟨w.heap.size, 2, none⟩)) (by simp)
          clear hf
          simp [Oper.quietAt, Oper.quietUpon, go_sem, f89, hc]
        refine q_want hf (d := 91) (v := .int .i64 (k : Int)) (e := 88) rfl rfl (by simp) rfl (by decide) (by simp) (fun w' hw' => ?_) (fun A hA91 hf => ?_)
        · have f5 := hf.get (d := 5) (v := .int .i64 (k : Int)) (by simp)
          clear hf
          simp [Oper.quietAt, Oper.quietUpon, go_sem, f5]
        refine q_want hf (d := 92) (v := .pointer (some ⟨gy, oy + k * 3, none⟩)) (e := 88) rfl rfl (by simp) rfl (by decide) (by simp) (fun w' hw' => ?_) (fun A hA92 hf => ?_)
        · have f90 := hf.get (d := 90) (v := .slice (some ⟨gy, oy, none⟩) yn yc) (by simp)
          have f91 := hf.get (d := 91) (v := .int .i64 (k : Int)) (by simp)
          clear hf
          simp [Oper.quietAt, Oper.quietUpon, go_sem, f90, f91, hki]
        refine q_want hf (d := 93) (v := .pointer (some ⟨gy, oy + k * 3 + 1, none⟩)) (e := 88) rfl rfl (by simp) rfl (by decide) (by simp) (fun w' hw' => ?_) (fun A hA93 hf => ?_)
        · have f92 := hf.get (d := 92) (v := .pointer (some ⟨gy, oy + k * 3, none⟩)) (by simp)
          clear hf
          simp [Oper.quietAt, Oper.quietUpon, go_sem, f92]
        refine q_want hf (d := 94) (v := .int .i64 bq) (e := 88) rfl rfl (by simp) rfl (by decide) (by simp) (fun w' hw' => ?_) (fun A hA94 hf => ?_)
        · have hc := hS _ hw'
          have f93 := hf.get (d := 93) (v := .pointer (some ⟨gy, oy + k * 3 + 1, none⟩)) (by simp)
          clear hf
          simp [Oper.quietAt, Oper.quietUpon, go_sem, f93, hc]
        refine q_want hf (d := 95) (v := .pointer (some ⟨w.heap.size, 1, none⟩)) (e := 88) rfl rfl (by simp) rfl (by decide) (by simp) (fun w' hw' => ?_) (fun A hA95 hf => ?_)
        · have f1 := hf.get (d := 1) (v := .pointer (some ⟨w.heap.size, 0, none⟩)) (by simp)
          clear hf
          simp [Oper.quietAt, Oper.quietUpon, go_sem, f1]
        refine q_want hf (d := 96) (v := .int .i64 q) (e := 88) rfl rfl (by simp) rfl (by decide) (by simp) (fun w' hw' => ?_) (fun A hA96 hf => ?_)
        · have hc := hS _ hw'
          have f95 := hf.get (d := 95) (v := .pointer (some ⟨w.heap.size, 1, none⟩)) (by simp)
          clear hf
          simp [Oper.quietAt, Oper.quietUpon, go_sem, f95, hc]
        refine q_want hf (d := 97) (v := .bool true) (e := 88) rfl rfl (by simp) rfl (by decide) (by simp) (fun w' hw' => ?_) (fun A hA97 hf => ?_)
        · have f94 := hf.get (d := 94) (v := .int .i64 bq) (by simp)
          have f96 := hf.get (d := 96) (v := .int .i64 q) (by simp)
          clear hf
          simp [Oper.quietAt, Oper.quietUpon, go_sem, f94, f96, e2]
        refine q_step hf (d := 98) (v := .bool true) rfl rfl (by decide) (by simp) (fun w' hw' => ?_) (fun A hA98 hf => ?_)
        · have f88 := hf.get (d := 88) (v := .bool false) (by simp)
          have f97 := hf.get (d := 97) (v := .bool true) (by simp)
          clear hf
          simp [Oper.quietAt, Oper.quietUpon, go_sem, f88, f97]
        refine q_step hf (d := 99) (v := .bool true) rfl rfl (by decide) (by simp) (fun w' hw' => ?_) (fun A hA99 hf => ?_)
        · have f98 := hf.get (d := 98) (v := .bool true) (by simp)
          clear hf
          simp [Oper.quietAt, Oper.quietUpon, go_sem, f98]
        refine q_skip hf (d := 100) (e := 99) (b := true) rfl rfl (by simp) rfl rfl (by decide) (by simp) (fun A hA100 hf => ?_)
        refine q_skip hf (d := 101) (e := 99) (b := true) rfl rfl (by simp) rfl rfl (by decide) (by simp) (fun A hA101 hf => ?_)
        refine q_skip hf (d := 102) (e := 99) (b := true) rfl rfl (by simp) rfl rfl (by decide) (by simp) (fun A hA102 hf => ?_)
        refine q_skip hf (d := 103) (e := 99) (b := true) rfl rfl (by simp) rfl rfl (by decide) (by simp) (fun A hA103 hf => ?_)
        refine q_skip hf (d := 104) (e := 99) (b := true) rfl rfl (by simp) rfl rfl (by decide) (by simp) (fun A hA104 hf => ?_)
        refine q_skip hf (d := 105) (e := 99) (b := true) rfl rfl (by simp) rfl rfl (by decide) (by simp) (fun A hA105 hf => ?_)
        refine q_skip hf (d := 106) (e := 99) (b := true) rfl rfl (by simp) rfl rfl (by decide) (by simp) (fun A hA106 hf => ?_)
        refine q_step hf (d := 107) (v := .bool true) rfl rfl (by decide) (by simp) (fun w' hw' => ?_) (fun A hA107 hf => ?_)
        · have f99 := hf.get (d := 99) (v := .bool true) (by simp)
          clear hf
          simp [Oper.quietAt, Oper.quietUpon, go_sem, f99]
        refine wpQuiet_nil (fun w' hw' => ?_)
        clear hf
        subst hA107 hA106 hA105 hA104 hA103 hA102 hA101 hA100 hA99 hA98 hA97 hA96 hA95 hA94 hA93 hA92 hA91 hA90 hA89 hA88 hA87 hA86 hA85 hA84 hA83 hA82 hA81 hA80 hA79 hA78 hA77 hA76 hA75 hA74 hA73 hA72 hA71 hA70 hA
        simp only [Act.put, List.setIfInBounds_toArray, List.set_cons_succ, List.set_cons_zero]
        go_wp2
        go_ret
        exact ⟨ret_bool HN.out.symm, hw'.bel⟩
      subst d2
      cases b3
      · have HN : Hid (v = false) := HF.out fun hp => by
          have := hp.u _ (List.mem_of_getElem? HG.out.2)
          have h2 := HB3.out
          unfold rgB at h2; rw [decide_eq_false_iff_not] at h2; omega
        go_upto_region 8 with (fail)
        refine wp_region_quiet (C := fun w' => Sg w w' [rG kG (.slice (some ⟨w.heap.size, 0, none⟩) 1 1) [⟨bt, bq, ⟨some ⟨gy, oy, none⟩, yn, yc⟩, ⟨some ⟨og, oo, none⟩, yn, oc⟩, ⟨some ⟨gu, ou, none⟩, yn, uc⟩, s⟩]]) (by kernel_rfl) (by kernel_rfl) (hS1.step (Below.refl _ _).drew) ?_
        refine q_intro (fun A hA => ?_)
        have hf : Fr 123 A [(1, .pointer (some ⟨w.heap.size, 0, none⟩)), (5, .int .i64 (k : Int))] := by subst hA; exact ⟨rfl, by simp⟩
        refine q_step hf (d := 70) (v := .pointer (some ⟨w.heap.size, 2, none⟩)) rfl rfl (by decide) (by simp) (fun w' hw' => ?_) (fun A hA70 hf => ?_)
        · have f1 := hf.get (d := 1) (v := .pointer (some ⟨w.heap.size, 0, none⟩)) (by simp)
          clear hf
          simp [Oper.quietAt, Oper.quietUpon, go_sem, f1]
        refine q_step hf (d := 71) (v := .slice (some ⟨gy, oy, none⟩) yn yc) rfl rfl (by decide) (by simp) (fun w' hw' => ?_) (fun A hA71 hf => ?_)
        · have hc := hS _ hw'
          have f70 := hf.get (d := 70) (v := .pointer (some ⟨w.heap.size, 2, none⟩)) (by simp)
          clear hf
          simp [Oper.quietAt, Oper.quietUpon, go_sem, f70, hc]
        refine q_step hf (d := 72) (v := .int .i64 (k : Int)) rfl rfl (by decide) (by simp) (fun w' hw' => ?_) (fun A hA72 hf => ?_)
        · have f5 := hf.get (d := 5) (v := .int .i64 (k : Int)) (by simp)
          clear hf
          simp [Oper.quietAt, Oper.quietUpon, go_sem, f5]
        refine q_step hf (d := 73) (v := .pointer (some ⟨gy, oy + k * 3, none⟩)) rfl rfl (by decide) (by simp) (fun w' hw' => ?_) (fun A hA73 hf => ?_)
        · have f71 := hf.get (d := 71) (v := .slice (some ⟨gy, oy, none⟩) yn yc) (by simp)
          have f72 := hf.get (d := 72) (v := .int .i64 (k : Int)) (by simp)
          clear hf
          simp [Oper.quietAt, Oper.quietUpon, go_sem, f71, f72, hki]
        refine q_step hf (d := 74) (v := I.batV bt bq sp sn sc) rfl rfl (by decide) (by simp) (fun w' hw' => ?_) (fun A hA74 hf => ?_)
        · have hc := hS _ hw'
          have f73 := hf.get (d := 73) (v := .pointer (some ⟨gy, oy + k * 3, none⟩)) (by simp)
          clear hf
          simp [Oper.quietAt, Oper.quietUpon, go_sem, f73, hc, I.batV]
        refine q_step hf (d := 75) (v := .bool true) rfl rfl (by decide) (by simp) (fun w' hw' => ?_) (fun A hA75 hf => ?_)
        · have f74 := hf.get (d := 74) (v := I.batV bt bq sp sn sc) (by simp)
          clear hf
          simp [Oper.quietAt, Oper.quietUpon, go_sem, f74]
          exact (HB.out _ hw'.bel).mono fun e w1 h => ⟨h.1, hw'.step h.2⟩
        refine q_step hf (d := 76) (v := .bool false) rfl rfl (by decide) (by simp) (fun w' hw' => ?_) (fun A hA76 hf => ?_)
        · have f75 := hf.get (d := 75) (v := .bool true) (by simp)
          clear hf
          simp [Oper.quietAt, Oper.quietUpon, go_sem, f75]
        refine q_step hf (d := 77) (v := .bool false) rfl rfl (by decide) (by simp) (fun w' hw' => ?_) (fun A hA77 hf => ?_)
        · have f76 := hf.get (d := 76) (v := .bool false) (by simp)
          clear hf
          simp [Oper.quietAt, Oper.quietUpon, go_sem, f76]
        refine q_want hf (d := 78) (v := .pointer (some ⟨w.heap.size, 2, none⟩)) (e := 77) rfl rfl (by simp) rfl (by decide) (by simp) (fun w' hw' => ?_) (fun A hA78 hf => ?_)
        · have f1 := hf.get (d := 1) (v := .pointer (some ⟨w.heap.size, 0, none⟩)) (by simp)
          clear hf
          simp [Oper.quietAt, Oper.quietUpon, go_sem, f1]
        refine q_want hf (d := 79) (v := .slice (some ⟨gy, oy, none⟩) yn yc) (e := 77) rfl rfl (by simp) rfl (by decide) (by simp) (fun w' hw' => ?_) (fun A hA79 hf => ?_)
        · have hc := hS _ hw'
          have f78 := hf.get (d := 78) (v := .pointer (some ⟨w.heap.size, 2, none⟩)) (by simp)
          clear hf
          simp [Oper.quietAt, Oper.quietUpon, go_sem, f78, hc]
        refine q_want hf (d := 80) (v := .int .i64 (k : Int)) (e := 77) rfl rfl (by simp) rfl (by decide) (by simp) (fun w' hw' => ?_) (fun A hA80 hf => ?_)
        · have f5 := hf.get (d := 5) (v := .int .i64 (k : Int)) (by simp)
          clear hf
          simp [Oper.quietAt, Oper.quietUpon, go_sem, f5]
        refine q_want hf (d := 81) (v := .pointer (some ⟨gy, oy + k * 3, none⟩)) (e := 77) rfl rfl (by simp) rfl (by decide) (by simp) (fun w' hw' => ?_) (fun A hA81 hf => ?_)
        · have f79 := hf.get (d := 79) (v := .slice (some ⟨gy, oy, none⟩) yn yc) (by simp)
          have f80 := hf.get (d := 80) (v := .int .i64 (k : Int)) (by simp)
          clear hf
          simp [Oper.quietAt, Oper.quietUpon, go_sem, f79, f80, hki]
        refine q_want hf (d := 82) (v := .pointer (some ⟨gy, oy + k * 3, none⟩)) (e := 77) rfl rfl (by simp) rfl (by decide) (by simp) (fun w' hw' => ?_) (fun A hA82 hf => ?_)
        · have f81 := hf.get (d := 81) (v := .pointer (some ⟨gy, oy + k * 3, none⟩)) (by simp)
          clear hf
          simp [Oper.quietAt, Oper.quietUpon, go_sem, f81]
        refine q_want hf (d := 83) (v := .int .i64 bt) (e := 77) rfl rfl (by simp) rfl (by decide) (by simp) (fun w' hw' => ?_) (fun A hA83 hf => ?_)
        · have hc := hS _ hw'
          have f82 := hf.get (d := 82) (v := .pointer (some ⟨gy, oy + k * 3, none⟩)) (by simp)
          clear hf
          simp [Oper.quietAt, Oper.quietUpon, go_sem, f82, hc]
        refine q_want hf (d := 84) (v := .pointer (some ⟨w.heap.size, 0, none⟩)) (e := 77) rfl rfl (by simp) rfl (by decide) (by simp) (fun w' hw' => ?_) (fun A hA84 hf => ?_)
        · have f1 := hf.get (d := 1) (v := .pointer (some ⟨w.heap.size, 0, none⟩)) (by simp)
          clear hf
          simp [Oper.quietAt, Oper.quietUpon, go_sem, f1]
        refine q_want hf (d := 85) (v := .int .i64 bt) (e := 77) rfl rfl (by simp) rfl (by decide) (by simp) (fun w' hw' => ?_) (fun A hA85 hf => ?_)
        · have hc := hS _ hw'
          have f84 := hf.get (d := 84) (v := .pointer (some ⟨w.heap.size, 0, none⟩)) (by simp)
          clear hf
          simp [Oper.quietAt, Oper.quietUpon, go_sem, f84, hc]
        refine q_want hf (d := 86) (v := .bool false) (e := 77) rfl rfl (by simp) rfl (by decide) (by simp) (fun w' hw' => ?_) (fun A hA86 hf => ?_)
        · have f83 := hf.get (d := 83) (v := .int .i64 bt) (by simp)
          have f85 := hf.get (d := 85) (v := .int .i64 bt) (by simp)
          clear hf
          simp [Oper.quietAt, Oper.quietUpon, go_sem, f83, f85]
        refine q_step hf (d := 87) (v := .bool false) rfl rfl (by decide) (by simp) (fun w' hw' => ?_) (fun A hA87 hf => ?_)
        · have f77 := hf.get (d := 77) (v := .bool false) (by simp)
          have f86 := hf.get (d := 86) (v := .bool false) (by simp)
          clear hf
          simp [Oper.quietAt, Oper.quietUpon, go_sem, f77, f86]
        refine q_step hf (d := 88) (v := .bool false) rfl rfl (by decide) (by simp) (fun w' hw' => ?_) (fun A hA88 hf => ?_)
        · have f87 := hf.get (d := 87) (v := .bool false) (by simp)
          clear hf
          simp [Oper.quietAt, Oper.quietUpon, go_sem, f87]
        refine q_want hf (d := 89) (v := .pointer (some ⟨w.heap.size, 2, none⟩)) (e := 88) rfl rfl (by simp) rfl (by decide) (by simp) (fun w' hw' => ?_) (fun A hA89 hf => ?_)
        · have f1 := hf.get (d := 1) (v := .pointer (some ⟨w.heap.size, 0, none⟩)) (by simp)
          clear hf
          simp [Oper.quietAt, Oper.quietUpon, go_sem, f1]
        refine q_want hf (d := 90) (v := .slice (some ⟨gy, oy, none⟩) yn yc) (e := 88) rfl rfl (by simp) rfl (by decide) (by simp) (fun w' hw' => ?_) (fun A hA90 hf => ?_)
        · have hc := hS _ hw'
          have f89 := hf.get (d := 89) (v := .pointer (some ⟨w.heap.size, 2, none⟩)) (by simp)
          clear hf
          simp [Oper.quietAt, Oper.quietUpon, go_sem, f89, hc]
        refine q_want hf (d := 91) (v := .int .i64 (k : Int)) (e := 88) rfl rfl (by simp) rfl (by decide) (by simp) (fun w' hw' => ?_) (fun A hA91 hf => ?_)
        · have f5 := hf.get (d := 5) (v := .int .i64 (k : Int)) (by simp)
          clear hf
          simp [Oper.quietAt, Oper.quietUpon, go_sem, f5]
        refine q_want hf (d := 92) (v := .pointer (some ⟨gy, oy + k * 3, none⟩)) (e := 88) rfl rfl (by simp) rfl (by decide) (by simp) (fun w' hw' => ?_) (fun A hA92 hf => ?_)
        · have f90 := hf.get (d := 90) (v := .slice (some ⟨gy, oy, none⟩) yn yc) (by simp)
          have f91 := hf.get (d := 91) (v := .int .i64 (k : Int)) (by simp)
          clear hf
          simp [Oper.quietAt, Oper.quietUpon, go_sem, f90, f91, hki]
        refine q_want hf (d := 93) (v := .pointer (some ⟨gy, oy + k * 3 + 1, none⟩)) (e := 88) rfl rfl (by simp) rfl (by decide) (by simp) (fun w' hw' => ?_) (fun A hA93 hf => ?_)
        · have f92 := hf.get (d := 92) (v := .pointer (some ⟨gy, oy + k * 3, none⟩)) (by simp)
          clear hf
          simp [Oper.quietAt, Oper.quietUpon, go_sem, f92]
        refine q_want hf (d := 94) (v := .int .i64 bq) (e := 88) rfl rfl (by simp) rfl (by decide) (by simp) (fun w' hw' => ?_) (fun A hA94 hf => ?_)
        · have hc := hS _ hw'
          have f93 := hf.get (d := 93) (v := .pointer (some ⟨gy, oy + k * 3 + 1, none⟩)) (by simp)
          clear hf
          simp [Oper.quietAt, Oper.quietUpon, go_sem, f93, hc]
        refine q_want hf (d := 95) (v := .pointer (some ⟨w.heap.size, 1, none⟩)) (e := 88) rfl rfl (by simp) rfl (by decide) (by simp) (fun w' hw' => ?_) (fun A hA95 hf => ?_)
        · have f1 := hf.get (d := 1) (v := .pointer (some ⟨w.heap.size, 0, none⟩)) (by simp)
          clear hf
          simp [Oper.quietAt, Oper.quietUpon, go_sem, f1]
        refine q_want hf (d := 96) (v := .int .i64 bq) (e := 88) rfl rfl (by simp) rfl (by decide) (by simp) (fun w' hw' => ?_) (fun A hA96 hf => ?_)
        · have hc := hS _ hw'
          have f95 := hf.get (d := 95) (v := .pointer (some ⟨w.heap.size, 1, none⟩)) (by simp)
          clear hf
          simp [Oper.quietAt, Oper.quietUpon, go_sem, f95, hc]
        refine q_want hf (d := 97) (v := .bool false) (e := 88) rfl rfl (by simp) rfl (by decide) (by simp) (fun w' hw' => ?_) (fun A hA97 hf => ?_)
        · have f94 := hf.get (d := 94) (v := .int .i64 bq) (by simp)
          have f96 := hf.get (d := 96) (v := .int .i64 bq) (by simp)
          clear hf
          simp [Oper.quietAt, Oper.quietUpon, go_sem, f94, f96]
        refine q_step hf (d := 98) (v := .bool false) rfl rfl (by decide) (by simp) (fun w' hw' => ?_) (fun A hA98 hf => ?_)
        · have f88 := hf.get (d := 88) (v := .bool false) (by simp)
          have f97 := hf.get (d := 97) (v := .bool false) (by simp)
          clear hf
          simp [Oper.quietAt, Oper.quietUpon, go_sem, f88, f97]
        refine q_step hf (d := 99) (v := .bool false) rfl rfl (by decide) (by simp) (fun w' hw' => ?_) (fun A hA99 hf => ?_)
        · have f98 := hf.get (d := 98) (v := .bool false) (by simp)
          clear hf
          simp [Oper.quietAt, Oper.quietUpon, go_sem, f98]
        refine q_want hf (d := 100) (v := .pointer (some ⟨w.heap.size, 4, none⟩)) (e := 99) rfl rfl (by simp) rfl (by decide) (by simp) (fun w' hw' => ?_) (fun A hA100 hf => ?_)
        · have f1 := hf.get (d := 1) (v := .pointer (some ⟨w.heap.size, 0, none⟩)) (by simp)
          clear hf
          simp [Oper.quietAt, Oper.quietUpon, go_sem, f1]
        refine q_want hf (d := 101) (v := .slice (some ⟨gu, ou, none⟩) yn uc) (e := 99) rfl rfl (by simp) rfl (by decide) (by simp) (fun w' hw' => ?_) (fun A hA101 hf => ?_)
        · have hc := hS _ hw'
          have f100 := hf.get (d := 100) (v := .pointer (some ⟨w.heap.size, 4, none⟩)) (by simp)
          clear hf
          simp [Oper.quietAt, Oper.quietUpon, go_sem, f100, hc]
        refine q_want hf (d := 102) (v := .int .i64 (k : Int)) (e := 99) rfl rfl (by simp) rfl (by decide) (by simp) (fun w' hw' => ?_) (fun A hA102 hf => ?_)
        · have f5 := hf.get (d := 5) (v := .int .i64 (k : Int)) (by simp)
          clear hf
          simp [Oper.quietAt, Oper.quietUpon, go_sem, f5]
        refine q_want hf (d := 103) (v := .pointer (some ⟨gu, ou + k, none⟩)) (e := 99) rfl rfl (by simp) rfl (by decide) (by simp) (fun w' hw' => ?_) (fun A hA103 hf => ?_)
        · have f101 := hf.get (d := 101) (v := .slice (some ⟨gu, ou, none⟩) yn uc) (by simp)
          have f102 := hf.get (d := 102) (v := .int .i64 (k : Int)) (by simp)
          clear hf
          simp [Oper.quietAt, Oper.quietUpon, go_sem, f101, f102, hki]
        refine q_want hf (d := 104) (v := .int .i64 x) (e := 99) rfl rfl (by simp) rfl (by decide) (by simp) (fun w' hw' => ?_) (fun A hA104 hf => ?_)
        · have hc := hS _ hw'
          have f103 := hf.get (d := 103) (v := .pointer (some ⟨gu, ou + k, none⟩)) (by simp)
          clear hf
          simp [Oper.quietAt, Oper.quietUpon, go_sem, f103, hc]
        refine q_want hf (d := 105) (v := .bool false) (e := 99) rfl rfl (by simp) rfl (by decide) (by simp) (fun w' hw' => ?_) (fun A hA105 hf => ?_)
        · have f104 := hf.get (d := 104) (v := .int .i64 x) (by simp)
          clear hf
          simp [Oper.quietAt, Oper.quietUpon, go_sem, f104]
          exact (I1.out _).mono fun e w1 h => ⟨h.1, h.2 ▸ hw'⟩
        refine q_want hf (d := 106) (v := .bool true) (e := 99) rfl rfl (by simp) rfl (by decide) (by simp) (fun w' hw' => ?_) (fun A hA106 hf => ?_)
        · have f105 := hf.get (d := 105) (v := .bool false) (by simp)
          clear hf
          simp [Oper.quietAt, Oper.quietUpon, go_sem, f105]
        refine q_step hf (d := 107) (v := .bool true) rfl rfl (by decide) (by simp) (fun w' hw' => ?_) (fun A hA107 hf => ?_)
        · have f99 := hf.get (d := 99) (v := .bool false) (by simp)
          have f106 := hf.get (d := 106) (v := .bool true) (by simp)
          clear hf
          simp [Oper.quietAt, Oper.quietUpon, go_sem, f99, f106]
        refine wpQuiet_nil (fun w' hw' => ?_)
        clear hf
        subst hA107 hA106 hA105 hA104 hA103 hA102 hA101 hA100 hA99 hA98 hA97 hA96 hA95 hA94 hA93 hA92 hA91 hA90 hA89 hA88 hA87 hA86 hA85 hA84 hA83 hA82 hA81 hA80 hA79 hA78 hA77 hA76 hA75 hA74 hA73 hA72 hA71 hA70 hA
        simp only [Act.put, List.setIfInBounds_toArray, List.set_cons_succ, List.set_cons_zero]
        go_wp2
        go_ret
        exact ⟨ret_bool HN.out.symm, hw'.bel⟩
      have HX : Hid ((V.take (k + 1)).all (fun x => decide (x = 1)) = (b && decide (x = 1)) ∧ (∀ (j : Nat) y, j < k + 1 → (yds QL)[j]? = some y → yB y = true ∧ y.t = bt ∧ y.q = bq) ∧ ∀ (j : Nat) x, j < k + 1 → V[j]? = some x → x = 0 ∨ x = 1 ∨ x = 2) := by
        refine Lib.hid ⟨?_, fun j y hj hy => ?_, fun j z hj hz => ?_⟩
        · have hkV : k < V.length := by rw [HVn.out.1]; exact hlt
          have hg := HG.out.2
          rw [List.getElem?_eq_getElem hkV] at hg
          rw [all_take hkV, hall.out.1]
          injection hg with hg
          rw [hg]
        · by_cases e : j = k
          · subst e
            rw [HG.out.1] at hy; cases hy
            exact ⟨HBB.out, rfl, rfl⟩
          · exact hall.out.2.1 j y (by omega) hy
        · by_cases e : j = k
          · subst e
            rw [HG.out.2] at hz; cases hz
            have h2 := HB3.out
            unfold rgB at h2; rw [decide_eq_true_eq] at h2; omega
          · exact hall.out.2.2 j z (by omega) hz
      go_upto_region 8 with (fail)
      refine wp_region_quiet (C := fun w' => Sg w w' [rG kG (.slice (some ⟨w.heap.size, 0, none⟩) 1 1) [⟨bt, bq, ⟨some ⟨gy, oy, none⟩, yn, yc⟩, ⟨some ⟨og, oo, none⟩, yn, oc⟩, ⟨some ⟨gu, ou, none⟩, yn, uc⟩, s⟩]]) (by kernel_rfl) (by kernel_rfl) (hS1.step (Below.refl _ _).drew) ?_
      refine q_intro (fun A hA => ?_)
      have hf : Fr 123 A [(1, .pointer (some ⟨w.heap.size, 0, none⟩)), (5, .int .i64 (k : Int))] := by subst hA; exact ⟨rfl, by simp⟩
      refine q_step hf (d := 70) (v := .pointer (some ⟨w.heap.size, 2, none⟩)) rfl rfl (by decide) (by simp) (fun w' hw' => ?_) (fun A hA70 hf => ?_)
      · have f1 := hf.get (d := 1) (v := .pointer (some ⟨w.heap.size, 0, none⟩)) (by simp)
        clear hf
        simp [Oper.quietAt, Oper.quietUpon, go_sem, f1]
      refine q_step hf (d := 71) (v := .slice (some ⟨gy, oy, none⟩) yn yc) rfl rfl (by decide) (by simp) (fun w' hw' => ?_) (fun A hA71 hf => ?_)
      · have hc := hS _ hw'
        have f70 := hf.get (d := 70) (v := .pointer (some ⟨w.heap.size, 2, none⟩)) (by simp)
        clear hf
        simp [Oper.quietAt, Oper.quietUpon, go_sem, f70, hc]
      refine q_step hf (d := 72) (v := .int .i64 (k : Int)) rfl rfl (by decide) (by simp) (fun w' hw' => ?_) (fun A hA72 hf => ?_)
      · have f5 := hf.get (d := 5) (v := .int .i64 (k : Int)) (by simp)
        clear hf
        simp [Oper.quietAt, Oper.quietUpon, go_sem, f5]
      refine q_step hf (d := 73) (v := .pointer (some ⟨gy, oy + k * 3, none⟩)) rfl rfl (by decide) (by simp) (fun w' hw' => ?_) (fun A hA73 hf => ?_)
      · have f71 := hf.get (d := 71) (v := .slice (some ⟨gy, oy, none⟩) yn yc) (by simp)
        have f72 := hf.get (d := 72) (v := .int .i64 (k : Int)) (by simp)
        clear hf
        simp [Oper.quietAt, Oper.quietUpon, go_sem, f71, f72, hki]
      refine q_step hf (d := 74) (v := I.batV bt bq sp sn sc) rfl rfl (by decide) (by simp) (fun w' hw' => ?_) (fun A hA74 hf => ?_)
      · have hc := hS _ hw'
        have f73 := hf.get (d := 73) (v := .pointer (some ⟨gy, oy + k * 3, none⟩)) (by simp)
        clear hf
        simp [Oper.quietAt, Oper.quietUpon, go_sem, f73, hc, I.batV]
      refine q_step hf (d := 75) (v := .bool true) rfl rfl (by decide) (by simp) (fun w' hw' => ?_) (fun A hA75 hf => ?_)
      · have f74 := hf.get (d := 74) (v := I.batV bt bq sp sn sc) (by simp)
        clear hf
        simp [Oper.quietAt, Oper.quietUpon, go_sem, f74]
        exact (HB.out _ hw'.bel).mono fun e w1 h => ⟨h.1, hw'.step h.2⟩
      refine q_step hf (d := 76) (v := .bool false) rfl rfl (by decide) (by simp) (fun w' hw' => ?_) (fun A hA76 hf => ?_)
      · have f75 := hf.get (d := 75) (v := .bool true) (by simp)
        clear hf
        simp [Oper.quietAt, Oper.quietUpon, go_sem, f75]
      refine q_step hf (d := 77) (v := .bool false) rfl rfl (by decide) (by simp) (fun w' hw' => ?_) (fun A hA77 hf => ?_)
      · have f76 := hf.get (d := 76) (v := .bool false) (by simp)
        clear hf
        simp [Oper.quietAt, Oper.quietUpon, go_sem, f76]
      refine q_want hf (d := 78) (v := .pointer (some ⟨w.heap.size, 2, none⟩)) (e := 77) rfl rfl (by simp) rfl (by decide) (by simp) (fun w' hw' => ?_) (fun A hA78 hf => ?_)
      · have f1 := hf.get (d := 1) (v := .pointer (some ⟨w.heap.size, 0, none⟩)) (by simp)
        clear hf
        simp [Oper.quietAt, Oper.quietUpon, go_sem, f1]
      refine q_want hf (d := 79) (v := .slice (some ⟨gy, oy, none⟩) yn yc) (e := 77) rfl rfl (by simp) rfl (by decide) (by simp) (fun w' hw' => ?_) (fun A hA79 hf => ?_)
      · have hc := hS _ hw'
        have f78 := hf.get (d := 78) (v := .pointer (some ⟨w.heap.size, 2, none⟩)) (by simp)
        clear hf
        simp [Oper.quietAt, Oper.quietUpon, go_sem, f78, hc]
      refine q_want hf (d := 80) (v := .int .i64 (k : Int)) (e := 77) rfl rfl (by simp) rfl (by decide) (by simp) (fun w' hw' => ?_) (fun A hA80 hf => ?_)
      · have f5 := hf.get (d := 5) (v := .int .i64 (k : Int)) (by simp)
        clear hf
        simp [Oper.quietAt, Oper.quietUpon, go_sem, f5]
      refine q_want hf (d := 81) (v := .pointer (some ⟨gy, oy + k * 3, none⟩)) (e := 77) rfl rfl (by simp) rfl (by decide) (by simp) (fun w' hw' => ?_) (fun A hA81 hf => ?_)
      · have f79 := hf.get (d := 79) (v := .slice (some ⟨gy, oy, none⟩) yn yc) (by simp)
        have f80 := hf.get (d := 80) (v := .int .i64 (k : Int)) (by simp)
        clear hf
        simp [Oper.quietAt, Oper.quietUpon, go_sem, f79, f80, hki]
      refine q_want hf (d := 82) (v := .pointer (some ⟨gy, oy + k * 3, none⟩)) (e := 77) rfl rfl (by simp) rfl (by decide) (by simp) (fun w' hw' => ?_) (fun A hA82 hf => ?_)
      · have f81 := hf.get (d := 81) (v := .pointer (some ⟨gy, oy + k * 3, none⟩)) (by simp)
        clear hf
        simp [Oper.quietAt, Oper.quietUpon, go_sem, f81]
      refine q_want hf (d := 83) (v := .int .i64 bt) (e := 77) rfl rfl (by simp) rfl (by decide) (by simp) (fun w' hw' => ?_) (fun A hA83 hf => ?_)
      · have hc := hS _ hw'
        have f82 := hf.get (d := 82) (v := .pointer (some ⟨gy, oy + k * 3, none⟩)) (by simp)
        clear hf
        simp [Oper.quietAt, Oper.quietUpon, go_sem, f82, hc]
      refine q_want hf (d := 84) (v := .pointer (some ⟨w.heap.size, 0, none⟩)) (e := 77) rfl rfl (by simp) rfl (by decide) (by simp) (fun w' hw' => ?_) (fun A hA84 hf => ?_)
      · have f1 := hf.get (d := 1) (v := .pointer (some ⟨w.heap.size, 0, none⟩)) (by simp)
        clear hf
        simp [Oper.quietAt, Oper.quietUpon, go_sem, f1]
      refine q_want hf (d := 85) (v := .int .i64 bt) (e := 77) rfl rfl (by simp) rfl (by decide) (by simp) (fun w' hw' => ?_) (fun A hA85 hf => ?_)
      · have hc := hS _ hw'
        have f84 := hf.get (d := 84) (v := .pointer (some ⟨w.heap.size, 0, none⟩)) (by simp)
        clear hf
        simp [Oper.quietAt, Oper.quietUpon, go_sem, f84, hc]
      refine q_want hf (d := 86) (v := .bool false) (e := 77) rfl rfl (by simp) rfl (by decide) (by simp) (fun w' hw' => ?_) (fun A hA86 hf => ?_)
      · have f83 := hf.get (d := 83) (v := .int .i64 bt) (by simp)
        have f85 := hf.get (d := 85) (v := .int .i64 bt) (by simp)
        clear hf
        simp [Oper.quietAt, Oper.quietUpon, go_sem, f83, f85]
      refine q_step hf (d := 87) (v := .bool false) rfl rfl (by decide) (by simp) (fun w' hw' => ?_) (fun A hA87 hf => ?_)
      · have f77 := hf.get (d := 77) (v := .bool false) (by simp)
        have f86 := hf.get (d := 86) (v := .bool false) (by simp)
        clear hf
        simp [Oper.quietAt, Oper.quietUpon, go_sem, f77, f86]
      refine q_step hf (d := 88) (v := .bool false) rfl rfl (by decide) (by simp) (fun w' hw' => ?_) (fun A hA88 hf => ?_)
      · have f87 := hf.get (d := 87) (v := .bool false) (by simp)
        clear hf
        simp [Oper.quietAt, Oper.quietUpon, go_sem, f87]
      refine q_want hf (d := 89) (v := .pointer (some ⟨w.heap.size, 2, none⟩)) (e := 88) rfl rfl (by simp) rfl (by decide) (by simp) (fun w' hw' => ?_) (fun A hA89 hf => ?_)
      · have f1 := hf.get (d := 1) (v := .pointer (some ⟨w.heap.size, 0, none⟩)) (by simp)
        clear hf
        simp [Oper.quietAt, Oper.quietUpon, go_sem, f1]
      refine q_want hf (d := 90) (v := .slice (some ⟨gy, oy, none⟩) yn yc) (e := 88) rfl rfl (by simp) rfl (by decide) (by simp) (fun w' hw' => ?_) (fun A hA90 hf => ?_)
      · have hc := hS _ hw'
        have f89 := hf.get (d := 89) (v := .pointer (some ⟨w.heap.size, 2, none⟩)) (by simp)
        clear hf
        simp [Oper.quietAt, Oper.quietUpon, go_sem, f89, hc]
      refine q_want hf (d := 91) (v := .int .i64 (k : Int)) (e := 88) rfl rfl (by simp) rfl (by decide) (by simp) (fun w' hw' => ?_) (fun A hA91 hf => ?_)
      · have f5 := hf.get (d := 5) (v := .int .i64 (k : Int)) (by simp)
        clear hf
        simp [Oper.quietAt, Oper.quietUpon, go_sem, f5]
      refine q_want hf (d := 92) (v := .pointer (some ⟨gy, oy + k * 3, none⟩)) (e := 88) rfl rfl (by simp) rfl (by decide) (by simp) (fun w' hw' => ?_) (fun A hA92 hf => ?_)
      · have f90 := hf.get (d := 90) (v := .slice (some ⟨gy, oy, none⟩) yn yc) (by simp)
        have f91 := hf.get (d := 91) (v := .int .i64 (k : Int)) (by simp)
        clear hf
        simp [Oper.quietAt, Oper.quietUpon, go_sem, f90, f91, hki]
      refine q_want hf (d := 93) (v := .pointer (some ⟨gy, oy + k * 3 + 1, none⟩)) (e := 88) rfl rfl (by simp) rfl (by decide) (by simp) (fun w' hw' => ?_) (fun A hA93 hf => ?_)
      · have f92 := hf.get (d := 92) (v := .pointer (some ⟨gy, oy + k * 3, none⟩)) (by simp)
        clear hf
        simp [Oper.quietAt, Oper.quietUpon, go_sem, f92]
      refine q_want hf (d := 94) (v := .int .i64 bq) (e := 88) rfl rfl (by simp) rfl (by decide) (by simp) (fun w' hw' => ?_) (fun A hA94 hf => ?_)
      · have hc := hS _ hw'
        have f93 := hf.get (d := 93) (v := .pointer (some ⟨gy, oy + k * 3 + 1, none⟩)) (by simp)
        clear hf
        simp [Oper.quietAt, Oper.quietUpon, go_sem, f93, hc]
      refine q_want hf (d := 95) (v := .pointer (some ⟨w.heap.size, 1, none⟩)) (e := 88) rfl rfl (by simp) rfl (by decide) (by simp) (fun w' hw' => ?_) (fun A hA95 hf => ?_)
      · have f1 := hf.get (d := 1) (v := .pointer (some ⟨w.heap.size, 0, none⟩)) (by simp)
        clear hf
        simp [Oper.quietAt, Oper.quietUpon, go_sem, f1]
      refine q_want hf (d := 96) (v := .int .i64 bq) (e := 88) rfl rfl (by simp) rfl (by decide) (by simp) (fun w' hw' => ?_) (fun A hA96 hf => ?_)
      · have hc := hS _ hw'
        have f95 := hf.get (d := 95) (v := .pointer (some ⟨w.heap.size, 1, none⟩)) (by simp)
        clear hf
        simp [Oper.quietAt, Oper.quietUpon, go_sem, f95, hc]
      refine q_want hf (d := 97) (v := .bool false) (e := 88) rfl rfl (by simp) rfl (by decide) (by simp) (fun w' hw' => ?_) (fun A hA97 hf => ?_)
      · have f94 := hf.get (d := 94) (v := .int .i64 bq) (by simp)
        have f96 := hf.get (d := 96) (v := .int .i64 bq) (by simp)
        clear hf
        simp [Oper.quietAt, Oper.quietUpon, go_sem, f94, f96]
      refine q_step hf (d := 98) (v := .bool false) rfl rfl (by decide) (by simp) (fun w' hw' => ?_) (fun A hA98 hf => ?_)
      · have f88 := hf.get (d := 88) (v := .bool false) (by simp)
        have f97 := hf.get (d := 97) (v := .bool false) (by simp)
        clear hf
        simp [Oper.quietAt, Oper.quietUpon, go_sem, f88, f97]
      refine q_step hf (d := 99) (v := .bool false) rfl rfl (by decide) (by simp) (fun w' hw' => ?_) (fun A hA99 hf => ?_)
      · have f98 := hf.get (d := 98) (v := .bool false) (by simp)
        clear hf
        simp [Oper.quietAt, Oper.quietUpon, go_sem, f98]
      refine q_want hf (d := 100) (v := .pointer (some ⟨w.heap.size, 4, none⟩)) (e := 99) rfl rfl (by simp) rfl (by decide) (by simp) (fun w' hw' => ?_) (fun A hA100 hf => ?_)
      · have f1 := hf.get (d := 1) (v := .pointer (some ⟨w.heap.size, 0, none⟩)) (by simp)
        clear hf
        simp [Oper.quietAt, Oper.quietUpon, go_sem, f1]
      refine q_want hf (d := 101) (v := .slice (some ⟨gu, ou, none⟩) yn uc) (e := 99) rfl rfl (by simp) rfl (by decide) (by simp) (fun w' hw' => ?_) (fun A hA101 hf => ?_)
      · have hc := hS _ hw'
        have f100 := hf.get (d := 100) (v := .pointer (some ⟨w.heap.size, 4, none⟩)) (by simp)
        clear hf
        simp [Oper.quietAt, Oper.quietUpon, go_sem, f100, hc]
      refine q_want hf (d := 102) (v := .int .i64 (k : Int)) (e := 99) rfl rfl (by simp) rfl (by decide) (by simp) (fun w' hw' => ?_) (fun A hA102 hf => ?_)
      · have f5 := hf.get (d := 5) (v := .int .i64 (k : Int)) (by simp)
        clear hf
        simp [Oper.quietAt, Oper.quietUpon, go_sem, f5]
      refine q_want hf (d := 103) (v := .pointer (some ⟨gu, ou + k, none⟩)) (e := 99) rfl rfl (by simp) rfl (by decide) (by simp) (fun w' hw' => ?_) (fun A hA103 hf => ?_)
      · have f101 := hf.get (d := 101) (v := .slice (some ⟨gu, ou, none⟩) yn uc) (by simp)
        have f102 := hf.get (d := 102) (v := .int .i64 (k : Int)) (by simp)
        clear hf
        simp [Oper.quietAt, Oper.quietUpon, go_sem, f101, f102, hki]
      refine q_want hf (d := 104) (v := .int .i64 x) (e := 99) rfl rfl (by simp) rfl (by decide) (by simp) (fun w' hw' => ?_) (fun A hA104 hf => ?_)
      · have hc := hS _ hw'
        have f103 := hf.get (d := 103) (v := .pointer (some ⟨gu, ou + k, none⟩)) (by simp)
        clear hf
        simp [Oper.quietAt, Oper.quietUpon, go_sem, f103, hc]
      refine q_want hf (d := 105) (v := .bool true) (e := 99) rfl rfl (by simp) rfl (by decide) (by simp) (fun w' hw' => ?_) (fun A hA105 hf => ?_)
      · have f104 := hf.get (d := 104) (v := .int .i64 x) (by simp)
        clear hf
        simp [Oper.quietAt, Oper.quietUpon, go_sem, f104]
        exact (I1.out _).mono fun e w1 h => ⟨h.1, h.2 ▸ hw'⟩
      refine q_want hf (d := 106) (v := .bool false) (e := 99) rfl rfl (by simp) rfl (by decide) (by simp) (fun w' hw' => ?_) (fun A hA106 hf => ?_)
      · have f105 := hf.get (d := 105) (v := .bool true) (by simp)
        clear hf
        simp [Oper.quietAt, Oper.quietUpon, go_sem, f105]
      refine q_step hf (d := 107) (v := .bool false) rfl rfl (by decide) (by simp) (fun w' hw' => ?_) (fun A hA107 hf => ?_)
      · have f99 := hf.get (d := 99) (v := .bool false) (by simp)
        have f106 := hf.get (d := 106) (v := .bool false) (by simp)
        clear hf
        simp [Oper.quietAt, Oper.quietUpon, go_sem, f99, f106]
      refine wpQuiet_nil (fun w' hw' => ?_)
      clear hf
      subst hA107 hA106 hA105 hA104 hA103 hA102 hA101 hA100 hA99 hA98 hA97 hA96 hA95 hA94 hA93 hA92 hA91 hA90 hA89 hA88 hA87 hA86 hA85 hA84 hA83 hA82 hA81 hA80 hA79 hA78 hA77 hA76 hA75 hA74 hA73 hA72 hA71 hA70 hA
      simp only [Act.put, List.setIfInBounds_toArray, List.set_cons_succ, List.set_cons_zero]
      obtain ⟨⟨y0, y1, y2, y3, y4, y5, _, _⟩, ⟨p0, p1, p2⟩, u0⟩ := hS _ hw'
      clear hS hS1
      cases b
      · go_wp2
        go_roundw
        case rel => exact ⟨k + 1, false, by omega, rfl, by go_num, Lib.hid (by have h := HX.out; simpa using h), hw'⟩
        case measure => simp [intOf]; omega
      · by_cases hx1 : x = 1
        · subst hx1
          go_wp2
          go_roundw
          case rel => exact ⟨k + 1, true, by omega, rfl, by go_num, Lib.hid (by have h := HX.out; simpa using h), hw'⟩
          case measure => simp [intOf]; omega
        · have hx2 : (x == 1) = false := by simpa using hx1
          go_wp2
          go_roundw
          case rel => exact ⟨k + 1, false, by omega, rfl, by go_num, Lib.hid (by have h := HX.out; rw [decide_eq_false hx1] at h; simpa using h), hw'⟩
          case measure => simp [intOf]; omega
    · obtain rfl : k = yn := by omega
      obtain ⟨y0, y1, y2, y3, y4, y5, _, _⟩ := HC.out _ hS1
      have HZ : Hid ((∀ y ∈ yds QL, yB y = true ∧ y.t = t ∧ y.q = q) ∧ (∀ x ∈ V, x = 0 ∨ x = 1 ∨ x = 2) ∧ (b = true ↔ ∀ x ∈ V, x = 1)) := by
        refine Lib.hid ⟨fun y hy => ?_, fun x hx => ?_, ?_⟩
        · obtain ⟨j, hj, e⟩ := List.getElem_of_mem hy
          exact hall.out.2.1 j y (by have := HVn.out.2; omega) (by rw [← e]; exact List.getElem?_eq_getElem hj)
        · obtain ⟨j, hj, e⟩ := List.getElem_of_mem hx
          exact hall.out.2.2 j x (by have := HVn.out.1; omega) (by rw [← e]; exact List.getElem?_eq_getElem hj)
        · have h2 := hall.out.1
          rw [List.take_of_length_le (by rw [HVn.out.1]; exact Nat.le_refl _)] at h2
          rw [← h2, List.all_eq_true]; simp
      by_cases hs1 : s = 1
      · subst hs1
        have HE : Hid (v = b) := by
          cases b
          · exact Lib.hid (HF.out fun hp => by have := HZ.out.2.2.2 ((HW.out.1 hp).1 rfl); cases this)
          · exact Lib.hid (HT.out (HW.out.2 ⟨fun _ => HZ.out.2.2.1 rfl, HZ.out.1, HZ.out.2.1⟩))
        go_wp2
        go_ret
        exact ⟨ret_bool HE.out.symm, hS1.bel⟩
      · have hs2 : (s != 1) = true := by simpa using hs1
        have HE : Hid (v = true) := Lib.hid (HT.out (HW.out.2 ⟨fun e => absurd e hs1, HZ.out.1, HZ.out.2.1⟩))
        go_wp2
        go_ret
        exact ⟨ret_bool HE.out.symm, hS1.bel⟩
end Go.Proofs.YtobbankkfplooaaGreat.K.G
