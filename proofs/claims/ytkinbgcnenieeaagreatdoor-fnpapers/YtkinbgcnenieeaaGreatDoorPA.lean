/-
  Papers: Genuine, the program's and the spec's.
-/
import Derived.Test.YtkinbgcnenieeaaGreatDoorP9
import Derived.Test.YtkinbgcnenieeaaGreatDoorFq
namespace Go.Proofs.YtkinbgcnenieeaaGreatDoor
open Go.RowKit Go.Joins M
attribute [local go_sem] Oper.semAt_some

theorem heldAs_any (tn tag : Int) (p : Option Addr) (n cap : Nat) (w : World) :
    Calls Tryz.prog 23 #[.agg #[.int .i64 tn, .slice p n cap, .int .i64 tag]] w fun e w' => e = .returned (.agg #[.slice p n cap, .int .i64 tn, .int .i64 tag]) ∧ Below w.heap.size w w' := by
  go_enter Tryz.func23, Tryz.ntmps23
  go_wp2
  refine bodyPost_ret (v := .agg #[.slice p n cap, .int .i64 tn, .int .i64 tag]) (by simp [results, Tryz.results23, go_sem]) rfl ⟨rfl, ?_⟩
  exact below_alloc2 _ _ _
/-- Is the Tag the chain by this key? -/
def genB (key tn : Int) (L : List Cl) (tag : Int) : Bool := ppB tn L tag && (tag == chI key (dgS tn :: txs L))
theorem ppB_t {tn tag : Int} {L : List Cl} (h : ppB tn L tag = true) : tenB tn = true ∧ (1 ≤ L.length ∧ L.length ≤ 6) ∧ L.all clB = true ∧ inB tag = true := by
  unfold ppB clsB at h
  rw [Bool.and_eq_true, Bool.and_eq_true, Bool.and_eq_true, decide_eq_true_iff] at h
  exact ⟨h.1, h.2.1.1, h.2.1.2, h.2.2⟩
set_option maxRecDepth 100000 in
set_option maxHeartbeats 2000000 in
theorem iGenuine_any (key tn tag : Int) (p : Option Addr) (cap n : Nat) (QL : List CQ) (hn : QL.length = n) (hb0 : n ≤ 10000000) (w : World) (hR : RdS w p QL) (hT : TB w) :
    Calls Tryz.prog 13 #[.int .i64 key, .agg #[.int .i64 tn, .slice p n cap, .int .i64 tag]] w fun e w' => e = .returned (.bool (genB key tn (cls QL) tag)) ∧ Below w.heap.size w w' := by
  have hb1 := below_alloc1 w (.cells #[.int .i64 tn, .slice p n cap, .int .i64 tag] 26)
  cases hv : ppB tn (cls QL) tag
  · have H1 : Hid (∀ W, Below w.heap.size w W → Calls Tryz.prog 25 #[.agg #[.slice p n cap, .int .i64 tn, .int .i64 tag]] W fun e w' => e = .returned (.bool false) ∧ Below W.heap.size W w') := fun W h => iPaper_v hv hn hb0 W (hR.step h)
    have HE : Hid (genB key tn (cls QL) tag = false) := by unfold genB; rw [hv]; exact rfl
    clear hn hR
    go_enter Tryz.func13, Tryz.ntmps13
    go_wp2_with (go_at_call 23; refine (heldAs_any tn tag p n cap _).mono ?_; rintro e w1 ⟨rfl, hb2⟩; have hb3 := bstep hb1 hb2 (Nat.le_refl _))
    have hS := (Sg.nil w1).lit kW [⟨⟨p, n, cap⟩, tn, tag⟩] 1 rfl (by decide) #[.slice p n cap, .int .i64 tn, .int .i64 tag] rfl
    change Sg w1 (w1.alloc (.cells #[.slice p n cap, .int .i64 tn, .int .i64 tag] 53)) _ at hS
    have hS' : ∀ w', Sg w1 w' [rG kW (.slice (some ⟨w1.heap.size, 0, none⟩) 1 1) [⟨⟨p, n, cap⟩, tn, tag⟩]] → (w'.cell? ⟨w1.heap.size, 0, none⟩ = some (.slice p n cap) ∧ w'.cell? ⟨w1.heap.size, 1, none⟩ = some (.int .i64 tn) ∧ w'.cell? ⟨w1.heap.size, 2, none⟩ = some (.int .i64 tag)) := fun w' h => by
      obtain ⟨y0, y1, y2, _, _⟩ := h.three (K := kW) (g := w1.heap.size) (n := 1) (p := ⟨⟨p, n, cap⟩, tn, tag⟩) (by simp) rfl
      exact ⟨y0, y1, y2⟩
    refine wp_region_quiet (C := fun w' => Sg w1 w' [rG kW (.slice (some ⟨w1.heap.size, 0, none⟩) 1 1) [⟨⟨p, n, cap⟩, tn, tag⟩]]) (by kernel_rfl) (by kernel_rfl) (hS.step (Below.refl _ _).drew) ?_
    refine q_intro (fun A hA => ?_)
    have hf : Fr 18 A [(5, .pointer (some ⟨w1.heap.size, 0, none⟩))] := by subst hA; exact ⟨rfl, by simp⟩
    refine q_step hf (d := 8) (v := .agg #[.slice p n cap, .int .i64 tn, .int .i64 tag]) rfl rfl (by decide) (by simp) (fun w' hw' => ?_) (fun A hA8 hf => ?_)
    · have hc := hS' _ hw'
      have f5 := hf.get (d := 5) (v := .pointer (some ⟨w1.heap.size, 0, none⟩)) (by simp)
      clear hf
      simp [Oper.quietAt, Oper.quietUpon, go_sem, f5, hc]
    refine q_step hf (d := 9) (v := .bool false) rfl rfl (by decide) (by simp) (fun w' hw' => ?_) (fun A hA9 hf => ?_)
    · have f8 := hf.get (d := 8) (v := .agg #[.slice p n cap, .int .i64 tn, .int .i64 tag]) (by simp)
      clear hf
      simp [Oper.quietAt, Oper.quietUpon, go_sem, f8]
      exact (H1.out _ (bstep hb3 hw'.bel (Nat.le_refl _))).mono (fun e w'' hq => ⟨hq.1, hw'.step hq.2⟩)
    refine q_step hf (d := 10) (v := .bool false) rfl rfl (by decide) (by simp) (fun w' hw' => ?_) (fun A hA10 hf => ?_)
    · have f9 := hf.get (d := 9) (v := .bool false) (by simp)
      clear hf
      simp [Oper.quietAt, Oper.quietUpon, go_sem, f9]
    refine q_skip hf (d := 11) (e := 10) (b := false) rfl rfl (by simp) rfl rfl (by decide) (by simp) (fun A hA11 hf => ?_)
    refine q_skip hf (d := 12) (e := 10) (b := false) rfl rfl (by simp) rfl rfl (by decide) (by simp) (fun A hA12 hf => ?_)
    refine q_skip hf (d := 13) (e := 10) (b := false) rfl rfl (by simp) rfl rfl (by decide) (by simp) (fun A hA13 hf => ?_)
    refine q_skip hf (d := 14) (e := 10) (b := false) rfl rfl (by simp) rfl rfl (by decide) (by simp) (fun A hA14 hf => ?_)
    refine q_skip hf (d := 15) (e := 10) (b := false) rfl rfl (by simp) rfl rfl (by decide) (by simp) (fun A hA15 hf => ?_)
    refine q_skip hf (d := 16) (e := 10) (b := false) rfl rfl (by simp) rfl rfl (by decide) (by simp) (fun A hA16 hf => ?_)
    refine q_step hf (d := 17) (v := .bool false) rfl rfl (by decide) (by simp) (fun w' hw' => ?_) (fun A hA17 hf => ?_)
    · have f10 := hf.get (d := 10) (v := .bool false) (by simp)
      clear hf
      simp [Oper.quietAt, Oper.quietUpon, go_sem, f10]
    refine q_step hf (d := 4) (v := .bool false) rfl rfl (by decide) (by simp) (fun w' hw' => ?_) (fun A hA4 hf => ?_)
    · have f17 := hf.get (d := 17) (v := .bool false) (by simp)
      clear hf
      simp [Oper.quietAt, Oper.quietUpon, go_sem, f17]
    refine wpQuiet_nil (fun w' hw' => ?_)
    clear hf
    subst hA4 hA17 hA16 hA15 hA14 hA13 hA12 hA11 hA10 hA9 hA8 hA
    simp only [Act.put, List.setIfInBounds_toArray, List.set_cons_succ, List.set_cons_zero]
    go_wp2
    go_ret
    exact ⟨by rw [HE.out]; rfl, bstep hb3 hw'.bel (Nat.le_refl _)⟩
  · obtain ⟨h1, h2, h3, h4⟩ := ppB_t hv
    rw [cls_len, hn] at h2
    obtain ⟨x, hx⟩ : ∃ x, chI key (dgS tn :: txs (cls QL)) = x := ⟨_, rfl⟩
    have H1 : Hid (∀ W, Below w.heap.size w W → Calls Tryz.prog 25 #[.agg #[.slice p n cap, .int .i64 tn, .int .i64 tag]] W fun e w' => e = .returned (.bool true) ∧ Below W.heap.size W w') := fun W h => iPaper_v hv hn hb0 W (hR.step h)
    have H2 : Hid (∀ W, Below w.heap.size w W → Calls Tryz.prog 34 #[.agg #[.slice p n cap, .int .i64 tn, .int .i64 tag], .int .i64 key] W fun e w' => e = .returned (.int .i64 x) ∧ Below W.heap.size W w') := fun W h => chain_any key hn h2.1 h2.2 h1 W (hR.step h) (hT.step h) hx
    have HE : Hid (genB key tn (cls QL) tag = (tag == x)) := by unfold genB; rw [hv, hx]; exact rfl
    have HK : Hid (∀ w1 : World, Below w.heap.size w w1 → ∀ w', Sg w1 w' [rG kW (.slice (some ⟨w1.heap.size, 0, none⟩) 1 1) [⟨⟨p, n, cap⟩, tn, tag⟩]] → (Below w.heap.size w w' ∧ w'.cell? ⟨w1.heap.size, 0, none⟩ = some (.slice p n cap) ∧ w'.cell? ⟨w1.heap.size, 1, none⟩ = some (.int .i64 tn) ∧ w'.cell? ⟨w1.heap.size, 2, none⟩ = some (.int .i64 tag))) := fun w1 hb w' h => by
      obtain ⟨y0, y1, y2, _, _⟩ := h.three (K := kW) (g := w1.heap.size) (n := 1) (p := ⟨⟨p, n, cap⟩, tn, tag⟩) (by simp) rfl
      exact ⟨bstep hb h.bel (Nat.le_refl _), y0, y1, y2⟩
    clear hn hR hx h1 h2 h3 h4
    go_enter Tryz.func13, Tryz.ntmps13
    go_wp2_with (go_at_call 23; refine (heldAs_any tn tag p n cap _).mono ?_; rintro e w1 ⟨rfl, hb2⟩; have hb3 := bstep hb1 hb2 (Nat.le_refl _))
    have hS := (Sg.nil w1).lit kW [⟨⟨p, n, cap⟩, tn, tag⟩] 1 rfl (by decide) #[.slice p n cap, .int .i64 tn, .int .i64 tag] rfl
    change Sg w1 (w1.alloc (.cells #[.slice p n cap, .int .i64 tn, .int .i64 tag] 53)) _ at hS
    have HK1 := Lib.hid (HK.out w1 hb3)
    go_region_held3 (fun w' => Sg w1 w' [rG kW (.slice (some ⟨w1.heap.size, 0, none⟩) 1 1) [⟨⟨p, n, cap⟩, tn, tag⟩]] ∧ (Below w.heap.size w w' ∧ w'.cell? ⟨w1.heap.size, 0, none⟩ = some (.slice p n cap) ∧ w'.cell? ⟨w1.heap.size, 1, none⟩ = some (.int .i64 tn) ∧ w'.cell? ⟨w1.heap.size, 2, none⟩ = some (.int .i64 tag)))
      (first | exact ‹Sg _ _ _ ∧ _› | exact keepG HK1 ((‹Sg _ _ _ ∧ _›).1.step hb5) | exact keepG HK1 ((‹Sg _ _ _ ∧ _›).1.step hb4) | exact keepG HK1 (hS.step (Below.refl _ _).drew) | fail)
      (first
        | (go_at_call 25; refine (H1.out _ (‹Sg _ _ _ ∧ _ ∧ _›).2.1).mono ?_; rintro e w2 ⟨rfl, hb4⟩)
        | (go_at_call 34; refine (H2.out _ (‹Sg _ _ _ ∧ _ ∧ _›).2.1).mono ?_; rintro e w3 ⟨rfl, hb5⟩))
    go_wp2
    go_ret
    exact ⟨by rw [HE.out]; rfl, (‹Sg _ _ _ ∧ _ ∧ _›).2.1⟩

/-- What the spec folds. -/
def hsF (h : Int) (s : ByteArray) : Int := hs s h (s.size + 7)
theorem fold_hs : ∀ {L : List ByteArray} {key : Int}, inB key = true → (∀ s ∈ L, s.size ≤ 200) → L.foldl lnI key = L.foldl hsF key ∧ inB (L.foldl hsF key) = true
  | [], key, hk, _ => ⟨rfl, hk⟩
  | s :: t, key, hk, hs => by
    obtain ⟨e1, e2⟩ := lnI_in hk (hs s (List.mem_cons_self ..))
    have ih := fold_hs (L := t) (key := lnI key s) e2 fun x hx => hs x (List.mem_cons_of_mem _ hx)
    have e3 : hsF key s = lnI key s := e1.symm
    rw [List.foldl_cons, List.foldl_cons, e3]
    exact ih
theorem chI_hs {key : Int} {L : List ByteArray} (hk : inB key = true) (hl : L.length ≤ 10) (hs : ∀ s ∈ L, s.size ≤ 200) : chI key L = L.foldl hsF key := by
  unfold chI; rw [if_pos ⟨hk, hl⟩, (fold_hs hk hs).1]
theorem tx_small (c : Cl) : (ctx c).size ≤ 200 := by have := ctx_size c; omega
theorem hsF_take {QL : List CQ} {k : Nat} {h0 : Int} (hk : k < QL.length) : (txs ((cls QL).take (k + 1))).foldl hsF h0 = hsF ((txs ((cls QL).take k)).foldl hsF h0) (ctx (QL.getD k zq).1) := by
  rw [txs_take hk, List.foldl_append]; rfl
theorem genB_no {key tn tag : Int} {L : List Cl} (hk : inB key = false) : genB key tn L tag = false := by
  unfold genB
  cases hv : ppB tn L tag
  · rfl
  · obtain ⟨_, _, _, h4⟩ := ppB_t hv
    have hb := inB_t.mp h4
    have e : chI key (dgS tn :: txs L) = -1 := by unfold chI; rw [if_neg (fun h => by rw [hk] at h; cases h.1)]
    rw [e, Bool.true_and]
    exact beq_false_of_ne (by omega)
set_option maxRecDepth 100000 in
set_option maxHeartbeats 2000000 in
theorem sGenuine_any (key tn tag : Int) (p : Option Addr) (cap n : Nat) (QL : List CQ) (hn : QL.length = n) (hb0 : n ≤ 10000000) (w : World) (hR : RdS w p QL) :
    Calls Tryz.prog 14 #[.int .i64 key, .agg #[.int .i64 tn, .slice p n cap, .int .i64 tag]] w fun e w' => e = .returned (.bool (genB key tn (cls QL) tag)) ∧ Below w.heap.size w w' := by
  have hst := (St.nil w).push [.int .i64 tn, .slice p n cap, .int .i64 tag] 26
  cases hk : inB key
  · have HE : Hid (genB key tn (cls QL) tag = false) := genB_no hk
    go_enter Tryz.func14, Tryz.ntmps14
    go_wp2_with (go_at_call 42; refine (sIn_v hk _).mono ?_; rintro e w1 ⟨rfl, hw1⟩; obtain rfl := hw1.symm)
    go_ret
    exact ⟨by rw [HE.out]; rfl, hst.bel⟩
  cases hv : ppB tn (cls QL) tag
  · have H1 : Hid (∀ W, Below w.heap.size w W → Calls Tryz.prog 35 #[.agg #[.int .i64 tn, .slice p n cap, .int .i64 tag]] W fun e w' => e = .returned (.bool false) ∧ Below W.heap.size W w') := fun W h => sPaper_v hv hn hb0 W (hR.step h)
    have HE : Hid (genB key tn (cls QL) tag = false) := by unfold genB; rw [hv]; exact rfl
    clear hn hR
    go_enter Tryz.func14, Tryz.ntmps14
    go_wp2_with (first
      | (go_at_call 42; refine (sIn_v hk _).mono ?_; rintro e w1 ⟨rfl, hw1⟩; obtain rfl := hw1.symm)
      | (go_at_call 35; refine (H1.out _ hst.bel).mono ?_; rintro e w2 ⟨rfl, hb2⟩))
    go_ret
    exact ⟨by rw [HE.out]; rfl, (hst.step hb2).bel⟩
  obtain ⟨h1, h2, h3, h4⟩ := ppB_t hv
  have H1 : Hid (∀ W, Below w.heap.size w W → Calls Tryz.prog 35 #[.agg #[.int .i64 tn, .slice p n cap, .int .i64 tag]] W fun e w' => e = .returned (.bool true) ∧ Below W.heap.size W w') := fun W h => sPaper_v hv hn hb0 W (hR.step h)
  have hkb := inB_t.mp hk
  obtain ⟨m, hm⟩ : ∃ m : Nat, tn = m := ⟨tn.toNat, by unfold tenB at h1; have := of_decide_eq_true h1; omega⟩
  have hm9 : m ≤ 1000000000 := by unfold tenB at h1; have := of_decide_eq_true h1; omega
  have hds := dg_size h1
  have HS := fold_hs (L := dgS tn :: txs (cls QL)) hk (fun s hs => by
    rcases List.mem_cons.mp hs with rfl | hs
    · exact hds
    · unfold txs at hs; obtain ⟨c, _, rfl⟩ := List.mem_map.mp hs; exact tx_small c)
  have HE : Hid (genB key tn (cls QL) tag = (tag == (txs (cls QL)).foldl hsF (hsF key (dgS tn)))) := by
    unfold genB
    rw [hv, Bool.true_and]
    unfold chI
    have hl : (dgS tn :: txs (cls QL)).length ≤ 10 := by unfold txs; rw [List.length_cons, List.length_map]; omega
    rw [if_pos ⟨hk, hl⟩, HS.1]
    exact rfl
  have H0 : Hid (∀ k, inB ((txs ((cls QL).take k)).foldl hsF (hsF key (dgS tn))) = true) := fun k => by
    have := (fold_hs (L := dgS tn :: txs ((cls QL).take k)) hk (fun s hs => by
      rcases List.mem_cons.mp hs with rfl | hs
      · exact hds
      · unfold txs at hs; obtain ⟨c, _, rfl⟩ := List.mem_map.mp hs; exact tx_small c)).2
    exact this
  have HN : Hid (QL.length = n ∧ RdS w p QL ∧ (cls QL).all clB = true) := ⟨hn, hR, h3⟩
  subst hm
  have hds' : (dgS (m : Int)).size ≤ 10000000 := by omega
  clear hn hR h1 h2 h3 h4 HS hds
  obtain ⟨T, hTT⟩ : ∃ T, dgS (m : Int) = T := ⟨_, rfl⟩
  have HT := Lib.hid hTT
  rw [hTT] at hds' HE H0
  have HI : Hid (∀ W, Calls Tryz.prog 43 #[.int .i64 (m : Int)] W fun e w' => e = .returned (.string T) ∧ Below W.heap.size W w') := fun W => by rw [← HT.out]; exact l1Int_any m hm9 W
  clear hTT
  go_enter Tryz.func14, Tryz.ntmps14
  go_wp2_with (first
    | (go_at_call 42; refine (sIn_v hk _).mono ?_; rintro e w1 ⟨rfl, hw1⟩; obtain rfl := hw1.symm)
    | (go_at_call 35; refine (H1.out _ hst.bel).mono ?_; rintro e w2 ⟨rfl, hb2⟩; have hs2 := hst.step hb2; have hk2 := hs2.has; simp [Has, HasAt] at hk2)
    | (go_at_call 43; refine (HI.out _).mono ?_; rintro e w3 ⟨rfl, hb3⟩; have hs3 := hs2.step hb3)
    | (go_at_call 39; refine (l9Seal_any _ _ _ hds' hkb).mono ?_; rintro e w4 ⟨rfl, hw4⟩; obtain rfl := hw4.symm))
  go_loopw [5, 6] (fun hv iv wr => ∃ (k : Nat) (h : Int), k ≤ n ∧ iv = .int .i64 k ∧ hv = .int .i64 h ∧ Hid (h = (txs ((cls QL).take k)).foldl hsF (hsF key T)) ∧ St w wr [(w.heap.size, [.int .i64 (m : Int), .slice p n cap, .int .i64 tag])]) (fun _ iv _ => n - (intOf iv).toNat)
  case atStart => exact ⟨0, _, by omega, rfl, rfl, rfl, hs3⟩
  case round =>
    clear hs2 hs3 hk2
    obtain ⟨k, h, hkn, rfl, rfl, hh, hs⟩ := hrel
    have hk1 := hs.has
    simp [Has, HasAt] at hk1
    have hb := hs.bel
    by_cases hlt : k < n
    · have hki : (k : Int) < n := by omega
      have hkL : k < QL.length := by rw [HN.out.1]; exact hlt
      obtain ⟨g, off, rfl, hC⟩ := (HN.out.2.1.1.step hb).at hkL
      obtain ⟨c0, c1, c2⟩ := hC.q3 (getQ hkL)
      have hq := HN.out.2.1.2 _ (List.mem_of_getElem? (getQ hkL))
      have hcl : clB (QL.getD k zq).1 = true := List.all_eq_true.mp HN.out.2.2 _ (List.mem_of_getElem? (cls_get hkL))
      have hat := hsF_take (h0 := hsF key T) hkL
      have hib := H0.out k
      rw [← hh.out] at hat hib
      obtain ⟨⟨c, s, t⟩, hx⟩ : ∃ x : CQ, QL.getD k zq = x := ⟨_, rfl⟩
      rw [hx] at c0 c1 c2 hq hat hcl
      simp only at c0 c1 c2 hq hat hcl
      have HQ := Lib.hid hq
      have hcx : ctx c = tx c := by unfold ctx; rw [if_pos hcl]
      rw [hcx] at hat
      have HAT := Lib.hid hat
      have hsz : (tx c).size ≤ 10000000 := by have := tx_size hcl; omega
      have hibb := inB_t.mp hib
      clear hC hkL hq hat hx hib hcx
      go_wp2_with (first
        | (go_at_call 40; refine (l10Text_any hcl _ (HQ.out.step hb)).mono ?_; rintro e w5 ⟨rfl, hb5⟩)
        | (go_at_call 39; refine (l9Seal_any _ _ _ hsz hibb).mono ?_; rintro e w6 ⟨rfl, hw6⟩; obtain rfl := hw6.symm))
      go_roundw
      case rel => exact ⟨k + 1, _, by omega, by go_num, rfl, HAT.out.symm, hs.step hb5⟩
      case measure => simp [intOf]; omega
    · obtain rfl : k = n := by omega
      have HF : Hid (genB key m (cls QL) tag = (h == tag)) := by
        rw [HE.out, hh.out, List.take_of_length_le (by rw [cls_len, HN.out.1]; exact Nat.le_refl _)]
        exact Bool.beq_comm
      go_wp2
      go_ret
      exact ⟨by rw [HF.out]; rfl, hs.bel⟩
end Go.Proofs.YtkinbgcnenieeaaGreatDoor
