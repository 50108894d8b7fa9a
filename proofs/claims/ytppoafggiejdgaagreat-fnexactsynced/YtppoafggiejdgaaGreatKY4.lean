/-
  Whether a Shard is right: the spec's look.
-/
import Derived.Test.YtppoafggiejdgaaGreatKY3
namespace Go.Proofs.YtppoafggiejdgaaGreat.K.Y
open Go.Shelf Go.RowKit Go.Joins
attribute [local go_sem] Oper.semAt_some

theorem belR (w : World) (q : Nat) : Below w.heap.size w (w.drewN q) := belN (Below.refl _ _) q
theorem meet_none {A B : List Rc} (h : ∀ a ∈ A, ∀ b ∈ B, a.i ≠ b.i) : meetB A B = false := by
  rw [Bool.eq_false_iff]; intro e
  unfold meetB at e
  rw [List.any_eq_true] at e
  obtain ⟨a, ha, e⟩ := e
  rw [List.any_eq_true] at e
  obtain ⟨b, hb, e⟩ := e
  exact h a ha b hb (of_decide_eq_true e)
theorem meet_some {A B : List Rc} {i j : Nat} {a b : Rc} (ha : A[i]? = some a) (hb : B[j]? = some b) (e : a.i = b.i) : meetB A B = true := by
  unfold meetB
  rw [List.any_eq_true]
  exact ⟨a, List.mem_of_getElem? ha, by rw [List.any_eq_true]; exact ⟨b, List.mem_of_getElem? hb, decide_eq_true e⟩⟩
theorem mem_take_snoc {α : Type} {L : List α} {k : Nat} {a z : α} (hk : L[k]? = some a) (h : z ∈ L.take (k + 1)) : z ∈ L.take k ∨ z = a := by
  rw [List.take_add_one, hk] at h
  simpa using h
set_option maxRecDepth 100000 in
set_option maxHeartbeats 2000000 in
theorem sMeet_v {A B : List Rc} {v : Bool} (hv : meetB A B = v) (p q : Option Addr) (n m c c' : Nat) (hn : A.length = n) (hm : B.length = m) (hb0 : n ≤ 10000000) (hb1 : m ≤ 10000000) (w : World) (hA : SlG I.kR w p A) (hB : SlG I.kR w q B) :
    Calls Tryz.prog 37 #[.slice p n c, .slice q m c'] w fun e w' => e = .returned (.bool v) ∧ ∃ r, w' = w.drewN r := by
  have HN : Hid (A.length = n ∧ B.length = m) := ⟨hn, hm⟩
  have HV := Lib.hid hv
  clear hn hm hv
  go_enter Tryz.func37, Tryz.ntmps37
  go_wp2
  go_loopw [5] (fun i wr => ∃ (k r : Nat), k ≤ n ∧ i = .int .i64 k ∧ Hid (∀ a ∈ A.take k, ∀ b ∈ B, a.i ≠ b.i) ∧ wr = w.drewN r) (fun i _ => n - (intOf i).toNat)
  case atStart => exact ⟨0, 0, by omega, rfl, by simp [Hid], rfl⟩
  case round =>
    obtain ⟨k, r, hk, rfl, hK, rfl⟩ := hrel
    by_cases hlt : k < n
    · have hki : (k : Int) < n := by omega
      have hkA : k < A.length := by rw [HN.out.1]; exact hlt
      obtain ⟨g, off, rfl, hC⟩ := hA.at hkA
      have hga := getR hkA
      generalize A.getD k zrc = a at hga
      have HGA := Lib.hid hga
      have c1 := (CsG.i5 hC hga).2.1
      clear hC hkA hga
      go_wp2
      go_loopw [6] (fun i wr => ∃ (j r : Nat), j ≤ m ∧ i = .int .i64 j ∧ Hid (∀ b ∈ B.take j, a.i ≠ b.i) ∧ wr = w.drewN r) (fun i _ => m - (intOf i).toNat)
      case atStart => exact ⟨0, r, by omega, rfl, by simp [Hid], rfl⟩
      case round =>
        obtain ⟨j, r2, hj, rfl, hJ, rfl⟩ := hrel
        by_cases hjt : j < m
        · have hji : (j : Int) < m := by omega
          have hjB : j < B.length := by rw [HN.out.2]; exact hjt
          obtain ⟨g2, off2, rfl, hC2⟩ := hB.at hjB
          have hgb := getR hjB
          generalize B.getD j zrc = b at hgb
          have HGB := Lib.hid hgb
          have d1 := (CsG.i5 hC2 hgb).2.1
          clear hC2 hjB hgb
          by_cases he : a.i = b.i
          · have he' : (a.i == b.i) = true := by simp [he]
            have HE := Lib.hid he
            clear he
            go_wp2
            go_quiet (fail)
            go_wp2
            go_ret
            exact ⟨ret_bool (by rw [← HV.out, meet_some HGA.out HGB.out HE.out]), _, World.drewN_drewN ..⟩
          · have he' : (a.i == b.i) = false := by simp [he]
            have HE := Lib.hid he
            clear he
            go_wp2
            go_quiet (fail)
            go_wp2
            go_roundw
            case rel => exact ⟨j + 1, _, by omega, by go_num, fun z hz => by
              rcases mem_take_snoc HGB.out hz with h | h
              · exact hJ.out z h
              · rw [h]; exact HE.out, rfl⟩
            case measure => simp [intOf]; omega
        · obtain rfl : m = j := by omega
          go_wp2
          go_roundw
          case rel => exact ⟨k + 1, r2, by omega, by go_num, fun z hz => by
            rcases mem_take_snoc HGA.out hz with h | h
            · exact hK.out z h
            · rw [h]; intro b hb; exact hJ.out b (by rw [List.take_of_length_le (by rw [HN.out.2]; exact Nat.le_refl _)]; exact hb), rfl⟩
          case measure => simp [intOf]; omega
    · obtain rfl : n = k := by omega
      go_wp2
      go_ret
      exact ⟨ret_bool (by rw [← HV.out, meet_none fun a ha => hK.out a (by rw [List.take_of_length_le (by rw [HN.out.1]; exact Nat.le_refl _)]; exact ha)]), r, rfl⟩
theorem nums_no {L : List Int} {k : Nat} {z : Int} (hk : L[k]? = some z) (h : numB z = false) : numsB L = false := by
  unfold numsB; rw [all_no hk h]; rfl
theorem ready_no1 {Y : List Yd} {k : Nat} {y : Yd} (hk : Y[k]? = some y) (h : yB y = false) : readyB Y = false := by
  unfold readyB; rw [all_no hk h]; rfl
theorem ready_no2 {Y : List Yd} {i k : Nat} {a b : Yd} (hi : Y[i]? = some a) (hk : Y[k]? = some b) (hik : i < k) (h : badB a b = true) : readyB Y = false := by
  rw [← ready_eq, Bool.eq_false_iff]
  intro e
  unfold sreadyB at e
  rw [Bool.and_eq_true, decide_eq_true_iff, List.pairwise_iff_getElem] at e
  have := e.2 i k (List.getElem?_eq_some_iff.1 hi).1 (List.getElem?_eq_some_iff.1 hk).1 hik
  rw [(List.getElem?_eq_some_iff.1 hi).2, (List.getElem?_eq_some_iff.1 hk).2, h] at this
  cases this
theorem ready_yes {Y : List Yd} (h1 : ∀ y ∈ Y, yB y = true) (h2 : ∀ (i k : Nat) (a b : Yd), i < k → Y[i]? = some a → Y[k]? = some b → badB a b = false) : readyB Y = true := by
  rw [← ready_eq]
  unfold sreadyB
  rw [Bool.and_eq_true, List.all_eq_true, decide_eq_true_iff, List.pairwise_iff_getElem]
  exact ⟨h1, fun i j hi hj hij => h2 i j _ _ hij (List.getElem?_eq_getElem hi) (List.getElem?_eq_getElem hj)⟩
set_option maxRecDepth 100000 in
set_option maxHeartbeats 4000000 in
theorem sShardOk_v {h : Hv} {R : List Rc} {QL : List YQ} {O : List Int} {v : Bool} (hv : shB R (yds QL) O h.g.size h.s = v) (w : World) (H : RdS w h R QL O) :
    Calls Tryz.prog 14 #[h.v] w fun e w' => e = .returned (.bool v) ∧ Below w.heap.size w w' := by
  have HR := Lib.hid (fun W (hb : Below w.heap.size w W) v hv => sOk_v (L := R) (v := v) hv h.r.p h.r.c h.r.n H.rn W (H.r.step hb) H.b.1)
  have HO := Lib.hid (fun W (hb : Below w.heap.size w W) v hv => l1Rises_v (L := O) (v := v) hv h.o.p h.o.c h.o.n H.on W (H.o.step hb) H.b.2.2.1)
  have HH := Lib.hid H
  have HL : Hid ((yds QL).length = h.y.n ∧ O.length = h.o.n) := ⟨by rw [yds_len, H.yn], H.on⟩
  have hb := H.b
  unfold shB roomB at hv
  rw [HL.out.1, HL.out.2] at hv
  clear H
  obtain ⟨⟨rp, rn, rc⟩, ⟨yp, yn, yc⟩, ⟨op, on, oc⟩, g, s⟩ := h
  simp only at HR HO HL hv hb
  obtain ⟨hbr, hby, hbo, hbg⟩ := hb
  have hlit := (Sg.nil w).lit kSh [⟨⟨rp, rn, rc⟩, ⟨yp, yn, yc⟩, ⟨op, on, oc⟩, g, s⟩] 1 rfl (by decide) #[.slice rp rn rc, .slice yp yn yc, .slice op on oc, .string g, .int .i64 s] rfl
  change Sg w (w.alloc (.cells #[.slice rp rn rc, .slice yp yn yc, .slice op on oc, .string g, .int .i64 s] 31)) _ at hlit
  have HC := Lib.hid (fun W (hb : Sg w W [rG kSh (.slice (some ⟨w.heap.size, 0, none⟩) 1 1) [⟨⟨rp, rn, rc⟩, ⟨yp, yn, yc⟩, ⟨op, on, oc⟩, g, s⟩]]) => sh5 hb (K := kSh) (g := w.heap.size) (n := 1) (q := ⟨⟨rp, rn, rc⟩, ⟨yp, yn, yc⟩, ⟨op, on, oc⟩, g, s⟩) (by simp) rfl)
  simp only at HC
  cases h4 : recsB R
  · have hf : v = false := by rw [← hv, h4]; simp
    subst hf
    clear hv
    go_enter Tryz.func14, Tryz.ntmps14
    go_wp2_with (go_at_call 32; refine (HR.out _ hlit.bel _ h4).mono ?_; rintro e w1 ⟨rfl, hb1⟩; have hS1 := hlit.step hb1; obtain ⟨y0, y1, y2, y3, y4, _, _⟩ := HC.out _ hS1)
    go_ret
    exact ⟨rfl, hS1.bel⟩
  by_cases i1 : (100 : Int) < yn
  · have hf : v = false := by rw [← hv, decide_eq_false (show ¬ yn ≤ 100 by omega)]; simp
    subst hf
    clear hv
    go_enter Tryz.func14, Tryz.ntmps14
    go_wp2_with (go_at_call 32; refine (HR.out _ hlit.bel _ h4).mono ?_; rintro e w1 ⟨rfl, hb1⟩; have hS1 := hlit.step hb1; obtain ⟨y0, y1, y2, y3, y4, _, _⟩ := HC.out _ hS1)
    go_ret
    exact ⟨rfl, hS1.bel⟩
  by_cases i2 : (400 : Int) < on
  · have hf : v = false := by rw [← hv, decide_eq_false (show ¬ on ≤ 400 by omega)]; simp
    subst hf
    clear hv
    go_enter Tryz.func14, Tryz.ntmps14
    go_wp2_with (go_at_call 32; refine (HR.out _ hlit.bel _ h4).mono ?_; rintro e w1 ⟨rfl, hb1⟩; have hS1 := hlit.step hb1; obtain ⟨y0, y1, y2, y3, y4, _, _⟩ := HC.out _ hS1)
    go_ret
    exact ⟨rfl, hS1.bel⟩
  by_cases i3 : (100000 : Int) < g.size
  · have hf : v = false := by rw [← hv, decide_eq_false (show ¬ g.size ≤ 100000 by omega)]; simp
    subst hf
    clear hv
    go_enter Tryz.func14, Tryz.ntmps14
    go_wp2_with (go_at_call 32; refine (HR.out _ hlit.bel _ h4).mono ?_; rintro e w1 ⟨rfl, hb1⟩; have hS1 := hlit.step hb1; obtain ⟨y0, y1, y2, y3, y4, _, _⟩ := HC.out _ hS1)
    go_ret
    exact ⟨rfl, hS1.bel⟩
  rw [decide_eq_true (show yn ≤ 100 by omega), decide_eq_true (show on ≤ 400 by omega), decide_eq_true (show g.size ≤ 100000 by omega), h4] at hv
  simp only [Bool.true_and, Bool.and_self] at hv
  cases h5 : rgB s 0 g.size
  · have hf : v = false := by
      rw [← hv, ← Bool.and_assoc]
      have : (decide (0 ≤ s) && decide (s ≤ (g.size : Int))) = false := by rw [← h5]; unfold rgB; rw [← Bool.decide_and]
      rw [this]; rfl
    subst hf
    clear hv
    go_enter Tryz.func14, Tryz.ntmps14
    go_wp2_with (first
      | (go_at_call 32; refine (HR.out _ hlit.bel _ h4).mono ?_; rintro e w1 ⟨rfl, hb1⟩; have hS1 := hlit.step hb1; obtain ⟨y0, y1, y2, y3, y4, _, _⟩ := HC.out _ hS1)
      | (go_at_call 33; refine (l1In_v h5 _).mono ?_; rintro e w2 ⟨rfl, hw2⟩; obtain rfl := hw2.symm))
    go_ret
    exact ⟨rfl, hS1.bel⟩
  have hv1 : (readyB (yds QL) && numsB O) = v := by
    rw [← hv]
    have : (decide (0 ≤ s) && decide (s ≤ (g.size : Int))) = true := by rw [← h5]; unfold rgB; rw [← Bool.decide_and]
    rw [← Bool.and_assoc (decide (0 ≤ s)), this]; rfl
  clear hv
  cases h6 : riseN O
  · have hf : v = false := by rw [← hv1]; unfold numsB; rw [h6]; simp
    subst hf
    clear hv1
    go_enter Tryz.func14, Tryz.ntmps14
    go_wp2_with (first
      | (go_at_call 32; refine (HR.out _ hlit.bel _ h4).mono ?_; rintro e w1 ⟨rfl, hb1⟩; have hS1 := hlit.step hb1; obtain ⟨y0, y1, y2, y3, y4, _, _⟩ := HC.out _ hS1)
      | (go_at_call 33; refine (l1In_v h5 _).mono ?_; rintro e w2 ⟨rfl, hw2⟩; obtain rfl := hw2.symm)
      | (go_at_call 34; refine (HO.out _ hS1.bel _ h6).mono ?_; rintro e w3 ⟨rfl, hb3⟩))
    go_ret
    exact ⟨rfl, bstep hS1.bel hb3 (Nat.le_refl _)⟩
  have HV := Lib.hid hv1
  clear hv1
  go_enter Tryz.func14, Tryz.ntmps14
  go_wp2_with (first
      | (go_at_call 32; refine (HR.out _ hlit.bel _ h4).mono ?_; rintro e w1 ⟨rfl, hb1⟩; have hS1 := hlit.step hb1; obtain ⟨y0, y1, y2, y3, y4, _, _⟩ := HC.out _ hS1)
      | (go_at_call 33; refine (l1In_v h5 _).mono ?_; rintro e w2 ⟨rfl, hw2⟩; obtain rfl := hw2.symm)
      | (go_at_call 34; refine (HO.out _ hS1.bel _ h6).mono ?_; rintro e w3 ⟨rfl, hb3⟩; have hS3 := hS1.step hb3))
  clear hlit hS1 y0 y1 y2 y3 y4 HR HO h4 h5 hb1 hb3
  have ho0 : SlG kI w op O := HH.out.o
  have hy0 : RdY w yp QL := HH.out.y
  have HOn : Hid (O.length = on) := HL.out.2
  have HYn : Hid (QL.length = yn) := HH.out.yn
  have HOi := Lib.hid HH.out.oi
  have HYs := Lib.hid HH.out.ys
  have HYr : Hid (RdY w yp QL) := hy0
  clear HH HL
  go_loopw [3] (fun i wr => ∃ k : Nat, k ≤ on ∧ i = .int .i64 k ∧ Hid ((O.take k).all numB = true) ∧ Sg w wr [rG kSh (.slice (some ⟨w.heap.size, 0, none⟩) 1 1) [⟨⟨rp, rn, rc⟩, ⟨yp, yn, yc⟩, ⟨op, on, oc⟩, g, s⟩]]) (fun i _ => on - (intOf i).toNat)
  case atStart => exact ⟨0, by omega, rfl, rfl, hS3⟩
  case round =>
    clear hS3
    obtain ⟨k, hk, rfl, hK, hS⟩ := hrel
    obtain ⟨y0, y1, y2, y3, y4, _, _⟩ := HC.out _ hS
    by_cases hlt : k < on
    · have hki : (k : Int) < on := by omega
      have hkO : k < O.length := by rw [HOn.out]; exact hlt
      obtain ⟨g2, off, e2, hC⟩ := (ho0.step hS.bel).at hkO
      rw [e2] at y2
      have hg := List.getElem?_eq_getElem hkO
      have ht := all_take (f := numB) hkO
      have hz := HOi.out _ (List.getElem_mem hkO)
      generalize O[k] = z at hg ht hz
      have c0 := hC.int hg
      have HT := Lib.hid ht
      have HG := Lib.hid hg
      have hq1 := wq hz.1 hz.2
      have hq2 := Y.wr (n := z)
      obtain ⟨b, hb⟩ : ∃ b, numB z = b := ⟨_, rfl⟩
      have HB := Lib.hid hb
      unfold numB at hb
      obtain ⟨a1, ea⟩ : ∃ a, z.tdiv 1000000 = a := ⟨_, rfl⟩
      obtain ⟨a2, eb⟩ : ∃ a, z.tmod 1000000 = a := ⟨_, rfl⟩
      rw [ea] at hb hq1
      rw [eb] at hb hq2
      clear hC hkO ht hg hz e2
      cases b
      · go_wp2
        go_quiet ((go_at_call 35; refine Calls.quiet_of_same (I.sNum_v hb _)))
        go_wp2
        go_ret
        exact ⟨ret_bool (by rw [← HV.out, nums_no HG.out HB.out, Bool.and_false]), belN hS.bel _⟩
      · go_wp2
        go_quiet ((go_at_call 35; refine Calls.quiet_of_same (I.sNum_v hb _)))
        go_wp2
        go_roundw
        case rel => exact ⟨k + 1, by omega, by go_num, by show (O.take (k + 1)).all numB = true; rw [HT.out, hK.out, HB.out]; rfl, hS.step (belR _ _)⟩
        case measure => simp [intOf]; omega
    · obtain rfl : on = k := by omega
      have hN : numsB O = true := by
        unfold numsB
        have := hK.out
        rw [List.take_of_length_le (by rw [HOn.out]; exact Nat.le_refl _)] at this
        rw [this, h6]; rfl
      have HV2 : Hid (readyB (yds QL) = v) := by have := HV.out; rw [hN, Bool.and_true] at this; exact this
      clear hN HV hK HOi ho0
      go_wp2
      go_loopw [4] (fun i wr => ∃ k : Nat, k ≤ yn ∧ i = .int .i64 k ∧ Hid ((∀ y ∈ (yds QL).take k, yB y = true) ∧ ∀ (i j : Nat) (a b : Yd), i < j → j < k → (yds QL)[i]? = some a → (yds QL)[j]? = some b → badB a b = false) ∧ Sg w wr [rG kSh (.slice (some ⟨w.heap.size, 0, none⟩) 1 1) [⟨⟨rp, rn, rc⟩, ⟨yp, yn, yc⟩, ⟨op, on, oc⟩, g, s⟩]]) (fun i _ => yn - (intOf i).toNat)
      case atStart => exact ⟨0, by omega, rfl, ⟨by simp, by omega⟩, hS⟩
      case round =>
        clear hS y0 y1 y2 y3 y4
        rename World => wo
        obtain ⟨k, hk, rfl, hK, hS⟩ := hrel
        obtain ⟨y0, y1, y2, y3, y4, _, _⟩ := HC.out _ hS
        by_cases hlt : k < yn
        · have hki : (k : Int) < yn := by omega
          have hkY : k < QL.length := by rw [HYn.out]; exact hlt
          obtain ⟨g2, off, rfl, hC⟩ := (hy0.1.step hS.bel).at hkY
          obtain ⟨c0, c1, c2⟩ := CsG.y3 hC (getY hkY)
          have hq := HYr.out.2 _ (List.mem_of_getElem? (getY hkY))
          have hbd := HYs.out _ (List.mem_of_getElem? (getY hkY))
          have hgt := yds_get hkY
          have htk := yds_take hkY
          obtain ⟨⟨⟨t, q, L⟩, ⟨sp, sn, sc⟩⟩, hx⟩ : ∃ x : YQ, QL.getD k zyq = x := ⟨_, rfl⟩
          rw [hx] at c0 c1 c2 hq hbd hgt htk
          simp only at c0 c1 c2 hq hbd hgt htk
          have HQ : Hid (RdI I.kR w (⟨t, q, L⟩, ⟨sp, sn, sc⟩)) := hq
          have HI : Hid (∀ W v, Below w.heap.size w W → I.itsB L = v → Calls Tryz.prog 36 #[.slice sp sn sc] W fun e w' => e = .returned (.bool v) ∧ Below W.heap.size W w') := fun W v h h2 => I.sIts_v h2 sp sc sn hq.2 W (hq.1.step h) hbd
          have HG : Hid ((yds QL)[k]? = some ⟨t, q, L⟩ ∧ (yds QL).take (k + 1) = (yds QL).take k ++ [⟨t, q, L⟩]) := ⟨hgt, htk⟩
          have hlit := hS.lit I.kB [⟨t, q, ⟨sp, sn, sc⟩⟩] 1 rfl (by decide) #[.int .i64 t, .int .i64 q, .slice sp sn sc] rfl
          change Sg w (wo.alloc (.cells #[.int .i64 t, .int .i64 q, .slice sp sn sc] 65)) _ at hlit
          clear hC hkY hq hgt htk hx
          cases hn1 : (rgB t 1 99 && rgB q 1 100000)
          · go_wp2_with (go_at_call 35; refine (I.sNum_v hn1 _).mono ?_; rintro e w4 ⟨rfl, hw4⟩; obtain rfl := hw4.symm)
            go_ret
            exact ⟨ret_bool (by rw [← HV2.out, ready_no1 HG.out.1 (by unfold yB I.batB; simp only; rw [hn1]; rfl)]), hlit.bel⟩
          cases hn2 : I.itsB L
          · go_wp2_with (first
              | (go_at_call 35; refine (I.sNum_v hn1 _).mono ?_; rintro e w4 ⟨rfl, hw4⟩; obtain rfl := hw4.symm)
              | (go_at_call 36; refine (HI.out _ _ hlit.bel hn2).mono ?_; rintro e w5 ⟨rfl, hb5⟩))
            go_ret
            exact ⟨ret_bool (by rw [← HV2.out, ready_no1 HG.out.1 (by unfold yB I.batB; simp only; rw [hn2, Bool.and_false])]), bstep hlit.bel hb5 (Nat.le_refl _)⟩
          have HYB : Hid (yB ⟨t, q, L⟩ = true) := by show yB ⟨t, q, L⟩ = true; unfold yB I.batB; simp only; rw [hn1, hn2]; rfl
          go_wp2_with (first
              | (go_at_call 35; refine (I.sNum_v hn1 _).mono ?_; rintro e w4 ⟨rfl, hw4⟩; obtain rfl := hw4.symm)
              | (go_at_call 36; refine (HI.out _ _ hlit.bel hn2).mono ?_; rintro e w5 ⟨rfl, hb5⟩; have hS5 := hlit.step hb5))
          clear hlit hS y0 y1 y2 y3 y4 c0 c1 c2 HI hb5 hn1 hn2
          go_loopw [6] (fun i wr => ∃ j : Nat, j ≤ k ∧ i = .int .i64 j ∧ Hid (∀ y ∈ (yds QL).take j, badB y ⟨t, q, L⟩ = false) ∧ Sg w wr [rG I.kB (.slice (some ⟨wo.heap.size, 0, none⟩) 1 1) [⟨t, q, ⟨sp, sn, sc⟩⟩], rG kSh (.slice (some ⟨w.heap.size, 0, none⟩) 1 1) [⟨⟨rp, rn, rc⟩, ⟨some ⟨g2, off, none⟩, yn, yc⟩, ⟨op, on, oc⟩, g, s⟩]]) (fun i _ => k - (intOf i).toNat)
          case atStart => exact ⟨0, by omega, rfl, by simp [Hid], hS5⟩
          case round =>
            clear hS5
            obtain ⟨j, hj, rfl, hJ, hS⟩ := hrel
            by_cases hjt : j < k
            · have hji : (j : Int) < k := by omega
              have hjY : j < QL.length := by rw [HYn.out]; omega
              have hjy : (j : Int) < yn := by omega
              obtain ⟨y0, y1, y2, y3, y4, _, _⟩ := HC.out _ hS.d0
              obtain ⟨b0, b1, b2, bf, bg⟩ := I.bat3 hS (K := I.kB) (g := wo.heap.size) (n := 1) (q := ⟨t, q, ⟨sp, sn, sc⟩⟩) (by simp) rfl
              simp only at b0 b1 b2
              have hC0 : SlG kY wr (some ⟨g2, off, none⟩) QL := hy0.1.step hS.bel
              obtain ⟨g3, off3, e3, hC⟩ := hC0.at hjY
              injection e3 with e3
              injection e3 with e3 e4
              subst e3 e4
              obtain ⟨c0, c1, c2⟩ := CsG.y3 hC (getY hjY)
              have hq := HYr.out.2 _ (List.mem_of_getElem? (getY hjY))
              have hbd2 := HYs.out _ (List.mem_of_getElem? (getY hjY))
              have hgt := yds_get hjY
              obtain ⟨⟨⟨t2, q2, L2⟩, ⟨sp2, sn2, sc2⟩⟩, hx⟩ : ∃ x : YQ, QL.getD j zyq = x := ⟨_, rfl⟩
              rw [hx] at c0 c1 c2 hq hbd2 hgt
              simp only at c0 c1 c2 hq hbd2 hgt
              have HG2 := Lib.hid hgt
              have HM : Hid (∀ v n, meetB L2 L = v → Calls Tryz.prog 37 #[.slice sp2 sn2 sc2, .slice sp sn sc] (wr.drewN n) fun e w' => e = .returned (.bool v) ∧ ∃ r, w' = (wr.drewN n).drewN r) := fun v n h => sMeet_v h sp2 sp sn2 sn sc2 sc hq.2 HQ.out.2 hbd2 hbd _ ((hq.1.step hS.bel).step (belR _ _)) ((HQ.out.1.step hS.bel).step (belR _ _))
              clear hC hC0 hjY hq hbd2 hgt hx
              have hbel := Lib.hid hS.bel
              obtain ⟨bb, hbb⟩ : ∃ b, Hid (badB ⟨t2, q2, L2⟩ ⟨t, q, L⟩ = b) := ⟨_, rfl⟩
              have hbb0 := hbb.out
              unfold badB at hbb0
              simp only at hbb0
              by_cases h1 : t2 = t
              · have h1' : (t2 == t) = true := by simp [h1]
                rw [decide_eq_true h1, Bool.true_and] at hbb0
                clear h1
                by_cases h2 : q2 = q
                · have h2' : (q2 == q) = true := by simp [h2]
                  rw [decide_eq_true h2, Bool.true_or] at hbb0
                  subst hbb0
                  clear h2
                  go_wp2
                  go_quiet (fail)
                  go_wp2
                  go_ret
                  exact ⟨ret_bool (by rw [← HV2.out, ready_no2 HG2.out HG.out.1 hjt hbb.out]), belN hS.bel _⟩
                · have h2' : (q2 == q) = false := by simp [h2]
                  rw [decide_eq_false h2, Bool.false_or] at hbb0
                  clear h2
                  cases bb
                  · go_wp2
                    go_quiet ((go_at_call 37; refine Calls.quiet_of (HM.out _ _ hbb0)))
                    go_wp2
                    go_roundw
                    case rel => exact ⟨j + 1, by omega, by go_num, fun z hz => by
                      rcases mem_take_snoc HG2.out hz with h | h
                      · exact hJ.out z h
                      · rw [h]; exact hbb.out, hS.step (belR _ _)⟩
                    case measure => simp [intOf]; omega
                  · go_wp2
                    go_quiet ((go_at_call 37; refine Calls.quiet_of (HM.out _ _ hbb0)))
                    go_wp2
                    go_ret
                    exact ⟨ret_bool (by rw [← HV2.out, ready_no2 HG2.out HG.out.1 hjt hbb.out]), belN hS.bel _⟩
              · have h1' : (t2 == t) = false := by simp [h1]
                rw [decide_eq_false h1, Bool.false_and] at hbb0
                subst hbb0
                clear h1
                go_wp2
                go_quiet (fail)
                go_wp2
                go_roundw
                case rel => exact ⟨j + 1, by omega, by go_num, fun z hz => by
                      rcases mem_take_snoc HG2.out hz with h | h
                      · exact hJ.out z h
                      · rw [h]; exact hbb.out, hS.step (belR _ _)⟩
                case measure => simp [intOf]; omega
            · obtain rfl : k = j := by omega
              go_wp2
              go_roundw
              case rel =>
                refine ⟨k + 1, by omega, by go_num, ⟨fun y hy => ?_, fun i j a b hij hjk ha hb => ?_⟩, hS.d0⟩
                · rw [HG.out.2] at hy
                  rcases List.mem_append.1 hy with hy | hy
                  · exact hK.out.1 y hy
                  · simp at hy; subst hy; exact HYB.out
                · by_cases e : j = k
                  · subst e
                    rw [HG.out.1] at hb
                    cases hb
                    exact hJ.out a (List.mem_of_getElem? (by rw [List.getElem?_take_of_lt hij]; exact ha))
                  · exact hK.out.2 i j a b hij (by omega) ha hb
              case measure => simp [intOf]; omega
        · obtain rfl : yn = k := by omega
          go_wp2
          go_ret
          refine ⟨ret_bool ?_, hS.bel⟩
          rw [← HV2.out]
          have hl : (yds QL).length ≤ yn := by rw [yds_len, HYn.out]; exact Nat.le_refl _
          refine (ready_yes (fun y hy => hK.out.1 y (by rw [List.take_of_length_le hl]; exact hy)) fun i k a b hik ha hb => hK.out.2 i k a b hik (by have := (List.getElem?_eq_some_iff.1 hb).1; omega) ha hb).symm
end Go.Proofs.YtppoafggiejdgaaGreat.K.Y
