/-
  The law of Records, walked.
-/
import Derived.Test.YtjjnmeahcjpinaaD4
namespace Go.Proofs.Ytjjnmeahcjpinaa
open Go.Shelf Go.RowKit Go.Joins M
attribute [local go_sem] Oper.semAt_some

theorem Fr.sub {N : Nat} {A : Act} {l l' : List (Nat × Value)} (h : Fr N A l) (hs : ∀ p ∈ l', p ∈ l) : Fr N A l' := ⟨h.size, fun p hp => h.has p (hs p hp)⟩
theorem found_more {X : List Rc} {k : Nat} {x r : Rc} (hk : X[k]? = some x) : ((∃ j, j < k ∧ X[j]? = some r) ∨ x = r) ↔ ∃ j, j < k + 1 ∧ X[j]? = some r := by
  constructor
  · rintro (⟨j, h1, h2⟩ | rfl)
    · exact ⟨j, by omega, h2⟩
    · exact ⟨k, by omega, hk⟩
  · rintro ⟨j, h1, h2⟩
    by_cases e : j = k
    · subst e; rw [hk] at h2; exact .inr (Option.some.inj h2)
    · exact .inl ⟨j, by omega, h2⟩
theorem rc_ne {a b : Rc} (h : a ≠ b) : a.t ≠ b.t ∨ (a.t = b.t ∧ a.i ≠ b.i) ∨ (a.t = b.t ∧ a.i = b.i ∧ a.x ≠ b.x) ∨ (a.t = b.t ∧ a.i = b.i ∧ a.x = b.x ∧ a.y ≠ b.y) ∨ (a.t = b.t ∧ a.i = b.i ∧ a.x = b.x ∧ a.y = b.y ∧ a.s.toList ≠ b.s.toList) := by
  by_cases e1 : a.t = b.t
  · by_cases e2 : a.i = b.i
    · by_cases e3 : a.x = b.x
      · by_cases e4 : a.y = b.y
        · by_cases e5 : a.s.toList = b.s.toList
          · exact absurd (rc_ext e1 e2 e3 e4 (toList_inj e5)) h
          · exact .inr (.inr (.inr (.inr ⟨e1, e2, e3, e4, e5⟩)))
        · exact .inr (.inr (.inr (.inl ⟨e1, e2, e3, e4⟩)))
      · exact .inr (.inr (.inl ⟨e1, e2, e3⟩))
    · exact .inr (.inl ⟨e1, e2⟩)
  · exact .inl e1
theorem q_eqlN {A : Act} {C : World → Prop} {W : World} {a b : Rc} {d : Option Nat} {pos : String} {af : Array Edge} {g : Option (Nat × Bool)} {i j : Nat} (fi : A.tmps[i]? = some a.v) (fj : A.tmps[j]? = some b.v) (hne : a ≠ b) :
    Oper.quietAt Try.prog { dst := d, op := Op.binOp BinOp.eql 28 (Operand.tmp i) (Operand.tmp j) 28, type := 4, pos := pos, after := af, guard := g } A C W (.bool false) := by
  rcases rc_ne hne with h | ⟨h1, h⟩ | ⟨h1, h2, h⟩ | ⟨h1, h2, h3, h⟩ | ⟨h1, h2, h3, h4, h⟩ <;> (simp only [Oper.quietAt, Oper.quietUpon]; go_simp)
theorem setL_le (L : List Rc) (r : Rc) : (setL L r).length ≤ 400 := by
  unfold setL
  split
  · split
    · rename_i h
      unfold setB at h
      simp only [Bool.and_eq_true, decide_eq_true_eq] at h
      exact h.2.2
    · exact ok_len ‹_›
  · simp
theorem cutL_le (L : List Rc) (t i : Int) : (cutL L t i).length ≤ 400 := by
  unfold cutL
  split
  · exact (recs_mk.1 (sw_ok0 ‹_›)).1
  · simp
theorem inL_len (L : List Rc) (t : Int) (cs : List M.T3) : (inL L t cs).length ≤ 400 := by
  unfold inL; rw [List.length_map]; exact Nat.le_trans (List.length_filter_le ..) (ofL_le L t)
set_option maxRecDepth 100000 in
set_option maxHeartbeats 8000000 in
theorem records_small (a : Option Addr) (len cap : Nat) (zs : List Int) (g0 : Nat) (w : World) (hl : len ≤ 4096) (hr : Rd w g0 a len zs) :
    Calls Try.prog 3 #[.slice a len cap] w fun e w' => e = .returned (.bool true) ∧ Below w.heap.size w w' := by
  have hli : ¬ (4096 : Int) < len := by omega
  have HR : Hid (∀ W, Below w.heap.size w W → Rd W (g0 + W.heap.size) a len zs) := fun W h => hr.up h (by have := h.size; omega)
  have H11 := Lib.hid (fun W h => dSet (cap := cap) hl (HR.out W h))
  have H13 := Lib.hid (fun W h => dCut (cap := cap) hl (HR.out W h))
  have H15 := Lib.hid (fun W h => dOf (cap := cap) hl (HR.out W h))
  have H17 := Lib.hid (fun W h => dIn (cap := cap) hl (HR.out W h))
  have H19 := Lib.hid (fun W h => dSame (cap := cap) hl (HR.out W h))
  have hx := Sg.nil w
  clear hr
  go_enter Try.func3, Try.ntmps3
  go_upto_region 4 with (first
    | (go_at_call 10; refine (big_any _ _ _ _).mono ?_; rintro e w0 ⟨rfl, hw0⟩; subst hw0)
    | (go_at_call 11; refine (H11.out _ hx.bel).mono ?_; rintro e w1 ⟨gl, n, cl, L, ⟨rt, ri, rx, ry, rs⟩, rfl, hL, h1⟩; have hx1 := (hx.addL h1).lit kR [⟨rt, ri, rx, ry, rs⟩] 1 rfl (by decide) #[.int .i64 rt, .int .i64 ri, .int .i64 rx, .int .i64 ry, .string rs] rfl; change Sg _ (w1.alloc (.cells #[.int .i64 rt, .int .i64 ri, .int .i64 rx, .int .i64 ry, .string rs] 28)) _ at hx1))
  clear h1 hx
  obtain ⟨bt, hbt⟩ : ∃ b, w1.heap.size = b := ⟨_, rfl⟩
  rw [hbt] at hx1 ⊢
  generalize w1.alloc (.cells #[.int .i64 rt, .int .i64 ri, .int .i64 rx, .int .i64 ry, .string rs] 28) = W1 at hx1 ⊢
  clear hbt
  obtain ⟨X, hX⟩ : ∃ X, setL L ⟨rt, ri, rx, ry, rs⟩ = X := ⟨_, rfl⟩
  obtain ⟨bs, hbs⟩ : ∃ b, setB L ⟨rt, ri, rx, ry, rs⟩ = b := ⟨_, rfl⟩
  have HXB : Hid (setL L ⟨rt, ri, rx, ry, rs⟩ = X ∧ setB L ⟨rt, ri, rx, ry, rs⟩ = bs) := ⟨hX, hbs⟩
  clear hX hbs
  have hx : Sg _ W1 [rG kR (.slice (some ⟨bt, 0, none⟩) 1 1) [⟨rt, ri, rx, ry, rs⟩], lsR gl n cl L] := hx1
  clear hx1
  obtain ⟨y0, y1, y2, y3, y4⟩ := box5 (b := bt) (r := ⟨rt, ri, rx, ry, rs⟩) hx (by simp)
  go_upto_region 5 with (go_at_call 12; refine (iSetV (g := gl) (n := n) (c := cl) (L := L) hx (by simp) hL.out.2 ⟨rt, ri, rx, ry, rs⟩ HXB.out.1 HXB.out.2).mono ?_; rintro e w2 ⟨qx, mx, cx, hmx, rfl, hx2⟩)
  clear y0 y1 y2 y3 y4 hx
  go_upto_region 6 with (go_at_call 13; refine (H13.out _ hx2.bel).mono ?_; rintro e w3 ⟨ga, na, ca, A, ta, ia, rfl, hA, h3⟩; have hx := hx2.addL h3)
  clear hx2 h3
  obtain ⟨Y, hY⟩ : ∃ Y, cutL A ta ia = Y := ⟨_, rfl⟩
  obtain ⟨bc, hbc⟩ : ∃ b, cutB A ta ia = b := ⟨_, rfl⟩
  have HYB : Hid (cutL A ta ia = Y ∧ cutB A ta ia = bc) := ⟨hY, hbc⟩
  clear hY hbc
  go_upto_region 7 with (go_at_call 14; refine (iCutV (g := ga) (n := na) (c := ca) (L := A) hx (by simp) hA.out.2 ta ia HYB.out.1 HYB.out.2).mono ?_; rintro e w4 ⟨qy, my, cy, hmy, rfl, hx4⟩)
  clear hx
  go_upto_region 8 with (go_at_call 15; refine (H15.out _ hx4.bel).mono ?_; rintro e w5 ⟨go, no, co, O, tn, rfl, hO, h5⟩; have hx := hx4.addL h5)
  clear hx4 h5
  obtain ⟨V, hV⟩ : ∃ V, ofL O tn = V := ⟨_, rfl⟩
  have HV := Lib.hid hV
  clear hV
  go_upto_region 9 with (go_at_call 16; refine (iOfV (g := go) (n := no) (c := co) (L := O) hx (by simp) hO.out.2 tn HV.out).mono ?_; rintro e w6 ⟨qv, mv, cv, hmv, rfl, hx6⟩)
  clear hx
  go_upto_region 10 with (go_at_call 17; refine (H17.out _ hx6.bel).mono ?_; rintro e w7 ⟨gc, nc, cc, Cc, tc, qs, ms, css, cs, rfl, hCc, h7⟩; have hx := hx6.addL h7)
  clear hx6 h7
  obtain ⟨I, hI⟩ : ∃ I, inL Cc tc cs = I := ⟨_, rfl⟩
  have HI := Lib.hid hI
  clear hI
  go_upto_region 11 with (go_at_call 18; refine (iInV (g := gc) (n := nc) (c := cc) (L := Cc) hx (by simp) hCc.out.1.2 tc (cp := qs) (cn := ms) (cc := css) (cs := cs) (by simp) hCc.out.2.2 HI.out).mono ?_; rintro e w8 ⟨qi, mi, ci, hmi, rfl, hx8⟩)
  clear hx
  go_upto_region 12 with (go_at_call 19; refine (H19.out _ hx8.bel).mono ?_; rintro e w9 ⟨gp, np, cp, P, gq, nq, cq, Q, rfl, hPQ, h9⟩; have hx := hx8.addL h9)
  clear hx8 h9 H11 H13 H15 H17 H19 HR
  have hxx : Sg _ w9 [lsR gq nq cq Q, lsR gp np cp P, rG kI (.slice qi mi ci) I, rG kC (.slice qs ms css) cs, lsR gc nc cc Cc, rG kR (.slice qv mv cv) V, lsR go no co O, rG kR (.slice qy my cy) Y, lsR ga na ca A, rG kR (.slice qx mx cx) X, rG kR (.slice (some ⟨bt, 0, none⟩) 1 1) [⟨rt, ri, rx, ry, rs⟩], lsR gl n cl L] := hx
  clear hx
  have hx := hxx
  clear hxx
  obtain ⟨y0, y1, y2, y3, y4⟩ := box5 (b := bt) (r := ⟨rt, ri, rx, ry, rs⟩) hx (by simp)
  go_upto_region 13 with (go_at_call 20; refine (sSetV (g := gl) (n := n) (c := cl) (L := L) hx (by simp) hL.out.2 ⟨rt, ri, rx, ry, rs⟩ HXB.out.1 HXB.out.2).mono ?_; rintro e w10 ⟨qz, mz, cz, hmz, rfl, hx10⟩)
  obtain rfl : mz = mx := hmz.out.symm.trans hmx.out
  clear y0 y1 y2 y3 y4 hx
  obtain ⟨vL, hvL⟩ : ∃ v, recsB L = v := ⟨_, rfl⟩
  obtain ⟨vs, hvs⟩ : ∃ b : Bool, (recsB P = true ∧ P = Q) ↔ b = true := by
    by_cases h : recsB P = true ∧ P = Q
    · exact ⟨true, fun _ => rfl, fun _ => h⟩
    · exact ⟨false, fun h2 => absurd h2 h, fun h2 => by cases h2⟩
  have HVS := Lib.hid hvs
  have HVL := Lib.hid hvL
  clear hvs hvL
  have hmx4 : mz ≤ 1000 := by have h1 := hmx.out; rw [← HXB.out.1] at h1; have := setL_le L ⟨rt, ri, rx, ry, rs⟩; omega
  have hmv4 : mv ≤ 1000 := by have h1 := hmv.out; rw [← HV.out] at h1; have := ofL_le O tn; omega
  have hmi4 : mi ≤ 1000 := by have h1 := hmi.out; rw [← HI.out] at h1; have := inL_len Cc tc cs; omega
  have hmy4 : my ≤ 1000 := by have h1 := hmy.out; rw [← HYB.out.1] at h1; have := cutL_le A ta ia; omega
  have hn10 : n ≤ 1000 := by have := hL.out.2; omega
  have f1 : True := trivial
  go_upto_region 15 with (first
    | (go_at_call 21; clear f1; refine (likeRV (q := qx) (c := cx) (q2 := qz) (c2 := cz) (L := X) hx10 (by simp) (by simp) hmx4).mono ?_; rintro e w11 ⟨rfl, hx11⟩)
    | (go_at_call 22; refine (iOkV (q := some ⟨gl, 0, none⟩) (c := cl) (L := L) hx11 (by simp) hn10 HVL.out).mono ?_; rintro e w12 ⟨rfl, hx12⟩)
    | (go_at_call 23; refine (sOkV (q := some ⟨gl, 0, none⟩) (c := cl) (L := L) hx12 (by simp) hn10 HVL.out).mono ?_; rintro e w13 ⟨rfl, hx13⟩)
    | (go_at_call 24; refine (sOfV (g := go) (n := no) (c := co) (L := O) hx13 (by simp) hO.out.2 tn HV.out).mono ?_; rintro e w14 ⟨q14, m14, c14, hm14, rfl, hx14⟩; obtain rfl : mv = m14 := hmv.out.symm.trans hm14.out)
    | (go_at_call 21; refine (likeRV (q := qv) (c := cv) (q2 := q14) (c2 := c14) (L := V) hx14 (by simp) (by simp) hmv4).mono ?_; rintro e w15 ⟨rfl, hx15⟩)
    | (go_at_call 26; refine (sInV (g := gc) (n := nc) (c := cc) (L := Cc) hx15 (by simp) hCc.out.1.2 tc (cp := qs) (cn := ms) (cc := css) (cs := cs) (by simp) hCc.out.2.2 HI.out).mono ?_; rintro e w16 ⟨q16, m16, c16, hm16, rfl, hx16⟩; obtain rfl : mi = m16 := hmi.out.symm.trans hm16.out)
    | (go_at_call 25; refine (likeIV (q := qi) (c := ci) (q2 := q16) (c2 := c16) (I := I) hx16 (by simp) (by simp) hmi4).mono ?_; rintro e w17 ⟨rfl, hx17⟩)
    | (go_at_call 27; refine (iSameV (g := gp) (n := np) (c := cp) (L := P) hx17 (by simp) hPQ.out.1.2 (g2 := gq) (n2 := nq) (c2 := cq) (L2 := Q) (by simp) hPQ.out.2.2 HVS.out).mono ?_; rintro e w18 ⟨rfl, hx18⟩)
    | (go_at_call 28; refine (sSameV (g := gp) (n := np) (c := cp) (L := P) hx18 (by simp) hPQ.out.1.2 (g2 := gq) (n2 := nq) (c2 := cq) (L2 := Q) (by simp) hPQ.out.2.2 HVS.out).mono ?_; rintro e w19 ⟨rfl, hx19⟩))
  have hx : Sg _ w19 [rG kR (.slice qv mv cv) V, rG kR (.slice qy my cy) Y, lsR ga na ca A, rG kR (.slice qx mz cx) X, rG kR (.slice (some ⟨bt, 0, none⟩) 1 1) [⟨rt, ri, rx, ry, rs⟩], lsR gl n cl L] := hx19.sub (List.Sublist.cons _ (List.Sublist.cons _ (List.Sublist.cons _ (List.Sublist.cons _ (List.Sublist.cons _ (List.Sublist.cons _ (List.Sublist.cons _ (List.Sublist.cons _ (List.Sublist.cons_cons _ (.cons _ (List.Sublist.refl _)))))))))))
  clear hx10 hx11 hx12 hx13 hx14 hx15 hx16 hx17 hx18 hx19
  go_upto_region 18 with (first
    | (go_at_call 29; refine (sCutV (g := ga) (n := na) (c := ca) (L := A) hx (by simp) hA.out.2 ta ia HYB.out.1 HYB.out.2).mono ?_; rintro e w20 ⟨q20, m20, c20, hm20, rfl, hx20⟩; obtain rfl : my = m20 := hmy.out.symm.trans hm20.out)
    | (go_at_call 21; refine (likeRV (q := qy) (c := cy) (q2 := q20) (c2 := c20) (L := Y) hx20 (by simp) (by simp) hmy4).mono ?_; rintro e w21 ⟨rfl, hx21⟩))
  clear hx hx20
  have hx : Sg _ w21 [rG kR (.slice qv mv cv) V, rG kR (.slice qy my cy) Y, lsR ga na ca A, rG kR (.slice qx mz cx) X, rG kR (.slice (some ⟨bt, 0, none⟩) 1 1) [⟨rt, ri, rx, ry, rs⟩], lsR gl n cl L] := hx21.sub (.cons _ (List.Sublist.refl _))
  clear hx21
  go_upto_if 146 with (fail)
  go_cut [] from 25 (fun wx => Sg w wx [rG kR (.slice qv mv cv) V, rG kR (.slice qx mz cx) X, rG kR (.slice (some ⟨bt, 0, none⟩) 1 1) [⟨rt, ri, rx, ry, rs⟩], lsR gl n cl L])
  case first =>
    cases bc
    · go_wp2
      go_meet
      exact hx.sub (.cons_cons _ (.cons _ (.cons _ (List.Sublist.refl _))))
    · obtain ⟨l1, l2, l3, l4⟩ := cut_len HYB.out.2
      rw [HYB.out.1] at l1 l3 l4
      have hna := (OwG.len (hx.mem (K := kR) (v := .slice (some ⟨ga, 0, none⟩) na ca) (L := A) (by simp))).symm
      obtain rfl : na = my + 1 := by have := hmy.out; omega
      have HL4 := Lib.hid (And.intro l3 l4)
      clear l1 l2 l3 l4 hna
      have hq1 : ((my : Int) + 1 - 1) = my := by omega
      have hq2 : IntKind.i64.wrap (my : Int) = my := wrapI (by omega) (by omega)
      go_wp2_with (first
        | (go_at_call 22; refine (iOkV (q := qy) (c := cy) (L := Y) hx (by simp) hmy4 HL4.out.1).mono ?_; rintro e w22 ⟨rfl, hx22⟩)
        | (go_at_call 14; refine (iCutN (q := qy) (c := cy) (L := Y) hx22 (by simp) hmy4 ta ia HL4.out.2).mono ?_; rintro e w23 ⟨q23, m23, c23, rfl, hx23⟩))
      go_meet
      exact hx23.sub (.cons_cons _ (.cons _ (.cons _ (List.Sublist.refl _))))
  case rest =>
    clear hx
    have hx := hcut
    clear hcut
    have HVm : Hid (V.length = mv) := hmv
    have HSV : Hid (∀ w', Sg w w' [rG kR (.slice qv mv cv) V, rG kR (.slice qx mz cx) X, rG kR (.slice (some ⟨bt, 0, none⟩) 1 1) [⟨rt, ri, rx, ry, rs⟩], lsR gl n cl L] → SlG kR w' qv V) := fun w' h => OwG.sl (h.mem (K := kR) (v := .slice qv mv cv) (L := V) (by simp))
    go_wp2
    go_loopw [27] (fun i wr => ∃ k : Nat, k ≤ mv ∧ i = .int .i64 k ∧ Sg w wr [rG kR (.slice qv mv cv) V, rG kR (.slice qx mz cx) X, rG kR (.slice (some ⟨bt, 0, none⟩) 1 1) [⟨rt, ri, rx, ry, rs⟩], lsR gl n cl L]) (fun i _ => mv - (intOf i).toNat)
    case atStart => exact ⟨0, by omega, rfl, hx⟩
    case round =>
      clear hx
      obtain ⟨k, hk, rfl, hx⟩ := hrel
      by_cases hlt : k < mv
      · have hki : (k : Int) < mv := by omega
        have hkV : k < V.length := by rw [HVm.out]; exact hlt
        obtain ⟨gv, ov, rfl, hC⟩ := (HSV.out _ hx).at hkV
        have hge := List.getElem?_eq_getElem hkV
        generalize V[k] = x at hge
        have ht : x.t = tn := ofL_ten (L := O) (t := tn) (by rw [HV.out]; exact List.mem_of_getElem? hge)
        obtain ⟨c0, c1, c2, c3, c4⟩ := hC.r5 hge
        rw [ht] at c0
        clear hC hge ht c1 c2 c3 c4
        go_wp2
        go_roundw
        case rel => exact ⟨k + 1, by omega, by go_num, hx⟩
        case measure => simp [intOf]; omega
      · obtain rfl : mv = k := by omega
        cases vL
        · obtain ⟨s1, s2⟩ := set_no (r := ⟨rt, ri, rx, ry, rs⟩) HVL.out
          rw [HXB.out.1] at s1
          rw [HXB.out.2] at s2
          have hmz : mz = 0 := by have := hmx.out; rw [s1] at this; simpa using this.symm
          subst hmz s2
          clear s1
          go_wp2_with (go_at_call 23; refine (sOkV (q := some ⟨gl, 0, none⟩) (c := cl) (L := L) hx (by simp) hn10 HVL.out).mono ?_; rintro e w30 ⟨rfl, hx30⟩)
          go_ret
          exact ⟨rfl, hx30.bel⟩
        · cases bs
          · have hXL : X = L := by rw [← HXB.out.1]; exact set_none HVL.out HXB.out.2
            have hmn : mz = n := by have h1 := hmx.out; rw [hXL] at h1; exact h1.symm.trans hL.out.1
            subst hXL
            subst hmn
            go_wp2_with (first
              | (go_at_call 23; refine (sOkV (q := some ⟨gl, 0, none⟩) (c := cl) (L := X) hx (by simp) hn10 HVL.out).mono ?_; rintro e w30 ⟨rfl, hx30⟩)
              | (go_at_call 21; refine (likeRV (q := qx) (c := cx) (q2 := some ⟨gl, 0, none⟩) (c2 := cl) (L := X) hx30 (by simp) (by simp) hmx4).mono ?_; rintro e w31 ⟨rfl, hx31⟩))
            go_ret
            exact ⟨rfl, hx31.bel⟩
          · obtain ⟨_, sf2, sf3, sf4, sf5, sf6⟩ := set_facts HVL.out HXB.out.2
            rw [HXB.out.1, hL.out.1] at sf4 sf5
            rw [HXB.out.1] at sf2 sf3 sf6
            rw [hmx.out] at sf4 sf5
            have HSF : Hid (⟨rt, ri, rx, ry, rs⟩ ∈ X ∧ recsB X = true ∧ ∀ d ∈ L, d ∈ X ∨ (d.t = rt ∧ d.i = ri)) := ⟨sf2, sf3, sf6⟩
            have hmz0 : 0 < mz := by have h1 := hmx.out; cases X with | nil => simp at sf2 | cons _ _ => simp at h1; omega
            obtain ⟨gx, ox, hqx, hCx⟩ := (OwG.sl (hx.mem (K := kR) (v := .slice qx mz cx) (L := X) (by simp))).at (k := 0) (by rw [hmx.out]; exact hmz0)
            subst hqx
            clear hCx sf2 sf3 sf6
            have HCX : Hid (∀ w', Sg w w' [rG kR (.slice qv mv cv) V, rG kR (.slice (some ⟨gx, ox, none⟩) mz cx) X, rG kR (.slice (some ⟨bt, 0, none⟩) 1 1) [⟨rt, ri, rx, ry, rs⟩], lsR gl n cl L] → CsG kR w' gx ox X) := fun w' h => by
              rcases OwG.sl (h.mem (K := kR) (v := .slice (some ⟨gx, ox, none⟩) mz cx) (L := X) (by simp)) with e | ⟨g', o', e, hC⟩
              · have h1 := hmx.out; rw [e] at h1; simp at h1; omega
              · injection e with e; injection e with e1 e2; subst e1 e2; exact hC
            have HCL : Hid (∀ w', Sg w w' [rG kR (.slice qv mv cv) V, rG kR (.slice (some ⟨gx, ox, none⟩) mz cx) X, rG kR (.slice (some ⟨bt, 0, none⟩) 1 1) [⟨rt, ri, rx, ry, rs⟩], lsR gl n cl L] → CsG kR w' gl 0 L) := fun w' h => OwG.cs (h.mem (K := kR) (v := .slice (some ⟨gl, 0, none⟩) n cl) (L := L) (by simp))
            have HBX : Hid (∀ w', Sg w w' [rG kR (.slice qv mv cv) V, rG kR (.slice (some ⟨gx, ox, none⟩) mz cx) X, rG kR (.slice (some ⟨bt, 0, none⟩) 1 1) [⟨rt, ri, rx, ry, rs⟩], lsR gl n cl L] → (w'.cell? ⟨bt, 0, none⟩ = some (.int .i64 rt) ∧ w'.cell? ⟨bt, 1, none⟩ = some (.int .i64 ri) ∧ w'.cell? ⟨bt, 2, none⟩ = some (.int .i64 rx) ∧ w'.cell? ⟨bt, 3, none⟩ = some (.int .i64 ry) ∧ w'.cell? ⟨bt, 4, none⟩ = some (.string rs))) := fun w' h => box5 (b := bt) (r := ⟨rt, ri, rx, ry, rs⟩) h (by simp)
            go_upto_region 33 with (go_at_call 23; refine (sOkV (q := some ⟨gl, 0, none⟩) (c := cl) (L := L) hx (by simp) hn10 HVL.out).mono ?_; rintro e w30 ⟨rfl, hx30⟩)
            clear hx
            go_wp2
            go_loopw [28, 29] (fun s28 s29 wr => ∃ (k : Nat) (f : Bool), k ≤ mz ∧ s29 = .int .i64 k ∧ s28 = .bool f ∧ Hid (f = true ↔ ∃ j, j < k ∧ X[j]? = some ⟨rt, ri, rx, ry, rs⟩) ∧ Sg w wr [rG kR (.slice qv mv cv) V, rG kR (.slice (some ⟨gx, ox, none⟩) mz cx) X, rG kR (.slice (some ⟨bt, 0, none⟩) 1 1) [⟨rt, ri, rx, ry, rs⟩], lsR gl n cl L]) (fun _ i _ => mz - (intOf i).toNat)
            case atStart => exact ⟨0, false, by omega, rfl, rfl, (by simp : (false = true) ↔ _), hx30⟩
            case round =>
              clear hx30
              obtain ⟨k, f, hk, rfl, rfl, hF, hx⟩ := hrel
              by_cases hlt : k < mz
              · have hki : (k : Int) < mz := by omega
                have hkX : k < X.length := by rw [hmx.out]; exact hlt
                have hge := List.getElem?_eq_getElem hkX
                generalize X[k] = x at hge
                have HGE := Lib.hid hge
                have hS : ∀ w', Sg w w' [rG kR (.slice qv mv cv) V, rG kR (.slice (some ⟨gx, ox, none⟩) mz cx) X, rG kR (.slice (some ⟨bt, 0, none⟩) 1 1) [⟨rt, ri, rx, ry, rs⟩], lsR gl n cl L] → (w'.cell? ⟨bt, 0, none⟩ = some (.int .i64 rt) ∧ w'.cell? ⟨bt, 1, none⟩ = some (.int .i64 ri) ∧ w'.cell? ⟨bt, 2, none⟩ = some (.int .i64 rx) ∧ w'.cell? ⟨bt, 3, none⟩ = some (.int .i64 ry) ∧ w'.cell? ⟨bt, 4, none⟩ = some (.string rs)) ∧ (w'.cell? ⟨gx, ox + k * 5, none⟩ = some (.int .i64 x.t) ∧ w'.cell? ⟨gx, ox + k * 5 + 1, none⟩ = some (.int .i64 x.i) ∧ w'.cell? ⟨gx, ox + k * 5 + 2, none⟩ = some (.int .i64 x.x) ∧ w'.cell? ⟨gx, ox + k * 5 + 3, none⟩ = some (.int .i64 x.y) ∧ w'.cell? ⟨gx, ox + k * 5 + 4, none⟩ = some (.string x.s)) := fun w' h => ⟨HBX.out w' h, (HCX.out w' h).r5 HGE.out⟩
                clear hge hkX
                have HN : Hid (∀ f' : Bool, (f' = true ↔ (f = true ∨ x = ⟨rt, ri, rx, ry, rs⟩)) → (f' = true ↔ ∃ j, j < k + 1 ∧ X[j]? = some ⟨rt, ri, rx, ry, rs⟩)) := fun f' h => by
                  rw [h, hF.out]; exact found_more HGE.out
                cases f
                · by_cases hxe : x = ⟨rt, ri, rx, ry, rs⟩
                  · have hN := Lib.hid (HN.out true (by simp [hxe]))
                    subst hxe
                    go_wp2
                    refine wp_region_quiet (C := fun w' => Sg w w' [rG kR (.slice qv mv cv) V, rG kR (.slice (some ⟨gx, ox, none⟩) mz cx) X, rG kR (.slice (some ⟨bt, 0, none⟩) 1 1) [⟨rt, ri, rx, ry, rs⟩], lsR gl n cl L]) (by kernel_rfl) (by kernel_rfl) (hx.step (Below.refl _ _).drew) ?_
                    refine q_intro (fun A hA => ?_)
                    have hf : Fr 275 A [(4, .pointer (some ⟨bt, 0, none⟩)), (5, .slice (some ⟨gx, ox, none⟩) mz cx), (28, .bool false), (29, .int .i64 (k : Int))] := by subst hA; exact ⟨rfl, by simp⟩
                    refine q_step hf (d := 200) (v := .bool false) rfl rfl (by decide) (by simp) (fun w' hw' => ?_) (fun A hA200 hf => ?_)
                    · have f28 := hf.get (d := 28) (v := .bool false) (by simp)
                      clear hf
                      simp [Oper.quietAt, Oper.quietUpon, go_sem, f28]
                    refine q_step hf (d := 201) (v := .bool false) rfl rfl (by decide) (by simp) (fun w' hw' => ?_) (fun A hA201 hf => ?_)
                    · have f200 := hf.get (d := 200) (v := .bool false) (by simp)
                      clear hf
                      simp [Oper.quietAt, Oper.quietUpon, go_sem, f200]
                    refine q_want hf (d := 202) (v := .slice (some ⟨gx, ox, none⟩) mz cx) (e := 201) rfl rfl (by simp) rfl (by decide) (by simp) (fun w' hw' => ?_) (fun A hA202 hf => ?_)
                    · have f5 := hf.get (d := 5) (v := .slice (some ⟨gx, ox, none⟩) mz cx) (by simp)
                      clear hf
                      simp [Oper.quietAt, Oper.quietUpon, go_sem, f5]
                    refine q_want hf (d := 203) (v := .int .i64 (k : Int)) (e := 201) rfl rfl (by simp) rfl (by decide) (by simp) (fun w' hw' => ?_) (fun A hA203 hf => ?_)
                    · have f29 := hf.get (d := 29) (v := .int .i64 (k : Int)) (by simp)
                      clear hf
                      simp [Oper.quietAt, Oper.quietUpon, go_sem, f29]
                    refine q_want hf (d := 204) (v := .pointer (some ⟨gx, ox + k * 5, none⟩)) (e := 201) rfl rfl (by simp) rfl (by decide) (by simp) (fun w' hw' => ?_) (fun A hA204 hf => ?_)
                    · have f202 := hf.get (d := 202) (v := .slice (some ⟨gx, ox, none⟩) mz cx) (by simp)
                      have f203 := hf.get (d := 203) (v := .int .i64 (k : Int)) (by simp)
                      clear hf
                      simp [Oper.quietAt, Oper.quietUpon, go_sem, f202, f203, hki]
                    refine q_want hf (d := 205) (v := .agg #[.int .i64 rt, .int .i64 ri, .int .i64 rx, .int .i64 ry, .string rs]) (e := 201) rfl rfl (by simp) rfl (by decide) (by simp) (fun w' hw' => ?_) (fun A hA205 hf => ?_)
                    · have hc := hS _ hw'
                      have f204 := hf.get (d := 204) (v := .pointer (some ⟨gx, ox + k * 5, none⟩)) (by simp)
                      clear hf
                      simp [Oper.quietAt, Oper.quietUpon, go_sem, f204, hc]
                    refine q_want hf (d := 206) (v := .agg #[.int .i64 rt, .int .i64 ri, .int .i64 rx, .int .i64 ry, .string rs]) (e := 201) rfl rfl (by simp) rfl (by decide) (by simp) (fun w' hw' => ?_) (fun A hA206 hf => ?_)
                    · have hc := hS _ hw'
                      have f4 := hf.get (d := 4) (v := .pointer (some ⟨bt, 0, none⟩)) (by simp)
                      clear hf
                      simp [Oper.quietAt, Oper.quietUpon, go_sem, f4, hc]
                    refine q_want hf (d := 207) (v := .bool true) (e := 201) rfl rfl (by simp) rfl (by decide) (by simp) (fun w' hw' => ?_) (fun A hA207 hf => ?_)
                    · have f205 := hf.get (d := 205) (v := .agg #[.int .i64 rt, .int .i64 ri, .int .i64 rx, .int .i64 ry, .string rs]) (by simp)
                      have f206 := hf.get (d := 206) (v := .agg #[.int .i64 rt, .int .i64 ri, .int .i64 rx, .int .i64 ry, .string rs]) (by simp)
                      clear hf
                      simp [Oper.quietAt, Oper.quietUpon, go_sem, f205, f206]
                    refine q_step hf (d := 208) (v := .bool true) rfl rfl (by decide) (by simp) (fun w' hw' => ?_) (fun A hA208 hf => ?_)
                    · have f201 := hf.get (d := 201) (v := .bool false) (by simp)
                      have f207 := hf.get (d := 207) (v := .bool true) (by simp)
                      clear hf
                      simp [Oper.quietAt, Oper.quietUpon, go_sem, f201, f207]
                    replace hf := Fr.sub (l' := [(4, .pointer (some ⟨bt, 0, none⟩)), (5, .slice (some ⟨gx, ox, none⟩) mz cx), (29, .int .i64 (k : Int)), (200, .bool false), (201, .bool false), (202, .slice (some ⟨gx, ox, none⟩) mz cx), (203, .int .i64 (k : Int)), (204, .pointer (some ⟨gx, ox + k * 5, none⟩)), (205, .agg #[.int .i64 rt, .int .i64 ri, .int .i64 rx, .int .i64 ry, .string rs]), (206, .agg #[.int .i64 rt, .int .i64 ri, .int .i64 rx, .int .i64 ry, .string rs]), (207, .bool true), (208, .bool true)]) hf (by simp)
                    refine q_step hf (d := 28) (v := .bool true) rfl rfl (by decide) (by simp) (fun w' hw' => ?_) (fun A hA28 hf => ?_)
                    · have f208 := hf.get (d := 208) (v := .bool true) (by simp)
                      clear hf
                      simp [Oper.quietAt, Oper.quietUpon, go_sem, f208]
                    refine wpQuiet_nil (fun w' hw' => ?_)
                    clear hf
                    subst hA28 hA208 hA207 hA206 hA205 hA204 hA203 hA202 hA201 hA200 hA
                    simp only [Act.put, List.setIfInBounds_toArray, List.set_cons_succ, List.set_cons_zero]
                    go_wp2
                    go_roundw
                    case rel => exact ⟨k + 1, true, by omega, by go_num, rfl, ⟨fun _ => hN.out.1 trivial, fun _ => rfl⟩, hw'⟩
                    case measure => simp [intOf]; omega
                  · have hN := Lib.hid (HN.out false (by simp [hxe]))
                    have hne : x ≠ ⟨rt, ri, rx, ry, rs⟩ := hxe
                    go_wp2
                    refine wp_region_quiet (C := fun w' => Sg w w' [rG kR (.slice qv mv cv) V, rG kR (.slice (some ⟨gx, ox, none⟩) mz cx) X, rG kR (.slice (some ⟨bt, 0, none⟩) 1 1) [⟨rt, ri, rx, ry, rs⟩], lsR gl n cl L]) (by kernel_rfl) (by kernel_rfl) (hx.step (Below.refl _ _).drew) ?_
                    refine q_intro (fun A hA => ?_)
                    have hf : Fr 275 A [(4, .pointer (some ⟨bt, 0, none⟩)), (5, .slice (some ⟨gx, ox, none⟩) mz cx), (28, .bool false), (29, .int .i64 (k : Int))] := by subst hA; exact ⟨rfl, by simp⟩
                    refine q_step hf (d := 200) (v := .bool false) rfl rfl (by decide) (by simp) (fun w' hw' => ?_) (fun A hA200 hf => ?_)
                    · have f28 := hf.get (d := 28) (v := .bool false) (by simp)
                      clear hf
                      simp [Oper.quietAt, Oper.quietUpon, go_sem, f28]
                    refine q_step hf (d := 201) (v := .bool false) rfl rfl (by decide) (by simp) (fun w' hw' => ?_) (fun A hA201 hf => ?_)
                    · have f200 := hf.get (d := 200) (v := .bool false) (by simp)
                      clear hf
                      simp [Oper.quietAt, Oper.quietUpon, go_sem, f200]
                    refine q_want hf (d := 202) (v := .slice (some ⟨gx, ox, none⟩) mz cx) (e := 201) rfl rfl (by simp) rfl (by decide) (by simp) (fun w' hw' => ?_) (fun A hA202 hf => ?_)
                    · have f5 := hf.get (d := 5) (v := .slice (some ⟨gx, ox, none⟩) mz cx) (by simp)
                      clear hf
                      simp [Oper.quietAt, Oper.quietUpon, go_sem, f5]
                    refine q_want hf (d := 203) (v := .int .i64 (k : Int)) (e := 201) rfl rfl (by simp) rfl (by decide) (by simp) (fun w' hw' => ?_) (fun A hA203 hf => ?_)
                    · have f29 := hf.get (d := 29) (v := .int .i64 (k : Int)) (by simp)
                      clear hf
                      simp [Oper.quietAt, Oper.quietUpon, go_sem, f29]
                    refine q_want hf (d := 204) (v := .pointer (some ⟨gx, ox + k * 5, none⟩)) (e := 201) rfl rfl (by simp) rfl (by decide) (by simp) (fun w' hw' => ?_) (fun A hA204 hf => ?_)
                    · have f202 := hf.get (d := 202) (v := .slice (some ⟨gx, ox, none⟩) mz cx) (by simp)
                      have f203 := hf.get (d := 203) (v := .int .i64 (k : Int)) (by simp)
                      clear hf
                      simp [Oper.quietAt, Oper.quietUpon, go_sem, f202, f203, hki]
                    refine q_want hf (d := 205) (v := .agg #[.int .i64 x.t, .int .i64 x.i, .int .i64 x.x, .int .i64 x.y, .string x.s]) (e := 201) rfl rfl (by simp) rfl (by decide) (by simp) (fun w' hw' => ?_) (fun A hA205 hf => ?_)
                    · have hc := hS _ hw'
                      have f204 := hf.get (d := 204) (v := .pointer (some ⟨gx, ox + k * 5, none⟩)) (by simp)
                      clear hf
                      simp [Oper.quietAt, Oper.quietUpon, go_sem, f204, hc]
                    refine q_want hf (d := 206) (v := .agg #[.int .i64 rt, .int .i64 ri, .int .i64 rx, .int .i64 ry, .string rs]) (e := 201) rfl rfl (by simp) rfl (by decide) (by simp) (fun w' hw' => ?_) (fun A hA206 hf => ?_)
                    · have hc := hS _ hw'
                      have f4 := hf.get (d := 4) (v := .pointer (some ⟨bt, 0, none⟩)) (by simp)
                      clear hf
                      simp [Oper.quietAt, Oper.quietUpon, go_sem, f4, hc]
                    refine q_want hf (d := 207) (v := .bool false) (e := 201) rfl rfl (by simp) rfl (by decide) (by simp) (fun w' hw' => ?_) (fun A hA207 hf => ?_)
                    · have f205 := hf.get (d := 205) (v := .agg #[.int .i64 x.t, .int .i64 x.i, .int .i64 x.x, .int .i64 x.y, .string x.s]) (by simp)
                      have f206 := hf.get (d := 206) (v := .agg #[.int .i64 rt, .int .i64 ri, .int .i64 rx, .int .i64 ry, .string rs]) (by simp)
                      clear hf
                      exact q_eqlN (a := x) (b := ⟨rt, ri, rx, ry, rs⟩) f205 f206 hne
                    refine q_step hf (d := 208) (v := .bool false) rfl rfl (by decide) (by simp) (fun w' hw' => ?_) (fun A hA208 hf => ?_)
                    · have f201 := hf.get (d := 201) (v := .bool false) (by simp)
                      have f207 := hf.get (d := 207) (v := .bool false) (by simp)
                      clear hf
                      simp [Oper.quietAt, Oper.quietUpon, go_sem, f201, f207]
                    replace hf := Fr.sub (l' := [(4, .pointer (some ⟨bt, 0, none⟩)), (5, .slice (some ⟨gx, ox, none⟩) mz cx), (29, .int .i64 (k : Int)), (200, .bool false), (201, .bool false), (202, .slice (some ⟨gx, ox, none⟩) mz cx), (203, .int .i64 (k : Int)), (204, .pointer (some ⟨gx, ox + k * 5, none⟩)), (205, .agg #[.int .i64 x.t, .int .i64 x.i, .int .i64 x.x, .int .i64 x.y, .string x.s]), (206, .agg #[.int .i64 rt, .int .i64 ri, .int .i64 rx, .int .i64 ry, .string rs]), (207, .bool false), (208, .bool false)]) hf (by simp)
                    refine q_step hf (d := 28) (v := .bool false) rfl rfl (by decide) (by simp) (fun w' hw' => ?_) (fun A hA28 hf => ?_)
                    · have f208 := hf.get (d := 208) (v := .bool false) (by simp)
                      clear hf
                      simp [Oper.quietAt, Oper.quietUpon, go_sem, f208]
                    refine wpQuiet_nil (fun w' hw' => ?_)
                    clear hf
                    subst hA28 hA208 hA207 hA206 hA205 hA204 hA203 hA202 hA201 hA200 hA
                    simp only [Act.put, List.setIfInBounds_toArray, List.set_cons_succ, List.set_cons_zero]
                    go_wp2
                    go_roundw
                    case rel => exact ⟨k + 1, false, by omega, by go_num, rfl, hN, hw'⟩
                    case measure => simp [intOf]; omega
                · have hN := Lib.hid (HN.out true (by simp))
                  go_wp2
                  refine wp_region_quiet (C := fun w' => Sg w w' [rG kR (.slice qv mv cv) V, rG kR (.slice (some ⟨gx, ox, none⟩) mz cx) X, rG kR (.slice (some ⟨bt, 0, none⟩) 1 1) [⟨rt, ri, rx, ry, rs⟩], lsR gl n cl L]) (by kernel_rfl) (by kernel_rfl) (hx.step (Below.refl _ _).drew) ?_
                  refine q_intro (fun A hA => ?_)
                  have hf : Fr 275 A [(4, .pointer (some ⟨bt, 0, none⟩)), (5, .slice (some ⟨gx, ox, none⟩) mz cx), (28, .bool true), (29, .int .i64 (k : Int))] := by subst hA; exact ⟨rfl, by simp⟩
                  refine q_step hf (d := 200) (v := .bool true) rfl rfl (by decide) (by simp) (fun w' hw' => ?_) (fun A hA200 hf => ?_)
                  · have f28 := hf.get (d := 28) (v := .bool true) (by simp)
                    clear hf
                    simp [Oper.quietAt, Oper.quietUpon, go_sem, f28]
                  refine q_step hf (d := 201) (v := .bool true) rfl rfl (by decide) (by simp) (fun w' hw' => ?_) (fun A hA201 hf => ?_)
                  · have f200 := hf.get (d := 200) (v := .bool true) (by simp)
                    clear hf
                    simp [Oper.quietAt, Oper.quietUpon, go_sem, f200]
                  refine q_skip hf (d := 202) (e := 201) (b := true) rfl rfl (by simp) rfl rfl (by decide) (by simp) (fun A hA202 hf => ?_)
                  refine q_skip hf (d := 203) (e := 201) (b := true) rfl rfl (by simp) rfl rfl (by decide) (by simp) (fun A hA203 hf => ?_)
                  refine q_skip hf (d := 204) (e := 201) (b := true) rfl rfl (by simp) rfl rfl (by decide) (by simp) (fun A hA204 hf => ?_)
                  refine q_skip hf (d := 205) (e := 201) (b := true) rfl rfl (by simp) rfl rfl (by decide) (by simp) (fun A hA205 hf => ?_)
                  refine q_skip hf (d := 206) (e := 201) (b := true) rfl rfl (by simp) rfl rfl (by decide) (by simp) (fun A hA206 hf => ?_)
                  refine q_skip hf (d := 207) (e := 201) (b := true) rfl rfl (by simp) rfl rfl (by decide) (by simp) (fun A hA207 hf => ?_)
                  refine q_step hf (d := 208) (v := .bool true) rfl rfl (by decide) (by simp) (fun w' hw' => ?_) (fun A hA208 hf => ?_)
                  · have f201 := hf.get (d := 201) (v := .bool true) (by simp)
                    clear hf
                    simp [Oper.quietAt, Oper.quietUpon, go_sem, f201]
                  replace hf := Fr.sub (l' := [(4, .pointer (some ⟨bt, 0, none⟩)), (5, .slice (some ⟨gx, ox, none⟩) mz cx), (29, .int .i64 (k : Int)), (200, .bool true), (201, .bool true), (202, undef), (203, undef), (204, undef), (205, undef), (206, undef), (207, undef), (208, .bool true)]) hf (by simp)
                  refine q_step hf (d := 28) (v := .bool true) rfl rfl (by decide) (by simp) (fun w' hw' => ?_) (fun A hA28 hf => ?_)
                  · have f208 := hf.get (d := 208) (v := .bool true) (by simp)
                    clear hf
                    simp [Oper.quietAt, Oper.quietUpon, go_sem, f208]
                  refine wpQuiet_nil (fun w' hw' => ?_)
                  clear hf
                  subst hA28 hA208 hA207 hA206 hA205 hA204 hA203 hA202 hA201 hA200 hA
                  simp only [Act.put, List.setIfInBounds_toArray, List.set_cons_succ, List.set_cons_zero]
                  go_wp2
                  go_roundw
                  case rel => exact ⟨k + 1, true, by omega, by go_num, rfl, ⟨fun _ => hN.out.1 trivial, fun _ => rfl⟩, hw'⟩
                  case measure => simp [intOf]; omega
              · obtain rfl : mz = k := by omega
                have hft : f = true := hF.out.2 (by
                  obtain ⟨j, hj, e⟩ := List.getElem_of_mem HSF.out.1
                  exact ⟨j, by rw [hmx.out] at hj; exact hj, by rw [List.getElem?_eq_getElem hj, e]⟩)
                subst hft
                clear hF
                go_upto_region 38 with (fail)
                go_wp2
                go_loopw [30] (fun s30 wr => ∃ k : Nat, k ≤ n ∧ s30 = .int .i64 k ∧ Sg w wr [rG kR (.slice qv mv cv) V, rG kR (.slice (some ⟨gx, ox, none⟩) mz cx) X, rG kR (.slice (some ⟨bt, 0, none⟩) 1 1) [⟨rt, ri, rx, ry, rs⟩], lsR gl n cl L]) (fun i _ => n - (intOf i).toNat)
                case atStart => exact ⟨0, by omega, rfl, hx⟩
                case round =>
                  clear hx
                  obtain ⟨k, hk, rfl, hx⟩ := hrel
                  by_cases hlt : k < n
                  · have hki : (k : Int) < n := by omega
                    have hkL : k < L.length := by rw [hL.out.1]; exact hlt
                    have hge := List.getElem?_eq_getElem hkL
                    have hdm := HSF.out.2.2 _ (List.getElem_mem hkL)
                    generalize L[k] = d at hge hdm
                    have HGD := Lib.hid hge
                    have HDM := Lib.hid hdm
                    clear hge hkL hdm
                    go_wp2
                    go_loopw [31, 32] (fun s31 s32 wr => ∃ (j : Nat) (f : Bool), j ≤ mz ∧ s32 = .int .i64 j ∧ s31 = .bool f ∧ Hid (f = true ↔ ∃ i, i < j ∧ X[i]? = some d) ∧ Sg w wr [rG kR (.slice qv mv cv) V, rG kR (.slice (some ⟨gx, ox, none⟩) mz cx) X, rG kR (.slice (some ⟨bt, 0, none⟩) 1 1) [⟨rt, ri, rx, ry, rs⟩], lsR gl n cl L]) (fun _ i _ => mz - (intOf i).toNat)
                    case atStart => exact ⟨0, false, by omega, rfl, rfl, (by simp : (false = true) ↔ _), hx⟩
                    case round =>
                      clear hx
                      obtain ⟨j, f, hj, rfl, rfl, hF, hx⟩ := hrel
                      by_cases hltj : j < mz
                      · have hji : (j : Int) < mz := by omega
                        have hkX : j < X.length := by rw [hmx.out]; exact hltj
                        have hge := List.getElem?_eq_getElem hkX
                        generalize X[j] = x at hge
                        have HGE := Lib.hid hge
                        have hS : ∀ w', Sg w w' [rG kR (.slice qv mv cv) V, rG kR (.slice (some ⟨gx, ox, none⟩) mz cx) X, rG kR (.slice (some ⟨bt, 0, none⟩) 1 1) [⟨rt, ri, rx, ry, rs⟩], lsR gl n cl L] → (w'.cell? ⟨gx, ox + j * 5, none⟩ = some (.int .i64 x.t) ∧ w'.cell? ⟨gx, ox + j * 5 + 1, none⟩ = some (.int .i64 x.i) ∧ w'.cell? ⟨gx, ox + j * 5 + 2, none⟩ = some (.int .i64 x.x) ∧ w'.cell? ⟨gx, ox + j * 5 + 3, none⟩ = some (.int .i64 x.y) ∧ w'.cell? ⟨gx, ox + j * 5 + 4, none⟩ = some (.string x.s)) ∧ (w'.cell? ⟨gl, k * 5, none⟩ = some (.int .i64 d.t) ∧ w'.cell? ⟨gl, k * 5 + 1, none⟩ = some (.int .i64 d.i) ∧ w'.cell? ⟨gl, k * 5 + 2, none⟩ = some (.int .i64 d.x) ∧ w'.cell? ⟨gl, k * 5 + 3, none⟩ = some (.int .i64 d.y) ∧ w'.cell? ⟨gl, k * 5 + 4, none⟩ = some (.string d.s)) := fun w' h => ⟨(HCX.out w' h).r5 HGE.out, (HCL.out w' h).r5z HGD.out⟩
                        clear hge hkX
                        have HN : Hid (∀ f' : Bool, (f' = true ↔ (f = true ∨ x = d)) → (f' = true ↔ ∃ i, i < j + 1 ∧ X[i]? = some d)) := fun f' h => by
                          rw [h, hF.out]; exact found_more HGE.out
                        cases f
                        · by_cases hxe : x = d
                          · have hN := Lib.hid (HN.out true (by simp [hxe]))
                            obtain rfl : d = x := hxe.symm
                            go_wp2
                            refine wp_region_quiet (C := fun w' => Sg w w' [rG kR (.slice qv mv cv) V, rG kR (.slice (some ⟨gx, ox, none⟩) mz cx) X, rG kR (.slice (some ⟨bt, 0, none⟩) 1 1) [⟨rt, ri, rx, ry, rs⟩], lsR gl n cl L]) (by kernel_rfl) (by kernel_rfl) (hx.step (Below.refl _ _).drew) ?_
                            refine q_intro (fun A hA => ?_)
                            have hf : Fr 275 A [(3, .slice (some ⟨gl, 0, none⟩) n cl), (5, .slice (some ⟨gx, ox, none⟩) mz cx), (30, .int .i64 (k : Int)), (31, .bool false), (32, .int .i64 (j : Int))] := by subst hA; exact ⟨rfl, by simp⟩
                            refine q_step hf (d := 221) (v := .bool false) rfl rfl (by decide) (by simp) (fun w' hw' => ?_) (fun A hA221 hf => ?_)
                            · have f31 := hf.get (d := 31) (v := .bool false) (by simp)
                              clear hf
                              simp [Oper.quietAt, Oper.quietUpon, go_sem, f31]
                            refine q_step hf (d := 222) (v := .bool false) rfl rfl (by decide) (by simp) (fun w' hw' => ?_) (fun A hA222 hf => ?_)
                            · have f221 := hf.get (d := 221) (v := .bool false) (by simp)
                              clear hf
                              simp [Oper.quietAt, Oper.quietUpon, go_sem, f221]
                            refine q_want hf (d := 223) (v := .slice (some ⟨gx, ox, none⟩) mz cx) (e := 222) rfl rfl (by simp) rfl (by decide) (by simp) (fun w' hw' => ?_) (fun A hA223 hf => ?_)
                            · have f5 := hf.get (d := 5) (v := .slice (some ⟨gx, ox, none⟩) mz cx) (by simp)
                              clear hf
                              simp [Oper.quietAt, Oper.quietUpon, go_sem, f5]
                            refine q_want hf (d := 224) (v := .int .i64 (j : Int)) (e := 222) rfl rfl (by simp) rfl (by decide) (by simp) (fun w' hw' => ?_) (fun A hA224 hf => ?_)
                            · have f32 := hf.get (d := 32) (v := .int .i64 (j : Int)) (by simp)
                              clear hf
                              simp [Oper.quietAt, Oper.quietUpon, go_sem, f32]
                            refine q_want hf (d := 225) (v := .pointer (some ⟨gx, ox + j * 5, none⟩)) (e := 222) rfl rfl (by simp) rfl (by decide) (by simp) (fun w' hw' => ?_) (fun A hA225 hf => ?_)
                            · have f223 := hf.get (d := 223) (v := .slice (some ⟨gx, ox, none⟩) mz cx) (by simp)
                              have f224 := hf.get (d := 224) (v := .int .i64 (j : Int)) (by simp)
                              clear hf
                              simp [Oper.quietAt, Oper.quietUpon, go_sem, f223, f224, hji]
                            refine q_want hf (d := 226) (v := .agg #[.int .i64 d.t, .int .i64 d.i, .int .i64 d.x, .int .i64 d.y, .string d.s]) (e := 222) rfl rfl (by simp) rfl (by decide) (by simp) (fun w' hw' => ?_) (fun A hA226 hf => ?_)
                            · have hc := hS _ hw'
                              have f225 := hf.get (d := 225) (v := .pointer (some ⟨gx, ox + j * 5, none⟩)) (by simp)
                              clear hf
                              simp [Oper.quietAt, Oper.quietUpon, go_sem, f225, hc]
                            refine q_want hf (d := 227) (v := .slice (some ⟨gl, 0, none⟩) n cl) (e := 222) rfl rfl (by simp) rfl (by decide) (by simp) (fun w' hw' => ?_) (fun A hA227 hf => ?_)
                            · have f3 := hf.get (d := 3) (v := .slice (some ⟨gl, 0, none⟩) n cl) (by simp)
                              clear hf
                              simp [Oper.quietAt, Oper.quietUpon, go_sem, f3]
                            refine q_want hf (d := 228) (v := .int .i64 (k : Int)) (e := 222) rfl rfl (by simp) rfl (by decide) (by simp) (fun w' hw' => ?_) (fun A hA228 hf => ?_)
                            · have f30 := hf.get (d := 30) (v := .int .i64 (k : Int)) (by simp)
                              clear hf
                              simp [Oper.quietAt, Oper.quietUpon, go_sem, f30]
                            refine q_want hf (d := 229) (v := .pointer (some ⟨gl, k * 5, none⟩)) (e := 222) rfl rfl (by simp) rfl (by decide) (by simp) (fun w' hw' => ?_) (fun A hA229 hf => ?_)
                            · have f227 := hf.get (d := 227) (v := .slice (some ⟨gl, 0, none⟩) n cl) (by simp)
                              have f228 := hf.get (d := 228) (v := .int .i64 (k : Int)) (by simp)
                              clear hf
                              simp [Oper.quietAt, Oper.quietUpon, go_sem, f227, f228, hki]
                            refine q_want hf (d := 230) (v := .agg #[.int .i64 d.t, .int .i64 d.i, .int .i64 d.x, .int .i64 d.y, .string d.s]) (e := 222) rfl rfl (by simp) rfl (by decide) (by simp) (fun w' hw' => ?_) (fun A hA230 hf => ?_)
                            · have hc := hS _ hw'
                              have f229 := hf.get (d := 229) (v := .pointer (some ⟨gl, k * 5, none⟩)) (by simp)
                              clear hf
                              simp [Oper.quietAt, Oper.quietUpon, go_sem, f229, hc]
                            refine q_want hf (d := 231) (v := .bool true) (e := 222) rfl rfl (by simp) rfl (by decide) (by simp) (fun w' hw' => ?_) (fun A hA231 hf => ?_)
                            · have f226 := hf.get (d := 226) (v := .agg #[.int .i64 d.t, .int .i64 d.i, .int .i64 d.x, .int .i64 d.y, .string d.s]) (by simp)
                              have f230 := hf.get (d := 230) (v := .agg #[.int .i64 d.t, .int .i64 d.i, .int .i64 d.x, .int .i64 d.y, .string d.s]) (by simp)
                              clear hf
                              simp [Oper.quietAt, Oper.quietUpon, go_sem, f226, f230]
                            refine q_step hf (d := 232) (v := .bool true) rfl rfl (by decide) (by simp) (fun w' hw' => ?_) (fun A hA232 hf => ?_)
                            · have f222 := hf.get (d := 222) (v := .bool false) (by simp)
                              have f231 := hf.get (d := 231) (v := .bool true) (by simp)
                              clear hf
                              simp [Oper.quietAt, Oper.quietUpon, go_sem, f222, f231]
                            replace hf := Fr.sub (l' := [(3, .slice (some ⟨gl, 0, none⟩) n cl), (5, .slice (some ⟨gx, ox, none⟩) mz cx), (30, .int .i64 (k : Int)), (32, .int .i64 (j : Int)), (221, .bool false), (222, .bool false), (223, .slice (some ⟨gx, ox, none⟩) mz cx), (224, .int .i64 (j : Int)), (225, .pointer (some ⟨gx, ox + j * 5, none⟩)), (226, .agg #[.int .i64 d.t, .int .i64 d.i, .int .i64 d.x, .int .i64 d.y, .string d.s]), (227, .slice (some ⟨gl, 0, none⟩) n cl), (228, .int .i64 (k : Int)), (229, .pointer (some ⟨gl, k * 5, none⟩)), (230, .agg #[.int .i64 d.t, .int .i64 d.i, .int .i64 d.x, .int .i64 d.y, .string d.s]), (231, .bool true), (232, .bool true)]) hf (by simp)
                            refine q_step hf (d := 31) (v := .bool true) rfl rfl (by decide) (by simp) (fun w' hw' => ?_) (fun A hA31 hf => ?_)
                            · have f232 := hf.get (d := 232) (v := .bool true) (by simp)
                              clear hf
                              simp [Oper.quietAt, Oper.quietUpon, go_sem, f232]
                            refine wpQuiet_nil (fun w' hw' => ?_)
                            clear hf
                            subst hA31 hA232 hA231 hA230 hA229 hA228 hA227 hA226 hA225 hA224 hA223 hA222 hA221 hA
                            simp only [Act.put, List.setIfInBounds_toArray, List.set_cons_succ, List.set_cons_zero]
                            go_wp2
                            go_roundw
                            case rel => exact ⟨j + 1, true, by omega, by go_num, rfl, ⟨fun _ => hN.out.1 trivial, fun _ => rfl⟩, hw'⟩
                            case measure => simp [intOf]; omega
                          · have hN := Lib.hid (HN.out false (by simp [hxe]))
                            have hne : x ≠ d := hxe
                            go_wp2
                            refine wp_region_quiet (C := fun w' => Sg w w' [rG kR (.slice qv mv cv) V, rG kR (.slice (some ⟨gx, ox, none⟩) mz cx) X, rG kR (.slice (some ⟨bt, 0, none⟩) 1 1) [⟨rt, ri, rx, ry, rs⟩], lsR gl n cl L]) (by kernel_rfl) (by kernel_rfl) (hx.step (Below.refl _ _).drew) ?_
                            refine q_intro (fun A hA => ?_)
                            have hf : Fr 275 A [(3, .slice (some ⟨gl, 0, none⟩) n cl), (5, .slice (some ⟨gx, ox, none⟩) mz cx), (30, .int .i64 (k : Int)), (31, .bool false), (32, .int .i64 (j : Int))] := by subst hA; exact ⟨rfl, by simp⟩
                            refine q_step hf (d := 221) (v := .bool false) rfl rfl (by decide) (by simp) (fun w' hw' => ?_) (fun A hA221 hf => ?_)
                            · have f31 := hf.get (d := 31) (v := .bool false) (by simp)
                              clear hf
                              simp [Oper.quietAt, Oper.quietUpon, go_sem, f31]
                            refine q_step hf (d := 222) (v := .bool false) rfl rfl (by decide) (by simp) (fun w' hw' => ?_) (fun A hA222 hf => ?_)
                            · have f221 := hf.get (d := 221) (v := .bool false) (by simp)
                              clear hf
                              simp [Oper.quietAt, Oper.quietUpon, go_sem, f221]
                            refine q_want hf (d := 223) (v := .slice (some ⟨gx, ox, none⟩) mz cx) (e := 222) rfl rfl (by simp) rfl (by decide) (by simp) (fun w' hw' => ?_) (fun A hA223 hf => ?_)
                            · have f5 := hf.get (d := 5) (v := .slice (some ⟨gx, ox, none⟩) mz cx) (by simp)
                              clear hf
                              simp [Oper.quietAt, Oper.quietUpon, go_sem, f5]
                            refine q_want hf (d := 224) (v := .int .i64 (j : Int)) (e := 222) rfl rfl (by simp) rfl (by decide) (by simp) (fun w' hw' => ?_) (fun A hA224 hf => ?_)
                            · have f32 := hf.get (d := 32) (v := .int .i64 (j : Int)) (by simp)
                              clear hf
                              simp [Oper.quietAt, Oper.quietUpon, go_sem, f32]
                            refine q_want hf (d := 225) (v := .pointer (some ⟨gx, ox + j * 5, none⟩)) (e := 222) rfl rfl (by simp) rfl (by decide) (by simp) (fun w' hw' => ?_) (fun A hA225 hf => ?_)
                            · have f223 := hf.get (d := 223) (v := .slice (some ⟨gx, ox, none⟩) mz cx) (by simp)
                              have f224 := hf.get (d := 224) (v := .int .i64 (j : Int)) (by simp)
                              clear hf
                              simp [Oper.quietAt, Oper.quietUpon, go_sem, f223, f224, hji]
                            refine q_want hf (d := 226) (v := .agg #[.int .i64 x.t, .int .i64 x.i, .int .i64 x.x, .int .i64 x.y, .string x.s]) (e := 222) rfl rfl (by simp) rfl (by decide) (by simp) (fun w' hw' => ?_) (fun A hA226 hf => ?_)
                            · have hc := hS _ hw'
                              have f225 := hf.get (d := 225) (v := .pointer (some ⟨gx, ox + j * 5, none⟩)) (by simp)
                              clear hf
                              simp [Oper.quietAt, Oper.quietUpon, go_sem, f225, hc]
                            refine q_want hf (d := 227) (v := .slice (some ⟨gl, 0, none⟩) n cl) (e := 222) rfl rfl (by simp) rfl (by decide) (by simp) (fun w' hw' => ?_) (fun A hA227 hf => ?_)
                            · have f3 := hf.get (d := 3) (v := .slice (some ⟨gl, 0, none⟩) n cl) (by simp)
                              clear hf
                              simp [Oper.quietAt, Oper.quietUpon, go_sem, f3]
                            refine q_want hf (d := 228) (v := .int .i64 (k : Int)) (e := 222) rfl rfl (by simp) rfl (by decide) (by simp) (fun w' hw' => ?_) (fun A hA228 hf => ?_)
                            · have f30 := hf.get (d := 30) (v := .int .i64 (k : Int)) (by simp)
                              clear hf
                              simp [Oper.quietAt, Oper.quietUpon, go_sem, f30]
                            refine q_want hf (d := 229) (v := .pointer (some ⟨gl, k * 5, none⟩)) (e := 222) rfl rfl (by simp) rfl (by decide) (by simp) (fun w' hw' => ?_) (fun A hA229 hf => ?_)
                            · have f227 := hf.get (d := 227) (v := .slice (some ⟨gl, 0, none⟩) n cl) (by simp)
                              have f228 := hf.get (d := 228) (v := .int .i64 (k : Int)) (by simp)
                              clear hf
                              simp [Oper.quietAt, Oper.quietUpon, go_sem, f227, f228, hki]
                            refine q_want hf (d := 230) (v := .agg #[.int .i64 d.t, .int .i64 d.i, .int .i64 d.x, .int .i64 d.y, .string d.s]) (e := 222) rfl rfl (by simp) rfl (by decide) (by simp) (fun w' hw' => ?_) (fun A hA230 hf => ?_)
                            · have hc := hS _ hw'
                              have f229 := hf.get (d := 229) (v := .pointer (some ⟨gl, k * 5, none⟩)) (by simp)
                              clear hf
                              simp [Oper.quietAt, Oper.quietUpon, go_sem, f229, hc]
                            refine q_want hf (d := 231) (v := .bool false) (e := 222) rfl rfl (by simp) rfl (by decide) (by simp) (fun w' hw' => ?_) (fun A hA231 hf => ?_)
                            · have f226 := hf.get (d := 226) (v := .agg #[.int .i64 x.t, .int .i64 x.i, .int .i64 x.x, .int .i64 x.y, .string x.s]) (by simp)
                              have f230 := hf.get (d := 230) (v := .agg #[.int .i64 d.t, .int .i64 d.i, .int .i64 d.x, .int .i64 d.y, .string d.s]) (by simp)
                              clear hf
                              exact q_eqlN (a := x) (b := d) f226 f230 hne
                            refine q_step hf (d := 232) (v := .bool false) rfl rfl (by decide) (by simp) (fun w' hw' => ?_) (fun A hA232 hf => ?_)
                            · have f222 := hf.get (d := 222) (v := .bool false) (by simp)
                              have f231 := hf.get (d := 231) (v := .bool false) (by simp)
                              clear hf
                              simp [Oper.quietAt, Oper.quietUpon, go_sem, f222, f231]
                            replace hf := Fr.sub (l' := [(3, .slice (some ⟨gl, 0, none⟩) n cl), (5, .slice (some ⟨gx, ox, none⟩) mz cx), (30, .int .i64 (k : Int)), (32, .int .i64 (j : Int)), (221, .bool false), (222, .bool false), (223, .slice (some ⟨gx, ox, none⟩) mz cx), (224, .int .i64 (j : Int)), (225, .pointer (some ⟨gx, ox + j * 5, none⟩)), (226, .agg #[.int .i64 x.t, .int .i64 x.i, .int .i64 x.x, .int .i64 x.y, .string x.s]), (227, .slice (some ⟨gl, 0, none⟩) n cl), (228, .int .i64 (k : Int)), (229, .pointer (some ⟨gl, k * 5, none⟩)), (230, .agg #[.int .i64 d.t, .int .i64 d.i, .int .i64 d.x, .int .i64 d.y, .string d.s]), (231, .bool false), (232, .bool false)]) hf (by simp)
                            refine q_step hf (d := 31) (v := .bool false) rfl rfl (by decide) (by simp) (fun w' hw' => ?_) (fun A hA31 hf => ?_)
                            · have f232 := hf.get (d := 232) (v := .bool false) (by simp)
                              clear hf
                              simp [Oper.quietAt, Oper.quietUpon, go_sem, f232]
                            refine wpQuiet_nil (fun w' hw' => ?_)
                            clear hf
                            subst hA31 hA232 hA231 hA230 hA229 hA228 hA227 hA226 hA225 hA224 hA223 hA222 hA221 hA
                            simp only [Act.put, List.setIfInBounds_toArray, List.set_cons_succ, List.set_cons_zero]
                            go_wp2
                            go_roundw
                            case rel => exact ⟨j + 1, false, by omega, by go_num, rfl, hN, hw'⟩
                            case measure => simp [intOf]; omega
                        · have hN := Lib.hid (HN.out true (by simp))
                          go_wp2
                          refine wp_region_quiet (C := fun w' => Sg w w' [rG kR (.slice qv mv cv) V, rG kR (.slice (some ⟨gx, ox, none⟩) mz cx) X, rG kR (.slice (some ⟨bt, 0, none⟩) 1 1) [⟨rt, ri, rx, ry, rs⟩], lsR gl n cl L]) (by kernel_rfl) (by kernel_rfl) (hx.step (Below.refl _ _).drew) ?_
                          refine q_intro (fun A hA => ?_)
                          have hf : Fr 275 A [(3, .slice (some ⟨gl, 0, none⟩) n cl), (5, .slice (some ⟨gx, ox, none⟩) mz cx), (30, .int .i64 (k : Int)), (31, .bool true), (32, .int .i64 (j : Int))] := by subst hA; exact ⟨rfl, by simp⟩
                          refine q_step hf (d := 221) (v := .bool true) rfl rfl (by decide) (by simp) (fun w' hw' => ?_) (fun A hA221 hf => ?_)
                          · have f31 := hf.get (d := 31) (v := .bool true) (by simp)
                            clear hf
                            simp [Oper.quietAt, Oper.quietUpon, go_sem, f31]
                          refine q_step hf (d := 222) (v := .bool true) rfl rfl (by decide) (by simp) (fun w' hw' => ?_) (fun A hA222 hf => ?_)
                          · have f221 := hf.get (d := 221) (v := .bool true) (by simp)
                            clear hf
                            simp [Oper.quietAt, Oper.quietUpon, go_sem, f221]
                          refine q_skip hf (d := 223) (e := 222) (b := true) rfl rfl (by simp) rfl rfl (by decide) (by simp) (fun A hA223 hf => ?_)
                          refine q_skip hf (d := 224) (e := 222) (b := true) rfl rfl (by simp) rfl rfl (by decide) (by simp) (fun A hA224 hf => ?_)
                          refine q_skip hf (d := 225) (e := 222) (b := true) rfl rfl (by simp) rfl rfl (by decide) (by simp) (fun A hA225 hf => ?_)
                          refine q_skip hf (d := 226) (e := 222) (b := true) rfl rfl (by simp) rfl rfl (by decide) (by simp) (fun A hA226 hf => ?_)
                          refine q_skip hf (d := 227) (e := 222) (b := true) rfl rfl (by simp) rfl rfl (by decide) (by simp) (fun A hA227 hf => ?_)
                          refine q_skip hf (d := 228) (e := 222) (b := true) rfl rfl (by simp) rfl rfl (by decide) (by simp) (fun A hA228 hf => ?_)
                          refine q_skip hf (d := 229) (e := 222) (b := true) rfl rfl (by simp) rfl rfl (by decide) (by simp) (fun A hA229 hf => ?_)
                          refine q_skip hf (d := 230) (e := 222) (b := true) rfl rfl (by simp) rfl rfl (by decide) (by simp) (fun A hA230 hf => ?_)
                          refine q_skip hf (d := 231) (e := 222) (b := true) rfl rfl (by simp) rfl rfl (by decide) (by simp) (fun A hA231 hf => ?_)
                          refine q_step hf (d := 232) (v := .bool true) rfl rfl (by decide) (by simp) (fun w' hw' => ?_) (fun A hA232 hf => ?_)
                          · have f222 := hf.get (d := 222) (v := .bool true) (by simp)
                            clear hf
                            simp [Oper.quietAt, Oper.quietUpon, go_sem, f222]
                          replace hf := Fr.sub (l' := [(3, .slice (some ⟨gl, 0, none⟩) n cl), (5, .slice (some ⟨gx, ox, none⟩) mz cx), (30, .int .i64 (k : Int)), (32, .int .i64 (j : Int)), (221, .bool true), (222, .bool true), (223, undef), (224, undef), (225, undef), (226, undef), (227, undef), (228, undef), (229, undef), (230, undef), (231, undef), (232, .bool true)]) hf (by simp)
                          refine q_step hf (d := 31) (v := .bool true) rfl rfl (by decide) (by simp) (fun w' hw' => ?_) (fun A hA31 hf => ?_)
                          · have f232 := hf.get (d := 232) (v := .bool true) (by simp)
                            clear hf
                            simp [Oper.quietAt, Oper.quietUpon, go_sem, f232]
                          refine wpQuiet_nil (fun w' hw' => ?_)
                          clear hf
                          subst hA31 hA232 hA231 hA230 hA229 hA228 hA227 hA226 hA225 hA224 hA223 hA222 hA221 hA
                          simp only [Act.put, List.setIfInBounds_toArray, List.set_cons_succ, List.set_cons_zero]
                          go_wp2
                          go_roundw
                          case rel => exact ⟨j + 1, true, by omega, by go_num, rfl, ⟨fun _ => hN.out.1 trivial, fun _ => rfl⟩, hw'⟩
                          case measure => simp [intOf]; omega
                      · obtain rfl : mz = j := by omega
                        cases f
                        · have hno : ¬ d ∈ X := fun h => by
                            obtain ⟨i, hi, e⟩ := List.getElem_of_mem h
                            have := hF.out.2 ⟨i, by rw [hmx.out] at hi; exact hi, by rw [List.getElem?_eq_getElem hi, e]⟩
                            cases this
                          have hkey := HDM.out.resolve_left hno
                          have hS : ∀ w', Sg w w' [rG kR (.slice qv mv cv) V, rG kR (.slice (some ⟨gx, ox, none⟩) mz cx) X, rG kR (.slice (some ⟨bt, 0, none⟩) 1 1) [⟨rt, ri, rx, ry, rs⟩], lsR gl n cl L] → (w'.cell? ⟨bt, 0, none⟩ = some (.int .i64 rt) ∧ w'.cell? ⟨bt, 1, none⟩ = some (.int .i64 ri) ∧ w'.cell? ⟨bt, 2, none⟩ = some (.int .i64 rx) ∧ w'.cell? ⟨bt, 3, none⟩ = some (.int .i64 ry) ∧ w'.cell? ⟨bt, 4, none⟩ = some (.string rs)) ∧ (w'.cell? ⟨gl, k * 5, none⟩ = some (.int .i64 rt) ∧ w'.cell? ⟨gl, k * 5 + 1, none⟩ = some (.int .i64 ri)) := fun w' h => ⟨HBX.out w' h, by
                            have := (HCL.out w' h).r5z HGD.out
                            rw [hkey.1, hkey.2] at this
                            exact ⟨this.1, this.2.1⟩⟩
                          clear hno hkey hF
                          go_wp2
                          refine wp_region_quiet (C := fun w' => Sg w w' [rG kR (.slice qv mv cv) V, rG kR (.slice (some ⟨gx, ox, none⟩) mz cx) X, rG kR (.slice (some ⟨bt, 0, none⟩) 1 1) [⟨rt, ri, rx, ry, rs⟩], lsR gl n cl L]) (by kernel_rfl) (by kernel_rfl) (hx.step (Below.refl _ _).drew) ?_
                          refine q_intro (fun A hA => ?_)
                          have hf : Fr 275 A [(3, .slice (some ⟨gl, 0, none⟩) n cl), (4, .pointer (some ⟨bt, 0, none⟩)), (30, .int .i64 (k : Int)), (31, .bool false)] := by subst hA; exact ⟨rfl, by simp⟩
                          refine q_step hf (d := 233) (v := .bool false) rfl rfl (by decide) (by simp) (fun w' hw' => ?_) (fun A hA233 hf => ?_)
                          · have f31 := hf.get (d := 31) (v := .bool false) (by simp)
                            clear hf
                            simp [Oper.quietAt, Oper.quietUpon, go_sem, f31]
                          refine q_step hf (d := 234) (v := .bool true) rfl rfl (by decide) (by simp) (fun w' hw' => ?_) (fun A hA234 hf => ?_)
                          · have f233 := hf.get (d := 233) (v := .bool false) (by simp)
                            clear hf
                            simp [Oper.quietAt, Oper.quietUpon, go_sem, f233]
                          refine q_step hf (d := 235) (v := .bool true) rfl rfl (by decide) (by simp) (fun w' hw' => ?_) (fun A hA235 hf => ?_)
                          · have f234 := hf.get (d := 234) (v := .bool true) (by simp)
                            clear hf
                            simp [Oper.quietAt, Oper.quietUpon, go_sem, f234]
                          refine q_want hf (d := 236) (v := .slice (some ⟨gl, 0, none⟩) n cl) (e := 235) rfl rfl (by simp) rfl (by decide) (by simp) (fun w' hw' => ?_) (fun A hA236 hf => ?_)
                          · have f3 := hf.get (d := 3) (v := .slice (some ⟨gl, 0, none⟩) n cl) (by simp)
                            clear hf
                            simp [Oper.quietAt, Oper.quietUpon, go_sem, f3]
                          refine q_want hf (d := 237) (v := .int .i64 (k : Int)) (e := 235) rfl rfl (by simp) rfl (by decide) (by simp) (fun w' hw' => ?_) (fun A hA237 hf => ?_)
                          · have f30 := hf.get (d := 30) (v := .int .i64 (k : Int)) (by simp)
                            clear hf
                            simp [Oper.quietAt, Oper.quietUpon, go_sem, f30]
                          refine q_want hf (d := 238) (v := .pointer (some ⟨gl, k * 5, none⟩)) (e := 235) rfl rfl (by simp) rfl (by decide) (by simp) (fun w' hw' => ?_) (fun A hA238 hf => ?_)
                          · have f236 := hf.get (d := 236) (v := .slice (some ⟨gl, 0, none⟩) n cl) (by simp)
                            have f237 := hf.get (d := 237) (v := .int .i64 (k : Int)) (by simp)
                            clear hf
                            simp [Oper.quietAt, Oper.quietUpon, go_sem, f236, f237, hki]
                          refine q_want hf (d := 239) (v := .pointer (some ⟨gl, k * 5, none⟩)) (e := 235) rfl rfl (by simp) rfl (by decide) (by simp) (fun w' hw' => ?_) (fun A hA239 hf => ?_)
                          · have f238 := hf.get (d := 238) (v := .pointer (some ⟨gl, k * 5, none⟩)) (by simp)
                            clear hf
                            simp [Oper.quietAt, Oper.quietUpon, go_sem, f238]
                          refine q_want hf (d := 240) (v := .int .i64 rt) (e := 235) rfl rfl (by simp) rfl (by decide) (by simp) (fun w' hw' => ?_) (fun A hA240 hf => ?_)
                          · have hc := hS _ hw'
                            have f239 := hf.get (d := 239) (v := .pointer (some ⟨gl, k * 5, none⟩)) (by simp)
                            clear hf
                            simp [Oper.quietAt, Oper.quietUpon, go_sem, f239, hc]
                          refine q_want hf (d := 241) (v := .pointer (some ⟨bt, 0, none⟩)) (e := 235) rfl rfl (by simp) rfl (by decide) (by simp) (fun w' hw' => ?_) (fun A hA241 hf => ?_)
                          · have f4 := hf.get (d := 4) (v := .pointer (some ⟨bt, 0, none⟩)) (by simp)
                            clear hf
                            simp [Oper.quietAt, Oper.quietUpon, go_sem, f4]
                          refine q_want hf (d := 242) (v := .int .i64 rt) (e := 235) rfl rfl (by simp) rfl (by decide) (by simp) (fun w' hw' => ?_) (fun A hA242 hf => ?_)
                          · have hc := hS _ hw'
                            have f241 := hf.get (d := 241) (v := .pointer (some ⟨bt, 0, none⟩)) (by simp)
                            clear hf
                            simp [Oper.quietAt, Oper.quietUpon, go_sem, f241, hc]
                          refine q_want hf (d := 243) (v := .bool false) (e := 235) rfl rfl (by simp) rfl (by decide) (by simp) (fun w' hw' => ?_) (fun A hA243 hf => ?_)
                          · have f240 := hf.get (d := 240) (v := .int .i64 rt) (by simp)
                            have f242 := hf.get (d := 242) (v := .int .i64 rt) (by simp)
                            clear hf
                            simp [Oper.quietAt, Oper.quietUpon, go_sem, f240, f242]
                          refine q_want hf (d := 244) (v := .bool false) (e := 235) rfl rfl (by simp) rfl (by decide) (by simp) (fun w' hw' => ?_) (fun A hA244 hf => ?_)
                          · have f243 := hf.get (d := 243) (v := .bool false) (by simp)
                            clear hf
                            simp [Oper.quietAt, Oper.quietUpon, go_sem, f243]
                          refine q_want hf (d := 245) (v := .slice (some ⟨gl, 0, none⟩) n cl) (e := 244) rfl rfl (by simp) rfl (by decide) (by simp) (fun w' hw' => ?_) (fun A hA245 hf => ?_)
                          · have f3 := hf.get (d := 3) (v := .slice (some ⟨gl, 0, none⟩) n cl) (by simp)
                            clear hf
                            simp [Oper.quietAt, Oper.quietUpon, go_sem, f3]
                          refine q_want hf (d := 246) (v := .int .i64 (k : Int)) (e := 244) rfl rfl (by simp) rfl (by decide) (by simp) (fun w' hw' => ?_) (fun A hA246 hf => ?_)
                          · have f30 := hf.get (d := 30) (v := .int .i64 (k : Int)) (by simp)
                            clear hf
                            simp [Oper.quietAt, Oper.quietUpon, go_sem, f30]
                          refine q_want hf (d := 247) (v := .pointer (some ⟨gl, k * 5, none⟩)) (e := 244) rfl rfl (by simp) rfl (by decide) (by simp) (fun w' hw' => ?_) (fun A hA247 hf => ?_)
                          · have f245 := hf.get (d := 245) (v := .slice (some ⟨gl, 0, none⟩) n cl) (by simp)
                            have f246 := hf.get (d := 246) (v := .int .i64 (k : Int)) (by simp)
                            clear hf
                            simp [Oper.quietAt, Oper.quietUpon, go_sem, f245, f246, hki]
                          refine q_want hf (d := 248) (v := .pointer (some ⟨gl, k * 5 + 1, none⟩)) (e := 244) rfl rfl (by simp) rfl (by decide) (by simp) (fun w' hw' => ?_) (fun A hA248 hf => ?_)
                          · have f247 := hf.get (d := 247) (v := .pointer (some ⟨gl, k * 5, none⟩)) (by simp)
                            clear hf
                            simp [Oper.quietAt, Oper.quietUpon, go_sem, f247]
                          refine q_want hf (d := 249) (v := .int .i64 ri) (e := 244) rfl rfl (by simp) rfl (by decide) (by simp) (fun w' hw' => ?_) (fun A hA249 hf => ?_)
                          · have hc := hS _ hw'
                            have f248 := hf.get (d := 248) (v := .pointer (some ⟨gl, k * 5 + 1, none⟩)) (by simp)
                            clear hf
                            simp [Oper.quietAt, Oper.quietUpon, go_sem, f248, hc]
                          refine q_want hf (d := 250) (v := .pointer (some ⟨bt, 1, none⟩)) (e := 244) rfl rfl (by simp) rfl (by decide) (by simp) (fun w' hw' => ?_) (fun A hA250 hf => ?_)
                          · have f4 := hf.get (d := 4) (v := .pointer (some ⟨bt, 0, none⟩)) (by simp)
                            clear hf
                            simp [Oper.quietAt, Oper.quietUpon, go_sem, f4]
                          refine q_want hf (d := 251) (v := .int .i64 ri) (e := 244) rfl rfl (by simp) rfl (by decide) (by simp) (fun w' hw' => ?_) (fun A hA251 hf => ?_)
                          · have hc := hS _ hw'
                            have f250 := hf.get (d := 250) (v := .pointer (some ⟨bt, 1, none⟩)) (by simp)
                            clear hf
                            simp [Oper.quietAt, Oper.quietUpon, go_sem, f250, hc]
                          refine q_want hf (d := 252) (v := .bool false) (e := 244) rfl rfl (by simp) rfl (by decide) (by simp) (fun w' hw' => ?_) (fun A hA252 hf => ?_)
                          · have f249 := hf.get (d := 249) (v := .int .i64 ri) (by simp)
                            have f251 := hf.get (d := 251) (v := .int .i64 ri) (by simp)
                            clear hf
                            simp [Oper.quietAt, Oper.quietUpon, go_sem, f249, f251]
                          refine q_want hf (d := 253) (v := .bool false) (e := 235) rfl rfl (by simp) rfl (by decide) (by simp) (fun w' hw' => ?_) (fun A hA253 hf => ?_)
                          · have f244 := hf.get (d := 244) (v := .bool false) (by simp)
                            have f252 := hf.get (d := 252) (v := .bool false) (by simp)
                            clear hf
                            simp [Oper.quietAt, Oper.quietUpon, go_sem, f244, f252]
                          refine q_step hf (d := 254) (v := .bool false) rfl rfl (by decide) (by simp) (fun w' hw' => ?_) (fun A hA254 hf => ?_)
                          · have f235 := hf.get (d := 235) (v := .bool true) (by simp)
                            have f253 := hf.get (d := 253) (v := .bool false) (by simp)
                            clear hf
                            simp [Oper.quietAt, Oper.quietUpon, go_sem, f235, f253]
                          refine wpQuiet_nil (fun w' hw' => ?_)
                          clear hf
                          subst hA254 hA253 hA252 hA251 hA250 hA249 hA248 hA247 hA246 hA245 hA244 hA243 hA242 hA241 hA240 hA239 hA238 hA237 hA236 hA235 hA234 hA233 hA
                          simp only [Act.put, List.setIfInBounds_toArray, List.set_cons_succ, List.set_cons_zero]
                          go_wp2
                          go_roundw
                          case rel => exact ⟨k + 1, by omega, by go_num, hw'⟩
                          case measure => simp [intOf]; omega
                        · clear hF
                          go_wp2
                          refine wp_region_quiet (C := fun w' => Sg w w' [rG kR (.slice qv mv cv) V, rG kR (.slice (some ⟨gx, ox, none⟩) mz cx) X, rG kR (.slice (some ⟨bt, 0, none⟩) 1 1) [⟨rt, ri, rx, ry, rs⟩], lsR gl n cl L]) (by kernel_rfl) (by kernel_rfl) (hx.step (Below.refl _ _).drew) ?_
                          refine q_intro (fun A hA => ?_)
                          have hf : Fr 275 A [(31, .bool true)] := by subst hA; exact ⟨rfl, by simp⟩
                          refine q_step hf (d := 233) (v := .bool true) rfl rfl (by decide) (by simp) (fun w' hw' => ?_) (fun A hA233 hf => ?_)
                          · have f31 := hf.get (d := 31) (v := .bool true) (by simp)
                            clear hf
                            simp [Oper.quietAt, Oper.quietUpon, go_sem, f31]
                          refine q_step hf (d := 234) (v := .bool false) rfl rfl (by decide) (by simp) (fun w' hw' => ?_) (fun A hA234 hf => ?_)
                          · have f233 := hf.get (d := 233) (v := .bool true) (by simp)
                            clear hf
                            simp [Oper.quietAt, Oper.quietUpon, go_sem, f233]
                          refine q_step hf (d := 235) (v := .bool false) rfl rfl (by decide) (by simp) (fun w' hw' => ?_) (fun A hA235 hf => ?_)
                          · have f234 := hf.get (d := 234) (v := .bool false) (by simp)
                            clear hf
                            simp [Oper.quietAt, Oper.quietUpon, go_sem, f234]
                          refine q_skip hf (d := 236) (e := 235) (b := false) rfl rfl (by simp) rfl rfl (by decide) (by simp) (fun A hA236 hf => ?_)
                          refine q_skip hf (d := 237) (e := 235) (b := false) rfl rfl (by simp) rfl rfl (by decide) (by simp) (fun A hA237 hf => ?_)
                          refine q_skip hf (d := 238) (e := 235) (b := false) rfl rfl (by simp) rfl rfl (by decide) (by simp) (fun A hA238 hf => ?_)
                          refine q_skip hf (d := 239) (e := 235) (b := false) rfl rfl (by simp) rfl rfl (by decide) (by simp) (fun A hA239 hf => ?_)
                          refine q_skip hf (d := 240) (e := 235) (b := false) rfl rfl (by simp) rfl rfl (by decide) (by simp) (fun A hA240 hf => ?_)
                          refine q_skip hf (d := 241) (e := 235) (b := false) rfl rfl (by simp) rfl rfl (by decide) (by simp) (fun A hA241 hf => ?_)
                          refine q_skip hf (d := 242) (e := 235) (b := false) rfl rfl (by simp) rfl rfl (by decide) (by simp) (fun A hA242 hf => ?_)
                          refine q_skip hf (d := 243) (e := 235) (b := false) rfl rfl (by simp) rfl rfl (by decide) (by simp) (fun A hA243 hf => ?_)
                          refine q_skip hf (d := 244) (e := 235) (b := false) rfl rfl (by simp) rfl rfl (by decide) (by simp) (fun A hA244 hf => ?_)
                          refine q_skipU hf (d := 245) (e := 244) rfl rfl (by simp) rfl (by decide) (by simp) (fun A hA245 hf => ?_)
                          refine q_skipU hf (d := 246) (e := 244) rfl rfl (by simp) rfl (by decide) (by simp) (fun A hA246 hf => ?_)
                          refine q_skipU hf (d := 247) (e := 244) rfl rfl (by simp) rfl (by decide) (by simp) (fun A hA247 hf => ?_)
                          refine q_skipU hf (d := 248) (e := 244) rfl rfl (by simp) rfl (by decide) (by simp) (fun A hA248 hf => ?_)
                          refine q_skipU hf (d := 249) (e := 244) rfl rfl (by simp) rfl (by decide) (by simp) (fun A hA249 hf => ?_)
                          refine q_skipU hf (d := 250) (e := 244) rfl rfl (by simp) rfl (by decide) (by simp) (fun A hA250 hf => ?_)
                          refine q_skipU hf (d := 251) (e := 244) rfl rfl (by simp) rfl (by decide) (by simp) (fun A hA251 hf => ?_)
                          refine q_skipU hf (d := 252) (e := 244) rfl rfl (by simp) rfl (by decide) (by simp) (fun A hA252 hf => ?_)
                          refine q_skip hf (d := 253) (e := 235) (b := false) rfl rfl (by simp) rfl rfl (by decide) (by simp) (fun A hA253 hf => ?_)
                          refine q_step hf (d := 254) (v := .bool false) rfl rfl (by decide) (by simp) (fun w' hw' => ?_) (fun A hA254 hf => ?_)
                          · have f235 := hf.get (d := 235) (v := .bool false) (by simp)
                            clear hf
                            simp [Oper.quietAt, Oper.quietUpon, go_sem, f235]
                          refine wpQuiet_nil (fun w' hw' => ?_)
                          clear hf
                          subst hA254 hA253 hA252 hA251 hA250 hA249 hA248 hA247 hA246 hA245 hA244 hA243 hA242 hA241 hA240 hA239 hA238 hA237 hA236 hA235 hA234 hA233 hA
                          simp only [Act.put, List.setIfInBounds_toArray, List.set_cons_succ, List.set_cons_zero]
                          go_wp2
                          go_roundw
                          case rel => exact ⟨k + 1, by omega, by go_num, hw'⟩
                          case measure => simp [intOf]; omega
                  · obtain rfl : n = k := by omega
                    have hg1 : (n : Int) ≤ mz := by omega
                    have hg2 : (mz : Int) ≤ (n : Int) + 1 := by omega
                    go_wp2_with (go_at_call 22; refine (iOkV (q := some ⟨gx, ox, none⟩) (c := cx) (L := X) hx (by simp) hmx4 HSF.out.2.1).mono ?_; rintro e w40 ⟨rfl, hx40⟩)
                    go_ret
                    exact ⟨rfl, hx40.bel⟩
end Go.Proofs.Ytjjnmeahcjpinaa
