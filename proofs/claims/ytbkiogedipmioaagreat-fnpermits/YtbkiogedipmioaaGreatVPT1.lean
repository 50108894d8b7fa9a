/-
  Permitted, the program's and the spec's.
-/
import Derived.Test.YtbkiogedipmioaaGreatVAL2
import Derived.Test.YtbkiogedipmioaaGreatVUIC4
namespace Go.Proofs.YtbkiogedipmioaaGreat.V
open Go.Shelf Go.RowKit Go.Joins M
attribute [local go_sem] Oper.semAt_some

/-- May it write there? -/
def okC (tn : Int) (CL : List Cl) (tag now : Int) (c : Int × Int) : Bool := alB tn CL tag c.1 c.2 true now
/-- What Permitted answers. -/
def perB (tn : Int) (CL : List Cl) (tag : Int) (L : List U.Rc) (t s : Int) (M : List U.Rc) (now : Int) : Bool :=
  U.recsB L && (U.I.batB t s M && (ppB tn CL tag && (timeB now && (decide (tn = t) && (U.I.spF L t M).all (okC tn CL tag now)))))
theorem bx6 {w W : World} {u0 u1 u2 v0 v1 v2 : Value} {ta tb : TypeId} (h : Below ((w.alloc (.cells #[u0, u1, u2] ta)).alloc (.cells #[v0, v1, v2] tb)).heap.size ((w.alloc (.cells #[u0, u1, u2] ta)).alloc (.cells #[v0, v1, v2] tb)) W) :
    W.cell? ⟨w.heap.size, 0, none⟩ = some u0 ∧ W.cell? ⟨w.heap.size, 1, none⟩ = some u1 ∧ W.cell? ⟨w.heap.size, 2, none⟩ = some u2 ∧ W.cell? ⟨w.heap.size + 1, 0, none⟩ = some v0 ∧ W.cell? ⟨w.heap.size + 1, 1, none⟩ = some v1 ∧ W.cell? ⟨w.heap.size + 1, 2, none⟩ = some v2 := by
  have hst := ((St.nil w).push [u0, u1, u2] ta).push [v0, v1, v2] tb
  simp only [World.size_alloc] at hst
  have := (hst.step h).has
  simp [Has, HasAt] at this
  simp [this]
theorem all_takeP {X : List (Int × Int)} {f : Int × Int → Bool} {k : Nat} (hk : k < X.length) : (X.take (k + 1)).all f = ((X.take k).all f && f X[k]) := U.all_take hk
theorem cs2 {w : World} {g off : Nat} {L : List (Int × Int)} (h : CsG U.I.kS w g off L) {k : Nat} {c : Int × Int} (hk : L[k]? = some c) : w.cell? ⟨g, off + k * 2, none⟩ = some (.int .i64 c.1) ∧ w.cell? ⟨g, off + k * 2 + 1, none⟩ = some (.int .i64 c.2) :=
  ⟨h.at hk (i := 0) rfl, h.at hk (i := 1) rfl⟩
set_option maxRecDepth 100000 in
set_option maxHeartbeats 4000000 in
theorem iPer_v {L M : List U.Rc} {tn tag now t s : Int} {v : Bool} {p : Option Addr} {cap n : Nat} {QL : List CQ} (hv : perB tn (cls QL) tag L t s M now = v) (hn : QL.length = n) (hb0 : n ≤ 10000000) (g off lc ln : Nat) (hln : L.length = ln) (hlc : ln ≤ lc) (hlb : ln ≤ 10000000) (bp : Option Addr) (bc bn : Nat) (hbn : M.length = bn) (hbb : bn ≤ 10000000) (w : World) (hR : RdS w p QL) (hL : CsG U.kR w g off L) (hM : SlG U.I.kR w bp M) :
    Calls Tryz.prog 7 #[.agg #[.int .i64 tn, .slice p n cap, .int .i64 tag], .slice (some ⟨g, off, none⟩) ln lc, U.I.batV t s bp bn bc, .int .i64 now] w fun e w' => e = .returned (.bool v) ∧ Below w.heap.size w w' := by
  have h0 := below_alloc2 w (.cells #[.int .i64 tn, .slice p n cap, .int .i64 tag] 26) (.cells #[.int .i64 t, .int .i64 s, .slice bp bn bc] 30)
  have hx := Below.refl ((w.alloc (.cells #[.int .i64 tn, .slice p n cap, .int .i64 tag] 26)).alloc (.cells #[.int .i64 t, .int .i64 s, .slice bp bn bc] 30)).heap.size ((w.alloc (.cells #[.int .i64 tn, .slice p n cap, .int .i64 tag] 26)).alloc (.cells #[.int .i64 t, .int .i64 s, .slice bp bn bc] 30))
  obtain ⟨a0, a1, a2, b0, b1, b2⟩ := bx6 hx
  have HR := Lib.hid (fun W b (h : Below w.heap.size w W) (hok : U.recsB L = b) => U.iOk_v hok (some ⟨g, off, none⟩) lc ln hln W (.inr ⟨g, off, rfl, hL.step h⟩) hlb)
  have HO := Lib.hid (fun W b (h : Below w.heap.size w W) (hok : U.I.batB t s M = b) => U.I.iBat_v hok bp bc bn hbn W (hM.step h) hbb)
  have HP := Lib.hid (fun W b (h : Below w.heap.size w W) (hok : ppB tn (cls QL) tag = b) => iPaper_v (cap := cap) hok hn hb0 W (hR.step h))
  have HA := Lib.hid (fun W b x y (h : Below w.heap.size w W) (hok : alB tn (cls QL) tag x y true now = b) => iAllows_v (cap := cap) hok hn hb0 W (hR.step h))
  have HS := Lib.hid (fun W (h : Below w.heap.size w W) (X : List (Int × Int)) (hX : U.I.spL L t s M = X) => U.I.iSpots_any (t := t) (s := s) g off lc L ln hln hlc hlb bp bc bn M hbn hbb W (hL.step h) (hM.step h) hX)
  clear hn hR hln hL hbn hM
  unfold perB at hv
  have fin : ∀ {W : World}, Below ((w.alloc (.cells #[.int .i64 tn, .slice p n cap, .int .i64 tag] 26)).alloc (.cells #[.int .i64 t, .int .i64 s, .slice bp bn bc] 30)).heap.size ((w.alloc (.cells #[.int .i64 tn, .slice p n cap, .int .i64 tag] 26)).alloc (.cells #[.int .i64 t, .int .i64 s, .slice bp bn bc] 30)) W → Below w.heap.size w W := fun h => h0.trans (h.mono h0.size)
  cases hrk : U.recsB L
  · rw [hrk, Bool.false_and] at hv
    subst hv
    go_enter Tryz.func7, Tryz.ntmps7
    go_wp2_with (go_at_call 30; refine (HR.out _ _ (h0.trans (hx.mono h0.size)) hrk).mono ?_; rintro e w1 ⟨rfl, hb⟩; replace hx := bstep hx hb (Nat.le_refl _); clear hb; clear a0 a1 a2 b0 b1 b2; obtain ⟨a0, a1, a2, b0, b1, b2⟩ := bx6 hx)
    go_ret
    exact ⟨rfl, fin hx⟩
  cases hok : U.I.batB t s M
  · rw [hok, Bool.false_and, Bool.and_false] at hv
    subst hv
    go_enter Tryz.func7, Tryz.ntmps7
    go_wp2_with (first | (go_at_call 30; refine (HR.out _ _ (h0.trans (hx.mono h0.size)) hrk).mono ?_; rintro e w1 ⟨rfl, hb⟩; replace hx := bstep hx hb (Nat.le_refl _); clear hb; clear a0 a1 a2 b0 b1 b2; obtain ⟨a0, a1, a2, b0, b1, b2⟩ := bx6 hx) | (go_at_call 31; refine (HO.out _ _ (h0.trans (hx.mono h0.size)) hok).mono ?_; rintro e w2 ⟨rfl, hb⟩; replace hx := bstep hx hb (Nat.le_refl _); clear hb; clear a0 a1 a2 b0 b1 b2; obtain ⟨a0, a1, a2, b0, b1, b2⟩ := bx6 hx))
    go_ret
    exact ⟨rfl, fin hx⟩
  cases hpp : ppB tn (cls QL) tag
  · rw [hpp, Bool.false_and, Bool.and_false, Bool.and_false] at hv
    subst hv
    go_enter Tryz.func7, Tryz.ntmps7
    go_wp2_with (first | (go_at_call 30; refine (HR.out _ _ (h0.trans (hx.mono h0.size)) hrk).mono ?_; rintro e w1 ⟨rfl, hb⟩; replace hx := bstep hx hb (Nat.le_refl _); clear hb; clear a0 a1 a2 b0 b1 b2; obtain ⟨a0, a1, a2, b0, b1, b2⟩ := bx6 hx) | (go_at_call 31; refine (HO.out _ _ (h0.trans (hx.mono h0.size)) hok).mono ?_; rintro e w2 ⟨rfl, hb⟩; replace hx := bstep hx hb (Nat.le_refl _); clear hb; clear a0 a1 a2 b0 b1 b2; obtain ⟨a0, a1, a2, b0, b1, b2⟩ := bx6 hx) | (go_at_call 32; refine (heldAs_any tn tag p n cap _).mono ?_; rintro e w3 ⟨rfl, hb⟩; replace hx := bstep hx hb (Nat.le_refl _); clear hb; clear a0 a1 a2 b0 b1 b2; obtain ⟨a0, a1, a2, b0, b1, b2⟩ := bx6 hx) | (go_at_call 33; refine (HP.out _ _ (h0.trans (hx.mono h0.size)) hpp).mono ?_; rintro e w4 ⟨rfl, hb⟩; replace hx := bstep hx hb (Nat.le_refl _); clear hb; clear a0 a1 a2 b0 b1 b2; obtain ⟨a0, a1, a2, b0, b1, b2⟩ := bx6 hx))
    go_ret
    exact ⟨rfl, fin hx⟩
  cases hti : timeB now
  · rw [hti, Bool.false_and, Bool.and_false, Bool.and_false, Bool.and_false] at hv
    subst hv
    go_enter Tryz.func7, Tryz.ntmps7
    go_wp2_with (first | (go_at_call 30; refine (HR.out _ _ (h0.trans (hx.mono h0.size)) hrk).mono ?_; rintro e w1 ⟨rfl, hb⟩; replace hx := bstep hx hb (Nat.le_refl _); clear hb; clear a0 a1 a2 b0 b1 b2; obtain ⟨a0, a1, a2, b0, b1, b2⟩ := bx6 hx) | (go_at_call 31; refine (HO.out _ _ (h0.trans (hx.mono h0.size)) hok).mono ?_; rintro e w2 ⟨rfl, hb⟩; replace hx := bstep hx hb (Nat.le_refl _); clear hb; clear a0 a1 a2 b0 b1 b2; obtain ⟨a0, a1, a2, b0, b1, b2⟩ := bx6 hx) | (go_at_call 32; refine (heldAs_any tn tag p n cap _).mono ?_; rintro e w3 ⟨rfl, hb⟩; replace hx := bstep hx hb (Nat.le_refl _); clear hb; clear a0 a1 a2 b0 b1 b2; obtain ⟨a0, a1, a2, b0, b1, b2⟩ := bx6 hx) | (go_at_call 33; refine (HP.out _ _ (h0.trans (hx.mono h0.size)) hpp).mono ?_; rintro e w4 ⟨rfl, hb⟩; replace hx := bstep hx hb (Nat.le_refl _); clear hb; clear a0 a1 a2 b0 b1 b2; obtain ⟨a0, a1, a2, b0, b1, b2⟩ := bx6 hx) | (go_at_call 34; refine (isTime_v hti _).mono ?_; rintro e w5 ⟨rfl, hw5⟩; subst hw5))
    go_ret
    exact ⟨rfl, fin hx⟩
  by_cases htn : tn = t
  · subst htn
    rw [hrk, hok, hpp, hti, decide_eq_true rfl] at hv
    simp only [Bool.true_and] at hv
    obtain ⟨X, hX⟩ : ∃ X, U.I.spL L tn s M = X := ⟨_, rfl⟩
    have hXF := U.I.spL_eq (t := tn) (s := s) hrk hok
    have hxl := U.I.spL_len L tn s M
    rw [hX] at hXF hxl
    rw [← hXF] at hv
    have HS2 := Lib.hid (fun W h => HS.out W h X hX)
    clear hXF hX HS
    have HV := Lib.hid hv
    clear hv
    go_enter Tryz.func7, Tryz.ntmps7
    go_upto_region 3 with (first | (go_at_call 30; refine (HR.out _ _ (h0.trans (hx.mono h0.size)) hrk).mono ?_; rintro e w1 ⟨rfl, hb⟩; replace hx := bstep hx hb (Nat.le_refl _); clear hb; clear a0 a1 a2 b0 b1 b2; obtain ⟨a0, a1, a2, b0, b1, b2⟩ := bx6 hx) | (go_at_call 31; refine (HO.out _ _ (h0.trans (hx.mono h0.size)) hok).mono ?_; rintro e w2 ⟨rfl, hb⟩; replace hx := bstep hx hb (Nat.le_refl _); clear hb; clear a0 a1 a2 b0 b1 b2; obtain ⟨a0, a1, a2, b0, b1, b2⟩ := bx6 hx) | (go_at_call 32; refine (heldAs_any tn tag p n cap _).mono ?_; rintro e w3 ⟨rfl, hb⟩; replace hx := bstep hx hb (Nat.le_refl _); clear hb; clear a0 a1 a2 b0 b1 b2; obtain ⟨a0, a1, a2, b0, b1, b2⟩ := bx6 hx) | (go_at_call 33; refine (HP.out _ _ (h0.trans (hx.mono h0.size)) hpp).mono ?_; rintro e w4 ⟨rfl, hb⟩; replace hx := bstep hx hb (Nat.le_refl _); clear hb; clear a0 a1 a2 b0 b1 b2; obtain ⟨a0, a1, a2, b0, b1, b2⟩ := bx6 hx) | (go_at_call 34; refine (isTime_v hti _).mono ?_; rintro e w5 ⟨rfl, hw5⟩; subst hw5))
    go_upto_region 4 with (go_at_call 35; refine (HS2.out _ (fin hx)).mono ?_; rintro e w6 ⟨q, m, c, hm, rfl, h6⟩)
    rw [hm] at hxl
    have HM : Hid (X.length = m) := hm
    have hb6 := bstep hx h6.bel (Nat.le_refl _)
    have hS0 : Sg ((w.alloc (.cells #[.int .i64 tn, .slice p n cap, .int .i64 tag] 26)).alloc (.cells #[.int .i64 tn, .int .i64 s, .slice bp bn bc] 30)) w6 [rG U.I.kS (.slice q m c) X] := by simpa using (U.sg_bel hx).addL h6
    clear hm h6 hb6 hx a0 a1 a2 b0 b1 b2
    go_loopw [41] (fun iv wr => ∃ k : Nat, k ≤ m ∧ iv = .int .i64 k ∧ Hid ((X.take k).all (okC tn (cls QL) tag now) = true) ∧ Sg ((w.alloc (.cells #[.int .i64 tn, .slice p n cap, .int .i64 tag] 26)).alloc (.cells #[.int .i64 tn, .int .i64 s, .slice bp bn bc] 30)) wr [rG U.I.kS (.slice q m c) X]) (fun iv _ => m - (intOf iv).toNat)
    case atStart => exact ⟨0, by omega, rfl, (rfl : (X.take 0).all (okC tn (cls QL) tag now) = true), hS0⟩
    case round =>
      clear hS0
      obtain ⟨k, hk, rfl, hall, hS⟩ := hrel
      by_cases hlt : k < m
      · have hki : (k : Int) < m := by omega
        have hkX : k < X.length := by rw [HM.out]; exact hlt
        obtain ⟨gs, os, rfl, hC⟩ := (OwG.sl (hS.mem (K := U.I.kS) (v := .slice q m c) (L := X) (by simp))).at hkX
        have hgk := List.getElem?_eq_getElem hkX
        have ht := all_takeP (f := okC tn (cls QL) tag now) hkX
        generalize X[k] = d at hgk ht
        obtain ⟨c0, c1⟩ := cs2 hC hgk
        have HG : Hid (X[k]? = some d ∧ (X.take (k + 1)).all (okC tn (cls QL) tag now) = ((X.take k).all (okC tn (cls QL) tag now) && okC tn (cls QL) tag now d)) := ⟨hgk, ht⟩
        have hS1 := hS.step (below_alloc1 wr (.cells #[.int .i64 d.1, .int .i64 d.2] 40))
        obtain ⟨a0, a1, a2, b0, b1, b2⟩ := bx6 hS1.bel
        clear hC hgk ht
        cases hal : okC tn (cls QL) tag now d
        · go_wp2_with (go_at_call 12; refine (HA.out _ _ _ _ (fin hS1.bel) hal).mono ?_; rintro e w7 ⟨rfl, hb7⟩)
          go_ret
          exact ⟨ret_bool (by rw [← HV.out, U.all_no HG.out.1 hal]), fin (hS1.step hb7).bel⟩
        · go_wp2_with (go_at_call 12; refine (HA.out _ _ _ _ (fin hS1.bel) hal).mono ?_; rintro e w7 ⟨rfl, hb7⟩)
          go_roundw
          case rel => exact ⟨k + 1, by omega, by go_num, (by rw [HG.out.2, hall.out, hal]; rfl : (X.take (k + 1)).all (okC tn (cls QL) tag now) = true), hS1.step hb7⟩
          case measure => simp [intOf]; omega
      · obtain rfl : k = m := by omega
        have HE : Hid (v = true) := (by have e := hall.out; rw [List.take_of_length_le (by rw [HM.out]; exact Nat.le_refl _)] at e; rw [← HV.out, e] : v = true)
        go_wp2
        go_ret
        exact ⟨ret_bool (by rw [HE.out]), fin hS.bel⟩
  · rw [decide_eq_false htn, Bool.false_and, Bool.and_false, Bool.and_false, Bool.and_false, Bool.and_false] at hv
    subst hv
    have htb : (tn == t) = false := by simp [htn]
    go_enter Tryz.func7, Tryz.ntmps7
    go_wp2_with (first | (go_at_call 30; refine (HR.out _ _ (h0.trans (hx.mono h0.size)) hrk).mono ?_; rintro e w1 ⟨rfl, hb⟩; replace hx := bstep hx hb (Nat.le_refl _); clear hb; clear a0 a1 a2 b0 b1 b2; obtain ⟨a0, a1, a2, b0, b1, b2⟩ := bx6 hx) | (go_at_call 31; refine (HO.out _ _ (h0.trans (hx.mono h0.size)) hok).mono ?_; rintro e w2 ⟨rfl, hb⟩; replace hx := bstep hx hb (Nat.le_refl _); clear hb; clear a0 a1 a2 b0 b1 b2; obtain ⟨a0, a1, a2, b0, b1, b2⟩ := bx6 hx) | (go_at_call 32; refine (heldAs_any tn tag p n cap _).mono ?_; rintro e w3 ⟨rfl, hb⟩; replace hx := bstep hx hb (Nat.le_refl _); clear hb; clear a0 a1 a2 b0 b1 b2; obtain ⟨a0, a1, a2, b0, b1, b2⟩ := bx6 hx) | (go_at_call 33; refine (HP.out _ _ (h0.trans (hx.mono h0.size)) hpp).mono ?_; rintro e w4 ⟨rfl, hb⟩; replace hx := bstep hx hb (Nat.le_refl _); clear hb; clear a0 a1 a2 b0 b1 b2; obtain ⟨a0, a1, a2, b0, b1, b2⟩ := bx6 hx) | (go_at_call 34; refine (isTime_v hti _).mono ?_; rintro e w5 ⟨rfl, hw5⟩; subst hw5))
    go_ret
    exact ⟨rfl, fin hx⟩
set_option maxRecDepth 100000 in
set_option maxHeartbeats 4000000 in
theorem sPer_v {L M : List U.Rc} {tn tag now t s : Int} {v : Bool} {p : Option Addr} {cap n : Nat} {QL : List CQ} (hv : perB tn (cls QL) tag L t s M now = v) (hn : QL.length = n) (hb0 : n ≤ 10000000) (g off lc ln : Nat) (hln : L.length = ln) (_hlc : ln ≤ lc) (hlb : ln ≤ 10000000) (bp : Option Addr) (bc bn : Nat) (hbn : M.length = bn) (hbb : bn ≤ 10000000) (w : World) (hR : RdS w p QL) (hL : CsG U.kR w g off L) (hM : SlG U.I.kR w bp M) :
    Calls Tryz.prog 8 #[.agg #[.int .i64 tn, .slice p n cap, .int .i64 tag], .slice (some ⟨g, off, none⟩) ln lc, U.I.batV t s bp bn bc, .int .i64 now] w fun e w' => e = .returned (.bool v) ∧ Below w.heap.size w w' := by
  have h0 := below_alloc2 w (.cells #[.int .i64 tn, .slice p n cap, .int .i64 tag] 26) (.cells #[.int .i64 t, .int .i64 s, .slice bp bn bc] 30)
  have hx := Below.refl ((w.alloc (.cells #[.int .i64 tn, .slice p n cap, .int .i64 tag] 26)).alloc (.cells #[.int .i64 t, .int .i64 s, .slice bp bn bc] 30)).heap.size ((w.alloc (.cells #[.int .i64 tn, .slice p n cap, .int .i64 tag] 26)).alloc (.cells #[.int .i64 t, .int .i64 s, .slice bp bn bc] 30))
  obtain ⟨a0, a1, a2, b0, b1, b2⟩ := bx6 hx
  have HR := Lib.hid (fun W b (h : Below w.heap.size w W) (hok : U.recsB L = b) => U.sOk_v hok (some ⟨g, off, none⟩) lc ln hln W (.inr ⟨g, off, rfl, hL.step h⟩) hlb)
  have HO := Lib.hid (fun W b (h : Below w.heap.size w W) (hok : U.I.batB t s M = b) => U.I.sBat_v hok bp bc bn hbn W (hM.step h) hbb)
  have HP := Lib.hid (fun W b (h : Below w.heap.size w W) (hok : ppB tn (cls QL) tag = b) => sPaper_v (cap := cap) hok hn hb0 W (hR.step h))
  have HA := Lib.hid (fun W b x y (h : Below w.heap.size w W) (hok : alB tn (cls QL) tag x y true now = b) => sAllows_v (cap := cap) hok hn hb0 W (hR.step h))
  have HS := Lib.hid (fun W (h : Below w.heap.size w W) (X : List (Int × Int)) (hX : U.I.spF L t M = X) (hr : U.riseB L = true) (h6 : bn ≤ 6) => U.I.sSpF_any (s := s) g off lc L ln hln hlb hr bp bc bn M hbn h6 W (hL.step h) (hM.step h) hX)
  have H6 : U.I.batB t s M = true → bn ≤ 6 := fun h => by have := U.I.bat_len h; omega
  clear hn hR hln hL hbn hM
  unfold perB at hv
  have fin : ∀ {W : World}, Below ((w.alloc (.cells #[.int .i64 tn, .slice p n cap, .int .i64 tag] 26)).alloc (.cells #[.int .i64 t, .int .i64 s, .slice bp bn bc] 30)).heap.size ((w.alloc (.cells #[.int .i64 tn, .slice p n cap, .int .i64 tag] 26)).alloc (.cells #[.int .i64 t, .int .i64 s, .slice bp bn bc] 30)) W → Below w.heap.size w W := fun h => h0.trans (h.mono h0.size)
  cases hpp : ppB tn (cls QL) tag
  · rw [hpp, Bool.false_and, Bool.and_false, Bool.and_false] at hv
    subst hv
    go_enter Tryz.func8, Tryz.ntmps8
    go_wp2_with (go_at_call 36; refine (HP.out _ _ (h0.trans (hx.mono h0.size)) hpp).mono ?_; rintro e w1 ⟨rfl, hb⟩; replace hx := bstep hx hb (Nat.le_refl _); clear hb; clear a0 a1 a2 b0 b1 b2; obtain ⟨a0, a1, a2, b0, b1, b2⟩ := bx6 hx)
    go_ret
    exact ⟨rfl, fin hx⟩
  cases hrk : U.recsB L
  · rw [hrk, Bool.false_and] at hv
    subst hv
    go_enter Tryz.func8, Tryz.ntmps8
    go_wp2_with (first | (go_at_call 36; refine (HP.out _ _ (h0.trans (hx.mono h0.size)) hpp).mono ?_; rintro e w1 ⟨rfl, hb⟩; replace hx := bstep hx hb (Nat.le_refl _); clear hb; clear a0 a1 a2 b0 b1 b2; obtain ⟨a0, a1, a2, b0, b1, b2⟩ := bx6 hx) | (go_at_call 10; refine (HR.out _ _ (h0.trans (hx.mono h0.size)) hrk).mono ?_; rintro e w2 ⟨rfl, hb⟩; replace hx := bstep hx hb (Nat.le_refl _); clear hb; clear a0 a1 a2 b0 b1 b2; obtain ⟨a0, a1, a2, b0, b1, b2⟩ := bx6 hx))
    go_ret
    exact ⟨rfl, fin hx⟩
  cases hok : U.I.batB t s M
  · rw [hok, Bool.false_and, Bool.and_false] at hv
    subst hv
    go_enter Tryz.func8, Tryz.ntmps8
    go_wp2_with (first | (go_at_call 36; refine (HP.out _ _ (h0.trans (hx.mono h0.size)) hpp).mono ?_; rintro e w1 ⟨rfl, hb⟩; replace hx := bstep hx hb (Nat.le_refl _); clear hb; clear a0 a1 a2 b0 b1 b2; obtain ⟨a0, a1, a2, b0, b1, b2⟩ := bx6 hx) | (go_at_call 10; refine (HR.out _ _ (h0.trans (hx.mono h0.size)) hrk).mono ?_; rintro e w2 ⟨rfl, hb⟩; replace hx := bstep hx hb (Nat.le_refl _); clear hb; clear a0 a1 a2 b0 b1 b2; obtain ⟨a0, a1, a2, b0, b1, b2⟩ := bx6 hx) | (go_at_call 11; refine (HO.out _ _ (h0.trans (hx.mono h0.size)) hok).mono ?_; rintro e w3 ⟨rfl, hb⟩; replace hx := bstep hx hb (Nat.le_refl _); clear hb; clear a0 a1 a2 b0 b1 b2; obtain ⟨a0, a1, a2, b0, b1, b2⟩ := bx6 hx))
    go_ret
    exact ⟨rfl, fin hx⟩
  cases hti : timeB now
  · rw [hti, Bool.false_and, Bool.and_false, Bool.and_false, Bool.and_false] at hv
    subst hv
    go_enter Tryz.func8, Tryz.ntmps8
    go_wp2_with (first | (go_at_call 36; refine (HP.out _ _ (h0.trans (hx.mono h0.size)) hpp).mono ?_; rintro e w1 ⟨rfl, hb⟩; replace hx := bstep hx hb (Nat.le_refl _); clear hb; clear a0 a1 a2 b0 b1 b2; obtain ⟨a0, a1, a2, b0, b1, b2⟩ := bx6 hx) | (go_at_call 10; refine (HR.out _ _ (h0.trans (hx.mono h0.size)) hrk).mono ?_; rintro e w2 ⟨rfl, hb⟩; replace hx := bstep hx hb (Nat.le_refl _); clear hb; clear a0 a1 a2 b0 b1 b2; obtain ⟨a0, a1, a2, b0, b1, b2⟩ := bx6 hx) | (go_at_call 11; refine (HO.out _ _ (h0.trans (hx.mono h0.size)) hok).mono ?_; rintro e w3 ⟨rfl, hb⟩; replace hx := bstep hx hb (Nat.le_refl _); clear hb; clear a0 a1 a2 b0 b1 b2; obtain ⟨a0, a1, a2, b0, b1, b2⟩ := bx6 hx) | (go_at_call 37; refine (sTime_v hti _).mono ?_; rintro e w5 ⟨rfl, hw5⟩; subst hw5))
    go_ret
    exact ⟨rfl, fin hx⟩
  by_cases htn : tn = t
  · subst htn
    rw [hrk, hok, hpp, hti, decide_eq_true rfl] at hv
    simp only [Bool.true_and] at hv
    obtain ⟨X, hX⟩ : ∃ X, U.I.spF L tn M = X := ⟨_, rfl⟩
    have hxl := U.I.spF_len L tn M
    rw [hX] at hv
    have hr := U.I.recs_rise hrk
    have h6 := H6 hok
    have hxl : X.length ≤ 12 := by
      have h := U.I.spL_len L tn s M
      rw [U.I.spL_eq hrk hok, hX] at h
      exact h
    have HS2 := Lib.hid (fun W h => HS.out W h X hX hr h6)
    clear hX HS hr h6 H6
    have HV := Lib.hid hv
    clear hv
    go_enter Tryz.func8, Tryz.ntmps8
    go_upto_region 3 with (first | (go_at_call 36; refine (HP.out _ _ (h0.trans (hx.mono h0.size)) hpp).mono ?_; rintro e w1 ⟨rfl, hb⟩; replace hx := bstep hx hb (Nat.le_refl _); clear hb; clear a0 a1 a2 b0 b1 b2; obtain ⟨a0, a1, a2, b0, b1, b2⟩ := bx6 hx) | (go_at_call 10; refine (HR.out _ _ (h0.trans (hx.mono h0.size)) hrk).mono ?_; rintro e w2 ⟨rfl, hb⟩; replace hx := bstep hx hb (Nat.le_refl _); clear hb; clear a0 a1 a2 b0 b1 b2; obtain ⟨a0, a1, a2, b0, b1, b2⟩ := bx6 hx) | (go_at_call 11; refine (HO.out _ _ (h0.trans (hx.mono h0.size)) hok).mono ?_; rintro e w3 ⟨rfl, hb⟩; replace hx := bstep hx hb (Nat.le_refl _); clear hb; clear a0 a1 a2 b0 b1 b2; obtain ⟨a0, a1, a2, b0, b1, b2⟩ := bx6 hx) | (go_at_call 37; refine (sTime_v hti _).mono ?_; rintro e w5 ⟨rfl, hw5⟩; subst hw5))
    go_upto_region 5 with (go_at_call 38; refine (HS2.out _ (fin hx)).mono ?_; rintro e w6 ⟨q, m, c, hm, rfl, h6⟩)
    rw [hm] at hxl
    have HM : Hid (X.length = m) := hm
    have hS0 : Sg ((w.alloc (.cells #[.int .i64 tn, .slice p n cap, .int .i64 tag] 26)).alloc (.cells #[.int .i64 tn, .int .i64 s, .slice bp bn bc] 30)) w6 [rG U.I.kS (.slice q m c) X] := by simpa using (U.sg_bel hx).addL h6
    clear hm h6 hx a0 a1 a2 b0 b1 b2
    go_loopw [10] (fun iv wr => ∃ k : Nat, k ≤ m ∧ iv = .int .i64 k ∧ Hid ((X.take k).all (okC tn (cls QL) tag now) = true) ∧ Sg ((w.alloc (.cells #[.int .i64 tn, .slice p n cap, .int .i64 tag] 26)).alloc (.cells #[.int .i64 tn, .int .i64 s, .slice bp bn bc] 30)) wr [rG U.I.kS (.slice q m c) X]) (fun iv _ => m - (intOf iv).toNat)
    case atStart => exact ⟨0, by omega, rfl, (rfl : (X.take 0).all (okC tn (cls QL) tag now) = true), hS0⟩
    case round =>
      clear hS0
      obtain ⟨k, hk, rfl, hall, hS⟩ := hrel
      by_cases hlt : k < m
      · have hki : (k : Int) < m := by omega
        have hkX : k < X.length := by rw [HM.out]; exact hlt
        have hsl := OwG.sl (hS.mem (K := U.I.kS) (v := .slice q m c) (L := X) (by simp))
        obtain ⟨gs, os, rfl, hC⟩ := hsl.at hkX
        have hgk := List.getElem?_eq_getElem hkX
        have ht := all_takeP (f := okC tn (cls QL) tag now) hkX
        generalize X[k] = d at hgk ht
        have HG : Hid (X[k]? = some d ∧ (X.take (k + 1)).all (okC tn (cls QL) tag now) = ((X.take k).all (okC tn (cls QL) tag now) && okC tn (cls QL) tag now d)) := ⟨hgk, ht⟩
        have HK : Hid (∀ w', Below wr.heap.size wr w' → (w'.cell? ⟨w.heap.size, 0, none⟩ = some (.int .i64 tn) ∧ w'.cell? ⟨w.heap.size, 1, none⟩ = some (.slice p n cap) ∧ w'.cell? ⟨w.heap.size, 2, none⟩ = some (.int .i64 tag) ∧ w'.cell? ⟨gs, os + k * 2, none⟩ = some (.int .i64 d.1) ∧ w'.cell? ⟨gs, os + k * 2 + 1, none⟩ = some (.int .i64 d.2))) := fun w' h => by
          obtain ⟨a0, a1, a2, _, _, _⟩ := bx6 (bstep hS.bel h (Nat.le_refl _))
          exact ⟨a0, a1, a2, cs2 (hC.step h) hgk⟩
        clear hC hgk ht hsl
        cases hal : okC tn (cls QL) tag now d
        all_goals
          go_wp2
          go_region_held3 (fun w' => w'.cell? ⟨w.heap.size, 0, none⟩ = some (.int .i64 tn) ∧ w'.cell? ⟨w.heap.size, 1, none⟩ = some (.slice p n cap) ∧ w'.cell? ⟨w.heap.size, 2, none⟩ = some (.int .i64 tag) ∧ w'.cell? ⟨gs, os + k * 2, none⟩ = some (.int .i64 d.1) ∧ w'.cell? ⟨gs, os + k * 2 + 1, none⟩ = some (.int .i64 d.2))
            (first
              | assumption
              | with_reducible exact HK.out _ (Below.refl _ _).drew)
            (first | (go_at_call 39; refine (HA.out _ _ _ _ (fin (bstep hS.bel (Below.refl _ _).drew (Nat.le_refl _))) hal).mono ?_; rintro e w7 ⟨rfl, hb7⟩; have hS7 := (hS.step (Below.refl _ _).drew).step hb7; have hk7 := HK.out _ (bstep (Below.refl _ _).drew hb7 (Nat.le_refl _))))
        · go_wp2
          go_ret
          exact ⟨ret_bool (by rw [← HV.out, U.all_no HG.out.1 hal]), fin hS7.bel⟩
        · go_wp2
          go_roundw
          case rel => exact ⟨k + 1, by omega, by go_num, (by rw [HG.out.2, hall.out, hal]; rfl : (X.take (k + 1)).all (okC tn (cls QL) tag now) = true), hS7⟩
          case measure => simp [intOf]; omega
      · obtain rfl : k = m := by omega
        have HE : Hid (v = true) := (by have e := hall.out; rw [List.take_of_length_le (by rw [HM.out]; exact Nat.le_refl _)] at e; rw [← HV.out, e] : v = true)
        go_wp2
        go_ret
        exact ⟨ret_bool (by rw [HE.out]), fin hS.bel⟩
  · rw [decide_eq_false htn, Bool.false_and, Bool.and_false, Bool.and_false, Bool.and_false, Bool.and_false] at hv
    subst hv
    have htb : (tn == t) = false := by simp [htn]
    go_enter Tryz.func8, Tryz.ntmps8
    go_wp2_with (first | (go_at_call 36; refine (HP.out _ _ (h0.trans (hx.mono h0.size)) hpp).mono ?_; rintro e w1 ⟨rfl, hb⟩; replace hx := bstep hx hb (Nat.le_refl _); clear hb; clear a0 a1 a2 b0 b1 b2; obtain ⟨a0, a1, a2, b0, b1, b2⟩ := bx6 hx) | (go_at_call 10; refine (HR.out _ _ (h0.trans (hx.mono h0.size)) hrk).mono ?_; rintro e w2 ⟨rfl, hb⟩; replace hx := bstep hx hb (Nat.le_refl _); clear hb; clear a0 a1 a2 b0 b1 b2; obtain ⟨a0, a1, a2, b0, b1, b2⟩ := bx6 hx) | (go_at_call 11; refine (HO.out _ _ (h0.trans (hx.mono h0.size)) hok).mono ?_; rintro e w3 ⟨rfl, hb⟩; replace hx := bstep hx hb (Nat.le_refl _); clear hb; clear a0 a1 a2 b0 b1 b2; obtain ⟨a0, a1, a2, b0, b1, b2⟩ := bx6 hx) | (go_at_call 37; refine (sTime_v hti _).mono ?_; rintro e w5 ⟨rfl, hw5⟩; subst hw5))
    go_ret
    exact ⟨rfl, fin hx⟩
end Go.Proofs.YtbkiogedipmioaaGreat.V
