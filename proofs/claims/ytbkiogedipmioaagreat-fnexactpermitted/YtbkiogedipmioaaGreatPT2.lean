/-
  The law of Permitted, walked.
-/
import Derived.Test.YtbkiogedipmioaaGreatAL2
import Derived.Test.YtbkiogedipmioaaGreatRIC4
import Derived.Test.YtbkiogedipmioaaGreatZ3
import Derived.Test.YtbkiogedipmioaaGreatRID1
import Derived.Test.YtbkiogedipmioaaGreatRW1
namespace Go.Proofs.YtbkiogedipmioaaGreat
open Go.Shelf Go.RowKit Go.Joins M
attribute [local go_sem] Oper.semAt_some

/-- May it write there? -/
def okC (tn : Int) (CL : List Cl) (tag now : Int) (c : Int × Int) : Bool := alB tn CL tag c.1 c.2 true now
/-- What Permitted answers. -/
def perB (tn : Int) (CL : List Cl) (tag : Int) (L : List R.Rc) (t s : Int) (M : List R.Rc) (now : Int) : Bool :=
  R.recsB L && (R.I.batB t s M && (ppB tn CL tag && (timeB now && (decide (tn = t) && (R.I.spF L t M).all (okC tn CL tag now)))))
theorem bx6 {w W : World} {u0 u1 u2 v0 v1 v2 : Value} {ta tb : TypeId} (h : Below ((w.alloc (.cells #[u0, u1, u2] ta)).alloc (.cells #[v0, v1, v2] tb)).heap.size ((w.alloc (.cells #[u0, u1, u2] ta)).alloc (.cells #[v0, v1, v2] tb)) W) :
    W.cell? ⟨w.heap.size, 0, none⟩ = some u0 ∧ W.cell? ⟨w.heap.size, 1, none⟩ = some u1 ∧ W.cell? ⟨w.heap.size, 2, none⟩ = some u2 ∧ W.cell? ⟨w.heap.size + 1, 0, none⟩ = some v0 ∧ W.cell? ⟨w.heap.size + 1, 1, none⟩ = some v1 ∧ W.cell? ⟨w.heap.size + 1, 2, none⟩ = some v2 := by
  have hst := ((St.nil w).push [u0, u1, u2] ta).push [v0, v1, v2] tb
  simp only [World.size_alloc] at hst
  have := (hst.step h).has
  simp [Has, HasAt] at this
  simp [this]
theorem all_takeP {X : List (Int × Int)} {f : Int × Int → Bool} {k : Nat} (hk : k < X.length) : (X.take (k + 1)).all f = ((X.take k).all f && f X[k]) := R.all_take hk
theorem cs2 {w : World} {g off : Nat} {L : List (Int × Int)} (h : R.CsG R.I.kS w g off L) {k : Nat} {c : Int × Int} (hk : L[k]? = some c) : w.cell? ⟨g, off + k * 2, none⟩ = some (.int .i64 c.1) ∧ w.cell? ⟨g, off + k * 2 + 1, none⟩ = some (.int .i64 c.2) :=
  ⟨h.at hk (i := 0) rfl, h.at hk (i := 1) rfl⟩
set_option maxRecDepth 100000 in
set_option maxHeartbeats 4000000 in
theorem iPer_v {L M : List R.Rc} {tn tag now t s : Int} {v : Bool} {p : Option Addr} {cap n : Nat} {QL : List CQ} (hv : perB tn (cls QL) tag L t s M now = v) (hn : QL.length = n) (hb0 : n ≤ 10000000) (g off lc ln : Nat) (hln : L.length = ln) (hlc : ln ≤ lc) (hlb : ln ≤ 10000000) (bp : Option Addr) (bc bn : Nat) (hbn : M.length = bn) (hbb : bn ≤ 10000000) (w : World) (hR : RdS w p QL) (hL : R.CsG R.kR w g off L) (hM : R.SlG R.I.kR w bp M) :
    Calls Tryz.prog 7 #[.agg #[.int .i64 tn, .slice p n cap, .int .i64 tag], .slice (some ⟨g, off, none⟩) ln lc, R.I.batV t s bp bn bc, .int .i64 now] w fun e w' => e = .returned (.bool v) ∧ Below w.heap.size w w' := by
  have h0 := below_alloc2 w (.cells #[.int .i64 tn, .slice p n cap, .int .i64 tag] 26) (.cells #[.int .i64 t, .int .i64 s, .slice bp bn bc] 30)
  have hx := Below.refl ((w.alloc (.cells #[.int .i64 tn, .slice p n cap, .int .i64 tag] 26)).alloc (.cells #[.int .i64 t, .int .i64 s, .slice bp bn bc] 30)).heap.size ((w.alloc (.cells #[.int .i64 tn, .slice p n cap, .int .i64 tag] 26)).alloc (.cells #[.int .i64 t, .int .i64 s, .slice bp bn bc] 30))
  obtain ⟨a0, a1, a2, b0, b1, b2⟩ := bx6 hx
  have HR := Lib.hid (fun W b (h : Below w.heap.size w W) (hok : R.recsB L = b) => R.iOk_v hok (some ⟨g, off, none⟩) lc ln hln W (.inr ⟨g, off, rfl, hL.step h⟩) hlb)
  have HO := Lib.hid (fun W b (h : Below w.heap.size w W) (hok : R.I.batB t s M = b) => R.I.iBat_v hok bp bc bn hbn W (hM.step h) hbb)
  have HP := Lib.hid (fun W b (h : Below w.heap.size w W) (hok : ppB tn (cls QL) tag = b) => iPaper_v (cap := cap) hok hn hb0 W (hR.step h))
  have HA := Lib.hid (fun W b x y (h : Below w.heap.size w W) (hok : alB tn (cls QL) tag x y true now = b) => iAllows_v (cap := cap) hok hn hb0 W (hR.step h))
  have HS := Lib.hid (fun W (h : Below w.heap.size w W) (X : List (Int × Int)) (hX : R.I.spL L t s M = X) => R.I.iSpots_any (t := t) (s := s) g off lc L ln hln hlc hlb bp bc bn M hbn hbb W (hL.step h) (hM.step h) hX)
  clear hn hR hln hL hbn hM
  unfold perB at hv
  have fin : ∀ {W : World}, Below ((w.alloc (.cells #[.int .i64 tn, .slice p n cap, .int .i64 tag] 26)).alloc (.cells #[.int .i64 t, .int .i64 s, .slice bp bn bc] 30)).heap.size ((w.alloc (.cells #[.int .i64 tn, .slice p n cap, .int .i64 tag] 26)).alloc (.cells #[.int .i64 t, .int .i64 s, .slice bp bn bc] 30)) W → Below w.heap.size w W := fun h => h0.trans (h.mono h0.size)
  cases hrk : R.recsB L
  · rw [hrk, Bool.false_and] at hv
    subst hv
    go_enter Tryz.func7, Tryz.ntmps7
    go_wp2_with (go_at_call 30; refine (HR.out _ _ (h0.trans (hx.mono h0.size)) hrk).mono ?_; rintro e w1 ⟨rfl, hb⟩; replace hx := bstep hx hb (Nat.le_refl _); clear hb; clear a0 a1 a2 b0 b1 b2; obtain ⟨a0, a1, a2, b0, b1, b2⟩ := bx6 hx)
    go_ret
    exact ⟨rfl, fin hx⟩
  cases hok : R.I.batB t s M
  · rw [hok, Bool.false_and, Bool.and_false] at hv
    subst hv
    go_enter Tryz.func7, Tryz.ntmps7
    go_wp2_with (first | (go_at_call 30; refine (HR.out _ _ (h0.trans (hx.mono h0.size)) hrk).mono ?_; rintro e w1 ⟨rfl, hb⟩; replace hx := bstep hx hb (Nat.le_refl _); clear hb; clear a0 a1 a2 b0 b1 b2; obtain ⟨a0, a1, a2, b0, b1, b2⟩ := bx6 hx) | (go_at_call 31; refine (HO.out _ _ (h0.trans (hx.mono h0.size)) hok).mono ?_; rintro e w2 ⟨rfl, hb⟩; replace hx := bstep hx hb (Nat.le_refl _); clear hb; clear a0 a1 a2 b0 b1 b2; obtain ⟨a0, a1, a2, b0, b1, b2⟩ := bx6 hx))
    go_ret
    exact ⟨rfl, fin hx⟩
  cases hpp : ppB tn (cls QL) tag
  · rw [hpp, Bool.false_and, Bool.and_false, Bool.and_false] at hv
    subst hv
    go_enter Tryz.func7, Tryz.ntmps7
    go_wp2_with (first | (go_at_call 30; refine (HR.out _ _ (h0.trans (hx.mono h0.size)) hrk).mono ?_; rintro e w1 ⟨rfl, hb⟩; replace hx := bstep hx hb (Nat.le_refl _); clear hb; clear a0 a1 a2 b0 b1 b2; obtain ⟨a0, a1, a2, b0, b1, b2⟩ := bx6 hx) | (go_at_call 31; refine (HO.out _ _ (h0.trans (hx.mono h0.size)) hok).mono ?_; rintro e w2 ⟨rfl, hb⟩; replace hx := bstep hx hb (Nat.le_refl _); clear hb; clear a0 a1 a2 b0 b1 b2; obtain ⟨a0, a1, a2, b0, b1, b2⟩ := bx6 hx) | (go_at_call 32; refine (heldAs_any tn tag p n cap _).mono ?_; rintro e w3 ⟨rfl, hb⟩; replace hx := bstep hx hb (Nat.le_refl _); clear hb; clear a0 a1 a2 b0 b1 b2; obtain ⟨a0, a1, a2, b0, b1, b2⟩ := bx6 hx) | (go_at_call 33; refine (HP.out _ _ (h0.trans (hx.mono h0.size)) hpp).mono ?_; rintro e w4 ⟨rfl, hb⟩; replace hx := bstep hx hb (Nat.le_refl _); clear hb; clear a0 a1 a2 b0 b1 b2; obtain ⟨a0, a1, a2, b0, b1, b2⟩ := bx6 hx))
    go_ret
    exact ⟨rfl, fin hx⟩
  cases hti : timeB now
  · rw [hti, Bool.false_and, Bool.and_false, Bool.and_false, Bool.and_false] at hv
    subst hv
    go_enter Tryz.func7, Tryz.ntmps7
    go_wp2_with (first | (go_at_call 30; refine (HR.out _ _ (h0.trans (hx.mono h0.size)) hrk).mono ?_; rintro e w1 ⟨rfl, hb⟩; replace hx := bstep hx hb (Nat.le_refl _); clear hb; clear a0 a1 a2 b0 b1 b2; obtain ⟨a0, a1, a2, b0, b1, b2⟩ := bx6 hx) | (go_at_call 31; refine (HO.out _ _ (h0.trans (hx.mono h0.size)) hok).mono ?_; rintro e w2 ⟨rfl, hb⟩; replace hx := bstep hx hb (Nat.le_refl _); clear hb; clear a0 a1 a2 b0 b1 b2; obtain ⟨a0, a1, a2, b0, b1, b2⟩ := bx6 hx) | (go_at_call 32; refine (heldAs_any tn tag p n cap _).mono ?_; rintro e w3 ⟨rfl, hb⟩; replace hx := bstep hx hb (Nat.le_refl _); clear hb; clear a0 a1 a2 b0 b1 b2; obtain ⟨a0, a1, a2, b0, b1, b2⟩ := bx6 hx) | (go_at_call 33; refine (HP.out _ _ (h0.trans (hx.mono h0.size)) hpp).mono ?_; rintro e w4 ⟨rfl, hb⟩; replace hx := bstep hx hb (Nat.le_refl _); clear hb; clear a0 a1 a2 b0 b1 b2; obtain ⟨a0, a1, a2, b0, b1, b2⟩ := bx6 hx) | (go_at_call 34; refine (isTime_v hti _).mono ?_; rintro e w5 ⟨rfl, hw5⟩; subst hw5))
    go_ret
    exact ⟨rfl, fin hx⟩
  by_cases htn : tn = t
  · subst htn
    rw [hrk, hok, hpp, hti, decide_eq_true rfl] at hv
    simp only [Bool.true_and] at hv
    obtain ⟨X, hX⟩ : ∃ X, R.I.spL L tn s M = X := ⟨_, rfl⟩
    have hXF := R.I.spL_eq (t := tn) (s := s) hrk hok
    have hxl := R.I.spL_len L tn s M
    rw [hX] at hXF hxl
    rw [← hXF] at hv
    have HS2 := Lib.hid (fun W h => HS.out W h X hX)
    clear hXF hX HS
    have HV := Lib.hid hv
    clear hv
    go_enter Tryz.func7, Tryz.ntmps7
    go_upto_region 3 with (first | (go_at_call 30; refine (HR.out _ _ (h0.trans (hx.mono h0.size)) hrk).mono ?_; rintro e w1 ⟨rfl, hb⟩; replace hx := bstep hx hb (Nat.le_refl _); clear hb; clear a0 a1 a2 b0 b1 b2; obtain ⟨a0, a1, a2, b0, b1, b2⟩ := bx6 hx) | (go_at_call 31; refine (HO.out _ _ (h0.trans (hx.mono h0.size)) hok).mono ?_; rintro e w2 ⟨rfl, hb⟩; replace hx := bstep hx hb (Nat.le_refl _); clear hb; clear a0 a1 a2 b0 b1 b2; obtain ⟨a0, a1, a2, b0, b1, b2⟩ := bx6 hx) | (go_at_call 32; refine (heldAs_any tn tag p n cap _).mono ?_; rintro e w3 ⟨rfl, hb⟩; replace hx := bstep hx hb (Nat.le_refl _); clear hb; clear a0 a1 a2 b0 b1 b2; obtain ⟨a0, a1, a2, b0, b1, b2⟩ := bx6 hx) | (go_at_call 33; refine (HP.out _ _ (h0.trans (hx.mono h0.size)) hpp).mono ?_; rintro e w4 ⟨rfl, hb⟩; replace hx := bstep hx hb (Nat.le_refl _); clear hb; clear a0 a1 a2 b0 b1 b2; obtain ⟨a0, a1, a2, b0, b1, b2⟩ := bx6 hx) | (go_at_call 34; refine (isTime_v hti _).mono ?_; rintro e w5 ⟨rfl, hw5⟩; subst hw5))
    go_upto_region 4 with (go_at_call 35; refine (HS2.out _ (fin hx)).mono ?_; rintro e w6 ⟨q, m, c, hm, rfl, h6⟩)
    rw [hm] at hxl
    have HM : Hid (X.length = m) := hm
    have hb6 := bstep hx h6.bel (Nat.le_refl _)
    have hS0 : R.Sg ((w.alloc (.cells #[.int .i64 tn, .slice p n cap, .int .i64 tag] 26)).alloc (.cells #[.int .i64 tn, .int .i64 s, .slice bp bn bc] 30)) w6 [R.rG R.I.kS (.slice q m c) X] := by simpa using (R.sg_bel hx).addL h6
    clear hm h6 hb6 hx a0 a1 a2 b0 b1 b2
    go_loopw [41] (fun iv wr => ∃ k : Nat, k ≤ m ∧ iv = .int .i64 k ∧ Hid ((X.take k).all (okC tn (cls QL) tag now) = true) ∧ R.Sg ((w.alloc (.cells #[.int .i64 tn, .slice p n cap, .int .i64 tag] 26)).alloc (.cells #[.int .i64 tn, .int .i64 s, .slice bp bn bc] 30)) wr [R.rG R.I.kS (.slice q m c) X]) (fun iv _ => m - (intOf iv).toNat)
    case atStart => exact ⟨0, by omega, rfl, (rfl : (X.take 0).all (okC tn (cls QL) tag now) = true), hS0⟩
    case round =>
      clear hS0
      obtain ⟨k, hk, rfl, hall, hS⟩ := hrel
      by_cases hlt : k < m
      · have hki : (k : Int) < m := by omega
        have hkX : k < X.length := by rw [HM.out]; exact hlt
        obtain ⟨gs, os, rfl, hC⟩ := (R.OwG.sl (hS.mem (K := R.I.kS) (v := .slice q m c) (L := X) (by simp))).at hkX
        have hgk := List.getElem?_eq_getElem hkX
        have ht := all_takeP (f := okC tn (cls QL) tag now) hkX
        generalize X[k] = d at hgk ht
        obtain ⟨c0, c1⟩ := cs2 hC hgk
        have HG : Hid (X[k]? = some d ∧ (X.take (k + 1)).all (okC tn (cls QL) tag now) = ((X.take k).all (okC tn (cls QL) tag now) && okC tn (cls QL) tag now d)) := ⟨hgk, ht⟩
        have hS1 := hS.step (below_alloc1 wr (.cells #[.int .i64 d.1, .int .i64 d.2] 40))
        obtain ⟨a0, a1, a2, b0, b1, b2⟩ := bx6 hS1.bel
        clear hC hgk ht
        cases hal : okC tn (cls QL) tag now d
        · go_wp2_with (go_at_call 12; refine (HA.out _ _ _ _ (fin hS1.bel) hal).mono ?_; rintro e w7 ⟨rfl, hb7⟩)
          go_ret
          exact ⟨ret_bool (by rw [← HV.out, R.all_no HG.out.1 hal]), fin (hS1.step hb7).bel⟩
        · go_wp2_with (go_at_call 12; refine (HA.out _ _ _ _ (fin hS1.bel) hal).mono ?_; rintro e w7 ⟨rfl, hb7⟩)
          go_roundw
          case rel => exact ⟨k + 1, by omega, by go_num, (by rw [HG.out.2, hall.out, hal]; rfl : (X.take (k + 1)).all (okC tn (cls QL) tag now) = true), hS1.step hb7⟩
          case measure => simp [intOf]; omega
      · obtain rfl : k = m := by omega
        have HE : Hid (v = true) := (by have e := hall.out; rw [List.take_of_length_le (by rw [HM.out]; exact Nat.le_refl _)] at e; rw [← HV.out, e] : v = true)
        go_wp2
        go_ret
        exact ⟨ret_bool (by rw [HE.out]), fin hS.bel⟩
  · rw [decide_eq_false htn, Bool.false_and, Bool.and_false, Bool.and_false, Bool.and_false, Bool.and_false] at hv
    subst hv
    have htb : (tn == t) = false := by simp [htn]
    go_enter Tryz.func7, Tryz.ntmps7
    go_wp2_with (first | (go_at_call 30; refine (HR.out _ _ (h0.trans (hx.mono h0.size)) hrk).mono ?_; rintro e w1 ⟨rfl, hb⟩; replace hx := bstep hx hb (Nat.le_refl _); clear hb; clear a0 a1 a2 b0 b1 b2; obtain ⟨a0, a1, a2, b0, b1, b2⟩ := bx6 hx) | (go_at_call 31; refine (HO.out _ _ (h0.trans (hx.mono h0.size)) hok).mono ?_; rintro e w2 ⟨rfl, hb⟩; replace hx := bstep hx hb (Nat.le_refl _); clear hb; clear a0 a1 a2 b0 b1 b2; obtain ⟨a0, a1, a2, b0, b1, b2⟩ := bx6 hx) | (go_at_call 32; refine (heldAs_any tn tag p n cap _).mono ?_; rintro e w3 ⟨rfl, hb⟩; replace hx := bstep hx hb (Nat.le_refl _); clear hb; clear a0 a1 a2 b0 b1 b2; obtain ⟨a0, a1, a2, b0, b1, b2⟩ := bx6 hx) | (go_at_call 33; refine (HP.out _ _ (h0.trans (hx.mono h0.size)) hpp).mono ?_; rintro e w4 ⟨rfl, hb⟩; replace hx := bstep hx hb (Nat.le_refl _); clear hb; clear a0 a1 a2 b0 b1 b2; obtain ⟨a0, a1, a2, b0, b1, b2⟩ := bx6 hx) | (go_at_call 34; refine (isTime_v hti _).mono ?_; rintro e w5 ⟨rfl, hw5⟩; subst hw5))
    go_ret
    exact ⟨rfl, fin hx⟩
set_option maxRecDepth 100000 in
set_option maxHeartbeats 4000000 in
theorem sPer_v {L M : List R.Rc} {tn tag now t s : Int} {v : Bool} {p : Option Addr} {cap n : Nat} {QL : List CQ} (hv : perB tn (cls QL) tag L t s M now = v) (hn : QL.length = n) (hb0 : n ≤ 10000000) (g off lc ln : Nat) (hln : L.length = ln) (_hlc : ln ≤ lc) (hlb : ln ≤ 10000000) (bp : Option Addr) (bc bn : Nat) (hbn : M.length = bn) (hbb : bn ≤ 10000000) (w : World) (hR : RdS w p QL) (hL : R.CsG R.kR w g off L) (hM : R.SlG R.I.kR w bp M) :
    Calls Tryz.prog 8 #[.agg #[.int .i64 tn, .slice p n cap, .int .i64 tag], .slice (some ⟨g, off, none⟩) ln lc, R.I.batV t s bp bn bc, .int .i64 now] w fun e w' => e = .returned (.bool v) ∧ Below w.heap.size w w' := by
  have h0 := below_alloc2 w (.cells #[.int .i64 tn, .slice p n cap, .int .i64 tag] 26) (.cells #[.int .i64 t, .int .i64 s, .slice bp bn bc] 30)
  have hx := Below.refl ((w.alloc (.cells #[.int .i64 tn, .slice p n cap, .int .i64 tag] 26)).alloc (.cells #[.int .i64 t, .int .i64 s, .slice bp bn bc] 30)).heap.size ((w.alloc (.cells #[.int .i64 tn, .slice p n cap, .int .i64 tag] 26)).alloc (.cells #[.int .i64 t, .int .i64 s, .slice bp bn bc] 30))
  obtain ⟨a0, a1, a2, b0, b1, b2⟩ := bx6 hx
  have HR := Lib.hid (fun W b (h : Below w.heap.size w W) (hok : R.recsB L = b) => R.sOk_v hok (some ⟨g, off, none⟩) lc ln hln W (.inr ⟨g, off, rfl, hL.step h⟩) hlb)
  have HO := Lib.hid (fun W b (h : Below w.heap.size w W) (hok : R.I.batB t s M = b) => R.I.sBat_v hok bp bc bn hbn W (hM.step h) hbb)
  have HP := Lib.hid (fun W b (h : Below w.heap.size w W) (hok : ppB tn (cls QL) tag = b) => sPaper_v (cap := cap) hok hn hb0 W (hR.step h))
  have HA := Lib.hid (fun W b x y (h : Below w.heap.size w W) (hok : alB tn (cls QL) tag x y true now = b) => sAllows_v (cap := cap) hok hn hb0 W (hR.step h))
  have HS := Lib.hid (fun W (h : Below w.heap.size w W) (X : List (Int × Int)) (hX : R.I.spF L t M = X) (hr : R.riseB L = true) (h6 : bn ≤ 6) => R.I.sSpF_any (s := s) g off lc L ln hln hlb hr bp bc bn M hbn h6 W (hL.step h) (hM.step h) hX)
  have H6 : R.I.batB t s M = true → bn ≤ 6 := fun h => by have := R.I.bat_len h; omega
  clear hn hR hln hL hbn hM
  unfold perB at hv
  have fin : ∀ {W : World}, Below ((w.alloc (.cells #[.int .i64 tn, .slice p n cap, .int .i64 tag] 26)).alloc (.cells #[.int .i64 t, .int .i64 s, .slice bp bn bc] 30)).heap.size ((w.alloc (.cells #[.int .i64 tn, .slice p n cap, .int .i64 tag] 26)).alloc (.cells #[.int .i64 t, .int .i64 s, .slice bp bn bc] 30)) W → Below w.heap.size w W := fun h => h0.trans (h.mono h0.size)
  cases hpp : ppB tn (cls QL) tag
  · rw [hpp, Bool.false_and, Bool.and_false, Bool.and_false] at hv
    subst hv
    go_enter Tryz.func8, Tryz.ntmps8
    go_wp2_with (go_at_call 36; refine (HP.out _ _ (h0.trans (hx.mono h0.size)) hpp).mono ?_; rintro e w1 ⟨rfl, hb⟩; replace hx := bstep hx hb (Nat.le_refl _); clear hb; clear a0 a1 a2 b0 b1 b2; obtain ⟨a0, a1, a2, b0, b1, b2⟩ := bx6 hx)
    go_ret
    exact ⟨rfl, fin hx⟩
  cases hrk : R.recsB L
  · rw [hrk, Bool.false_and] at hv
    subst hv
    go_enter Tryz.func8, Tryz.ntmps8
    go_wp2_with (first | (go_at_call 36; refine (HP.out _ _ (h0.trans (hx.mono h0.size)) hpp).mono ?_; rintro e w1 ⟨rfl, hb⟩; replace hx := bstep hx hb (Nat.le_refl _); clear hb; clear a0 a1 a2 b0 b1 b2; obtain ⟨a0, a1, a2, b0, b1, b2⟩ := bx6 hx) | (go_at_call 10; refine (HR.out _ _ (h0.trans (hx.mono h0.size)) hrk).mono ?_; rintro e w2 ⟨rfl, hb⟩; replace hx := bstep hx hb (Nat.le_refl _); clear hb; clear a0 a1 a2 b0 b1 b2; obtain ⟨a0, a1, a2, b0, b1, b2⟩ := bx6 hx))
    go_ret
    exact ⟨rfl, fin hx⟩
  cases hok : R.I.batB t s M
  · rw [hok, Bool.false_and, Bool.and_false] at hv
    subst hv
    go_enter Tryz.func8, Tryz.ntmps8
    go_wp2_with (first | (go_at_call 36; refine (HP.out _ _ (h0.trans (hx.mono h0.size)) hpp).mono ?_; rintro e w1 ⟨rfl, hb⟩; replace hx := bstep hx hb (Nat.le_refl _); clear hb; clear a0 a1 a2 b0 b1 b2; obtain ⟨a0, a1, a2, b0, b1, b2⟩ := bx6 hx) | (go_at_call 10; refine (HR.out _ _ (h0.trans (hx.mono h0.size)) hrk).mono ?_; rintro e w2 ⟨rfl, hb⟩; replace hx := bstep hx hb (Nat.le_refl _); clear hb; clear a0 a1 a2 b0 b1 b2; obtain ⟨a0, a1, a2, b0, b1, b2⟩ := bx6 hx) | (go_at_call 11; refine (HO.out _ _ (h0.trans (hx.mono h0.size)) hok).mono ?_; rintro e w3 ⟨rfl, hb⟩; replace hx := bstep hx hb (Nat.le_refl _); clear hb; clear a0 a1 a2 b0 b1 b2; obtain ⟨a0, a1, a2, b0, b1, b2⟩ := bx6 hx))
    go_ret
    exact ⟨rfl, fin hx⟩
  cases hti : timeB now
  · rw [hti, Bool.false_and, Bool.and_false, Bool.and_false, Bool.and_false] at hv
    subst hv
    go_enter Tryz.func8, Tryz.ntmps8
    go_wp2_with (first | (go_at_call 36; refine (HP.out _ _ (h0.trans (hx.mono h0.size)) hpp).mono ?_; rintro e w1 ⟨rfl, hb⟩; replace hx := bstep hx hb (Nat.le_refl _); clear hb; clear a0 a1 a2 b0 b1 b2; obtain ⟨a0, a1, a2, b0, b1, b2⟩ := bx6 hx) | (go_at_call 10; refine (HR.out _ _ (h0.trans (hx.mono h0.size)) hrk).mono ?_; rintro e w2 ⟨rfl, hb⟩; replace hx := bstep hx hb (Nat.le_refl _); clear hb; clear a0 a1 a2 b0 b1 b2; obtain ⟨a0, a1, a2, b0, b1, b2⟩ := bx6 hx) | (go_at_call 11; refine (HO.out _ _ (h0.trans (hx.mono h0.size)) hok).mono ?_; rintro e w3 ⟨rfl, hb⟩; replace hx := bstep hx hb (Nat.le_refl _); clear hb; clear a0 a1 a2 b0 b1 b2; obtain ⟨a0, a1, a2, b0, b1, b2⟩ := bx6 hx) | (go_at_call 37; refine (sTime_v hti _).mono ?_; rintro e w5 ⟨rfl, hw5⟩; subst hw5))
    go_ret
    exact ⟨rfl, fin hx⟩
  by_cases htn : tn = t
  · subst htn
    rw [hrk, hok, hpp, hti, decide_eq_true rfl] at hv
    simp only [Bool.true_and] at hv
    obtain ⟨X, hX⟩ : ∃ X, R.I.spF L tn M = X := ⟨_, rfl⟩
    have hxl := R.I.spF_len L tn M
    rw [hX] at hv
    have hr := R.I.recs_rise hrk
    have h6 := H6 hok
    have hxl : X.length ≤ 12 := by
      have h := R.I.spL_len L tn s M
      rw [R.I.spL_eq hrk hok, hX] at h
      exact h
    have HS2 := Lib.hid (fun W h => HS.out W h X hX hr h6)
    clear hX HS hr h6 H6
    have HV := Lib.hid hv
    clear hv
    go_enter Tryz.func8, Tryz.ntmps8
    go_upto_region 3 with (first | (go_at_call 36; refine (HP.out _ _ (h0.trans (hx.mono h0.size)) hpp).mono ?_; rintro e w1 ⟨rfl, hb⟩; replace hx := bstep hx hb (Nat.le_refl _); clear hb; clear a0 a1 a2 b0 b1 b2; obtain ⟨a0, a1, a2, b0, b1, b2⟩ := bx6 hx) | (go_at_call 10; refine (HR.out _ _ (h0.trans (hx.mono h0.size)) hrk).mono ?_; rintro e w2 ⟨rfl, hb⟩; replace hx := bstep hx hb (Nat.le_refl _); clear hb; clear a0 a1 a2 b0 b1 b2; obtain ⟨a0, a1, a2, b0, b1, b2⟩ := bx6 hx) | (go_at_call 11; refine (HO.out _ _ (h0.trans (hx.mono h0.size)) hok).mono ?_; rintro e w3 ⟨rfl, hb⟩; replace hx := bstep hx hb (Nat.le_refl _); clear hb; clear a0 a1 a2 b0 b1 b2; obtain ⟨a0, a1, a2, b0, b1, b2⟩ := bx6 hx) | (go_at_call 37; refine (sTime_v hti _).mono ?_; rintro e w5 ⟨rfl, hw5⟩; subst hw5))
    go_upto_region 5 with (go_at_call 38; refine (HS2.out _ (fin hx)).mono ?_; rintro e w6 ⟨q, m, c, hm, rfl, h6⟩)
    rw [hm] at hxl
    have HM : Hid (X.length = m) := hm
    have hS0 : R.Sg ((w.alloc (.cells #[.int .i64 tn, .slice p n cap, .int .i64 tag] 26)).alloc (.cells #[.int .i64 tn, .int .i64 s, .slice bp bn bc] 30)) w6 [R.rG R.I.kS (.slice q m c) X] := by simpa using (R.sg_bel hx).addL h6
    clear hm h6 hx a0 a1 a2 b0 b1 b2
    go_loopw [10] (fun iv wr => ∃ k : Nat, k ≤ m ∧ iv = .int .i64 k ∧ Hid ((X.take k).all (okC tn (cls QL) tag now) = true) ∧ R.Sg ((w.alloc (.cells #[.int .i64 tn, .slice p n cap, .int .i64 tag] 26)).alloc (.cells #[.int .i64 tn, .int .i64 s, .slice bp bn bc] 30)) wr [R.rG R.I.kS (.slice q m c) X]) (fun iv _ => m - (intOf iv).toNat)
    case atStart => exact ⟨0, by omega, rfl, (rfl : (X.take 0).all (okC tn (cls QL) tag now) = true), hS0⟩
    case round =>
      clear hS0
      obtain ⟨k, hk, rfl, hall, hS⟩ := hrel
      by_cases hlt : k < m
      · have hki : (k : Int) < m := by omega
        have hkX : k < X.length := by rw [HM.out]; exact hlt
        have hsl := R.OwG.sl (hS.mem (K := R.I.kS) (v := .slice q m c) (L := X) (by simp))
        obtain ⟨gs, os, rfl, hC⟩ := hsl.at hkX
        have hgk := List.getElem?_eq_getElem hkX
        have ht := all_takeP (f := okC tn (cls QL) tag now) hkX
        generalize X[k] = d at hgk ht
        have HG : Hid (X[k]? = some d ∧ (X.take (k + 1)).all (okC tn (cls QL) tag now) = ((X.take k).all (okC tn (cls QL) tag now) && okC tn (cls QL) tag now d)) := ⟨hgk, ht⟩
        have HK : Hid (∀ w', Below wr.heap.size wr w' → (w'.cell? ⟨w.heap.size, 0, none⟩ = some (.int .i64 tn) ∧ w'.cell? ⟨w.heap.size, 1, none⟩ = some (.slice p n cap) ∧ w'.cell? ⟨w.heap.size, 2, none⟩ = some (.int .i64 tag) ∧ w'.cell? ⟨gs, os + k * 2, none⟩ = some (.int .i64 d.1) ∧ w'.cell? ⟨gs, os + k * 2 + 1, none⟩ = some (.int .i64 d.2))) := fun w' h => by
          obtain ⟨a0, a1, a2, _, _, _⟩ := bx6 (bstep hS.bel h (Nat.le_refl _))
          exact ⟨a0, a1, a2, cs2 (hC.step h) hgk⟩
        clear hC hgk ht hsl
        cases hal : okC tn (cls QL) tag now d
        all_goals
          go_wp2
          go_region_held3 (fun w' => w'.cell? ⟨w.heap.size, 0, none⟩ = some (.int .i64 tn) ∧ w'.cell? ⟨w.heap.size, 1, none⟩ = some (.slice p n cap) ∧ w'.cell? ⟨w.heap.size, 2, none⟩ = some (.int .i64 tag) ∧ w'.cell? ⟨gs, os + k * 2, none⟩ = some (.int .i64 d.1) ∧ w'.cell? ⟨gs, os + k * 2 + 1, none⟩ = some (.int .i64 d.2))
            (first
              | assumption
              | with_reducible exact HK.out _ (Below.refl _ _).drew)
            (first | (go_at_call 39; refine (HA.out _ _ _ _ (fin (bstep hS.bel (Below.refl _ _).drew (Nat.le_refl _))) hal).mono ?_; rintro e w7 ⟨rfl, hb7⟩; have hS7 := (hS.step (Below.refl _ _).drew).step hb7; have hk7 := HK.out _ (bstep (Below.refl _ _).drew hb7 (Nat.le_refl _))))
        · go_wp2
          go_ret
          exact ⟨ret_bool (by rw [← HV.out, R.all_no HG.out.1 hal]), fin hS7.bel⟩
        · go_wp2
          go_roundw
          case rel => exact ⟨k + 1, by omega, by go_num, (by rw [HG.out.2, hall.out, hal]; rfl : (X.take (k + 1)).all (okC tn (cls QL) tag now) = true), hS7⟩
          case measure => simp [intOf]; omega
      · obtain rfl : k = m := by omega
        have HE : Hid (v = true) := (by have e := hall.out; rw [List.take_of_length_le (by rw [HM.out]; exact Nat.le_refl _)] at e; rw [← HV.out, e] : v = true)
        go_wp2
        go_ret
        exact ⟨ret_bool (by rw [HE.out]), fin hS.bel⟩
  · rw [decide_eq_false htn, Bool.false_and, Bool.and_false, Bool.and_false, Bool.and_false, Bool.and_false] at hv
    subst hv
    have htb : (tn == t) = false := by simp [htn]
    go_enter Tryz.func8, Tryz.ntmps8
    go_wp2_with (first | (go_at_call 36; refine (HP.out _ _ (h0.trans (hx.mono h0.size)) hpp).mono ?_; rintro e w1 ⟨rfl, hb⟩; replace hx := bstep hx hb (Nat.le_refl _); clear hb; clear a0 a1 a2 b0 b1 b2; obtain ⟨a0, a1, a2, b0, b1, b2⟩ := bx6 hx) | (go_at_call 10; refine (HR.out _ _ (h0.trans (hx.mono h0.size)) hrk).mono ?_; rintro e w2 ⟨rfl, hb⟩; replace hx := bstep hx hb (Nat.le_refl _); clear hb; clear a0 a1 a2 b0 b1 b2; obtain ⟨a0, a1, a2, b0, b1, b2⟩ := bx6 hx) | (go_at_call 11; refine (HO.out _ _ (h0.trans (hx.mono h0.size)) hok).mono ?_; rintro e w3 ⟨rfl, hb⟩; replace hx := bstep hx hb (Nat.le_refl _); clear hb; clear a0 a1 a2 b0 b1 b2; obtain ⟨a0, a1, a2, b0, b1, b2⟩ := bx6 hx) | (go_at_call 37; refine (sTime_v hti _).mono ?_; rintro e w5 ⟨rfl, hw5⟩; subst hw5))
    go_ret
    exact ⟨rfl, fin hx⟩
end Go.Proofs.YtbkiogedipmioaaGreat
namespace Go.Proofs.YtbkiogedipmioaaGreat
open Go.Shelf Go.RowKit Go.Joins M
attribute [local go_sem] Oper.semAt_some

theorem cstep {W W' : World} (hb : Below W.heap.size W W') {a : Addr} {v : Value} (h : W.cell? a = some v) : W'.cell? a = some v := (hb.cell (World.block_lt_of_cell? _ _ h)).trans h
/-- Three cells of a box. -/
def Bx (W : World) (c : Nat) (u0 u1 u2 : Value) : Prop := W.cell? ⟨c, 0, none⟩ = some u0 ∧ W.cell? ⟨c, 1, none⟩ = some u1 ∧ W.cell? ⟨c, 2, none⟩ = some u2
theorem Bx.step {W W' : World} {c : Nat} {u0 u1 u2 : Value} (h : Bx W c u0 u1 u2) (hb : Below W.heap.size W W') : Bx W' c u0 u1 u2 := ⟨cstep hb h.1, cstep hb h.2.1, cstep hb h.2.2⟩
theorem Bx.new (W : World) (u0 u1 u2 : Value) (ty : TypeId) : Bx (W.alloc (.cells #[u0, u1, u2] ty)) W.heap.size u0 u1 u2 := by
  simp [Bx]
theorem toPaper_rd (p : Option Addr) (n cap : Nat) (tn tag : Int) (QL : List CQ) (hn : QL.length = n) (hb : n ≤ 1048576) (hsm : smQ QL) (w : World) (hR : RdLS w p QL) :
    Calls Tryz.prog 18 #[.agg #[.int .i64 tn, .slice p n cap, .int .i64 tag]] w fun e w' => ∃ g X, e = .returned (.agg #[.int .i64 tn, .slice (some ⟨g, 0, none⟩) n n, .int .i64 tag]) ∧ cls X = cls QL ∧ RdS w' (some ⟨g, 0, none⟩) X ∧ Below w.heap.size w w' := by
  refine (toPaper_any p n cap tn tag QL hn hb hsm w hR).mono ?_
  rintro e w' ⟨g, X, h1, h2, h3, h4⟩
  exact ⟨g, X, h1, h2, h4.rdS (n := n) (c := n) h3 (fun r hr => hr), h4.bel⟩
theorem toRec_rd (p : Option Addr) (cap : Nat) (L : List R.Rc) (n : Nat) (hn : L.length = n) (w : World) (hL : R.SlG R.kL w p L) (hb : n ≤ 1048576) :
    Calls Tryz.prog 19 #[.slice p n cap] w fun e w' => ∃ g, e = .returned (.slice (some ⟨g, 0, none⟩) n n) ∧ R.CsG R.kR w' g 0 L ∧ Below w.heap.size w w' := by
  refine (R.toRecS_any p cap L n hn w hL hb).mono ?_
  rintro e w' ⟨g, h1, h2⟩
  exact ⟨g, h1, R.OwG.cs (h2.mem (K := R.kR) (v := .slice (some ⟨g, 0, none⟩) n n) (L := L) (by simp)), h2.bel⟩
theorem toBat_rd (t s : Int) (p : Option Addr) (n c : Nat) (L : List R.Rc) (hn : L.length = n) (hb : n ≤ 1048576) (w : World) (hL : R.SlG R.I.kL w p L) :
    Calls Tryz.prog 20 #[R.I.batV t s p n c] w fun e w' => ∃ g, e = .returned (R.I.batV t s (some ⟨g, 0, none⟩) n n) ∧ R.SlG R.I.kR w' (some ⟨g, 0, none⟩) L ∧ Below w.heap.size w w' := by
  refine (R.I.toBat_any t s p n c L hn hb w hL).mono ?_
  rintro e w' ⟨g, h1, h2⟩
  exact ⟨g, h1, R.OwG.sl (h2.mem (K := R.I.kR) (v := .slice (some ⟨g, 0, none⟩) n n) (L := L) (by simp)), h2.bel⟩
set_option maxRecDepth 100000 in
set_option maxHeartbeats 8000000 in
theorem exactPermitted (tn tag : Int) (p : Option Addr) (n cap : Nat) (QL : List CQ) (hn : QL.length = n) (hm : n ≤ maxLen) (hp : ∀ q ∈ QL, q.2.1.n ≤ maxLen ∧ q.2.2.n ≤ maxLen) (lp : Option Addr) (lc : Nat) (L : List R.Rc) (ln : Nat) (hln : L.length = ln) (hlm : ln ≤ maxLen) (hls : ∀ r ∈ L, r.s.size ≤ maxLen) (t s : Int) (bp : Option Addr) (bn bc : Nat) (M : List R.Rc) (hbn : M.length = bn) (hbm : bn ≤ maxLen) (hbs : ∀ r ∈ M, r.s.size ≤ maxLen) (now : Int) (w : World) (hR : RdLS w p QL) (hL : R.SlG R.kL w lp L) (hM : R.SlG R.I.kL w bp M) :
    Calls Tryz.prog 4 #[.agg #[.int .i64 tn, .slice p n cap, .int .i64 tag], .slice lp ln lc, R.I.batV t s bp bn bc, .int .i64 now] w fun e w' => e = .returned (.bool true) ∧ Below w.heap.size w w' := by
  have h0 := below_alloc2 w (.cells #[.int .i64 tn, .slice p n cap, .int .i64 tag] 46) (.cells #[.int .i64 t, .int .i64 s, .slice bp bn bc] 50)
  have hx := Below.refl ((w.alloc (.cells #[.int .i64 tn, .slice p n cap, .int .i64 tag] 46)).alloc (.cells #[.int .i64 t, .int .i64 s, .slice bp bn bc] 50)).heap.size ((w.alloc (.cells #[.int .i64 tn, .slice p n cap, .int .i64 tag] 46)).alloc (.cells #[.int .i64 t, .int .i64 s, .slice bp bn bc] 50))
  obtain ⟨a0, a1, a2, b0, b1, b2⟩ := bx6 hx
  have fin : ∀ {W : World}, Below ((w.alloc (.cells #[.int .i64 tn, .slice p n cap, .int .i64 tag] 46)).alloc (.cells #[.int .i64 t, .int .i64 s, .slice bp bn bc] 50)).heap.size ((w.alloc (.cells #[.int .i64 tn, .slice p n cap, .int .i64 tag] 46)).alloc (.cells #[.int .i64 t, .int .i64 s, .slice bp bn bc] 50)) W → Below w.heap.size w W := fun h => h0.trans (h.mono h0.size)
  have FIN : Hid (∀ {W : World}, Below ((w.alloc (.cells #[.int .i64 tn, .slice p n cap, .int .i64 tag] 46)).alloc (.cells #[.int .i64 t, .int .i64 s, .slice bp bn bc] 50)).heap.size ((w.alloc (.cells #[.int .i64 tn, .slice p n cap, .int .i64 tag] 46)).alloc (.cells #[.int .i64 t, .int .i64 s, .slice bp bn bc] 50)) W → Below w.heap.size w W) := fin
  have HZ := Lib.hid (szPaper_any p n cap tn tag QL hn hm 1048576 (by omega) (by omega) ((w.alloc (.cells #[.int .i64 tn, .slice p n cap, .int .i64 tag] 46)).alloc (.cells #[.int .i64 t, .int .i64 s, .slice bp bn bc] 50)) (hR.1.step h0) hp)
  have HH : Hid (RdLS w p QL ∧ QL.length = n) := ⟨hR, hn⟩
  clear hR hn hm hp
  go_enter Tryz.func4, Tryz.ntmps4
  go_upto_region 3 with (go_at_call 15; refine HZ.out.mono ?_; rintro e w1 ⟨r, rfl, hr, hb1⟩; replace hx := bstep hx hb1 (Nat.le_refl _); clear a0 a1 a2 b0 b1 b2; obtain ⟨a0, a1, a2, b0, b1, b2⟩ := bx6 hx)
  by_cases hneg : r < 0
  · go_wp2
    go_ret
    exact ⟨rfl, fin hx⟩
  obtain ⟨hr0, hr1, hn1, hsm⟩ : 0 ≤ r ∧ r ≤ 1048576 ∧ n ≤ 1048576 ∧ smQ QL := by
    rcases hr with hr | hr
    · omega
    · exact hr
  clear hr hb1 HZ
  obtain ⟨v, hv⟩ : ∃ v, (if r < R.rsz L then -1 else r - (R.rsz L : Int)) = v := ⟨_, rfl⟩
  have HZ2 := Lib.hid (fun W (h : Below w.heap.size w W) => R.szRecS_any lp lc L ln hln r W (hL.step h) hr0 hr1 hlm hls hv)
  go_upto_region 6 with (go_at_call 16; refine (HZ2.out _ (FIN.out hx)).mono ?_; rintro e w2 ⟨rfl, hb2⟩; replace hx := bstep hx hb2 (Nat.le_refl _); clear a0 a1 a2 b0 b1 b2; obtain ⟨a0, a1, a2, b0, b1, b2⟩ := bx6 hx)
  by_cases hneg2 : v < 0
  · go_wp2
    go_ret
    exact ⟨rfl, fin hx⟩
  have hlz : (R.rsz L : Int) ≤ r := by rw [← Int.not_lt]; intro h; rw [if_pos h] at hv; omega
  have hv1 : 0 ≤ v ∧ v ≤ 1048576 := by rw [if_neg (by omega)] at hv; omega
  have hln1 := R.rsz_len hln (by omega)
  clear hb2 HZ2 hls hlm hv hr0 hr1 hneg
  obtain ⟨v2, hv2⟩ : ∃ v2, (if v < R.rsz M then -1 else v - (R.rsz M : Int)) = v2 := ⟨_, rfl⟩
  have HZ3 := Lib.hid (fun W (h : Below w.heap.size w W) => R.I.szBat_any t s bp bn bc M hbn v W (hM.step h) hv1.1 hv1.2 hbm hbs hv2)
  go_upto_region 9 with (go_at_call 17; refine (HZ3.out _ (FIN.out hx)).mono ?_; rintro e w3 ⟨rfl, hb3⟩; replace hx := bstep hx hb3 (Nat.le_refl _); clear a0 a1 a2 b0 b1 b2; obtain ⟨a0, a1, a2, b0, b1, b2⟩ := bx6 hx)
  by_cases hneg3 : v2 < 0
  · go_wp2
    go_ret
    exact ⟨rfl, fin hx⟩
  have hbn1 := R.rsz_len hbn (by rw [← Int.ofNat_le]; rw [← Int.not_lt]; intro h; rw [if_pos (by have := hv1.2; omega)] at hv2; omega)
  clear hb3 HZ3 hbs hbm hv2 hv1 hlz hneg2
  obtain ⟨b, hbb⟩ : ∃ b, perB tn (cls QL) tag L t s M now = b := ⟨_, rfl⟩
  have HLN : ∀ X : List CQ, cls X = cls QL → X.length = n := fun X h => by have := congrArg List.length h; rw [cls_len, cls_len, HH.out.2] at this; exact this
  have HTP := Lib.hid (fun W (h : Below w.heap.size w W) => toPaper_rd p n cap tn tag QL HH.out.2 hn1 hsm W (HH.out.1.step h))
  have HTR := Lib.hid (fun W (h : Below w.heap.size w W) => toRec_rd lp lc L ln hln W (hL.step h) hln1)
  have HTB := Lib.hid (fun W (h : Below w.heap.size w W) => toBat_rd t s bp bn bc M hbn hbn1 W (hM.step h))
  have HS : Hid (∀ W g X g2 g3, cls X = cls QL → RdS W (some ⟨g, 0, none⟩) X → R.CsG R.kR W g2 0 L → R.SlG R.I.kR W (some ⟨g3, 0, none⟩) M → Calls Tryz.prog 8 #[.agg #[.int .i64 tn, .slice (some ⟨g, 0, none⟩) n n, .int .i64 tag], .slice (some ⟨g2, 0, none⟩) ln ln, R.I.batV t s (some ⟨g3, 0, none⟩) bn bn, .int .i64 now] W fun e w' => e = .returned (.bool b) ∧ Below W.heap.size W w') := fun W g X g2 g3 hX h1 h2 h3 => sPer_v (QL := X) (by rw [hX]; exact hbb) (HLN X hX) (by omega) g2 0 ln ln hln (Nat.le_refl _) (by omega) (some ⟨g3, 0, none⟩) bn bn hbn (by omega) W h1 h2 h3
  have HI : Hid (∀ W g X g2 g3, cls X = cls QL → RdS W (some ⟨g, 0, none⟩) X → R.CsG R.kR W g2 0 L → R.SlG R.I.kR W (some ⟨g3, 0, none⟩) M → Calls Tryz.prog 7 #[.agg #[.int .i64 tn, .slice (some ⟨g, 0, none⟩) n n, .int .i64 tag], .slice (some ⟨g2, 0, none⟩) ln ln, R.I.batV t s (some ⟨g3, 0, none⟩) bn bn, .int .i64 now] W fun e w' => e = .returned (.bool b) ∧ Below W.heap.size W w') := fun W g X g2 g3 hX h1 h2 h3 => iPer_v (QL := X) (by rw [hX]; exact hbb) (HLN X hX) (by omega) g2 0 ln ln hln (Nat.le_refl _) (by omega) (some ⟨g3, 0, none⟩) bn bn hbn (by omega) W h1 h2 h3
  have HEP : Hid (∀ W g X g' X', cls X = cls QL → RdS W (some ⟨g, 0, none⟩) X → cls X' = cls QL → RdS W (some ⟨g', 0, none⟩) X' → Calls Tryz.prog 21 #[.agg #[.int .i64 tn, .slice (some ⟨g, 0, none⟩) n n, .int .i64 tag], .agg #[.int .i64 tn, .slice (some ⟨g', 0, none⟩) n n, .int .i64 tag]] W fun e w' => e = .returned (.bool true) ∧ Below W.heap.size W w') := fun W g X g' X' hX h hX' h' => eqPaper_same tn tag (some ⟨g, 0, none⟩) (some ⟨g', 0, none⟩) n n n X X' (HLN X hX) (hX.trans hX'.symm) (by omega) W h h'
  have HER : Hid (∀ W g g', R.CsG R.kR W g 0 L → R.CsG R.kR W g' 0 L → Calls Tryz.prog 22 #[.slice (some ⟨g, 0, none⟩) ln ln, .slice (some ⟨g', 0, none⟩) ln ln] W fun e w' => e = .returned (.bool true) ∧ Below W.heap.size W w') := fun W g g' h h' => R.eqRecS_same _ _ ln ln L ln hln W (.inr ⟨g, 0, rfl, h⟩) (.inr ⟨g', 0, rfl, h'⟩) (by omega)
  have HEB : Hid (∀ W g g', R.SlG R.I.kR W (some ⟨g, 0, none⟩) M → R.SlG R.I.kR W (some ⟨g', 0, none⟩) M → Calls Tryz.prog 23 #[R.I.batV t s (some ⟨g, 0, none⟩) bn bn, R.I.batV t s (some ⟨g', 0, none⟩) bn bn] W fun e w' => e = .returned (.bool true) ∧ Below W.heap.size W w') := fun W g g' h h' => R.I.eqBat_same t s _ _ bn bn bn M hbn hbn1 W h h'
  clear hbb HLN hln hL hbn hM HH hsm fin
  go_upto_region 11 with (fail)
  clear a0 a1 a2 b0 b1 b2
  go_region_held3 (fun w' => w'.cell? ⟨w.heap.size, 0, none⟩ = some (.int .i64 tn) ∧ w'.cell? ⟨w.heap.size, 1, none⟩ = some (.slice p n cap) ∧ w'.cell? ⟨w.heap.size, 2, none⟩ = some (.int .i64 tag) ∧ w'.cell? ⟨w.heap.size + 1, 0, none⟩ = some (.int .i64 t) ∧ w'.cell? ⟨w.heap.size + 1, 1, none⟩ = some (.int .i64 s) ∧ w'.cell? ⟨w.heap.size + 1, 2, none⟩ = some (.slice bp bn bc))
    (first
      | assumption
      | with_reducible exact bx6 hx
      | with_reducible exact bx6 hx.drew)
    (first
      | (go_at_call 18; refine (HTP.out _ (by first | with_reducible exact FIN.out hx | with_reducible exact FIN.out hx.drew)).mono ?_; rintro e u1 ⟨g1, X1, rfl, hc1, hr1, hb1⟩; (first | with_reducible (replace hx := bstep hx hb1 (Nat.le_refl _)) | with_reducible (replace hx := bstep hx.drew hb1 (Nat.le_refl _))); clear hb1)
      | (go_at_call 19; refine (HTR.out _ (FIN.out hx)).mono ?_; rintro e u2 ⟨g2, rfl, hl2, hb2⟩; replace hx := bstep hx hb2 (Nat.le_refl _); replace hr1 := hr1.step hb2; clear hb2)
      | (go_at_call 20; refine (HTB.out _ (FIN.out hx)).mono ?_; rintro e u3 ⟨g3, rfl, hm3, hb3⟩; replace hx := bstep hx hb3 (Nat.le_refl _); replace hr1 := hr1.step hb3; replace hl2 := hl2.step hb3; clear hb3)
      | (go_at_call 8; refine (HS.out _ g1 X1 g2 g3 hc1 hr1 hl2 hm3).mono ?_; rintro e u4 ⟨rfl, hb4⟩; replace hx := bstep hx hb4 (Nat.le_refl _); clear hb4))
  rename_i hHeld
  obtain ⟨a0, a1, a2, b0, b1, b2⟩ := hHeld
  clear hr1 hl2 hm3 hc1
  go_upto_region 13 with (go_at_call 18; refine (HTP.out _ (FIN.out hx)).mono ?_; rintro e u5 ⟨g5, X5, rfl, hc5, hr5, hb5⟩; replace hx := bstep hx hb5 (Nat.le_refl _); clear hb5)
  have hbA := below_alloc1 u5 (.cells #[.int .i64 tn, .slice (some ⟨g5, 0, none⟩) n n, .int .i64 tag] 26)
  have hA := Bx.new u5 (.int .i64 tn) (.slice (some ⟨g5, 0, none⟩) n n) (.int .i64 tag) 26
  replace hx := bstep hx hbA (Nat.le_refl _)
  replace hr5 := hr5.step hbA
  clear hbA
  clear a0 a1 a2 b0 b1 b2; obtain ⟨a0, a1, a2, b0, b1, b2⟩ := bx6 hx
  go_upto_region 14 with (go_at_call 19; refine (HTR.out _ (FIN.out hx)).mono ?_; rintro e u6 ⟨g6, rfl, hl6, hb6⟩; replace hx := bstep hx hb6 (Nat.le_refl _); replace hr5 := hr5.step hb6; replace hA := hA.step hb6; clear hb6; clear a0 a1 a2 b0 b1 b2; obtain ⟨a0, a1, a2, b0, b1, b2⟩ := bx6 hx)
  go_upto_region 15 with (go_at_call 20; refine (HTB.out _ (FIN.out hx)).mono ?_; rintro e u7 ⟨g7, rfl, hm7, hb7⟩; replace hx := bstep hx hb7 (Nat.le_refl _); replace hr5 := hr5.step hb7; replace hA := hA.step hb7; replace hl6 := hl6.step hb7; clear hb7)
  have hbA := below_alloc1 u7 (.cells #[.int .i64 t, .int .i64 s, .slice (some ⟨g7, 0, none⟩) bn bn] 30)
  have hB := Bx.new u7 (.int .i64 t) (.int .i64 s) (.slice (some ⟨g7, 0, none⟩) bn bn) 30
  replace hx := bstep hx hbA (Nat.le_refl _)
  replace hr5 := hr5.step hbA
  replace hA := hA.step hbA
  replace hl6 := hl6.step hbA
  replace hm7 := hm7.step hbA
  clear hbA
  clear a0 a1 a2 b0 b1 b2; obtain ⟨a0, a1, a2, b0, b1, b2⟩ := bx6 hx
  obtain ⟨p0, p1, p2⟩ := id hA
  obtain ⟨q0, q1, q2⟩ := id hB
  go_upto_region 16 with (go_at_call 7; refine (HI.out _ g5 X5 g6 g7 hc5 hr5 hl6 hm7).mono ?_; rintro e u8 ⟨rfl, hb8⟩; replace hx := bstep hx hb8 (Nat.le_refl _); replace hr5 := hr5.step hb8; replace hA := hA.step hb8; replace hB := hB.step hb8; replace hl6 := hl6.step hb8; replace hm7 := hm7.step hb8; clear hb8)
  clear p0 p1 p2 q0 q1 q2 a0 a1 a2 b0 b1 b2
  generalize u5.heap.size = ca at *
  generalize u7.heap.size = cb at *
  have HKA : Hid (∀ w', Bx w' ca (.int .i64 tn) (.slice (some ⟨g5, 0, none⟩) n n) (.int .i64 tag) → Below ((w.alloc (.cells #[.int .i64 tn, .slice p n cap, .int .i64 tag] 46)).alloc (.cells #[.int .i64 t, .int .i64 s, .slice bp bn bc] 50)).heap.size ((w.alloc (.cells #[.int .i64 tn, .slice p n cap, .int .i64 tag] 46)).alloc (.cells #[.int .i64 t, .int .i64 s, .slice bp bn bc] 50)) w' → (w'.cell? ⟨ca, 0, none⟩ = some (.int .i64 tn) ∧ w'.cell? ⟨ca, 1, none⟩ = some (.slice (some ⟨g5, 0, none⟩) n n) ∧ w'.cell? ⟨ca, 2, none⟩ = some (.int .i64 tag) ∧ w'.cell? ⟨w.heap.size, 0, none⟩ = some (.int .i64 tn) ∧ w'.cell? ⟨w.heap.size, 1, none⟩ = some (.slice p n cap) ∧ w'.cell? ⟨w.heap.size, 2, none⟩ = some (.int .i64 tag) ∧ w'.cell? ⟨w.heap.size + 1, 0, none⟩ = some (.int .i64 t) ∧ w'.cell? ⟨w.heap.size + 1, 1, none⟩ = some (.int .i64 s) ∧ w'.cell? ⟨w.heap.size + 1, 2, none⟩ = some (.slice bp bn bc))) := fun w' h h' => ⟨h.1, h.2.1, h.2.2, bx6 h'⟩
  have HKB : Hid (∀ w', Bx w' cb (.int .i64 t) (.int .i64 s) (.slice (some ⟨g7, 0, none⟩) bn bn) → Below ((w.alloc (.cells #[.int .i64 tn, .slice p n cap, .int .i64 tag] 46)).alloc (.cells #[.int .i64 t, .int .i64 s, .slice bp bn bc] 50)).heap.size ((w.alloc (.cells #[.int .i64 tn, .slice p n cap, .int .i64 tag] 46)).alloc (.cells #[.int .i64 t, .int .i64 s, .slice bp bn bc] 50)) w' → (w'.cell? ⟨cb, 0, none⟩ = some (.int .i64 t) ∧ w'.cell? ⟨cb, 1, none⟩ = some (.int .i64 s) ∧ w'.cell? ⟨cb, 2, none⟩ = some (.slice (some ⟨g7, 0, none⟩) bn bn) ∧ w'.cell? ⟨w.heap.size, 0, none⟩ = some (.int .i64 tn) ∧ w'.cell? ⟨w.heap.size, 1, none⟩ = some (.slice p n cap) ∧ w'.cell? ⟨w.heap.size, 2, none⟩ = some (.int .i64 tag) ∧ w'.cell? ⟨w.heap.size + 1, 0, none⟩ = some (.int .i64 t) ∧ w'.cell? ⟨w.heap.size + 1, 1, none⟩ = some (.int .i64 s) ∧ w'.cell? ⟨w.heap.size + 1, 2, none⟩ = some (.slice bp bn bc))) := fun w' h h' => ⟨h.1, h.2.1, h.2.2, bx6 h'⟩
  have hdr : ∀ {W : World}, Below W.heap.size W W.drew := fun {W} => (Below.refl _ W).drew
  cases b
  all_goals
    go_upto_region 18 with (fail)
    go_region_held3 (fun w' => w'.cell? ⟨ca, 0, none⟩ = some (.int .i64 tn) ∧ w'.cell? ⟨ca, 1, none⟩ = some (.slice (some ⟨g5, 0, none⟩) n n) ∧ w'.cell? ⟨ca, 2, none⟩ = some (.int .i64 tag) ∧ w'.cell? ⟨w.heap.size, 0, none⟩ = some (.int .i64 tn) ∧ w'.cell? ⟨w.heap.size, 1, none⟩ = some (.slice p n cap) ∧ w'.cell? ⟨w.heap.size, 2, none⟩ = some (.int .i64 tag) ∧ w'.cell? ⟨w.heap.size + 1, 0, none⟩ = some (.int .i64 t) ∧ w'.cell? ⟨w.heap.size + 1, 1, none⟩ = some (.int .i64 s) ∧ w'.cell? ⟨w.heap.size + 1, 2, none⟩ = some (.slice bp bn bc))
      (first
        | assumption
        | with_reducible exact HKA.out _ hA hx
        | with_reducible exact HKA.out _ (hA.step hdr) hx.drew)
      (first
        | (go_at_call 18; refine (HTP.out _ (by first | with_reducible exact FIN.out hx | with_reducible exact FIN.out hx.drew)).mono ?_; rintro e u9 ⟨g9, X9, rfl, hc9, hr9, hb9⟩; (first | with_reducible (replace hr5 := hr5.step hb9) | with_reducible (replace hr5 := (hr5.step hdr).step hb9)); (first | with_reducible (replace hA := hA.step hb9) | with_reducible (replace hA := (hA.step hdr).step hb9)); (first | with_reducible (replace hB := hB.step hb9) | with_reducible (replace hB := (hB.step hdr).step hb9)); (first | with_reducible (replace hl6 := hl6.step hb9) | with_reducible (replace hl6 := (hl6.step hdr).step hb9)); (first | with_reducible (replace hm7 := hm7.step hb9) | with_reducible (replace hm7 := (hm7.step hdr).step hb9)); (first | with_reducible (replace hx := bstep hx hb9 (Nat.le_refl _)) | with_reducible (replace hx := bstep hx.drew hb9 (Nat.le_refl _))); clear hb9)
        | (go_at_call 21; refine (HEP.out _ g5 X5 g9 X9 hc5 hr5 hc9 hr9).mono ?_; rintro e u10 ⟨rfl, hb10⟩; replace hx := bstep hx hb10 (Nat.le_refl _); replace hA := hA.step hb10; replace hB := hB.step hb10; replace hl6 := hl6.step hb10; replace hm7 := hm7.step hb10; clear hb10))
    rename_i hHeld
    clear hHeld hr9 hr5 hA
    obtain ⟨a0, a1, a2, b0, b1, b2⟩ := bx6 hx
    go_upto_region 22 with (first
      | (go_at_call 19; refine (HTR.out _ (FIN.out hx)).mono ?_; rintro e u11 ⟨g11, rfl, hl11, hb11⟩; replace hx := bstep hx hb11 (Nat.le_refl _); replace hB := hB.step hb11; replace hl6 := hl6.step hb11; replace hm7 := hm7.step hb11; clear hb11)
      | (go_at_call 22; refine (HER.out _ g6 g11 hl6 hl11).mono ?_; rintro e u12 ⟨rfl, hb12⟩; replace hx := bstep hx hb12 (Nat.le_refl _); replace hB := hB.step hb12; replace hm7 := hm7.step hb12; clear hb12))
    clear a0 a1 a2 b0 b1 b2 hl6 hl11
    go_region_held3 (fun w' => w'.cell? ⟨cb, 0, none⟩ = some (.int .i64 t) ∧ w'.cell? ⟨cb, 1, none⟩ = some (.int .i64 s) ∧ w'.cell? ⟨cb, 2, none⟩ = some (.slice (some ⟨g7, 0, none⟩) bn bn) ∧ w'.cell? ⟨w.heap.size, 0, none⟩ = some (.int .i64 tn) ∧ w'.cell? ⟨w.heap.size, 1, none⟩ = some (.slice p n cap) ∧ w'.cell? ⟨w.heap.size, 2, none⟩ = some (.int .i64 tag) ∧ w'.cell? ⟨w.heap.size + 1, 0, none⟩ = some (.int .i64 t) ∧ w'.cell? ⟨w.heap.size + 1, 1, none⟩ = some (.int .i64 s) ∧ w'.cell? ⟨w.heap.size + 1, 2, none⟩ = some (.slice bp bn bc))
      (first
        | assumption
        | with_reducible exact HKB.out _ hB hx
        | with_reducible exact HKB.out _ (hB.step hdr) hx.drew)
      (first
        | (go_at_call 20; refine (HTB.out _ (by first | with_reducible exact FIN.out hx | with_reducible exact FIN.out hx.drew)).mono ?_; rintro e u13 ⟨g13, rfl, hm13, hb13⟩; (first | with_reducible (replace hB := hB.step hb13) | with_reducible (replace hB := (hB.step hdr).step hb13)); (first | with_reducible (replace hm7 := hm7.step hb13) | with_reducible (replace hm7 := (hm7.step hdr).step hb13)); (first | with_reducible (replace hx := bstep hx hb13 (Nat.le_refl _)) | with_reducible (replace hx := bstep hx.drew hb13 (Nat.le_refl _))); clear hb13)
        | (go_at_call 23; refine (HEB.out _ g7 g13 hm7 hm13).mono ?_; rintro e u14 ⟨rfl, hb14⟩; replace hx := bstep hx hb14 (Nat.le_refl _); replace hB := hB.step hb14; clear hb14))
    rename_i hHeld
    clear hHeld
    go_wp2
    go_ret
    exact ⟨rfl, FIN.out hx⟩
end Go.Proofs.YtbkiogedipmioaaGreat
