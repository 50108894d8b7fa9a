/-
  FnPermits, walked.
-/
import Derived.Test.YtbkiogedipmioaaGreatVPT1
import Derived.Test.YtbkiogedipmioaaGreatVDP
namespace Go.Proofs.YtbkiogedipmioaaGreat.V
open Go.RowKit Go.Joins M
attribute [local go_sem] Oper.semAt_some

/-- What the law asks ahead of the Spots. -/
def al0 (n : Nat) (tn t : Int) (rk bk : Bool) (now : Int) : Bool := decide (0 < n) && (decide (tn = t) && (rk && (bk && (decide (0 ≤ now) && decide (now ≤ 100000)))))
theorem per_all {tn tag t s now : Int} {CL : List Cl} {L M : List U.Rc} {n : Nat} (hn : CL.length = n) (h : U.I.spL L t s M ≠ []) : perB tn CL tag L t s M now = (al0 n tn t (U.recsB L) (U.I.batB t s M) now && (U.I.spL L t s M).all (okC tn CL tag now)) := by
  cases hr : U.recsB L
  · exact absurd (U.I.spL_no1 hr) h
  cases hb : U.I.batB t s M
  · exact absurd (U.I.spL_no2 hb) h
  have e := U.I.spL_eq (t := t) (s := s) hr hb
  unfold perB al0
  rw [hr, hb, ← e]
  cases ha : (U.I.spL L t s M).all (okC tn CL tag now)
  · simp
  · obtain ⟨c, l, hc⟩ := List.exists_cons_of_ne_nil h
    rw [hc] at ha
    have h1 : okC tn CL tag now c = true := by rw [List.all_cons, Bool.and_eq_true] at ha; exact ha.1
    unfold okC alB at h1
    rw [Bool.and_eq_true, Bool.and_eq_true] at h1
    have h2 := (ppB_t h1.1).2.1.1
    have h3 := timeB_t.1 h1.2.1
    rw [h1.1, h1.2.1]
    rw [hn] at h2
    simp [h3, show 0 < n by omega]
theorem per_true {tn tag t s now : Int} {CL : List Cl} {L M : List U.Rc} (h : perB tn CL tag L t s M now = true) : tn = t ∧ ∀ c ∈ U.I.spL L t s M, okC tn CL tag now c = true := by
  unfold perB at h
  simp only [Bool.and_eq_true, decide_eq_true_eq] at h
  obtain ⟨h1, h2, h3, h4, h5, h6⟩ := h
  refine ⟨h5, fun c hc => ?_⟩
  rw [U.I.spL_eq h1 h2] at hc
  exact List.all_eq_true.1 h6 c hc
theorem rch_v {M : List T3} {x y : Int} {v : Bool} (hv : reachI M x y = v) (q : Option Addr) (cp : Nat) {N : Nat} (W : World) (hN : M.length = N) (hS : SlG kC W q M) (h : N ≤ 1048576) :
    Calls Tryz.prog 14 #[.slice q N cp, .agg #[.int .i64 x, .int .i64 y]] W fun e w' => e = .returned (.bool v) ∧ Below W.heap.size W w' := by
  have := iReaches_v hv q cp W hS.ms (by omega)
  rw [hN] at this
  exact this
set_option maxRecDepth 100000 in
set_option maxHeartbeats 8000000 in
theorem permits_small (a : Option Addr) (len cap : Nat) (zs : List Int) (g : Nat) (w : World) (hl : len ≤ 4096) (hr : Rd w g a len zs) :
    Calls Tryz.prog 3 #[.slice a len cap] w fun e w' => e = .returned (.bool true) ∧ Below w.heap.size w w' := by
  have hl' : decide (4096 < (len : Int)) = false := by simp; omega
  go_enter Tryz.func3, Tryz.ntmps3
  go_upto_region 4 with (first
    | (go_at_call 5; refine (big_any _ _ _ _).mono ?_; rintro e w0 ⟨rfl, hw0⟩; subst hw0)
    | (go_at_call 6; refine (drawPerm_any a len cap zs g _ hl hr).mono ?_; rintro e w1 ⟨tn, tag, q, n, cp, X, lg, ln, lc, L, t, s, bg, bn, bc, M, now, rfl, hX, HL, HM, hS⟩))
  clear hr hl hl'
  have h00 := hS.bel
  have hW2 := below_alloc2 w1 (.cells #[.int .i64 tn, .slice q n cp, .int .i64 tag] 26) (.cells #[.int .i64 t, .int .i64 s, .slice (some ⟨bg, 0, none⟩) bn bc] 30)
  have FIN : Hid (∀ {W : World}, Below ((w1.alloc (.cells #[.int .i64 tn, .slice q n cp, .int .i64 tag] 26)).alloc (.cells #[.int .i64 t, .int .i64 s, .slice (some ⟨bg, 0, none⟩) bn bc] 30)).heap.size ((w1.alloc (.cells #[.int .i64 tn, .slice q n cp, .int .i64 tag] 26)).alloc (.cells #[.int .i64 t, .int .i64 s, .slice (some ⟨bg, 0, none⟩) bn bc] 30)) W → Below w.heap.size w W) := fun {W} h => (bstep h00 (hW2.trans (h.mono hW2.size)) (Nat.le_refl _))
  have hS2 := hS.step hW2
  have hRd : RdS ((w1.alloc (.cells #[.int .i64 tn, .slice q n cp, .int .i64 tag] 26)).alloc (.cells #[.int .i64 t, .int .i64 s, .slice (some ⟨bg, 0, none⟩) bn bc] 30)) q X := hS2.rdS (n := n) (c := cp) hX.out.2.2.q (fun r hr => by simp [hr])
  have hpl : plQ X := hS2.plQ (v := .slice q n cp) (fun r hr => by simp [hr])
  have hCl : CsG U.kR ((w1.alloc (.cells #[.int .i64 tn, .slice q n cp, .int .i64 tag] 26)).alloc (.cells #[.int .i64 t, .int .i64 s, .slice (some ⟨bg, 0, none⟩) bn bc] 30)) lg 0 L := OwG.cs (hS2.mem (K := U.kR) (v := .slice (some ⟨lg, 0, none⟩) ln lc) (L := L) (by simp))
  have hlc : ln ≤ lc := by have := OwG.cap (hS2.mem (K := U.kR) (v := .slice (some ⟨lg, 0, none⟩) ln lc) (L := L) (by simp)); exact this
  have hMs : SlG U.I.kR ((w1.alloc (.cells #[.int .i64 tn, .slice q n cp, .int .i64 tag] 26)).alloc (.cells #[.int .i64 t, .int .i64 s, .slice (some ⟨bg, 0, none⟩) bn bc] 30)) (some ⟨bg, 0, none⟩) M := OwG.sl (hS2.mem (K := U.I.kR) (v := .slice (some ⟨bg, 0, none⟩) bn bc) (L := M) (by simp))
  have hx := Below.refl ((w1.alloc (.cells #[.int .i64 tn, .slice q n cp, .int .i64 tag] 26)).alloc (.cells #[.int .i64 t, .int .i64 s, .slice (some ⟨bg, 0, none⟩) bn bc] 30)).heap.size ((w1.alloc (.cells #[.int .i64 tn, .slice q n cp, .int .i64 tag] 26)).alloc (.cells #[.int .i64 t, .int .i64 s, .slice (some ⟨bg, 0, none⟩) bn bc] 30))
  obtain ⟨a0, a1, a2, b0, b1, b2⟩ := bx6 hx
  have hXn : X.length = n := hX.out.1
  have hn7 : n ≤ 7 := hX.out.2.1
  have hCn : (cls X).length = n := by rw [cls_len]; exact hXn
  obtain ⟨v, hv⟩ : ∃ v, perB tn (cls X) tag L t s M now = v := ⟨_, rfl⟩
  obtain ⟨Z, hZ⟩ : ∃ Z, U.I.spL L t s M = Z := ⟨_, rfl⟩
  have hzl := U.I.spL_len L t s M
  rw [hZ] at hzl
  have HP : Hid (Z ≠ [] → v = (al0 n tn t (U.recsB L) (U.I.batB t s M) now && Z.all (okC tn (cls X) tag now))) := fun h => by rw [← hv, ← hZ]; exact per_all hCn (by rw [hZ]; exact h)
  have HT : Hid (v = true → tn = t ∧ ∀ c ∈ Z, okC tn (cls X) tag now c = true) := fun h => by rw [← hZ]; exact per_true (hv.trans h)
  have HI := Lib.hid (fun W (h : Below ((w1.alloc (.cells #[.int .i64 tn, .slice q n cp, .int .i64 tag] 26)).alloc (.cells #[.int .i64 t, .int .i64 s, .slice (some ⟨bg, 0, none⟩) bn bc] 30)).heap.size ((w1.alloc (.cells #[.int .i64 tn, .slice q n cp, .int .i64 tag] 26)).alloc (.cells #[.int .i64 t, .int .i64 s, .slice (some ⟨bg, 0, none⟩) bn bc] 30)) W) => iPer_v (cap := cp) hv hXn (by omega) lg 0 lc ln HL.out.1 hlc (by have := HL.out.2; omega) (some ⟨bg, 0, none⟩) bc bn HM.out.1 (by have := HM.out.2; omega) W (hRd.step h) (hCl.step h) (hMs.step h))
  have HSP := Lib.hid (fun W (h : Below ((w1.alloc (.cells #[.int .i64 tn, .slice q n cp, .int .i64 tag] 26)).alloc (.cells #[.int .i64 t, .int .i64 s, .slice (some ⟨bg, 0, none⟩) bn bc] 30)).heap.size ((w1.alloc (.cells #[.int .i64 tn, .slice q n cp, .int .i64 tag] 26)).alloc (.cells #[.int .i64 t, .int .i64 s, .slice (some ⟨bg, 0, none⟩) bn bc] 30)) W) => sPer_v (cap := cp) hv hXn (by omega) lg 0 lc ln HL.out.1 hlc (by have := HL.out.2; omega) (some ⟨bg, 0, none⟩) bc bn HM.out.1 (by have := HM.out.2; omega) W (hRd.step h) (hCl.step h) (hMs.step h))
  have HZ := Lib.hid (fun W (h : Below ((w1.alloc (.cells #[.int .i64 tn, .slice q n cp, .int .i64 tag] 26)).alloc (.cells #[.int .i64 t, .int .i64 s, .slice (some ⟨bg, 0, none⟩) bn bc] 30)).heap.size ((w1.alloc (.cells #[.int .i64 tn, .slice q n cp, .int .i64 tag] 26)).alloc (.cells #[.int .i64 t, .int .i64 s, .slice (some ⟨bg, 0, none⟩) bn bc] 30)) W) => U.I.sSpots_any (t := t) (s := s) lg 0 lc L ln HL.out.1 (by have := HL.out.2; omega) (some ⟨bg, 0, none⟩) bc bn M HM.out.1 (by have := HM.out.2; omega) W (hCl.step h) (hMs.step h) hZ)
  obtain ⟨rk, hrk⟩ : ∃ rk, U.recsB L = rk := ⟨_, rfl⟩
  obtain ⟨bk, hbk⟩ : ∃ bk, U.I.batB t s M = bk := ⟨_, rfl⟩
  have HR := Lib.hid (fun W (h : Below ((w1.alloc (.cells #[.int .i64 tn, .slice q n cp, .int .i64 tag] 26)).alloc (.cells #[.int .i64 t, .int .i64 s, .slice (some ⟨bg, 0, none⟩) bn bc] 30)).heap.size ((w1.alloc (.cells #[.int .i64 tn, .slice q n cp, .int .i64 tag] 26)).alloc (.cells #[.int .i64 t, .int .i64 s, .slice (some ⟨bg, 0, none⟩) bn bc] 30)) W) => U.sOk_v hrk (some ⟨lg, 0, none⟩) lc ln HL.out.1 W (.inr ⟨lg, 0, rfl, hCl.step h⟩) (by have := HL.out.2; omega))
  have HB := Lib.hid (fun W (h : Below ((w1.alloc (.cells #[.int .i64 tn, .slice q n cp, .int .i64 tag] 26)).alloc (.cells #[.int .i64 t, .int .i64 s, .slice (some ⟨bg, 0, none⟩) bn bc] 30)).heap.size ((w1.alloc (.cells #[.int .i64 tn, .slice q n cp, .int .i64 tag] 26)).alloc (.cells #[.int .i64 t, .int .i64 s, .slice (some ⟨bg, 0, none⟩) bn bc] 30)) W) => U.I.sBat_v hbk (some ⟨bg, 0, none⟩) bc bn HM.out.1 W (hMs.step h) (by have := HM.out.2; omega))
  have HA := Lib.hid (fun W x y b (h : Below ((w1.alloc (.cells #[.int .i64 tn, .slice q n cp, .int .i64 tag] 26)).alloc (.cells #[.int .i64 t, .int .i64 s, .slice (some ⟨bg, 0, none⟩) bn bc] 30)).heap.size ((w1.alloc (.cells #[.int .i64 tn, .slice q n cp, .int .i64 tag] 26)).alloc (.cells #[.int .i64 t, .int .i64 s, .slice (some ⟨bg, 0, none⟩) bn bc] 30)) W) (hok : alB tn (cls X) tag x y true now = b) => iAllows_v (cap := cp) hok hXn (by omega) W (hRd.step h))
  have HG := Lib.hid (fun W (h : Below ((w1.alloc (.cells #[.int .i64 tn, .slice q n cp, .int .i64 tag] 26)).alloc (.cells #[.int .i64 t, .int .i64 s, .slice (some ⟨bg, 0, none⟩) bn bc] 30)).heap.size ((w1.alloc (.cells #[.int .i64 tn, .slice q n cp, .int .i64 tag] 26)).alloc (.cells #[.int .i64 t, .int .i64 s, .slice (some ⟨bg, 0, none⟩) bn bc] 30)) W) => iRegion_any tn tag true q cp n X hXn (by omega) hpl W (hRd.step h))
  rw [hrk, hbk] at HP
  clear hS hS2 hRd hpl hCl hMs hXn hCn hv hZ hrk hbk HL HM hX hlc h00 hW2
  obtain ⟨al, hal⟩ : ∃ al, al0 n tn t rk bk now = al := ⟨_, rfl⟩
  rw [hal] at HP
  have HAL := Lib.hid hal
  clear hal
  go_upto_region 5 with (go_at_call 7; refine (HI.out _ hx).mono ?_; rintro e w3 ⟨rfl, hb3⟩; replace hx := bstep hx hb3 (Nat.le_refl _); clear a0 a1 a2 b0 b1 b2; obtain ⟨a0, a1, a2, b0, b1, b2⟩ := bx6 hx)
  cases v
  · go_upto_region 8 with (first
      | (go_at_call 8; refine (HSP.out _ hx).mono ?_; rintro e w4 ⟨rfl, hb4⟩; replace hx := bstep hx hb4 (Nat.le_refl _); clear a0 a1 a2 b0 b1 b2; obtain ⟨a0, a1, a2, b0, b1, b2⟩ := bx6 hx)
      | (go_at_call 9; refine (HZ.out _ hx).mono ?_; rintro e w5 ⟨zq, m, zc, hm, rfl, hz5⟩))
    have hSZ : Sg ((w1.alloc (.cells #[.int .i64 tn, .slice q n cp, .int .i64 tag] 26)).alloc (.cells #[.int .i64 t, .int .i64 s, .slice (some ⟨bg, 0, none⟩) bn bc] 30)) w5 [rG U.I.kS (.slice zq m zc) Z] := by simpa using (U.sg_bel hx).addL hz5
    rw [hm] at hzl
    have HZM : Hid (Z.length = m) := hm
    clear hz5 hm hx a0 a1 a2 b0 b1 b2
    obtain ⟨a0, a1, a2, b0, b1, b2⟩ := bx6 hSZ.bel
    go_cut [9] from 13 (fun s9 wx => s9 = .bool al ∧ Sg ((w1.alloc (.cells #[.int .i64 tn, .slice q n cp, .int .i64 tag] 26)).alloc (.cells #[.int .i64 t, .int .i64 s, .slice (some ⟨bg, 0, none⟩) bn bc] 30)) wx [rG U.I.kS (.slice zq m zc) Z])
    case first =>
      have HALN : ∀ {x : Bool}, al0 n tn t rk bk now = x → Value.bool x = .bool al := fun h => by rw [← HAL.out, h]
      by_cases hn0 : 0 < n
      · have i1 : (0 : Int) < n := by omega
        by_cases htn : tn = t
        · subst htn
          cases rk
          · go_wp2_with (go_at_call 10; refine (HR.out _ hSZ.bel).mono ?_; rintro e w6 ⟨rfl, hb6⟩)
            go_meet
            exact ⟨HALN (by unfold al0; simp), hSZ.step hb6⟩
          · cases bk
            · go_wp2_with (first
                | (go_at_call 10; refine (HR.out _ hSZ.bel).mono ?_; rintro e w6 ⟨rfl, hb6⟩; have hSY := hSZ.step hb6; clear a0 a1 a2 b0 b1 b2; obtain ⟨a0, a1, a2, b0, b1, b2⟩ := bx6 hSY.bel)
                | (go_at_call 11; refine (HB.out _ hSY.bel).mono ?_; rintro e w7 ⟨rfl, hb7⟩))
              go_meet
              exact ⟨HALN (by unfold al0; simp), hSY.step hb7⟩
            · by_cases hn1 : 0 ≤ now
              · by_cases hn2 : now ≤ 100000
                · go_wp2_with (first
                    | (go_at_call 10; refine (HR.out _ hSZ.bel).mono ?_; rintro e w6 ⟨rfl, hb6⟩; have hSY := hSZ.step hb6; clear a0 a1 a2 b0 b1 b2; obtain ⟨a0, a1, a2, b0, b1, b2⟩ := bx6 hSY.bel)
                    | (go_at_call 11; refine (HB.out _ hSY.bel).mono ?_; rintro e w7 ⟨rfl, hb7⟩))
                  go_meet
                  exact ⟨HALN (by unfold al0; simp [hn0, hn1, hn2]), hSY.step hb7⟩
                · go_wp2_with (first
                    | (go_at_call 10; refine (HR.out _ hSZ.bel).mono ?_; rintro e w6 ⟨rfl, hb6⟩; have hSY := hSZ.step hb6; clear a0 a1 a2 b0 b1 b2; obtain ⟨a0, a1, a2, b0, b1, b2⟩ := bx6 hSY.bel)
                    | (go_at_call 11; refine (HB.out _ hSY.bel).mono ?_; rintro e w7 ⟨rfl, hb7⟩))
                  go_meet
                  exact ⟨HALN (by unfold al0; rw [show decide (now ≤ 100000) = false from decide_eq_false (by omega)]; simp), hSY.step hb7⟩
              · go_wp2_with (first
                  | (go_at_call 10; refine (HR.out _ hSZ.bel).mono ?_; rintro e w6 ⟨rfl, hb6⟩; have hSY := hSZ.step hb6; clear a0 a1 a2 b0 b1 b2; obtain ⟨a0, a1, a2, b0, b1, b2⟩ := bx6 hSY.bel)
                  | (go_at_call 11; refine (HB.out _ hSY.bel).mono ?_; rintro e w7 ⟨rfl, hb7⟩))
                go_meet
                exact ⟨HALN (by unfold al0; rw [show decide (0 ≤ now) = false from decide_eq_false (by omega)]; simp), hSY.step hb7⟩
        · have htb : (tn == t) = false := by simp [htn]
          go_wp2
          go_meet
          exact ⟨HALN (by unfold al0; simp [htn]), hSZ⟩
      · obtain rfl : n = 0 := by omega
        go_wp2
        go_meet
        exact ⟨HALN (by unfold al0; simp), hSZ⟩
    case rest =>
      clear hSZ a0 a1 a2 b0 b1 b2 HR HB HI HSP HZ HAL
      obtain ⟨rfl, hSZ0⟩ := hcut
      go_upto_region 10 with (fail)
      go_loopw [9, 10] (fun s9 s10 wr => ∃ (k : Nat) (bb : Bool), k ≤ m ∧ s10 = .int .i64 k ∧ s9 = .bool bb ∧ Hid ((al && (Z.take k).all (okC tn (cls X) tag now)) = bb) ∧ Sg ((w1.alloc (.cells #[.int .i64 tn, .slice q n cp, .int .i64 tag] 26)).alloc (.cells #[.int .i64 t, .int .i64 s, .slice (some ⟨bg, 0, none⟩) bn bc] 30)) wr [rG U.I.kS (.slice zq m zc) Z]) (fun _ i _ => m - (intOf i).toNat)
      case atStart => exact ⟨0, al, by omega, rfl, rfl, (by simp : (al && (Z.take 0).all (okC tn (cls X) tag now)) = al), hSZ0⟩
      case round =>
        clear hSZ0
        obtain ⟨k, bb, hk, rfl, rfl, hbb, hS⟩ := hrel
        by_cases hlt : k < m
        · have hki : (k : Int) < m := by omega
          have hkZ : k < Z.length := by rw [HZM.out]; exact hlt
          obtain ⟨gs, os, rfl, hC⟩ := (OwG.sl (hS.mem (K := U.I.kS) (v := .slice zq m zc) (L := Z) (by simp))).at hkZ
          have hgk := List.getElem?_eq_getElem hkZ
          have ht := all_takeP (f := okC tn (cls X) tag now) hkZ
          generalize Z[k] = d at hgk ht
          have HT1 : Hid ((Z.take (k + 1)).all (okC tn (cls X) tag now) = ((Z.take k).all (okC tn (cls X) tag now) && okC tn (cls X) tag now d)) := ht
          have HK : Hid (∀ w', Below wr.heap.size wr w' → (w'.cell? ⟨w1.heap.size, 0, none⟩ = some (.int .i64 tn) ∧ w'.cell? ⟨w1.heap.size, 1, none⟩ = some (.slice q n cp) ∧ w'.cell? ⟨w1.heap.size, 2, none⟩ = some (.int .i64 tag) ∧ w'.cell? ⟨gs, os + k * 2, none⟩ = some (.int .i64 d.1) ∧ w'.cell? ⟨gs, os + k * 2 + 1, none⟩ = some (.int .i64 d.2))) := fun w' h => by
            obtain ⟨a0, a1, a2, _, _, _⟩ := bx6 (bstep hS.bel h (Nat.le_refl _))
            exact ⟨a0, a1, a2, cs2 (hC.step h) hgk⟩
          clear hC hgk ht
          cases bb
          · go_wp2
            go_region
            all_goals
              go_wp2
              go_roundw
              case rel => exact ⟨k + 1, false, by omega, by go_num, rfl, (by rw [HT1.out, ← Bool.and_assoc, hbb.out]; rfl : (al && (Z.take (k + 1)).all (okC tn (cls X) tag now)) = false), hS.step (Below.refl _ _).drew⟩
              case measure => simp [intOf]; omega
          · obtain ⟨bd, hbd⟩ : ∃ bd, okC tn (cls X) tag now d = bd := ⟨_, rfl⟩
            go_wp2
            go_region_held3 (fun w' => w'.cell? ⟨w1.heap.size, 0, none⟩ = some (.int .i64 tn) ∧ w'.cell? ⟨w1.heap.size, 1, none⟩ = some (.slice q n cp) ∧ w'.cell? ⟨w1.heap.size, 2, none⟩ = some (.int .i64 tag) ∧ w'.cell? ⟨gs, os + k * 2, none⟩ = some (.int .i64 d.1) ∧ w'.cell? ⟨gs, os + k * 2 + 1, none⟩ = some (.int .i64 d.2))
              (first
                | assumption
                | with_reducible exact HK.out _ (Below.refl _ _).drew)
              (first | (go_at_call 12; refine (HA.out _ _ _ _ (bstep hS.bel (Below.refl _ _).drew (Nat.le_refl _)) hbd).mono ?_; rintro e w8 ⟨rfl, hb8⟩; have hS8 := (hS.step (Below.refl _ _).drew).step hb8; have hk8 := HK.out _ (bstep (Below.refl _ _).drew hb8 (Nat.le_refl _))))
            go_wp2
            go_roundw
            case rel => exact ⟨k + 1, bd, by omega, by go_num, rfl, (by rw [HT1.out, ← Bool.and_assoc, hbb.out, hbd]; rfl : (al && (Z.take (k + 1)).all (okC tn (cls X) tag now)) = bd), hS8⟩
            case measure => simp [intOf]; omega
        · obtain rfl : k = m := by omega
          have HBB : Hid ((al && Z.all (okC tn (cls X) tag now)) = bb) := (by have e := hbb.out; rwa [List.take_of_length_le (by rw [HZM.out]; exact Nat.le_refl _)] at e : (al && Z.all (okC tn (cls X) tag now)) = bb)
          clear hbb
          have HEQ : 0 < k → bb = false := fun h => by
            have := HP.out (fun e => by have h2 := HZM.out; rw [e] at h2; simp at h2; omega)
            rw [HBB.out] at this
            exact this.symm
          by_cases hk0 : 0 < k
          · have hk1 : (0 : Int) < k := by omega
            have hbv := HEQ hk0
            subst hbv
            go_wp2
            refine wp_loop_rounds 1 ?_
            rw [rounds_succ]
            go_wp2
            go_ret
            exact ⟨rfl, FIN.out hS.bel⟩
          · obtain rfl : k = 0 := by omega
            go_wp2
            refine wp_loop_rounds 1 ?_
            rw [rounds_succ]
            go_wp2
            go_ret
            exact ⟨rfl, FIN.out hS.bel⟩
  · go_upto_region 8 with (first
      | (go_at_call 8; refine (HSP.out _ hx).mono ?_; rintro e w4 ⟨rfl, hb4⟩; replace hx := bstep hx hb4 (Nat.le_refl _); clear a0 a1 a2 b0 b1 b2; obtain ⟨a0, a1, a2, b0, b1, b2⟩ := bx6 hx)
      | (go_at_call 9; refine (HZ.out _ hx).mono ?_; rintro e w5 ⟨zq, m, zc, hm, rfl, hz5⟩))
    have hSZ : Sg ((w1.alloc (.cells #[.int .i64 tn, .slice q n cp, .int .i64 tag] 26)).alloc (.cells #[.int .i64 t, .int .i64 s, .slice (some ⟨bg, 0, none⟩) bn bc] 30)) w5 [rG U.I.kS (.slice zq m zc) Z] := by simpa using (U.sg_bel hx).addL hz5
    rw [hm] at hzl
    have HZM : Hid (Z.length = m) := hm
    clear hz5 hm hx a0 a1 a2 b0 b1 b2
    obtain ⟨a0, a1, a2, b0, b1, b2⟩ := bx6 hSZ.bel
    go_cut [9] from 13 (fun s9 wx => s9 = .bool al ∧ Sg ((w1.alloc (.cells #[.int .i64 tn, .slice q n cp, .int .i64 tag] 26)).alloc (.cells #[.int .i64 t, .int .i64 s, .slice (some ⟨bg, 0, none⟩) bn bc] 30)) wx [rG U.I.kS (.slice zq m zc) Z])
    case first =>
      have HALN : ∀ {x : Bool}, al0 n tn t rk bk now = x → Value.bool x = .bool al := fun h => by rw [← HAL.out, h]
      by_cases hn0 : 0 < n
      · have i1 : (0 : Int) < n := by omega
        by_cases htn : tn = t
        · subst htn
          cases rk
          · go_wp2_with (go_at_call 10; refine (HR.out _ hSZ.bel).mono ?_; rintro e w6 ⟨rfl, hb6⟩)
            go_meet
            exact ⟨HALN (by unfold al0; simp), hSZ.step hb6⟩
          · cases bk
            · go_wp2_with (first
                | (go_at_call 10; refine (HR.out _ hSZ.bel).mono ?_; rintro e w6 ⟨rfl, hb6⟩; have hSY := hSZ.step hb6; clear a0 a1 a2 b0 b1 b2; obtain ⟨a0, a1, a2, b0, b1, b2⟩ := bx6 hSY.bel)
                | (go_at_call 11; refine (HB.out _ hSY.bel).mono ?_; rintro e w7 ⟨rfl, hb7⟩))
              go_meet
              exact ⟨HALN (by unfold al0; simp), hSY.step hb7⟩
            · by_cases hn1 : 0 ≤ now
              · by_cases hn2 : now ≤ 100000
                · go_wp2_with (first
                    | (go_at_call 10; refine (HR.out _ hSZ.bel).mono ?_; rintro e w6 ⟨rfl, hb6⟩; have hSY := hSZ.step hb6; clear a0 a1 a2 b0 b1 b2; obtain ⟨a0, a1, a2, b0, b1, b2⟩ := bx6 hSY.bel)
                    | (go_at_call 11; refine (HB.out _ hSY.bel).mono ?_; rintro e w7 ⟨rfl, hb7⟩))
                  go_meet
                  exact ⟨HALN (by unfold al0; simp [hn0, hn1, hn2]), hSY.step hb7⟩
                · go_wp2_with (first
                    | (go_at_call 10; refine (HR.out _ hSZ.bel).mono ?_; rintro e w6 ⟨rfl, hb6⟩; have hSY := hSZ.step hb6; clear a0 a1 a2 b0 b1 b2; obtain ⟨a0, a1, a2, b0, b1, b2⟩ := bx6 hSY.bel)
                    | (go_at_call 11; refine (HB.out _ hSY.bel).mono ?_; rintro e w7 ⟨rfl, hb7⟩))
                  go_meet
                  exact ⟨HALN (by unfold al0; rw [show decide (now ≤ 100000) = false from decide_eq_false (by omega)]; simp), hSY.step hb7⟩
              · go_wp2_with (first
                  | (go_at_call 10; refine (HR.out _ hSZ.bel).mono ?_; rintro e w6 ⟨rfl, hb6⟩; have hSY := hSZ.step hb6; clear a0 a1 a2 b0 b1 b2; obtain ⟨a0, a1, a2, b0, b1, b2⟩ := bx6 hSY.bel)
                  | (go_at_call 11; refine (HB.out _ hSY.bel).mono ?_; rintro e w7 ⟨rfl, hb7⟩))
                go_meet
                exact ⟨HALN (by unfold al0; rw [show decide (0 ≤ now) = false from decide_eq_false (by omega)]; simp), hSY.step hb7⟩
        · have htb : (tn == t) = false := by simp [htn]
          go_wp2
          go_meet
          exact ⟨HALN (by unfold al0; simp [htn]), hSZ⟩
      · obtain rfl : n = 0 := by omega
        go_wp2
        go_meet
        exact ⟨HALN (by unfold al0; simp), hSZ⟩
    case rest =>
      clear hSZ a0 a1 a2 b0 b1 b2 HR HB HI HSP HZ HAL
      obtain ⟨rfl, hSZ0⟩ := hcut
      go_upto_region 10 with (fail)
      go_loopw [9, 10] (fun s9 s10 wr => ∃ (k : Nat) (bb : Bool), k ≤ m ∧ s10 = .int .i64 k ∧ s9 = .bool bb ∧ Hid ((al && (Z.take k).all (okC tn (cls X) tag now)) = bb) ∧ Sg ((w1.alloc (.cells #[.int .i64 tn, .slice q n cp, .int .i64 tag] 26)).alloc (.cells #[.int .i64 t, .int .i64 s, .slice (some ⟨bg, 0, none⟩) bn bc] 30)) wr [rG U.I.kS (.slice zq m zc) Z]) (fun _ i _ => m - (intOf i).toNat)
      case atStart => exact ⟨0, al, by omega, rfl, rfl, (by simp : (al && (Z.take 0).all (okC tn (cls X) tag now)) = al), hSZ0⟩
      case round =>
        clear hSZ0
        obtain ⟨k, bb, hk, rfl, rfl, hbb, hS⟩ := hrel
        by_cases hlt : k < m
        · have hki : (k : Int) < m := by omega
          have hkZ : k < Z.length := by rw [HZM.out]; exact hlt
          obtain ⟨gs, os, rfl, hC⟩ := (OwG.sl (hS.mem (K := U.I.kS) (v := .slice zq m zc) (L := Z) (by simp))).at hkZ
          have hgk := List.getElem?_eq_getElem hkZ
          have ht := all_takeP (f := okC tn (cls X) tag now) hkZ
          generalize Z[k] = d at hgk ht
          have HT1 : Hid ((Z.take (k + 1)).all (okC tn (cls X) tag now) = ((Z.take k).all (okC tn (cls X) tag now) && okC tn (cls X) tag now d)) := ht
          have HK : Hid (∀ w', Below wr.heap.size wr w' → (w'.cell? ⟨w1.heap.size, 0, none⟩ = some (.int .i64 tn) ∧ w'.cell? ⟨w1.heap.size, 1, none⟩ = some (.slice q n cp) ∧ w'.cell? ⟨w1.heap.size, 2, none⟩ = some (.int .i64 tag) ∧ w'.cell? ⟨gs, os + k * 2, none⟩ = some (.int .i64 d.1) ∧ w'.cell? ⟨gs, os + k * 2 + 1, none⟩ = some (.int .i64 d.2))) := fun w' h => by
            obtain ⟨a0, a1, a2, _, _, _⟩ := bx6 (bstep hS.bel h (Nat.le_refl _))
            exact ⟨a0, a1, a2, cs2 (hC.step h) hgk⟩
          clear hC hgk ht
          cases bb
          · go_wp2
            go_region
            all_goals
              go_wp2
              go_roundw
              case rel => exact ⟨k + 1, false, by omega, by go_num, rfl, (by rw [HT1.out, ← Bool.and_assoc, hbb.out]; rfl : (al && (Z.take (k + 1)).all (okC tn (cls X) tag now)) = false), hS.step (Below.refl _ _).drew⟩
              case measure => simp [intOf]; omega
          · obtain ⟨bd, hbd⟩ : ∃ bd, okC tn (cls X) tag now d = bd := ⟨_, rfl⟩
            go_wp2
            go_region_held3 (fun w' => w'.cell? ⟨w1.heap.size, 0, none⟩ = some (.int .i64 tn) ∧ w'.cell? ⟨w1.heap.size, 1, none⟩ = some (.slice q n cp) ∧ w'.cell? ⟨w1.heap.size, 2, none⟩ = some (.int .i64 tag) ∧ w'.cell? ⟨gs, os + k * 2, none⟩ = some (.int .i64 d.1) ∧ w'.cell? ⟨gs, os + k * 2 + 1, none⟩ = some (.int .i64 d.2))
              (first
                | assumption
                | with_reducible exact HK.out _ (Below.refl _ _).drew)
              (first | (go_at_call 12; refine (HA.out _ _ _ _ (bstep hS.bel (Below.refl _ _).drew (Nat.le_refl _)) hbd).mono ?_; rintro e w8 ⟨rfl, hb8⟩; have hS8 := (hS.step (Below.refl _ _).drew).step hb8; have hk8 := HK.out _ (bstep (Below.refl _ _).drew hb8 (Nat.le_refl _))))
            go_wp2
            go_roundw
            case rel => exact ⟨k + 1, bd, by omega, by go_num, rfl, (by rw [HT1.out, ← Bool.and_assoc, hbb.out, hbd]; rfl : (al && (Z.take (k + 1)).all (okC tn (cls X) tag now)) = bd), hS8⟩
            case measure => simp [intOf]; omega
        · obtain rfl : k = m := by omega
          have HBB : Hid ((al && Z.all (okC tn (cls X) tag now)) = bb) := (by have e := hbb.out; rwa [List.take_of_length_le (by rw [HZM.out]; exact Nat.le_refl _)] at e : (al && Z.all (okC tn (cls X) tag now)) = bb)
          clear hbb
          have HEQ : 0 < k → bb = true := fun h => by
            have := HP.out (fun e => by have h2 := HZM.out; rw [e] at h2; simp at h2; omega)
            rw [HBB.out] at this
            exact this.symm
          obtain ⟨htt, hall⟩ := HT.out (by trivial)
          subst htt
          by_cases hk0 : 0 < k
          · have hk1 : (0 : Int) < k := by omega
            have hbv := HEQ hk0
            subst hbv
            go_wp2
            go_loopw [11] (fun s11 wr => ∃ j : Nat, j ≤ k ∧ s11 = .int .i64 j ∧ Sg ((w1.alloc (.cells #[.int .i64 tn, .slice q n cp, .int .i64 tag] 26)).alloc (.cells #[.int .i64 tn, .int .i64 s, .slice (some ⟨bg, 0, none⟩) bn bc] 30)) wr [rG U.I.kS (.slice zq k zc) Z]) (fun i _ => k - (intOf i).toNat)
            case atStart => exact ⟨0, by omega, rfl, hS⟩
            case round =>
              clear hS
              obtain ⟨j, hj, rfl, hS⟩ := hrel
              obtain ⟨a0, a1, a2, b0, b1, b2⟩ := bx6 hS.bel
              by_cases hlt2 : j < k
              · have hji : (j : Int) < (k : Nat) := by omega
                have hjZ : j < Z.length := by rw [HZM.out]; exact hlt2
                have hgj := List.getElem?_eq_getElem hjZ
                have hokd := hall _ (List.getElem_mem hjZ)
                generalize Z[j] = d at hgj hokd
                obtain ⟨gs, os, rfl, hC⟩ := (OwG.sl (hS.mem (K := U.I.kS) (v := .slice zq k zc) (L := Z) (by simp))).at hjZ
                have hrch := allows_reach (b := true) hokd
                obtain ⟨RG0, hRG⟩ : ∃ R, rgP tn (cls X) tag true = R := ⟨_, rfl⟩
                rw [hRG] at hrch
                have hrl : RG0.length ≤ 49 := by rw [← hRG]; exact rgP_len
                have HC := Lib.hid (fun w' (h : Below wr.heap.size wr w') => cs2 (hC.step h) hgj)
                have HG2 := Lib.hid (HG.out _ hS.bel)
                rw [hRG] at HG2
                clear hC hgj
                go_wp2_with (first
                  | (go_at_call 13; refine HG2.out.mono ?_; rintro e w9 ⟨rr, rn, rc, rfl, hrn, h9⟩; have hS9 := hS.step h9.bel; obtain ⟨d0, d1⟩ := HC.out _ h9.bel; rw [hrn] at hrl; have i100 : (rn : Int) ≤ 100 := by omega)
                  | (go_at_call 14; refine (rch_v hrch rr rc _ hrn (OwG.sl (h9.mem (K := kC) (v := .slice rr rn rc) (L := RG0) (by simp))) (by omega)).mono ?_; rintro e w10 ⟨rfl, hb10⟩))
                go_roundw
                case rel => exact ⟨j + 1, by omega, by go_num, hS9.step hb10⟩
                case measure => simp [intOf]; omega
              · obtain rfl : j = k := by omega
                go_wp2
                go_ret
                exact ⟨rfl, FIN.out hS.bel⟩
          · obtain rfl : k = 0 := by omega
            obtain ⟨a0, a1, a2, b0, b1, b2⟩ := bx6 hS.bel
            go_wp2
            refine wp_loop_rounds 1 ?_
            rw [rounds_succ]
            go_wp2
            go_ret
            exact ⟨rfl, FIN.out hS.bel⟩
end Go.Proofs.YtbkiogedipmioaaGreat.V
