/-
  Are these right Items, is it a right Batch: the spec's.
-/
import Derived.Test.YtobbankkfplooaaGreatKIG4
namespace Go.Proofs.YtobbankkfplooaaGreat.K.I
open Go.Shelf Go.RowKit Go.Joins
attribute [local go_sem] Oper.semAt_some

theorem itsB_eq {L : List Rc} {n : Nat} (hn : L.length = n) : itsB L = (decide (1 ≤ n) && (decide (n ≤ 6) && (L.all recB && oneB L))) := by unfold itsB; rw [hn]
set_option maxHeartbeats 1000000 in
theorem areIts_v {L : List Rc} {v : Bool} (hv : itsB L = v) (p : Option Addr) (cap n : Nat) (hn : L.length = n) (w : World) (hL : SlG kR w p L) (hb0 : n ≤ 10000000) :
    Calls Tryz.prog 103 #[.slice p n cap] w fun e w' => e = .returned (.bool v) ∧ Below w.heap.size w w' := by
  rw [itsB_eq hn] at hv
  have HA : Hid (∀ v, L.all recB = v → Calls Tryz.prog 108 #[.slice p n cap, .func (.func 109) #[] #[]] w fun e w' => e = .returned (.bool v) ∧ Below w.heap.size w w') := fun v h => are_any p cap L n hn w hL hb0 h
  by_cases h1 : 1 ≤ n
  · have h1' : (1 : Int) ≤ n := by omega
    rw [decide_eq_true h1, Bool.true_and] at hv
    by_cases h6 : n ≤ 6
    · have h6' : (n : Int) ≤ 6 := by omega
      rw [decide_eq_true h6, Bool.true_and] at hv
      have HS : Hid (∀ W, Below w.heap.size w W → Calls Tryz.prog 110 #[.slice p n cap, .func (.func 111) #[] #[]] W fun e w' => ∃ q cap' S, e = .returned (.slice (some ⟨q, 0, none⟩) n cap') ∧ riseB S = oneB L ∧ S.length = n ∧ Sg W w' [rG kR (.slice (some ⟨q, 0, none⟩) n cap') S]) := fun W hb => by
        refine (sorted_any p cap L n hn W (hL.step hb) (by omega)).mono ?_
        rintro e w' ⟨q, c, S, h1, h2, h3, h4⟩
        exact ⟨q, c, S, h1, rise_one h2 h3, by rw [h2.length_eq, hn], h4⟩
      clear hn hL
      cases ha : L.all recB
      · rw [ha, Bool.false_and] at hv
        subst hv
        go_enter Tryz.func103, Tryz.ntmps103
        go_wp2_with (go_at_call 108; refine (HA.out _ ha).mono ?_; rintro e w1 ⟨rfl, hb1⟩)
        go_ret
        exact ⟨rfl, hb1⟩
      · rw [ha, Bool.true_and] at hv
        go_enter Tryz.func103, Tryz.ntmps103
        go_wp2_with (first
          | (go_at_call 108; refine (HA.out _ ha).mono ?_; rintro e w1 ⟨rfl, hb1⟩)
          | (go_at_call 110; refine (HS.out _ hb1).mono ?_; rintro e w2 ⟨q, c, S, rfl, hr, hl, h2⟩)
          | (go_at_call 112; refine (rises_any (some ⟨q, 0, none⟩) c S n hl _ (OwG.sl (h2.mem (K := kR) (v := .slice (some ⟨q, 0, none⟩) n c) (L := S) (by simp))) (by omega) (hr.trans hv)).mono ?_; rintro e w3 ⟨rfl, hb3⟩))
        go_ret
        exact ⟨rfl, (bstep (bstep hb1 h2.bel (Nat.le_refl _)) hb3 (Nat.le_refl _))⟩
    · have h6' : ¬ (n : Int) ≤ 6 := by omega
      rw [decide_eq_false h6, Bool.false_and] at hv
      subst hv
      clear hn hL
      go_enter Tryz.func103, Tryz.ntmps103
      go_wp2
      go_ret
      exact ⟨rfl, Below.refl _ _⟩
  · have h1' : ¬ (1 : Int) ≤ n := by omega
    rw [decide_eq_false h1, Bool.false_and] at hv
    subst hv
    clear hn hL
    go_enter Tryz.func103, Tryz.ntmps103
    go_wp2
    go_ret
    exact ⟨rfl, Below.refl _ _⟩
/-- A Batch as a value. -/
abbrev batV (t s : Int) (p : Option Addr) (n c : Nat) : Value := .agg #[.int .i64 t, .int .i64 s, .slice p n c]
set_option maxHeartbeats 1000000 in
theorem iBat_v {t s : Int} {L : List Rc} {v : Bool} (hv : batB t s L = v) (p : Option Addr) (c n : Nat) (hn : L.length = n) (w : World) (hL : SlG kR w p L) (hb0 : n ≤ 10000000) :
    Calls Tryz.prog 90 #[batV t s p n c] w fun e w' => e = .returned (.bool v) ∧ Below w.heap.size w w' := by
  unfold batB at hv
  have hst := (St.nil w).push [.int .i64 t, .int .i64 s, .slice p n c] 67
  have HI : Hid (∀ W v, Below w.heap.size w W → itsB L = v → Calls Tryz.prog 103 #[.slice p n c] W fun e w' => e = .returned (.bool v) ∧ Below W.heap.size W w') := fun W v hb h => areIts_v h p c n hn W (hL.step hb) hb0
  clear hn hL
  cases h1 : rgB t 1 99
  · rw [h1, Bool.false_and, Bool.false_and] at hv
    subst hv
    go_enter Tryz.func90, Tryz.ntmps90
    go_wp2_with (go_at_call 101; refine (isTenant_v h1 _).mono ?_; rintro e w1 ⟨rfl, rfl⟩)
    go_ret
    exact ⟨rfl, hst.bel⟩
  cases h2 : rgB s 1 100000
  · rw [h2, Bool.and_false, Bool.false_and] at hv
    subst hv
    go_enter Tryz.func90, Tryz.ntmps90
    go_wp2_with (first | (go_at_call 101; refine (isTenant_v h1 _).mono ?_; rintro e w1 ⟨rfl, rfl⟩) | (go_at_call 102; refine (isId_v h2 _).mono ?_; rintro e w1 ⟨rfl, rfl⟩))
    go_ret
    exact ⟨rfl, hst.bel⟩
  rw [h1, h2, Bool.true_and, Bool.true_and] at hv
  go_enter Tryz.func90, Tryz.ntmps90
  go_wp2_with (first | (go_at_call 101; refine (isTenant_v h1 _).mono ?_; rintro e w1 ⟨rfl, rfl⟩) | (go_at_call 102; refine (isId_v h2 _).mono ?_; rintro e w1 ⟨rfl, rfl⟩) | (go_at_call 103; refine (HI.out _ _ hst.bel hv).mono ?_; rintro e w1 ⟨rfl, hb1⟩))
  go_ret
  exact ⟨rfl, (hst.step hb1).bel⟩
theorem sNum_v {t s : Int} {v : Bool} (hv : (rgB t 1 99 && rgB s 1 100000) = v) (w : World) : Calls Tryz.prog 48 #[.int .i64 t, .int .i64 s] w fun e w' => e = .returned (.bool v) ∧ w' = w := by
  cases h1 : rgB t 1 99
  · rw [h1, Bool.false_and] at hv
    subst hv
    go_enter Tryz.func48, Tryz.ntmps48
    go_wp2_with (go_at_call 49; refine (l1In_v h1 _).mono ?_; rintro e w1 ⟨rfl, rfl⟩)
    go_ret
    exact ⟨rfl, rfl⟩
  · rw [h1, Bool.true_and] at hv
    go_enter Tryz.func48, Tryz.ntmps48
    go_wp2_with (go_at_call 49; refine (l1In_v (by assumption) _).mono ?_; rintro e w1 ⟨rfl, rfl⟩)
    go_ret
    exact ⟨rfl, rfl⟩
end Go.Proofs.YtobbankkfplooaaGreat.K.I
namespace Go.Proofs.YtobbankkfplooaaGreat.K.I
open Go.Shelf Go.RowKit Go.Joins
attribute [local go_sem] Oper.semAt_some

def cutB2 (r : Rc) : Bool := decide (r.t = 2 ∧ ¬ (r.x = 0 ∧ r.y = 0 ∧ r.s = ByteArray.empty))
theorem rec_spec (r : Rc) : recB r = (rgB r.t 1 2 && (rgB r.i 1 100000 && (spotB r.x r.y && (szB r.s && !cutB2 r)))) := by
  obtain ⟨t, i, x, y, s⟩ := r
  unfold recB cutB2
  cases rgB i 1 100000
  · simp
  by_cases h1 : t = 1
  · subst h1; simp [rgB]
  · by_cases h2 : t = 2
    · subst h2
      by_cases h3 : x = 0 ∧ y = 0 ∧ s = ByteArray.empty
      · obtain ⟨rfl, rfl, rfl⟩ := h3; simp [rgB, spotB, szB]
      · have hd : decide (x = 0 ∧ y = 0 ∧ s = ByteArray.empty) = false := decide_eq_false h3
        simp only [hd]; simp [h3]
    · have h3 : rgB t 1 2 = false := decide_eq_false (by omega)
      simp [h1, h2, h3]
theorem rec_f1 {r : Rc} (h : rgB r.t 1 2 = false) : recB r = false := by rw [rec_spec, h]; simp
theorem rec_f2 {r : Rc} (h : rgB r.i 1 100000 = false) : recB r = false := by rw [rec_spec, h]; simp
theorem rec_f3 {r : Rc} (h : spotB r.x r.y = false) : recB r = false := by rw [rec_spec, h]; simp
theorem rec_f4 {r : Rc} (h : szB r.s = false) : recB r = false := by rw [rec_spec, h]; simp
theorem rec_f5 {r : Rc} (h : cutB2 r = true) : recB r = false := by rw [rec_spec, h]; simp
theorem rec_t {r : Rc} (h1 : rgB r.t 1 2 = true) (h2 : rgB r.i 1 100000 = true) (h3 : spotB r.x r.y = true) (h4 : szB r.s = true) (h5 : cutB2 r = false) : recB r = true := by rw [rec_spec, h1, h2, h3, h4, h5]; rfl
theorem its_no1 {L : List Rc} {k : Nat} {r : Rc} (hg : L[k]? = some r) (h : recB r = false) : itsB L = false := by
  unfold itsB; rw [all_no hg h]; simp
theorem its_no2 {L : List Rc} {j k : Nat} {a b : Rc} (hjk : j < k) (ha : L[j]? = some a) (hb : L[k]? = some b) (h : a.i = b.i) : itsB L = false := by
  have : oneB L = false := by
    refine decide_eq_false fun hp => ?_
    have := List.pairwise_iff_getElem.1 hp j k (List.getElem?_eq_some_iff.1 ha).1 (List.getElem?_eq_some_iff.1 hb).1 hjk
    rw [(List.getElem?_eq_some_iff.1 ha).2, (List.getElem?_eq_some_iff.1 hb).2] at this
    exact this h
  unfold itsB; rw [this]; simp
theorem its_yes {L : List Rc} {n : Nat} (hn : L.length = n) (h1 : 1 ≤ n) (h6 : n ≤ 6) (ha : L.all recB = true) (ho : ∀ (j k : Nat) (a b : Rc), j < k → L[j]? = some a → L[k]? = some b → a.i ≠ b.i) : itsB L = true := by
  rw [itsB_eq hn, decide_eq_true h1, decide_eq_true h6, ha]
  have : oneB L = true := by
    refine decide_eq_true (List.pairwise_iff_getElem.2 fun i j hi hj hij => ho i j _ _ hij (List.getElem?_eq_getElem hi) (List.getElem?_eq_getElem hj))
  rw [this]; rfl
set_option maxRecDepth 100000 in
set_option maxHeartbeats 4000000 in
theorem sIts_v {L : List Rc} {v : Bool} (hv : itsB L = v) (p : Option Addr) (cap n : Nat) (hn : L.length = n) (w : World) (hL : SlG kR w p L) (hb0 : n ≤ 10000000) :
    Calls Tryz.prog 80 #[.slice p n cap] w fun e w' => e = .returned (.bool v) ∧ Below w.heap.size w w' := by
  have HN := Lib.hid hn
  have HV := Lib.hid hv
  by_cases h1 : 1 ≤ n
  · have h1' : ¬ (n : Int) < 1 := by omega
    by_cases h6 : n ≤ 6
    · have h6' : ¬ (n : Int) > 6 := by omega
      have h6'' : ¬ (6 : Int) < n := by omega
      clear hn hv
      go_enter Tryz.func80, Tryz.ntmps80
      go_wp2
      go_loopw [3] (fun i wr => ∃ k : Nat, k ≤ n ∧ i = .int .i64 k ∧ Hid ((L.take k).all recB = true ∧ ∀ (i j : Nat) (a b : Rc), i < j → j < k → L[i]? = some a → L[j]? = some b → a.i ≠ b.i) ∧ Below w.heap.size w wr) (fun i _ => n - (intOf i).toNat)
      case atStart => exact ⟨0, by omega, rfl, ⟨rfl, fun i j a b _ h => by omega⟩, Below.refl _ _⟩
      case round =>
        obtain ⟨k, hk, rfl, hall, hb⟩ := hrel
        by_cases hlt : k < n
        · have hki : (k : Int) < n := by omega
          have hkL : k < L.length := by rw [HN.out]; exact hlt
          obtain ⟨g, off, rfl, hC⟩ := hL.at hkL
          have hg := List.getElem?_eq_getElem hkL
          have ht := all_take (f := recB) hkL
          generalize L[k] = r at hg ht
          have HCC : Hid (CsG kR w g off L) := hC
          obtain ⟨c0, c1, c2, c3, c4⟩ := (hC.step hb).i5 hg
          have HG : Hid (L[k]? = some r ∧ (L.take (k + 1)).all recB = ((L.take k).all recB && recB r)) := ⟨hg, ht⟩
          clear hg ht hC
          obtain ⟨rt, ri, rx, ry, rs⟩ := r
          simp only at c0 c1 c2 c3 c4
          have hs0 := (St.nil wr).push [.int .i64 rt, .int .i64 ri, .int .i64 rx, .int .i64 ry, .string rs] 91
          cases h1 : rgB rt 1 2
          · go_wp2_with (first | (go_at_call 49; refine (l1In_v (by assumption) _).mono ?_; rintro e w1 ⟨rfl, rfl⟩) | (go_at_call 92; refine (l1Spot_v h3 _).mono ?_; rintro e w1 ⟨rfl, hb1⟩; have hs1 := hs0.step hb1; have hkk := hs1.has; simp [Has, HasAt] at hkk))
            go_ret
            exact ⟨ret_bool (by rw [← HV.out]; exact (its_no1 HG.out.1 (rec_f1 h1)).symm), bstep hb hs0.bel (Nat.le_refl _)⟩
          cases h2 : rgB ri 1 100000
          · go_wp2_with (first | (go_at_call 49; refine (l1In_v (by assumption) _).mono ?_; rintro e w1 ⟨rfl, rfl⟩) | (go_at_call 92; refine (l1Spot_v h3 _).mono ?_; rintro e w1 ⟨rfl, hb1⟩; have hs1 := hs0.step hb1; have hkk := hs1.has; simp [Has, HasAt] at hkk))
            go_ret
            exact ⟨ret_bool (by rw [← HV.out]; exact (its_no1 HG.out.1 (rec_f2 h2)).symm), bstep hb hs0.bel (Nat.le_refl _)⟩
          cases h3 : spotB rx ry
          · go_wp2_with (first | (go_at_call 49; refine (l1In_v (by assumption) _).mono ?_; rintro e w1 ⟨rfl, rfl⟩) | (go_at_call 92; refine (l1Spot_v h3 _).mono ?_; rintro e w1 ⟨rfl, hb1⟩; have hs1 := hs0.step hb1; have hkk := hs1.has; simp [Has, HasAt] at hkk))
            go_ret
            exact ⟨ret_bool (by rw [← HV.out]; exact (its_no1 HG.out.1 (rec_f3 h3)).symm), bstep hb hs1.bel (Nat.le_refl _)⟩
          cases h4 : szB rs
          · have h5 : ¬ (rs.size : Int) ≤ 20 := of_decide_eq_false (szB_i h4)
            have h5' : (rs.size : Int) > 20 := by omega
            go_wp2_with (first | (go_at_call 49; refine (l1In_v (by assumption) _).mono ?_; rintro e w1 ⟨rfl, rfl⟩) | (go_at_call 92; refine (l1Spot_v h3 _).mono ?_; rintro e w1 ⟨rfl, hb1⟩; have hs1 := hs0.step hb1; have hkk := hs1.has; simp [Has, HasAt] at hkk))
            go_ret
            exact ⟨ret_bool (by rw [← HV.out]; exact (its_no1 HG.out.1 (rec_f4 h4)).symm), bstep hb hs1.bel (Nat.le_refl _)⟩
          have h5 : (rs.size : Int) ≤ 20 := of_decide_eq_true (szB_i h4)
          have h5' : ¬ (rs.size : Int) > 20 := by omega
          have h5'' : ¬ (20 : Int) < rs.size := by omega
          have HRR : Hid (∀ r : Rc, r = ⟨rt, ri, rx, ry, rs⟩ → cutB2 r = false → recB r = true) := fun r e h => by subst e; exact rec_t h1 h2 h3 h4 h
          by_cases ht2 : rt = 2
          · subst ht2
            by_cases e5 : rs.toList = []
            · have es : rs = ByteArray.empty := toList_inj (by rw [e5, no_bytes])
              subst es
              by_cases ex : rx = 0
              · subst ex
                by_cases ey : ry = 0
                · subst ey
                  have HR : Hid (recB ⟨2, ri, 0, 0, ByteArray.empty⟩ = true) := HRR.out _ rfl (by unfold cutB2; simp)
                  clear HRR
                  go_wp2_with (first | (go_at_call 49; refine (l1In_v (by assumption) _).mono ?_; rintro e w1 ⟨rfl, rfl⟩) | (go_at_call 92; refine (l1Spot_v h3 _).mono ?_; rintro e w1 ⟨rfl, hb1⟩; have hs1 := hs0.step hb1; have hkk := hs1.has; simp [Has, HasAt] at hkk))
                  go_loopw [5] (fun iv wr2 => ∃ j : Nat, j ≤ k ∧ iv = .int .i64 j ∧ Hid (∀ (i : Nat) (a : Rc), i < j → L[i]? = some a → a.i ≠ ri) ∧ St wr wr2 [(wr.heap.size, [.int .i64 2, .int .i64 ri, .int .i64 0, .int .i64 0, .string ByteArray.empty])]) (fun iv _ => k - (intOf iv).toNat)
                  case atStart => exact ⟨0, by omega, rfl, fun i a h => by omega, hs1⟩
                  case round =>
                    clear hs1 hkk
                    obtain ⟨j, hj, rfl, hin, hs2⟩ := hrel
                    by_cases hjk : j < k
                    · have hji : (j : Int) < k := by omega
                      have hjL : j < L.length := by rw [HN.out]; omega
                      have hjn : (j : Int) < n := by omega
                      have hga := List.getElem?_eq_getElem hjL
                      generalize L[j] = a at hga
                      obtain ⟨d0, d1, d2, d3, d4⟩ := (HCC.out.step (bstep hb hs2.bel (Nat.le_refl _))).i5 hga
                      have hkk := hs2.has
                      simp [Has, HasAt] at hkk
                      have HA : Hid (L[j]? = some a) := hga
                      clear hga d0 d2 d3 d4
                      by_cases he : a.i = ri
                      · have hd : (a.i == ri) = true := by simp [he]
                        go_wp2
                        go_region
                        all_goals
                          go_wp2
                          go_ret
                          exact ⟨ret_bool (by rw [← HV.out]; exact (its_no2 hjk HA.out HG.out.1 he).symm), bstep hb hs2.dr.bel (Nat.le_refl _)⟩
                      · have hd : (a.i == ri) = false := by simp [he]
                        go_wp2
                        go_region
                        all_goals
                          go_wp2
                          go_roundw
                          case rel => exact ⟨j + 1, by omega, by go_num, fun i a' hi ha' => by
                            by_cases e : i = j
                            · subst e; rw [HA.out] at ha'; cases ha'; exact he
                            · exact hin.out i a' (by omega) ha', hs2.dr⟩
                          case measure => simp [intOf]; omega
                    · obtain rfl : j = k := by omega
                      go_wp2
                      go_roundw
                      case rel => exact ⟨j + 1, by omega, by go_num, ⟨by rw [HG.out.2, hall.out.1, HR.out]; rfl, fun i m a b him hm ha hbm => by
                        by_cases e : m = j
                        · subst e
                          rw [HG.out.1] at hbm; cases hbm
                          exact hin.out i a him ha
                        · exact hall.out.2 i m a b him (by omega) ha hbm⟩, bstep hb hs2.bel (Nat.le_refl _)⟩
                      case measure => simp [intOf]; omega
                · have HF : Hid (itsB L = false) := its_no1 HG.out.1 (rec_f5 (by unfold cutB2; simp [ey]))
                  go_wp2_with (first | (go_at_call 49; refine (l1In_v (by assumption) _).mono ?_; rintro e w1 ⟨rfl, rfl⟩) | (go_at_call 92; refine (l1Spot_v h3 _).mono ?_; rintro e w1 ⟨rfl, hb1⟩; have hs1 := hs0.step hb1; have hkk := hs1.has; simp [Has, HasAt] at hkk))
                  go_ret
                  exact ⟨ret_bool (by rw [← HV.out, HF.out]), bstep hb hs1.bel (Nat.le_refl _)⟩
              · have HF : Hid (itsB L = false) := its_no1 HG.out.1 (rec_f5 (by unfold cutB2; simp [ex]))
                go_wp2_with (first | (go_at_call 49; refine (l1In_v (by assumption) _).mono ?_; rintro e w1 ⟨rfl, rfl⟩) | (go_at_call 92; refine (l1Spot_v h3 _).mono ?_; rintro e w1 ⟨rfl, hb1⟩; have hs1 := hs0.step hb1; have hkk := hs1.has; simp [Has, HasAt] at hkk))
                go_ret
                exact ⟨ret_bool (by rw [← HV.out, HF.out]), bstep hb hs1.bel (Nat.le_refl _)⟩
            · have es : ¬ rs = ByteArray.empty := fun h => e5 (by rw [h, no_bytes])
              have HF : Hid (itsB L = false) := its_no1 HG.out.1 (rec_f5 (by unfold cutB2; simp [es]))
              go_wp2_with (first | (go_at_call 49; refine (l1In_v (by assumption) _).mono ?_; rintro e w1 ⟨rfl, rfl⟩) | (go_at_call 92; refine (l1Spot_v h3 _).mono ?_; rintro e w1 ⟨rfl, hb1⟩; have hs1 := hs0.step hb1; have hkk := hs1.has; simp [Has, HasAt] at hkk))
              go_ret
              exact ⟨ret_bool (by rw [← HV.out, HF.out]), bstep hb hs1.bel (Nat.le_refl _)⟩
          · have ht1 : rt = 1 := by have := of_decide_eq_true h1; omega
            subst ht1
            have HR : Hid (recB ⟨1, ri, rx, ry, rs⟩ = true) := HRR.out _ rfl (by unfold cutB2; simp)
            clear HRR
            go_wp2_with (first | (go_at_call 49; refine (l1In_v (by assumption) _).mono ?_; rintro e w1 ⟨rfl, rfl⟩) | (go_at_call 92; refine (l1Spot_v h3 _).mono ?_; rintro e w1 ⟨rfl, hb1⟩; have hs1 := hs0.step hb1; have hkk := hs1.has; simp [Has, HasAt] at hkk))
            go_loopw [5] (fun iv wr2 => ∃ j : Nat, j ≤ k ∧ iv = .int .i64 j ∧ Hid (∀ (i : Nat) (a : Rc), i < j → L[i]? = some a → a.i ≠ ri) ∧ St wr wr2 [(wr.heap.size, [.int .i64 1, .int .i64 ri, .int .i64 rx, .int .i64 ry, .string rs])]) (fun iv _ => k - (intOf iv).toNat)
            case atStart => exact ⟨0, by omega, rfl, fun i a h => by omega, hs1⟩
            case round =>
              clear hs1 hkk
              obtain ⟨j, hj, rfl, hin, hs2⟩ := hrel
              by_cases hjk : j < k
              · have hji : (j : Int) < k := by omega
                have hjL : j < L.length := by rw [HN.out]; omega
                have hjn : (j : Int) < n := by omega
                have hga := List.getElem?_eq_getElem hjL
                generalize L[j] = a at hga
                obtain ⟨d0, d1, d2, d3, d4⟩ := (HCC.out.step (bstep hb hs2.bel (Nat.le_refl _))).i5 hga
                have hkk := hs2.has
                simp [Has, HasAt] at hkk
                have HA : Hid (L[j]? = some a) := hga
                clear hga d0 d2 d3 d4
                by_cases he : a.i = ri
                · have hd : (a.i == ri) = true := by simp [he]
                  go_wp2
                  go_region
                  all_goals
                    go_wp2
                    go_ret
                    exact ⟨ret_bool (by rw [← HV.out]; exact (its_no2 hjk HA.out HG.out.1 he).symm), bstep hb hs2.dr.bel (Nat.le_refl _)⟩
                · have hd : (a.i == ri) = false := by simp [he]
                  go_wp2
                  go_region
                  all_goals
                    go_wp2
                    go_roundw
                    case rel => exact ⟨j + 1, by omega, by go_num, fun i a' hi ha' => by
                      by_cases e : i = j
                      · subst e; rw [HA.out] at ha'; cases ha'; exact he
                      · exact hin.out i a' (by omega) ha', hs2.dr⟩
                    case measure => simp [intOf]; omega
              · obtain rfl : j = k := by omega
                go_wp2
                go_roundw
                case rel => exact ⟨j + 1, by omega, by go_num, ⟨by rw [HG.out.2, hall.out.1, HR.out]; rfl, fun i m a b him hm ha hbm => by
                  by_cases e : m = j
                  · subst e
                    rw [HG.out.1] at hbm; cases hbm
                    exact hin.out i a him ha
                  · exact hall.out.2 i m a b him (by omega) ha hbm⟩, bstep hb hs2.bel (Nat.le_refl _)⟩
                case measure => simp [intOf]; omega
        · obtain rfl : k = n := by omega
          go_wp2
          go_ret
          exact ⟨ret_bool (by rw [← HV.out]; exact (its_yes HN.out h1 h6 (by have := hall.out.1; rwa [List.take_of_length_le (by rw [HN.out]; exact Nat.le_refl _)] at this) (fun i j a b hij ha hb => hall.out.2 i j a b hij (by have := (List.getElem?_eq_some_iff.1 hb).1; rw [HN.out] at this; exact this) ha hb)).symm), hb⟩
    · have h6' : (n : Int) > 6 := by omega
      have h6'' : (6 : Int) < n := by omega
      have HE : Hid (v = false) := (by rw [← hv, itsB_eq hn, decide_eq_false h6]; simp : v = false)
      clear hn hv hL HV
      go_enter Tryz.func80, Tryz.ntmps80
      go_wp2
      go_ret
      exact ⟨ret_bool (by rw [HE.out]), Below.refl _ _⟩
  · have h1' : (n : Int) < 1 := by omega
    have HE : Hid (v = false) := (by rw [← hv, itsB_eq hn, decide_eq_false h1]; simp : v = false)
    clear hn hv hL HV
    go_enter Tryz.func80, Tryz.ntmps80
    go_wp2
    go_ret
    exact ⟨ret_bool (by rw [HE.out]), Below.refl _ _⟩
end Go.Proofs.YtobbankkfplooaaGreat.K.I
