/-
  Same, the program's and the spec's.
-/
import Derived.Test.YtjjnmeahcjpinaaB7
import Derived.Laws.StructEq
namespace Go.Proofs.Ytjjnmeahcjpinaa
open Go.Shelf Go.RowKit Go.Joins
attribute [local go_sem] Oper.semAt_some

theorem toList_inj {a b : ByteArray} (h : a.toList = b.toList) : a = b := by
  rw [ByteArray.toList_eq, ByteArray.toList_eq] at h
  obtain ⟨⟨x⟩⟩ := a
  obtain ⟨⟨y⟩⟩ := b
  have h' : x = y := h
  rw [h']
theorem rc_ext {a b : Rc} (h1 : a.t = b.t) (h2 : a.i = b.i) (h3 : a.x = b.x) (h4 : a.y = b.y) (h5 : a.s = b.s) : a = b := by
  obtain ⟨_, _, _, _, _⟩ := a
  obtain ⟨_, _, _, _, _⟩ := b
  simp at h1 h2 h3 h4 h5
  subst h1 h2 h3 h4 h5
  rfl
theorem take_more {A B : List Rc} {k : Nat} {a b : Rc} (ha : A[k]? = some a) (hb : B[k]? = some b) (h : a = b) (hI : A.take k = B.take k) : A.take (k + 1) = B.take (k + 1) := by
  subst h
  rw [List.take_add_one, List.take_add_one, ha, hb, hI]
set_option maxRecDepth 100000 in
set_option maxHeartbeats 2000000 in
theorem eql_any (p q : Option Addr) (cap cap' : Nat) (A B : List Rc) (n : Nat) (ha : A.length = n) (hb : B.length = n) (w : World) (hp : SlG kR w p A) (hq : SlG kR w q B) (hb0 : n ≤ 10000000) {v : Bool} (hv : A = B ↔ v = true) :
    Calls Try.prog 66 #[.slice p n cap, .slice q n cap'] w fun e w' => e = .returned (.bool v) ∧ Below w.heap.size w w' := by
  have HA := Lib.hid ha
  have HB := Lib.hid hb
  have HV : Hid (A ≠ B → v = false) := fun h => by cases v; rfl; exact absurd (hv.2 rfl) h
  have HY : Hid (A = B → v = true) := hv.1
  clear ha hb hv
  go_enter Try.func66, Try.ntmps66
  go_wp2
  go_loopw [13] (fun i wr => ∃ k : Nat, k ≤ n ∧ i = .int .i64 k ∧ Hid (A.take k = B.take k) ∧ Below w.heap.size w wr) (fun i _ => n - (intOf i).toNat)
  case atStart => exact ⟨0, by omega, rfl, (rfl : A.take 0 = B.take 0), Below.refl _ _⟩
  case round =>
    obtain ⟨k, hk, rfl, hI, hbl⟩ := hrel
    by_cases hlt : k < n
    · have hki : (k : Int) < n := by omega
      have hkA : k < A.length := by rw [HA.out]; exact hlt
      have hkB : k < B.length := by rw [HB.out]; exact hlt
      obtain ⟨g, off, rfl, hC⟩ := (hp.step hbl).at hkA
      obtain ⟨g2, off2, rfl, hC2⟩ := (hq.step hbl).at hkB
      have hga := getR hkA
      have hgb := getR hkB
      obtain ⟨c0, c1, c2, c3, c4⟩ := hC.r5 hga
      obtain ⟨d0, d1, d2, d3, d4⟩ := hC2.r5 hgb
      generalize A.getD k zrc = a at hga c0 c1 c2 c3 c4
      generalize B.getD k zrc = b at hgb d0 d1 d2 d3 d4
      have HT : Hid (a = b → Hid (A.take (k + 1) = B.take (k + 1))) := fun h => take_more hga hgb h hI.out
      have HF : Hid (a ≠ b → v = false) := fun h => HV.out (fun e => h (by rw [e] at hga; rw [hga] at hgb; exact Option.some.inj hgb))
      clear hC hC2 hga hgb
      by_cases e1 : a.t = b.t
      · by_cases e2 : a.i = b.i
        · by_cases e3 : a.x = b.x
          · by_cases e4 : a.y = b.y
            · by_cases e5 : a.s.toList = b.s.toList
              · have hab : a = b := rc_ext e1 e2 e3 e4 (toList_inj e5)
                subst hab
                have hN := HT.out rfl
                clear e1 e2 e3 e4 e5
                go_wp2
                go_region
                all_goals
                  go_wp2
                  go_roundw
                  case rel => exact ⟨k + 1, by omega, by go_num, hN, hbl.drew⟩
                  case measure => simp [intOf]; omega
              · have hne : a ≠ b := fun h => e5 (by rw [h])
                go_wp2
                go_region
                all_goals
                  go_wp2
                  go_ret
                  exact ⟨ret_bool (HF.out hne).symm, hbl.drew⟩
            · have hne : a ≠ b := fun h => e4 (by rw [h])
              go_wp2
              go_region
              all_goals
                go_wp2
                go_ret
                exact ⟨ret_bool (HF.out hne).symm, hbl.drew⟩
          · have hne : a ≠ b := fun h => e3 (by rw [h])
            go_wp2
            go_region
            all_goals
              go_wp2
              go_ret
              exact ⟨ret_bool (HF.out hne).symm, hbl.drew⟩
        · have hne : a ≠ b := fun h => e2 (by rw [h])
          go_wp2
          go_region
          all_goals
            go_wp2
            go_ret
            exact ⟨ret_bool (HF.out hne).symm, hbl.drew⟩
      · have hne : a ≠ b := fun h => e1 (by rw [h])
        go_wp2
        go_region
        all_goals
          go_wp2
          go_ret
          exact ⟨ret_bool (HF.out hne).symm, hbl.drew⟩
    · obtain rfl : k = n := by omega
      have HE : Hid (A = B) := (by have h := hI.out; rwa [List.take_of_length_le (by rw [HA.out]; exact Nat.le_refl _), List.take_of_length_le (by rw [HB.out]; exact Nat.le_refl _)] at h : A = B)
      go_wp2
      go_ret
      exact ⟨ret_bool (HY.out HE.out).symm, hbl⟩
set_option maxHeartbeats 1000000 in
theorem iSame_any (p q : Option Addr) (cap cap' : Nat) (A B : List Rc) (n m : Nat) (ha : A.length = n) (hb : B.length = m) (w : World) (hp : SlG kR w p A) (hq : SlG kR w q B) (hb0 : n ≤ 10000000) (hb1 : m ≤ 10000000) {v : Bool} (hv : (recsB A = true ∧ A = B) ↔ v = true) :
    Calls Try.prog 27 #[.slice p n cap, .slice q m cap'] w fun e w' => e = .returned (.bool v) ∧ Below w.heap.size w w' := by
  cases hok : recsB A
  · obtain rfl : v = false := by cases v; rfl; exact absurd (hv.2 rfl).1 (by rw [hok]; simp)
    have HOK := Lib.hid (iOk_v hok p cap n ha w hp hb0)
    clear hok hv ha hb
    go_enter Try.func27, Try.ntmps27
    go_wp2_with (go_at_call 22; refine HOK.out.mono ?_; rintro e w1 ⟨rfl, hb1⟩)
    go_ret
    exact ⟨rfl, hb1⟩
  · have HOK := Lib.hid (iOk_v hok p cap n ha w hp hb0)
    have hv' : A = B ↔ v = true := by rw [← hv]; simp [hok]
    have HEQ : Hid (∀ W, Below w.heap.size w W → Calls Try.prog 66 #[.slice p n cap, .slice q m cap'] W fun e w' => e = .returned (.bool v) ∧ Below W.heap.size W w') := fun W h => by
      by_cases hnm : n = m
      · subst hnm
        exact eql_any p q cap cap' A B n ha hb W (hp.step h) (hq.step h) hb0 hv'
      · obtain rfl : v = false := by
          cases v
          · rfl
          · have := hv'.2 rfl; rw [this, hb] at ha; exact absurd ha.symm hnm
        have h2 : ¬ (n : Int) = m := by omega
        have h3 : ((n : Int) != (m : Int)) = true := by simp; omega
        clear HOK hok hv hv' ha hb
        go_enter Try.func66, Try.ntmps66
        go_wp2
        go_ret
        exact ⟨rfl, Below.refl _ _⟩
    clear hok hv hv' ha hb
    go_enter Try.func27, Try.ntmps27
    go_wp2_with (first
      | (go_at_call 22; refine HOK.out.mono ?_; rintro e w1 ⟨rfl, hb1⟩)
      | (go_at_call 66; refine (HEQ.out _ hb1).mono ?_; rintro e w2 ⟨rfl, hb2⟩))
    go_ret
    exact ⟨rfl, bstep hb1 hb2 (Nat.le_refl _)⟩
set_option maxRecDepth 100000 in
set_option maxHeartbeats 2000000 in
theorem sSame_any (p q : Option Addr) (cap cap' : Nat) (A B : List Rc) (n m : Nat) (ha : A.length = n) (hb : B.length = m) (w : World) (hp : SlG kR w p A) (hq : SlG kR w q B) (hb0 : n ≤ 10000000) (hb1 : m ≤ 10000000) {v : Bool} (hv : (recsB A = true ∧ A = B) ↔ v = true) :
    Calls Try.prog 28 #[.slice p n cap, .slice q m cap'] w fun e w' => e = .returned (.bool v) ∧ Below w.heap.size w w' := by
  have HO := Lib.hid (fun W b (h : Below w.heap.size w W) (hok : recsB A = b) => sOk_v hok p cap n ha W (hp.step h) hb0)
  have HO2 := Lib.hid (fun W b (h : Below w.heap.size w W) (hok : recsB B = b) => sOk_v hok q cap' m hb W (hq.step h) hb1)
  cases hok : recsB A
  · obtain rfl : v = false := by cases v; rfl; exact absurd (hv.2 rfl).1 (by rw [hok]; simp)
    clear hv ha hb HO2
    go_enter Try.func28, Try.ntmps28
    go_wp2_with (go_at_call 23; refine (HO.out _ _ (Below.refl _ _) hok).mono ?_; rintro e w1 ⟨rfl, hb1⟩)
    go_ret
    exact ⟨rfl, hb1⟩
  · have hv' : A = B ↔ v = true := by rw [← hv]; simp [hok]
    cases hok2 : recsB B
    · obtain rfl : v = false := by cases v; rfl; have := hv'.2 rfl; rw [this, hok2] at hok; cases hok
      clear hv hv' ha hb
      have f1 : True := trivial
      go_enter Try.func28, Try.ntmps28
      go_wp2_with (first
        | (go_at_call 23; clear f1; refine (HO.out _ _ (Below.refl _ _) hok).mono ?_; rintro e w1 ⟨rfl, hb1⟩)
        | (go_at_call 23; refine (HO2.out _ _ hb1 hok2).mono ?_; rintro e w2 ⟨rfl, hb2⟩))
      go_ret
      exact ⟨rfl, bstep hb1 hb2 (Nat.le_refl _)⟩
    · by_cases hnm : n = m
      · subst hnm
        have HA := Lib.hid ha
        have HB := Lib.hid hb
        have HV : Hid (A ≠ B → v = false) := fun h => by cases v; rfl; exact absurd (hv'.2 rfl) h
        have HY : Hid (A = B → v = true) := hv'.1
        clear hv hv' ha hb
        have f1 : True := trivial
        go_enter Try.func28, Try.ntmps28
        go_upto_region 4 with (first
          | (go_at_call 23; clear f1; refine (HO.out _ _ (Below.refl _ _) hok).mono ?_; rintro e w1 ⟨rfl, hb1⟩)
          | (go_at_call 23; refine (HO2.out _ _ hb1 hok2).mono ?_; rintro e w2 ⟨rfl, hb2⟩))
        have hbw := bstep hb1 hb2 (Nat.le_refl _)
        clear hok hok2
        go_loopw [5] (fun i wr => ∃ k : Nat, k ≤ n ∧ i = .int .i64 k ∧ Hid (A.take k = B.take k) ∧ Below w.heap.size w wr) (fun i _ => n - (intOf i).toNat)
        case atStart => exact ⟨0, by omega, rfl, (rfl : A.take 0 = B.take 0), hbw⟩
        case round =>
          obtain ⟨k, hk, rfl, hI, hbl⟩ := hrel
          by_cases hlt : k < n
          · have hki : (k : Int) < n := by omega
            have hkA : k < A.length := by rw [HA.out]; exact hlt
            have hkB : k < B.length := by rw [HB.out]; exact hlt
            obtain ⟨g, off, rfl, hC⟩ := (hp.step hbl).at hkA
            obtain ⟨g2, off2, rfl, hC2⟩ := (hq.step hbl).at hkB
            have hga := getR hkA
            have hgb := getR hkB
            obtain ⟨c0, c1, c2, c3, c4⟩ := hC.r5 hga
            obtain ⟨d0, d1, d2, d3, d4⟩ := hC2.r5 hgb
            generalize A.getD k zrc = a at hga c0 c1 c2 c3 c4
            generalize B.getD k zrc = b at hgb d0 d1 d2 d3 d4
            have HT : Hid (a = b → Hid (A.take (k + 1) = B.take (k + 1))) := fun h => take_more hga hgb h hI.out
            have HF : Hid (a ≠ b → v = false) := fun h => HV.out (fun e => h (by rw [e] at hga; rw [hga] at hgb; exact Option.some.inj hgb))
            clear hC hC2 hga hgb
            by_cases e1 : a.t = b.t
            · by_cases e2 : a.i = b.i
              · by_cases e3 : a.x = b.x
                · by_cases e4 : a.y = b.y
                  · by_cases e5 : a.s.toList = b.s.toList
                    · have hab : a = b := rc_ext e1 e2 e3 e4 (toList_inj e5)
                      subst hab
                      have hN := HT.out rfl
                      clear e1 e2 e3 e4 e5
                      go_wp2
                      go_region
                      all_goals
                        go_wp2
                        go_roundw
                        case rel => exact ⟨k + 1, by omega, by go_num, hN, hbl.drew⟩
                        case measure => simp [intOf]; omega
                    · have hne : a ≠ b := fun h => e5 (by rw [h])
                      go_wp2
                      go_region
                      all_goals
                        go_wp2
                        go_ret
                        exact ⟨ret_bool (HF.out hne).symm, hbl.drew⟩
                  · have hne : a ≠ b := fun h => e4 (by rw [h])
                    go_wp2
                    go_region
                    all_goals
                      go_wp2
                      go_ret
                      exact ⟨ret_bool (HF.out hne).symm, hbl.drew⟩
                · have hne : a ≠ b := fun h => e3 (by rw [h])
                  go_wp2
                  go_region
                  all_goals
                    go_wp2
                    go_ret
                    exact ⟨ret_bool (HF.out hne).symm, hbl.drew⟩
              · have hne : a ≠ b := fun h => e2 (by rw [h])
                go_wp2
                go_region
                all_goals
                  go_wp2
                  go_ret
                  exact ⟨ret_bool (HF.out hne).symm, hbl.drew⟩
            · have hne : a ≠ b := fun h => e1 (by rw [h])
              go_wp2
              go_region
              all_goals
                go_wp2
                go_ret
                exact ⟨ret_bool (HF.out hne).symm, hbl.drew⟩
          · obtain rfl : k = n := by omega
            have HE : Hid (A = B) := (by have h := hI.out; rwa [List.take_of_length_le (by rw [HA.out]; exact Nat.le_refl _), List.take_of_length_le (by rw [HB.out]; exact Nat.le_refl _)] at h : A = B)
            go_wp2
            go_ret
            exact ⟨ret_bool (HY.out HE.out).symm, hbl⟩
      · obtain rfl : v = false := by
          cases v
          · rfl
          · have := hv'.2 rfl; rw [this, hb] at ha; exact absurd ha.symm hnm
        have h2 : ¬ (n : Int) = m := by omega
        have h3 : ((n : Int) != (m : Int)) = true := by simp; omega
        clear hv hv' ha hb
        have f1 : True := trivial
        go_enter Try.func28, Try.ntmps28
        go_wp2_with (first
          | (go_at_call 23; clear f1; refine (HO.out _ _ (Below.refl _ _) hok).mono ?_; rintro e w1 ⟨rfl, hb1⟩)
          | (go_at_call 23; refine (HO2.out _ _ hb1 hok2).mono ?_; rintro e w2 ⟨rfl, hb2⟩))
        go_ret
        exact ⟨rfl, bstep hb1 hb2 (Nat.le_refl _)⟩
end Go.Proofs.Ytjjnmeahcjpinaa
