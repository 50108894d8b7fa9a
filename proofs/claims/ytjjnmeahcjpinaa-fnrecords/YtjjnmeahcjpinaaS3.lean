/-
  The spec's Set and Cut.
-/
import Derived.Test.YtjjnmeahcjpinaaS2
import Derived.Test.YtjjnmeahcjpinaaL1
namespace Go.Proofs.Ytjjnmeahcjpinaa
open Go.Shelf Go.RowKit Go.Joins
attribute [local go_sem] Oper.semAt_some

theorem OwG.cap {α : Type} {K : Kd α} {W : World} {base : Nat} {p : Option Addr} {n c : Nat} {L : List α} (h : OwG K W base (.slice p n c) L) : n ≤ c := by
  have hn := OwG.len h
  subst hn
  rcases h.2 with ⟨h1, _⟩ | ⟨_, cap, cur, h1, _, _, hle, _⟩
  · injection h1 with _ a b; omega
  · injection h1 with _ a b; omega
theorem Below.gr {W w' : World} (h : Below W.heap.size W w') (row : Option Nat) : W.grownBy w' row := ⟨h.os, h.tape, h.output, h.size, fun k hk _ => h.block k hk⟩
def sB (L : List Rc) (r : Rc) : Bool := recB r && decide ((swL L r [r]).length ≤ 400)
def sL (L : List Rc) (r : Rc) : List Rc := if sB L r then swL L r [r] else L
theorem setB_eq {L : List Rc} {r : Rc} (h : recsB L = true) : setB L r = sB L r ∧ setL L r = sL L r := by
  have e : setB L r = sB L r := by unfold setB sB; rw [h, Bool.true_and]
  refine ⟨e, ?_⟩
  unfold setL sL; rw [if_pos h, e]
theorem stored5 {w1 : World} {base g n c : Nat} {L : List Rc} (ho : OwG kR w1 base (.slice (some ⟨g, 0, none⟩) n c) L) (k : Nat) (a0 a1 a2 a3 a4 : Value) : w1.grownBy (((((w1.setCell ⟨g, k * 5, none⟩ a0).setCell ⟨g, k * 5 + 1, none⟩ a1).setCell ⟨g, k * 5 + 2, none⟩ a2).setCell ⟨g, k * 5 + 3, none⟩ a3).setCell ⟨g, k * 5 + 4, none⟩ a4) (some g) := by
  have hn := OwG.len ho
  subst hn
  have h0 := own_set ho (k * 5) a0
  have h1 := own_set h0.1 (k * 5 + 1) a1
  have h2 := own_set h1.1 (k * 5 + 2) a2
  have h3 := own_set h2.1 (k * 5 + 3) a3
  have h4 := own_set h3.1 (k * 5 + 4) a4
  exact gtrans (gtrans (gtrans (gtrans h0.2 h1.2) h2.2) h3.2) h4.2
theorem sSetL_any {w W : World} {A Bs : List Rw} {g n c : Nat} {L : List Rc} (hS : Sg w W (A ++ rG kR (.slice (some ⟨g, 0, none⟩) n c) L :: Bs)) (hri : riseB L = true) (hn4 : n ≤ 400) (r : Rc) {M : List Rc} {b : Bool} (hM : sL L r = M) (hb : sB L r = b) :
    Calls Try.prog 58 #[.slice (some ⟨g, 0, none⟩) n c, r.v] W fun e w' => ∃ g' m c', M.length = m ∧ e = .returned (.tuple #[.slice (some ⟨g', 0, none⟩) m c', .bool b]) ∧ Sg w w' (A ++ rG kR (.slice (some ⟨g', 0, none⟩) m c') M :: Bs) ∧ W.grownBy w' (some g) ∧ (g' = g ∨ W.heap.size ≤ g') := by
  have ho := hS.mem (K := kR) (v := .slice (some ⟨g, 0, none⟩) n c) (L := L) (by simp)
  have hn := (OwG.len ho).symm
  have hcap := OwG.cap ho
  have hC := OwG.cs ho
  cases hr : recB r
  · have e : sB L r = false := by unfold sB; rw [hr]; rfl
    have e2 : sL L r = L := by unfold sL; rw [e]; rfl
    rw [e] at hb
    rw [e2] at hM
    subst hb hM
    exact (sSet_bad g c n W r hr).mono fun e w' ⟨h1, h2⟩ => ⟨g, n, c, hn, h1, hS.step h2, Below.gr h2 _, .inl rfl⟩
  · cases ha : isAt L r
    · have hl := @sw_len1 L r
      rw [ha] at hl
      simp only [Bool.false_eq_true, if_false] at hl
      by_cases h4 : n = 400
      · subst h4
        have e : sB L r = false := by unfold sB; rw [hr, decide_eq_false (by omega)]; rfl
        have e2 : sL L r = L := by unfold sL; rw [e]; rfl
        rw [e] at hb
        rw [e2] at hM
        subst hb hM
        exact (sSet_full g c L hn W hC hri r hr ha).mono fun e w' ⟨h1, h2⟩ => ⟨g, 400, c, hn, h1, hS.step h2, Below.gr h2 _, .inl rfl⟩
      · have e : sB L r = true := by unfold sB; rw [hr, decide_eq_true (by omega)]; rfl
        have e2 : sL L r = swL L r [r] := by unfold sL; rw [e]; rfl
        rw [e] at hb
        rw [e2] at hM
        subst hb
        refine (sSet_new g c L n hn W hC hcap (by omega) hri r hr ha hM).mono fun e w' ⟨g', m, c', h0, h1, h2⟩ => ⟨g', m, c', h0, h1, ?_, Below.gr h2.bel _, .inr ?_⟩
        · have h3 := hS.addL h2
          have h4 : Sg w w' ([rG kR (.slice (some ⟨g', 0, none⟩) m c') M] ++ (A ++ Bs)) := h3.sub (by simp)
          exact h4.perm (by simpa using (List.perm_middle (l₁ := A) (l₂ := Bs) (a := rG kR (.slice (some ⟨g', 0, none⟩) m c') M)).symm)
        · exact (World.ownsRow.lt (h2.own _ (List.mem_singleton.2 rfl)) g' rfl).1
    · have hl := @sw_len1 L r
      rw [ha] at hl
      simp only [if_true] at hl
      have e : sB L r = true := by unfold sB; rw [hr, decide_eq_true (by omega)]; rfl
      have e2 : sL L r = L.set (pos L r) r := by unfold sL; rw [e, if_pos rfl, sw_set ha]
      have hp := isAt_lt ha
      rw [e] at hb
      rw [e2] at hM
      subst hb hM
      refine (sSet_at g c L n hn W hC (by omega) hri r hr ha (OwG.fz ho) rfl).mono fun e w' ⟨h1, w1, h2, h3⟩ => ⟨g, n, c, by rw [List.length_set]; exact hn, h1, ?_, ?_, .inl rfl⟩
      · rw [h3]; exact Sg.setR (hS.step h2) hp r
      · rw [h3]; exact gtrans (Below.gr h2 _) (stored5 ((hS.step h2).mem (K := kR) (v := .slice (some ⟨g, 0, none⟩) n c) (L := L) (by simp)) _ _ _ _ _ _)
set_option maxRecDepth 100000 in
set_option maxHeartbeats 1000000 in
theorem sSet_any (p : Addr) (cap : Nat) (L : List Rc) (n : Nat) (hn : L.length = n) (w : World) (hL : SlG kR w (some p) L) (hb0 : n ≤ 10000000) (r : Rc) {M : List Rc} {b : Bool} (hM : setL L r = M) (hb : setB L r = b) :
    Calls Try.prog 20 #[.slice (some p) n cap, r.v] w fun e w' => ∃ q m c, M.length = m ∧ e = .returned (.tuple #[.slice q m c, .bool b]) ∧ Sg w w' [rG kR (.slice q m c) M] := by
  obtain ⟨rt, ri, rx, ry, rs⟩ := r
  have hB := (Sg.nil w).lit kR [⟨rt, ri, rx, ry, rs⟩] 1 rfl (by decide) #[.int .i64 rt, .int .i64 ri, .int .i64 rx, .int .i64 ry, .string rs] rfl
  cases hok : recsB L
  · obtain ⟨e1, e2⟩ := set_no (r := ⟨rt, ri, rx, ry, rs⟩) hok
    rw [e1] at hM
    rw [e2] at hb
    subst hM hb
    have HOK := Lib.hid (fun W h => sOk_v hok (some p) cap n hn W (hL.step h) hb0)
    clear hok hn hL
    go_enter Try.func20, Try.ntmps20
    go_wp2_with (go_at_call 23; refine (HOK.out _ hB.bel).mono ?_; rintro e w1 ⟨rfl, hb1⟩)
    go_ret2
    exact ⟨_, 0, 0, rfl, rfl, sg_lit0 (hB.step hb1).bel⟩
  · obtain ⟨e1, e2⟩ := setB_eq (r := ⟨rt, ri, rx, ry, rs⟩) hok
    rw [e1] at hb
    rw [e2] at hM
    have hn4 := ok_len hok
    rw [hn] at hn4
    have HRI := Lib.hid (ok_rise hok)
    have HOK := Lib.hid (fun W h => sOk_v hok (some p) cap n hn W (hL.step h) hb0)
    have HLL := Lib.hid hL
    have HN := Lib.hid hn
    have HM := Lib.hid hM
    have HBv := Lib.hid hb
    have HSR : Hid (∀ W', Below w.heap.size w W' → ∀ j u, (kR.flat L)[j]? = some u → W'.cell? (p.add j) = some u) := fun W' h => by
      rcases hL.step h with rfl | ⟨g, off, hp, hC⟩
      · intro j u hj; simp [Kd.flat] at hj
      · cases hp; exact cs_src hC
    clear hok hn hL e1 e2 hM hb
    go_enter Try.func20, Try.ntmps20
    go_upto_region 3 with (go_at_call 23; refine (HOK.out _ hB.bel).mono ?_; rintro e w1 ⟨rfl, hb1⟩; have hB1 := hB.step hb1)
    obtain ⟨x0, x1, x2, x3, x4⟩ := box5 (b := w.heap.size) (r := ⟨rt, ri, rx, ry, rs⟩) hB1 (by simp)
    have bne : ¬ w.heap.size = w1.heap.size := by have := World.ownsRow.lt (hB1.own _ (List.mem_singleton.2 rfl)) w.heap.size rfl; omega
    have hSa : Sg w (w1.alloc (.cells #[] 28)) ([] ++ rG kR (.slice (some ⟨w1.heap.size, 0, none⟩) 0 0) [] :: [rG kR (.slice (some ⟨w.heap.size, 0, none⟩) 1 1) [⟨rt, ri, rx, ry, rs⟩]]) := hB1.lit kR [] 0 rfl (by decide) #[] rfl
    have mc1 := box5 (b := w.heap.size) (r := ⟨rt, ri, rx, ry, rs⟩) (hSa.step (Below.refl _ _).drew) (by simp)
    have f1 : True := trivial
    clear hB
    go_region_law (first
      | (clear f1; refine step_sgapp0 appR (by rfl) _ _ (by rfl) (A := []) (B := L) (m := n) hSa ((Below.refl _ _).drew) HN.out (by rfl) p cap (by rfl) (HSR.out _ (hSa.step (Below.refl _ _).drew).bel) (oneRs _) (.inr (by simp)) (by omega) ?_; intro g1 c1 w4 hS4 _ _; have f2 : True := trivial; have mc2 := box5 (b := w.heap.size) (r := ⟨rt, ri, rx, ry, rs⟩) hS4 (by simp))
      | (clear f1; refine step_sgapp0 appR (by rfl) _ _ (by rfl) (A := []) (B := L) (m := n) hSa (Below.refl _ _) HN.out (by rfl) p cap (by rfl) (HSR.out _ hSa.bel) (oneRs _) (.inr (by simp)) (by omega) ?_; intro g1 c1 w4 hS4 _ _; have f2 : True := trivial; have mc2 := box5 (b := w.heap.size) (r := ⟨rt, ri, rx, ry, rs⟩) hS4 (by simp))
      | (clear f2; go_simp; go_at_call 58; refine (sSetL_any hS4 HRI.out hn4 ⟨rt, ri, rx, ry, rs⟩ HM.out HBv.out).mono ?_; rintro e w5 ⟨g', m, c', hml, rfl, hS5, _, _⟩)
      | (clear f2; go_simp; go_at_call 58; refine (sSetL_any (hS4.step (Below.refl _ _).drew) HRI.out hn4 ⟨rt, ri, rx, ry, rs⟩ HM.out HBv.out).mono ?_; rintro e w5 ⟨g', m, c', hml, rfl, hS5, _, _⟩))
    all_goals
      go_wp2
      go_ret2
      subst hml
      exact ⟨_, c', rfl, hS5.sub (by simp)⟩
set_option maxRecDepth 100000 in
set_option maxHeartbeats 1000000 in
theorem sCutL_any (g c : Nat) (L : List Rc) (n : Nat) (hn : L.length = n) (W : World) (hC : CsG kR W g 0 L) (hcap : n ≤ c) (hn4 : n ≤ 1000) (hri : riseB L = true) (t i : Int) (ha : isAt L (kq t i) = true) {M : List Rc} (hM : swL L (kq t i) [] = M) :
    Calls Try.prog 67 #[.slice (some ⟨g, 0, none⟩) n c, .int .i64 t, .int .i64 i] W fun e w' => ∃ g' m c', M.length = m ∧ e = .returned (.tuple #[.slice (some ⟨g', 0, none⟩) m c', .bool true]) ∧ Sg W w' [rG kR (.slice (some ⟨g', 0, none⟩) m c') M] := by
  have hkl := isAt_lt ha
  have hka := atI_yes ha
  have hsw : swL L (kq t i) [] = L.take (pos L (kq t i)) ++ L.drop (pos L (kq t i) + 1) := by unfold swL past; rw [ha]; simp
  obtain ⟨k, hk⟩ : ∃ k, pos L (kq t i) = k := ⟨_, rfl⟩
  rw [hk] at hkl hka hsw
  rw [hM] at hsw
  rw [hn] at hkl
  have HAT : Hid (∀ W', Below W.heap.size W W' → Calls Try.prog 89 #[.slice (some ⟨g, 0, none⟩) n c, .int .i64 t, .int .i64 i] W' fun e w' => e = .returned (.int .i64 (k : Int)) ∧ w' = W') := fun W' h => sAt_any (some ⟨g, 0, none⟩) c L n hn W' (.inr ⟨g, 0, rfl, hC.step h⟩) (by omega) (kq t i) hri hka
  have HSW := Lib.hid hsw
  have HCC := Lib.hid hC
  have HN := Lib.hid hn
  have hki : (k : Int) < n := by omega
  clear hn hC hri ha hk hka hM hsw
  by_cases hck : c = k + 1
  · obtain rfl : n = c := by omega
    have hk1 : n = k + 1 := hck
    have HE : Hid (L.drop (k + 1) = []) := (List.drop_eq_nil_of_le (by rw [HN.out]; omega) : L.drop (k + 1) = [])
    subst hk1
    have q1 : (k : Int) ≤ (k : Int) + 1 := by omega
    have q2 : IntKind.i64.wrap ((k : Int) + 1) = (k : Int) + 1 := wrapI (by omega) (by omega)
    have q3 : (0 : Int) ≤ (k : Int) + 1 := by omega
    have hSa : Sg W (W.alloc (.cells #[] 28)) ([] ++ rG kR (.slice (some ⟨W.heap.size, 0, none⟩) 0 0) [] :: []) := (Sg.nil W).lit kR [] 0 rfl (by decide) #[] rfl
    have HDL : Hid ((([] : List Rc)).length = 0) := (rfl : _ = 0)
    have HTL : Hid ((L.take k).length = k) := (show _ = k by rw [List.length_take, HN.out]; omega)
    have HTK : Hid (∀ W', Below W.heap.size W W' → ∀ j u, (kR.flat (L.take k))[j]? = some u → W'.cell? ((⟨g, 0, none⟩ : Addr).add j) = some u) := fun W' h => cs_src ((HCC.out.step h).take k)
    have HSR : Hid (∀ W', Below W.heap.size W W' → ∀ j u, (kR.flat (([] : List Rc)))[j]? = some u → W'.cell? ((⟨g, 0, none⟩ : Addr).add j) = some u) := fun W' h j u hj => by simp [Kd.flat] at hj
    have f1 : True := trivial
    go_enter Try.func67, Try.ntmps67
    go_upto_region 4 with (go_at_call 89; refine (HAT.out _ (Below.refl _ _)).mono ?_; rintro e w1 ⟨rfl, hw⟩; subst hw)
    go_region_law (first
      | (clear f1; refine step_sgapp0 appR (by rfl) _ _ (by rfl) (A := []) (B := L.take k) (m := k) hSa ((Below.refl _ _).drew) HTL.out (by rfl) ⟨g, 0, none⟩ (k + 1) (by rfl) (HTK.out _ (hSa.step (Below.refl _ _).drew).bel) (oneRs _) (.inr (by simp)) (by omega) ?_; intro g1 c1 w4 hS4 _ _; have f2 : True := trivial)
      | (clear f1; refine step_sgapp0 appR (by rfl) _ _ (by rfl) (A := []) (B := L.take k) (m := k) hSa (Below.refl _ _) HTL.out (by rfl) ⟨g, 0, none⟩ (k + 1) (by rfl) (HTK.out _ hSa.bel) (oneRs _) (.inr (by simp)) (by omega) ?_; intro g1 c1 w4 hS4 _ _; have f2 : True := trivial)
      | (clear f2; refine step_sgapp appR (by rfl) _ _ (by rfl) (A := []) (B := ([] : List Rc)) (n := k) (m := 0) hS4 (Below.refl _ _) HTL.out HDL.out (by rfl) ⟨g, 0, none⟩ (0) (by rfl) (HSR.out _ hS4.bel) (oneRs _) (.inr (by simp)) (by omega) ?_; intro g3 c3 w6 hS6 _ _))
    all_goals
      simp only [List.getElem_toArray, List.getElem_cons_succ, List.getElem_cons_zero, Act.put, List.setIfInBounds_toArray, List.set_cons_succ, List.set_cons_zero]
      go_wp2
      go_ret2
      exact ⟨g3, k + 0, c3, by rw [HSW.out, HE.out, List.length_append, HTL.out]; rfl, rfl, by rw [HSW.out, HE.out]; exact hS6⟩
  · have hkc : k + 1 ≤ c := by omega
    have hck2 : ¬ k + 1 = c := by omega
    have q1 : k ≤ c := by omega
    have q2 : IntKind.i64.wrap ((k : Int) + 1) = (k : Int) + 1 := wrapI (by omega) (by omega)
    have q3 : (0 : Int) ≤ (k : Int) + 1 := by omega
    have q4 : (k : Int) + 1 ≤ n := by omega
    have q5 : n ≤ c := hcap
    have q6 : (n : Int) ≤ c := by omega
    have hSa : Sg W (W.alloc (.cells #[] 28)) ([] ++ rG kR (.slice (some ⟨W.heap.size, 0, none⟩) 0 0) [] :: []) := (Sg.nil W).lit kR [] 0 rfl (by decide) #[] rfl
    have HDL : Hid ((L.drop (k + 1)).length = (n - (k + 1))) := (show _ = (n - (k + 1)) by rw [List.length_drop, HN.out] : _ = (n - (k + 1)))
    have HTL : Hid ((L.take k).length = k) := (show _ = k by rw [List.length_take, HN.out]; omega)
    have HTK : Hid (∀ W', Below W.heap.size W W' → ∀ j u, (kR.flat (L.take k))[j]? = some u → W'.cell? ((⟨g, 0, none⟩ : Addr).add j) = some u) := fun W' h => cs_src ((HCC.out.step h).take k)
    have HSR : Hid (∀ W', Below W.heap.size W W' → ∀ j u, (kR.flat (L.drop (k + 1)))[j]? = some u → W'.cell? ((⟨g, (k + 1) * 5, none⟩ : Addr).add j) = some u) := fun W' h => (by have hh := cs_src ((HCC.out.step h).drop (k + 1)); rw [Nat.zero_add] at hh; exact hh)
    have f1 : True := trivial
    go_enter Try.func67, Try.ntmps67
    go_upto_region 4 with (go_at_call 89; refine (HAT.out _ (Below.refl _ _)).mono ?_; rintro e w1 ⟨rfl, hw⟩; subst hw)
    go_region_law (first
      | (clear f1; refine step_sgapp0 appR (by rfl) _ _ (by rfl) (A := []) (B := L.take k) (m := k) hSa ((Below.refl _ _).drew) HTL.out (by rfl) ⟨g, 0, none⟩ c (by rfl) (HTK.out _ (hSa.step (Below.refl _ _).drew).bel) (oneRs _) (.inr (by simp)) (by omega) ?_; intro g1 c1 w4 hS4 _ _; have f2 : True := trivial)
      | (clear f1; refine step_sgapp0 appR (by rfl) _ _ (by rfl) (A := []) (B := L.take k) (m := k) hSa (Below.refl _ _) HTL.out (by rfl) ⟨g, 0, none⟩ c (by rfl) (HTK.out _ hSa.bel) (oneRs _) (.inr (by simp)) (by omega) ?_; intro g1 c1 w4 hS4 _ _; have f2 : True := trivial)
      | (clear f2; refine step_sgapp appR (by rfl) _ _ (by rfl) (A := []) (B := L.drop (k + 1)) (n := k) (m := (n - (k + 1))) hS4 (Below.refl _ _) HTL.out HDL.out (by rfl) ⟨g, (k + 1) * 5, none⟩ (c - (k + 1)) (by rfl) (HSR.out _ hS4.bel) (oneRs _) (.inr (by simp)) (by omega) ?_; intro g3 c3 w6 hS6 _ _))
    all_goals
      simp only [List.getElem_toArray, List.getElem_cons_succ, List.getElem_cons_zero, Act.put, List.setIfInBounds_toArray, List.set_cons_succ, List.set_cons_zero]
      go_wp2
      go_ret2
      exact ⟨g3, k + (n - (k + 1)), c3, by rw [HSW.out, List.length_append, HTL.out, HDL.out], rfl, by rw [HSW.out]; exact hS6⟩
set_option maxRecDepth 100000 in
set_option maxHeartbeats 1000000 in
theorem sCut_any (p : Addr) (cap : Nat) (L : List Rc) (n : Nat) (hn : L.length = n) (w : World) (hL : SlG kR w (some p) L) (hb0 : n ≤ 10000000) (t i : Int) {M : List Rc} {b : Bool} (hM : cutL L t i = M) (hb : cutB L t i = b) :
    Calls Try.prog 29 #[.slice (some p) n cap, .int .i64 t, .int .i64 i] w fun e w' => ∃ q m c, M.length = m ∧ e = .returned (.tuple #[.slice q m c, .bool b]) ∧ Sg w w' [rG kR (.slice q m c) M] := by
  cases hok : recsB L
  · obtain ⟨e1, e2⟩ := cut_no (t := t) (i := i) hok
    rw [e1] at hM
    rw [e2] at hb
    subst hM hb
    have HOK := Lib.hid (fun W h => sOk_v hok (some p) cap n hn W (hL.step h) hb0)
    clear hok hn hL
    go_enter Try.func29, Try.ntmps29
    go_wp2_with (go_at_call 23; refine (HOK.out _ (Below.refl _ _)).mono ?_; rintro e w1 ⟨rfl, hb1⟩)
    go_ret2
    exact ⟨_, 0, 0, rfl, rfl, sg_lit0 hb1⟩
  · have hn4 := ok_len hok
    rw [hn] at hn4
    have hri := ok_rise hok
    have hcl : swL L (kq t i) [] = M := by rw [← hM]; unfold cutL; rw [if_pos hok]
    have hcb : isAt L (kq t i) = b := by rw [← hb]; unfold cutB; rw [hok, Bool.true_and]
    have HOK := Lib.hid (fun W h => sOk_v hok (some p) cap n hn W (hL.step h) hb0)
    have HN := Lib.hid hn
    have HSR : Hid (∀ W', Below w.heap.size w W' → ∀ j u, (kR.flat L)[j]? = some u → W'.cell? (p.add j) = some u) := fun W' h => by
      rcases hL.step h with rfl | ⟨g, off, hp, hC⟩
      · intro j u hj; simp [Kd.flat] at hj
      · cases hp; exact cs_src hC
    have HCU : Hid (∀ W g c rr, Sg w W (rG kR (.slice (some ⟨g, 0, none⟩) n c) L :: rr) → Calls Try.prog 67 #[.slice (some ⟨g, 0, none⟩) n c, .int .i64 t, .int .i64 i] W fun e w' => ∃ g' m c', M.length = m ∧ e = .returned (.tuple #[.slice (some ⟨g', 0, none⟩) m c', .bool b]) ∧ Sg w w' [rG kR (.slice (some ⟨g', 0, none⟩) m c') M]) := fun W g c rr h => by
      have ho := h.mem (K := kR) (v := .slice (some ⟨g, 0, none⟩) n c) (L := L) (by simp)
      cases b with
      | true => exact (sCutL_any g c L n hn W (OwG.cs ho) (OwG.cap ho) (by omega) hri t i hcb hcl).mono fun e w' ⟨g', m, c', h0, h1, h2⟩ => ⟨g', m, c', h0, h1, (h.addL h2).sub (by simp)⟩
      | false =>
        have hML : M = L := by rw [← hcl]; exact sw_none hcb
        have HAT : Hid (Calls Try.prog 89 #[.slice (some ⟨g, 0, none⟩) n c, .int .i64 t, .int .i64 i] W fun e w' => e = .returned (.int .i64 (-1)) ∧ w' = W) := sAt_any (some ⟨g, 0, none⟩) c L n hn W (.inr ⟨g, 0, rfl, OwG.cs ho⟩) (by omega) (kq t i) hri (atI_no hcb)
        subst hML
        clear hn hL hri hcl hcb ho hok hM hb
        go_enter Try.func67, Try.ntmps67
        go_wp2_with (go_at_call 89; refine HAT.out.mono ?_; rintro e w1 ⟨rfl, hw⟩; subst hw)
        go_ret2
        exact ⟨g, n, c, HN.out, rfl, h.sub (by simp)⟩
    clear hok hn hL hM hb hri hcl hcb
    go_enter Try.func29, Try.ntmps29
    go_wp2_with (first
      | (go_at_call 23; refine (HOK.out _ (Below.refl _ _)).mono ?_; rintro e w1 ⟨rfl, hb1⟩; have hSa := sg_lit0 hb1)
      | (at_builtin; refine wpList_sgapp0 appR rfl _ _ rfl (A := []) (B := L) (m := n) hSa (Below.refl _ _) HN.out rfl p cap rfl (HSR.out _ hSa.bel) (oneRs _) (.inr (by simp)) (by omega) ?_; intro g1 c1 w4 hS4 _ _)
      | (go_at_call 67; refine (HCU.out _ _ _ _ hS4).mono ?_; rintro e w5 ⟨g', m, c', hml, rfl, hS5⟩))
    go_ret2
    exact ⟨_, m, c', hml, rfl, hS5⟩
end Go.Proofs.Ytjjnmeahcjpinaa
