/-
  The program's joined: four Cells as an array; four that are one Cell's quarters become one.
-/
import Derived.Test.YtbkiogedipmioaaGreatVMJ2
import Derived.Test.YtbkiogedipmioaaGreatVMG3
import Derived.Test.YtbkiogedipmioaaGreatVMA4
import Derived.Deep.AppendLies
namespace Go.Proofs.YtbkiogedipmioaaGreat.V.M
open Go.RowKit Go.Joins
attribute [local go_sem ↓] Go.wp_at_zero Go.wp_at_succ

set_option maxRecDepth 100000 in
set_option maxHeartbeats 4000000 in
theorem fourOf_any (g off n cap : Nat) (a b c d : T3) (w : World) (h : Cs w g off [a, b, c, d]) (hn : 4 ≤ n) :
    Calls Tryz.prog 143 #[.slice (some ⟨g, off, none⟩) n cap] w fun e w' => e = .returned (.agg #[.int .i64 a.l, .int .i64 a.x, .int .i64 a.y, .int .i64 b.l, .int .i64 b.x, .int .i64 b.y, .int .i64 c.l, .int .i64 c.x, .int .i64 c.y, .int .i64 d.l, .int .i64 d.x, .int .i64 d.y]) ∧ Below w.heap.size w w' := by
  obtain ⟨hg, hc⟩ := h
  have h0 := hc 0 a rfl
  have h1 := hc 1 b rfl
  have h2 := hc 2 c rfl
  have h3 := hc 3 d rfl
  simp at h0 h1 h2 h3
  have hni : (4 : Int) ≤ n := by omega
  have l0 : (0 : Int) < n := by omega
  have l1 : (1 : Int) < n := by omega
  have l2 : (2 : Int) < n := by omega
  have l3 : (3 : Int) < n := by omega
  go_enter Tryz.func143, Tryz.ntmps143
  go_wp2
  go_region
  go_wp2
  refine bodyPost_ret (v := .agg #[.int .i64 a.l, .int .i64 a.x, .int .i64 a.y, .int .i64 b.l, .int .i64 b.x, .int .i64 b.y, .int .i64 c.l, .int .i64 c.x, .int .i64 c.y, .int .i64 d.l, .int .i64 d.x, .int .i64 d.y]) (by simp [results, Tryz.results143, go_sem]) rfl ⟨rfl, (below_alloc1 _ _).drew⟩

/-- What Up answers of a right Cell. -/
def T3.gup (c : T3) : T3 := ⟨uL c.l c.x c.y, uX c.l c.x c.y, uY c.l c.x c.y⟩
theorem gup_ok {c : T3} (h : c.ok = true) : c.gup.ok = true ∧ c.gup.l < 8 := by
  have h' : cellB c.l c.x c.y = true := h
  obtain ⟨h0, h8, hx, hx1, hy, hy1⟩ := ok_iff.mp h
  by_cases e : c.l = 0
  · have : c.gup = zro := by simp [T3.gup, uL, uX, uY, e, zro]
    rw [this]; exact ⟨by decide, by decide⟩
  · have : c.gup = c.up := by simp [T3.gup, uL, uX, uY, h', e, T3.up]
    rw [this]; exact ⟨up_ok' h (by omega), by show c.l - 1 < 8; omega⟩
theorem gup_q {u : T3} (hu : u.ok = true) (hl : u.l < 8) {i : Nat} (hi : i < 4) : (u.q i).gup = u := by
  have hq := q_ok hu hl hi
  have h' : cellB (u.q i).l (u.q i).x (u.q i).y = true := hq
  have hne : (u.q i).l ≠ 0 := by have := (ok_iff.mp hu).1; show u.l + 1 ≠ 0; omega
  have : (u.q i).gup = (u.q i).up := by simp [T3.gup, uL, uX, uY, h', hne, T3.up]
  rw [this, q_up hi]
theorem qs_flat (u : T3) : qs u.l u.x u.y 4 = flat [u.q 0, u.q 1, u.q 2, u.q 3] := by simp [qs, qc, flat, T3.vs, T3.q]
theorem has_cs {W : World} {g : Nat} {L : List T3} (h : Has W [(g, flat L)]) : Cs W g 0 L := by
  refine ⟨h.1.1, fun k c hk => ?_⟩
  have hh := h.1.2.2
  have get : ∀ (vs : List Value) (i j : Nat) (v : Value), HasAt W g i vs → vs[j]? = some v → W.cell? ⟨g, i + j, none⟩ = some v := by
    intro vs
    induction vs with
    | nil => intro i j v _ hj; simp at hj
    | cons x t ih =>
      intro i j v hv hj
      cases j with
      | zero => simp at hj; subst hj; exact hv.1
      | succ j => have := ih (i + 1) j v hv.2 (by simpa using hj); rwa [show i + (j + 1) = i + 1 + j by omega]
  obtain ⟨f0, f1, f2⟩ := flat_get hk
  have := get _ 0 _ _ hh f0
  have := get _ 0 _ _ hh f1
  have := get _ 0 _ _ hh f2
  simp only [Nat.zero_add] at *
  exact ⟨by assumption, by assumption, by assumption⟩
theorem iUp_g (c : T3) (w : World) :
    Calls Tryz.prog 133 #[.agg #[.int .i64 c.l, .int .i64 c.x, .int .i64 c.y]] w fun e w' => e = .returned (.agg #[.int .i64 c.gup.l, .int .i64 c.gup.x, .int .i64 c.gup.y]) ∧ Below w.heap.size w w' := iUp_any c.l c.x c.y w
theorem iQuarters_g {u : T3} (hu : u.ok = true) (hl : u.l < 8) (w : World) :
    Calls Tryz.prog 144 #[.agg #[.int .i64 u.l, .int .i64 u.x, .int .i64 u.y]] w fun e w' => ∃ g cap, e = .returned (.slice (some ⟨g, 0, none⟩) 4 cap) ∧ Cs w' g 0 [u.q 0, u.q 1, u.q 2, u.q 3] ∧ Below w.heap.size w w' :=
  (iQuarters_yes hu (by omega) w).mono fun _ _ ⟨g, cap, h1, _, _, h2⟩ => ⟨g, cap, h1, has_cs (by rw [← qs_flat]; exact h2.has), h2.bel⟩
theorem own_take {W : World} {base g N n cap : Nat} {A T : List T3} (h : W.ownsRow base 89 3 (.slice (some ⟨g, 0, none⟩) N cap) N (flat (A ++ T))) (hn : n = A.length) (hN : n ≤ N) : W.ownsRow base 89 3 (.slice (some ⟨g, 0, none⟩) n cap) n (flat A) := by
  obtain ⟨h0, ⟨h1, _⟩ | ⟨g', cap', cur, e, hg, hh, hc, hm, hs, ht⟩⟩ := h
  · cases h1
  · injection e with e1 e2 e3
    injection e1 with e1
    injection e1 with e1
    subst e1 e3
    refine ⟨by rw [flat_len, hn], .inr ⟨g, cap, cur, rfl, hg, hh, by omega, hm, hs, ?_⟩⟩
    rw [flat_append] at ht
    have h5 := congrArg (List.take (n * 3)) ht
    rw [List.take_take, Nat.min_eq_left (Nat.mul_le_mul_right 3 hN), List.take_left' (by rw [flat_len, hn])] at h5
    exact h5
def lenV : Value → Nat
  | .slice _ n _ => n
  | _ => 0
theorem split4 {M : List T3} (h : 4 ≤ M.length) : ∃ A a b c d, M = A ++ [a, b, c, d] := by
  refine ⟨M.take (M.length - 4), M[M.length - 4], M[M.length - 3], M[M.length - 2], M[M.length - 1], ?_⟩
  have e : M.drop (M.length - 4) = [M[M.length - 4], M[M.length - 3], M[M.length - 2], M[M.length - 1]] := by
    rw [List.drop_eq_getElem_cons (by omega), List.drop_eq_getElem_cons (by omega), List.drop_eq_getElem_cons (by omega), List.drop_eq_getElem_cons (by omega), List.drop_eq_nil_of_le (by omega)]
    simp only [List.cons.injEq, and_true, true_and]
    refine ⟨?_, ?_, ?_⟩ <;> congr 1 <;> omega
  rw [← e, List.take_append_drop]
theorem Cs.tail4 {W : World} {g : Nat} {A : List T3} {a b c d : T3} (h : Cs W g 0 (A ++ [a, b, c, d])) : Cs W g (A.length * 3) [a, b, c, d] := by
  refine ⟨h.1, fun k x hk => ?_⟩
  have := h.2 (A.length + k) x (by rw [List.getElem?_append_right (by omega)]; simpa using hk)
  rw [show 0 + (A.length + k) * 3 = A.length * 3 + k * 3 by omega] at this
  exact this

set_option maxRecDepth 100000 in
set_option maxHeartbeats 4000000 in
theorem folded_any (base : Nat) (v : Value) (L : List T3) (w : World) (hrow : Ow w base v L) (hpre : Pre L) (hn : L.length ≤ 1000000) (hbase : base ≤ w.heap.size) :
    Calls Tryz.prog 131 #[v] w fun e w' => ∃ v' M, e = .returned v' ∧ Ext base w v w' v' M ∧ Canon M ∧ (∀ n, cov M n ↔ cov L n) ∧ M.length ≤ L.length := by
  obtain ⟨i0, hi, hz0, hz1, hz2⟩ := info_parts info89
  go_enter Tryz.func131, Tryz.ntmps131
  go_wp2
  go_loopw [0] (fun v' wr => ∃ M, Ext base w v wr v' M ∧ Pre M ∧ (∀ n, cov M n ↔ cov L n) ∧ M.length ≤ L.length) (fun v' _ => lenV v')
  case atStart => exact ⟨L, Ext.refl hrow, hpre, fun _ => Iff.rfl, Nat.le_refl _⟩
  case round =>
    rename_i vv _
    obtain ⟨M, hE, hP, hcv, hlen⟩ := hrel
    obtain ⟨p, cap, hvv, hSl⟩ := Ow.form hE.own
    subst hvv
    by_cases h4 : 4 ≤ M.length
    · have h4i : (4 : Int) ≤ M.length := by omega
      obtain ⟨A, a, b, c, d, rfl⟩ := split4 h4
      obtain ⟨g, off, rfl, hCx⟩ := hSl.at (k := 0) (by omega)
      have hoff : off = 0 := by rcases hE.own.2 with ⟨h1, _⟩ | ⟨_, _, _, h1, _⟩ <;> injection h1 with h1 <;> first | (cases h1; done) | (injection h1 with h1; injection h1)
      subst hoff
      clear hCx hSl
      have hC := Ow.cs hE.own
      have hl4 : (A ++ [a, b, c, d]).length = A.length + 4 := by simp
      have hown := hE.own
      unfold Ow at hown
      obtain ⟨d0, d1, d2⟩ := hC.2 (A.length + 3) d (by rw [List.getElem?_append_right (by omega)]; simp)
      simp only [Nat.zero_add] at d0 d1 d2
      have hCr := hC.tail4
      obtain ⟨N, hN⟩ : ∃ N, N = A.length + 4 := ⟨_, rfl⟩
      obtain ⟨m, hm⟩ : ∃ m, m = A.length + 3 := ⟨_, rfl⟩
      obtain ⟨n, hnn⟩ : ∃ n, n = A.length := ⟨_, rfl⟩
      rw [hl4, ← hN] at h4i hlen hown ⊢
      rw [← hm] at d0 d1 d2
      rw [← hnn] at hCr
      have hgl := (hown.lt g rfl).2
      have e1 : (N : Int) - 4 = (n : Int) := by omega
      have e2 : (N : Int) - 1 = (m : Int) := by omega
      have e3 : (n : Int) ≤ (N : Int) := by omega
      have e4 : (m : Int) < (N : Int) := by omega
      have hbig : (N : Int) ≤ 1000000 := by omega
      have HN : Hid (N = A.length + 4) := hN
      have Hm : Hid (m = A.length + 3) := hm
      have Hn : Hid (n = A.length) := hnn
      clear hN hm hnn hl4
      have hdok : d.ok = true := hP.ok d (by simp)
      obtain ⟨huok, hul⟩ := gup_ok hdok
      go_upto_region 4 with (go_at_call 133; refine (iUp_g d _).mono ?_; rintro e w1 ⟨rfl, hb2⟩)
      generalize hu : d.gup = u at huok hul ⊢
      have Hu : Hid (d.gup = u) := hu
      clear hu
      have hst := (((St.nil wr).step hb2).push [.int .i64 u.l, .int .i64 u.x, .int .i64 u.y] 89).sub (l' := [(w1.heap.size, [.int .i64 u.l, .int .i64 u.x, .int .i64 u.y])]) (by simp)
      have hub : wr.heap.size ≤ w1.heap.size := hb2.size
      clear hb2
      generalize w1.alloc _ = W1 at hst ⊢
      generalize w1.heap.size = ub at hst hub ⊢
      have hcap : N ≤ cap := by rcases hown.2 with ⟨h1, _⟩ | ⟨_, _, _, h1, _, _, h2, _⟩; (cases h1); (injection h1 with _ _ h1; omega)
      have hcapi : (N : Int) ≤ cap := by omega
      have hnc : (n : Int) ≤ cap := by omega
      have hcn : ¬ cap = n := by omega
      have hS : ∀ w', St wr w' [(ub, [.int .i64 u.l, .int .i64 u.x, .int .i64 u.y])] → (w'.cell? ⟨ub, 0, none⟩ = some (.int .i64 u.l) ∧ w'.cell? ⟨ub, 1, none⟩ = some (.int .i64 u.x) ∧ w'.cell? ⟨ub, 2, none⟩ = some (.int .i64 u.y)) := fun w' h => by have := h.has; simp [Has, HasAt] at this; simp [this]
      have hcc := hS _ hst
      have hgd : Tryz.prog.eqGuardType Tryz.prog.depth 111 = false := by kernel_rfl
      by_cases hq : a = u.q 0 ∧ b = u.q 1 ∧ c = u.q 2 ∧ d = u.q 3
      · have hQx : ∀ {w' : World} {gq : Nat}, Cs w' gq 0 [u.q 0, u.q 1, u.q 2, u.q 3] → Cs w' gq 0 [a, b, c, d] := fun h => by rw [hq.1, hq.2.1, hq.2.2.1, hq.2.2.2]; exact h
        have Hq : Hid (a = u.q 0 ∧ b = u.q 1 ∧ c = u.q 2 ∧ d = u.q 3) := hq
        clear hq
        have hneq : ∀ w, (binOp .neq 192 (.agg #[.int .i64 a.l, .int .i64 a.x, .int .i64 a.y, .int .i64 b.l, .int .i64 b.x, .int .i64 b.y, .int .i64 c.l, .int .i64 c.x, .int .i64 c.y, .int .i64 d.l, .int .i64 d.x, .int .i64 d.y]) (.agg #[.int .i64 a.l, .int .i64 a.x, .int .i64 a.y, .int .i64 b.l, .int .i64 b.x, .int .i64 b.y, .int .i64 c.l, .int .i64 c.x, .int .i64 c.y, .int .i64 d.l, .int .i64 d.x, .int .i64 d.y])).run Tryz.prog w = .ok (.bool false) w := fun w => by
          have := run_neq111 a b c d a b c d w
          rwa [eqT_iff.mpr rfl, eqT_iff.mpr rfl, eqT_iff.mpr rfl, eqT_iff.mpr rfl] at this
        go_region_held3 (fun w' => St wr w' [(ub, [.int .i64 u.l, .int .i64 u.x, .int .i64 u.y])] ∧ (w'.cell? ⟨ub, 0, none⟩ = some (.int .i64 u.l) ∧ w'.cell? ⟨ub, 1, none⟩ = some (.int .i64 u.x) ∧ w'.cell? ⟨ub, 2, none⟩ = some (.int .i64 u.y))) (first | exact ‹St _ _ _ ∧ _› | exact keepS hS ((‹St _ _ _ ∧ _›).1.step hb3) | exact keepS hS hst.dr | fail)
          (first
            | (go_at_call 143; refine (fourOf_any _ _ _ _ a b c d _ hQ (by omega)).mono ?_; rintro e w3 ⟨rfl, hb3⟩)
            | (go_at_call 143; refine (fourOf_any _ _ _ _ a b c d _ (hCr.step (‹St _ _ _ ∧ _›).1.bel) (by have := HN.out; have := Hn.out; omega)).mono ?_; rintro e w3 ⟨rfl, hb3⟩)
            | (go_at_call 144; refine (iQuarters_g huok hul _).mono ?_; rintro e w3 ⟨gq, capq, rfl, hQ0, hb3⟩; have hQ := hQx hQ0))
        clear hst hcc
        obtain ⟨hst, hcc⟩ := ‹St _ _ _ ∧ _›
        go_wp2
        have hoT : w3.ownsRow base 89 3 (.slice (some ⟨g, 0, none⟩) n cap) n (flat A) := own_take (own_of_below hown hst.bel) Hn.out (by have := HN.out; have := Hn.out; omega)
        have hz3 : wr.heap.size ≤ w3.heap.size := hst.size
        have hgub : g < ub := by omega
        have hub3 : ub < w3.heap.size := hst.has.1.1
        have hbz : base ≤ w3.heap.size := by have := hE.gr.size; omega
        have hcA : ∀ (o : Obj) (i : Nat), (w3.alloc o).cell? ⟨ub, i, none⟩ = w3.cell? ⟨ub, i, none⟩ := fun o i => (below_alloc1 w3 o).cell (p := ⟨ub, i, none⟩) hub3
        have hA2 : ub < (w3.alloc (.cells #[.int .i64 u.l, .int .i64 u.x, .int .i64 u.y] 89)).heap.size := by simp; omega
        have hne2 : some ub ≠ (Value.slice (some ⟨g, 0, none⟩) n cap).ownBlock := by simp [Value.ownBlock]; omega
        have hnn2 : n ≤ 1000000 := by have := Hn.out; have := HN.out; omega
        go_region_held3 (fun w' => (w'.cell? ⟨ub, 0, none⟩ = some (.int .i64 u.l) ∧ w'.cell? ⟨ub, 1, none⟩ = some (.int .i64 u.x) ∧ w'.cell? ⟨ub, 2, none⟩ = some (.int .i64 u.y))) (first | exact ⟨(hgrow.cell_far ⟨ub, 0, none⟩ hA2 hne2).trans ((hcA _ 0).trans hcc.1), (hgrow.cell_far ⟨ub, 1, none⟩ hA2 hne2).trans ((hcA _ 1).trans hcc.2.1), (hgrow.cell_far ⟨ub, 2, none⟩ hA2 hne2).trans ((hcA _ 2).trans hcc.2.2)⟩ | exact ⟨(hcA _ 0).trans hcc.1, (hcA _ 1).trans hcc.2.1, (hcA _ 2).trans hcc.2.2⟩ | exact hcc | fail)
          ((refine step_append_lies _ (by rfl) _ _ 86 (by rfl) base 89 i0 (.agg #[.int .i64 0, .int .i64 0, .int .i64 0]) 3 24 Tryz.underlying86 hi hz0 hz1 hz2 rfl (by decide) _ _ _ rfl ((hoT.alloc _).drew) ⟨w3.heap.size, 0, none⟩ 1 1 u.vs rfl rfl (cell_three_at rfl) (fun x hx => by simp [T3.vs] at hx; rcases hx with rfl | rfl | rfl <;> rfl) (by decide) (by unfold maxLen; omega) (by omega) (by simp; omega) (w3.heap.size + 1) (by simp) ?_; intro g' cap' w4 hown1 hgrow hat hlt))
        go_wp2
        have hN := HN.out
        have hn' := Hn.out
        obtain ⟨q0, q1, q2, q3⟩ := Hq.out
        rw [q0, q1, q2, q3] at hP hcv
        obtain ⟨hp1, hp2⟩ := Pre.fold huok hul hP
        have hlu : (A ++ [u]).length = n + 1 := by simp [hn']
        have hlM : (A ++ [a, b, c, d]).length = N := by rw [hN]; simp
        rw [hlM] at hE
        go_roundw
        case rel =>
          refine ⟨A ++ [u], hE.trans (Ext.ahead (hst.al (.cells #[.int .i64 u.l, .int .i64 u.x, .int .i64 u.y] 89)).bel.drew ⟨?_, ?_, ?_⟩), hp1, fun k => (hp2 k).trans (hcv k), by rw [hlu]; omega⟩
          · unfold Ow; rw [hlu, flat_append]; exact hown1
          · exact hgrow
          · intro g2 e
            rcases hat with e2 | e2
            · left; exact e2.trans e
            · right
              simp [Value.ownBlock] at e
              subst e; rw [e2]
              simp
        case measure => simp only [lenV]; omega
      · have hQx : ∀ {w' : World} {gq : Nat}, Cs w' gq 0 [u.q 0, u.q 1, u.q 2, u.q 3] → Cs w' gq 0 [u.q 0, u.q 1, u.q 2, u.q 3] := fun h => h
        have hneq : ∀ w, (binOp .neq 192 (.agg #[.int .i64 a.l, .int .i64 a.x, .int .i64 a.y, .int .i64 b.l, .int .i64 b.x, .int .i64 b.y, .int .i64 c.l, .int .i64 c.x, .int .i64 c.y, .int .i64 d.l, .int .i64 d.x, .int .i64 d.y]) (.agg #[.int .i64 (u.q 0).l, .int .i64 (u.q 0).x, .int .i64 (u.q 0).y, .int .i64 (u.q 1).l, .int .i64 (u.q 1).x, .int .i64 (u.q 1).y, .int .i64 (u.q 2).l, .int .i64 (u.q 2).x, .int .i64 (u.q 2).y, .int .i64 (u.q 3).l, .int .i64 (u.q 3).x, .int .i64 (u.q 3).y])).run Tryz.prog w = .ok (.bool true) w := fun w => by
          have := run_neq111 a b c d (u.q 0) (u.q 1) (u.q 2) (u.q 3) w
          have e : (eqT a (u.q 0) && (eqT b (u.q 1) && (eqT c (u.q 2) && eqT d (u.q 3)))) = false := by
            rw [Bool.eq_false_iff]; intro h; simp only [Bool.and_eq_true, eqT_iff] at h; exact hq h
          rwa [e] at this
        have Hq : Hid (¬ (a = u.q 0 ∧ b = u.q 1 ∧ c = u.q 2 ∧ d = u.q 3)) := hq
        clear hq
        go_region_held3 (fun w' => St wr w' [(ub, [.int .i64 u.l, .int .i64 u.x, .int .i64 u.y])] ∧ (w'.cell? ⟨ub, 0, none⟩ = some (.int .i64 u.l) ∧ w'.cell? ⟨ub, 1, none⟩ = some (.int .i64 u.x) ∧ w'.cell? ⟨ub, 2, none⟩ = some (.int .i64 u.y))) (first | exact ‹St _ _ _ ∧ _› | exact keepS hS ((‹St _ _ _ ∧ _›).1.step hb3) | exact keepS hS hst.dr | fail)
          (first
            | (go_at_call 143; refine (fourOf_any _ _ _ _ (u.q 0) (u.q 1) (u.q 2) (u.q 3) _ hQ (by omega)).mono ?_; rintro e w3 ⟨rfl, hb3⟩)
            | (go_at_call 143; refine (fourOf_any _ _ _ _ a b c d _ (hCr.step (‹St _ _ _ ∧ _›).1.bel) (by have := HN.out; have := Hn.out; omega)).mono ?_; rintro e w3 ⟨rfl, hb3⟩)
            | (go_at_call 144; refine (iQuarters_g huok hul _).mono ?_; rintro e w3 ⟨gq, capq, rfl, hQ0, hb3⟩; have hQ := hQx hQ0))
        clear hst hcc
        obtain ⟨hst, hcc⟩ := ‹St _ _ _ ∧ _›
        go_wp2
        have hlM : (A ++ [a, b, c, d]).length = N := by rw [HN.out]; simp
        rw [hlM] at hE
        go_ret
        refine ⟨_, A ++ [a, b, c, d], rfl, hE.behind hst.bel, hP.canon ?_, hcv, by rw [hlM]; exact hlen⟩
        rintro x hx hxl ⟨B, hB⟩
        obtain ⟨_, h5⟩ := List.append_inj' hB (by simp)
        simp only [List.cons.injEq, and_true] at h5
        have hux : u = x := by rw [← Hu.out, h5.2.2.2, gup_q hx hxl (by omega)]
        exact Hq.out (by rw [hux]; exact h5)
    · have h4i : ¬ (4 : Int) ≤ M.length := by omega
      go_wp2
      go_ret
      refine ⟨_, rfl, M, hE, hP.canon ?_, hcv, hlen⟩
      rintro u _ _ ⟨A, hA⟩
      rw [hA] at h4
      simp at h4
end Go.Proofs.YtbkiogedipmioaaGreat.V.M
