/-
  The law of less and more, walked.
-/
import Derived.Test.YtgpgmndjkcpaoaaLM1
import Derived.Test.YtgpgmndjkcpaoaaW5H
import Derived.Deep.Cut
import Derived.Deep.CutRange
namespace Go.Proofs.Ytgpgmndjkcpaoaa
open Go.RowKit Go.Joins
attribute [local go_sem] Oper.semAt_some

theorem below_of_eq {w w' : World} (h : w = w') : Below w.heap.size w w' := by subst h; exact Below.refl _ _
theorem ok_drawn {x y c d : Int} (h1 : 0 ≤ x) (h2 : x < 12) (h3 : 0 ≤ y) (h4 : y < 12) (h5 : 0 ≤ c) (h6 : c < 9) (h7 : 0 ≤ d) (h8 : d < 9) : (⟨x, y, 1 + c, 1 + d⟩ : T4).ok = true := okB_t.mpr (by simp only; omega)
/-- A number that was drawn. -/
structure Pk (x n : Int) : Prop where
  lo : 0 ≤ x
  hi : x < n
theorem r5_end {w w1 : World} {a b : T4} {l : List (Nat × List T4)} {x y p q : Int} (h2 : Rx w w1 l) (k1 : Pk x 12) (k2 : Pk y 12) (k3 : Pk p 9) (k4 : Pk q 9) :
    ∃ (g7 : Nat) (f : T4), Value.slice (some ⟨w1.heap.size, 0, none⟩) 3 3 = .slice (some ⟨g7, 0, none⟩) 3 3 ∧ f.ok = true ∧ Rx w (w1.alloc (.cells #[.int .i64 a.x, .int .i64 a.y, .int .i64 a.w, .int .i64 a.h, .int .i64 b.x, .int .i64 b.y, .int .i64 b.w, .int .i64 b.h, .int .i64 x, .int .i64 y, .int .i64 (1 + p), .int .i64 (1 + q)] 35)) ((g7, [a, b, f]) :: l) :=
  ⟨_, ⟨x, y, 1 + p, 1 + q⟩, rfl, ok_drawn k1.lo k1.hi k2.lo k2.hi k3.lo k3.hi k4.lo k4.hi, h2.push3 rfl a b ⟨x, y, 1 + p, 1 + q⟩⟩
theorem tg_nn {L : List T4} (h : okL L = true) : ¬ tgL L < 0 := by
  have := (sumI_bd ((dps_bd h).drop 1)).1
  rw [tgL, if_pos h]; omega
theorem ar_bd (x y a b : Int) : 0 ≤ areaI x y a b ∧ areaI x y a b ≤ 65536 := by
  unfold areaI
  cases h : okB x y a b
  · simp
  · have := okB_t.mp h
    simp only [if_true]
    exact mul_bd (by omega) (by omega) (by omega) (by omega)
theorem wrp {z : Int} (h1 : -1000000 ≤ z) (h2 : z ≤ 1000000) : IntKind.i64.wrap z = z := by rw [IntKind.wrap_i64]; omega

set_option maxRecDepth 100000 in
set_option maxHeartbeats 32000000 in
theorem lessMore_small (a0 : Option Addr) (len cap : Nat) (zs : List Int) (w : World) (hl : len ≤ 4096) (hr : Rd w w.heap.size a0 len zs) :
    Calls Try.prog 4 #[.slice a0 len cap] w fun e w' => e = .returned (.bool true) ∧ Below w.heap.size w w' := by
  have hl' : decide (4096 < (len : Int)) = false := by simp; omega
  have HRD : Hid (∀ W, Below w.heap.size w W → Rd W W.heap.size a0 len zs) := fun W h => hr.up h h.size
  clear hr
  go_enter Try.func4, Try.ntmps4
  go_upto_region 3 with (go_at_call 9; refine (big_any _ _ _ _).mono ?_; rintro e w1 ⟨rfl, rfl⟩)
  go_cut [3, 4] from 17 (fun s3 s4 wx => ∃ (g3 g4 : Nat) (a b : T4), s3 = .pointer (some ⟨g3, 0, none⟩) ∧ s4 = .pointer (some ⟨g4, 0, none⟩) ∧ Rx w wx [(g4, [b]), (g3, [a])])
  case first =>
    as_aux_lemma =>
      go_wp2_with (go_at_call 24; refine (drawMeet_any a0 len cap zs _ _ hl (HRD.out _ (Below.refl _ _))).mono ?_; rintro e w1 ⟨x1, y1, c1, d1, x2, y2, c2, d2, rfl, hb⟩)
      go_meet
      exact ⟨_, _, ⟨x1, y1, c1, d1⟩, ⟨x2, y2, c2, d2⟩, rfl, rfl, (((Rx.nil w).step hb).push rfl ⟨x1, y1, c1, d1⟩).push (by simp) ⟨x2, y2, c2, d2⟩⟩
  case rest =>
  obtain ⟨g3, g4, a, b, rfl, rfl, h1⟩ := hcut
  go_upto_region 4 with fail
  go_cut [5, 6] from 17 (fun s5 s6 wx => ∃ (g5 g6 : Nat) (c d : T4), s5 = .pointer (some ⟨g5, 0, none⟩) ∧ s6 = .pointer (some ⟨g6, 0, none⟩) ∧ Rx w wx [(g6, [d]), (g5, [c]), (g4, [b]), (g3, [a])])
  case first =>
    as_aux_lemma =>
      go_wp2_with (go_at_call 25; refine (drawAround_any a0 len cap zs _ _ hl (HRD.out _ h1.bel)).mono ?_; rintro e w1 ⟨x1, y1, c1, d1, x2, y2, c2, d2, rfl, hb⟩)
      go_meet
      exact ⟨_, _, ⟨x1, y1, c1, d1⟩, ⟨x2, y2, c2, d2⟩, rfl, rfl, ((h1.step hb).push rfl ⟨x1, y1, c1, d1⟩).push (by simp) ⟨x2, y2, c2, d2⟩⟩
  case rest =>
  clear h1
  obtain ⟨g5, g6, c, d, rfl, rfl, h1⟩ := hcut
  go_upto_region 5 with fail
  go_cut [7] from 17 (fun s7 wx => ∃ (g7 : Nat) (f : T4), s7 = .slice (some ⟨g7, 0, none⟩) 3 3 ∧ f.ok = true ∧ Rx w wx [(g7, [a, b, f]), (g6, [d]), (g5, [c]), (g4, [b]), (g3, [a])])
  case first =>
    (
      have hS : ∀ w', Rx w w' [(g6, [d]), (g5, [c]), (g4, [b]), (g3, [a])] → (w'.cell? ⟨g3, 0, none⟩ = some (.int .i64 a.x) ∧ w'.cell? ⟨g3, 1, none⟩ = some (.int .i64 a.y) ∧ w'.cell? ⟨g3, 2, none⟩ = some (.int .i64 a.w) ∧ w'.cell? ⟨g3, 3, none⟩ = some (.int .i64 a.h) ∧ w'.cell? ⟨g4, 0, none⟩ = some (.int .i64 b.x) ∧ w'.cell? ⟨g4, 1, none⟩ = some (.int .i64 b.y) ∧ w'.cell? ⟨g4, 2, none⟩ = some (.int .i64 b.w) ∧ w'.cell? ⟨g4, 3, none⟩ = some (.int .i64 b.h)) := by
        intro w' h
        obtain ⟨q0_0, q0_1, q0_2, q0_3⟩ := h.r4 (g := g3) (r := a) (by simp)
        obtain ⟨q1_0, q1_1, q1_2, q1_3⟩ := h.r4 (g := g4) (r := b) (by simp)
        exact ⟨q0_0, q0_1, q0_2, q0_3, q1_0, q1_1, q1_2, q1_3⟩
      go_region_held3 (fun w' => Rx w w' [(g6, [d]), (g5, [c]), (g4, [b]), (g3, [a])] ∧ w'.cell? ⟨g3, 0, none⟩ = some (.int .i64 a.x) ∧ w'.cell? ⟨g3, 1, none⟩ = some (.int .i64 a.y) ∧ w'.cell? ⟨g3, 2, none⟩ = some (.int .i64 a.w) ∧ w'.cell? ⟨g3, 3, none⟩ = some (.int .i64 a.h) ∧ w'.cell? ⟨g4, 0, none⟩ = some (.int .i64 b.x) ∧ w'.cell? ⟨g4, 1, none⟩ = some (.int .i64 b.y) ∧ w'.cell? ⟨g4, 2, none⟩ = some (.int .i64 b.w) ∧ w'.cell? ⟨g4, 3, none⟩ = some (.int .i64 b.h)) (first | with_reducible exact ‹Rx _ _ _ ∧ _› | with_reducible exact keepR hS ((‹Rx _ _ _ ∧ _›).1.step hb2) | with_reducible exact keepR hS h1.dr | with_reducible exact keepR hS ((‹Rx _ _ _ ∧ _›).1.al _) | fail)
        ((go_at_call 26; refine (pick_any a0 len cap zs _ _ _ _ hl (HRD.out _ (‹Rx _ _ _ ∧ _›).1.bel) (by omega) (by omega) (by omega)).mono ?_; rintro e w1 ⟨x1, rfl, hx0, hx1, hw⟩; have hpk := Pk.mk hx0 hx1; have hx2 := wrp (z := 1 + x1) (by omega) (by omega); clear hx0 hx1; have hb2 := below_of_eq hw; clear hw; have hR := (‹Rx _ _ _ ∧ _›).1.step hb2))
      all_goals
        go_wp2
        go_meet
        refine r5_end hR ?_ ?_ ?_ ?_ <;> assumption
    )
  case rest =>
  clear h1
  obtain ⟨g7, f, rfl, hfo, h1⟩ := hcut
  obtain ⟨tg, htg⟩ : ∃ z, tgL [a, b, f] = z := ⟨_, rfl⟩
  have HTG : Hid (tgL [a, b, f] = tg) := htg
  clear htg
  go_upto_region 6 with fail
  go_cut [56] from 17 (fun s56 wx => s56 = .bool false ∧ Rx w wx [(g7, [a, b, f]), (g6, [d]), (g5, [c]), (g4, [b]), (g3, [a])])
  case first =>
    as_aux_lemma =>
      obtain ⟨n, hav⟩ : ∃ n : T4, aroundV c.x c.y c.w c.h d.x d.y d.w d.h = .agg #[.int .i64 n.x, .int .i64 n.y, .int .i64 n.w, .int .i64 n.h] := by
        unfold aroundV; split
        · exact ⟨⟨_, _, _, _⟩, rfl⟩
        · exact ⟨⟨_, _, _, _⟩, rfl⟩
      have HA : Hid (aroundV c.x c.y c.w c.h d.x d.y d.w d.h = .agg #[.int .i64 n.x, .int .i64 n.y, .int .i64 n.w, .int .i64 n.h]) := hav
      clear hav
      have hS : ∀ w', Rx w w' [(g7, [a, b, f]), (g6, [d]), (g5, [c]), (g4, [b]), (g3, [a])] → (w'.cell? ⟨g5, 0, none⟩ = some (.int .i64 c.x) ∧ w'.cell? ⟨g5, 1, none⟩ = some (.int .i64 c.y) ∧ w'.cell? ⟨g5, 2, none⟩ = some (.int .i64 c.w) ∧ w'.cell? ⟨g5, 3, none⟩ = some (.int .i64 c.h) ∧ w'.cell? ⟨g6, 0, none⟩ = some (.int .i64 d.x) ∧ w'.cell? ⟨g6, 1, none⟩ = some (.int .i64 d.y) ∧ w'.cell? ⟨g6, 2, none⟩ = some (.int .i64 d.w) ∧ w'.cell? ⟨g6, 3, none⟩ = some (.int .i64 d.h)) := by
        intro w' h
        obtain ⟨q0_0, q0_1, q0_2, q0_3⟩ := h.r4 (g := g5) (r := c) (by simp)
        obtain ⟨q1_0, q1_1, q1_2, q1_3⟩ := h.r4 (g := g6) (r := d) (by simp)
        exact ⟨q0_0, q0_1, q0_2, q0_3, q1_0, q1_1, q1_2, q1_3⟩
      go_region_held3 (fun w' => Rx w w' [(g7, [a, b, f]), (g6, [d]), (g5, [c]), (g4, [b]), (g3, [a])] ∧ w'.cell? ⟨g5, 0, none⟩ = some (.int .i64 c.x) ∧ w'.cell? ⟨g5, 1, none⟩ = some (.int .i64 c.y) ∧ w'.cell? ⟨g5, 2, none⟩ = some (.int .i64 c.w) ∧ w'.cell? ⟨g5, 3, none⟩ = some (.int .i64 c.h) ∧ w'.cell? ⟨g6, 0, none⟩ = some (.int .i64 d.x) ∧ w'.cell? ⟨g6, 1, none⟩ = some (.int .i64 d.y) ∧ w'.cell? ⟨g6, 2, none⟩ = some (.int .i64 d.w) ∧ w'.cell? ⟨g6, 3, none⟩ = some (.int .i64 d.h)) (first | exact ‹Rx _ _ _ ∧ _› | exact keepR hS h1.dr | exact keepR hS ((‹Rx _ _ _ ∧ _›).1.step hb2) | exact keepR hS ((‹Rx _ _ _ ∧ _›).1.al _) | fail)
        (first | (go_at_call 27; refine (iAround_any _ _ _ _ _ _ _ _ _).mono ?_; rw [HA.out]; rintro e w1 ⟨rfl, hb2⟩) | (go_at_call 28; refine (sAround_any _ _ _ _ _ _ _ _ _).mono ?_; rw [HA.out]; rintro e w1 ⟨rfl, hb2⟩) | (go_at_call 11; refine (tog3 (by rfl) ((‹Rx _ _ _ ∧ _›).1.sl (L := [a, b, f]) (by simp)) HTG.out).mono ?_; rintro e w1 ⟨rfl, hb2⟩) | (go_at_call 15; refine (stog3 (by rfl) ((‹Rx _ _ _ ∧ _›).1.sl (L := [a, b, f]) (by simp)) HTG.out).mono ?_; rintro e w1 ⟨rfl, hb2⟩))
      all_goals
        obtain ⟨h2, _⟩ := ‹Rx _ _ _ ∧ _›
        go_wp2
        go_meet
        exact ⟨rfl, h2⟩
  case rest =>
  clear h1
  obtain ⟨rfl, h1⟩ := hcut
  cases hoa : (a.ok && b.ok)
  · have e1 : tg = -1 := by rw [← HTG.out]; exact tgL_no (by rw [okL3, hoa]; rfl)
    subst e1
    have ea := h1.r4 (g := g3) (r := a) (by simp)
    have eb := h1.r4 (g := g4) (r := b) (by simp)
    have eS := h1.sl (g := g7) (L := [a, b, f]) (by simp)
    have hS : Hid (∀ w', Rx w w' [(g7, [a, b, f]), (g6, [d]), (g5, [c]), (g4, [b]), (g3, [a])] → (w'.cell? ⟨g3, 0, none⟩ = some (.int .i64 a.x) ∧ w'.cell? ⟨g3, 1, none⟩ = some (.int .i64 a.y) ∧ w'.cell? ⟨g3, 2, none⟩ = some (.int .i64 a.w) ∧ w'.cell? ⟨g3, 3, none⟩ = some (.int .i64 a.h) ∧ w'.cell? ⟨g4, 0, none⟩ = some (.int .i64 b.x) ∧ w'.cell? ⟨g4, 1, none⟩ = some (.int .i64 b.y) ∧ w'.cell? ⟨g4, 2, none⟩ = some (.int .i64 b.w) ∧ w'.cell? ⟨g4, 3, none⟩ = some (.int .i64 b.h))) := fun w' h => by
      obtain ⟨q0, q1, q2, q3⟩ := h.r4 (g := g3) (r := a) (by simp)
      obtain ⟨p0, p1, p2, p3⟩ := h.r4 (g := g4) (r := b) (by simp)
      exact ⟨q0, q1, q2, q3, p0, p1, p2, p3⟩
    clear ea eb
    go_upto_region 9 with (go_at_call 11; refine (tog3 (by rfl) eS HTG.out).mono ?_; rintro e w1 ⟨rfl, hb2⟩; replace h1 := h1.step hb2; have hcs := hS.out _ h1)
    cases h1o : a.ok
    · have k1 : okB a.x a.y a.w a.h = false := h1o
      go_wp2_with (go_at_call 29; refine (sOk_any _ _ _ _ _).mono ?_; rintro e w2 ⟨rfl, hb3⟩)
      go_ret
      exact ⟨rfl, bstep h1.bel hb3 (Nat.le_refl _)⟩
    · have k1 : okB a.x a.y a.w a.h = true := h1o
      have k2 : okB b.x b.y b.w b.h = false := by have h2o : b.ok = false := (by rw [h1o] at hoa; simpa using hoa); exact h2o
      go_wp2_with (go_at_call 29; refine (sOk_any _ _ _ _ _).mono ?_; rintro e w2 ⟨rfl, hb3⟩; replace h1 := h1.step hb3; clear hcs; have hcs := hS.out _ h1)
      go_ret
      exact ⟨rfl, h1.bel⟩
  obtain ⟨hao, hbo⟩ := (Bool.and_eq_true _ _).mp hoa
  have HO : Hid (a.ok = true ∧ b.ok = true ∧ f.ok = true) := ⟨hao, hbo, hfo⟩
  clear hoa hao hbo hfo
  obtain ⟨m1, hm1⟩ : ∃ m, mtG a b = m := ⟨_, rfl⟩
  obtain ⟨m2, hm2⟩ : ∃ m, mtG b f = m := ⟨_, rfl⟩
  obtain ⟨m3, hm3⟩ : ∃ m, mtG a f = m := ⟨_, rfl⟩
  obtain ⟨m4, hm4⟩ : ∃ m, mtG m1 f = m := ⟨_, rfl⟩
  obtain ⟨f1, hf1⟩ : ∃ m, mtF a b = m := ⟨_, rfl⟩
  obtain ⟨f2, hf2⟩ : ∃ m, mtF b f = m := ⟨_, rfl⟩
  obtain ⟨f3, hf3⟩ : ∃ m, mtF a f = m := ⟨_, rfl⟩
  obtain ⟨f4, hf4⟩ : ∃ m, mtF m1 f = m := ⟨_, rfl⟩
  obtain ⟨n, hn⟩ : ∃ n, (tcL [a, b, f]).length = n := ⟨_, rfl⟩
  have HM : Hid ((mtG a b = m1 ∧ mtF a b = f1) ∧ (mtG b f = m2 ∧ mtF b f = f2) ∧ (mtG a f = m3 ∧ mtF a f = f3) ∧ (mtG m1 f = m4 ∧ mtF m1 f = f4)) := ⟨⟨hm1, hf1⟩, ⟨hm2, hf2⟩, ⟨hm3, hf3⟩, ⟨hm4, hf4⟩⟩
  have HN : Hid ((tcL [a, b, f]).length = n) := hn
  have HTN : Hid ((n : Int) = bI f1 + bI f2 + bI f3) := by show _ = _; rw [← hn, ← hf1, ← hf2, ← hf3]; exact touch3 HO.out.1 HO.out.2.1 HO.out.2.2
  have HF4 : Hid (f4 = true → f1 = true ∧ f2 = true ∧ f3 = true) := fun h => by
    have := four HO.out.1 HO.out.2.1 HO.out.2.2 (by rw [hm1, hf4]; exact h)
    rw [hf1, hf2, hf3] at this; exact this
  have htg : areaI a.x a.y a.w a.h + areaI b.x b.y b.w b.h + areaI f.x f.y f.w f.h - areaI m1.x m1.y m1.w m1.h - areaI m2.x m2.y m2.w m2.h - areaI m3.x m3.y m3.w m3.h + areaI m4.x m4.y m4.w m4.h = tg := by
    have := less_more HO.out.1 HO.out.2.1 HO.out.2.2
    rw [HTG.out, hm1, hm2, hm3, hm4] at this
    exact this.symm
  have hnn : ¬ tg < 0 := by
    rw [← HTG.out]; exact tg_nn (by rw [okL3, HO.out.1, HO.out.2.1, HO.out.2.2]; rfl)
  have HTA : Hid (areaI a.x a.y a.w a.h + areaI b.x b.y b.w b.h + areaI f.x f.y f.w f.h - areaI m1.x m1.y m1.w m1.h - areaI m2.x m2.y m2.w m2.h - areaI m3.x m3.y m3.w m3.h + areaI m4.x m4.y m4.w m4.h = tg) := htg
  clear hm1 hm2 hm3 hm4 hf1 hf2 hf3 hf4 hn htg
  have eS := h1.sl (g := g7) (L := [a, b, f]) (by simp)
  go_upto_region 10 with (go_at_call 11; refine (tog3 (by rfl) eS HTG.out).mono ?_; rintro e w1 ⟨rfl, hb2⟩; replace h1 := h1.step hb2)
  generalize hwx : w1 = W1 at h1 ⊢
  clear hwx eS hnn hb2
  go_cut [8, 9] from 17 (fun s7 s8 wx => ∃ g8 : Nat, s7 = .pointer (some ⟨g8, 0, none⟩) ∧ s8 = .bool f1 ∧ Rx w wx ((g8, [m1]) :: [(g7, [a, b, f]), (g6, [d]), (g5, [c]), (g4, [b]), (g3, [a])]))
  case first =>
    as_aux_lemma =>
      obtain ⟨⟨p0, p1, p2, p3⟩, ⟨p4, p5, p6, p7⟩, ⟨p8, p9, p10, p11⟩⟩ := h1.r12 (g := g7) (a := a) (b := b) (c := f) (by simp)
      have hlt7 := h1.lt (g := g7) (L := [a, b, f]) (by simp)
      go_region_with ((go_at_call 30; refine (meet_mt (a := a) (b := b) HM.out.1.1 HM.out.1.2 _).mono ?_; rintro e w2 ⟨rfl, hb2⟩; obtain ⟨hc, hf⟩ := bcell hb2; have hz2 := hb2.size; simp at hz2))
      all_goals
        go_wp2
        go_meet
        case rel => first
          | exact ⟨_, rfl, rfl, (h1.dr.step hb2).push rfl m1⟩
          | exact ⟨_, rfl, rfl, h1.late hb2 m1⟩
  case rest =>
  clear h1
  obtain ⟨g8, rfl, rfl, h1⟩ := hcut
  go_upto_region 11 with fail
  go_cut [10, 11] from 17 (fun s7 s8 wx => ∃ g10 : Nat, s7 = .pointer (some ⟨g10, 0, none⟩) ∧ s8 = .bool f2 ∧ Rx w wx ((g10, [m2]) :: (g8, [m1]) :: [(g7, [a, b, f]), (g6, [d]), (g5, [c]), (g4, [b]), (g3, [a])]))
  case first =>
    as_aux_lemma =>
      obtain ⟨⟨p0, p1, p2, p3⟩, ⟨p4, p5, p6, p7⟩, ⟨p8, p9, p10, p11⟩⟩ := h1.r12 (g := g7) (a := a) (b := b) (c := f) (by simp)
      have hlt7 := h1.lt (g := g7) (L := [a, b, f]) (by simp)
      go_region_with ((go_at_call 30; refine (meet_mt (a := b) (b := f) HM.out.2.1.1 HM.out.2.1.2 _).mono ?_; rintro e w2 ⟨rfl, hb2⟩; obtain ⟨hc, hf⟩ := bcell hb2; have hz2 := hb2.size; simp at hz2))
      all_goals
        go_wp2
        go_meet
        case rel => first
          | exact ⟨_, rfl, rfl, (h1.dr.step hb2).push rfl m2⟩
          | exact ⟨_, rfl, rfl, h1.late hb2 m2⟩
  case rest =>
  clear h1
  obtain ⟨g10, rfl, rfl, h1⟩ := hcut
  go_upto_region 12 with fail
  go_cut [12, 13] from 17 (fun s7 s8 wx => ∃ g12 : Nat, s7 = .pointer (some ⟨g12, 0, none⟩) ∧ s8 = .bool f3 ∧ Rx w wx ((g12, [m3]) :: (g10, [m2]) :: (g8, [m1]) :: [(g7, [a, b, f]), (g6, [d]), (g5, [c]), (g4, [b]), (g3, [a])]))
  case first =>
    as_aux_lemma =>
      obtain ⟨⟨p0, p1, p2, p3⟩, ⟨p4, p5, p6, p7⟩, ⟨p8, p9, p10, p11⟩⟩ := h1.r12 (g := g7) (a := a) (b := b) (c := f) (by simp)
      have hlt7 := h1.lt (g := g7) (L := [a, b, f]) (by simp)
      go_region_with ((go_at_call 30; refine (meet_mt (a := a) (b := f) HM.out.2.2.1.1 HM.out.2.2.1.2 _).mono ?_; rintro e w2 ⟨rfl, hb2⟩; obtain ⟨hc, hf⟩ := bcell hb2; have hz2 := hb2.size; simp at hz2))
      all_goals
        go_wp2
        go_meet
        case rel => first
          | exact ⟨_, rfl, rfl, (h1.dr.step hb2).push rfl m3⟩
          | exact ⟨_, rfl, rfl, h1.late hb2 m3⟩
  case rest =>
  clear h1
  obtain ⟨g12, rfl, rfl, h1⟩ := hcut
  go_upto_region 13 with fail
  go_cut [14, 15] from 17 (fun s7 s8 wx => ∃ g14 : Nat, s7 = .pointer (some ⟨g14, 0, none⟩) ∧ s8 = .bool f4 ∧ Rx w wx ((g14, [m4]) :: (g12, [m3]) :: (g10, [m2]) :: (g8, [m1]) :: [(g7, [a, b, f]), (g6, [d]), (g5, [c]), (g4, [b]), (g3, [a])]))
  case first =>
    as_aux_lemma =>
      obtain ⟨⟨p0, p1, p2, p3⟩, ⟨p4, p5, p6, p7⟩, ⟨p8, p9, p10, p11⟩⟩ := h1.r12 (g := g7) (a := a) (b := b) (c := f) (by simp)
      obtain ⟨k0, k1, k2, k3⟩ := h1.r4 (g := g8) (r := m1) (by simp)
      have hlt8 := h1.lt (g := g8) (L := [m1]) (by simp)
      have hlt7 := h1.lt (g := g7) (L := [a, b, f]) (by simp)
      go_region_with ((go_at_call 30; refine (meet_mt (a := m1) (b := f) HM.out.2.2.2.1 HM.out.2.2.2.2 _).mono ?_; rintro e w2 ⟨rfl, hb2⟩; obtain ⟨hc, hf⟩ := bcell hb2; have hz2 := hb2.size; simp at hz2))
      all_goals
        go_wp2
        go_meet
        case rel => first
          | exact ⟨_, rfl, rfl, (h1.dr.step hb2).push rfl m4⟩
          | exact ⟨_, rfl, rfl, h1.late hb2 m4⟩
  case rest =>
  clear h1
  obtain ⟨g14, rfl, rfl, h1⟩ := hcut
  go_upto_if 106 with fail
  go_cut [16] from 17 (fun s wx => s = .int .i64 (bI f1) ∧ Rx w wx ((g14, [m4]) :: (g12, [m3]) :: (g10, [m2]) :: (g8, [m1]) :: [(g7, [a, b, f]), (g6, [d]), (g5, [c]), (g4, [b]), (g3, [a])]))
  case first =>
    as_aux_lemma =>
      cases f1 <;> (go_wp2; go_meet; exact ⟨rfl, h1⟩)
  case rest =>
  clear h1
  obtain ⟨rfl, h1⟩ := hcut
  go_upto_if 109 with fail
  go_cut [16] from 17 (fun s wx => s = .int .i64 (bI f1 + bI f2) ∧ Rx w wx ((g14, [m4]) :: (g12, [m3]) :: (g10, [m2]) :: (g8, [m1]) :: [(g7, [a, b, f]), (g6, [d]), (g5, [c]), (g4, [b]), (g3, [a])]))
  case first =>
    as_aux_lemma =>
      cases f1 <;> cases f2 <;> (simp only [bI]; go_wp2; go_meet; exact ⟨rfl, h1⟩)
  case rest =>
  clear h1
  obtain ⟨rfl, h1⟩ := hcut
  go_upto_if 112 with fail
  go_cut [16] from 17 (fun s wx => s = .int .i64 (n : Int) ∧ Rx w wx ((g14, [m4]) :: (g12, [m3]) :: (g10, [m2]) :: (g8, [m1]) :: [(g7, [a, b, f]), (g6, [d]), (g5, [c]), (g4, [b]), (g3, [a])]))
  case first =>
    as_aux_lemma =>
      cases f1 <;> cases f2 <;> cases f3 <;> (simp only [bI]; go_wp2; go_meet; exact ⟨by rw [HTN.out]; rfl, h1⟩)
  case rest =>
  clear h1
  obtain ⟨rfl, h1⟩ := hcut
  go_upto_region 21 with fail
  go_cut [127] from 17 (fun s wx => s = .bool false ∧ Rx w wx ((g14, [m4]) :: (g12, [m3]) :: (g10, [m2]) :: (g8, [m1]) :: [(g7, [a, b, f]), (g6, [d]), (g5, [c]), (g4, [b]), (g3, [a])]))
  case first =>
    as_aux_lemma =>
      cases f4
      · cases f1 <;> cases f2 <;> cases f3 <;> (go_wp2; go_meet; exact ⟨rfl, h1⟩)
      · obtain ⟨rfl, rfl, rfl⟩ := HF4.out rfl
        go_wp2
        go_meet
        exact ⟨rfl, h1⟩
  case rest =>
  clear h1
  obtain ⟨rfl, h1⟩ := hcut
  have B1 := ar_bd a.x a.y a.w a.h
  have B2 := ar_bd b.x b.y b.w b.h
  have B3 := ar_bd f.x f.y f.w f.h
  have B4 := ar_bd m1.x m1.y m1.w m1.h
  have B5 := ar_bd m2.x m2.y m2.w m2.h
  have B6 := ar_bd m3.x m3.y m3.w m3.h
  have B7 := ar_bd m4.x m4.y m4.w m4.h
  go_upto_region 23 with fail
  go_cut [2] from 17 (fun s wx => s = .bool true ∧ Rx w wx ((g14, [m4]) :: (g12, [m3]) :: (g10, [m2]) :: (g8, [m1]) :: [(g7, [a, b, f]), (g6, [d]), (g5, [c]), (g4, [b]), (g3, [a])]))
  case first =>
    as_aux_lemma =>
      have e0 : IntKind.i64.wrap (areaI a.x a.y a.w a.h + areaI b.x b.y b.w b.h) = areaI a.x a.y a.w a.h + areaI b.x b.y b.w b.h := wrp (by omega) (by omega)
      have e1 : IntKind.i64.wrap (areaI a.x a.y a.w a.h + areaI b.x b.y b.w b.h + areaI f.x f.y f.w f.h) = areaI a.x a.y a.w a.h + areaI b.x b.y b.w b.h + areaI f.x f.y f.w f.h := wrp (by omega) (by omega)
      have e2 : IntKind.i64.wrap (areaI a.x a.y a.w a.h + areaI b.x b.y b.w b.h + areaI f.x f.y f.w f.h - areaI m1.x m1.y m1.w m1.h) = areaI a.x a.y a.w a.h + areaI b.x b.y b.w b.h + areaI f.x f.y f.w f.h - areaI m1.x m1.y m1.w m1.h := wrp (by omega) (by omega)
      have e3 : IntKind.i64.wrap (areaI a.x a.y a.w a.h + areaI b.x b.y b.w b.h + areaI f.x f.y f.w f.h - areaI m1.x m1.y m1.w m1.h - areaI m2.x m2.y m2.w m2.h) = areaI a.x a.y a.w a.h + areaI b.x b.y b.w b.h + areaI f.x f.y f.w f.h - areaI m1.x m1.y m1.w m1.h - areaI m2.x m2.y m2.w m2.h := wrp (by omega) (by omega)
      have e4 : IntKind.i64.wrap (areaI a.x a.y a.w a.h + areaI b.x b.y b.w b.h + areaI f.x f.y f.w f.h - areaI m1.x m1.y m1.w m1.h - areaI m2.x m2.y m2.w m2.h - areaI m3.x m3.y m3.w m3.h) = areaI a.x a.y a.w a.h + areaI b.x b.y b.w b.h + areaI f.x f.y f.w f.h - areaI m1.x m1.y m1.w m1.h - areaI m2.x m2.y m2.w m2.h - areaI m3.x m3.y m3.w m3.h := wrp (by omega) (by omega)
      have e5 : IntKind.i64.wrap (areaI a.x a.y a.w a.h + areaI b.x b.y b.w b.h + areaI f.x f.y f.w f.h - areaI m1.x m1.y m1.w m1.h - areaI m2.x m2.y m2.w m2.h - areaI m3.x m3.y m3.w m3.h + areaI m4.x m4.y m4.w m4.h) = areaI a.x a.y a.w a.h + areaI b.x b.y b.w b.h + areaI f.x f.y f.w f.h - areaI m1.x m1.y m1.w m1.h - areaI m2.x m2.y m2.w m2.h - areaI m3.x m3.y m3.w m3.h + areaI m4.x m4.y m4.w m4.h := wrp (by omega) (by omega)
      have HTG2 : Hid (tgL [a, b, f] = areaI a.x a.y a.w a.h + areaI b.x b.y b.w b.h + areaI f.x f.y f.w f.h - areaI m1.x m1.y m1.w m1.h - areaI m2.x m2.y m2.w m2.h - areaI m3.x m3.y m3.w m3.h + areaI m4.x m4.y m4.w m4.h) := by show _ = _; rw [HTA.out]; exact HTG.out
      clear B1 B2 B3 B4 B5 B6 B7
      have hS : ∀ w', Rx w w' ((g14, [m4]) :: (g12, [m3]) :: (g10, [m2]) :: (g8, [m1]) :: [(g7, [a, b, f]), (g6, [d]), (g5, [c]), (g4, [b]), (g3, [a])]) → (w'.cell? ⟨g7, 0, none⟩ = some (.int .i64 a.x) ∧ w'.cell? ⟨g7, 1, none⟩ = some (.int .i64 a.y) ∧ w'.cell? ⟨g7, 2, none⟩ = some (.int .i64 a.w) ∧ w'.cell? ⟨g7, 3, none⟩ = some (.int .i64 a.h) ∧ w'.cell? ⟨g7, 4, none⟩ = some (.int .i64 b.x) ∧ w'.cell? ⟨g7, 5, none⟩ = some (.int .i64 b.y) ∧ w'.cell? ⟨g7, 6, none⟩ = some (.int .i64 b.w) ∧ w'.cell? ⟨g7, 7, none⟩ = some (.int .i64 b.h) ∧ w'.cell? ⟨g7, 8, none⟩ = some (.int .i64 f.x) ∧ w'.cell? ⟨g7, 9, none⟩ = some (.int .i64 f.y) ∧ w'.cell? ⟨g7, 10, none⟩ = some (.int .i64 f.w) ∧ w'.cell? ⟨g7, 11, none⟩ = some (.int .i64 f.h) ∧ w'.cell? ⟨g8, 0, none⟩ = some (.int .i64 m1.x) ∧ w'.cell? ⟨g8, 1, none⟩ = some (.int .i64 m1.y) ∧ w'.cell? ⟨g8, 2, none⟩ = some (.int .i64 m1.w) ∧ w'.cell? ⟨g8, 3, none⟩ = some (.int .i64 m1.h) ∧ w'.cell? ⟨g10, 0, none⟩ = some (.int .i64 m2.x) ∧ w'.cell? ⟨g10, 1, none⟩ = some (.int .i64 m2.y) ∧ w'.cell? ⟨g10, 2, none⟩ = some (.int .i64 m2.w) ∧ w'.cell? ⟨g10, 3, none⟩ = some (.int .i64 m2.h) ∧ w'.cell? ⟨g12, 0, none⟩ = some (.int .i64 m3.x) ∧ w'.cell? ⟨g12, 1, none⟩ = some (.int .i64 m3.y) ∧ w'.cell? ⟨g12, 2, none⟩ = some (.int .i64 m3.w) ∧ w'.cell? ⟨g12, 3, none⟩ = some (.int .i64 m3.h) ∧ w'.cell? ⟨g14, 0, none⟩ = some (.int .i64 m4.x) ∧ w'.cell? ⟨g14, 1, none⟩ = some (.int .i64 m4.y) ∧ w'.cell? ⟨g14, 2, none⟩ = some (.int .i64 m4.w) ∧ w'.cell? ⟨g14, 3, none⟩ = some (.int .i64 m4.h)) := by
        intro w' h
        obtain ⟨⟨q0_0, q0_1, q0_2, q0_3⟩, ⟨q0_4, q0_5, q0_6, q0_7⟩, ⟨q0_8, q0_9, q0_10, q0_11⟩⟩ := h.r12 (g := g7) (a := a) (b := b) (c := f) (by simp)
        obtain ⟨q1_0, q1_1, q1_2, q1_3⟩ := h.r4 (g := g8) (r := m1) (by simp)
        obtain ⟨q2_0, q2_1, q2_2, q2_3⟩ := h.r4 (g := g10) (r := m2) (by simp)
        obtain ⟨q3_0, q3_1, q3_2, q3_3⟩ := h.r4 (g := g12) (r := m3) (by simp)
        obtain ⟨q4_0, q4_1, q4_2, q4_3⟩ := h.r4 (g := g14) (r := m4) (by simp)
        exact ⟨q0_0, q0_1, q0_2, q0_3, q0_4, q0_5, q0_6, q0_7, q0_8, q0_9, q0_10, q0_11, q1_0, q1_1, q1_2, q1_3, q2_0, q2_1, q2_2, q2_3, q3_0, q3_1, q3_2, q3_3, q4_0, q4_1, q4_2, q4_3⟩
      go_region_held3 (fun w' => Rx w w' ((g14, [m4]) :: (g12, [m3]) :: (g10, [m2]) :: (g8, [m1]) :: [(g7, [a, b, f]), (g6, [d]), (g5, [c]), (g4, [b]), (g3, [a])]) ∧ w'.cell? ⟨g7, 0, none⟩ = some (.int .i64 a.x) ∧ w'.cell? ⟨g7, 1, none⟩ = some (.int .i64 a.y) ∧ w'.cell? ⟨g7, 2, none⟩ = some (.int .i64 a.w) ∧ w'.cell? ⟨g7, 3, none⟩ = some (.int .i64 a.h) ∧ w'.cell? ⟨g7, 4, none⟩ = some (.int .i64 b.x) ∧ w'.cell? ⟨g7, 5, none⟩ = some (.int .i64 b.y) ∧ w'.cell? ⟨g7, 6, none⟩ = some (.int .i64 b.w) ∧ w'.cell? ⟨g7, 7, none⟩ = some (.int .i64 b.h) ∧ w'.cell? ⟨g7, 8, none⟩ = some (.int .i64 f.x) ∧ w'.cell? ⟨g7, 9, none⟩ = some (.int .i64 f.y) ∧ w'.cell? ⟨g7, 10, none⟩ = some (.int .i64 f.w) ∧ w'.cell? ⟨g7, 11, none⟩ = some (.int .i64 f.h) ∧ w'.cell? ⟨g8, 0, none⟩ = some (.int .i64 m1.x) ∧ w'.cell? ⟨g8, 1, none⟩ = some (.int .i64 m1.y) ∧ w'.cell? ⟨g8, 2, none⟩ = some (.int .i64 m1.w) ∧ w'.cell? ⟨g8, 3, none⟩ = some (.int .i64 m1.h) ∧ w'.cell? ⟨g10, 0, none⟩ = some (.int .i64 m2.x) ∧ w'.cell? ⟨g10, 1, none⟩ = some (.int .i64 m2.y) ∧ w'.cell? ⟨g10, 2, none⟩ = some (.int .i64 m2.w) ∧ w'.cell? ⟨g10, 3, none⟩ = some (.int .i64 m2.h) ∧ w'.cell? ⟨g12, 0, none⟩ = some (.int .i64 m3.x) ∧ w'.cell? ⟨g12, 1, none⟩ = some (.int .i64 m3.y) ∧ w'.cell? ⟨g12, 2, none⟩ = some (.int .i64 m3.w) ∧ w'.cell? ⟨g12, 3, none⟩ = some (.int .i64 m3.h) ∧ w'.cell? ⟨g14, 0, none⟩ = some (.int .i64 m4.x) ∧ w'.cell? ⟨g14, 1, none⟩ = some (.int .i64 m4.y) ∧ w'.cell? ⟨g14, 2, none⟩ = some (.int .i64 m4.w) ∧ w'.cell? ⟨g14, 3, none⟩ = some (.int .i64 m4.h)) (first | exact ‹Rx _ _ _ ∧ _› | exact keepR hS h1.dr | exact keepR hS ((‹Rx _ _ _ ∧ _›).1.step hb2) | exact keepR hS ((‹Rx _ _ _ ∧ _›).1.al _) | fail)
        (first | (go_at_call 21; refine (iArea_any _ _ _ _ _).mono ?_; rintro e w1 ⟨rfl, hb2⟩) | (go_at_call 11; refine (tog3 (by rfl) ((‹Rx _ _ _ ∧ _›).1.sl (L := [a, b, f]) (by simp)) HTG2.out).mono ?_; rintro e w1 ⟨rfl, hb2⟩) | (go_at_call 14; refine (tou3 (by rfl) ((‹Rx _ _ _ ∧ _›).1.sl (L := [a, b, f]) (by simp)) HN.out).mono ?_; rintro e w1 ⟨p1, cap1, rfl, hb2⟩))
      all_goals
        obtain ⟨h2, _⟩ := ‹Rx _ _ _ ∧ _›
        go_wp2
        go_meet
        exact ⟨rfl, h2⟩
  case rest =>
  obtain ⟨rfl, h2⟩ := hcut
  go_wp2
  go_ret
  exact ⟨rfl, h2.bel⟩
end Go.Proofs.Ytgpgmndjkcpaoaa
