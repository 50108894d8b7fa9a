/-
  Draws: what Permitted is asked.
-/
import Derived.Test.YtbkiogedipmioaaGreatVUD6
import Derived.Test.YtbkiogedipmioaaGreatVLR
namespace Go.Proofs.YtbkiogedipmioaaGreat.V
open Go.RowKit Go.Joins M
attribute [local go_sem] Oper.semAt_some

theorem Sc.toB {w W : World} {C : Cu} {A B : List Rw} {b : Nat} {r : Rw} {x : U.Bv} (h : Sc w W C (A ++ r :: rG U.kB (.slice (some ⟨b, 0, none⟩) 1 1) [x] :: B)) (v : U.Bv) :
    Sc w (((W.setCell ⟨b, 0, none⟩ (.int .i64 v.t)).setCell ⟨b, 1, none⟩ (.int .i64 v.s)).setCell ⟨b, 2, none⟩ (.slice v.v.p v.v.n v.v.c)) C (A ++ r :: rG U.kB (.slice (some ⟨b, 0, none⟩) 1 1) [v] :: B) := by
  have h' : Sc w W C ((A ++ [r]) ++ rG U.kB (.slice (some ⟨b, 0, none⟩) 1 1) [x] :: B) := by simpa using h
  simpa using U.Sc.setB h' v
theorem pickD {a b c d : Rw} {T : List Rw} : (b :: c :: T).Sublist (a :: b :: c :: d :: T) := .cons _ (.cons_cons _ (.cons_cons _ (.cons _ (List.Sublist.refl _))))
set_option maxRecDepth 100000 in
set_option maxHeartbeats 8000000 in
theorem drawPerm_any (a : Option Addr) (len cap : Nat) (zs : List Int) (g : Nat) (w : World) (hl : len ≤ 4096) (hr : Rd w g a len zs) :
    Calls Tryz.prog 6 #[.slice a len cap] w fun e w' => ∃ (tn tag : Int) (q : Option Addr) (n cp : Nat) (X : List CQ) (lg ln lc : Nat) (L : List U.Rc) (t s : Int) (bg bn bc : Nat) (M : List U.Rc) (now : Int), e = .returned (.tuple #[.agg #[.int .i64 tn, .slice q n cp, .int .i64 tag], .slice (some ⟨lg, 0, none⟩) ln lc, .agg #[.int .i64 t, .int .i64 s, .slice (some ⟨bg, 0, none⟩) bn bc], .int .i64 now]) ∧ Hid (pOk X n) ∧ Hid (L.length = ln ∧ ln ≤ 10) ∧ Hid (M.length = bn ∧ bn ≤ 7) ∧ Sg w w' (rG U.I.kR (.slice (some ⟨bg, 0, none⟩) bn bc) M :: rG U.kR (.slice (some ⟨lg, 0, none⟩) ln lc) L :: trX (.slice q n cp) X []) := by
  have hS0 := ((Sg.nil w).lit kP [zpv] 1 rfl (by decide) #[.int .i64 0, .slice none 0 0, .int .i64 0] rfl).lit U.kB [U.zbv] 1 rfl (by decide) #[.int .i64 0, .int .i64 0, .slice none 0 0] rfl
  simp only [World.size_alloc] at hS0
  change Sg w ((w.alloc (.cells #[.int .i64 0, .slice none 0 0, .int .i64 0] 26)).alloc (.cells #[.int .i64 0, .int .i64 0, .slice none 0 0] 30)) _ at hS0
  go_enter Tryz.func6, Tryz.ntmps6
  go_upto_if 23 with (first
    | (go_at_call 24; refine (newC (hS0.perm (.swap _ _ _)) hl hr).mono ?_; rintro e w1 ⟨C, rfl, hS1⟩)
    | (go_at_call 25; refine (paperC hS1).mono ?_; rintro e w2 ⟨key, tn, tag, q, n, cp, X, rfl, hX, hS2⟩; have hS3 := hS2.lit kP [⟨tn, ⟨q, n, cp⟩, tag⟩] 1 rfl (by decide) #[.int .i64 tn, .slice q n cp, .int .i64 tag] rfl; change Sc w (w2.alloc (.cells #[.int .i64 tn, .slice q n cp, .int .i64 tag] 26)) _ _ at hS3)
    | (go_at_call 26; refine (U.anyC hS3).mono ?_; rintro e w3 ⟨lg, ln, lc, L, rfl, HL, hS4⟩)
    | (go_at_call 27; refine (U.batchC hS4).mono ?_; rintro e w4 ⟨t0, s, bg, bn, bc, M, rfl, HM, hS5⟩; have hS6 := hS5.lit U.kB [⟨t0, s, ⟨some ⟨bg, 0, none⟩, bn, bc⟩⟩] 1 rfl (by decide) #[.int .i64 t0, .int .i64 s, .slice (some ⟨bg, 0, none⟩) bn bc] rfl; change Sc w (w4.alloc (.cells #[.int .i64 t0, .int .i64 s, .slice (some ⟨bg, 0, none⟩) bn bc] 30)) _ _ at hS6)
    | (go_at_call 28; refine (onceC hS6 2 (by decide) (by decide)).mono ?_; rintro e w6 ⟨b6, rfl, hS7⟩))
  have g8 : w.heap.size + 1 < w2.heap.size := (U.bat3 hS2.sg (g := w.heap.size + 1) (n := 1) (q := U.zbv) (by simp)).2.2.2.2
  have g9 : w.heap.size + 1 < w4.heap.size := (U.bat3 hS5.sg (g := w.heap.size + 1) (n := 1) (q := U.zbv) (by simp)).2.2.2.2
  have g7 : w2.heap.size < w4.heap.size := (hS5.sg.three (K := kP) (g := w2.heap.size) (n := 1) (p := ⟨tn, ⟨q, n, cp⟩, tag⟩) (by simp) rfl).2.2.2.2
  clear hS0 hS1 hS2 hS3 hS4 hS5 hS6
  generalize w2.heap.size = p8 at *
  generalize w4.heap.size = p9 at *
  go_cut [] from 11 (fun wx => ∃ t : Int, Sc w wx C ((rG U.kB (.slice (some ⟨p9, 0, none⟩) 1 1) [⟨t, s, ⟨some ⟨bg, 0, none⟩, bn, bc⟩⟩] :: rG U.I.kR (.slice (some ⟨bg, 0, none⟩) bn bc) M :: rG U.kR (.slice (some ⟨lg, 0, none⟩) ln lc) L :: rG kP (.slice (some ⟨p8, 0, none⟩) 1 1) [⟨tn, ⟨q, n, cp⟩, tag⟩] :: trX (.slice q n cp) X []) ++ rG kP (.slice (some ⟨w.heap.size, 0, none⟩) 1 1) [zpv] :: rG U.kB (.slice (some ⟨w.heap.size + 1, 0, none⟩) 1 1) [U.zbv] :: []))
  case first =>
    cases b6
    · go_wp2
      go_meet
      exact ⟨t0, hS7⟩
    · obtain ⟨y0, y1, y2, yf, yg⟩ := hS7.sg.three (K := kP) (g := p8) (n := 1) (p := ⟨tn, ⟨q, n, cp⟩, tag⟩) (by simp) rfl
      obtain ⟨x0, x1, x2, xf, xg⟩ := U.bat3 hS7.sg (g := p9) (n := 1) (q := ⟨t0, s, ⟨some ⟨bg, 0, none⟩, bn, bc⟩⟩) (by simp)
      have hS8 := U.Sc.setB0 (A := []) hS7 tn
      go_wp2
      go_meet
      exact ⟨tn, hS8⟩
  case rest =>
    clear hS7
    obtain ⟨t, hS7⟩ := hcut
    have n1 : ¬ p8 = w.heap.size := by omega
    have n2 : ¬ p8 = w.heap.size + 1 := by omega
    have n3 : ¬ p9 = w.heap.size := by omega
    have n4 : ¬ p9 = w.heap.size + 1 := by omega
    have n5 : ¬ w.heap.size = p8 := by omega
    have n6 : ¬ w.heap.size + 1 = p8 := by omega
    have n7 : ¬ w.heap.size = p9 := by omega
    have n8 : ¬ w.heap.size + 1 = p9 := by omega
    have hP1 := Sc.toP hS7 ⟨tn, ⟨q, n, cp⟩, tag⟩
    have hP2 := Sc.toP hS7.dr ⟨tn, ⟨q, n, cp⟩, tag⟩
    have hQ1 := Sc.toB hS7 ⟨t, s, ⟨some ⟨bg, 0, none⟩, bn, bc⟩⟩
    have hQ2 := Sc.toB hS7.dr ⟨t, s, ⟨some ⟨bg, 0, none⟩, bn, bc⟩⟩
    have hR1 := Sc.toB hP1 ⟨t, s, ⟨some ⟨bg, 0, none⟩, bn, bc⟩⟩
    have hR2 := Sc.toB hP2 ⟨t, s, ⟨some ⟨bg, 0, none⟩, bn, bc⟩⟩
    have hT1 := Sc.toP hQ1 ⟨tn, ⟨q, n, cp⟩, tag⟩
    have hT2 := Sc.toP hQ2 ⟨tn, ⟨q, n, cp⟩, tag⟩
    obtain ⟨y0, y1, y2, yf, yg⟩ := hS7.sg.three (K := kP) (g := p8) (n := 1) (p := ⟨tn, ⟨q, n, cp⟩, tag⟩) (by simp) rfl
    obtain ⟨x0, x1, x2, xf, xg⟩ := U.bat3 hS7.sg (g := p9) (n := 1) (q := ⟨t, s, ⟨some ⟨bg, 0, none⟩, bn, bc⟩⟩) (by simp)
    obtain ⟨z0, z1, z2, zf, zg⟩ := hS7.sg.three (K := kP) (g := w.heap.size) (n := 1) (p := zpv) (by simp) rfl
    obtain ⟨s0, s1, s2, sf, sg⟩ := U.bat3 hS7.sg (g := w.heap.size + 1) (n := 1) (q := U.zbv) (by simp)
    go_upto_region 7 with (fail)
    go_region_with (go_at_call 29; refine (fromC (w := w) (C := C) (by first | with_reducible exact hS7 | with_reducible exact hS7.dr | with_reducible exact hP1 | with_reducible exact hP1.dr | with_reducible exact hP2 | with_reducible exact hQ1 | with_reducible exact hQ1.dr | with_reducible exact hQ2 | with_reducible exact hR1 | with_reducible exact hR1.dr | with_reducible exact hR2 | with_reducible exact hT1 | with_reducible exact hT1.dr | with_reducible exact hT2) (-1) 40 (by decide) (by decide) (by decide) (by decide)).mono ?_; rintro e w9 ⟨now, rfl, _, _, hrow⟩; obtain ⟨a0, a1, a2, af, ag⟩ := hrow.sg.three (K := kP) (g := p8) (n := 1) (p := ⟨tn, ⟨q, n, cp⟩, tag⟩) (by simp) rfl; obtain ⟨c0, c1, c2, cf, cg⟩ := U.bat3 hrow.sg (g := p9) (n := 1) (q := ⟨t, s, ⟨some ⟨bg, 0, none⟩, bn, bc⟩⟩) (by simp); (first | obtain ⟨v0, v1, v2, vf, vg⟩ := hrow.sg.three (K := kP) (g := w.heap.size) (n := 1) (p := zpv) (by simp) rfl | obtain ⟨v0, v1, v2, vf, vg⟩ := hrow.sg.three (K := kP) (g := w.heap.size) (n := 1) (p := ⟨tn, ⟨q, n, cp⟩, tag⟩) (by simp) rfl); (first | obtain ⟨t0, t1, t2, tf, tg⟩ := U.bat3 hrow.sg (g := w.heap.size + 1) (n := 1) (q := U.zbv) (by simp) | obtain ⟨t0, t1, t2, tf, tg⟩ := U.bat3 hrow.sg (g := w.heap.size + 1) (n := 1) (q := ⟨t, s, ⟨some ⟨bg, 0, none⟩, bn, bc⟩⟩) (by simp)))
    all_goals go_wp2
    all_goals first
      | (have hF := Sc.toB (Sc.toP (x := zpv) hrow ⟨tn, ⟨q, n, cp⟩, tag⟩) ⟨t, s, ⟨some ⟨bg, 0, none⟩, bn, bc⟩⟩; obtain ⟨u0, u1, u2, uf, ug⟩ := hF.sg.three (K := kP) (g := w.heap.size) (n := 1) (p := ⟨tn, ⟨q, n, cp⟩, tag⟩) (by simp) rfl; obtain ⟨r0, r1, r2, rf, rg⟩ := U.bat3 hF.sg (g := w.heap.size + 1) (n := 1) (q := ⟨t, s, ⟨some ⟨bg, 0, none⟩, bn, bc⟩⟩) (by simp); refine bodyPost_ret (v := .tuple #[.agg #[.int .i64 tn, .slice q n cp, .int .i64 tag], .slice (some ⟨lg, 0, none⟩) ln lc, .agg #[.int .i64 t, .int .i64 s, .slice (some ⟨bg, 0, none⟩) bn bc], .int .i64 now]) (by simp [results, Tryz.results6, go_sem, u0, u1, u2, r0, r1, r2]) rfl ⟨tn, tag, q, n, cp, X, lg, ln, lc, L, t, s, bg, bn, bc, M, now, rfl, hX, HL, HM, ?_⟩; first | with_reducible exact hF.sg.sub (List.Sublist.trans pickD (List.sublist_append_left _ _)) | with_reducible exact hF.dr.sg.sub (List.Sublist.trans pickD (List.sublist_append_left _ _)))
      | (have hF := Sc.toP (x := zpv) (Sc.toB hrow ⟨t, s, ⟨some ⟨bg, 0, none⟩, bn, bc⟩⟩) ⟨tn, ⟨q, n, cp⟩, tag⟩; obtain ⟨u0, u1, u2, uf, ug⟩ := hF.sg.three (K := kP) (g := w.heap.size) (n := 1) (p := ⟨tn, ⟨q, n, cp⟩, tag⟩) (by simp) rfl; obtain ⟨r0, r1, r2, rf, rg⟩ := U.bat3 hF.sg (g := w.heap.size + 1) (n := 1) (q := ⟨t, s, ⟨some ⟨bg, 0, none⟩, bn, bc⟩⟩) (by simp); refine bodyPost_ret (v := .tuple #[.agg #[.int .i64 tn, .slice q n cp, .int .i64 tag], .slice (some ⟨lg, 0, none⟩) ln lc, .agg #[.int .i64 t, .int .i64 s, .slice (some ⟨bg, 0, none⟩) bn bc], .int .i64 now]) (by simp [results, Tryz.results6, go_sem, u0, u1, u2, r0, r1, r2]) rfl ⟨tn, tag, q, n, cp, X, lg, ln, lc, L, t, s, bg, bn, bc, M, now, rfl, hX, HL, HM, ?_⟩; first | with_reducible exact hF.sg.sub (List.Sublist.trans pickD (List.sublist_append_left _ _)) | with_reducible exact hF.dr.sg.sub (List.Sublist.trans pickD (List.sublist_append_left _ _)))
      | (have hF := Sc.toB hrow ⟨t, s, ⟨some ⟨bg, 0, none⟩, bn, bc⟩⟩; obtain ⟨u0, u1, u2, uf, ug⟩ := hF.sg.three (K := kP) (g := w.heap.size) (n := 1) (p := ⟨tn, ⟨q, n, cp⟩, tag⟩) (by simp) rfl; obtain ⟨r0, r1, r2, rf, rg⟩ := U.bat3 hF.sg (g := w.heap.size + 1) (n := 1) (q := ⟨t, s, ⟨some ⟨bg, 0, none⟩, bn, bc⟩⟩) (by simp); refine bodyPost_ret (v := .tuple #[.agg #[.int .i64 tn, .slice q n cp, .int .i64 tag], .slice (some ⟨lg, 0, none⟩) ln lc, .agg #[.int .i64 t, .int .i64 s, .slice (some ⟨bg, 0, none⟩) bn bc], .int .i64 now]) (by simp [results, Tryz.results6, go_sem, u0, u1, u2, r0, r1, r2]) rfl ⟨tn, tag, q, n, cp, X, lg, ln, lc, L, t, s, bg, bn, bc, M, now, rfl, hX, HL, HM, ?_⟩; first | with_reducible exact hF.sg.sub (List.Sublist.trans pickD (List.sublist_append_left _ _)) | with_reducible exact hF.dr.sg.sub (List.Sublist.trans pickD (List.sublist_append_left _ _)))
      | (have hF := Sc.toP (x := zpv) hrow ⟨tn, ⟨q, n, cp⟩, tag⟩; obtain ⟨u0, u1, u2, uf, ug⟩ := hF.sg.three (K := kP) (g := w.heap.size) (n := 1) (p := ⟨tn, ⟨q, n, cp⟩, tag⟩) (by simp) rfl; obtain ⟨r0, r1, r2, rf, rg⟩ := U.bat3 hF.sg (g := w.heap.size + 1) (n := 1) (q := ⟨t, s, ⟨some ⟨bg, 0, none⟩, bn, bc⟩⟩) (by simp); refine bodyPost_ret (v := .tuple #[.agg #[.int .i64 tn, .slice q n cp, .int .i64 tag], .slice (some ⟨lg, 0, none⟩) ln lc, .agg #[.int .i64 t, .int .i64 s, .slice (some ⟨bg, 0, none⟩) bn bc], .int .i64 now]) (by simp [results, Tryz.results6, go_sem, u0, u1, u2, r0, r1, r2]) rfl ⟨tn, tag, q, n, cp, X, lg, ln, lc, L, t, s, bg, bn, bc, M, now, rfl, hX, HL, HM, ?_⟩; first | with_reducible exact hF.sg.sub (List.Sublist.trans pickD (List.sublist_append_left _ _)) | with_reducible exact hF.dr.sg.sub (List.Sublist.trans pickD (List.sublist_append_left _ _)))
      | (have hF := hrow; obtain ⟨u0, u1, u2, uf, ug⟩ := hF.sg.three (K := kP) (g := w.heap.size) (n := 1) (p := ⟨tn, ⟨q, n, cp⟩, tag⟩) (by simp) rfl; obtain ⟨r0, r1, r2, rf, rg⟩ := U.bat3 hF.sg (g := w.heap.size + 1) (n := 1) (q := ⟨t, s, ⟨some ⟨bg, 0, none⟩, bn, bc⟩⟩) (by simp); refine bodyPost_ret (v := .tuple #[.agg #[.int .i64 tn, .slice q n cp, .int .i64 tag], .slice (some ⟨lg, 0, none⟩) ln lc, .agg #[.int .i64 t, .int .i64 s, .slice (some ⟨bg, 0, none⟩) bn bc], .int .i64 now]) (by simp [results, Tryz.results6, go_sem, u0, u1, u2, r0, r1, r2]) rfl ⟨tn, tag, q, n, cp, X, lg, ln, lc, L, t, s, bg, bn, bc, M, now, rfl, hX, HL, HM, ?_⟩; first | with_reducible exact hF.sg.sub (List.Sublist.trans pickD (List.sublist_append_left _ _)) | with_reducible exact hF.dr.sg.sub (List.Sublist.trans pickD (List.sublist_append_left _ _)))
end Go.Proofs.YtbkiogedipmioaaGreat.V
