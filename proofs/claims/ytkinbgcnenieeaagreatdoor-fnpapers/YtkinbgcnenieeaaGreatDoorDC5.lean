/-
  Draws: what DrawNarrowed draws.
-/
import Derived.Test.YtkinbgcnenieeaaGreatDoorDC4
namespace Go.Proofs.YtkinbgcnenieeaaGreatDoor
open Go.RowKit Go.Joins M
attribute [local go_sem] Oper.semAt_some

theorem rdQ_zero (W : World) : RdQ W zcl zsv zsv := ⟨.inl rfl, rfl, .inl rfl, rfl, by decide, by decide⟩
theorem sNarZ (tn tag : Int) {q : Option Addr} {n cp : Nat} {X : List CQ} {w W : World} {rs : List Rw} (hS : Sg w W rs) (hX : Hid (pOk X n)) (hmX : ∀ r ∈ trX (.slice q n cp) X [], r ∈ rs) :
    Calls Tryz.prog 10 #[.agg #[.int .i64 tn, .slice q n cp, .int .i64 tag], .agg #[.slice none 0 0, .slice none 0 0, .int .i64 0]] W (PapA W) := by
  obtain ⟨x1, x2, x3⟩ := hX.out
  exact (sNarrowed_any tn tag q cp n X x1 (by omega) x3 (hS.okQ hmX) zcl zsv zsv (by decide) (by decide) (.inr rfl) (.inr rfl) W (hS.rdS x3.q hmX) (rdQ_zero W)).mono fun _ _ h => h.a (narP_len ..)
theorem Sc.toP {w W : World} {C : Cu} {A T B : List Rw} {r6 r3 : Rw} {b : Nat} {x : Pv} (h : Sc w W C (A ++ (r6 :: (T ++ r3 :: rG kP (.slice (some ⟨b, 0, none⟩) 1 1) [x] :: B)))) (v : Pv) :
    Sc w (((W.setCell ⟨b, 0, none⟩ (.int .i64 v.tn)).setCell ⟨b, 1, none⟩ (.slice v.s.p v.s.n v.s.c)).setCell ⟨b, 2, none⟩ (.int .i64 v.tag)) C (A ++ (r6 :: (T ++ r3 :: rG kP (.slice (some ⟨b, 0, none⟩) 1 1) [v] :: B))) := by
  have h1 := Sc.setP (A := A ++ (r6 :: (T ++ [r3]))) (g := b) (n := 1) (a := x) (Bs := B) (by simpa [List.append_assoc] using h) v
  simpa [List.append_assoc] using h1
theorem Sc.toQ {w W : World} {C : Cu} {A T B : List Rw} {r6 : Rw} {b : Nat} {x : CQ} (h : Sc w W C (A ++ (r6 :: (T ++ rG kQ (.slice (some ⟨b, 0, none⟩) 1 1) [x] :: B)))) (c : Cl) (s t : Sv) :
    Sc w (((W.setCell ⟨b, 0, none⟩ (.slice s.p s.n s.c)).setCell ⟨b, 1, none⟩ (.slice t.p t.n t.c)).setCell ⟨b, 2, none⟩ (.int .i64 c.un)) C (A ++ (r6 :: (T ++ rG kQ (.slice (some ⟨b, 0, none⟩) 1 1) [(c, s, t)] :: B))) := by
  have h1 := Sc.setQ (A := A ++ (r6 :: T)) (g := b) (n := 1) (x := x) (Bs := B) (by simpa [List.append_assoc] using h) c s t
  simpa [List.append_assoc] using h1
set_option maxRecDepth 100000 in
set_option maxHeartbeats 8000000 in
theorem drawNarrowed_any (a : Option Addr) (len cap : Nat) (zs : List Int) (g : Nat) (w : World) (hl : len ≤ 4096) (hr : Rd w g a len zs) :
    Calls Tryz.prog 5 #[.slice a len cap] w fun e w' => ∃ (tn tag : Int) (q : Option Addr) (n cp : Nat) (X : List CQ) (c : Cl) (s t : Sv), e = .returned (.tuple #[.agg #[.int .i64 tn, .slice q n cp, .int .i64 tag], .agg #[.slice s.p s.n s.c, .slice t.p t.n t.c, .int .i64 c.un]]) ∧ Hid (pOk X n ∧ s.n ≤ 10 ∧ t.n ≤ 10) ∧ Sg w w' (clR c s t ++ trX (.slice q n cp) X []) := by
  have hS0 := ((Sg.nil w).lit kP [zpv] 1 rfl (by decide) #[.int .i64 0, .slice none 0 0, .int .i64 0] rfl).lit kQ [zq] 1 rfl (by decide) #[.slice none 0 0, .slice none 0 0, .int .i64 0] rfl
  simp only [World.size_alloc] at hS0
  change Sg w ((w.alloc (.cells #[.int .i64 0, .slice none 0 0, .int .i64 0] 26)).alloc (.cells #[.slice none 0 0, .slice none 0 0, .int .i64 0] 29)) _ at hS0
  go_enter Tryz.func5, Tryz.ntmps5
  go_upto_if 18 with (first
    | (go_at_call 19; refine (newC hS0 hl hr).mono ?_; rintro e w1 ⟨C, rfl, hS1⟩)
    | (go_at_call 20; refine (paperC hS1).mono ?_; rintro e w2 ⟨key, tn, tag, q, n, cp, X, rfl, hX, hS2⟩; have hS3 := hS2.lit kP [⟨tn, ⟨q, n, cp⟩, tag⟩] 1 rfl (by decide) #[.int .i64 tn, .slice q n cp, .int .i64 tag] rfl; change Sc w (w2.alloc (.cells #[.int .i64 tn, .slice q n cp, .int .i64 tag] 26)) _ _ at hS3)
    | (go_at_call 21; refine (onceC hS3 10 (by decide) (by decide)).mono ?_; rintro e w4 ⟨b4, rfl, hS4⟩))
  clear hS0 hS1 hS2 hS3
  generalize w2.heap.size = b6 at *
  go_cut [] from 7 (fun wx => ∃ (tn tag : Int) (q : Option Addr) (n cp : Nat) (X : List CQ), Hid (pOk X n) ∧ Sc w wx C (rG kP (.slice (some ⟨b6, 0, none⟩) 1 1) [⟨tn, ⟨q, n, cp⟩, tag⟩] :: (trX (.slice q n cp) X [] ++ [rG kQ (.slice (some ⟨w.heap.size + 1, 0, none⟩) 1 1) [zq], rG kP (.slice (some ⟨w.heap.size, 0, none⟩) 1 1) [zpv]])))
  case first =>
    cases b4
    · go_wp2
      go_meet
      exact ⟨tn, tag, q, n, cp, X, hX, hS4⟩
    · go_wp2
      go_loopw [7, 8, 9] (fun i _ _ wr => ∃ (k : Nat) (tn tag : Int) (q : Option Addr) (n cp : Nat) (X : List CQ), k ≤ 6 ∧ i = .int .i64 k ∧ Hid (pOk X n) ∧ Sc w wr C (rG kP (.slice (some ⟨b6, 0, none⟩) 1 1) [⟨tn, ⟨q, n, cp⟩, tag⟩] :: (trX (.slice q n cp) X [] ++ [rG kQ (.slice (some ⟨w.heap.size + 1, 0, none⟩) 1 1) [zq], rG kP (.slice (some ⟨w.heap.size, 0, none⟩) 1 1) [zpv]]))) (fun i _ _ _ => 6 - (intOf i).toNat)
      case atStart => exact ⟨0, tn, tag, q, n, cp, X, by omega, rfl, hX, hS4⟩
      case round =>
        clear hS4 hX
        obtain ⟨k, tn, tag, q, n, cp, X, hk6, rfl, hX, hrow⟩ := hrel
        obtain ⟨y0, y1, y2, yf, yg⟩ := hrow.sg.three (K := kP) (g := b6) (n := 1) (p := ⟨tn, ⟨q, n, cp⟩, tag⟩) (by simp) rfl
        by_cases hlt : k < 6
        · have hki : (k : Int) < 6 := by omega
          go_upto_if 29 with (go_at_call 10; refine (sNarZ tn tag hrow.sg hX (fun r hr => by simp [hr])).mono ?_; rintro e w5 ⟨tn5, tag5, ok5, q5, n5, cp5, X5, rfl, hX5, hw5⟩; have hS5a := hrow.addL hw5; have hS5 := hS5a.lit kP [⟨tn5, ⟨q5, n5, cp5⟩, tag5⟩] 1 rfl (by decide) #[.int .i64 tn5, .slice q5 n5 cp5, .int .i64 tag5] rfl; change Sc w (w5.alloc (.cells #[.int .i64 tn5, .slice q5 n5 cp5, .int .i64 tag5] 26)) _ _ at hS5; clear hS5a)
          clear y0 y1 y2 yf yg
          obtain ⟨y0, y1, y2, yf, yg⟩ := hS5.sg.three (K := kP) (g := b6) (n := 1) (p := ⟨tn, ⟨q, n, cp⟩, tag⟩) (by simp) rfl
          obtain ⟨v0, v1, v2, vf, vg⟩ := hS5.sg.three (K := kP) (g := w5.heap.size) (n := 1) (p := ⟨tn5, ⟨q5, n5, cp5⟩, tag5⟩) (by simp) rfl
          cases ok5
          · go_wp2
            go_roundw
            case rel => exact ⟨k + 1, tn, tag, q, n, cp, X, by omega, by go_num, hX, hS5.sub (.cons _ (List.sublist_append_right _ _))⟩
            case measure => simp [intOf]; omega
          · have hS6 := Sc.setP (A := rG kP (.slice (some ⟨w5.heap.size, 0, none⟩) 1 1) [⟨tn5, ⟨q5, n5, cp5⟩, tag5⟩] :: trX (.slice q5 n5 cp5) X5 []) (g := b6) (n := 1) hS5 ⟨tn5, ⟨q5, n5, cp5⟩, tag5⟩
            go_wp2
            go_roundw
            case rel => exact ⟨k + 1, tn5, tag5, q5, n5, cp5, X5, by omega, by go_num, hX5, (hS6.perm List.perm_middle).sub (.cons_cons _ (.cons _ (List.Sublist.append (List.Sublist.refl _) (List.sublist_append_right _ _))))⟩
            case measure => simp [intOf]; omega
        · obtain rfl : k = 6 := by omega
          go_wp2
          go_meet
          exact ⟨tn, tag, q, n, cp, X, hX, hrow⟩
  case rest =>
    clear hS4 hX
    obtain ⟨tn, tag, q, n, cp, X, hX, hS5⟩ := hcut
    have hSp := Sc.toP (A := []) hS5 ⟨tn, ⟨q, n, cp⟩, tag⟩
    have hSq := Sc.toP (A := []) hS5.dr ⟨tn, ⟨q, n, cp⟩, tag⟩
    obtain ⟨y0, y1, y2, yf, yg⟩ := hS5.sg.three (K := kP) (g := b6) (n := 1) (p := ⟨tn, ⟨q, n, cp⟩, tag⟩) (by simp) rfl
    obtain ⟨z0, z1, z2, zf, zg⟩ := hS5.sg.three (K := kP) (g := w.heap.size) (n := 1) (p := zpv) (by simp) rfl
    go_wp2
    go_region_with (go_at_call 22; refine (clauseC (w := w) (C := C) (by first | with_reducible exact hS5 | with_reducible exact hS5.dr | with_reducible exact hSp | with_reducible exact hSp.dr | with_reducible exact hSq)).mono ?_; rintro e w9 ⟨c9, s9, t9, rfl, hb9, hrow⟩; obtain ⟨a0, a1, a2, af, ag⟩ := hrow.sg.three (K := kP) (g := b6) (n := 1) (p := ⟨tn, ⟨q, n, cp⟩, tag⟩) (by simp) rfl; obtain ⟨d0, d1, d2, df, dg⟩ := hrow.sg.three (K := kQ) (g := w.heap.size + 1) (n := 1) (p := zq) (by simp) rfl; (first | obtain ⟨v0, v1, v2, vf, vg⟩ := hrow.sg.three (K := kP) (g := w.heap.size) (n := 1) (p := zpv) (by simp) rfl | obtain ⟨v0, v1, v2, vf, vg⟩ := hrow.sg.three (K := kP) (g := w.heap.size) (n := 1) (p := ⟨tn, ⟨q, n, cp⟩, tag⟩) (by simp) rfl))
    all_goals go_wp2
    all_goals first
      | (have hF := Sc.toQ (A := clR c9 s9 t9) (Sc.toP (A := clR c9 s9 t9) (x := zpv) hrow ⟨tn, ⟨q, n, cp⟩, tag⟩) c9 s9 t9; obtain ⟨u0, u1, u2, uf, ug⟩ := hF.sg.three (K := kP) (g := w.heap.size) (n := 1) (p := ⟨tn, ⟨q, n, cp⟩, tag⟩) (by simp) rfl; obtain ⟨x0, x1, x2, xf, xg⟩ := hF.sg.three (K := kQ) (g := w.heap.size + 1) (n := 1) (p := (c9, s9, t9)) (by simp) rfl; refine bodyPost_ret (v := .tuple #[.agg #[.int .i64 tn, .slice q n cp, .int .i64 tag], .agg #[.slice s9.p s9.n s9.c, .slice t9.p t9.n t9.c, .int .i64 c9.un]]) (by simp [results, Tryz.results5, go_sem, u0, u1, u2, x0, x1, x2]) rfl ⟨tn, tag, q, n, cp, X, c9, s9, t9, rfl, ⟨hX.out, hb9.out⟩, ?_⟩; first | with_reducible exact hF.sg.sub (List.Sublist.append (List.Sublist.refl _) (.cons _ (List.sublist_append_left _ _))) | with_reducible exact hF.dr.sg.sub (List.Sublist.append (List.Sublist.refl _) (.cons _ (List.sublist_append_left _ _))))
      | (have hF := Sc.toP (A := clR c9 s9 t9) (x := zpv) (Sc.toQ (A := clR c9 s9 t9) hrow c9 s9 t9) ⟨tn, ⟨q, n, cp⟩, tag⟩; obtain ⟨u0, u1, u2, uf, ug⟩ := hF.sg.three (K := kP) (g := w.heap.size) (n := 1) (p := ⟨tn, ⟨q, n, cp⟩, tag⟩) (by simp) rfl; obtain ⟨x0, x1, x2, xf, xg⟩ := hF.sg.three (K := kQ) (g := w.heap.size + 1) (n := 1) (p := (c9, s9, t9)) (by simp) rfl; refine bodyPost_ret (v := .tuple #[.agg #[.int .i64 tn, .slice q n cp, .int .i64 tag], .agg #[.slice s9.p s9.n s9.c, .slice t9.p t9.n t9.c, .int .i64 c9.un]]) (by simp [results, Tryz.results5, go_sem, u0, u1, u2, x0, x1, x2]) rfl ⟨tn, tag, q, n, cp, X, c9, s9, t9, rfl, ⟨hX.out, hb9.out⟩, ?_⟩; first | with_reducible exact hF.sg.sub (List.Sublist.append (List.Sublist.refl _) (.cons _ (List.sublist_append_left _ _))) | with_reducible exact hF.dr.sg.sub (List.Sublist.append (List.Sublist.refl _) (.cons _ (List.sublist_append_left _ _))))
      | (have hF := Sc.toQ (A := clR c9 s9 t9) hrow c9 s9 t9; obtain ⟨u0, u1, u2, uf, ug⟩ := hF.sg.three (K := kP) (g := w.heap.size) (n := 1) (p := ⟨tn, ⟨q, n, cp⟩, tag⟩) (by simp) rfl; obtain ⟨x0, x1, x2, xf, xg⟩ := hF.sg.three (K := kQ) (g := w.heap.size + 1) (n := 1) (p := (c9, s9, t9)) (by simp) rfl; refine bodyPost_ret (v := .tuple #[.agg #[.int .i64 tn, .slice q n cp, .int .i64 tag], .agg #[.slice s9.p s9.n s9.c, .slice t9.p t9.n t9.c, .int .i64 c9.un]]) (by simp [results, Tryz.results5, go_sem, u0, u1, u2, x0, x1, x2]) rfl ⟨tn, tag, q, n, cp, X, c9, s9, t9, rfl, ⟨hX.out, hb9.out⟩, ?_⟩; first | with_reducible exact hF.sg.sub (List.Sublist.append (List.Sublist.refl _) (.cons _ (List.sublist_append_left _ _))) | with_reducible exact hF.dr.sg.sub (List.Sublist.append (List.Sublist.refl _) (.cons _ (List.sublist_append_left _ _))))
end Go.Proofs.YtkinbgcnenieeaaGreatDoor
