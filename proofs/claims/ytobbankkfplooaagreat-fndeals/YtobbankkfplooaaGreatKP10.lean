/-
  Decided: the program's.
-/
import Derived.Test.YtobbankkfplooaaGreatKP9
namespace Go.Proofs.YtobbankkfplooaaGreat.K.G
open Go.Shelf Go.RowKit Go.Joins Y
attribute [local go_sem] Oper.semAt_some

structure CPd (w : World) (hv sq rv a3 al : Value) (r : Dd × Bool) (l : Array Bool) (x5 x10 x11 x12 x13 x14 x15 x16 x17 x18 x19 : Value) (s1 s3 : List Rw) : Prop where
  l0 : Inv.D l 0 = true → x10 = hv
  l1 : Inv.D l 1 = true → x11 = hv
  l2 : Inv.D l 2 = true → x12 = sq
  l3 : Inv.D l 3 = true → x13 = a3
  l4 : Inv.D l 4 = true → x14 = hv
  l5 : Inv.D l 5 = true → x15 = al
  l6 : Inv.D l 6 = true → x16 = rv
  r8 : Inv.D l 8 = true → Inv.D l 7 = true
  r10 : Inv.D l 10 = true → Inv.D l 8 = true
  r9 : Inv.D l 9 = true → Inv.D l 7 = true
  r11 : Inv.D l 11 = true → Inv.D l 9 = true
  c7 : Inv.D l 7 = false → s1 = []
  l7 : Inv.D l 7 = true → BV r x17 s1
  l8 : Inv.D l 8 = true → BX r x17 x18
  l9 : Inv.D l 9 = true → x19 = .bool r.2
  d0 : Inv.D l 10 = false → s3 = [rG kG (.slice (some ⟨w.heap.size + 1, 0, none⟩) 1 1) [zgv]]
  d1 : Inv.D l 10 = true → B6 (w.heap.size + 1) x18 s3
  l11 : Inv.D l 11 = true → x5 = .bool r.2
set_option maxRecDepth 100000 in
set_option maxHeartbeats 4000000 in
theorem iDecided_any (h : Gv) (QL : List YQ) (O V : List Int) (off : Bool) (w : World) (H : RdG w h QL O V) (hk : OkG h QL) {r : Dd × Bool} (hr : (if dB ⟨h.t, h.q, yds QL, O, V, h.s⟩ = true then decidedD ⟨h.t, h.q, yds QL, O, V, h.s⟩ off else (zdd, false)) = r) :
    Calls Tryz.prog 11 #[h.v, .bool off] w fun e w' => ∃ v, e = .returned (.tuple #[v, .bool r.2]) ∧ DlO r.1 w w' v := by
  have HI := Lib.hid (fun W (hb : Below w.heap.size w W) => iDealOk_v (h := h) (QL := QL) (O := O) (V := V) rfl W (H.step hb))
  change Hid (∀ W, Below w.heap.size w W → Calls Tryz.prog 17 #[h.v] W fun e w' => e = .returned (.bool (dB ⟨h.t, h.q, yds QL, O, V, h.s⟩)) ∧ Below W.heap.size W w') at HI
  cases hd : dB ⟨h.t, h.q, yds QL, O, V, h.s⟩
  · rw [hd] at HI hr
    obtain rfl : (zdd, false) = r := hr
    clear H hk hd
    obtain ⟨t, q, ⟨yp, yn, yc⟩, ⟨op, on, oc⟩, ⟨up, un, uc⟩, s⟩ := h
    simp only at HI ⊢
    have hS1 := (((Sg.nil w).lit kG [⟨t, q, ⟨yp, yn, yc⟩, ⟨op, on, oc⟩, ⟨up, un, uc⟩, s⟩] 1 rfl (by decide) #[.int .i64 t, .int .i64 q, .slice yp yn yc, .slice op on oc, .slice up un uc, .int .i64 s] rfl).lit kG [zgv] 1 rfl (by decide) #[.int .i64 0, .int .i64 0, .slice none 0 0, .slice none 0 0, .slice none 0 0, .int .i64 0] rfl)
    simp only [World.size_alloc] at hS1
    go_enter Tryz.func11, Tryz.ntmps11
    go_wp2_with (go_at_call 17; refine (HI.out _ hS1.bel).mono ?_; rintro e w1 ⟨rfl, hb1⟩; have hS2 := hS1.step hb1; obtain ⟨v0, v1, v2, v3, v4, v5, vf, vg⟩ := g6 hS2 (K := kG) (g := w.heap.size + 1) (n := 1) (q := zgv) (by simp) rfl; simp only [zgv] at v0 v1 v2 v3 v4 v5)
    have hS3 := Sg.setG (A := []) (g := w.heap.size + 1) (n := 1) (a := zgv) hS2 zgv
    refine bodyPost_ret (v := .tuple #[.agg #[.int .i64 0, .int .i64 0, .slice none 0 0, .slice none 0 0, .slice none 0 0, .int .i64 0], .bool false]) (by simp [results, Tryz.results11, go_sem, v0, v1, v2, v3, v4, v5]) rfl ⟨_, rfl, dlo_zero hS3.bel⟩
  have hp := dB_iff.1 hd
  obtain ⟨⟨s1, s4⟩, so, su, ssm⟩ := deal_small H hp
  rw [hd] at HI hr
  rw [if_pos rfl] at hr
  rw [← became_decided hp, yds_len, H.yn] at hr
  have HS := Lib.hid (fun W (hb : Below w.heap.size w W) => standing_any h V W (H.u.step hb) H.un (by omega))
  have HY := Lib.hid (fun W => allYes_any h W s1 s4)
  have HB := Lib.hid (fun W (hb : Below w.heap.size w W) => became_r h QL O V _ (decidedS_len (vt_len V)) W (H.step hb) hk (by omega) (by omega) (by omega) ssm hr)
  simp only at HB
  have e2 : (decidedS (vt V) h.s off (yesN h.y.n)).1 = vt V := by unfold decidedS; repeat' split
                                                                  all_goals rfl
  have HD := Lib.hid (fun W => decided_any (q := q4 V) (al := q4 (List.replicate h.y.n 1)) (s := h.s) (off := off) rfl W)
  rw [q4_l, q4_l] at HD
  rw [e2] at HB
  have e3 : q4 (vt V) = q4 V := rfl
  rw [e3] at HB
  change Hid (∀ W, Calls Tryz.prog 36 #[(Sd.mk (q4 V) h.s).v, .bool off, (q4 (List.replicate h.y.n 1)).v] W fun e w' => e = .returned (Sd.mk (q4 V) (decidedS (vt V) h.s off (yesN h.y.n)).2).v ∧ Below W.heap.size W w') at HD
  generalize (decidedS (vt V) h.s off (yesN h.y.n)).2 = z at HB HD
  generalize q4 V = qq at HS HD HB
  generalize q4 (List.replicate h.y.n 1) = al at HY HD
  clear hr e2 e3 H hk hd hp s1 s4 so su ssm
  obtain ⟨t, q, ⟨yp, yn, yc⟩, ⟨op, on, oc⟩, ⟨up, un, uc⟩, s⟩ := h
  simp only at HI HS HY HB HD ⊢
  have hS1 := (((Sg.nil w).lit kG [⟨t, q, ⟨yp, yn, yc⟩, ⟨op, on, oc⟩, ⟨up, un, uc⟩, s⟩] 1 rfl (by decide) #[.int .i64 t, .int .i64 q, .slice yp yn yc, .slice op on oc, .slice up un uc, .int .i64 s] rfl).lit kG [zgv] 1 rfl (by decide) #[.int .i64 0, .int .i64 0, .slice none 0 0, .slice none 0 0, .slice none 0 0, .int .i64 0] rfl)
  simp only [World.size_alloc] at hS1
  go_enter Tryz.func11, Tryz.ntmps11
  go_upto_region 3 with (go_at_call 17; refine (HI.out _ hS1.bel).mono ?_; rintro e w1 ⟨rfl, hb1⟩; have hS2 := hS1.step hb1)
  refine Inv.wp_region_each (fun l a W => ∃ (x5 x10 x11 x12 x13 x14 x15 x16 x17 x18 x19 : Value) (s1 s3 : List Rw), a = ⟨#[Gv.v ⟨t, q, ⟨yp, yn, yc⟩, ⟨op, on, oc⟩, ⟨up, un, uc⟩, s⟩, .bool off, .pointer (some ⟨w.heap.size, 0, none⟩), undef, .pointer (some ⟨w.heap.size + 1, 0, none⟩), x5, .agg #[.int .i64 t, .int .i64 q, .slice yp yn yc, .slice op on oc, .slice up un uc, .int .i64 s], .bool true, .bool false, undef, x10, x11, x12, x13, x14, x15, x16, x17, x18, x19], []⟩ ∧ Sg w W (s1 ++ (s3 ++ [rG kG (.slice (some ⟨w.heap.size, 0, none⟩) 1 1) [⟨t, q, ⟨yp, yn, yc⟩, ⟨op, on, oc⟩, ⟨up, un, uc⟩, s⟩]])) ∧ CPd w (.agg #[.int .i64 t, .int .i64 q, .slice yp yn yc, .slice op on oc, .slice up un uc, .int .i64 s]) (Sd.v ⟨qq, s⟩) (Sd.v ⟨qq, z⟩) (.bool off) al.v r l x5 x10 x11 x12 x13 x14 x15 x16 x17 x18 x19 s1 s3) (by kernel_rfl) (by kernel_rfl) ?_ ?_ ?_
  · refine ⟨.bool false, undef, undef, undef, undef, undef, undef, undef, undef, undef, undef, [], [rG kG (.slice (some ⟨w.heap.size + 1, 0, none⟩) 1 1) [zgv]], rfl, hS2.step (Below.refl _ _).drew, ?_⟩
    constructor <;> simp [Inv.D]
  · rintro l a W hD ⟨x5, x10, x11, x12, x13, x14, x15, x16, x17, x18, x19, s1, s3, rfl, hS, hP⟩
    obtain ⟨y, o, u, Q2, e1, rfl, hq1, hq2⟩ := hP.l7 (hD 7 (by decide))
    obtain ⟨v, e2, e3⟩ := hP.l8 (hD 8 (by decide))
    obtain ⟨a, e4, rfl⟩ := hP.d1 (hD 10 (by decide))
    obtain rfl := hP.l11 (hD 11 (by decide))
    have e5 : a.v = Gv.v ⟨r.1.t, r.1.q, y, o, u, r.1.s⟩ := by
      rw [e1] at e2
      injection e2 with e2
      rw [← e4, e3]
      simpa using e2.symm
    obtain ⟨t0, t1, t2, t3, t4, t5, tf, tg⟩ := g6 hS (K := kG) (g := w.heap.size + 1) (n := 1) (q := a) (by simp) rfl
    clear hP hD e1 e2 e3 e4
    try dsimp only
    go_wp2_with (fail)
    refine bodyPost_ret (v := .tuple #[.agg #[.int .i64 a.t, .int .i64 a.q, .slice a.y.p a.y.n a.y.c, .slice a.o.p a.o.n a.o.c, .slice a.u.p a.u.n a.u.c, .int .i64 a.s], .bool r.2]) (by simp [results, Tryz.results11, go_sem, t0, t1, t2, t3, t4, t5]) rfl ⟨_, rfl, y, o, u, Q2, e5, hq1, hq2, hS.sub (List.sublist_append_left ..)⟩
  · refine ⟨?_, ?_, ?_, ?_, ?_, ?_, ?_, ?_, ?_, ?_, ?_, ?_, trivial⟩
    · rintro l a W hl hd ha ⟨x5, x10, x11, x12, x13, x14, x15, x16, x17, x18, x19, s1, s3, rfl, hS, hP⟩
      have hD : ∀ k, Inv.D (l.setIfInBounds 0 true) k = if k = 0 then true else Inv.D l k := fun k => Inv.D_set l 0 k (by rw [hl]; decide)
      simp [Inv.ahead, Region.binds] at ha
      obtain ⟨y0, y1, y2, y3, y4, y5, yf, yg⟩ := g6 hS (K := kG) (g := w.heap.size) (n := 1) (q := ⟨t, q, ⟨yp, yn, yc⟩, ⟨op, on, oc⟩, ⟨up, un, uc⟩, s⟩) (by simp) rfl
      simp only at y0 y1 y2 y3 y4 y5
      refine Inv.wpOp_K rfl (fun K hK => ?_)
      go_simp
      refine hK _ _ ⟨x5, _, x11, x12, x13, x14, x15, x16, x17, x18, x19, s1, s3, rfl, ?_, ?_⟩
      · exact hS
      · constructor
        all_goals simp [hD]
        all_goals (first | exact hP.l0 | exact hP.l1 | exact hP.l2 | exact hP.l3 | exact hP.l4 | exact hP.l5 | exact hP.l6 | exact hP.r8 | exact hP.r10 | exact hP.r9 | exact hP.r11 | exact hP.c7 | exact hP.l7 | exact hP.l8 | exact hP.l9 | exact hP.d0 | exact hP.d1 | exact hP.l11 | skip)
    · rintro l a W hl hd ha ⟨x5, x10, x11, x12, x13, x14, x15, x16, x17, x18, x19, s1, s3, rfl, hS, hP⟩
      have hD : ∀ k, Inv.D (l.setIfInBounds 1 true) k = if k = 1 then true else Inv.D l k := fun k => Inv.D_set l 1 k (by rw [hl]; decide)
      simp [Inv.ahead, Region.binds] at ha
      obtain ⟨y0, y1, y2, y3, y4, y5, yf, yg⟩ := g6 hS (K := kG) (g := w.heap.size) (n := 1) (q := ⟨t, q, ⟨yp, yn, yc⟩, ⟨op, on, oc⟩, ⟨up, un, uc⟩, s⟩) (by simp) rfl
      simp only at y0 y1 y2 y3 y4 y5
      refine Inv.wpOp_K rfl (fun K hK => ?_)
      go_simp
      refine hK _ _ ⟨x5, x10, _, x12, x13, x14, x15, x16, x17, x18, x19, s1, s3, rfl, ?_, ?_⟩
      · exact hS
      · constructor
        all_goals simp [hD]
        all_goals (first | exact hP.l0 | exact hP.l1 | exact hP.l2 | exact hP.l3 | exact hP.l4 | exact hP.l5 | exact hP.l6 | exact hP.r8 | exact hP.r10 | exact hP.r9 | exact hP.r11 | exact hP.c7 | exact hP.l7 | exact hP.l8 | exact hP.l9 | exact hP.d0 | exact hP.d1 | exact hP.l11 | skip)
    · rintro l a W hl hd ha ⟨x5, x10, x11, x12, x13, x14, x15, x16, x17, x18, x19, s1, s3, rfl, hS, hP⟩
      have hD : ∀ k, Inv.D (l.setIfInBounds 2 true) k = if k = 2 then true else Inv.D l k := fun k => Inv.D_set l 2 k (by rw [hl]; decide)
      simp [Inv.ahead, Region.binds] at ha
      obtain rfl := hP.l1 (by first | exact ha | exact ha.1 | exact ha.2 | exact ha.2.1 | exact ha.2.2 | exact ha.2.2.1 | exact ha.2.2.2 | exact ha.2.2.2.1 | exact ha.2.2.2.2)
      refine Inv.wpOp_K rfl (fun K hK => ?_)
      go_simp
      go_at_call 33
      refine (HS.out _ hS.bel).mono ?_
      rintro e w1 ⟨rfl, hb1⟩
      refine hK _ _ ⟨x5, x10, _, _, x13, x14, x15, x16, x17, x18, x19, s1, s3, rfl, ?_, ?_⟩
      · exact hS.step hb1
      · constructor
        all_goals simp [hD]
        all_goals (first | exact hP.l0 | exact hP.l1 | exact hP.l2 | exact hP.l3 | exact hP.l4 | exact hP.l5 | exact hP.l6 | exact hP.r8 | exact hP.r10 | exact hP.r9 | exact hP.r11 | exact hP.c7 | exact hP.l7 | exact hP.l8 | exact hP.l9 | exact hP.d0 | exact hP.d1 | exact hP.l11 | skip)
    · rintro l a W hl hd ha ⟨x5, x10, x11, x12, x13, x14, x15, x16, x17, x18, x19, s1, s3, rfl, hS, hP⟩
      have hD : ∀ k, Inv.D (l.setIfInBounds 3 true) k = if k = 3 then true else Inv.D l k := fun k => Inv.D_set l 3 k (by rw [hl]; decide)
      simp [Inv.ahead, Region.binds] at ha
      refine Inv.wpOp_K rfl (fun K hK => ?_)
      go_simp
      refine hK _ _ ⟨x5, x10, x11, x12, _, x14, x15, x16, x17, x18, x19, s1, s3, rfl, ?_, ?_⟩
      · exact hS
      · constructor
        all_goals simp [hD]
        all_goals (first | exact hP.l0 | exact hP.l1 | exact hP.l2 | exact hP.l3 | exact hP.l4 | exact hP.l5 | exact hP.l6 | exact hP.r8 | exact hP.r10 | exact hP.r9 | exact hP.r11 | exact hP.c7 | exact hP.l7 | exact hP.l8 | exact hP.l9 | exact hP.d0 | exact hP.d1 | exact hP.l11 | skip)
    · rintro l a W hl hd ha ⟨x5, x10, x11, x12, x13, x14, x15, x16, x17, x18, x19, s1, s3, rfl, hS, hP⟩
      have hD : ∀ k, Inv.D (l.setIfInBounds 4 true) k = if k = 4 then true else Inv.D l k := fun k => Inv.D_set l 4 k (by rw [hl]; decide)
      simp [Inv.ahead, Region.binds] at ha
      obtain ⟨y0, y1, y2, y3, y4, y5, yf, yg⟩ := g6 hS (K := kG) (g := w.heap.size) (n := 1) (q := ⟨t, q, ⟨yp, yn, yc⟩, ⟨op, on, oc⟩, ⟨up, un, uc⟩, s⟩) (by simp) rfl
      simp only at y0 y1 y2 y3 y4 y5
      refine Inv.wpOp_K rfl (fun K hK => ?_)
      go_simp
      refine hK _ _ ⟨x5, x10, x11, x12, x13, _, x15, x16, x17, x18, x19, s1, s3, rfl, ?_, ?_⟩
      · exact hS
      · constructor
        all_goals simp [hD]
        all_goals (first | exact hP.l0 | exact hP.l1 | exact hP.l2 | exact hP.l3 | exact hP.l4 | exact hP.l5 | exact hP.l6 | exact hP.r8 | exact hP.r10 | exact hP.r9 | exact hP.r11 | exact hP.c7 | exact hP.l7 | exact hP.l8 | exact hP.l9 | exact hP.d0 | exact hP.d1 | exact hP.l11 | skip)
    · rintro l a W hl hd ha ⟨x5, x10, x11, x12, x13, x14, x15, x16, x17, x18, x19, s1, s3, rfl, hS, hP⟩
      have hD : ∀ k, Inv.D (l.setIfInBounds 5 true) k = if k = 5 then true else Inv.D l k := fun k => Inv.D_set l 5 k (by rw [hl]; decide)
      simp [Inv.ahead, Region.binds] at ha
      obtain rfl := hP.l4 (by first | exact ha | exact ha.1 | exact ha.2 | exact ha.2.1 | exact ha.2.2 | exact ha.2.2.1 | exact ha.2.2.2 | exact ha.2.2.2.1 | exact ha.2.2.2.2)
      refine Inv.wpOp_K rfl (fun K hK => ?_)
      go_simp
      go_at_call 37
      refine (HY.out _).mono ?_
      rintro e w1 ⟨rfl, hb1⟩
      refine hK _ _ ⟨x5, x10, x11, x12, x13, _, _, x16, x17, x18, x19, s1, s3, rfl, ?_, ?_⟩
      · exact hS.step hb1
      · constructor
        all_goals simp [hD]
        all_goals (first | exact hP.l0 | exact hP.l1 | exact hP.l2 | exact hP.l3 | exact hP.l4 | exact hP.l5 | exact hP.l6 | exact hP.r8 | exact hP.r10 | exact hP.r9 | exact hP.r11 | exact hP.c7 | exact hP.l7 | exact hP.l8 | exact hP.l9 | exact hP.d0 | exact hP.d1 | exact hP.l11 | skip)
    · rintro l a W hl hd ha ⟨x5, x10, x11, x12, x13, x14, x15, x16, x17, x18, x19, s1, s3, rfl, hS, hP⟩
      have hD : ∀ k, Inv.D (l.setIfInBounds 6 true) k = if k = 6 then true else Inv.D l k := fun k => Inv.D_set l 6 k (by rw [hl]; decide)
      simp [Inv.ahead, Region.binds] at ha
      obtain rfl := hP.l2 (by first | exact ha | exact ha.1 | exact ha.2 | exact ha.2.1 | exact ha.2.2 | exact ha.2.2.1 | exact ha.2.2.2 | exact ha.2.2.2.1 | exact ha.2.2.2.2)
      obtain rfl := hP.l3 (by first | exact ha | exact ha.1 | exact ha.2 | exact ha.2.1 | exact ha.2.2 | exact ha.2.2.1 | exact ha.2.2.2 | exact ha.2.2.2.1 | exact ha.2.2.2.2)
      obtain rfl := hP.l5 (by first | exact ha | exact ha.1 | exact ha.2 | exact ha.2.1 | exact ha.2.2 | exact ha.2.2.1 | exact ha.2.2.2 | exact ha.2.2.2.1 | exact ha.2.2.2.2)
      refine Inv.wpOp_K rfl (fun K hK => ?_)
      go_simp
      go_at_call 36
      refine (HD.out _).mono ?_
      rintro e w1 ⟨rfl, hb1⟩
      refine hK _ _ ⟨x5, x10, x11, _, _, x14, _, _, x17, x18, x19, s1, s3, rfl, ?_, ?_⟩
      · exact hS.step hb1
      · constructor
        all_goals simp [hD]
        all_goals (first | exact hP.l0 | exact hP.l1 | exact hP.l2 | exact hP.l3 | exact hP.l4 | exact hP.l5 | exact hP.l6 | exact hP.r8 | exact hP.r10 | exact hP.r9 | exact hP.r11 | exact hP.c7 | exact hP.l7 | exact hP.l8 | exact hP.l9 | exact hP.d0 | exact hP.d1 | exact hP.l11 | skip)
    · rintro l a W hl hd ha ⟨x5, x10, x11, x12, x13, x14, x15, x16, x17, x18, x19, s1, s3, rfl, hS, hP⟩
      have hD : ∀ k, Inv.D (l.setIfInBounds 7 true) k = if k = 7 then true else Inv.D l k := fun k => Inv.D_set l 7 k (by rw [hl]; decide)
      simp [Inv.ahead, Region.binds] at ha
      obtain rfl := hP.l0 (by first | exact ha | exact ha.1 | exact ha.2 | exact ha.2.1 | exact ha.2.2 | exact ha.2.2.1 | exact ha.2.2.2 | exact ha.2.2.2.1 | exact ha.2.2.2.2)
      obtain rfl := hP.l6 (by first | exact ha | exact ha.1 | exact ha.2 | exact ha.2.1 | exact ha.2.2 | exact ha.2.2.1 | exact ha.2.2.2 | exact ha.2.2.2.1 | exact ha.2.2.2.2)
      obtain rfl := hP.c7 hd
      refine Inv.wpOp_K rfl (fun K hK => ?_)
      go_simp
      go_at_call 32
      refine (HB.out _ hS.bel).mono ?_
      rintro e w1 ⟨v, rfl, y, o, u, Q2, rfl, hq1, hq2, h1⟩
      refine hK _ _ ⟨x5, _, x11, x12, x13, x14, x15, _, _, x18, x19, gR ⟨r.1.t, r.1.q, y, o, u, r.1.s⟩ Q2 r.1.O r.1.V, s3, rfl, ?_, ?_⟩
      · have h2 := hS.addL h1
        simpa using h2
      · constructor
        all_goals simp [hD]
        all_goals (first | exact hP.l0 | exact hP.l1 | exact hP.l2 | exact hP.l3 | exact hP.l4 | exact hP.l5 | exact hP.l6 | exact hP.r8 | exact hP.r10 | exact hP.r9 | exact hP.r11 | exact hP.c7 | exact hP.l7 | exact hP.l8 | exact hP.l9 | exact hP.d0 | exact hP.d1 | exact hP.l11 | skip)
        · exact ⟨y, o, u, Q2, rfl, rfl, hq1, hq2⟩
        · exact fun h => absurd (hP.r8 h) (by rw [hd]; decide)
    · rintro l a W hl hd ha ⟨x5, x10, x11, x12, x13, x14, x15, x16, x17, x18, x19, s1, s3, rfl, hS, hP⟩
      have hD : ∀ k, Inv.D (l.setIfInBounds 8 true) k = if k = 8 then true else Inv.D l k := fun k => Inv.D_set l 8 k (by rw [hl]; decide)
      simp [Inv.ahead, Region.binds] at ha
      obtain ⟨y, o, u, Q2, rfl, hs1, hq1, hq2⟩ := hP.l7 (by first | exact ha | exact ha.1 | exact ha.2 | exact ha.2.1 | exact ha.2.2 | exact ha.2.2.1 | exact ha.2.2.2 | exact ha.2.2.2.1 | exact ha.2.2.2.2)
      refine Inv.wpOp_K rfl (fun K hK => ?_)
      go_simp
      refine hK _ _ ⟨x5, x10, x11, x12, x13, x14, x15, x16, _, _, x19, s1, s3, rfl, ?_, ?_⟩
      · exact hS
      · constructor
        all_goals simp [hD]
        all_goals (first | exact hP.l0 | exact hP.l1 | exact hP.l2 | exact hP.l3 | exact hP.l4 | exact hP.l5 | exact hP.l6 | exact hP.r8 | exact hP.r10 | exact hP.r9 | exact hP.r11 | exact hP.c7 | exact hP.l7 | exact hP.l8 | exact hP.l9 | exact hP.d0 | exact hP.d1 | exact hP.l11 | skip)
        · exact (by first | exact ha | exact ha.1 | exact ha.2 | exact ha.2.1 | exact ha.2.2 | exact ha.2.2.1 | exact ha.2.2.2 | exact ha.2.2.2.1 | exact ha.2.2.2.2)
        · exact ⟨_, rfl, rfl⟩
        · exact fun h => absurd (hP.r10 h) (by rw [hd]; decide)
    · rintro l a W hl hd ha ⟨x5, x10, x11, x12, x13, x14, x15, x16, x17, x18, x19, s1, s3, rfl, hS, hP⟩
      have hD : ∀ k, Inv.D (l.setIfInBounds 9 true) k = if k = 9 then true else Inv.D l k := fun k => Inv.D_set l 9 k (by rw [hl]; decide)
      simp [Inv.ahead, Region.binds] at ha
      obtain ⟨y, o, u, Q2, rfl, hs1, hq1, hq2⟩ := hP.l7 (by first | exact ha | exact ha.1 | exact ha.2 | exact ha.2.1 | exact ha.2.2 | exact ha.2.2.1 | exact ha.2.2.2 | exact ha.2.2.2.1 | exact ha.2.2.2.2)
      refine Inv.wpOp_K rfl (fun K hK => ?_)
      go_simp
      refine hK _ _ ⟨x5, x10, x11, x12, x13, x14, x15, x16, _, x18, _, s1, s3, rfl, ?_, ?_⟩
      · exact hS
      · constructor
        all_goals simp [hD]
        all_goals (first | exact hP.l0 | exact hP.l1 | exact hP.l2 | exact hP.l3 | exact hP.l4 | exact hP.l5 | exact hP.l6 | exact hP.r8 | exact hP.r10 | exact hP.r9 | exact hP.r11 | exact hP.c7 | exact hP.l7 | exact hP.l8 | exact hP.l9 | exact hP.d0 | exact hP.d1 | exact hP.l11 | skip)
        exact (by first | exact ha | exact ha.1 | exact ha.2 | exact ha.2.1 | exact ha.2.2 | exact ha.2.2.1 | exact ha.2.2.2 | exact ha.2.2.2.1 | exact ha.2.2.2.2)
    · rintro l a W hl hd ha ⟨x5, x10, x11, x12, x13, x14, x15, x16, x17, x18, x19, s1, s3, rfl, hS, hP⟩
      have hD : ∀ k, Inv.D (l.setIfInBounds 10 true) k = if k = 10 then true else Inv.D l k := fun k => Inv.D_set l 10 k (by rw [hl]; decide)
      simp [Inv.ahead, Region.binds] at ha
      obtain rfl := hP.d0 hd
      obtain ⟨y, o, u, Q2, rfl, rfl, hq1, hq2⟩ := hP.l7 (by first | exact ha | exact ha.1 | exact ha.2 | exact ha.2.1 | exact ha.2.2 | exact ha.2.2.1 | exact ha.2.2.2 | exact ha.2.2.2.1 | exact ha.2.2.2.2)
      obtain ⟨v, ev, e22⟩ := hP.l8 (by first | exact ha | exact ha.1 | exact ha.2 | exact ha.2.1 | exact ha.2.2 | exact ha.2.2.1 | exact ha.2.2.2 | exact ha.2.2.2.1 | exact ha.2.2.2.2)
      injection ev with ev
      have ev2 : v = Gv.v ⟨r.1.t, r.1.q, y, o, u, r.1.s⟩ := by simpa using ev.symm
      clear ev
      subst ev2
      subst e22
      obtain ⟨t0, t1, t2, t3, t4, t5, tf, tg⟩ := g6 hS (K := kG) (g := w.heap.size + 1) (n := 1) (q := zgv) (by simp) rfl
      simp only [zgv] at t0 t1 t2 t3 t4 t5
      have hS2 := Sg.setG (A := gR ⟨r.1.t, r.1.q, y, o, u, r.1.s⟩ Q2 r.1.O r.1.V) (g := w.heap.size + 1) (n := 1) (a := zgv) hS ⟨r.1.t, r.1.q, y, o, u, r.1.s⟩
      refine Inv.wpOp_K rfl (fun K hK => ?_)
      go_simp
      refine hK _ _ ⟨x5, x10, x11, x12, x13, x14, x15, x16, _, _, x19, gR ⟨r.1.t, r.1.q, y, o, u, r.1.s⟩ Q2 r.1.O r.1.V, [rG kG (.slice (some ⟨w.heap.size + 1, 0, none⟩) 1 1) [⟨r.1.t, r.1.q, y, o, u, r.1.s⟩]], rfl, ?_, ?_⟩
      · exact hS2
      · constructor
        all_goals simp [hD]
        all_goals (first | exact hP.l0 | exact hP.l1 | exact hP.l2 | exact hP.l3 | exact hP.l4 | exact hP.l5 | exact hP.l6 | exact hP.r8 | exact hP.r10 | exact hP.r9 | exact hP.r11 | exact hP.c7 | exact hP.l7 | exact hP.l8 | exact hP.l9 | exact hP.d0 | exact hP.d1 | exact hP.l11 | skip)
        · exact (by first | exact ha | exact ha.1 | exact ha.2 | exact ha.2.1 | exact ha.2.2 | exact ha.2.2.1 | exact ha.2.2.2 | exact ha.2.2.2.1 | exact ha.2.2.2.2)
        · exact ⟨_, rfl, rfl⟩
    · rintro l a W hl hd ha ⟨x5, x10, x11, x12, x13, x14, x15, x16, x17, x18, x19, s1, s3, rfl, hS, hP⟩
      have hD : ∀ k, Inv.D (l.setIfInBounds 11 true) k = if k = 11 then true else Inv.D l k := fun k => Inv.D_set l 11 k (by rw [hl]; decide)
      simp [Inv.ahead, Region.binds] at ha
      obtain rfl := hP.l9 (by first | exact ha | exact ha.1 | exact ha.2 | exact ha.2.1 | exact ha.2.2 | exact ha.2.2.1 | exact ha.2.2.2 | exact ha.2.2.2.1 | exact ha.2.2.2.2)
      refine Inv.wpOp_K rfl (fun K hK => ?_)
      go_simp
      refine hK _ _ ⟨_, x10, x11, x12, x13, x14, x15, x16, x17, x18, _, s1, s3, rfl, ?_, ?_⟩
      · exact hS
      · constructor
        all_goals simp [hD]
        all_goals (first | exact hP.l0 | exact hP.l1 | exact hP.l2 | exact hP.l3 | exact hP.l4 | exact hP.l5 | exact hP.l6 | exact hP.r8 | exact hP.r10 | exact hP.r9 | exact hP.r11 | exact hP.c7 | exact hP.l7 | exact hP.l8 | exact hP.l9 | exact hP.d0 | exact hP.d1 | exact hP.l11 | skip)
        exact (by first | exact ha | exact ha.1 | exact ha.2 | exact ha.2.1 | exact ha.2.2 | exact ha.2.2.1 | exact ha.2.2.2 | exact ha.2.2.2.1 | exact ha.2.2.2.2)
end Go.Proofs.YtobbankkfplooaaGreat.K.G
