/-
  Forgotten: the program's.
-/
import Derived.Test.YtobbankkfplooaaGreatKP9
namespace Go.Proofs.YtobbankkfplooaaGreat.K.G
open Go.Shelf Go.RowKit Go.Joins Y
attribute [local go_sem] Oper.semAt_some

theorem gv_inj {a b : Gv} (h : a.v = b.v) : a = b := by
  obtain ⟨t, q, ⟨yp, yn, yc⟩, ⟨op, on, oc⟩, ⟨up, un, uc⟩, s⟩ := a
  obtain ⟨t2, q2, ⟨yp2, yn2, yc2⟩, ⟨op2, on2, oc2⟩, ⟨up2, un2, uc2⟩, s2⟩ := b
  injection h with h
  simp at h
  obtain ⟨rfl, rfl, ⟨rfl, rfl, rfl⟩, ⟨rfl, rfl, rfl⟩, ⟨rfl, rfl, rfl⟩, rfl⟩ := h
  rfl
def BN (x : Value) (s : List Rw) : Prop := ∃ b, x = .pointer (some ⟨b, 0, none⟩) ∧ s = [rG kG (.slice (some ⟨b, 0, none⟩) 1 1) [zgv]]
def BO (x y : Value) (s : List Rw) : Prop := ∃ (b : Nat) (a : Gv), x = .pointer (some ⟨b, 0, none⟩) ∧ y = a.v ∧ s = [rG kG (.slice (some ⟨b, 0, none⟩) 1 1) [a]]
structure CPf (w : World) (hv sq rv : Value) (r : Dd × Bool) (l : Array Bool) (x3 x4 x9 x10 x11 x12 x13 x14 x15 x16 : Value) (s1 s3 : List Rw) : Prop where
  l0 : Inv.D l 0 = true → x10 = hv
  l1 : Inv.D l 1 = true → x11 = hv
  l2 : Inv.D l 2 = true → x12 = sq
  l3 : Inv.D l 3 = true → x13 = rv
  r5 : Inv.D l 5 = true → Inv.D l 4 = true
  r6 : Inv.D l 6 = true → Inv.D l 5 = true
  r7 : Inv.D l 7 = true → Inv.D l 5 = true
  r9a : Inv.D l 9 = true → Inv.D l 8 = true
  r9b : Inv.D l 9 = true → Inv.D l 6 = true
  c4 : Inv.D l 4 = false → s1 = []
  l4 : Inv.D l 4 = true → BV r x14 s1
  l5 : Inv.D l 5 = true → x9 = x14
  l6 : Inv.D l 6 = true → BX r x9 x15
  l7 : Inv.D l 7 = true → x16 = .bool r.2
  d0 : Inv.D l 8 = false → s3 = []
  d1 : Inv.D l 8 = true → Inv.D l 9 = false → BN x3 s3
  d2 : Inv.D l 9 = true → BO x3 x15 s3
set_option maxRecDepth 100000 in
set_option maxHeartbeats 1500000 in
theorem iForgotten_any (h : Gv) (QL : List YQ) (O V : List Int) (w : World) (H : RdG w h QL O V) (hk : OkG h QL) {r : Dd} (hr : (if dB ⟨h.t, h.q, yds QL, O, V, h.s⟩ = true then forgottenD ⟨h.t, h.q, yds QL, O, V, h.s⟩ else zdd) = r) :
    Calls Tryz.prog 19 #[h.v] w fun e w' => ∃ v, e = .returned v ∧ DlO r w w' v := by
  have HI := Lib.hid (fun W (hb : Below w.heap.size w W) => iDealOk_v (h := h) (QL := QL) (O := O) (V := V) rfl W (H.step hb))
  change Hid (∀ W, Below w.heap.size w W → Calls Tryz.prog 17 #[h.v] W fun e w' => e = .returned (.bool (dB ⟨h.t, h.q, yds QL, O, V, h.s⟩)) ∧ Below W.heap.size W w') at HI
  cases hd : dB ⟨h.t, h.q, yds QL, O, V, h.s⟩
  · rw [hd] at HI hr
    obtain rfl : zdd = r := hr
    clear H hk hd
    obtain ⟨t, q, ⟨yp, yn, yc⟩, ⟨op, on, oc⟩, ⟨up, un, uc⟩, s⟩ := h
    try simp only at HI
    have hS1 := (((Sg.nil w).lit kG [⟨t, q, ⟨yp, yn, yc⟩, ⟨op, on, oc⟩, ⟨up, un, uc⟩, s⟩] 1 rfl (by decide) #[.int .i64 t, .int .i64 q, .slice yp yn yc, .slice op on oc, .slice up un uc, .int .i64 s] rfl).lit kG [zgv] 1 rfl (by decide) #[.int .i64 0, .int .i64 0, .slice none 0 0, .slice none 0 0, .slice none 0 0, .int .i64 0] rfl)
    simp only [World.size_alloc] at hS1
    go_enter Tryz.func19, Tryz.ntmps19
    go_wp2_with (go_at_call 17; refine (HI.out _ hS1.bel).mono ?_; rintro e w1 ⟨rfl, hb1⟩; have hS2 := hS1.step hb1; obtain ⟨v0, v1, v2, v3, v4, v5, vf, vg⟩ := g6 hS2 (K := kG) (g := w.heap.size + 1) (n := 1) (q := zgv) (by simp) rfl; simp only [zgv] at v0 v1 v2 v3 v4 v5)
    have hS3 := Sg.setG (A := []) (g := w.heap.size + 1) (n := 1) (a := zgv) hS2 zgv
    refine bodyPost_ret (v := .agg #[.int .i64 0, .int .i64 0, .slice none 0 0, .slice none 0 0, .slice none 0 0, .int .i64 0]) (by simp [results, Tryz.results19, go_sem, v0, v1, v2, v3, v4, v5]) rfl ⟨_, rfl, dlo_zero hS3.bel⟩
  have hp := dB_iff.1 hd
  obtain ⟨⟨s1, s4⟩, so, su, ssm⟩ := deal_small H hp
  rw [hd] at HI hr
  rw [if_pos rfl] at hr
  rw [← became_forgotten hp] at hr
  obtain ⟨r, hr2⟩ : ∃ r, becameD ⟨h.t, h.q, yds QL, O, V, h.s⟩ (forgottenS (vt V) h.s) = r := ⟨_, rfl⟩
  try simp only at hr
  rw [hr2] at hr
  subst hr
  have hr := hr2
  clear hr2
  have HS := Lib.hid (fun W (hb : Below w.heap.size w W) => standing_any h V W (H.u.step hb) H.un (by omega))
  have HB := Lib.hid (fun W (hb : Below w.heap.size w W) => became_r h QL O V _ (forgottenS_len (vt_len V)) W (H.step hb) hk (by omega) (by omega) (by omega) ssm hr)
  try simp only at HB
  have e2 : (forgottenS (vt V) h.s).2 = h.s := by unfold forgottenS; split <;> rfl
  have HF := Lib.hid (fun W => forgotten_any (q := q4 V) (s := h.s) rfl W)
  rw [q4_l] at HF
  rw [e2] at HB
  generalize q4 (forgottenS (vt V) h.s).1 = rq at HB HF
  generalize q4 V = qq at HS HF
  clear hr e2 H hk hd hp s1 s4 so su ssm
  obtain ⟨t, q, ⟨yp, yn, yc⟩, ⟨op, on, oc⟩, ⟨up, un, uc⟩, s⟩ := h
  try simp only at HI HS HB HF
  have hS1 := (((Sg.nil w).lit kG [⟨t, q, ⟨yp, yn, yc⟩, ⟨op, on, oc⟩, ⟨up, un, uc⟩, s⟩] 1 rfl (by decide) #[.int .i64 t, .int .i64 q, .slice yp yn yc, .slice op on oc, .slice up un uc, .int .i64 s] rfl).lit kG [zgv] 1 rfl (by decide) #[.int .i64 0, .int .i64 0, .slice none 0 0, .slice none 0 0, .slice none 0 0, .int .i64 0] rfl)
  simp only [World.size_alloc] at hS1
  go_enter Tryz.func19, Tryz.ntmps19
  go_upto_region 3 with (go_at_call 17; refine (HI.out _ hS1.bel).mono ?_; rintro e w1 ⟨rfl, hb1⟩; have hS2 := hS1.step hb1)
  refine Inv.wp_region_each (fun l a W => ∃ (x3 x4 x9 x10 x11 x12 x13 x14 x15 x16 : Value) (s1 s3 : List Rw), a = ⟨#[Gv.v ⟨t, q, ⟨yp, yn, yc⟩, ⟨op, on, oc⟩, ⟨up, un, uc⟩, s⟩, .pointer (some ⟨w.heap.size, 0, none⟩), .pointer (some ⟨w.heap.size + 1, 0, none⟩), x3, x4, .agg #[.int .i64 t, .int .i64 q, .slice yp yn yc, .slice op on oc, .slice up un uc, .int .i64 s], .bool true, .bool false, undef, x9, x10, x11, x12, x13, x14, x15, x16, undef], []⟩ ∧ Sg w W (s1 ++ (s3 ++ [rG kG (.slice (some ⟨w.heap.size + 1, 0, none⟩) 1 1) [zgv], rG kG (.slice (some ⟨w.heap.size, 0, none⟩) 1 1) [⟨t, q, ⟨yp, yn, yc⟩, ⟨op, on, oc⟩, ⟨up, un, uc⟩, s⟩]])) ∧ CPf w (.agg #[.int .i64 t, .int .i64 q, .slice yp yn yc, .slice op on oc, .slice up un uc, .int .i64 s]) (Sd.v ⟨qq, s⟩) (Sd.v ⟨rq, s⟩) r l x3 x4 x9 x10 x11 x12 x13 x14 x15 x16 s1 s3) (by kernel_rfl) (by kernel_rfl) ?_ ?_ ?_
  · refine ⟨undef, undef, undef, undef, undef, undef, undef, undef, undef, undef, [], [], rfl, hS2.step (Below.refl _ _).drew, ?_⟩
    constructor <;> simp [Inv.D]
  · rintro l a W hD ⟨x3, x4, x9, x10, x11, x12, x13, x14, x15, x16, s1, s3, rfl, hS, hP⟩
    obtain ⟨y, o, u, Q2, e1, rfl, hq1, hq2⟩ := hP.l4 (hD 4 (by decide))
    obtain e0 := hP.l5 (hD 5 (by decide))
    obtain ⟨v, e2, e3⟩ := hP.l6 (hD 6 (by decide))
    obtain ⟨b, a, rfl, e4, rfl⟩ := hP.d2 (hD 9 (by decide))
    have e5 : a.v = Gv.v ⟨r.1.t, r.1.q, y, o, u, r.1.s⟩ := by
      rw [e0, e1] at e2
      injection e2 with e2
      rw [← e4, e3]
      simpa using e2.symm
    clear e0 e1 e2 e3 e4 hP hD
    obtain rfl := gv_inj e5
    clear e5
    obtain ⟨t0, t1, t2, t3, t4, t5, tf, tg⟩ := g6 hS (K := kG) (g := b) (n := 1) (q := ⟨r.1.t, r.1.q, y, o, u, r.1.s⟩) (by simp) rfl
    obtain ⟨v0, v1, v2, v3, v4, v5, vf, vg⟩ := g6 hS (K := kG) (g := w.heap.size + 1) (n := 1) (q := zgv) (by simp) rfl
    simp only [zgv] at v0 v1 v2 v3 v4 v5
    try dsimp only
    go_wp2_with (fail)
    have hS9 := Sg.setG (A := gR ⟨r.1.t, r.1.q, y, o, u, r.1.s⟩ Q2 r.1.O r.1.V ++ [rG kG (.slice (some ⟨b, 0, none⟩) 1 1) [⟨r.1.t, r.1.q, y, o, u, r.1.s⟩]]) (g := w.heap.size + 1) (n := 1) (a := zgv) (by simpa using hS) ⟨r.1.t, r.1.q, y, o, u, r.1.s⟩
    rw [List.append_assoc] at hS9
    have hS10 := hS9.sub (List.sublist_append_left ..)
    refine bodyPost_ret (v := .agg #[.int .i64 r.1.t, .int .i64 r.1.q, .slice y.p y.n y.c, .slice o.p o.n o.c, .slice u.p u.n u.c, .int .i64 r.1.s]) (by simp [results, Tryz.results19, go_sem, v0, v1, v2, v3, v4, v5]) rfl ⟨_, rfl, y, o, u, Q2, rfl, hq1, hq2, hS10⟩
  · refine ⟨?_, ?_, ?_, ?_, ?_, ?_, ?_, ?_, ?_, ?_, ?_, trivial⟩
    · rintro l a W hl hd ha ⟨x3, x4, x9, x10, x11, x12, x13, x14, x15, x16, s1, s3, rfl, hS, hP⟩
      have hD : ∀ k, Inv.D (l.setIfInBounds 0 true) k = if k = 0 then true else Inv.D l k := fun k => Inv.D_set l 0 k (by rw [hl]; decide)
      simp [Inv.ahead, Region.binds] at ha
      obtain ⟨y0, y1, y2, y3, y4, y5, yf, yg⟩ := g6 hS (K := kG) (g := w.heap.size) (n := 1) (q := ⟨t, q, ⟨yp, yn, yc⟩, ⟨op, on, oc⟩, ⟨up, un, uc⟩, s⟩) (by simp) rfl
      simp only at y0 y1 y2 y3 y4 y5
      refine Inv.wpOp_K rfl (fun K hK => ?_)
      go_simp
      refine hK _ _ ⟨x3, x4, x9, _, x11, x12, x13, x14, x15, x16, s1, s3, rfl, ?_, ?_⟩
      · exact hS
      · constructor
        all_goals simp [hD]
        all_goals (first | exact hP.l0 | exact hP.l1 | exact hP.l2 | exact hP.l3 | exact hP.r5 | exact hP.r6 | exact hP.r7 | exact hP.r9a | exact hP.r9b | exact hP.c4 | exact hP.l4 | exact hP.l5 | exact hP.l6 | exact hP.l7 | exact hP.d0 | exact hP.d1 | exact hP.d2 | skip)
    · rintro l a W hl hd ha ⟨x3, x4, x9, x10, x11, x12, x13, x14, x15, x16, s1, s3, rfl, hS, hP⟩
      have hD : ∀ k, Inv.D (l.setIfInBounds 1 true) k = if k = 1 then true else Inv.D l k := fun k => Inv.D_set l 1 k (by rw [hl]; decide)
      simp [Inv.ahead, Region.binds] at ha
      obtain ⟨y0, y1, y2, y3, y4, y5, yf, yg⟩ := g6 hS (K := kG) (g := w.heap.size) (n := 1) (q := ⟨t, q, ⟨yp, yn, yc⟩, ⟨op, on, oc⟩, ⟨up, un, uc⟩, s⟩) (by simp) rfl
      simp only at y0 y1 y2 y3 y4 y5
      refine Inv.wpOp_K rfl (fun K hK => ?_)
      go_simp
      refine hK _ _ ⟨x3, x4, x9, x10, _, x12, x13, x14, x15, x16, s1, s3, rfl, ?_, ?_⟩
      · exact hS
      · constructor
        all_goals simp [hD]
        all_goals (first | exact hP.l0 | exact hP.l1 | exact hP.l2 | exact hP.l3 | exact hP.r5 | exact hP.r6 | exact hP.r7 | exact hP.r9a | exact hP.r9b | exact hP.c4 | exact hP.l4 | exact hP.l5 | exact hP.l6 | exact hP.l7 | exact hP.d0 | exact hP.d1 | exact hP.d2 | skip)
    · rintro l a W hl hd ha ⟨x3, x4, x9, x10, x11, x12, x13, x14, x15, x16, s1, s3, rfl, hS, hP⟩
      have hD : ∀ k, Inv.D (l.setIfInBounds 2 true) k = if k = 2 then true else Inv.D l k := fun k => Inv.D_set l 2 k (by rw [hl]; decide)
      simp [Inv.ahead, Region.binds] at ha
      obtain rfl := hP.l1 (by first | exact ha | exact ha.1 | exact ha.2 | exact ha.2.1 | exact ha.2.2 | exact ha.2.2.1 | exact ha.2.2.2 | exact ha.2.2.2.1 | exact ha.2.2.2.2)
      refine Inv.wpOp_K rfl (fun K hK => ?_)
      go_simp
      go_at_call 33
      refine (HS.out _ hS.bel).mono ?_
      rintro e w1 ⟨rfl, hb1⟩
      refine hK _ _ ⟨x3, x4, x9, x10, _, _, x13, x14, x15, x16, s1, s3, rfl, ?_, ?_⟩
      · exact hS.step hb1
      · constructor
        all_goals simp [hD]
        all_goals (first | exact hP.l0 | exact hP.l1 | exact hP.l2 | exact hP.l3 | exact hP.r5 | exact hP.r6 | exact hP.r7 | exact hP.r9a | exact hP.r9b | exact hP.c4 | exact hP.l4 | exact hP.l5 | exact hP.l6 | exact hP.l7 | exact hP.d0 | exact hP.d1 | exact hP.d2 | skip)
    · rintro l a W hl hd ha ⟨x3, x4, x9, x10, x11, x12, x13, x14, x15, x16, s1, s3, rfl, hS, hP⟩
      have hD : ∀ k, Inv.D (l.setIfInBounds 3 true) k = if k = 3 then true else Inv.D l k := fun k => Inv.D_set l 3 k (by rw [hl]; decide)
      simp [Inv.ahead, Region.binds] at ha
      obtain rfl := hP.l2 (by first | exact ha | exact ha.1 | exact ha.2 | exact ha.2.1 | exact ha.2.2 | exact ha.2.2.1 | exact ha.2.2.2 | exact ha.2.2.2.1 | exact ha.2.2.2.2)
      refine Inv.wpOp_K rfl (fun K hK => ?_)
      go_simp
      go_at_call 52
      refine (HF.out _).mono ?_
      rintro e w1 ⟨rfl, hb1⟩
      refine hK _ _ ⟨x3, x4, x9, x10, x11, _, _, x14, x15, x16, s1, s3, rfl, ?_, ?_⟩
      · exact hS.step hb1
      · constructor
        all_goals simp [hD]
        all_goals (first | exact hP.l0 | exact hP.l1 | exact hP.l2 | exact hP.l3 | exact hP.r5 | exact hP.r6 | exact hP.r7 | exact hP.r9a | exact hP.r9b | exact hP.c4 | exact hP.l4 | exact hP.l5 | exact hP.l6 | exact hP.l7 | exact hP.d0 | exact hP.d1 | exact hP.d2 | skip)
    · rintro l a W hl hd ha ⟨x3, x4, x9, x10, x11, x12, x13, x14, x15, x16, s1, s3, rfl, hS, hP⟩
      have hD : ∀ k, Inv.D (l.setIfInBounds 4 true) k = if k = 4 then true else Inv.D l k := fun k => Inv.D_set l 4 k (by rw [hl]; decide)
      simp [Inv.ahead, Region.binds] at ha
      obtain rfl := hP.l0 (by first | exact ha | exact ha.1 | exact ha.2 | exact ha.2.1 | exact ha.2.2 | exact ha.2.2.1 | exact ha.2.2.2 | exact ha.2.2.2.1 | exact ha.2.2.2.2)
      obtain rfl := hP.l3 (by first | exact ha | exact ha.1 | exact ha.2 | exact ha.2.1 | exact ha.2.2 | exact ha.2.2.1 | exact ha.2.2.2 | exact ha.2.2.2.1 | exact ha.2.2.2.2)
      obtain rfl := hP.c4 hd
      refine Inv.wpOp_K rfl (fun K hK => ?_)
      go_simp
      go_at_call 32
      refine (HB.out _ hS.bel).mono ?_
      rintro e w1 ⟨v, rfl, y, o, u, Q2, rfl, hq1, hq2, h1⟩
      refine hK _ _ ⟨x3, x4, x9, _, x11, x12, _, _, x15, x16, gR ⟨r.1.t, r.1.q, y, o, u, r.1.s⟩ Q2 r.1.O r.1.V, s3, rfl, ?_, ?_⟩
      · have h2 := hS.addL h1
        simpa using h2
      · constructor
        all_goals simp [hD]
        all_goals (first | exact hP.l0 | exact hP.l1 | exact hP.l2 | exact hP.l3 | exact hP.r5 | exact hP.r6 | exact hP.r7 | exact hP.r9a | exact hP.r9b | exact hP.c4 | exact hP.l4 | exact hP.l5 | exact hP.l6 | exact hP.l7 | exact hP.d0 | exact hP.d1 | exact hP.d2 | skip)
        · exact ⟨y, o, u, Q2, rfl, rfl, hq1, hq2⟩
        · exact fun h => absurd (hP.r5 h) (by rw [hd]; decide)
    · rintro l a W hl hd ha ⟨x3, x4, x9, x10, x11, x12, x13, x14, x15, x16, s1, s3, rfl, hS, hP⟩
      have hD : ∀ k, Inv.D (l.setIfInBounds 5 true) k = if k = 5 then true else Inv.D l k := fun k => Inv.D_set l 5 k (by rw [hl]; decide)
      simp [Inv.ahead, Region.binds] at ha
      refine Inv.wpOp_K rfl (fun K hK => ?_)
      go_simp
      refine hK _ _ ⟨x3, x4, _, x10, x11, x12, x13, x14, x15, x16, s1, s3, rfl, ?_, ?_⟩
      · exact hS
      · constructor
        all_goals simp [hD]
        all_goals (first | exact hP.l0 | exact hP.l1 | exact hP.l2 | exact hP.l3 | exact hP.r5 | exact hP.r6 | exact hP.r7 | exact hP.r9a | exact hP.r9b | exact hP.c4 | exact hP.l4 | exact hP.l5 | exact hP.l6 | exact hP.l7 | exact hP.d0 | exact hP.d1 | exact hP.d2 | skip)
        · exact (by first | exact ha | exact ha.1 | exact ha.2 | exact ha.2.1 | exact ha.2.2 | exact ha.2.2.1 | exact ha.2.2.2 | exact ha.2.2.2.1 | exact ha.2.2.2.2)
        · exact fun h => absurd (hP.r6 h) (by rw [hd]; decide)
    · rintro l a W hl hd ha ⟨x3, x4, x9, x10, x11, x12, x13, x14, x15, x16, s1, s3, rfl, hS, hP⟩
      have hD : ∀ k, Inv.D (l.setIfInBounds 6 true) k = if k = 6 then true else Inv.D l k := fun k => Inv.D_set l 6 k (by rw [hl]; decide)
      simp [Inv.ahead, Region.binds] at ha
      obtain rfl := hP.l5 (by first | exact ha | exact ha.1 | exact ha.2 | exact ha.2.1 | exact ha.2.2 | exact ha.2.2.1 | exact ha.2.2.2 | exact ha.2.2.2.1 | exact ha.2.2.2.2)
      obtain ⟨y, o, u, Q2, rfl, hs1, hq1, hq2⟩ := hP.l4 (hP.r5 (by first | exact ha | exact ha.1 | exact ha.2 | exact ha.2.1 | exact ha.2.2 | exact ha.2.2.1 | exact ha.2.2.2 | exact ha.2.2.2.1 | exact ha.2.2.2.2))
      refine Inv.wpOp_K rfl (fun K hK => ?_)
      go_simp
      refine hK _ _ ⟨x3, x4, _, x10, x11, x12, x13, _, _, x16, s1, s3, rfl, ?_, ?_⟩
      · exact hS
      · constructor
        all_goals simp [hD]
        all_goals (first | exact hP.l0 | exact hP.l1 | exact hP.l2 | exact hP.l3 | exact hP.r5 | exact hP.r6 | exact hP.r7 | exact hP.r9a | exact hP.r9b | exact hP.c4 | exact hP.l4 | exact hP.l5 | exact hP.l6 | exact hP.l7 | exact hP.d0 | exact hP.d1 | exact hP.d2 | skip)
        · exact (by first | exact ha | exact ha.1 | exact ha.2 | exact ha.2.1 | exact ha.2.2 | exact ha.2.2.1 | exact ha.2.2.2 | exact ha.2.2.2.1 | exact ha.2.2.2.2)
        · exact ⟨_, rfl, rfl⟩
        · exact fun h => absurd (hP.r9b h) (by rw [hd]; decide)
    · rintro l a W hl hd ha ⟨x3, x4, x9, x10, x11, x12, x13, x14, x15, x16, s1, s3, rfl, hS, hP⟩
      have hD : ∀ k, Inv.D (l.setIfInBounds 7 true) k = if k = 7 then true else Inv.D l k := fun k => Inv.D_set l 7 k (by rw [hl]; decide)
      simp [Inv.ahead, Region.binds] at ha
      obtain rfl := hP.l5 (by first | exact ha | exact ha.1 | exact ha.2 | exact ha.2.1 | exact ha.2.2 | exact ha.2.2.1 | exact ha.2.2.2 | exact ha.2.2.2.1 | exact ha.2.2.2.2)
      obtain ⟨y, o, u, Q2, rfl, hs1, hq1, hq2⟩ := hP.l4 (hP.r5 (by first | exact ha | exact ha.1 | exact ha.2 | exact ha.2.1 | exact ha.2.2 | exact ha.2.2.1 | exact ha.2.2.2 | exact ha.2.2.2.1 | exact ha.2.2.2.2))
      refine Inv.wpOp_K rfl (fun K hK => ?_)
      go_simp
      refine hK _ _ ⟨x3, x4, _, x10, x11, x12, x13, _, x15, _, s1, s3, rfl, ?_, ?_⟩
      · exact hS
      · constructor
        all_goals simp [hD]
        all_goals (first | exact hP.l0 | exact hP.l1 | exact hP.l2 | exact hP.l3 | exact hP.r5 | exact hP.r6 | exact hP.r7 | exact hP.r9a | exact hP.r9b | exact hP.c4 | exact hP.l4 | exact hP.l5 | exact hP.l6 | exact hP.l7 | exact hP.d0 | exact hP.d1 | exact hP.d2 | skip)
        exact (by first | exact ha | exact ha.1 | exact ha.2 | exact ha.2.1 | exact ha.2.2 | exact ha.2.2.1 | exact ha.2.2.2 | exact ha.2.2.2.1 | exact ha.2.2.2.2)
    · rintro l a W hl hd ha ⟨x3, x4, x9, x10, x11, x12, x13, x14, x15, x16, s1, s3, rfl, hS, hP⟩
      have hD : ∀ k, Inv.D (l.setIfInBounds 8 true) k = if k = 8 then true else Inv.D l k := fun k => Inv.D_set l 8 k (by rw [hl]; decide)
      simp [Inv.ahead, Region.binds] at ha
      obtain rfl := hP.d0 hd
      refine Inv.wpOp_K rfl (fun K hK => ?_)
      go_simp
      refine hK _ _ ⟨_, x4, x9, x10, x11, x12, x13, x14, x15, x16, s1, [rG kG (.slice (some ⟨W.heap.size, 0, none⟩) 1 1) [zgv]], rfl, ?_, ?_⟩
      · exact (hS.lit kG [zgv] 1 rfl (by decide) #[.int .i64 0, .int .i64 0, .slice none 0 0, .slice none 0 0, .slice none 0 0, .int .i64 0] rfl).perm (by simpa using (List.perm_middle (l₁ := s1)).symm)
      · constructor
        all_goals simp [hD]
        all_goals (first | exact hP.l0 | exact hP.l1 | exact hP.l2 | exact hP.l3 | exact hP.r5 | exact hP.r6 | exact hP.r7 | exact hP.r9a | exact hP.r9b | exact hP.c4 | exact hP.l4 | exact hP.l5 | exact hP.l6 | exact hP.l7 | exact hP.d0 | exact hP.d1 | exact hP.d2 | skip)
        · exact fun _ => ⟨_, rfl, rfl⟩
        · exact fun h => absurd (hP.r9a h) (by rw [hd]; decide)
    · rintro l a W hl hd ha ⟨x3, x4, x9, x10, x11, x12, x13, x14, x15, x16, s1, s3, rfl, hS, hP⟩
      have hD : ∀ k, Inv.D (l.setIfInBounds 9 true) k = if k = 9 then true else Inv.D l k := fun k => Inv.D_set l 9 k (by rw [hl]; decide)
      simp [Inv.ahead, Region.binds] at ha
      obtain ⟨b, rfl, rfl⟩ := hP.d1 (by first | exact ha | exact ha.1 | exact ha.2 | exact ha.2.1 | exact ha.2.2 | exact ha.2.2.1 | exact ha.2.2.2 | exact ha.2.2.2.1 | exact ha.2.2.2.2) hd
      obtain rfl := hP.l5 (hP.r6 (by first | exact ha | exact ha.1 | exact ha.2 | exact ha.2.1 | exact ha.2.2 | exact ha.2.2.1 | exact ha.2.2.2 | exact ha.2.2.2.1 | exact ha.2.2.2.2))
      obtain ⟨y, o, u, Q2, rfl, rfl, hq1, hq2⟩ := hP.l4 (hP.r5 (hP.r6 (by first | exact ha | exact ha.1 | exact ha.2 | exact ha.2.1 | exact ha.2.2 | exact ha.2.2.1 | exact ha.2.2.2 | exact ha.2.2.2.1 | exact ha.2.2.2.2)))
      obtain ⟨v, ev, e22⟩ := hP.l6 (by first | exact ha | exact ha.1 | exact ha.2 | exact ha.2.1 | exact ha.2.2 | exact ha.2.2.1 | exact ha.2.2.2 | exact ha.2.2.2.1 | exact ha.2.2.2.2)
      injection ev with ev
      have ev2 : v = Gv.v ⟨r.1.t, r.1.q, y, o, u, r.1.s⟩ := by simpa using ev.symm
      clear ev
      subst ev2
      subst e22
      obtain ⟨t0, t1, t2, t3, t4, t5, tf, tg⟩ := g6 hS (K := kG) (g := b) (n := 1) (q := zgv) (by simp) rfl
      simp only [zgv] at t0 t1 t2 t3 t4 t5
      have hS2 := Sg.setG (A := gR ⟨r.1.t, r.1.q, y, o, u, r.1.s⟩ Q2 r.1.O r.1.V) (g := b) (n := 1) (a := zgv) hS ⟨r.1.t, r.1.q, y, o, u, r.1.s⟩
      refine Inv.wpOp_K rfl (fun K hK => ?_)
      go_simp
      refine hK _ _ ⟨_, x4, _, x10, x11, x12, x13, _, _, x16, gR ⟨r.1.t, r.1.q, y, o, u, r.1.s⟩ Q2 r.1.O r.1.V, [rG kG (.slice (some ⟨b, 0, none⟩) 1 1) [⟨r.1.t, r.1.q, y, o, u, r.1.s⟩]], rfl, ?_, ?_⟩
      · exact hS2
      · constructor
        all_goals simp [hD]
        all_goals (first | exact hP.l0 | exact hP.l1 | exact hP.l2 | exact hP.l3 | exact hP.r5 | exact hP.r6 | exact hP.r7 | exact hP.r9a | exact hP.r9b | exact hP.c4 | exact hP.l4 | exact hP.l5 | exact hP.l6 | exact hP.l7 | exact hP.d0 | exact hP.d1 | exact hP.d2 | skip)
        · exact (by first | exact ha | exact ha.1 | exact ha.2 | exact ha.2.1 | exact ha.2.2 | exact ha.2.2.1 | exact ha.2.2.2 | exact ha.2.2.2.1 | exact ha.2.2.2.2)
        · exact (by first | exact ha | exact ha.1 | exact ha.2 | exact ha.2.1 | exact ha.2.2 | exact ha.2.2.1 | exact ha.2.2.2 | exact ha.2.2.2.1 | exact ha.2.2.2.2)
        · exact (by first | exact ha | exact ha.1 | exact ha.2 | exact ha.2.1 | exact ha.2.2 | exact ha.2.2.1 | exact ha.2.2.2 | exact ha.2.2.2.1 | exact ha.2.2.2.2)
        · exact ⟨_, _, rfl, rfl, rfl⟩
    · rintro l a W hl hd ha ⟨x3, x4, x9, x10, x11, x12, x13, x14, x15, x16, s1, s3, rfl, hS, hP⟩
      have hD : ∀ k, Inv.D (l.setIfInBounds 10 true) k = if k = 10 then true else Inv.D l k := fun k => Inv.D_set l 10 k (by rw [hl]; decide)
      simp [Inv.ahead, Region.binds] at ha
      obtain rfl := hP.l7 (by first | exact ha | exact ha.1 | exact ha.2 | exact ha.2.1 | exact ha.2.2 | exact ha.2.2.1 | exact ha.2.2.2 | exact ha.2.2.2.1 | exact ha.2.2.2.2)
      refine Inv.wpOp_K rfl (fun K hK => ?_)
      go_simp
      refine hK _ _ ⟨x3, _, x9, x10, x11, x12, x13, x14, x15, _, s1, s3, rfl, ?_, ?_⟩
      · exact hS
      · constructor
        all_goals simp [hD]
        all_goals (first | exact hP.l0 | exact hP.l1 | exact hP.l2 | exact hP.l3 | exact hP.r5 | exact hP.r6 | exact hP.r7 | exact hP.r9a | exact hP.r9b | exact hP.c4 | exact hP.l4 | exact hP.l5 | exact hP.l6 | exact hP.l7 | exact hP.d0 | exact hP.d1 | exact hP.d2 | skip)
end Go.Proofs.YtobbankkfplooaaGreat.K.G
