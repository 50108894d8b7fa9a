/-
  Voted, Decided, Forgotten: the program's.
-/
import Derived.Test.YtobbankkfplooaaGreatKP8
import Derived.Test.YtobbankkfplooaaGreatKYI
namespace Go.Proofs.YtobbankkfplooaaGreat.K.G
open Go.Shelf Go.RowKit Go.Joins Y
attribute [local go_sem] Oper.semAt_some

def zdd : Dd := ⟨0, 0, [], [], [], 0⟩
theorem nil_own (W : World) (b : Nat) : (rG kI (.slice none 0 0) []).own W b := ⟨rfl, .inl ⟨rfl, rfl⟩⟩
theorem sg_zeroG {w w' : World} (hb : Below w.heap.size w w') : Sg w w' (gR zgv [] [] []) := by
  refine ⟨hb, fun r hr => ?_, ?_⟩
  · simp [gR, trY, zgv] at hr
    rcases hr with rfl | rfl
    · exact ⟨rfl, .inl ⟨rfl, rfl⟩⟩
    · exact ⟨rfl, .inl ⟨rfl, rfl⟩⟩
  · simp [gR, trY, zgv, rG, Value.ownBlock]
theorem dlo_zero {w w' : World} (hb : Below w.heap.size w w') : DlO zdd w w' (Gv.v zgv) :=
  ⟨⟨none, 0, 0⟩, ⟨none, 0, 0⟩, ⟨none, 0, 0⟩, [], rfl, rfl, by simp, sg_zeroG hb⟩
theorem deal_small {w : World} {h : Gv} {QL : List YQ} {O V : List Int} (H : RdG w h QL O V) (hd : DealP h.t h.q (yds QL) O V h.s) : (1 ≤ h.y.n ∧ h.y.n ≤ 4) ∧ h.o.n = h.y.n ∧ h.u.n = h.y.n ∧ ∀ q ∈ QL, q.2.n ≤ 1000 := by
  have e := yds_len QL
  refine ⟨by rw [← H.yn, ← e]; exact hd.n, by rw [← H.on, ← H.yn, ← e]; exact hd.on, by rw [← H.un, ← H.yn, ← e]; exact hd.un, fun q hq => ?_⟩
  have h1 := (hd.y q.1 (List.mem_map.2 ⟨q, hq, rfl⟩)).1
  have h2 := (yB_parts h1).2.2.1.2
  have h3 := (H.y.2 q hq).2
  omega
theorem vt_id {a : List Int} (h : a.length = 4) : vt a = a := by
  match a, h with
  | [_, _, _, _], _ => rfl
theorem became_r (h : Gv) (QL : List YQ) (O V : List Int) (p : List Int × Int) (hp4 : p.1.length = 4) (w : World) (H : RdG w h QL O V) (hk : OkG h QL) (hy : h.y.n ≤ 1000) (ho : h.o.n ≤ 1000) (hu : 1 ≤ h.u.n ∧ h.u.n ≤ 4) (hsm : ∀ q ∈ QL, q.2.n ≤ 1000) {r : Dd × Bool} (hr : becameD ⟨h.t, h.q, yds QL, O, V, h.s⟩ p = r) :
    Calls Tryz.prog 32 #[h.v, (Sd.mk (q4 p.1) p.2).v] w fun e w' => ∃ v, e = .returned (.tuple #[v, .bool r.2]) ∧ DlO r.1 w w' v := by
  have hB := became_any h QL O V (q4 p.1) p.2 w H hk hy ho hu hsm rfl
  rw [q4_l, vt_id hp4, ← H.un] at hB
  rw [← hr]
  exact hB
theorem votedS_len {a : List Int} {s k : Int} {yes : Bool} (h : a.length = 4) : (votedS a s k yes).1.length = 4 := by
  unfold votedS; split <;> simp [h]
theorem decidedS_len {a al : List Int} {s : Int} {off : Bool} (h : a.length = 4) : (decidedS a s off al).1.length = 4 := by
  unfold decidedS; repeat' split
  all_goals exact h
theorem forgottenS_len {a : List Int} {s : Int} (h : a.length = 4) : (forgottenS a s).1.length = 4 := by
  unfold forgottenS; split
  · rfl
  · exact h
/-- What has become of the last region's slots. -/
def BV (r : Dd × Bool) (x : Value) (s1 : List Rw) : Prop := ∃ (y o u : Sv) (Q2 : List YQ), x = .tuple #[Gv.v ⟨r.1.t, r.1.q, y, o, u, r.1.s⟩, .bool r.2] ∧ s1 = gR ⟨r.1.t, r.1.q, y, o, u, r.1.s⟩ Q2 r.1.O r.1.V ∧ yds Q2 = r.1.Y ∧ ∀ q ∈ Q2, q.2.n ≤ 1000 ∧ q.1.L.length = q.2.n
def BX (r : Dd × Bool) (x y : Value) : Prop := ∃ v, x = .tuple #[v, .bool r.2] ∧ y = v
def B6 (g : Nat) (x : Value) (s3 : List Rw) : Prop := ∃ a : Gv, x = a.v ∧ s3 = [rG kG (.slice (some ⟨g, 0, none⟩) 1 1) [a]]
structure CPv (w : World) (hv ov sq rv a5 a6 a7 : Value) (r : Dd × Bool) (l : Array Bool) (x7 x12 x13 x14 x15 x16 x17 x18 x19 x20 x21 x22 x23 : Value) (s1 s3 : List Rw) : Prop where
  l0 : Inv.D l 0 = true → x12 = hv
  l1 : Inv.D l 1 = true → x13 = hv
  l2 : Inv.D l 2 = true → x14 = sq
  l3 : Inv.D l 3 = true → x15 = .pointer (some ⟨w.heap.size, 3, none⟩)
  l4 : Inv.D l 4 = true → x16 = ov
  l5 : Inv.D l 5 = true → x17 = a5
  l6 : Inv.D l 6 = true → x18 = a6
  l7 : Inv.D l 7 = true → x19 = a7
  l8 : Inv.D l 8 = true → x20 = rv
  r10 : Inv.D l 10 = true → Inv.D l 9 = true
  r12 : Inv.D l 12 = true → Inv.D l 10 = true
  r11 : Inv.D l 11 = true → Inv.D l 9 = true
  r13 : Inv.D l 13 = true → Inv.D l 11 = true
  c9 : Inv.D l 9 = false → s1 = []
  l9 : Inv.D l 9 = true → BV r x21 s1
  l10 : Inv.D l 10 = true → BX r x21 x22
  l11 : Inv.D l 11 = true → x23 = .bool r.2
  d0 : Inv.D l 12 = false → s3 = [rG kG (.slice (some ⟨w.heap.size + 1, 0, none⟩) 1 1) [zgv]]
  d1 : Inv.D l 12 = true → B6 (w.heap.size + 1) x22 s3
  l13 : Inv.D l 13 = true → x7 = .bool r.2
set_option maxRecDepth 100000 in
set_option maxHeartbeats 4000000 in
theorem iVoted_any (h : Gv) (QL : List YQ) (O V : List Int) (x : Int) (yes : Bool) (w : World) (H : RdG w h QL O V) (hk : OkG h QL) {r : Dd × Bool} (hr : (if dB ⟨h.t, h.q, yds QL, O, V, h.s⟩ = true then votedD ⟨h.t, h.q, yds QL, O, V, h.s⟩ x yes else (zdd, false)) = r) :
    Calls Tryz.prog 9 #[h.v, .int .i64 x, .bool yes] w fun e w' => ∃ v, e = .returned (.tuple #[v, .bool r.2]) ∧ DlO r.1 w w' v := by
  have HI := Lib.hid (fun W (hb : Below w.heap.size w W) => iDealOk_v (h := h) (QL := QL) (O := O) (V := V) rfl W (H.step hb))
  change Hid (∀ W, Below w.heap.size w W → Calls Tryz.prog 17 #[h.v] W fun e w' => e = .returned (.bool (dB ⟨h.t, h.q, yds QL, O, V, h.s⟩)) ∧ Below W.heap.size W w') at HI
  cases hd : dB ⟨h.t, h.q, yds QL, O, V, h.s⟩
  · rw [hd] at HI hr
    obtain rfl : (zdd, false) = r := hr
    clear H hk hd
    obtain ⟨t, q, ⟨yp, yn, yc⟩, ⟨op, on, oc⟩, ⟨up, un, uc⟩, s⟩ := h
    simp only at HI ⊢
    have hS1 := (((Sg.nil w).lit kG [⟨t, q, ⟨yp, yn, yc⟩, ⟨op, on, oc⟩, ⟨up, un, uc⟩, s⟩] 1 rfl (by decide) #[.int .i64 t, .int .i64 q, .slice yp yn yc, .slice op on oc, .slice up un uc, .int .i64 s] rfl).lit kG [zgv] 1 rfl (by decide) #[.int .i64 0, .int .i64 0, .slice none 0 0, .slice none 0 0, .slice none 0 0, .int .i64 0] rfl)
    simp only [World.size_alloc] at hS1
    go_enter Tryz.func9, Tryz.ntmps9
    go_wp2_with (go_at_call 17; refine (HI.out _ hS1.bel).mono ?_; rintro e w1 ⟨rfl, hb1⟩; have hS2 := hS1.step hb1; obtain ⟨v0, v1, v2, v3, v4, v5, vf, vg⟩ := g6 hS2 (K := kG) (g := w.heap.size + 1) (n := 1) (q := zgv) (by simp) rfl; simp only [zgv] at v0 v1 v2 v3 v4 v5)
    have hS3 := Sg.setG (A := []) (g := w.heap.size + 1) (n := 1) (a := zgv) hS2 zgv
    refine bodyPost_ret (v := .tuple #[.agg #[.int .i64 0, .int .i64 0, .slice none 0 0, .slice none 0 0, .slice none 0 0, .int .i64 0], .bool false]) (by simp [results, Tryz.results9, go_sem, v0, v1, v2, v3, v4, v5]) rfl ⟨_, rfl, dlo_zero hS3.bel⟩
  have hp := dB_iff.1 hd
  obtain ⟨⟨s1, s4⟩, so, su, ssm⟩ := deal_small H hp
  rw [hd] at HI hr
  rw [if_pos rfl] at hr
  rw [← became_voted hp] at hr
  have hat := atN_bd (L := O) (x := x) (k := 0) (by decide)
  rw [H.on] at hat
  have HS := Lib.hid (fun W (hb : Below w.heap.size w W) => standing_any h V W (H.u.step hb) H.un (by omega))
  have HX := Lib.hid (fun W (hb : Below w.heap.size w W) => index_any h.o.p h.o.c O h.o.n x H.on W (H.o.step hb) (by omega))
  have HB := Lib.hid (fun W (hb : Below w.heap.size w W) => became_r h QL O V _ (votedS_len (vt_len V)) W (H.step hb) hk (by omega) (by omega) (by omega) ssm hr)
  simp only at HB
  have e2 : (votedS (vt V) h.s (atN O x 0) yes).2 = h.s := by unfold votedS; split <;> rfl
  have HV := Lib.hid (fun W => voted_any (q := q4 V) (s := h.s) (k := atN O x 0) (yes := yes) (by omega) rfl W)
  rw [q4_l] at HV
  rw [e2] at HB
  generalize q4 (votedS (vt V) h.s (atN O x 0) yes).1 = rq at HB HV
  generalize q4 V = qq at HS HV
  generalize atN O x 0 = kk at HX HV
  clear hr hat e2 H hk hd hp s1 s4 so su ssm
  obtain ⟨t, q, ⟨yp, yn, yc⟩, ⟨op, on, oc⟩, ⟨up, un, uc⟩, s⟩ := h
  simp only at HI HS HX HB HV ⊢
  have hS1 := (((Sg.nil w).lit kG [⟨t, q, ⟨yp, yn, yc⟩, ⟨op, on, oc⟩, ⟨up, un, uc⟩, s⟩] 1 rfl (by decide) #[.int .i64 t, .int .i64 q, .slice yp yn yc, .slice op on oc, .slice up un uc, .int .i64 s] rfl).lit kG [zgv] 1 rfl (by decide) #[.int .i64 0, .int .i64 0, .slice none 0 0, .slice none 0 0, .slice none 0 0, .int .i64 0] rfl)
  simp only [World.size_alloc] at hS1
  go_enter Tryz.func9, Tryz.ntmps9
  go_upto_region 3 with (go_at_call 17; refine (HI.out _ hS1.bel).mono ?_; rintro e w1 ⟨rfl, hb1⟩; have hS2 := hS1.step hb1)
  refine Inv.wp_region_each (fun l a W => ∃ (x7 x12 x13 x14 x15 x16 x17 x18 x19 x20 x21 x22 x23 : Value) (s1 s3 : List Rw), a = ⟨#[Gv.v ⟨t, q, ⟨yp, yn, yc⟩, ⟨op, on, oc⟩, ⟨up, un, uc⟩, s⟩, .int .i64 x, .bool yes, .pointer (some ⟨w.heap.size, 0, none⟩), undef, undef, .pointer (some ⟨w.heap.size + 1, 0, none⟩), x7, .agg #[.int .i64 t, .int .i64 q, .slice yp yn yc, .slice op on oc, .slice up un uc, .int .i64 s], .bool true, .bool false, undef, x12, x13, x14, x15, x16, x17, x18, x19, x20, x21, x22, x23], []⟩ ∧ Sg w W (s1 ++ (s3 ++ [rG kG (.slice (some ⟨w.heap.size, 0, none⟩) 1 1) [⟨t, q, ⟨yp, yn, yc⟩, ⟨op, on, oc⟩, ⟨up, un, uc⟩, s⟩]])) ∧ CPv w (.agg #[.int .i64 t, .int .i64 q, .slice yp yn yc, .slice op on oc, .slice up un uc, .int .i64 s]) (.slice op on oc) (Sd.v ⟨qq, s⟩) (Sd.v ⟨rq, s⟩) (.int .i64 x) (.int .i64 kk) (.bool yes) r l x7 x12 x13 x14 x15 x16 x17 x18 x19 x20 x21 x22 x23 s1 s3) (by kernel_rfl) (by kernel_rfl) ?_ ?_ ?_
  · refine ⟨.bool false, undef, undef, undef, undef, undef, undef, undef, undef, undef, undef, undef, undef, [], [rG kG (.slice (some ⟨w.heap.size + 1, 0, none⟩) 1 1) [zgv]], rfl, hS2.step (Below.refl _ _).drew, ?_⟩
    constructor <;> simp [Inv.D]
  · rintro l a W hD ⟨x7, x12, x13, x14, x15, x16, x17, x18, x19, x20, x21, x22, x23, s1, s3, rfl, hS, hP⟩
    obtain ⟨y, o, u, Q2, e1, rfl, hq1, hq2⟩ := hP.l9 (hD 9 (by decide))
    obtain ⟨v, e2, e3⟩ := hP.l10 (hD 10 (by decide))
    obtain ⟨a, e4, rfl⟩ := hP.d1 (hD 12 (by decide))
    obtain rfl := hP.l13 (hD 13 (by decide))
    have e5 : a.v = Gv.v ⟨r.1.t, r.1.q, y, o, u, r.1.s⟩ := by
      rw [e1] at e2
      injection e2 with e2
      rw [← e4, e3]
      simpa using e2.symm
    obtain ⟨t0, t1, t2, t3, t4, t5, tf, tg⟩ := g6 hS (K := kG) (g := w.heap.size + 1) (n := 1) (q := a) (by simp) rfl
    clear hP hD e1 e2 e3 e4
    try dsimp only
    go_wp2_with (fail)
    refine bodyPost_ret (v := .tuple #[.agg #[.int .i64 a.t, .int .i64 a.q, .slice a.y.p a.y.n a.y.c, .slice a.o.p a.o.n a.o.c, .slice a.u.p a.u.n a.u.c, .int .i64 a.s], .bool r.2]) (by simp [results, Tryz.results9, go_sem, t0, t1, t2, t3, t4, t5]) rfl ⟨_, rfl, y, o, u, Q2, e5, hq1, hq2, hS.sub (List.sublist_append_left ..)⟩
  · refine ⟨?_, ?_, ?_, ?_, ?_, ?_, ?_, ?_, ?_, ?_, ?_, ?_, ?_, ?_, trivial⟩
    · rintro l a W hl hd ha ⟨x7, x12, x13, x14, x15, x16, x17, x18, x19, x20, x21, x22, x23, s1, s3, rfl, hS, hP⟩
      have hD : ∀ k, Inv.D (l.setIfInBounds 0 true) k = if k = 0 then true else Inv.D l k := fun k => Inv.D_set l 0 k (by rw [hl]; decide)
      simp [Inv.ahead, Region.binds] at ha
      obtain ⟨y0, y1, y2, y3, y4, y5, yf, yg⟩ := g6 hS (K := kG) (g := w.heap.size) (n := 1) (q := ⟨t, q, ⟨yp, yn, yc⟩, ⟨op, on, oc⟩, ⟨up, un, uc⟩, s⟩) (by simp) rfl
      simp only at y0 y1 y2 y3 y4 y5
      refine Inv.wpOp_K rfl (fun K hK => ?_)
      go_simp
      refine hK _ _ ⟨x7, _, x13, x14, x15, x16, x17, x18, x19, x20, x21, x22, x23, s1, s3, rfl, ?_, ?_⟩
      · exact hS
      · constructor
        all_goals simp [hD]
        all_goals (first | exact hP.l0 | exact hP.l1 | exact hP.l2 | exact hP.l3 | exact hP.l4 | exact hP.l5 | exact hP.l6 | exact hP.l7 | exact hP.l8 | exact hP.r10 | exact hP.r12 | exact hP.r11 | exact hP.r13 | exact hP.c9 | exact hP.l9 | exact hP.l10 | exact hP.l11 | exact hP.d0 | exact hP.d1 | exact hP.l13 | skip)
    · rintro l a W hl hd ha ⟨x7, x12, x13, x14, x15, x16, x17, x18, x19, x20, x21, x22, x23, s1, s3, rfl, hS, hP⟩
      have hD : ∀ k, Inv.D (l.setIfInBounds 1 true) k = if k = 1 then true else Inv.D l k := fun k => Inv.D_set l 1 k (by rw [hl]; decide)
      simp [Inv.ahead, Region.binds] at ha
      obtain ⟨y0, y1, y2, y3, y4, y5, yf, yg⟩ := g6 hS (K := kG) (g := w.heap.size) (n := 1) (q := ⟨t, q, ⟨yp, yn, yc⟩, ⟨op, on, oc⟩, ⟨up, un, uc⟩, s⟩) (by simp) rfl
      simp only at y0 y1 y2 y3 y4 y5
      refine Inv.wpOp_K rfl (fun K hK => ?_)
      go_simp
      refine hK _ _ ⟨x7, x12, _, x14, x15, x16, x17, x18, x19, x20, x21, x22, x23, s1, s3, rfl, ?_, ?_⟩
      · exact hS
      · constructor
        all_goals simp [hD]
        all_goals (first | exact hP.l0 | exact hP.l1 | exact hP.l2 | exact hP.l3 | exact hP.l4 | exact hP.l5 | exact hP.l6 | exact hP.l7 | exact hP.l8 | exact hP.r10 | exact hP.r12 | exact hP.r11 | exact hP.r13 | exact hP.c9 | exact hP.l9 | exact hP.l10 | exact hP.l11 | exact hP.d0 | exact hP.d1 | exact hP.l13 | skip)
    · rintro l a W hl hd ha ⟨x7, x12, x13, x14, x15, x16, x17, x18, x19, x20, x21, x22, x23, s1, s3, rfl, hS, hP⟩
      have hD : ∀ k, Inv.D (l.setIfInBounds 2 true) k = if k = 2 then true else Inv.D l k := fun k => Inv.D_set l 2 k (by rw [hl]; decide)
      simp [Inv.ahead, Region.binds] at ha
      obtain rfl := hP.l1 (by first | exact ha | exact ha.1 | exact ha.2 | exact ha.2.1 | exact ha.2.2 | exact ha.2.2.1 | exact ha.2.2.2 | exact ha.2.2.2.1 | exact ha.2.2.2.2)
      refine Inv.wpOp_K rfl (fun K hK => ?_)
      go_simp
      go_at_call 33
      refine (HS.out _ hS.bel).mono ?_
      rintro e w1 ⟨rfl, hb1⟩
      refine hK _ _ ⟨x7, x12, _, _, x15, x16, x17, x18, x19, x20, x21, x22, x23, s1, s3, rfl, ?_, ?_⟩
      · exact hS.step hb1
      · constructor
        all_goals simp [hD]
        all_goals (first | exact hP.l0 | exact hP.l1 | exact hP.l2 | exact hP.l3 | exact hP.l4 | exact hP.l5 | exact hP.l6 | exact hP.l7 | exact hP.l8 | exact hP.r10 | exact hP.r12 | exact hP.r11 | exact hP.r13 | exact hP.c9 | exact hP.l9 | exact hP.l10 | exact hP.l11 | exact hP.d0 | exact hP.d1 | exact hP.l13 | skip)
    · rintro l a W hl hd ha ⟨x7, x12, x13, x14, x15, x16, x17, x18, x19, x20, x21, x22, x23, s1, s3, rfl, hS, hP⟩
      have hD : ∀ k, Inv.D (l.setIfInBounds 3 true) k = if k = 3 then true else Inv.D l k := fun k => Inv.D_set l 3 k (by rw [hl]; decide)
      simp [Inv.ahead, Region.binds] at ha
      refine Inv.wpOp_K rfl (fun K hK => ?_)
      go_simp
      refine hK _ _ ⟨x7, x12, x13, x14, _, x16, x17, x18, x19, x20, x21, x22, x23, s1, s3, rfl, ?_, ?_⟩
      · exact hS
      · constructor
        all_goals simp [hD]
        all_goals (first | exact hP.l0 | exact hP.l1 | exact hP.l2 | exact hP.l3 | exact hP.l4 | exact hP.l5 | exact hP.l6 | exact hP.l7 | exact hP.l8 | exact hP.r10 | exact hP.r12 | exact hP.r11 | exact hP.r13 | exact hP.c9 | exact hP.l9 | exact hP.l10 | exact hP.l11 | exact hP.d0 | exact hP.d1 | exact hP.l13 | skip)
    · rintro l a W hl hd ha ⟨x7, x12, x13, x14, x15, x16, x17, x18, x19, x20, x21, x22, x23, s1, s3, rfl, hS, hP⟩
      have hD : ∀ k, Inv.D (l.setIfInBounds 4 true) k = if k = 4 then true else Inv.D l k := fun k => Inv.D_set l 4 k (by rw [hl]; decide)
      simp [Inv.ahead, Region.binds] at ha
      obtain rfl := hP.l3 (by first | exact ha | exact ha.1 | exact ha.2 | exact ha.2.1 | exact ha.2.2 | exact ha.2.2.1 | exact ha.2.2.2 | exact ha.2.2.2.1 | exact ha.2.2.2.2)
      obtain ⟨y0, y1, y2, y3, y4, y5, yf, yg⟩ := g6 hS (K := kG) (g := w.heap.size) (n := 1) (q := ⟨t, q, ⟨yp, yn, yc⟩, ⟨op, on, oc⟩, ⟨up, un, uc⟩, s⟩) (by simp) rfl
      simp only at y0 y1 y2 y3 y4 y5
      refine Inv.wpOp_K rfl (fun K hK => ?_)
      go_simp
      refine hK _ _ ⟨x7, x12, x13, x14, _, _, x17, x18, x19, x20, x21, x22, x23, s1, s3, rfl, ?_, ?_⟩
      · exact hS
      · constructor
        all_goals simp [hD]
        all_goals (first | exact hP.l0 | exact hP.l1 | exact hP.l2 | exact hP.l3 | exact hP.l4 | exact hP.l5 | exact hP.l6 | exact hP.l7 | exact hP.l8 | exact hP.r10 | exact hP.r12 | exact hP.r11 | exact hP.r13 | exact hP.c9 | exact hP.l9 | exact hP.l10 | exact hP.l11 | exact hP.d0 | exact hP.d1 | exact hP.l13 | skip)
    · rintro l a W hl hd ha ⟨x7, x12, x13, x14, x15, x16, x17, x18, x19, x20, x21, x22, x23, s1, s3, rfl, hS, hP⟩
      have hD : ∀ k, Inv.D (l.setIfInBounds 5 true) k = if k = 5 then true else Inv.D l k := fun k => Inv.D_set l 5 k (by rw [hl]; decide)
      simp [Inv.ahead, Region.binds] at ha
      refine Inv.wpOp_K rfl (fun K hK => ?_)
      go_simp
      refine hK _ _ ⟨x7, x12, x13, x14, x15, x16, _, x18, x19, x20, x21, x22, x23, s1, s3, rfl, ?_, ?_⟩
      · exact hS
      · constructor
        all_goals simp [hD]
        all_goals (first | exact hP.l0 | exact hP.l1 | exact hP.l2 | exact hP.l3 | exact hP.l4 | exact hP.l5 | exact hP.l6 | exact hP.l7 | exact hP.l8 | exact hP.r10 | exact hP.r12 | exact hP.r11 | exact hP.r13 | exact hP.c9 | exact hP.l9 | exact hP.l10 | exact hP.l11 | exact hP.d0 | exact hP.d1 | exact hP.l13 | skip)
    · rintro l a W hl hd ha ⟨x7, x12, x13, x14, x15, x16, x17, x18, x19, x20, x21, x22, x23, s1, s3, rfl, hS, hP⟩
      have hD : ∀ k, Inv.D (l.setIfInBounds 6 true) k = if k = 6 then true else Inv.D l k := fun k => Inv.D_set l 6 k (by rw [hl]; decide)
      simp [Inv.ahead, Region.binds] at ha
      obtain rfl := hP.l4 (by first | exact ha | exact ha.1 | exact ha.2 | exact ha.2.1 | exact ha.2.2 | exact ha.2.2.1 | exact ha.2.2.2 | exact ha.2.2.2.1 | exact ha.2.2.2.2)
      obtain rfl := hP.l5 (by first | exact ha | exact ha.1 | exact ha.2 | exact ha.2.1 | exact ha.2.2 | exact ha.2.2.1 | exact ha.2.2.2 | exact ha.2.2.2.1 | exact ha.2.2.2.2)
      refine Inv.wpOp_K rfl (fun K hK => ?_)
      go_simp
      go_at_call 35
      refine (HX.out _ hS.bel).mono ?_
      rintro e w1 ⟨rfl, hw1⟩
      refine hK _ _ ⟨x7, x12, x13, x14, x15, _, _, _, x19, x20, x21, x22, x23, s1, s3, rfl, ?_, ?_⟩
      · obtain rfl := hw1.symm
        exact hS
      · constructor
        all_goals simp [hD]
        all_goals (first | exact hP.l0 | exact hP.l1 | exact hP.l2 | exact hP.l3 | exact hP.l4 | exact hP.l5 | exact hP.l6 | exact hP.l7 | exact hP.l8 | exact hP.r10 | exact hP.r12 | exact hP.r11 | exact hP.r13 | exact hP.c9 | exact hP.l9 | exact hP.l10 | exact hP.l11 | exact hP.d0 | exact hP.d1 | exact hP.l13 | skip)
    · rintro l a W hl hd ha ⟨x7, x12, x13, x14, x15, x16, x17, x18, x19, x20, x21, x22, x23, s1, s3, rfl, hS, hP⟩
      have hD : ∀ k, Inv.D (l.setIfInBounds 7 true) k = if k = 7 then true else Inv.D l k := fun k => Inv.D_set l 7 k (by rw [hl]; decide)
      simp [Inv.ahead, Region.binds] at ha
      refine Inv.wpOp_K rfl (fun K hK => ?_)
      go_simp
      refine hK _ _ ⟨x7, x12, x13, x14, x15, x16, x17, x18, _, x20, x21, x22, x23, s1, s3, rfl, ?_, ?_⟩
      · exact hS
      · constructor
        all_goals simp [hD]
        all_goals (first | exact hP.l0 | exact hP.l1 | exact hP.l2 | exact hP.l3 | exact hP.l4 | exact hP.l5 | exact hP.l6 | exact hP.l7 | exact hP.l8 | exact hP.r10 | exact hP.r12 | exact hP.r11 | exact hP.r13 | exact hP.c9 | exact hP.l9 | exact hP.l10 | exact hP.l11 | exact hP.d0 | exact hP.d1 | exact hP.l13 | skip)
    · rintro l a W hl hd ha ⟨x7, x12, x13, x14, x15, x16, x17, x18, x19, x20, x21, x22, x23, s1, s3, rfl, hS, hP⟩
      have hD : ∀ k, Inv.D (l.setIfInBounds 8 true) k = if k = 8 then true else Inv.D l k := fun k => Inv.D_set l 8 k (by rw [hl]; decide)
      simp [Inv.ahead, Region.binds] at ha
      obtain rfl := hP.l2 (by first | exact ha | exact ha.1 | exact ha.2 | exact ha.2.1 | exact ha.2.2 | exact ha.2.2.1 | exact ha.2.2.2 | exact ha.2.2.2.1 | exact ha.2.2.2.2)
      obtain rfl := hP.l6 (by first | exact ha | exact ha.1 | exact ha.2 | exact ha.2.1 | exact ha.2.2 | exact ha.2.2.1 | exact ha.2.2.2 | exact ha.2.2.2.1 | exact ha.2.2.2.2)
      obtain rfl := hP.l7 (by first | exact ha | exact ha.1 | exact ha.2 | exact ha.2.1 | exact ha.2.2 | exact ha.2.2.1 | exact ha.2.2.2 | exact ha.2.2.2.1 | exact ha.2.2.2.2)
      refine Inv.wpOp_K rfl (fun K hK => ?_)
      go_simp
      go_at_call 34
      refine (HV.out _).mono ?_
      rintro e w1 ⟨rfl, hb1⟩
      refine hK _ _ ⟨x7, x12, x13, _, x15, x16, x17, _, _, _, x21, x22, x23, s1, s3, rfl, ?_, ?_⟩
      · exact hS.step hb1
      · constructor
        all_goals simp [hD]
        all_goals (first | exact hP.l0 | exact hP.l1 | exact hP.l2 | exact hP.l3 | exact hP.l4 | exact hP.l5 | exact hP.l6 | exact hP.l7 | exact hP.l8 | exact hP.r10 | exact hP.r12 | exact hP.r11 | exact hP.r13 | exact hP.c9 | exact hP.l9 | exact hP.l10 | exact hP.l11 | exact hP.d0 | exact hP.d1 | exact hP.l13 | skip)
    · rintro l a W hl hd ha ⟨x7, x12, x13, x14, x15, x16, x17, x18, x19, x20, x21, x22, x23, s1, s3, rfl, hS, hP⟩
      have hD : ∀ k, Inv.D (l.setIfInBounds 9 true) k = if k = 9 then true else Inv.D l k := fun k => Inv.D_set l 9 k (by rw [hl]; decide)
      simp [Inv.ahead, Region.binds] at ha
      obtain rfl := hP.l0 (by first | exact ha | exact ha.1 | exact ha.2 | exact ha.2.1 | exact ha.2.2 | exact ha.2.2.1 | exact ha.2.2.2 | exact ha.2.2.2.1 | exact ha.2.2.2.2)
      obtain rfl := hP.l8 (by first | exact ha | exact ha.1 | exact ha.2 | exact ha.2.1 | exact ha.2.2 | exact ha.2.2.1 | exact ha.2.2.2 | exact ha.2.2.2.1 | exact ha.2.2.2.2)
      obtain rfl := hP.c9 hd
      refine Inv.wpOp_K rfl (fun K hK => ?_)
      go_simp
      go_at_call 32
      refine (HB.out _ hS.bel).mono ?_
      rintro e w1 ⟨v, rfl, y, o, u, Q2, rfl, hq1, hq2, h1⟩
      refine hK _ _ ⟨x7, _, x13, x14, x15, x16, x17, x18, x19, _, _, x22, x23, gR ⟨r.1.t, r.1.q, y, o, u, r.1.s⟩ Q2 r.1.O r.1.V, s3, rfl, ?_, ?_⟩
      · have h2 := hS.addL h1
        simpa using h2
      · constructor
        all_goals simp [hD]
        all_goals (first | exact hP.l0 | exact hP.l1 | exact hP.l2 | exact hP.l3 | exact hP.l4 | exact hP.l5 | exact hP.l6 | exact hP.l7 | exact hP.l8 | exact hP.r10 | exact hP.r12 | exact hP.r11 | exact hP.r13 | exact hP.c9 | exact hP.l9 | exact hP.l10 | exact hP.l11 | exact hP.d0 | exact hP.d1 | exact hP.l13 | skip)
        · exact ⟨y, o, u, Q2, rfl, rfl, hq1, hq2⟩
        · exact fun h => absurd (hP.r10 h) (by rw [hd]; decide)
    · rintro l a W hl hd ha ⟨x7, x12, x13, x14, x15, x16, x17, x18, x19, x20, x21, x22, x23, s1, s3, rfl, hS, hP⟩
      have hD : ∀ k, Inv.D (l.setIfInBounds 10 true) k = if k = 10 then true else Inv.D l k := fun k => Inv.D_set l 10 k (by rw [hl]; decide)
      simp [Inv.ahead, Region.binds] at ha
      obtain ⟨y, o, u, Q2, rfl, hs1, hq1, hq2⟩ := hP.l9 (by first | exact ha | exact ha.1 | exact ha.2 | exact ha.2.1 | exact ha.2.2 | exact ha.2.2.1 | exact ha.2.2.2 | exact ha.2.2.2.1 | exact ha.2.2.2.2)
      refine Inv.wpOp_K rfl (fun K hK => ?_)
      go_simp
      refine hK _ _ ⟨x7, x12, x13, x14, x15, x16, x17, x18, x19, x20, _, _, x23, s1, s3, rfl, ?_, ?_⟩
      · exact hS
      · constructor
        all_goals simp [hD]
        all_goals (first | exact hP.l0 | exact hP.l1 | exact hP.l2 | exact hP.l3 | exact hP.l4 | exact hP.l5 | exact hP.l6 | exact hP.l7 | exact hP.l8 | exact hP.r10 | exact hP.r12 | exact hP.r11 | exact hP.r13 | exact hP.c9 | exact hP.l9 | exact hP.l10 | exact hP.l11 | exact hP.d0 | exact hP.d1 | exact hP.l13 | skip)
        · exact (by first | exact ha | exact ha.1 | exact ha.2 | exact ha.2.1 | exact ha.2.2 | exact ha.2.2.1 | exact ha.2.2.2 | exact ha.2.2.2.1 | exact ha.2.2.2.2)
        · exact ⟨_, rfl, rfl⟩
        · exact fun h => absurd (hP.r12 h) (by rw [hd]; decide)
    · rintro l a W hl hd ha ⟨x7, x12, x13, x14, x15, x16, x17, x18, x19, x20, x21, x22, x23, s1, s3, rfl, hS, hP⟩
      have hD : ∀ k, Inv.D (l.setIfInBounds 11 true) k = if k = 11 then true else Inv.D l k := fun k => Inv.D_set l 11 k (by rw [hl]; decide)
      simp [Inv.ahead, Region.binds] at ha
      obtain ⟨y, o, u, Q2, rfl, hs1, hq1, hq2⟩ := hP.l9 (by first | exact ha | exact ha.1 | exact ha.2 | exact ha.2.1 | exact ha.2.2 | exact ha.2.2.1 | exact ha.2.2.2 | exact ha.2.2.2.1 | exact ha.2.2.2.2)
      refine Inv.wpOp_K rfl (fun K hK => ?_)
      go_simp
      refine hK _ _ ⟨x7, x12, x13, x14, x15, x16, x17, x18, x19, x20, _, x22, _, s1, s3, rfl, ?_, ?_⟩
      · exact hS
      · constructor
        all_goals simp [hD]
        all_goals (first | exact hP.l0 | exact hP.l1 | exact hP.l2 | exact hP.l3 | exact hP.l4 | exact hP.l5 | exact hP.l6 | exact hP.l7 | exact hP.l8 | exact hP.r10 | exact hP.r12 | exact hP.r11 | exact hP.r13 | exact hP.c9 | exact hP.l9 | exact hP.l10 | exact hP.l11 | exact hP.d0 | exact hP.d1 | exact hP.l13 | skip)
        exact (by first | exact ha | exact ha.1 | exact ha.2 | exact ha.2.1 | exact ha.2.2 | exact ha.2.2.1 | exact ha.2.2.2 | exact ha.2.2.2.1 | exact ha.2.2.2.2)
    · rintro l a W hl hd ha ⟨x7, x12, x13, x14, x15, x16, x17, x18, x19, x20, x21, x22, x23, s1, s3, rfl, hS, hP⟩
      have hD : ∀ k, Inv.D (l.setIfInBounds 12 true) k = if k = 12 then true else Inv.D l k := fun k => Inv.D_set l 12 k (by rw [hl]; decide)
      simp [Inv.ahead, Region.binds] at ha
      obtain rfl := hP.d0 hd
      obtain ⟨y, o, u, Q2, rfl, rfl, hq1, hq2⟩ := hP.l9 (by first | exact ha | exact ha.1 | exact ha.2 | exact ha.2.1 | exact ha.2.2 | exact ha.2.2.1 | exact ha.2.2.2 | exact ha.2.2.2.1 | exact ha.2.2.2.2)
      obtain ⟨v, ev, e22⟩ := hP.l10 (by first | exact ha | exact ha.1 | exact ha.2 | exact ha.2.1 | exact ha.2.2 | exact ha.2.2.1 | exact ha.2.2.2 | exact ha.2.2.2.1 | exact ha.2.2.2.2)
      injection ev with ev
      have ev2 : v = Gv.v ⟨r.1.t, r.1.q, y, o, u, r.1.s⟩ := by simpa using ev.symm
      clear ev
      subst ev2
      subst e22
      obtain ⟨t0, t1, t2, t3, t4, t5, tf, tg⟩ := g6 hS (K := kG) (g := w.heap.size + 1) (n := 1) (q := zgv) (by simp) rfl
      simp only [zgv] at t0 t1 t2 t3 t4 t5
      have hS2 := Sg.setG (A := gR ⟨r.1.t, r.1.q, y, o, u, r.1.s⟩ Q2 r.1.O r.1.V) (g := w.heap.size + 1) (n := 1) (a := zgv) hS ⟨r.1.t, r.1.q, y, o, u, r.1.s⟩
      refine Inv.wpOp_K rfl (fun K hK => ?_)
      go_simp
      refine hK _ _ ⟨x7, x12, x13, x14, x15, x16, x17, x18, x19, x20, _, _, x23, gR ⟨r.1.t, r.1.q, y, o, u, r.1.s⟩ Q2 r.1.O r.1.V, [rG kG (.slice (some ⟨w.heap.size + 1, 0, none⟩) 1 1) [⟨r.1.t, r.1.q, y, o, u, r.1.s⟩]], rfl, ?_, ?_⟩
      · exact hS2
      · constructor
        all_goals simp [hD]
        all_goals (first | exact hP.l0 | exact hP.l1 | exact hP.l2 | exact hP.l3 | exact hP.l4 | exact hP.l5 | exact hP.l6 | exact hP.l7 | exact hP.l8 | exact hP.r10 | exact hP.r12 | exact hP.r11 | exact hP.r13 | exact hP.c9 | exact hP.l9 | exact hP.l10 | exact hP.l11 | exact hP.d0 | exact hP.d1 | exact hP.l13 | skip)
        · exact (by first | exact ha | exact ha.1 | exact ha.2 | exact ha.2.1 | exact ha.2.2 | exact ha.2.2.1 | exact ha.2.2.2 | exact ha.2.2.2.1 | exact ha.2.2.2.2)
        · exact ⟨_, rfl, rfl⟩
    · rintro l a W hl hd ha ⟨x7, x12, x13, x14, x15, x16, x17, x18, x19, x20, x21, x22, x23, s1, s3, rfl, hS, hP⟩
      have hD : ∀ k, Inv.D (l.setIfInBounds 13 true) k = if k = 13 then true else Inv.D l k := fun k => Inv.D_set l 13 k (by rw [hl]; decide)
      simp [Inv.ahead, Region.binds] at ha
      obtain rfl := hP.l11 (by first | exact ha | exact ha.1 | exact ha.2 | exact ha.2.1 | exact ha.2.2 | exact ha.2.2.1 | exact ha.2.2.2 | exact ha.2.2.2.1 | exact ha.2.2.2.2)
      refine Inv.wpOp_K rfl (fun K hK => ?_)
      go_simp
      refine hK _ _ ⟨_, x12, x13, x14, x15, x16, x17, x18, x19, x20, x21, x22, _, s1, s3, rfl, ?_, ?_⟩
      · exact hS
      · constructor
        all_goals simp [hD]
        all_goals (first | exact hP.l0 | exact hP.l1 | exact hP.l2 | exact hP.l3 | exact hP.l4 | exact hP.l5 | exact hP.l6 | exact hP.l7 | exact hP.l8 | exact hP.r10 | exact hP.r12 | exact hP.r11 | exact hP.r13 | exact hP.c9 | exact hP.l9 | exact hP.l10 | exact hP.l11 | exact hP.d0 | exact hP.d1 | exact hP.l13 | skip)
        exact (by first | exact ha | exact ha.1 | exact ha.2 | exact ha.2.1 | exact ha.2.2 | exact ha.2.2.1 | exact ha.2.2.2 | exact ha.2.2.2.1 | exact ha.2.2.2.2)
end Go.Proofs.YtobbankkfplooaaGreat.K.G
