/-
  Opened: the program's and the specification's.
-/
import Derived.Test.YtobbankkfplooaaGreatKE0
namespace Go.Proofs.YtobbankkfplooaaGreat.K.G
open Go.Shelf Go.RowKit Go.Joins Y
attribute [local go_sem] Oper.semAt_some

theorem lit_made {w W : World} {rs : List Rw} (h : Sg w W rs) {n : Nat} (hn : n ≤ 1048576) : Sg w (W.alloc (.cells (madeCells #[.int .i64 0] n) 2)) (rG kI (.slice (some ⟨W.heap.size, 0, none⟩) n n) (List.replicate n 0) :: rs) := by
  refine h.add (r := rG kI (.slice (some ⟨W.heap.size, 0, none⟩) n n) (List.replicate n 0)) ?_ (below_alloc1 _ _)
  have h1 := World.ownsRow_lit (base := W.heap.size) (e := 2) (size := 1) W (madeCells #[.int .i64 0] n) n (Nat.le_refl _) (by unfold maxLen; omega) (by rw [size_madeCells, Nat.mul_one])
  rw [madeI0] at h1
  unfold Rw.own rG
  simp only [List.length_replicate]
  exact h1
/-- The Deal that is opened. -/
def openD (Y : List Yd) (O : List Int) : Dd := ⟨(Y.headD zyd).t, (Y.headD zyd).q, Y, O, List.replicate Y.length 0, 0⟩
def openR (Y : List Yd) (O : List Int) : Dd × Bool := if dB (openD Y O) = true then (openD Y O, true) else (zdd, false)
theorem openD_nil (O : List Int) : openR [] O = (zdd, false) := by
  unfold openR
  rw [if_neg]
  intro h
  have := (dB_iff.1 h).n.1
  simp [openD] at this
theorem openD_no {Y : List Yd} {O : List Int} (h : 4 < Y.length ∨ O.length ≠ Y.length) : openR Y O = (zdd, false) := by
  unfold openR
  rw [if_neg]
  intro hd
  have h1 := dB_iff.1 hd
  have h2 := h1.n.2
  have h3 := h1.on
  unfold openD at h2 h3
  simp only at h2 h3
  rcases h with h | h
  · omega
  · exact h h3
def BM (n : Nat) (x : Value) (s : List Rw) : Prop := ∃ b, x = .slice (some ⟨b, 0, none⟩) n n ∧ s = [rG kI (.slice (some ⟨b, 0, none⟩) n n) (List.replicate n 0)]
def BNo (x : Value) (s : List Rw) : Prop := ∃ b, x = .pointer (some ⟨b, 0, none⟩) ∧ s = [rG kG (.slice (some ⟨b, 0, none⟩) 1 1) [zgv]]
def BOo (bt bq : Int) (gy oy yn yc : Nat) (op : Option Addr) (on oc : Nat) (x y : Value) (s : List Rw) : Prop := ∃ b bu : Nat, x = .pointer (some ⟨b, 0, none⟩) ∧ y = .slice (some ⟨bu, 0, none⟩) yn yn ∧ s = [rG kG (.slice (some ⟨b, 0, none⟩) 1 1) [⟨bt, bq, ⟨some ⟨gy, oy, none⟩, yn, yc⟩, ⟨op, on, oc⟩, ⟨some ⟨bu, 0, none⟩, yn, yn⟩, 0⟩]]
def B24 (bt bq : Int) (sv ov x y : Value) : Prop := y = .agg #[.int .i64 bt, .int .i64 bq, sv, ov, x, .int .i64 0]
structure CPo (w : World) (bt bq : Int) (gy oy yn yc : Nat) (op : Option Addr) (on oc : Nat) (l : Array Bool) (x6 x11 x12 x13 x14 x15 x16 x17 x18 x19 x20 x21 x22 x23 x24 : Value) (s1 s3 : List Rw) : Prop where
  l0 : Inv.D l 0 = true → x11 = .slice (some ⟨gy, oy, none⟩) yn yc
  l1 : Inv.D l 1 = true → x12 = .pointer (some ⟨gy, oy, none⟩)
  l2 : Inv.D l 2 = true → x13 = .pointer (some ⟨gy, oy, none⟩)
  l3 : Inv.D l 3 = true → x14 = .int .i64 bt
  l4 : Inv.D l 4 = true → x15 = .slice (some ⟨gy, oy, none⟩) yn yc
  l5 : Inv.D l 5 = true → x16 = .pointer (some ⟨gy, oy, none⟩)
  l6 : Inv.D l 6 = true → x17 = .pointer (some ⟨gy, oy + 1, none⟩)
  l7 : Inv.D l 7 = true → x18 = .int .i64 bq
  l8 : Inv.D l 8 = true → x19 = .slice (some ⟨gy, oy, none⟩) yn yc
  l9 : Inv.D l 9 = true → x20 = .slice op on oc
  l10 : Inv.D l 10 = true → x21 = .slice (some ⟨gy, oy, none⟩) yn yc
  l11 : Inv.D l 11 = true → x22 = .int .i64 (yn : Int)
  r13 : Inv.D l 13 = true → Inv.D l 12 = true
  r15a : Inv.D l 15 = true → Inv.D l 14 = true
  r15b : Inv.D l 15 = true → Inv.D l 13 = true
  c12 : Inv.D l 12 = false → s1 = []
  l12 : Inv.D l 12 = true → BM yn x23 s1
  l13 : Inv.D l 13 = true → B24 bt bq (.slice (some ⟨gy, oy, none⟩) yn yc) (.slice op on oc) x23 x24
  d0 : Inv.D l 14 = false → s3 = []
  d1 : Inv.D l 14 = true → Inv.D l 15 = false → BNo x6 s3
  d2 : Inv.D l 15 = true → BOo bt bq gy oy yn yc op on oc x6 x23 s3
set_option maxRecDepth 100000 in
set_option maxHeartbeats 1600000 in
theorem iOpened_any (QL : List YQ) (O : List Int) (ys os : Sv) (w : World) (hY : RdY w ys.p QL) (hyn : QL.length = ys.n) (hys : ∀ y ∈ QL, y.2.n ≤ 10000000) (hO : SlG kI w os.p O) (hon : O.length = os.n) (hb : ys.n ≤ 1048576 ∧ os.n ≤ 1048576) (hk : okv os ∧ ∀ y ∈ QL, okv y.2) :
    Calls Tryz.prog 14 #[.slice ys.p ys.n ys.c, .slice os.p os.n os.c] w fun e w' => ∃ v, e = .returned (.tuple #[v, .bool (openR (yds QL) O).2]) ∧ DlO (openR (yds QL) O).1 w w' v := by
  obtain ⟨yp, yn, yc⟩ := ys
  obtain ⟨op, on, oc⟩ := os
  simp only at hY hyn hO hon hb hk ⊢
  have hyb := hb.1
  have hlit := (Sg.nil w).lit kG [zgv] 1 rfl (by decide) #[.int .i64 0, .int .i64 0, .slice none 0 0, .slice none 0 0, .slice none 0 0, .int .i64 0] rfl
  change Sg w (w.alloc (.cells #[.int .i64 0, .int .i64 0, .slice none 0 0, .slice none 0 0, .slice none 0 0, .int .i64 0] 27)) _ at hlit
  by_cases h0 : yn = 0
  · have HE : Hid (openR (yds QL) O = (zdd, false)) := by
      show openR (yds QL) O = (zdd, false)
      have : yds QL = [] := by rw [← List.length_eq_zero_iff, yds_len]; omega
      rw [this]; exact openD_nil O
    subst h0
    clear hY hyn hys hO hon hb hk
    go_enter Tryz.func14, Tryz.ntmps14
    go_wp2
    refine bodyPost_ret (v := .tuple #[.agg #[.int .i64 0, .int .i64 0, .slice none 0 0, .slice none 0 0, .slice none 0 0, .int .i64 0], .bool false]) (by simp [results, Tryz.results14, go_sem]) rfl ⟨_, by rw [HE.out], by rw [HE.out]; exact dlo_zero hlit.bel⟩
  have h0' : ((yn : Int) == 0) = false := by simp; omega
  have h0'' : ¬ yn = 0 := h0
  have hq0 : 0 < QL.length := by omega
  obtain ⟨gy, oy, rfl, _⟩ := hY.1.at hq0
  obtain ⟨bt, bq, hbt⟩ : ∃ bt bq, (QL.getD 0 zyq).1.t = bt ∧ (QL.getD 0 zyq).1.q = bq := ⟨_, _, rfl, rfl⟩
  have HCe : Hid (∀ W, Below w.heap.size w W → W.cell? ⟨gy, oy, none⟩ = some (.int .i64 bt) ∧ W.cell? ⟨gy, oy + 1, none⟩ = some (.int .i64 bq)) := fun W hW => by
    obtain ⟨g', o', e, hC⟩ := (hY.1.step hW).at hq0
    cases e
    obtain ⟨c0, c1, _⟩ := CsG.y3 hC (getY hq0)
    rw [hbt.1] at c0; rw [hbt.2] at c1
    exact ⟨by simpa using c0, by simpa using c1⟩
  have HOd : Hid (openD (yds QL) O = ⟨bt, bq, yds QL, O, List.replicate yn 0, 0⟩) := by
    show openD (yds QL) O = _
    unfold openD
    have e : (yds QL).headD zyd = (QL.getD 0 zyq).1 := by
      cases QL with
      | nil => simp at hq0
      | cons a t => rfl
    rw [e, hbt.1, hbt.2, yds_len, hyn]
  have HMk : Hid (∀ W : World, (Instr.makeSlice 25 (.int .i64 (yn : Int)) (.int .i64 (yn : Int))).run Tryz.prog W = .ok (.slice (some ⟨W.heap.size, 0, none⟩) yn yn) (W.alloc (.cells (madeCells #[.int .i64 0] yn) 2))) := fun W => by
    obtain ⟨i0, hi, hz0, hz1, hz2⟩ := info_parts info2
    have hmk := run_make (P := Tryz.prog) W 25 2 i0 _ Tryz.underlying25 hi hz0 .i64 .i64 (yn : Int) (yn : Int) (by omega) (by omega) (by rw [hz2]; omega) (by omega)
    rw [hz1, Int.toNat_natCast, Nat.mul_one] at hmk
    exact hmk
  have HRd : Hid (∀ (W : World) (bu : Nat), Below w.heap.size w W → SlG kI W (some ⟨bu, 0, none⟩) (List.replicate yn 0) → RdG W ⟨bt, bq, ⟨some ⟨gy, oy, none⟩, yn, yc⟩, ⟨op, on, oc⟩, ⟨some ⟨bu, 0, none⟩, yn, yn⟩, 0⟩ QL O (List.replicate yn 0)) := fun W bu hW h => ⟨hY.step hW, hyn, hO.step hW, hon, h, by simp, hys, by simp only; omega⟩
  have HDk : Hid (∀ (W : World) (bu : Nat), RdG W ⟨bt, bq, ⟨some ⟨gy, oy, none⟩, yn, yc⟩, ⟨op, on, oc⟩, ⟨some ⟨bu, 0, none⟩, yn, yn⟩, 0⟩ QL O (List.replicate yn 0) → Calls Tryz.prog 17 #[Gv.v ⟨bt, bq, ⟨some ⟨gy, oy, none⟩, yn, yc⟩, ⟨op, on, oc⟩, ⟨some ⟨bu, 0, none⟩, yn, yn⟩, 0⟩] W fun e w' => e = .returned (.bool (dB (openD (yds QL) O))) ∧ Below W.heap.size W w') := fun W bu h => iDealOk_v (by rw [HOd.out]; rfl) W h
  have HCp : Hid (∀ (W : World) (bu : Nat) (W' : World), dB (openD (yds QL) O) = true → RdG W ⟨bt, bq, ⟨some ⟨gy, oy, none⟩, yn, yc⟩, ⟨op, on, oc⟩, ⟨some ⟨bu, 0, none⟩, yn, yn⟩, 0⟩ QL O (List.replicate yn 0) → Below W.heap.size W W' → okv ⟨some ⟨bu, 0, none⟩, yn, yn⟩ → Calls Tryz.prog 39 #[Gv.v ⟨bt, bq, ⟨some ⟨gy, oy, none⟩, yn, yc⟩, ⟨op, on, oc⟩, ⟨some ⟨bu, 0, none⟩, yn, yn⟩, 0⟩] W' fun e w' => ∃ (y o u : Sv) (Q2 : List YQ), e = .returned (Gv.v ⟨bt, bq, y, o, u, 0⟩) ∧ yds Q2 = yds QL ∧ (∀ q ∈ Q2, q.2.n ≤ 1000 ∧ q.1.L.length = q.2.n) ∧ Sg W' w' (gR ⟨bt, bq, y, o, u, 0⟩ Q2 O (List.replicate yn 0))) := fun W bu W' hd h hW hbu => by
    rw [HOd.out] at hd
    obtain ⟨⟨s1, s4⟩, so, su, ssm⟩ := deal_small h (dB_iff.1 hd)
    exact dealCopied_any ⟨bt, bq, ⟨some ⟨gy, oy, none⟩, yn, yc⟩, ⟨op, on, oc⟩, ⟨some ⟨bu, 0, none⟩, yn, yn⟩, 0⟩ QL O (List.replicate yn 0) W' (h.step hW) ⟨hk.1, hbu, hk.2⟩ (by simp only at *; omega) (by simp only at *; omega) (by simp only at *; omega) ssm
  clear hY hyn hys hO hon hb hk hbt hq0
  have hy0 : (0 : Int) < yn := by omega
  have hy0n : 0 < yn := by omega
  go_enter Tryz.func14, Tryz.ntmps14
  go_upto_region 3 with (fail)
  refine Inv.wp_region_each (fun l a W => ∃ (x6 x11 x12 x13 x14 x15 x16 x17 x18 x19 x20 x21 x22 x23 x24 : Value) (s1 s3 : List Rw), a = ⟨#[.slice (some ⟨gy, oy, none⟩) yn yc, .slice op on oc, undef, undef, .pointer (some ⟨w.heap.size, 0, none⟩), .bool false, x6, .slice (some ⟨gy, oy, none⟩) yn yc, .int .i64 (yn : Int), .bool false, undef, x11, x12, x13, x14, x15, x16, x17, x18, x19, x20, x21, x22, x23, x24, undef, undef, undef, undef, undef, undef], []⟩ ∧ Sg w W (s1 ++ (s3 ++ [rG kG (.slice (some ⟨w.heap.size, 0, none⟩) 1 1) [zgv]])) ∧ CPo w bt bq gy oy yn yc op on oc l x6 x11 x12 x13 x14 x15 x16 x17 x18 x19 x20 x21 x22 x23 x24 s1 s3) (by kernel_rfl) (by kernel_rfl) ?_ ?_ ?_
  · refine ⟨undef, undef, undef, undef, undef, undef, undef, undef, undef, undef, undef, undef, undef, undef, undef, [], [], rfl, hlit.step (Below.refl _ _).drew, ?_⟩
    constructor <;> simp [Inv.D]
  · rintro l a W hD ⟨x6, x11, x12, x13, x14, x15, x16, x17, x18, x19, x20, x21, x22, x23, x24, s1, s3, rfl, hS, hP⟩
    obtain ⟨b, bu, rfl, e12, rfl⟩ := hP.d2 (hD 15 (by decide))
    obtain ⟨bu2, e13, rfl⟩ := hP.l12 (hD 12 (by decide))
    rw [e12] at e13
    injection e13 with e13
    injection e13 with e13
    injection e13 with e13
    subst e13
    clear hP hD e12
    obtain ⟨v0, v1, v2, v3, v4, v5, vf, vg⟩ := g6 hS (K := kG) (g := w.heap.size) (n := 1) (q := zgv) (by simp) rfl
    obtain ⟨t0, t1, t2, t3, t4, t5, tf, tg⟩ := g6 hS (K := kG) (g := b) (n := 1) (q := ⟨bt, bq, ⟨some ⟨gy, oy, none⟩, yn, yc⟩, ⟨op, on, oc⟩, ⟨some ⟨bu, 0, none⟩, yn, yn⟩, 0⟩) (by simp) rfl
    simp only [zgv] at v0 v1 v2 v3 v4 v5 t0 t1 t2 t3 t4 t5
    try dsimp only
    have hRd := HRd.out W bu hS.bel (OwG.sl (hS.mem (K := kI) (v := .slice (some ⟨bu, 0, none⟩) yn yn) (L := List.replicate yn 0) (by simp)))
    have HD := Lib.hid (HDk.out W bu hRd)
    generalize hdd : dB (openD (yds QL) O) = bd at HD
    have HBd := Lib.hid hdd
    clear hdd
    cases bd
    · have HE : Hid (openR (yds QL) O = (zdd, false)) := by show openR (yds QL) O = (zdd, false); unfold openR; rw [HBd.out]; rfl
      go_wp2_with (go_at_call 17; refine HD.out.mono ?_; rintro e w1 ⟨rfl, hb1⟩; have hS1 := hS.step hb1; clear v0 v1 v2 v3 v4 v5 vf vg; obtain ⟨v0, v1, v2, v3, v4, v5, vf, vg⟩ := g6 hS1 (K := kG) (g := w.heap.size) (n := 1) (q := zgv) (by simp) rfl; simp only [zgv] at v0 v1 v2 v3 v4 v5)
      have hS3 := Sg.setG (A := [rG kI (.slice (some ⟨bu, 0, none⟩) yn yn) (List.replicate yn 0), rG kG (.slice (some ⟨b, 0, none⟩) 1 1) [⟨bt, bq, ⟨some ⟨gy, oy, none⟩, yn, yc⟩, ⟨op, on, oc⟩, ⟨some ⟨bu, 0, none⟩, yn, yn⟩, 0⟩]]) (g := w.heap.size) (n := 1) (a := zgv) (Bs := []) hS1 zgv
      refine bodyPost_ret (v := .tuple #[.agg #[.int .i64 0, .int .i64 0, .slice none 0 0, .slice none 0 0, .slice none 0 0, .int .i64 0], .bool false]) (by simp [results, Tryz.results14, go_sem, v0, v1, v2, v3, v4, v5]) rfl ⟨_, by rw [HE.out], by rw [HE.out]; exact dlo_zero hS3.bel⟩
    · have HE : Hid (openR (yds QL) O = (openD (yds QL) O, true)) := by show openR (yds QL) O = (openD (yds QL) O, true); unfold openR; rw [HBd.out]; rfl
      have HK := Lib.hid (fun W' (hb : Below W.heap.size W W') => HCp.out W bu W' HBd.out hRd hb (own_okv (hS.mem (K := kI) (v := .slice (some ⟨bu, 0, none⟩) yn yn) (L := List.replicate yn 0) (by simp))))
      go_wp2_with (first
        | (go_at_call 17; refine HD.out.mono ?_; rintro e w1 ⟨rfl, hb1⟩; have hS1 := hS.step hb1; clear t0 t1 t2 t3 t4 t5 tf tg; obtain ⟨t0, t1, t2, t3, t4, t5, tf, tg⟩ := g6 hS1 (K := kG) (g := b) (n := 1) (q := ⟨bt, bq, ⟨some ⟨gy, oy, none⟩, yn, yc⟩, ⟨op, on, oc⟩, ⟨some ⟨bu, 0, none⟩, yn, yn⟩, 0⟩) (by simp) rfl; simp only at t0 t1 t2 t3 t4 t5)
        | (go_at_call 39; refine (HK.out _ hb1).mono ?_; rintro e w3 ⟨y, o, u, Q2, rfl, hq1, hq2, h3⟩; have hS3 := hS1.addL h3; clear v0 v1 v2 v3 v4 v5 vf vg; obtain ⟨v0, v1, v2, v3, v4, v5, vf, vg⟩ := g6 hS3 (K := kG) (g := w.heap.size) (n := 1) (q := zgv) (by simp) rfl; simp only [zgv] at v0 v1 v2 v3 v4 v5))
      have hS4 := Sg.setG (A := gR ⟨bt, bq, y, o, u, 0⟩ Q2 O (List.replicate yn 0) ++ [rG kI (.slice (some ⟨bu, 0, none⟩) yn yn) (List.replicate yn 0), rG kG (.slice (some ⟨b, 0, none⟩) 1 1) [⟨bt, bq, ⟨some ⟨gy, oy, none⟩, yn, yc⟩, ⟨op, on, oc⟩, ⟨some ⟨bu, 0, none⟩, yn, yn⟩, 0⟩]]) (g := w.heap.size) (n := 1) (a := zgv) (Bs := []) (by simpa using hS3) ⟨bt, bq, y, o, u, 0⟩
      rw [List.append_assoc] at hS4
      have hS5 := hS4.sub (List.sublist_append_left ..)
      have hDl : ∀ W', Sg w W' (gR ⟨bt, bq, y, o, u, 0⟩ Q2 O (List.replicate yn 0)) → DlO (openD (yds QL) O) w W' (Gv.v ⟨bt, bq, y, o, u, 0⟩) := fun W' h => by
        have e := HOd.out
        rw [e]
        exact ⟨y, o, u, Q2, rfl, hq1, hq2, h⟩
      refine bodyPost_ret (v := .tuple #[.agg #[.int .i64 bt, .int .i64 bq, .slice y.p y.n y.c, .slice o.p o.n o.c, .slice u.p u.n u.c, .int .i64 0], .bool true]) (by simp [results, Tryz.results14, go_sem, v0, v1, v2, v3, v4, v5]) rfl ⟨Gv.v ⟨bt, bq, y, o, u, 0⟩, by rw [HE.out], by rw [HE.out]; exact hDl _ hS5⟩
  · refine ⟨?_, ?_, ?_, ?_, ?_, ?_, ?_, ?_, ?_, ?_, ?_, ?_, ?_, ?_, ?_, ?_, trivial⟩
    · rintro l a W hl hd ha ⟨x6, x11, x12, x13, x14, x15, x16, x17, x18, x19, x20, x21, x22, x23, x24, s1, s3, rfl, hS, hP⟩
      have hD : ∀ k, Inv.D (l.setIfInBounds 0 true) k = if k = 0 then true else Inv.D l k := fun k => Inv.D_set l 0 k (by rw [hl]; decide)
      simp [Inv.ahead, Region.binds] at ha
      refine Inv.wpOp_K rfl (fun K hK => ?_)
      go_simp
      refine hK _ _ ⟨x6, _, x12, x13, x14, x15, x16, x17, x18, x19, x20, x21, x22, x23, x24, s1, s3, rfl, ?_, ?_⟩
      · exact hS
      · constructor
        all_goals simp [hD]
        all_goals (first | exact hP.l0 | exact hP.l1 | exact hP.l2 | exact hP.l3 | exact hP.l4 | exact hP.l5 | exact hP.l6 | exact hP.l7 | exact hP.l8 | exact hP.l9 | exact hP.l10 | exact hP.l11 | exact hP.r13 | exact hP.r15a | exact hP.r15b | exact hP.c12 | exact hP.l12 | exact hP.l13 | exact hP.d0 | exact hP.d1 | exact hP.d2 | skip)
    · rintro l a W hl hd ha ⟨x6, x11, x12, x13, x14, x15, x16, x17, x18, x19, x20, x21, x22, x23, x24, s1, s3, rfl, hS, hP⟩
      have hD : ∀ k, Inv.D (l.setIfInBounds 1 true) k = if k = 1 then true else Inv.D l k := fun k => Inv.D_set l 1 k (by rw [hl]; decide)
      simp [Inv.ahead, Region.binds] at ha
      obtain rfl := hP.l0 (by first | exact ha | exact ha.1 | exact ha.2 | exact ha.2.1 | exact ha.2.2 | exact ha.2.2.1 | exact ha.2.2.2 | exact ha.2.2.2.1 | exact ha.2.2.2.2)
      refine Inv.wpOp_K rfl (fun K hK => ?_)
      go_simp
      refine hK _ _ ⟨x6, _, _, x13, x14, x15, x16, x17, x18, x19, x20, x21, x22, x23, x24, s1, s3, rfl, ?_, ?_⟩
      · exact hS
      · constructor
        all_goals simp [hD]
        all_goals (first | exact hP.l0 | exact hP.l1 | exact hP.l2 | exact hP.l3 | exact hP.l4 | exact hP.l5 | exact hP.l6 | exact hP.l7 | exact hP.l8 | exact hP.l9 | exact hP.l10 | exact hP.l11 | exact hP.r13 | exact hP.r15a | exact hP.r15b | exact hP.c12 | exact hP.l12 | exact hP.l13 | exact hP.d0 | exact hP.d1 | exact hP.d2 | skip)
    · rintro l a W hl hd ha ⟨x6, x11, x12, x13, x14, x15, x16, x17, x18, x19, x20, x21, x22, x23, x24, s1, s3, rfl, hS, hP⟩
      have hD : ∀ k, Inv.D (l.setIfInBounds 2 true) k = if k = 2 then true else Inv.D l k := fun k => Inv.D_set l 2 k (by rw [hl]; decide)
      simp [Inv.ahead, Region.binds] at ha
      obtain rfl := hP.l1 (by first | exact ha | exact ha.1 | exact ha.2 | exact ha.2.1 | exact ha.2.2 | exact ha.2.2.1 | exact ha.2.2.2 | exact ha.2.2.2.1 | exact ha.2.2.2.2)
      refine Inv.wpOp_K rfl (fun K hK => ?_)
      go_simp
      refine hK _ _ ⟨x6, x11, _, _, x14, x15, x16, x17, x18, x19, x20, x21, x22, x23, x24, s1, s3, rfl, ?_, ?_⟩
      · exact hS
      · constructor
        all_goals simp [hD]
        all_goals (first | exact hP.l0 | exact hP.l1 | exact hP.l2 | exact hP.l3 | exact hP.l4 | exact hP.l5 | exact hP.l6 | exact hP.l7 | exact hP.l8 | exact hP.l9 | exact hP.l10 | exact hP.l11 | exact hP.r13 | exact hP.r15a | exact hP.r15b | exact hP.c12 | exact hP.l12 | exact hP.l13 | exact hP.d0 | exact hP.d1 | exact hP.d2 | skip)
    · rintro l a W hl hd ha ⟨x6, x11, x12, x13, x14, x15, x16, x17, x18, x19, x20, x21, x22, x23, x24, s1, s3, rfl, hS, hP⟩
      have hD : ∀ k, Inv.D (l.setIfInBounds 3 true) k = if k = 3 then true else Inv.D l k := fun k => Inv.D_set l 3 k (by rw [hl]; decide)
      simp [Inv.ahead, Region.binds] at ha
      obtain rfl := hP.l2 (by first | exact ha | exact ha.1 | exact ha.2 | exact ha.2.1 | exact ha.2.2 | exact ha.2.2.1 | exact ha.2.2.2 | exact ha.2.2.2.1 | exact ha.2.2.2.2)
      obtain ⟨c0, c1⟩ := HCe.out _ hS.bel
      refine Inv.wpOp_K rfl (fun K hK => ?_)
      go_simp
      refine hK _ _ ⟨x6, x11, x12, _, _, x15, x16, x17, x18, x19, x20, x21, x22, x23, x24, s1, s3, rfl, ?_, ?_⟩
      · exact hS
      · constructor
        all_goals simp [hD]
        all_goals (first | exact hP.l0 | exact hP.l1 | exact hP.l2 | exact hP.l3 | exact hP.l4 | exact hP.l5 | exact hP.l6 | exact hP.l7 | exact hP.l8 | exact hP.l9 | exact hP.l10 | exact hP.l11 | exact hP.r13 | exact hP.r15a | exact hP.r15b | exact hP.c12 | exact hP.l12 | exact hP.l13 | exact hP.d0 | exact hP.d1 | exact hP.d2 | skip)
    · rintro l a W hl hd ha ⟨x6, x11, x12, x13, x14, x15, x16, x17, x18, x19, x20, x21, x22, x23, x24, s1, s3, rfl, hS, hP⟩
      have hD : ∀ k, Inv.D (l.setIfInBounds 4 true) k = if k = 4 then true else Inv.D l k := fun k => Inv.D_set l 4 k (by rw [hl]; decide)
      simp [Inv.ahead, Region.binds] at ha
      refine Inv.wpOp_K rfl (fun K hK => ?_)
      go_simp
      refine hK _ _ ⟨x6, x11, x12, x13, x14, _, x16, x17, x18, x19, x20, x21, x22, x23, x24, s1, s3, rfl, ?_, ?_⟩
      · exact hS
      · constructor
        all_goals simp [hD]
        all_goals (first | exact hP.l0 | exact hP.l1 | exact hP.l2 | exact hP.l3 | exact hP.l4 | exact hP.l5 | exact hP.l6 | exact hP.l7 | exact hP.l8 | exact hP.l9 | exact hP.l10 | exact hP.l11 | exact hP.r13 | exact hP.r15a | exact hP.r15b | exact hP.c12 | exact hP.l12 | exact hP.l13 | exact hP.d0 | exact hP.d1 | exact hP.d2 | skip)
    · rintro l a W hl hd ha ⟨x6, x11, x12, x13, x14, x15, x16, x17, x18, x19, x20, x21, x22, x23, x24, s1, s3, rfl, hS, hP⟩
      have hD : ∀ k, Inv.D (l.setIfInBounds 5 true) k = if k = 5 then true else Inv.D l k := fun k => Inv.D_set l 5 k (by rw [hl]; decide)
      simp [Inv.ahead, Region.binds] at ha
      obtain rfl := hP.l4 (by first | exact ha | exact ha.1 | exact ha.2 | exact ha.2.1 | exact ha.2.2 | exact ha.2.2.1 | exact ha.2.2.2 | exact ha.2.2.2.1 | exact ha.2.2.2.2)
      refine Inv.wpOp_K rfl (fun K hK => ?_)
      go_simp
      refine hK _ _ ⟨x6, x11, x12, x13, x14, _, _, x17, x18, x19, x20, x21, x22, x23, x24, s1, s3, rfl, ?_, ?_⟩
      · exact hS
      · constructor
        all_goals simp [hD]
        all_goals (first | exact hP.l0 | exact hP.l1 | exact hP.l2 | exact hP.l3 | exact hP.l4 | exact hP.l5 | exact hP.l6 | exact hP.l7 | exact hP.l8 | exact hP.l9 | exact hP.l10 | exact hP.l11 | exact hP.r13 | exact hP.r15a | exact hP.r15b | exact hP.c12 | exact hP.l12 | exact hP.l13 | exact hP.d0 | exact hP.d1 | exact hP.d2 | skip)
    · rintro l a W hl hd ha ⟨x6, x11, x12, x13, x14, x15, x16, x17, x18, x19, x20, x21, x22, x23, x24, s1, s3, rfl, hS, hP⟩
      have hD : ∀ k, Inv.D (l.setIfInBounds 6 true) k = if k = 6 then true else Inv.D l k := fun k => Inv.D_set l 6 k (by rw [hl]; decide)
      simp [Inv.ahead, Region.binds] at ha
      obtain rfl := hP.l5 (by first | exact ha | exact ha.1 | exact ha.2 | exact ha.2.1 | exact ha.2.2 | exact ha.2.2.1 | exact ha.2.2.2 | exact ha.2.2.2.1 | exact ha.2.2.2.2)
      refine Inv.wpOp_K rfl (fun K hK => ?_)
      go_simp
      refine hK _ _ ⟨x6, x11, x12, x13, x14, x15, _, _, x18, x19, x20, x21, x22, x23, x24, s1, s3, rfl, ?_, ?_⟩
      · exact hS
      · constructor
        all_goals simp [hD]
        all_goals (first | exact hP.l0 | exact hP.l1 | exact hP.l2 | exact hP.l3 | exact hP.l4 | exact hP.l5 | exact hP.l6 | exact hP.l7 | exact hP.l8 | exact hP.l9 | exact hP.l10 | exact hP.l11 | exact hP.r13 | exact hP.r15a | exact hP.r15b | exact hP.c12 | exact hP.l12 | exact hP.l13 | exact hP.d0 | exact hP.d1 | exact hP.d2 | skip)
    · rintro l a W hl hd ha ⟨x6, x11, x12, x13, x14, x15, x16, x17, x18, x19, x20, x21, x22, x23, x24, s1, s3, rfl, hS, hP⟩
      have hD : ∀ k, Inv.D (l.setIfInBounds 7 true) k = if k = 7 then true else Inv.D l k := fun k => Inv.D_set l 7 k (by rw [hl]; decide)
      simp [Inv.ahead, Region.binds] at ha
      obtain rfl := hP.l6 (by first | exact ha | exact ha.1 | exact ha.2 | exact ha.2.1 | exact ha.2.2 | exact ha.2.2.1 | exact ha.2.2.2 | exact ha.2.2.2.1 | exact ha.2.2.2.2)
      obtain ⟨c0, c1⟩ := HCe.out _ hS.bel
      refine Inv.wpOp_K rfl (fun K hK => ?_)
      go_simp
      refine hK _ _ ⟨x6, x11, x12, x13, x14, x15, x16, _, _, x19, x20, x21, x22, x23, x24, s1, s3, rfl, ?_, ?_⟩
      · exact hS
      · constructor
        all_goals simp [hD]
        all_goals (first | exact hP.l0 | exact hP.l1 | exact hP.l2 | exact hP.l3 | exact hP.l4 | exact hP.l5 | exact hP.l6 | exact hP.l7 | exact hP.l8 | exact hP.l9 | exact hP.l10 | exact hP.l11 | exact hP.r13 | exact hP.r15a | exact hP.r15b | exact hP.c12 | exact hP.l12 | exact hP.l13 | exact hP.d0 | exact hP.d1 | exact hP.d2 | skip)
    · rintro l a W hl hd ha ⟨x6, x11, x12, x13, x14, x15, x16, x17, x18, x19, x20, x21, x22, x23, x24, s1, s3, rfl, hS, hP⟩
      have hD : ∀ k, Inv.D (l.setIfInBounds 8 true) k = if k = 8 then true else Inv.D l k := fun k => Inv.D_set l 8 k (by rw [hl]; decide)
      simp [Inv.ahead, Region.binds] at ha
      refine Inv.wpOp_K rfl (fun K hK => ?_)
      go_simp
      refine hK _ _ ⟨x6, x11, x12, x13, x14, x15, x16, x17, x18, _, x20, x21, x22, x23, x24, s1, s3, rfl, ?_, ?_⟩
      · exact hS
      · constructor
        all_goals simp [hD]
        all_goals (first | exact hP.l0 | exact hP.l1 | exact hP.l2 | exact hP.l3 | exact hP.l4 | exact hP.l5 | exact hP.l6 | exact hP.l7 | exact hP.l8 | exact hP.l9 | exact hP.l10 | exact hP.l11 | exact hP.r13 | exact hP.r15a | exact hP.r15b | exact hP.c12 | exact hP.l12 | exact hP.l13 | exact hP.d0 | exact hP.d1 | exact hP.d2 | skip)
    · rintro l a W hl hd ha ⟨x6, x11, x12, x13, x14, x15, x16, x17, x18, x19, x20, x21, x22, x23, x24, s1, s3, rfl, hS, hP⟩
      have hD : ∀ k, Inv.D (l.setIfInBounds 9 true) k = if k = 9 then true else Inv.D l k := fun k => Inv.D_set l 9 k (by rw [hl]; decide)
      simp [Inv.ahead, Region.binds] at ha
      refine Inv.wpOp_K rfl (fun K hK => ?_)
      go_simp
      refine hK _ _ ⟨x6, x11, x12, x13, x14, x15, x16, x17, x18, x19, _, x21, x22, x23, x24, s1, s3, rfl, ?_, ?_⟩
      · exact hS
      · constructor
        all_goals simp [hD]
        all_goals (first | exact hP.l0 | exact hP.l1 | exact hP.l2 | exact hP.l3 | exact hP.l4 | exact hP.l5 | exact hP.l6 | exact hP.l7 | exact hP.l8 | exact hP.l9 | exact hP.l10 | exact hP.l11 | exact hP.r13 | exact hP.r15a | exact hP.r15b | exact hP.c12 | exact hP.l12 | exact hP.l13 | exact hP.d0 | exact hP.d1 | exact hP.d2 | skip)
    · rintro l a W hl hd ha ⟨x6, x11, x12, x13, x14, x15, x16, x17, x18, x19, x20, x21, x22, x23, x24, s1, s3, rfl, hS, hP⟩
      have hD : ∀ k, Inv.D (l.setIfInBounds 10 true) k = if k = 10 then true else Inv.D l k := fun k => Inv.D_set l 10 k (by rw [hl]; decide)
      simp [Inv.ahead, Region.binds] at ha
      refine Inv.wpOp_K rfl (fun K hK => ?_)
      go_simp
      refine hK _ _ ⟨x6, x11, x12, x13, x14, x15, x16, x17, x18, x19, x20, _, x22, x23, x24, s1, s3, rfl, ?_, ?_⟩
      · exact hS
      · constructor
        all_goals simp [hD]
        all_goals (first | exact hP.l0 | exact hP.l1 | exact hP.l2 | exact hP.l3 | exact hP.l4 | exact hP.l5 | exact hP.l6 | exact hP.l7 | exact hP.l8 | exact hP.l9 | exact hP.l10 | exact hP.l11 | exact hP.r13 | exact hP.r15a | exact hP.r15b | exact hP.c12 | exact hP.l12 | exact hP.l13 | exact hP.d0 | exact hP.d1 | exact hP.d2 | skip)
    · rintro l a W hl hd ha ⟨x6, x11, x12, x13, x14, x15, x16, x17, x18, x19, x20, x21, x22, x23, x24, s1, s3, rfl, hS, hP⟩
      have hD : ∀ k, Inv.D (l.setIfInBounds 11 true) k = if k = 11 then true else Inv.D l k := fun k => Inv.D_set l 11 k (by rw [hl]; decide)
      simp [Inv.ahead, Region.binds] at ha
      obtain rfl := hP.l10 (by first | exact ha | exact ha.1 | exact ha.2 | exact ha.2.1 | exact ha.2.2 | exact ha.2.2.1 | exact ha.2.2.2 | exact ha.2.2.2.1 | exact ha.2.2.2.2)
      refine Inv.wpOp_K rfl (fun K hK => ?_)
      go_simp
      refine hK _ _ ⟨x6, x11, x12, x13, x14, x15, x16, x17, x18, x19, x20, _, _, x23, x24, s1, s3, rfl, ?_, ?_⟩
      · exact hS
      · constructor
        all_goals simp [hD]
        all_goals (first | exact hP.l0 | exact hP.l1 | exact hP.l2 | exact hP.l3 | exact hP.l4 | exact hP.l5 | exact hP.l6 | exact hP.l7 | exact hP.l8 | exact hP.l9 | exact hP.l10 | exact hP.l11 | exact hP.r13 | exact hP.r15a | exact hP.r15b | exact hP.c12 | exact hP.l12 | exact hP.l13 | exact hP.d0 | exact hP.d1 | exact hP.d2 | skip)
    · rintro l a W hl hd ha ⟨x6, x11, x12, x13, x14, x15, x16, x17, x18, x19, x20, x21, x22, x23, x24, s1, s3, rfl, hS, hP⟩
      have hD : ∀ k, Inv.D (l.setIfInBounds 12 true) k = if k = 12 then true else Inv.D l k := fun k => Inv.D_set l 12 k (by rw [hl]; decide)
      simp [Inv.ahead, Region.binds] at ha
      obtain rfl := hP.l11 (by first | exact ha | exact ha.1 | exact ha.2 | exact ha.2.1 | exact ha.2.2 | exact ha.2.2.1 | exact ha.2.2.2 | exact ha.2.2.2.1 | exact ha.2.2.2.2)
      obtain rfl := hP.c12 hd
      have hmk := HMk.out W
      refine Inv.wpOp_K rfl (fun K hK => ?_)
      go_simp
      refine hK _ _ ⟨x6, x11, x12, x13, x14, x15, x16, x17, x18, x19, x20, x21, _, _, x24, [rG kI (.slice (some ⟨W.heap.size, 0, none⟩) yn yn) (List.replicate yn 0)], s3, rfl, ?_, ?_⟩
      · exact lit_made hS hyb
      · constructor
        all_goals simp [hD]
        all_goals (first | exact hP.l0 | exact hP.l1 | exact hP.l2 | exact hP.l3 | exact hP.l4 | exact hP.l5 | exact hP.l6 | exact hP.l7 | exact hP.l8 | exact hP.l9 | exact hP.l10 | exact hP.l11 | exact hP.r13 | exact hP.r15a | exact hP.r15b | exact hP.c12 | exact hP.l12 | exact hP.l13 | exact hP.d0 | exact hP.d1 | exact hP.d2 | skip)
        · exact ⟨_, rfl, rfl⟩
        · exact fun h => absurd (hP.r13 h) (by rw [hd]; decide)
        · exact fun h => absurd (hP.r13 (hP.r15b h)) (by rw [hd]; decide)
    · rintro l a W hl hd ha ⟨x6, x11, x12, x13, x14, x15, x16, x17, x18, x19, x20, x21, x22, x23, x24, s1, s3, rfl, hS, hP⟩
      have hD : ∀ k, Inv.D (l.setIfInBounds 13 true) k = if k = 13 then true else Inv.D l k := fun k => Inv.D_set l 13 k (by rw [hl]; decide)
      simp [Inv.ahead, Region.binds] at ha
      obtain rfl := hP.l3 (by first | exact ha | exact ha.1 | exact ha.2 | exact ha.2.1 | exact ha.2.2 | exact ha.2.2.1 | exact ha.2.2.2 | exact ha.2.2.2.1 | exact ha.2.2.2.2)
      obtain rfl := hP.l7 (by first | exact ha | exact ha.1 | exact ha.2 | exact ha.2.1 | exact ha.2.2 | exact ha.2.2.1 | exact ha.2.2.2 | exact ha.2.2.2.1 | exact ha.2.2.2.2)
      obtain rfl := hP.l8 (by first | exact ha | exact ha.1 | exact ha.2 | exact ha.2.1 | exact ha.2.2 | exact ha.2.2.1 | exact ha.2.2.2 | exact ha.2.2.2.1 | exact ha.2.2.2.2)
      obtain rfl := hP.l9 (by first | exact ha | exact ha.1 | exact ha.2 | exact ha.2.1 | exact ha.2.2 | exact ha.2.2.1 | exact ha.2.2.2 | exact ha.2.2.2.1 | exact ha.2.2.2.2)
      obtain ⟨bu, rfl, rfl⟩ := hP.l12 (by first | exact ha | exact ha.1 | exact ha.2 | exact ha.2.1 | exact ha.2.2 | exact ha.2.2.1 | exact ha.2.2.2 | exact ha.2.2.2.1 | exact ha.2.2.2.2)
      refine Inv.wpOp_K rfl (fun K hK => ?_)
      go_simp
      refine hK _ _ ⟨x6, x11, x12, x13, _, x15, x16, x17, _, _, _, x21, x22, _, _, [rG kI (.slice (some ⟨bu, 0, none⟩) yn yn) (List.replicate yn 0)], s3, rfl, ?_, ?_⟩
      · exact hS
      · constructor
        all_goals simp [hD]
        all_goals (first | exact hP.l0 | exact hP.l1 | exact hP.l2 | exact hP.l3 | exact hP.l4 | exact hP.l5 | exact hP.l6 | exact hP.l7 | exact hP.l8 | exact hP.l9 | exact hP.l10 | exact hP.l11 | exact hP.r13 | exact hP.r15a | exact hP.r15b | exact hP.c12 | exact hP.l12 | exact hP.l13 | exact hP.d0 | exact hP.d1 | exact hP.d2 | skip)
        · exact (by first | exact ha | exact ha.1 | exact ha.2 | exact ha.2.1 | exact ha.2.2 | exact ha.2.2.1 | exact ha.2.2.2 | exact ha.2.2.2.1 | exact ha.2.2.2.2)
        · exact (by first | exact ha | exact ha.1 | exact ha.2 | exact ha.2.1 | exact ha.2.2 | exact ha.2.2.1 | exact ha.2.2.2 | exact ha.2.2.2.1 | exact ha.2.2.2.2)
        · exact rfl
    · rintro l a W hl hd ha ⟨x6, x11, x12, x13, x14, x15, x16, x17, x18, x19, x20, x21, x22, x23, x24, s1, s3, rfl, hS, hP⟩
      have hD : ∀ k, Inv.D (l.setIfInBounds 14 true) k = if k = 14 then true else Inv.D l k := fun k => Inv.D_set l 14 k (by rw [hl]; decide)
      simp [Inv.ahead, Region.binds] at ha
      obtain rfl := hP.d0 hd
      refine Inv.wpOp_K rfl (fun K hK => ?_)
      go_simp
      refine hK _ _ ⟨_, x11, x12, x13, x14, x15, x16, x17, x18, x19, x20, x21, x22, x23, x24, s1, [rG kG (.slice (some ⟨W.heap.size, 0, none⟩) 1 1) [zgv]], rfl, ?_, ?_⟩
      · exact (hS.lit kG [zgv] 1 rfl (by decide) #[.int .i64 0, .int .i64 0, .slice none 0 0, .slice none 0 0, .slice none 0 0, .int .i64 0] rfl).perm (by simpa using (List.perm_middle (l₁ := s1)).symm)
      · constructor
        all_goals simp [hD]
        all_goals (first | exact hP.l0 | exact hP.l1 | exact hP.l2 | exact hP.l3 | exact hP.l4 | exact hP.l5 | exact hP.l6 | exact hP.l7 | exact hP.l8 | exact hP.l9 | exact hP.l10 | exact hP.l11 | exact hP.r13 | exact hP.r15a | exact hP.r15b | exact hP.c12 | exact hP.l12 | exact hP.l13 | exact hP.d0 | exact hP.d1 | exact hP.d2 | skip)
        · exact fun _ => ⟨_, rfl, rfl⟩
        · exact fun h => absurd (hP.r15a h) (by rw [hd]; decide)
    · rintro l a W hl hd ha ⟨x6, x11, x12, x13, x14, x15, x16, x17, x18, x19, x20, x21, x22, x23, x24, s1, s3, rfl, hS, hP⟩
      have hD : ∀ k, Inv.D (l.setIfInBounds 15 true) k = if k = 15 then true else Inv.D l k := fun k => Inv.D_set l 15 k (by rw [hl]; decide)
      simp [Inv.ahead, Region.binds] at ha
      obtain ⟨b, rfl, rfl⟩ := hP.d1 (by first | exact ha | exact ha.1 | exact ha.2 | exact ha.2.1 | exact ha.2.2 | exact ha.2.2.1 | exact ha.2.2.2 | exact ha.2.2.2.1 | exact ha.2.2.2.2) hd
      obtain ⟨bu, e12, rfl⟩ := hP.l12 (hP.r13 (by first | exact ha | exact ha.1 | exact ha.2 | exact ha.2.1 | exact ha.2.2 | exact ha.2.2.1 | exact ha.2.2.2 | exact ha.2.2.2.1 | exact ha.2.2.2.2))
      obtain rfl := hP.l13 (by first | exact ha | exact ha.1 | exact ha.2 | exact ha.2.1 | exact ha.2.2 | exact ha.2.2.1 | exact ha.2.2.2 | exact ha.2.2.2.1 | exact ha.2.2.2.2)
      obtain rfl := e12
      obtain ⟨t0, t1, t2, t3, t4, t5, tf, tg⟩ := g6 hS (K := kG) (g := b) (n := 1) (q := zgv) (by simp) rfl
      simp only [zgv] at t0 t1 t2 t3 t4 t5
      have hS2 := Sg.setG (A := [rG kI (.slice (some ⟨bu, 0, none⟩) yn yn) (List.replicate yn 0)]) (g := b) (n := 1) (a := zgv) hS ⟨bt, bq, ⟨some ⟨gy, oy, none⟩, yn, yc⟩, ⟨op, on, oc⟩, ⟨some ⟨bu, 0, none⟩, yn, yn⟩, 0⟩
      refine Inv.wpOp_K rfl (fun K hK => ?_)
      go_simp
      refine hK _ _ ⟨_, x11, x12, x13, x14, x15, x16, x17, x18, x19, x20, x21, x22, _, _, [rG kI (.slice (some ⟨bu, 0, none⟩) yn yn) (List.replicate yn 0)], [rG kG (.slice (some ⟨b, 0, none⟩) 1 1) [⟨bt, bq, ⟨some ⟨gy, oy, none⟩, yn, yc⟩, ⟨op, on, oc⟩, ⟨some ⟨bu, 0, none⟩, yn, yn⟩, 0⟩]], rfl, ?_, ?_⟩
      · exact hS2
      · constructor
        all_goals simp [hD]
        all_goals (first | exact hP.l0 | exact hP.l1 | exact hP.l2 | exact hP.l3 | exact hP.l4 | exact hP.l5 | exact hP.l6 | exact hP.l7 | exact hP.l8 | exact hP.l9 | exact hP.l10 | exact hP.l11 | exact hP.r13 | exact hP.r15a | exact hP.r15b | exact hP.c12 | exact hP.l12 | exact hP.l13 | exact hP.d0 | exact hP.d1 | exact hP.d2 | skip)
        · exact (by first | exact ha | exact ha.1 | exact ha.2 | exact ha.2.1 | exact ha.2.2 | exact ha.2.2.1 | exact ha.2.2.2 | exact ha.2.2.2.1 | exact ha.2.2.2.2)
        · exact (by first | exact ha | exact ha.1 | exact ha.2 | exact ha.2.1 | exact ha.2.2 | exact ha.2.2.1 | exact ha.2.2.2 | exact ha.2.2.2.1 | exact ha.2.2.2.2)
        · exact hP.r13 (by first | exact ha | exact ha.1 | exact ha.2 | exact ha.2.1 | exact ha.2.2 | exact ha.2.2.1 | exact ha.2.2.2 | exact ha.2.2.2.1 | exact ha.2.2.2.2)
        · exact (by first | exact ha | exact ha.1 | exact ha.2 | exact ha.2.1 | exact ha.2.2 | exact ha.2.2.1 | exact ha.2.2.2 | exact ha.2.2.2.1 | exact ha.2.2.2.2)
        · exact ⟨_, _, rfl, rfl, rfl⟩
end Go.Proofs.YtobbankkfplooaaGreat.K.G
