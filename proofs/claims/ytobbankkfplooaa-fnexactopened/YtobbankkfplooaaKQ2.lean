/-
  The law of Opened walked.
-/
import Derived.Test.YtobbankkfplooaaKS1
import Derived.Test.YtobbankkfplooaaKC2
import Derived.Test.YtobbankkfplooaaKG2
import Derived.Test.YtobbankkfplooaaKB6
namespace Go.Proofs.Ytobbankkfplooaa.K.G
open Go.Shelf Go.RowKit Go.Joins Y
attribute [local go_sem] Oper.semAt_some

/-- A Deal of one's own that is answered. -/
def DlO (d : Dd) (w w' : World) (v : Value) : Prop := ∃ (y o u : Sv) (Q2 : List YQ), v = Gv.v ⟨d.t, d.q, y, o, u, d.s⟩ ∧ yds Q2 = d.Y ∧ (∀ q ∈ Q2, q.2.n ≤ 1000 ∧ q.1.L.length = q.2.n) ∧ Sg w w' (gR ⟨d.t, d.q, y, o, u, d.s⟩ Q2 d.O d.V)
def zdd : Dd := ⟨0, 0, [], [], [], 0⟩
theorem sg_zeroG {w w' : World} (hb : Below w.heap.size w w') : Sg w w' (gR zgv [] [] []) := by
  refine ⟨hb, fun r hr => ?_, ?_⟩
  · simp [gR, trY, zgv] at hr
    rcases hr with rfl | rfl
    · exact ⟨rfl, .inl ⟨rfl, rfl⟩⟩
    · exact ⟨rfl, .inl ⟨rfl, rfl⟩⟩
  · simp [gR, trY, zgv, rG, Value.ownBlock]
theorem dlo_zero {w w' : World} (hb : Below w.heap.size w w') : DlO zdd w w' (Gv.v zgv) :=
  ⟨⟨none, 0, 0⟩, ⟨none, 0, 0⟩, ⟨none, 0, 0⟩, [], rfl, rfl, by simp, sg_zeroG hb⟩
theorem deal_small {w : World} {h : Gv} {QL : List YQ} {O V : List Int} (H : RdG w h QL O V) (hd : DealP h.t h.q (yds QL) O V h.s) : (1 ≤ h.y.n ∧ h.y.n ≤ 4) ∧ h.o.n = h.y.n ∧ h.u.n = h.y.n ∧ ∀ q ∈ QL, q.2.n ≤ 1000 := by
  have e := yds_len QL
  refine ⟨by rw [← H.yn, ← e]; exact hd.n, by rw [← H.on, ← H.yn, ← e]; exact hd.on, by rw [← H.un, ← H.yn, ← e]; exact hd.un, fun q hq => ?_⟩
  have h1 := (hd.y q.1 (List.mem_map.2 ⟨q, hq, rfl⟩)).1
  have h2 := (yB_parts h1).2.2.1.2
  have h3 := (H.y.2 q hq).2
  omega
theorem lit_made {w W : World} {rs : List Rw} (h : Sg w W rs) {n : Nat} (hn : n ≤ 1048576) : Sg w (W.alloc (.cells (madeCells #[.int .i64 0] n) 2)) (rG kI (.slice (some ⟨W.heap.size, 0, none⟩) n n) (List.replicate n 0) :: rs) := by
  refine h.add (r := rG kI (.slice (some ⟨W.heap.size, 0, none⟩) n n) (List.replicate n 0)) ?_ (below_alloc1 _ _)
  have h1 := World.ownsRow_lit (base := W.heap.size) (e := 2) (size := 1) W (madeCells #[.int .i64 0] n) n (Nat.le_refl _) (by unfold maxLen; omega) (by rw [size_madeCells, Nat.mul_one])
  rw [madeI0] at h1
  unfold Rw.own rG
  simp only [List.length_replicate]
  exact h1
/-- The Deal that is opened. -/
def openD (Y : List Yd) (O : List Int) : Dd := ⟨(Y.headD zyd).t, (Y.headD zyd).q, Y, O, List.replicate Y.length 0, 0⟩
def openR (Y : List Yd) (O : List Int) : Dd × Bool := if dB (openD Y O) = true then (openD Y O, true) else (zdd, false)
theorem openD_nil (O : List Int) : openR [] O = (zdd, false) := by
  unfold openR
  rw [if_neg]
  intro h
  have := (dB_iff.1 h).n.1
  simp [openD] at this
theorem openD_no {Y : List Yd} {O : List Int} (h : 4 < Y.length ∨ O.length ≠ Y.length) : openR Y O = (zdd, false) := by
  unfold openR
  rw [if_neg]
  intro hd
  have h1 := dB_iff.1 hd
  have h2 := h1.n.2
  have h3 := h1.on
  unfold openD at h2 h3
  simp only at h2 h3
  rcases h with h | h
  · omega
  · exact h h3
def BM (n : Nat) (x : Value) (s : List Rw) : Prop := ∃ b, x = .slice (some ⟨b, 0, none⟩) n n ∧ s = [rG kI (.slice (some ⟨b, 0, none⟩) n n) (List.replicate n 0)]
def BN (x : Value) (s : List Rw) : Prop := ∃ b, x = .pointer (some ⟨b, 0, none⟩) ∧ s = [rG kG (.slice (some ⟨b, 0, none⟩) 1 1) [zgv]]
def BO (bt bq : Int) (gy oy yn yc : Nat) (op : Option Addr) (on oc : Nat) (x y : Value) (s : List Rw) : Prop := ∃ b bu : Nat, x = .pointer (some ⟨b, 0, none⟩) ∧ y = .slice (some ⟨bu, 0, none⟩) yn yn ∧ s = [rG kG (.slice (some ⟨b, 0, none⟩) 1 1) [⟨bt, bq, ⟨some ⟨gy, oy, none⟩, yn, yc⟩, ⟨op, on, oc⟩, ⟨some ⟨bu, 0, none⟩, yn, yn⟩, 0⟩]]
def B24 (bt bq : Int) (sv ov x y : Value) : Prop := y = .agg #[.int .i64 bt, .int .i64 bq, sv, ov, x, .int .i64 0]
structure CPo (w : World) (bt bq : Int) (gy oy yn yc : Nat) (op : Option Addr) (on oc : Nat) (l : Array Bool) (x6 x11 x12 x13 x14 x15 x16 x17 x18 x19 x20 x21 x22 x23 x24 : Value) (s1 s3 : List Rw) : Prop where
  l0 : Inv.D l 0 = true → x11 = .slice (some ⟨gy, oy, none⟩) yn yc
  l1 : Inv.D l 1 = true → x12 = .pointer (some ⟨gy, oy, none⟩)
  l2 : Inv.D l 2 = true → x13 = .pointer (some ⟨gy, oy, none⟩)
  l3 : Inv.D l 3 = true → x14 = .int .i64 bt
  l4 : Inv.D l 4 = true → x15 = .slice (some ⟨gy, oy, none⟩) yn yc
  l5 : Inv.D l 5 = true → x16 = .pointer (some ⟨gy, oy, none⟩)
  l6 : Inv.D l 6 = true → x17 = .pointer (some ⟨gy, oy + 1, none⟩)
  l7 : Inv.D l 7 = true → x18 = .int .i64 bq
  l8 : Inv.D l 8 = true → x19 = .slice (some ⟨gy, oy, none⟩) yn yc
  l9 : Inv.D l 9 = true → x20 = .slice op on oc
  l10 : Inv.D l 10 = true → x21 = .slice (some ⟨gy, oy, none⟩) yn yc
  l11 : Inv.D l 11 = true → x22 = .int .i64 (yn : Int)
  r13 : Inv.D l 13 = true → Inv.D l 12 = true
  r15a : Inv.D l 15 = true → Inv.D l 14 = true
  r15b : Inv.D l 15 = true → Inv.D l 13 = true
  c12 : Inv.D l 12 = false → s1 = []
  l12 : Inv.D l 12 = true → BM yn x23 s1
  l13 : Inv.D l 13 = true → B24 bt bq (.slice (some ⟨gy, oy, none⟩) yn yc) (.slice op on oc) x23 x24
  d0 : Inv.D l 14 = false → s3 = []
  d1 : Inv.D l 14 = true → Inv.D l 15 = false → BN x6 s3
  d2 : Inv.D l 15 = true → BO bt bq gy oy yn yc op on oc x6 x23 s3
set_option maxRecDepth 100000 in
set_option maxHeartbeats 1600000 in
theorem iOpened_any (QL : List YQ) (O : List Int) (ys os : Sv) (w : World) (hY : RdY w ys.p QL) (hyn : QL.length = ys.n) (hys : ∀ y ∈ QL, y.2.n ≤ 10000000) (hO : SlG kI w os.p O) (hon : O.length = os.n) (hb : ys.n ≤ 1048576 ∧ os.n ≤ 1048576) (hk : okv os ∧ ∀ y ∈ QL, okv y.2) :
    Calls Try.prog 14 #[.slice ys.p ys.n ys.c, .slice os.p os.n os.c] w fun e w' => ∃ v, e = .returned (.tuple #[v, .bool (openR (yds QL) O).2]) ∧ DlO (openR (yds QL) O).1 w w' v := by
  obtain ⟨yp, yn, yc⟩ := ys
  obtain ⟨op, on, oc⟩ := os
  simp only at hY hyn hO hon hb hk ⊢
  have hyb := hb.1
  have hlit := (Sg.nil w).lit kG [zgv] 1 rfl (by decide) #[.int .i64 0, .int .i64 0, .slice none 0 0, .slice none 0 0, .slice none 0 0, .int .i64 0] rfl
  change Sg w (w.alloc (.cells #[.int .i64 0, .int .i64 0, .slice none 0 0, .slice none 0 0, .slice none 0 0, .int .i64 0] 30)) _ at hlit
  by_cases h0 : yn = 0
  · have HE : Hid (openR (yds QL) O = (zdd, false)) := by
      show openR (yds QL) O = (zdd, false)
      have : yds QL = [] := by rw [← List.length_eq_zero_iff, yds_len]; omega
      rw [this]; exact openD_nil O
    subst h0
    clear hY hyn hys hO hon hb hk
    go_enter Try.func14, Try.ntmps14
    go_wp2
    refine bodyPost_ret (v := .tuple #[.agg #[.int .i64 0, .int .i64 0, .slice none 0 0, .slice none 0 0, .slice none 0 0, .int .i64 0], .bool false]) (by simp [results, Try.results14, go_sem]) rfl ⟨_, by rw [HE.out], by rw [HE.out]; exact dlo_zero hlit.bel⟩
  have h0' : ((yn : Int) == 0) = false := by simp; omega
  have h0'' : ¬ yn = 0 := h0
  have hq0 : 0 < QL.length := by omega
  obtain ⟨gy, oy, rfl, _⟩ := hY.1.at hq0
  obtain ⟨bt, bq, hbt⟩ : ∃ bt bq, (QL.getD 0 zyq).1.t = bt ∧ (QL.getD 0 zyq).1.q = bq := ⟨_, _, rfl, rfl⟩
  have HCe : Hid (∀ W, Below w.heap.size w W → W.cell? ⟨gy, oy, none⟩ = some (.int .i64 bt) ∧ W.cell? ⟨gy, oy + 1, none⟩ = some (.int .i64 bq)) := fun W hW => by
    obtain ⟨g', o', e, hC⟩ := (hY.1.step hW).at hq0
    cases e
    obtain ⟨c0, c1, _⟩ := CsG.y3 hC (getY hq0)
    rw [hbt.1] at c0; rw [hbt.2] at c1
    exact ⟨by simpa using c0, by simpa using c1⟩
  have HOd : Hid (openD (yds QL) O = ⟨bt, bq, yds QL, O, List.replicate yn 0, 0⟩) := by
    show openD (yds QL) O = _
    unfold openD
    have e : (yds QL).headD zyd = (QL.getD 0 zyq).1 := by
      cases QL with
      | nil => simp at hq0
      | cons a t => rfl
    rw [e, hbt.1, hbt.2, yds_len, hyn]
  have HMk : Hid (∀ W : World, (Instr.makeSlice 23 (.int .i64 (yn : Int)) (.int .i64 (yn : Int))).run Try.prog W = .ok (.slice (some ⟨W.heap.size, 0, none⟩) yn yn) (W.alloc (.cells (madeCells #[.int .i64 0] yn) 2))) := fun W => by
    obtain ⟨i0, hi, hz0, hz1, hz2⟩ := info_parts info2
    have hmk := run_make (P := Try.prog) W 23 2 i0 _ Try.underlying23 hi hz0 .i64 .i64 (yn : Int) (yn : Int) (by omega) (by omega) (by rw [hz2]; omega) (by omega)
    rw [hz1, Int.toNat_natCast, Nat.mul_one] at hmk
    exact hmk
  have HRd : Hid (∀ (W : World) (bu : Nat), Below w.heap.size w W → SlG kI W (some ⟨bu, 0, none⟩) (List.replicate yn 0) → RdG W ⟨bt, bq, ⟨some ⟨gy, oy, none⟩, yn, yc⟩, ⟨op, on, oc⟩, ⟨some ⟨bu, 0, none⟩, yn, yn⟩, 0⟩ QL O (List.replicate yn 0)) := fun W bu hW h => ⟨hY.step hW, hyn, hO.step hW, hon, h, by simp, hys, by simp only; omega⟩
  have HDk : Hid (∀ (W : World) (bu : Nat), RdG W ⟨bt, bq, ⟨some ⟨gy, oy, none⟩, yn, yc⟩, ⟨op, on, oc⟩, ⟨some ⟨bu, 0, none⟩, yn, yn⟩, 0⟩ QL O (List.replicate yn 0) → Calls Try.prog 8 #[Gv.v ⟨bt, bq, ⟨some ⟨gy, oy, none⟩, yn, yc⟩, ⟨op, on, oc⟩, ⟨some ⟨bu, 0, none⟩, yn, yn⟩, 0⟩] W fun e w' => e = .returned (.bool (dB (openD (yds QL) O))) ∧ Below W.heap.size W w') := fun W bu h => iDealOk_v (by rw [HOd.out]; rfl) W h
  have HCp : Hid (∀ (W : World) (bu : Nat) (W' : World), dB (openD (yds QL) O) = true → RdG W ⟨bt, bq, ⟨some ⟨gy, oy, none⟩, yn, yc⟩, ⟨op, on, oc⟩, ⟨some ⟨bu, 0, none⟩, yn, yn⟩, 0⟩ QL O (List.replicate yn 0) → Below W.heap.size W W' → okv ⟨some ⟨bu, 0, none⟩, yn, yn⟩ → Calls Try.prog 35 #[Gv.v ⟨bt, bq, ⟨some ⟨gy, oy, none⟩, yn, yc⟩, ⟨op, on, oc⟩, ⟨some ⟨bu, 0, none⟩, yn, yn⟩, 0⟩] W' fun e w' => ∃ (y o u : Sv) (Q2 : List YQ), e = .returned (Gv.v ⟨bt, bq, y, o, u, 0⟩) ∧ yds Q2 = yds QL ∧ (∀ q ∈ Q2, q.2.n ≤ 1000 ∧ q.1.L.length = q.2.n) ∧ Sg W' w' (gR ⟨bt, bq, y, o, u, 0⟩ Q2 O (List.replicate yn 0))) := fun W bu W' hd h hW hbu => by
    rw [HOd.out] at hd
    obtain ⟨⟨s1, s4⟩, so, su, ssm⟩ := deal_small h (dB_iff.1 hd)
    exact dealCopied_any ⟨bt, bq, ⟨some ⟨gy, oy, none⟩, yn, yc⟩, ⟨op, on, oc⟩, ⟨some ⟨bu, 0, none⟩, yn, yn⟩, 0⟩ QL O (List.replicate yn 0) W' (h.step hW) ⟨hk.1, hbu, hk.2⟩ (by simp only at *; omega) (by simp only at *; omega) (by simp only at *; omega) ssm
  clear hY hyn hys hO hon hb hk hbt hq0
  have hy0 : (0 : Int) < yn := by omega
  have hy0n : 0 < yn := by omega
  go_enter Try.func14, Try.ntmps14
  go_upto_region 3 with (fail)
  refine Inv.wp_region_each (fun l a W => ∃ (x6 x11 x12 x13 x14 x15 x16 x17 x18 x19 x20 x21 x22 x23 x24 : Value) (s1 s3 : List Rw), a = ⟨#[.slice (some ⟨gy, oy, none⟩) yn yc, .slice op on oc, undef, undef, .pointer (some ⟨w.heap.size, 0, none⟩), .bool false, x6, .slice (some ⟨gy, oy, none⟩) yn yc, .int .i64 (yn : Int), .bool false, undef, x11, x12, x13, x14, x15, x16, x17, x18, x19, x20, x21, x22, x23, x24, undef, undef, undef, undef, undef, undef], []⟩ ∧ Sg w W (s1 ++ (s3 ++ [rG kG (.slice (some ⟨w.heap.size, 0, none⟩) 1 1) [zgv]])) ∧ CPo w bt bq gy oy yn yc op on oc l x6 x11 x12 x13 x14 x15 x16 x17 x18 x19 x20 x21 x22 x23 x24 s1 s3) (by kernel_rfl) (by kernel_rfl) ?_ ?_ ?_
  · refine ⟨undef, undef, undef, undef, undef, undef, undef, undef, undef, undef, undef, undef, undef, undef, undef, [], [], rfl, hlit.step (Below.refl _ _).drew, ?_⟩
    constructor <;> simp [Inv.D]
  · rintro l a W hD ⟨x6, x11, x12, x13, x14, x15, x16, x17, x18, x19, x20, x21, x22, x23, x24, s1, s3, rfl, hS, hP⟩
    obtain ⟨b, bu, rfl, e12, rfl⟩ := hP.d2 (hD 15 (by decide))
    obtain ⟨bu2, e13, rfl⟩ := hP.l12 (hD 12 (by decide))
    rw [e12] at e13
    injection e13 with e13
    injection e13 with e13
    injection e13 with e13
    subst e13
    clear hP hD e12
    obtain ⟨v0, v1, v2, v3, v4, v5, vf, vg⟩ := g6 hS (K := kG) (g := w.heap.size) (n := 1) (q := zgv) (by simp) rfl
    obtain ⟨t0, t1, t2, t3, t4, t5, tf, tg⟩ := g6 hS (K := kG) (g := b) (n := 1) (q := ⟨bt, bq, ⟨some ⟨gy, oy, none⟩, yn, yc⟩, ⟨op, on, oc⟩, ⟨some ⟨bu, 0, none⟩, yn, yn⟩, 0⟩) (by simp) rfl
    simp only [zgv] at v0 v1 v2 v3 v4 v5 t0 t1 t2 t3 t4 t5
    try dsimp only
    have hRd := HRd.out W bu hS.bel (OwG.sl (hS.mem (K := kI) (v := .slice (some ⟨bu, 0, none⟩) yn yn) (L := List.replicate yn 0) (by simp)))
    have HD := Lib.hid (HDk.out W bu hRd)
    generalize hdd : dB (openD (yds QL) O) = bd at HD
    have HBd := Lib.hid hdd
    clear hdd
    cases bd
    · have HE : Hid (openR (yds QL) O = (zdd, false)) := by show openR (yds QL) O = (zdd, false); unfold openR; rw [HBd.out]; rfl
      go_wp2_with (go_at_call 8; refine HD.out.mono ?_; rintro e w1 ⟨rfl, hb1⟩; have hS1 := hS.step hb1; clear v0 v1 v2 v3 v4 v5 vf vg; obtain ⟨v0, v1, v2, v3, v4, v5, vf, vg⟩ := g6 hS1 (K := kG) (g := w.heap.size) (n := 1) (q := zgv) (by simp) rfl; simp only [zgv] at v0 v1 v2 v3 v4 v5)
      have hS3 := Sg.setG (A := [rG kI (.slice (some ⟨bu, 0, none⟩) yn yn) (List.replicate yn 0), rG kG (.slice (some ⟨b, 0, none⟩) 1 1) [⟨bt, bq, ⟨some ⟨gy, oy, none⟩, yn, yc⟩, ⟨op, on, oc⟩, ⟨some ⟨bu, 0, none⟩, yn, yn⟩, 0⟩]]) (g := w.heap.size) (n := 1) (a := zgv) (Bs := []) hS1 zgv
      refine bodyPost_ret (v := .tuple #[.agg #[.int .i64 0, .int .i64 0, .slice none 0 0, .slice none 0 0, .slice none 0 0, .int .i64 0], .bool false]) (by simp [results, Try.results14, go_sem, v0, v1, v2, v3, v4, v5]) rfl ⟨_, by rw [HE.out], by rw [HE.out]; exact dlo_zero hS3.bel⟩
    · have HE : Hid (openR (yds QL) O = (openD (yds QL) O, true)) := by show openR (yds QL) O = (openD (yds QL) O, true); unfold openR; rw [HBd.out]; rfl
      have HK := Lib.hid (fun W' (hb : Below W.heap.size W W') => HCp.out W bu W' HBd.out hRd hb (own_okv (hS.mem (K := kI) (v := .slice (some ⟨bu, 0, none⟩) yn yn) (L := List.replicate yn 0) (by simp))))
      go_wp2_with (first
        | (go_at_call 8; refine HD.out.mono ?_; rintro e w1 ⟨rfl, hb1⟩; have hS1 := hS.step hb1; clear t0 t1 t2 t3 t4 t5 tf tg; obtain ⟨t0, t1, t2, t3, t4, t5, tf, tg⟩ := g6 hS1 (K := kG) (g := b) (n := 1) (q := ⟨bt, bq, ⟨some ⟨gy, oy, none⟩, yn, yc⟩, ⟨op, on, oc⟩, ⟨some ⟨bu, 0, none⟩, yn, yn⟩, 0⟩) (by simp) rfl; simp only at t0 t1 t2 t3 t4 t5)
        | (go_at_call 35; refine (HK.out _ hb1).mono ?_; rintro e w3 ⟨y, o, u, Q2, rfl, hq1, hq2, h3⟩; have hS3 := hS1.addL h3; clear v0 v1 v2 v3 v4 v5 vf vg; obtain ⟨v0, v1, v2, v3, v4, v5, vf, vg⟩ := g6 hS3 (K := kG) (g := w.heap.size) (n := 1) (q := zgv) (by simp) rfl; simp only [zgv] at v0 v1 v2 v3 v4 v5))
      have hS4 := Sg.setG (A := gR ⟨bt, bq, y, o, u, 0⟩ Q2 O (List.replicate yn 0) ++ [rG kI (.slice (some ⟨bu, 0, none⟩) yn yn) (List.replicate yn 0), rG kG (.slice (some ⟨b, 0, none⟩) 1 1) [⟨bt, bq, ⟨some ⟨gy, oy, none⟩, yn, yc⟩, ⟨op, on, oc⟩, ⟨some ⟨bu, 0, none⟩, yn, yn⟩, 0⟩]]) (g := w.heap.size) (n := 1) (a := zgv) (Bs := []) (by simpa using hS3) ⟨bt, bq, y, o, u, 0⟩
      rw [List.append_assoc] at hS4
      have hS5 := hS4.sub (List.sublist_append_left ..)
      have hDl : ∀ W', Sg w W' (gR ⟨bt, bq, y, o, u, 0⟩ Q2 O (List.replicate yn 0)) → DlO (openD (yds QL) O) w W' (Gv.v ⟨bt, bq, y, o, u, 0⟩) := fun W' h => by
        have e := HOd.out
        rw [e]
        exact ⟨y, o, u, Q2, rfl, hq1, hq2, h⟩
      refine bodyPost_ret (v := .tuple #[.agg #[.int .i64 bt, .int .i64 bq, .slice y.p y.n y.c, .slice o.p o.n o.c, .slice u.p u.n u.c, .int .i64 0], .bool true]) (by simp [results, Try.results14, go_sem, v0, v1, v2, v3, v4, v5]) rfl ⟨Gv.v ⟨bt, bq, y, o, u, 0⟩, by rw [HE.out], by rw [HE.out]; exact hDl _ hS5⟩
  · refine ⟨?_, ?_, ?_, ?_, ?_, ?_, ?_, ?_, ?_, ?_, ?_, ?_, ?_, ?_, ?_, ?_, trivial⟩
    · rintro l a W hl hd ha ⟨x6, x11, x12, x13, x14, x15, x16, x17, x18, x19, x20, x21, x22, x23, x24, s1, s3, rfl, hS, hP⟩
      have hD : ∀ k, Inv.D (l.setIfInBounds 0 true) k = if k = 0 then true else Inv.D l k := fun k => Inv.D_set l 0 k (by rw [hl]; decide)
      simp [Inv.ahead, Region.binds] at ha
      refine Inv.wpOp_K rfl (fun K hK => ?_)
      go_simp
      refine hK _ _ ⟨x6, _, x12, x13, x14, x15, x16, x17, x18, x19, x20, x21, x22, x23, x24, s1, s3, rfl, ?_, ?_⟩
      · exact hS
      · constructor
        all_goals simp [hD]
        all_goals (first | exact hP.l0 | exact hP.l1 | exact hP.l2 | exact hP.l3 | exact hP.l4 | exact hP.l5 | exact hP.l6 | exact hP.l7 | exact hP.l8 | exact hP.l9 | exact hP.l10 | exact hP.l11 | exact hP.r13 | exact hP.r15a | exact hP.r15b | exact hP.c12 | exact hP.l12 | exact hP.l13 | exact hP.d0 | exact hP.d1 | exact hP.d2 | skip)
    · rintro l a W hl hd ha ⟨x6, x11, x12, x13, x14, x15, x16, x17, x18, x19, x20, x21, x22, x23, x24, s1, s3, rfl, hS, hP⟩
      have hD : ∀ k, Inv.D (l.setIfInBounds 1 true) k = if k = 1 then true else Inv.D l k := fun k => Inv.D_set l 1 k (by rw [hl]; decide)
      simp [Inv.ahead, Region.binds] at ha
      obtain rfl := hP.l0 (by first | exact ha | exact ha.1 | exact ha.2 | exact ha.2.1 | exact ha.2.2 | exact ha.2.2.1 | exact ha.2.2.2 | exact ha.2.2.2.1 | exact ha.2.2.2.2)
      refine Inv.wpOp_K rfl (fun K hK => ?_)
      go_simp
      refine hK _ _ ⟨x6, _, _, x13, x14, x15, x16, x17, x18, x19, x20, x21, x22, x23, x24, s1, s3, rfl, ?_, ?_⟩
      · exact hS
      · constructor
        all_goals simp [hD]
        all_goals (first | exact hP.l0 | exact hP.l1 | exact hP.l2 | exact hP.l3 | exact hP.l4 | exact hP.l5 | exact hP.l6 | exact hP.l7 | exact hP.l8 | exact hP.l9 | exact hP.l10 | exact hP.l11 | exact hP.r13 | exact hP.r15a | exact hP.r15b | exact hP.c12 | exact hP.l12 | exact hP.l13 | exact hP.d0 | exact hP.d1 | exact hP.d2 | skip)
    · rintro l a W hl hd ha ⟨x6, x11, x12, x13, x14, x15, x16, x17, x18, x19, x20, x21, x22, x23, x24, s1, s3, rfl, hS, hP⟩
      have hD : ∀ k, Inv.D (l.setIfInBounds 2 true) k = if k = 2 then true else Inv.D l k := fun k => Inv.D_set l 2 k (by rw [hl]; decide)
      simp [Inv.ahead, Region.binds] at ha
      obtain rfl := hP.l1 (by first | exact ha | exact ha.1 | exact ha.2 | exact ha.2.1 | exact ha.2.2 | exact ha.2.2.1 | exact ha.2.2.2 | exact ha.2.2.2.1 | exact ha.2.2.2.2)
      refine Inv.wpOp_K rfl (fun K hK => ?_)
      go_simp
      refine hK _ _ ⟨x6, x11, _, _, x14, x15, x16, x17, x18, x19, x20, x21, x22, x23, x24, s1, s3, rfl, ?_, ?_⟩
      · exact hS
      · constructor
        all_goals simp [hD]
        all_goals (first | exact hP.l0 | exact hP.l1 | exact hP.l2 | exact hP.l3 | exact hP.l4 | exact hP.l5 | exact hP.l6 | exact hP.l7 | exact hP.l8 | exact hP.l9 | exact hP.l10 | exact hP.l11 | exact hP.r13 | exact hP.r15a | exact hP.r15b | exact hP.c12 | exact hP.l12 | exact hP.l13 | exact hP.d0 | exact hP.d1 | exact hP.d2 | skip)
    · rintro l a W hl hd ha ⟨x6, x11, x12, x13, x14, x15, x16, x17, x18, x19, x20, x21, x22, x23, x24, s1, s3, rfl, hS, hP⟩
      have hD : ∀ k, Inv.D (l.setIfInBounds 3 true) k = if k = 3 then true else Inv.D l k := fun k => Inv.D_set l 3 k (by rw [hl]; decide)
      simp [Inv.ahead, Region.binds] at ha
      obtain rfl := hP.l2 (by first | exact ha | exact ha.1 | exact ha.2 | exact ha.2.1 | exact ha.2.2 | exact ha.2.2.1 | exact ha.2.2.2 | exact ha.2.2.2.1 | exact ha.2.2.2.2)
      obtain ⟨c0, c1⟩ := HCe.out _ hS.bel
      refine Inv.wpOp_K rfl (fun K hK => ?_)
      go_simp
      refine hK _ _ ⟨x6, x11, x12, _, _, x15, x16, x17, x18, x19, x20, x21, x22, x23, x24, s1, s3, rfl, ?_, ?_⟩
      · exact hS
      · constructor
        all_goals simp [hD]
        all_goals (first | exact hP.l0 | exact hP.l1 | exact hP.l2 | exact hP.l3 | exact hP.l4 | exact hP.l5 | exact hP.l6 | exact hP.l7 | exact hP.l8 | exact hP.l9 | exact hP.l10 | exact hP.l11 | exact hP.r13 | exact hP.r15a | exact hP.r15b | exact hP.c12 | exact hP.l12 | exact hP.l13 | exact hP.d0 | exact hP.d1 | exact hP.d2 | skip)
    · rintro l a W hl hd ha ⟨x6, x11, x12, x13, x14, x15, x16, x17, x18, x19, x20, x21, x22, x23, x24, s1, s3, rfl, hS, hP⟩
      have hD : ∀ k, Inv.D (l.setIfInBounds 4 true) k = if k = 4 then true else Inv.D l k := fun k => Inv.D_set l 4 k (by rw [hl]; decide)
      simp [Inv.ahead, Region.binds] at ha
      refine Inv.wpOp_K rfl (fun K hK => ?_)
      go_simp
      refine hK _ _ ⟨x6, x11, x12, x13, x14, _, x16, x17, x18, x19, x20, x21, x22, x23, x24, s1, s3, rfl, ?_, ?_⟩
      · exact hS
      · constructor
        all_goals simp [hD]
        all_goals (first | exact hP.l0 | exact hP.l1 | exact hP.l2 | exact hP.l3 | exact hP.l4 | exact hP.l5 | exact hP.l6 | exact hP.l7 | exact hP.l8 | exact hP.l9 | exact hP.l10 | exact hP.l11 | exact hP.r13 | exact hP.r15a | exact hP.r15b | exact hP.c12 | exact hP.l12 | exact hP.l13 | exact hP.d0 | exact hP.d1 | exact hP.d2 | skip)
    · rintro l a W hl hd ha ⟨x6, x11, x12, x13, x14, x15, x16, x17, x18, x19, x20, x21, x22, x23, x24, s1, s3, rfl, hS, hP⟩
      have hD : ∀ k, Inv.D (l.setIfInBounds 5 true) k = if k = 5 then true else Inv.D l k := fun k => Inv.D_set l 5 k (by rw [hl]; decide)
      simp [Inv.ahead, Region.binds] at ha
      obtain rfl := hP.l4 (by first | exact ha | exact ha.1 | exact ha.2 | exact ha.2.1 | exact ha.2.2 | exact ha.2.2.1 | exact ha.2.2.2 | exact ha.2.2.2.1 | exact ha.2.2.2.2)
      refine Inv.wpOp_K rfl (fun K hK => ?_)
      go_simp
      refine hK _ _ ⟨x6, x11, x12, x13, x14, _, _, x17, x18, x19, x20, x21, x22, x23, x24, s1, s3, rfl, ?_, ?_⟩
      · exact hS
      · constructor
        all_goals simp [hD]
        all_goals (first | exact hP.l0 | exact hP.l1 | exact hP.l2 | exact hP.l3 | exact hP.l4 | exact hP.l5 | exact hP.l6 | exact hP.l7 | exact hP.l8 | exact hP.l9 | exact hP.l10 | exact hP.l11 | exact hP.r13 | exact hP.r15a | exact hP.r15b | exact hP.c12 | exact hP.l12 | exact hP.l13 | exact hP.d0 | exact hP.d1 | exact hP.d2 | skip)
    · rintro l a W hl hd ha ⟨x6, x11, x12, x13, x14, x15, x16, x17, x18, x19, x20, x21, x22, x23, x24, s1, s3, rfl, hS, hP⟩
      have hD : ∀ k, Inv.D (l.setIfInBounds 6 true) k = if k = 6 then true else Inv.D l k := fun k => Inv.D_set l 6 k (by rw [hl]; decide)
      simp [Inv.ahead, Region.binds] at ha
      obtain rfl := hP.l5 (by first | exact ha | exact ha.1 | exact ha.2 | exact ha.2.1 | exact ha.2.2 | exact ha.2.2.1 | exact ha.2.2.2 | exact ha.2.2.2.1 | exact ha.2.2.2.2)
      refine Inv.wpOp_K rfl (fun K hK => ?_)
      go_simp
      refine hK _ _ ⟨x6, x11, x12, x13, x14, x15, _, _, x18, x19, x20, x21, x22, x23, x24, s1, s3, rfl, ?_, ?_⟩
      · exact hS
      · constructor
        all_goals simp [hD]
        all_goals (first | exact hP.l0 | exact hP.l1 | exact hP.l2 | exact hP.l3 | exact hP.l4 | exact hP.l5 | exact hP.l6 | exact hP.l7 | exact hP.l8 | exact hP.l9 | exact hP.l10 | exact hP.l11 | exact hP.r13 | exact hP.r15a | exact hP.r15b | exact hP.c12 | exact hP.l12 | exact hP.l13 | exact hP.d0 | exact hP.d1 | exact hP.d2 | skip)
    · rintro l a W hl hd ha ⟨x6, x11, x12, x13, x14, x15, x16, x17, x18, x19, x20, x21, x22, x23, x24, s1, s3, rfl, hS, hP⟩
      have hD : ∀ k, Inv.D (l.setIfInBounds 7 true) k = if k = 7 then true else Inv.D l k := fun k => Inv.D_set l 7 k (by rw [hl]; decide)
      simp [Inv.ahead, Region.binds] at ha
      obtain rfl := hP.l6 (by first | exact ha | exact ha.1 | exact ha.2 | exact ha.2.1 | exact ha.2.2 | exact ha.2.2.1 | exact ha.2.2.2 | exact ha.2.2.2.1 | exact ha.2.2.2.2)
      obtain ⟨c0, c1⟩ := HCe.out _ hS.bel
      refine Inv.wpOp_K rfl (fun K hK => ?_)
      go_simp
      refine hK _ _ ⟨x6, x11, x12, x13, x14, x15, x16, _, _, x19, x20, x21, x22, x23, x24, s1, s3, rfl, ?_, ?_⟩
      · exact hS
      · constructor
        all_goals simp [hD]
        all_goals (first | exact hP.l0 | exact hP.l1 | exact hP.l2 | exact hP.l3 | exact hP.l4 | exact hP.l5 | exact hP.l6 | exact hP.l7 | exact hP.l8 | exact hP.l9 | exact hP.l10 | exact hP.l11 | exact hP.r13 | exact hP.r15a | exact hP.r15b | exact hP.c12 | exact hP.l12 | exact hP.l13 | exact hP.d0 | exact hP.d1 | exact hP.d2 | skip)
    · rintro l a W hl hd ha ⟨x6, x11, x12, x13, x14, x15, x16, x17, x18, x19, x20, x21, x22, x23, x24, s1, s3, rfl, hS, hP⟩
      have hD : ∀ k, Inv.D (l.setIfInBounds 8 true) k = if k = 8 then true else Inv.D l k := fun k => Inv.D_set l 8 k (by rw [hl]; decide)
      simp [Inv.ahead, Region.binds] at ha
      refine Inv.wpOp_K rfl (fun K hK => ?_)
      go_simp
      refine hK _ _ ⟨x6, x11, x12, x13, x14, x15, x16, x17, x18, _, x20, x21, x22, x23, x24, s1, s3, rfl, ?_, ?_⟩
      · exact hS
      · constructor
        all_goals simp [hD]
        all_goals (first | exact hP.l0 | exact hP.l1 | exact hP.l2 | exact hP.l3 | exact hP.l4 | exact hP.l5 | exact hP.l6 | exact hP.l7 | exact hP.l8 | exact hP.l9 | exact hP.l10 | exact hP.l11 | exact hP.r13 | exact hP.r15a | exact hP.r15b | exact hP.c12 | exact hP.l12 | exact hP.l13 | exact hP.d0 | exact hP.d1 | exact hP.d2 | skip)
    · rintro l a W hl hd ha ⟨x6, x11, x12, x13, x14, x15, x16, x17, x18, x19, x20, x21, x22, x23, x24, s1, s3, rfl, hS, hP⟩
      have hD : ∀ k, Inv.D (l.setIfInBounds 9 true) k = if k = 9 then true else Inv.D l k := fun k => Inv.D_set l 9 k (by rw [hl]; decide)
      simp [Inv.ahead, Region.binds] at ha
      refine Inv.wpOp_K rfl (fun K hK => ?_)
      go_simp
      refine hK _ _ ⟨x6, x11, x12, x13, x14, x15, x16, x17, x18, x19, _, x21, x22, x23, x24, s1, s3, rfl, ?_, ?_⟩
      · exact hS
      · constructor
        all_goals simp [hD]
        all_goals (first | exact hP.l0 | exact hP.l1 | exact hP.l2 | exact hP.l3 | exact hP.l4 | exact hP.l5 | exact hP.l6 | exact hP.l7 | exact hP.l8 | exact hP.l9 | exact hP.l10 | exact hP.l11 | exact hP.r13 | exact hP.r15a | exact hP.r15b | exact hP.c12 | exact hP.l12 | exact hP.l13 | exact hP.d0 | exact hP.d1 | exact hP.d2 | skip)
    · rintro l a W hl hd ha ⟨x6, x11, x12, x13, x14, x15, x16, x17, x18, x19, x20, x21, x22, x23, x24, s1, s3, rfl, hS, hP⟩
      have hD : ∀ k, Inv.D (l.setIfInBounds 10 true) k = if k = 10 then true else Inv.D l k := fun k => Inv.D_set l 10 k (by rw [hl]; decide)
      simp [Inv.ahead, Region.binds] at ha
      refine Inv.wpOp_K rfl (fun K hK => ?_)
      go_simp
      refine hK _ _ ⟨x6, x11, x12, x13, x14, x15, x16, x17, x18, x19, x20, _, x22, x23, x24, s1, s3, rfl, ?_, ?_⟩
      · exact hS
      · constructor
        all_goals simp [hD]
        all_goals (first | exact hP.l0 | exact hP.l1 | exact hP.l2 | exact hP.l3 | exact hP.l4 | exact hP.l5 | exact hP.l6 | exact hP.l7 | exact hP.l8 | exact hP.l9 | exact hP.l10 | exact hP.l11 | exact hP.r13 | exact hP.r15a | exact hP.r15b | exact hP.c12 | exact hP.l12 | exact hP.l13 | exact hP.d0 | exact hP.d1 | exact hP.d2 | skip)
    · rintro l a W hl hd ha ⟨x6, x11, x12, x13, x14, x15, x16, x17, x18, x19, x20, x21, x22, x23, x24, s1, s3, rfl, hS, hP⟩
      have hD : ∀ k, Inv.D (l.setIfInBounds 11 true) k = if k = 11 then true else Inv.D l k := fun k => Inv.D_set l 11 k (by rw [hl]; decide)
      simp [Inv.ahead, Region.binds] at ha
      obtain rfl := hP.l10 (by first | exact ha | exact ha.1 | exact ha.2 | exact ha.2.1 | exact ha.2.2 | exact ha.2.2.1 | exact ha.2.2.2 | exact ha.2.2.2.1 | exact ha.2.2.2.2)
      refine Inv.wpOp_K rfl (fun K hK => ?_)
      go_simp
      refine hK _ _ ⟨x6, x11, x12, x13, x14, x15, x16, x17, x18, x19, x20, _, _, x23, x24, s1, s3, rfl, ?_, ?_⟩
      · exact hS
      · constructor
        all_goals simp [hD]
        all_goals (first | exact hP.l0 | exact hP.l1 | exact hP.l2 | exact hP.l3 | exact hP.l4 | exact hP.l5 | exact hP.l6 | exact hP.l7 | exact hP.l8 | exact hP.l9 | exact hP.l10 | exact hP.l11 | exact hP.r13 | exact hP.r15a | exact hP.r15b | exact hP.c12 | exact hP.l12 | exact hP.l13 | exact hP.d0 | exact hP.d1 | exact hP.d2 | skip)
    · rintro l a W hl hd ha ⟨x6, x11, x12, x13, x14, x15, x16, x17, x18, x19, x20, x21, x22, x23, x24, s1, s3, rfl, hS, hP⟩
      have hD : ∀ k, Inv.D (l.setIfInBounds 12 true) k = if k = 12 then true else Inv.D l k := fun k => Inv.D_set l 12 k (by rw [hl]; decide)
      simp [Inv.ahead, Region.binds] at ha
      obtain rfl := hP.l11 (by first | exact ha | exact ha.1 | exact ha.2 | exact ha.2.1 | exact ha.2.2 | exact ha.2.2.1 | exact ha.2.2.2 | exact ha.2.2.2.1 | exact ha.2.2.2.2)
      obtain rfl := hP.c12 hd
      have hmk := HMk.out W
      refine Inv.wpOp_K rfl (fun K hK => ?_)
      go_simp
      refine hK _ _ ⟨x6, x11, x12, x13, x14, x15, x16, x17, x18, x19, x20, x21, _, _, x24, [rG kI (.slice (some ⟨W.heap.size, 0, none⟩) yn yn) (List.replicate yn 0)], s3, rfl, ?_, ?_⟩
      · exact lit_made hS hyb
      · constructor
        all_goals simp [hD]
        all_goals (first | exact hP.l0 | exact hP.l1 | exact hP.l2 | exact hP.l3 | exact hP.l4 | exact hP.l5 | exact hP.l6 | exact hP.l7 | exact hP.l8 | exact hP.l9 | exact hP.l10 | exact hP.l11 | exact hP.r13 | exact hP.r15a | exact hP.r15b | exact hP.c12 | exact hP.l12 | exact hP.l13 | exact hP.d0 | exact hP.d1 | exact hP.d2 | skip)
        · exact ⟨_, rfl, rfl⟩
        · exact fun h => absurd (hP.r13 h) (by rw [hd]; decide)
        · exact fun h => absurd (hP.r13 (hP.r15b h)) (by rw [hd]; decide)
    · rintro l a W hl hd ha ⟨x6, x11, x12, x13, x14, x15, x16, x17, x18, x19, x20, x21, x22, x23, x24, s1, s3, rfl, hS, hP⟩
      have hD : ∀ k, Inv.D (l.setIfInBounds 13 true) k = if k = 13 then true else Inv.D l k := fun k => Inv.D_set l 13 k (by rw [hl]; decide)
      simp [Inv.ahead, Region.binds] at ha
      obtain rfl := hP.l3 (by first | exact ha | exact ha.1 | exact ha.2 | exact ha.2.1 | exact ha.2.2 | exact ha.2.2.1 | exact ha.2.2.2 | exact ha.2.2.2.1 | exact ha.2.2.2.2)
      obtain rfl := hP.l7 (by first | exact ha | exact ha.1 | exact ha.2 | exact ha.2.1 | exact ha.2.2 | exact ha.2.2.1 | exact ha.2.2.2 | exact ha.2.2.2.1 | exact ha.2.2.2.2)
      obtain rfl := hP.l8 (by first | exact ha | exact ha.1 | exact ha.2 | exact ha.2.1 | exact ha.2.2 | exact ha.2.2.1 | exact ha.2.2.2 | exact ha.2.2.2.1 | exact ha.2.2.2.2)
      obtain rfl := hP.l9 (by first | exact ha | exact ha.1 | exact ha.2 | exact ha.2.1 | exact ha.2.2 | exact ha.2.2.1 | exact ha.2.2.2 | exact ha.2.2.2.1 | exact ha.2.2.2.2)
      obtain ⟨bu, rfl, rfl⟩ := hP.l12 (by first | exact ha | exact ha.1 | exact ha.2 | exact ha.2.1 | exact ha.2.2 | exact ha.2.2.1 | exact ha.2.2.2 | exact ha.2.2.2.1 | exact ha.2.2.2.2)
      refine Inv.wpOp_K rfl (fun K hK => ?_)
      go_simp
      refine hK _ _ ⟨x6, x11, x12, x13, _, x15, x16, x17, _, _, _, x21, x22, _, _, [rG kI (.slice (some ⟨bu, 0, none⟩) yn yn) (List.replicate yn 0)], s3, rfl, ?_, ?_⟩
      · exact hS
      · constructor
        all_goals simp [hD]
        all_goals (first | exact hP.l0 | exact hP.l1 | exact hP.l2 | exact hP.l3 | exact hP.l4 | exact hP.l5 | exact hP.l6 | exact hP.l7 | exact hP.l8 | exact hP.l9 | exact hP.l10 | exact hP.l11 | exact hP.r13 | exact hP.r15a | exact hP.r15b | exact hP.c12 | exact hP.l12 | exact hP.l13 | exact hP.d0 | exact hP.d1 | exact hP.d2 | skip)
        · exact (by first | exact ha | exact ha.1 | exact ha.2 | exact ha.2.1 | exact ha.2.2 | exact ha.2.2.1 | exact ha.2.2.2 | exact ha.2.2.2.1 | exact ha.2.2.2.2)
        · exact (by first | exact ha | exact ha.1 | exact ha.2 | exact ha.2.1 | exact ha.2.2 | exact ha.2.2.1 | exact ha.2.2.2 | exact ha.2.2.2.1 | exact ha.2.2.2.2)
        · exact rfl
    · rintro l a W hl hd ha ⟨x6, x11, x12, x13, x14, x15, x16, x17, x18, x19, x20, x21, x22, x23, x24, s1, s3, rfl, hS, hP⟩
      have hD : ∀ k, Inv.D (l.setIfInBounds 14 true) k = if k = 14 then true else Inv.D l k := fun k => Inv.D_set l 14 k (by rw [hl]; decide)
      simp [Inv.ahead, Region.binds] at ha
      obtain rfl := hP.d0 hd
      refine Inv.wpOp_K rfl (fun K hK => ?_)
      go_simp
      refine hK _ _ ⟨_, x11, x12, x13, x14, x15, x16, x17, x18, x19, x20, x21, x22, x23, x24, s1, [rG kG (.slice (some ⟨W.heap.size, 0, none⟩) 1 1) [zgv]], rfl, ?_, ?_⟩
      · exact (hS.lit kG [zgv] 1 rfl (by decide) #[.int .i64 0, .int .i64 0, .slice none 0 0, .slice none 0 0, .slice none 0 0, .int .i64 0] rfl).perm (by simpa using (List.perm_middle (l₁ := s1)).symm)
      · constructor
        all_goals simp [hD]
        all_goals (first | exact hP.l0 | exact hP.l1 | exact hP.l2 | exact hP.l3 | exact hP.l4 | exact hP.l5 | exact hP.l6 | exact hP.l7 | exact hP.l8 | exact hP.l9 | exact hP.l10 | exact hP.l11 | exact hP.r13 | exact hP.r15a | exact hP.r15b | exact hP.c12 | exact hP.l12 | exact hP.l13 | exact hP.d0 | exact hP.d1 | exact hP.d2 | skip)
        · exact fun _ => ⟨_, rfl, rfl⟩
        · exact fun h => absurd (hP.r15a h) (by rw [hd]; decide)
    · rintro l a W hl hd ha ⟨x6, x11, x12, x13, x14, x15, x16, x17, x18, x19, x20, x21, x22, x23, x24, s1, s3, rfl, hS, hP⟩
      have hD : ∀ k, Inv.D (l.setIfInBounds 15 true) k = if k = 15 then true else Inv.D l k := fun k => Inv.D_set l 15 k (by rw [hl]; decide)
      simp [Inv.ahead, Region.binds] at ha
      obtain ⟨b, rfl, rfl⟩ := hP.d1 (by first | exact ha | exact ha.1 | exact ha.2 | exact ha.2.1 | exact ha.2.2 | exact ha.2.2.1 | exact ha.2.2.2 | exact ha.2.2.2.1 | exact ha.2.2.2.2) hd
      obtain ⟨bu, e12, rfl⟩ := hP.l12 (hP.r13 (by first | exact ha | exact ha.1 | exact ha.2 | exact ha.2.1 | exact ha.2.2 | exact ha.2.2.1 | exact ha.2.2.2 | exact ha.2.2.2.1 | exact ha.2.2.2.2))
      obtain rfl := hP.l13 (by first | exact ha | exact ha.1 | exact ha.2 | exact ha.2.1 | exact ha.2.2 | exact ha.2.2.1 | exact ha.2.2.2 | exact ha.2.2.2.1 | exact ha.2.2.2.2)
      obtain rfl := e12
      obtain ⟨t0, t1, t2, t3, t4, t5, tf, tg⟩ := g6 hS (K := kG) (g := b) (n := 1) (q := zgv) (by simp) rfl
      simp only [zgv] at t0 t1 t2 t3 t4 t5
      have hS2 := Sg.setG (A := [rG kI (.slice (some ⟨bu, 0, none⟩) yn yn) (List.replicate yn 0)]) (g := b) (n := 1) (a := zgv) hS ⟨bt, bq, ⟨some ⟨gy, oy, none⟩, yn, yc⟩, ⟨op, on, oc⟩, ⟨some ⟨bu, 0, none⟩, yn, yn⟩, 0⟩
      refine Inv.wpOp_K rfl (fun K hK => ?_)
      go_simp
      refine hK _ _ ⟨_, x11, x12, x13, x14, x15, x16, x17, x18, x19, x20, x21, x22, _, _, [rG kI (.slice (some ⟨bu, 0, none⟩) yn yn) (List.replicate yn 0)], [rG kG (.slice (some ⟨b, 0, none⟩) 1 1) [⟨bt, bq, ⟨some ⟨gy, oy, none⟩, yn, yc⟩, ⟨op, on, oc⟩, ⟨some ⟨bu, 0, none⟩, yn, yn⟩, 0⟩]], rfl, ?_, ?_⟩
      · exact hS2
      · constructor
        all_goals simp [hD]
        all_goals (first | exact hP.l0 | exact hP.l1 | exact hP.l2 | exact hP.l3 | exact hP.l4 | exact hP.l5 | exact hP.l6 | exact hP.l7 | exact hP.l8 | exact hP.l9 | exact hP.l10 | exact hP.l11 | exact hP.r13 | exact hP.r15a | exact hP.r15b | exact hP.c12 | exact hP.l12 | exact hP.l13 | exact hP.d0 | exact hP.d1 | exact hP.d2 | skip)
        · exact (by first | exact ha | exact ha.1 | exact ha.2 | exact ha.2.1 | exact ha.2.2 | exact ha.2.2.1 | exact ha.2.2.2 | exact ha.2.2.2.1 | exact ha.2.2.2.2)
        · exact (by first | exact ha | exact ha.1 | exact ha.2 | exact ha.2.1 | exact ha.2.2 | exact ha.2.2.1 | exact ha.2.2.2 | exact ha.2.2.2.1 | exact ha.2.2.2.2)
        · exact hP.r13 (by first | exact ha | exact ha.1 | exact ha.2 | exact ha.2.1 | exact ha.2.2 | exact ha.2.2.1 | exact ha.2.2.2 | exact ha.2.2.2.1 | exact ha.2.2.2.2)
        · exact (by first | exact ha | exact ha.1 | exact ha.2 | exact ha.2.1 | exact ha.2.2 | exact ha.2.2.1 | exact ha.2.2.2 | exact ha.2.2.2.1 | exact ha.2.2.2.2)
        · exact ⟨_, _, rfl, rfl, rfl⟩
end Go.Proofs.Ytobbankkfplooaa.K.G
namespace Go.Proofs.Ytobbankkfplooaa.K.G
open Go.Shelf Go.RowKit Go.Joins Y
attribute [local go_sem] Oper.semAt_some

structure CPs (w : World) (bt bq : Int) (gy oy yn yc : Nat) (op : Option Addr) (on oc : Nat) (l : Array Bool) (x6 x23 x24 x25 x26 x27 x28 x29 x30 x31 x32 x33 x34 x35 x36 : Value) (s1 s3 : List Rw) : Prop where
  l0 : Inv.D l 0 = true → x23 = .slice (some ⟨gy, oy, none⟩) yn yc
  l1 : Inv.D l 1 = true → x24 = .pointer (some ⟨gy, oy, none⟩)
  l2 : Inv.D l 2 = true → x25 = .pointer (some ⟨gy, oy, none⟩)
  l3 : Inv.D l 3 = true → x26 = .int .i64 bt
  l4 : Inv.D l 4 = true → x27 = .slice (some ⟨gy, oy, none⟩) yn yc
  l5 : Inv.D l 5 = true → x28 = .pointer (some ⟨gy, oy, none⟩)
  l6 : Inv.D l 6 = true → x29 = .pointer (some ⟨gy, oy + 1, none⟩)
  l7 : Inv.D l 7 = true → x30 = .int .i64 bq
  l8 : Inv.D l 8 = true → x31 = .slice (some ⟨gy, oy, none⟩) yn yc
  l9 : Inv.D l 9 = true → x32 = .slice op on oc
  l10 : Inv.D l 10 = true → x33 = .slice (some ⟨gy, oy, none⟩) yn yc
  l11 : Inv.D l 11 = true → x34 = .int .i64 (yn : Int)
  r13 : Inv.D l 13 = true → Inv.D l 12 = true
  r15a : Inv.D l 15 = true → Inv.D l 14 = true
  r15b : Inv.D l 15 = true → Inv.D l 13 = true
  c12 : Inv.D l 12 = false → s1 = []
  l12 : Inv.D l 12 = true → BM yn x35 s1
  l13 : Inv.D l 13 = true → B24 bt bq (.slice (some ⟨gy, oy, none⟩) yn yc) (.slice op on oc) x35 x36
  d0 : Inv.D l 14 = false → s3 = []
  d1 : Inv.D l 14 = true → Inv.D l 15 = false → BN x6 s3
  d2 : Inv.D l 15 = true → BO bt bq gy oy yn yc op on oc x6 x35 s3
set_option maxRecDepth 100000 in
set_option maxHeartbeats 1600000 in
theorem sOpened_any (QL : List YQ) (O : List Int) (ys os : Sv) (w : World) (hY : RdY w ys.p QL) (hyn : QL.length = ys.n) (hys : ∀ y ∈ QL, y.2.n ≤ 10000000) (hO : SlG kI w os.p O) (hon : O.length = os.n) (hb : ys.n ≤ 1048576 ∧ os.n ≤ 1048576) (hk : okv os ∧ ∀ y ∈ QL, okv y.2) :
    Calls Try.prog 11 #[.slice ys.p ys.n ys.c, .slice os.p os.n os.c] w fun e w' => ∃ v, e = .returned (.tuple #[v, .bool (openR (yds QL) O).2]) ∧ DlO (openR (yds QL) O).1 w w' v := by
  obtain ⟨yp, yn, yc⟩ := ys
  obtain ⟨op, on, oc⟩ := os
  simp only at hY hyn hO hon hb hk ⊢
  have hyb := hb.1
  have hlit := (Sg.nil w).lit kG [zgv] 1 rfl (by decide) #[.int .i64 0, .int .i64 0, .slice none 0 0, .slice none 0 0, .slice none 0 0, .int .i64 0] rfl
  change Sg w (w.alloc (.cells #[.int .i64 0, .int .i64 0, .slice none 0 0, .slice none 0 0, .slice none 0 0, .int .i64 0] 30)) _ at hlit
  by_cases h0 : yn = 0
  · have HE : Hid (openR (yds QL) O = (zdd, false)) := by
      show openR (yds QL) O = (zdd, false)
      have : yds QL = [] := by rw [← List.length_eq_zero_iff, yds_len]; omega
      rw [this]; exact openD_nil O
    subst h0
    clear hY hyn hys hO hon hb hk
    go_enter Try.func11, Try.ntmps11
    go_wp2
    refine bodyPost_ret (v := .tuple #[.agg #[.int .i64 0, .int .i64 0, .slice none 0 0, .slice none 0 0, .slice none 0 0, .int .i64 0], .bool false]) (by simp [results, Try.results11, go_sem]) rfl ⟨_, by rw [HE.out], by rw [HE.out]; exact dlo_zero hlit.bel⟩
  have h0' : ((yn : Int) == 0) = false := by simp; omega
  have h0'' : ¬ yn = 0 := h0
  by_cases h4 : 4 < yn
  · have HE : Hid (openR (yds QL) O = (zdd, false)) := openD_no (.inl (by rw [yds_len]; omega))
    have h4' : (4 : Int) < yn := by omega
    clear hY hyn hys hO hon hb hk
    go_enter Try.func11, Try.ntmps11
    go_wp2
    refine bodyPost_ret (v := .tuple #[.agg #[.int .i64 0, .int .i64 0, .slice none 0 0, .slice none 0 0, .slice none 0 0, .int .i64 0], .bool false]) (by simp [results, Try.results11, go_sem]) rfl ⟨_, by rw [HE.out], by rw [HE.out]; exact dlo_zero hlit.bel⟩
  have h4' : ¬ (4 : Int) < yn := by omega
  by_cases h5 : on = yn
  case neg =>
    have HE : Hid (openR (yds QL) O = (zdd, false)) := openD_no (.inr (by rw [yds_len]; omega))
    have h5' : ((on : Int) != yn) = true := by simp; omega
    have h5'' : ¬ (on : Int) = yn := by omega
    clear hY hyn hys hO hon hb hk
    go_enter Try.func11, Try.ntmps11
    go_wp2
    refine bodyPost_ret (v := .tuple #[.agg #[.int .i64 0, .int .i64 0, .slice none 0 0, .slice none 0 0, .slice none 0 0, .int .i64 0], .bool false]) (by simp [results, Try.results11, go_sem]) rfl ⟨_, by rw [HE.out], by rw [HE.out]; exact dlo_zero hlit.bel⟩
  have h5 := h5.symm
  subst h5
  have hq0 : 0 < QL.length := by omega
  obtain ⟨gy, oy, rfl, _⟩ := hY.1.at hq0
  obtain ⟨bt, bq, hbt⟩ : ∃ bt bq, (QL.getD 0 zyq).1.t = bt ∧ (QL.getD 0 zyq).1.q = bq := ⟨_, _, rfl, rfl⟩
  have HCe : Hid (∀ W, Below w.heap.size w W → W.cell? ⟨gy, oy, none⟩ = some (.int .i64 bt) ∧ W.cell? ⟨gy, oy + 1, none⟩ = some (.int .i64 bq)) := fun W hW => by
    obtain ⟨g', o', e, hC⟩ := (hY.1.step hW).at hq0
    cases e
    obtain ⟨c0, c1, _⟩ := CsG.y3 hC (getY hq0)
    rw [hbt.1] at c0; rw [hbt.2] at c1
    exact ⟨by simpa using c0, by simpa using c1⟩
  have HOd : Hid (openD (yds QL) O = ⟨bt, bq, yds QL, O, List.replicate yn 0, 0⟩) := by
    show openD (yds QL) O = _
    unfold openD
    have e : (yds QL).headD zyd = (QL.getD 0 zyq).1 := by
      cases QL with
      | nil => simp at hq0
      | cons a t => rfl
    rw [e, hbt.1, hbt.2, yds_len, hyn]
  have HMk : Hid (∀ W : World, (Instr.makeSlice 23 (.int .i64 (yn : Int)) (.int .i64 (yn : Int))).run Try.prog W = .ok (.slice (some ⟨W.heap.size, 0, none⟩) yn yn) (W.alloc (.cells (madeCells #[.int .i64 0] yn) 2))) := fun W => by
    obtain ⟨i0, hi, hz0, hz1, hz2⟩ := info_parts info2
    have hmk := run_make (P := Try.prog) W 23 2 i0 _ Try.underlying23 hi hz0 .i64 .i64 (yn : Int) (yn : Int) (by omega) (by omega) (by rw [hz2]; omega) (by omega)
    rw [hz1, Int.toNat_natCast, Nat.mul_one] at hmk
    exact hmk
  have HRd : Hid (∀ (W : World) (bu : Nat), Below w.heap.size w W → SlG kI W (some ⟨bu, 0, none⟩) (List.replicate yn 0) → RdG W ⟨bt, bq, ⟨some ⟨gy, oy, none⟩, yn, yc⟩, ⟨op, yn, oc⟩, ⟨some ⟨bu, 0, none⟩, yn, yn⟩, 0⟩ QL O (List.replicate yn 0)) := fun W bu hW h => ⟨hY.step hW, hyn, hO.step hW, hon, h, by simp, hys, by simp only; omega⟩
  have HDk : Hid (∀ (W : World) (bu : Nat), RdG W ⟨bt, bq, ⟨some ⟨gy, oy, none⟩, yn, yc⟩, ⟨op, yn, oc⟩, ⟨some ⟨bu, 0, none⟩, yn, yn⟩, 0⟩ QL O (List.replicate yn 0) → Calls Try.prog 6 #[Gv.v ⟨bt, bq, ⟨some ⟨gy, oy, none⟩, yn, yc⟩, ⟨op, yn, oc⟩, ⟨some ⟨bu, 0, none⟩, yn, yn⟩, 0⟩] W fun e w' => e = .returned (.bool (dB (openD (yds QL) O))) ∧ Below W.heap.size W w') := fun W bu h => sDealOk_v (by rw [HOd.out]; rfl) W h
  have HCp : Hid (∀ (W : World) (bu : Nat) (W' : World), dB (openD (yds QL) O) = true → RdG W ⟨bt, bq, ⟨some ⟨gy, oy, none⟩, yn, yc⟩, ⟨op, yn, oc⟩, ⟨some ⟨bu, 0, none⟩, yn, yn⟩, 0⟩ QL O (List.replicate yn 0) → Below W.heap.size W W' → okv ⟨some ⟨bu, 0, none⟩, yn, yn⟩ → Calls Try.prog 33 #[Gv.v ⟨bt, bq, ⟨some ⟨gy, oy, none⟩, yn, yc⟩, ⟨op, yn, oc⟩, ⟨some ⟨bu, 0, none⟩, yn, yn⟩, 0⟩] W' fun e w' => ∃ (y o u : Sv) (Q2 : List YQ), e = .returned (Gv.v ⟨bt, bq, y, o, u, 0⟩) ∧ yds Q2 = yds QL ∧ (∀ q ∈ Q2, q.2.n ≤ 1000 ∧ q.1.L.length = q.2.n) ∧ Sg W' w' (gR ⟨bt, bq, y, o, u, 0⟩ Q2 O (List.replicate yn 0))) := fun W bu W' hd h hW hbu => by
    rw [HOd.out] at hd
    obtain ⟨⟨s1, s4⟩, so, su, ssm⟩ := deal_small h (dB_iff.1 hd)
    exact sCopy_any ⟨bt, bq, ⟨some ⟨gy, oy, none⟩, yn, yc⟩, ⟨op, yn, oc⟩, ⟨some ⟨bu, 0, none⟩, yn, yn⟩, 0⟩ QL O (List.replicate yn 0) W' (h.step hW) ⟨hk.1, hbu, hk.2⟩ (by simp only at *; omega) (by simp only at *; omega) (by simp only at *; omega) ssm
  clear hY hyn hys hO hon hb hk hbt hq0
  have hy0 : (0 : Int) < yn := by omega
  have hy0n : 0 < yn := by omega
  go_enter Try.func11, Try.ntmps11
  go_upto_region 3 with (fail)
  refine Inv.wp_region_each (fun l a W => ∃ (x6 x23 x24 x25 x26 x27 x28 x29 x30 x31 x32 x33 x34 x35 x36 : Value) (s1 s3 : List Rw), a = ⟨#[.slice (some ⟨gy, oy, none⟩) yn yc, .slice op yn oc, undef, undef, .pointer (some ⟨w.heap.size, 0, none⟩), .bool false, x6, .slice (some ⟨gy, oy, none⟩) yn yc, .int .i64 (yn : Int), .bool false, .bool false, .slice (some ⟨gy, oy, none⟩) yn yc, .int .i64 (yn : Int), .bool false, .bool false, .bool false, .slice op yn oc, .int .i64 (yn : Int), .slice (some ⟨gy, oy, none⟩) yn yc, .int .i64 (yn : Int), .bool false, .bool false, undef, x23, x24, x25, x26, x27, x28, x29, x30, x31, x32, x33, x34, x35, x36, undef, undef, undef, undef, undef, undef], []⟩ ∧ Sg w W (s1 ++ (s3 ++ [rG kG (.slice (some ⟨w.heap.size, 0, none⟩) 1 1) [zgv]])) ∧ CPs w bt bq gy oy yn yc op yn oc l x6 x23 x24 x25 x26 x27 x28 x29 x30 x31 x32 x33 x34 x35 x36 s1 s3) (by kernel_rfl) (by kernel_rfl) ?_ ?_ ?_
  · refine ⟨undef, undef, undef, undef, undef, undef, undef, undef, undef, undef, undef, undef, undef, undef, undef, [], [], rfl, hlit.step (Below.refl _ _).drew, ?_⟩
    constructor <;> simp [Inv.D]
  · rintro l a W hD ⟨x6, x23, x24, x25, x26, x27, x28, x29, x30, x31, x32, x33, x34, x35, x36, s1, s3, rfl, hS, hP⟩
    obtain ⟨b, bu, rfl, e12, rfl⟩ := hP.d2 (hD 15 (by decide))
    obtain ⟨bu2, e13, rfl⟩ := hP.l12 (hD 12 (by decide))
    rw [e12] at e13
    injection e13 with e13
    injection e13 with e13
    injection e13 with e13
    subst e13
    clear hP hD e12
    obtain ⟨v0, v1, v2, v3, v4, v5, vf, vg⟩ := g6 hS (K := kG) (g := w.heap.size) (n := 1) (q := zgv) (by simp) rfl
    obtain ⟨t0, t1, t2, t3, t4, t5, tf, tg⟩ := g6 hS (K := kG) (g := b) (n := 1) (q := ⟨bt, bq, ⟨some ⟨gy, oy, none⟩, yn, yc⟩, ⟨op, yn, oc⟩, ⟨some ⟨bu, 0, none⟩, yn, yn⟩, 0⟩) (by simp) rfl
    simp only [zgv] at v0 v1 v2 v3 v4 v5 t0 t1 t2 t3 t4 t5
    try dsimp only
    have hRd := HRd.out W bu hS.bel (OwG.sl (hS.mem (K := kI) (v := .slice (some ⟨bu, 0, none⟩) yn yn) (L := List.replicate yn 0) (by simp)))
    have HD := Lib.hid (HDk.out W bu hRd)
    generalize hdd : dB (openD (yds QL) O) = bd at HD
    have HBd := Lib.hid hdd
    clear hdd
    cases bd
    · have HE : Hid (openR (yds QL) O = (zdd, false)) := by show openR (yds QL) O = (zdd, false); unfold openR; rw [HBd.out]; rfl
      go_wp2_with (go_at_call 6; refine HD.out.mono ?_; rintro e w1 ⟨rfl, hb1⟩; have hS1 := hS.step hb1; clear v0 v1 v2 v3 v4 v5 vf vg; obtain ⟨v0, v1, v2, v3, v4, v5, vf, vg⟩ := g6 hS1 (K := kG) (g := w.heap.size) (n := 1) (q := zgv) (by simp) rfl; simp only [zgv] at v0 v1 v2 v3 v4 v5)
      have hS3 := Sg.setG (A := [rG kI (.slice (some ⟨bu, 0, none⟩) yn yn) (List.replicate yn 0), rG kG (.slice (some ⟨b, 0, none⟩) 1 1) [⟨bt, bq, ⟨some ⟨gy, oy, none⟩, yn, yc⟩, ⟨op, yn, oc⟩, ⟨some ⟨bu, 0, none⟩, yn, yn⟩, 0⟩]]) (g := w.heap.size) (n := 1) (a := zgv) (Bs := []) hS1 zgv
      refine bodyPost_ret (v := .tuple #[.agg #[.int .i64 0, .int .i64 0, .slice none 0 0, .slice none 0 0, .slice none 0 0, .int .i64 0], .bool false]) (by simp [results, Try.results11, go_sem, v0, v1, v2, v3, v4, v5]) rfl ⟨_, by rw [HE.out], by rw [HE.out]; exact dlo_zero hS3.bel⟩
    · have HE : Hid (openR (yds QL) O = (openD (yds QL) O, true)) := by show openR (yds QL) O = (openD (yds QL) O, true); unfold openR; rw [HBd.out]; rfl
      have HK := Lib.hid (fun W' (hb : Below W.heap.size W W') => HCp.out W bu W' HBd.out hRd hb (own_okv (hS.mem (K := kI) (v := .slice (some ⟨bu, 0, none⟩) yn yn) (L := List.replicate yn 0) (by simp))))
      go_wp2_with (first
        | (go_at_call 6; refine HD.out.mono ?_; rintro e w1 ⟨rfl, hb1⟩; have hS1 := hS.step hb1; clear t0 t1 t2 t3 t4 t5 tf tg; obtain ⟨t0, t1, t2, t3, t4, t5, tf, tg⟩ := g6 hS1 (K := kG) (g := b) (n := 1) (q := ⟨bt, bq, ⟨some ⟨gy, oy, none⟩, yn, yc⟩, ⟨op, yn, oc⟩, ⟨some ⟨bu, 0, none⟩, yn, yn⟩, 0⟩) (by simp) rfl; simp only at t0 t1 t2 t3 t4 t5)
        | (go_at_call 33; refine (HK.out _ hb1).mono ?_; rintro e w3 ⟨y, o, u, Q2, rfl, hq1, hq2, h3⟩; have hS3 := hS1.addL h3; clear v0 v1 v2 v3 v4 v5 vf vg; obtain ⟨v0, v1, v2, v3, v4, v5, vf, vg⟩ := g6 hS3 (K := kG) (g := w.heap.size) (n := 1) (q := zgv) (by simp) rfl; simp only [zgv] at v0 v1 v2 v3 v4 v5))
      have hS4 := Sg.setG (A := gR ⟨bt, bq, y, o, u, 0⟩ Q2 O (List.replicate yn 0) ++ [rG kI (.slice (some ⟨bu, 0, none⟩) yn yn) (List.replicate yn 0), rG kG (.slice (some ⟨b, 0, none⟩) 1 1) [⟨bt, bq, ⟨some ⟨gy, oy, none⟩, yn, yc⟩, ⟨op, yn, oc⟩, ⟨some ⟨bu, 0, none⟩, yn, yn⟩, 0⟩]]) (g := w.heap.size) (n := 1) (a := zgv) (Bs := []) (by simpa using hS3) ⟨bt, bq, y, o, u, 0⟩
      rw [List.append_assoc] at hS4
      have hS5 := hS4.sub (List.sublist_append_left ..)
      have hDl : ∀ W', Sg w W' (gR ⟨bt, bq, y, o, u, 0⟩ Q2 O (List.replicate yn 0)) → DlO (openD (yds QL) O) w W' (Gv.v ⟨bt, bq, y, o, u, 0⟩) := fun W' h => by
        have e := HOd.out
        rw [e]
        exact ⟨y, o, u, Q2, rfl, hq1, hq2, h⟩
      refine bodyPost_ret (v := .tuple #[.agg #[.int .i64 bt, .int .i64 bq, .slice y.p y.n y.c, .slice o.p o.n o.c, .slice u.p u.n u.c, .int .i64 0], .bool true]) (by simp [results, Try.results11, go_sem, v0, v1, v2, v3, v4, v5]) rfl ⟨Gv.v ⟨bt, bq, y, o, u, 0⟩, by rw [HE.out], by rw [HE.out]; exact hDl _ hS5⟩
  · refine ⟨?_, ?_, ?_, ?_, ?_, ?_, ?_, ?_, ?_, ?_, ?_, ?_, ?_, ?_, ?_, ?_, trivial⟩
    · rintro l a W hl hd ha ⟨x6, x23, x24, x25, x26, x27, x28, x29, x30, x31, x32, x33, x34, x35, x36, s1, s3, rfl, hS, hP⟩
      have hD : ∀ k, Inv.D (l.setIfInBounds 0 true) k = if k = 0 then true else Inv.D l k := fun k => Inv.D_set l 0 k (by rw [hl]; decide)
      simp [Inv.ahead, Region.binds] at ha
      refine Inv.wpOp_K rfl (fun K hK => ?_)
      go_simp
      refine hK _ _ ⟨x6, _, x24, x25, x26, x27, x28, x29, x30, x31, x32, x33, x34, x35, x36, s1, s3, rfl, ?_, ?_⟩
      · exact hS
      · constructor
        all_goals simp [hD]
        all_goals (first | exact hP.l0 | exact hP.l1 | exact hP.l2 | exact hP.l3 | exact hP.l4 | exact hP.l5 | exact hP.l6 | exact hP.l7 | exact hP.l8 | exact hP.l9 | exact hP.l10 | exact hP.l11 | exact hP.r13 | exact hP.r15a | exact hP.r15b | exact hP.c12 | exact hP.l12 | exact hP.l13 | exact hP.d0 | exact hP.d1 | exact hP.d2 | skip)
    · rintro l a W hl hd ha ⟨x6, x23, x24, x25, x26, x27, x28, x29, x30, x31, x32, x33, x34, x35, x36, s1, s3, rfl, hS, hP⟩
      have hD : ∀ k, Inv.D (l.setIfInBounds 1 true) k = if k = 1 then true else Inv.D l k := fun k => Inv.D_set l 1 k (by rw [hl]; decide)
      simp [Inv.ahead, Region.binds] at ha
      obtain rfl := hP.l0 (by first | exact ha | exact ha.1 | exact ha.2 | exact ha.2.1 | exact ha.2.2 | exact ha.2.2.1 | exact ha.2.2.2 | exact ha.2.2.2.1 | exact ha.2.2.2.2)
      refine Inv.wpOp_K rfl (fun K hK => ?_)
      go_simp
      refine hK _ _ ⟨x6, _, _, x25, x26, x27, x28, x29, x30, x31, x32, x33, x34, x35, x36, s1, s3, rfl, ?_, ?_⟩
      · exact hS
      · constructor
        all_goals simp [hD]
        all_goals (first | exact hP.l0 | exact hP.l1 | exact hP.l2 | exact hP.l3 | exact hP.l4 | exact hP.l5 | exact hP.l6 | exact hP.l7 | exact hP.l8 | exact hP.l9 | exact hP.l10 | exact hP.l11 | exact hP.r13 | exact hP.r15a | exact hP.r15b | exact hP.c12 | exact hP.l12 | exact hP.l13 | exact hP.d0 | exact hP.d1 | exact hP.d2 | skip)
    · rintro l a W hl hd ha ⟨x6, x23, x24, x25, x26, x27, x28, x29, x30, x31, x32, x33, x34, x35, x36, s1, s3, rfl, hS, hP⟩
      have hD : ∀ k, Inv.D (l.setIfInBounds 2 true) k = if k = 2 then true else Inv.D l k := fun k => Inv.D_set l 2 k (by rw [hl]; decide)
      simp [Inv.ahead, Region.binds] at ha
      obtain rfl := hP.l1 (by first | exact ha | exact ha.1 | exact ha.2 | exact ha.2.1 | exact ha.2.2 | exact ha.2.2.1 | exact ha.2.2.2 | exact ha.2.2.2.1 | exact ha.2.2.2.2)
      refine Inv.wpOp_K rfl (fun K hK => ?_)
      go_simp
      refine hK _ _ ⟨x6, x23, _, _, x26, x27, x28, x29, x30, x31, x32, x33, x34, x35, x36, s1, s3, rfl, ?_, ?_⟩
      · exact hS
      · constructor
        all_goals simp [hD]
        all_goals (first | exact hP.l0 | exact hP.l1 | exact hP.l2 | exact hP.l3 | exact hP.l4 | exact hP.l5 | exact hP.l6 | exact hP.l7 | exact hP.l8 | exact hP.l9 | exact hP.l10 | exact hP.l11 | exact hP.r13 | exact hP.r15a | exact hP.r15b | exact hP.c12 | exact hP.l12 | exact hP.l13 | exact hP.d0 | exact hP.d1 | exact hP.d2 | skip)
    · rintro l a W hl hd ha ⟨x6, x23, x24, x25, x26, x27, x28, x29, x30, x31, x32, x33, x34, x35, x36, s1, s3, rfl, hS, hP⟩
      have hD : ∀ k, Inv.D (l.setIfInBounds 3 true) k = if k = 3 then true else Inv.D l k := fun k => Inv.D_set l 3 k (by rw [hl]; decide)
      simp [Inv.ahead, Region.binds] at ha
      obtain rfl := hP.l2 (by first | exact ha | exact ha.1 | exact ha.2 | exact ha.2.1 | exact ha.2.2 | exact ha.2.2.1 | exact ha.2.2.2 | exact ha.2.2.2.1 | exact ha.2.2.2.2)
      obtain ⟨c0, c1⟩ := HCe.out _ hS.bel
      refine Inv.wpOp_K rfl (fun K hK => ?_)
      go_simp
      refine hK _ _ ⟨x6, x23, x24, _, _, x27, x28, x29, x30, x31, x32, x33, x34, x35, x36, s1, s3, rfl, ?_, ?_⟩
      · exact hS
      · constructor
        all_goals simp [hD]
        all_goals (first | exact hP.l0 | exact hP.l1 | exact hP.l2 | exact hP.l3 | exact hP.l4 | exact hP.l5 | exact hP.l6 | exact hP.l7 | exact hP.l8 | exact hP.l9 | exact hP.l10 | exact hP.l11 | exact hP.r13 | exact hP.r15a | exact hP.r15b | exact hP.c12 | exact hP.l12 | exact hP.l13 | exact hP.d0 | exact hP.d1 | exact hP.d2 | skip)
    · rintro l a W hl hd ha ⟨x6, x23, x24, x25, x26, x27, x28, x29, x30, x31, x32, x33, x34, x35, x36, s1, s3, rfl, hS, hP⟩
      have hD : ∀ k, Inv.D (l.setIfInBounds 4 true) k = if k = 4 then true else Inv.D l k := fun k => Inv.D_set l 4 k (by rw [hl]; decide)
      simp [Inv.ahead, Region.binds] at ha
      refine Inv.wpOp_K rfl (fun K hK => ?_)
      go_simp
      refine hK _ _ ⟨x6, x23, x24, x25, x26, _, x28, x29, x30, x31, x32, x33, x34, x35, x36, s1, s3, rfl, ?_, ?_⟩
      · exact hS
      · constructor
        all_goals simp [hD]
        all_goals (first | exact hP.l0 | exact hP.l1 | exact hP.l2 | exact hP.l3 | exact hP.l4 | exact hP.l5 | exact hP.l6 | exact hP.l7 | exact hP.l8 | exact hP.l9 | exact hP.l10 | exact hP.l11 | exact hP.r13 | exact hP.r15a | exact hP.r15b | exact hP.c12 | exact hP.l12 | exact hP.l13 | exact hP.d0 | exact hP.d1 | exact hP.d2 | skip)
    · rintro l a W hl hd ha ⟨x6, x23, x24, x25, x26, x27, x28, x29, x30, x31, x32, x33, x34, x35, x36, s1, s3, rfl, hS, hP⟩
      have hD : ∀ k, Inv.D (l.setIfInBounds 5 true) k = if k = 5 then true else Inv.D l k := fun k => Inv.D_set l 5 k (by rw [hl]; decide)
      simp [Inv.ahead, Region.binds] at ha
      obtain rfl := hP.l4 (by first | exact ha | exact ha.1 | exact ha.2 | exact ha.2.1 | exact ha.2.2 | exact ha.2.2.1 | exact ha.2.2.2 | exact ha.2.2.2.1 | exact ha.2.2.2.2)
      refine Inv.wpOp_K rfl (fun K hK => ?_)
      go_simp
      refine hK _ _ ⟨x6, x23, x24, x25, x26, _, _, x29, x30, x31, x32, x33, x34, x35, x36, s1, s3, rfl, ?_, ?_⟩
      · exact hS
      · constructor
        all_goals simp [hD]
        all_goals (first | exact hP.l0 | exact hP.l1 | exact hP.l2 | exact hP.l3 | exact hP.l4 | exact hP.l5 | exact hP.l6 | exact hP.l7 | exact hP.l8 | exact hP.l9 | exact hP.l10 | exact hP.l11 | exact hP.r13 | exact hP.r15a | exact hP.r15b | exact hP.c12 | exact hP.l12 | exact hP.l13 | exact hP.d0 | exact hP.d1 | exact hP.d2 | skip)
    · rintro l a W hl hd ha ⟨x6, x23, x24, x25, x26, x27, x28, x29, x30, x31, x32, x33, x34, x35, x36, s1, s3, rfl, hS, hP⟩
      have hD : ∀ k, Inv.D (l.setIfInBounds 6 true) k = if k = 6 then true else Inv.D l k := fun k => Inv.D_set l 6 k (by rw [hl]; decide)
      simp [Inv.ahead, Region.binds] at ha
      obtain rfl := hP.l5 (by first | exact ha | exact ha.1 | exact ha.2 | exact ha.2.1 | exact ha.2.2 | exact ha.2.2.1 | exact ha.2.2.2 | exact ha.2.2.2.1 | exact ha.2.2.2.2)
      refine Inv.wpOp_K rfl (fun K hK => ?_)
      go_simp
      refine hK _ _ ⟨x6, x23, x24, x25, x26, x27, _, _, x30, x31, x32, x33, x34, x35, x36, s1, s3, rfl, ?_, ?_⟩
      · exact hS
      · constructor
        all_goals simp [hD]
        all_goals (first | exact hP.l0 | exact hP.l1 | exact hP.l2 | exact hP.l3 | exact hP.l4 | exact hP.l5 | exact hP.l6 | exact hP.l7 | exact hP.l8 | exact hP.l9 | exact hP.l10 | exact hP.l11 | exact hP.r13 | exact hP.r15a | exact hP.r15b | exact hP.c12 | exact hP.l12 | exact hP.l13 | exact hP.d0 | exact hP.d1 | exact hP.d2 | skip)
    · rintro l a W hl hd ha ⟨x6, x23, x24, x25, x26, x27, x28, x29, x30, x31, x32, x33, x34, x35, x36, s1, s3, rfl, hS, hP⟩
      have hD : ∀ k, Inv.D (l.setIfInBounds 7 true) k = if k = 7 then true else Inv.D l k := fun k => Inv.D_set l 7 k (by rw [hl]; decide)
      simp [Inv.ahead, Region.binds] at ha
      obtain rfl := hP.l6 (by first | exact ha | exact ha.1 | exact ha.2 | exact ha.2.1 | exact ha.2.2 | exact ha.2.2.1 | exact ha.2.2.2 | exact ha.2.2.2.1 | exact ha.2.2.2.2)
      obtain ⟨c0, c1⟩ := HCe.out _ hS.bel
      refine Inv.wpOp_K rfl (fun K hK => ?_)
      go_simp
      refine hK _ _ ⟨x6, x23, x24, x25, x26, x27, x28, _, _, x31, x32, x33, x34, x35, x36, s1, s3, rfl, ?_, ?_⟩
      · exact hS
      · constructor
        all_goals simp [hD]
        all_goals (first | exact hP.l0 | exact hP.l1 | exact hP.l2 | exact hP.l3 | exact hP.l4 | exact hP.l5 | exact hP.l6 | exact hP.l7 | exact hP.l8 | exact hP.l9 | exact hP.l10 | exact hP.l11 | exact hP.r13 | exact hP.r15a | exact hP.r15b | exact hP.c12 | exact hP.l12 | exact hP.l13 | exact hP.d0 | exact hP.d1 | exact hP.d2 | skip)
    · rintro l a W hl hd ha ⟨x6, x23, x24, x25, x26, x27, x28, x29, x30, x31, x32, x33, x34, x35, x36, s1, s3, rfl, hS, hP⟩
      have hD : ∀ k, Inv.D (l.setIfInBounds 8 true) k = if k = 8 then true else Inv.D l k := fun k => Inv.D_set l 8 k (by rw [hl]; decide)
      simp [Inv.ahead, Region.binds] at ha
      refine Inv.wpOp_K rfl (fun K hK => ?_)
      go_simp
      refine hK _ _ ⟨x6, x23, x24, x25, x26, x27, x28, x29, x30, _, x32, x33, x34, x35, x36, s1, s3, rfl, ?_, ?_⟩
      · exact hS
      · constructor
        all_goals simp [hD]
        all_goals (first | exact hP.l0 | exact hP.l1 | exact hP.l2 | exact hP.l3 | exact hP.l4 | exact hP.l5 | exact hP.l6 | exact hP.l7 | exact hP.l8 | exact hP.l9 | exact hP.l10 | exact hP.l11 | exact hP.r13 | exact hP.r15a | exact hP.r15b | exact hP.c12 | exact hP.l12 | exact hP.l13 | exact hP.d0 | exact hP.d1 | exact hP.d2 | skip)
    · rintro l a W hl hd ha ⟨x6, x23, x24, x25, x26, x27, x28, x29, x30, x31, x32, x33, x34, x35, x36, s1, s3, rfl, hS, hP⟩
      have hD : ∀ k, Inv.D (l.setIfInBounds 9 true) k = if k = 9 then true else Inv.D l k := fun k => Inv.D_set l 9 k (by rw [hl]; decide)
      simp [Inv.ahead, Region.binds] at ha
      refine Inv.wpOp_K rfl (fun K hK => ?_)
      go_simp
      refine hK _ _ ⟨x6, x23, x24, x25, x26, x27, x28, x29, x30, x31, _, x33, x34, x35, x36, s1, s3, rfl, ?_, ?_⟩
      · exact hS
      · constructor
        all_goals simp [hD]
        all_goals (first | exact hP.l0 | exact hP.l1 | exact hP.l2 | exact hP.l3 | exact hP.l4 | exact hP.l5 | exact hP.l6 | exact hP.l7 | exact hP.l8 | exact hP.l9 | exact hP.l10 | exact hP.l11 | exact hP.r13 | exact hP.r15a | exact hP.r15b | exact hP.c12 | exact hP.l12 | exact hP.l13 | exact hP.d0 | exact hP.d1 | exact hP.d2 | skip)
    · rintro l a W hl hd ha ⟨x6, x23, x24, x25, x26, x27, x28, x29, x30, x31, x32, x33, x34, x35, x36, s1, s3, rfl, hS, hP⟩
      have hD : ∀ k, Inv.D (l.setIfInBounds 10 true) k = if k = 10 then true else Inv.D l k := fun k => Inv.D_set l 10 k (by rw [hl]; decide)
      simp [Inv.ahead, Region.binds] at ha
      refine Inv.wpOp_K rfl (fun K hK => ?_)
      go_simp
      refine hK _ _ ⟨x6, x23, x24, x25, x26, x27, x28, x29, x30, x31, x32, _, x34, x35, x36, s1, s3, rfl, ?_, ?_⟩
      · exact hS
      · constructor
        all_goals simp [hD]
        all_goals (first | exact hP.l0 | exact hP.l1 | exact hP.l2 | exact hP.l3 | exact hP.l4 | exact hP.l5 | exact hP.l6 | exact hP.l7 | exact hP.l8 | exact hP.l9 | exact hP.l10 | exact hP.l11 | exact hP.r13 | exact hP.r15a | exact hP.r15b | exact hP.c12 | exact hP.l12 | exact hP.l13 | exact hP.d0 | exact hP.d1 | exact hP.d2 | skip)
    · rintro l a W hl hd ha ⟨x6, x23, x24, x25, x26, x27, x28, x29, x30, x31, x32, x33, x34, x35, x36, s1, s3, rfl, hS, hP⟩
      have hD : ∀ k, Inv.D (l.setIfInBounds 11 true) k = if k = 11 then true else Inv.D l k := fun k => Inv.D_set l 11 k (by rw [hl]; decide)
      simp [Inv.ahead, Region.binds] at ha
      obtain rfl := hP.l10 (by first | exact ha | exact ha.1 | exact ha.2 | exact ha.2.1 | exact ha.2.2 | exact ha.2.2.1 | exact ha.2.2.2 | exact ha.2.2.2.1 | exact ha.2.2.2.2)
      refine Inv.wpOp_K rfl (fun K hK => ?_)
      go_simp
      refine hK _ _ ⟨x6, x23, x24, x25, x26, x27, x28, x29, x30, x31, x32, _, _, x35, x36, s1, s3, rfl, ?_, ?_⟩
      · exact hS
      · constructor
        all_goals simp [hD]
        all_goals (first | exact hP.l0 | exact hP.l1 | exact hP.l2 | exact hP.l3 | exact hP.l4 | exact hP.l5 | exact hP.l6 | exact hP.l7 | exact hP.l8 | exact hP.l9 | exact hP.l10 | exact hP.l11 | exact hP.r13 | exact hP.r15a | exact hP.r15b | exact hP.c12 | exact hP.l12 | exact hP.l13 | exact hP.d0 | exact hP.d1 | exact hP.d2 | skip)
    · rintro l a W hl hd ha ⟨x6, x23, x24, x25, x26, x27, x28, x29, x30, x31, x32, x33, x34, x35, x36, s1, s3, rfl, hS, hP⟩
      have hD : ∀ k, Inv.D (l.setIfInBounds 12 true) k = if k = 12 then true else Inv.D l k := fun k => Inv.D_set l 12 k (by rw [hl]; decide)
      simp [Inv.ahead, Region.binds] at ha
      obtain rfl := hP.l11 (by first | exact ha | exact ha.1 | exact ha.2 | exact ha.2.1 | exact ha.2.2 | exact ha.2.2.1 | exact ha.2.2.2 | exact ha.2.2.2.1 | exact ha.2.2.2.2)
      obtain rfl := hP.c12 hd
      have hmk := HMk.out W
      refine Inv.wpOp_K rfl (fun K hK => ?_)
      go_simp
      refine hK _ _ ⟨x6, x23, x24, x25, x26, x27, x28, x29, x30, x31, x32, x33, _, _, x36, [rG kI (.slice (some ⟨W.heap.size, 0, none⟩) yn yn) (List.replicate yn 0)], s3, rfl, ?_, ?_⟩
      · exact lit_made hS hyb
      · constructor
        all_goals simp [hD]
        all_goals (first | exact hP.l0 | exact hP.l1 | exact hP.l2 | exact hP.l3 | exact hP.l4 | exact hP.l5 | exact hP.l6 | exact hP.l7 | exact hP.l8 | exact hP.l9 | exact hP.l10 | exact hP.l11 | exact hP.r13 | exact hP.r15a | exact hP.r15b | exact hP.c12 | exact hP.l12 | exact hP.l13 | exact hP.d0 | exact hP.d1 | exact hP.d2 | skip)
        · exact ⟨_, rfl, rfl⟩
        · exact fun h => absurd (hP.r13 h) (by rw [hd]; decide)
        · exact fun h => absurd (hP.r13 (hP.r15b h)) (by rw [hd]; decide)
    · rintro l a W hl hd ha ⟨x6, x23, x24, x25, x26, x27, x28, x29, x30, x31, x32, x33, x34, x35, x36, s1, s3, rfl, hS, hP⟩
      have hD : ∀ k, Inv.D (l.setIfInBounds 13 true) k = if k = 13 then true else Inv.D l k := fun k => Inv.D_set l 13 k (by rw [hl]; decide)
      simp [Inv.ahead, Region.binds] at ha
      obtain rfl := hP.l3 (by first | exact ha | exact ha.1 | exact ha.2 | exact ha.2.1 | exact ha.2.2 | exact ha.2.2.1 | exact ha.2.2.2 | exact ha.2.2.2.1 | exact ha.2.2.2.2)
      obtain rfl := hP.l7 (by first | exact ha | exact ha.1 | exact ha.2 | exact ha.2.1 | exact ha.2.2 | exact ha.2.2.1 | exact ha.2.2.2 | exact ha.2.2.2.1 | exact ha.2.2.2.2)
      obtain rfl := hP.l8 (by first | exact ha | exact ha.1 | exact ha.2 | exact ha.2.1 | exact ha.2.2 | exact ha.2.2.1 | exact ha.2.2.2 | exact ha.2.2.2.1 | exact ha.2.2.2.2)
      obtain rfl := hP.l9 (by first | exact ha | exact ha.1 | exact ha.2 | exact ha.2.1 | exact ha.2.2 | exact ha.2.2.1 | exact ha.2.2.2 | exact ha.2.2.2.1 | exact ha.2.2.2.2)
      obtain ⟨bu, rfl, rfl⟩ := hP.l12 (by first | exact ha | exact ha.1 | exact ha.2 | exact ha.2.1 | exact ha.2.2 | exact ha.2.2.1 | exact ha.2.2.2 | exact ha.2.2.2.1 | exact ha.2.2.2.2)
      refine Inv.wpOp_K rfl (fun K hK => ?_)
      go_simp
      refine hK _ _ ⟨x6, x23, x24, x25, _, x27, x28, x29, _, _, _, x33, x34, _, _, [rG kI (.slice (some ⟨bu, 0, none⟩) yn yn) (List.replicate yn 0)], s3, rfl, ?_, ?_⟩
      · exact hS
      · constructor
        all_goals simp [hD]
        all_goals (first | exact hP.l0 | exact hP.l1 | exact hP.l2 | exact hP.l3 | exact hP.l4 | exact hP.l5 | exact hP.l6 | exact hP.l7 | exact hP.l8 | exact hP.l9 | exact hP.l10 | exact hP.l11 | exact hP.r13 | exact hP.r15a | exact hP.r15b | exact hP.c12 | exact hP.l12 | exact hP.l13 | exact hP.d0 | exact hP.d1 | exact hP.d2 | skip)
        · exact (by first | exact ha | exact ha.1 | exact ha.2 | exact ha.2.1 | exact ha.2.2 | exact ha.2.2.1 | exact ha.2.2.2 | exact ha.2.2.2.1 | exact ha.2.2.2.2)
        · exact (by first | exact ha | exact ha.1 | exact ha.2 | exact ha.2.1 | exact ha.2.2 | exact ha.2.2.1 | exact ha.2.2.2 | exact ha.2.2.2.1 | exact ha.2.2.2.2)
        · exact rfl
    · rintro l a W hl hd ha ⟨x6, x23, x24, x25, x26, x27, x28, x29, x30, x31, x32, x33, x34, x35, x36, s1, s3, rfl, hS, hP⟩
      have hD : ∀ k, Inv.D (l.setIfInBounds 14 true) k = if k = 14 then true else Inv.D l k := fun k => Inv.D_set l 14 k (by rw [hl]; decide)
      simp [Inv.ahead, Region.binds] at ha
      obtain rfl := hP.d0 hd
      refine Inv.wpOp_K rfl (fun K hK => ?_)
      go_simp
      refine hK _ _ ⟨_, x23, x24, x25, x26, x27, x28, x29, x30, x31, x32, x33, x34, x35, x36, s1, [rG kG (.slice (some ⟨W.heap.size, 0, none⟩) 1 1) [zgv]], rfl, ?_, ?_⟩
      · exact (hS.lit kG [zgv] 1 rfl (by decide) #[.int .i64 0, .int .i64 0, .slice none 0 0, .slice none 0 0, .slice none 0 0, .int .i64 0] rfl).perm (by simpa using (List.perm_middle (l₁ := s1)).symm)
      · constructor
        all_goals simp [hD]
        all_goals (first | exact hP.l0 | exact hP.l1 | exact hP.l2 | exact hP.l3 | exact hP.l4 | exact hP.l5 | exact hP.l6 | exact hP.l7 | exact hP.l8 | exact hP.l9 | exact hP.l10 | exact hP.l11 | exact hP.r13 | exact hP.r15a | exact hP.r15b | exact hP.c12 | exact hP.l12 | exact hP.l13 | exact hP.d0 | exact hP.d1 | exact hP.d2 | skip)
        · exact fun _ => ⟨_, rfl, rfl⟩
        · exact fun h => absurd (hP.r15a h) (by rw [hd]; decide)
    · rintro l a W hl hd ha ⟨x6, x23, x24, x25, x26, x27, x28, x29, x30, x31, x32, x33, x34, x35, x36, s1, s3, rfl, hS, hP⟩
      have hD : ∀ k, Inv.D (l.setIfInBounds 15 true) k = if k = 15 then true else Inv.D l k := fun k => Inv.D_set l 15 k (by rw [hl]; decide)
      simp [Inv.ahead, Region.binds] at ha
      obtain ⟨b, rfl, rfl⟩ := hP.d1 (by first | exact ha | exact ha.1 | exact ha.2 | exact ha.2.1 | exact ha.2.2 | exact ha.2.2.1 | exact ha.2.2.2 | exact ha.2.2.2.1 | exact ha.2.2.2.2) hd
      obtain ⟨bu, e12, rfl⟩ := hP.l12 (hP.r13 (by first | exact ha | exact ha.1 | exact ha.2 | exact ha.2.1 | exact ha.2.2 | exact ha.2.2.1 | exact ha.2.2.2 | exact ha.2.2.2.1 | exact ha.2.2.2.2))
      obtain rfl := hP.l13 (by first | exact ha | exact ha.1 | exact ha.2 | exact ha.2.1 | exact ha.2.2 | exact ha.2.2.1 | exact ha.2.2.2 | exact ha.2.2.2.1 | exact ha.2.2.2.2)
      obtain rfl := e12
      obtain ⟨t0, t1, t2, t3, t4, t5, tf, tg⟩ := g6 hS (K := kG) (g := b) (n := 1) (q := zgv) (by simp) rfl
      simp only [zgv] at t0 t1 t2 t3 t4 t5
      have hS2 := Sg.setG (A := [rG kI (.slice (some ⟨bu, 0, none⟩) yn yn) (List.replicate yn 0)]) (g := b) (n := 1) (a := zgv) hS ⟨bt, bq, ⟨some ⟨gy, oy, none⟩, yn, yc⟩, ⟨op, yn, oc⟩, ⟨some ⟨bu, 0, none⟩, yn, yn⟩, 0⟩
      refine Inv.wpOp_K rfl (fun K hK => ?_)
      go_simp
      refine hK _ _ ⟨_, x23, x24, x25, x26, x27, x28, x29, x30, x31, x32, x33, x34, _, _, [rG kI (.slice (some ⟨bu, 0, none⟩) yn yn) (List.replicate yn 0)], [rG kG (.slice (some ⟨b, 0, none⟩) 1 1) [⟨bt, bq, ⟨some ⟨gy, oy, none⟩, yn, yc⟩, ⟨op, yn, oc⟩, ⟨some ⟨bu, 0, none⟩, yn, yn⟩, 0⟩]], rfl, ?_, ?_⟩
      · exact hS2
      · constructor
        all_goals simp [hD]
        all_goals (first | exact hP.l0 | exact hP.l1 | exact hP.l2 | exact hP.l3 | exact hP.l4 | exact hP.l5 | exact hP.l6 | exact hP.l7 | exact hP.l8 | exact hP.l9 | exact hP.l10 | exact hP.l11 | exact hP.r13 | exact hP.r15a | exact hP.r15b | exact hP.c12 | exact hP.l12 | exact hP.l13 | exact hP.d0 | exact hP.d1 | exact hP.d2 | skip)
        · exact (by first | exact ha | exact ha.1 | exact ha.2 | exact ha.2.1 | exact ha.2.2 | exact ha.2.2.1 | exact ha.2.2.2 | exact ha.2.2.2.1 | exact ha.2.2.2.2)
        · exact (by first | exact ha | exact ha.1 | exact ha.2 | exact ha.2.1 | exact ha.2.2 | exact ha.2.2.1 | exact ha.2.2.2 | exact ha.2.2.2.1 | exact ha.2.2.2.2)
        · exact hP.r13 (by first | exact ha | exact ha.1 | exact ha.2 | exact ha.2.1 | exact ha.2.2 | exact ha.2.2.1 | exact ha.2.2.2 | exact ha.2.2.2.1 | exact ha.2.2.2.2)
        · exact (by first | exact ha | exact ha.1 | exact ha.2 | exact ha.2.1 | exact ha.2.2 | exact ha.2.2.1 | exact ha.2.2.2 | exact ha.2.2.2.1 | exact ha.2.2.2.2)
        · exact ⟨_, _, rfl, rfl, rfl⟩
end Go.Proofs.Ytobbankkfplooaa.K.G
namespace Go.Proofs.Ytobbankkfplooaa.K.G
open Go.Shelf Go.RowKit Go.Joins Y
attribute [local go_sem] Oper.semAt_some

theorem own_okv' {α : Type} {K : Kd α} {W : World} {base : Nat} {s : Sv} {L : List α} (h : OwG K W base (.slice s.p s.n s.c) L) : okv s := by
  rcases h.2 with ⟨e, _⟩ | ⟨g, cap, cur, e, _⟩
  · right
    obtain ⟨p, n, c⟩ := s
    simp only at e
    cases e; rfl
  · left
    injection e with e1
    exact ⟨_, e1⟩
theorem gR_ok {w W : World} {rs : List Rw} {h : Gv} {QL : List YQ} {O V : List Int} (hS : Sg w W rs) (hm : ∀ r ∈ gR h QL O V, r ∈ rs) : OkG h QL := by
  refine ⟨own_okv' (hS.mem (K := kI) (v := .slice h.o.p h.o.n h.o.c) (L := O) (hm _ (by simp [gR]))), own_okv' (hS.mem (K := kI) (v := .slice h.u.p h.u.n h.u.c) (L := V) (hm _ (by simp [gR]))), fun y hy => own_okv' (hS.mem (K := I.kR) (v := .slice y.2.p y.2.n y.2.c) (L := y.1.L) (hm _ ?_))⟩
  unfold gR trY
  rw [List.append_nil]
  exact List.mem_cons_of_mem _ (List.mem_cons_of_mem _ (List.mem_cons_of_mem _ (List.mem_map.2 ⟨y, hy, rfl⟩)))
theorem gR_len {w W : World} {rs : List Rw} {h : Gv} {QL : List YQ} {O V : List Int} (hS : Sg w W rs) (hm : ∀ r ∈ gR h QL O V, r ∈ rs) : h.y.n = QL.length ∧ h.o.n = O.length ∧ h.u.n = V.length :=
  ⟨OwG.len (hS.mem (K := kY) (v := .slice h.y.p h.y.n h.y.c) (L := QL) (hm _ (by simp [gR, trY]))), OwG.len (hS.mem (K := kI) (v := .slice h.o.p h.o.n h.o.c) (L := O) (hm _ (by simp [gR]))), OwG.len (hS.mem (K := kI) (v := .slice h.u.p h.u.n h.u.c) (L := V) (hm _ (by simp [gR])))⟩
/-- What is answered is small. -/
structure Sml (Y : List Yd) (O V : List Int) : Prop where
  y : Y.length ≤ 1000
  o : O.length ≤ 1000
  u : V.length ≤ 1000
  ys : ∀ y ∈ Y, y.L.length ≤ 1000
theorem sml_zero : Sml [] [] [] := ⟨by simp, by simp, by simp, by simp⟩
theorem sml_dp {d : Dd} (h : DP d) {V : List Int} (hv : V.length = d.V.length) : Sml d.Y d.O V := by
  have h1 := h.n.2
  have h2 := h.on
  have h3 := h.un
  exact ⟨by omega, by omega, by omega, fun y hy => by have := (yB_parts (h.y y hy).1).2.2.1.2; omega⟩
theorem sml_open {Y : List Yd} {O : List Int} {r : Dd × Bool} (hr : openR Y O = r) : Sml r.1.Y r.1.O r.1.V := by
  unfold openR at hr
  by_cases hd : dB (openD Y O) = true
  · rw [if_pos hd] at hr
    subst hr
    exact sml_dp (dB_iff.1 hd) rfl
  · rw [if_neg hd] at hr
    subst hr
    exact sml_zero
theorem ywS_small : ∀ {Y : List Yd}, (∀ y ∈ Y, y.L.length ≤ 1000) → ywS Y ≤ Y.length * 1001
  | [], _ => by simp [ywS]
  | a :: t, h => by
    have ih := ywS_small (Y := t) fun y hy => h y (List.mem_cons_of_mem _ hy)
    have h1 := h a (List.mem_cons_self ..)
    unfold ywS at ih ⊢
    simp only [List.map_cons, List.sum_cons, List.length_cons, Nat.add_mul]
    omega
theorem ans_rd {w W : World} {rs : List Rw} {t q s : Int} {y o u : Sv} {Y : List Yd} {Q : List YQ} {O V : List Int} (hS : Sg w W rs) (hm : ∀ x ∈ gR ⟨t, q, y, o, u, s⟩ Q O V, x ∈ rs) (hq : ∀ q ∈ Q, q.2.n ≤ 1000 ∧ q.1.L.length = q.2.n) (he : yds Q = Y) (hs : Sml Y O V) : RdG W ⟨t, q, y, o, u, s⟩ Q O V := by
  obtain ⟨l1, l2, l3⟩ := gR_len hS hm
  simp only at l1 l2 l3
  have h1 := hs.o
  have h2 := hs.y
  have h3 := hs.u
  rw [← he, yds_len] at h2
  exact gR_rd hS hm (fun q hq' => ⟨by have := (hq q hq').1; omega, (hq q hq').2⟩) ⟨by simp only; omega, by simp only; omega, by simp only; omega⟩
theorem mk_pos (Q : List YQ) (a b : Nat) : ¬ mkE 1 Q + a + b < 0 := by
  have h := mkE_ge Q 1
  omega
theorem ans_mark {w W : World} {A Bs : List Rw} {t q s : Int} {y o u : Sv} {Y : List Yd} {Q : List YQ} {O V : List Int} (hS : Sg w W (A ++ (gR ⟨t, q, y, o, u, s⟩ Q O V ++ Bs))) (hq : ∀ q ∈ Q, q.2.n ≤ 1000 ∧ q.1.L.length = q.2.n) (he : yds Q = Y) (hs : Sml Y O V) {v : Int} (hv : mkE 1 Q + o.n + u.n = v) :
    Calls Try.prog 19 #[Gv.v ⟨t, q, y, o, u, s⟩, .int .i64 1] W fun e w' => e = .returned (.int .i64 v) ∧ Sg w w' (A ++ (gR ⟨t, q, y, o, u, s⟩ (mkY 1 Q) (mk1 (mkE 1 Q) o.n) (mk1 (mkE 1 Q + o.n) u.n) ++ Bs)) := by
  obtain ⟨l1, l2, l3⟩ := gR_len hS (h := ⟨t, q, y, o, u, s⟩) (QL := Q) (O := O) (V := V) (fun x hx => by simp [hx])
  simp only at l1 l2 l3
  have h1 := hs.o
  have h2 := hs.y
  have h3 := hs.u
  have h4 := ywS_small hs.ys
  rw [← he, yds_len] at h2
  have h5 := ywt_eq fun q hq' => (hq q hq').2
  rw [he] at h5
  rw [← he, yds_len, he] at h4
  exact markDeal_any ⟨t, q, y, o, u, s⟩ Q O V A Bs w W hS (by simp only; omega) (by simp only; omega) (by simp only; omega) (fun q hq' => by have := (hq q hq').1; omega) (by omega) hv
theorem ans_held {w W : World} {rs : List Rw} {t q s : Int} {y o u : Sv} {Y : List Yd} {Q : List YQ} {O V : List Int} (hS : Sg w W rs) (hm : ∀ x ∈ gR ⟨t, q, y, o, u, s⟩ (mkY 1 Q) (mk1 (mkE 1 Q) o.n) (mk1 (mkE 1 Q + o.n) u.n), x ∈ rs) (hb : o.n ≤ 1000 ∧ u.n ≤ 1000) (hq : ∀ q ∈ Q, q.2.n ≤ 1000 ∧ q.1.L.length = q.2.n) (he : yds Q = Y) (hs : Sml Y O V) {v : Int} (hv : mkE 1 Q + o.n + u.n = v) :
    Calls Try.prog 20 #[Gv.v ⟨t, q, y, o, u, s⟩, .int .i64 1] W fun e w' => e = .returned (.int .i64 v) ∧ Below W.heap.size W w' := by
  obtain ⟨l1, l2, l3⟩ := gR_len hS hm
  simp only at l1 l2 l3
  rw [mkY_len] at l1
  have h2 := hs.y
  have h4 := ywS_small hs.ys
  rw [← he, yds_len] at h2
  have h5 := ywt_eq fun q hq' => (hq q hq').2
  rw [he] at h5
  rw [← he, yds_len, he] at h4
  refine heldDeal_any ⟨t, q, y, o, u, s⟩ Q W ?_ ?_ ?_ l1.symm (by simp only; omega) (by simp only; omega) (by simp only; omega) (fun q hq' => by have := (hq q hq').1; omega) (by omega) hv
  · refine trY_rd hS (n := y.n) (c := y.c) (fun x hx => hm x (by unfold gR; simp only [List.mem_cons]; exact .inr (.inr hx))) (fun q hq' => (mkY_mem hq').1)
  · exact OwG.sl (hS.mem (K := kI) (v := .slice o.p o.n o.c) (L := mk1 (mkE 1 Q) o.n) (hm _ (by simp [gR])))
  · exact OwG.sl (hS.mem (K := kI) (v := .slice u.p u.n u.c) (L := mk1 (mkE 1 Q + o.n) u.n) (hm _ (by simp [gR])))
set_option maxRecDepth 100000 in
set_option maxHeartbeats 8000000 in
theorem exactOpened (ys : Sv) (QL : List YQ) (os : Sv) (O : List Int) (w : World) (l0 : QL.length = ys.n) (r0 : RdLY w ys.p QL) (m0 : SmY QL) (b0 : ys.n ≤ maxLen) (l1 : O.length = os.n) (r1 : SlG kI w os.p O) (b1 : os.n ≤ maxLen) :
    Calls Try.prog 4 #[.slice ys.p ys.n ys.c, .slice os.p os.n os.c] w fun e w' => e = .returned (.bool true) ∧ Below w.heap.size w w' := by
  obtain ⟨yp, yn, yc⟩ := ys
  obtain ⟨op, on, oc⟩ := os
  simp only at l0 r0 b0 l1 r1 b1 ⊢
  by_cases ho : on ≤ 1048576
  case neg =>
    have ho' : (1048576 : Int) < on := by omega
    clear l0 r0 m0 b0 l1 r1 b1
    go_enter Try.func4, Try.ntmps4
    go_wp2
    go_ret
    exact ⟨rfl, Below.refl _ _⟩
  have ho' : ¬ (1048576 : Int) < on := by omega
  by_cases hz : ysz QL ≤ 1048576
  case neg =>
    have HZ := Lib.hid (szReadyS_any yp yc QL yn l0 1048576 w r0 (by decide) (by decide) b0 m0 (v := -1) (by rw [if_pos (by omega)]))
    clear l0 r0 m0 b0 l1 r1 b1 hz
    go_enter Try.func4, Try.ntmps4
    go_wp2_with (go_at_call 10; refine HZ.out.mono ?_; rintro e w1 ⟨rfl, hb1⟩)
    go_ret
    exact ⟨rfl, hb1⟩
  have p1 : yn ≤ 1048576 := by have : QL.length ≤ ysz QL := by unfold ysz; omega
                               omega
  have p5 : ∀ q ∈ QL, q.2.n ≤ 1048576 := fun q hq => by
    have := ysz_mem hq
    rw [(r0.2 q hq).2] at this
    omega
  have hyw : ywS (yds QL) ≤ 1048576 := by have := ywS_ysz QL; omega
  obtain ⟨v, hv⟩ : ∃ v, (1048576 : Int) - (ysz QL : Int) = v := ⟨_, rfl⟩
  have hv0 : ¬ v < 0 := by omega
  have HZ := Lib.hid (szReadyS_any yp yc QL yn l0 1048576 w r0 (by decide) (by decide) b0 m0 (v := v) (by rw [if_neg (by omega)]; exact hv))
  have HTY := Lib.hid (fun W (hb : Below w.heap.size w W) => toReadyS_any yp yc QL yn l0 p1 p5 W (r0.step hb))
  have HTI := Lib.hid (fun W (hb : Below w.heap.size w W) => toInt64S_any op oc O on l1 ho W (r1.step hb))
  obtain ⟨⟨⟨t2, q2, Y2, O2, V2, s2⟩, rb⟩, hr⟩ : ∃ r, openR (yds QL) O = r := ⟨_, rfl⟩
  have hsm := sml_open hr
  dsimp only at hsm
  have HS : Hid (∀ (X W : World) (rs : List Rw) (g1 g2 : Nat) (Q : List YQ), Sg X W rs → (∀ r ∈ trY (.slice (some ⟨g1, 0, none⟩) yn yn) Q [], r ∈ rs) → rG kI (.slice (some ⟨g2, 0, none⟩) on on) O ∈ rs → (∀ q ∈ Q, q.2.n ≤ 1048576 ∧ q.1.L.length = q.2.n) → yds Q = yds QL → Calls Try.prog 11 #[.slice (some ⟨g1, 0, none⟩) yn yn, .slice (some ⟨g2, 0, none⟩) on on] W fun e w' => ∃ (y o u : Sv) (Q2 : List YQ), e = .returned (.tuple #[Gv.v ⟨t2, q2, y, o, u, s2⟩, .bool rb]) ∧ yds Q2 = Y2 ∧ (∀ q ∈ Q2, q.2.n ≤ 1000 ∧ q.1.L.length = q.2.n) ∧ Sg W w' (gR ⟨t2, q2, y, o, u, s2⟩ Q2 O2 V2)) := fun X W rs g1 g2 Q hS hm hmi hq he => by
      have h := sOpened_any Q O ⟨some ⟨g1, 0, none⟩, yn, yn⟩ ⟨some ⟨g2, 0, none⟩, on, on⟩ W (trY_rd hS hm (fun q hq' => (hq q hq').2)) (by rw [← yds_len, he, yds_len]; exact l0) (fun y hy => by have := (hq y hy).1; omega) (OwG.sl (hS.mem (K := kI) (v := .slice (some ⟨g2, 0, none⟩) on on) (L := O) hmi)) l1 ⟨p1, ho⟩ ⟨.inl ⟨_, rfl⟩, fun y hy => own_okv' (hS.mem (K := I.kR) (v := .slice y.2.p y.2.n y.2.c) (L := y.1.L) (hm _ (by unfold trY; rw [List.append_nil]; exact List.mem_cons_of_mem _ (List.mem_map.2 ⟨y, hy, rfl⟩))))⟩
      rw [he, hr] at h
      refine h.mono ?_
      rintro e w' ⟨v, rfl, y, o, u, Q2, rfl, h1, h2, h3⟩
      exact ⟨y, o, u, Q2, rfl, h1, h2, h3⟩
  have HI : Hid (∀ (X W : World) (rs : List Rw) (g1 g2 : Nat) (Q : List YQ), Sg X W rs → (∀ r ∈ trY (.slice (some ⟨g1, 0, none⟩) yn yn) Q [], r ∈ rs) → rG kI (.slice (some ⟨g2, 0, none⟩) on on) O ∈ rs → (∀ q ∈ Q, q.2.n ≤ 1048576 ∧ q.1.L.length = q.2.n) → yds Q = yds QL → Calls Try.prog 14 #[.slice (some ⟨g1, 0, none⟩) yn yn, .slice (some ⟨g2, 0, none⟩) on on] W fun e w' => ∃ (y o u : Sv) (Q2 : List YQ), e = .returned (.tuple #[Gv.v ⟨t2, q2, y, o, u, s2⟩, .bool rb]) ∧ yds Q2 = Y2 ∧ (∀ q ∈ Q2, q.2.n ≤ 1000 ∧ q.1.L.length = q.2.n) ∧ Sg W w' (gR ⟨t2, q2, y, o, u, s2⟩ Q2 O2 V2)) := fun X W rs g1 g2 Q hS hm hmi hq he => by
      have h := iOpened_any Q O ⟨some ⟨g1, 0, none⟩, yn, yn⟩ ⟨some ⟨g2, 0, none⟩, on, on⟩ W (trY_rd hS hm (fun q hq' => (hq q hq').2)) (by rw [← yds_len, he, yds_len]; exact l0) (fun y hy => by have := (hq y hy).1; omega) (OwG.sl (hS.mem (K := kI) (v := .slice (some ⟨g2, 0, none⟩) on on) (L := O) hmi)) l1 ⟨p1, ho⟩ ⟨.inl ⟨_, rfl⟩, fun y hy => own_okv' (hS.mem (K := I.kR) (v := .slice y.2.p y.2.n y.2.c) (L := y.1.L) (hm _ (by unfold trY; rw [List.append_nil]; exact List.mem_cons_of_mem _ (List.mem_map.2 ⟨y, hy, rfl⟩))))⟩
      rw [he, hr] at h
      refine h.mono ?_
      rintro e w' ⟨v, rfl, y, o, u, Q2, rfl, h1, h2, h3⟩
      exact ⟨y, o, u, Q2, rfl, h1, h2, h3⟩
  have HEY : Hid (∀ (X W : World) (rs : List Rw) (g1 g2 : Nat) (P Q : List YQ), Sg X W rs → (∀ r ∈ trY (.slice (some ⟨g1, 0, none⟩) yn yn) P [], r ∈ rs) → (∀ r ∈ trY (.slice (some ⟨g2, 0, none⟩) yn yn) Q [], r ∈ rs) → (∀ q ∈ P, q.2.n ≤ 1048576 ∧ q.1.L.length = q.2.n) → (∀ q ∈ Q, q.2.n ≤ 1048576 ∧ q.1.L.length = q.2.n) → yds P = yds QL → yds Q = yds QL → Calls Try.prog 15 #[.slice (some ⟨g1, 0, none⟩) yn yn, .slice (some ⟨g2, 0, none⟩) yn yn] W fun e w' => e = .returned (.bool true) ∧ Below W.heap.size W w') := fun X W rs g1 g2 P Q hS h1 h2 q1 q2 e1 e2 => eqReadyS_same _ _ _ _ P Q yn (by rw [← yds_len, e1, yds_len]; exact l0) (e1.trans e2.symm) (fun y hy => (q1 y hy).1) W (trY_rd hS h1 fun q hq => (q1 q hq).2) (trY_rd hS h2 fun q hq => (q2 q hq).2) (by omega)
  have HEI : Hid (∀ (X W : World) (rs : List Rw) (g1 g2 : Nat), Sg X W rs → rG kI (.slice (some ⟨g1, 0, none⟩) on on) O ∈ rs → rG kI (.slice (some ⟨g2, 0, none⟩) on on) O ∈ rs → Calls Try.prog 16 #[.slice (some ⟨g1, 0, none⟩) on on, .slice (some ⟨g2, 0, none⟩) on on] W fun e w' => e = .returned (.bool true) ∧ Below W.heap.size W w') := fun X W rs g1 g2 hS h1 h2 => eqInt64S_same _ _ _ _ O on l1 W (OwG.sl (hS.mem (K := kI) (v := .slice (some ⟨g1, 0, none⟩) on on) (L := O) h1)) (OwG.sl (hS.mem (K := kI) (v := .slice (some ⟨g2, 0, none⟩) on on) (L := O) h2)) (by omega)
  have HE2 : Hid (∀ (X W : World) (rs : List Rw) (ay ao au by_ bo bu : Sv) (A B : List YQ), Sg X W rs → (∀ r ∈ gR ⟨t2, q2, ay, ao, au, s2⟩ A O2 V2, r ∈ rs) → (∀ r ∈ gR ⟨t2, q2, by_, bo, bu, s2⟩ B O2 V2, r ∈ rs) → (∀ q ∈ A, q.2.n ≤ 1000 ∧ q.1.L.length = q.2.n) → (∀ q ∈ B, q.2.n ≤ 1000 ∧ q.1.L.length = q.2.n) → yds A = Y2 → yds B = Y2 → Calls Try.prog 9 #[Gv.v ⟨t2, q2, ay, ao, au, s2⟩, Gv.v ⟨t2, q2, by_, bo, bu, s2⟩] W fun e w' => e = .returned (.bool true) ∧ Below W.heap.size W w') := fun X W rs ay ao au by_ bo bu A B hS ha hb qa qb ea eb => eqDeal_same _ _ A B O2 V2 W (ans_rd hS ha qa ea hsm) (ans_rd hS hb qb eb hsm) (ea.trans eb.symm) rfl rfl rfl (fun y hy => by have := (qa y hy).1; omega)
  have HMY : Hid (∀ (X W : World) (A Bs : List Rw) (g1 : Nat) (Q : List YQ), Sg X W (A ++ (trY (.slice (some ⟨g1, 0, none⟩) yn yn) Q [] ++ Bs)) → (∀ q ∈ Q, q.2.n ≤ 1048576 ∧ q.1.L.length = q.2.n) → yds Q = yds QL → Calls Try.prog 17 #[.slice (some ⟨g1, 0, none⟩) yn yn, .int .i64 1] W fun e w' => ∃ v : Int, e = .returned (.int .i64 v) ∧ (0 ≤ v ∧ v ≤ 10000000) ∧ Sg X w' (A ++ Bs)) := fun X W A Bs g1 Q hS hq he => by
    have h5 := ywt_eq fun q hq' => (hq q hq').2
    rw [he] at h5
    have h6 := mkE_ge Q 1
    have h7 := mkE_le Q 1
    refine (markReadyS_any (some ⟨g1, 0, none⟩) yn yn 1 Q A Bs X W hS (by rw [← yds_len, he, yds_len]; exact l0) p1 (fun q hq' => (hq q hq').1) (by decide) (by omega)).mono ?_
    rintro e w' ⟨rfl, h1⟩
    exact ⟨_, rfl, ⟨by omega, by omega⟩, h1.sub ((List.sublist_append_right _ _).append_left A)⟩
  have HMI : Hid (∀ (X W : World) (A Bs : List Rw) (g1 : Nat) (z : Int), Sg X W (A ++ rG kI (.slice (some ⟨g1, 0, none⟩) on on) O :: Bs) → (0 ≤ z ∧ z ≤ 10000000) → Calls Try.prog 18 #[.slice (some ⟨g1, 0, none⟩) on on, .int .i64 z] W fun e w' => ∃ v : Int, e = .returned (.int .i64 v) ∧ ¬ v < 0 ∧ Sg X w' (A ++ Bs)) := fun X W A Bs g1 z hS hz => by
    refine (markInt64S_any (some ⟨g1, 0, none⟩) on on z O A Bs X W hS (by omega) hz.1 (by omega)).mono ?_
    rintro e w' ⟨rfl, h1⟩
    exact ⟨_, rfl, by omega, h1.sub ((List.sublist_cons_self _ _).append_left A)⟩
  have HM2 : Hid (∀ (X W : World) (A Bs : List Rw) (y o u : Sv) (Q : List YQ) (v : Int), Sg X W (A ++ (gR ⟨t2, q2, y, o, u, s2⟩ Q O2 V2 ++ Bs)) → (∀ q ∈ Q, q.2.n ≤ 1000 ∧ q.1.L.length = q.2.n) → yds Q = Y2 → mkE 1 Q + o.n + u.n = v → Calls Try.prog 19 #[Gv.v ⟨t2, q2, y, o, u, s2⟩, .int .i64 1] W fun e w' => e = .returned (.int .i64 v) ∧ Sg X w' (A ++ (gR ⟨t2, q2, y, o, u, s2⟩ (mkY 1 Q) (mk1 (mkE 1 Q) o.n) (mk1 (mkE 1 Q + o.n) u.n) ++ Bs))) := fun X W A Bs y o u Q v hS hq he hv => ans_mark hS hq he hsm hv
  have HH : Hid (∀ (X W : World) (rs : List Rw) (y o u : Sv) (Q : List YQ) (v : Int), Sg X W rs → (∀ x ∈ gR ⟨t2, q2, y, o, u, s2⟩ (mkY 1 Q) (mk1 (mkE 1 Q) o.n) (mk1 (mkE 1 Q + o.n) u.n), x ∈ rs) → (o.n ≤ 1000 ∧ u.n ≤ 1000) → (∀ q ∈ Q, q.2.n ≤ 1000 ∧ q.1.L.length = q.2.n) → yds Q = Y2 → mkE 1 Q + o.n + u.n = v → Calls Try.prog 20 #[Gv.v ⟨t2, q2, y, o, u, s2⟩, .int .i64 1] W fun e w' => e = .returned (.int .i64 v) ∧ Below W.heap.size W w') := fun X W rs y o u Q v hS hm hb hq he hv => ans_held hS hm hb hq he hsm hv
  have HB : Hid (O2.length ≤ 1000 ∧ V2.length ≤ 1000) := ⟨hsm.o, hsm.u⟩
  have hx := Sg.nil w
  clear l0 r0 m0 b0 l1 r1 b1 hz hv hr hsm hyw p5
  go_enter Try.func4, Try.ntmps4
  go_upto_region 7 with (go_at_call 10; refine HZ.out.mono ?_; rintro e w1 ⟨rfl, hb1⟩; replace hx := hx.step hb1)
  go_upto_region 8 with (first
    | (go_at_call 12; refine (HTY.out _ hx.bel).mono ?_; rintro e w2 ⟨a1, Q1, rfl, he1, hm1, hg1⟩; replace hx := hx.addL hg1)
    | (go_at_call 13; refine (HTI.out _ hx.bel).mono ?_; rintro e w3 ⟨a2, rfl, hg2⟩; replace hx := hx.addL hg2)
    | (go_at_call 11; refine (HS.out _ _ _ a1 a2 Q1 hx (fun r hr => by simp [hr]) (by simp) hm1 he1).mono ?_; rintro e w4 ⟨wy, wo, wu, Qw, rfl, hew, hqw, hg3⟩; replace hx : Sg w w4 (gR ⟨t2, q2, wy, wo, wu, s2⟩ Qw O2 V2) := (hx.addL hg3).sub (List.sublist_append_left ..)))
  replace hx : Sg w (w4.alloc (.cells #[.int .i64 t2, .int .i64 q2, .slice wy.p wy.n wy.c, .slice wo.p wo.n wo.c, .slice wu.p wu.n wu.c, .int .i64 s2] 30)) (rG kG (.slice (some ⟨w4.heap.size, 0, none⟩) 1 1) [⟨t2, q2, wy, wo, wu, s2⟩] :: gR ⟨t2, q2, wy, wo, wu, s2⟩ Qw O2 V2) := hx.lit kG [⟨t2, q2, wy, wo, wu, s2⟩] 1 rfl (by decide) #[.int .i64 t2, .int .i64 q2, .slice wy.p wy.n wy.c, .slice wo.p wo.n wo.c, .slice wu.p wu.n wu.c, .int .i64 s2] rfl
  go_upto_region 9 with (go_at_call 12; refine (HTY.out _ hx.bel).mono ?_; rintro e w5 ⟨c1, Q2, rfl, he2, hm2, hg4⟩; replace hx := hx.addL hg4)
  go_upto_region 10 with (go_at_call 13; refine (HTI.out _ hx.bel).mono ?_; rintro e w6 ⟨c2, rfl, hg5⟩; replace hx := hx.addL hg5)
  go_upto_region 11 with (go_at_call 14; refine (HI.out _ _ _ c1 c2 Q2 hx (fun r hr => by simp [hr]) (by simp) hm2 he2).mono ?_; rintro e w7 ⟨gy, go, gu, Qg, rfl, heg, hqg, hg6⟩; replace hx := hx.addL hg6)
  replace hx : Sg w (w7.alloc (.cells #[.int .i64 t2, .int .i64 q2, .slice gy.p gy.n gy.c, .slice go.p go.n go.c, .slice gu.p gu.n gu.c, .int .i64 s2] 30)) (rG kG (.slice (some ⟨w7.heap.size, 0, none⟩) 1 1) [⟨t2, q2, gy, go, gu, s2⟩] :: (gR ⟨t2, q2, gy, go, gu, s2⟩ Qg O2 V2 ++ (rG kI (.slice (some ⟨c2, 0, none⟩) on on) O :: (trY (.slice (some ⟨c1, 0, none⟩) yn yn) Q2 [] ++ (rG kG (.slice (some ⟨w4.heap.size, 0, none⟩) 1 1) [⟨t2, q2, wy, wo, wu, s2⟩] :: gR ⟨t2, q2, wy, wo, wu, s2⟩ Qw O2 V2))))) := hx.lit kG [⟨t2, q2, gy, go, gu, s2⟩] 1 rfl (by decide) #[.int .i64 t2, .int .i64 q2, .slice gy.p gy.n gy.c, .slice go.p go.n go.c, .slice gu.p gu.n gu.c, .int .i64 s2] rfl
  obtain ⟨y0, y1, y2, y3, y4, y5, yf, yg⟩ := g6 hx (K := kG) (g := w7.heap.size) (n := 1) (q := ⟨t2, q2, gy, go, gu, s2⟩) (by simp) rfl; dsimp only at y0 y1 y2 y3 y4 y5
  obtain ⟨z0, z1, z2, z3, z4, z5, zf, zg⟩ := g6 hx (K := kG) (g := w4.heap.size) (n := 1) (q := ⟨t2, q2, wy, wo, wu, s2⟩) (by simp) rfl; dsimp only at z0 z1 z2 z3 z4 z5
  go_upto_region 13 with (go_at_call 9; refine (HE2.out _ _ _ gy go gu wy wo wu Qg Qw hx (fun r hr => by simp [hr]) (fun r hr => by simp [hr]) hqg hqw heg hew).mono ?_; rintro e w8 ⟨rfl, hb8⟩; replace hx := hx.step hb8; clear y0 y1 y2 y3 y4 y5 yf yg; clear z0 z1 z2 z3 z4 z5 zf zg)
  generalize w4.heap.size = k4 at *
  generalize w7.heap.size = k6 at *
  go_upto_region 15 with (first
    | (go_at_call 12; refine (HTY.out _ hx.bel).mono ?_; rintro e w9 ⟨d1, Q3, rfl, he3, hm3, hg7⟩; replace hx := hx.addL hg7; clear hg7)
    | (go_at_call 15; refine (HEY.out _ _ _ c1 d1 Q2 Q3 hx (fun r hr => by simp [hr]) (fun r hr => by simp [hr]) hm2 hm3 he2 he3).mono ?_; rintro e w10 ⟨rfl, hb10⟩; replace hx := (hx.step hb10).sub (List.sublist_append_right ..); clear hb10))
  go_upto_region 17 with (first
    | (go_at_call 13; refine (HTI.out _ hx.bel).mono ?_; rintro e w11 ⟨d2, rfl, hg8⟩; replace hx := hx.addL hg8; clear hg8)
    | (go_at_call 16; refine (HEI.out _ _ _ c2 d2 hx (by simp) (by simp)).mono ?_; rintro e w12 ⟨rfl, hb12⟩; replace hx := (hx.step hb12).sub (List.sublist_append_right ..); clear hb12))
  have hxm : Sg w w12 ((rG kG (.slice (some ⟨k6, 0, none⟩) 1 1) [⟨t2, q2, gy, go, gu, s2⟩] :: (gR ⟨t2, q2, gy, go, gu, s2⟩ Qg O2 V2 ++ [rG kI (.slice (some ⟨c2, 0, none⟩) on on) O])) ++ (trY (.slice (some ⟨c1, 0, none⟩) yn yn) Q2 [] ++ (rG kG (.slice (some ⟨k4, 0, none⟩) 1 1) [⟨t2, q2, wy, wo, wu, s2⟩] :: gR ⟨t2, q2, wy, wo, wu, s2⟩ Qw O2 V2))) := by simpa using hx
  clear hx
  go_upto_region 19 with (go_at_call 17; refine (HMY.out _ _ _ _ c1 Q2 hxm hm2 he2).mono ?_; rintro e w13 ⟨z1, rfl, hz1, hx9⟩)
  have hxi : Sg w w13 ((rG kG (.slice (some ⟨k6, 0, none⟩) 1 1) [⟨t2, q2, gy, go, gu, s2⟩] :: gR ⟨t2, q2, gy, go, gu, s2⟩ Qg O2 V2) ++ rG kI (.slice (some ⟨c2, 0, none⟩) on on) O :: (rG kG (.slice (some ⟨k4, 0, none⟩) 1 1) [⟨t2, q2, wy, wo, wu, s2⟩] :: gR ⟨t2, q2, wy, wo, wu, s2⟩ Qw O2 V2)) := by simpa using hx9
  clear hxm hx9
  go_upto_region 20 with (go_at_call 18; refine (HMI.out _ _ _ _ c2 z1 hxi hz1).mono ?_; rintro e w14 ⟨z2, rfl, hz2, hx9⟩)
  have hx : Sg w w14 (rG kG (.slice (some ⟨k6, 0, none⟩) 1 1) [⟨t2, q2, gy, go, gu, s2⟩] :: (gR ⟨t2, q2, gy, go, gu, s2⟩ Qg O2 V2 ++ (rG kG (.slice (some ⟨k4, 0, none⟩) 1 1) [⟨t2, q2, wy, wo, wu, s2⟩] :: gR ⟨t2, q2, wy, wo, wu, s2⟩ Qw O2 V2))) := by simpa using hx9
  clear hxi hx9
  obtain ⟨y0, y1, y2, y3, y4, y5, yf, yg⟩ := g6 hx (K := kG) (g := k6) (n := 1) (q := ⟨t2, q2, gy, go, gu, s2⟩) (by simp) rfl; dsimp only at y0 y1 y2 y3 y4 y5
  obtain ⟨z0, z1, z2, z3, z4, z5, zf, zg⟩ := g6 hx (K := kG) (g := k4) (n := 1) (q := ⟨t2, q2, wy, wo, wu, s2⟩) (by simp) rfl; dsimp only at z0 z1 z2 z3 z4 z5
  go_upto_region 23 with (go_at_call 9; refine (HE2.out _ _ _ gy go gu wy wo wu Qg Qw hx (fun r hr => by simp [hr]) (fun r hr => by simp [hr]) hqg hqw heg hew).mono ?_; rintro e w15 ⟨rfl, hb15⟩; replace hx := hx.step hb15; clear y0 y1 y2 y3 y4 y5 yf yg; clear z0 z1 z2 z3 z4 z5 zf zg; obtain ⟨y0, y1, y2, y3, y4, y5, yf, yg⟩ := g6 hx (K := kG) (g := k6) (n := 1) (q := ⟨t2, q2, gy, go, gu, s2⟩) (by simp) rfl; dsimp only at y0 y1 y2 y3 y4 y5)
  obtain ⟨vm, hvm⟩ : ∃ z : Int, mkE 1 Qg + go.n + gu.n = z := ⟨_, rfl⟩
  have hvp : ¬ vm < 0 := by rw [← hvm]; exact mk_pos _ _ _
  have hgl : go.n ≤ 1000 ∧ gu.n ≤ 1000 := by
    obtain ⟨l1, l2, l3⟩ := gR_len hx (h := ⟨t2, q2, gy, go, gu, s2⟩) (QL := Qg) (O := O2) (V := V2) (fun r hr => by simp [hr])
    have := HB.out
    simp only at l2 l3
    omega
  have hxm : Sg w w15 ([rG kG (.slice (some ⟨k6, 0, none⟩) 1 1) [⟨t2, q2, gy, go, gu, s2⟩]] ++ (gR ⟨t2, q2, gy, go, gu, s2⟩ Qg O2 V2 ++ (rG kG (.slice (some ⟨k4, 0, none⟩) 1 1) [⟨t2, q2, wy, wo, wu, s2⟩] :: gR ⟨t2, q2, wy, wo, wu, s2⟩ Qw O2 V2))) := hx
  clear hx
  go_upto_region 25 with (go_at_call 19; refine (HM2.out _ _ _ _ gy go gu Qg vm hxm hqg heg hvm).mono ?_; rintro e w16 ⟨rfl, hx11⟩; clear y0 y1 y2 y3 y4 y5 yf yg)
  have hx : Sg w w16 (rG kG (.slice (some ⟨k6, 0, none⟩) 1 1) [⟨t2, q2, gy, go, gu, s2⟩] :: (gR ⟨t2, q2, gy, go, gu, s2⟩ (mkY 1 Qg) (mk1 (mkE 1 Qg) go.n) (mk1 (mkE 1 Qg + go.n) gu.n) ++ (rG kG (.slice (some ⟨k4, 0, none⟩) 1 1) [⟨t2, q2, wy, wo, wu, s2⟩] :: gR ⟨t2, q2, wy, wo, wu, s2⟩ Qw O2 V2))) := hx11
  clear hxm hx11
  obtain ⟨y0, y1, y2, y3, y4, y5, yf, yg⟩ := g6 hx (K := kG) (g := k6) (n := 1) (q := ⟨t2, q2, gy, go, gu, s2⟩) (by simp) rfl; dsimp only at y0 y1 y2 y3 y4 y5
  go_upto_region 30 with (go_at_call 20; refine (HH.out _ _ _ gy go gu Qg vm hx (fun r hr => by simp [hr]) hgl hqg heg hvm).mono ?_; rintro e w17 ⟨rfl, hb17⟩; replace hx := hx.step hb17; clear y0 y1 y2 y3 y4 y5 yf yg)
  go_upto_region 31 with (first
    | (go_at_call 12; refine (HTY.out _ hx.bel).mono ?_; rintro e w18 ⟨d1, Q4, rfl, he4, hm4, hg9⟩; replace hx := hx.addL hg9; clear hg9)
    | (go_at_call 13; refine (HTI.out _ hx.bel).mono ?_; rintro e w19 ⟨d2, rfl, hg8⟩; replace hx := hx.addL hg8; clear hg8)
    | (go_at_call 14; refine (HI.out _ _ _ d1 d2 Q4 hx (fun r hr => by simp [hr]) (by simp) hm4 he4).mono ?_; rintro e w20 ⟨hy, ho, hu, Qh, rfl, heh, hqh, hg5⟩; replace hx := hx.addL hg5; clear hg5))
  replace hx : Sg w (w20.alloc (.cells #[.int .i64 t2, .int .i64 q2, .slice hy.p hy.n hy.c, .slice ho.p ho.n ho.c, .slice hu.p hu.n hu.c, .int .i64 s2] 30)) (rG kG (.slice (some ⟨w20.heap.size, 0, none⟩) 1 1) [⟨t2, q2, hy, ho, hu, s2⟩] :: (gR ⟨t2, q2, hy, ho, hu, s2⟩ Qh O2 V2 ++ (rG kI (.slice (some ⟨d2, 0, none⟩) on on) O :: (trY (.slice (some ⟨d1, 0, none⟩) yn yn) Q4 [] ++ (rG kG (.slice (some ⟨k6, 0, none⟩) 1 1) [⟨t2, q2, gy, go, gu, s2⟩] :: (gR ⟨t2, q2, gy, go, gu, s2⟩ (mkY 1 Qg) (mk1 (mkE 1 Qg) go.n) (mk1 (mkE 1 Qg + go.n) gu.n) ++ (rG kG (.slice (some ⟨k4, 0, none⟩) 1 1) [⟨t2, q2, wy, wo, wu, s2⟩] :: gR ⟨t2, q2, wy, wo, wu, s2⟩ Qw O2 V2))))))) := hx.lit kG [⟨t2, q2, hy, ho, hu, s2⟩] 1 rfl (by decide) #[.int .i64 t2, .int .i64 q2, .slice hy.p hy.n hy.c, .slice ho.p ho.n ho.c, .slice hu.p hu.n hu.c, .int .i64 s2] rfl
  obtain ⟨y0, y1, y2, y3, y4, y5, yf, yg⟩ := g6 hx (K := kG) (g := w20.heap.size) (n := 1) (q := ⟨t2, q2, hy, ho, hu, s2⟩) (by simp) rfl; dsimp only at y0 y1 y2 y3 y4 y5
  obtain ⟨z0, z1, z2, z3, z4, z5, zf, zg⟩ := g6 hx (K := kG) (g := k4) (n := 1) (q := ⟨t2, q2, wy, wo, wu, s2⟩) (by simp) rfl; dsimp only at z0 z1 z2 z3 z4 z5
  go_upto_region 34 with (go_at_call 9; refine (HE2.out _ _ _ hy ho hu wy wo wu Qh Qw hx (fun r hr => by simp [hr]) (fun r hr => by simp [hr]) hqh hqw heh hew).mono ?_; rintro e w21 ⟨rfl, hb21⟩; replace hx := hx.step hb21; clear y0 y1 y2 y3 y4 y5 yf yg; clear z0 z1 z2 z3 z4 z5 zf zg)
  obtain ⟨y0, y1, y2, y3, y4, y5, yf, yg⟩ := g6 hx (K := kG) (g := k6) (n := 1) (q := ⟨t2, q2, gy, go, gu, s2⟩) (by simp) rfl; dsimp only at y0 y1 y2 y3 y4 y5
  go_wp2_with (go_at_call 20; refine (HH.out _ _ _ gy go gu Qg vm hx (fun r hr => by simp [hr]) hgl hqg heg hvm).mono ?_; rintro e w22 ⟨rfl, hb22⟩; replace hx := hx.step hb22; clear y0 y1 y2 y3 y4 y5 yf yg)
  go_ret
  exact ⟨rfl, hx.bel⟩
end Go.Proofs.Ytobbankkfplooaa.K.G
