/-
  A Shard in memory; whether it is right, the program's look and the spec's.
-/
import Derived.Test.YtppoafggiejdgaaGreatKY2
import Derived.Test.YtppoafggiejdgaaGreatKIB3
import Derived.Test.YtppoafggiejdgaaGreatKB3
namespace Go.Proofs.YtppoafggiejdgaaGreat.K.Y
open Go.Shelf Go.RowKit Go.Joins
attribute [local go_sem] Oper.semAt_some

/-- A Shard's cells. -/
structure Hv where
  r : Sv
  y : Sv
  o : Sv
  g : ByteArray
  s : Int
abbrev Hv.v (h : Hv) : Value := .agg #[.slice h.r.p h.r.n h.r.c, .slice h.y.p h.y.n h.y.c, .slice h.o.p h.o.n h.o.c, .string h.g, .int .i64 h.s]
def kSh : Kd Hv := ⟨31, 5, fun h => [.slice h.r.p h.r.n h.r.c, .slice h.y.p h.y.n h.y.c, .slice h.o.p h.o.n h.o.c, .string h.g, .int .i64 h.s], fun _ => rfl⟩
def kLSh : Kd Hv := ⟨26, 5, fun h => [.slice h.r.p h.r.n h.r.c, .slice h.y.p h.y.n h.y.c, .slice h.o.p h.o.n h.o.c, .string h.g, .int .i64 h.s], fun _ => rfl⟩
def zhv : Hv := ⟨⟨none, 0, 0⟩, ⟨none, 0, 0⟩, ⟨none, 0, 0⟩, ByteArray.empty, 0⟩
theorem sh5 {w W : World} {rs : List Rw} (h : Sg w W rs) {K : Kd Hv} {g n : Nat} {q : Hv} (hm : rG K (.slice (some ⟨g, 0, none⟩) 1 n) [q] ∈ rs) (hv : K.vs q = [.slice q.r.p q.r.n q.r.c, .slice q.y.p q.y.n q.y.c, .slice q.o.p q.o.n q.o.c, .string q.g, .int .i64 q.s]) :
    W.cell? ⟨g, 0, none⟩ = some (.slice q.r.p q.r.n q.r.c) ∧ W.cell? ⟨g, 1, none⟩ = some (.slice q.y.p q.y.n q.y.c) ∧ W.cell? ⟨g, 2, none⟩ = some (.slice q.o.p q.o.n q.o.c) ∧ W.cell? ⟨g, 3, none⟩ = some (.string q.g) ∧ W.cell? ⟨g, 4, none⟩ = some (.int .i64 q.s) ∧ (∀ o, W.frozen? ⟨g, o, none⟩ = false) ∧ g < W.heap.size := by
  have ho := h.mem hm
  have hC := OwG.cs ho
  have f := fun i u hu => hC.at (k := 0) (a := q) rfl (i := i) (u := u) hu
  simp only [Nat.zero_mul, Nat.zero_add, hv] at f
  exact ⟨f 0 _ rfl, f 1 _ rfl, f 2 _ rfl, f 3 _ rfl, f 4 _ rfl, OwG.fz ho, hC.1⟩
/-- A Shard as one reads it. -/
structure RdS (W : World) (h : Hv) (R : List Rc) (QL : List YQ) (O : List Int) : Prop where
  r : SlG kR W h.r.p R
  rn : R.length = h.r.n
  y : RdY W h.y.p QL
  yn : QL.length = h.y.n
  o : SlG kI W h.o.p O
  on : O.length = h.o.n
  oi : ∀ z ∈ O, i64B z
  ys : ∀ y ∈ QL, y.2.n ≤ 10000000
  b : h.r.n ≤ 10000000 ∧ h.y.n ≤ 10000000 ∧ h.o.n ≤ 10000000 ∧ h.g.size ≤ 10000000
theorem RdS.step {w w' : World} {h : Hv} {R : List Rc} {QL : List YQ} {O : List Int} (H : RdS w h R QL O) (hb : Below w.heap.size w w') : RdS w' h R QL O :=
  ⟨H.r.step hb, H.rn, H.y.step hb, H.yn, H.o.step hb, H.on, H.oi, H.ys, H.b⟩
theorem hasRoom_v {h : Hv} {v : Bool} (hv : roomB h.y.n h.o.n h.g.size = v) (w : World) : Calls Tryz.prog 40 #[h.v] w fun e w' => e = .returned (.bool v) ∧ Below w.heap.size w w' := by
  obtain ⟨⟨rp, rn, rc⟩, ⟨yp, yn, yc⟩, ⟨op, on, oc⟩, g, s⟩ := h
  simp only at hv
  unfold roomB at hv
  by_cases h1 : yn ≤ 100
  · have i1 : (yn : Int) ≤ 100 := by omega
    rw [decide_eq_true h1, Bool.true_and] at hv
    by_cases h2 : on ≤ 400
    · have i2 : (on : Int) ≤ 400 := by omega
      rw [decide_eq_true h2, Bool.true_and] at hv
      by_cases h3 : g.size ≤ 100000
      · have i3 : (g.size : Int) ≤ 100000 := by omega
        rw [decide_eq_true h3] at hv
        subst hv
        go_enter Tryz.func40, Tryz.ntmps40
        go_wp2
        go_ret
        exact ⟨rfl, below_alloc1 _ _⟩
      · have i3 : ¬ (g.size : Int) ≤ 100000 := by omega
        rw [decide_eq_false h3] at hv
        subst hv
        go_enter Tryz.func40, Tryz.ntmps40
        go_wp2
        go_ret
        exact ⟨rfl, below_alloc1 _ _⟩
    · have i2 : ¬ (on : Int) ≤ 400 := by omega
      rw [decide_eq_false h2, Bool.false_and] at hv
      subst hv
      go_enter Tryz.func40, Tryz.ntmps40
      go_wp2
      go_ret
      exact ⟨rfl, below_alloc1 _ _⟩
  · have i1 : ¬ (yn : Int) ≤ 100 := by omega
    rw [decide_eq_false h1, Bool.false_and] at hv
    subst hv
    go_enter Tryz.func40, Tryz.ntmps40
    go_wp2
    go_ret
    exact ⟨rfl, below_alloc1 _ _⟩
set_option maxRecDepth 100000 in
set_option maxHeartbeats 4000000 in
theorem iShardOk_v {h : Hv} {R : List Rc} {QL : List YQ} {O : List Int} {v : Bool} (hv : shB R (yds QL) O h.g.size h.s = v) (w : World) (H : RdS w h R QL O) :
    Calls Tryz.prog 19 #[h.v] w fun e w' => e = .returned (.bool v) ∧ Below w.heap.size w w' := by
  have HR := Lib.hid (fun W (hb : Below w.heap.size w W) v hv => iOk_v (L := R) (v := v) hv h.r.p h.r.c h.r.n H.rn W (H.r.step hb) H.b.1)
  have HY := Lib.hid (fun (h1 : h.y.n ≤ 101) W (hb : Below w.heap.size w W) v hv => areReadies_v (QL := QL) (v := v) hv h.y.p h.y.c h.y.n H.yn h1 H.ys W (H.y.step hb))
  have HO := Lib.hid (fun W (hb : Below w.heap.size w W) v hv => areNumbers_v (L := O) (v := v) hv h.o.p h.o.c h.o.n H.on H.oi W (H.o.step hb) H.b.2.2.1)
  have HL : Hid ((yds QL).length = h.y.n ∧ O.length = h.o.n) := ⟨by rw [yds_len, H.yn], H.on⟩
  have hgb := H.b.2.2.2
  unfold shB at hv
  rw [HL.out.1, HL.out.2] at hv
  clear H
  obtain ⟨⟨rp, rn, rc⟩, ⟨yp, yn, yc⟩, ⟨op, on, oc⟩, g, s⟩ := h
  simp only at HR HY HO HL hv hgb
  have hlit := (Sg.nil w).lit kSh [⟨⟨rp, rn, rc⟩, ⟨yp, yn, yc⟩, ⟨op, on, oc⟩, g, s⟩] 1 rfl (by decide) #[.slice rp rn rc, .slice yp yn yc, .slice op on oc, .string g, .int .i64 s] rfl
  change Sg w (w.alloc (.cells #[.slice rp rn rc, .slice yp yn yc, .slice op on oc, .string g, .int .i64 s] 31)) _ at hlit
  have HC := Lib.hid (fun W (hb : Sg w W [rG kSh (.slice (some ⟨w.heap.size, 0, none⟩) 1 1) [⟨⟨rp, rn, rc⟩, ⟨yp, yn, yc⟩, ⟨op, on, oc⟩, g, s⟩]]) => sh5 hb (K := kSh) (g := w.heap.size) (n := 1) (q := ⟨⟨rp, rn, rc⟩, ⟨yp, yn, yc⟩, ⟨op, on, oc⟩, g, s⟩) (by simp) rfl)
  have HM := Lib.hid (fun W v hv => hasRoom_v (h := ⟨⟨rp, rn, rc⟩, ⟨yp, yn, yc⟩, ⟨op, on, oc⟩, g, s⟩) (v := v) hv W)
  simp only at HC HM
  cases h1 : roomB yn on g.size
  · rw [h1, Bool.false_and] at hv
    subst hv
    go_enter Tryz.func19, Tryz.ntmps19
    go_wp2_with (go_at_call 40; refine (HM.out _ _ h1).mono ?_; rintro e w1 ⟨rfl, hb1⟩)
    go_ret
    exact ⟨rfl, bstep hlit.bel hb1 (Nat.le_refl _)⟩
  rw [h1, Bool.true_and] at hv
  have hyn : yn ≤ 101 := by unfold roomB at h1; simp only [Bool.and_eq_true, decide_eq_true_eq] at h1; omega
  by_cases h2 : 0 ≤ s
  case neg =>
    rw [decide_eq_false h2, Bool.false_and] at hv
    subst hv
    go_enter Tryz.func19, Tryz.ntmps19
    go_wp2_with (go_at_call 40; refine (HM.out _ _ h1).mono ?_; rintro e w1 ⟨rfl, hb1⟩; have hS1 := hlit.step hb1; obtain ⟨y0, y1, y2, y3, y4, _, _⟩ := HC.out _ hS1)
    go_ret
    exact ⟨rfl, bstep hlit.bel hb1 (Nat.le_refl _)⟩
  rw [decide_eq_true h2, Bool.true_and] at hv
  by_cases h3 : s ≤ (g.size : Int)
  case neg =>
    rw [decide_eq_false h3, Bool.false_and] at hv
    subst hv
    go_enter Tryz.func19, Tryz.ntmps19
    go_wp2_with (go_at_call 40; refine (HM.out _ _ h1).mono ?_; rintro e w1 ⟨rfl, hb1⟩; have hS1 := hlit.step hb1; obtain ⟨y0, y1, y2, y3, y4, _, _⟩ := HC.out _ hS1)
    go_ret
    exact ⟨rfl, bstep hlit.bel hb1 (Nat.le_refl _)⟩
  rw [decide_eq_true h3, Bool.true_and] at hv
  cases h4 : recsB R
  · rw [h4, Bool.false_and] at hv
    subst hv
    go_enter Tryz.func19, Tryz.ntmps19
    go_wp2_with (first
      | (go_at_call 40; refine (HM.out _ _ h1).mono ?_; rintro e w1 ⟨rfl, hb1⟩; have hS1 := hlit.step hb1; obtain ⟨y0, y1, y2, y3, y4, _, _⟩ := HC.out _ hS1)
      | (go_at_call 41; refine (HR.out _ hS1.bel _ h4).mono ?_; rintro e w2 ⟨rfl, hb2⟩))
    go_ret
    exact ⟨rfl, bstep hS1.bel hb2 (Nat.le_refl _)⟩
  rw [h4, Bool.true_and] at hv
  cases h5 : readyB (yds QL)
  · rw [h5, Bool.false_and] at hv
    subst hv
    go_enter Tryz.func19, Tryz.ntmps19
    go_wp2_with (first
      | (go_at_call 40; refine (HM.out _ _ h1).mono ?_; rintro e w1 ⟨rfl, hb1⟩; have hS1 := hlit.step hb1; obtain ⟨y0, y1, y2, y3, y4, _, _⟩ := HC.out _ hS1)
      | (go_at_call 41; refine (HR.out _ hS1.bel _ h4).mono ?_; rintro e w2 ⟨rfl, hb2⟩; have hS2 := hS1.step hb2; obtain ⟨x0, x1, x2, x3, x4, _, _⟩ := HC.out _ hS2)
      | (go_at_call 42; refine (HY.out hyn _ hS2.bel _ h5).mono ?_; rintro e w3 ⟨rfl, hb3⟩))
    go_ret
    exact ⟨rfl, bstep hS2.bel hb3 (Nat.le_refl _)⟩
  rw [h5, Bool.true_and] at hv
  go_enter Tryz.func19, Tryz.ntmps19
  go_wp2_with (first
      | (go_at_call 40; refine (HM.out _ _ h1).mono ?_; rintro e w1 ⟨rfl, hb1⟩; have hS1 := hlit.step hb1; obtain ⟨y0, y1, y2, y3, y4, _, _⟩ := HC.out _ hS1)
      | (go_at_call 41; refine (HR.out _ hS1.bel _ h4).mono ?_; rintro e w2 ⟨rfl, hb2⟩; have hS2 := hS1.step hb2; obtain ⟨x0, x1, x2, x3, x4, _, _⟩ := HC.out _ hS2)
      | (go_at_call 42; refine (HY.out hyn _ hS2.bel _ h5).mono ?_; rintro e w3 ⟨rfl, hb3⟩; have hS3 := hS2.step hb3; obtain ⟨z0, z1, z2, z3, z4, _, _⟩ := HC.out _ hS3)
      | (go_at_call 43; refine (HO.out _ hS3.bel _ hv).mono ?_; rintro e w4 ⟨rfl, hb4⟩))
  go_ret
  exact ⟨rfl, bstep hS3.bel hb4 (Nat.le_refl _)⟩
end Go.Proofs.YtppoafggiejdgaaGreat.K.Y
