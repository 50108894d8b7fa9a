/-
  Contracts of the drawing functions, second part: a rect drawn. What is drawn is not told: that the call answers a rect of four numbers, and that of what was there only the cursor turns.
-/
import Derived.Test.YtgpgmndjkcpaoaaW7
import Derived.Deep.Cut
import Derived.Deep.RegionHeld3
import Derived.Deep.DrawnRows
namespace Go.Proofs.Ytgpgmndjkcpaoaa
open Go.RowKit Go.Joins
attribute [local go_sem ↓] Go.wp_at_zero Go.wp_at_succ

theorem Cur.keep2 {w0 w1 w' : World} {g : Nat} {a : Option Addr} {len cap : Nat} {zs : List Int} (h : Cur w1 g a len cap zs) (h0 : Rd w0 g a len zs) (t : Turn g w0 w') (hb : w'.heap[g]? = w1.heap[g]?) (hs : g < w'.heap.size) : Cur w' g a len cap zs := by
  have hc : ∀ o, w'.cell? ⟨g, o, none⟩ = w1.cell? ⟨g, o, none⟩ := fun o => World.cell?_of_block (w := w1) hb
  have hf : ∀ o, w'.frozen? ⟨g, o, none⟩ = w1.frozen? ⟨g, o, none⟩ := fun o => World.frozen?_of_block (w := w1) hb
  obtain ⟨i, hi, h1⟩ := h.c1
  obtain ⟨k, h2⟩ := h.c2
  exact ⟨hs, h.hl, (hc 0).trans h.c0, ⟨i, hi, (hc 1).trans h1⟩, ⟨k, (hc 2).trans h2⟩, (hf 1).trans h.f1, (hf 2).trans h.f2, h0.turn t⟩
/-- One cell stored elsewhere. -/
theorem Cur.set {w0 w1 : World} {g b o : Nat} {a : Option Addr} {len cap : Nat} {zs : List Int} {v : Value} (h0 : Rd w0 g a len zs) (h : Turn g w0 w1 ∧ Cur w1 g a len cap zs) (hb : w0.heap.size ≤ b) (hn : b ≠ g) : Turn g w0 (w1.setCell ⟨b, o, none⟩ v) ∧ Cur (w1.setCell ⟨b, o, none⟩ v) g a len cap zs :=
  ⟨h.1.setNew hb v, h.2.keep2 h0 (h.1.setNew hb v) (Below.heap_setCell w1 ⟨b, o, none⟩ v g (Ne.symm hn)) (by simpa using h.2.hg)⟩
theorem Cur.set4 {w0 w1 : World} {g b : Nat} {a : Option Addr} {len cap : Nat} {zs : List Int} {v0 v1 v2 v3 : Value} (h0 : Rd w0 g a len zs) (h : Turn g w0 w1 ∧ Cur w1 g a len cap zs) (hb : w0.heap.size ≤ b) (hn : b ≠ g) :
    Turn g w0 ((((w1.setCell ⟨b, 0, none⟩ v0).setCell ⟨b, 1, none⟩ v1).setCell ⟨b, 2, none⟩ v2).setCell ⟨b, 3, none⟩ v3) ∧ Cur ((((w1.setCell ⟨b, 0, none⟩ v0).setCell ⟨b, 1, none⟩ v1).setCell ⟨b, 2, none⟩ v2).setCell ⟨b, 3, none⟩ v3) g a len cap zs :=
  Cur.set h0 (Cur.set h0 (Cur.set h0 (Cur.set h0 h hb hn) hb hn) hb hn) hb hn
theorem Cur.set2 {w0 w1 : World} {g b : Nat} {a : Option Addr} {len cap : Nat} {zs : List Int} {v0 v1 : Value} (h0 : Rd w0 g a len zs) (h : Turn g w0 w1 ∧ Cur w1 g a len cap zs) (hb : w0.heap.size ≤ b) (hn : b ≠ g) :
    Turn g w0 ((w1.setCell ⟨b, 0, none⟩ v0).setCell ⟨b, 1, none⟩ v1) ∧ Cur ((w1.setCell ⟨b, 0, none⟩ v0).setCell ⟨b, 1, none⟩ v1) g a len cap zs :=
  Cur.set h0 (Cur.set h0 h hb hn) hb hn
theorem Cur.al {w0 w1 : World} {g : Nat} {a : Option Addr} {len cap : Nat} {zs : List Int} (h : Turn g w0 w1 ∧ Cur w1 g a len cap zs) (o : Obj) : Turn g w0 (w1.alloc o) ∧ Cur (w1.alloc o) g a len cap zs := ⟨h.1.alloc o, h.2.alloc o⟩
theorem Cur.dr {w0 w1 : World} {g : Nat} {a : Option Addr} {len cap : Nat} {zs : List Int} (h : Turn g w0 w1 ∧ Cur w1 g a len cap zs) : Turn g w0 w1.drew ∧ Cur w1.drew g a len cap zs := ⟨h.1.drew, h.2.drew⟩
/-- A rect lies in block r, the result's cells in w's first new block; of what was there in w only the cursor may have turned. -/
structure Good (w wx : World) (g : Nat) (a : Option Addr) (len cap : Nat) (zs : List Int) (r : Nat) : Prop where
  tc : Turn g w wx ∧ Cur wx g a len cap zs
  hr : r < wx.heap.size
  cells : ∃ x y c d : Int, wx.cell? ⟨r, 0, none⟩ = some (.int .i64 x) ∧ wx.cell? ⟨r, 1, none⟩ = some (.int .i64 y) ∧ wx.cell? ⟨r, 2, none⟩ = some (.int .i64 c) ∧ wx.cell? ⟨r, 3, none⟩ = some (.int .i64 d)
  z0 : wx.cell? ⟨w.heap.size, 0, none⟩ = some (.int .i64 0)
  z1 : wx.cell? ⟨w.heap.size, 1, none⟩ = some (.int .i64 0)
  z2 : wx.cell? ⟨w.heap.size, 2, none⟩ = some (.int .i64 0)
  z3 : wx.cell? ⟨w.heap.size, 3, none⟩ = some (.int .i64 0)
  zf : ∀ o, wx.frozen? ⟨w.heap.size, o, none⟩ = false
theorem Good.turn {w wc w1 : World} {g : Nat} {a : Option Addr} {len cap : Nat} {zs : List Int} {r : Nat} (h : Good w wc g a len cap zs r) (hne : r ≠ g) (hne0 : w.heap.size ≠ g) (hlt : w.heap.size < wc.heap.size) (t : Turn g wc w1) (cur : Cur w1 g a len cap zs) : Good w w1 g a len cap zs r := by
  obtain ⟨x, y, c, d, e0, e1, e2, e3⟩ := h.cells
  exact ⟨⟨h.tc.1.trans t, cur⟩, Nat.lt_of_lt_of_le h.hr t.size, ⟨x, y, c, d, (t.cell h.hr hne).trans e0, (t.cell h.hr hne).trans e1, (t.cell h.hr hne).trans e2, (t.cell h.hr hne).trans e3⟩,
    (t.cell hlt hne0).trans h.z0, (t.cell hlt hne0).trans h.z1, (t.cell hlt hne0).trans h.z2, (t.cell hlt hne0).trans h.z3, fun o => (t.frozen hlt hne0).trans (h.zf o)⟩
theorem Good.al {w w1 : World} {g : Nat} {a : Option Addr} {len cap : Nat} {zs : List Int} {r : Nat} (h : Good w w1 g a len cap zs r) (hlt : w.heap.size < w1.heap.size) (o : Obj) : Good w (w1.alloc o) g a len cap zs r := by
  obtain ⟨x, y, c, d, e0, e1, e2, e3⟩ := h.cells
  obtain ⟨hc, hf⟩ := bcell (below_alloc1 w1 o)
  exact ⟨⟨h.tc.1.alloc o, h.tc.2.alloc o⟩, by simpa using Nat.lt_succ_of_lt h.hr, ⟨x, y, c, d, (hc r 0 h.hr).trans e0, (hc r 1 h.hr).trans e1, (hc r 2 h.hr).trans e2, (hc r 3 h.hr).trans e3⟩,
    (hc _ 0 hlt).trans h.z0, (hc _ 1 hlt).trans h.z1, (hc _ 2 hlt).trans h.z2, (hc _ 3 hlt).trans h.z3, fun o => (hf _ o hlt).trans (h.zf o)⟩
theorem int_set {w1 : World} {r o i : Nat} {v n : Int} (h : w1.cell? ⟨r, i, none⟩ = some (.int .i64 n)) : ∃ m : Int, (w1.setCell ⟨r, o, none⟩ (.int .i64 v)).cell? ⟨r, i, none⟩ = some (.int .i64 m) := by
  by_cases e : o = i
  · subst e; exact ⟨v, World.cell?_setCell_same _ _ _ h⟩
  · exact ⟨n, (World.cell?_setCell_other _ _ _ _ (fun h' => e (congrArg Addr.off h'))).trans h⟩
theorem Good.set {w w1 : World} {g : Nat} {a : Option Addr} {len cap : Nat} {zs : List Int} {r o : Nat} {v : Int} (h : Good w w1 g a len cap zs r) (hrd : Rd w g a len zs) (hne : r ≠ g) (hr : w.heap.size < r) : Good w (w1.setCell ⟨r, o, none⟩ (.int .i64 v)) g a len cap zs r := by
  obtain ⟨x, y, c, d, e0, e1, e2, e3⟩ := h.cells
  obtain ⟨x', e0'⟩ := int_set (o := o) (v := v) e0
  obtain ⟨y', e1'⟩ := int_set (o := o) (v := v) e1
  obtain ⟨c', e2'⟩ := int_set (o := o) (v := v) e2
  obtain ⟨d', e3'⟩ := int_set (o := o) (v := v) e3
  have hc : ∀ i, (w1.setCell ⟨r, o, none⟩ (.int .i64 v)).cell? ⟨w.heap.size, i, none⟩ = w1.cell? ⟨w.heap.size, i, none⟩ := fun i => World.cell?_of_block (w := w1) (Below.heap_setCell w1 ⟨r, o, none⟩ _ _ (by dsimp only; omega))
  exact ⟨Cur.set hrd h.tc (by omega) hne, by simpa using h.hr, ⟨x', y', c', d', e0', e1', e2', e3'⟩, (hc 0).trans h.z0, (hc 1).trans h.z1, (hc 2).trans h.z2, (hc 3).trans h.z3, fun o => by simpa using h.zf o⟩
def sel (x : Int) (l : List Int) : Int := l.getD x.toNat 0
theorem sel3 {x : Int} (h0 : 0 ≤ x) (h1 : x < 3) (i0 i1 i2 : Int) : (#[Value.int .i64 i0, .int .i64 i1, .int .i64 i2] : Array Value)[x.toNat]? = some (.int .i64 (sel x [i0, i1, i2])) := by
  have h : x = 0 ∨ x = 1 ∨ x = 2 := by omega
  rcases h with rfl | rfl | rfl <;> rfl
theorem sel4 {x : Int} (h0 : 0 ≤ x) (h1 : x < 4) (i0 i1 i2 i3 : Int) : (#[Value.int .i64 i0, .int .i64 i1, .int .i64 i2, .int .i64 i3] : Array Value)[x.toNat]? = some (.int .i64 (sel x [i0, i1, i2, i3])) := by
  have h : x = 0 ∨ x = 1 ∨ x = 2 ∨ x = 3 := by omega
  rcases h with rfl | rfl | rfl | rfl <;> rfl
theorem sel3L {x : Int} (h0 : 0 ≤ x) (h1 : x < 3) (i0 i1 i2 : Int) (h : x.toNat < [Value.int .i64 i0, .int .i64 i1, .int .i64 i2].length) : [Value.int .i64 i0, .int .i64 i1, .int .i64 i2][x.toNat] = .int .i64 (sel x [i0, i1, i2]) := by
  have h : x = 0 ∨ x = 1 ∨ x = 2 := by omega
  rcases h with rfl | rfl | rfl <;> rfl
theorem sel4L {x : Int} (h0 : 0 ≤ x) (h1 : x < 4) (i0 i1 i2 i3 : Int) (h : x.toNat < [Value.int .i64 i0, .int .i64 i1, .int .i64 i2, .int .i64 i3].length) : [Value.int .i64 i0, .int .i64 i1, .int .i64 i2, .int .i64 i3][x.toNat] = .int .i64 (sel x [i0, i1, i2, i3]) := by
  have h : x = 0 ∨ x = 1 ∨ x = 2 ∨ x = 3 := by omega
  rcases h with rfl | rfl | rfl | rfl <;> rfl
theorem sel5L {x : Int} (h0 : 0 ≤ x) (h1 : x < 5) (i0 i1 i2 i3 i4 : Int) (h : x.toNat < [Value.int .i64 i0, .int .i64 i1, .int .i64 i2, .int .i64 i3, .int .i64 i4].length) : [Value.int .i64 i0, .int .i64 i1, .int .i64 i2, .int .i64 i3, .int .i64 i4][x.toNat] = .int .i64 (sel x [i0, i1, i2, i3, i4]) := by
  have h : x = 0 ∨ x = 1 ∨ x = 2 ∨ x = 3 ∨ x = 4 := by omega
  rcases h with rfl | rfl | rfl | rfl | rfl <;> rfl
theorem sel5 {x : Int} (h0 : 0 ≤ x) (h1 : x < 5) (i0 i1 i2 i3 i4 : Int) : (#[Value.int .i64 i0, .int .i64 i1, .int .i64 i2, .int .i64 i3, .int .i64 i4] : Array Value)[x.toNat]? = some (.int .i64 (sel x [i0, i1, i2, i3, i4])) := by
  have h : x = 0 ∨ x = 1 ∨ x = 2 ∨ x = 3 ∨ x = 4 := by omega
  rcases h with rfl | rfl | rfl | rfl | rfl <;> rfl

set_option maxHeartbeats 8000000 in
theorem draw_any (g : Nat) (a : Option Addr) (len cap : Nat) (zs : List Int) (w : World) (hcur : Cur w g a len cap zs) :
    Calls Try.prog 52 #[.pointer (some ⟨g, 0, none⟩)] w fun e w' => ∃ x y c d : Int, e = .returned (.agg #[.int .i64 x, .int .i64 y, .int .i64 c, .int .i64 d]) ∧ Turn g w w' ∧ Cur w' g a len cap zs := by
  have hg := hcur.hg
  have HR : Hid (Rd w g a len zs) := hcur.rd
  have HC : Hid (Cur (w.alloc (.cells #[.int .i64 0, .int .i64 0, .int .i64 0, .int .i64 0] 35)) g a len cap zs) := hcur.alloc _
  clear hcur
  go_enter Try.func52, Try.ntmps52
  go_upto_region 1 with fail
  go_cut [3] from 4 (fun s3 wx => ∃ r : Nat, s3 = .pointer (some ⟨r, 0, none⟩) ∧ w.heap.size < r ∧ r < wx.heap.size ∧ Turn g (w.alloc (.cells #[.int .i64 0, .int .i64 0, .int .i64 0, .int .i64 0] 35)) wx ∧ Cur wx g a len cap zs ∧ ∃ x y c d : Int, -10 ≤ x ∧ x ≤ 100 ∧ -10 ≤ y ∧ y ≤ 100 ∧ -10 ≤ c ∧ c ≤ 100 ∧ wx.cell? ⟨r, 0, none⟩ = some (.int .i64 x) ∧ wx.cell? ⟨r, 1, none⟩ = some (.int .i64 y) ∧ wx.cell? ⟨r, 2, none⟩ = some (.int .i64 c) ∧ wx.cell? ⟨r, 3, none⟩ = some (.int .i64 d) ∧ ∀ o, wx.frozen? ⟨r, o, none⟩ = false)
  case first =>
    go_wp2_with (first | (go_at_call 61; have tok := HC; refine (below_any _ _ _ _ _ _ _ HC.out (by decide) (by decide)).mono ?_; clear HC; rintro e w1 ⟨x, rfl, hx0, hx1, ht, hcur'⟩; have hT := ht) | (go_at_call 61; refine (below_any _ _ _ _ _ _ _ hcur' (by decide) (by decide)).mono ?_; rintro e w2 ⟨x', rfl, hx0', hx1', ht', hcur''⟩; have hT := hT.trans ht'; have hcur' := hcur''))
    go_meet
    refine ⟨_, rfl, ?_, by simp, hT.alloc _, hcur'.alloc _, _, _, _, _, ?_, ?_, ?_, ?_, ?_, ?_, by simp [go_sem]; rfl, by simp [go_sem]; rfl, by simp [go_sem]; rfl, by simp [go_sem]; rfl, fun o => by simp [go_sem]⟩
    · have := hT.size; simp at this; omega
    all_goals omega
  case rest =>
    obtain ⟨r, rfl, hr1, hr2, hT0, hcur', x0, y0, c0, d0, b1, b2, b3, b4, b5, b6, q0, q1, q2, q3, qf⟩ := hcut
    have hne1 : r ≠ g := by omega
    have hne0 : w.heap.size ≠ g := by omega
    have hner : w.heap.size ≠ r := by omega
    have hner' : r ≠ w.heap.size := by omega
    have hlt0 : w.heap.size < wc.heap.size := by omega
    have z0 : wc.cell? ⟨w.heap.size, 0, none⟩ = some (.int .i64 0) := by rw [hT0.cell (by simp) hne0]; simp [go_sem]
    have z1 : wc.cell? ⟨w.heap.size, 1, none⟩ = some (.int .i64 0) := by rw [hT0.cell (by simp) hne0]; simp [go_sem]
    have z2 : wc.cell? ⟨w.heap.size, 2, none⟩ = some (.int .i64 0) := by rw [hT0.cell (by simp) hne0]; simp [go_sem]
    have z3 : wc.cell? ⟨w.heap.size, 3, none⟩ = some (.int .i64 0) := by rw [hT0.cell (by simp) hne0]; simp [go_sem]
    have zf : ∀ o, wc.frozen? ⟨w.heap.size, o, none⟩ = false := fun o => by rw [hT0.frozen (by simp) hne0]; simp [go_sem]
    have hTw : Turn g w wc := ((Turn.refl g w).alloc _).trans hT0
    clear hT0
    have HG : Hid (Good w wc g a len cap zs r) := ⟨⟨hTw, hcur'⟩, hr2, ⟨x0, y0, c0, d0, q0, q1, q2, q3⟩, z0, z1, z2, z3, zf⟩
    go_upto_if 16 with ((go_at_call 62; refine (once_any _ _ _ _ _ _ _ hcur' (by decide) (by decide)).mono ?_; clear hcur'; rintro e w1 ⟨x, rfl, hT, hcur'⟩; have hc := fun b o h1 h2 => hT.cell (b := b) (o := o) h1 h2; have hf := fun b o h1 h2 => hT.frozen (b := b) (o := o) h1 h2; have hzr : r < w1.heap.size := Nat.lt_of_lt_of_le hr2 hT.size; have hz0 : w.heap.size < w1.heap.size := Nat.lt_of_lt_of_le hlt0 hT.size))
    go_cut [] from 4 (fun wx => Good w wx g a len cap zs r)
    case first =>
      go_wp2_with (first | (go_at_call 61; refine (below_any _ _ _ _ _ _ _ hcur' (by decide) (by decide)).mono ?_; rintro e w2 ⟨y, rfl, hy0, hy1, ht', hcur''⟩; replace hT := hT.trans ht'; replace hcur' := hcur''; have hgn : w2.heap.size ≠ g := (by have := hcur'.hg; omega); have hzr : r < w2.heap.size := Nat.lt_of_lt_of_le hr2 hT.size; have hz0 : w.heap.size < w2.heap.size := Nat.lt_of_lt_of_le hlt0 hT.size; clear hc hf; have hc := fun b o h1 h2 => hT.cell (b := b) (o := o) h1 h2; have hf := fun b o h1 h2 => hT.frozen (b := b) (o := o) h1 h2) | (go_at_call 61; refine (below_any _ _ _ _ _ _ _ (hcur'.alloc _) (by decide) (by decide)).mono ?_; rintro e w2 ⟨v, rfl, hy0', hy1', ht', hcur''⟩; have hs4 := sel4 hy0' hy1'; have hs4L := sel4L hy0' hy1'; replace hT := (hT.alloc _).trans ht'; replace hcur' := hcur''; have hzr : r < w2.heap.size := Nat.lt_of_lt_of_le hr2 hT.size; have hz0 : w.heap.size < w2.heap.size := Nat.lt_of_lt_of_le hlt0 hT.size; clear hc hf; have hc := fun b o h1 h2 => hT.cell (b := b) (o := o) h1 h2; have hf := fun b o h1 h2 => hT.frozen (b := b) (o := o) h1 h2; have hcS := fun b o h1 h2 => ht'.cell (b := b) (o := o) h1 h2))
      · go_region_with ((go_at_call 61; (first | refine (below_any _ _ _ _ _ _ _ hcur'.drew (by decide) (by decide)).mono ?_ | refine (below_any _ _ _ _ _ _ _ (hcur'.alloc _).drew (by decide) (by decide)).mono ?_); rintro e w3 ⟨v, rfl, hv0, hv1, ht', hcur''⟩; have hs4 := sel4 hv0 hv1; have hs4L := sel4L hv0 hv1; (first | replace hT := hT.drew.trans ht' | replace hT := (hT.alloc _).drew.trans ht'); replace hcur' := hcur''; have hzr : r < w3.heap.size := Nat.lt_of_lt_of_le hr2 hT.size; have hz0 : w.heap.size < w3.heap.size := Nat.lt_of_lt_of_le hlt0 hT.size; clear hc hf; have hc := fun b o h1 h2 => hT.cell (b := b) (o := o) h1 h2; have hf := fun b o h1 h2 => hT.frozen (b := b) (o := o) h1 h2; have hcS := fun b o h1 h2 => ht'.cell (b := b) (o := o) h1 h2))
        all_goals
          go_wp2
          go_meet
          first | exact Good.set (HG.out.turn hne1 hne0 hlt0 hT hcur') HR.out hne1 hr1 | exact Good.al (Good.set (HG.out.turn hne1 hne0 hlt0 hT hcur') HR.out hne1 hr1) (by simpa using hz0) _
      · go_meet
        exact Good.set (HG.out.turn hne1 hne0 hlt0 hT hcur') HR.out hne1 hr1
      · go_region_with ((go_at_call 61; (first | refine (below_any _ _ _ _ _ _ _ hcur'.drew (by decide) (by decide)).mono ?_ | refine (below_any _ _ _ _ _ _ _ (hcur'.alloc _).drew (by decide) (by decide)).mono ?_); rintro e w3 ⟨v, rfl, hv0, hv1, ht', hcur''⟩; have hs4 := sel3 hv0 hv1; have hs4L := sel3L hv0 hv1; (first | replace hT := hT.drew.trans ht' | replace hT := (hT.alloc _).drew.trans ht'); replace hcur' := hcur''; have hzr : r < w3.heap.size := Nat.lt_of_lt_of_le hr2 hT.size; have hz0 : w.heap.size < w3.heap.size := Nat.lt_of_lt_of_le hlt0 hT.size; clear hc hf; have hc := fun b o h1 h2 => hT.cell (b := b) (o := o) h1 h2; have hf := fun b o h1 h2 => hT.frozen (b := b) (o := o) h1 h2; have hcS := fun b o h1 h2 => ht'.cell (b := b) (o := o) h1 h2))
        all_goals
          go_wp2
          go_meet
          first | exact Good.set (HG.out.turn hne1 hne0 hlt0 hT hcur') HR.out hne1 hr1 | exact Good.al (Good.set (HG.out.turn hne1 hne0 hlt0 hT hcur') HR.out hne1 hr1) (by simpa using hz0) _
      · go_meet
        exact Good.set (Good.set (Good.set (Good.set (HG.out.turn hne1 hne0 hlt0 hT hcur') HR.out hne1 hr1) HR.out hne1 hr1) HR.out hne1 hr1) HR.out hne1 hr1
      · go_meet
        exact HG.out.turn hne1 hne0 hlt0 hT hcur'
    case rest =>
      obtain ⟨htc, hrr, ⟨x1, y1, c1, d1, e0, e1, e2, e3⟩, k0, k1, k2, k3, kf⟩ := hcut
      clear HG qf zf hTw
      go_wp2
      refine bodyPost_ret (v := .agg #[.int .i64 x1, .int .i64 y1, .int .i64 c1, .int .i64 d1]) (by simp [results, Try.results52, go_sem, k0, k1, k2, k3]) rfl ⟨_, _, _, _, rfl, ?_⟩
      exact Cur.set4 HR.out htc (Nat.le_refl _) hne0
end Go.Proofs.Ytgpgmndjkcpaoaa
