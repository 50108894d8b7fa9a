/-
  What the law of covers draws: a Rect; a list of Cells and a Spot.
-/
import Derived.Test.YthmpemamagjeeaaE2
import Derived.Deep.Cut
import Derived.Deep.RegionHeld3
import Derived.Deep.DrawnRows
namespace Go.Proofs.Ythmpemamagjeeaa
open Go.RowKit Go.Joins
attribute [local go_sem ↓] Go.wp_at_zero Go.wp_at_succ
/-- A rect lies in block r, the result's cells in w's first new block; of what was there in w only the cursor may have turned. -/
structure Good (w wx : World) (g : Nat) (a : Option Addr) (len cap : Nat) (zs : List Int) (r : Nat) : Prop where
  tc : Turn g w wx ∧ Cur wx g a len cap zs
  hr : r < wx.heap.size
  cells : ∃ x y c d : Int, wx.cell? ⟨r, 0, none⟩ = some (.int .i64 x) ∧ wx.cell? ⟨r, 1, none⟩ = some (.int .i64 y) ∧ wx.cell? ⟨r, 2, none⟩ = some (.int .i64 c) ∧ wx.cell? ⟨r, 3, none⟩ = some (.int .i64 d)
  z0 : wx.cell? ⟨w.heap.size, 0, none⟩ = some (.int .i64 0)
  z1 : wx.cell? ⟨w.heap.size, 1, none⟩ = some (.int .i64 0)
  z2 : wx.cell? ⟨w.heap.size, 2, none⟩ = some (.int .i64 0)
  z3 : wx.cell? ⟨w.heap.size, 3, none⟩ = some (.int .i64 0)
  zf : ∀ o, wx.frozen? ⟨w.heap.size, o, none⟩ = false
theorem Good.turn {w wc w1 : World} {g : Nat} {a : Option Addr} {len cap : Nat} {zs : List Int} {r : Nat} (h : Good w wc g a len cap zs r) (hne : r ≠ g) (hne0 : w.heap.size ≠ g) (hlt : w.heap.size < wc.heap.size) (t : Turn g wc w1) (cur : Cur w1 g a len cap zs) : Good w w1 g a len cap zs r := by
  obtain ⟨x, y, c, d, e0, e1, e2, e3⟩ := h.cells
  exact ⟨⟨h.tc.1.trans t, cur⟩, Nat.lt_of_lt_of_le h.hr t.size, ⟨x, y, c, d, (t.cell h.hr hne).trans e0, (t.cell h.hr hne).trans e1, (t.cell h.hr hne).trans e2, (t.cell h.hr hne).trans e3⟩,
    (t.cell hlt hne0).trans h.z0, (t.cell hlt hne0).trans h.z1, (t.cell hlt hne0).trans h.z2, (t.cell hlt hne0).trans h.z3, fun o => (t.frozen hlt hne0).trans (h.zf o)⟩
theorem Good.al {w w1 : World} {g : Nat} {a : Option Addr} {len cap : Nat} {zs : List Int} {r : Nat} (h : Good w w1 g a len cap zs r) (hlt : w.heap.size < w1.heap.size) (o : Obj) : Good w (w1.alloc o) g a len cap zs r := by
  obtain ⟨x, y, c, d, e0, e1, e2, e3⟩ := h.cells
  obtain ⟨hc, hf⟩ := bcell (below_alloc1 w1 o)
  exact ⟨⟨h.tc.1.alloc o, h.tc.2.alloc o⟩, by simpa using Nat.lt_succ_of_lt h.hr, ⟨x, y, c, d, (hc r 0 h.hr).trans e0, (hc r 1 h.hr).trans e1, (hc r 2 h.hr).trans e2, (hc r 3 h.hr).trans e3⟩,
    (hc _ 0 hlt).trans h.z0, (hc _ 1 hlt).trans h.z1, (hc _ 2 hlt).trans h.z2, (hc _ 3 hlt).trans h.z3, fun o => (hf _ o hlt).trans (h.zf o)⟩
theorem int_set {w1 : World} {r o i : Nat} {v n : Int} (h : w1.cell? ⟨r, i, none⟩ = some (.int .i64 n)) : ∃ m : Int, (w1.setCell ⟨r, o, none⟩ (.int .i64 v)).cell? ⟨r, i, none⟩ = some (.int .i64 m) := by
  by_cases e : o = i
  · subst e; exact ⟨v, World.cell?_setCell_same _ _ _ h⟩
  · exact ⟨n, (World.cell?_setCell_other _ _ _ _ (fun h' => e (congrArg Addr.off h'))).trans h⟩
theorem Good.set {w w1 : World} {g : Nat} {a : Option Addr} {len cap : Nat} {zs : List Int} {r o : Nat} {v : Int} (h : Good w w1 g a len cap zs r) (hrd : Rd w g a len zs) (hne : r ≠ g) (hr : w.heap.size < r) : Good w (w1.setCell ⟨r, o, none⟩ (.int .i64 v)) g a len cap zs r := by
  obtain ⟨x, y, c, d, e0, e1, e2, e3⟩ := h.cells
  obtain ⟨x', e0'⟩ := int_set (o := o) (v := v) e0
  obtain ⟨y', e1'⟩ := int_set (o := o) (v := v) e1
  obtain ⟨c', e2'⟩ := int_set (o := o) (v := v) e2
  obtain ⟨d', e3'⟩ := int_set (o := o) (v := v) e3
  have hc : ∀ i, (w1.setCell ⟨r, o, none⟩ (.int .i64 v)).cell? ⟨w.heap.size, i, none⟩ = w1.cell? ⟨w.heap.size, i, none⟩ := fun i => World.cell?_of_block (w := w1) (Below.heap_setCell w1 ⟨r, o, none⟩ _ _ (by dsimp only; omega))
  exact ⟨Cur.set hrd h.tc (by omega) hne, by simpa using h.hr, ⟨x', y', c', d', e0', e1', e2', e3'⟩, (hc 0).trans h.z0, (hc 1).trans h.z1, (hc 2).trans h.z2, (hc 3).trans h.z3, fun o => by simpa using h.zf o⟩
set_option maxHeartbeats 8000000 in
theorem draw_any (g : Nat) (a : Option Addr) (len cap : Nat) (zs : List Int) (w : World) (hcur : Cur w g a len cap zs) :
    Calls Try.prog 77 #[.pointer (some ⟨g, 0, none⟩)] w fun e w' => ∃ x y c d : Int, e = .returned (.agg #[.int .i64 x, .int .i64 y, .int .i64 c, .int .i64 d]) ∧ Turn g w w' ∧ Cur w' g a len cap zs := by
  have hg := hcur.hg
  have HR : Hid (Rd w g a len zs) := hcur.rd
  have HC : Hid (Cur (w.alloc (.cells #[.int .i64 0, .int .i64 0, .int .i64 0, .int .i64 0] 25)) g a len cap zs) := hcur.alloc _
  clear hcur
  go_enter Try.func77, Try.ntmps77
  go_upto_region 1 with fail
  go_cut [3] from 4 (fun s3 wx => ∃ r : Nat, s3 = .pointer (some ⟨r, 0, none⟩) ∧ w.heap.size < r ∧ r < wx.heap.size ∧ Turn g (w.alloc (.cells #[.int .i64 0, .int .i64 0, .int .i64 0, .int .i64 0] 25)) wx ∧ Cur wx g a len cap zs ∧ ∃ x y c d : Int, -10 ≤ x ∧ x ≤ 100 ∧ -10 ≤ y ∧ y ≤ 100 ∧ -10 ≤ c ∧ c ≤ 100 ∧ wx.cell? ⟨r, 0, none⟩ = some (.int .i64 x) ∧ wx.cell? ⟨r, 1, none⟩ = some (.int .i64 y) ∧ wx.cell? ⟨r, 2, none⟩ = some (.int .i64 c) ∧ wx.cell? ⟨r, 3, none⟩ = some (.int .i64 d) ∧ ∀ o, wx.frozen? ⟨r, o, none⟩ = false)
  case first =>
    go_wp2_with (first | (go_at_call 69; have tok := HC; refine (below_any _ _ _ _ _ _ _ HC.out (by decide) (by decide)).mono ?_; clear HC; rintro e w1 ⟨x, rfl, hx0, hx1, ht, hcur'⟩; have hT := ht) | (go_at_call 69; refine (below_any _ _ _ _ _ _ _ hcur' (by decide) (by decide)).mono ?_; rintro e w2 ⟨x', rfl, hx0', hx1', ht', hcur''⟩; have hT := hT.trans ht'; have hcur' := hcur''))
    go_meet
    refine ⟨_, rfl, ?_, by simp, hT.alloc _, hcur'.alloc _, _, _, _, _, ?_, ?_, ?_, ?_, ?_, ?_, by simp [go_sem]; rfl, by simp [go_sem]; rfl, by simp [go_sem]; rfl, by simp [go_sem]; rfl, fun o => by simp [go_sem]⟩
    · have := hT.size; simp at this; omega
    all_goals omega
  case rest =>
    obtain ⟨r, rfl, hr1, hr2, hT0, hcur', x0, y0, c0, d0, b1, b2, b3, b4, b5, b6, q0, q1, q2, q3, qf⟩ := hcut
    have hne1 : r ≠ g := by omega
    have hne0 : w.heap.size ≠ g := by omega
    have hner : w.heap.size ≠ r := by omega
    have hner' : r ≠ w.heap.size := by omega
    have hlt0 : w.heap.size < wc.heap.size := by omega
    have z0 : wc.cell? ⟨w.heap.size, 0, none⟩ = some (.int .i64 0) := by rw [hT0.cell (by simp) hne0]; simp [go_sem]
    have z1 : wc.cell? ⟨w.heap.size, 1, none⟩ = some (.int .i64 0) := by rw [hT0.cell (by simp) hne0]; simp [go_sem]
    have z2 : wc.cell? ⟨w.heap.size, 2, none⟩ = some (.int .i64 0) := by rw [hT0.cell (by simp) hne0]; simp [go_sem]
    have z3 : wc.cell? ⟨w.heap.size, 3, none⟩ = some (.int .i64 0) := by rw [hT0.cell (by simp) hne0]; simp [go_sem]
    have zf : ∀ o, wc.frozen? ⟨w.heap.size, o, none⟩ = false := fun o => by rw [hT0.frozen (by simp) hne0]; simp [go_sem]
    have hTw : Turn g w wc := ((Turn.refl g w).alloc _).trans hT0
    clear hT0
    have HG : Hid (Good w wc g a len cap zs r) := ⟨⟨hTw, hcur'⟩, hr2, ⟨x0, y0, c0, d0, q0, q1, q2, q3⟩, z0, z1, z2, z3, zf⟩
    go_upto_if 16 with ((go_at_call 68; refine (once_any _ _ _ _ _ _ _ hcur' (by decide) (by decide)).mono ?_; clear hcur'; rintro e w1 ⟨x, rfl, hT, hcur'⟩; have hc := fun b o h1 h2 => hT.cell (b := b) (o := o) h1 h2; have hf := fun b o h1 h2 => hT.frozen (b := b) (o := o) h1 h2; have hzr : r < w1.heap.size := Nat.lt_of_lt_of_le hr2 hT.size; have hz0 : w.heap.size < w1.heap.size := Nat.lt_of_lt_of_le hlt0 hT.size))
    go_cut [] from 4 (fun wx => Good w wx g a len cap zs r)
    case first =>
      go_wp2_with (first | (go_at_call 69; refine (below_any _ _ _ _ _ _ _ hcur' (by decide) (by decide)).mono ?_; rintro e w2 ⟨y, rfl, hy0, hy1, ht', hcur''⟩; replace hT := hT.trans ht'; replace hcur' := hcur''; have hgn : w2.heap.size ≠ g := (by have := hcur'.hg; omega); have hzr : r < w2.heap.size := Nat.lt_of_lt_of_le hr2 hT.size; have hz0 : w.heap.size < w2.heap.size := Nat.lt_of_lt_of_le hlt0 hT.size; clear hc hf; have hc := fun b o h1 h2 => hT.cell (b := b) (o := o) h1 h2; have hf := fun b o h1 h2 => hT.frozen (b := b) (o := o) h1 h2) | (go_at_call 69; refine (below_any _ _ _ _ _ _ _ (hcur'.alloc _) (by decide) (by decide)).mono ?_; rintro e w2 ⟨v, rfl, hy0', hy1', ht', hcur''⟩; have hs4 := sel4 hy0' hy1'; have hs4L := sel4L hy0' hy1'; replace hT := (hT.alloc _).trans ht'; replace hcur' := hcur''; have hzr : r < w2.heap.size := Nat.lt_of_lt_of_le hr2 hT.size; have hz0 : w.heap.size < w2.heap.size := Nat.lt_of_lt_of_le hlt0 hT.size; clear hc hf; have hc := fun b o h1 h2 => hT.cell (b := b) (o := o) h1 h2; have hf := fun b o h1 h2 => hT.frozen (b := b) (o := o) h1 h2; have hcS := fun b o h1 h2 => ht'.cell (b := b) (o := o) h1 h2))
      · go_region_with ((go_at_call 69; (first | refine (below_any _ _ _ _ _ _ _ hcur'.drew (by decide) (by decide)).mono ?_ | refine (below_any _ _ _ _ _ _ _ (hcur'.alloc _).drew (by decide) (by decide)).mono ?_); rintro e w3 ⟨v, rfl, hv0, hv1, ht', hcur''⟩; have hs4 := sel4 hv0 hv1; have hs4L := sel4L hv0 hv1; (first | replace hT := hT.drew.trans ht' | replace hT := (hT.alloc _).drew.trans ht'); replace hcur' := hcur''; have hzr : r < w3.heap.size := Nat.lt_of_lt_of_le hr2 hT.size; have hz0 : w.heap.size < w3.heap.size := Nat.lt_of_lt_of_le hlt0 hT.size; clear hc hf; have hc := fun b o h1 h2 => hT.cell (b := b) (o := o) h1 h2; have hf := fun b o h1 h2 => hT.frozen (b := b) (o := o) h1 h2; have hcS := fun b o h1 h2 => ht'.cell (b := b) (o := o) h1 h2))
        all_goals
          go_wp2
          go_meet
          first | exact Good.set (HG.out.turn hne1 hne0 hlt0 hT hcur') HR.out hne1 hr1 | exact Good.al (Good.set (HG.out.turn hne1 hne0 hlt0 hT hcur') HR.out hne1 hr1) (by simpa using hz0) _
      · go_meet
        exact Good.set (HG.out.turn hne1 hne0 hlt0 hT hcur') HR.out hne1 hr1
      · go_region_with ((go_at_call 69; (first | refine (below_any _ _ _ _ _ _ _ hcur'.drew (by decide) (by decide)).mono ?_ | refine (below_any _ _ _ _ _ _ _ (hcur'.alloc _).drew (by decide) (by decide)).mono ?_); rintro e w3 ⟨v, rfl, hv0, hv1, ht', hcur''⟩; have hs4 := sel3 hv0 hv1; have hs4L := sel3L hv0 hv1; (first | replace hT := hT.drew.trans ht' | replace hT := (hT.alloc _).drew.trans ht'); replace hcur' := hcur''; have hzr : r < w3.heap.size := Nat.lt_of_lt_of_le hr2 hT.size; have hz0 : w.heap.size < w3.heap.size := Nat.lt_of_lt_of_le hlt0 hT.size; clear hc hf; have hc := fun b o h1 h2 => hT.cell (b := b) (o := o) h1 h2; have hf := fun b o h1 h2 => hT.frozen (b := b) (o := o) h1 h2; have hcS := fun b o h1 h2 => ht'.cell (b := b) (o := o) h1 h2))
        all_goals
          go_wp2
          go_meet
          first | exact Good.set (HG.out.turn hne1 hne0 hlt0 hT hcur') HR.out hne1 hr1 | exact Good.al (Good.set (HG.out.turn hne1 hne0 hlt0 hT hcur') HR.out hne1 hr1) (by simpa using hz0) _
      · go_meet
        exact Good.set (Good.set (Good.set (Good.set (HG.out.turn hne1 hne0 hlt0 hT hcur') HR.out hne1 hr1) HR.out hne1 hr1) HR.out hne1 hr1) HR.out hne1 hr1
      · go_meet
        exact HG.out.turn hne1 hne0 hlt0 hT hcur'
    case rest =>
      obtain ⟨htc, hrr, ⟨x1, y1, c1, d1, e0, e1, e2, e3⟩, k0, k1, k2, k3, kf⟩ := hcut
      clear HG qf zf hTw
      go_wp2
      refine bodyPost_ret (v := .agg #[.int .i64 x1, .int .i64 y1, .int .i64 c1, .int .i64 d1]) (by simp [results, Try.results77, go_sem, k0, k1, k2, k3]) rfl ⟨_, _, _, _, rfl, ?_⟩
      exact Cur.set4 HR.out htc (Nat.le_refl _) hne0
end Go.Proofs.Ythmpemamagjeeaa
namespace Go.Proofs.Ythmpemamagjeeaa
open Go.RowKit Go.Joins
attribute [local go_sem ↓] Go.wp_at_zero Go.wp_at_succ

theorem Sx.box {w W : World} {ls : List (Value × List T3)} (h : Sx w W ls) {b : Nat} (hb : w.heap.size ≤ b) (hd : ∀ p ∈ ls, p.1.ownBlock ≠ some b) (i : Nat) (v : Value) : Sx w (W.setCell ⟨b, i, none⟩ v) ls := by
  refine ⟨h.bel.setCell (p := ⟨b, i, none⟩) hb v, fun p hp => (h.own p hp).kept (row := some b) ⟨rfl, rfl, rfl, by simp, fun k _ hne => Below.heap_setCell W ⟨b, i, none⟩ v k (fun e => hne (by rw [show k = b from e]))⟩ (.inr (hd p hp)), h.dis⟩
theorem Sx.new {w W : World} {ls : List (Value × List T3)} (h : Sx w W ls) : ∀ p ∈ ls, p.1.ownBlock ≠ some W.heap.size := fun p hp e => by have := ((h.own p hp).lt _ e).2; omega

set_option maxHeartbeats 1000000 in
theorem drawRect_any (a : Option Addr) (len cap : Nat) (zs : List Int) (g : Nat) (w : World) (hl : len ≤ 4096) (hr : Rd w g a len zs) :
    Calls Try.prog 43 #[.slice a len cap] w fun e w' => ∃ x y c d : Int, e = .returned (.agg #[.int .i64 x, .int .i64 y, .int .i64 c, .int .i64 d]) ∧ Below w.heap.size w w' := by
  have HR : Hid (Rd (w.alloc (.cells #[.int .i64 0, .int .i64 0, .int .i64 0, .int .i64 0] 25)) (w.alloc (.cells #[.int .i64 0, .int .i64 0, .int .i64 0, .int .i64 0] 25)).heap.size a len zs) := hr.up (below_alloc1 _ _) (by simp)
  clear hr
  have HF : Hid (∀ h : Int, Cur ((w.alloc (.cells #[.int .i64 0, .int .i64 0, .int .i64 0, .int .i64 0] 25)).alloc (.cells #[.slice a len cap, .int .i64 0, .int .i64 h] 97)) (w.heap.size + 1) a len cap zs) := fun h => by simpa using Cur.fresh (h := h) (cap := cap) hl HR.out
  go_enter Try.func43, Try.ntmps43
  go_wp2_with (first | (go_at_call 47; refine (new_any a len cap zs _ hl HR.out).mono ?_; rintro e w0 ⟨h, rfl, rfl⟩) | (go_at_call 77; refine (draw_any (w.heap.size + 1) a len cap zs _ (HF.out _)).mono ?_; rintro e w2 ⟨x, y, c, d, rfl, hT, hcur⟩; have hz := hT.size; (try simp at hz); have z00 : w2.cell? ⟨w.heap.size, 0, none⟩ = some (.int .i64 0) := (by rw [hT.cell (by simp <;> omega) (by omega)]; simp [go_sem]); have z01 : w2.cell? ⟨w.heap.size, 1, none⟩ = some (.int .i64 0) := (by rw [hT.cell (by simp <;> omega) (by omega)]; simp [go_sem]); have z02 : w2.cell? ⟨w.heap.size, 2, none⟩ = some (.int .i64 0) := (by rw [hT.cell (by simp <;> omega) (by omega)]; simp [go_sem]); have z03 : w2.cell? ⟨w.heap.size, 3, none⟩ = some (.int .i64 0) := (by rw [hT.cell (by simp <;> omega) (by omega)]; simp [go_sem]); have zf : ∀ o, w2.frozen? ⟨w.heap.size, o, none⟩ = false := fun o => (by rw [hT.frozen (by simp <;> omega) (by omega)]; simp [go_sem])))
  have hB := (below_alloc2 _ _ _).trans (hT.below (B := w.heap.size) (by omega) (by simp <;> omega))
  refine bodyPost_ret (v := .agg #[.int .i64 x, .int .i64 y, .int .i64 c, .int .i64 d]) (by simp [results, Try.results43, go_sem, z00, z01, z02, z03]) rfl ⟨_, _, _, _, rfl, ?_⟩
  exact sc4 hB (Nat.le_refl _)
set_option maxHeartbeats 1000000 in
theorem drawCover_any (a : Option Addr) (len cap : Nat) (zs : List Int) (g : Nat) (w : World) (hl : len ≤ 4096) (hr : Rd w g a len zs) :
    Calls Try.prog 12 #[.slice a len cap] w fun e w' => ∃ x y c d : Int, e = .returned (.agg #[.int .i64 x, .int .i64 y, .int .i64 c, .int .i64 d]) ∧ Below w.heap.size w w' := by
  have HR : Hid (Rd (w.alloc (.cells #[.int .i64 0, .int .i64 0, .int .i64 0, .int .i64 0] 25)) (g + w.heap.size) a len zs) := hr.up (below_alloc1 _ _) (by omega)
  clear hr
  go_enter Try.func12, Try.ntmps12
  go_wp2_with (go_at_call 43; refine (drawRect_any a len cap zs _ _ hl HR.out).mono ?_; rintro e w1 ⟨x, y, c, d, rfl, hb⟩; obtain ⟨hc, hf⟩ := bcell hb)
  refine bodyPost_ret (v := .agg #[.int .i64 x, .int .i64 y, .int .i64 c, .int .i64 d]) (by simp [results, Try.results12, go_sem, hc]) rfl ⟨_, _, _, _, rfl, ?_⟩
  exact sc4 (ba1 hb) (Nat.le_refl _)

set_option maxRecDepth 100000 in
set_option maxHeartbeats 2000000 in
theorem drawReaches_any (a : Option Addr) (len cap : Nat) (zs : List Int) (w : World) (hl : len ≤ 4096) (hr : Rd w w.heap.size a len zs) :
    Calls Try.prog 14 #[.slice a len cap] w fun e w' => ∃ p1 cap1 L s t, e = .returned (.tuple #[.slice p1 L.length cap1, .agg #[.int .i64 s, .int .i64 t]]) ∧ Sx w w' [(.slice p1 L.length cap1, L)] ∧ L.length ≤ 30 := by
  have hb0 := below_alloc1 w (.cells #[.int .i64 0, .int .i64 0] 30)
  have hz0 : (w.alloc (.cells #[.int .i64 0, .int .i64 0] 30)).heap.size = w.heap.size + 1 := by simp
  have hr1 : Rd (w.alloc (.cells #[.int .i64 0, .int .i64 0] 30)) (w.alloc (.cells #[.int .i64 0, .int .i64 0] 30)).heap.size a len zs := hr.up hb0 (by simp)
  have hB0 := ((St.nil w).push [.int .i64 0, .int .i64 0] 30).has
  go_enter Try.func14, Try.ntmps14
  go_upto_region 2 with (go_at_call 47; refine (new_any a len cap zs _ hl hr1).mono ?_; rintro e w1 ⟨h, rfl, rfl⟩)
  generalize w.alloc (.cells #[.int .i64 0, .int .i64 0] 30) = W0 at hb0 hz0 hr1 hB0 ⊢
  have hcur := Cur.fresh (cap := cap) (h := h) hl hr1
  have hrd : Rd (W0.alloc (.cells #[.slice a len cap, .int .i64 0, .int .i64 h] 97)) W0.heap.size a len zs := hr1.turn ((Turn.refl _ W0).alloc _)
  have hbw := below_alloc1 W0 (.cells #[.slice a len cap, .int .i64 0, .int .i64 h] 97)
  have hsz : (W0.alloc (.cells #[.slice a len cap, .int .i64 0, .int .i64 h] 97)).heap.size = W0.heap.size + 1 := by simp
  have hB1 := hB0.step hbw
  generalize W0.alloc _ = W at hcur hrd hbw hsz hB1 ⊢
  rw [hz0] at hcur hrd hsz
  generalize hgg : w.heap.size + 1 = g at hcur hrd hsz hz0 ⊢
  have Hg : Hid (w.heap.size + 1 = g) := hgg
  clear hgg
  go_upto_region 3 with (go_at_call 48; refine (l3Draw_any g a len cap zs W hcur hrd).mono ?_; rintro e w2 ⟨v1, L, rfl, hD1, hn1⟩)
  obtain ⟨p1, cap1, hv1, _⟩ := Ow.form hD1.own
  subst hv1
  have hgw := Hg.out
  have hwg : w.heap.size ≠ g := by omega
  have hB2 := hB1.turn hD1.turn (by simp; omega)
  go_wp2_with (go_at_call 49; refine (drawSpot_any g a len cap zs w2 hD1.cur).mono ?_; rintro e w3 ⟨s, t, rfl, hT, hcur3⟩; have hB3 := hB2.turn hT (by simp; omega); have hk := hB3; simp [Has, HasAt] at hk)
  have hw1 := hD1.turn.size
  have o1 : Ow w3 W.heap.size (.slice p1 L.length cap1) L := hD1.own.turn hT (by omega)
  have hb : Below w.heap.size w w3 := (hb0.trans (hbw.mono (by omega))).trans ((hD1.turn.trans hT).below (by omega) (by have := hb0.size; omega))
  have hx : Sx w w3 [(.slice p1 L.length cap1, L)] := ⟨hb, by intro p hp; simp at hp; subst hp; exact Ow.mono o1 (by omega), by simp⟩
  have hd : ∀ p ∈ [((Value.slice p1 L.length cap1, L) : Value × List T3)], p.1.ownBlock ≠ some w.heap.size := by
    intro p hp e
    simp at hp; subst hp
    have := (o1.lt _ e).1
    omega
  refine bodyPost_ret (v := .tuple #[.slice p1 L.length cap1, .agg #[.int .i64 s, .int .i64 t]]) (by simp [results, Try.results14, go_sem, hk]) rfl ⟨p1, cap1, L, s, t, rfl, ?_, hn1⟩
  exact (hx.box (Nat.le_refl _) hd 0 _).box (Nat.le_refl _) hd 1 _
end Go.Proofs.Ythmpemamagjeeaa
