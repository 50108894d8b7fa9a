/-
  Contracts of the drawing functions, second part: a spot drawn; the laws' own spot. What is drawn is not told: that the call answers numbers, and that of what was there only the cursor turns.
-/
import Derived.Test.YtipdfajojcpolaaW7
import Derived.Deep.Cut
import Derived.Deep.RegionHeld3
import Derived.Deep.DrawnRows
namespace Go.Proofs.Ytipdfajojcpolaa
open Go.RowKit Go.Joins
attribute [local go_sem ↓] Go.wp_at_zero Go.wp_at_succ

theorem Cur.keep2 {w0 w1 w' : World} {g : Nat} {a : Option Addr} {len cap : Nat} {zs : List Int} (h : Cur w1 g a len cap zs) (h0 : Rd w0 g a len zs) (t : Turn g w0 w') (hb : w'.heap[g]? = w1.heap[g]?) (hs : g < w'.heap.size) : Cur w' g a len cap zs := by
  have hc : ∀ o, w'.cell? ⟨g, o, none⟩ = w1.cell? ⟨g, o, none⟩ := fun o => World.cell?_of_block (w := w1) hb
  have hf : ∀ o, w'.frozen? ⟨g, o, none⟩ = w1.frozen? ⟨g, o, none⟩ := fun o => World.frozen?_of_block (w := w1) hb
  obtain ⟨i, hi, h1⟩ := h.c1
  obtain ⟨k, h2⟩ := h.c2
  exact ⟨hs, h.hl, (hc 0).trans h.c0, ⟨i, hi, (hc 1).trans h1⟩, ⟨k, (hc 2).trans h2⟩, (hf 1).trans h.f1, (hf 2).trans h.f2, h0.turn t⟩
/-- One cell stored elsewhere. -/
theorem Cur.set {w0 w1 : World} {g b o : Nat} {a : Option Addr} {len cap : Nat} {zs : List Int} {v : Value} (h0 : Rd w0 g a len zs) (h : Turn g w0 w1 ∧ Cur w1 g a len cap zs) (hb : w0.heap.size ≤ b) (hn : b ≠ g) : Turn g w0 (w1.setCell ⟨b, o, none⟩ v) ∧ Cur (w1.setCell ⟨b, o, none⟩ v) g a len cap zs :=
  ⟨h.1.setNew hb v, h.2.keep2 h0 (h.1.setNew hb v) (Below.heap_setCell w1 ⟨b, o, none⟩ v g (Ne.symm hn)) (by simpa using h.2.hg)⟩
theorem Cur.set4 {w0 w1 : World} {g b : Nat} {a : Option Addr} {len cap : Nat} {zs : List Int} {v0 v1 v2 v3 : Value} (h0 : Rd w0 g a len zs) (h : Turn g w0 w1 ∧ Cur w1 g a len cap zs) (hb : w0.heap.size ≤ b) (hn : b ≠ g) :
    Turn g w0 ((((w1.setCell ⟨b, 0, none⟩ v0).setCell ⟨b, 1, none⟩ v1).setCell ⟨b, 2, none⟩ v2).setCell ⟨b, 3, none⟩ v3) ∧ Cur ((((w1.setCell ⟨b, 0, none⟩ v0).setCell ⟨b, 1, none⟩ v1).setCell ⟨b, 2, none⟩ v2).setCell ⟨b, 3, none⟩ v3) g a len cap zs :=
  Cur.set h0 (Cur.set h0 (Cur.set h0 (Cur.set h0 h hb hn) hb hn) hb hn) hb hn
theorem Cur.set2 {w0 w1 : World} {g b : Nat} {a : Option Addr} {len cap : Nat} {zs : List Int} {v0 v1 : Value} (h0 : Rd w0 g a len zs) (h : Turn g w0 w1 ∧ Cur w1 g a len cap zs) (hb : w0.heap.size ≤ b) (hn : b ≠ g) :
    Turn g w0 ((w1.setCell ⟨b, 0, none⟩ v0).setCell ⟨b, 1, none⟩ v1) ∧ Cur ((w1.setCell ⟨b, 0, none⟩ v0).setCell ⟨b, 1, none⟩ v1) g a len cap zs :=
  Cur.set h0 (Cur.set h0 h hb hn) hb hn
theorem Cur.al {w0 w1 : World} {g : Nat} {a : Option Addr} {len cap : Nat} {zs : List Int} (h : Turn g w0 w1 ∧ Cur w1 g a len cap zs) (o : Obj) : Turn g w0 (w1.alloc o) ∧ Cur (w1.alloc o) g a len cap zs := ⟨h.1.alloc o, h.2.alloc o⟩
theorem Cur.dr {w0 w1 : World} {g : Nat} {a : Option Addr} {len cap : Nat} {zs : List Int} (h : Turn g w0 w1 ∧ Cur w1 g a len cap zs) : Turn g w0 w1.drew ∧ Cur w1.drew g a len cap zs := ⟨h.1.drew, h.2.drew⟩
def sel (x : Int) (l : List Int) : Int := l.getD x.toNat 0
theorem sel3 {x : Int} (h0 : 0 ≤ x) (h1 : x < 3) (i0 i1 i2 : Int) : (#[Value.int .i64 i0, .int .i64 i1, .int .i64 i2] : Array Value)[x.toNat]? = some (.int .i64 (sel x [i0, i1, i2])) := by
  have h : x = 0 ∨ x = 1 ∨ x = 2 := by omega
  rcases h with rfl | rfl | rfl <;> rfl
theorem sel4 {x : Int} (h0 : 0 ≤ x) (h1 : x < 4) (i0 i1 i2 i3 : Int) : (#[Value.int .i64 i0, .int .i64 i1, .int .i64 i2, .int .i64 i3] : Array Value)[x.toNat]? = some (.int .i64 (sel x [i0, i1, i2, i3])) := by
  have h : x = 0 ∨ x = 1 ∨ x = 2 ∨ x = 3 := by omega
  rcases h with rfl | rfl | rfl | rfl <;> rfl
theorem sel3L {x : Int} (h0 : 0 ≤ x) (h1 : x < 3) (i0 i1 i2 : Int) (h : x.toNat < [Value.int .i64 i0, .int .i64 i1, .int .i64 i2].length) : [Value.int .i64 i0, .int .i64 i1, .int .i64 i2][x.toNat] = .int .i64 (sel x [i0, i1, i2]) := by
  have h : x = 0 ∨ x = 1 ∨ x = 2 := by omega
  rcases h with rfl | rfl | rfl <;> rfl
theorem sel4L {x : Int} (h0 : 0 ≤ x) (h1 : x < 4) (i0 i1 i2 i3 : Int) (h : x.toNat < [Value.int .i64 i0, .int .i64 i1, .int .i64 i2, .int .i64 i3].length) : [Value.int .i64 i0, .int .i64 i1, .int .i64 i2, .int .i64 i3][x.toNat] = .int .i64 (sel x [i0, i1, i2, i3]) := by
  have h : x = 0 ∨ x = 1 ∨ x = 2 ∨ x = 3 := by omega
  rcases h with rfl | rfl | rfl | rfl <;> rfl
theorem sel5L {x : Int} (h0 : 0 ≤ x) (h1 : x < 5) (i0 i1 i2 i3 i4 : Int) (h : x.toNat < [Value.int .i64 i0, .int .i64 i1, .int .i64 i2, .int .i64 i3, .int .i64 i4].length) : [Value.int .i64 i0, .int .i64 i1, .int .i64 i2, .int .i64 i3, .int .i64 i4][x.toNat] = .int .i64 (sel x [i0, i1, i2, i3, i4]) := by
  have h : x = 0 ∨ x = 1 ∨ x = 2 ∨ x = 3 ∨ x = 4 := by omega
  rcases h with rfl | rfl | rfl | rfl | rfl <;> rfl
theorem sel5 {x : Int} (h0 : 0 ≤ x) (h1 : x < 5) (i0 i1 i2 i3 i4 : Int) : (#[Value.int .i64 i0, .int .i64 i1, .int .i64 i2, .int .i64 i3, .int .i64 i4] : Array Value)[x.toNat]? = some (.int .i64 (sel x [i0, i1, i2, i3, i4])) := by
  have h : x = 0 ∨ x = 1 ∨ x = 2 ∨ x = 3 ∨ x = 4 := by omega
  rcases h with rfl | rfl | rfl | rfl | rfl <;> rfl

theorem turn_lt {g : Nat} {X w1 : World} {o : Obj} (h : Turn g (X.alloc o) w1) : X.heap.size < w1.heap.size := by have := h.size; simp at this; omega
theorem turn_ltd {g : Nat} {X w1 : World} {o : Obj} (h : Turn g (X.alloc o).drew w1) : X.heap.size < w1.heap.size := by have := h.size; simp at this; omega
theorem turn_lt2 {g : Nat} {X w1 : World} {o p : Obj} (h : Turn g ((X.alloc o).alloc p) w1) : X.heap.size < w1.heap.size ∧ X.heap.size + 1 < w1.heap.size := by have := h.size; simp at this; omega
theorem turn_lt2d {g : Nat} {X w1 : World} {o p : Obj} (h : Turn g ((X.alloc o).alloc p).drew w1) : X.heap.size < w1.heap.size ∧ X.heap.size + 1 < w1.heap.size := by have := h.size; simp at this; omega

set_option maxHeartbeats 16000000 in
theorem drawSpot_any (g : Nat) (a : Option Addr) (len cap : Nat) (zs : List Int) (w : World) (hcur : Cur w g a len cap zs) :
    Calls Try.prog 34 #[.pointer (some ⟨g, 0, none⟩)] w fun e w' => ∃ x y : Int, e = .returned (.agg #[.int .i64 x, .int .i64 y]) ∧ Turn g w w' ∧ Cur w' g a len cap zs := by
  have hg := hcur.hg
  have hne0 : w.heap.size ≠ g := by omega
  have HR : Hid (Rd w g a len zs) := hcur.rd
  have HC : Hid (Cur (w.alloc (.cells #[.int .i64 0, .int .i64 0] 28)) g a len cap zs) := hcur.alloc _
  clear hcur
  go_enter Try.func34, Try.ntmps34
  have tok1 : True := trivial
  go_wp2_with (first | (go_at_call 53; (first | refine (once_any _ _ _ _ _ _ _ HC.out (by decide) (by decide)).mono ?_ | refine (once_any _ _ _ _ _ _ _ hcur' (by decide) (by decide)).mono ?_); rintro e w1 ⟨x, rfl, ht', hcur''⟩; (first | replace hT := hT.trans ht' | have hT := ht'); have hcur' := hcur''; (try clear hc hf); have hc := fun b o h1 h2 => hT.cell (b := b) (o := o) h1 h2; have hf := fun b o h1 h2 => hT.frozen (b := b) (o := o) h1 h2) | (go_at_call 54; have _t := tok1; clear _t tok1; refine (below_any _ _ _ _ _ _ _ hcur' (by decide) (by decide)).mono ?_; rintro e w1 ⟨ya, rfl, hy0, hy1, ht', hcur''⟩; replace hT := hT.trans ht'; replace hcur' := hcur''; clear hc hf; have hc := fun b o h1 h2 => hT.cell (b := b) (o := o) h1 h2; have hf := fun b o h1 h2 => hT.frozen (b := b) (o := o) h1 h2) | (go_at_call 54; refine (below_any _ _ _ _ _ _ _ hcur' (by decide) (by decide)).mono ?_; rintro e w1 ⟨yb, rfl, hy0, hy1, ht', hcur''⟩; replace hT := hT.trans ht'; replace hcur' := hcur''; clear hc hf; have hc := fun b o h1 h2 => hT.cell (b := b) (o := o) h1 h2; have hf := fun b o h1 h2 => hT.frozen (b := b) (o := o) h1 h2))
  · have hgn : w1.heap.size ≠ g := by have := hcur'.hg; omega
    have hgn1 : w1.heap.size + 1 ≠ g := by have := hcur'.hg; omega
    have hz0 : w.heap.size < w1.heap.size := by have := hT.size; simp at this; omega
    go_region_with ((go_at_call 54; refine (below_any g a len cap zs _ _ ?_ (by decide) (by decide)).mono ?_; (focus (first | exact hcur' | exact hcur'.drew | exact (hcur'.alloc _) | exact (hcur'.alloc _).drew | exact ((hcur'.alloc _).alloc _) | exact ((hcur'.alloc _).alloc _).drew)); rintro e w3 ⟨v, rfl, hv0, hv1, ht', hcur''⟩; (first | (have hs5 := sel5 hv0 hv1; have hs5L := sel5L hv0 hv1; obtain ⟨v5, hv5⟩ : ∃ v5 : Int, v5 = v := ⟨_, rfl⟩; subst hv5) | (have hs3 := sel3 hv0 hv1; have hs3L := sel3L hv0 hv1; obtain ⟨v3, hv3⟩ : ∃ v3 : Int, v3 = v := ⟨_, rfl⟩; subst hv3)); (first | (replace hT := hT.trans ht'; (try (have hzb := Nat.lt_of_lt_of_le hzb ht'.size; have hzb' := Nat.le_of_lt hzb)); (try (have hza := Nat.lt_of_lt_of_le hza ht'.size; have hza' := Nat.le_of_lt hza))) | replace hT := hT.drew.trans ht' | (replace hT := (hT.alloc _).trans ht'; have hzn := turn_lt ht'; have hzn' := Nat.le_of_lt hzn; (try (have hza := Nat.lt_trans hza hzn; have hza' := Nat.le_of_lt hza))) | (replace hT := (hT.alloc _).drew.trans ht'; have hza := turn_ltd ht'; have hza' := Nat.le_of_lt hza) | (replace hT := ((hT.alloc _).alloc _).trans ht'; obtain ⟨hza, hzb⟩ := turn_lt2 ht'; have hza' := Nat.le_of_lt hza; have hzb' := Nat.le_of_lt hzb) | (replace hT := ((hT.alloc _).alloc _).drew.trans ht'; obtain ⟨hza, hzb⟩ := turn_lt2d ht'; have hza' := Nat.le_of_lt hza; have hzb' := Nat.le_of_lt hzb)); replace hcur' := hcur''; have hz0 := turn_lt hT; have hgn := Nat.ne_of_gt hcur'.hg; have hgn1 := Nat.ne_of_gt (Nat.lt_succ_of_lt hcur'.hg); clear hc hf; have hc := fun b o h1 h2 => hT.cell (b := b) (o := o) h1 h2; have hf := fun b o h1 h2 => hT.frozen (b := b) (o := o) h1 h2; have hcS := fun b o h1 h2 => ht'.cell (b := b) (o := o) h1 h2))
    all_goals
      go_wp2
      refine bodyPost_ret (v := .agg #[.int .i64 (sel v5 [-1, 0, 255, 256, 4611686018427387904]), .int .i64 (sel v3 [0, 255, 256])]) (by first | (simp [results, Try.results34, go_sem, hc, hne0]; done) | (simp [results, Try.results34, go_sem, hc, hne0, hz0]; done)) rfl ⟨_, _, rfl, ?_⟩
      first | exact Cur.set2 HR.out ⟨((Turn.refl g w).alloc _).trans hT, hcur'⟩ (Nat.le_refl _) hne0 | exact Cur.al (Cur.set2 HR.out ⟨((Turn.refl g w).alloc _).trans hT, hcur'⟩ (Nat.le_refl _) hne0) _ | exact Cur.al (Cur.al (Cur.set2 HR.out ⟨((Turn.refl g w).alloc _).trans hT, hcur'⟩ (Nat.le_refl _) hne0) _) _
  all_goals
    refine bodyPost_ret (v := .agg #[.int .i64 ya, .int .i64 yb]) (by simp [results, Try.results34, go_sem, hc, hne0]) rfl ⟨_, _, rfl, ?_⟩
    exact Cur.set2 HR.out ⟨((Turn.refl g w).alloc _).trans hT, hcur'⟩ (Nat.le_refl _) hne0
theorem Cur.fresh {w : World} {a : Option Addr} {len cap : Nat} {zs : List Int} {h : Int} (hl : len ≤ 4096) (hr : Rd w w.heap.size a len zs) : Cur (w.alloc (.cells #[.slice a len cap, .int .i64 0, .int .i64 h] 67)) w.heap.size a len cap zs :=
  ⟨by simp, hl, by simp [go_sem], ⟨0, Nat.zero_le _, by simp [go_sem]⟩, ⟨h, by simp [go_sem]⟩, by simp [go_sem], by simp [go_sem], hr.turn ((Turn.refl _ w).alloc _)⟩
theorem Rd.up {w w' : World} {g g' : Nat} {a : Option Addr} {len : Nat} {zs : List Int} (h : Rd w g a len zs) (t : Below w.heap.size w w') (hg : w.heap.size ≤ g') : Rd w' g' a len zs := by
  rcases h with h | ⟨b, off, ha, _, hb, hc⟩
  · exact .inl h
  · exact .inr ⟨b, off, ha, by omega, Nat.lt_of_lt_of_le hb t.size, fun j hj => ⟨(t.cell (p := ⟨b, off + j, none⟩) hb).trans (hc j hj).1, (hc j hj).2⟩⟩

set_option maxHeartbeats 400000 in
theorem big_any (a : Option Addr) (len cap : Nat) (w : World) :
    Calls Try.prog 9 #[.slice a len cap] w fun e w' => e = .returned (.bool (decide (4096 < (len : Int)))) ∧ w = w' := by
  go_enter Try.func9, Try.ntmps9
  go_wp2
  go_ret
  exact ⟨rfl, rfl⟩

end Go.Proofs.Ytipdfajojcpolaa
