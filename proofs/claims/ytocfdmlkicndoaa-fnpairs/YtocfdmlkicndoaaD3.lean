/-
  Lists of Spots drawn; what DrawExtreme draws.
-/
import Derived.Test.YtocfdmlkicndoaaW7
import Derived.Deep.Cut
import Derived.Deep.RegionHeld3
import Derived.Deep.DrawnRows
import Derived.Test.YtocfdmlkicndoaaS3
namespace Go.Proofs.Ytocfdmlkicndoaa
open Go.RowKit Go.Joins
attribute [local go_sem ↓] Go.wp_at_zero Go.wp_at_succ

theorem Cur.keep2 {w0 w1 w' : World} {g : Nat} {a : Option Addr} {len cap : Nat} {zs : List Int} (h : Cur w1 g a len cap zs) (h0 : Rd w0 g a len zs) (t : Turn g w0 w') (hb : w'.heap[g]? = w1.heap[g]?) (hs : g < w'.heap.size) : Cur w' g a len cap zs := by
  have hc : ∀ o, w'.cell? ⟨g, o, none⟩ = w1.cell? ⟨g, o, none⟩ := fun o => World.cell?_of_block (w := w1) hb
  have hf : ∀ o, w'.frozen? ⟨g, o, none⟩ = w1.frozen? ⟨g, o, none⟩ := fun o => World.frozen?_of_block (w := w1) hb
  obtain ⟨i, hi, h1⟩ := h.c1
  obtain ⟨k, h2⟩ := h.c2
  exact ⟨hs, h.hl, (hc 0).trans h.c0, ⟨i, hi, (hc 1).trans h1⟩, ⟨k, (hc 2).trans h2⟩, (hf 1).trans h.f1, (hf 2).trans h.f2, h0.turn t⟩
/-- One cell stored elsewhere. -/
theorem Cur.set {w0 w1 : World} {g b o : Nat} {a : Option Addr} {len cap : Nat} {zs : List Int} {v : Value} (h0 : Rd w0 g a len zs) (h : Turn g w0 w1 ∧ Cur w1 g a len cap zs) (hb : w0.heap.size ≤ b) (hn : b ≠ g) : Turn g w0 (w1.setCell ⟨b, o, none⟩ v) ∧ Cur (w1.setCell ⟨b, o, none⟩ v) g a len cap zs :=
  ⟨h.1.setNew hb v, h.2.keep2 h0 (h.1.setNew hb v) (Below.heap_setCell w1 ⟨b, o, none⟩ v g (Ne.symm hn)) (by simpa using h.2.hg)⟩
theorem Cur.set4 {w0 w1 : World} {g b : Nat} {a : Option Addr} {len cap : Nat} {zs : List Int} {v0 v1 v2 v3 : Value} (h0 : Rd w0 g a len zs) (h : Turn g w0 w1 ∧ Cur w1 g a len cap zs) (hb : w0.heap.size ≤ b) (hn : b ≠ g) :
    Turn g w0 ((((w1.setCell ⟨b, 0, none⟩ v0).setCell ⟨b, 1, none⟩ v1).setCell ⟨b, 2, none⟩ v2).setCell ⟨b, 3, none⟩ v3) ∧ Cur ((((w1.setCell ⟨b, 0, none⟩ v0).setCell ⟨b, 1, none⟩ v1).setCell ⟨b, 2, none⟩ v2).setCell ⟨b, 3, none⟩ v3) g a len cap zs :=
  Cur.set h0 (Cur.set h0 (Cur.set h0 (Cur.set h0 h hb hn) hb hn) hb hn) hb hn
theorem Cur.set2 {w0 w1 : World} {g b : Nat} {a : Option Addr} {len cap : Nat} {zs : List Int} {v0 v1 : Value} (h0 : Rd w0 g a len zs) (h : Turn g w0 w1 ∧ Cur w1 g a len cap zs) (hb : w0.heap.size ≤ b) (hn : b ≠ g) :
    Turn g w0 ((w1.setCell ⟨b, 0, none⟩ v0).setCell ⟨b, 1, none⟩ v1) ∧ Cur ((w1.setCell ⟨b, 0, none⟩ v0).setCell ⟨b, 1, none⟩ v1) g a len cap zs :=
  Cur.set h0 (Cur.set h0 h hb hn) hb hn
theorem Cur.al {w0 w1 : World} {g : Nat} {a : Option Addr} {len cap : Nat} {zs : List Int} (h : Turn g w0 w1 ∧ Cur w1 g a len cap zs) (o : Obj) : Turn g w0 (w1.alloc o) ∧ Cur (w1.alloc o) g a len cap zs := ⟨h.1.alloc o, h.2.alloc o⟩
theorem Cur.dr {w0 w1 : World} {g : Nat} {a : Option Addr} {len cap : Nat} {zs : List Int} (h : Turn g w0 w1 ∧ Cur w1 g a len cap zs) : Turn g w0 w1.drew ∧ Cur w1.drew g a len cap zs := ⟨h.1.drew, h.2.drew⟩
def sel (x : Int) (l : List Int) : Int := l.getD x.toNat 0
theorem sel3 {x : Int} (h0 : 0 ≤ x) (h1 : x < 3) (i0 i1 i2 : Int) : (#[Value.int .i64 i0, .int .i64 i1, .int .i64 i2] : Array Value)[x.toNat]? = some (.int .i64 (sel x [i0, i1, i2])) := by
  have h : x = 0 ∨ x = 1 ∨ x = 2 := by omega
  rcases h with rfl | rfl | rfl <;> rfl
theorem sel4 {x : Int} (h0 : 0 ≤ x) (h1 : x < 4) (i0 i1 i2 i3 : Int) : (#[Value.int .i64 i0, .int .i64 i1, .int .i64 i2, .int .i64 i3] : Array Value)[x.toNat]? = some (.int .i64 (sel x [i0, i1, i2, i3])) := by
  have h : x = 0 ∨ x = 1 ∨ x = 2 ∨ x = 3 := by omega
  rcases h with rfl | rfl | rfl | rfl <;> rfl
theorem sel3L {x : Int} (h0 : 0 ≤ x) (h1 : x < 3) (i0 i1 i2 : Int) (h : x.toNat < [Value.int .i64 i0, .int .i64 i1, .int .i64 i2].length) : [Value.int .i64 i0, .int .i64 i1, .int .i64 i2][x.toNat] = .int .i64 (sel x [i0, i1, i2]) := by
  have h : x = 0 ∨ x = 1 ∨ x = 2 := by omega
  rcases h with rfl | rfl | rfl <;> rfl
theorem sel4L {x : Int} (h0 : 0 ≤ x) (h1 : x < 4) (i0 i1 i2 i3 : Int) (h : x.toNat < [Value.int .i64 i0, .int .i64 i1, .int .i64 i2, .int .i64 i3].length) : [Value.int .i64 i0, .int .i64 i1, .int .i64 i2, .int .i64 i3][x.toNat] = .int .i64 (sel x [i0, i1, i2, i3]) := by
  have h : x = 0 ∨ x = 1 ∨ x = 2 ∨ x = 3 := by omega
  rcases h with rfl | rfl | rfl | rfl <;> rfl
theorem sel5L {x : Int} (h0 : 0 ≤ x) (h1 : x < 5) (i0 i1 i2 i3 i4 : Int) (h : x.toNat < [Value.int .i64 i0, .int .i64 i1, .int .i64 i2, .int .i64 i3, .int .i64 i4].length) : [Value.int .i64 i0, .int .i64 i1, .int .i64 i2, .int .i64 i3, .int .i64 i4][x.toNat] = .int .i64 (sel x [i0, i1, i2, i3, i4]) := by
  have h : x = 0 ∨ x = 1 ∨ x = 2 ∨ x = 3 ∨ x = 4 := by omega
  rcases h with rfl | rfl | rfl | rfl | rfl <;> rfl
theorem sel5 {x : Int} (h0 : 0 ≤ x) (h1 : x < 5) (i0 i1 i2 i3 i4 : Int) : (#[Value.int .i64 i0, .int .i64 i1, .int .i64 i2, .int .i64 i3, .int .i64 i4] : Array Value)[x.toNat]? = some (.int .i64 (sel x [i0, i1, i2, i3, i4])) := by
  have h : x = 0 ∨ x = 1 ∨ x = 2 ∨ x = 3 ∨ x = 4 := by omega
  rcases h with rfl | rfl | rfl | rfl | rfl <;> rfl

theorem turn_lt {g : Nat} {X w1 : World} {o : Obj} (h : Turn g (X.alloc o) w1) : X.heap.size < w1.heap.size := by have := h.size; simp at this; omega
theorem turn_ltd {g : Nat} {X w1 : World} {o : Obj} (h : Turn g (X.alloc o).drew w1) : X.heap.size < w1.heap.size := by have := h.size; simp at this; omega
theorem turn_lt2 {g : Nat} {X w1 : World} {o p : Obj} (h : Turn g ((X.alloc o).alloc p) w1) : X.heap.size < w1.heap.size ∧ X.heap.size + 1 < w1.heap.size := by have := h.size; simp at this; omega
theorem turn_lt2d {g : Nat} {X w1 : World} {o p : Obj} (h : Turn g ((X.alloc o).alloc p).drew w1) : X.heap.size < w1.heap.size ∧ X.heap.size + 1 < w1.heap.size := by have := h.size; simp at this; omega

set_option maxHeartbeats 16000000 in
theorem drawSpot_any (g : Nat) (a : Option Addr) (len cap : Nat) (zs : List Int) (w : World) (hcur : Cur w g a len cap zs) :
    Calls Try.prog 53 #[.pointer (some ⟨g, 0, none⟩)] w fun e w' => ∃ x y : Int, e = .returned (.agg #[.int .i64 x, .int .i64 y]) ∧ Turn g w w' ∧ Cur w' g a len cap zs := by
  have hg := hcur.hg
  have hne0 : w.heap.size ≠ g := by omega
  have HR : Hid (Rd w g a len zs) := hcur.rd
  have HC : Hid (Cur (w.alloc (.cells #[.int .i64 0, .int .i64 0] 37)) g a len cap zs) := hcur.alloc _
  clear hcur
  go_enter Try.func53, Try.ntmps53
  have tok1 : True := trivial
  go_wp2_with (first | (go_at_call 52; (first | refine (once_any _ _ _ _ _ _ _ HC.out (by decide) (by decide)).mono ?_ | refine (once_any _ _ _ _ _ _ _ hcur' (by decide) (by decide)).mono ?_); rintro e w1 ⟨x, rfl, ht', hcur''⟩; (first | replace hT := hT.trans ht' | have hT := ht'); have hcur' := hcur''; (try clear hc hf); have hc := fun b o h1 h2 => hT.cell (b := b) (o := o) h1 h2; have hf := fun b o h1 h2 => hT.frozen (b := b) (o := o) h1 h2) | (go_at_call 51; have _t := tok1; clear _t tok1; refine (below_any _ _ _ _ _ _ _ hcur' (by decide) (by decide)).mono ?_; rintro e w1 ⟨ya, rfl, hy0, hy1, ht', hcur''⟩; replace hT := hT.trans ht'; replace hcur' := hcur''; clear hc hf; have hc := fun b o h1 h2 => hT.cell (b := b) (o := o) h1 h2; have hf := fun b o h1 h2 => hT.frozen (b := b) (o := o) h1 h2) | (go_at_call 51; refine (below_any _ _ _ _ _ _ _ hcur' (by decide) (by decide)).mono ?_; rintro e w1 ⟨yb, rfl, hy0, hy1, ht', hcur''⟩; replace hT := hT.trans ht'; replace hcur' := hcur''; clear hc hf; have hc := fun b o h1 h2 => hT.cell (b := b) (o := o) h1 h2; have hf := fun b o h1 h2 => hT.frozen (b := b) (o := o) h1 h2))
  · have hgn : w1.heap.size ≠ g := by have := hcur'.hg; omega
    have hgn1 : w1.heap.size + 1 ≠ g := by have := hcur'.hg; omega
    have hz0 : w.heap.size < w1.heap.size := by have := hT.size; simp at this; omega
    go_region_with ((go_at_call 51; refine (below_any g a len cap zs _ _ ?_ (by decide) (by decide)).mono ?_; (focus (first | exact hcur' | exact hcur'.drew | exact (hcur'.alloc _) | exact (hcur'.alloc _).drew | exact ((hcur'.alloc _).alloc _) | exact ((hcur'.alloc _).alloc _).drew)); rintro e w3 ⟨v, rfl, hv0, hv1, ht', hcur''⟩; (first | (have hs5 := sel5 hv0 hv1; have hs5L := sel5L hv0 hv1; obtain ⟨v5, hv5⟩ : ∃ v5 : Int, v5 = v := ⟨_, rfl⟩; subst hv5) | (have hs3 := sel3 hv0 hv1; have hs3L := sel3L hv0 hv1; obtain ⟨v3, hv3⟩ : ∃ v3 : Int, v3 = v := ⟨_, rfl⟩; subst hv3)); (first | (replace hT := hT.trans ht'; (try (have hzb := Nat.lt_of_lt_of_le hzb ht'.size; have hzb' := Nat.le_of_lt hzb)); (try (have hza := Nat.lt_of_lt_of_le hza ht'.size; have hza' := Nat.le_of_lt hza))) | replace hT := hT.drew.trans ht' | (replace hT := (hT.alloc _).trans ht'; have hzn := turn_lt ht'; have hzn' := Nat.le_of_lt hzn; (try (have hza := Nat.lt_trans hza hzn; have hza' := Nat.le_of_lt hza))) | (replace hT := (hT.alloc _).drew.trans ht'; have hza := turn_ltd ht'; have hza' := Nat.le_of_lt hza) | (replace hT := ((hT.alloc _).alloc _).trans ht'; obtain ⟨hza, hzb⟩ := turn_lt2 ht'; have hza' := Nat.le_of_lt hza; have hzb' := Nat.le_of_lt hzb) | (replace hT := ((hT.alloc _).alloc _).drew.trans ht'; obtain ⟨hza, hzb⟩ := turn_lt2d ht'; have hza' := Nat.le_of_lt hza; have hzb' := Nat.le_of_lt hzb)); replace hcur' := hcur''; have hz0 := turn_lt hT; have hgn := Nat.ne_of_gt hcur'.hg; have hgn1 := Nat.ne_of_gt (Nat.lt_succ_of_lt hcur'.hg); clear hc hf; have hc := fun b o h1 h2 => hT.cell (b := b) (o := o) h1 h2; have hf := fun b o h1 h2 => hT.frozen (b := b) (o := o) h1 h2; have hcS := fun b o h1 h2 => ht'.cell (b := b) (o := o) h1 h2))
    all_goals
      go_wp2
      refine bodyPost_ret (v := .agg #[.int .i64 (sel v5 [-1, 0, 255, 256, 4611686018427387904]), .int .i64 (sel v3 [0, 255, 256])]) (by first | (simp [results, Try.results53, go_sem, hc, hne0]; done) | (simp [results, Try.results53, go_sem, hc, hne0, hz0]; done)) rfl ⟨_, _, rfl, ?_⟩
      first | exact Cur.set2 HR.out ⟨((Turn.refl g w).alloc _).trans hT, hcur'⟩ (Nat.le_refl _) hne0 | exact Cur.al (Cur.set2 HR.out ⟨((Turn.refl g w).alloc _).trans hT, hcur'⟩ (Nat.le_refl _) hne0) _ | exact Cur.al (Cur.al (Cur.set2 HR.out ⟨((Turn.refl g w).alloc _).trans hT, hcur'⟩ (Nat.le_refl _) hne0) _) _
  all_goals
    refine bodyPost_ret (v := .agg #[.int .i64 ya, .int .i64 yb]) (by simp [results, Try.results53, go_sem, hc, hne0]) rfl ⟨_, _, rfl, ?_⟩
    exact Cur.set2 HR.out ⟨((Turn.refl g w).alloc _).trans hT, hcur'⟩ (Nat.le_refl _) hne0
theorem Cur.fresh {w : World} {a : Option Addr} {len cap : Nat} {zs : List Int} {h : Int} (hl : len ≤ 4096) (hr : Rd w w.heap.size a len zs) : Cur (w.alloc (.cells #[.slice a len cap, .int .i64 0, .int .i64 h] 76)) w.heap.size a len cap zs :=
  ⟨by simp, hl, by simp [go_sem], ⟨0, Nat.zero_le _, by simp [go_sem]⟩, ⟨h, by simp [go_sem]⟩, by simp [go_sem], by simp [go_sem], hr.turn ((Turn.refl _ w).alloc _)⟩
theorem Rd.up {w w' : World} {g g' : Nat} {a : Option Addr} {len : Nat} {zs : List Int} (h : Rd w g a len zs) (t : Below w.heap.size w w') (hg : w.heap.size ≤ g') : Rd w' g' a len zs := by
  rcases h with h | ⟨b, off, ha, _, hb, hc⟩
  · exact .inl h
  · exact .inr ⟨b, off, ha, by omega, Nat.lt_of_lt_of_le hb t.size, fun j hj => ⟨(t.cell (p := ⟨b, off + j, none⟩) hb).trans (hc j hj).1, (hc j hj).2⟩⟩

set_option maxHeartbeats 400000 in
theorem big_any (a : Option Addr) (len cap : Nat) (w : World) :
    Calls Try.prog 8 #[.slice a len cap] w fun e w' => e = .returned (.bool (decide (4096 < (len : Int)))) ∧ w = w' := by
  go_enter Try.func8, Try.ntmps8
  go_wp2
  go_ret
  exact ⟨rfl, rfl⟩

end Go.Proofs.Ytocfdmlkicndoaa
namespace Go.Proofs.Ytocfdmlkicndoaa
open Go.RowKit Go.Joins
attribute [local go_sem ↓] Go.wp_at_zero Go.wp_at_succ

theorem Turn.gr {g : Nat} {w w' : World} (h : Turn g w w') : w.grownBy w' (some g) := ⟨h.os, h.tape, h.output, h.size, fun k hk hne => h.block k hk (fun e => hne (by rw [e]))⟩
theorem Ow.turn {g base : Nat} {W W' : World} {v : Value} {M : List T2} (h : Ow W base v M) (t : Turn g W W') (hg : g < base) : Ow W' base v M :=
  h.kept t.gr (.inr fun e => by have := (h.lt g e).1; omega)
theorem Has.turn {g : Nat} {W W' : World} {l : List (Nat × List Value)} (h : Has W l) (t : Turn g W W') (hl : ∀ p ∈ l, p.1 ≠ g) : Has W' l := h.grown t.gr hl
theorem Turn.row {g : Nat} {w W W' : World} {v : Value} {M : List T2} (h : Turn g w W) (ho : Ow W w.heap.size v M) (hg : W.grownBy W' v.ownBlock) : Turn g w W' :=
  ⟨hg.os.trans h.os, hg.tape.trans h.tape, hg.output.trans h.output, Nat.le_trans h.size hg.size, fun k hk hne => (hg.block k (Nat.lt_of_lt_of_le hk h.size) (fun e => by have := (ho.lt k e.symm).1; omega)).trans (h.block k hk hne)⟩
/-- What a drawing call leaves: the cursor, a list of one's own. -/
structure Dr (w W : World) (g : Nat) (a : Option Addr) (len cap : Nat) (zs : List Int) (v : Value) (M : List T2) : Prop where
  turn : Turn g w W
  cur : Cur W g a len cap zs
  own : Ow W w.heap.size v M
theorem Dr.call {w W W' : World} {g : Nat} {a : Option Addr} {len cap : Nat} {zs : List Int} {v : Value} {M : List T2} (h : Dr w W g a len cap zs v M) (hg : g < w.heap.size) (t : Turn g W W') (c : Cur W' g a len cap zs) : Dr w W' g a len cap zs v M :=
  ⟨h.turn.trans t, c, h.own.turn t hg⟩
theorem Dr.below {w W W' : World} {g : Nat} {a : Option Addr} {len cap : Nat} {zs : List Int} {v : Value} {M : List T2} (h : Dr w W g a len cap zs v M) (hb : Below W.heap.size W W') : Dr w W' g a len cap zs v M :=
  ⟨h.turn.trans (Turn.of hb), h.cur.below hb, own_of_below h.own hb⟩
theorem Dr.row {w W W' : World} {g : Nat} {a : Option Addr} {len cap : Nat} {zs : List Int} {v v' : Value} {M M' : List T2} (h : Dr w W g a len cap zs v M) (hw : Rd w g a len zs) (hg : g < w.heap.size) (hgr : W.grownBy W' v.ownBlock) (ho : Ow W' w.heap.size v' M') : Dr w W' g a len cap zs v' M' := by
  have t := h.turn.row h.own hgr
  refine ⟨t, ?_, ho⟩
  exact Cur.keep2 h.cur hw t (hgr.block g h.cur.hg (fun e => by have := (h.own.lt g e.symm).1; omega)) (Nat.lt_of_lt_of_le h.cur.hg hgr.size)
theorem grown_set (W : World) (b o : Nat) (u : Value) : W.grownBy (W.setCell ⟨b, o, none⟩ u) (some b) :=
  ⟨rfl, rfl, rfl, by simp, fun k _ hne => Below.heap_setCell W ⟨b, o, none⟩ u k (fun e => hne (by rw [show k = b from e]))⟩
theorem Dr.set {w W : World} {g b o : Nat} {a : Option Addr} {len cap : Nat} {zs : List Int} {v : Value} {M : List T2} (h : Dr w W g a len cap zs v M) (hw : Rd w g a len zs) (hb : w.heap.size ≤ b) (hbg : b ≠ g) (hbo : v.ownBlock ≠ some b) (u : Value) : Dr w (W.setCell ⟨b, o, none⟩ u) g a len cap zs v M :=
  ⟨h.turn.setNew hb u, Cur.keep2 h.cur hw (h.turn.setNew hb u) (Below.heap_setCell W ⟨b, o, none⟩ u g (fun e => hbg e.symm)) (by simpa using h.cur.hg), h.own.kept (grown_set W b o u) (.inr hbo)⟩

theorem Has.set {W : World} {b : Nat} {vs : List Value} (h : Has W [(b, vs)]) (i : Nat) (hi : i < vs.length) (v : Value) : Has (W.setCell ⟨b, i, none⟩ v) [(b, vs.set i v)] := by
  obtain ⟨⟨h2, h3, h4⟩, _⟩ := h
  refine ⟨⟨by simpa using h2, fun o => (World.frozen?_setCell ..).trans (h3 o), hasAt_of _ _ (fun j u hj => ?_)⟩, trivial⟩
  have hg := HasAt.get h4
  by_cases e : i = j
  · subst e
    have hu : u = v := by rw [List.getElem?_set_self hi] at hj; exact (Option.some.inj hj).symm
    subst hu
    have := hg i _ (List.getElem?_eq_getElem hi)
    rw [Nat.zero_add] at this ⊢
    exact World.cell?_setCell_same' _ _ _ (by rw [this]; rfl)
  · rw [List.getElem?_set_ne e] at hj
    have := hg j u hj
    rw [Nat.zero_add] at this ⊢
    refine (World.cell?_setCell_other _ _ _ _ (fun q => e ?_)).trans this
    injection q
set_option maxHeartbeats 400000 in
theorem from_any (g : Nat) (a : Option Addr) (len cap : Nat) (zs : List Int) (w : World) (hcur : Cur w g a len cap zs) :
    Calls Try.prog 36 #[.pointer (some ⟨g, 0, none⟩), .int .i64 (-1), .int .i64 60] w fun e w' => ∃ x : Int, e = .returned (.int .i64 x) ∧ Turn g w w' ∧ Cur w' g a len cap zs := by
  have HC : Hid (Cur w g a len cap zs) := hcur
  clear hcur
  go_enter Try.func36, Try.ntmps36
  go_wp2_with (go_at_call 51; refine (below_any _ _ _ _ _ _ _ HC.out (by decide) (by decide)).mono ?_; rintro e w1 ⟨x, rfl, hx0, hx1, ht, hcur'⟩)
  go_ret
  exact ⟨_, rfl, ht, hcur'⟩

set_option maxRecDepth 100000 in
set_option maxHeartbeats 4000000 in
theorem l5Draw_any (g : Nat) (a : Option Addr) (len cap : Nat) (zs : List Int) (w : World) (hcur : Cur w g a len cap zs) (hrd : Rd w g a len zs) :
    Calls Try.prog 30 #[.pointer (some ⟨g, 0, none⟩), .int .i64 9] w fun e w' => ∃ q cap' L, e = .returned (.slice (some ⟨q, 0, none⟩) L.length cap') ∧ Dr w w' g a len cap zs (.slice (some ⟨q, 0, none⟩) L.length cap') L ∧ L.length ≤ 41 := by
  obtain ⟨i0, hi, hz0, hz1, hz2⟩ := info_parts info37
  have hg := hcur.hg
  have hd0 : Dr w (w.alloc (.cells #[] 37)) g a len cap zs (.slice (some ⟨w.heap.size, 0, none⟩) 0 0) [] := ⟨Turn.of (below_alloc1 _ _), hcur.below (below_alloc1 _ _), World.ownsRow_made (base := w.heap.size) (e := 37) (size := 2) w #[] 0 (Nat.le_refl _) (by unfold maxLen; omega) rfl⟩
  have hmade : ∀ (W : World) (n : Nat), w.heap.size ≤ W.heap.size → n < 2 → Ow (W.alloc (.cells (madeCells #[.int .i64 0, .int .i64 0] ((40 + n) * 2)) 37)) w.heap.size (.slice (some ⟨W.heap.size, 0, none⟩) (40 + n) (40 + n)) (List.replicate (40 + n) zro) := by
    intro W n hW hn
    have := World.ownsRow_lit (base := w.heap.size) (e := 37) (size := 2) W (madeCells #[.int .i64 0, .int .i64 0] ((40 + n) * 2)) (40 + n) hW (by unfold maxLen; omega) (size_madeCells _ _)
    rw [made_flat] at this
    unfold Ow; rw [List.length_replicate]; exact this
  go_enter Try.func30, Try.ntmps30
  go_wp2_with (go_at_call 51; refine (below_any _ _ _ _ _ _ _ hd0.cur (by decide) (by decide)).mono ?_; rintro e w1 ⟨x, rfl, hx0, hx6, ht, hc⟩; have hd := hd0.call hg ht hc)
  go_loopw [5, 6] (fun lv nv wr => ∃ (k q cap' : Nat) (M : List T2), nv = .int .i64 k ∧ lv = .slice (some ⟨q, 0, none⟩) M.length cap' ∧ Dr w wr g a len cap zs (.slice (some ⟨q, 0, none⟩) M.length cap') M ∧ M.length + k ≤ 9) (fun _ nv _ => (intOf nv).toNat)
  case atStart => exact ⟨x.toNat, _, _, [], by congr 1; omega, rfl, hd, by simp; omega⟩
  case round =>
    clear hd0 hd ht hc
    obtain ⟨k, q, cap', M, rfl, rfl, hD, hml⟩ := hrel
    by_cases hlt : 0 < k
    · have hki : (0 : Int) < k := by omega
      have tok1 : True := trivial
      go_upto_region 6 with (first
        | (go_at_call 51; clear tok1; refine (below_any _ _ _ _ _ _ _ hD.cur (by decide) (by decide)).mono ?_; rintro e w2 ⟨sx, rfl, _, _, ht2, hc2⟩; replace hD := hD.call hg ht2 hc2; clear ht2 hc2)
        | (go_at_call 51; refine (below_any _ _ _ _ _ _ _ hD.cur (by decide) (by decide)).mono ?_; rintro e w2 ⟨sy, rfl, _, _, ht2, hc2⟩; replace hD := hD.call hg ht2 hc2; clear ht2 hc2))
      have hH := ((St.nil w2).push [.int .i64 sx, .int .i64 sy] 37).has
      have hbr : ∀ {b : Nat}, b = w2.heap.size → w.heap.size ≤ b ∧ b ≠ g ∧ q ≠ b := fun e => by
        have h1 := (hD.own.lt q rfl).2
        have h2 := hD.cur.hg
        have h3 := hD.turn.size
        omega
      have hbr := hbr rfl
      replace hD := hD.below (below_alloc1 w2 (.cells #[.int .i64 sx, .int .i64 sy] 37))
      generalize w2.alloc _ = W3 at hD hH ⊢
      generalize w2.heap.size = b at hH hbr ⊢
      obtain ⟨hb1, hb2, hb3⟩ := hbr
      go_upto_if 22 with (go_at_call 52; refine (once_any _ _ _ _ _ _ _ hD.cur (by decide) (by decide)).mono ?_; rintro e w3 ⟨xb, rfl, ht3, hc3⟩; replace hD := hD.call hg ht3 hc3; replace hH := hH.turn ht3 (fun p hp => by simp at hp; subst hp; exact hb2); clear ht3 hc3)
      cases xb
      · have hk1 := hH
        simp [Has, HasAt] at hk1
        go_wp2_with (at_builtin; refine wpList_app rfl _ _ rfl (base := w.heap.size) (M := M) (B := [⟨sx, sy⟩]) rfl (hD.below (below_alloc1 _ (.cells #[.int .i64 sx, .int .i64 sy] 37))).own _ _ rfl (fun i u hi => by rw [show flat [⟨sx, sy⟩] = [.int .i64 sx, .int .i64 sy] by simp [flat, T2.vs]] at hi; exact cell_two_at rfl i u hi) (by first | omega | (simp; omega)) (by have := hD.turn.size; first | omega | (simp; omega)) ?_; intro q2 cap2 w4 hO4 hg4 ha4; have hD4 := (hD.below (below_alloc1 _ (.cells #[.int .i64 sx, .int .i64 sy] 37))).row hrd hg hg4 hO4; clear hO4 hg4 ha4; have hM4l : (M ++ [(⟨sx, sy⟩ : T2)]).length = M.length + 1 := (by simp); generalize hM4 : M ++ [(⟨sx, sy⟩ : T2)] = M4 at hD4 hM4l ⊢; clear hM4)
        go_roundw
        case rel => exact ⟨k - 1, q2, cap2, M4, by congr 1; omega, by rw [hM4l], hD4, by omega⟩
        case measure => simp [intOf]; omega
      · have hk1 := hH
        simp [Has, HasAt] at hk1
        go_upto_region 8 with fail
        have hH2 := hH.set 1 (by simp) (.int .i64 sx)
        replace hD := hD.set (o := 1) hrd hb1 hb2 (fun e => hb3 (by injection e)) (.int .i64 sx)
        generalize World.setCell _ _ _ = W5 at hD hH2 ⊢
        clear hk1 hH
        have hk1 := hH2
        simp [Has, HasAt] at hk1
        go_wp2_with (at_builtin; refine wpList_app rfl _ _ rfl (base := w.heap.size) (M := M) (B := [⟨sx, sx⟩]) rfl (hD.below (below_alloc1 _ (.cells #[.int .i64 sx, .int .i64 sx] 37))).own _ _ rfl (fun i u hi => by rw [show flat [⟨sx, sx⟩] = [.int .i64 sx, .int .i64 sx] by simp [flat, T2.vs]] at hi; exact cell_two_at rfl i u hi) (by first | omega | (simp; omega)) (by have := hD.turn.size; first | omega | (simp; omega)) ?_; intro q2 cap2 w4 hO4 hg4 ha4; have hD4 := (hD.below (below_alloc1 _ (.cells #[.int .i64 sx, .int .i64 sx] 37))).row hrd hg hg4 hO4; clear hO4 hg4 ha4; have hM4l : (M ++ [(⟨sx, sx⟩ : T2)]).length = M.length + 1 := (by simp); generalize hM4 : M ++ [(⟨sx, sx⟩ : T2)] = M4 at hD4 hM4l ⊢; clear hM4)
        go_roundw
        case rel => exact ⟨k - 1, q2, cap2, M4, by congr 1; omega, by rw [hM4l], hD4, by omega⟩
        case measure => simp [intOf]; omega
    · obtain rfl : k = 0 := by omega
      have hk0 : ¬ (0 : Int) < ((0 : Nat) : Int) := by omega
      go_upto_if 31 with (go_at_call 52; refine (once_any _ _ _ _ _ _ _ hD.cur (by decide) (by decide)).mono ?_; rintro e w5 ⟨xb, rfl, ht5, hc5⟩; replace hD := hD.call hg ht5 hc5; clear ht5 hc5)
      cases xb
      · go_upto_if 38 with (go_at_call 52; refine (once_any _ _ _ _ _ _ _ hD.cur (by decide) (by decide)).mono ?_; rintro e w6 ⟨xc, rfl, ht6, hc6⟩; replace hD := hD.call hg ht6 hc6; clear ht6 hc6)
        cases xc
        · go_wp2_with fail
          go_ret
          exact ⟨q, cap', M, (by first | rfl | (rw [hM4l]; rfl)), hD, by omega⟩
        · go_upto_region 13 with (first
            | (go_at_call 51; refine (below_any _ _ _ _ _ _ _ hD.cur (by decide) (by decide)).mono ?_; rintro e w7 ⟨x7, rfl, h70, h71, ht7, hc7⟩; have hT7 := hD.turn.trans ht7; obtain ⟨n7, rfl⟩ : ∃ n7 : Nat, x7 = n7 := (⟨x7.toNat, by omega⟩); have hmk := run_make (P := Try.prog) w7 24 37 i0 _ Try.underlying24 hi hz0 .i64 .i64 (40 + (n7 : Int)) (40 + (n7 : Int)) (by omega) (by omega) (by rw [hz2]; omega) (by omega); have hn7 : n7 < 2 := (by omega); rw [hz1, show (40 + (n7 : Int)).toNat = 40 + n7 by omega] at hmk; clear h70 h71))
          have hrow := hmade w7 n7 (by have := hT7.size; omega) hn7
          have hD7 : Dr w _ g a len cap zs (.slice (some ⟨w7.heap.size, 0, none⟩) (40 + n7) (40 + n7)) (List.replicate (40 + n7) zro) := ⟨hT7.alloc _, hc7.alloc _, hrow⟩
          go_wp2_with fail
        
          go_ret
          exact ⟨w7.heap.size, 40 + n7, List.replicate (40 + n7) zro, by simp, by rw [List.length_replicate]; exact hD7, by rw [List.length_replicate]; omega⟩
      · go_upto_region 11 with (first
          | (go_at_call 53; refine (drawSpot_any _ _ _ _ _ _ hD.cur).mono ?_; rintro e w5 ⟨sx, sy, rfl, ht5, hc5⟩; replace hD := hD.call hg ht5 hc5; clear ht5 hc5)
          | (at_builtin; refine wpList_app rfl _ _ rfl (base := w.heap.size) (M := M) (B := [⟨sx, sy⟩]) rfl (hD.below (below_alloc1 _ (.cells #[.int .i64 sx, .int .i64 sy] 37))).own _ _ rfl (fun i u hi => by rw [show flat [⟨sx, sy⟩] = [.int .i64 sx, .int .i64 sy] by simp [flat, T2.vs]] at hi; exact cell_two_at rfl i u hi) (by first | omega | (simp; omega)) (by have := hD.turn.size; first | omega | (simp; omega)) ?_; intro q2 cap2 w4 hO4 hg4 ha4; have hD4 := (hD.below (below_alloc1 _ (.cells #[.int .i64 sx, .int .i64 sy] 37))).row hrd hg hg4 hO4; clear hO4 hg4 ha4; have hM4l : (M ++ [(⟨sx, sy⟩ : T2)]).length = M.length + 1 := (by simp); generalize hM4 : M ++ [(⟨sx, sy⟩ : T2)] = M4 at hD4 hM4l ⊢; clear hM4))
        go_upto_if 38 with (go_at_call 52; refine (once_any _ _ _ _ _ _ _ hD4.cur (by decide) (by decide)).mono ?_; rintro e w6 ⟨xc, rfl, ht6, hc6⟩; replace hD4 := hD4.call hg ht6 hc6; clear ht6 hc6)
        cases xc
        · go_wp2_with fail
          go_ret
          exact ⟨q2, cap2, M4, (by first | rfl | (rw [hM4l]; rfl)), hD4, by omega⟩
        · go_upto_region 13 with (first
            | (go_at_call 51; refine (below_any _ _ _ _ _ _ _ hD4.cur (by decide) (by decide)).mono ?_; rintro e w7 ⟨x7, rfl, h70, h71, ht7, hc7⟩; have hT7 := hD4.turn.trans ht7; obtain ⟨n7, rfl⟩ : ∃ n7 : Nat, x7 = n7 := (⟨x7.toNat, by omega⟩); have hmk := run_make (P := Try.prog) w7 24 37 i0 _ Try.underlying24 hi hz0 .i64 .i64 (40 + (n7 : Int)) (40 + (n7 : Int)) (by omega) (by omega) (by rw [hz2]; omega) (by omega); have hn7 : n7 < 2 := (by omega); rw [hz1, show (40 + (n7 : Int)).toNat = 40 + n7 by omega] at hmk; clear h70 h71))
          have hrow := hmade w7 n7 (by have := hT7.size; omega) hn7
          have hD7 : Dr w _ g a len cap zs (.slice (some ⟨w7.heap.size, 0, none⟩) (40 + n7) (40 + n7)) (List.replicate (40 + n7) zro) := ⟨hT7.alloc _, hc7.alloc _, hrow⟩
          go_wp2_with fail
        
          go_ret
          exact ⟨w7.heap.size, 40 + n7, List.replicate (40 + n7) zro, by simp, by rw [List.length_replicate]; exact hD7, by rw [List.length_replicate]; omega⟩
end Go.Proofs.Ytocfdmlkicndoaa
