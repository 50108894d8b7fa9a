/-
  What FnSeals draws: keys, texts, lists of texts.
-/
import Derived.Test.YtmphjakdmknkhaaA5
import Derived.Test.YtmphjakdmknkhaaW7
import Derived.Laws.BytesArg
import Derived.Laws.IdiomStrings
namespace Go.Proofs.Ytmphjakdmknkhaa
open Go.RowKit Go.Joins
attribute [local go_sem] Oper.semAt_some

theorem Turn.gr {g : Nat} {w w' : World} (h : Turn g w w') : w.grownBy w' (some g) := ⟨h.os, h.tape, h.output, h.size, fun k hk hne => h.block k hk (fun e => hne (by rw [e]))⟩
theorem own_turn {g base e s n : Nat} {W W' : World} {v : Value} {xs : List Value} (h : W.ownsRow base e s v n xs) (t : Turn g W W') (hg : g < base) : W'.ownsRow base e s v n xs :=
  h.kept t.gr (.inr fun e => by have := (World.ownsRow.lt h g e).1; omega)
/-- What a drawing call leaves: the cursor, a list of one's own. -/
structure Dr {α : Type} (K : Kd α) (w W : World) (g : Nat) (a : Option Addr) (len cap : Nat) (zs : List Int) (v : Value) (n : Nat) (M : List α) : Prop where
  turn : Turn g w W
  cur : Cur W g a len cap zs
  own : W.ownsRow w.heap.size K.t K.n v n (K.flat M)
section
variable {α : Type} {K : Kd α} {w W W' : World} {g : Nat} {a : Option Addr} {len cap : Nat} {zs : List Int} {v v' : Value} {n n' : Nat} {M M' : List α}
theorem Dr.call (h : Dr K w W g a len cap zs v n M) (hg : g < w.heap.size) (t : Turn g W W') (c : Cur W' g a len cap zs) : Dr K w W' g a len cap zs v n M :=
  ⟨h.turn.trans t, c, own_turn h.own t hg⟩
theorem Dr.below (h : Dr K w W g a len cap zs v n M) (hb : Below W.heap.size W W') : Dr K w W' g a len cap zs v n M :=
  ⟨h.turn.trans (Turn.of hb), h.cur.below hb, own_of_below h.own hb⟩
theorem Dr.row (h : Dr K w W g a len cap zs v n M) (hw : Rd w g a len zs) (hg : g < w.heap.size) (hgr : W.grownBy W' v.ownBlock) (ho : W'.ownsRow w.heap.size K.t K.n v' n' (K.flat M')) : Dr K w W' g a len cap zs v' n' M' := by
  have t : Turn g w W' := ⟨hgr.os.trans h.turn.os, hgr.tape.trans h.turn.tape, hgr.output.trans h.turn.output, Nat.le_trans h.turn.size hgr.size, fun k hk hne => (hgr.block k (Nat.lt_of_lt_of_le hk h.turn.size) (fun e => by have := (World.ownsRow.lt h.own k e.symm).1; omega)).trans (h.turn.block k hk hne)⟩
  refine ⟨t, ?_, ho⟩
  exact Cur.keep2 h.cur hw t (hgr.block g h.cur.hg (fun e => by have := (World.ownsRow.lt h.own g e.symm).1; omega)) (Nat.lt_of_lt_of_le h.cur.hg hgr.size)
end
theorem cell1_at {w : World} {g : Nat} {a : Value} {t : TypeId} (hg : g = w.heap.size) : ∀ j u, [a][j]? = some u → (w.alloc (.cells #[a] t)).cell? ((⟨g, 0, none⟩ : Addr).add j) = some u := by
  subst hg
  intro j u hj
  have ea : (⟨w.heap.size, 0, none⟩ : Addr).add j = ⟨w.heap.size, j, none⟩ := by unfold Addr.add; split <;> simp_all
  rw [ea, World.cell?_alloc_at _ _ _ _ rfl]
  simpa using hj

set_option maxHeartbeats 1000000 in
theorem below4_any (g : Nat) (a : Option Addr) (len cap : Nat) (zs : List Int) (n : Int) (w : World) (hcur : Cur w g a len cap zs) (hn1 : 256 < n) (hn2 : n ≤ 100000) :
    Calls Try.prog 23 #[.pointer (some ⟨g, 0, none⟩), .int .i64 n] w fun e w' => ∃ x : Int, e = .returned (.int .i64 x) ∧ 0 ≤ x ∧ x < n ∧ Turn g w w' ∧ Cur w' g a len cap zs := by
  have HC : Hid (Cur w g a len cap zs) := hcur
  have ht : Turn g w w := Turn.refl _ _
  clear hcur
  go_enter Try.func23, Try.ntmps23
  go_wp2_with (first
    | (go_at_call 31; refine (byte_any _ _ _ _ _ _ HC.out).mono ?_; clear HC; rintro e w1 ⟨x1, rfl, hx10, hx11, ht1, hcur1⟩; have h1 : True := trivial)
    | (go_at_call 31; clear h1; refine (byte_any _ _ _ _ _ _ hcur1).mono ?_; rintro e w2 ⟨x2, rfl, hx20, hx21, ht2, hcur2⟩; have h2 : True := trivial)
    | (go_at_call 31; clear h2; refine (byte_any _ _ _ _ _ _ hcur2).mono ?_; rintro e w3 ⟨x3, rfl, hx30, hx31, ht3, hcur3⟩; have h3 : True := trivial)
    | (go_at_call 31; clear h3; refine (byte_any _ _ _ _ _ _ hcur3).mono ?_; rintro e w4 ⟨x4, rfl, hx40, hx41, ht4, hcur4⟩))
  go_ret
  exact ⟨_, rfl, Int.emod_nonneg _ (by omega), Int.emod_lt_of_pos _ (by omega), ((ht1.trans ht2).trans ht3).trans ht4, hcur4⟩

def sel (x : Int) (l : List Int) : Int := l.getD x.toNat 0
theorem sel4 {x : Int} (h0 : 0 ≤ x) (h1 : x < 4) (i0 i1 i2 i3 : Int) : (#[Value.int .i64 i0, .int .i64 i1, .int .i64 i2, .int .i64 i3] : Array Value)[x.toNat]? = some (.int .i64 (sel x [i0, i1, i2, i3])) := by
  have h : x = 0 ∨ x = 1 ∨ x = 2 ∨ x = 3 := by omega
  rcases h with rfl | rfl | rfl | rfl <;> rfl
theorem cell4_at {w : World} {b c d e : Int} (x : Int) (h0 : 0 ≤ x) (h1 : x < 4) : (w.alloc (.cells #[.int .i64 b, .int .i64 c, .int .i64 d, .int .i64 e] 2)).cell? ⟨w.heap.size, x.toNat, none⟩ = some (.int .i64 (sel x [b, c, d, e])) := by
  rw [World.cell?_alloc_at _ _ _ _ rfl]
  exact sel4 h0 h1 b c d e

set_option maxHeartbeats 1000000 in
theorem drawKey_any (g : Nat) (a : Option Addr) (len cap : Nat) (zs : List Int) (w : World) (hcur : Cur w g a len cap zs) :
    Calls Try.prog 22 #[.pointer (some ⟨g, 0, none⟩)] w fun e w' => ∃ x : Int, e = .returned (.int .i64 x) ∧ Turn g w w' ∧ Cur w' g a len cap zs := by
  go_enter Try.func22, Try.ntmps22
  go_upto_if 4 with (go_at_call 25; refine (once_any _ _ _ _ _ _ _ hcur (by decide) (by decide)).mono ?_; rintro e w1 ⟨xb, rfl, ht1, hc1⟩)
  have hg := hc1.hg
  cases xb
  · go_wp2_with (go_at_call 23; refine (below4_any _ _ _ _ _ _ _ hc1 (by decide) (by decide)).mono ?_; rintro e w2 ⟨x2, rfl, hx0, hx1, ht2, hc2⟩)
    go_ret
    exact ⟨_, rfl, ht1.trans ht2, hc2⟩
  · go_wp2_with (go_at_call 23; refine (below_any _ _ _ _ _ _ _ (hc1.alloc _) (by decide) (by decide)).mono ?_; rintro e w2 ⟨x2, rfl, hx0, hx1, ht2, hc2⟩; have hcell := (ht2.cell (b := w1.heap.size) (o := x2.toNat) (by simp) (by omega)).trans (cell4_at x2 hx0 hx1))
    go_ret
    exact ⟨_, rfl, (ht1.alloc _).trans ht2, hc2⟩
end Go.Proofs.Ytmphjakdmknkhaa
