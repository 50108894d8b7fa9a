/-
  Draws: what the laws draw of Papers.
-/
import Derived.Test.YtbkiogedipmioaaGreatVN2
import Derived.Test.YtbkiogedipmioaaGreatVMD4
namespace Go.Proofs.YtbkiogedipmioaaGreat.V
open Go.RowKit Go.Joins M
attribute [local go_sem] Oper.semAt_some

theorem Turn.gr {g : Nat} {w w' : World} (h : Turn g w w') : w.grownBy w' (some g) := ⟨h.os, h.tape, h.output, h.size, fun k hk hne => h.block k hk (fun e => hne (by rw [e]))⟩
/-- A cursor: its block, and what it draws from. -/
structure Cu where
  g : Nat
  a : Option Addr
  len : Nat
  cap : Nat
  zs : List Int
abbrev CurC (W : World) (C : Cu) : Prop := Cur W C.g C.a C.len C.cap C.zs
/-- Rows of one's own since w, and a cursor that is as new. -/
structure Sc (w W : World) (C : Cu) (rs : List Rw) : Prop where
  sg : Sg w W rs
  cur : CurC W C
  new : w.heap.size ≤ C.g
  dis : ∀ r ∈ rs, r.v.ownBlock ≠ some C.g
  rd0 : Rd w C.g C.a C.len C.zs
section
variable {w W W' : World} {C : Cu} {rs rs' : List Rw}
theorem Sc.call (h : Sc w W C rs) (t : Turn C.g W W') (c : CurC W' C) : Sc w W' C rs :=
  ⟨⟨h.sg.bel.trans (t.below h.new h.sg.bel.size), fun r hr => World.ownsRow.kept (h.sg.own r hr) (Turn.gr t) (.inr (h.dis r hr)), h.sg.dis⟩, c, h.new, h.dis, h.rd0⟩
theorem Sc.step (h : Sc w W C rs) (hb : Below W.heap.size W W') : Sc w W' C rs := ⟨h.sg.step hb, h.cur.below hb, h.new, h.dis, h.rd0⟩
theorem Sc.addL (h : Sc w W C rs) (h' : Sg W W' rs') : Sc w W' C (rs' ++ rs) :=
  ⟨h.sg.addL h', h.cur.below h'.bel, h.new, fun r hr => by
    rcases List.mem_append.mp hr with hr | hr
    · intro e
      have := World.ownsRow.lt (h'.own r hr) _ e
      have := h.cur.hg
      omega
    · exact h.dis r hr, h.rd0⟩
theorem Sc.sub (h : Sc w W C rs) (hs : rs'.Sublist rs) : Sc w W C rs' := ⟨h.sg.sub hs, h.cur, h.new, fun r hr => h.dis r (hs.subset hr), h.rd0⟩
theorem Sc.perm (h : Sc w W C rs) (hs : rs.Perm rs') : Sc w W C rs' := ⟨h.sg.perm hs, h.cur, h.new, fun r hr => h.dis r (hs.mem_iff.2 hr), h.rd0⟩
theorem Sc.al (h : Sc w W C rs) (o : Obj) : Sc w (W.alloc o) C rs := h.step (below_alloc1 _ _)
theorem Sc.dr (h : Sc w W C rs) : Sc w W.drew C rs := h.step (Below.refl _ _).drew
theorem Sc.lit {α : Type} (h : Sc w W C rs) (K : Kd α) (L : List α) (n : Nat) (hn : L.length = n) (hm : n ≤ 1000000) (cs : Array Value) (hc : cs.toList = K.flat L) : Sc w (W.alloc (.cells cs K.t)) C (rG K (.slice (some ⟨W.heap.size, 0, none⟩) n n) L :: rs) :=
  ⟨h.sg.lit K L n hn hm cs hc, h.cur.alloc _, h.new, fun r hr => by
    rcases List.mem_cons.mp hr with rfl | hr
    · intro e
      have e' : W.heap.size = C.g := Option.some.inj e
      have := h.cur.hg
      omega
    · exact h.dis r hr, h.rd0⟩
/-- Behind a step that keeps the cursor's block. -/
theorem Sc.turn (h : Sc w W C rs) (h' : Sg w W' rs') (hb : W'.heap[C.g]? = W.heap[C.g]?) (hd : ∀ r ∈ rs', r.v.ownBlock ≠ some C.g) : Sc w W' C rs' := by
  refine ⟨h', Cur.keep2 h.cur h.rd0 (Turn.of h'.bel) hb ?_, h.new, hd, h.rd0⟩
  have hlt : C.g < W.heap.size := h.cur.hg
  rw [Array.getElem?_eq_getElem hlt] at hb
  exact (Array.getElem?_eq_some_iff.mp hb).1
theorem Sc.app {α : Type} {K : Kd α} {v : Value} {M M' : List α} {g' n' c' : Nat} (h : Sc w W C (rG K v M :: rs)) (h' : Sg w W' (rG K (.slice (some ⟨g', 0, none⟩) n' c') M' :: rs)) (hg : W.grownBy W' v.ownBlock) (ha : v.ownBlock = some g' ∨ g' = W.heap.size) : Sc w W' C (rG K (.slice (some ⟨g', 0, none⟩) n' c') M' :: rs) := by
  have hd := h.dis (rG K v M) (List.mem_cons_self ..)
  refine h.turn h' (hg.block _ h.cur.hg (fun e => hd e.symm)) fun r hr => ?_
  rcases List.mem_cons.mp hr with rfl | hr
  · intro e
    have e' : g' = C.g := Option.some.inj e
    rcases ha with ha | ha
    · exact hd (by rw [← e']; exact ha)
    · have := h.cur.hg; omega
  · exact h.dis r (List.mem_cons_of_mem _ hr)
end
set_option maxHeartbeats 1000000 in
theorem below4_any (g : Nat) (a : Option Addr) (len cap : Nat) (zs : List Int) (n : Int) (w : World) (hcur : Cur w g a len cap zs) (hn1 : 256 < n) (hn2 : n ≤ 100000) :
    Calls Tryz.prog 63 #[.pointer (some ⟨g, 0, none⟩), .int .i64 n] w fun e w' => ∃ x : Int, e = .returned (.int .i64 x) ∧ 0 ≤ x ∧ x < n ∧ Turn g w w' ∧ Cur w' g a len cap zs := by
  have HC : Hid (Cur w g a len cap zs) := hcur
  clear hcur
  go_enter Tryz.func63, Tryz.ntmps63
  go_wp2_with (first
    | (go_at_call 100; refine (byte_any _ _ _ _ _ _ HC.out).mono ?_; clear HC; rintro e w1 ⟨x1, rfl, hx10, hx11, ht1, hcur1⟩; have h1 : True := trivial)
    | (go_at_call 100; clear h1; refine (byte_any _ _ _ _ _ _ hcur1).mono ?_; rintro e w2 ⟨x2, rfl, hx20, hx21, ht2, hcur2⟩; have h2 : True := trivial)
    | (go_at_call 100; clear h2; refine (byte_any _ _ _ _ _ _ hcur2).mono ?_; rintro e w3 ⟨x3, rfl, hx30, hx31, ht3, hcur3⟩; have h3 : True := trivial)
    | (go_at_call 100; clear h3; refine (byte_any _ _ _ _ _ _ hcur3).mono ?_; rintro e w4 ⟨x4, rfl, hx40, hx41, ht4, hcur4⟩))
  go_ret
  exact ⟨_, rfl, Int.emod_nonneg _ (by omega), Int.emod_lt_of_pos _ (by omega), ((ht1.trans ht2).trans ht3).trans ht4, hcur4⟩
theorem cell4_at {w : World} {b c d e : Int} (x : Int) (h0 : 0 ≤ x) (h1 : x < 4) : (w.alloc (.cells #[.int .i64 b, .int .i64 c, .int .i64 d, .int .i64 e] 2)).cell? ⟨w.heap.size, x.toNat, none⟩ = some (.int .i64 (sel x [b, c, d, e])) := by
  rw [World.cell?_alloc_at _ _ _ _ rfl]
  exact sel4 h0 h1 b c d e
theorem cell3_at {w : World} {b c d : Int} (x : Int) (h0 : 0 ≤ x) (h1 : x < 3) : (w.alloc (.cells #[.int .i64 b, .int .i64 c, .int .i64 d] 2)).cell? ⟨w.heap.size, x.toNat, none⟩ = some (.int .i64 (sel x [b, c, d])) := by
  rw [World.cell?_alloc_at _ _ _ _ rfl]
  exact sel3 h0 h1 b c d
theorem cell5_at {w : World} {b c d e f : Int} (x : Int) (h0 : 0 ≤ x) (h1 : x < 5) : (w.alloc (.cells #[.int .i64 b, .int .i64 c, .int .i64 d, .int .i64 e, .int .i64 f] 2)).cell? ⟨w.heap.size, x.toNat, none⟩ = some (.int .i64 (sel x [b, c, d, e, f])) := by
  rw [World.cell?_alloc_at _ _ _ _ rfl]
  exact sel5 h0 h1 b c d e f
set_option maxHeartbeats 1000000 in
theorem drawKey_any (g : Nat) (a : Option Addr) (len cap : Nat) (zs : List Int) (w : World) (hcur : Cur w g a len cap zs) :
    Calls Tryz.prog 61 #[.pointer (some ⟨g, 0, none⟩)] w fun e w' => ∃ x : Int, e = .returned (.int .i64 x) ∧ Turn g w w' ∧ Cur w' g a len cap zs := by
  go_enter Tryz.func61, Tryz.ntmps61
  go_upto_if 4 with (go_at_call 28; refine (once_any _ _ _ _ _ _ _ hcur (by decide) (by decide)).mono ?_; rintro e w1 ⟨xb, rfl, ht1, hc1⟩)
  have hg := hc1.hg
  cases xb
  · go_wp2_with (go_at_call 63; refine (below4_any _ _ _ _ _ _ _ hc1 (by decide) (by decide)).mono ?_; rintro e w2 ⟨x2, rfl, hx0, hx1, ht2, hc2⟩)
    go_ret
    exact ⟨_, rfl, ht1.trans ht2, hc2⟩
  · go_wp2_with (go_at_call 63; refine (below_any _ _ _ _ _ _ _ (hc1.alloc _) (by decide) (by decide)).mono ?_; rintro e w2 ⟨x2, rfl, hx0, hx1, ht2, hc2⟩; have hcell := (ht2.cell (b := w1.heap.size) (o := x2.toNat) (by simp) (by omega)).trans (cell4_at x2 hx0 hx1))
    go_ret
    exact ⟨_, rfl, (ht1.alloc _).trans ht2, hc2⟩
/-- Contracts of draws where rows stand. -/
theorem belowC {w W : World} {C : Cu} {rs : List Rw} (h : Sc w W C rs) (n : Int) (hn1 : 1 ≤ n) (hn2 : n ≤ 256) :
    Calls Tryz.prog 63 #[.pointer (some ⟨C.g, 0, none⟩), .int .i64 n] W fun e w' => ∃ x : Int, e = .returned (.int .i64 x) ∧ 0 ≤ x ∧ x < n ∧ Sc w w' C rs :=
  (below_any _ _ _ _ _ n W h.cur hn1 hn2).mono fun _ _ ⟨x, h1, h2, h3, h4, h5⟩ => ⟨x, h1, h2, h3, h.call h4 h5⟩
theorem onceC {w W : World} {C : Cu} {rs : List Rw} (h : Sc w W C rs) (n : Int) (hn1 : 1 ≤ n) (hn2 : n ≤ 256) :
    Calls Tryz.prog 28 #[.pointer (some ⟨C.g, 0, none⟩), .int .i64 n] W fun e w' => ∃ x : Bool, e = .returned (.bool x) ∧ Sc w w' C rs :=
  (once_any _ _ _ _ _ n W h.cur hn1 hn2).mono fun _ _ ⟨x, h1, h4, h5⟩ => ⟨x, h1, h.call h4 h5⟩
theorem keyC {w W : World} {C : Cu} {rs : List Rw} (h : Sc w W C rs) :
    Calls Tryz.prog 61 #[.pointer (some ⟨C.g, 0, none⟩)] W fun e w' => ∃ x : Int, e = .returned (.int .i64 x) ∧ Sc w w' C rs :=
  (drawKey_any _ _ _ _ _ W h.cur).mono fun _ _ ⟨x, h1, h4, h5⟩ => ⟨x, h1, h.call h4 h5⟩
theorem cellC {w W : World} {C : Cu} {rs : List Rw} (h : Sc w W C rs) :
    Calls Tryz.prog 124 #[.pointer (some ⟨C.g, 0, none⟩)] W fun e w' => ∃ l x y : Int, e = .returned (.agg #[.int .i64 l, .int .i64 x, .int .i64 y]) ∧ Sc w w' C rs :=
  (l2Draw_any _ _ _ _ _ W h.cur).mono fun _ _ ⟨l, x, y, h1, h4, h5⟩ => ⟨l, x, y, h1, h.call h4 h5⟩
set_option maxHeartbeats 1000000 in
theorem fromC {w W : World} {C : Cu} {rs : List Rw} (h : Sc w W C rs) (lo hi : Int) (h1 : lo ≤ hi) (h2 : hi - lo ≤ 200) (h3 : -100 ≤ lo) (h4 : lo ≤ 100) :
    Calls Tryz.prog 29 #[.pointer (some ⟨C.g, 0, none⟩), .int .i64 lo, .int .i64 hi] W fun e w' => ∃ x : Int, e = .returned (.int .i64 x) ∧ lo ≤ x ∧ x ≤ hi ∧ Sc w w' C rs := by
  have HC := Lib.hid (fun n a b => belowC h n a b)
  clear h
  go_enter Tryz.func29, Tryz.ntmps29
  go_wp2_with (go_at_call 63; refine (HC.out _ (by omega) (by omega)).mono ?_; rintro e w1 ⟨x, rfl, x0, x1, hS⟩)
  go_ret
  exact ⟨lo + x, rfl, by omega, by omega, hS⟩
set_option maxRecDepth 100000 in
set_option maxHeartbeats 4000000 in
theorem cellsC {w W : World} {C : Cu} {rs : List Rw} (h : Sc w W C rs) :
    Calls Tryz.prog 101 #[.pointer (some ⟨C.g, 0, none⟩)] W fun e w' => ∃ q n cp L, e = .returned (.slice q n cp) ∧ Hid (L.length = n ∧ n ≤ 10) ∧ Sc w w' C (rG kC (.slice q n cp) L :: rs) := by
  obtain ⟨i0, hi, hz0, hz1, hz2⟩ := info_parts info89
  have HC := Lib.hid (fun n a b => onceC h n a b)
  go_enter Tryz.func101, Tryz.ntmps101
  go_upto_if 7 with (go_at_call 28; refine (HC.out 3 (by decide) (by decide)).mono ?_; rintro e w1 ⟨b1, rfl, hS1⟩)
  clear HC h
  cases b1
  rotate_left
  · have hS2 := hS1.lit kC [⟨0, 0, 0⟩] 1 rfl (by decide) #[.int .i64 0, .int .i64 0, .int .i64 0] rfl
    go_wp2
    go_ret
    exact ⟨_, 1, 1, _, rfl, ⟨rfl, by decide⟩, hS2⟩
  have hS2 := hS1.lit kC [] 0 rfl (by decide) #[] rfl
  go_wp2_with (go_at_call 63; refine (belowC hS2 4 (by decide) (by decide)).mono ?_; rintro e w2 ⟨x, rfl, x0, x1, hS3⟩)
  clear hS1 hS2
  obtain ⟨k0, hk0⟩ : ∃ k0 : Nat, x = k0 := ⟨x.toNat, by omega⟩
  subst hk0
  go_loopw [3, 4] (fun lv i wr => ∃ (k m : Nat) (q : Option Addr) (cp : Nat) (L : List T3), k ≤ 3 ∧ i = .int .i64 k ∧ lv = .slice q m cp ∧ Hid (L.length = m ∧ m + k ≤ 10) ∧ (¬ lv = .slice none 0 0) ∧ Sc w wr C (rG kC (.slice q m cp) L :: rs)) (fun _ i _ => (intOf i).toNat)
  case atStart => exact ⟨k0, 0, _, 0, [], by omega, rfl, rfl, ⟨rfl, by omega⟩, by simp, hS3⟩
  case round =>
    clear hS3
    obtain ⟨k, m, q, cp, L, hk3, rfl, rfl, hL, hnn, hS⟩ := hrel
    by_cases hlt : 0 < k
    · have hki : (0 : Int) < k := by omega
      have HB : Hid (∀ W, Sc w W C (rG kC (.slice q m cp) L :: rs) → Calls Tryz.prog 124 #[.pointer (some ⟨C.g, 0, none⟩)] W fun e w' => ∃ l x y : Int, e = .returned (.agg #[.int .i64 l, .int .i64 x, .int .i64 y]) ∧ Sc w w' C (rG kC (.slice q m cp) L :: rs)) := fun W h => cellC h
      have HO : Hid (∀ W rs, Sc w W C rs → Calls Tryz.prog 28 #[.pointer (some ⟨C.g, 0, none⟩), .int .i64 8] W fun e w' => ∃ x : Bool, e = .returned (.bool x) ∧ Sc w w' C rs) := fun W rs h => onceC h 8 (by decide) (by decide)
      go_upto_region 8 with (go_at_call 124; refine (HB.out _ hS).mono ?_; rintro e w3 ⟨l, x, y, rfl, hS4⟩; have hS5 := hS4.lit kC [⟨l, x, y⟩] 1 rfl (by decide) #[.int .i64 l, .int .i64 x, .int .i64 y] rfl; change Sc w (w3.alloc (.cells #[.int .i64 l, .int .i64 x, .int .i64 y] 89)) _ _ at hS5)
      have ho5 := hS5.sg.three (K := kC) (g := w3.heap.size) (n := 1) (p := ⟨l, x, y⟩) (by simp) rfl
      generalize hb3 : w3.heap.size = b3 at *
      cases hv : M.cellB l x y
      · go_upto_if 24 with (first
          | (go_at_call 125; refine (sCell_v hv _).mono ?_; rintro e w4 ⟨rfl, hb4⟩; have hS6 := hS5.step hb4)
          | (go_at_call 28; refine (HO.out _ _ hS6).mono ?_; rintro e w5 ⟨b5, rfl, hS7⟩))
        cases b5
        · go_wp2
          go_roundw
          case rel => exact ⟨k - 1, m, q, cp, L, by omega, by go_num, rfl, ⟨hL.out.1, by have := hL.out.2; omega⟩, hnn, hS7.sub (by simp)⟩
          case measure => simp [intOf]; omega
        · obtain ⟨y0, y1, y2, yf, yg⟩ := hS7.sg.three (K := kC) (g := b3) (n := 1) (p := ⟨l, x, y⟩) (by simp) rfl
          have hS7' := hS7.sub (rs' := rG kC (.slice q m cp) L :: rs) (by simp)
          go_wp2_with (at_builtin; refine wpList_sgapp appC rfl _ _ rfl (A := []) (B := [⟨l, x, y⟩]) (n := m) (m := 1) hS7'.sg (below_alloc1 _ _) hL.out.1 rfl rfl ⟨w5.heap.size, 0, none⟩ 1 rfl (lit_src (xs := [.int .i64 l, .int .i64 x, .int .i64 y]) rfl) (oneCs _) (.inl (by decide)) (by have := hL.out.2; omega) ?_; intro g' cap' w6 hS8 hgr hat)
          have hS9 := (hS7'.al _).app hS8 hgr hat
          go_roundw
          case rel => exact ⟨k - 1, m + 1, _, cap', L ++ [⟨l, x, y⟩], by omega, by go_num, rfl, ⟨by rw [List.length_append, hL.out.1]; rfl, by have := hL.out.2; omega⟩, by simp, hS9⟩
          case measure => simp [intOf]; omega
      · go_upto_if 24 with (go_at_call 125; refine (sCell_v hv _).mono ?_; rintro e w5 ⟨rfl, hb4⟩; have hS7 := hS5.step hb4)
        obtain ⟨y0, y1, y2, yf, yg⟩ := hS7.sg.three (K := kC) (g := b3) (n := 1) (p := ⟨l, x, y⟩) (by simp) rfl
        have hS7' := hS7.sub (rs' := rG kC (.slice q m cp) L :: rs) (by simp)
        go_wp2_with (at_builtin; refine wpList_sgapp appC rfl _ _ rfl (A := []) (B := [⟨l, x, y⟩]) (n := m) (m := 1) hS7'.sg (below_alloc1 _ _) hL.out.1 rfl rfl ⟨w5.heap.size, 0, none⟩ 1 rfl (lit_src (xs := [.int .i64 l, .int .i64 x, .int .i64 y]) rfl) (oneCs _) (.inl (by decide)) (by have := hL.out.2; omega) ?_; intro g' cap' w6 hS8 hgr hat)
        have hS9 := (hS7'.al _).app hS8 hgr hat
        go_roundw
        case rel => exact ⟨k - 1, m + 1, _, cap', L ++ [⟨l, x, y⟩], by omega, by go_num, rfl, ⟨by rw [List.length_append, hL.out.1]; rfl, by have := hL.out.2; omega⟩, by simp, hS9⟩
        case measure => simp [intOf]; omega
    · obtain rfl : k = 0 := by omega
      go_wp2
      go_ret
      exact ⟨q, m, cp, L, rfl, ⟨hL.out.1, by have := hL.out.2; omega⟩, hS⟩
end Go.Proofs.YtbkiogedipmioaaGreat.V
namespace Go.Proofs.YtbkiogedipmioaaGreat.V
open Go.RowKit Go.Joins M
attribute [local go_sem] Oper.semAt_some

section
variable {w W : World} {C : Cu} {A Bs : List Rw}
theorem Sc.raw {α : Type} {K : Kd α} {g n c : Nat} {L : List α} (h : Sc w W C (A ++ rG K (.slice (some ⟨g, 0, none⟩) n c) L :: Bs)) (j : Nat) (u : Value) {L' : List α} (h' : Sg w (W.setCell ⟨g, j, none⟩ u) (A ++ rG K (.slice (some ⟨g, 0, none⟩) n c) L' :: Bs)) : Sc w (W.setCell ⟨g, j, none⟩ u) C (A ++ rG K (.slice (some ⟨g, 0, none⟩) n c) L' :: Bs) := by
  have hd := h.dis (rG K (.slice (some ⟨g, 0, none⟩) n c) L) (by simp)
  refine h.turn h' (Below.heap_setCell W ⟨g, j, none⟩ u C.g (fun e => hd (by have e' : C.g = g := e; rw [e']; rfl))) fun r hr => ?_
  simp only [List.mem_append, List.mem_cons] at hr
  rcases hr with hr | rfl | hr
  · exact h.dis r (by simp [hr])
  · exact hd
  · exact h.dis r (by simp [hr])
theorem Sc.setQ0 {g n : Nat} {c : Cl} {a b : Sv} (h : Sc w W C (A ++ rG kQ (.slice (some ⟨g, 0, none⟩) 1 n) [(c, a, b)] :: Bs)) (u : Sv) : Sc w (W.setCell ⟨g, 0, none⟩ (.slice u.p u.n u.c)) C (A ++ rG kQ (.slice (some ⟨g, 0, none⟩) 1 n) [(c, u, b)] :: Bs) := h.raw 0 _ (Sg.setQ0 h.sg u)
theorem Sc.setQ1 {g n : Nat} {c : Cl} {a b : Sv} (h : Sc w W C (A ++ rG kQ (.slice (some ⟨g, 0, none⟩) 1 n) [(c, a, b)] :: Bs)) (u : Sv) : Sc w (W.setCell ⟨g, 1, none⟩ (.slice u.p u.n u.c)) C (A ++ rG kQ (.slice (some ⟨g, 0, none⟩) 1 n) [(c, a, u)] :: Bs) := h.raw 1 _ (Sg.setQ1 h.sg u)
theorem Sc.setQ2 {g n : Nat} {c : Cl} {a b : Sv} (h : Sc w W C (A ++ rG kQ (.slice (some ⟨g, 0, none⟩) 1 n) [(c, a, b)] :: Bs)) (d : Cl) : Sc w (W.setCell ⟨g, 2, none⟩ (.int .i64 d.un)) C (A ++ rG kQ (.slice (some ⟨g, 0, none⟩) 1 n) [(d, a, b)] :: Bs) := h.raw 2 _ (Sg.setQ2 h.sg d)
/-- A Clause is stored as a whole. -/
theorem Sc.setQ {g n : Nat} {x : CQ} (h : Sc w W C (A ++ rG kQ (.slice (some ⟨g, 0, none⟩) 1 n) [x] :: Bs)) (c : Cl) (s t : Sv) : Sc w (((W.setCell ⟨g, 0, none⟩ (.slice s.p s.n s.c)).setCell ⟨g, 1, none⟩ (.slice t.p t.n t.c)).setCell ⟨g, 2, none⟩ (.int .i64 c.un)) C (A ++ rG kQ (.slice (some ⟨g, 0, none⟩) 1 n) [(c, s, t)] :: Bs) :=
  ((h.setQ0 s).setQ1 t).setQ2 c
end
theorem made_cells (n : Nat) : (madeCells #[.int .i64 0, .int .i64 0, .int .i64 0] (n * 3)).toList = kC.flat (List.replicate n ⟨0, 0, 0⟩) := made_flatC n
theorem Sc.made {w W : World} {C : Cu} {rs : List Rw} (h : Sc w W C rs) (n : Nat) (hn : n ≤ 1000) : Sc w (W.alloc (.cells (madeCells #[.int .i64 0, .int .i64 0, .int .i64 0] (n * 3)) 89)) C (rG kC (.slice (some ⟨W.heap.size, 0, none⟩) n n) (List.replicate n ⟨0, 0, 0⟩) :: rs) :=
  h.lit kC (List.replicate n ⟨0, 0, 0⟩) n (by simp) (by omega) _ (made_cells n)
set_option maxRecDepth 100000 in
set_option maxHeartbeats 4000000 in
theorem clauseC {w W : World} {C : Cu} {rs : List Rw} (h : Sc w W C rs) :
    Calls Tryz.prog 64 #[.pointer (some ⟨C.g, 0, none⟩)] W fun e w' => ∃ (c : Cl) (s t : Sv), e = .returned (.agg #[.slice s.p s.n s.c, .slice t.p t.n t.c, .int .i64 c.un]) ∧ Hid (s.n ≤ 10 ∧ t.n ≤ 10) ∧ Sc w w' C (clR c s t ++ rs) := by
  obtain ⟨i0, hi, hz0, hz1, hz2⟩ := info_parts info89
  have hS0 := h.lit kQ [zq] 1 rfl (by decide) #[.slice none 0 0, .slice none 0 0, .int .i64 0] rfl
  change Sc w (W.alloc (.cells #[.slice none 0 0, .slice none 0 0, .int .i64 0] 110)) _ _ at hS0
  clear h
  have hgW := hS0.cur.hg
  have f0 : True := trivial
  go_enter Tryz.func64, Tryz.ntmps64
  go_upto_if 12 with (first
    | (go_at_call 101; clear f0; refine (cellsC hS0).mono ?_; rintro e w1 ⟨q1, n1, cp1, L1, rfl, hL1, hS1⟩)
    | (go_at_call 101; refine (cellsC hS1).mono ?_; rintro e w2 ⟨q2, n2, cp2, L2, rfl, hL2, hS2⟩)
    | (go_at_call 63; refine (belowC hS2 60 (by decide) (by decide)).mono ?_; rintro e w3 ⟨x3, rfl, _, _, hS3⟩; have hS4 := hS3.lit kQ [(⟨L1, L2, x3⟩, ⟨q1, n1, cp1⟩, ⟨q2, n2, cp2⟩)] 1 rfl (by decide) #[.slice q1 n1 cp1, .slice q2 n2 cp2, .int .i64 x3] rfl; change Sc w (w3.alloc (.cells #[.slice q1 n1 cp1, .slice q2 n2 cp2, .int .i64 x3] 110)) _ _ at hS4)
    | (go_at_call 28; refine (onceC hS4 20 (by decide) (by decide)).mono ?_; rintro e w4 ⟨b4, rfl, hS5⟩))
  have hS6 : Sc w w4 C ([] ++ rG kQ (.slice (some ⟨w3.heap.size, 0, none⟩) 1 1) [(⟨L1, L2, x3⟩, ⟨q1, n1, cp1⟩, ⟨q2, n2, cp2⟩)] :: (clR ⟨L1, L2, x3⟩ ⟨q1, n1, cp1⟩ ⟨q2, n2, cp2⟩ ++ rG kQ (.slice (some ⟨W.heap.size, 0, none⟩) 1 1) [zq] :: rs)) :=
    hS5.perm (.cons _ (.swap _ _ _))
  clear hS0 hS1 hS2 hS3 hS4 hS5 hgW
  generalize w3.heap.size = b3 at *
  generalize W.heap.size = b2 at *
  go_cut [] from 4 (fun wx => ∃ (c : Cl) (s t : Sv), Hid (s.n ≤ 10 ∧ t.n ≤ 10) ∧ Sc w wx C (rG kQ (.slice (some ⟨b3, 0, none⟩) 1 1) [(c, s, t)] :: (clR c s t ++ rG kQ (.slice (some ⟨b2, 0, none⟩) 1 1) [zq] :: rs)))
  case first =>
    have hg4 := hS6.cur.hg
    cases b4
    · go_wp2
      go_meet
      exact ⟨_, _, _, ⟨hL1.out.2, hL2.out.2⟩, hS6⟩
    · obtain ⟨y0, y1, y2, yf, yg⟩ := hS6.sg.three (K := kQ) (g := b3) (n := 1) (p := (⟨L1, L2, x3⟩, ⟨q1, n1, cp1⟩, ⟨q2, n2, cp2⟩)) (by simp) rfl
      go_upto_region 4 with (go_at_call 63; refine (belowC hS6 2 (by decide) (by decide)).mono ?_; rintro e w5 ⟨x5, rfl, x50, x51, hS7⟩)
      clear y0 y1 y2 yf yg
      obtain ⟨y0, y1, y2, yf, yg⟩ := hS7.sg.three (K := kQ) (g := b3) (n := 1) (p := (⟨L1, L2, x3⟩, ⟨q1, n1, cp1⟩, ⟨q2, n2, cp2⟩)) (by simp) rfl
      have h5 : x5 = 0 ∨ x5 = 1 := by omega
      rcases h5 with rfl | rfl
      · have hS8 := hS7.lit kI [-1, 100000, 100001] 3 rfl (by decide) #[.int .i64 (-1), .int .i64 100000, .int .i64 100001] rfl
        change Sc w (w5.alloc (.cells #[.int .i64 (-1), .int .i64 100000, .int .i64 100001] 2)) _ _ at hS8
        have hw5 := hS7.cur.hg
        go_wp2_with (go_at_call 63; refine (below_any _ _ _ _ _ 3 _ hS8.cur (by decide) (by decide)).mono ?_; rintro e w6 ⟨x6, rfl, x60, x61, ht6, hc6⟩; have hS9 := hS8.call ht6 hc6; have hcell := (ht6.cell (b := w5.heap.size) (o := x6.toNat) (by simp) (by omega)).trans (cell3_at x6 x60 x61); clear y0 y1 y2 yf yg; obtain ⟨y0, y1, y2, yf, yg⟩ := hS9.sg.three (K := kQ) (g := b3) (n := 1) (p := (⟨L1, L2, x3⟩, ⟨q1, n1, cp1⟩, ⟨q2, n2, cp2⟩)) (by simp) rfl)
        go_meet
        exact ⟨⟨L1, L2, sel x6 [-1, 100000, 100001]⟩, ⟨q1, n1, cp1⟩, ⟨q2, n2, cp2⟩, ⟨hL1.out.2, hL2.out.2⟩, Sc.setQ2 (A := []) (hS9.sub (List.sublist_cons_self ..)) ⟨L1, L2, sel x6 [-1, 100000, 100001]⟩⟩
      · go_wp2_with (go_at_call 63; refine (belowC hS7 2 (by decide) (by decide)).mono ?_; rintro e w6 ⟨x6, rfl, x60, x61, hS8⟩)
        obtain ⟨k6, rfl⟩ : ∃ k6 : Nat, x6 = k6 := ⟨x6.toNat, by omega⟩
        have ek : (8 + (k6 : Int)).toNat = 8 + k6 := by omega
        have hmk := run_make (P := Tryz.prog) w6 41 89 i0 _ Tryz.underlying41 hi hz0 .i64 .i64 (8 + (k6 : Int)) (8 + (k6 : Int)) (by omega) (by omega) (by rw [hz2]; omega) (by omega)
        rw [hz1, ek] at hmk
        have hS9 := hS8.made (8 + k6) (by omega)
        clear y0 y1 y2 yf yg
        obtain ⟨y0, y1, y2, yf, yg⟩ := hS9.sg.three (K := kQ) (g := b3) (n := 1) (p := (⟨L1, L2, x3⟩, ⟨q1, n1, cp1⟩, ⟨q2, n2, cp2⟩)) (by simp) rfl
        go_wp2
        go_meet
        refine ⟨⟨List.replicate (8 + k6) ⟨0, 0, 0⟩, L2, x3⟩, ⟨some ⟨w6.heap.size, 0, none⟩, 8 + k6, 8 + k6⟩, ⟨q2, n2, cp2⟩, ⟨show 8 + k6 ≤ 10 by omega, hL2.out.2⟩, ?_⟩
        have h9 := Sc.setQ0 (A := [_]) hS9 ⟨some ⟨w6.heap.size, 0, none⟩, 8 + k6, 8 + k6⟩
        exact (h9.perm (.swap _ _ _)).sub (.cons_cons _ (.cons_cons _ (.cons _ (.cons_cons _ (List.Sublist.refl _)))))
  case rest =>
    clear hS6
    obtain ⟨c, s, t, hb, hS7⟩ := hcut
    obtain ⟨y0, y1, y2, yf, yg⟩ := hS7.sg.three (K := kQ) (g := b3) (n := 1) (p := (c, s, t)) (by simp) rfl
    obtain ⟨z0, z1, z2, zf, zg⟩ := hS7.sg.three (K := kQ) (g := b2) (n := 1) (p := zq) (by simp) rfl
    have hS8 := Sc.setQ (A := rG kQ (.slice (some ⟨b3, 0, none⟩) 1 1) [(c, s, t)] :: clR c s t) hS7 c s t
    obtain ⟨u0, u1, u2, uf, ug⟩ := hS8.sg.three (K := kQ) (g := b2) (n := 1) (p := (c, s, t)) (by simp) rfl
    go_wp2
    refine bodyPost_ret (v := .agg #[.slice s.p s.n s.c, .slice t.p t.n t.c, .int .i64 c.un]) (by simp [results, Tryz.results64, go_sem, u0, u1, u2]) rfl ⟨c, s, t, rfl, hb, ?_⟩
    exact hS8.sub (.cons _ (List.Sublist.append (List.Sublist.refl _) (.cons _ (List.Sublist.refl _))))
end Go.Proofs.YtbkiogedipmioaaGreat.V
namespace Go.Proofs.YtbkiogedipmioaaGreat.V
open Go.RowKit Go.Joins M
attribute [local go_sem] Oper.semAt_some

section
variable {w W : World} {C : Cu} {A Bs rs : List Rw}
theorem Sc.setP0 {g n : Nat} {a : Pv} (h : Sc w W C (A ++ rG kP (.slice (some ⟨g, 0, none⟩) 1 n) [a] :: Bs)) (x : Int) : Sc w (W.setCell ⟨g, 0, none⟩ (.int .i64 x)) C (A ++ rG kP (.slice (some ⟨g, 0, none⟩) 1 n) [⟨x, a.s, a.tag⟩] :: Bs) := h.raw 0 _ (Sg.setP0 h.sg x)
theorem Sc.setP1 {g n : Nat} {a : Pv} (h : Sc w W C (A ++ rG kP (.slice (some ⟨g, 0, none⟩) 1 n) [a] :: Bs)) (u : Sv) : Sc w (W.setCell ⟨g, 1, none⟩ (.slice u.p u.n u.c)) C (A ++ rG kP (.slice (some ⟨g, 0, none⟩) 1 n) [⟨a.tn, u, a.tag⟩] :: Bs) := h.raw 1 _ (Sg.setP1 h.sg u)
theorem Sc.setP2 {g n : Nat} {a : Pv} (h : Sc w W C (A ++ rG kP (.slice (some ⟨g, 0, none⟩) 1 n) [a] :: Bs)) (x : Int) : Sc w (W.setCell ⟨g, 2, none⟩ (.int .i64 x)) C (A ++ rG kP (.slice (some ⟨g, 0, none⟩) 1 n) [⟨a.tn, a.s, x⟩] :: Bs) := h.raw 2 _ (Sg.setP2 h.sg x)
theorem Sc.setP {g n : Nat} {a : Pv} (h : Sc w W C (A ++ rG kP (.slice (some ⟨g, 0, none⟩) 1 n) [a] :: Bs)) (q : Pv) : Sc w (((W.setCell ⟨g, 0, none⟩ (.int .i64 q.tn)).setCell ⟨g, 1, none⟩ (.slice q.s.p q.s.n q.s.c)).setCell ⟨g, 2, none⟩ (.int .i64 q.tag)) C (A ++ rG kP (.slice (some ⟨g, 0, none⟩) 1 n) [q] :: Bs) := ((h.setP0 q.tn).setP1 q.s).setP2 q.tag
theorem Sc.litZ (h : Sc w W C rs) : Sc w (W.alloc (.cells #[.int .i64 0, .slice none 0 0, .int .i64 0] 26)) C (rG kP (.slice (some ⟨W.heap.size, 0, none⟩) 1 1) [zpv] :: rs) := h.lit kP [zpv] 1 rfl (by decide) #[.int .i64 0, .slice none 0 0, .int .i64 0] rfl
end
theorem Sg.okQ {w W : World} {rs : List Rw} {v : Value} {X : List CQ} (h : Sg w W rs) (hm : ∀ r ∈ trX v X [], r ∈ rs) : okQ X := fun q hq => by
  have m : ∀ r ∈ clR q.1 q.2.1 q.2.2, r ∈ rs := fun r hr => hm r (List.mem_cons_of_mem _ (List.mem_flatMap.mpr ⟨q, hq, hr⟩))
  exact ⟨own_okv (h.mem (K := kC) (v := .slice q.2.1.p q.2.1.n q.2.1.c) (L := q.1.rd) (m _ (by simp [clR, Sv.v]))), own_okv (h.mem (K := kC) (v := .slice q.2.2.p q.2.2.n q.2.2.c) (L := q.1.wr) (m _ (by simp [clR, Sv.v])))⟩
theorem Sg.okC {w W : World} {rs : List Rw} {c : Cl} {s t : Sv} (h : Sg w W rs) (hm : ∀ r ∈ clR c s t, r ∈ rs) : okv s ∧ okv t :=
  ⟨own_okv (h.mem (K := kC) (v := .slice s.p s.n s.c) (L := c.rd) (hm _ (by simp [clR, Sv.v]))), own_okv (h.mem (K := kC) (v := .slice t.p t.n t.c) (L := c.wr) (hm _ (by simp [clR, Sv.v])))⟩
theorem sm6.q {X : List CQ} (h : sm6 X) : smQ X := fun q hq => ⟨by have := (h q hq).1; omega, by have := (h q hq).2; omega⟩
theorem mintP_len (key tn : Int) (c : Cl) : (mintP key tn c).cs.length ≤ 1 := by
  unfold mintP; split
  · exact Nat.le_refl _
  · exact Nat.zero_le _
theorem narP_len (tn : Int) (L : List Cl) (tag : Int) (c : Cl) : (narP tn L tag c).cs.length ≤ 7 := by
  unfold narP; split
  · rename_i h
    unfold narB at h
    rw [Bool.and_eq_true] at h
    obtain ⟨_, ⟨_, h2⟩, _, _⟩ := ppB_t h.1
    show (L ++ [c]).length ≤ 7
    rw [List.length_append]; simp; omega
  · exact Nat.zero_le _
/-- What is known of the Clauses of a drawn Paper. -/
def pOk (X : List CQ) (n : Nat) : Prop := X.length = n ∧ n ≤ 7 ∧ sm6 X
/-- Some Paper and a flag are answered, in memory of their own. -/
def PapA (W : World) (e : Ending) (w' : World) : Prop := ∃ (tn tag : Int) (ok : Bool) (q : Option Addr) (n cp : Nat) (X : List CQ), e = .returned (.tuple #[.agg #[.int .i64 tn, .slice q n cp, .int .i64 tag], .bool ok]) ∧ Hid (pOk X n) ∧ Sg W w' (trX (.slice q n cp) X [])
theorem PapO.a {W : World} {P : Pp} {b : Bool} {e : Ending} {w' : World} (h : PapO W P b e w') (h7 : P.cs.length ≤ 7) : PapA W e w' := by
  obtain ⟨q, n, cp, X, he, hn, hx, h6, _, hS⟩ := h
  exact ⟨P.tn, P.tag, b, q, n, cp, X, he, ⟨by rw [← hn, ← hx, cls_len], by omega, h6⟩, hS⟩
theorem sMintA (key tn : Int) {w W : World} {rs : List Rw} {c : Cl} {s t : Sv} (hS : Sg w W rs) (hb : Hid (s.n ≤ 10 ∧ t.n ≤ 10)) (hm : ∀ r ∈ clR c s t, r ∈ rs) :
    Calls Tryz.prog 62 #[.int .i64 key, .int .i64 tn, .agg #[.slice s.p s.n s.c, .slice t.p t.n t.c, .int .i64 c.un]] W (PapA W) := by
  have h1 := hb.out
  have ho := hS.okC hm
  exact (sMinted_any key tn c s t (by omega) (by omega) ho.1 ho.2 W (hS.rdQ hm (by omega) (by omega))).mono fun _ _ h => h.a (by have := mintP_len key tn c; omega)
theorem sNarA (tn tag : Int) {q : Option Addr} {n cp : Nat} {X : List CQ} {w W : World} {rs : List Rw} {c : Cl} {s t : Sv} (hS : Sg w W rs) (hX : Hid (pOk X n)) (hb : Hid (s.n ≤ 10 ∧ t.n ≤ 10)) (hm : ∀ r ∈ clR c s t, r ∈ rs) (hmX : ∀ r ∈ trX (.slice q n cp) X [], r ∈ rs) :
    Calls Tryz.prog 65 #[.agg #[.int .i64 tn, .slice q n cp, .int .i64 tag], .agg #[.slice s.p s.n s.c, .slice t.p t.n t.c, .int .i64 c.un]] W (PapA W) := by
  have h1 := hb.out
  have ho := hS.okC hm
  obtain ⟨x1, x2, x3⟩ := hX.out
  exact (sNarrowed_any tn tag q cp n X x1 (by omega) x3 (hS.okQ hmX) c s t (by omega) (by omega) ho.1 ho.2 W (hS.rdS x3.q hmX) (hS.rdQ hm (by omega) (by omega))).mono fun _ _ h => h.a (narP_len ..)
theorem pick_a {r2 r5 r3 : Rw} (T c0 T0 rs : List Rw) : (r2 :: (T ++ (r5 :: (T0 ++ (r3 :: rs))))).Sublist (r2 :: (T ++ (c0 ++ (r5 :: (T0 ++ (r3 :: rs)))))) :=
  .cons_cons _ (List.Sublist.append (List.Sublist.refl _) (List.sublist_append_right _ _))
theorem pick_b {r2 : Rw} (T c0 Y : List Rw) : (r2 :: (T ++ Y)).Sublist (r2 :: ((T ++ c0) ++ Y)) :=
  .cons_cons _ (List.Sublist.append (List.sublist_append_left _ _) (List.Sublist.refl _))
set_option maxRecDepth 100000 in
set_option maxHeartbeats 8000000 in
theorem paperC {w W : World} {C : Cu} {rs : List Rw} (h : Sc w W C rs) :
    Calls Tryz.prog 25 #[.pointer (some ⟨C.g, 0, none⟩)] W fun e w' => ∃ (key tn tag : Int) (q : Option Addr) (n cp : Nat) (X : List CQ), e = .returned (.tuple #[.int .i64 key, .agg #[.int .i64 tn, .slice q n cp, .int .i64 tag]]) ∧ Hid (pOk X n) ∧ Sc w w' C (trX (.slice q n cp) X [] ++ rs) := by
  have hS0 := h.litZ
  clear h
  have f0 : True := trivial
  go_enter Tryz.func25, Tryz.ntmps25
  go_upto_region 3 with (first
    | (go_at_call 61; refine (keyC hS0).mono ?_; rintro e w1 ⟨key, rfl, hS1⟩)
    | (go_at_call 63; refine (belowC hS1 3 (by decide) (by decide)).mono ?_; rintro e w2 ⟨x2, rfl, x20, x21, hS2⟩)
    | (go_at_call 64; refine (clauseC hS2).mono ?_; rintro e w3 ⟨c3, s3, t3, rfl, hb3, hS3⟩)
    | (go_at_call 62; refine (sMintA _ _ hS3.sg hb3 (fun r hr => by simp [hr])).mono ?_; rintro e w4 ⟨tn4, tag4, ok4, q4, n4, cp4, X4, rfl, hX4, hw4⟩; have hS4 := hS3.addL hw4; have hS5 := hS4.lit kP [⟨tn4, ⟨q4, n4, cp4⟩, tag4⟩] 1 rfl (by decide) #[.int .i64 tn4, .slice q4 n4 cp4, .int .i64 tag4] rfl; change Sc w (w4.alloc (.cells #[.int .i64 tn4, .slice q4 n4 cp4, .int .i64 tag4] 26)) _ _ at hS5))
  have hS6 : Sc w (w4.alloc (.cells #[.int .i64 tn4, .slice q4 n4 cp4, .int .i64 tag4] 26)) C (rG kP (.slice (some ⟨w4.heap.size, 0, none⟩) 1 1) [⟨tn4, ⟨q4, n4, cp4⟩, tag4⟩] :: (trX (.slice q4 n4 cp4) X4 [] ++ rG kP (.slice (some ⟨W.heap.size, 0, none⟩) 1 1) [zpv] :: rs)) :=
    hS5.sub (.cons_cons _ (List.Sublist.append (List.Sublist.refl _) (List.sublist_append_right _ _)))
  clear hS0 hS1 hS2 hS3 hS4 hS5 hw4
  go_upto_region 4 with (go_at_call 63; refine (belowC hS6 3 (by decide) (by decide)).mono ?_; rintro e w5 ⟨x5, rfl, x50, x51, hS7⟩)
  clear hS6
  generalize w4.heap.size = b5 at *
  generalize W.heap.size = b3 at *
  obtain ⟨k0, hk0⟩ : ∃ k0 : Nat, x5 = k0 := ⟨x5.toNat, by omega⟩
  subst hk0
  go_loopw [7, 8, 9] (fun i _ _ wr => ∃ (k : Nat) (tn tag : Int) (q : Option Addr) (n cp : Nat) (X : List CQ), k ≤ 3 ∧ i = .int .i64 k ∧ Hid (pOk X n) ∧ Sc w wr C (rG kP (.slice (some ⟨b5, 0, none⟩) 1 1) [⟨tn, ⟨q, n, cp⟩, tag⟩] :: (trX (.slice q n cp) X [] ++ rG kP (.slice (some ⟨b3, 0, none⟩) 1 1) [zpv] :: rs))) (fun i _ _ _ => (intOf i).toNat)
  case atStart => exact ⟨k0, tn4, tag4, q4, n4, cp4, X4, by omega, rfl, hX4, hS7⟩
  case round =>
    clear hS7
    obtain ⟨k, tn, tag, q, n, cp, X, hk3, rfl, hX, hrow⟩ := hrel
    by_cases hgo : 0 < k ∧ ok4 = true
    · obtain ⟨hk, rfl⟩ := hgo
      have hki : (0 : Int) < k := by omega
      have HK : Hid (∀ w' rs', Sc w w' C rs' → rG kP (.slice (some ⟨b5, 0, none⟩) 1 1) [⟨tn, ⟨q, n, cp⟩, tag⟩] ∈ rs' → (w'.cell? ⟨b5, 0, none⟩ = some (.int .i64 tn) ∧ w'.cell? ⟨b5, 1, none⟩ = some (.slice q n cp) ∧ w'.cell? ⟨b5, 2, none⟩ = some (.int .i64 tag))) := fun w' rs' h m => by
        obtain ⟨y0, y1, y2, _, _⟩ := h.sg.three (K := kP) (g := b5) (n := 1) (p := ⟨tn, ⟨q, n, cp⟩, tag⟩) m rfl
        exact ⟨y0, y1, y2⟩
      go_upto_region 6 with (fail)
      go_cut [8, 9] from 31 to 38 (fun v8 v9 wx => ∃ (b8 : Nat) (tn' tag' : Int) (ok' : Bool) (q' : Option Addr) (n' cp' : Nat) (X' : List CQ), v8 = .pointer (some ⟨b8, 0, none⟩) ∧ v9 = .bool ok' ∧ Hid (pOk X' n') ∧ Sc w wx C (rG kP (.slice (some ⟨b8, 0, none⟩) 1 1) [⟨tn', ⟨q', n', cp'⟩, tag'⟩] :: (trX (.slice q' n' cp') X' [] ++ (rG kP (.slice (some ⟨b5, 0, none⟩) 1 1) [⟨tn, ⟨q, n, cp⟩, tag⟩] :: (trX (.slice q n cp) X [] ++ rG kP (.slice (some ⟨b3, 0, none⟩) 1 1) [zpv] :: rs)))))
      case first =>
        go_region_held3 (fun w' => w'.cell? ⟨b5, 0, none⟩ = some (.int .i64 tn) ∧ w'.cell? ⟨b5, 1, none⟩ = some (.slice q n cp) ∧ w'.cell? ⟨b5, 2, none⟩ = some (.int .i64 tag))
          (first
            | assumption
            | with_reducible exact HK.out _ _ hrow (by simp)
            | with_reducible exact HK.out _ _ hrow.dr (by simp)
            | with_reducible exact HK.out _ _ (hrow.al _) (by simp)
            | with_reducible exact HK.out _ _ (hrow.al _).dr (by simp)
            | with_reducible exact HK.out _ _ hS8 (by simp))
          (first
            | (go_at_call 64; refine (clauseC (w := w) (C := C) (by first | with_reducible exact hrow | with_reducible exact hrow.dr | with_reducible exact hrow.litZ | with_reducible exact hrow.litZ.dr)).mono ?_; rintro e w6 ⟨c6, s6, t6, rfl, hb6, hrow6⟩; clear hrow; have hrow := hrow6; clear hrow6)
            | (go_at_call 65; (first | refine (sNarA tn tag hrow.sg hX hb6 (fun r hr => by simp [hr]) (fun r hr => by simp [hr])).mono ?_ | refine (sNarA tn tag hrow.litZ.sg hX hb6 (fun r hr => by simp [hr]) (fun r hr => by simp [hr])).mono ?_); rintro e w7 ⟨tn7, tag7, ok7, q7, n7, cp7, X7, rfl, hX7, hw7⟩; (first | with_reducible (replace hrow := hrow.addL hw7) | with_reducible (replace hrow := hrow.litZ.addL hw7)); (first
                | (obtain ⟨v0, v1, v2, vf, vg⟩ := hrow.sg.three (K := kP) (g := wr.heap.size) (n := 1) (p := zpv) (by simp) rfl; have hS8 := Sc.setP (A := trX (.slice q7 n7 cp7) X7 [] ++ clR c6 s6 t6) (g := wr.heap.size) (n := 1) (a := zpv) (by simpa [List.append_assoc] using hrow) ⟨tn7, ⟨q7, n7, cp7⟩, tag7⟩)
                | (obtain ⟨v0, v1, v2, vf, vg⟩ := hrow.sg.three (K := kP) (g := w6.heap.size) (n := 1) (p := zpv) (by simp) rfl; have hS8 := Sc.setP (A := trX (.slice q7 n7 cp7) X7 []) (g := w6.heap.size) (n := 1) (a := zpv) hrow ⟨tn7, ⟨q7, n7, cp7⟩, tag7⟩)
                | skip)))
        all_goals go_wp2
        all_goals go_meet
        all_goals first
          | (refine ⟨w7.heap.size, tn7, tag7, ok7, q7, n7, cp7, X7, rfl, rfl, hX7, ?_⟩; have h9 := (hrow.lit kP [⟨tn7, ⟨q7, n7, cp7⟩, tag7⟩] 1 rfl (by decide) #[.int .i64 tn7, .slice q7 n7 cp7, .int .i64 tag7] rfl); change Sc w (w7.alloc (.cells #[.int .i64 tn7, .slice q7 n7 cp7, .int .i64 tag7] 26)) _ _ at h9; with_reducible exact h9.sub (pick_a _ _ _ _))
          | (refine ⟨wr.heap.size, tn7, tag7, ok7, q7, n7, cp7, X7, rfl, rfl, hX7, ?_⟩; with_reducible exact (hS8.perm List.perm_middle).sub (pick_b _ _ _))
          | (refine ⟨w6.heap.size, tn7, tag7, ok7, q7, n7, cp7, X7, rfl, rfl, hX7, ?_⟩; with_reducible exact (hS8.perm List.perm_middle).sub (pick_a _ _ _ _))
      case rest =>
        clear hrow HK
        obtain ⟨b8, tn8, tag8, ok8, q8, n8, cp8, X8, rfl, rfl, hX8, hS8⟩ := hcut
        obtain ⟨y0, y1, y2, yf, yg⟩ := hS8.sg.three (K := kP) (g := b8) (n := 1) (p := ⟨tn8, ⟨q8, n8, cp8⟩, tag8⟩) (by simp) rfl
        obtain ⟨z0, z1, z2, zf, zg⟩ := hS8.sg.three (K := kP) (g := b5) (n := 1) (p := ⟨tn, ⟨q, n, cp⟩, tag⟩) (by simp) rfl
        cases ok8
        · go_wp2
          go_roundw
          case rel => exact ⟨k - 1, tn, tag, q, n, cp, X, by omega, by go_num, hX, hS8.sub (.cons _ (List.sublist_append_right _ _))⟩
          case measure => simp [intOf]; omega
        · have hS9 := Sc.setP (A := rG kP (.slice (some ⟨b8, 0, none⟩) 1 1) [⟨tn8, ⟨q8, n8, cp8⟩, tag8⟩] :: trX (.slice q8 n8 cp8) X8 []) (g := b5) (n := 1) hS8 ⟨tn8, ⟨q8, n8, cp8⟩, tag8⟩
          go_wp2
          go_roundw
          case rel => exact ⟨k - 1, tn8, tag8, q8, n8, cp8, X8, by omega, by go_num, hX8, (hS9.perm List.perm_middle).sub (.cons_cons _ (.cons _ (List.Sublist.append (List.Sublist.refl _) (List.sublist_append_right _ _))))⟩
          case measure => simp [intOf]; omega
    · have hno : k = 0 ∨ (0 < k ∧ ok4 = false) := by
        rcases Nat.eq_zero_or_pos k with h | h
        · exact .inl h
        · refine .inr ⟨h, ?_⟩
          cases ok4
          · rfl
          · exact absurd ⟨h, rfl⟩ hgo
      clear hgo
      obtain ⟨k, hkk⟩ : ∃ k' : Int, (k : Int) = k' := ⟨_, rfl⟩
      have hno' : k = 0 ∨ (0 < k ∧ ok4 = false) := by rcases hno with h | h; exact .inl (by omega); exact .inr ⟨by omega, h.2⟩
      rw [hkk]
      clear hno hkk
      rcases hno' with rfl | ⟨hki, rfl⟩
      all_goals
        go_upto_if 41 with (go_at_call 28; refine (onceC hrow 10 (by decide) (by decide)).mono ?_; rintro e w9 ⟨b9, rfl, hS9⟩)
        clear hrow
        go_cut [] from 6 (fun wx => ∃ (tn tag : Int) (q : Option Addr) (n cp : Nat) (X : List CQ), Hid (pOk X n) ∧ Sc w wx C (rG kP (.slice (some ⟨b5, 0, none⟩) 1 1) [⟨tn, ⟨q, n, cp⟩, tag⟩] :: (trX (.slice q n cp) X [] ++ rG kP (.slice (some ⟨b3, 0, none⟩) 1 1) [zpv] :: rs)))
        case first =>
          cases b9
          · go_wp2
            go_meet
            exact ⟨tn, tag, q, n, cp, X, hX, hS9⟩
          · go_upto_region 11 with (go_at_call 63; refine (belowC hS9 4 (by decide) (by decide)).mono ?_; rintro e w10 ⟨x10, rfl, x100, x101, hS10⟩)
            clear hS9
            obtain ⟨y0, y1, y2, yf, yg⟩ := hS10.sg.three (K := kP) (g := b5) (n := 1) (p := ⟨tn, ⟨q, n, cp⟩, tag⟩) (by simp) rfl
            have h4 : x10 = 0 ∨ x10 = 1 ∨ x10 = 2 ∨ x10 = 3 := by omega
            rcases h4 with rfl | rfl | rfl | rfl
            · go_wp2
              go_meet
              exact ⟨tn, _, q, n, cp, X, hX, Sc.setP2 (A := []) hS10 _⟩
            · go_wp2_with (go_at_call 29; refine (fromC hS10 0 4 (by decide) (by decide) (by decide) (by decide)).mono ?_; rintro e w11 ⟨x11, rfl, _, _, hS11⟩; clear y0 y1 y2 yf yg; obtain ⟨y0, y1, y2, yf, yg⟩ := hS11.sg.three (K := kP) (g := b5) (n := 1) (p := ⟨tn, ⟨q, n, cp⟩, tag⟩) (by simp) rfl)
              go_meet
              exact ⟨x11, tag, q, n, cp, X, hX, Sc.setP0 (A := []) hS11 x11⟩
            · by_cases hn0 : n = 0
              · subst hn0
                go_wp2
                go_meet
                exact ⟨tn, tag, q, 0, cp, X, hX, hS10⟩
              · have hni : (0 : Int) < n := by omega
                obtain ⟨g, hg⟩ := ow_some (hS10.sg.mem (K := kQ) (v := .slice q n cp) (L := X ++ []) (by simp [trX])) (by omega)
                subst hg
                obtain ⟨⟨c, s, t⟩, X', hX'⟩ : ∃ x X', X = x :: X' := by
                  have := hX.out.1
                  cases X with
                  | nil => simp at this; omega
                  | cons x X' => exact ⟨x, X', rfl⟩
                subst hX'
                have ho := hS10.sg.mem (K := kQ) (v := .slice (some ⟨g, 0, none⟩) n cp) (L := (c, s, t) :: X' ++ []) (by simp [trX])
                have hfz := OwG.fz ho
                obtain ⟨d0, d1, d2⟩ := (OwG.cs ho).q3 (k := 0) (q := (c, s, t)) rfl
                simp only [Nat.zero_mul, Nat.zero_add] at d0 d1 d2
                clear ho
                have hkk2 : Sc w (w10.setCell ⟨g, 2, none⟩ (.int .i64 (IntKind.i64.wrap (c.un + 1)))) C (rG kP (.slice (some ⟨b5, 0, none⟩) 1 1) [⟨tn, ⟨some ⟨g, 0, none⟩, n, cp⟩, tag⟩] :: (trX (.slice (some ⟨g, 0, none⟩) n cp) ((⟨c.rd, c.wr, IntKind.i64.wrap (c.un + 1)⟩, s, t) :: X') [] ++ rG kP (.slice (some ⟨b3, 0, none⟩) 1 1) [zpv] :: rs)) :=
                  Sc.raw (A := [rG kP (.slice (some ⟨b5, 0, none⟩) 1 1) [⟨tn, ⟨some ⟨g, 0, none⟩, n, cp⟩, tag⟩]]) (K := kQ) (g := g) (n := n) (c := cp) (L := (c, s, t) :: X' ++ []) (Bs := ((c, s, t) :: X').flatMap (fun q => clR q.1 q.2.1 q.2.2) ++ rG kP (.slice (some ⟨b3, 0, none⟩) 1 1) [zpv] :: rs) hS10 2 _
                    (Sg.set (A := [rG kP (.slice (some ⟨b5, 0, none⟩) 1 1) [⟨tn, ⟨some ⟨g, 0, none⟩, n, cp⟩, tag⟩]]) (L := (c, s, t) :: X' ++ []) hS10.sg 2 (.int .i64 (IntKind.i64.wrap (c.un + 1))) rfl rfl)
                go_wp2
                go_region_with fail
                all_goals
                  go_wp2
                  go_meet
                  exact ⟨tn, tag, some ⟨g, 0, none⟩, n, cp, (⟨c.rd, c.wr, IntKind.i64.wrap (c.un + 1)⟩, s, t) :: X', ⟨hX.out.1, hX.out.2.1, fun y hy => by
                    rcases List.mem_cons.mp hy with rfl | hy
                    · exact hX.out.2.2 (c, s, t) (List.mem_cons_self ..)
                    · exact hX.out.2.2 y (List.mem_cons_of_mem _ hy)⟩, by first | exact hkk2.dr | exact hkk2⟩
            · have hS11 := hS10.lit kI [-1, 2147483646, 2147483647] 3 rfl (by decide) #[.int .i64 (-1), .int .i64 2147483646, .int .i64 2147483647] rfl
              change Sc w (w10.alloc (.cells #[.int .i64 (-1), .int .i64 2147483646, .int .i64 2147483647] 2)) _ _ at hS11
              have hw10 := hS10.cur.hg
              go_wp2_with (go_at_call 63; refine (below_any _ _ _ _ _ 3 _ hS11.cur (by decide) (by decide)).mono ?_; rintro e w12 ⟨x12, rfl, x120, x121, ht12, hc12⟩; have hS12 := hS11.call ht12 hc12; have hcell := (ht12.cell (b := w10.heap.size) (o := x12.toNat) (by simp) (by omega)).trans (cell3_at x12 x120 x121); clear y0 y1 y2 yf yg; obtain ⟨y0, y1, y2, yf, yg⟩ := hS12.sg.three (K := kP) (g := b5) (n := 1) (p := ⟨tn, ⟨q, n, cp⟩, tag⟩) (by simp) rfl)
              go_meet
              exact ⟨tn, sel x12 [-1, 2147483646, 2147483647], q, n, cp, X, hX, Sc.setP2 (A := []) (hS12.sub (List.sublist_cons_self ..)) (sel x12 [-1, 2147483646, 2147483647])⟩
        case rest =>
          clear hS9 hX
          obtain ⟨tn, tag, q, n, cp, X, hX, hS10⟩ := hcut
          obtain ⟨y0, y1, y2, yf, yg⟩ := hS10.sg.three (K := kP) (g := b5) (n := 1) (p := ⟨tn, ⟨q, n, cp⟩, tag⟩) (by simp) rfl
          obtain ⟨z0, z1, z2, zf, zg⟩ := hS10.sg.three (K := kP) (g := b3) (n := 1) (p := zpv) (by simp) rfl
          have hS11 := Sc.setP (A := rG kP (.slice (some ⟨b5, 0, none⟩) 1 1) [⟨tn, ⟨q, n, cp⟩, tag⟩] :: trX (.slice q n cp) X []) (g := b3) (n := 1) hS10 ⟨tn, ⟨q, n, cp⟩, tag⟩
          have hS12 := hS11.dr
          obtain ⟨u0, u1, u2, uf, ug⟩ := hS11.sg.three (K := kP) (g := b3) (n := 1) (p := ⟨tn, ⟨q, n, cp⟩, tag⟩) (by simp) rfl
          go_wp2
          go_region_with fail
          all_goals
            go_wp2
            refine bodyPost_ret (v := .tuple #[.int .i64 key, .agg #[.int .i64 tn, .slice q n cp, .int .i64 tag]]) (by simp [results, Tryz.results25, go_sem, u0, u1, u2]) rfl ⟨key, tn, tag, q, n, cp, X, rfl, hX, ?_⟩
            first
              | exact hS11.sub (.cons _ (List.Sublist.append (List.Sublist.refl _) (.cons _ (List.Sublist.refl _))))
              | exact hS12.sub (.cons _ (List.Sublist.append (List.Sublist.refl _) (.cons _ (List.Sublist.refl _))))
end Go.Proofs.YtbkiogedipmioaaGreat.V
namespace Go.Proofs.YtbkiogedipmioaaGreat.V
open Go.RowKit Go.Joins M
attribute [local go_sem] Oper.semAt_some

theorem Sc.start {w W : World} {rs : List Rw} {a : Option Addr} {len cap : Nat} {zs : List Int} {g : Nat} {h : Int} (hS : Sg w W rs) (hl : len ≤ 4096) (hr : Rd w g a len zs) : Sc w (W.alloc (.cells #[.slice a len cap, .int .i64 0, .int .i64 h] 104)) ⟨W.heap.size, a, len, cap, zs⟩ rs :=
  ⟨hS.al _, Cur.fresh hl (hr.up hS.bel hS.bel.size), hS.bel.size, fun r hr' e => by
    have h1 := World.ownsRow.lt (hS.own r hr') _ e
    have h2 : (⟨W.heap.size, a, len, cap, zs⟩ : Cu).g = W.heap.size := rfl
    omega, hr.up (Below.refl _ _) hS.bel.size⟩
theorem newC {w W : World} {rs : List Rw} {a : Option Addr} {len cap : Nat} {zs : List Int} {g : Nat} (hS : Sg w W rs) (hl : len ≤ 4096) (hr : Rd w g a len zs) :
    Calls Tryz.prog 24 #[.slice a len cap] W fun e w' => ∃ C : Cu, e = .returned (.pointer (some ⟨C.g, 0, none⟩)) ∧ Sc w w' C rs :=
  (new_any a len cap zs W hl (hr.up hS.bel hS.bel.size)).mono fun _ _ ⟨h, h1, h2⟩ => ⟨⟨W.heap.size, a, len, cap, zs⟩, h1, by subst h2; exact Sc.start hS hl (hr.up (Below.refl _ _) (Nat.le_refl _))⟩
end Go.Proofs.YtbkiogedipmioaaGreat.V
