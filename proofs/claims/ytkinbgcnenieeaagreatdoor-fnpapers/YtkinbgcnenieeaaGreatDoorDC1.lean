/-
  Draws: a cursor beside rows of one's own; keys, lists of Cells.
-/
import Derived.Test.YtkinbgcnenieeaaGreatDoorN5
import Derived.Test.YtkinbgcnenieeaaGreatDoorMD4
namespace Go.Proofs.YtkinbgcnenieeaaGreatDoor
open Go.RowKit Go.Joins M
attribute [local go_sem] Oper.semAt_some

theorem Turn.gr {g : Nat} {w w' : World} (h : Turn g w w') : w.grownBy w' (some g) := ⟨h.os, h.tape, h.output, h.size, fun k hk hne => h.block k hk (fun e => hne (by rw [e]))⟩
/-- A cursor: its block, and what it draws from. -/
structure Cu where
  g : Nat
  a : Option Addr
  len : Nat
  cap : Nat
  zs : List Int
abbrev CurC (W : World) (C : Cu) : Prop := Cur W C.g C.a C.len C.cap C.zs
/-- Rows of one's own since w, and a cursor that is as new. -/
structure Sc (w W : World) (C : Cu) (rs : List Rw) : Prop where
  sg : Sg w W rs
  cur : CurC W C
  new : w.heap.size ≤ C.g
  dis : ∀ r ∈ rs, r.v.ownBlock ≠ some C.g
  rd0 : Rd w C.g C.a C.len C.zs
section
variable {w W W' : World} {C : Cu} {rs rs' : List Rw}
theorem Sc.call (h : Sc w W C rs) (t : Turn C.g W W') (c : CurC W' C) : Sc w W' C rs :=
  ⟨⟨h.sg.bel.trans (t.below h.new h.sg.bel.size), fun r hr => World.ownsRow.kept (h.sg.own r hr) (Turn.gr t) (.inr (h.dis r hr)), h.sg.dis⟩, c, h.new, h.dis, h.rd0⟩
theorem Sc.step (h : Sc w W C rs) (hb : Below W.heap.size W W') : Sc w W' C rs := ⟨h.sg.step hb, h.cur.below hb, h.new, h.dis, h.rd0⟩
theorem Sc.addL (h : Sc w W C rs) (h' : Sg W W' rs') : Sc w W' C (rs' ++ rs) :=
  ⟨h.sg.addL h', h.cur.below h'.bel, h.new, fun r hr => by
    rcases List.mem_append.mp hr with hr | hr
    · intro e
      have := World.ownsRow.lt (h'.own r hr) _ e
      have := h.cur.hg
      omega
    · exact h.dis r hr, h.rd0⟩
theorem Sc.sub (h : Sc w W C rs) (hs : rs'.Sublist rs) : Sc w W C rs' := ⟨h.sg.sub hs, h.cur, h.new, fun r hr => h.dis r (hs.subset hr), h.rd0⟩
theorem Sc.perm (h : Sc w W C rs) (hs : rs.Perm rs') : Sc w W C rs' := ⟨h.sg.perm hs, h.cur, h.new, fun r hr => h.dis r (hs.mem_iff.2 hr), h.rd0⟩
theorem Sc.al (h : Sc w W C rs) (o : Obj) : Sc w (W.alloc o) C rs := h.step (below_alloc1 _ _)
theorem Sc.dr (h : Sc w W C rs) : Sc w W.drew C rs := h.step (Below.refl _ _).drew
theorem Sc.lit {α : Type} (h : Sc w W C rs) (K : Kd α) (L : List α) (n : Nat) (hn : L.length = n) (hm : n ≤ 1000000) (cs : Array Value) (hc : cs.toList = K.flat L) : Sc w (W.alloc (.cells cs K.t)) C (rG K (.slice (some ⟨W.heap.size, 0, none⟩) n n) L :: rs) :=
  ⟨h.sg.lit K L n hn hm cs hc, h.cur.alloc _, h.new, fun r hr => by
    rcases List.mem_cons.mp hr with rfl | hr
    · intro e
      have e' : W.heap.size = C.g := Option.some.inj e
      have := h.cur.hg
      omega
    · exact h.dis r hr, h.rd0⟩
/-- Behind a step that keeps the cursor's block. -/
theorem Sc.turn (h : Sc w W C rs) (h' : Sg w W' rs') (hb : W'.heap[C.g]? = W.heap[C.g]?) (hd : ∀ r ∈ rs', r.v.ownBlock ≠ some C.g) : Sc w W' C rs' := by
  refine ⟨h', Cur.keep2 h.cur h.rd0 (Turn.of h'.bel) hb ?_, h.new, hd, h.rd0⟩
  have hlt : C.g < W.heap.size := h.cur.hg
  rw [Array.getElem?_eq_getElem hlt] at hb
  exact (Array.getElem?_eq_some_iff.mp hb).1
theorem Sc.app {α : Type} {K : Kd α} {v : Value} {M M' : List α} {g' n' c' : Nat} (h : Sc w W C (rG K v M :: rs)) (h' : Sg w W' (rG K (.slice (some ⟨g', 0, none⟩) n' c') M' :: rs)) (hg : W.grownBy W' v.ownBlock) (ha : v.ownBlock = some g' ∨ g' = W.heap.size) : Sc w W' C (rG K (.slice (some ⟨g', 0, none⟩) n' c') M' :: rs) := by
  have hd := h.dis (rG K v M) (List.mem_cons_self ..)
  refine h.turn h' (hg.block _ h.cur.hg (fun e => hd e.symm)) fun r hr => ?_
  rcases List.mem_cons.mp hr with rfl | hr
  · intro e
    have e' : g' = C.g := Option.some.inj e
    rcases ha with ha | ha
    · exact hd (by rw [← e']; exact ha)
    · have := h.cur.hg; omega
  · exact h.dis r (List.mem_cons_of_mem _ hr)
end
set_option maxHeartbeats 1000000 in
theorem below4_any (g : Nat) (a : Option Addr) (len cap : Nat) (zs : List Int) (n : Int) (w : World) (hcur : Cur w g a len cap zs) (hn1 : 256 < n) (hn2 : n ≤ 100000) :
    Calls Tryz.prog 32 #[.pointer (some ⟨g, 0, none⟩), .int .i64 n] w fun e w' => ∃ x : Int, e = .returned (.int .i64 x) ∧ 0 ≤ x ∧ x < n ∧ Turn g w w' ∧ Cur w' g a len cap zs := by
  have HC : Hid (Cur w g a len cap zs) := hcur
  clear hcur
  go_enter Tryz.func32, Tryz.ntmps32
  go_wp2_with (first
    | (go_at_call 59; refine (byte_any _ _ _ _ _ _ HC.out).mono ?_; clear HC; rintro e w1 ⟨x1, rfl, hx10, hx11, ht1, hcur1⟩; have h1 : True := trivial)
    | (go_at_call 59; clear h1; refine (byte_any _ _ _ _ _ _ hcur1).mono ?_; rintro e w2 ⟨x2, rfl, hx20, hx21, ht2, hcur2⟩; have h2 : True := trivial)
    | (go_at_call 59; clear h2; refine (byte_any _ _ _ _ _ _ hcur2).mono ?_; rintro e w3 ⟨x3, rfl, hx30, hx31, ht3, hcur3⟩; have h3 : True := trivial)
    | (go_at_call 59; clear h3; refine (byte_any _ _ _ _ _ _ hcur3).mono ?_; rintro e w4 ⟨x4, rfl, hx40, hx41, ht4, hcur4⟩))
  go_ret
  exact ⟨_, rfl, Int.emod_nonneg _ (by omega), Int.emod_lt_of_pos _ (by omega), ((ht1.trans ht2).trans ht3).trans ht4, hcur4⟩
theorem cell4_at {w : World} {b c d e : Int} (x : Int) (h0 : 0 ≤ x) (h1 : x < 4) : (w.alloc (.cells #[.int .i64 b, .int .i64 c, .int .i64 d, .int .i64 e] 2)).cell? ⟨w.heap.size, x.toNat, none⟩ = some (.int .i64 (sel x [b, c, d, e])) := by
  rw [World.cell?_alloc_at _ _ _ _ rfl]
  exact sel4 h0 h1 b c d e
theorem cell3_at {w : World} {b c d : Int} (x : Int) (h0 : 0 ≤ x) (h1 : x < 3) : (w.alloc (.cells #[.int .i64 b, .int .i64 c, .int .i64 d] 2)).cell? ⟨w.heap.size, x.toNat, none⟩ = some (.int .i64 (sel x [b, c, d])) := by
  rw [World.cell?_alloc_at _ _ _ _ rfl]
  exact sel3 h0 h1 b c d
theorem cell5_at {w : World} {b c d e f : Int} (x : Int) (h0 : 0 ≤ x) (h1 : x < 5) : (w.alloc (.cells #[.int .i64 b, .int .i64 c, .int .i64 d, .int .i64 e, .int .i64 f] 2)).cell? ⟨w.heap.size, x.toNat, none⟩ = some (.int .i64 (sel x [b, c, d, e, f])) := by
  rw [World.cell?_alloc_at _ _ _ _ rfl]
  exact sel5 h0 h1 b c d e f
set_option maxHeartbeats 1000000 in
theorem drawKey_any (g : Nat) (a : Option Addr) (len cap : Nat) (zs : List Int) (w : World) (hcur : Cur w g a len cap zs) :
    Calls Tryz.prog 31 #[.pointer (some ⟨g, 0, none⟩)] w fun e w' => ∃ x : Int, e = .returned (.int .i64 x) ∧ Turn g w w' ∧ Cur w' g a len cap zs := by
  go_enter Tryz.func31, Tryz.ntmps31
  go_upto_if 4 with (go_at_call 21; refine (once_any _ _ _ _ _ _ _ hcur (by decide) (by decide)).mono ?_; rintro e w1 ⟨xb, rfl, ht1, hc1⟩)
  have hg := hc1.hg
  cases xb
  · go_wp2_with (go_at_call 32; refine (below4_any _ _ _ _ _ _ _ hc1 (by decide) (by decide)).mono ?_; rintro e w2 ⟨x2, rfl, hx0, hx1, ht2, hc2⟩)
    go_ret
    exact ⟨_, rfl, ht1.trans ht2, hc2⟩
  · go_wp2_with (go_at_call 32; refine (below_any _ _ _ _ _ _ _ (hc1.alloc _) (by decide) (by decide)).mono ?_; rintro e w2 ⟨x2, rfl, hx0, hx1, ht2, hc2⟩; have hcell := (ht2.cell (b := w1.heap.size) (o := x2.toNat) (by simp) (by omega)).trans (cell4_at x2 hx0 hx1))
    go_ret
    exact ⟨_, rfl, (ht1.alloc _).trans ht2, hc2⟩
/-- Contracts of draws where rows stand. -/
theorem belowC {w W : World} {C : Cu} {rs : List Rw} (h : Sc w W C rs) (n : Int) (hn1 : 1 ≤ n) (hn2 : n ≤ 256) :
    Calls Tryz.prog 32 #[.pointer (some ⟨C.g, 0, none⟩), .int .i64 n] W fun e w' => ∃ x : Int, e = .returned (.int .i64 x) ∧ 0 ≤ x ∧ x < n ∧ Sc w w' C rs :=
  (below_any _ _ _ _ _ n W h.cur hn1 hn2).mono fun _ _ ⟨x, h1, h2, h3, h4, h5⟩ => ⟨x, h1, h2, h3, h.call h4 h5⟩
theorem onceC {w W : World} {C : Cu} {rs : List Rw} (h : Sc w W C rs) (n : Int) (hn1 : 1 ≤ n) (hn2 : n ≤ 256) :
    Calls Tryz.prog 21 #[.pointer (some ⟨C.g, 0, none⟩), .int .i64 n] W fun e w' => ∃ x : Bool, e = .returned (.bool x) ∧ Sc w w' C rs :=
  (once_any _ _ _ _ _ n W h.cur hn1 hn2).mono fun _ _ ⟨x, h1, h4, h5⟩ => ⟨x, h1, h.call h4 h5⟩
theorem keyC {w W : World} {C : Cu} {rs : List Rw} (h : Sc w W C rs) :
    Calls Tryz.prog 31 #[.pointer (some ⟨C.g, 0, none⟩)] W fun e w' => ∃ x : Int, e = .returned (.int .i64 x) ∧ Sc w w' C rs :=
  (drawKey_any _ _ _ _ _ W h.cur).mono fun _ _ ⟨x, h1, h4, h5⟩ => ⟨x, h1, h.call h4 h5⟩
theorem cellC {w W : World} {C : Cu} {rs : List Rw} (h : Sc w W C rs) :
    Calls Tryz.prog 70 #[.pointer (some ⟨C.g, 0, none⟩)] W fun e w' => ∃ l x y : Int, e = .returned (.agg #[.int .i64 l, .int .i64 x, .int .i64 y]) ∧ Sc w w' C rs :=
  (l2Draw_any _ _ _ _ _ W h.cur).mono fun _ _ ⟨l, x, y, h1, h4, h5⟩ => ⟨l, x, y, h1, h.call h4 h5⟩
set_option maxHeartbeats 1000000 in
theorem fromC {w W : World} {C : Cu} {rs : List Rw} (h : Sc w W C rs) (lo hi : Int) (h1 : lo ≤ hi) (h2 : hi - lo ≤ 200) (h3 : -100 ≤ lo) (h4 : lo ≤ 100) :
    Calls Tryz.prog 51 #[.pointer (some ⟨C.g, 0, none⟩), .int .i64 lo, .int .i64 hi] W fun e w' => ∃ x : Int, e = .returned (.int .i64 x) ∧ lo ≤ x ∧ x ≤ hi ∧ Sc w w' C rs := by
  have HC := Lib.hid (fun n a b => belowC h n a b)
  clear h
  go_enter Tryz.func51, Tryz.ntmps51
  go_wp2_with (go_at_call 32; refine (HC.out _ (by omega) (by omega)).mono ?_; rintro e w1 ⟨x, rfl, x0, x1, hS⟩)
  go_ret
  exact ⟨lo + x, rfl, by omega, by omega, hS⟩
set_option maxRecDepth 100000 in
set_option maxHeartbeats 4000000 in
theorem cellsC {w W : World} {C : Cu} {rs : List Rw} (h : Sc w W C rs) :
    Calls Tryz.prog 52 #[.pointer (some ⟨C.g, 0, none⟩)] W fun e w' => ∃ q n cp L, e = .returned (.slice q n cp) ∧ Hid (L.length = n ∧ n ≤ 10) ∧ Sc w w' C (rG kC (.slice q n cp) L :: rs) := by
  obtain ⟨i0, hi, hz0, hz1, hz2⟩ := info_parts info89
  have HC := Lib.hid (fun n a b => onceC h n a b)
  go_enter Tryz.func52, Tryz.ntmps52
  go_upto_if 7 with (go_at_call 21; refine (HC.out 3 (by decide) (by decide)).mono ?_; rintro e w1 ⟨b1, rfl, hS1⟩)
  clear HC h
  cases b1
  rotate_left
  · have hS2 := hS1.lit kC [⟨0, 0, 0⟩] 1 rfl (by decide) #[.int .i64 0, .int .i64 0, .int .i64 0] rfl
    go_wp2
    go_ret
    exact ⟨_, 1, 1, _, rfl, ⟨rfl, by decide⟩, hS2⟩
  have hS2 := hS1.lit kC [] 0 rfl (by decide) #[] rfl
  go_wp2_with (go_at_call 32; refine (belowC hS2 4 (by decide) (by decide)).mono ?_; rintro e w2 ⟨x, rfl, x0, x1, hS3⟩)
  clear hS1 hS2
  obtain ⟨k0, hk0⟩ : ∃ k0 : Nat, x = k0 := ⟨x.toNat, by omega⟩
  subst hk0
  go_loopw [3, 4] (fun lv i wr => ∃ (k m : Nat) (q : Option Addr) (cp : Nat) (L : List T3), k ≤ 3 ∧ i = .int .i64 k ∧ lv = .slice q m cp ∧ Hid (L.length = m ∧ m + k ≤ 10) ∧ (¬ lv = .slice none 0 0) ∧ Sc w wr C (rG kC (.slice q m cp) L :: rs)) (fun _ i _ => (intOf i).toNat)
  case atStart => exact ⟨k0, 0, _, 0, [], by omega, rfl, rfl, ⟨rfl, by omega⟩, by simp, hS3⟩
  case round =>
    clear hS3
    obtain ⟨k, m, q, cp, L, hk3, rfl, rfl, hL, hnn, hS⟩ := hrel
    by_cases hlt : 0 < k
    · have hki : (0 : Int) < k := by omega
      have HB : Hid (∀ W, Sc w W C (rG kC (.slice q m cp) L :: rs) → Calls Tryz.prog 70 #[.pointer (some ⟨C.g, 0, none⟩)] W fun e w' => ∃ l x y : Int, e = .returned (.agg #[.int .i64 l, .int .i64 x, .int .i64 y]) ∧ Sc w w' C (rG kC (.slice q m cp) L :: rs)) := fun W h => cellC h
      have HO : Hid (∀ W rs, Sc w W C rs → Calls Tryz.prog 21 #[.pointer (some ⟨C.g, 0, none⟩), .int .i64 8] W fun e w' => ∃ x : Bool, e = .returned (.bool x) ∧ Sc w w' C rs) := fun W rs h => onceC h 8 (by decide) (by decide)
      go_upto_region 8 with (go_at_call 70; refine (HB.out _ hS).mono ?_; rintro e w3 ⟨l, x, y, rfl, hS4⟩; have hS5 := hS4.lit kC [⟨l, x, y⟩] 1 rfl (by decide) #[.int .i64 l, .int .i64 x, .int .i64 y] rfl; change Sc w (w3.alloc (.cells #[.int .i64 l, .int .i64 x, .int .i64 y] 89)) _ _ at hS5)
      have ho5 := hS5.sg.three (K := kC) (g := w3.heap.size) (n := 1) (p := ⟨l, x, y⟩) (by simp) rfl
      generalize hb3 : w3.heap.size = b3 at *
      cases hv : M.cellB l x y
      · go_upto_if 24 with (first
          | (go_at_call 71; refine (sCell_v hv _).mono ?_; rintro e w4 ⟨rfl, hb4⟩; have hS6 := hS5.step hb4)
          | (go_at_call 21; refine (HO.out _ _ hS6).mono ?_; rintro e w5 ⟨b5, rfl, hS7⟩))
        cases b5
        · go_wp2
          go_roundw
          case rel => exact ⟨k - 1, m, q, cp, L, by omega, by go_num, rfl, ⟨hL.out.1, by have := hL.out.2; omega⟩, hnn, hS7.sub (by simp)⟩
          case measure => simp [intOf]; omega
        · obtain ⟨y0, y1, y2, yf, yg⟩ := hS7.sg.three (K := kC) (g := b3) (n := 1) (p := ⟨l, x, y⟩) (by simp) rfl
          have hS7' := hS7.sub (rs' := rG kC (.slice q m cp) L :: rs) (by simp)
          go_wp2_with (at_builtin; refine wpList_sgapp appC rfl _ _ rfl (A := []) (B := [⟨l, x, y⟩]) (n := m) (m := 1) hS7'.sg (below_alloc1 _ _) hL.out.1 rfl rfl ⟨w5.heap.size, 0, none⟩ 1 rfl (lit_src (xs := [.int .i64 l, .int .i64 x, .int .i64 y]) rfl) (oneCs _) (.inl (by decide)) (by have := hL.out.2; omega) ?_; intro g' cap' w6 hS8 hgr hat)
          have hS9 := (hS7'.al _).app hS8 hgr hat
          go_roundw
          case rel => exact ⟨k - 1, m + 1, _, cap', L ++ [⟨l, x, y⟩], by omega, by go_num, rfl, ⟨by rw [List.length_append, hL.out.1]; rfl, by have := hL.out.2; omega⟩, by simp, hS9⟩
          case measure => simp [intOf]; omega
      · go_upto_if 24 with (go_at_call 71; refine (sCell_v hv _).mono ?_; rintro e w5 ⟨rfl, hb4⟩; have hS7 := hS5.step hb4)
        obtain ⟨y0, y1, y2, yf, yg⟩ := hS7.sg.three (K := kC) (g := b3) (n := 1) (p := ⟨l, x, y⟩) (by simp) rfl
        have hS7' := hS7.sub (rs' := rG kC (.slice q m cp) L :: rs) (by simp)
        go_wp2_with (at_builtin; refine wpList_sgapp appC rfl _ _ rfl (A := []) (B := [⟨l, x, y⟩]) (n := m) (m := 1) hS7'.sg (below_alloc1 _ _) hL.out.1 rfl rfl ⟨w5.heap.size, 0, none⟩ 1 rfl (lit_src (xs := [.int .i64 l, .int .i64 x, .int .i64 y]) rfl) (oneCs _) (.inl (by decide)) (by have := hL.out.2; omega) ?_; intro g' cap' w6 hS8 hgr hat)
        have hS9 := (hS7'.al _).app hS8 hgr hat
        go_roundw
        case rel => exact ⟨k - 1, m + 1, _, cap', L ++ [⟨l, x, y⟩], by omega, by go_num, rfl, ⟨by rw [List.length_append, hL.out.1]; rfl, by have := hL.out.2; omega⟩, by simp, hS9⟩
        case measure => simp [intOf]; omega
    · obtain rfl : k = 0 := by omega
      go_wp2
      go_ret
      exact ⟨q, m, cp, L, rfl, ⟨hL.out.1, by have := hL.out.2; omega⟩, hS⟩
end Go.Proofs.YtkinbgcnenieeaaGreatDoor
