/-
  Draws: from .. to; votes and decisions where a cursor stands.
-/
import Derived.Test.YtobbankkfplooaaGreatKB5
import Derived.Test.YtobbankkfplooaaGreatMD4
import Derived.Test.YtobbankkfplooaaGreatKS3
import Derived.Test.YtobbankkfplooaaGreatKQ1S
namespace Go.Proofs.YtobbankkfplooaaGreat.K
open Go.RowKit Go.Joins M
attribute [local go_sem] Oper.semAt_some

theorem Sg.three {α : Type} {K : Kd α} {w W : World} {rs : List Rw} {g n : Nat} {p : α} {a b c : Value} (h : Sg w W rs) (hm : rG K (.slice (some ⟨g, 0, none⟩) 1 n) [p] ∈ rs) (hv : K.vs p = [a, b, c]) :
    W.cell? ⟨g, 0, none⟩ = some a ∧ W.cell? ⟨g, 1, none⟩ = some b ∧ W.cell? ⟨g, 2, none⟩ = some c ∧ (∀ j, W.frozen? ⟨g, j, none⟩ = false) ∧ g < W.heap.size := by
  have ho := h.mem hm
  have h0 := (OwG.cs ho).at (k := 0) (a := p) rfl (i := 0) (u := a) (by rw [hv]; rfl)
  have h1 := (OwG.cs ho).at (k := 0) (a := p) rfl (i := 1) (u := b) (by rw [hv]; rfl)
  have h2 := (OwG.cs ho).at (k := 0) (a := p) rfl (i := 2) (u := c) (by rw [hv]; rfl)
  simp only [Nat.zero_mul, Nat.zero_add] at h0 h1 h2
  exact ⟨h0, h1, h2, OwG.fz ho, (OwG.cs ho).1⟩
theorem Sg.al {w W : World} {rs : List Rw} (h : Sg w W rs) (o : Obj) : Sg w (W.alloc o) rs := h.step (below_alloc1 _ _)
theorem Turn.gr {g : Nat} {w w' : World} (h : Turn g w w') : w.grownBy w' (some g) := ⟨h.os, h.tape, h.output, h.size, fun k hk hne => h.block k hk (fun e => hne (by rw [e]))⟩
/-- A cursor: its block, and what it draws from. -/
structure Cu where
  g : Nat
  a : Option Addr
  len : Nat
  cap : Nat
  zs : List Int
abbrev CurC (W : World) (C : Cu) : Prop := Cur W C.g C.a C.len C.cap C.zs
/-- Rows of one's own since w, and a cursor that is as new. -/
structure Sc (w W : World) (C : Cu) (rs : List Rw) : Prop where
  sg : Sg w W rs
  cur : CurC W C
  new : w.heap.size ≤ C.g
  dis : ∀ r ∈ rs, r.v.ownBlock ≠ some C.g
  rd0 : Rd w C.g C.a C.len C.zs
section
variable {w W W' : World} {C : Cu} {rs rs' : List Rw}
theorem Sc.call (h : Sc w W C rs) (t : Turn C.g W W') (c : CurC W' C) : Sc w W' C rs :=
  ⟨⟨h.sg.bel.trans (t.below h.new h.sg.bel.size), fun r hr => World.ownsRow.kept (h.sg.own r hr) (Turn.gr t) (.inr (h.dis r hr)), h.sg.dis⟩, c, h.new, h.dis, h.rd0⟩
theorem Sc.step (h : Sc w W C rs) (hb : Below W.heap.size W W') : Sc w W' C rs := ⟨h.sg.step hb, h.cur.below hb, h.new, h.dis, h.rd0⟩
theorem Sc.addL (h : Sc w W C rs) (h' : Sg W W' rs') : Sc w W' C (rs' ++ rs) :=
  ⟨h.sg.addL h', h.cur.below h'.bel, h.new, fun r hr => by
    rcases List.mem_append.mp hr with hr | hr
    · intro e
      have := World.ownsRow.lt (h'.own r hr) _ e
      have := h.cur.hg
      omega
    · exact h.dis r hr, h.rd0⟩
theorem Sc.sub (h : Sc w W C rs) (hs : rs'.Sublist rs) : Sc w W C rs' := ⟨h.sg.sub hs, h.cur, h.new, fun r hr => h.dis r (hs.subset hr), h.rd0⟩
theorem Sc.perm (h : Sc w W C rs) (hs : rs.Perm rs') : Sc w W C rs' := ⟨h.sg.perm hs, h.cur, h.new, fun r hr => h.dis r (hs.mem_iff.2 hr), h.rd0⟩
theorem Sc.al (h : Sc w W C rs) (o : Obj) : Sc w (W.alloc o) C rs := h.step (below_alloc1 _ _)
theorem Sc.dr (h : Sc w W C rs) : Sc w W.drew C rs := h.step (Below.refl _ _).drew
theorem Sc.lit {α : Type} (h : Sc w W C rs) (K : Kd α) (L : List α) (n : Nat) (hn : L.length = n) (hm : n ≤ 1000000) (cs : Array Value) (hc : cs.toList = K.flat L) : Sc w (W.alloc (.cells cs K.t)) C (rG K (.slice (some ⟨W.heap.size, 0, none⟩) n n) L :: rs) :=
  ⟨h.sg.lit K L n hn hm cs hc, h.cur.alloc _, h.new, fun r hr => by
    rcases List.mem_cons.mp hr with rfl | hr
    · intro e
      have e' : W.heap.size = C.g := Option.some.inj e
      have := h.cur.hg
      omega
    · exact h.dis r hr, h.rd0⟩
/-- Behind a step that keeps the cursor's block. -/
theorem Sc.turn (h : Sc w W C rs) (h' : Sg w W' rs') (hb : W'.heap[C.g]? = W.heap[C.g]?) (hd : ∀ r ∈ rs', r.v.ownBlock ≠ some C.g) : Sc w W' C rs' := by
  refine ⟨h', Cur.keep2 h.cur h.rd0 (Turn.of h'.bel) hb ?_, h.new, hd, h.rd0⟩
  have hlt : C.g < W.heap.size := h.cur.hg
  rw [Array.getElem?_eq_getElem hlt] at hb
  exact (Array.getElem?_eq_some_iff.mp hb).1
theorem Sc.app {α : Type} {K : Kd α} {v : Value} {M M' : List α} {g' n' c' : Nat} (h : Sc w W C (rG K v M :: rs)) (h' : Sg w W' (rG K (.slice (some ⟨g', 0, none⟩) n' c') M' :: rs)) (hg : W.grownBy W' v.ownBlock) (ha : v.ownBlock = some g' ∨ g' = W.heap.size) : Sc w W' C (rG K (.slice (some ⟨g', 0, none⟩) n' c') M' :: rs) := by
  have hd := h.dis (rG K v M) (List.mem_cons_self ..)
  refine h.turn h' (hg.block _ h.cur.hg (fun e => hd e.symm)) fun r hr => ?_
  rcases List.mem_cons.mp hr with rfl | hr
  · intro e
    have e' : g' = C.g := Option.some.inj e
    rcases ha with ha | ha
    · exact hd (by rw [← e']; exact ha)
    · have := h.cur.hg; omega
  · exact h.dis r (List.mem_cons_of_mem _ hr)
end
set_option maxHeartbeats 1000000 in
theorem below4_any (g : Nat) (a : Option Addr) (len cap : Nat) (zs : List Int) (n : Int) (w : World) (hcur : Cur w g a len cap zs) (hn1 : 256 < n) (hn2 : n ≤ 100000) :
    Calls Tryz.prog 64 #[.pointer (some ⟨g, 0, none⟩), .int .i64 n] w fun e w' => ∃ x : Int, e = .returned (.int .i64 x) ∧ 0 ≤ x ∧ x < n ∧ Turn g w w' ∧ Cur w' g a len cap zs := by
  have HC : Hid (Cur w g a len cap zs) := hcur
  clear hcur
  go_enter Tryz.func64, Tryz.ntmps64
  go_wp2_with (first
    | (go_at_call 86; refine (byte_any _ _ _ _ _ _ HC.out).mono ?_; clear HC; rintro e w1 ⟨x1, rfl, hx10, hx11, ht1, hcur1⟩; have h1 : True := trivial)
    | (go_at_call 86; clear h1; refine (byte_any _ _ _ _ _ _ hcur1).mono ?_; rintro e w2 ⟨x2, rfl, hx20, hx21, ht2, hcur2⟩; have h2 : True := trivial)
    | (go_at_call 86; clear h2; refine (byte_any _ _ _ _ _ _ hcur2).mono ?_; rintro e w3 ⟨x3, rfl, hx30, hx31, ht3, hcur3⟩; have h3 : True := trivial)
    | (go_at_call 86; clear h3; refine (byte_any _ _ _ _ _ _ hcur3).mono ?_; rintro e w4 ⟨x4, rfl, hx40, hx41, ht4, hcur4⟩))
  go_ret
  exact ⟨_, rfl, Int.emod_nonneg _ (by omega), Int.emod_lt_of_pos _ (by omega), ((ht1.trans ht2).trans ht3).trans ht4, hcur4⟩
theorem cell4_at {w : World} {b c d e : Int} (x : Int) (h0 : 0 ≤ x) (h1 : x < 4) : (w.alloc (.cells #[.int .i64 b, .int .i64 c, .int .i64 d, .int .i64 e] 2)).cell? ⟨w.heap.size, x.toNat, none⟩ = some (.int .i64 (sel x [b, c, d, e])) := by
  rw [World.cell?_alloc_at _ _ _ _ rfl]
  exact sel4 h0 h1 b c d e
theorem cell3_at {w : World} {b c d : Int} (x : Int) (h0 : 0 ≤ x) (h1 : x < 3) : (w.alloc (.cells #[.int .i64 b, .int .i64 c, .int .i64 d] 2)).cell? ⟨w.heap.size, x.toNat, none⟩ = some (.int .i64 (sel x [b, c, d])) := by
  rw [World.cell?_alloc_at _ _ _ _ rfl]
  exact sel3 h0 h1 b c d
theorem cell5_at {w : World} {b c d e f : Int} (x : Int) (h0 : 0 ≤ x) (h1 : x < 5) : (w.alloc (.cells #[.int .i64 b, .int .i64 c, .int .i64 d, .int .i64 e, .int .i64 f] 2)).cell? ⟨w.heap.size, x.toNat, none⟩ = some (.int .i64 (sel x [b, c, d, e, f])) := by
  rw [World.cell?_alloc_at _ _ _ _ rfl]
  exact sel5 h0 h1 b c d e f
/-- Contracts of draws where rows stand. -/
theorem belowC {w W : World} {C : Cu} {rs : List Rw} (h : Sc w W C rs) (n : Int) (hn1 : 1 ≤ n) (hn2 : n ≤ 256) :
    Calls Tryz.prog 64 #[.pointer (some ⟨C.g, 0, none⟩), .int .i64 n] W fun e w' => ∃ x : Int, e = .returned (.int .i64 x) ∧ 0 ≤ x ∧ x < n ∧ Sc w w' C rs :=
  (below_any _ _ _ _ _ n W h.cur hn1 hn2).mono fun _ _ ⟨x, h1, h2, h3, h4, h5⟩ => ⟨x, h1, h2, h3, h.call h4 h5⟩
theorem onceC {w W : World} {C : Cu} {rs : List Rw} (h : Sc w W C rs) (n : Int) (hn1 : 1 ≤ n) (hn2 : n ≤ 256) :
    Calls Tryz.prog 31 #[.pointer (some ⟨C.g, 0, none⟩), .int .i64 n] W fun e w' => ∃ x : Bool, e = .returned (.bool x) ∧ Sc w w' C rs :=
  (once_any _ _ _ _ _ n W h.cur hn1 hn2).mono fun _ _ ⟨x, h1, h4, h5⟩ => ⟨x, h1, h.call h4 h5⟩
theorem Sc.raw {w W : World} {C : Cu} {A Bs : List Rw} {α : Type} {K : Kd α} {g n c : Nat} {L : List α} (h : Sc w W C (A ++ rG K (.slice (some ⟨g, 0, none⟩) n c) L :: Bs)) (j : Nat) (u : Value) {L' : List α} (h' : Sg w (W.setCell ⟨g, j, none⟩ u) (A ++ rG K (.slice (some ⟨g, 0, none⟩) n c) L' :: Bs)) : Sc w (W.setCell ⟨g, j, none⟩ u) C (A ++ rG K (.slice (some ⟨g, 0, none⟩) n c) L' :: Bs) := by
  have hd := h.dis (rG K (.slice (some ⟨g, 0, none⟩) n c) L) (by simp)
  refine h.turn h' (Below.heap_setCell W ⟨g, j, none⟩ u C.g (fun e => hd (by have e' : C.g = g := e; rw [e']; rfl))) fun r hr => ?_
  simp only [List.mem_append, List.mem_cons] at hr
  rcases hr with hr | rfl | hr
  · exact h.dis r (by simp [hr])
  · exact hd
  · exact h.dis r (by simp [hr])
theorem Sc.start {w W : World} {rs : List Rw} {a : Option Addr} {len cap : Nat} {zs : List Int} {g : Nat} {h : Int} (hS : Sg w W rs) (hl : len ≤ 4096) (hr : Rd w g a len zs) : Sc w (W.alloc (.cells #[.slice a len cap, .int .i64 0, .int .i64 h] 86)) ⟨W.heap.size, a, len, cap, zs⟩ rs :=
  ⟨hS.al _, Cur.fresh hl (hr.up hS.bel hS.bel.size), hS.bel.size, fun r hr' e => by
    have h1 := World.ownsRow.lt (hS.own r hr') _ e
    have h2 : (⟨W.heap.size, a, len, cap, zs⟩ : Cu).g = W.heap.size := rfl
    omega, hr.up (Below.refl _ _) hS.bel.size⟩
theorem newC {w W : World} {rs : List Rw} {a : Option Addr} {len cap : Nat} {zs : List Int} {g : Nat} (hS : Sg w W rs) (hl : len ≤ 4096) (hr : Rd w g a len zs) :
    Calls Tryz.prog 28 #[.slice a len cap] W fun e w' => ∃ C : Cu, e = .returned (.pointer (some ⟨C.g, 0, none⟩)) ∧ Sc w w' C rs :=
  (new_any a len cap zs W hl (hr.up hS.bel hS.bel.size)).mono fun _ _ ⟨h, h1, h2⟩ => ⟨⟨W.heap.size, a, len, cap, zs⟩, h1, by subst h2; exact Sc.start hS hl (hr.up (Below.refl _ _) (Nat.le_refl _))⟩
end Go.Proofs.YtobbankkfplooaaGreat.K
namespace Go.Proofs.YtobbankkfplooaaGreat.K
open Go.RowKit Go.Joins M
attribute [local go_sem] Oper.semAt_some

set_option maxHeartbeats 1000000 in
theorem from5C {w W : World} {C : Cu} {rs : List Rw} (h : Sc w W C rs) :
    Calls Tryz.prog 30 #[.pointer (some ⟨C.g, 0, none⟩), .int .i64 (-1), .int .i64 5] W fun e w' => ∃ x : Int, e = .returned (.int .i64 x) ∧ -1 ≤ x ∧ x ≤ 5 ∧ Sc w w' C rs := by
  have HB := Lib.hid (belowC h 7 (by decide) (by decide))
  clear h
  go_enter Tryz.func30, Tryz.ntmps30
  go_wp2_with (go_at_call 64; refine HB.out.mono ?_; rintro e w1 ⟨x1, rfl, hx10, hx11, hS1⟩; have hw : IntKind.i64.wrap (-1 + x1) = -1 + x1 := by rw [IntKind.wrap_i64] <;> omega)
  go_ret
  exact ⟨_, rfl, by omega, by omega, hS1⟩
set_option maxHeartbeats 1000000 in
theorem from6C {w W : World} {C : Cu} {rs : List Rw} (h : Sc w W C rs) :
    Calls Tryz.prog 30 #[.pointer (some ⟨C.g, 0, none⟩), .int .i64 (-1), .int .i64 6] W fun e w' => ∃ x : Int, e = .returned (.int .i64 x) ∧ -1 ≤ x ∧ x ≤ 6 ∧ Sc w w' C rs := by
  have HB := Lib.hid (belowC h 8 (by decide) (by decide))
  clear h
  go_enter Tryz.func30, Tryz.ntmps30
  go_wp2_with (go_at_call 64; refine HB.out.mono ?_; rintro e w1 ⟨x1, rfl, hx10, hx11, hS1⟩; have hw : IntKind.i64.wrap (-1 + x1) = -1 + x1 := by rw [IntKind.wrap_i64] <;> omega)
  go_ret
  exact ⟨_, rfl, by omega, by omega, hS1⟩

/-- The world W with its first n blocks alone. -/
def cutW (W : World) (n : Nat) : World := { W with heap := W.heap.extract 0 n }
theorem cutW_size {W : World} {n : Nat} (h : n ≤ W.heap.size) : (cutW W n).heap.size = n := by
  simp [cutW]; omega
theorem cutW_below {W : World} {n : Nat} (h : n ≤ W.heap.size) : Below n (cutW W n) W :=
  ⟨rfl, rfl, rfl, by rw [cutW_size h]; exact h, fun k hk => by
    show W.heap[k]? = (W.heap.extract 0 n)[k]?
    rw [Array.getElem?_extract]
    simp; omega⟩
theorem own_rebase {W : World} {r : Rw} {b b' : Nat} (h : r.own W b) (hb : ∀ g, r.v.ownBlock = some g → b ≤ g → b' ≤ g) : r.own W b' := by
  obtain ⟨h1, h2⟩ := h
  refine ⟨h1, ?_⟩
  rcases h2 with h2 | ⟨g, cap, cur, hv, hbg, hh⟩
  · exact .inl h2
  · exact .inr ⟨g, cap, cur, hv, hb g (by rw [hv]; rfl) hbg, hh⟩
theorem own_low {W : World} {r : Rw} {b g : Nat} (h : r.own W b) (e : r.v.ownBlock = some g) : b ≤ g := by
  obtain ⟨h1, h2⟩ := h
  rcases h2 with ⟨h2, _⟩ | ⟨g', cap, cur, hv, hbg, hh⟩
  · rw [h2] at e; cases e
  · rw [hv] at e; cases e; exact hbg
/-- What is said of rows from any base, told of rows beside a cursor made first. -/
theorem Sc.under {w W : World} {C : Cu} {rs : List Rw} (h : Sc w W C rs) (hg : C.g = w.heap.size) : Sg (cutW W (C.g + 1)) W rs := by
  have hlt : C.g + 1 ≤ W.heap.size := h.cur.hg
  refine ⟨?_, fun r hr => ?_, h.sg.dis⟩
  · rw [cutW_size hlt]; exact cutW_below hlt
  · rw [cutW_size hlt]
    refine own_rebase (h.sg.own r hr) fun g he hle => ?_
    have hne : g ≠ C.g := fun e => h.dis r hr (by rw [he, e])
    omega
theorem Sc.over {w W W' : World} {C : Cu} {rs rs' : List Rw} (h : Sc w W C rs) (hg : C.g = w.heap.size) (h' : Sg (cutW W (C.g + 1)) W' rs') : Sc w W' C rs' := by
  have hlt : C.g + 1 ≤ W.heap.size := h.cur.hg
  have hb := h'.bel
  have ho := h'.own
  have hs := hb.size
  rw [cutW_size hlt] at hb ho hs
  have hc := cutW_below hlt
  have hS : Sg w W' rs' := ⟨⟨hb.os.trans h.sg.bel.os, hb.tape.trans h.sg.bel.tape, hb.output.trans h.sg.bel.output, by omega, fun k hk => (hb.block k (by omega)).trans ((hc.block k (by omega)).symm.trans (h.sg.bel.block k hk))⟩, fun r hr => own_rebase (ho r hr) (fun g _ hle => by omega), h'.dis⟩
  refine h.turn hS ((hb.block _ (by omega)).trans (hc.block _ (by omega)).symm) fun r hr e => ?_
  have hr2 := own_low (ho r hr) e
  omega
theorem own_keep {W W' : World} {r : Rw} {b : Nat} (h : r.own W b) (hk : ∀ g, r.v.ownBlock = some g → W'.heap[g]? = W.heap[g]?) : r.own W' b := by
  obtain ⟨h1, h2⟩ := h
  refine ⟨h1, ?_⟩
  rcases h2 with h2 | ⟨g, cap, cur, hv, hbg, hh, hr⟩
  · exact .inl h2
  · exact .inr ⟨g, cap, cur, hv, hbg, (hk g (by rw [hv]; rfl)).trans hh, hr⟩
/-- Blocks of these rows lie from m on. -/
def Past (m : Nat) (rs : List Rw) : Prop := ∀ r ∈ rs, ∀ g, r.v.ownBlock = some g → m ≤ g
/-- The same, beside older rows. -/
theorem Sc.under2 {w W : World} {C : Cu} {A Bs : List Rw} (h : Sc w W C (A ++ Bs)) {m : Nat} (hm : m ≤ W.heap.size) (hA : Past m A) : Sg (cutW W m) W A := by
  refine ⟨?_, fun r hr => ?_, (List.pairwise_append.mp h.sg.dis).1⟩
  · rw [cutW_size hm]; exact cutW_below hm
  · rw [cutW_size hm]
    exact own_rebase (h.sg.own r (List.mem_append_left _ hr)) fun g he _ => hA r hr g he
theorem Sc.over2 {w W W' : World} {C : Cu} {A A' Bs : List Rw} (h : Sc w W C (A ++ Bs)) {m : Nat} (hm : m ≤ W.heap.size) (hC : C.g < m) (hB : ∀ r ∈ Bs, ∀ g, r.v.ownBlock = some g → g < m) (h' : Sg (cutW W m) W' A') : Sc w W' C (A' ++ Bs) := by
  have hb := h'.bel
  have ho := h'.own
  have hs := hb.size
  rw [cutW_size hm] at hb ho hs
  have hc := cutW_below hm
  have hn := h.new
  have hkeep : ∀ k, k < m → W'.heap[k]? = W.heap[k]? := fun k hk => (hb.block k hk).trans (hc.block k hk).symm
  have hS : Sg w W' (A' ++ Bs) := by
    refine ⟨⟨hb.os.trans h.sg.bel.os, hb.tape.trans h.sg.bel.tape, hb.output.trans h.sg.bel.output, by omega, fun k hk => (hkeep k (by omega)).trans (h.sg.bel.block k hk)⟩, fun r hr => ?_, List.pairwise_append.mpr ⟨h'.dis, (List.pairwise_append.mp h.sg.dis).2.1, fun a ha b hbb => ?_⟩⟩
    · rcases List.mem_append.mp hr with hr | hr
      · exact own_rebase (ho r hr) (fun g _ hle => by omega)
      · exact own_keep (h.sg.own r (List.mem_append_right _ hr)) fun g he => hkeep g (hB r hr g he)
    · by_cases e : a.v.ownBlock = none
      · exact .inl e
      · obtain ⟨g, hg⟩ := Option.ne_none_iff_exists'.mp e
        have h1 := own_low (ho a ha) hg
        exact .inr fun e2 => by have := hB b hbb g (by rw [← e2, hg]); omega
  refine h.turn hS (hkeep _ hC) fun r hr e => ?_
  rcases List.mem_append.mp hr with hr | hr
  · have := own_low (ho r hr) e; omega
  · exact h.dis r (List.mem_append_right _ hr) e
/-- A new cursor where nothing stands: its place. -/
theorem new0C {w : World} {a : Option Addr} {len cap : Nat} {zs : List Int} (hl : len ≤ 4096) (hr : Rd w w.heap.size a len zs) :
    Calls Tryz.prog 28 #[.slice a len cap] w fun e w' => ∃ C : Cu, e = .returned (.pointer (some ⟨C.g, 0, none⟩)) ∧ Sc w w' C [] ∧ C.g = w.heap.size :=
  (new_any a len cap zs w hl hr).mono fun _ _ ⟨h, h1, h2⟩ => ⟨⟨w.heap.size, a, len, cap, zs⟩, h1, by subst h2; exact Sc.start (Sg.nil w) hl hr, rfl⟩
namespace G
open Y
/-- A Deal's rows lie from m on. -/
theorem gR_past {m : Nat} {h : Gv} {QL : List YQ} {O V O' V' : List Int} (hp : Past m (gR h QL O V)) : Past m (gR h QL O' V') := by
  intro r hr g hg
  simp only [gR, trY, List.mem_cons] at hr
  rcases hr with rfl | rfl | rfl | hr
  · exact hp (rG kI (.slice h.u.p h.u.n h.u.c) V) (by simp [gR]) g hg
  · exact hp (rG kI (.slice h.o.p h.o.n h.o.c) O) (by simp [gR]) g hg
  · exact hp (rG kY (.slice h.y.p h.y.n h.y.c) (QL ++ [])) (by simp [gR, trY]) g hg
  · exact hp r (by simp only [gR, trY, List.mem_cons]; exact .inr (.inr (.inr hr))) g hg
theorem row_past {m g n : Nat} {h : Gv} {rs : List Rw} (hg : m ≤ g) (hp : Past m rs) : Past m (rG kG (.slice (some ⟨g, 0, none⟩) 1 n) [h] :: rs) := by
  intro r hr g' hg'
  rcases List.mem_cons.mp hr with rfl | hr
  · have e : g = g' := Option.some.inj hg'
    omega
  · exact hp r hr g' hg'
theorem voteC (h : Gv) (QL : List YQ) (O V : List Int) (x : Int) (yes : Bool) (w W : World) (C : Cu) (g m : Nat) (Bs : List Rw) (hS : Sc w W C ((rG kG (.slice (some ⟨g, 0, none⟩) 1 1) [h] :: gR h QL O V) ++ Bs)) (hm : m ≤ W.heap.size) (hC : C.g < m) (hg : m ≤ g) (hp : Past m (gR h QL O V)) (hB : ∀ r ∈ Bs, ∀ g, r.v.ownBlock = some g → g < m) (hn : 1 ≤ h.u.n ∧ h.u.n ≤ 4) (hon : h.o.n = h.u.n) {r : Dd × Bool} (hr : votedD ⟨h.t, h.q, yds QL, O, V, h.s⟩ x yes = r) :
    Calls Tryz.prog 41 #[.pointer (some ⟨g, 0, none⟩), .int .i64 x, .bool yes] W fun e w' => e = .returned (.bool r.2) ∧ Sc w w' C ((rG kG (.slice (some ⟨g, 0, none⟩) 1 1) [h] :: gR h QL O r.1.V) ++ Bs) :=
  (sVote_any h QL O V x yes _ W g (hS.under2 hm (row_past hg hp)) hn hon hr).mono fun _ _ ⟨h1, h2⟩ => ⟨h1, hS.over2 hm hC hB h2⟩
theorem decideC (h : Gv) (QL : List YQ) (O V : List Int) (off : Bool) (w W : World) (C : Cu) (g m : Nat) (Bs : List Rw) (hS : Sc w W C ((rG kG (.slice (some ⟨g, 0, none⟩) 1 1) [h] :: gR h QL O V) ++ Bs)) (hm : m ≤ W.heap.size) (hC : C.g < m) (hg : m ≤ g) (hp : Past m (gR h QL O V)) (hB : ∀ r ∈ Bs, ∀ g, r.v.ownBlock = some g → g < m) (hn : 1 ≤ h.u.n ∧ h.u.n ≤ 4) {r : Dd × Bool} (hr : decidedD ⟨h.t, h.q, yds QL, O, V, h.s⟩ off = r) :
    Calls Tryz.prog 53 #[.pointer (some ⟨g, 0, none⟩), .bool off] W fun e w' => e = .returned (.bool r.2) ∧ Sc w w' C ((rG kG (.slice (some ⟨g, 0, none⟩) 1 1) [⟨h.t, h.q, h.y, h.o, h.u, r.1.s⟩] :: gR ⟨h.t, h.q, h.y, h.o, h.u, r.1.s⟩ QL O V) ++ Bs) :=
  (sDecide_any h QL O V off _ W g (hS.under2 hm (row_past hg hp)) hn hr).mono fun _ _ ⟨h1, h2⟩ => ⟨h1, hS.over2 hm hC hB h2⟩
end G
end Go.Proofs.YtobbankkfplooaaGreat.K
