/-
  Draws: Clauses.
-/
import Derived.Test.YtkinbgcnenieeaaGreatDoorDC1
namespace Go.Proofs.YtkinbgcnenieeaaGreatDoor
open Go.RowKit Go.Joins M
attribute [local go_sem] Oper.semAt_some

section
variable {w W : World} {C : Cu} {A Bs : List Rw}
theorem Sc.raw {α : Type} {K : Kd α} {g n c : Nat} {L : List α} (h : Sc w W C (A ++ rG K (.slice (some ⟨g, 0, none⟩) n c) L :: Bs)) (j : Nat) (u : Value) {L' : List α} (h' : Sg w (W.setCell ⟨g, j, none⟩ u) (A ++ rG K (.slice (some ⟨g, 0, none⟩) n c) L' :: Bs)) : Sc w (W.setCell ⟨g, j, none⟩ u) C (A ++ rG K (.slice (some ⟨g, 0, none⟩) n c) L' :: Bs) := by
  have hd := h.dis (rG K (.slice (some ⟨g, 0, none⟩) n c) L) (by simp)
  refine h.turn h' (Below.heap_setCell W ⟨g, j, none⟩ u C.g (fun e => hd (by have e' : C.g = g := e; rw [e']; rfl))) fun r hr => ?_
  simp only [List.mem_append, List.mem_cons] at hr
  rcases hr with hr | rfl | hr
  · exact h.dis r (by simp [hr])
  · exact hd
  · exact h.dis r (by simp [hr])
theorem Sc.setQ0 {g n : Nat} {c : Cl} {a b : Sv} (h : Sc w W C (A ++ rG kQ (.slice (some ⟨g, 0, none⟩) 1 n) [(c, a, b)] :: Bs)) (u : Sv) : Sc w (W.setCell ⟨g, 0, none⟩ (.slice u.p u.n u.c)) C (A ++ rG kQ (.slice (some ⟨g, 0, none⟩) 1 n) [(c, u, b)] :: Bs) := h.raw 0 _ (Sg.setQ0 h.sg u)
theorem Sc.setQ1 {g n : Nat} {c : Cl} {a b : Sv} (h : Sc w W C (A ++ rG kQ (.slice (some ⟨g, 0, none⟩) 1 n) [(c, a, b)] :: Bs)) (u : Sv) : Sc w (W.setCell ⟨g, 1, none⟩ (.slice u.p u.n u.c)) C (A ++ rG kQ (.slice (some ⟨g, 0, none⟩) 1 n) [(c, a, u)] :: Bs) := h.raw 1 _ (Sg.setQ1 h.sg u)
theorem Sc.setQ2 {g n : Nat} {c : Cl} {a b : Sv} (h : Sc w W C (A ++ rG kQ (.slice (some ⟨g, 0, none⟩) 1 n) [(c, a, b)] :: Bs)) (d : Cl) : Sc w (W.setCell ⟨g, 2, none⟩ (.int .i64 d.un)) C (A ++ rG kQ (.slice (some ⟨g, 0, none⟩) 1 n) [(d, a, b)] :: Bs) := h.raw 2 _ (Sg.setQ2 h.sg d)
/-- A Clause is stored as a whole. -/
theorem Sc.setQ {g n : Nat} {x : CQ} (h : Sc w W C (A ++ rG kQ (.slice (some ⟨g, 0, none⟩) 1 n) [x] :: Bs)) (c : Cl) (s t : Sv) : Sc w (((W.setCell ⟨g, 0, none⟩ (.slice s.p s.n s.c)).setCell ⟨g, 1, none⟩ (.slice t.p t.n t.c)).setCell ⟨g, 2, none⟩ (.int .i64 c.un)) C (A ++ rG kQ (.slice (some ⟨g, 0, none⟩) 1 n) [(c, s, t)] :: Bs) :=
  ((h.setQ0 s).setQ1 t).setQ2 c
end
theorem made_cells (n : Nat) : (madeCells #[.int .i64 0, .int .i64 0, .int .i64 0] (n * 3)).toList = kC.flat (List.replicate n ⟨0, 0, 0⟩) := made_flatC n
theorem Sc.made {w W : World} {C : Cu} {rs : List Rw} (h : Sc w W C rs) (n : Nat) (hn : n ≤ 1000) : Sc w (W.alloc (.cells (madeCells #[.int .i64 0, .int .i64 0, .int .i64 0] (n * 3)) 89)) C (rG kC (.slice (some ⟨W.heap.size, 0, none⟩) n n) (List.replicate n ⟨0, 0, 0⟩) :: rs) :=
  h.lit kC (List.replicate n ⟨0, 0, 0⟩) n (by simp) (by omega) _ (made_cells n)
set_option maxRecDepth 100000 in
set_option maxHeartbeats 4000000 in
theorem clauseC {w W : World} {C : Cu} {rs : List Rw} (h : Sc w W C rs) :
    Calls Tryz.prog 22 #[.pointer (some ⟨C.g, 0, none⟩)] W fun e w' => ∃ (c : Cl) (s t : Sv), e = .returned (.agg #[.slice s.p s.n s.c, .slice t.p t.n t.c, .int .i64 c.un]) ∧ Hid (s.n ≤ 10 ∧ t.n ≤ 10) ∧ Sc w w' C (clR c s t ++ rs) := by
  obtain ⟨i0, hi, hz0, hz1, hz2⟩ := info_parts info89
  have hS0 := h.lit kQ [zq] 1 rfl (by decide) #[.slice none 0 0, .slice none 0 0, .int .i64 0] rfl
  change Sc w (W.alloc (.cells #[.slice none 0 0, .slice none 0 0, .int .i64 0] 29)) _ _ at hS0
  clear h
  have hgW := hS0.cur.hg
  have f0 : True := trivial
  go_enter Tryz.func22, Tryz.ntmps22
  go_upto_if 12 with (first
    | (go_at_call 52; clear f0; refine (cellsC hS0).mono ?_; rintro e w1 ⟨q1, n1, cp1, L1, rfl, hL1, hS1⟩)
    | (go_at_call 52; refine (cellsC hS1).mono ?_; rintro e w2 ⟨q2, n2, cp2, L2, rfl, hL2, hS2⟩)
    | (go_at_call 32; refine (belowC hS2 60 (by decide) (by decide)).mono ?_; rintro e w3 ⟨x3, rfl, _, _, hS3⟩; have hS4 := hS3.lit kQ [(⟨L1, L2, x3⟩, ⟨q1, n1, cp1⟩, ⟨q2, n2, cp2⟩)] 1 rfl (by decide) #[.slice q1 n1 cp1, .slice q2 n2 cp2, .int .i64 x3] rfl; change Sc w (w3.alloc (.cells #[.slice q1 n1 cp1, .slice q2 n2 cp2, .int .i64 x3] 29)) _ _ at hS4)
    | (go_at_call 21; refine (onceC hS4 20 (by decide) (by decide)).mono ?_; rintro e w4 ⟨b4, rfl, hS5⟩))
  have hS6 : Sc w w4 C ([] ++ rG kQ (.slice (some ⟨w3.heap.size, 0, none⟩) 1 1) [(⟨L1, L2, x3⟩, ⟨q1, n1, cp1⟩, ⟨q2, n2, cp2⟩)] :: (clR ⟨L1, L2, x3⟩ ⟨q1, n1, cp1⟩ ⟨q2, n2, cp2⟩ ++ rG kQ (.slice (some ⟨W.heap.size, 0, none⟩) 1 1) [zq] :: rs)) :=
    hS5.perm (.cons _ (.swap _ _ _))
  clear hS0 hS1 hS2 hS3 hS4 hS5 hgW
  generalize w3.heap.size = b3 at *
  generalize W.heap.size = b2 at *
  go_cut [] from 4 (fun wx => ∃ (c : Cl) (s t : Sv), Hid (s.n ≤ 10 ∧ t.n ≤ 10) ∧ Sc w wx C (rG kQ (.slice (some ⟨b3, 0, none⟩) 1 1) [(c, s, t)] :: (clR c s t ++ rG kQ (.slice (some ⟨b2, 0, none⟩) 1 1) [zq] :: rs)))
  case first =>
    have hg4 := hS6.cur.hg
    cases b4
    · go_wp2
      go_meet
      exact ⟨_, _, _, ⟨hL1.out.2, hL2.out.2⟩, hS6⟩
    · obtain ⟨y0, y1, y2, yf, yg⟩ := hS6.sg.three (K := kQ) (g := b3) (n := 1) (p := (⟨L1, L2, x3⟩, ⟨q1, n1, cp1⟩, ⟨q2, n2, cp2⟩)) (by simp) rfl
      go_upto_region 4 with (go_at_call 32; refine (belowC hS6 2 (by decide) (by decide)).mono ?_; rintro e w5 ⟨x5, rfl, x50, x51, hS7⟩)
      clear y0 y1 y2 yf yg
      obtain ⟨y0, y1, y2, yf, yg⟩ := hS7.sg.three (K := kQ) (g := b3) (n := 1) (p := (⟨L1, L2, x3⟩, ⟨q1, n1, cp1⟩, ⟨q2, n2, cp2⟩)) (by simp) rfl
      have h5 : x5 = 0 ∨ x5 = 1 := by omega
      rcases h5 with rfl | rfl
      · have hS8 := hS7.lit kI [-1, 100000, 100001] 3 rfl (by decide) #[.int .i64 (-1), .int .i64 100000, .int .i64 100001] rfl
        change Sc w (w5.alloc (.cells #[.int .i64 (-1), .int .i64 100000, .int .i64 100001] 2)) _ _ at hS8
        have hw5 := hS7.cur.hg
        go_wp2_with (go_at_call 32; refine (below_any _ _ _ _ _ 3 _ hS8.cur (by decide) (by decide)).mono ?_; rintro e w6 ⟨x6, rfl, x60, x61, ht6, hc6⟩; have hS9 := hS8.call ht6 hc6; have hcell := (ht6.cell (b := w5.heap.size) (o := x6.toNat) (by simp) (by omega)).trans (cell3_at x6 x60 x61); clear y0 y1 y2 yf yg; obtain ⟨y0, y1, y2, yf, yg⟩ := hS9.sg.three (K := kQ) (g := b3) (n := 1) (p := (⟨L1, L2, x3⟩, ⟨q1, n1, cp1⟩, ⟨q2, n2, cp2⟩)) (by simp) rfl)
        go_meet
        exact ⟨⟨L1, L2, sel x6 [-1, 100000, 100001]⟩, ⟨q1, n1, cp1⟩, ⟨q2, n2, cp2⟩, ⟨hL1.out.2, hL2.out.2⟩, Sc.setQ2 (A := []) (hS9.sub (List.sublist_cons_self ..)) ⟨L1, L2, sel x6 [-1, 100000, 100001]⟩⟩
      · go_wp2_with (go_at_call 32; refine (belowC hS7 2 (by decide) (by decide)).mono ?_; rintro e w6 ⟨x6, rfl, x60, x61, hS8⟩)
        obtain ⟨k6, rfl⟩ : ∃ k6 : Nat, x6 = k6 := ⟨x6.toNat, by omega⟩
        have ek : (8 + (k6 : Int)).toNat = 8 + k6 := by omega
        have hmk := run_make (P := Tryz.prog) w6 27 89 i0 _ Tryz.underlying27 hi hz0 .i64 .i64 (8 + (k6 : Int)) (8 + (k6 : Int)) (by omega) (by omega) (by rw [hz2]; omega) (by omega)
        rw [hz1, ek] at hmk
        have hS9 := hS8.made (8 + k6) (by omega)
        clear y0 y1 y2 yf yg
        obtain ⟨y0, y1, y2, yf, yg⟩ := hS9.sg.three (K := kQ) (g := b3) (n := 1) (p := (⟨L1, L2, x3⟩, ⟨q1, n1, cp1⟩, ⟨q2, n2, cp2⟩)) (by simp) rfl
        go_wp2
        go_meet
        refine ⟨⟨List.replicate (8 + k6) ⟨0, 0, 0⟩, L2, x3⟩, ⟨some ⟨w6.heap.size, 0, none⟩, 8 + k6, 8 + k6⟩, ⟨q2, n2, cp2⟩, ⟨show 8 + k6 ≤ 10 by omega, hL2.out.2⟩, ?_⟩
        have h9 := Sc.setQ0 (A := [_]) hS9 ⟨some ⟨w6.heap.size, 0, none⟩, 8 + k6, 8 + k6⟩
        exact (h9.perm (.swap _ _ _)).sub (.cons_cons _ (.cons_cons _ (.cons _ (.cons_cons _ (List.Sublist.refl _)))))
  case rest =>
    clear hS6
    obtain ⟨c, s, t, hb, hS7⟩ := hcut
    obtain ⟨y0, y1, y2, yf, yg⟩ := hS7.sg.three (K := kQ) (g := b3) (n := 1) (p := (c, s, t)) (by simp) rfl
    obtain ⟨z0, z1, z2, zf, zg⟩ := hS7.sg.three (K := kQ) (g := b2) (n := 1) (p := zq) (by simp) rfl
    have hS8 := Sc.setQ (A := rG kQ (.slice (some ⟨b3, 0, none⟩) 1 1) [(c, s, t)] :: clR c s t) hS7 c s t
    obtain ⟨u0, u1, u2, uf, ug⟩ := hS8.sg.three (K := kQ) (g := b2) (n := 1) (p := (c, s, t)) (by simp) rfl
    go_wp2
    refine bodyPost_ret (v := .agg #[.slice s.p s.n s.c, .slice t.p t.n t.c, .int .i64 c.un]) (by simp [results, Tryz.results22, go_sem, u0, u1, u2]) rfl ⟨c, s, t, rfl, hb, ?_⟩
    exact hS8.sub (.cons _ (List.Sublist.append (List.Sublist.refl _) (.cons _ (List.Sublist.refl _))))
end Go.Proofs.YtkinbgcnenieeaaGreatDoor
