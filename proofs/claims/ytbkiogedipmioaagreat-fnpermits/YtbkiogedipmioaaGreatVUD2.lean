/-
  Draws: a Record, a list of Records.
-/
import Derived.Test.YtbkiogedipmioaaGreatVUS2
import Derived.Test.YtbkiogedipmioaaGreatVUL1
import Derived.Test.YtbkiogedipmioaaGreatVDC4
import Derived.Test.YtbkiogedipmioaaGreatVLR
namespace Go.Proofs.YtbkiogedipmioaaGreat.V.U
open Go.Shelf Go.RowKit Go.Joins
attribute [local go_sem] Oper.semAt_some

theorem Below.gr {W w' : World} (h : Below W.heap.size W w') (row : Option Nat) : W.grownBy w' row := ⟨h.os, h.tape, h.output, h.size, fun k hk _ => h.block k hk⟩
def sB (L : List Rc) (r : Rc) : Bool := recB r && decide ((swL L r [r]).length ≤ 400)
def sL (L : List Rc) (r : Rc) : List Rc := if sB L r then swL L r [r] else L
theorem setB_eq {L : List Rc} {r : Rc} (h : recsB L = true) : setB L r = sB L r ∧ setL L r = sL L r := by
  have e : setB L r = sB L r := by unfold setB sB; rw [h, Bool.true_and]
  refine ⟨e, ?_⟩
  unfold setL sL; rw [if_pos h, e]
theorem stored5 {w1 : World} {base g n c : Nat} {L : List Rc} (ho : OwG kR w1 base (.slice (some ⟨g, 0, none⟩) n c) L) (k : Nat) (a0 a1 a2 a3 a4 : Value) : w1.grownBy (((((w1.setCell ⟨g, k * 5, none⟩ a0).setCell ⟨g, k * 5 + 1, none⟩ a1).setCell ⟨g, k * 5 + 2, none⟩ a2).setCell ⟨g, k * 5 + 3, none⟩ a3).setCell ⟨g, k * 5 + 4, none⟩ a4) (some g) := by
  have hn := OwG.len ho
  subst hn
  have h0 := own_set ho (k * 5) a0
  have h1 := own_set h0.1 (k * 5 + 1) a1
  have h2 := own_set h1.1 (k * 5 + 2) a2
  have h3 := own_set h2.1 (k * 5 + 3) a3
  have h4 := own_set h3.1 (k * 5 + 4) a4
  exact gtrans (gtrans (gtrans (gtrans h0.2 h1.2) h2.2) h3.2) h4.2
theorem sSetL_any {w W : World} {A Bs : List Rw} {g n c : Nat} {L : List Rc} (hS : Sg w W (A ++ rG kR (.slice (some ⟨g, 0, none⟩) n c) L :: Bs)) (hri : riseB L = true) (hn4 : n ≤ 400) (r : Rc) {M : List Rc} {b : Bool} (hM : sL L r = M) (hb : sB L r = b) :
    Calls Tryz.prog 103 #[.slice (some ⟨g, 0, none⟩) n c, r.v] W fun e w' => ∃ g' m c', M.length = m ∧ e = .returned (.tuple #[.slice (some ⟨g', 0, none⟩) m c', .bool b]) ∧ Sg w w' (A ++ rG kR (.slice (some ⟨g', 0, none⟩) m c') M :: Bs) ∧ W.grownBy w' (some g) ∧ (g' = g ∨ W.heap.size ≤ g') := by
  have ho := hS.mem (K := kR) (v := .slice (some ⟨g, 0, none⟩) n c) (L := L) (by simp)
  have hn := (OwG.len ho).symm
  have hcap := OwG.cap ho
  have hC := OwG.cs ho
  cases hr : recB r
  · have e : sB L r = false := by unfold sB; rw [hr]; rfl
    have e2 : sL L r = L := by unfold sL; rw [e]; rfl
    rw [e] at hb
    rw [e2] at hM
    subst hb hM
    exact (sSet_bad g c n W r hr).mono fun e w' ⟨h1, h2⟩ => ⟨g, n, c, hn, h1, hS.step h2, Below.gr h2 _, .inl rfl⟩
  · cases ha : isAt L r
    · have hl := @sw_len1 L r
      rw [ha] at hl
      simp only [Bool.false_eq_true, if_false] at hl
      by_cases h4 : n = 400
      · subst h4
        have e : sB L r = false := by unfold sB; rw [hr, decide_eq_false (by omega)]; rfl
        have e2 : sL L r = L := by unfold sL; rw [e]; rfl
        rw [e] at hb
        rw [e2] at hM
        subst hb hM
        exact (sSet_full g c L hn W hC hri r hr ha).mono fun e w' ⟨h1, h2⟩ => ⟨g, 400, c, hn, h1, hS.step h2, Below.gr h2 _, .inl rfl⟩
      · have e : sB L r = true := by unfold sB; rw [hr, decide_eq_true (by omega)]; rfl
        have e2 : sL L r = swL L r [r] := by unfold sL; rw [e]; rfl
        rw [e] at hb
        rw [e2] at hM
        subst hb
        refine (sSet_new g c L n hn W hC hcap (by omega) hri r hr ha hM).mono fun e w' ⟨g', m, c', h0, h1, h2⟩ => ⟨g', m, c', h0, h1, ?_, Below.gr h2.bel _, .inr ?_⟩
        · have h3 := hS.addL h2
          have h4 : Sg w w' ([rG kR (.slice (some ⟨g', 0, none⟩) m c') M] ++ (A ++ Bs)) := h3.sub (by simp)
          exact h4.perm (by simpa using (List.perm_middle (l₁ := A) (l₂ := Bs) (a := rG kR (.slice (some ⟨g', 0, none⟩) m c') M)).symm)
        · exact (World.ownsRow.lt (h2.own _ (List.mem_singleton.2 rfl)) g' rfl).1
    · have hl := @sw_len1 L r
      rw [ha] at hl
      simp only [if_true] at hl
      have e : sB L r = true := by unfold sB; rw [hr, decide_eq_true (by omega)]; rfl
      have e2 : sL L r = L.set (pos L r) r := by unfold sL; rw [e, if_pos rfl, sw_set ha]
      have hp := isAt_lt ha
      rw [e] at hb
      rw [e2] at hM
      subst hb hM
      refine (sSet_at g c L n hn W hC (by omega) hri r hr ha (OwG.fz ho) rfl).mono fun e w' ⟨h1, w1, h2, h3⟩ => ⟨g, n, c, by rw [List.length_set]; exact hn, h1, ?_, ?_, .inl rfl⟩
      · rw [h3]; exact Sg.setR (hS.step h2) hp r
      · rw [h3]; exact gtrans (Below.gr h2 _) (stored5 ((hS.step h2).mem (K := kR) (v := .slice (some ⟨g, 0, none⟩) n c) (L := L) (by simp)) _ _ _ _ _ _)
end Go.Proofs.YtbkiogedipmioaaGreat.V.U
namespace Go.Proofs.YtbkiogedipmioaaGreat.V.U
open Go.Shelf Go.RowKit Go.Joins
attribute [local go_sem] Oper.semAt_some

theorem ow_some {α : Type} {K : Kd α} {W : World} {base n c : Nat} {p : Option Addr} {L : List α} (h : OwG K W base (.slice p n c) L) (h0 : 0 < n) : ∃ g, p = some ⟨g, 0, none⟩ := by
  obtain ⟨g, off, rfl, _⟩ := (OwG.sl h).at (k := 0) (by have := OwG.len h; omega)
  have hz := OwG.zero h
  subst hz
  exact ⟨g, rfl⟩
theorem Sg.set1 {w W : World} {A Bs : List Rw} {g n c : Nat} {M : List Rc} (h : Sg w W (A ++ rG kR (.slice (some ⟨g, 0, none⟩) n c) M :: Bs)) {k i : Nat} (hk : k < M.length) (hi : i < 5) (u : Value) (m : Rc) (hm : kR.vs m = (kR.vs (M.getD k zrc)).set i u) :
    Sg w (W.setCell ⟨g, k * 5 + i, none⟩ u) (A ++ rG kR (.slice (some ⟨g, 0, none⟩) n c) (M.set k m) :: Bs) := by
  refine h.set (L' := M.set k m) (k * 5 + i) u (by simp) ?_
  have hl := Kd.flat_len (K := kR) M
  have hk5 : k * 5 + 5 ≤ M.length * 5 := by omega
  rw [Kd.flat_set m hk, hm]
  refine List.ext_getElem? fun j => ?_
  have e5 : kR.n = 5 := rfl
  rw [e5] at hl ⊢
  have hvl : (kR.vs (M.getD k zrc)).length = 5 := kR.len _
  simp only [List.getElem?_append, List.length_append, List.length_take, List.length_set, hl, hvl, List.getElem?_drop, List.getElem?_take]
  by_cases h1 : j < k * 5
  · rw [if_pos (by omega), if_pos (by omega), List.getElem?_set_ne (by omega)]; simp [h1]
  · by_cases h2 : j < k * 5 + 5
    · rw [if_pos (by omega), if_neg (by omega), Nat.min_eq_left (by omega)]
      have hg := Kd.flat_get (K := kR) (getR hk) (i := j - k * 5) (by rw [e5]; omega)
      rw [e5, show k * 5 + (j - k * 5) = j by omega] at hg
      by_cases h3 : j = k * 5 + i
      · subst h3
        rw [show k * 5 + i - k * 5 = i by omega, List.getElem?_set_self (by rw [hvl]; exact hi), List.getElem?_set_self (by rw [hl]; omega)]
      · rw [List.getElem?_set_ne (by omega), List.getElem?_set_ne (by omega), hg]
    · rw [if_neg (by omega), List.getElem?_set_ne (by omega)]
      congr 1; omega
end Go.Proofs.YtbkiogedipmioaaGreat.V.U
namespace Go.Proofs.YtbkiogedipmioaaGreat.V.U
open Go.RowKit Go.Joins M
attribute [local go_sem] Oper.semAt_some

def selT (x : Int) (l : List ByteArray) : ByteArray := l.getD x.toNat ByteArray.empty
theorem cellT3_at {w : World} {b c d : ByteArray} (x : Int) (h0 : 0 ≤ x) (h1 : x < 3) : (w.alloc (.cells #[.string b, .string c, .string d] 9)).cell? ⟨w.heap.size, x.toNat, none⟩ = some (.string (selT x [b, c, d])) := by
  rw [World.cell?_alloc_at _ _ _ _ rfl]
  have : x = 0 ∨ x = 1 ∨ x = 2 := by omega
  rcases this with rfl | rfl | rfl <;> rfl
theorem boxF {w W : World} {rs : List Rw} {b : Nat} {r : Rc} (h : Sg w W rs) (hm : rG kR (.slice (some ⟨b, 0, none⟩) 1 1) [r] ∈ rs) : (W.cell? ⟨b, 0, none⟩ = some (.int .i64 r.t) ∧ W.cell? ⟨b, 1, none⟩ = some (.int .i64 r.i) ∧ W.cell? ⟨b, 2, none⟩ = some (.int .i64 r.x) ∧ W.cell? ⟨b, 3, none⟩ = some (.int .i64 r.y) ∧ W.cell? ⟨b, 4, none⟩ = some (.string r.s)) ∧ (∀ j, W.frozen? ⟨b, j, none⟩ = false) ∧ b < W.heap.size :=
  ⟨box5 h hm, OwG.fz (h.mem (K := kR) hm), (OwG.cs (h.mem (K := kR) hm)).1⟩
theorem zeros_cv (wr : World) (m : Nat) : (convert 22 9 (.slice (some ⟨wr.heap.size, 0, none⟩) m m)).run Tryz.prog (wr.alloc (.cells (madeCells #[.int .u8 0] (m * 1)) 5)) = .ok (.string ⟨(List.replicate m 0).toArray⟩) (wr.alloc (.cells (madeCells #[.int .u8 0] (m * 1)) 5)) := by
  have h := run_convert_bytes_back (P := Tryz.prog) (wr.alloc (.cells (madeCells #[.int .u8 0] (m * 1)) 5)) 22 9 5 ⟨wr.heap.size, 0, none⟩ m (List.replicate m 0) Tryz.underlying22 Tryz.underlying5 Tryz.underlying9 (fun j hj => by
    have ea : (⟨wr.heap.size, 0, none⟩ : Addr).add j = ⟨wr.heap.size, j, none⟩ := by unfold Addr.add; split <;> simp_all
    rw [ea, World.cell?_alloc_at _ _ _ _ rfl]
    simp at hj
    simp [madeCells, hj, Nat.mod_one])
  simpa using h
section
variable {w W : World} {C : Cu} {A Bs : List Rw}
theorem Sc.set1 {g n c : Nat} {r : Rc} (h : Sc w W C (A ++ rG kR (.slice (some ⟨g, 0, none⟩) n c) [r] :: Bs)) {i : Nat} (hi : i < 5) (u : Value) (m : Rc) (hm : kR.vs m = (kR.vs r).set i u) :
    Sc w (W.setCell ⟨g, i, none⟩ u) C (A ++ rG kR (.slice (some ⟨g, 0, none⟩) n c) [m] :: Bs) := by
  refine h.raw i u ?_
  have := Sg.set1 h.sg (k := 0) (by simp) hi u m hm
  simpa using this
theorem Sc.setAll {g n c : Nat} {r : Rc} (h : Sc w W C (A ++ rG kR (.slice (some ⟨g, 0, none⟩) n c) [r] :: Bs)) (m : Rc) :
    Sc w (((((W.setCell ⟨g, 0, none⟩ (.int .i64 m.t)).setCell ⟨g, 1, none⟩ (.int .i64 m.i)).setCell ⟨g, 2, none⟩ (.int .i64 m.x)).setCell ⟨g, 3, none⟩ (.int .i64 m.y)).setCell ⟨g, 4, none⟩ (.string m.s)) C (A ++ rG kR (.slice (some ⟨g, 0, none⟩) n c) [m] :: Bs) :=
  Sc.set1 (Sc.set1 (Sc.set1 (Sc.set1 (Sc.set1 h (i := 0) (by decide) (.int .i64 m.t) ⟨m.t, r.i, r.x, r.y, r.s⟩ rfl) (i := 1) (by decide) (.int .i64 m.i) ⟨m.t, m.i, r.x, r.y, r.s⟩ rfl) (i := 2) (by decide) (.int .i64 m.x) ⟨m.t, m.i, m.x, r.y, r.s⟩ rfl) (i := 3) (by decide) (.int .i64 m.y) ⟨m.t, m.i, m.x, m.y, r.s⟩ rfl) (i := 4) (by decide) (.string m.s) m rfl
end
set_option maxRecDepth 100000 in
set_option maxHeartbeats 2000000 in
theorem recC {w W : World} {C : Cu} {rs : List Rw} (h : Sc w W C rs) :
    Calls Tryz.prog 67 #[.pointer (some ⟨C.g, 0, none⟩)] W fun e w' => ∃ r : Rc, e = .returned r.v ∧ Sc w w' C rs := by
  have hS0 := h.lit kR [zrc] 1 rfl (by decide) #[.int .i64 0, .int .i64 0, .int .i64 0, .int .i64 0, .string ByteArray.empty] rfl
  change Sc w (W.alloc (.cells #[.int .i64 0, .int .i64 0, .int .i64 0, .int .i64 0, .string ByteArray.empty] 79)) _ _ at hS0
  clear h
  have f1 : True := trivial
  go_enter Tryz.func67, Tryz.ntmps67
  go_upto_if 17 with (first
    | (go_at_call 63; clear f1; refine (belowC hS0 3 (by decide) (by decide)).mono ?_; rintro e w1 ⟨x1, rfl, x10, x11, hS1⟩; have f2 : True := trivial)
    | (go_at_call 63; clear f2; refine (belowC hS1 6 (by decide) (by decide)).mono ?_; rintro e w2 ⟨x2, rfl, x20, x21, hS2⟩; have f3 : True := trivial)
    | (go_at_call 63; clear f3; refine (belowC hS2 256 (by decide) (by decide)).mono ?_; rintro e w3 ⟨x3, rfl, x30, x31, hS3⟩; have f4 : True := trivial)
    | (go_at_call 63; clear f4; refine (belowC hS3 256 (by decide) (by decide)).mono ?_; rintro e w4 ⟨x4, rfl, x40, x41, hS4⟩; have hS5 := hS4.lit kR [⟨1 + x1, 1 + x2, x3, x4, ByteArray.empty⟩] 1 rfl (by decide) #[.int .i64 (1 + x1), .int .i64 (1 + x2), .int .i64 x3, .int .i64 x4, .string ByteArray.empty] rfl; change Sc w (w4.alloc (.cells #[.int .i64 (1 + x1), .int .i64 (1 + x2), .int .i64 x3, .int .i64 x4, .string ByteArray.empty] 79)) _ _ at hS5)
    | (go_at_call 28; refine (onceC hS5 3 (by decide) (by decide)).mono ?_; rintro e w5 ⟨b5, rfl, hS6⟩))
  clear hS0 hS1 hS2 hS3 hS4 hS5
  generalize w4.heap.size = b3 at *
  generalize W.heap.size = b2 at *
  go_cut [] from 4 (fun wx => ∃ r : Rc, Sc w wx C (rG kR (.slice (some ⟨b3, 0, none⟩) 1 1) [r] :: rG kR (.slice (some ⟨b2, 0, none⟩) 1 1) [zrc] :: rs))
  case first =>
    have hg4 := hS6.cur.hg
    cases b5
    · go_wp2
      go_meet
      exact ⟨_, hS6⟩
    · have hS8 := hS6.lit kT [⟨#[97]⟩, ⟨#[98, 99]⟩, ⟨#[32, 10]⟩] 3 rfl (by decide) #[.string ⟨#[97]⟩, .string ⟨#[98, 99]⟩, .string ⟨#[32, 10]⟩] rfl
      change Sc w (w5.alloc (.cells #[.string ⟨#[97]⟩, .string ⟨#[98, 99]⟩, .string ⟨#[32, 10]⟩] 9)) _ _ at hS8
      go_wp2_with (go_at_call 63; refine (below_any _ _ _ _ _ 3 _ hS8.cur (by decide) (by decide)).mono ?_; rintro e w6 ⟨x6, rfl, x60, x61, ht6, hc6⟩; have hS9 := hS8.call ht6 hc6; have hcell := (ht6.cell (b := w5.heap.size) (o := x6.toNat) (by simp) (by omega)).trans (cellT3_at x6 x60 x61); obtain ⟨⟨y0, y1, y2, y3, y4⟩, yf, yg⟩ := boxF (b := b3) (r := ⟨1 + x1, 1 + x2, x3, x4, ByteArray.empty⟩) hS9.sg (by simp))
      go_meet
      exact ⟨_, Sc.set1 (A := []) (hS9.sub (List.sublist_cons_self ..)) (i := 4) (by decide) (.string (selT x6 [⟨#[97]⟩, ⟨#[98, 99]⟩, ⟨#[32, 10]⟩])) ⟨1 + x1, 1 + x2, x3, x4, selT x6 [⟨#[97]⟩, ⟨#[98, 99]⟩, ⟨#[32, 10]⟩]⟩ rfl⟩
  case rest =>
    clear hS6
    obtain ⟨⟨rt, ri, rx, ry, rs'⟩, hS7⟩ := hcut
    go_upto_if 25 with (go_at_call 28; refine (onceC hS7 20 (by decide) (by decide)).mono ?_; rintro e w8 ⟨b8, rfl, hS8⟩)
    clear hS7
    go_cut [] from 4 (fun wx => ∃ r : Rc, Sc w wx C (rG kR (.slice (some ⟨b3, 0, none⟩) 1 1) [r] :: rG kR (.slice (some ⟨b2, 0, none⟩) 1 1) [zrc] :: rs))
    case first =>
      have hg8 := hS8.cur.hg
      cases b8
      · go_wp2
        go_meet
        exact ⟨_, hS8⟩
      · go_upto_region 6 with (go_at_call 63; refine (belowC hS8 4 (by decide) (by decide)).mono ?_; rintro e w9 ⟨x9, rfl, x90, x91, hS9⟩)
        have hg9 := hS9.cur.hg
        obtain ⟨⟨y0, y1, y2, y3, y4⟩, yf, yg⟩ := boxF (b := b3) (r := ⟨rt, ri, rx, ry, rs'⟩) hS9.sg (by simp)
        have h9 : x9 = 0 ∨ x9 = 1 ∨ x9 = 2 ∨ x9 = 3 := by omega
        rcases h9 with rfl | rfl | rfl | rfl
        · have hS10 := hS9.lit kI [0, 99, 100] 3 rfl (by decide) #[.int .i64 0, .int .i64 99, .int .i64 100] rfl
          change Sc w (w9.alloc (.cells #[.int .i64 0, .int .i64 99, .int .i64 100] 2)) _ _ at hS10
          go_wp2_with (go_at_call 63; refine (below_any _ _ _ _ _ 3 _ hS10.cur (by decide) (by decide)).mono ?_; rintro e w10 ⟨x10, rfl, x100, x101, ht10, hc10⟩; have hS11 := hS10.call ht10 hc10; have hcell := (ht10.cell (b := w9.heap.size) (o := x10.toNat) (by simp) (by omega)).trans (cell3_at x10 x100 x101); clear y0 y1 y2 y3 y4 yf yg; obtain ⟨⟨y0, y1, y2, y3, y4⟩, yf, yg⟩ := boxF (b := b3) (r := ⟨rt, ri, rx, ry, rs'⟩) hS11.sg (by simp))
          go_meet
          exact ⟨_, Sc.set1 (A := []) (hS11.sub (List.sublist_cons_self ..)) (i := 0) (by decide) (.int .i64 (sel x10 [0, 99, 100])) ⟨sel x10 [0, 99, 100], ri, rx, ry, rs'⟩ rfl⟩
        · have hS10 := hS9.lit kI [0, 100000, 100001] 3 rfl (by decide) #[.int .i64 0, .int .i64 100000, .int .i64 100001] rfl
          change Sc w (w9.alloc (.cells #[.int .i64 0, .int .i64 100000, .int .i64 100001] 2)) _ _ at hS10
          go_wp2_with (go_at_call 63; refine (below_any _ _ _ _ _ 3 _ hS10.cur (by decide) (by decide)).mono ?_; rintro e w10 ⟨x10, rfl, x100, x101, ht10, hc10⟩; have hS11 := hS10.call ht10 hc10; have hcell := (ht10.cell (b := w9.heap.size) (o := x10.toNat) (by simp) (by omega)).trans (cell3_at x10 x100 x101); clear y0 y1 y2 y3 y4 yf yg; obtain ⟨⟨y0, y1, y2, y3, y4⟩, yf, yg⟩ := boxF (b := b3) (r := ⟨rt, ri, rx, ry, rs'⟩) hS11.sg (by simp))
          go_meet
          exact ⟨_, Sc.set1 (A := []) (hS11.sub (List.sublist_cons_self ..)) (i := 1) (by decide) (.int .i64 (sel x10 [0, 100000, 100001])) ⟨rt, sel x10 [0, 100000, 100001], rx, ry, rs'⟩ rfl⟩
        · go_wp2_with (go_at_call 104; refine (spotC hS9).mono ?_; rintro e w10 ⟨sx, sy, rfl, hS11⟩; clear y0 y1 y2 y3 y4 yf yg; obtain ⟨⟨y0, y1, y2, y3, y4⟩, yf, yg⟩ := boxF (b := b3) (r := ⟨rt, ri, rx, ry, rs'⟩) hS11.sg (by simp))
          go_meet
          exact ⟨_, Sc.set1 (A := []) (Sc.set1 (A := []) hS11 (i := 2) (by decide) (.int .i64 sx) ⟨rt, ri, sx, ry, rs'⟩ rfl) (i := 3) (by decide) (.int .i64 sy) ⟨rt, ri, sx, sy, rs'⟩ rfl⟩
        · go_wp2_with (go_at_call 63; refine (belowC hS9 2 (by decide) (by decide)).mono ?_; rintro e w10 ⟨x10, rfl, x100, x101, hS11⟩; clear y0 y1 y2 y3 y4 yf yg)
          obtain ⟨k6, rfl⟩ : ∃ k6 : Nat, x10 = k6 := ⟨x10.toNat, by omega⟩
          have ek : (20 + (k6 : Int)).toNat = 20 + k6 := by omega
          obtain ⟨i0, hi, hz0, hz1, hz2⟩ := info_parts info5
          have hmk := run_make (P := Tryz.prog) w10 22 5 i0 _ Tryz.underlying22 hi hz0 .i64 .i64 (20 + (k6 : Int)) (20 + (k6 : Int)) (by omega) (by omega) (by rw [hz2]; omega) (by omega)
          rw [hz1, ek] at hmk
          have hcv := zeros_cv w10 (20 + k6)
          have hS12 := hS11.al (.cells (madeCells #[.int .u8 0] ((20 + k6) * 1)) 5)
          rw [Nat.mul_one] at hmk hcv hS12
          obtain ⟨⟨y0, y1, y2, y3, y4⟩, yf, yg⟩ := boxF (b := b3) (r := ⟨rt, ri, rx, ry, rs'⟩) hS12.sg (by simp)
          generalize hzs : (⟨(List.replicate (20 + k6) 0).toArray⟩ : ByteArray) = zs at hcv
          clear hzs hS9 hS11
          go_wp2
          go_meet
          exact ⟨_, Sc.set1 (A := []) hS12 (i := 4) (by decide) (.string zs) ⟨rt, ri, rx, ry, zs⟩ rfl⟩
    case rest =>
      clear hS8
      obtain ⟨⟨qt, qi, qx, qy, qs⟩, hS7⟩ := hcut
      obtain ⟨⟨y0, y1, y2, y3, y4⟩, yf, yg⟩ := boxF (b := b3) (r := ⟨qt, qi, qx, qy, qs⟩) hS7.sg (by simp)
      obtain ⟨⟨z0, z1, z2, z3, z4⟩, zf, zg⟩ := boxF (b := b2) (r := zrc) hS7.sg (by simp)
      have hS8 := Sc.setAll (A := [_]) hS7 ⟨qt, qi, qx, qy, qs⟩
      obtain ⟨⟨u0, u1, u2, u3, u4⟩, uf, ug⟩ := boxF (b := b2) (r := ⟨qt, qi, qx, qy, qs⟩) hS8.sg (by simp)
      go_wp2
      refine bodyPost_ret (v := .agg #[.int .i64 qt, .int .i64 qi, .int .i64 qx, .int .i64 qy, .string qs]) (by simp [results, Tryz.results67, go_sem, u0, u1, u2, u3, u4]) rfl ⟨⟨⟨qt, qi, qx, qy, qs⟩, rfl⟩, ?_⟩
      exact hS8.sub (.cons _ (.cons _ (List.Sublist.refl _)))
theorem sL_rise {L : List Rc} {r : Rc} (h : riseB L = true) : riseB (sL L r) = true := by
  unfold sL; split
  · exact sw_rise1 h
  · exact h
theorem sL_len {L : List Rc} {r : Rc} : (sL L r).length ≤ L.length + 1 := by
  unfold sL; split
  · have := @sw_len1 L r; split at this <;> omega
  · omega
/-- l11Set where a cursor stands. -/
theorem setC {w W : World} {C : Cu} {rs : List Rw} {g n c : Nat} {L : List Rc} (h : Sc w W C (rG kR (.slice (some ⟨g, 0, none⟩) n c) L :: rs)) (hri : riseB L = true) (hn : n ≤ 400) (r : Rc) :
    Calls Tryz.prog 103 #[.slice (some ⟨g, 0, none⟩) n c, r.v] W fun e w' => ∃ g' m c' b, e = .returned (.tuple #[.slice (some ⟨g', 0, none⟩) m c', .bool b]) ∧ Hid ((sL L r).length = m) ∧ Sc w w' C (rG kR (.slice (some ⟨g', 0, none⟩) m c') (sL L r) :: rs) := by
  refine (sSetL_any (A := []) h.sg hri hn r rfl rfl).mono ?_
  rintro e w' ⟨g', m, c', h0, h1, h2, h3, h4⟩
  have hd := h.dis (rG kR (.slice (some ⟨g, 0, none⟩) n c) L) (List.mem_cons_self ..)
  refine ⟨g', m, c', _, h1, h0, h.turn h2 (h3.block _ h.cur.hg (fun e => hd e.symm)) fun q hq => ?_⟩
  rcases List.mem_cons.mp hq with rfl | hq
  · intro e
    have e' : g' = C.g := Option.some.inj e
    rcases h4 with h4 | h4
    · exact hd (by rw [← e', h4]; rfl)
    · have := h.cur.hg; omega
  · exact h.dis q (List.mem_cons_of_mem _ hq)
set_option maxRecDepth 100000 in
set_option maxHeartbeats 1000000 in
theorem drawC {w W : World} {C : Cu} {rs : List Rw} (h : Sc w W C rs) :
    Calls Tryz.prog 66 #[.pointer (some ⟨C.g, 0, none⟩)] W fun e w' => ∃ g n c L, e = .returned (.slice (some ⟨g, 0, none⟩) n c) ∧ Hid (L.length = n ∧ n ≤ 9) ∧ Sc w w' C (rG kR (.slice (some ⟨g, 0, none⟩) n c) L :: rs) := by
  have hS0 := h.lit kR [] 0 rfl (by decide) #[] rfl
  change Sc w (W.alloc (.cells #[] 79)) _ _ at hS0
  clear h
  go_enter Tryz.func66, Tryz.ntmps66
  go_wp2_with (go_at_call 63; refine (belowC hS0 9 (by decide) (by decide)).mono ?_; rintro e w2 ⟨x, rfl, x0, x1, hS3⟩)
  clear hS0
  obtain ⟨k0, hk0⟩ : ∃ k0 : Nat, x = k0 := ⟨x.toNat, by omega⟩
  subst hk0
  go_loopw [3, 4] (fun lv i wr => ∃ (k n g c : Nat) (L : List Rc), k ≤ 9 ∧ i = .int .i64 k ∧ lv = .slice (some ⟨g, 0, none⟩) n c ∧ Hid (L.length = n ∧ n + k ≤ 9 ∧ riseB L = true) ∧ Sc w wr C (rG kR (.slice (some ⟨g, 0, none⟩) n c) L :: rs)) (fun _ i _ => (intOf i).toNat)
  case atStart => exact ⟨k0, 0, _, 0, [], by omega, rfl, rfl, ⟨rfl, by omega, rfl⟩, hS3⟩
  case round =>
    clear hS3
    obtain ⟨k, n, g, c, L, hk9, rfl, rfl, hL, hS⟩ := hrel
    by_cases hlt : 0 < k
    · have hki : (0 : Int) < k := by omega
      go_wp2_with (first
        | (go_at_call 67; refine (recC hS).mono ?_; rintro e w3 ⟨r, rfl, hS4⟩)
        | (go_at_call 103; refine (setC hS4 hL.out.2.2 (by have := hL.out.2.1; omega) r).mono ?_; rintro e w4 ⟨g', m, c', b, rfl, hm, hS5⟩))
      go_roundw
      case rel => exact ⟨k - 1, m, g', c', sL L r, by omega, by go_num, rfl, ⟨hm.out, by have := hL.out; have h1 := @sL_len L r; have := hm.out; omega, sL_rise hL.out.2.2⟩, hS5⟩
      case measure => simp [intOf]; omega
    · obtain rfl : k = 0 := by omega
      go_wp2
      go_ret
      exact ⟨g, n, c, L, rfl, ⟨hL.out.1, by have := hL.out.2.1; omega⟩, hS⟩
set_option maxRecDepth 100000 in
set_option maxHeartbeats 1000000 in
theorem anyC {w W : World} {C : Cu} {rs : List Rw} (h : Sc w W C rs) :
    Calls Tryz.prog 26 #[.pointer (some ⟨C.g, 0, none⟩)] W fun e w' => ∃ g n c L, e = .returned (.slice (some ⟨g, 0, none⟩) n c) ∧ Hid (L.length = n ∧ n ≤ 10) ∧ Sc w w' C (rG kR (.slice (some ⟨g, 0, none⟩) n c) L :: rs) := by
  go_enter Tryz.func26, Tryz.ntmps26
  go_upto_if 7 with (first
    | (go_at_call 66; refine (drawC h).mono ?_; rintro e w1 ⟨g, n, c, L, rfl, hL, hS1⟩)
    | (go_at_call 28; refine (onceC hS1 14 (by decide) (by decide)).mono ?_; rintro e w2 ⟨b2, rfl, hS2⟩))
  clear hS1 h
  cases b2
  · go_wp2
    go_ret
    exact ⟨g, n, c, L, rfl, ⟨hL.out.1, by have := hL.out.2; omega⟩, hS2⟩
  · go_wp2_with (first
      | (go_at_call 67; refine (recC hS2).mono ?_; rintro e w3 ⟨r, rfl, hS3⟩)
      | (at_builtin; refine wpList_sgapp appR rfl _ _ rfl (A := []) (B := [r]) (n := n) (m := 1) hS3.sg (below_alloc1 _ _) hL.out.1 rfl rfl ⟨w3.heap.size, 0, none⟩ 1 rfl (lit_src (xs := [.int .i64 r.t, .int .i64 r.i, .int .i64 r.x, .int .i64 r.y, .string r.s]) rfl) (oneRs _) (.inl (by decide)) (by have := hL.out.2; omega) ?_; intro g' cap' w6 hS8 hgr hat))
    have hS9 := (hS3.al _).app hS8 hgr hat
    go_ret
    exact ⟨g', n + 1, cap', L ++ [r], rfl, ⟨by rw [List.length_append, hL.out.1]; rfl, by have := hL.out.2; omega⟩, hS9⟩
end Go.Proofs.YtbkiogedipmioaaGreat.V.U
