/-
  Draws: a Batch.
-/
import Derived.Test.YtbkiogedipmioaaGreatVUD2
import Derived.Test.YtbkiogedipmioaaGreatVUIC4
namespace Go.Proofs.YtbkiogedipmioaaGreat.V.U
open Go.RowKit Go.Joins M
attribute [local go_sem] Oper.semAt_some

theorem boxI {w W : World} {rs : List Rw} {b : Nat} {r : Rc} (h : Sg w W rs) (hm : rG I.kR (.slice (some ⟨b, 0, none⟩) 1 1) [r] ∈ rs) : (W.cell? ⟨b, 0, none⟩ = some (.int .i64 r.t) ∧ W.cell? ⟨b, 1, none⟩ = some (.int .i64 r.i) ∧ W.cell? ⟨b, 2, none⟩ = some (.int .i64 r.x) ∧ W.cell? ⟨b, 3, none⟩ = some (.int .i64 r.y) ∧ W.cell? ⟨b, 4, none⟩ = some (.string r.s)) ∧ (∀ j, W.frozen? ⟨b, j, none⟩ = false) ∧ b < W.heap.size := by
  have := (OwG.cs (h.mem (K := I.kR) hm)).i5 (k := 0) (r := r) rfl
  exact ⟨by simpa using this, OwG.fz (h.mem (K := I.kR) hm), (OwG.cs (h.mem (K := I.kR) hm)).1⟩
theorem Sg.setI1 {w W : World} {A Bs : List Rw} {g n : Nat} {a : Rc} (h : Sg w W (A ++ rG I.kR (.slice (some ⟨g, 0, none⟩) 1 n) [a] :: Bs)) (q : Rc) :
    Sg w (((((W.setCell ⟨g, 0, none⟩ (.int .i64 q.t)).setCell ⟨g, 1, none⟩ (.int .i64 q.i)).setCell ⟨g, 2, none⟩ (.int .i64 q.x)).setCell ⟨g, 3, none⟩ (.int .i64 q.y)).setCell ⟨g, 4, none⟩ (.string q.s)) (A ++ rG I.kR (.slice (some ⟨g, 0, none⟩) 1 n) [q] :: Bs) :=
  ((((Sg.setRaw h 0 (.int .i64 q.t)).setRaw 1 (.int .i64 q.i)).setRaw 2 (.int .i64 q.x)).setRaw 3 (.int .i64 q.y)).setRaw 4 (.string q.s)
theorem Sc.setI1 {w W : World} {C : Cu} {A Bs : List Rw} {g n : Nat} {a : Rc} (h : Sc w W C (A ++ rG I.kR (.slice (some ⟨g, 0, none⟩) 1 n) [a] :: Bs)) (q : Rc) :
    Sc w (((((W.setCell ⟨g, 0, none⟩ (.int .i64 q.t)).setCell ⟨g, 1, none⟩ (.int .i64 q.i)).setCell ⟨g, 2, none⟩ (.int .i64 q.x)).setCell ⟨g, 3, none⟩ (.int .i64 q.y)).setCell ⟨g, 4, none⟩ (.string q.s)) C (A ++ rG I.kR (.slice (some ⟨g, 0, none⟩) 1 n) [q] :: Bs) := by
  have hd := h.dis (rG I.kR (.slice (some ⟨g, 0, none⟩) 1 n) [a]) (by simp)
  have hk : ∀ (W : World) (j : Nat) (u : Value), (W.setCell ⟨g, j, none⟩ u).heap[C.g]? = W.heap[C.g]? := fun W j u => Below.heap_setCell W ⟨g, j, none⟩ u C.g (fun e => hd (by have e' : C.g = g := e; rw [e']; rfl))
  refine h.turn (Sg.setI1 h.sg q) (by rw [hk, hk, hk, hk, hk]) fun r hr => ?_
  simp only [List.mem_append, List.mem_cons] at hr
  rcases hr with hr | rfl | hr
  · exact h.dis r (by simp [hr])
  · exact hd
  · exact h.dis r (by simp [hr])
set_option maxRecDepth 100000 in
set_option maxHeartbeats 4000000 in
theorem itemsC {w W : World} {C : Cu} {rs : List Rw} (h : Sc w W C rs) :
    Calls Tryz.prog 68 #[.pointer (some ⟨C.g, 0, none⟩)] W fun e w' => ∃ g n c L, e = .returned (.slice (some ⟨g, 0, none⟩) n c) ∧ Hid (L.length = n ∧ n ≤ 3) ∧ Sc w w' C (rG I.kR (.slice (some ⟨g, 0, none⟩) n c) L :: rs) := by
  have hS0 := h.lit I.kR [] 0 rfl (by decide) #[] rfl
  change Sc w (W.alloc (.cells #[] 117)) _ _ at hS0
  clear h
  go_enter Tryz.func68, Tryz.ntmps68
  go_upto_region 3 with (go_at_call 63; refine (belowC hS0 3 (by decide) (by decide)).mono ?_; rintro e w1 ⟨x1, rfl, x10, x11, hS1⟩)
  obtain ⟨k1, rfl⟩ : ∃ k1 : Nat, x1 = k1 := ⟨x1.toNat, by omega⟩
  clear hS0
  go_loopw [3, 4] (fun s3 s4 wr => ∃ (k g m c : Nat) (L : List Rc), s4 = .int .i64 k ∧ s3 = .slice (some ⟨g, 0, none⟩) m c ∧ Hid (L.length = m ∧ m + k ≤ 3) ∧ Sc w wr C (rG I.kR (.slice (some ⟨g, 0, none⟩) m c) L :: rs)) (fun _ i _ => (intOf i).toNat)
  case atStart => exact ⟨1 + k1, _, 0, 0, [], by simp, rfl, ⟨rfl, by omega⟩, hS1⟩
  case round =>
    clear hS1
    obtain ⟨k, g, m, c, L, rfl, rfl, HL, hS⟩ := hrel
    have hk3 : m + k ≤ 3 := HL.out.2
    by_cases hk : 0 < k
    · obtain ⟨k, rfl⟩ : ∃ k' : Nat, k = k' + 1 := ⟨k - 1, by omega⟩
      have hki : (0 : Int) < ((k + 1 : Nat) : Int) := by omega
      go_upto_region 7 with (go_at_call 67; refine (recC hS).mono ?_; rintro e w2 ⟨r, rfl, hS2⟩)
      have hS3 := (hS2.lit kR [r] 1 rfl (by decide) #[.int .i64 r.t, .int .i64 r.i, .int .i64 r.x, .int .i64 r.y, .string r.s] rfl).lit I.kR [⟨1, r.i, r.x, r.y, r.s⟩] 1 rfl (by decide) #[.int .i64 1, .int .i64 r.i, .int .i64 r.x, .int .i64 r.y, .string r.s] rfl
      simp only [World.size_alloc] at hS3
      change Sc w ((w2.alloc (.cells #[.int .i64 r.t, .int .i64 r.i, .int .i64 r.x, .int .i64 r.y, .string r.s] 79)).alloc (.cells #[.int .i64 1, .int .i64 r.i, .int .i64 r.x, .int .i64 r.y, .string r.s] 117)) _ _ at hS3
      clear hS hS2
      go_upto_if 27 with (go_at_call 28; refine (onceC hS3 4 (by decide) (by decide)).mono ?_; rintro e w3 ⟨b3, rfl, hS4⟩)
      clear hS3
      generalize w2.heap.size = b2 at *
      go_cut [] from 26 to 30 (fun wx => ∃ x : Rc, Sc w wx C (rG I.kR (.slice (some ⟨b2 + 1, 0, none⟩) 1 1) [x] :: rG kR (.slice (some ⟨b2, 0, none⟩) 1 1) [r] :: rG I.kR (.slice (some ⟨g, 0, none⟩) m c) L :: rs))
      case first =>
        cases b3
        · go_wp2
          go_meet
          exact ⟨_, hS4⟩
        · obtain ⟨⟨y0, y1, y2, y3, y4⟩, yf, yg⟩ := boxI (b := b2 + 1) (r := ⟨1, r.i, r.x, r.y, r.s⟩) hS4.sg (by simp)
          obtain ⟨⟨z0, z1, z2, z3, z4⟩, zf, zg⟩ := boxF (b := b2) (r := r) hS4.sg (by simp)
          have hS5 := Sc.setI1 (A := []) hS4 ⟨2, r.i, 0, 0, ByteArray.empty⟩
          go_wp2
          go_meet
          exact ⟨_, hS5⟩
      case rest =>
        clear hS4
        obtain ⟨x, hS5⟩ := hcut
        have hS5' : Sc w _ C (rG I.kR (.slice (some ⟨b2 + 1, 0, none⟩) 1 1) [x] :: rG I.kR (.slice (some ⟨g, 0, none⟩) m c) L :: rs) := hS5.sub (by simp)
        clear hS5
        go_upto_region 11 with (fail)
        go_loopw [7, 8] (fun s7 s8 wr => ∃ (ab : Bool) (j : Nat), s7 = .bool ab ∧ s8 = .int .i64 j ∧ j ≤ m ∧ Sc w wr C (rG I.kR (.slice (some ⟨b2 + 1, 0, none⟩) 1 1) [x] :: rG I.kR (.slice (some ⟨g, 0, none⟩) m c) L :: rs)) (fun _ i _ => m - (intOf i).toNat)
        case atStart => exact ⟨false, 0, rfl, rfl, by omega, hS5'⟩
        case round =>
          clear hS5'
          obtain ⟨ab, j, rfl, rfl, hj, hS6⟩ := hrel
          by_cases hjm : j < m
          · have hji : (j : Int) < m := by omega
            obtain ⟨⟨y0, y1, y2, y3, y4⟩, yf, yg⟩ := boxI (b := b2 + 1) (r := x) hS6.sg (by simp)
            have hjL : j < L.length := by rw [HL.out.1]; exact hjm
            obtain ⟨d0, d1, d2, d3, d4⟩ := (OwG.cs (hS6.sg.mem (K := I.kR) (v := .slice (some ⟨g, 0, none⟩) m c) (L := L) (by simp))).i5 (getR hjL)
            simp only [Nat.zero_add] at d0 d1 d2 d3 d4
            generalize L.getD j zrc = a at d0 d1 d2 d3 d4
            have hS7 := hS6.dr
            cases ab
            · by_cases he : a.i = x.i
              · have hd : (a.i == x.i) = true := by simp [he]
                go_wp2
                go_region
                all_goals
                  go_wp2
                  go_roundw
                  case rel => exact ⟨_, j + 1, rfl, by go_num, by omega, hS7⟩
                  case measure => simp [intOf]; omega
              · have hd : (a.i == x.i) = false := by simp [he]
                go_wp2
                go_region
                all_goals
                  go_wp2
                  go_roundw
                  case rel => exact ⟨_, j + 1, rfl, by go_num, by omega, hS7⟩
                  case measure => simp [intOf]; omega
            · go_wp2
              go_region
              all_goals
                go_wp2
                go_roundw
                case rel => exact ⟨_, j + 1, rfl, by go_num, by omega, hS7⟩
                case measure => simp [intOf]; omega
          · obtain rfl : j = m := by omega
            obtain ⟨⟨y0, y1, y2, y3, y4⟩, yf, yg⟩ := boxI (b := b2 + 1) (r := x) hS6.sg (by simp)
            have hS8 : Sc w wr C ([rG I.kR (.slice (some ⟨b2 + 1, 0, none⟩) 1 1) [x]] ++ rG I.kR (.slice (some ⟨g, 0, none⟩) j c) L :: rs) := hS6
            have hS9 : Sc w wr C (rG I.kR (.slice (some ⟨g, 0, none⟩) j c) L :: rs) := hS6.sub (by simp)
            clear hS6
            cases ab
            · go_wp2_with (at_builtin; refine wpList_sgapp I.appR rfl _ _ rfl (A := []) (B := [x]) (n := j) (m := 1) hS9.sg (below_alloc1 _ _) HL.out.1 rfl rfl ⟨wr.heap.size, 0, none⟩ 1 rfl (lit_src (xs := [.int .i64 x.t, .int .i64 x.i, .int .i64 x.x, .int .i64 x.y, .string x.s]) rfl) (I.oneRs _) (.inl (by decide)) (by omega) ?_; intro g' cap' w8 hS10 hgr hat)
              have hS11 := (hS9.al _).app hS10 hgr hat
              go_roundw
              case rel => exact ⟨k, g', j + 1, cap', L ++ [x], by go_num, rfl, ⟨by rw [List.length_append, HL.out.1]; rfl, by omega⟩, hS11⟩
              case measure => simp [intOf]
            · go_upto_if 53 with (go_at_call 28; refine (onceC hS8 8 (by decide) (by decide)).mono ?_; rintro e w7 ⟨b7, rfl, hS7⟩)
              have hS12 : Sc w w7 C (rG I.kR (.slice (some ⟨g, 0, none⟩) j c) L :: rs) := hS7.sub (by simp)
              clear y0 y1 y2 y3 y4 yf yg hS8 hS9
              obtain ⟨⟨y0, y1, y2, y3, y4⟩, yf, yg⟩ := boxI (b := b2 + 1) (r := x) hS7.sg (by simp)
              cases b7
              · go_wp2
                go_roundw
                case rel => exact ⟨k, g, j, c, L, by go_num, rfl, ⟨HL.out.1, by omega⟩, hS12⟩
                case measure => simp [intOf]
              · go_wp2_with (at_builtin; refine wpList_sgapp I.appR rfl _ _ rfl (A := []) (B := [x]) (n := j) (m := 1) hS12.sg (below_alloc1 _ _) HL.out.1 rfl rfl ⟨w7.heap.size, 0, none⟩ 1 rfl (lit_src (xs := [.int .i64 x.t, .int .i64 x.i, .int .i64 x.x, .int .i64 x.y, .string x.s]) rfl) (I.oneRs _) (.inl (by decide)) (by omega) ?_; intro g' cap' w8 hS10 hgr hat)
                have hS11 := (hS12.al _).app hS10 hgr hat
                go_roundw
                case rel => exact ⟨k, g', j + 1, cap', L ++ [x], by go_num, rfl, ⟨by rw [List.length_append, HL.out.1]; rfl, by omega⟩, hS11⟩
                case measure => simp [intOf]
    · obtain rfl : k = 0 := by omega
      go_wp2
      go_ret
      exact ⟨g, m, c, L, rfl, ⟨HL.out.1, by omega⟩, hS⟩
end Go.Proofs.YtbkiogedipmioaaGreat.V.U
namespace Go.Proofs.YtbkiogedipmioaaGreat.V.U
open Go.RowKit Go.Joins M
attribute [local go_sem] Oper.semAt_some

structure Bv where
  t : Int
  s : Int
  v : Sv
def zbv : Bv := ⟨0, 0, ⟨none, 0, 0⟩⟩
def kB : Kd Bv := ⟨30, 3, fun q => [.int .i64 q.t, .int .i64 q.s, .slice q.v.p q.v.n q.v.c], fun _ => rfl⟩
theorem bat3 {w W : World} {rs : List Rw} (h : Sg w W rs) {g n : Nat} {q : Bv} (hm : rG kB (.slice (some ⟨g, 0, none⟩) 1 n) [q] ∈ rs) :
    W.cell? ⟨g, 0, none⟩ = some (.int .i64 q.t) ∧ W.cell? ⟨g, 1, none⟩ = some (.int .i64 q.s) ∧ W.cell? ⟨g, 2, none⟩ = some (.slice q.v.p q.v.n q.v.c) ∧ (∀ o, W.frozen? ⟨g, o, none⟩ = false) ∧ g < W.heap.size := by
  have ho := h.mem hm
  have hC := OwG.cs ho
  have f := fun i u hu => hC.at (k := 0) (a := q) rfl (i := i) (u := u) hu
  simp only [Nat.zero_mul, Nat.zero_add] at f
  exact ⟨f 0 _ rfl, f 1 _ rfl, f 2 _ rfl, OwG.fz ho, hC.1⟩
section
variable {w W : World} {C : Cu} {A Bs : List Rw}
theorem Sc.setB0 {g n : Nat} {a : Bv} (h : Sc w W C (A ++ rG kB (.slice (some ⟨g, 0, none⟩) 1 n) [a] :: Bs)) (x : Int) : Sc w (W.setCell ⟨g, 0, none⟩ (.int .i64 x)) C (A ++ rG kB (.slice (some ⟨g, 0, none⟩) 1 n) [⟨x, a.s, a.v⟩] :: Bs) := h.raw 0 _ (Sg.setRaw h.sg 0 (.int .i64 x))
theorem Sc.setB1 {g n : Nat} {a : Bv} (h : Sc w W C (A ++ rG kB (.slice (some ⟨g, 0, none⟩) 1 n) [a] :: Bs)) (x : Int) : Sc w (W.setCell ⟨g, 1, none⟩ (.int .i64 x)) C (A ++ rG kB (.slice (some ⟨g, 0, none⟩) 1 n) [⟨a.t, x, a.v⟩] :: Bs) := h.raw 1 _ (Sg.setRaw h.sg 1 (.int .i64 x))
theorem Sc.setB2 {g n : Nat} {a : Bv} (h : Sc w W C (A ++ rG kB (.slice (some ⟨g, 0, none⟩) 1 n) [a] :: Bs)) (u : Sv) : Sc w (W.setCell ⟨g, 2, none⟩ (.slice u.p u.n u.c)) C (A ++ rG kB (.slice (some ⟨g, 0, none⟩) 1 n) [⟨a.t, a.s, u⟩] :: Bs) := h.raw 2 _ (Sg.setRaw h.sg 2 (.slice u.p u.n u.c))
theorem Sc.setB {g n : Nat} {a : Bv} (h : Sc w W C (A ++ rG kB (.slice (some ⟨g, 0, none⟩) 1 n) [a] :: Bs)) (q : Bv) : Sc w (((W.setCell ⟨g, 0, none⟩ (.int .i64 q.t)).setCell ⟨g, 1, none⟩ (.int .i64 q.s)).setCell ⟨g, 2, none⟩ (.slice q.v.p q.v.n q.v.c)) C (A ++ rG kB (.slice (some ⟨g, 0, none⟩) 1 n) [q] :: Bs) := Sc.setB2 (Sc.setB1 (Sc.setB0 h q.t) q.s) q.v
end
/-- A Batch in its box, its Items in a row of their own. -/
def BatR (w W : World) (C : Cu) (b2 b3 : Nat) (rs : List Rw) : Prop := ∃ (t s : Int) (g n c : Nat) (L : List Rc), Hid (L.length = n ∧ n ≤ 7) ∧ Sc w W C (rG kB (.slice (some ⟨b3, 0, none⟩) 1 1) [⟨t, s, ⟨some ⟨g, 0, none⟩, n, c⟩⟩] :: rG kB (.slice (some ⟨b2, 0, none⟩) 1 1) [zbv] :: rG I.kR (.slice (some ⟨g, 0, none⟩) n c) L :: rs)
set_option maxRecDepth 100000 in
set_option maxHeartbeats 8000000 in
theorem batchC {w W : World} {C : Cu} {rs : List Rw} (h : Sc w W C rs) :
    Calls Tryz.prog 27 #[.pointer (some ⟨C.g, 0, none⟩)] W fun e w' => ∃ t s g n c L, e = .returned (I.batV t s (some ⟨g, 0, none⟩) n c) ∧ Hid (L.length = n ∧ n ≤ 7) ∧ Sc w w' C (rG I.kR (.slice (some ⟨g, 0, none⟩) n c) L :: rs) := by
  have hS0 := h.lit kB [zbv] 1 rfl (by decide) #[.int .i64 0, .int .i64 0, .slice none 0 0] rfl
  change Sc w (W.alloc (.cells #[.int .i64 0, .int .i64 0, .slice none 0 0] 30)) _ _ at hS0
  clear h
  have f1 : True := trivial
  go_enter Tryz.func27, Tryz.ntmps27
  go_upto_if 14 with (first
    | (go_at_call 63; clear f1; refine (belowC hS0 3 (by decide) (by decide)).mono ?_; rintro e w1 ⟨x1, rfl, x10, x11, hS1⟩; have f2 : True := trivial)
    | (go_at_call 63; clear f2; refine (belowC hS1 5 (by decide) (by decide)).mono ?_; rintro e w2 ⟨x2, rfl, x20, x21, hS2⟩)
    | (go_at_call 68; refine (itemsC hS2).mono ?_; rintro e w3 ⟨g3, n3, c3, L3, rfl, HL3, hS3⟩; have hS4 := hS3.lit kB [⟨1 + x1, 1 + x2, ⟨some ⟨g3, 0, none⟩, n3, c3⟩⟩] 1 rfl (by decide) #[.int .i64 (1 + x1), .int .i64 (1 + x2), .slice (some ⟨g3, 0, none⟩) n3 c3] rfl; change Sc w (w3.alloc (.cells #[.int .i64 (1 + x1), .int .i64 (1 + x2), .slice (some ⟨g3, 0, none⟩) n3 c3] 30)) _ _ at hS4)
    | (go_at_call 28; refine (onceC hS4 20 (by decide) (by decide)).mono ?_; rintro e w5 ⟨b5, rfl, hS5⟩))
  have hne : W.heap.size < w3.heap.size := (bat3 (g := W.heap.size) (n := 1) (q := zbv) hS3.sg (by simp)).2.2.2.2
  clear hS0 hS1 hS2 hS3 hS4
  generalize w3.heap.size = b3 at *
  generalize W.heap.size = b2 at *
  have HB0 : BatR w w5 C b2 b3 rs := ⟨1 + x1, 1 + x2, g3, n3, c3, L3, ⟨HL3.out.1, by have := HL3.out.2; omega⟩, hS5.perm (.cons _ (.swap _ _ _))⟩
  clear hS5
  go_cut [] from 4 (fun wx => BatR w wx C b2 b3 rs)
  case first =>
    cases b5
    · go_wp2
      go_meet
      exact HB0
    · obtain ⟨t, s, g, n, c, L, HL, hS⟩ := HB0
      go_upto_region 4 with (go_at_call 63; refine (belowC hS 4 (by decide) (by decide)).mono ?_; rintro e w6 ⟨x6, rfl, x60, x61, hS6⟩)
      clear hS
      have hg6 := hS6.cur.hg
      obtain ⟨y0, y1, y2, yf, yg⟩ := bat3 (g := b3) (n := 1) (q := ⟨t, s, ⟨some ⟨g, 0, none⟩, n, c⟩⟩) hS6.sg (by simp)
      have h6 : x6 = 0 ∨ x6 = 1 ∨ x6 = 2 ∨ x6 = 3 := by omega
      rcases h6 with rfl | rfl | rfl | rfl
      · have hS7 := hS6.lit kI [0, 99, 100] 3 rfl (by decide) #[.int .i64 0, .int .i64 99, .int .i64 100] rfl
        change Sc w (w6.alloc (.cells #[.int .i64 0, .int .i64 99, .int .i64 100] 2)) _ _ at hS7
        go_wp2_with (go_at_call 63; refine (below_any _ _ _ _ _ 3 _ hS7.cur (by decide) (by decide)).mono ?_; rintro e w8 ⟨x8, rfl, x80, x81, ht8, hc8⟩; have hS8 := hS7.call ht8 hc8; have hcell := (ht8.cell (b := w6.heap.size) (o := x8.toNat) (by simp) (by omega)).trans (cell3_at x8 x80 x81); clear y0 y1 y2 yf yg; obtain ⟨y0, y1, y2, yf, yg⟩ := bat3 (g := b3) (n := 1) (q := ⟨t, s, ⟨some ⟨g, 0, none⟩, n, c⟩⟩) hS8.sg (by simp))
        go_meet
        exact ⟨_, s, g, n, c, L, HL, Sc.setB0 (A := []) (hS8.sub (List.sublist_cons_self ..)) (sel x8 [0, 99, 100])⟩
      · have hS7 := hS6.lit kI [0, 100000, 100001] 3 rfl (by decide) #[.int .i64 0, .int .i64 100000, .int .i64 100001] rfl
        change Sc w (w6.alloc (.cells #[.int .i64 0, .int .i64 100000, .int .i64 100001] 2)) _ _ at hS7
        go_wp2_with (go_at_call 63; refine (below_any _ _ _ _ _ 3 _ hS7.cur (by decide) (by decide)).mono ?_; rintro e w8 ⟨x8, rfl, x80, x81, ht8, hc8⟩; have hS8 := hS7.call ht8 hc8; have hcell := (ht8.cell (b := w6.heap.size) (o := x8.toNat) (by simp) (by omega)).trans (cell3_at x8 x80 x81); clear y0 y1 y2 yf yg; obtain ⟨y0, y1, y2, yf, yg⟩ := bat3 (g := b3) (n := 1) (q := ⟨t, s, ⟨some ⟨g, 0, none⟩, n, c⟩⟩) hS8.sg (by simp))
        go_meet
        exact ⟨t, _, g, n, c, L, HL, Sc.setB1 (A := []) (hS8.sub (List.sublist_cons_self ..)) (sel x8 [0, 100000, 100001])⟩
      · have hS7 := (Sc.setB2 (A := []) hS6 ⟨some ⟨w6.heap.size, 0, none⟩, 0, 0⟩).lit I.kR [] 0 rfl (by decide) #[] rfl
        change Sc w ((w6.setCell ⟨b3, 2, none⟩ (.slice (some ⟨w6.heap.size, 0, none⟩) 0 0)).alloc (.cells #[] 117)) _ _ at hS7
        simp only [World.size_setCell] at hS7
        have hS9 : Sc w ((w6.setCell ⟨b3, 2, none⟩ (.slice (some ⟨w6.heap.size, 0, none⟩) 0 0)).alloc (.cells #[] 117)) C (rG kB (.slice (some ⟨b3, 0, none⟩) 1 1) [⟨t, s, ⟨some ⟨w6.heap.size, 0, none⟩, 0, 0⟩⟩] :: rG kB (.slice (some ⟨b2, 0, none⟩) 1 1) [zbv] :: rG I.kR (.slice (some ⟨w6.heap.size, 0, none⟩) 0 0) [] :: rs) := (hS7.perm ((List.Perm.swap _ _ _).trans (.cons _ (.swap _ _ _)))).sub (.cons_cons _ (.cons_cons _ (.cons_cons _ (.cons _ (List.Sublist.refl _)))))
        go_wp2
        go_meet
        exact ⟨t, s, _, 0, 0, [], ⟨rfl, by omega⟩, hS9⟩
      · have HB1 : BatR w w6 C b2 b3 rs := ⟨t, s, g, n, c, L, HL, hS6⟩
        clear hS6 y0 y1 y2 yf yg HL
        go_upto_region 11 with (fail)
        go_loopw [] (fun wr => BatR w wr C b2 b3 rs) (fun wr => match wr.cell? ⟨b3, 2, none⟩ with | some (.slice _ n _) => 8 - n | _ => 0)
        case atStart => exact HB1
        case round =>
          clear HB1
          obtain ⟨t, s, g, n, c, L, HL, hS⟩ := hrel
          obtain ⟨y0, y1, y2, yf, yg⟩ := bat3 (g := b3) (n := 1) (q := ⟨t, s, ⟨some ⟨g, 0, none⟩, n, c⟩⟩) hS.sg (by simp)
          have Y2 := Lib.hid y2
          have HK : Hid (∀ w', Sc w w' C (rG kB (.slice (some ⟨b3, 0, none⟩) 1 1) [⟨t, s, ⟨some ⟨g, 0, none⟩, n, c⟩⟩] :: rG kB (.slice (some ⟨b2, 0, none⟩) 1 1) [zbv] :: rG I.kR (.slice (some ⟨g, 0, none⟩) n c) L :: rs) → w'.cell? ⟨b3, 2, none⟩ = some (.slice (some ⟨g, 0, none⟩) n c)) := fun w' h => (bat3 (g := b3) (n := 1) (q := ⟨t, s, ⟨some ⟨g, 0, none⟩, n, c⟩⟩) h.sg (by simp)).2.2.1
          clear y0 y1 y2 yf yg
          have hn7 : n ≤ 7 := HL.out.2
          go_wp2
          go_region_held3 (fun w' => w'.cell? ⟨b3, 2, none⟩ = some (.slice (some ⟨g, 0, none⟩) n c))
            (first
              | assumption
              | with_reducible exact HK.out _ hS
              | with_reducible exact HK.out _ hS.dr)
            (first
              | (go_at_call 63; refine (belowC (C := C) (w := w) (by first | with_reducible exact hS | with_reducible exact hS.dr) 2 (by decide) (by decide)).mono ?_; rintro e w8 ⟨x8, rfl, x80, x81, hS8⟩; have hk8 := HK.out _ hS8; have hw8 : IntKind.i64.wrap (6 + x8) = 6 + x8 := wrapI (by omega) (by omega)))
          by_cases hlt : (n : Int) < 6 + x8
          · have hS9 := hS8.perm ((List.Perm.cons _ (.swap _ _ _)).trans (.swap _ _ _))
            obtain ⟨y0, y1, y2, yf, yg⟩ := bat3 (g := b3) (n := 1) (q := ⟨t, s, ⟨some ⟨g, 0, none⟩, n, c⟩⟩) hS8.sg (by simp)
            go_wp2_with (at_builtin; refine wpList_sgapp I.appR rfl _ _ rfl (A := []) (B := [⟨1, 50 + (n : Int), 0, 0, ByteArray.empty⟩]) (n := n) (m := 1) hS9.sg (below_alloc1 _ _) HL.out.1 rfl rfl ⟨w8.heap.size, 0, none⟩ 1 rfl (lit_src (xs := [.int .i64 1, .int .i64 (50 + (n : Int)), .int .i64 0, .int .i64 0, .string ByteArray.empty]) rfl) (I.oneRs _) (.inl (by decide)) (by omega) ?_; intro g' cap' w9 hS10 hgr hat; have hS11 := (hS9.al _).app hS10 hgr hat; clear y0 y1 y2 yf yg; obtain ⟨y0, y1, y2, yf, yg⟩ := bat3 (g := b3) (n := 1) (q := ⟨t, s, ⟨some ⟨g, 0, none⟩, n, c⟩⟩) hS11.sg (by simp))
            have hS12 := Sc.setB2 (A := []) (hS11.perm ((List.Perm.swap _ _ _).trans (.cons _ (.swap _ _ _)))) ⟨some ⟨g', 0, none⟩, n + 1, cap'⟩
            have Z2 := Lib.hid (bat3 (g := b3) (n := 1) (q := ⟨t, s, ⟨some ⟨g', 0, none⟩, n + 1, cap'⟩⟩) hS12.sg (by simp)).2.2.1
            go_roundw
            case rel => exact ⟨t, s, g', n + 1, cap', L ++ [(⟨1, 50 + (n : Int), 0, 0, ByteArray.empty⟩ : Rc)], ⟨by rw [List.length_append, HL.out.1]; rfl, by omega⟩, hS12⟩
            case measure =>
              have e1 := Y2.out
              have e2 := Z2.out
              simp only at e1 e2
              rw [e1, e2]
              show 8 - (n + 1) < 8 - n
              omega
          · go_wp2
            go_meet
            exact ⟨t, s, g, n, c, L, HL, hS8⟩
  case rest =>
    clear HB0
    obtain ⟨t, s, g, n, c, L, HL, hS⟩ := hcut
    obtain ⟨y0, y1, y2, yf, yg⟩ := bat3 (g := b3) (n := 1) (q := ⟨t, s, ⟨some ⟨g, 0, none⟩, n, c⟩⟩) hS.sg (by simp)
    obtain ⟨z0, z1, z2, zf, zg⟩ := bat3 (g := b2) (n := 1) (q := zbv) hS.sg (by simp)
    have hS8 := Sc.setB (A := [_]) hS ⟨t, s, ⟨some ⟨g, 0, none⟩, n, c⟩⟩
    obtain ⟨u0, u1, u2, uf, ug⟩ := bat3 (g := b2) (n := 1) (q := ⟨t, s, ⟨some ⟨g, 0, none⟩, n, c⟩⟩) hS8.sg (by simp)
    go_wp2
    refine bodyPost_ret (v := .agg #[.int .i64 t, .int .i64 s, .slice (some ⟨g, 0, none⟩) n c]) (by simp [results, Tryz.results27, go_sem, u0, u1, u2]) rfl ⟨t, s, g, n, c, rfl, L, HL, ?_⟩
    exact hS8.sub (.cons _ (.cons _ (List.Sublist.refl _)))
end Go.Proofs.YtbkiogedipmioaaGreat.V.U
