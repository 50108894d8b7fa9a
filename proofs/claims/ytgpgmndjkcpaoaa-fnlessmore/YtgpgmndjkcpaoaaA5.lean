/-
  How many Spots are in just so many Rects: the spec's.
-/
import Derived.Test.YtgpgmndjkcpaoaaA4
import Derived.Test.YtgpgmndjkcpaoaaW5
import Derived.Deep.RegionHeld3
import Derived.BigRegion
namespace Go.Proofs.Ytgpgmndjkcpaoaa
open Go.RowKit Go.Joins
attribute [local go_sem] Oper.semAt_some

theorem foldl_cut (f g : T4 → Int) {L : List T4} {k : Nat} (hk : k < L.length) : cutL ((L.take (k + 1)).flatMap fun r => [f r, g r]) = putL (putL (cutL ((L.take k).flatMap fun r => [f r, g r])) (f (L.getD k zr4))) (g (L.getD k zr4)) := by
  rw [List.take_succ_eq_append_getElem hk]
  unfold cutL
  rw [List.flatMap_append, List.foldl_append]
  simp [List.getD, hk]
theorem sdep_take {L : List T4} {x y : Int} {k : Nat} (hk : k < L.length) : sdep (L.take (k + 1)) x y = sdep (L.take k) x y + if inR (L.getD k zr4).x (L.getD k zr4).y (L.getD k zr4).w (L.getD k zr4).h x y then 1 else 0 := by
  unfold sdep
  rw [List.take_succ_eq_append_getElem hk, List.countP_append, List.countP_singleton]
  simp [List.getD, hk]
theorem Sg.swap {w W W' : World} {A B : List Rw} {r r' : Rw} (h : Sg w W (A ++ r :: B)) (hb : Below W.heap.size W W') (hr : r'.own W' w.heap.size) (hat : ∀ g, r'.v.ownBlock = some g → r.v.ownBlock = some g ∨ W.heap.size ≤ g) : Sg w W' (A ++ r' :: B) :=
  h.app hr ⟨hb.os, hb.tape, hb.output, hb.size, fun k hk _ => hb.block k hk⟩ hat
theorem sl1Holds_v {x1 y1 a1 b1 s2 t2 : Int} {v : Bool} (h : okB x1 y1 a1 b1 = true) (hv : inR x1 y1 a1 b1 s2 t2 = v) (w : World) :
    Calls Try.prog 69 #[.agg #[.int .i64 x1, .int .i64 y1, .int .i64 a1, .int .i64 b1], .agg #[.int .i64 s2, .int .i64 t2]] w fun e w' => e = .returned (.bool v) ∧ Below w.heap.size w w' := by subst hv; exact sl1Holds_any x1 y1 a1 b1 s2 t2 h w

set_option maxRecDepth 100000 in
set_option maxHeartbeats 8000000 in
theorem l7Depths_any (p : Option Addr) (cap : Nat) (L : List T4) (w : World) (hL : Sl4 w p L) (hok : okL L = true) :
    Calls Try.prog 46 #[.slice p L.length cap] w fun e w' => ∃ g1 cap1, e = .returned (.slice (some ⟨g1, 0, none⟩) (L.length + 1) cap1) ∧ w'.ownsRow w.heap.size 2 1 (.slice (some ⟨g1, 0, none⟩) (L.length + 1) cap1) (L.length + 1) (flat1 (dpsL L)) ∧ Below w.heap.size w w' := by
  have h12 := okL_len hok
  have HOK : Hid (okL L = true) := hok
  obtain ⟨N, hN⟩ : ∃ N, L.length = N := ⟨_, rfl⟩
  have HN : Hid (L.length = N) := hN
  rw [hN] at h12 ⊢
  clear hok hN
  obtain ⟨i0, hi, hz0, hz1, hz2⟩ := info_parts info2
  have hmk := run_make (P := Try.prog) w 27 2 i0 _ Try.underlying27 hi hz0 .i64 .i64 ((N : Int) + 1) ((N : Int) + 1) (by omega) (by omega) (by rw [hz2]; omega) (by omega)
  rw [hz1, show ((N : Int) + 1).toNat = N + 1 by omega, Nat.mul_one] at hmk
  have hrow0 : (w.alloc (.cells (madeCells #[.int .i64 0] (N + 1)) 2)).ownsRow w.heap.size 2 1 (.slice (some ⟨w.heap.size, 0, none⟩) (N + 1) (N + 1)) (N + 1) (flat1 (List.replicate (N + 1) 0)) := by
    have := World.ownsRow_lit (base := w.heap.size) (e := 2) (size := 1) w (madeCells #[.int .i64 0] (N + 1)) (N + 1) (Nat.le_refl _) (by unfold maxLen; omega) (by rw [size_madeCells, Nat.mul_one])
    rw [made_flat1] at this
    exact this
  have hX0 : Sg w _ [r1 (.slice (some ⟨w.heap.size, 0, none⟩) (N + 1) (N + 1)) (List.replicate (N + 1) 0)] := (Sg.nil w).add (r := r1 (.slice (some ⟨w.heap.size, 0, none⟩) (N + 1) (N + 1)) (List.replicate (N + 1) 0)) (by unfold r1 Rw.own; simp only [List.length_replicate]; exact hrow0) (below_alloc1 _ _)
  have hX1 := hX0.add (r := r1 (.slice (some ⟨(w.alloc (.cells (madeCells #[.int .i64 0] (N + 1)) 2)).heap.size, 0, none⟩) 0 0) []) (ow1_new _) (below_alloc1 _ _)
  have hX2 := hX1.add (r := r1 (.slice (some ⟨((w.alloc (.cells (madeCells #[.int .i64 0] (N + 1)) 2)).alloc (.cells #[] 2)).heap.size, 0, none⟩) 0 0) []) (ow1_new _) (below_alloc1 _ _)
  clear hrow0 hX0 hX1
  simp only [World.size_alloc] at hX2
  go_enter Try.func46, Try.ntmps46
  go_wp2
  clear hmk
  go_loopw [4, 5, 6] (fun xv yv iv wr => ∃ (k gx cx gy cy : Nat) (X Y : List Int), k ≤ N ∧ iv = .int .i64 k ∧ xv = .slice (some ⟨gx, 0, none⟩) X.length cx ∧ yv = .slice (some ⟨gy, 0, none⟩) Y.length cy ∧ Hid (X = cutL (cutsX (L.take k)) ∧ Y = cutL (cutsY (L.take k))) ∧ Sg w wr [r1 yv Y, r1 xv X, r1 (.slice (some ⟨w.heap.size, 0, none⟩) (N + 1) (N + 1)) (List.replicate (N + 1) 0)]) (fun _ _ iv _ => N - (intOf iv).toNat)
  case atStart => exact ⟨0, w.heap.size + 1, 0, w.heap.size + 1 + 1, 0, [], [], by omega, rfl, rfl, rfl, by exact ⟨rfl, rfl⟩, hX2⟩
  case round =>
    clear hX2
    obtain ⟨k, gx, cx, gy, cy, X, Y, hk, rfl, rfl, rfl, hXY, hS0⟩ := hrel
    by_cases hlt : k < N
    · have hki : (k : Int) < N := by omega
      have hkL : k < L.length := by rw [HN.out]; exact hlt
      obtain ⟨g, off, rfl, hC⟩ := (hL.step hS0.bel).at hkL
      obtain ⟨c0, c1, c2, c3⟩ := hC.2 k _ (get4 hkL)
      have hro : okB (L.getD k zr4).x (L.getD k zr4).y (L.getD k zr4).w (L.getD k zr4).h = true := okL_all HOK.out (L.getD k zr4) (by rw [show L.getD k zr4 = L[k] by simp [List.getD, hkL]]; exact List.getElem_mem hkL)
      have hXn : putL (putL X (L.getD k zr4).x) ((L.getD k zr4).x + (L.getD k zr4).w) = cutL (cutsX (L.take (k + 1))) := by rw [hXY.out.1]; exact (foldl_cut _ _ hkL).symm
      have hYn : putL (putL Y (L.getD k zr4).y) ((L.getD k zr4).y + (L.getD k zr4).h) = cutL (cutsY (L.take (k + 1))) := by rw [hXY.out.2]; exact (foldl_cut _ _ hkL).symm
      have hXl : X.length ≤ 2 * k := by rw [hXY.out.1]; have := cutL_len (cutsX (L.take k)); unfold cutsX at this; rw [flat2_len, List.length_take] at this; exact Nat.le_trans this (by omega)
      have hYl : Y.length ≤ 2 * k := by rw [hXY.out.2]; have := cutL_len (cutsY (L.take k)); unfold cutsY at this; rw [flat2_len, List.length_take] at this; exact Nat.le_trans this (by omega)
      generalize L.getD k zr4 = r at c0 c1 c2 c3 hro hXn hYn
      have hkk := okB_t.mp hro
      have hX1l := putL_len X r.x
      have hY1l := putL_len Y r.y
      obtain ⟨X1, hX1⟩ : ∃ X1, putL X r.x = X1 := ⟨_, rfl⟩
      obtain ⟨Y1, hY1⟩ : ∃ Y1, putL Y r.y = Y1 := ⟨_, rfl⟩
      rw [hX1] at hXn hX1l
      rw [hY1] at hYn hY1l
      obtain ⟨X2, hX2⟩ : ∃ X2, putL X1 (r.x + r.w) = X2 := ⟨_, rfl⟩
      obtain ⟨Y2, hY2⟩ : ∃ Y2, putL Y1 (r.y + r.h) = Y2 := ⟨_, rfl⟩
      rw [hX2] at hXn
      rw [hY2] at hYn
      have HXY : Hid (X2 = cutL (cutsX (L.take (k + 1))) ∧ Y2 = cutL (cutsY (L.take (k + 1)))) := ⟨hXn, hYn⟩
      have H1 : Hid (putL X r.x = X1 ∧ putL X1 (r.x + r.w) = X2 ∧ putL Y r.y = Y1 ∧ putL Y1 (r.y + r.h) = Y2) := ⟨hX1, hX2, hY1, hY2⟩
      clear hX1 hX2 hY1 hY2 hXn hYn hXY hro
      have hSa : ∀ w', Below wr.heap.size wr w' → (w'.cell? ⟨g, off + k * 4, none⟩ = some (.int .i64 r.x) ∧ w'.cell? ⟨g, off + k * 4 + 2, none⟩ = some (.int .i64 r.w)) := fun w' h => ⟨(h.cell (p := ⟨g, _, none⟩) hC.1).trans c0, (h.cell (p := ⟨g, _, none⟩) hC.1).trans c2⟩
      have hw1 : IntKind.i64.wrap (r.x + r.w) = r.x + r.w := by rw [IntKind.wrap_i64]; omega
      have hw2 : IntKind.i64.wrap (r.y + r.h) = r.y + r.h := by rw [IntKind.wrap_i64]; omega
      go_wp2
      have fa : True := trivial
      go_region_held3 (fun w' => Below wr.heap.size wr w' ∧ w'.cell? ⟨g, off + k * 4, none⟩ = some (.int .i64 r.x) ∧ w'.cell? ⟨g, off + k * 4 + 2, none⟩ = some (.int .i64 r.w)) (first | exact ‹Below _ _ _ ∧ _› | exact keepS hSa (bstep (‹Below _ _ _ ∧ _›).1 hb2 (Nat.le_refl _)) | exact keepS hSa (Below.refl _ _).drew | fail)
        (first
        | (go_at_call 68; clear fa; refine (put_any w.heap.size gx _ cx X r.x _ (own_of_below hS0.o1 (‹Below _ _ _ ∧ _›).1) (by omega) H1.out.1 (by have := (‹Below _ _ _ ∧ _›).1.size; have := hS0.bel.size; omega)).mono ?_; rintro e w1 ⟨g1, cc1, rfl, hO1, ha1, hb2⟩; have hB1 : Below wr.heap.size wr w1 := bstep (‹Below _ _ _ ∧ _›).1 hb2 (Nat.le_refl _); have ha1' : g1 = gx ∨ wr.heap.size ≤ g1 := ha1.imp id (fun h => Nat.le_trans (‹Below _ _ _ ∧ _›).1.size h))
        | (go_at_call 68; refine (put_any w.heap.size g1 _ cc1 X1 (r.x + r.w) _ hO1 (by omega) H1.out.2.1 (by have := hB1.size; have := hS0.bel.size; omega)).mono ?_; rintro e w2 ⟨g2a, cc2a, rfl, hO2, ha2, hb2⟩; have hB2 := bstep hB1 hb2 (Nat.le_refl _)))
      have hS2 := hS0.swap (A := [_]) (r' := r1 (.slice (some ⟨g2a, 0, none⟩) X2.length cc2a) X2) hB2 hO2 (fun gg e => by
        have e' : g2a = gg := Option.some.inj e
        subst e'
        rcases ha2 with h | h
        · rcases ha1' with h' | h'
          · left; rw [h, h']; rfl
          · right; omega
        · right; exact Nat.le_trans hB1.size h)
      have hC2 := hC.step hB2
      have y1 := (hB2.cell (p := ⟨g, _, none⟩) hC.1).trans c1
      have y3 := (hB2.cell (p := ⟨g, _, none⟩) hC.1).trans c3
      clear hO1 hO2 ha1 ha2 ha1' hB1 hB2 hb2 hSa hS0
      simp only [List.cons_append, List.nil_append] at hS2
      have hSb : ∀ w', Below w2.heap.size w2 w' → (w'.cell? ⟨g, off + k * 4 + 1, none⟩ = some (.int .i64 r.y) ∧ w'.cell? ⟨g, off + k * 4 + 3, none⟩ = some (.int .i64 r.h)) := fun w' h => ⟨(h.cell (p := ⟨g, _, none⟩) hC2.1).trans y1, (h.cell (p := ⟨g, _, none⟩) hC2.1).trans y3⟩
      go_wp2
      have fb : True := trivial
      go_region_held3 (fun w' => Below w2.heap.size w2 w' ∧ w'.cell? ⟨g, off + k * 4 + 1, none⟩ = some (.int .i64 r.y) ∧ w'.cell? ⟨g, off + k * 4 + 3, none⟩ = some (.int .i64 r.h)) (first | exact ‹Below _ _ _ ∧ _› | exact keepS hSb (bstep (‹Below _ _ _ ∧ _›).1 hb2 (Nat.le_refl _)) | exact keepS hSb (Below.refl _ _).drew | fail)
        (first
        | (go_at_call 68; clear fb; refine (put_any w.heap.size gy _ cy Y r.y _ (own_of_below hS2.o0 (‹Below _ _ _ ∧ _›).1) (by omega) H1.out.2.2.1 (by have := (‹Below _ _ _ ∧ _›).1.size; have := hS2.bel.size; omega)).mono ?_; rintro e w3 ⟨g1, cc1, rfl, hO1, ha1, hb2⟩; have hB1 : Below w2.heap.size w2 w3 := bstep (‹Below _ _ _ ∧ _›).1 hb2 (Nat.le_refl _); have ha1' : g1 = gy ∨ w2.heap.size ≤ g1 := ha1.imp id (fun h => Nat.le_trans (‹Below _ _ _ ∧ _›).1.size h))
        | (go_at_call 68; refine (put_any w.heap.size g1 _ cc1 Y1 (r.y + r.h) _ hO1 (by omega) H1.out.2.2.2 (by have := hB1.size; have := hS2.bel.size; omega)).mono ?_; rintro e w4 ⟨g2b, cc2b, rfl, hO2, ha2, hb2⟩; have hB2 := bstep hB1 hb2 (Nat.le_refl _)))
      have hS4 := hS2.swap (A := []) (r' := r1 (.slice (some ⟨g2b, 0, none⟩) Y2.length cc2b) Y2) hB2 hO2 (fun gg e => by
        have e' : g2b = gg := Option.some.inj e
        subst e'
        rcases ha2 with h | h
        · rcases ha1' with h' | h'
          · left; rw [h, h']; rfl
          · right; omega
        · right; exact Nat.le_trans hB1.size h)
      simp only [List.nil_append] at hS4
      go_wp2
      go_roundw
      case rel => exact ⟨k + 1, g2a, cc2a, g2b, cc2b, X2, Y2, by omega, by go_num, rfl, rfl, HXY, hS4⟩
      case measure => simp [intOf]; omega
    · obtain rfl : k = N := by omega
      have hXY2 : X = xsL L ∧ Y = ysL L := by
        have := hXY.out
        rw [show L.take k = L by rw [← HN.out, List.take_length]] at this
        exact this
      clear hXY
      have hXl := xsL_len L
      have hYl := ysL_len L
      rw [← hXY2.1, HN.out] at hXl
      rw [← hXY2.2, HN.out] at hYl
      have hXs : X.Pairwise (· < ·) := by rw [hXY2.1]; exact cutL_srt _
      have HXY : Hid (X = xsL L ∧ Y = ysL L) := hXY2
      clear hXY2 hXs
      go_wp2
      go_loopw [7] (fun av wr => ∃ a : Nat, (a + 1 ≤ X.length ∨ a = 0) ∧ av = .int .i64 a ∧ Sg w wr [r1 (.slice (some ⟨gy, 0, none⟩) Y.length cy) Y, r1 (.slice (some ⟨gx, 0, none⟩) X.length cx) X, ⟨.slice (some ⟨w.heap.size, 0, none⟩) (k + 1) (k + 1), 2, 1, k + 1, flat1 (accS L ((pcs X).take a) (pcs Y) (List.replicate (k + 1) 0))⟩]) (fun av _ => X.length - (intOf av).toNat)
      case atStart => exact ⟨0, .inr rfl, rfl, by have := hS0; unfold r1 at this ⊢; simp only [List.length_replicate] at this; exact this⟩
      case round =>
        rename World => wo
        clear hS0
        obtain ⟨a, ha, rfl, hSa⟩ := hrel
        by_cases hlta : a + 1 < X.length
        · have hai : (a : Int) + 1 < X.length := by omega
          have hps := pcs_get hlta
          have hxm := accS_take (L := L) (bs := pcs Y) (o := List.replicate (k + 1) 0) hps
          obtain ⟨Oa, hOa⟩ : ∃ o, accS L ((pcs X).take a) (pcs Y) (List.replicate (k + 1) 0) = o := ⟨_, rfl⟩
          have hsm : (⟨X.getD a 0, X.getD (a + 1) 0⟩ : T2) ∈ pcs X := List.mem_of_getElem? hps
          have hxa : 0 ≤ X.getD a 0 ∧ X.getD a 0 ≤ 256 := xsL_in HOK.out (by rw [← HXY.out.1]; exact getD_mem (by omega))
          have hxb : 0 ≤ X.getD (a + 1) 0 ∧ X.getD (a + 1) 0 ≤ 256 := xsL_in HOK.out (by rw [← HXY.out.1]; exact getD_mem hlta)
          have hgapx : X.getD a 0 < X.getD (a + 1) 0 := srt_get (by rw [HXY.out.1]; exact cutL_srt _) (Nat.lt_succ_self _) hlta
          have hmb := fun j => mid_bd (j := j) HOK.out (i := a) (by rw [← HXY.out.1]; exact hps)
          have hds := fun (c : T2) (hc : c ∈ pcs Y) => dep_sdep (L := L) (s := ⟨X.getD a 0, X.getD (a + 1) 0⟩) (b := c) (by rw [← HXY.out.1]; exact hsm) (by rw [← HXY.out.2]; exact hc)
          have hlO := accS_len L (pcs Y) ((pcs X).take a) (List.replicate (k + 1) 0)
          rw [List.length_replicate] at hlO
          rw [HN.out, ← HXY.out.1, ← HXY.out.2] at hmb
          rw [hOa] at hxm hmb hSa hlO
          obtain ⟨xa, hxae⟩ : ∃ z, X.getD a 0 = z := ⟨_, rfl⟩
          obtain ⟨xb, hxbe⟩ : ∃ z, X.getD (a + 1) 0 = z := ⟨_, rfl⟩
          have hX1 : X[a]? = some xa := by rw [← hxae]; exact getI_some (by omega)
          have hX2 : X[a + 1]? = some xb := by rw [← hxbe]; exact getI_some hlta
          simp only [hxae, hxbe] at hxa hxb hgapx hmb hds hxm
          have HX : Hid (X[a]? = some xa ∧ X[a + 1]? = some xb) := ⟨hX1, hX2⟩
          have HMB : Hid (∀ j : Nat, Bd 600 (accB L ⟨xa, xb⟩ ((pcs Y).take j) Oa)) := hmb
          have HDS : Hid (∀ c, c ∈ pcs Y → dep L ⟨xa, xb⟩ c = sdep L xa c.x) := hds
          have HXM : Hid (accS L ((pcs X).take (a + 1)) (pcs Y) (List.replicate (k + 1) 0) = accB L ⟨xa, xb⟩ (pcs Y) Oa) := hxm
          have HLO : Hid (Oa.length = k + 1) := hlO
          clear hOa hsm hmb hds hxm hps hX1 hX2 hxae hxbe hlO
          have hai2 : IntKind.i64.wrap ((a : Int) + 1) = (a : Int) + 1 := by rw [IntKind.wrap_i64]; omega
          have hati : ((a : Int) + 1).toNat = a + 1 := by omega
          go_wp2
          go_loopw [8] (fun bv wr => ∃ b : Nat, (b + 1 ≤ Y.length ∨ b = 0) ∧ bv = .int .i64 b ∧ Sg w wr [r1 (.slice (some ⟨gy, 0, none⟩) Y.length cy) Y, r1 (.slice (some ⟨gx, 0, none⟩) X.length cx) X, ⟨.slice (some ⟨w.heap.size, 0, none⟩) (k + 1) (k + 1), 2, 1, k + 1, flat1 (accB L ⟨xa, xb⟩ ((pcs Y).take b) Oa)⟩]) (fun bv _ => Y.length - (intOf bv).toNat)
          case atStart => exact ⟨0, .inr rfl, rfl, hSa⟩
          case round =>
            rename World => wm
            clear hSa
            obtain ⟨b, hb, rfl, hSb⟩ := hrel
            by_cases hltb : b + 1 < Y.length
            · have hbi : (b : Int) + 1 < Y.length := by omega
              have hps := pcs_get hltb
              have hbm := accB_take (L := L) (s := ⟨xa, xb⟩) (o := Oa) hps
              have hya : 0 ≤ Y.getD b 0 ∧ Y.getD b 0 ≤ 256 := ysL_in HOK.out (by rw [← HXY.out.2]; exact getD_mem (by omega))
              have hyb : 0 ≤ Y.getD (b + 1) 0 ∧ Y.getD (b + 1) 0 ≤ 256 := ysL_in HOK.out (by rw [← HXY.out.2]; exact getD_mem hltb)
              have hgapy : Y.getD b 0 < Y.getD (b + 1) 0 := srt_get (by rw [HXY.out.2]; exact cutL_srt _) (Nat.lt_succ_self _) hltb
              have hdb := HDS.out _ (List.mem_of_getElem? hps)
              obtain ⟨ya, hyae⟩ : ∃ z, Y.getD b 0 = z := ⟨_, rfl⟩
              obtain ⟨yb, hybe⟩ : ∃ z, Y.getD (b + 1) 0 = z := ⟨_, rfl⟩
              have hY1 : Y[b]? = some ya := by rw [← hyae]; exact getI_some (by omega)
              have hY2 : Y[b + 1]? = some yb := by rw [← hybe]; exact getI_some hltb
              simp only [hyae, hybe] at hya hyb hgapy hbm hdb
              have hObd := HMB.out b
              have hOl := accB_len L ⟨xa, xb⟩ ((pcs Y).take b) Oa
              rw [HLO.out] at hOl
              rw [hdb] at hbm
              obtain ⟨O, hO⟩ : ∃ o, accB L ⟨xa, xb⟩ ((pcs Y).take b) Oa = o := ⟨_, rfl⟩
              rw [hO] at hbm hObd hOl hSb
              have HBM : Hid (accB L ⟨xa, xb⟩ ((pcs Y).take (b + 1)) Oa = bump O (sdep L xa ya) (lenS ⟨xa, xb⟩ * lenS ⟨ya, yb⟩)) := hbm
              have HY : Hid (Y[b]? = some ya ∧ Y[b + 1]? = some yb) := ⟨hY1, hY2⟩
              have HOB : Hid (Bd 600 O ∧ O.length = k + 1) := ⟨hObd, hOl⟩
              clear hO hbm hdb hps hyae hybe hY1 hY2 hObd hOl
              have hbi2 : IntKind.i64.wrap ((b : Int) + 1) = (b : Int) + 1 := by rw [IntKind.wrap_i64]; omega
              have hbti : ((b : Int) + 1).toNat = b + 1 := by omega
              go_wp2
              go_loopw [9, 10] (fun nv iv wr => ∃ (i m : Nat), i ≤ k ∧ m ≤ i ∧ iv = .int .i64 i ∧ nv = .int .i64 m ∧ Hid (sdep (L.take i) xa ya = m) ∧ Sg w wr [r1 (.slice (some ⟨gy, 0, none⟩) Y.length cy) Y, r1 (.slice (some ⟨gx, 0, none⟩) X.length cx) X, ⟨.slice (some ⟨w.heap.size, 0, none⟩) (k + 1) (k + 1), 2, 1, k + 1, flat1 O⟩]) (fun _ iv _ => k - (intOf iv).toNat)
              case atStart => exact ⟨0, 0, by omega, by omega, rfl, rfl, by simp [Hid, sdep], hSb⟩
              case round =>
                clear hSb
                obtain ⟨i, m, hi0, hm0, rfl, rfl, hSD, hSi⟩ := hrel
                have hx0 := (Ow1.cs (rw_i hSi.o1)).2 a _ HX.out.1
                have hx1 := (Ow1.cs (rw_i hSi.o1)).2 (a + 1) _ HX.out.2
                have hy0 := (Ow1.cs (rw_i hSi.o0)).2 b _ HY.out.1
                have hy1 := (Ow1.cs (rw_i hSi.o0)).2 (b + 1) _ HY.out.2
                have hgx := (Ow1.cs (rw_i hSi.o1)).1
                have hgy := (Ow1.cs (rw_i hSi.o0)).1
                simp only [Nat.zero_add] at hx0 hx1 hy0 hy1
                by_cases hlti : i < k
                · have hii : (i : Int) < k := by omega
                  have hiL : i < L.length := by rw [HN.out]; exact hlti
                  obtain ⟨g, off, rfl, hC⟩ := (hL.step hSi.bel).at hiL
                  obtain ⟨c0, c1, c2, c3⟩ := hC.2 i _ (get4 hiL)
                  have hro : okB (L.getD i zr4).x (L.getD i zr4).y (L.getD i zr4).w (L.getD i zr4).h = true := okL_all HOK.out (L.getD i zr4) (by rw [show L.getD i zr4 = L[i] by simp [List.getD, hiL]]; exact List.getElem_mem hiL)
                  have hst := sdep_take (x := xa) (y := ya) hiL
                  rw [hSD.out] at hst
                  generalize L.getD i zr4 = r at c0 c1 c2 c3 hro hst
                  have HST : Hid (sdep (L.take (i + 1)) xa ya = m + if inR r.x r.y r.w r.h xa ya then 1 else 0) := hst
                  clear hst hSD
                  have hS : ∀ w', Below wr.heap.size wr w' → (w'.cell? ⟨g, off + i * 4, none⟩ = some (.int .i64 r.x) ∧ w'.cell? ⟨g, off + i * 4 + 1, none⟩ = some (.int .i64 r.y) ∧ w'.cell? ⟨g, off + i * 4 + 2, none⟩ = some (.int .i64 r.w) ∧ w'.cell? ⟨g, off + i * 4 + 3, none⟩ = some (.int .i64 r.h) ∧ w'.cell? ⟨gx, a, none⟩ = some (.int .i64 xa) ∧ w'.cell? ⟨gy, b, none⟩ = some (.int .i64 ya)) := fun w' h => ⟨(h.cell (p := ⟨g, _, none⟩) hC.1).trans c0, (h.cell (p := ⟨g, _, none⟩) hC.1).trans c1, (h.cell (p := ⟨g, _, none⟩) hC.1).trans c2, (h.cell (p := ⟨g, _, none⟩) hC.1).trans c3, (h.cell (p := ⟨gx, a, none⟩) hgx).trans hx0, (h.cell (p := ⟨gy, b, none⟩) hgy).trans hy0⟩
                  have hal : a < X.length := by omega
                  have hbl : b < Y.length := by omega
                  have hali : (a : Int) < X.length := by omega
                  have hbli : (b : Int) < Y.length := by omega
                  cases hv : inR r.x r.y r.w r.h xa ya
                  all_goals
                    go_wp2
                    go_region_held3 (fun w' => Below wr.heap.size wr w' ∧ w'.cell? ⟨g, off + i * 4, none⟩ = some (.int .i64 r.x) ∧ w'.cell? ⟨g, off + i * 4 + 1, none⟩ = some (.int .i64 r.y) ∧ w'.cell? ⟨g, off + i * 4 + 2, none⟩ = some (.int .i64 r.w) ∧ w'.cell? ⟨g, off + i * 4 + 3, none⟩ = some (.int .i64 r.h) ∧ w'.cell? ⟨gx, a, none⟩ = some (.int .i64 xa) ∧ w'.cell? ⟨gy, b, none⟩ = some (.int .i64 ya)) (first | exact ‹Below _ _ _ ∧ _› | exact keepS hS (bstep (‹Below _ _ _ ∧ _›).1 hb2 (Nat.le_refl _)) | exact keepS hS (Below.refl _ _).drew | fail) ((go_at_call 69; refine (sl1Holds_v hro hv _).mono ?_; rintro e w1 ⟨rfl, hb2⟩; have hB1 : Below wr.heap.size wr w1 := bstep (‹Below _ _ _ ∧ _›).1 hb2 (Nat.le_refl _)))
                    go_wp2
                    go_roundw
                    case rel => first
                      | exact ⟨i + 1, m, by omega, by omega, by go_num, rfl, by show _ = _; rw [HST.out, hv]; rfl, hSi.step hB1⟩
                      | exact ⟨i + 1, m + 1, by omega, by omega, by go_num, by go_num, by show _ = _; rw [HST.out, hv]; rfl, hSi.step hB1⟩
                    case measure => simp [intOf]; omega
                · obtain rfl : i = k := by omega
                  have hsd : sdep L xa ya = m := by have := hSD.out; rw [show L.take i = L by rw [← HN.out, List.take_length]] at this; exact this
                  have hbm := HBM.out
                  rw [hsd] at hbm
                  obtain ⟨hbd, hOl⟩ := HOB.out
                  have hmO : m < O.length := by rw [hOl]; omega
                  have hov := hbd _ (getD_mem hmO)
                  have hOw : wr.ownsRow w.heap.size 2 1 (.slice (some ⟨w.heap.size, 0, none⟩) (i + 1) (i + 1)) (i + 1) (flat1 O) := hSi.o2
                  have hoc := (own1_cs hOw).2 m _ (getI_some hmO)
                  have hgo := (own1_cs hOw).1
                  have hfz := World.ownsRow.frozenAt hOw
                  rw [Nat.zero_add] at hoc
                  have har := area_bd1 (s := ⟨xa, xb⟩) (b := ⟨ya, yb⟩) (by unfold lenS; simp only; omega) (by unfold lenS; simp only; omega)
                  unfold lenS at har hbm
                  simp only at har hbm
                  unfold bump at hbm
                  obtain ⟨ov, hove⟩ : ∃ z, O.getD m 0 = z := ⟨_, rfl⟩
                  rw [hove] at hov hoc hbm
                  obtain ⟨A, hA⟩ : ∃ z, (xb - xa) * (yb - ya) = z := ⟨_, rfl⟩
                  rw [hA] at har hbm
                  have HBM2 : Hid (accB L ⟨xa, xb⟩ ((pcs Y).take (b + 1)) Oa = O.set m (ov + A)) := hbm
                  have HOW : Hid (wr.ownsRow w.heap.size 2 1 (.slice (some ⟨w.heap.size, 0, none⟩) (i + 1) (i + 1)) (i + 1) (flat1 O) ∧ O.length = i + 1) := ⟨hOw, hOl⟩
                  have hmi : (m : Int) < (i : Int) + 1 := by omega
                  have hmi2 : m < i + 1 := by omega
                  have hw1 : IntKind.i64.wrap (xb - xa) = xb - xa := by rw [IntKind.wrap_i64]; omega
                  have hw2 : IntKind.i64.wrap (yb - ya) = yb - ya := by rw [IntKind.wrap_i64]; omega
                  have hw3 : IntKind.i64.wrap A = A := by rw [IntKind.wrap_i64]; omega
                  have hw4 : IntKind.i64.wrap (ov + A) = ov + A := by rw [IntKind.wrap_i64]; omega
                  have hal : a < X.length := by omega
                  have hbl : b < Y.length := by omega
                  have hali : (a : Int) < X.length := by omega
                  have hbli : (b : Int) < Y.length := by omega
                  have ha0 : (0 : Int) ≤ (a : Int) + 1 := by omega
                  have hb0 : (0 : Int) ≤ (b : Int) + 1 := by omega
                  clear hsd hbm hbd hOl hmO hove hOw HBM HOB hSD
                  go_wp2
                  go_big_region
                  go_wp2
                  obtain ⟨h1, h2⟩ := HOW.out
                  obtain ⟨s1, t1⟩ := Ow1.stored (W := wr.drew) (base := w.heap.size) (g := w.heap.size) (n := i + 1) (cap := i + 1) (k := m) (L := O) (by unfold Ow1; rw [h2]; exact World.ownsRow.drew h1) (ov + A)
                  refine ⟨⟨b + 1, .inl (by omega), by go_num, ?_⟩, by simp [intOf]; omega⟩
                  rw [HBM2.out]
                  exact (hSi.step (Below.refl _ _).drew).put (A := [_, _]) (B := []) (r' := ⟨.slice (some ⟨w.heap.size, 0, none⟩) (i + 1) (i + 1), 2, 1, i + 1, flat1 (O.set m (ov + A))⟩) rfl (by unfold Ow1 at s1; rw [List.length_set, h2] at s1; exact s1) t1
            · have hbi : ¬ (b : Int) + 1 < Y.length := by omega
              have hpl := pcs_len Y
              have htk : (pcs Y).take b = pcs Y := List.take_of_length_le (by omega)
              rw [htk] at hSb
              clear htk hpl
              go_wp2
              refine ⟨⟨a + 1, .inl (by omega), by go_num, ?_⟩, by simp [intOf]; omega⟩
              rw [HXM.out]
              exact hSb
        · have hai : ¬ (a : Int) + 1 < X.length := by omega
          have hpl := pcs_len X
          have htk : (pcs X).take a = pcs X := List.take_of_length_le (by omega)
          rw [htk] at hSa
          clear htk hpl
          have hD : dpsL L = accS L (pcs X) (pcs Y) (List.replicate (k + 1) 0) := by unfold dpsL; rw [HXY.out.1, HXY.out.2, HN.out]
          have HD : Hid (dpsL L = accS L (pcs X) (pcs Y) (List.replicate (k + 1) 0)) := hD
          clear hD
          go_wp2
          go_ret
          refine ⟨w.heap.size, k + 1, rfl, ?_, hSa.bel⟩
          rw [HD.out]
          exact hSa.o2
end Go.Proofs.Ytgpgmndjkcpaoaa
