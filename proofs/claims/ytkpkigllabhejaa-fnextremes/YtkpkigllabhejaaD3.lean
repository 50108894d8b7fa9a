/-
  Lists of Spots drawn; what DrawExtreme draws.
-/
import Derived.Test.YtkpkigllabhejaaD2
import Derived.Test.YtkpkigllabhejaaS3
namespace Go.Proofs.Ytkpkigllabhejaa
open Go.RowKit Go.Joins
attribute [local go_sem ↓] Go.wp_at_zero Go.wp_at_succ

theorem Turn.gr {g : Nat} {w w' : World} (h : Turn g w w') : w.grownBy w' (some g) := ⟨h.os, h.tape, h.output, h.size, fun k hk hne => h.block k hk (fun e => hne (by rw [e]))⟩
theorem Ow.turn {g base : Nat} {W W' : World} {v : Value} {M : List T2} (h : Ow W base v M) (t : Turn g W W') (hg : g < base) : Ow W' base v M :=
  h.kept t.gr (.inr fun e => by have := (h.lt g e).1; omega)
theorem Has.turn {g : Nat} {W W' : World} {l : List (Nat × List Value)} (h : Has W l) (t : Turn g W W') (hl : ∀ p ∈ l, p.1 ≠ g) : Has W' l := h.grown t.gr hl
theorem Turn.row {g : Nat} {w W W' : World} {v : Value} {M : List T2} (h : Turn g w W) (ho : Ow W w.heap.size v M) (hg : W.grownBy W' v.ownBlock) : Turn g w W' :=
  ⟨hg.os.trans h.os, hg.tape.trans h.tape, hg.output.trans h.output, Nat.le_trans h.size hg.size, fun k hk hne => (hg.block k (Nat.lt_of_lt_of_le hk h.size) (fun e => by have := (ho.lt k e.symm).1; omega)).trans (h.block k hk hne)⟩
/-- What a drawing call leaves: the cursor, a list of one's own. -/
structure Dr (w W : World) (g : Nat) (a : Option Addr) (len cap : Nat) (zs : List Int) (v : Value) (M : List T2) : Prop where
  turn : Turn g w W
  cur : Cur W g a len cap zs
  own : Ow W w.heap.size v M
theorem Dr.call {w W W' : World} {g : Nat} {a : Option Addr} {len cap : Nat} {zs : List Int} {v : Value} {M : List T2} (h : Dr w W g a len cap zs v M) (hg : g < w.heap.size) (t : Turn g W W') (c : Cur W' g a len cap zs) : Dr w W' g a len cap zs v M :=
  ⟨h.turn.trans t, c, h.own.turn t hg⟩
theorem Dr.below {w W W' : World} {g : Nat} {a : Option Addr} {len cap : Nat} {zs : List Int} {v : Value} {M : List T2} (h : Dr w W g a len cap zs v M) (hb : Below W.heap.size W W') : Dr w W' g a len cap zs v M :=
  ⟨h.turn.trans (Turn.of hb), h.cur.below hb, own_of_below h.own hb⟩
theorem Dr.row {w W W' : World} {g : Nat} {a : Option Addr} {len cap : Nat} {zs : List Int} {v v' : Value} {M M' : List T2} (h : Dr w W g a len cap zs v M) (hw : Rd w g a len zs) (hg : g < w.heap.size) (hgr : W.grownBy W' v.ownBlock) (ho : Ow W' w.heap.size v' M') : Dr w W' g a len cap zs v' M' := by
  have t := h.turn.row h.own hgr
  refine ⟨t, ?_, ho⟩
  exact Cur.keep2 h.cur hw t (hgr.block g h.cur.hg (fun e => by have := (h.own.lt g e.symm).1; omega)) (Nat.lt_of_lt_of_le h.cur.hg hgr.size)
theorem grown_set (W : World) (b o : Nat) (u : Value) : W.grownBy (W.setCell ⟨b, o, none⟩ u) (some b) :=
  ⟨rfl, rfl, rfl, by simp, fun k _ hne => Below.heap_setCell W ⟨b, o, none⟩ u k (fun e => hne (by rw [show k = b from e]))⟩
theorem Dr.set {w W : World} {g b o : Nat} {a : Option Addr} {len cap : Nat} {zs : List Int} {v : Value} {M : List T2} (h : Dr w W g a len cap zs v M) (hw : Rd w g a len zs) (hb : w.heap.size ≤ b) (hbg : b ≠ g) (hbo : v.ownBlock ≠ some b) (u : Value) : Dr w (W.setCell ⟨b, o, none⟩ u) g a len cap zs v M :=
  ⟨h.turn.setNew hb u, Cur.keep2 h.cur hw (h.turn.setNew hb u) (Below.heap_setCell W ⟨b, o, none⟩ u g (fun e => hbg e.symm)) (by simpa using h.cur.hg), h.own.kept (grown_set W b o u) (.inr hbo)⟩

theorem Has.set {W : World} {b : Nat} {vs : List Value} (h : Has W [(b, vs)]) (i : Nat) (hi : i < vs.length) (v : Value) : Has (W.setCell ⟨b, i, none⟩ v) [(b, vs.set i v)] := by
  obtain ⟨⟨h2, h3, h4⟩, _⟩ := h
  refine ⟨⟨by simpa using h2, fun o => (World.frozen?_setCell ..).trans (h3 o), hasAt_of _ _ (fun j u hj => ?_)⟩, trivial⟩
  have hg := HasAt.get h4
  by_cases e : i = j
  · subst e
    have hu : u = v := by rw [List.getElem?_set_self hi] at hj; exact (Option.some.inj hj).symm
    subst hu
    have := hg i _ (List.getElem?_eq_getElem hi)
    rw [Nat.zero_add] at this ⊢
    exact World.cell?_setCell_same' _ _ _ (by rw [this]; rfl)
  · rw [List.getElem?_set_ne e] at hj
    have := hg j u hj
    rw [Nat.zero_add] at this ⊢
    refine (World.cell?_setCell_other _ _ _ _ (fun q => e ?_)).trans this
    injection q
set_option maxHeartbeats 400000 in
theorem from_any (g : Nat) (a : Option Addr) (len cap : Nat) (zs : List Int) (w : World) (hcur : Cur w g a len cap zs) :
    Calls Try.prog 23 #[.pointer (some ⟨g, 0, none⟩), .int .i64 (-5), .int .i64 11] w fun e w' => ∃ x : Int, e = .returned (.int .i64 x) ∧ Turn g w w' ∧ Cur w' g a len cap zs := by
  have HC : Hid (Cur w g a len cap zs) := hcur
  clear hcur
  go_enter Try.func23, Try.ntmps23
  go_wp2_with (go_at_call 25; refine (below_any _ _ _ _ _ _ _ HC.out (by decide) (by decide)).mono ?_; rintro e w1 ⟨x, rfl, hx0, hx1, ht, hcur'⟩)
  go_ret
  exact ⟨_, rfl, ht, hcur'⟩

set_option maxRecDepth 100000 in
set_option maxHeartbeats 4000000 in
theorem l5Draw_any (g : Nat) (a : Option Addr) (len cap : Nat) (zs : List Int) (w : World) (hcur : Cur w g a len cap zs) (hrd : Rd w g a len zs) :
    Calls Try.prog 22 #[.pointer (some ⟨g, 0, none⟩), .int .i64 10] w fun e w' => ∃ q cap' L, e = .returned (.slice (some ⟨q, 0, none⟩) L.length cap') ∧ Dr w w' g a len cap zs (.slice (some ⟨q, 0, none⟩) L.length cap') L ∧ L.length ≤ 41 := by
  obtain ⟨i0, hi, hz0, hz1, hz2⟩ := info_parts info38
  have hg := hcur.hg
  have hd0 : Dr w (w.alloc (.cells #[] 38)) g a len cap zs (.slice (some ⟨w.heap.size, 0, none⟩) 0 0) [] := ⟨Turn.of (below_alloc1 _ _), hcur.below (below_alloc1 _ _), World.ownsRow_made (base := w.heap.size) (e := 38) (size := 2) w #[] 0 (Nat.le_refl _) (by unfold maxLen; omega) rfl⟩
  have hmade : ∀ (W : World) (n : Nat), w.heap.size ≤ W.heap.size → n < 2 → Ow (W.alloc (.cells (madeCells #[.int .i64 0, .int .i64 0] ((40 + n) * 2)) 38)) w.heap.size (.slice (some ⟨W.heap.size, 0, none⟩) (40 + n) (40 + n)) (List.replicate (40 + n) zro) := by
    intro W n hW hn
    have := World.ownsRow_lit (base := w.heap.size) (e := 38) (size := 2) W (madeCells #[.int .i64 0, .int .i64 0] ((40 + n) * 2)) (40 + n) hW (by unfold maxLen; omega) (size_madeCells _ _)
    rw [made_flat] at this
    unfold Ow; rw [List.length_replicate]; exact this
  go_enter Try.func22, Try.ntmps22
  go_wp2_with (go_at_call 25; refine (below_any _ _ _ _ _ _ _ hd0.cur (by decide) (by decide)).mono ?_; rintro e w1 ⟨x, rfl, hx0, hx6, ht, hc⟩; have hd := hd0.call hg ht hc)
  go_loopw [5, 6] (fun lv nv wr => ∃ (k q cap' : Nat) (M : List T2), nv = .int .i64 k ∧ lv = .slice (some ⟨q, 0, none⟩) M.length cap' ∧ Dr w wr g a len cap zs (.slice (some ⟨q, 0, none⟩) M.length cap') M ∧ M.length + k ≤ 9) (fun _ nv _ => (intOf nv).toNat)
  case atStart => exact ⟨x.toNat, _, _, [], by congr 1; omega, rfl, hd, by simp; omega⟩
  case round =>
    clear hd0 hd ht hc
    obtain ⟨k, q, cap', M, rfl, rfl, hD, hml⟩ := hrel
    by_cases hlt : 0 < k
    · have hki : (0 : Int) < k := by omega
      have tok1 : True := trivial
      go_upto_region 6 with (first
        | (go_at_call 25; clear tok1; refine (below_any _ _ _ _ _ _ _ hD.cur (by decide) (by decide)).mono ?_; rintro e w2 ⟨sx, rfl, _, _, ht2, hc2⟩; replace hD := hD.call hg ht2 hc2; clear ht2 hc2)
        | (go_at_call 25; refine (below_any _ _ _ _ _ _ _ hD.cur (by decide) (by decide)).mono ?_; rintro e w2 ⟨sy, rfl, _, _, ht2, hc2⟩; replace hD := hD.call hg ht2 hc2; clear ht2 hc2))
      have hH := ((St.nil w2).push [.int .i64 sx, .int .i64 sy] 38).has
      have hbr : ∀ {b : Nat}, b = w2.heap.size → w.heap.size ≤ b ∧ b ≠ g ∧ q ≠ b := fun e => by
        have h1 := (hD.own.lt q rfl).2
        have h2 := hD.cur.hg
        have h3 := hD.turn.size
        omega
      have hbr := hbr rfl
      replace hD := hD.below (below_alloc1 w2 (.cells #[.int .i64 sx, .int .i64 sy] 38))
      generalize w2.alloc _ = W3 at hD hH ⊢
      generalize w2.heap.size = b at hH hbr ⊢
      obtain ⟨hb1, hb2, hb3⟩ := hbr
      go_upto_if 22 with (go_at_call 24; refine (once_any _ _ _ _ _ _ _ hD.cur (by decide) (by decide)).mono ?_; rintro e w3 ⟨xb, rfl, ht3, hc3⟩; replace hD := hD.call hg ht3 hc3; replace hH := hH.turn ht3 (fun p hp => by simp at hp; subst hp; exact hb2); clear ht3 hc3)
      cases xb
      · have hk1 := hH
        simp [Has, HasAt] at hk1
        go_wp2_with (at_builtin; refine wpList_app rfl _ _ rfl (base := w.heap.size) (M := M) (B := [⟨sx, sy⟩]) rfl (hD.below (below_alloc1 _ (.cells #[.int .i64 sx, .int .i64 sy] 38))).own _ _ rfl (fun i u hi => by rw [show flat [⟨sx, sy⟩] = [.int .i64 sx, .int .i64 sy] by simp [flat, T2.vs]] at hi; exact cell_two_at rfl i u hi) (by first | omega | (simp; omega)) (by have := hD.turn.size; first | omega | (simp; omega)) ?_; intro q2 cap2 w4 hO4 hg4 ha4; have hD4 := (hD.below (below_alloc1 _ (.cells #[.int .i64 sx, .int .i64 sy] 38))).row hrd hg hg4 hO4; clear hO4 hg4 ha4; have hM4l : (M ++ [(⟨sx, sy⟩ : T2)]).length = M.length + 1 := (by simp); generalize hM4 : M ++ [(⟨sx, sy⟩ : T2)] = M4 at hD4 hM4l ⊢; clear hM4)
        go_roundw
        case rel => exact ⟨k - 1, q2, cap2, M4, by congr 1; omega, by rw [hM4l], hD4, by omega⟩
        case measure => simp [intOf]; omega
      · have hk1 := hH
        simp [Has, HasAt] at hk1
        go_upto_region 8 with fail
        have hH2 := hH.set 1 (by simp) (.int .i64 sx)
        replace hD := hD.set (o := 1) hrd hb1 hb2 (fun e => hb3 (by injection e)) (.int .i64 sx)
        generalize World.setCell _ _ _ = W5 at hD hH2 ⊢
        clear hk1 hH
        have hk1 := hH2
        simp [Has, HasAt] at hk1
        go_wp2_with (at_builtin; refine wpList_app rfl _ _ rfl (base := w.heap.size) (M := M) (B := [⟨sx, sx⟩]) rfl (hD.below (below_alloc1 _ (.cells #[.int .i64 sx, .int .i64 sx] 38))).own _ _ rfl (fun i u hi => by rw [show flat [⟨sx, sx⟩] = [.int .i64 sx, .int .i64 sx] by simp [flat, T2.vs]] at hi; exact cell_two_at rfl i u hi) (by first | omega | (simp; omega)) (by have := hD.turn.size; first | omega | (simp; omega)) ?_; intro q2 cap2 w4 hO4 hg4 ha4; have hD4 := (hD.below (below_alloc1 _ (.cells #[.int .i64 sx, .int .i64 sx] 38))).row hrd hg hg4 hO4; clear hO4 hg4 ha4; have hM4l : (M ++ [(⟨sx, sx⟩ : T2)]).length = M.length + 1 := (by simp); generalize hM4 : M ++ [(⟨sx, sx⟩ : T2)] = M4 at hD4 hM4l ⊢; clear hM4)
        go_roundw
        case rel => exact ⟨k - 1, q2, cap2, M4, by congr 1; omega, by rw [hM4l], hD4, by omega⟩
        case measure => simp [intOf]; omega
    · obtain rfl : k = 0 := by omega
      have hk0 : ¬ (0 : Int) < ((0 : Nat) : Int) := by omega
      go_upto_if 31 with (go_at_call 24; refine (once_any _ _ _ _ _ _ _ hD.cur (by decide) (by decide)).mono ?_; rintro e w5 ⟨xb, rfl, ht5, hc5⟩; replace hD := hD.call hg ht5 hc5; clear ht5 hc5)
      cases xb
      · go_upto_if 38 with (go_at_call 24; refine (once_any _ _ _ _ _ _ _ hD.cur (by decide) (by decide)).mono ?_; rintro e w6 ⟨xc, rfl, ht6, hc6⟩; replace hD := hD.call hg ht6 hc6; clear ht6 hc6)
        cases xc
        · go_wp2_with fail
          go_ret
          exact ⟨q, cap', M, (by first | rfl | (rw [hM4l]; rfl)), hD, by omega⟩
        · go_upto_region 13 with (first
            | (go_at_call 25; refine (below_any _ _ _ _ _ _ _ hD.cur (by decide) (by decide)).mono ?_; rintro e w7 ⟨x7, rfl, h70, h71, ht7, hc7⟩; have hT7 := hD.turn.trans ht7; obtain ⟨n7, rfl⟩ : ∃ n7 : Nat, x7 = n7 := (⟨x7.toNat, by omega⟩); have hmk := run_make (P := Try.prog) w7 24 38 i0 _ Try.underlying24 hi hz0 .i64 .i64 (40 + (n7 : Int)) (40 + (n7 : Int)) (by omega) (by omega) (by rw [hz2]; omega) (by omega); have hn7 : n7 < 2 := (by omega); rw [hz1, show (40 + (n7 : Int)).toNat = 40 + n7 by omega] at hmk; clear h70 h71))
          have hrow := hmade w7 n7 (by have := hT7.size; omega) hn7
          have hD7 : Dr w _ g a len cap zs (.slice (some ⟨w7.heap.size, 0, none⟩) (40 + n7) (40 + n7)) (List.replicate (40 + n7) zro) := ⟨hT7.alloc _, hc7.alloc _, hrow⟩
          go_wp2_with fail
        
          go_ret
          exact ⟨w7.heap.size, 40 + n7, List.replicate (40 + n7) zro, by simp, by rw [List.length_replicate]; exact hD7, by rw [List.length_replicate]; omega⟩
      · go_upto_region 11 with (first
          | (go_at_call 49; refine (drawSpot_any _ _ _ _ _ _ hD.cur).mono ?_; rintro e w5 ⟨sx, sy, rfl, ht5, hc5⟩; replace hD := hD.call hg ht5 hc5; clear ht5 hc5)
          | (at_builtin; refine wpList_app rfl _ _ rfl (base := w.heap.size) (M := M) (B := [⟨sx, sy⟩]) rfl (hD.below (below_alloc1 _ (.cells #[.int .i64 sx, .int .i64 sy] 38))).own _ _ rfl (fun i u hi => by rw [show flat [⟨sx, sy⟩] = [.int .i64 sx, .int .i64 sy] by simp [flat, T2.vs]] at hi; exact cell_two_at rfl i u hi) (by first | omega | (simp; omega)) (by have := hD.turn.size; first | omega | (simp; omega)) ?_; intro q2 cap2 w4 hO4 hg4 ha4; have hD4 := (hD.below (below_alloc1 _ (.cells #[.int .i64 sx, .int .i64 sy] 38))).row hrd hg hg4 hO4; clear hO4 hg4 ha4; have hM4l : (M ++ [(⟨sx, sy⟩ : T2)]).length = M.length + 1 := (by simp); generalize hM4 : M ++ [(⟨sx, sy⟩ : T2)] = M4 at hD4 hM4l ⊢; clear hM4))
        go_upto_if 38 with (go_at_call 24; refine (once_any _ _ _ _ _ _ _ hD4.cur (by decide) (by decide)).mono ?_; rintro e w6 ⟨xc, rfl, ht6, hc6⟩; replace hD4 := hD4.call hg ht6 hc6; clear ht6 hc6)
        cases xc
        · go_wp2_with fail
          go_ret
          exact ⟨q2, cap2, M4, (by first | rfl | (rw [hM4l]; rfl)), hD4, by omega⟩
        · go_upto_region 13 with (first
            | (go_at_call 25; refine (below_any _ _ _ _ _ _ _ hD4.cur (by decide) (by decide)).mono ?_; rintro e w7 ⟨x7, rfl, h70, h71, ht7, hc7⟩; have hT7 := hD4.turn.trans ht7; obtain ⟨n7, rfl⟩ : ∃ n7 : Nat, x7 = n7 := (⟨x7.toNat, by omega⟩); have hmk := run_make (P := Try.prog) w7 24 38 i0 _ Try.underlying24 hi hz0 .i64 .i64 (40 + (n7 : Int)) (40 + (n7 : Int)) (by omega) (by omega) (by rw [hz2]; omega) (by omega); have hn7 : n7 < 2 := (by omega); rw [hz1, show (40 + (n7 : Int)).toNat = 40 + n7 by omega] at hmk; clear h70 h71))
          have hrow := hmade w7 n7 (by have := hT7.size; omega) hn7
          have hD7 : Dr w _ g a len cap zs (.slice (some ⟨w7.heap.size, 0, none⟩) (40 + n7) (40 + n7)) (List.replicate (40 + n7) zro) := ⟨hT7.alloc _, hc7.alloc _, hrow⟩
          go_wp2_with fail
        
          go_ret
          exact ⟨w7.heap.size, 40 + n7, List.replicate (40 + n7) zro, by simp, by rw [List.length_replicate]; exact hD7, by rw [List.length_replicate]; omega⟩
end Go.Proofs.Ytkpkigllabhejaa
