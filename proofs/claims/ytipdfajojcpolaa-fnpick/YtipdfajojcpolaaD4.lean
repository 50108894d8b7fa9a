/-
  A list of Spots drawn: mostly a shape.
-/
import Derived.Test.YtipdfajojcpolaaD3
import Derived.Deep.Cut
import Derived.Deep.CutBlock
namespace Go.Proofs.Ytipdfajojcpolaa
open Go.RowKit Go.Joins
attribute [local go_sem ↓] Go.wp_at_zero Go.wp_at_succ

theorem lit4 {W : World} {base : Nat} (hb : base ≤ W.heap.size) (a b c d : T2) : Ow (W.alloc (.cells #[.int .i64 a.x, .int .i64 a.y, .int .i64 b.x, .int .i64 b.y, .int .i64 c.x, .int .i64 c.y, .int .i64 d.x, .int .i64 d.y] 28)) base (.slice (some ⟨W.heap.size, 0, none⟩) 4 4) [a, b, c, d] := by
  have := World.ownsRow_lit (base := base) (e := 28) (size := 2) W #[.int .i64 a.x, .int .i64 a.y, .int .i64 b.x, .int .i64 b.y, .int .i64 c.x, .int .i64 c.y, .int .i64 d.x, .int .i64 d.y] 4 hb (by unfold maxLen; omega) rfl
  exact this
set_option maxRecDepth 100000 in
set_option maxHeartbeats 4000000 in
theorem l4Draw_any (g : Nat) (a : Option Addr) (len cap : Nat) (zs : List Int) (w : World) (hcur : Cur w g a len cap zs) (hrd : Rd w g a len zs) :
    Calls Try.prog 47 #[.pointer (some ⟨g, 0, none⟩)] w fun e w' => ∃ q cap' L, e = .returned (.slice (some ⟨q, 0, none⟩) L.length cap') ∧ Dr w w' g a len cap zs (.slice (some ⟨q, 0, none⟩) L.length cap') L ∧ L.length ≤ 6 := by
  have hg := hcur.hg
  have hd0 : Dr w (w.alloc (.cells #[] 28)) g a len cap zs (.slice (some ⟨w.heap.size, 0, none⟩) 0 0) [] := ⟨Turn.of (below_alloc1 _ _), hcur.below (below_alloc1 _ _), World.ownsRow_made (base := w.heap.size) (e := 28) (size := 2) w #[] 0 (Nat.le_refl _) (by unfold maxLen; omega) rfl⟩
  go_enter Try.func47, Try.ntmps47
  go_wp2_with (go_at_call 54; refine (below_any _ _ _ _ _ _ _ hd0.cur (by decide) (by decide)).mono ?_; rintro e w1 ⟨x, rfl, hx0, hx6, ht, hc⟩; have hd := hd0.call hg ht hc)
  go_loopw [3, 4] (fun lv nv wr => ∃ (k q cap' : Nat) (M : List T2), nv = .int .i64 k ∧ lv = .slice (some ⟨q, 0, none⟩) M.length cap' ∧ Dr w wr g a len cap zs (.slice (some ⟨q, 0, none⟩) M.length cap') M ∧ Hid (3 ≤ M.length + k ∧ M.length + k ≤ 6)) (fun _ nv _ => (intOf nv).toNat)
  case atStart => exact ⟨(3 + x).toNat, _, _, [], by congr 1; omega, rfl, hd, by unfold Hid; simp; omega⟩
  case round =>
    clear hd0 hd ht hc
    obtain ⟨k, q, cap', M, rfl, rfl, hD, hml⟩ := hrel
    have hm6 : M.length ≤ 6 := by have := hml.out; omega
    have hk6 : k ≤ 6 := by have := hml.out; omega
    by_cases hlt : 0 < k
    · have hki : (0 : Int) < k := by omega
      have tok1 : True := trivial
      go_upto_region 6 with (first
        | (go_at_call 54; clear tok1; refine (below_any _ _ _ _ _ _ _ hD.cur (by decide) (by decide)).mono ?_; rintro e w2 ⟨sx, rfl, _, _, ht2, hc2⟩; replace hD := hD.call hg ht2 hc2; clear ht2 hc2)
        | (go_at_call 54; refine (below_any _ _ _ _ _ _ _ hD.cur (by decide) (by decide)).mono ?_; rintro e w2 ⟨sy, rfl, _, _, ht2, hc2⟩; replace hD := hD.call hg ht2 hc2; clear ht2 hc2))
      have hH := ((St.nil w2).push [.int .i64 sx, .int .i64 sy] 28).has
      replace hD := hD.below (below_alloc1 w2 (.cells #[.int .i64 sx, .int .i64 sy] 28))
      generalize w2.alloc _ = W3 at hD hH ⊢
      generalize w2.heap.size = b at hH ⊢
      have hk1 := hH
      simp [Has, HasAt] at hk1
      go_wp2_with (at_builtin; refine wpList_app rfl _ _ rfl (base := w.heap.size) (M := M) (B := [⟨sx, sy⟩]) rfl (hD.below (below_alloc1 _ (.cells #[.int .i64 sx, .int .i64 sy] 28))).own _ _ rfl (fun i u hi => by rw [show flat [⟨sx, sy⟩] = [.int .i64 sx, .int .i64 sy] by simp [flat, T2.vs]] at hi; exact cell_two_at rfl i u hi) (by first | omega | (simp; omega)) (by have := hD.turn.size; first | omega | (simp; omega)) ?_; intro q2 cap2 w4 hO4 hg4 ha4; have hD4 := (hD.below (below_alloc1 _ (.cells #[.int .i64 sx, .int .i64 sy] 28))).row hrd hg hg4 hO4; clear hO4 hg4 ha4; have hM4l : (M ++ [(⟨sx, sy⟩ : T2)]).length = M.length + 1 := (by simp); generalize hM4 : M ++ [(⟨sx, sy⟩ : T2)] = M4 at hD4 hM4l ⊢; clear hM4)
      go_roundw
      case rel => exact ⟨k - 1, q2, cap2, M4, by congr 1; omega, by rw [hM4l], hD4, by have := hml.out; unfold Hid; omega⟩
      case measure => simp [intOf]; omega
    · obtain rfl : k = 0 := by omega
      have hk0 : ¬ (0 : Int) < ((0 : Nat) : Int) := by omega
      go_upto_region 7 with fail
      go_cut [34] from 27 to 33 (fun s34 wx => ∃ b : Bool, s34 = .bool b ∧ Dr w wx g a len cap zs (.slice (some ⟨q, 0, none⟩) M.length cap') M)
      case first =>
        cases hv : shB M
        · go_wp2_with (first
            | (go_at_call 19; refine (sShapeOk_v hv _ _ _ (Ow.sl hD.own) (by omega)).mono ?_; rintro e w5 ⟨rfl, hb5⟩; replace hD := hD.below hb5; clear hb5)
            | (go_at_call 53; refine (once_any _ _ _ _ _ _ _ hD.cur (by decide) (by decide)).mono ?_; rintro e w5 ⟨xb, rfl, ht5, hc5⟩; replace hD := hD.call hg ht5 hc5; clear ht5 hc5))
          go_meet
          exact ⟨_, rfl, hD⟩
        · go_wp2_with (go_at_call 19; refine (sShapeOk_v hv _ _ _ (Ow.sl hD.own) (by omega)).mono ?_; rintro e w5 ⟨rfl, hb5⟩; replace hD := hD.below hb5; clear hb5)
          go_meet
          exact ⟨_, rfl, hD⟩
      case rest =>
      clear hD
      obtain ⟨b, rfl, hD⟩ := hcut
      go_upto_if 34 with fail
      go_cut [3] from 6 to 78 (fun s3 wx => ∃ (q cap' : Nat) (L : List T2), s3 = .slice (some ⟨q, 0, none⟩) L.length cap' ∧ Dr w wx g a len cap zs (.slice (some ⟨q, 0, none⟩) L.length cap') L ∧ Hid (3 ≤ L.length ∧ L.length ≤ 6))
      case first =>
        cases b
        · go_wp2_with fail
          go_meet
          exact ⟨q, cap', M, rfl, hD, by unfold Hid; have := hml.out; omega⟩
        · go_upto_region 8 with fail
          go_upto_region 9 with (go_at_call 54; refine (below_any _ _ _ _ _ _ _ hD.cur (by decide) (by decide)).mono ?_; rintro e w6 ⟨x1, rfl, x1q0, x1q1, ht2, hc2⟩; replace hD := hD.call hg ht2 hc2; clear ht2 hc2)
          go_upto_region 10 with (go_at_call 54; refine (below_any _ _ _ _ _ _ _ hD.cur (by decide) (by decide)).mono ?_; rintro e w6 ⟨y1, rfl, y1q0, y1q1, ht2, hc2⟩; replace hD := hD.call hg ht2 hc2; clear ht2 hc2)
          go_upto_region 11 with (go_at_call 54; refine (below_any _ _ _ _ _ _ _ hD.cur (by decide) (by decide)).mono ?_; rintro e w6 ⟨v1, rfl, v1q0, v1q1, ht2, hc2⟩; replace hD := hD.call hg ht2 hc2; clear ht2 hc2)
          go_upto_region 12 with (go_at_call 54; refine (below_any _ _ _ _ _ _ _ hD.cur (by decide) (by decide)).mono ?_; rintro e w6 ⟨u1, rfl, u1q0, u1q1, ht2, hc2⟩; replace hD := hD.call hg ht2 hc2; clear ht2 hc2)
          go_upto_region 13 with (go_at_call 54; refine (below_any _ _ _ _ _ _ _ hD.cur (by decide) (by decide)).mono ?_; rintro e w6 ⟨c1, rfl, c1q0, c1q1, ht2, hc2⟩; replace hD := hD.call hg ht2 hc2; clear ht2 hc2)
          have hO13 := lit4 (W := w6) (base := w.heap.size) hD.turn.size ⟨x1, y1⟩ ⟨x1 + (2 + v1), y1 + c1⟩ ⟨x1 + (2 + v1), y1 + (2 + u1)⟩ ⟨x1, y1 + (2 + u1)⟩
          simp only at hO13
          have hD13 : Dr w (w6.alloc (.cells #[.int .i64 x1, .int .i64 y1, .int .i64 (x1 + (2 + v1)), .int .i64 (y1 + c1), .int .i64 (x1 + (2 + v1)), .int .i64 (y1 + (2 + u1)), .int .i64 x1, .int .i64 (y1 + (2 + u1))] 28)) g a len cap zs (.slice (some ⟨w6.heap.size, 0, none⟩) 4 4) [⟨x1, y1⟩, ⟨x1 + (2 + v1), y1 + c1⟩, ⟨x1 + (2 + v1), y1 + (2 + u1)⟩, ⟨x1, y1 + (2 + u1)⟩] := ⟨hD.turn.alloc _, hD.cur.alloc _, hO13⟩
          clear hD hO13
          generalize hM4 : [(⟨x1, y1⟩ : T2), ⟨x1 + (2 + v1), y1 + c1⟩, ⟨x1 + (2 + v1), y1 + (2 + u1)⟩, ⟨x1, y1 + (2 + u1)⟩] = M4 at hD13
          have hM4l : Hid (M4.length = 4) := by rw [← hM4]; rfl
          clear hM4
          generalize w6.alloc _ = W7 at hD13 ⊢
          generalize w6.heap.size = q7 at hD13 ⊢
          go_upto_if 70 with (go_at_call 53; refine (once_any _ _ _ _ _ _ _ hD13.cur (by decide) (by decide)).mono ?_; rintro e w7 ⟨xb, rfl, ht5, hc5⟩; replace hD13 := hD13.call hg ht5 hc5; clear ht5 hc5)
          cases xb
          · go_wp2_with fail
            go_meet
            exact ⟨q7, 4, M4, by rw [hM4l.out], by rw [hM4l.out]; exact hD13, by unfold Hid; have := hM4l.out; omega⟩
          · have hDx : Dr w w7 g a len cap zs (.slice (some ⟨q7, 0, none⟩) M4.length 4) M4 := by rw [hM4l.out]; exact hD13
            have hml4 : M4.length ≤ 4 := by have := hM4l.out; omega
            go_wp2_with (at_builtin; refine wpList_app rfl _ _ rfl (base := w.heap.size) (M := M4) (B := [⟨x1 + 1, y1 + 1⟩]) (by rw [hM4l.out]; rfl) (hDx.below (below_alloc1 _ (.cells #[.int .i64 (x1 + 1), .int .i64 (y1 + 1)] 28))).own _ _ rfl (fun i u hi => by rw [show flat [⟨x1 + 1, y1 + 1⟩] = [.int .i64 (x1 + 1), .int .i64 (y1 + 1)] by simp [flat, T2.vs]] at hi; exact cell_two_at rfl i u hi) (by first | omega | (simp; omega)) (by have := hDx.turn.size; first | omega | (simp; omega)) ?_; intro q2 cap2 w4 hO4 hg4 ha4; have hD4 := (hDx.below (below_alloc1 _ (.cells #[.int .i64 (x1 + 1), .int .i64 (y1 + 1)] 28))).row hrd hg hg4 hO4; clear hO4 hg4 ha4; have hM5l : (M4 ++ [(⟨x1 + 1, y1 + 1⟩ : T2)]).length = M4.length + 1 := (by simp); generalize hM5 : M4 ++ [(⟨x1 + 1, y1 + 1⟩ : T2)] = M5 at hD4 hM5l ⊢; clear hM5)
            go_meet
            exact ⟨q2, cap2, M5, by rw [hM5l], hD4, by unfold Hid; have := hM4l.out; omega⟩
      case rest =>
      clear hD hml hm6
      obtain ⟨q, cap', L, rfl, hD, hml⟩ := hcut
      have hl3 : 0 < L.length := by have := hml.out; omega
      go_upto_if 80 with (go_at_call 53; refine (once_any _ _ _ _ _ _ _ hD.cur (by decide) (by decide)).mono ?_; rintro e w7 ⟨xb, rfl, ht5, hc5⟩; replace hD := hD.call hg ht5 hc5; clear ht5 hc5)
      cases xb
      · go_wp2_with fail
        go_ret
        exact ⟨q, cap', L, rfl, hD, by have := hml.out; omega⟩
      · have hli : (0 : Int) < (L.length : Int) := by omega
        obtain ⟨c, hc⟩ : ∃ c, L[0]? = some c := ⟨_, List.getElem?_eq_getElem hl3⟩
        have hcl : ∀ W, Ow W w.heap.size (.slice (some ⟨q, 0, none⟩) L.length cap') L → (W.cell? ⟨q, 0, none⟩ = some (.int .i64 c.x) ∧ W.cell? ⟨q, 1, none⟩ = some (.int .i64 c.y)) := fun W h => by have := (Ow.cs h).2 0 c hc; simpa using this
        go_wp2_with (go_at_call 34; refine (drawSpot_any _ _ _ _ _ _ hD.cur).mono ?_; rintro e w8 ⟨sx, sy, rfl, ht8, hc8⟩; replace hD := hD.call hg ht8 hc8; clear ht8 hc8; obtain ⟨d0, d1⟩ := hcl _ hD.own; have hf := hD.own.frozenAt)
        go_ret
        obtain ⟨s1, t1⟩ := hD.own.stored 0 (.int .i64 sx)
        obtain ⟨s2, t2⟩ := s1.stored 1 (.int .i64 sy)
        have e5 := flat_set (L := L) (k := 0) ⟨sx, sy⟩ hl3
        simp only [Nat.zero_mul, Nat.zero_add] at e5
        rw [e5] at s2
        have hO8 : Ow ((w8.setCell ⟨q, 0, none⟩ (.int .i64 sx)).setCell ⟨q, 1, none⟩ (.int .i64 sy)) w.heap.size (.slice (some ⟨q, 0, none⟩) (L.set 0 ⟨sx, sy⟩).length cap') (L.set 0 ⟨sx, sy⟩) := by unfold Ow; rw [List.length_set]; exact s2
        have hD8 := hD.row hrd hg (gtrans t1 t2) hO8
        exact ⟨q, cap', L.set 0 ⟨sx, sy⟩, by rw [List.length_set]; rfl, hD8, by rw [List.length_set]; have := hml.out; omega⟩
end Go.Proofs.Ytipdfajojcpolaa
