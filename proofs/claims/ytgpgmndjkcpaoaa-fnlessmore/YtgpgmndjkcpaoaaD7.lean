/-
  A drawn list of Rects.
-/
import Derived.Test.YtgpgmndjkcpaoaaA3
import Derived.Test.YtgpgmndjkcpaoaaA1
import Derived.Test.YtgpgmndjkcpaoaaW10
import Derived.Deep.AppendLies
import Derived.Deep.Cut
namespace Go.Proofs.Ytgpgmndjkcpaoaa
open Go.RowKit Go.Joins
attribute [local go_sem] Oper.semAt_some

theorem Turn.gr {g : Nat} {w w' : World} (h : Turn g w w') : w.grownBy w' (some g) := ⟨h.os, h.tape, h.output, h.size, fun k hk hne => h.block k hk (fun e => hne (by rw [e]))⟩
theorem own_turn {g base e s n : Nat} {W W' : World} {v : Value} {xs : List Value} (h : W.ownsRow base e s v n xs) (t : Turn g W W') (hg : g < base) : W'.ownsRow base e s v n xs :=
  h.kept t.gr (.inr fun e => by have := (World.ownsRow.lt h g e).1; omega)
theorem Has.turn {g : Nat} {W W' : World} {l : List (Nat × List Value)} (h : Has W l) (t : Turn g W W') (hl : ∀ p ∈ l, p.1 ≠ g) : Has W' l := h.grown t.gr hl
/-- What a drawing call leaves: the cursor, a list of one's own. -/
structure Dr4 (w W : World) (g : Nat) (a : Option Addr) (len cap : Nat) (zs : List Int) (v : Value) (n : Nat) (M : List T4) : Prop where
  turn : Turn g w W
  cur : Cur W g a len cap zs
  own : W.ownsRow w.heap.size 35 4 v n (flat4 M)
theorem Dr4.call {w W W' : World} {g : Nat} {a : Option Addr} {len cap : Nat} {zs : List Int} {v : Value} {n : Nat} {M : List T4} (h : Dr4 w W g a len cap zs v n M) (hg : g < w.heap.size) (t : Turn g W W') (c : Cur W' g a len cap zs) : Dr4 w W' g a len cap zs v n M :=
  ⟨h.turn.trans t, c, own_turn h.own t hg⟩
theorem Dr4.below {w W W' : World} {g : Nat} {a : Option Addr} {len cap : Nat} {zs : List Int} {v : Value} {n : Nat} {M : List T4} (h : Dr4 w W g a len cap zs v n M) (hb : Below W.heap.size W W') : Dr4 w W' g a len cap zs v n M :=
  ⟨h.turn.trans (Turn.of hb), h.cur.below hb, own_of_below h.own hb⟩
theorem Dr4.row {w W W' : World} {g : Nat} {a : Option Addr} {len cap : Nat} {zs : List Int} {v v' : Value} {n n' : Nat} {M M' : List T4} (h : Dr4 w W g a len cap zs v n M) (hw : Rd w g a len zs) (hg : g < w.heap.size) (hgr : W.grownBy W' v.ownBlock) (ho : W'.ownsRow w.heap.size 35 4 v' n' (flat4 M')) : Dr4 w W' g a len cap zs v' n' M' := by
  have t : Turn g w W' := ⟨hgr.os.trans h.turn.os, hgr.tape.trans h.turn.tape, hgr.output.trans h.turn.output, Nat.le_trans h.turn.size hgr.size, fun k hk hne => (hgr.block k (Nat.lt_of_lt_of_le hk h.turn.size) (fun e => by have := (World.ownsRow.lt h.own k e.symm).1; omega)).trans (h.turn.block k hk hne)⟩
  refine ⟨t, ?_, ho⟩
  exact Cur.keep2 h.cur hw t (hgr.block g h.cur.hg (fun e => by have := (World.ownsRow.lt h.own g e.symm).1; omega)) (Nat.lt_of_lt_of_le h.cur.hg hgr.size)
theorem cell4_at {w : World} {g : Nat} {a b c d : Value} {t : TypeId} (hg : g = w.heap.size) : ∀ j u, [a, b, c, d][j]? = some u → (w.alloc (.cells #[a, b, c, d] t)).cell? ((⟨g, 0, none⟩ : Addr).add j) = some u := by
  subst hg
  intro j u hj
  have ea : (⟨w.heap.size, 0, none⟩ : Addr).add j = ⟨w.heap.size, j, none⟩ := by unfold Addr.add; split <;> simp_all
  rw [ea, World.cell?_alloc_at _ _ _ _ rfl]
  simpa using hj
def lenV : Value → Nat
  | .slice _ n _ => n
  | _ => 0

set_option maxRecDepth 100000 in
set_option maxHeartbeats 4000000 in
theorem l7Draw_any (g : Nat) (a : Option Addr) (len cap : Nat) (zs : List Int) (w : World) (hcur : Cur w g a len cap zs) (hrd : Rd w g a len zs) :
    Calls Try.prog 42 #[.pointer (some ⟨g, 0, none⟩)] w fun e w' => ∃ q cap' n L, e = .returned (.slice (some ⟨q, 0, none⟩) n cap') ∧ Dr4 w w' g a len cap zs (.slice (some ⟨q, 0, none⟩) n cap') n L ∧ n ≤ 13 := by
  obtain ⟨i0, hi, hz0, hz1, hz2⟩ := info_parts info35
  have hg := hcur.hg
  have hd0 : Dr4 w (w.alloc (.cells #[] 35)) g a len cap zs (.slice (some ⟨w.heap.size, 0, none⟩) 0 0) 0 [] := ⟨Turn.of (below_alloc1 _ _), hcur.below (below_alloc1 _ _), World.ownsRow_made (base := w.heap.size) (e := 35) (size := 4) w #[] 0 (Nat.le_refl _) (by unfold maxLen; omega) rfl⟩
  have HRD : Hid (Rd w g a len zs) := hrd
  clear hrd hcur
  go_enter Try.func42, Try.ntmps42
  go_wp2_with (go_at_call 61; refine (below_any _ _ _ _ _ _ _ hd0.cur (by decide) (by decide)).mono ?_; rintro e w1 ⟨x, rfl, hx0, hx6, ht, hc⟩; have hd := hd0.call hg ht hc)
  go_loopw [3, 4] (fun lv nv wr => ∃ (k n q cap' : Nat) (M : List T4), nv = .int .i64 k ∧ lv = .slice (some ⟨q, 0, none⟩) n cap' ∧ Dr4 w wr g a len cap zs (.slice (some ⟨q, 0, none⟩) n cap') n M ∧ n + k ≤ 6) (fun _ nv _ => (intOf nv).toNat)
  case atStart => exact ⟨x.toNat, 0, _, _, [], by congr 1; omega, rfl, hd, by omega⟩
  case round =>
    clear hd0 hd ht hc
    obtain ⟨k, n, q, cap', M, rfl, rfl, hD, hml⟩ := hrel
    by_cases hlt : 0 < k
    · have hki : (0 : Int) < k := by omega
      go_upto_region 6 with (go_at_call 52; refine (draw_any _ _ _ _ _ _ hD.cur).mono ?_; rintro e w2 ⟨rx, ry, rc, rd, rfl, ht2, hc2⟩; replace hD := hD.call hg ht2 hc2; clear ht2 hc2)
      have hH := ((St.nil w2).push [.int .i64 rx, .int .i64 ry, .int .i64 rc, .int .i64 rd] 35).has
      have hbg : w2.heap.size ≠ g := by have := hD.turn.size; omega
      have hsz := hD.turn.size
      replace hD := hD.below (below_alloc1 w2 (.cells #[.int .i64 rx, .int .i64 ry, .int .i64 rc, .int .i64 rd] 35))
      generalize hW : w2.alloc (.cells (#[.int .i64 rx, .int .i64 ry, .int .i64 rc, .int .i64 rd]) 35) = W3 at hD ⊢
      have hH3 : Has W3 [(w2.heap.size, [.int .i64 rx, .int .i64 ry, .int .i64 rc, .int .i64 rd])] := by rw [← hW]; exact hH
      clear hH hW
      generalize w2.heap.size = b at hH3 hbg ⊢
      have hk1 := hH3
      simp [Has, HasAt] at hk1
      cases hv : okB rx ry rc rd
      · go_upto_if 20 with (first
          | (go_at_call 29; refine (sOk_v hv _).mono ?_; rintro e w3 ⟨rfl, hb3⟩; replace hD := hD.below hb3; replace hH3 := hH3.step hb3)
          | (go_at_call 62; refine (once_any _ _ _ _ _ _ _ hD.cur (by decide) (by decide)).mono ?_; rintro e w4 ⟨xb, rfl, ht3, hc3⟩; replace hD := hD.call hg ht3 hc3; replace hH3 := hH3.turn ht3 (fun p hp => by simp at hp; subst hp; exact hbg); clear ht3 hc3))
        clear hk1
        have hk1 := hH3
        simp [Has, HasAt] at hk1
        cases xb
        · go_wp2
          go_roundw
          case rel => exact ⟨k - 1, n, q, cap', M, by congr 1; omega, rfl, hD, by omega⟩
          case measure => simp [intOf]; omega
        · have hDA := hD.below (below_alloc1 w4 (.cells #[.int .i64 rx, .int .i64 ry, .int .i64 rc, .int .i64 rd] 35))
          have hsz4 := hD.turn.size
          go_wp2_with (at_builtin; refine wpList_append_lies _ rfl _ _ 24 rfl w.heap.size 35 i0 (.agg #[.int .i64 0, .int .i64 0, .int .i64 0, .int .i64 0]) 4 32 Try.underlying24 hi hz0 hz1 hz2 rfl (by decide) (.slice (some ⟨q, 0, none⟩) n cap') n (flat4 M) rfl hDA.own ⟨w4.heap.size, 0, none⟩ 1 1 [.int .i64 rx, .int .i64 ry, .int .i64 rc, .int .i64 rd] rfl rfl (cell4_at rfl) (fun x hx => by simp at hx; rcases hx with rfl | rfl | rfl | rfl <;> rfl) (by decide) (by unfold maxLen; omega) (by omega) (by simp; omega) _ rfl ?_; intro g' cap2 w5 hown1 hgrow hat hlt4)
          have hD4 := hDA.row (v' := .slice (some ⟨g', 0, none⟩) (n + 1) cap2) (n' := n + 1) (M' := M ++ [⟨rx, ry, rc, rd⟩]) HRD.out hg hgrow (by rw [flat4_append]; simpa [flat4, T4.vs] using hown1)
          go_roundw
          case rel => exact ⟨k - 1, n + 1, g', cap2, _, by congr 1; omega, rfl, hD4, by omega⟩
          case measure => simp [intOf]; omega
      · go_upto_if 20 with (go_at_call 29; refine (sOk_v hv _).mono ?_; rintro e w4 ⟨rfl, hb3⟩; replace hD := hD.below hb3; replace hH3 := hH3.step hb3)
        clear hk1
        have hk1 := hH3
        simp [Has, HasAt] at hk1
        have hDA := hD.below (below_alloc1 w4 (.cells #[.int .i64 rx, .int .i64 ry, .int .i64 rc, .int .i64 rd] 35))
        have hsz4 := hD.turn.size
        go_wp2_with (at_builtin; refine wpList_append_lies _ rfl _ _ 24 rfl w.heap.size 35 i0 (.agg #[.int .i64 0, .int .i64 0, .int .i64 0, .int .i64 0]) 4 32 Try.underlying24 hi hz0 hz1 hz2 rfl (by decide) (.slice (some ⟨q, 0, none⟩) n cap') n (flat4 M) rfl hDA.own ⟨w4.heap.size, 0, none⟩ 1 1 [.int .i64 rx, .int .i64 ry, .int .i64 rc, .int .i64 rd] rfl rfl (cell4_at rfl) (fun x hx => by simp at hx; rcases hx with rfl | rfl | rfl | rfl <;> rfl) (by decide) (by unfold maxLen; omega) (by omega) (by simp; omega) _ rfl ?_; intro g' cap2 w5 hown1 hgrow hat hlt4)
        have hD4 := hDA.row (v' := .slice (some ⟨g', 0, none⟩) (n + 1) cap2) (n' := n + 1) (M' := M ++ [⟨rx, ry, rc, rd⟩]) HRD.out hg hgrow (by rw [flat4_append]; simpa [flat4, T4.vs] using hown1)
        go_roundw
        case rel => exact ⟨k - 1, n + 1, g', cap2, _, by congr 1; omega, rfl, hD4, by omega⟩
        case measure => simp [intOf]; omega
    · obtain rfl : k = 0 := by omega
      go_upto_if 26 with (go_at_call 62; refine (once_any _ _ _ _ _ _ _ hD.cur (by decide) (by decide)).mono ?_; rintro e w4 ⟨xb, rfl, ht3, hc3⟩; replace hD := hD.call hg ht3 hc3; clear ht3 hc3)
      cases xb
      · go_wp2
        go_ret
        exact ⟨q, cap', n, M, rfl, hD, by omega⟩
      · go_wp2
        go_loopw [3] (fun lv wr => ∃ (n q cap' : Nat) (M : List T4), lv = .slice (some ⟨q, 0, none⟩) n cap' ∧ Dr4 w wr g a len cap zs (.slice (some ⟨q, 0, none⟩) n cap') n M ∧ n ≤ 13) (fun lv _ => 14 - lenV lv)
        case atStart => exact ⟨n, q, cap', M, rfl, hD, by omega⟩
        case round =>
          clear hD hml
          obtain ⟨n, q, cap', M, rfl, hD, hn13⟩ := hrel
          go_upto_if 32 with (go_at_call 61; refine (below_any _ _ _ _ _ _ _ hD.cur (by decide) (by decide)).mono ?_; rintro e w5 ⟨y, rfl, hy0, hy2, ht, hc⟩; replace hD := hD.call hg ht hc; clear ht hc)
          by_cases hny : (n : Int) < 12 + y
          · have hDA := hD.below (below_alloc1 w5 (.cells #[.int .i64 0, .int .i64 0, .int .i64 2, .int .i64 3] 35))
            have hsz4 := hD.turn.size
            go_wp2_with (at_builtin; refine wpList_append_lies _ rfl _ _ 24 rfl w.heap.size 35 i0 (.agg #[.int .i64 0, .int .i64 0, .int .i64 0, .int .i64 0]) 4 32 Try.underlying24 hi hz0 hz1 hz2 rfl (by decide) (.slice (some ⟨q, 0, none⟩) n cap') n (flat4 M) rfl hDA.own ⟨w5.heap.size, 0, none⟩ 1 1 [.int .i64 0, .int .i64 0, .int .i64 2, .int .i64 3] rfl rfl (cell4_at rfl) (fun x hx => by simp at hx; rcases hx with rfl | rfl | rfl | rfl <;> rfl) (by decide) (by unfold maxLen; omega) (by omega) (by simp; omega) _ rfl ?_; intro g' cap2 w6 hown1 hgrow hat hlt4)
            have hD4 := hDA.row (v' := .slice (some ⟨g', 0, none⟩) (n + 1) cap2) (n' := n + 1) (M' := M ++ [⟨0, 0, 2, 3⟩]) HRD.out hg hgrow (by rw [flat4_append]; simpa [flat4, T4.vs] using hown1)
            refine ⟨⟨n + 1, g', cap2, _, rfl, hD4, by omega⟩, by simp [lenV]; omega⟩
          · go_wp2
            go_ret
            first | exact ⟨q, cap', n, M, rfl, hD, by omega⟩ | exact ⟨q, cap', n, rfl, ⟨M, hD⟩, by omega⟩
set_option maxRecDepth 100000 in
set_option maxHeartbeats 2000000 in
theorem drawTogether_any (a : Option Addr) (len cap : Nat) (zs : List Int) (w : World) (hl : len ≤ 4096) (hr : Rd w w.heap.size a len zs) :
    Calls Try.prog 10 #[.slice a len cap] w fun e w' => ∃ q cap' L, e = .returned (.slice (some ⟨q, 0, none⟩) L.length cap') ∧ Ow4 w' w.heap.size (.slice (some ⟨q, 0, none⟩) L.length cap') L ∧ Below w.heap.size w w' ∧ L.length ≤ 13 := by
  go_enter Try.func10, Try.ntmps10
  go_upto_region 2 with (go_at_call 41; refine (new_any a len cap zs _ hl hr).mono ?_; rintro e w1 ⟨h, rfl, rfl⟩)
  have hcur := Cur.fresh (cap := cap) (h := h) hl hr
  have hb1 := below_alloc1 w (.cells #[.slice a len cap, .int .i64 0, .int .i64 h] 74)
  have hg : w.heap.size < (w.alloc (.cells #[.slice a len cap, .int .i64 0, .int .i64 h] 74)).heap.size := by simp
  generalize w.alloc _ = W1 at hcur hb1 hg ⊢
  have hrd := hcur.rd
  go_wp2_with (go_at_call 42; refine (l7Draw_any _ _ _ _ _ _ hcur hrd).mono ?_; rintro e w2 ⟨q, cap', n, L, rfl, hD, hLl⟩)
  have hn : L.length = n := by have := hD.own.1; rw [flat4_len] at this; omega
  have HN : Hid (L.length = n) := hn
  clear hn
  go_ret
  refine ⟨q, cap', L, by rw [HN.out]; rfl, ?_, hb1.trans (hD.turn.below (Nat.le_refl _) (Nat.le_of_lt hg)), by rw [HN.out]; exact hLl⟩
  unfold Ow4; rw [HN.out]; exact own_mono hD.own (Nat.le_of_lt hg)
end Go.Proofs.Ytgpgmndjkcpaoaa
