/-
  What the law of shapes draws.
-/
import Derived.Test.YtipdfajojcpolaaD4
namespace Go.Proofs.Ytipdfajojcpolaa
open Go.RowKit Go.Joins
attribute [local go_sem ↓] Go.wp_at_zero Go.wp_at_succ

set_option maxRecDepth 100000 in
set_option maxHeartbeats 1000000 in
theorem drawShape_any (a : Option Addr) (len cap : Nat) (zs : List Int) (w : World) (hl : len ≤ 4096) (hr : Rd w w.heap.size a len zs) :
    Calls Try.prog 26 #[.slice a len cap] w fun e w' => ∃ q cap' L, e = .returned (.slice (some ⟨q, 0, none⟩) L.length cap') ∧ Ow w' w.heap.size (.slice (some ⟨q, 0, none⟩) L.length cap') L ∧ Below w.heap.size w w' ∧ L.length ≤ 6 := by
  go_enter Try.func26, Try.ntmps26
  go_upto_region 2 with (go_at_call 33; refine (new_any a len cap zs _ hl hr).mono ?_; rintro e w1 ⟨h, rfl, rfl⟩)
  have hcur := Cur.fresh (cap := cap) (h := h) hl hr
  have hb1 := below_alloc1 w (.cells #[.slice a len cap, .int .i64 0, .int .i64 h] 67)
  have hg : w.heap.size < (w.alloc (.cells #[.slice a len cap, .int .i64 0, .int .i64 h] 67)).heap.size := by simp
  generalize w.alloc _ = W1 at hcur hb1 hg ⊢
  have hrd := hcur.rd
  go_wp2_with (go_at_call 47; refine (l4Draw_any _ _ _ _ _ _ hcur hrd).mono ?_; rintro e w2 ⟨q, cap', L, rfl, hD, hLl⟩)
  go_ret
  exact ⟨q, cap', L, rfl, Ow.mono hD.own (Nat.le_of_lt hg), hb1.trans (hD.turn.below (Nat.le_refl _) (Nat.le_of_lt hg)), hLl⟩
set_option maxRecDepth 100000 in
theorem drawDouble_any (a : Option Addr) (len cap : Nat) (zs : List Int) (w : World) (hl : len ≤ 4096) (hr : Rd w w.heap.size a len zs) :
    Calls Try.prog 10 #[.slice a len cap] w fun e w' => ∃ q cap' L, e = .returned (.slice (some ⟨q, 0, none⟩) L.length cap') ∧ Ow w' w.heap.size (.slice (some ⟨q, 0, none⟩) L.length cap') L ∧ Below w.heap.size w w' ∧ L.length ≤ 6 := by
  go_enter Try.func10, Try.ntmps10
  go_wp2_with (go_at_call 26; refine (drawShape_any a len cap zs _ hl hr).mono ?_; rintro e w2 ⟨q, cap', L, rfl, hO, hb, hLl⟩)
  go_ret
  exact ⟨q, cap', L, rfl, hO, hb, hLl⟩
set_option maxRecDepth 100000 in
set_option maxHeartbeats 1000000 in
theorem drawSide_any (a0 : Option Addr) (len cap : Nat) (zs : List Int) (w : World) (hl : len ≤ 4096) (hr : Rd w w.heap.size a0 len zs) :
    Calls Try.prog 14 #[.slice a0 len cap] w fun e w' => ∃ a b c : T2, e = .returned (.tuple #[.agg #[.int .i64 a.x, .int .i64 a.y], .agg #[.int .i64 b.x, .int .i64 b.y], .agg #[.int .i64 c.x, .int .i64 c.y]]) ∧ Below w.heap.size w w' := by
  have hs0 := (((St.nil w).push [.int .i64 0, .int .i64 0] 28).push [.int .i64 0, .int .i64 0] 28).push [.int .i64 0, .int .i64 0] 28
  simp only [World.size_alloc] at hs0
  have hr3 : Rd (((w.alloc (.cells #[.int .i64 0, .int .i64 0] 28)).alloc (.cells #[.int .i64 0, .int .i64 0] 28)).alloc (.cells #[.int .i64 0, .int .i64 0] 28)) (((w.alloc (.cells #[.int .i64 0, .int .i64 0] 28)).alloc (.cells #[.int .i64 0, .int .i64 0] 28)).alloc (.cells #[.int .i64 0, .int .i64 0] 28)).heap.size a0 len zs := hr.up (below_alloc3 _ _ _ _) (by simp; omega)
  go_enter Try.func14, Try.ntmps14
  go_upto_region 2 with (go_at_call 33; refine (new_any a0 len cap zs _ hl hr3).mono ?_; rintro e w1 ⟨h, rfl, rfl⟩)
  have hcur := Cur.fresh (cap := cap) (h := h) hl hr3
  have hs1 := hs0.step (below_alloc1 _ (.cells #[.slice a0 len cap, .int .i64 0, .int .i64 h] 67))
  have hgz : w.heap.size + 1 + 1 + 1 < (((((w.alloc (.cells #[.int .i64 0, .int .i64 0] 28)).alloc (.cells #[.int .i64 0, .int .i64 0] 28)).alloc (.cells #[.int .i64 0, .int .i64 0] 28))).alloc (.cells #[.slice a0 len cap, .int .i64 0, .int .i64 h] 67)).heap.size := by simp
  simp only [World.size_alloc] at hcur
  have hH := hs1.has
  have hbw := hs1.bel
  clear hs0 hs1 hr3 hr
  generalize World.alloc _ _ = W1 at hcur hH hbw hgz ⊢
  obtain ⟨g, hg⟩ : ∃ g, g = w.heap.size + 1 + 1 + 1 := ⟨_, rfl⟩
  rw [← hg] at hcur hgz ⊢
  have HG : Hid (g = w.heap.size + 1 + 1 + 1) := hg
  clear hg
  have hT := Turn.refl g W1
  go_upto_region 3 with (go_at_call 34; refine (drawSpot_any _ _ _ _ _ _ hcur).mono ?_; rintro e w2 ⟨ax, ay, rfl, ht2, hc2⟩)
  have hT2 := (hT.trans ht2).alloc (.cells #[.int .i64 ax, .int .i64 ay] 28)
  have hc3 := hc2.alloc (.cells #[.int .i64 ax, .int .i64 ay] 28)
  have hA := ((St.nil w2).push [.int .i64 ax, .int .i64 ay] 28).has
  have hb6 : W1.heap.size ≤ w2.heap.size := ht2.size
  clear ht2 hc2 hT
  generalize w2.alloc _ = W2 at hT2 hc3 hA ⊢
  generalize w2.heap.size = b6 at hA hb6 ⊢
  go_upto_region 4 with (go_at_call 34; refine (drawSpot_any _ _ _ _ _ _ hc3).mono ?_; rintro e w4 ⟨bx, by', rfl, ht4, hc4⟩)
  have hT4 := (hT2.trans ht4).alloc (.cells #[.int .i64 bx, .int .i64 by'] 28)
  have hc5 := hc4.alloc (.cells #[.int .i64 bx, .int .i64 by'] 28)
  have hA4 := (hA.turn ht4 (fun p hp => by simp at hp; subst hp; simp only; have := HG.out; omega)).step (below_alloc1 w4 (.cells #[.int .i64 bx, .int .i64 by'] 28))
  have hB4 := ((St.nil w4).push [.int .i64 bx, .int .i64 by'] 28).has
  have hb7 : W1.heap.size ≤ w4.heap.size := (hT2.trans ht4).size
  clear ht4 hc4 hT2 hc3 hA
  generalize w4.alloc _ = W4 at hT4 hc5 hA4 hB4 ⊢
  generalize w4.heap.size = b7 at hB4 hb7 ⊢
  obtain ⟨c0, c1⟩ := has2 (s := ⟨ax, ay⟩) hA4
  obtain ⟨d0, d1⟩ := has2 (s := ⟨bx, by'⟩) hB4
  simp only at c0 c1 d0 d1
  have hH4 := hH.turn hT4 (fun p hp => by simp at hp; rcases hp with rfl | rfl | rfl <;> simp only <;> (have := HG.out; omega))
  have hcd := hc5.drew
  have nb60 : ¬ b6 = w.heap.size := by have := HG.out; omega
  have mb60 : ¬ w.heap.size = b6 := by have := HG.out; omega
  have nb61 : ¬ b6 = w.heap.size + 1 := by have := HG.out; omega
  have mb61 : ¬ w.heap.size + 1 = b6 := by have := HG.out; omega
  have nb62 : ¬ b6 = w.heap.size + 1 + 1 := by have := HG.out; omega
  have mb62 : ¬ w.heap.size + 1 + 1 = b6 := by have := HG.out; omega
  have nb70 : ¬ b7 = w.heap.size := by have := HG.out; omega
  have mb70 : ¬ w.heap.size = b7 := by have := HG.out; omega
  have nb71 : ¬ b7 = w.heap.size + 1 := by have := HG.out; omega
  have mb71 : ¬ w.heap.size + 1 = b7 := by have := HG.out; omega
  have nb72 : ¬ b7 = w.heap.size + 1 + 1 := by have := HG.out; omega
  have mb72 : ¬ w.heap.size + 1 + 1 = b7 := by have := HG.out; omega
  go_region_with (go_at_call 34; refine (drawSpot_any _ _ _ _ _ _ hcd).mono ?_; rintro e w5 ⟨cx, cy, rfl, ht5, hc6⟩; have hH5 := hH4.turn (((Turn.refl _ W4).drew).trans ht5) (fun p hp => (by simp at hp; rcases hp with rfl | rfl | rfl <;> simp only <;> (have := HG.out; omega))); have hk5 := hH5; simp [Has, HasAt] at hk5; obtain ⟨e0, e1⟩ := has2 (s := ⟨ax, ay⟩) (hA4.turn (((Turn.refl _ W4).drew).trans ht5) (fun p hp => (by simp at hp; subst hp; simp only; have := HG.out; omega))); obtain ⟨f0, f1⟩ := has2 (s := ⟨bx, by'⟩) (hB4.turn (((Turn.refl _ W4).drew).trans ht5) (fun p hp => (by simp at hp; subst hp; simp only; have := HG.out; omega))); simp only at e0 e1 f0 f1)
  all_goals
    have hbz : Below w.heap.size w w5 := (hbw.trans (hT4.below (by have := HG.out; omega) hbw.size)).trans ((((Turn.refl g W4).drew).trans ht5).below (by have := HG.out; omega) (Nat.le_trans hbw.size hT4.size))
    go_wp2_with fail
    refine bodyPost_ret (v := .tuple #[.agg #[.int .i64 ax, .int .i64 ay], .agg #[.int .i64 bx, .int .i64 by'], .agg #[.int .i64 cx, .int .i64 cy]]) (by simp [results, Try.results14, go_sem, hk5]) rfl ⟨⟨ax, ay⟩, ⟨bx, by'⟩, ⟨cx, cy⟩, rfl, ?_⟩
    refine Below.setCell (Below.setCell (Below.setCell (Below.setCell (Below.setCell (Below.setCell hbz ?_ _) ?_ _) ?_ _) ?_ _) ?_ _) ?_ _ <;> (simp only; omega)
end Go.Proofs.Ytipdfajojcpolaa
