/-
  The law of what is extreme, walked.
-/
import Derived.Test.YtkpkigllabhejaaD3
import Derived.Test.YtkpkigllabhejaaS5
import Derived.Test.YtkpkigllabhejaaE2
namespace Go.Proofs.Ytkpkigllabhejaa
open Go.RowKit Go.Joins
attribute [local go_sem ↓] Go.wp_at_zero Go.wp_at_succ

theorem four_int {W : World} {b n : Nat} {i0 i1 i2 i3 : Int} (h : Has W [(b, [.int .i64 i0, .int .i64 i1, .int .i64 i2, .int .i64 i3])]) (hn : n < 4) : ∃ v : Int, W.cell? ⟨b, n, none⟩ = some (.int .i64 v) := by
  have hk := HasAt.get h.1.2.2
  have hc : n = 0 ∨ n = 1 ∨ n = 2 ∨ n = 3 := by omega
  rcases hc with rfl | rfl | rfl | rfl
  · exact ⟨i0, by simpa using hk 0 _ rfl⟩
  · exact ⟨i1, by simpa using hk 1 _ rfl⟩
  · exact ⟨i2, by simpa using hk 2 _ rfl⟩
  · exact ⟨i3, by simpa using hk 3 _ rfl⟩
set_option maxRecDepth 100000 in
set_option maxHeartbeats 2000000 in
theorem drawExtreme_any (a : Option Addr) (len cap : Nat) (zs : List Int) (w : World) (hl : len ≤ 4096) (hr : Rd w w.heap.size a len zs) :
    Calls Try.prog 8 #[.slice a len cap] w fun e w' => ∃ q cap' L x y, e = .returned (.tuple #[.slice (some ⟨q, 0, none⟩) L.length cap', .int .i64 x, .int .i64 y]) ∧ Ow w' w.heap.size (.slice (some ⟨q, 0, none⟩) L.length cap') L ∧ Below w.heap.size w w' ∧ L.length ≤ 41 := by
  go_enter Try.func8, Try.ntmps8
  go_upto_region 2 with (go_at_call 21; refine (new_any a len cap zs _ hl hr).mono ?_; rintro e w1 ⟨h, rfl, rfl⟩)
  have hcur := Cur.fresh (cap := cap) (h := h) hl hr
  have hb1 := below_alloc1 w (.cells #[.slice a len cap, .int .i64 0, .int .i64 h] 75)
  have hg : w.heap.size < (w.alloc (.cells #[.slice a len cap, .int .i64 0, .int .i64 h] 75)).heap.size := by simp
  generalize w.alloc _ = W1 at hcur hb1 hg ⊢
  have hrd := hcur.rd
  go_upto_if 15 with (first
    | (go_at_call 22; refine (l5Draw_any _ _ _ _ _ _ hcur hrd).mono ?_; rintro e w2 ⟨q, cap', L, rfl, hD, hLl⟩)
    | (go_at_call 23; refine (from_any _ _ _ _ _ _ hD.cur).mono ?_; rintro e w3 ⟨x, rfl, ht3, hc3⟩; replace hD := hD.call hg ht3 hc3; clear ht3 hc3)
    | (go_at_call 24; refine (once_any _ _ _ _ _ _ _ hD.cur (by decide) (by decide)).mono ?_; rintro e w5 ⟨xb, rfl, ht5, hc5⟩; replace hD := hD.call hg ht5 hc5; clear ht5 hc5))
  cases xb
  · go_wp2_with (go_at_call 23; refine (from_any _ _ _ _ _ _ hD.cur).mono ?_; rintro e w6 ⟨y, rfl, ht6, hc6⟩; replace hD := hD.call hg ht6 hc6; clear ht6 hc6)
    refine bodyPost_ret (v := .tuple #[.slice (some ⟨q, 0, none⟩) L.length cap', .int .i64 x, .int .i64 y]) (by simp [results, Try.results8, go_sem]) rfl ?_
    exact ⟨q, cap', L, x, y, rfl, Ow.mono hD.own (Nat.le_of_lt hg), hb1.trans (hD.turn.below (Nat.le_refl _) (Nat.le_of_lt hg)), hLl⟩
  · have hH4 := ((St.nil w5).push [.int .i64 (-1001), .int .i64 (-1000), .int .i64 1000, .int .i64 1001] 2).has
    have hbg : w5.heap.size ≠ w.heap.size := by have := hD.cur.hg; omega
    go_upto_region 6 with (go_at_call 25; refine (below_any _ _ _ _ _ _ _ (hD.below (below_alloc1 w5 (.cells #[.int .i64 (-1001), .int .i64 (-1000), .int .i64 1000, .int .i64 1001] 2))).cur (by decide) (by decide)).mono ?_; rintro e w7 ⟨x7, rfl, h70, h71, ht7, hc7⟩; replace hD := (hD.below (below_alloc1 w5 (.cells #[.int .i64 (-1001), .int .i64 (-1000), .int .i64 1000, .int .i64 1001] 2))).call hg ht7 hc7; replace hH4 := hH4.turn ht7 (fun p hp => (by simp at hp; subst hp; exact hbg)); clear ht7 hc7; obtain ⟨n7, rfl⟩ : ∃ n7 : Nat, x7 = n7 := (⟨x7.toNat, by omega⟩); obtain ⟨sv, hsv⟩ := four_int hH4 (n := n7) (by omega); have hn7 : (n7 : Int) < 4 := h71)
    go_wp2_with (go_at_call 23; refine (from_any _ _ _ _ _ _ hD.cur).mono ?_; rintro e w6 ⟨y, rfl, ht6, hc6⟩; replace hD := hD.call hg ht6 hc6; clear ht6 hc6)
    refine bodyPost_ret (v := .tuple #[.slice (some ⟨q, 0, none⟩) L.length cap', .int .i64 sv, .int .i64 y]) (by simp [results, Try.results8, go_sem]) rfl ?_
    exact ⟨q, cap', L, sv, y, rfl, Ow.mono hD.own (Nat.le_of_lt hg), hb1.trans (hD.turn.below (Nat.le_refl _) (Nat.le_of_lt hg)), hLl⟩

theorem sHull_v {L H : List T2} (hH : hulT L = H) (p : Option Addr) (cap : Nat) (hn : L.length ≤ 1048576) (w : World) (hL : Sl w p L) :
    Calls Try.prog 11 #[.slice p L.length cap] w fun e w' => ∃ q cap', e = .returned (.slice (some ⟨q, 0, none⟩) H.length cap') ∧ Ow w' w.heap.size (.slice (some ⟨q, 0, none⟩) H.length cap') H ∧ Below w.heap.size w w' := by subst hH; exact sHull_any p cap L hn w hL
theorem ext_no {L : List T2} {a b : Int} (h : (hulT L).length = 0 ∨ wgB a = false ∨ wgB b = false) : extI L a b = -1 := by
  rcases h with h | h | h
  · rcases hul_nil.mp h with h | h
    · simp [extI, h]
    · subst h; simp [extI]
  · simp [extI, h]
  · simp [extI, h]
set_option maxRecDepth 100000 in
set_option maxHeartbeats 4000000 in
theorem extremes_small (a0 : Option Addr) (len cap : Nat) (zs : List Int) (w : World) (hl : len ≤ 4096) (hr : Rd w w.heap.size a0 len zs) :
    Calls Try.prog 3 #[.slice a0 len cap] w fun e w' => e = .returned (.bool true) ∧ Below w.heap.size w w' := by
  have hl' : decide (4096 < (len : Int)) = false := by simp; omega
  have hx := Sx.nil w
  go_enter Try.func3, Try.ntmps3
  go_upto_region 4 with (first
    | (go_at_call 7; refine (big_any _ _ _ _).mono ?_; rintro e w1 ⟨rfl, rfl⟩)
    | (go_at_call 8; refine (drawExtreme_any a0 len cap zs _ hl hr).mono ?_; rintro e w1 ⟨q, cap', L, x, y, rfl, hO, hb, hLl⟩; replace hx := hx.add hO hb; clear hO hb))
  obtain ⟨v, hv⟩ : ∃ v, extI L x y = v := ⟨_, rfl⟩
  obtain ⟨H, hH⟩ : ∃ H, hulT L = H := ⟨_, rfl⟩
  have HV : Hid (extI L x y = v) := hv
  have HH : Hid (hulT L = H) := hH
  clear hv hH
  go_upto_region 8 with (first
    | (go_at_call 9; refine (iExtreme_v HV.out _ _ _ (Ow.sl hx.o0) (by omega)).mono ?_; rintro e w2 ⟨rfl, hb2⟩; replace hx := hx.step hb2; clear hb2)
    | (go_at_call 10; refine (sExtreme_v HV.out _ _ _ (Ow.sl hx.o0) (by omega)).mono ?_; rintro e w2 ⟨rfl, hb2⟩; replace hx := hx.step hb2; clear hb2)
    | (go_at_call 11; refine (sHull_v HH.out _ _ (by omega) _ (Ow.sl hx.o0)).mono ?_; rintro e w2 ⟨q2, cap2, rfl, hO2, hb2⟩; replace hx := hx.add hO2 hb2; clear hO2 hb2))
  have no : (H.length = 0 ∨ wgB x = false ∨ wgB y = false) → v = -1 := fun h => by rw [← HV.out]; exact ext_no (by rw [HH.out]; exact h)
  by_cases h0 : H.length = 0
  · obtain rfl := no (.inl h0)
    have h0i : ((H.length : Int) == 0) = true := by simp [h0]
    go_wp2_with fail
    go_ret
    exact ⟨rfl, hx.bel⟩
  have h0i : ((H.length : Int) == 0) = false := by simp; intro e; subst e; simp at h0
  cases ha : wgB x
  · obtain rfl := no (.inr (.inl ha))
    have hr1 := wgB_f.mp ha
    clear ha no HV
    by_cases h1 : x < -1000
    · go_wp2_with fail
      go_ret
      exact ⟨rfl, hx.bel⟩
    · have h2 : 1000 < x := by omega
      go_wp2_with fail
      go_ret
      exact ⟨rfl, hx.bel⟩
  cases hb : wgB y
  · obtain rfl := no (.inr (.inr hb))
    have hr1 := wgB_f.mp hb
    have hr2 := wgB_t.mp ha
    have h3 : ¬ x < -1000 := by omega
    have h4 : ¬ 1000 < x := by omega
    clear ha hb no HV hr2
    by_cases h1 : y < -1000
    · go_wp2_with fail
      go_ret
      exact ⟨rfl, hx.bel⟩
    · have h2 : 1000 < y := by omega
      go_wp2_with fail
      go_ret
      exact ⟨rfl, hx.bel⟩
  have hr1 := wgB_t.mp ha
  have hr2 := wgB_t.mp hb
  have h3 : ¬ x < -1000 := by omega
  have h4 : ¬ 1000 < x := by omega
  have h5 : ¬ y < -1000 := by omega
  have h6 : ¬ 1000 < y := by omega
  have hHl : H.length ≤ 40 ∧ extI H x y = v := by
    have hok : okS L = true := by
      cases hk : okS L
      · exact absurd (by rw [← HH.out]; exact hul_nil.mpr (.inl hk)) h0
      · rfl
    have hne : L ≠ [] := fun e => h0 (by rw [← HH.out]; exact hul_nil.mpr (.inr e))
    refine ⟨by rw [← HH.out]; exact okS_len (hul_ok hok), ?_⟩
    rw [← HV.out, ← HH.out]
    exact ext_hull hok hne ha hb
  obtain ⟨hHl, hHe⟩ := hHl
  have HE : Hid (extI H x y = v) := hHe
  clear hHe ha hb no HV hr1 hr2
  go_wp2_with (go_at_call 9; refine (iExtreme_v HE.out _ _ _ (Ow.sl hx.o0) (by omega)).mono ?_; rintro e w2 ⟨rfl, hb2⟩; replace hx := hx.step hb2; clear hb2)
  go_ret
  exact ⟨by simp, hx.bel⟩
end Go.Proofs.Ytkpkigllabhejaa
