/-
  The half of a hull: the program's.
-/
import Derived.Test.YtkpkigllabhejaaS1
namespace Go.Proofs.Ytkpkigllabhejaa
open Go.RowKit Go.Joins
attribute [local go_sem ↓] Go.wp_at_zero Go.wp_at_succ

set_option maxHeartbeats 1000000 in
theorem side_cap {a b c : T2} (ha : a.ok = true) (hb : b.ok = true) (hc : c.ok = true) (p : Option Addr) (cc : Nat) (w : World) (hE : Eg w p a b) :
    Calls Try.prog 48 #[.slice p 2 cc, .agg #[.int .i64 c.x, .int .i64 c.y]] w fun e w' => e = .returned (.int .i64 (sg (crT a b c))) ∧ Below w.heap.size w w' := by
  have k1 := spB_t.mp ha
  have k2 := spB_t.mp hb
  have k3 := spB_t.mp hc
  have h1 := pr_bd (u := b.x - a.x) (v := c.y - a.y) (by omega) (by omega) (by omega) (by omega)
  have h2 := pr_bd (u := b.y - a.y) (v := c.x - a.x) (by omega) (by omega) (by omega) (by omega)
  clear ha hb hc
  obtain ⟨g, off, rfl, hg, c0, c1, c2, c3⟩ := hE
  have hc3 : ∀ (o1 o2 o3 : Obj) (k : Nat), (((w.alloc o1).alloc o2).alloc o3).cell? ⟨g, k, none⟩ = w.cell? ⟨g, k, none⟩ := fun o1 o2 o3 k => (below_alloc3 w o1 o2 o3).cell (p := ⟨g, k, none⟩) hg
  have hsg : sg (crT a b c) = sg ((b.x - a.x) * (c.y - a.y) - (b.y - a.y) * (c.x - a.x)) := rfl
  rcases Int.lt_trichotomy ((b.x - a.x) * (c.y - a.y) - (b.y - a.y) * (c.x - a.x)) 0 with h | h | h
  all_goals
    go_enter Try.func48, Try.ntmps48
    go_wp2
    go_region
    go_wp2
  all_goals (go_ret; exact ⟨ret_i64 (by rw [hsg]; first | exact (sg_p h).symm | exact (sg_m h).symm | exact (sg_z h).symm), (below_alloc3 _ _ _ _).drew⟩)
theorem side_c {a b c : T2} {v : Int} (hv : sg (crT a b c) = v) (ha : a.ok = true) (hb : b.ok = true) (hc : c.ok = true) (p : Option Addr) (cc : Nat) (w : World) (hE : Eg w p a b) :
    Calls Try.prog 48 #[.slice p 2 cc, .agg #[.int .i64 c.x, .int .i64 c.y]] w fun e w' => e = .returned (.int .i64 v) ∧ Below w.heap.size w w' := by subst hv; exact side_cap ha hb hc p cc w hE

set_option maxRecDepth 100000 in
set_option maxHeartbeats 4000000 in
theorem leftTurns_any (p : Option Addr) (cap : Nat) (L : List T2) (hok : ∀ c ∈ L, c.ok = true) (hn : L.length ≤ 40) (w : World) (hL : Sl w p L) :
    Calls Try.prog 36 #[.slice p L.length cap] w fun e w' => ∃ q cap', e = .returned (.slice q (halfR L).reverse.length cap') ∧ Ow w' w.heap.size (.slice q (halfR L).reverse.length cap') (halfR L).reverse ∧ Below w.heap.size w w' := by
  obtain ⟨i0, hi, hz0, hz1, hz2⟩ := info_parts info38
  go_enter Try.func36, Try.ntmps36
  go_wp2
  go_loopw [3, 8] (fun sv i wr => ∃ (k : Nat) (q : Option Addr) (cap' : Nat) (M : List T2), k ≤ L.length ∧ i = .int .i64 k ∧ sv = .slice q M.length cap' ∧ M.reverse = halfR (L.take k) ∧ Ow wr w.heap.size (.slice q M.length cap') M ∧ Below w.heap.size w wr) (fun _ i _ => L.length - (intOf i).toNat)
  case atStart => exact ⟨0, none, 0, [], by omega, rfl, rfl, rfl, Ow.nil _ _, Below.refl _ _⟩
  case round =>
    obtain ⟨k, q, cap', M, hk, rfl, rfl, hM, hO, hb⟩ := hrel
    by_cases hlt : k < L.length
    · have hki : (k : Int) < L.length := by omega
      obtain ⟨g, off, rfl, hC⟩ := hL.at hlt
      have hsok := hok _ (List.getElem_mem hlt)
      have hLk := List.getElem?_eq_getElem hlt
      have hht := half_take hlt
      generalize L[k] = s at hsok hLk hht
      have HT : Hid (halfR (L.take (k + 1)) = pushT (halfR (L.take k)) s) := hht
      clear hht
      have hMl : M.length ≤ 40 := by rw [← List.length_reverse, hM]; have := half_len (L.take k); rw [List.length_take] at this; omega
      have hMok : ∀ c ∈ M, c.ok = true := fun c hc => hok c (List.mem_of_mem_take (half_sub _ c (by rw [← hM]; simpa using hc)))
      obtain ⟨c0, c1⟩ := (hC.step hb).2 k s hLk
      go_wp2
      have hB := ((St.nil wr).push [.int .i64 s.x, .int .i64 s.y] 38)
      have hOn := own_of_below hO hB.bel
      have hbn := bstep hb hB.bel (Nat.le_refl _)
      have hHs := hB.has
      clear hO hb hB c0 c1
      generalize wr.alloc _ = W1 at hOn hbn hHs ⊢
      generalize wr.heap.size = bS at hHs ⊢
      have hO := hOn
      have hb := hbn
      clear hOn hbn
      go_loopw [3] (fun sv wq => ∃ (q : Option Addr) (cap' : Nat) (N : List T2), sv = .slice q N.length cap' ∧ N.length ≤ 40 ∧ (∀ c ∈ N, c.ok = true) ∧ popT N.reverse s = popT (halfR (L.take k)) s ∧ Ow wq w.heap.size (.slice q N.length cap') N ∧ Below w.heap.size w wq ∧ Has wq [(bS, [.int .i64 s.x, .int .i64 s.y])]) (fun sv _ => lenV sv)
      case atStart => exact ⟨q, cap', M, rfl, hMl, hMok, by rw [hM], hO, hb, hHs⟩
      case round =>
        clear hO hb hHs hMl hMok hM
        obtain ⟨q, cap', N, rfl, hNl, hNok, hNp, hO, hb, hHs⟩ := hrel
        by_cases h2 : 2 ≤ N.length
        · obtain ⟨A, u, v, hA⟩ := split2 h2
          obtain ⟨gq, rfl, hgq, _, hcap⟩ := hO.some (by omega)
          have hu := hNok u (by simp [hA])
          have hv := hNok v (by simp [hA])
          obtain ⟨m2, hm2⟩ : ∃ m2, m2 = A.length := ⟨_, rfl⟩
          obtain ⟨m1, hm1⟩ : ∃ m1, m1 = A.length + 1 := ⟨_, rfl⟩
          have hAl : A.length + 2 = N.length := by simp [hA]
          have hN2 : N[m2]? = some u := by rw [hA, hm2]; simp
          have hN1 : N[m1]? = some v := by rw [hA, hm1]; simp
          have hS : ∀ w', (Ow w' w.heap.size (.slice (some ⟨gq, 0, none⟩) N.length cap') N ∧ Below w.heap.size w w' ∧ Has w' [(bS, [.int .i64 s.x, .int .i64 s.y])]) → (w'.cell? ⟨bS, 0, none⟩ = some (.int .i64 s.x) ∧ w'.cell? ⟨bS, 1, none⟩ = some (.int .i64 s.y)) :=
            fun w' h => by have := h.2.2; simp [Has, HasAt] at this; simp [this]
          have hcc := hS _ ⟨hO, hb, hHs⟩
          have hEg : ∀ w', (Ow w' w.heap.size (.slice (some ⟨gq, 0, none⟩) N.length cap') N ∧ Below w.heap.size w w' ∧ Has w' [(bS, [.int .i64 s.x, .int .i64 s.y])]) → Eg w' (some ⟨gq, m2 * 2, none⟩) u v := fun w' h => ⟨gq, m2 * 2, rfl, (Ow.cs h.1).1, by simpa using ((Ow.cs h.1).2 m2 u hN2).1, by simpa using ((Ow.cs h.1).2 m2 u hN2).2, by have := ((Ow.cs h.1).2 m1 v hN1).1; rw [show 0 + m1 * 2 = m2 * 2 + 2 by omega] at this; exact this, by have := ((Ow.cs h.1).2 m1 v hN1).2; rw [show 0 + m1 * 2 + 1 = m2 * 2 + 3 by omega] at this; exact this⟩
          have hkp : ∀ {w' w'' : World}, (Ow w' w.heap.size (.slice (some ⟨gq, 0, none⟩) N.length cap') N ∧ Below w.heap.size w w' ∧ Has w' [(bS, [.int .i64 s.x, .int .i64 s.y])]) → Below w'.heap.size w' w'' → (Ow w'' w.heap.size (.slice (some ⟨gq, 0, none⟩) N.length cap') N ∧ Below w.heap.size w w'' ∧ Has w'' [(bS, [.int .i64 s.x, .int .i64 s.y])]) := fun h hb => ⟨own_of_below h.1 hb, bstep h.2.1 hb (Nat.le_refl _), h.2.2.step hb⟩
          generalize hcv : crT u v s = cv
          have hpp := @pop_two A u v s
          rw [hcv, ← hA] at hpp
          have hm1n : m1 + 1 = N.length := by omega
          have hA1 : (A ++ [u]).length = m1 := by simp [hm1]
          have hA2 : N = (A ++ [u]) ++ [v] := by rw [hA]; simp
          have HA : Hid ((A ++ [u]).length = m1 ∧ N = (A ++ [u]) ++ [v] ∧ ∀ c ∈ A ++ [u], c.ok = true) := ⟨hA1, hA2, fun c hc => hNok c (by rw [hA2]; exact List.mem_append_left _ hc)⟩
          have HPP : Hid (popT N.reverse s = if cv ≤ 0 then popT (A ++ [u]).reverse s else N.reverse) := hpp
          have HNP : Hid (popT N.reverse s = popT (halfR (L.take k)) s) := hNp
          have hd2 : decide ((2 : Int) ≤ (N.length : Int)) = true := decide_eq_true (by omega)
          have ha2 : IntKind.i64.wrap ((N.length : Int) - 2) = m2 := by rw [IntKind.wrap_i64]; omega
          have ha1 : IntKind.i64.wrap ((N.length : Int) - 1) = m1 := by rw [IntKind.wrap_i64]; omega
          have hb0 : (0 : Int) ≤ (m2 : Int) := by omega
          have hb1 : (m2 : Int) < (N.length : Int) := by omega
          have hb3 : (0 : Int) ≤ (m1 : Int) := by omega
          have hb4 : (m1 : Int) < (N.length : Int) := by omega
          have hk0 : (0 : Int) ≤ (k : Int) := by omega
          have hm1c : m1 ≤ cap' := by omega
          have hNm : N.length - m2 = 2 := by omega
          have hcm : ¬ cap' = m2 := by omega
          have hm2n : (m2 : Int) ≤ (N.length : Int) := by omega
          have hsz : N.length ≤ cap' := by omega
          clear hA hA1 hA2 hm1 hm2 hAl hN1 hN2 hpp hNp hNok hm1n h2
          rcases Int.lt_or_le 0 cv with hcl | hcl
          · have hsv : sg (crT u v s) = 1 := by rw [hcv]; exact sg_p hcl
            go_wp2_with fail
            go_region_held3 (fun w' => (Ow w' w.heap.size (.slice (some ⟨gq, 0, none⟩) N.length cap') N ∧ Below w.heap.size w w' ∧ Has w' [(bS, [.int .i64 s.x, .int .i64 s.y])]) ∧ (w'.cell? ⟨bS, 0, none⟩ = some (.int .i64 s.x) ∧ w'.cell? ⟨bS, 1, none⟩ = some (.int .i64 s.y))) (first | exact ‹(World.ownsRow _ _ _ _ _ _ _ ∧ _) ∧ _› | exact keepS hS (hkp (‹(World.ownsRow _ _ _ _ _ _ _ ∧ _) ∧ _›).1 hb2) | exact keepS hS (hkp ⟨hO, hb, hHs⟩ (Below.refl _ _).drew) | fail)
              (first | (go_at_call 48; refine (side_c hsv hu hv hsok _ _ _ ?_).mono ?_; (focus exact hEg _ (‹(World.ownsRow _ _ _ _ _ _ _ ∧ _) ∧ _›).1); rintro e w1 ⟨rfl, hb2⟩))
            clear hO hb hHs hcc
            obtain ⟨⟨hO, hb, hHs⟩, hcc⟩ := ‹(World.ownsRow _ _ _ _ _ _ _ ∧ _) ∧ _›
            have hE : N.reverse = popT (halfR (L.take k)) s := by rw [← HNP.out, HPP.out, if_neg (by omega)]
            have HE : Hid (N.reverse = popT (halfR (L.take k)) s) := hE
            clear hE
            go_wp2_with (at_builtin; refine wpList_append_lies _ rfl _ _ 24 rfl w.heap.size 38 i0 (.agg #[.int .i64 0, .int .i64 0]) 2 16 Try.underlying24 hi hz0 hz1 hz2 rfl (by decide) _ _ _ rfl (hO.alloc _) _ 1 1 s.vs rfl rfl (cell_two_at rfl) (fun x hx => by simp [T2.vs] at hx; rcases hx with rfl | rfl <;> rfl) (by decide) (by unfold maxLen; omega) (by omega) (by have := hb.size; simp; omega) _ rfl ?_; intro g' cap2 w4 hown1 hgrow hat hlt4)
            go_roundw
            case rel =>
              have hfs : flat N ++ s.vs = flat (N ++ [s]) := by rw [flat_append]; simp [flat]
              rw [hfs] at hown1
              refine ⟨k + 1, some ⟨g', 0, none⟩, cap2, N ++ [s], by omega, by go_num, by simp, by rw [HT.out, List.reverse_append, HE.out]; rfl, ?_, bel_grown (hb.alloc hb.size _) hgrow (fun r hr => (hO.lt r hr).1) (Nat.le_refl _)⟩
              rw [show (N ++ [s]).length = N.length + 1 by simp]
              unfold Ow
              rw [show (N ++ [s]).length = N.length + 1 by simp]
              exact hown1
            case measure => simp [intOf]; omega
          · obtain ⟨sv, hsv⟩ : ∃ sv, sg (crT u v s) = sv := ⟨_, rfl⟩
            have hs0 : sv ≤ 0 := by rw [← hsv, hcv]; unfold sg; rw [if_neg (by omega)]; split <;> omega
            have hdc : decide (sv ≤ 0) = true := decide_eq_true hs0
            go_wp2_with fail
            go_region_held3 (fun w' => (Ow w' w.heap.size (.slice (some ⟨gq, 0, none⟩) N.length cap') N ∧ Below w.heap.size w w' ∧ Has w' [(bS, [.int .i64 s.x, .int .i64 s.y])]) ∧ (w'.cell? ⟨bS, 0, none⟩ = some (.int .i64 s.x) ∧ w'.cell? ⟨bS, 1, none⟩ = some (.int .i64 s.y))) (first | exact ‹(World.ownsRow _ _ _ _ _ _ _ ∧ _) ∧ _› | exact keepS hS (hkp (‹(World.ownsRow _ _ _ _ _ _ _ ∧ _) ∧ _›).1 hb2) | exact keepS hS (hkp ⟨hO, hb, hHs⟩ (Below.refl _ _).drew) | fail)
              (first | (go_at_call 48; refine (side_c hsv hu hv hsok _ _ _ ?_).mono ?_; (focus exact hEg _ (‹(World.ownsRow _ _ _ _ _ _ _ ∧ _) ∧ _›).1); rintro e w1 ⟨rfl, hb2⟩))
            clear hO hb hHs hcc
            obtain ⟨⟨hO, hb, hHs⟩, hcc⟩ := ‹(World.ownsRow _ _ _ _ _ _ _ ∧ _) ∧ _›
            go_wp2
            go_roundw
            case rel =>
              refine ⟨some ⟨gq, 0, none⟩, cap', A ++ [u], by rw [HA.out.1], by rw [HA.out.1]; omega, HA.out.2.2, ?_, ?_, hb, hHs⟩
              · rw [← HNP.out, HPP.out, if_pos hcl]
              · have hO' : Ow _ w.heap.size (.slice (some ⟨gq, 0, none⟩) N.length cap') N := hO
                unfold Ow at hO' ⊢
                rw [HA.out.1]
                have hq := HA.out.2.1
                have hln : N.length = m1 + 1 := by rw [hq, List.length_append, HA.out.1]; rfl
                rw [hln] at hO'
                rw [hq] at hO'
                exact own_take hO' HA.out.1.symm (by omega)
            case measure => simp [lenV]; omega
        · have hd2 : decide ((2 : Int) ≤ (N.length : Int)) = false := decide_eq_false (by omega)
          have hE : N.reverse = popT (halfR (L.take k)) s := by rw [← hNp, pop_short (by omega)]
          have HE : Hid (N.reverse = popT (halfR (L.take k)) s) := hE
          clear hE
          clear hNp hNok
          go_wp2_with fail
          go_quiet (fail)
          have hcc : ∀ {W : World}, Has W [(bS, [.int .i64 s.x, .int .i64 s.y])] → (W.cell? ⟨bS, 0, none⟩ = some (.int .i64 s.x) ∧ W.cell? ⟨bS, 1, none⟩ = some (.int .i64 s.y)) := fun h => by simp [Has, HasAt] at h; simp [h]
          obtain ⟨c0, c1⟩ := hcc hHs
          go_wp2_with (at_builtin; refine wpList_append_lies _ rfl _ _ 24 rfl w.heap.size 38 i0 (.agg #[.int .i64 0, .int .i64 0]) 2 16 Try.underlying24 hi hz0 hz1 hz2 rfl (by decide) _ _ _ rfl ((own_of_below hO (below_drewN _ _)).alloc _) _ 1 1 s.vs rfl rfl (cell_two_at rfl) (fun x hx => by simp [T2.vs] at hx; rcases hx with rfl | rfl <;> rfl) (by decide) (by unfold maxLen; omega) (by omega) (by have := hb.size; simp; omega) _ rfl ?_; intro g' cap2 w4 hown1 hgrow hat hlt4)
          go_roundw
          case rel =>
            have hfs : flat N ++ s.vs = flat (N ++ [s]) := by rw [flat_append]; simp [flat]
            rw [hfs] at hown1
            refine ⟨k + 1, some ⟨g', 0, none⟩, cap2, N ++ [s], by omega, by go_num, by simp, by rw [HT.out, List.reverse_append, HE.out]; rfl, ?_, bel_grown ((bdrewN hb _).alloc (bdrewN hb _).size _) hgrow (fun r hr => (hO.lt r hr).1) (Nat.le_refl _)⟩
            rw [show (N ++ [s]).length = N.length + 1 by simp]
            unfold Ow
            rw [show (N ++ [s]).length = N.length + 1 by simp]
            exact hown1
          case measure => simp [intOf]; omega
    · obtain rfl : k = L.length := by omega
      rw [List.take_length] at hM
      have hM' : M = (halfR L).reverse := by rw [← hM, List.reverse_reverse]
      subst hM'
      go_wp2
      go_ret
      exact ⟨q, cap', rfl, hO, hb⟩
end Go.Proofs.Ytkpkigllabhejaa
