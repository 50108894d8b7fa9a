/-
  The half of a hull: the spec's.
-/
import Derived.Test.YtkpkigllabhejaaE1
import Derived.Test.YtkpkigllabhejaaA6
import Derived.Deep.RegionHeld3
namespace Go.Proofs.Ytkpkigllabhejaa
open Go.RowKit Go.Joins
attribute [local go_sem ↓] Go.wp_at_zero Go.wp_at_succ

theorem own_take {W : World} {base g N n cap : Nat} {A T : List T2} (h : W.ownsRow base 38 2 (.slice (some ⟨g, 0, none⟩) N cap) N (flat (A ++ T))) (hn : n = A.length) (hN : n ≤ N) : W.ownsRow base 38 2 (.slice (some ⟨g, 0, none⟩) n cap) n (flat A) := by
  obtain ⟨h0, ⟨h1, _⟩ | ⟨g', cap', cur, e, hg, hh, hc, hm, hs, ht⟩⟩ := h
  · cases h1
  · injection e with e1 e2 e3
    injection e1 with e1
    injection e1 with e1
    subst e1 e3
    refine ⟨by rw [flat_len, hn], .inr ⟨g, cap, cur, rfl, hg, hh, by omega, hm, hs, ?_⟩⟩
    rw [flat_append] at ht
    have h5 := congrArg (List.take (n * 2)) ht
    rw [List.take_take, Nat.min_eq_left (Nat.mul_le_mul_right 2 hN), List.take_left' (by rw [flat_len, hn])] at h5
    exact h5
theorem below_drewN (w : World) (n : Nat) : Below w.heap.size w (w.drewN n) := bdrewN (Below.refl _ _) n
def lenV : Value → Nat
  | .slice _ n _ => n
  | _ => 0
theorem split2 {M : List T2} (h : 2 ≤ M.length) : ∃ A u v, M = A ++ [u, v] := by
  refine ⟨M.take (M.length - 2), M[M.length - 2], M[M.length - 1], ?_⟩
  have e : M.drop (M.length - 2) = [M[M.length - 2], M[M.length - 1]] := by
    rw [List.drop_eq_getElem_cons (by omega), List.drop_eq_getElem_cons (by omega), List.drop_eq_nil_of_le (by omega)]
    simp only [List.cons.injEq, and_true, true_and]
    congr 1; omega
  rw [← e, List.take_append_drop]
theorem Ow.some {W : World} {base : Nat} {p : Option Addr} {n cap : Nat} {M : List T2} (h : Ow W base (.slice p n cap) M) (hn : 0 < M.length) : ∃ g, p = some ⟨g, 0, none⟩ ∧ base ≤ g ∧ n = M.length ∧ M.length ≤ cap := by
  rcases h.2 with ⟨h1, h0⟩ | ⟨g, cap', cur, e, hg, hh, hc, _⟩
  · omega
  · injection e with e1 e2 e3
    subst e1 e2 e3
    exact ⟨g, rfl, hg, rfl, hc⟩
theorem Cs.end2 {W : World} {g : Nat} {A : List T2} {u v : T2} (h : Cs W g 0 (A ++ [u, v])) : (W.cell? ⟨g, A.length * 2, none⟩ = some (.int .i64 u.x) ∧ W.cell? ⟨g, A.length * 2 + 1, none⟩ = some (.int .i64 u.y)) ∧ (W.cell? ⟨g, (A.length + 1) * 2, none⟩ = some (.int .i64 v.x) ∧ W.cell? ⟨g, (A.length + 1) * 2 + 1, none⟩ = some (.int .i64 v.y)) := by
  have h1 := h.2 A.length u (by simp)
  have h2 := h.2 (A.length + 1) v (by simp)
  simp only [Nat.zero_add] at h1 h2
  exact ⟨h1, h2⟩
theorem pop_two {A : List T2} {u v s : T2} : popT (A ++ [u, v]).reverse s = if crT u v s ≤ 0 then popT (A ++ [u]).reverse s else (A ++ [u, v]).reverse := by
  simp [popT]
theorem pop_short {M : List T2} {s : T2} (h : M.length < 2) : popT M.reverse s = M.reverse := by
  match M, h with
  | [], _ => rfl
  | [_], _ => rfl
theorem half_take {L : List T2} {k : Nat} (hk : k < L.length) : halfR (L.take (k + 1)) = pushT (halfR (L.take k)) L[k] := by
  rw [List.take_succ_eq_append_getElem hk, half_snoc]
theorem half_len : ∀ (L : List T2), (halfR L).length ≤ L.length :=
  snoc_ind (by simp [halfR]) fun L s ih => by
    rw [half_snoc]; unfold pushT
    have := pop_len s (halfR L)
    simp; omega
set_option maxRecDepth 100000 in
set_option maxHeartbeats 4000000 in
theorem l5Half_any (p : Option Addr) (cap : Nat) (L : List T2) (hok : ∀ c ∈ L, c.ok = true) (hn : L.length ≤ 40) (w : World) (hL : Sl w p L) :
    Calls Try.prog 53 #[.slice p L.length cap] w fun e w' => ∃ q cap', e = .returned (.slice q (halfR L).reverse.length cap') ∧ Ow w' w.heap.size (.slice q (halfR L).reverse.length cap') (halfR L).reverse ∧ Below w.heap.size w w' := by
  obtain ⟨i0, hi, hz0, hz1, hz2⟩ := info_parts info38
  go_enter Try.func53, Try.ntmps53
  go_wp2
  go_loopw [3, 4] (fun sv i wr => ∃ (k : Nat) (q : Option Addr) (cap' : Nat) (M : List T2), k ≤ L.length ∧ i = .int .i64 k ∧ sv = .slice q M.length cap' ∧ M.reverse = halfR (L.take k) ∧ Ow wr w.heap.size (.slice q M.length cap') M ∧ Below w.heap.size w wr) (fun _ i _ => L.length - (intOf i).toNat)
  case atStart => exact ⟨0, _, _, [], by omega, rfl, rfl, rfl, (World.ownsRow_made (base := w.heap.size) (e := 38) (size := 2) w #[] 0 (Nat.le_refl _) (by unfold maxLen; omega) rfl), below_alloc1 _ _⟩
  case round =>
    obtain ⟨k, q, cap', M, hk, rfl, rfl, hM, hO, hb⟩ := hrel
    by_cases hlt : k < L.length
    · have hki : (k : Int) < L.length := by omega
      obtain ⟨g, off, rfl, hC⟩ := hL.at hlt
      have hsok := hok _ (List.getElem_mem hlt)
      have hLk := List.getElem?_eq_getElem hlt
      have hht := half_take hlt
      generalize L[k] = s at hsok hLk hht
      have HT : Hid (halfR (L.take (k + 1)) = pushT (halfR (L.take k)) s) := hht
      clear hht
      have hMl : M.length ≤ 40 := by rw [← List.length_reverse, hM]; have := half_len (L.take k); rw [List.length_take] at this; omega
      have hMok : ∀ c ∈ M, c.ok = true := fun c hc => hok c (List.mem_of_mem_take (half_sub _ c (by rw [← hM]; simpa using hc)))
      go_wp2
      have hC0 := hC
      go_loopw [3] (fun sv wq => ∃ (q : Option Addr) (cap' : Nat) (N : List T2), sv = .slice q N.length cap' ∧ N.length ≤ 40 ∧ (∀ c ∈ N, c.ok = true) ∧ popT N.reverse s = popT (halfR (L.take k)) s ∧ Ow wq w.heap.size (.slice q N.length cap') N ∧ Below w.heap.size w wq) (fun sv _ => lenV sv)
      case atStart => exact ⟨q, cap', M, rfl, hMl, hMok, by rw [hM], hO, hb⟩
      case round =>
        clear hO hb hMl hMok hM
        obtain ⟨q, cap', N, rfl, hNl, hNok, hNp, hO, hb⟩ := hrel
        by_cases h2 : 2 ≤ N.length
        · obtain ⟨A, u, v, hA⟩ := split2 h2
          obtain ⟨gq, rfl, hgq, _, hcap⟩ := hO.some (by omega)
          have hu := hNok u (by simp [hA])
          have hv := hNok v (by simp [hA])
          obtain ⟨m2, hm2⟩ : ∃ m2, m2 = A.length := ⟨_, rfl⟩
          obtain ⟨m1, hm1⟩ : ∃ m1, m1 = A.length + 1 := ⟨_, rfl⟩
          have hAl : A.length + 2 = N.length := by simp [hA]
          have hN2 : N[m2]? = some u := by rw [hA, hm2]; simp
          have hN1 : N[m1]? = some v := by rw [hA, hm1]; simp
          have hS : ∀ w', (Ow w' w.heap.size (.slice (some ⟨gq, 0, none⟩) N.length cap') N ∧ Below w.heap.size w w') → ((w'.cell? ⟨gq, m2 * 2, none⟩ = some (.int .i64 u.x) ∧ w'.cell? ⟨gq, m2 * 2 + 1, none⟩ = some (.int .i64 u.y)) ∧ (w'.cell? ⟨gq, m1 * 2, none⟩ = some (.int .i64 v.x) ∧ w'.cell? ⟨gq, m1 * 2 + 1, none⟩ = some (.int .i64 v.y)) ∧ (w'.cell? ⟨g, off + k * 2, none⟩ = some (.int .i64 s.x) ∧ w'.cell? ⟨g, off + k * 2 + 1, none⟩ = some (.int .i64 s.y))) :=
            fun w' h => ⟨by simpa using (Ow.cs h.1).2 m2 u hN2, by simpa using (Ow.cs h.1).2 m1 v hN1, (hC.step h.2).2 k s hLk⟩
          have hcc := hS _ ⟨hO, hb⟩
          have hkp : ∀ {w' w'' : World}, (Ow w' w.heap.size (.slice (some ⟨gq, 0, none⟩) N.length cap') N ∧ Below w.heap.size w w') → Below w'.heap.size w' w'' → (Ow w'' w.heap.size (.slice (some ⟨gq, 0, none⟩) N.length cap') N ∧ Below w.heap.size w w'') := fun h hb => ⟨own_of_below h.1 hb, bstep h.2 hb (Nat.le_refl _)⟩
          generalize hcv : crT u v s = cv
          have hpp := @pop_two A u v s
          rw [hcv, ← hA] at hpp
          have hm1n : m1 + 1 = N.length := by omega
          have hA1 : (A ++ [u]).length = m1 := by simp [hm1]
          have hA2 : N = (A ++ [u]) ++ [v] := by rw [hA]; simp
          have HA : Hid ((A ++ [u]).length = m1 ∧ N = (A ++ [u]) ++ [v] ∧ ∀ c ∈ A ++ [u], c.ok = true) := ⟨hA1, hA2, fun c hc => hNok c (by rw [hA2]; exact List.mem_append_left _ hc)⟩
          have HPP : Hid (popT N.reverse s = if cv ≤ 0 then popT (A ++ [u]).reverse s else N.reverse) := hpp
          have HNP : Hid (popT N.reverse s = popT (halfR (L.take k)) s) := hNp
          have hd2 : decide ((2 : Int) ≤ (N.length : Int)) = true := decide_eq_true (by omega)
          have ha2 : IntKind.i64.wrap ((N.length : Int) - 2) = m2 := by rw [IntKind.wrap_i64]; omega
          have ha1 : IntKind.i64.wrap ((N.length : Int) - 1) = m1 := by rw [IntKind.wrap_i64]; omega
          have hb0 : (0 : Int) ≤ (m2 : Int) := by omega
          have hb1 : (m2 : Int) < (N.length : Int) := by omega
          have hb3 : (0 : Int) ≤ (m1 : Int) := by omega
          have hb4 : (m1 : Int) < (N.length : Int) := by omega
          have hk0 : (0 : Int) ≤ (k : Int) := by omega
          have hm1c : m1 ≤ cap' := by omega
          clear hA hA1 hA2 hm1 hm2 hAl hN1 hN2 hpp hNp hNok hm1n h2 hC0
          rcases Int.lt_or_le 0 cv with hcl | hcl
          · have hdc : decide (cv ≤ 0) = false := decide_eq_false (by omega)
            go_wp2_with fail
            go_region_held3 (fun w' => (Ow w' w.heap.size (.slice (some ⟨gq, 0, none⟩) N.length cap') N ∧ Below w.heap.size w w') ∧ ((w'.cell? ⟨gq, m2 * 2, none⟩ = some (.int .i64 u.x) ∧ w'.cell? ⟨gq, m2 * 2 + 1, none⟩ = some (.int .i64 u.y)) ∧ (w'.cell? ⟨gq, m1 * 2, none⟩ = some (.int .i64 v.x) ∧ w'.cell? ⟨gq, m1 * 2 + 1, none⟩ = some (.int .i64 v.y)) ∧ (w'.cell? ⟨g, off + k * 2, none⟩ = some (.int .i64 s.x) ∧ w'.cell? ⟨g, off + k * 2 + 1, none⟩ = some (.int .i64 s.y)))) (first | exact ‹(World.ownsRow _ _ _ _ _ _ _ ∧ _) ∧ _› | exact keepS hS (hkp (‹(World.ownsRow _ _ _ _ _ _ _ ∧ _) ∧ _›).1 hb2) | exact keepS hS (hkp ⟨hO, hb⟩ (Below.refl _ _).drew) | fail)
              (first | (go_at_call 42; refine (l4Cross_v hcv hu hv hsok _).mono ?_; rintro e w1 ⟨rfl, hb2⟩))
            clear hO hb hcc
            obtain ⟨⟨hO, hb⟩, hcc⟩ := ‹(World.ownsRow _ _ _ _ _ _ _ ∧ _) ∧ _›
            have hE : N.reverse = popT (halfR (L.take k)) s := by rw [← HNP.out, HPP.out, if_neg (by omega)]
            have HE : Hid (N.reverse = popT (halfR (L.take k)) s) := hE
            clear hE
            obtain ⟨c0, c1⟩ := (hC.step hb).2 k s hLk
            go_wp2_with (at_builtin; refine wpList_append_lies _ rfl _ _ 24 rfl w.heap.size 38 i0 (.agg #[.int .i64 0, .int .i64 0]) 2 16 Try.underlying24 hi hz0 hz1 hz2 rfl (by decide) _ _ _ rfl (hO.alloc _) _ 1 1 s.vs rfl rfl (cell_two_at rfl) (fun x hx => by simp [T2.vs] at hx; rcases hx with rfl | rfl <;> rfl) (by decide) (by unfold maxLen; omega) (by omega) (by have := hb.size; simp; omega) _ rfl ?_; intro g' cap2 w4 hown1 hgrow hat hlt4)
            go_roundw
            case rel =>
              have hfs : flat N ++ s.vs = flat (N ++ [s]) := by rw [flat_append]; simp [flat]
              rw [hfs] at hown1
              refine ⟨k + 1, some ⟨g', 0, none⟩, cap2, N ++ [s], by omega, by go_num, by simp, by rw [HT.out, List.reverse_append, HE.out]; rfl, ?_, bel_grown (hb.alloc hb.size _) hgrow (fun r hr => (hO.lt r hr).1) (Nat.le_refl _)⟩
              rw [show (N ++ [s]).length = N.length + 1 by simp]
              unfold Ow
              rw [show (N ++ [s]).length = N.length + 1 by simp]
              exact hown1
            case measure => simp [intOf]; omega
          · have hdc : decide (cv ≤ 0) = true := decide_eq_true hcl
            go_wp2_with fail
            go_region_held3 (fun w' => (Ow w' w.heap.size (.slice (some ⟨gq, 0, none⟩) N.length cap') N ∧ Below w.heap.size w w') ∧ ((w'.cell? ⟨gq, m2 * 2, none⟩ = some (.int .i64 u.x) ∧ w'.cell? ⟨gq, m2 * 2 + 1, none⟩ = some (.int .i64 u.y)) ∧ (w'.cell? ⟨gq, m1 * 2, none⟩ = some (.int .i64 v.x) ∧ w'.cell? ⟨gq, m1 * 2 + 1, none⟩ = some (.int .i64 v.y)) ∧ (w'.cell? ⟨g, off + k * 2, none⟩ = some (.int .i64 s.x) ∧ w'.cell? ⟨g, off + k * 2 + 1, none⟩ = some (.int .i64 s.y)))) (first | exact ‹(World.ownsRow _ _ _ _ _ _ _ ∧ _) ∧ _› | exact keepS hS (hkp (‹(World.ownsRow _ _ _ _ _ _ _ ∧ _) ∧ _›).1 hb2) | exact keepS hS (hkp ⟨hO, hb⟩ (Below.refl _ _).drew) | fail)
              (first | (go_at_call 42; refine (l4Cross_v hcv hu hv hsok _).mono ?_; rintro e w1 ⟨rfl, hb2⟩))
            clear hO hb hcc
            obtain ⟨⟨hO, hb⟩, hcc⟩ := ‹(World.ownsRow _ _ _ _ _ _ _ ∧ _) ∧ _›
            go_wp2
            go_roundw
            case rel =>
              refine ⟨some ⟨gq, 0, none⟩, cap', A ++ [u], by rw [HA.out.1], by rw [HA.out.1]; omega, HA.out.2.2, ?_, ?_, hb⟩
              · rw [← HNP.out, HPP.out, if_pos hcl]
              · have hO' : Ow _ w.heap.size (.slice (some ⟨gq, 0, none⟩) N.length cap') N := hO
                unfold Ow at hO' ⊢
                rw [HA.out.1]
                have hq := HA.out.2.1
                have hln : N.length = m1 + 1 := by rw [hq, List.length_append, HA.out.1]; rfl
                rw [hln] at hO'
                rw [hq] at hO'
                exact own_take hO' HA.out.1.symm (by omega)
            case measure => simp [lenV]; omega
        · have hd2 : decide ((2 : Int) ≤ (N.length : Int)) = false := decide_eq_false (by omega)
          have hE : N.reverse = popT (halfR (L.take k)) s := by rw [← hNp, pop_short (by omega)]
          have HE : Hid (N.reverse = popT (halfR (L.take k)) s) := hE
          clear hE
          clear hNp hNok hC0
          go_wp2_with fail
          go_quiet (fail)
          obtain ⟨c0, c1⟩ := (hC.step hb).2 k s hLk
          go_wp2_with (at_builtin; refine wpList_append_lies _ rfl _ _ 24 rfl w.heap.size 38 i0 (.agg #[.int .i64 0, .int .i64 0]) 2 16 Try.underlying24 hi hz0 hz1 hz2 rfl (by decide) _ _ _ rfl ((own_of_below hO (below_drewN _ _)).alloc _) _ 1 1 s.vs rfl rfl (cell_two_at rfl) (fun x hx => by simp [T2.vs] at hx; rcases hx with rfl | rfl <;> rfl) (by decide) (by unfold maxLen; omega) (by omega) (by have := hb.size; simp; omega) _ rfl ?_; intro g' cap2 w4 hown1 hgrow hat hlt4)
          go_roundw
          case rel =>
            have hfs : flat N ++ s.vs = flat (N ++ [s]) := by rw [flat_append]; simp [flat]
            rw [hfs] at hown1
            refine ⟨k + 1, some ⟨g', 0, none⟩, cap2, N ++ [s], by omega, by go_num, by simp, by rw [HT.out, List.reverse_append, HE.out]; rfl, ?_, bel_grown ((bdrewN hb _).alloc (bdrewN hb _).size _) hgrow (fun r hr => (hO.lt r hr).1) (Nat.le_refl _)⟩
            rw [show (N ++ [s]).length = N.length + 1 by simp]
            unfold Ow
            rw [show (N ++ [s]).length = N.length + 1 by simp]
            exact hown1
          case measure => simp [intOf]; omega
    · obtain rfl : k = L.length := by omega
      rw [List.take_length] at hM
      have hM' : M = (halfR L).reverse := by rw [← hM, List.reverse_reverse]
      subst hM'
      go_wp2
      go_ret
      exact ⟨q, cap', rfl, hO, hb⟩
end Go.Proofs.Ytkpkigllabhejaa
