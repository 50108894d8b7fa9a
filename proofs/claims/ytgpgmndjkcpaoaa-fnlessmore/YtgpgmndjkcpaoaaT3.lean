/-
  Which two Rects touch: the spec's.
-/
import Derived.Test.YtgpgmndjkcpaoaaT2
namespace Go.Proofs.Ytgpgmndjkcpaoaa
open Go.RowKit Go.Joins
attribute [local go_sem] Oper.semAt_some

theorem ow27_new (w : World) : (w.alloc (.cells #[] 27)).ownsRow w.heap.size 27 1 (.slice (some ⟨w.heap.size, 0, none⟩) 0 0) 0 [] :=
  World.ownsRow_made (base := w.heap.size) (e := 27) (size := 1) w #[] 0 (Nat.le_refl _) (by unfold maxLen; omega) rfl

set_option maxRecDepth 100000 in
set_option maxHeartbeats 8000000 in
theorem sTouching_any (p : Option Addr) (cap : Nat) (L : List T4) (w : World) (hL : Sl4 w p L) (hn : L.length ≤ 1048576) {v : List (Int × Int)} (hv : pI (tcL L) = v) :
    Calls Try.prog 20 #[.slice p L.length cap] w fun e w' => ∃ p1 cap1 gs, e = .returned (.slice p1 v.length cap1) ∧ gs.length = v.length ∧ Sg w w' (prR (.slice p1 v.length cap1) gs v) := by
  cases hs : okL L
  · have hv' : v = [] := by rw [← hv]; simp [tcL, hs, pI]
    subst hv'
    clear hv
    go_enter Try.func20, Try.ntmps20
    go_wp2_with (go_at_call 45; refine (l7Rects_v hs _ _ _ (hL.step (below_alloc1 _ _)) hn).mono ?_; rintro e w1 ⟨rfl, hb2⟩)
    go_ret
    exact ⟨some ⟨w.heap.size, 0, none⟩, 0, [], rfl, rfl, ⟨ba1 hb2, fun r hr => by simp [prR, inR2] at hr; subst hr; exact own_of_below (ow27_new w) hb2, by simp [prR, inR2]⟩⟩
  · have hvv : pI (tcO L L.length) = v := by rw [← hv]; simp [tcL, hs]
    have h12 := okL_len hs
    have HOK : Hid (okL L = true) := hs
    have HAR : Hid (∀ W, Sl4 W p L → Calls Try.prog 45 #[.slice p L.length cap] W fun e w' => e = .returned (.bool true) ∧ Below W.heap.size W w') := fun W h => l7Rects_v hs p cap W h hn
    obtain ⟨N, hN⟩ : ∃ N, L.length = N := ⟨_, rfl⟩
    have HN : Hid (L.length = N) := hN
    simp only [hN] at HAR h12 hvv ⊢
    have HVV : Hid (pI (tcO L N) = v) := hvv
    clear hv hs hn hN hvv
    obtain ⟨i0, hi0, hz0, hz1, hz2⟩ := info_parts info27
    go_enter Try.func20, Try.ntmps20
    go_wp2_with (go_at_call 45; refine (HAR.out _ (hL.step (below_alloc1 _ _))).mono ?_; rintro e w1 ⟨rfl, hb2⟩)
    have hS0 : Sg w w1 (prR (.slice (some ⟨w.heap.size, 0, none⟩) 0 0) [] []) := ⟨ba1 hb2, fun r hr => by simp [prR, inR2] at hr; subst hr; exact own_of_below (ow27_new w) hb2, by simp [prR, inR2]⟩
    clear hb2 HAR
    go_loopw [3, 4] (fun s3 iv wr => ∃ (i n c : Nat) (q : Option Addr) (gs : List Nat) (M : List (Int × Int)), i ≤ N ∧ n ≤ 12 * i ∧ iv = .int .i64 i ∧ s3 = .slice q n c ∧ Hid (M = pI (tcO L i) ∧ M.length = n ∧ gs.length = n) ∧ Sg w wr (prR (.slice q n c) gs M)) (fun _ iv _ => N - (intOf iv).toNat)
    case atStart => exact ⟨0, 0, 0, some ⟨w.heap.size, 0, none⟩, [], [], by omega, by omega, rfl, rfl, ⟨rfl, rfl, rfl⟩, hS0⟩
    case round =>
      rename World => wo
      clear hS0
      obtain ⟨i, n, c, q, gs, M, hi, hn12, rfl, rfl, hM, hS⟩ := hrel
      by_cases hlt : i < N
      · have hii : (i : Int) < N := by omega
        have hiL : i < L.length := by rw [HN.out]; exact hlt
        obtain ⟨g, off, rfl, hC⟩ := (hL.step hS.bel).at hiL
        obtain ⟨c0, c1, c2, c3⟩ := hC.2 i _ (get4 hiL)
        obtain ⟨a, ha⟩ : ∃ a, L.getD i zr4 = a := ⟨_, rfl⟩
        have hao : a.ok = true := by rw [← ha]; exact okL_all HOK.out (L.getD i zr4) (by rw [show L.getD i zr4 = L[i] by simp [List.getD, hiL]]; exact List.getElem_mem hiL)
        rw [ha] at c0 c1 c2 c3
        have HA : Hid (L.getD i zr4 = a ∧ a.ok = true) := ⟨ha, hao⟩
        clear ha hao hC
        have hM0 : Hid (M = pI (tcO L i ++ tcI L i (i + 1)) ∧ M.length = n ∧ gs.length = n) := ⟨by rw [tcI_start, List.append_nil]; exact hM.out.1, hM.out.2⟩
        clear hM c0 c1 c2 c3
        go_wp2
        go_loopw [3, 5] (fun s3 kv wr => ∃ (k n c : Nat) (q : Option Addr) (gs : List Nat) (M : List (Int × Int)), i < k ∧ k ≤ N ∧ n ≤ 12 * i + k ∧ kv = .int .i64 k ∧ s3 = .slice q n c ∧ Hid (M = pI (tcO L i ++ tcI L i k) ∧ M.length = n ∧ gs.length = n) ∧ Sg w wr (prR (.slice q n c) gs M)) (fun _ kv _ => N - (intOf kv).toNat)
        case atStart => exact ⟨i + 1, n, c, q, gs, M, by omega, by omega, by omega, by go_num, rfl, hM0, hS⟩
        case round =>
          clear hM0 hS hn12
          obtain ⟨k, n, c, q, gs, M, hik, hk, hn12, rfl, rfl, hM, hS⟩ := hrel
          by_cases hltk : k < N
          · have hki : (k : Int) < N := by omega
            have hkL : k < L.length := by rw [HN.out]; exact hltk
            obtain ⟨g2, off2, e2, hC⟩ := (hL.step hS.bel).at hkL
            obtain ⟨rfl, rfl⟩ : g2 = g ∧ off2 = off := by injection e2 with e2; injection e2 with e2 e3; exact ⟨e2.symm, e3.symm⟩
            obtain ⟨d0, d1, d2, d3⟩ := hC.2 k _ (get4 hkL)
            obtain ⟨k0, k1, k2, k3⟩ := hC.2 i _ (get4 hiL)
            rw [HA.out.1] at k0 k1 k2 k3
            obtain ⟨b, hbb⟩ : ∃ b, L.getD k zr4 = b := ⟨_, rfl⟩
            have hbo : b.ok = true := by rw [← hbb]; exact okL_all HOK.out (L.getD k zr4) (by rw [show L.getD k zr4 = L[k] by simp [List.getD, hkL]]; exact List.getElem_mem hkL)
            rw [hbb] at d0 d1 d2 d3
            have hst := tcI_step (L := L) hik
            rw [HA.out.1, hbb] at hst
            have HST : Hid (tcI L i (k + 1) = if mtB a b then tcI L i k ++ [(i, k)] else tcI L i k) := hst
            have hgl := hC.1
            clear hst hbb hC e2
            have hgl4 := hgl
            obtain ⟨m, hmv⟩ : ∃ m, mtB a b = m := ⟨_, rfl⟩
            have HMV : Hid (mtB a b = m) := hmv
            clear hmv
            go_wp2
            go_cut [6, 7] from 21 to 45 (fun s7 s8 wx => ∃ r : Nat, s7 = .pointer (some ⟨r, 0, none⟩) ∧ s8 = .bool m ∧ Below wr.heap.size wr wx)
            case first =>
              go_region_with ((go_at_call 47; refine (l1Meet_v HA.out.2 hbo HMV.out _).mono ?_; rintro e w2 ⟨m0, m1, m2, m3, rfl, hb2⟩; obtain ⟨hc, hf⟩ := bcell hb2; have hz2 := hb2.size; simp at hz2))
              all_goals
                go_wp2
                go_meet
                case rel => first
                  | exact ⟨_, rfl, rfl, (bstep (Below.refl wr.heap.size wr).drew hb2 (Nat.le_refl _)).alloc (by omega) _⟩
                  | exact ⟨_, rfl, rfl, sc4 (bstep ((below_alloc1 wr _).drew) hb2 (Nat.le_refl _)) (Nat.le_refl _)⟩
            case rest =>
              obtain ⟨r, rfl, rfl, hbc⟩ := hcut
              have hSc := hS.step hbc
              clear hS k0 k1 k2 k3 d0 d1 d2 d3
              cases m
              · have hMn : Hid (M = pI (tcO L i ++ tcI L i (k + 1)) ∧ M.length = n ∧ gs.length = n) := ⟨by rw [HST.out, HMV.out]; exact hM.out.1, hM.out.2⟩
                go_wp2
                go_roundw
                case rel => exact ⟨k + 1, n, c, q, gs, M, by omega, by omega, by omega, by go_num, rfl, hMn, hSc⟩
                case measure => simp [intOf]; omega
              · have hMn : Hid (M ++ [((i : Int), (k : Int))] = pI (tcO L i ++ tcI L i (k + 1)) ∧ M.length = n ∧ gs.length = n) := ⟨by rw [HST.out, HMV.out, hM.out.1]; simp [pI], hM.out.2⟩
                have hOo : wc.ownsRow w.heap.size 27 1 (.slice q n c) n (gs.map sv) := by
                  have := hSc.o0
                  unfold Rw.own at this
                  simp only at this
                  rw [hM.out.2.2] at this
                  exact this
                have hOo2 := own_of_below hOo ((below_alloc1 wc (.cells #[.int .i64 (i : Int), .int .i64 (k : Int)] 2)))
                have hOo3 := own_of_below hOo2 ((below_alloc1 (wc.alloc (.cells #[.int .i64 (i : Int), .int .i64 (k : Int)] 2)) (.cells #[sv wc.heap.size] 27)))
                have HSc : Hid (Sg w wc (prR (.slice q n c) gs M)) := hSc
                have hwsz := hSc.bel.size
                have hsv : sv wc.heap.size = .slice (some ⟨wc.heap.size, 0, none⟩) 2 2 := rfl
                have HSV : Hid (sv wc.heap.size = .slice (some ⟨wc.heap.size, 0, none⟩) 2 2) := rfl
                rw [hsv] at hOo3
                clear hSc hOo hOo2 hsv
                go_wp2_with (at_builtin; refine wpList_append_lies _ rfl _ _ 29 rfl w.heap.size 27 i0 (.slice none 0 0) 1 24 Try.underlying29 hi0 hz0 hz1 hz2 rfl (by decide) (.slice q n c) n (gs.map sv) rfl hOo3 ⟨wc.heap.size + 1, 0, none⟩ 1 1 [.slice (some ⟨wc.heap.size, 0, none⟩) 2 2] rfl rfl (cell1_at (by simp)) (fun x hx => by simp at hx; rw [hx]; rfl) (by decide) (by unfold maxLen; omega) (by omega) (by simp; omega) _ rfl ?_; intro g' cap2 w4 hown1 hgrow hat hlt4)
                have hS4 := Sg.pair (A := []) (B := []) (M := M) (gs := gs) (v := .slice q n c) (w := w) (W := wc) (by simpa using HSc.out) (x := i) (y := k) (g' := g') (n := n) (cap2 := cap2) (w4 := w4) (by rw [hMn.out.2.1, hMn.out.2.2]) hMn.out.2.2 hown1 hgrow hat
                refine ⟨⟨k + 1, n + 1, cap2, some ⟨g', 0, none⟩, gs ++ [wc.heap.size], M ++ [((i : Int), (k : Int))], by omega, by omega, by omega, by go_num, rfl, ⟨hMn.out.1, by simp [hMn.out.2.1], by simp [hMn.out.2.2]⟩, by simpa using hS4⟩, by simp [intOf]; omega⟩
          · obtain rfl : k = N := by omega
            have hki : ¬ (k : Int) < k := by omega
            go_wp2
            refine ⟨⟨i + 1, n, c, q, gs, M, by omega, by omega, by go_num, rfl, ⟨?_, hM.out.2⟩, hS⟩, by simp [intOf]; omega⟩
            rw [tcO_step, HN.out]; exact hM.out.1
      · obtain rfl : i = N := by omega
        have hM2 : M = v := by rw [hM.out.1]; exact HVV.out
        have hvl : v.length = n := by rw [← hM2]; exact hM.out.2.1
        subst hM2
        have HL : Hid (M.length = n ∧ gs.length = n) := hM.out.2
        clear hM hvl
        go_wp2
        go_ret
        exact ⟨q, c, gs, by rw [HL.out.1]; rfl, by rw [HL.out.1, HL.out.2], by rw [HL.out.1]; exact hS⟩
end Go.Proofs.Ytgpgmndjkcpaoaa
