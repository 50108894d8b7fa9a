/-
  The law of Planted, walked.
-/
import Derived.Test.YtipfcmfcdfofmaaXT
import Derived.Test.YtipfcmfcdfofmaaS4
import Derived.Deep.Cut
namespace Go.Proofs.Ytipfcmfcdfofmaa
open Go.RowKit Go.Joins
attribute [local go_sem] Oper.semAt_some

theorem szMarkS_ok (p : Option Addr) (n cap : Nat) (w : World) (h : (n : Int) ≤ 1048576) : Calls Try.prog 13 #[.slice p n cap, .int .i64 1048576] w fun e w' => e = .returned (.int .i64 (1048576 - n)) ∧ w' = w := by
  have h0 : ¬ (1048576 : Int) - n < 0 := by omega
  go_enter Try.func13, Try.ntmps13
  go_wp2
  go_ret
  exact ⟨rfl, rfl⟩
theorem szMarkS_no (p : Option Addr) (n cap : Nat) (w : World) (h : (1048576 : Int) < n) (hm : n ≤ maxLen) : Calls Try.prog 13 #[.slice p n cap, .int .i64 1048576] w fun e w' => e = .returned (.int .i64 (-1)) ∧ w' = w := by
  have h0 : (1048576 : Int) - n < 0 := by omega
  unfold maxLen at hm
  go_enter Try.func13, Try.ntmps13
  go_wp2
  go_ret
  exact ⟨rfl, rfl⟩
set_option maxRecDepth 100000 in
set_option maxHeartbeats 8000000 in
theorem exactPlanted (p : Option Addr) (cap : Nat) (L : List Mk) (l : Nat) (hl : L.length = l) (w : World) (hL : SlG kL w p L) (hm : l ≤ maxLen) :
    Calls Try.prog 4 #[.slice p l cap] w fun e w' => e = .returned (.bool true) ∧ Below w.heap.size w w' := by
  by_cases hn : l ≤ 1048576
  · have hni : (l : Int) ≤ 1048576 := by omega
    have hn0 : ¬ (1048576 : Int) - l < 0 := by omega
    obtain ⟨M, hM⟩ : ∃ M, plM L = M := ⟨_, rfl⟩
    obtain ⟨ts, hts⟩ : ∃ ts, plN L = ts := ⟨_, rfl⟩
    have hMb := plM_bd L
    have hTb := plN_bd L
    rw [hM] at hMb
    rw [hts] at hTb
    obtain ⟨m, hml⟩ : ∃ m, M.length = m := ⟨_, rfl⟩
    obtain ⟨n, hnl⟩ : ∃ n, ts.length = n := ⟨_, rfl⟩
    rw [hml] at hMb
    rw [hnl] at hTb
    have hm1 : m ≤ 1000 := by omega
    have hn1 : n ≤ 1000 := by omega
    have HTO : Hid (∀ W, Below w.heap.size w W → Calls Try.prog 15 #[.slice p l cap] W fun e w' => ∃ g, e = .returned (.slice (some ⟨g, 0, none⟩) l l) ∧ Sg W w' [rG kM (.slice (some ⟨g, 0, none⟩) l l) L]) := fun W h => toMarkS_any p cap L l hl W (hL.step h) (by omega)
    have HSP : Hid (∀ W g c, SlG kM W (some ⟨g, 0, none⟩) L → Calls Try.prog 14 #[.slice (some ⟨g, 0, none⟩) l c] W fun e w' => ∃ q c q2 c2 NL, e = .returned (.agg #[.slice q m c, .slice q2 n c2]) ∧ NL.map Prod.fst = ts ∧ Sg W w' (treeR (.slice q m c) (.slice q2 n c2) M NL)) := fun W g c h => by
      have := sPlanted_any ⟨g, 0, none⟩ c L l hl (by omega) W h hM hts
      rw [hml, hnl] at this; exact this
    have HIP : Hid (∀ W g c, SlG kM W (some ⟨g, 0, none⟩) L → Calls Try.prog 16 #[.slice (some ⟨g, 0, none⟩) l c] W fun e w' => ∃ q c q2 c2 NL, e = .returned (.agg #[.slice q m c, .slice q2 n c2]) ∧ NL.map Prod.fst = ts ∧ Sg W w' (treeR (.slice q m c) (.slice q2 n c2) M NL)) := fun W g c h => by
      have := iPlanted_any (some ⟨g, 0, none⟩) c L l hl (by omega) W h hM hts
      rw [hml, hnl] at this; exact this
    have hNLb : ∀ NL : List (Nd × Sv), NL.map Prod.fst = ts → NL.length = n ∧ ∀ x ∈ NL, x.1.ps.length ≤ 1000 := fun NL h => ⟨by rw [← hnl, ← h]; simp, fun x hx => by
      have := hTb.2 x.1 (by rw [← h]; exact List.mem_map_of_mem hx); omega⟩
    have HNB : Hid (∀ NL : List (Nd × Sv), NL.map Prod.fst = ts → NL.length = n ∧ ∀ x ∈ NL, x.1.ps.length ≤ 1000) := hNLb
    have HML : Hid (M.length = m ∧ L.length = l) := ⟨hml, hl⟩
    clear hM hts hMb hTb hml hnl hNLb hl hL
    have hx0 := Sg.nil w
    go_enter Try.func4, Try.ntmps4
    go_upto_region 6 with (first
      | (go_at_call 13; refine (szMarkS_ok _ _ _ _ hni).mono ?_; rintro e w1 ⟨rfl, hw⟩; have hw' := hw.symm; clear hw; subst hw')
      | (go_at_call 15; refine (HTO.out _ hx0.bel).mono ?_; rintro e w1 ⟨g1, rfl, h1⟩; replace hx0 := hx0.addL h1)
      | (go_at_call 14; refine (HSP.out _ g1 _ (OwG.sl (hx0.mem (K := kM) (v := .slice (some ⟨g1, 0, none⟩) l l) (L := L) (by simp)))).mono ?_; rintro e w2 ⟨q1, c1, q2, c2, NW, rfl, hNW, h2⟩; have hx1 := (hx0.base h2).lit kT [(⟨q1, m, c1⟩, ⟨q2, n, c2⟩)] 1 rfl (by decide) #[.slice q1 m c1, .slice q2 n c2] rfl))
    obtain ⟨b4, hb4⟩ : ∃ b, w2.heap.size = b := ⟨_, rfl⟩
    change Sg w (w2.alloc (.cells #[.slice q1 m c1, .slice q2 n c2] 27)) _ at hx1
    rw [hb4] at hx1 ⊢
    obtain ⟨W2, hW2⟩ : ∃ W, w2.alloc (.cells #[.slice q1 m c1, .slice q2 n c2] 27) = W := ⟨_, rfl⟩
    rw [hW2] at hx1 ⊢
    clear hx0 h1 h2 hW2 hb4
    go_upto_region 8 with (first
      | (go_at_call 15; refine (HTO.out _ hx1.bel).mono ?_; rintro e w3 ⟨g3, rfl, h3⟩; have hx2 := hx1.addL h3)
      | (go_at_call 16; refine (HIP.out _ g3 _ (OwG.sl (hx2.mem (K := kM) (v := .slice (some ⟨g3, 0, none⟩) l l) (L := L) (by simp)))).mono ?_; rintro e w4 ⟨q4, c4, q5, c5, NG, rfl, hNG, h4⟩; have hx3 := (hx2.addL h4).lit kT [(⟨q4, m, c4⟩, ⟨q5, n, c5⟩)] 1 rfl (by decide) #[.slice q4 m c4, .slice q5 n c5] rfl))
    obtain ⟨b6, hb6⟩ : ∃ b, w4.heap.size = b := ⟨_, rfl⟩
    change Sg w (w4.alloc (.cells #[.slice q4 m c4, .slice q5 n c5] 27)) _ at hx3
    rw [hb6] at hx3 ⊢
    obtain ⟨W4, hW4⟩ : ∃ W, w4.alloc (.cells #[.slice q4 m c4, .slice q5 n c5] 27) = W := ⟨_, rfl⟩
    rw [hW4] at hx3 ⊢
    have hx : Sg w W4 ([rG kT (.slice (some ⟨b6, 0, none⟩) 1 1) [(⟨q4, m, c4⟩, ⟨q5, n, c5⟩)]] ++ (treeR (.slice q4 m c4) (.slice q5 n c5) M NG ++ (rG kM (.slice (some ⟨g3, 0, none⟩) l l) L :: rG kT (.slice (some ⟨b4, 0, none⟩) 1 1) [(⟨q1, m, c1⟩, ⟨q2, n, c2⟩)] :: treeR (.slice q1 m c1) (.slice q2 n c2) M NW))) := by simpa using hx3
    clear hx1 hx2 hx3 h3 h4 hW4 hb6
    obtain ⟨u0, u1, _, ug⟩ := hx.two (K := kT) (g := b6) (c := 1) (p := (⟨q4, m, c4⟩, ⟨q5, n, c5⟩)) (by simp [treeR]) rfl
    obtain ⟨v0, v1, _, vg⟩ := hx.two (K := kT) (g := b4) (c := 1) (p := (⟨q1, m, c1⟩, ⟨q2, n, c2⟩)) (by simp [treeR]) rfl
    go_upto_region 10 with (go_at_call 17; refine (eqTree_same q4 q1 q5 q2 c4 c1 c5 c2 M m HML.out.1 NG NW n (HNB.out NG hNG).1 (by rw [hNG, hNW]) hm1 hn1 (HNB.out NG hNG).2 _ (OwG.sl (hx.mem (K := kM) (v := .slice q4 m c4) (L := M) (by simp [treeR]))) (OwG.sl (hx.mem (K := kM) (v := .slice q1 m c1) (L := M) (by simp [treeR]))) (hx.rdN (n := n) (c := c5) (NL := NG) (fun r hr => by simp [treeR, hr])) (hx.rdN (n := n) (c := c2) (NL := NW) (fun r hr => by simp [treeR, hr]))).mono ?_; rintro e w5 ⟨rfl, hb5⟩; replace hx := hx.step hb5; clear u0 u1 ug v0 v1 vg; obtain ⟨u0, u1, _, ug⟩ := hx.two (K := kT) (g := b6) (c := 1) (p := (⟨q4, m, c4⟩, ⟨q5, n, c5⟩)) (by simp [treeR]) rfl; obtain ⟨v0, v1, _, vg⟩ := hx.two (K := kT) (g := b4) (c := 1) (p := (⟨q1, m, c1⟩, ⟨q2, n, c2⟩)) (by simp [treeR]) rfl)
    go_upto_region 12 with (first
      | (go_at_call 15; refine (HTO.out _ hx.bel).mono ?_; rintro e w6 ⟨g6, rfl, h6⟩; replace hx := hx.step h6.bel)
      | (go_at_call 18; refine (eqMarkS_same _ _ _ _ L l HML.out.2 _ (OwG.sl (hx.mem (K := kM) (v := .slice (some ⟨g3, 0, none⟩) l l) (L := L) (by simp))) (OwG.sl (h6.mem (K := kM) (v := .slice (some ⟨g6, 0, none⟩) l l) (L := L) (by simp))) (by omega)).mono ?_; rintro e w7 ⟨rfl, hb7⟩; replace hx := hx.step hb7; clear u0 u1 ug v0 v1 vg; obtain ⟨u0, u1, _, ug⟩ := hx.two (K := kT) (g := b6) (c := 1) (p := (⟨q4, m, c4⟩, ⟨q5, n, c5⟩)) (by simp [treeR]) rfl; obtain ⟨v0, v1, _, vg⟩ := hx.two (K := kT) (g := b4) (c := 1) (p := (⟨q1, m, c1⟩, ⟨q2, n, c2⟩)) (by simp [treeR]) rfl))
    have hxm : Sg w w7 ((rG kT (.slice (some ⟨b6, 0, none⟩) 1 1) [(⟨q4, m, c4⟩, ⟨q5, n, c5⟩)] :: treeR (.slice q4 m c4) (.slice q5 n c5) M NG) ++ rG kM (.slice (some ⟨g3, 0, none⟩) l l) L :: (rG kT (.slice (some ⟨b4, 0, none⟩) 1 1) [(⟨q1, m, c1⟩, ⟨q2, n, c2⟩)] :: treeR (.slice q1 m c1) (.slice q2 n c2) M NW)) := by simpa using hx
    have hl3 : ¬ (1 : Int) + 3 * (l : Int) < 0 := by omega
    go_upto_region 14 with (go_at_call 19; refine (markMarkS_any _ l l 1 L _ _ w _ hxm (by omega) (by omega) (by omega)).mono ?_; rintro e w8 ⟨rfl, hx8⟩)
    clear hx hxm u0 u1 ug v0 v1 vg
    have hx : Sg w w8 ([rG kT (.slice (some ⟨b6, 0, none⟩) 1 1) [(⟨q4, m, c4⟩, ⟨q5, n, c5⟩)]] ++ (treeR (.slice q4 m c4) (.slice q5 n c5) M NG ++ (rG kM (.slice (some ⟨g3, 0, none⟩) l l) (mkM 1 l) :: rG kT (.slice (some ⟨b4, 0, none⟩) 1 1) [(⟨q1, m, c1⟩, ⟨q2, n, c2⟩)] :: treeR (.slice q1 m c1) (.slice q2 n c2) M NW))) := by simpa using hx8
    clear hx8
    obtain ⟨u0, u1, _, ug⟩ := hx.two (K := kT) (g := b6) (c := 1) (p := (⟨q4, m, c4⟩, ⟨q5, n, c5⟩)) (by simp [treeR]) rfl
    obtain ⟨v0, v1, _, vg⟩ := hx.two (K := kT) (g := b4) (c := 1) (p := (⟨q1, m, c1⟩, ⟨q2, n, c2⟩)) (by simp [treeR]) rfl
    go_upto_region 17 with (go_at_call 17; refine (eqTree_same q4 q1 q5 q2 c4 c1 c5 c2 M m HML.out.1 NG NW n (HNB.out NG hNG).1 (by rw [hNG, hNW]) hm1 hn1 (HNB.out NG hNG).2 _ (OwG.sl (hx.mem (K := kM) (v := .slice q4 m c4) (L := M) (by simp [treeR]))) (OwG.sl (hx.mem (K := kM) (v := .slice q1 m c1) (L := M) (by simp [treeR]))) (hx.rdN (n := n) (c := c5) (NL := NG) (fun r hr => by simp [treeR, hr])) (hx.rdN (n := n) (c := c2) (NL := NW) (fun r hr => by simp [treeR, hr]))).mono ?_; rintro e w9 ⟨rfl, hb9⟩; replace hx := hx.step hb9; clear u0 u1 ug v0 v1 vg; obtain ⟨u0, u1, _, ug⟩ := hx.two (K := kT) (g := b6) (c := 1) (p := (⟨q4, m, c4⟩, ⟨q5, n, c5⟩)) (by simp [treeR]) rfl; obtain ⟨v0, v1, _, vg⟩ := hx.two (K := kT) (g := b4) (c := 1) (p := (⟨q1, m, c1⟩, ⟨q2, n, c2⟩)) (by simp [treeR]) rfl)
    obtain ⟨z, hz⟩ : ∃ z, endK (1 + 3 * m) NG = z := ⟨_, rfl⟩
    have hzb := endK_bd (1 + 3 * m) NG (HNB.out NG hNG).2
    rw [hz] at hzb
    have hz0 : ¬ z < 0 := by omega
    have HMT := markTree_any q4 q5 m n c4 c5 M NG _ _ w _ hx hm1 hn1 (HNB.out NG hNG).2
    rw [hz] at HMT
    have HZ : Hid (endK (1 + 3 * m) NG = z) := hz
    clear hz hzb
    go_upto_region 19 with (go_at_call 20; refine HMT.mono ?_; rintro e w10 ⟨rfl, hx10⟩)
    clear hx u0 u1 ug v0 v1 vg
    have hx := hx10
    clear hx10 HMT
    obtain ⟨u0, u1, _, ug⟩ := hx.two (K := kT) (g := b6) (c := 1) (p := (⟨q4, m, c4⟩, ⟨q5, n, c5⟩)) (by simp [treeR]) rfl
    obtain ⟨v0, v1, _, vg⟩ := hx.two (K := kT) (g := b4) (c := 1) (p := (⟨q1, m, c1⟩, ⟨q2, n, c2⟩)) (by simp [treeR]) rfl
    have HHT : Hid (∀ W rs, Sg w W rs → (∀ r ∈ treeR (.slice q4 m c4) (.slice q5 n c5) (mkM 1 m) (mkNs (1 + 3 * m) NG), r ∈ rs) → Calls Try.prog 21 #[.agg #[.slice q4 m c4, .slice q5 n c5], .int .i64 1] W fun e w' => e = .returned (.int .i64 z) ∧ Below W.heap.size W w') := fun W rs h hm => by
      rw [← HZ.out]
      exact heldTree_any q4 q5 m n c4 c5 NG (HNB.out NG hNG).1 W (OwG.sl (h.mem (K := kM) (v := .slice q4 m c4) (L := mkM 1 m) (hm _ (by simp [treeR])))) (h.rdN (n := n) (c := c5) (fun r hr => hm r (by simp [treeR, hr]))) hm1 hn1 (HNB.out NG hNG).2
    go_upto_region 20 with (go_at_call 21; refine (HHT.out _ _ hx (fun r hr => by simp [hr])).mono ?_; rintro e w11 ⟨rfl, hb11⟩; replace hx := hx.step hb11; clear u0 u1 ug v0 v1 vg; obtain ⟨u0, u1, _, ug⟩ := hx.two (K := kT) (g := b6) (c := 1) (p := (⟨q4, m, c4⟩, ⟨q5, n, c5⟩)) (by simp [treeR]) rfl; obtain ⟨v0, v1, _, vg⟩ := hx.two (K := kT) (g := b4) (c := 1) (p := (⟨q1, m, c1⟩, ⟨q2, n, c2⟩)) (by simp [treeR]) rfl)
    go_upto_region 25 with (first
      | (go_at_call 15; refine (HTO.out _ hx.bel).mono ?_; rintro e w12 ⟨g12, rfl, h12⟩; replace hx := hx.step h12.bel)
      | (go_at_call 16; refine (HIP.out _ g12 _ (OwG.sl (h12.mem (K := kM) (v := .slice (some ⟨g12, 0, none⟩) l l) (L := L) (by simp)))).mono ?_; rintro e w13 ⟨q7, c7, q8, c8, NH, rfl, hNH, h13⟩; have hy := (hx.addL h13).step (below_alloc1 _ (.cells #[.slice q7 m c7, .slice q8 n c8] 27)); clear u0 u1 ug v0 v1 vg; obtain ⟨u0, u1, _, ug⟩ := hy.two (K := kT) (g := b6) (c := 1) (p := (⟨q4, m, c4⟩, ⟨q5, n, c5⟩)) (by simp [treeR]) rfl; obtain ⟨v0, v1, _, vg⟩ := hy.two (K := kT) (g := b4) (c := 1) (p := (⟨q1, m, c1⟩, ⟨q2, n, c2⟩)) (by simp [treeR]) rfl))
    go_upto_region 28 with (go_at_call 17; refine (eqTree_same q7 q1 q8 q2 c7 c1 c8 c2 M m HML.out.1 NH NW n (HNB.out NH hNH).1 (by rw [hNH, hNW]) hm1 hn1 (HNB.out NH hNH).2 _ (OwG.sl (hy.mem (K := kM) (v := .slice q7 m c7) (L := M) (by simp [treeR]))) (OwG.sl (hy.mem (K := kM) (v := .slice q1 m c1) (L := M) (by simp [treeR]))) (hy.rdN (n := n) (c := c8) (NL := NH) (fun r hr => by simp [treeR, hr])) (hy.rdN (n := n) (c := c2) (NL := NW) (fun r hr => by simp [treeR, hr]))).mono ?_; rintro e w14 ⟨rfl, hb14⟩; replace hy := hy.step hb14; clear u0 u1 ug v0 v1 vg; obtain ⟨u0, u1, _, ug⟩ := hy.two (K := kT) (g := b6) (c := 1) (p := (⟨q4, m, c4⟩, ⟨q5, n, c5⟩)) (by simp [treeR]) rfl; obtain ⟨v0, v1, _, vg⟩ := hy.two (K := kT) (g := b4) (c := 1) (p := (⟨q1, m, c1⟩, ⟨q2, n, c2⟩)) (by simp [treeR]) rfl)
    go_wp2_with (go_at_call 21; refine (HHT.out _ _ hy (fun r hr => by simp [hr])).mono ?_; rintro e w15 ⟨rfl, hb15⟩; replace hy := hy.step hb15)
    go_ret
    exact ⟨rfl, hy.bel⟩
  · have hni : (1048576 : Int) < l := by omega
    go_enter Try.func4, Try.ntmps4
    go_wp2_with (go_at_call 13; refine (szMarkS_no _ _ _ _ hni hm).mono ?_; rintro e w1 ⟨rfl, rfl⟩)
    go_ret
    exact ⟨rfl, Below.refl _ _⟩
end Go.Proofs.Ytipfcmfcdfofmaa
