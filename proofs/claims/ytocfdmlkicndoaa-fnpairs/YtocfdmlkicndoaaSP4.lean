/-
  Spread: the spec's.
-/
import Derived.Test.YtocfdmlkicndoaaSP3
import Derived.Test.YtocfdmlkicndoaaSP1
namespace Go.Proofs.Ytocfdmlkicndoaa
open Go.RowKit Go.Joins
attribute [local go_sem] Oper.semAt_some

theorem cell1_at {w : World} {g : Nat} {a : Value} {t : TypeId} (hg : g = w.heap.size) : ∀ j u, [a][j]? = some u → (w.alloc (.cells #[a] t)).cell? ((⟨g, 0, none⟩ : Addr).add j) = some u := by
  subst hg
  intro j u hj
  have ea : (⟨w.heap.size, 0, none⟩ : Addr).add j = ⟨w.heap.size, j, none⟩ := by unfold Addr.add; split <;> simp_all
  rw [ea, World.cell?_alloc_at _ _ _ _ rfl]
  simpa using hj
theorem bel_grown1 {B : Nat} {w W W' : World} {row : Option Nat} (h : Below B w W) (hg : W.grownBy W' row) (hr : ∀ r, row = some r → B ≤ r) (hB : B ≤ w.heap.size) : Below B w W' :=
  ⟨hg.os.trans h.os, hg.tape.trans h.tape, hg.output.trans h.output, Nat.le_trans h.size hg.size, fun k hk => (hg.block k (Nat.lt_of_lt_of_le hk (Nat.le_trans hB h.size)) (fun e => by have := hr k e.symm; omega)).trans (h.block k hk)⟩
theorem ow1_new (w : World) : Ow1 (w.alloc (.cells #[] 2)) w.heap.size (.slice (some ⟨w.heap.size, 0, none⟩) 0 0) [] :=
  World.ownsRow_made (base := w.heap.size) (e := 2) (size := 1) w #[] 0 (Nat.le_refl _) (by unfold maxLen; omega) rfl

set_option maxRecDepth 100000 in
set_option maxHeartbeats 4000000 in
theorem sSpread_any (p : Option Addr) (cap : Nat) (L : List T2) (w : World) (hL : Sl w p L) (hn : L.length ≤ 1048576) {v : List Int} (hv : spL L = v) :
    Calls Try.prog 18 #[.slice p L.length cap] w fun e w' => ∃ p1 cap1, e = .returned (.slice p1 v.length cap1) ∧ Ow1 w' w.heap.size (.slice p1 v.length cap1) v ∧ Below w.heap.size w w' := by
  have hA := below_alloc1 w (.cells #[] 2)
  have hN0 := ow1_new w
  cases hs : okS L
  · have hv' : v = [] := by rw [← hv]; simp [spL, hpr, hs]
    subst hv'
    clear hv
    go_enter Try.func18, Try.ntmps18
    go_wp2_with (go_at_call 38; refine (l5Spots_v hs _ _ _ (hL.step hA) hn).mono ?_; rintro e w1 ⟨rfl, hb2⟩)
    go_ret
    exact ⟨_, _, rfl, own_of_below hN0 hb2, ba1 hb2⟩
  by_cases h2 : 2 ≤ L.length
  · have hv' : sprK (srtP L) L.length (srtP L).length = v := by rw [← hv]; simp [spL, hpr, hs, h2]
    have H40 := okS_len hs
    have Hok := okS_all hs
    have hnn : ∀ i k, i < L.length → k < L.length → 0 ≤ apT (L.getD i zro) (L.getD k zro) := fun i k hi hk => (apT_bd (Hok _ (getS_mem hi)) (Hok _ (getS_mem hk))).1
    have HV : Hid (∀ i, i < L.length → ∀ best, BInv L i L.length best → v.getD i 0 = best) := fun i hi best hB => by rw [← hv']; exact hB.done h2 hnn hi
    have HVL : Hid (v.length = L.length) := by show v.length = L.length; rw [← hv', sprK_len]
    have HNN : Hid (∀ i k, i < L.length → k < L.length → 0 ≤ apT (L.getD i zro) (L.getD k zro)) := hnn
    clear hv hv' hn Hok hnn
    obtain ⟨N, hN⟩ : ∃ N, L.length = N := ⟨_, rfl⟩
    have HN : Hid (L.length = N) := hN
    have hNi : ¬ (N : Int) < 2 := by omega
    rw [hN] at H40 h2
    have hlc : Hid (∀ w, Sl w p L → Calls Try.prog 38 #[.slice p N cap] w fun e w' => e = .returned (.bool true) ∧ Below w.heap.size w w') := by
      intro w hw; have := l5Spots_v hs p cap w hw (by omega); rw [hN] at this; exact this
    rw [hN]
    clear hN hs
    obtain ⟨i0, hi0, hz0, hz1, hz2⟩ := info_parts info2
    go_enter Try.func18, Try.ntmps18
    go_wp2_with (go_at_call 38; refine (hlc.out _ (hL.step hA)).mono ?_; rintro e w1 ⟨rfl, hb2⟩)
    go_loopw [3, 4] (fun sv iv wr => ∃ (i g cap' : Nat), i ≤ N ∧ iv = .int .i64 i ∧ sv = .slice (some ⟨g, 0, none⟩) i cap' ∧ wr.ownsRow w.heap.size 2 1 (.slice (some ⟨g, 0, none⟩) i cap') i (flat1 (v.take i)) ∧ Below w.heap.size w wr) (fun _ iv _ => N - (intOf iv).toNat)
    case atStart => exact ⟨0, w.heap.size, 0, by omega, rfl, rfl, own_of_below hN0 hb2, ba1 hb2⟩
    case round =>
      rename World => wo
      obtain ⟨i, g, cap', hi, rfl, rfl, hO, hb⟩ := hrel
      clear hA hN0
      by_cases hlt : i < N
      · have hii : (i : Int) < N := by omega
        go_wp2
        go_loopw [5, 6] (fun bv kv wr => ∃ (k : Nat) (best : Int), k ≤ N ∧ kv = .int .i64 k ∧ bv = .int .i64 best ∧ BInv L i k best ∧ wr.ownsRow w.heap.size 2 1 (.slice (some ⟨g, 0, none⟩) i cap') i (flat1 (v.take i)) ∧ Below w.heap.size w wr) (fun _ kv _ => N - (intOf kv).toNat)
        case atStart => exact ⟨0, -1, by omega, rfl, rfl, BInv.start L i, hO, hb⟩
        case round =>
          clear hO hb
          obtain ⟨k, best, hk, rfl, rfl, hI, hO, hb⟩ := hrel
          by_cases hlt2 : k < N
          · have hki : (k : Int) < N := by omega
            have hiL : i < L.length := by rw [HN.out]; exact hlt
            have hkL : k < L.length := by rw [HN.out]; exact hlt2
            have hPn : ∀ j, j < k → 0 ≤ apT (L.getD i zro) (L.getD j zro) := fun j hj => HNN.out i j hiL (by omega)
            have hT := hI.take (k := k)
            have hS := hI.skip
            have hbb := hI.nn hPn
            obtain ⟨gl, off, rfl, hC⟩ := (hL.step hb).at hkL
            obtain ⟨x0, x1⟩ := hC.2 i _ (getS_some hiL)
            obtain ⟨y0, y1⟩ := hC.2 k _ (getS_some hkL)
            generalize hd : apT (L.getD i zro) (L.getD k zro) = d at hT hS
            generalize L.getD i zro = x at x0 x1 hd
            generalize L.getD k zro = y at y0 y1 hd
            have HD : Hid (apT x y = d) := hd
            have HT : Hid (k ≠ i → (best < 0 ∨ d < best) → BInv L i (k + 1) d) := fun h1 h2 => hT h1 h2 hPn
            have HS : Hid (0 ≤ best → best ≤ d → BInv L i (k + 1) best) := hS
            clear hd hPn hT hS
            by_cases hik : k = i
            · subst hik
              have HE := hI.same
              go_wp2
              go_region_with (go_at_call 39; refine (sApart_any _ _ _ _ _).mono ?_; rintro e w2 ⟨rfl, hb3⟩)
              all_goals
                go_wp2
                go_roundw
                case rel => exact ⟨k + 1, best, by omega, by go_num, rfl, HE, own_of_below (World.ownsRow.drew hO) hb3, bstep hb.drew hb3 (Nat.le_refl _)⟩
                case measure => simp [intOf]; omega
            · have hik' : ¬ (k : Int) = (i : Int) := by omega
              rcases hbb with rfl | hb0
              · go_wp2
                go_region_with (go_at_call 39; refine (sApart_v HD.out _).mono ?_; rintro e w2 ⟨rfl, hb3⟩)
                all_goals
                  go_wp2
                  go_roundw
                  case rel => exact ⟨k + 1, d, by omega, by go_num, rfl, HT.out hik (.inl (by omega)), own_of_below (World.ownsRow.drew hO) hb3, bstep hb.drew hb3 (Nat.le_refl _)⟩
                  case measure => simp [intOf]; omega
              · have hb1 : ¬ best < 0 := by omega
                by_cases hdb : d < best
                · go_wp2
                  go_region_with (go_at_call 39; refine (sApart_v HD.out _).mono ?_; rintro e w2 ⟨rfl, hb3⟩)
                  all_goals
                    go_wp2
                    go_roundw
                    case rel => exact ⟨k + 1, d, by omega, by go_num, rfl, HT.out hik (.inr hdb), own_of_below (World.ownsRow.drew hO) hb3, bstep hb.drew hb3 (Nat.le_refl _)⟩
                    case measure => simp [intOf]; omega
                · go_wp2
                  go_region_with (go_at_call 39; refine (sApart_v HD.out _).mono ?_; rintro e w2 ⟨rfl, hb3⟩)
                  all_goals
                    go_wp2
                    go_roundw
                    case rel => exact ⟨k + 1, best, by omega, by go_num, rfl, HS.out hb0 (by omega), own_of_below (World.ownsRow.drew hO) hb3, bstep hb.drew hb3 (Nat.le_refl _)⟩
                    case measure => simp [intOf]; omega
          · obtain rfl : k = N := by omega
            have hiL : i < L.length := by rw [HN.out]; exact hlt
            have hbe : v.getD i 0 = best := by have h := hI; rw [← HN.out] at h; exact HV.out i hiL best h
            have hfs : flat1 (v.take i) ++ [.int .i64 best] = flat1 (v.take (i + 1)) := by
              have hvl : i < v.length := by rw [HVL.out]; exact hiL
              rw [List.take_succ_eq_append_getElem hvl, flat1_append]
              have e : v[i] = best := by rw [← hbe]; simp [List.getD, hvl]
              rw [e]; rfl
            have HFS : Hid (flat1 (v.take i) ++ [.int .i64 best] = flat1 (v.take (i + 1))) := hfs
            clear hfs hbe hI
            go_wp2_with (at_builtin; refine wpList_append_lies _ rfl _ _ 29 rfl w.heap.size 2 i0 (.int .i64 0) 1 8 Try.underlying29 hi0 hz0 hz1 hz2 rfl (by decide) _ _ _ rfl (hO.alloc _) _ 1 1 [.int .i64 best] rfl rfl (cell1_at rfl) (fun x hx => by simp at hx; rw [hx]; rfl) (by decide) (by unfold maxLen; omega) (by omega) (by have := hb.size; simp; omega) _ rfl ?_; intro g' cap2 w4 hown1 hgrow hat hlt4)
            refine ⟨⟨i + 1, g', cap2, by omega, by go_num, rfl, by rw [← HFS.out]; exact hown1, bel_grown1 (hb.alloc hb.size _) hgrow (fun r hr => (hO.lt r hr).1) (Nat.le_refl _)⟩, by simp [intOf]; omega⟩
      · obtain rfl : i = N := by omega
        have hvl : v.length = i := by rw [HVL.out, HN.out]
        have HVV : Hid (v.length = i) := hvl
        have hO' : Ow1 wo w.heap.size (.slice (some ⟨g, 0, none⟩) v.length cap') v := by
          have e : v.take i = v := by rw [← hvl, List.take_length]
          rw [e] at hO; unfold Ow1; rw [hvl]; exact hO
        clear hvl
        go_wp2
        go_ret
        exact ⟨_, _, by rw [HVV.out]; rfl, hO', hb⟩
  · have hv' : v = [] := by rw [← hv]; simp [spL, hpr, hs, h2]
    subst hv'
    clear hv
    have hNi : (L.length : Int) < 2 := by omega
    go_enter Try.func18, Try.ntmps18
    go_wp2_with (go_at_call 38; refine (l5Spots_v hs _ _ _ (hL.step hA) hn).mono ?_; rintro e w1 ⟨rfl, hb2⟩)
    go_ret
    exact ⟨_, _, rfl, own_of_below hN0 hb2, ba1 hb2⟩
end Go.Proofs.Ytocfdmlkicndoaa
