/-
  pairsOf: all pairs of a list of Spots, in a heap.
-/
import Derived.Test.YtocfdmlkicndoaaHA8
import Derived.Test.YtocfdmlkicndoaaAP1
namespace Go.Proofs.Ytocfdmlkicndoaa
open Go.RowKit Go.Joins
attribute [local go_sem] Oper.semAt_some

def prP (L : List T2) (i k : Nat) : P3 := ⟨apT (L.getD i zro) (L.getD k zro), i, k⟩
def prK (L : List T2) (k j : Nat) : List P3 := (List.range j).map fun i => prP L i k
def prs (L : List T2) (n : Nat) : List P3 := (List.range n).flatMap fun k => prK L k k
theorem prK_succ (L : List T2) (k j : Nat) : prK L k (j + 1) = prK L k j ++ [prP L j k] := by simp [prK, List.range_succ]
theorem prs_succ (L : List T2) (k : Nat) : prs L (k + 1) = prs L k ++ prK L k k := by simp [prs, List.range_succ]
theorem prK_len (L : List T2) (k j : Nat) : (prK L k j).length = j := by simp [prK]
theorem prs_len (L : List T2) : ∀ n, n ≤ 40 → (prs L n).length ≤ 40 * n
  | 0, _ => by simp [prs]
  | n + 1, h => by have := prs_len L n (by omega); rw [prs_succ, List.length_append, prK_len]; omega

theorem getS_some {L : List T2} {k : Nat} (hk : k < L.length) : L[k]? = some (L.getD k zro) := by simp [List.getD, hk]
theorem hp_new (w : World) : Hp ((w.alloc (.cells #[] 53)).alloc (.cells #[.slice (some ⟨w.heap.size, 0, none⟩) 0 0] 81)) (w.heap.size + 1) w.heap.size 0 [] := by
  refine ⟨by simp, fun o => World.frozen?_alloc_at _ _ _ _ (by simp), ?_, ?_, by omega⟩
  · rw [World.cell?_alloc_at _ _ _ _ (by simp)]; rfl
  · exact own_of_below (World.ownsRow_made (base := 0) (e := 53) (size := 3) w #[] 0 (Nat.zero_le _) (by unfold maxLen; omega) rfl) (below_alloc1 _ _)
set_option maxRecDepth 100000 in
set_option maxHeartbeats 4000000 in
theorem pairsOf_any (p : Option Addr) (cap : Nat) (L : List T2) (w : World) (hL : Sl w p L) (hcap : L.length ≤ cap) (hn : L.length ≤ 40) :
    Calls Try.prog 32 #[.slice p L.length cap] w fun e w' => ∃ b g cap' M, e = .returned (.pointer (some ⟨b, 0, none⟩)) ∧ M.Perm (prs L L.length) ∧ isHeap M ∧ Hp w' b g cap' M ∧ w.heap.size ≤ b ∧ w.heap.size ≤ g ∧ Below w.heap.size w w' := by
  obtain ⟨N, hN⟩ : ∃ N, L.length = N := ⟨_, rfl⟩
  have HN : Hid (L.length = N) := hN
  rw [hN] at hcap hn ⊢
  clear hN
  go_enter Try.func32, Try.ntmps32
  go_wp2
  go_loopw [12] (fun iv wr => ∃ (k g cap' : Nat) (M : List P3), k ≤ N ∧ iv = .int .i64 k ∧ M.Perm (prs L k) ∧ isHeap M ∧ Hp wr (w.heap.size + 1) g cap' M ∧ w.heap.size ≤ g ∧ Below w.heap.size w wr) (fun iv _ => N - (intOf iv).toNat)
  case atStart => exact ⟨0, w.heap.size, 0, [], by omega, rfl, .refl _, isHeap.nil, hp_new w, Nat.le_refl _, below_alloc2 _ _ _⟩
  case round =>
    rename World => wo
    obtain ⟨k, g, cap', M, hk, rfl, hP, hM, hH, hg, hb⟩ := hrel
    by_cases hlt : k < N
    · have hki : (k : Int) < N := by omega
      have hkc : (k : Int) ≤ cap := by omega
      have hkL : k < L.length := by rw [HN.out]; exact hlt
      obtain ⟨gl, off, rfl, hC0⟩ := hL.at hkL
      have hC := hC0.step hb
      obtain ⟨c0, c1⟩ := hC.2 k _ (getS_some hkL)
      obtain ⟨x, hx⟩ : ∃ x, L.getD k zro = x := ⟨_, rfl⟩
      rw [hx] at c0 c1
      have HX : Hid (L.getD k zro = x) := hx
      clear hx
      have hA := hH.step (below_alloc1 wo (.cells #[.int .i64 x.x, .int .i64 x.y] 37))
      have hbs := hH.lt
      have hgs := hH.glt
      have hws := hb.size
      have hglt := hC0.1
      go_wp2
      go_loopw [21] (fun jv wx => ∃ (j g' cap2 : Nat) (M2 : List P3), j ≤ k ∧ jv = .int .i64 j ∧ M2.Perm (prs L k ++ prK L k j) ∧ isHeap M2 ∧ Hp wx (w.heap.size + 1) g' cap2 M2 ∧ w.heap.size ≤ g' ∧ Tn (w.heap.size + 1) g (wo.alloc (.cells #[.int .i64 x.x, .int .i64 x.y] 37)) g' wx) (fun jv _ => k - (intOf jv).toNat)
      case atStart => exact ⟨0, g, cap', M, by omega, rfl, by simpa [prK] using hP, hM, hA, hg, Tn.refl _ _ _⟩
      case round =>
        obtain ⟨j, g', cap2, M2, hj, rfl, hP2, hM2, hH2, hg2, hT2⟩ := hrel
        have hbr : Below w.heap.size w wr := (hb.trans ((below_alloc1 wo _).mono hws)).trans (hT2.below (by omega) hg (by simp; omega))
        by_cases hlt2 : j < k
        · have hji : (j : Int) < k := by omega
          have hjL : j < L.length := by omega
          obtain ⟨y0, y1⟩ := (hC0.2 j _ (getS_some hjL))
          obtain ⟨y, hy⟩ : ∃ y, L.getD j zro = y := ⟨_, rfl⟩
          rw [hy] at y0 y1
          have HY : Hid (L.getD j zro = y) := hy
          clear hy
          have z0 := (hbr.cell (p := ⟨gl, off + j * 2, none⟩) hglt).trans y0
          have z1 := (hbr.cell (p := ⟨gl, off + j * 2 + 1, none⟩) hglt).trans y1
          have s0 := hT2.cell (k := wo.heap.size) (o := 0) (by simp) (by omega) (by omega)
          have s1 := hT2.cell (k := wo.heap.size) (o := 1) (by simp) (by omega) (by omega)
          simp [go_sem] at s0 s1
          have hsx : wo.heap.size < wr.heap.size := by have := hT2.size; simp at this; omega
          have HZ : Hid (M2.length ≤ 900000) := by
            show M2.length ≤ 900000
            have h1 := hP2.length_eq
            rw [List.length_append, prK_len] at h1
            have h2 := prs_len L k (by omega)
            omega
          have hHA := hH2.step (below_alloc1 wr (.cells #[.int .i64 y.x, .int .i64 y.y] 37))
          go_wp2_with (first
            | (go_at_call 20; refine (iApart_any _ _ _ _ _).mono ?_; rintro e w1 ⟨rfl, hb2⟩; have hH3 := hHA.step hb2)
            | (go_at_call 54; refine (hpush_any (w.heap.size + 1) g' cap2 M2 ⟨apI y.x y.y x.x x.y, j, k⟩ _ hH3 hM2 HZ.out).mono ?_; rintro e w3 ⟨⟨v3, rfl⟩, g3, cap3, M3, hP3, hM3, hH4, hT4⟩))
          go_roundw
          case rel =>
            have hsz := hT2.size
            have hz2 := hb2.size
            simp at hsz hz2
            refine ⟨j + 1, g3, cap3, M3, by omega, by go_num, ?_, hM3, hH4, ?_, ((hT2.step (below_alloc1 _ _)).step hb2).trans hT4⟩
            · refine hP3.trans ?_
              rw [prK_succ, ← List.append_assoc, show prP L j k = ⟨apI y.x y.y x.x x.y, j, k⟩ by unfold prP apT; rw [HX.out, HY.out]]
              exact hP2.append_right _
            · rcases hT4.own with e | e
              · omega
              · have := hbr.size; omega
          case measure => simp [intOf]; omega
        · obtain rfl : j = k := by omega
          go_wp2
          refine ⟨⟨j + 1, g', cap2, M2, by omega, by go_num, ?_, hM2, hH2, hg2, hbr⟩, by simp [intOf]; omega⟩
          rw [prs_succ]; exact hP2
    · obtain rfl : k = N := by omega
      go_wp2
      go_ret
      exact ⟨_, _, _, M, rfl, hP, hM, hH, by omega, hg, hb⟩
end Go.Proofs.Ytocfdmlkicndoaa
