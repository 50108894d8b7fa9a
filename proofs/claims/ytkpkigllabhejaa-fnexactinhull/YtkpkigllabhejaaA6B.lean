/-
  The edges of up to forty Spots.
-/
import Derived.Test.YtkpkigllabhejaaA6
import Derived.Deep.CutBlock
import Derived.Deep.AppendLies
import Derived.Deep.RegionHeld3
import Derived.Lib.SliceRun
namespace Go.Proofs.Ytkpkigllabhejaa
open Go.RowKit Go.Joins
attribute [local go_sem ↓] Go.wp_at_zero Go.wp_at_succ
set_option maxHeartbeats 2000000 in
theorem edges40 (g off : Nat) (cap : Nat) (L : List T2) (h0 : 0 < L.length) (w : World) (hC : Cs w g off L) (hn : L.length ≤ 40) :
    Calls Try.prog 47 #[.slice (some ⟨g, off, none⟩) L.length cap] w fun e w' => ∃ v, e = .returned v ∧ Eds w' v L ∧ Below w.heap.size w w' := by
  obtain ⟨i0, hi, hz0, hz1, hz2⟩ := info_parts info38
  have hi0 : (0 : Int) < L.length := by omega
  obtain ⟨c0, c1⟩ := hC.2 0 L[0] (List.getElem?_eq_getElem h0)
  simp only [Nat.zero_mul, Nat.add_zero] at c0 c1
  have hg := hC.1
  go_enter Try.func47, Try.ntmps47
  go_upto_region 1 with fail
  go_cut [3] from 6 to 12 (fun s3 wx => ∃ gr capr : Nat, s3 = .slice (some ⟨gr, 0, none⟩) (L.length + 1) capr ∧ wx.ownsRow w.heap.size 38 2 (.slice (some ⟨gr, 0, none⟩) (L.length + 1) capr) (L.length + 1) (flat L ++ L[0].vs) ∧ Below w.heap.size w wx)
  case first =>
    have hA1 := below_alloc1 w (.cells #[.int .i64 L[0].x, .int .i64 L[0].y] 38)
    have hsz : (w.alloc (.cells #[.int .i64 L[0].x, .int .i64 L[0].y] 38)).heap.size = w.heap.size + 1 := by simp
    have hS : ∀ w', Below w.heap.size w w' → (w'.cell? ⟨g, off, none⟩ = some (.int .i64 L[0].x) ∧ w'.cell? ⟨g, off + 1, none⟩ = some (.int .i64 L[0].y)) := fun w' h => ⟨(h.cell (p := ⟨g, off, none⟩) hg).trans c0, (h.cell (p := ⟨g, off + 1, none⟩) hg).trans c1⟩
    go_region_held3 (fun w' => Below w.heap.size w w' ∧ (w'.cell? ⟨g, off, none⟩ = some (.int .i64 L[0].x) ∧ w'.cell? ⟨g, off + 1, none⟩ = some (.int .i64 L[0].y))) (first | exact ‹Below _ _ _ ∧ _› | exact keepS hS (bel_grown (hB1.alloc hB1.size _) hgrow (fun r hr => (hO.lt r hr).1) (Nat.le_refl _)) | exact keepS hS (bel_grown hB1 hgrow (fun r hr => (hO.lt r hr).1) (Nat.le_refl _)) | exact keepS hS hB1 | exact keepS hS ((‹Below _ _ _ ∧ _›).1.alloc (‹Below _ _ _ ∧ _›).1.size _) | exact keepS hS (Below.refl _ _).drew | fail)
     (first
      | (go_at_call 65; refine (clone_any g off cap L h0 _ (hC.step hA1.drew) (by omega)).mono ?_; rintro e w1 ⟨q, cap', rfl, hO, hb2⟩; have hB1 := bstep hA1.drew hb2 (Nat.le_refl _); replace hO := Ow.mono (b' := w.heap.size) hO (by simp); have hnw : ∀ j u, L[0].vs[j]? = some u → w1.cell? ((⟨w.heap.size, 0, none⟩ : Addr).add j) = some u := fun j u hj => (hb2.cell (p := (⟨w.heap.size, 0, none⟩ : Addr).add j) (by rw [addr_add]; simp)).trans (cell_two_at rfl j u hj))
      | (go_at_call 65; refine (clone_any g off cap L h0 _ (hC.step (Below.refl _ _).drew) (by omega)).mono ?_; rintro e w1 ⟨q, cap', rfl, hO, hb2⟩; have hB1 := bstep (Below.refl w.heap.size w).drew hb2 (Nat.le_refl _); replace hO := Ow.mono (b' := w.heap.size) hO (by simp); have hd0 := (hB1.cell (p := ⟨g, off, none⟩) hg).trans c0; have hd1 := (hB1.cell (p := ⟨g, off + 1, none⟩) hg).trans c1)
      | (have hnw2 := hnw; refine step_append_lies _ (by rfl) _ _ 68 (by rfl) w.heap.size 38 i0 (.agg #[.int .i64 0, .int .i64 0]) 2 16 Try.underlying68 hi hz0 hz1 hz2 rfl (by decide) (.slice (some ⟨q, 0, none⟩) L.length cap') L.length (flat L) (by rfl) hO ⟨w.heap.size, 0, none⟩ 1 1 L[0].vs (by rfl) rfl hnw2 (fun x hx => by simp [T2.vs] at hx; rcases hx with rfl | rfl <;> rfl) (by decide) (by unfold maxLen; omega) (by omega) hB1.size _ rfl ?_; intro g' capr w4 hown1 hgrow hat hlt)
      | (have hd2 := hd0; refine step_append_lies _ (by rfl) _ _ 68 (by rfl) w.heap.size 38 i0 (.agg #[.int .i64 0, .int .i64 0]) 2 16 Try.underlying68 hi hz0 hz1 hz2 rfl (by decide) (.slice (some ⟨q, 0, none⟩) L.length cap') L.length (flat L) (by rfl) (hO.alloc _) ⟨w1.heap.size, 0, none⟩ 1 1 L[0].vs (by rfl) rfl (cell_two_at rfl) (fun x hx => by simp [T2.vs] at hx; rcases hx with rfl | rfl <;> rfl) (by decide) (by unfold maxLen; omega) (by omega) (Nat.le_trans hB1.size (by simp)) _ rfl ?_; intro g' capr w4 hown1 hgrow hat hlt))
    all_goals
      go_wp2_with fail
      go_meet
      exact ⟨g', capr, rfl, hown1, (‹Below _ _ _ ∧ _›).1⟩
  case rest =>
  obtain ⟨gr, capr, rfl, hR, hB⟩ := hcut
  have hcap : L.length + 1 ≤ capr := by rcases hR.2 with ⟨h1, _⟩ | ⟨_, _, _, h1, _, _, h2, _⟩; (cases h1); (injection h1 with _ _ h1; omega)
  have hlen : (L ++ L.take 1).length = L.length + 1 := by simp; omega
  have hfl : flat (L ++ L.take 1) = flat L ++ L[0].vs := by
    rw [flat_append]
    refine congrArg (fun z => flat L ++ z) ?_
    match L, h0 with
    | a :: t, _ => simp [flat]
  have hRC : Cs wc gr 0 (L ++ L.take 1) := Ow.cs (base := w.heap.size) (n := L.length + 1) (cap := capr) (by unfold Ow; rw [hlen, hfl]; exact hR)
  have hgr := hRC.1
  clear hR hfl
  obtain ⟨j0, hj, hy0, hy1, hy2⟩ := info_parts info72
  have hrow0 : wc.ownsRow wc.heap.size 72 1 (.slice none 0 0) 0 (ring gr 0) := World.ownsRow_nil ..
  go_wp2
  go_loopw [4, 15] (fun av i wr => ∃ k : Nat, k ≤ L.length ∧ i = .int .i64 k ∧ wr.ownsRow wc.heap.size 72 1 av k (ring gr k) ∧ Cs wr gr 0 (L ++ L.take 1) ∧ Below w.heap.size w wr ∧ wc.heap.size ≤ wr.heap.size) (fun _ i _ => L.length - (intOf i).toNat)
  case atStart => exact ⟨0, by omega, rfl, hrow0, hRC, hB, Nat.le_refl _⟩
  case round =>
    obtain ⟨k, hk, rfl, hrow, hCk, hBk, hzk⟩ := hrel
    by_cases hlt : k < L.length
    · have hki : (k : Int) < L.length := by omega
      have hkc : (k : Int) + 2 ≤ capr := by omega
      have hk12 : (k : Int) ≤ 40 := by omega
      go_wp2_with (at_builtin; refine wpList_append_lies _ rfl _ _ 70 rfl wc.heap.size 72 j0 (.slice none 0 0) 1 24 Try.underlying70 hj hy0 hy1 hy2 rfl (by decide) _ _ _ rfl (hrow.alloc _) ⟨wr.heap.size, 0, none⟩ 1 1 [.slice (some ⟨gr, k * 2, none⟩) 2 2] rfl rfl (cell_one_new _ _ _) (fun u hu => by simp at hu; subst hu; rfl) (by decide) (by unfold maxLen; omega) (by omega) (by simp; omega) (wr.heap.size + 1) (by simp) ?_; intro g' cap' w4 hown1 hgrow hat hlt4)
      go_roundw
      case rel =>
        refine ⟨k + 1, by omega, by go_num, by rw [ring_succ]; exact hown1, (hCk.step (below_alloc1 _ _)).grown hgrow (fun e => ?_), bel_grown (hBk.alloc hBk.size _) hgrow (fun r hr => ?_) (Nat.le_refl _), ?_⟩
        · have := (hrow.lt gr e).1; omega
        · have := (hrow.lt r hr).1; have := hB.size; omega
        · have := hgrow.size; simp at this; omega
      case measure => simp [intOf]; omega
    · obtain rfl : k = L.length := by omega
      go_wp2
      go_ret
      obtain ⟨h, cap', hv, hb1, hb2⟩ := hrow.form h0
      subst hv
      refine ⟨_, rfl, ⟨h, cap', gr, rfl, hb2, fun i hi => ?_, hCk⟩, hBk⟩
      have hc := hrow.cells (g := h) rfl i (.slice (some ⟨gr, i * 2, none⟩) 2 2) (by simp [ring, hi])
      rw [addr_add, Nat.zero_add] at hc
      exact hc
end Go.Proofs.Ytkpkigllabhejaa
