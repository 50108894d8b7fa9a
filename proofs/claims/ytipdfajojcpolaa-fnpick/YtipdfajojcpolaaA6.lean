/-
  The edges of a list of Spots: each a slice of a ring.
-/
import Derived.Test.YtipdfajojcpolaaA2
import Derived.Test.YtipdfajojcpolaaN2
import Derived.Deep.CutBlock
import Derived.Deep.AppendLies
import Derived.Deep.RegionHeld3
import Derived.Lib.SliceRun
namespace Go.Proofs.Ytipdfajojcpolaa
open Go.RowKit Go.Joins
attribute [local go_sem ↓] Go.wp_at_zero Go.wp_at_succ

theorem bel_grown {B : Nat} {w W W' : World} {row : Option Nat} (h : Below B w W) (hg : W.grownBy W' row) (hr : ∀ r, row = some r → B ≤ r) (hB : B ≤ w.heap.size) : Below B w W' :=
  ⟨hg.os.trans h.os, hg.tape.trans h.tape, hg.output.trans h.output, Nat.le_trans h.size hg.size, fun k hk => (hg.block k (Nat.lt_of_lt_of_le hk (Nat.le_trans hB h.size)) (fun e => by have := hr k e.symm; omega)).trans (h.block k hk)⟩
theorem addr_add (b off n : Nat) : (⟨b, off, none⟩ : Addr).add n = ⟨b, off + n, none⟩ := by
  unfold Addr.add; split <;> simp_all
theorem cs_news {W : World} {g off : Nat} {Q : List T2} (h : Cs W g off Q) : ∀ j u, (flat Q)[j]? = some u → W.cell? ((⟨g, off, none⟩ : Addr).add j) = some u := by
  intro j u hj
  have hlt : j < Q.length * 2 := by have := (List.getElem?_eq_some_iff.1 hj).1; rw [flat_len] at this; exact this
  have hk : j / 2 < Q.length := by omega
  obtain ⟨c0, c1⟩ := h.2 (j / 2) Q[j / 2] (List.getElem?_eq_getElem hk)
  obtain ⟨f0, f1⟩ := flat_get (List.getElem?_eq_getElem hk)
  have hm : j = j / 2 * 2 ∨ j = j / 2 * 2 + 1 := by omega
  have ea : (⟨g, off, none⟩ : Addr).add j = ⟨g, off + j, none⟩ := by unfold Addr.add; split <;> simp_all
  rw [ea]
  rcases hm with h | h
  · rw [h] at hj ⊢; rw [f0] at hj; cases hj; exact c0
  · rw [h] at hj ⊢; rw [f1] at hj; cases hj; rw [← Nat.add_assoc]; exact c1
theorem flat_one (Q : List T2) : ∀ u ∈ flat Q, u.oneCell' = true := by
  intro u hu
  unfold flat at hu
  obtain ⟨c, _, hu⟩ := List.mem_flatMap.mp hu
  simp [T2.vs] at hu
  rcases hu with rfl | rfl <;> rfl

set_option maxHeartbeats 1000000 in
theorem clone_any (g off : Nat) (cap : Nat) (L : List T2) (h0 : 0 < L.length) (w : World) (hC : Cs w g off L) (hn : L.length ≤ 1048576) :
    Calls Try.prog 48 #[.slice (some ⟨g, off, none⟩) L.length cap] w fun e w' => ∃ q cap', e = .returned (.slice (some ⟨q, 0, none⟩) L.length cap') ∧ Ow w' w.heap.size (.slice (some ⟨q, 0, none⟩) L.length cap') L ∧ Below w.heap.size w w' := by
  obtain ⟨i0, hi, hz0, hz1, hz2⟩ := info_parts info28
  have hrow := World.ownsRow_made (base := w.heap.size) (e := 28) (size := 2) w #[] 0 (Nat.le_refl _) (by unfold maxLen; omega) rfl
  have hC1 := hC.step (below_alloc1 w (.cells #[] 28))
  have q42 : ∀ (w : World) (a : Option Addr) (n c n' c' : Nat), (binOp .eql 42 (.slice a n c) (.slice none n' c')).run Try.prog w = .ok (.bool a.isNone) w := fun w a n c n' c' => Go.Lib.run_eql_slice_nil w _ _ a n c n' c' Try.underlying42
  go_enter Try.func48, Try.ntmps48
  go_wp2_with (at_builtin; refine wpList_append_lies _ rfl _ _ 42 rfl w.heap.size 28 i0 (.agg #[.int .i64 0, .int .i64 0]) 2 16 Try.underlying42 hi hz0 hz1 hz2 rfl (by decide) _ _ _ rfl hrow ⟨g, off, none⟩ L.length cap (flat L) rfl (flat_len L) (cs_news hC1) (flat_one L) h0 (by unfold maxLen; omega) (by omega) (by simp) (w.heap.size + 1) (by simp) ?_; intro g' cap' w1 hown' hgrow hat hlt)
  go_ret
  refine ⟨g', cap', ?_, ?_, bel_grown (below_alloc1 _ _) hgrow (fun r hr => ?_) (Nat.le_refl _)⟩
  · simp
  · rw [Nat.zero_add, List.nil_append] at hown'; exact hown'
  · exact (hrow.lt r hr).1

theorem cell_two_at {w : World} {g : Nat} {a b : Value} {t : TypeId} (hg : g = w.heap.size) : ∀ j u, [a, b][j]? = some u → (w.alloc (.cells #[a, b] t)).cell? ((⟨g, 0, none⟩ : Addr).add j) = some u := by
  subst hg
  intro j u hj
  have ea : (⟨w.heap.size, 0, none⟩ : Addr).add j = ⟨w.heap.size, j, none⟩ := by unfold Addr.add; split <;> simp_all
  rw [ea, World.cell?_alloc_at _ _ _ _ rfl]
  simpa using hj
theorem info44 : (Try.prog.info? 44).map (fun i => (i.zero, i.size, i.bytes)) = some (some (.slice none 0 0), 1, 24) := by kernel_rfl
/-- The slices of a ring at gr: two Spots each. -/
def ring (gr n : Nat) : List Value := (List.range n).map fun i => .slice (some ⟨gr, i * 2, none⟩) 2 2
theorem ring_len (gr n : Nat) : (ring gr n).length = n := by simp [ring]
theorem ring_succ (gr n : Nat) : ring gr (n + 1) = ring gr n ++ [.slice (some ⟨gr, n * 2, none⟩) 2 2] := by simp [ring, List.range_succ]
/-- The edges of L. -/
def Eds (w : World) (v : Value) (L : List T2) : Prop := ∃ h cap gr, v = .slice (some ⟨h, 0, none⟩) L.length cap ∧ h < w.heap.size ∧ (∀ i, i < L.length → w.cell? ⟨h, i, none⟩ = some (.slice (some ⟨gr, i * 2, none⟩) 2 2)) ∧ Cs w gr 0 (L ++ L.take 1)
theorem Eds.step {w w' : World} {v : Value} {L : List T2} (h : Eds w v L) (hb : Below w.heap.size w w') : Eds w' v L := by
  obtain ⟨g, cap, gr, rfl, hg, hc, hC⟩ := h
  exact ⟨g, cap, gr, rfl, Nat.lt_of_lt_of_le hg hb.size, fun i hi => (hb.cell (p := ⟨g, i, none⟩) hg).trans (hc i hi), hC.step hb⟩

theorem Cs.grown {X Y : World} {row : Option Nat} {g off : Nat} {Q : List T2} (h : Cs X g off Q) (hg : X.grownBy Y row) (hr : row ≠ some g) : Cs Y g off Q :=
  ⟨Nat.lt_of_lt_of_le h.1 hg.size, fun k c hk => ⟨(World.cell?_of_block (w := X) (hg.block g h.1 (fun e => hr e.symm))).trans (h.2 k c hk).1, (World.cell?_of_block (w := X) (hg.block g h.1 (fun e => hr e.symm))).trans (h.2 k c hk).2⟩⟩
set_option maxHeartbeats 2000000 in
theorem edges_any (g off : Nat) (cap : Nat) (L : List T2) (h0 : 0 < L.length) (w : World) (hC : Cs w g off L) (hn : L.length ≤ 12) :
    Calls Try.prog 27 #[.slice (some ⟨g, off, none⟩) L.length cap] w fun e w' => ∃ v, e = .returned v ∧ Eds w' v L ∧ Below w.heap.size w w' := by
  obtain ⟨i0, hi, hz0, hz1, hz2⟩ := info_parts info28
  have hi0 : (0 : Int) < L.length := by omega
  obtain ⟨c0, c1⟩ := hC.2 0 L[0] (List.getElem?_eq_getElem h0)
  simp only [Nat.zero_mul, Nat.add_zero] at c0 c1
  have hg := hC.1
  go_enter Try.func27, Try.ntmps27
  go_upto_region 1 with fail
  go_cut [3] from 6 to 12 (fun s3 wx => ∃ gr capr : Nat, s3 = .slice (some ⟨gr, 0, none⟩) (L.length + 1) capr ∧ wx.ownsRow w.heap.size 28 2 (.slice (some ⟨gr, 0, none⟩) (L.length + 1) capr) (L.length + 1) (flat L ++ L[0].vs) ∧ Below w.heap.size w wx)
  case first =>
    have hA1 := below_alloc1 w (.cells #[.int .i64 L[0].x, .int .i64 L[0].y] 28)
    have hsz : (w.alloc (.cells #[.int .i64 L[0].x, .int .i64 L[0].y] 28)).heap.size = w.heap.size + 1 := by simp
    have hS : ∀ w', Below w.heap.size w w' → (w'.cell? ⟨g, off, none⟩ = some (.int .i64 L[0].x) ∧ w'.cell? ⟨g, off + 1, none⟩ = some (.int .i64 L[0].y)) := fun w' h => ⟨(h.cell (p := ⟨g, off, none⟩) hg).trans c0, (h.cell (p := ⟨g, off + 1, none⟩) hg).trans c1⟩
    go_region_held3 (fun w' => Below w.heap.size w w' ∧ (w'.cell? ⟨g, off, none⟩ = some (.int .i64 L[0].x) ∧ w'.cell? ⟨g, off + 1, none⟩ = some (.int .i64 L[0].y))) (first | exact ‹Below _ _ _ ∧ _› | exact keepS hS (bel_grown (hB1.alloc hB1.size _) hgrow (fun r hr => (hO.lt r hr).1) (Nat.le_refl _)) | exact keepS hS (bel_grown hB1 hgrow (fun r hr => (hO.lt r hr).1) (Nat.le_refl _)) | exact keepS hS hB1 | exact keepS hS ((‹Below _ _ _ ∧ _›).1.alloc (‹Below _ _ _ ∧ _›).1.size _) | exact keepS hS (Below.refl _ _).drew | fail)
     (first
      | (go_at_call 48; refine (clone_any g off cap L h0 _ (hC.step hA1.drew) (by omega)).mono ?_; rintro e w1 ⟨q, cap', rfl, hO, hb2⟩; have hB1 := bstep hA1.drew hb2 (Nat.le_refl _); replace hO := Ow.mono (b' := w.heap.size) hO (by simp); have hnw : ∀ j u, L[0].vs[j]? = some u → w1.cell? ((⟨w.heap.size, 0, none⟩ : Addr).add j) = some u := fun j u hj => (hb2.cell (p := (⟨w.heap.size, 0, none⟩ : Addr).add j) (by rw [addr_add]; simp)).trans (cell_two_at rfl j u hj))
      | (go_at_call 48; refine (clone_any g off cap L h0 _ (hC.step (Below.refl _ _).drew) (by omega)).mono ?_; rintro e w1 ⟨q, cap', rfl, hO, hb2⟩; have hB1 := bstep (Below.refl w.heap.size w).drew hb2 (Nat.le_refl _); replace hO := Ow.mono (b' := w.heap.size) hO (by simp); have hd0 := (hB1.cell (p := ⟨g, off, none⟩) hg).trans c0; have hd1 := (hB1.cell (p := ⟨g, off + 1, none⟩) hg).trans c1)
      | (have hnw2 := hnw; refine step_append_lies _ (by rfl) _ _ 42 (by rfl) w.heap.size 28 i0 (.agg #[.int .i64 0, .int .i64 0]) 2 16 Try.underlying42 hi hz0 hz1 hz2 rfl (by decide) (.slice (some ⟨q, 0, none⟩) L.length cap') L.length (flat L) (by rfl) hO ⟨w.heap.size, 0, none⟩ 1 1 L[0].vs (by rfl) rfl hnw2 (fun x hx => by simp [T2.vs] at hx; rcases hx with rfl | rfl <;> rfl) (by decide) (by unfold maxLen; omega) (by omega) hB1.size _ rfl ?_; intro g' capr w4 hown1 hgrow hat hlt)
      | (have hd2 := hd0; refine step_append_lies _ (by rfl) _ _ 42 (by rfl) w.heap.size 28 i0 (.agg #[.int .i64 0, .int .i64 0]) 2 16 Try.underlying42 hi hz0 hz1 hz2 rfl (by decide) (.slice (some ⟨q, 0, none⟩) L.length cap') L.length (flat L) (by rfl) (hO.alloc _) ⟨w1.heap.size, 0, none⟩ 1 1 L[0].vs (by rfl) rfl (cell_two_at rfl) (fun x hx => by simp [T2.vs] at hx; rcases hx with rfl | rfl <;> rfl) (by decide) (by unfold maxLen; omega) (by omega) (Nat.le_trans hB1.size (by simp)) _ rfl ?_; intro g' capr w4 hown1 hgrow hat hlt))
    all_goals
      go_wp2_with fail
      go_meet
      exact ⟨g', capr, rfl, hown1, (‹Below _ _ _ ∧ _›).1⟩
  case rest =>
  obtain ⟨gr, capr, rfl, hR, hB⟩ := hcut
  have hcap : L.length + 1 ≤ capr := by rcases hR.2 with ⟨h1, _⟩ | ⟨_, _, _, h1, _, _, h2, _⟩; (cases h1); (injection h1 with _ _ h1; omega)
  have hlen : (L ++ L.take 1).length = L.length + 1 := by simp; omega
  have hfl : flat (L ++ L.take 1) = flat L ++ L[0].vs := by
    rw [flat_append]
    congr 1
    match L, h0 with
    | a :: t, _ => simp [flat]
  have hRC : Cs wc gr 0 (L ++ L.take 1) := Ow.cs (base := w.heap.size) (n := L.length + 1) (cap := capr) (by unfold Ow; rw [hlen, hfl]; exact hR)
  have hgr := hRC.1
  clear hR hfl
  obtain ⟨j0, hj, hy0, hy1, hy2⟩ := info_parts info44
  have hrow0 : wc.ownsRow wc.heap.size 44 1 (.slice none 0 0) 0 (ring gr 0) := World.ownsRow_nil ..
  go_wp2
  go_loopw [4, 15] (fun av i wr => ∃ k : Nat, k ≤ L.length ∧ i = .int .i64 k ∧ wr.ownsRow wc.heap.size 44 1 av k (ring gr k) ∧ Cs wr gr 0 (L ++ L.take 1) ∧ Below w.heap.size w wr ∧ wc.heap.size ≤ wr.heap.size) (fun _ i _ => L.length - (intOf i).toNat)
  case atStart => exact ⟨0, by omega, rfl, hrow0, hRC, hB, Nat.le_refl _⟩
  case round =>
    obtain ⟨k, hk, rfl, hrow, hCk, hBk, hzk⟩ := hrel
    by_cases hlt : k < L.length
    · have hki : (k : Int) < L.length := by omega
      have hkc : (k : Int) + 2 ≤ capr := by omega
      have hk12 : (k : Int) ≤ 12 := by omega
      go_wp2_with (at_builtin; refine wpList_append_lies _ rfl _ _ 41 rfl wc.heap.size 44 j0 (.slice none 0 0) 1 24 Try.underlying41 hj hy0 hy1 hy2 rfl (by decide) _ _ _ rfl (hrow.alloc _) ⟨wr.heap.size, 0, none⟩ 1 1 [.slice (some ⟨gr, k * 2, none⟩) 2 2] rfl rfl (cell_one_new _ _ _) (fun u hu => by simp at hu; subst hu; rfl) (by decide) (by unfold maxLen; omega) (by omega) (by simp; omega) (wr.heap.size + 1) (by simp) ?_; intro g' cap' w4 hown1 hgrow hat hlt4)
      go_roundw
      case rel =>
        refine ⟨k + 1, by omega, by go_num, by rw [ring_succ]; exact hown1, (hCk.step (below_alloc1 _ _)).grown hgrow (fun e => ?_), bel_grown (hBk.alloc hBk.size _) hgrow (fun r hr => ?_) (Nat.le_refl _), ?_⟩
        · have := (hrow.lt gr e).1; omega
        · have := (hrow.lt r hr).1; have := hB.size; omega
        · have := hgrow.size; simp at this; omega
      case measure => simp [intOf]; omega
    · obtain rfl : k = L.length := by omega
      go_wp2
      go_ret
      obtain ⟨h, cap', hv, hb1, hb2⟩ := hrow.form h0
      subst hv
      refine ⟨_, rfl, ⟨h, cap', gr, rfl, hb2, fun i hi => ?_, hCk⟩, hBk⟩
      have hc := hrow.cells (g := h) rfl i (.slice (some ⟨gr, i * 2, none⟩) 2 2) (by simp [ring, hi])
      rw [addr_add, Nat.zero_add] at hc
      exact hc
theorem Eds.at {w : World} {v : Value} {L : List T2} (h : Eds w v L) : ∃ g cap gr, v = .slice (some ⟨g, 0, none⟩) L.length cap ∧ g < w.heap.size ∧ ∀ i (hi : i < L.length), w.cell? ⟨g, i, none⟩ = some (.slice (some ⟨gr, i * 2, none⟩) 2 2) ∧ Eg w (some ⟨gr, i * 2, none⟩) L[i] (L[(i + 1) % L.length]'(Nat.mod_lt _ (by omega))) := by
  obtain ⟨g, cap, gr, rfl, hg, hc, hC⟩ := h
  refine ⟨g, cap, gr, rfl, hg, fun i hi => ⟨hc i hi, ?_⟩⟩
  have hm : (i + 1) % L.length < L.length := Nat.mod_lt _ (by omega)
  have e0 : (L ++ L.take 1)[i]? = some L[i] := by rw [List.getElem?_append_left hi, List.getElem?_eq_getElem hi]
  have e1 : (L ++ L.take 1)[i + 1]? = some L[(i + 1) % L.length] := by
    by_cases h1 : i + 1 < L.length
    · rw [List.getElem?_append_left h1, List.getElem?_eq_getElem h1]
      congr 1
      simp only [Nat.mod_eq_of_lt h1]
    · have e : i + 1 = L.length := by omega
      rw [List.getElem?_append_right (by omega)]
      simp only [e, Nat.mod_self, Nat.sub_self]
      rw [List.getElem?_take_of_lt (by omega), List.getElem?_eq_getElem (by omega)]
  obtain ⟨a0, a1⟩ := hC.2 i _ e0
  obtain ⟨b0, b1⟩ := hC.2 (i + 1) _ e1
  rw [Nat.zero_add] at a0 a1 b0 b1
  rw [show (i + 1) * 2 = i * 2 + 2 by omega] at b0 b1
  exact ⟨gr, i * 2, rfl, hC.1, a0, a1, b0, b1⟩
end Go.Proofs.Ytipdfajojcpolaa
