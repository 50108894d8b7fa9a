/-
  The edges of a list of Spots: each a slice of a ring.
-/
import Derived.Test.YtocfdmlkicndoaaA2
import Derived.Test.YtocfdmlkicndoaaN2
import Derived.Deep.CutBlock
import Derived.Deep.AppendLies
import Derived.Deep.RegionHeld3
import Derived.Lib.SliceRun
namespace Go.Proofs.Ytocfdmlkicndoaa
open Go.RowKit Go.Joins
attribute [local go_sem ↓] Go.wp_at_zero Go.wp_at_succ

theorem bel_grown {B : Nat} {w W W' : World} {row : Option Nat} (h : Below B w W) (hg : W.grownBy W' row) (hr : ∀ r, row = some r → B ≤ r) (hB : B ≤ w.heap.size) : Below B w W' :=
  ⟨hg.os.trans h.os, hg.tape.trans h.tape, hg.output.trans h.output, Nat.le_trans h.size hg.size, fun k hk => (hg.block k (Nat.lt_of_lt_of_le hk (Nat.le_trans hB h.size)) (fun e => by have := hr k e.symm; omega)).trans (h.block k hk)⟩
theorem addr_add (b off n : Nat) : (⟨b, off, none⟩ : Addr).add n = ⟨b, off + n, none⟩ := by
  unfold Addr.add; split <;> simp_all
theorem cs_news {W : World} {g off : Nat} {Q : List T2} (h : Cs W g off Q) : ∀ j u, (flat Q)[j]? = some u → W.cell? ((⟨g, off, none⟩ : Addr).add j) = some u := by
  intro j u hj
  have hlt : j < Q.length * 2 := by have := (List.getElem?_eq_some_iff.1 hj).1; rw [flat_len] at this; exact this
  have hk : j / 2 < Q.length := by omega
  obtain ⟨c0, c1⟩ := h.2 (j / 2) Q[j / 2] (List.getElem?_eq_getElem hk)
  obtain ⟨f0, f1⟩ := flat_get (List.getElem?_eq_getElem hk)
  have hm : j = j / 2 * 2 ∨ j = j / 2 * 2 + 1 := by omega
  have ea : (⟨g, off, none⟩ : Addr).add j = ⟨g, off + j, none⟩ := by unfold Addr.add; split <;> simp_all
  rw [ea]
  rcases hm with h | h
  · rw [h] at hj ⊢; rw [f0] at hj; cases hj; exact c0
  · rw [h] at hj ⊢; rw [f1] at hj; cases hj; rw [← Nat.add_assoc]; exact c1
theorem flat_one (Q : List T2) : ∀ u ∈ flat Q, u.oneCell' = true := by
  intro u hu
  unfold flat at hu
  obtain ⟨c, _, hu⟩ := List.mem_flatMap.mp hu
  simp [T2.vs] at hu
  rcases hu with rfl | rfl <;> rfl

theorem cell_two_at {w : World} {g : Nat} {a b : Value} {t : TypeId} (hg : g = w.heap.size) : ∀ j u, [a, b][j]? = some u → (w.alloc (.cells #[a, b] t)).cell? ((⟨g, 0, none⟩ : Addr).add j) = some u := by
  subst hg
  intro j u hj
  have ea : (⟨w.heap.size, 0, none⟩ : Addr).add j = ⟨w.heap.size, j, none⟩ := by unfold Addr.add; split <;> simp_all
  rw [ea, World.cell?_alloc_at _ _ _ _ rfl]
  simpa using hj
theorem info94 : (Try.prog.info? 94).map (fun i => (i.zero, i.size, i.bytes)) = some (some (.slice none 0 0), 1, 24) := by kernel_rfl
/-- The slices of a ring at gr: two Spots each. -/
def ring (gr n : Nat) : List Value := (List.range n).map fun i => .slice (some ⟨gr, i * 2, none⟩) 2 2
theorem ring_len (gr n : Nat) : (ring gr n).length = n := by simp [ring]
theorem ring_succ (gr n : Nat) : ring gr (n + 1) = ring gr n ++ [.slice (some ⟨gr, n * 2, none⟩) 2 2] := by simp [ring, List.range_succ]
/-- The edges of L. -/
def Eds (w : World) (v : Value) (L : List T2) : Prop := ∃ h cap gr, v = .slice (some ⟨h, 0, none⟩) L.length cap ∧ h < w.heap.size ∧ (∀ i, i < L.length → w.cell? ⟨h, i, none⟩ = some (.slice (some ⟨gr, i * 2, none⟩) 2 2)) ∧ Cs w gr 0 (L ++ L.take 1)
theorem Eds.step {w w' : World} {v : Value} {L : List T2} (h : Eds w v L) (hb : Below w.heap.size w w') : Eds w' v L := by
  obtain ⟨g, cap, gr, rfl, hg, hc, hC⟩ := h
  exact ⟨g, cap, gr, rfl, Nat.lt_of_lt_of_le hg hb.size, fun i hi => (hb.cell (p := ⟨g, i, none⟩) hg).trans (hc i hi), hC.step hb⟩

theorem Cs.grown {X Y : World} {row : Option Nat} {g off : Nat} {Q : List T2} (h : Cs X g off Q) (hg : X.grownBy Y row) (hr : row ≠ some g) : Cs Y g off Q :=
  ⟨Nat.lt_of_lt_of_le h.1 hg.size, fun k c hk => ⟨(World.cell?_of_block (w := X) (hg.block g h.1 (fun e => hr e.symm))).trans (h.2 k c hk).1, (World.cell?_of_block (w := X) (hg.block g h.1 (fun e => hr e.symm))).trans (h.2 k c hk).2⟩⟩
theorem Eds.at {w : World} {v : Value} {L : List T2} (h : Eds w v L) : ∃ g cap gr, v = .slice (some ⟨g, 0, none⟩) L.length cap ∧ g < w.heap.size ∧ ∀ i (hi : i < L.length), w.cell? ⟨g, i, none⟩ = some (.slice (some ⟨gr, i * 2, none⟩) 2 2) ∧ Eg w (some ⟨gr, i * 2, none⟩) L[i] (L[(i + 1) % L.length]'(Nat.mod_lt _ (by omega))) := by
  obtain ⟨g, cap, gr, rfl, hg, hc, hC⟩ := h
  refine ⟨g, cap, gr, rfl, hg, fun i hi => ⟨hc i hi, ?_⟩⟩
  have hm : (i + 1) % L.length < L.length := Nat.mod_lt _ (by omega)
  have e0 : (L ++ L.take 1)[i]? = some L[i] := by rw [List.getElem?_append_left hi, List.getElem?_eq_getElem hi]
  have e1 : (L ++ L.take 1)[i + 1]? = some L[(i + 1) % L.length] := by
    by_cases h1 : i + 1 < L.length
    · rw [List.getElem?_append_left h1, List.getElem?_eq_getElem h1]
      congr 1
      simp only [Nat.mod_eq_of_lt h1]
    · have e : i + 1 = L.length := by omega
      rw [List.getElem?_append_right (by omega)]
      simp only [e, Nat.mod_self, Nat.sub_self]
      rw [List.getElem?_take_of_lt (by omega), List.getElem?_eq_getElem (by omega)]
  obtain ⟨a0, a1⟩ := hC.2 i _ e0
  obtain ⟨b0, b1⟩ := hC.2 (i + 1) _ e1
  rw [Nat.zero_add] at a0 a1 b0 b1
  rw [show (i + 1) * 2 = i * 2 + 2 by omega] at b0 b1
  exact ⟨gr, i * 2, rfl, hC.1, a0, a1, b0, b1⟩
end Go.Proofs.Ytocfdmlkicndoaa
