/-
  Stores of several Spots at once into a list of one's own: copy, clear.
-/
import Derived.Test.YtocfdmlkicndoaaS3
import Derived.Laws.CopyRow
namespace Go.Proofs.Ytocfdmlkicndoaa
open Go.RowKit Go.Joins

theorem flat_take : ∀ (M : List T2) (k : Nat), flat (M.take k) = (flat M).take (k * 2)
  | [], k => by simp [flat]
  | a :: t, 0 => by simp [flat]
  | a :: t, k + 1 => by
    have ih := flat_take t k
    have e : ∀ u, flat (a :: u) = .int .i64 a.x :: .int .i64 a.y :: flat u := fun u => by simp [flat, T2.vs]
    rw [List.take_succ_cons, e, e, ih, show (k + 1) * 2 = k * 2 + 1 + 1 by omega, List.take_succ_cons, List.take_succ_cons]
theorem flat_drop : ∀ (M : List T2) (k : Nat), flat (M.drop k) = (flat M).drop (k * 2)
  | [], k => by simp [flat]
  | a :: t, 0 => by simp
  | a :: t, k + 1 => by
    have ih := flat_drop t k
    have e : ∀ u, flat (a :: u) = .int .i64 a.x :: .int .i64 a.y :: flat u := fun u => by simp [flat, T2.vs]
    rw [List.drop_succ_cons, e, ih, show (k + 1) * 2 = k * 2 + 1 + 1 by omega, List.drop_succ_cons, List.drop_succ_cons]
theorem put_len {M B : List T2} {k : Nat} (hk : k + B.length ≤ M.length) : (M.take k ++ B ++ M.drop (k + B.length)).length = M.length := by simp; omega
theorem own_put {W : World} {base g n cap k : Nat} {M B : List T2} (h : Ow W base (.slice (some ⟨g, 0, none⟩) n cap) M) (hk : k + B.length ≤ M.length) :
    ∃ W', (storeCells ⟨g, k * 2, none⟩ (flat B) 0).run Try.prog W = .ok () W' ∧ Ow W' base (.slice (some ⟨g, 0, none⟩) n cap) (M.take k ++ B ++ M.drop (k + B.length)) ∧ W.grownBy W' (some g) := by
  obtain ⟨h0, ⟨h1, _⟩ | ⟨g', cap', cur, e, hg, hh, hc, hm, hs, ht⟩⟩ := h
  · cases h1
  · injection e with e1 e2 e3
    injection e1 with e1
    injection e1 with e1
    subst e1 e2 e3
    have hfl := flat_len B
    have hc2 := Nat.mul_le_mul_right 2 hc
    have hst := run_storeCells_at Try.prog g (k * 2) 37 (flat B) 0 cur W hh (by rw [hfl, hs]; omega) (flat_one B)
    refine ⟨_, hst, ?_, ⟨rfl, rfl, rfl, by simp, fun j _ hj => setRow_other W g j _ (fun e => hj (by simp [e]))⟩⟩
    unfold Ow
    rw [put_len hk]
    refine ⟨by rw [flat_len, put_len hk], .inr ⟨g, cap, _, rfl, hg, setRow_heap W g cur _ 37 _ hh, hc, hm, ?_, ?_⟩⟩
    · simp only [List.size_toArray, List.length_append, List.length_take, List.length_drop, Array.length_toList, hfl]
      omega
    · rw [flat_append, flat_append, flat_take, flat_drop, ← ht]
      refine List.ext_getElem? fun j => ?_
      have hcl : cur.toList.length = cap * 2 := by simpa using hs
      simp only [List.getElem?_take, List.getElem?_append, List.length_append, List.length_take, List.getElem?_drop, hfl, hcl, Nat.add_zero]
      have e1 : min (k * 2) (cap * 2) = k * 2 := by omega
      have e2 : min (k * 2) (min (M.length * 2) (cap * 2)) = k * 2 := by omega
      rw [e1, e2]
      by_cases j1 : j < M.length * 2
      · rw [if_pos j1]
        by_cases j2 : j < k * 2
        · rw [if_pos (by omega), if_pos j2, if_pos j2, if_pos (by omega), if_pos j2, if_pos j2, if_pos j1]
        · rw [if_neg j2]
          by_cases j3 : j < k * 2 + B.length * 2
          · rw [if_pos j3, if_pos j3, if_neg j2]
          · rw [if_neg j3, if_neg j3, if_pos (by omega)]
            congr 1; omega
      · rw [if_neg j1, if_neg (by omega), if_neg (by omega)]
theorem run_copyT {W : World} {base g cap : Nat} {M L : List T2} {a : Addr} {c : Nat} (h : Ow W base (.slice (some ⟨g, 0, none⟩) M.length cap) M) (hl : L.length = M.length) (hsrc : ∀ j u, (flat L)[j]? = some u → W.cell? (a.add j) = some u) :
    ∃ W', (∀ ty, (Builtin.copy_ #[66, 66] ty #[.slice (some ⟨g, 0, none⟩) M.length cap, .slice (some a) L.length c]).run Try.prog W = .ok (goInt L.length) W') ∧ Ow W' base (.slice (some ⟨g, 0, none⟩) M.length cap) L ∧ W.grownBy W' (some g) := by
  obtain ⟨i0, hi, hz0, hz1, hz2⟩ := info_parts info37
  obtain ⟨W', h1, h2, h3⟩ := own_put (k := 0) (B := L) h (by omega)
  have hld := run_loadCells_list (P := Try.prog) W a (flat L) hsrc
  rw [flat_len] at hld
  rw [Nat.zero_mul] at h1
  refine ⟨W', fun ty => ?_, ?_, h3⟩
  · have hmin : Nat.min L.length M.length = L.length := by rw [hl]; exact Nat.min_self _
    simp [Builtin.copy_, run_underlying Try.underlying66, Builtin.lenOf, Builtin.firstCells, sizeOf, typeInfo, hi, hz1, hmin, hld, h1]
  · have e : M.take 0 ++ L ++ M.drop (0 + L.length) = L := by rw [hl]; simp
    rw [e] at h2; exact h2
theorem run_clearT {W : World} {base g n cap k : Nat} (c : Nat) {M : List T2} (h : Ow W base (.slice (some ⟨g, 0, none⟩) n cap) M) (hk : k < M.length) :
    ∃ W' N, (∀ ty, (Builtin.clear_ #[66] ty #[.slice (some ⟨g, k * 2, none⟩) (M.length - k) c]).run Try.prog W = .ok (.tuple #[]) W') ∧ Ow W' base (.slice (some ⟨g, 0, none⟩) n cap) N ∧ N.take k = M.take k ∧ W.grownBy W' (some g) := by
  obtain ⟨W', h1, h2, h3⟩ := own_put (k := k) (B := List.replicate (M.length - k) zro) h (by simp; omega)
  refine ⟨W', _, fun ty => ?_, h2, ?_, h3⟩
  · have hz : (Builtin.zeroCells (Value.agg #[.int .i64 0, .int .i64 0]).cells (M.length - k)).toList = flat (List.replicate (M.length - k) zro) := by
      rw [← made_flat]; rfl
    obtain ⟨m, hm⟩ : ∃ m, M.length - k = m + 1 := ⟨M.length - k - 1, by omega⟩
    rw [hm] at hz h1 ⊢
    have hv := Try.zeroValue37
    simp [Builtin.clear_, run_underlying Try.underlying66, hv, hz, h1]
  · rw [List.append_assoc, List.take_append_of_le_length (by simp; omega), List.take_take, Nat.min_self]
theorem gdrewN {X Y : World} {r : Option Nat} (h : X.grownBy Y r) (n : Nat) : X.grownBy (Y.drewN n) r := ⟨h.os, h.tape, h.output, h.size, h.block⟩
theorem grefl (X : World) (r : Option Nat) : X.grownBy X r := ⟨rfl, rfl, rfl, Nat.le_refl _, fun _ _ _ => rfl⟩
end Go.Proofs.Ytocfdmlkicndoaa
