/-
  The half of a hull: the spec's.
-/
import Derived.Test.YtocfdmlkicndoaaE1
import Derived.Test.YtocfdmlkicndoaaA6
import Derived.Deep.RegionHeld3
namespace Go.Proofs.Ytocfdmlkicndoaa
open Go.RowKit Go.Joins
attribute [local go_sem ↓] Go.wp_at_zero Go.wp_at_succ

theorem own_take {W : World} {base g N n cap : Nat} {A T : List T2} (h : W.ownsRow base 37 2 (.slice (some ⟨g, 0, none⟩) N cap) N (flat (A ++ T))) (hn : n = A.length) (hN : n ≤ N) : W.ownsRow base 37 2 (.slice (some ⟨g, 0, none⟩) n cap) n (flat A) := by
  obtain ⟨h0, ⟨h1, _⟩ | ⟨g', cap', cur, e, hg, hh, hc, hm, hs, ht⟩⟩ := h
  · cases h1
  · injection e with e1 e2 e3
    injection e1 with e1
    injection e1 with e1
    subst e1 e3
    refine ⟨by rw [flat_len, hn], .inr ⟨g, cap, cur, rfl, hg, hh, by omega, hm, hs, ?_⟩⟩
    rw [flat_append] at ht
    have h5 := congrArg (List.take (n * 2)) ht
    rw [List.take_take, Nat.min_eq_left (Nat.mul_le_mul_right 2 hN), List.take_left' (by rw [flat_len, hn])] at h5
    exact h5
theorem below_drewN (w : World) (n : Nat) : Below w.heap.size w (w.drewN n) := bdrewN (Below.refl _ _) n
def lenV : Value → Nat
  | .slice _ n _ => n
  | _ => 0
theorem split2 {M : List T2} (h : 2 ≤ M.length) : ∃ A u v, M = A ++ [u, v] := by
  refine ⟨M.take (M.length - 2), M[M.length - 2], M[M.length - 1], ?_⟩
  have e : M.drop (M.length - 2) = [M[M.length - 2], M[M.length - 1]] := by
    rw [List.drop_eq_getElem_cons (by omega), List.drop_eq_getElem_cons (by omega), List.drop_eq_nil_of_le (by omega)]
    simp only [List.cons.injEq, and_true, true_and]
    congr 1; omega
  rw [← e, List.take_append_drop]
theorem Ow.some {W : World} {base : Nat} {p : Option Addr} {n cap : Nat} {M : List T2} (h : Ow W base (.slice p n cap) M) (hn : 0 < M.length) : ∃ g, p = some ⟨g, 0, none⟩ ∧ base ≤ g ∧ n = M.length ∧ M.length ≤ cap := by
  rcases h.2 with ⟨h1, h0⟩ | ⟨g, cap', cur, e, hg, hh, hc, _⟩
  · omega
  · injection e with e1 e2 e3
    subst e1 e2 e3
    exact ⟨g, rfl, hg, rfl, hc⟩
theorem Cs.end2 {W : World} {g : Nat} {A : List T2} {u v : T2} (h : Cs W g 0 (A ++ [u, v])) : (W.cell? ⟨g, A.length * 2, none⟩ = some (.int .i64 u.x) ∧ W.cell? ⟨g, A.length * 2 + 1, none⟩ = some (.int .i64 u.y)) ∧ (W.cell? ⟨g, (A.length + 1) * 2, none⟩ = some (.int .i64 v.x) ∧ W.cell? ⟨g, (A.length + 1) * 2 + 1, none⟩ = some (.int .i64 v.y)) := by
  have h1 := h.2 A.length u (by simp)
  have h2 := h.2 (A.length + 1) v (by simp)
  simp only [Nat.zero_add] at h1 h2
  exact ⟨h1, h2⟩
theorem pop_two {A : List T2} {u v s : T2} : popT (A ++ [u, v]).reverse s = if crT u v s ≤ 0 then popT (A ++ [u]).reverse s else (A ++ [u, v]).reverse := by
  simp [popT]
theorem pop_short {M : List T2} {s : T2} (h : M.length < 2) : popT M.reverse s = M.reverse := by
  match M, h with
  | [], _ => rfl
  | [_], _ => rfl
theorem half_take {L : List T2} {k : Nat} (hk : k < L.length) : halfR (L.take (k + 1)) = pushT (halfR (L.take k)) L[k] := by
  rw [List.take_succ_eq_append_getElem hk, half_snoc]
theorem half_len : ∀ (L : List T2), (halfR L).length ≤ L.length :=
  snoc_ind (by simp [halfR]) fun L s ih => by
    rw [half_snoc]; unfold pushT
    have := pop_len s (halfR L)
    simp; omega
end Go.Proofs.Ytocfdmlkicndoaa
