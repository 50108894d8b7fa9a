/-
  The law's own looks at lists of Spots, second part: marked, still marked.
-/
import Derived.Test.YtocfdmlkicndoaaB1
namespace Go.Proofs.Ytocfdmlkicndoaa
open Go.RowKit Go.Joins

def mk (k : Int) (n : Nat) : List T2 := (List.range n).map fun i : Nat => ⟨k + 2 * (i : Int), k + 2 * (i : Int) + 1⟩
theorem mk_get {k : Int} {n i : Nat} (h : i < n) : (mk k n)[i]? = some ⟨k + 2 * i, k + 2 * i + 1⟩ := by simp [mk, h]
theorem mk_len (k : Int) (n : Nat) : (mk k n).length = n := by simp [mk]

set_option maxHeartbeats 1000000 in
theorem markSpotS_any (p : Option Addr) (cap base : Nat) (k0 : Int) (L : List T2) (w : World) (hL : Ow w base (.slice p L.length cap) L) (hn : L.length ≤ 10000000) (hk0 : 0 ≤ k0) (hk1 : k0 ≤ 100000000) :
    Calls Try.prog 26 #[.slice p L.length cap, .int .i64 k0] w fun e w' => e = .returned (.int .i64 (k0 + 2 * L.length)) ∧ Ow w' base (.slice p L.length cap) (mk k0 L.length) ∧ w.grownBy w' (Value.slice p L.length cap).ownBlock := by
  go_enter Try.func26, Try.ntmps26
  go_wp2
  go_loopw [1, 5] (fun kv i wr => ∃ (k : Nat) (M : List T2), k ≤ L.length ∧ i = .int .i64 k ∧ kv = .int .i64 (k0 + 2 * k) ∧ M.length = L.length ∧ (∀ j, j < k → M[j]? = (mk k0 L.length)[j]?) ∧ Ow wr base (.slice p L.length cap) M ∧ w.grownBy wr (Value.slice p L.length cap).ownBlock) (fun _ i _ => L.length - (intOf i).toNat)
  case atStart => exact ⟨0, L, by omega, rfl, by simp, rfl, by simp, hL, ⟨rfl, rfl, rfl, Nat.le_refl _, fun _ _ _ => rfl⟩⟩
  case round =>
    obtain ⟨k, M, hk, rfl, rfl, hM, hjs, hrow, hg⟩ := hrel
    by_cases hlt : k < L.length
    · have hki : (k : Int) < L.length := by omega
      have hkM : k < M.length := by omega
      obtain ⟨g, off, rfl, _⟩ := (Ow.sl hrow).at hkM
      have hoff : off = 0 := by rcases hrow.2 with ⟨h1, _⟩ | ⟨_, _, _, h1, _⟩ <;> injection h1 with h1 <;> first | (cases h1; done) | (injection h1 with h1; injection h1)
      subst hoff
      obtain ⟨d0, d1⟩ := (Ow.cs hrow).2 k M[k] (List.getElem?_eq_getElem hkM)
      simp only [Nat.zero_add] at d0 d1
      unfold Ow at hrow
      rw [hM] at hrow
      have hf := hrow.frozenAt
      go_wp2
      go_roundw
      case rel =>
        obtain ⟨s1, t1⟩ := hrow.stored (k * 2) (.int .i64 (k0 + 2 * (k : Int)))
        obtain ⟨s2, t2⟩ := s1.stored (k * 2 + 1) (.int .i64 (k0 + 2 * (k : Int) + 1))
        refine ⟨k + 1, M.set k ⟨k0 + 2 * (k : Int), k0 + 2 * (k : Int) + 1⟩, by omega, by go_num, by congr 1; omega, by simp [hM], fun j hj => ?_, ?_, gtrans hg (gtrans t1 t2)⟩
        · by_cases e : k = j
          · subst e; rw [List.getElem?_set_self hkM, mk_get hlt]
          · rw [List.getElem?_set_ne e]; exact hjs j (by omega)
        · rw [flat_set ⟨k0 + 2 * (k : Int), k0 + 2 * (k : Int) + 1⟩ hkM] at s2
          unfold Ow; rw [List.length_set, hM]
          exact s2
      case measure => simp [intOf]; omega
    · obtain rfl : k = L.length := by omega
      go_wp2
      go_ret
      obtain rfl : M = mk k0 L.length := List.ext_getElem? fun j => by
        by_cases hj : j < L.length
        · exact hjs j hj
        · rw [List.getElem?_eq_none (by omega), List.getElem?_eq_none (by rw [mk_len]; omega)]
      exact ⟨rfl, hrow, hg⟩

end Go.Proofs.Ytocfdmlkicndoaa
