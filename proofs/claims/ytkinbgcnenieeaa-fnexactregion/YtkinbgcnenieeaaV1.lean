/-
  The law's marks and looks: lists of Cells, Clauses, Papers.
-/
import Derived.Test.YtkinbgcnenieeaaAL3
namespace Go.Proofs.Ytkinbgcnenieeaa
open Go.Shelf Go.RowKit Go.Joins M
attribute [local go_sem] Oper.semAt_some

theorem ow_some {α : Type} {K : Kd α} {W : World} {base n c : Nat} {p : Option Addr} {L : List α} (h : OwG K W base (.slice p n c) L) (h0 : 0 < n) : ∃ g, p = some ⟨g, 0, none⟩ := by
  obtain ⟨g, off, rfl, _⟩ := (OwG.sl h).at (k := 0) (by have := OwG.len h; omega)
  have hz := OwG.zero h
  subst hz
  exact ⟨g, rfl⟩
def sm6 (QL : List CQ) : Prop := ∀ q ∈ QL, q.2.1.n ≤ 1100000 ∧ q.2.2.n ≤ 1100000
def mkC (k : Int) (n : Nat) : List T3 := (List.range n).map fun i : Nat => ⟨k + 3 * (i : Int), k + 3 * (i : Int) + 1, k + 3 * (i : Int) + 1 + 1⟩
theorem mkC_get {k : Int} {n i : Nat} (h : i < n) : (mkC k n)[i]? = some ⟨k + 3 * i, k + 3 * i + 1, k + 3 * i + 1 + 1⟩ := by simp [mkC, h]
theorem mkC_len (k : Int) (n : Nat) : (mkC k n).length = n := by simp [mkC]
set_option maxRecDepth 100000 in
set_option maxHeartbeats 2000000 in
theorem markCellS_any (p : Option Addr) (n c : Nat) (k0 : Int) (M : List T3) (A Bs : List Rw) (w W : World) (hS : Sg w W (A ++ rG kC (.slice p n c) M :: Bs)) (hb : n ≤ 10000000) (hk0 : 0 ≤ k0) (hk1 : k0 ≤ 100000000) :
    Calls Try.prog 15 #[.slice p n c, .int .i64 k0] W fun e w' => e = .returned (.int .i64 (k0 + 3 * n)) ∧ Sg w w' (A ++ rG kC (.slice p n c) (mkC k0 n) :: Bs) := by
  have hMl := (OwG.len (hS.mem (K := kC) (v := .slice p n c) (L := M) (by simp))).symm
  have HM : Hid (M.length = n) := hMl
  clear hMl
  go_enter Try.func15, Try.ntmps15
  go_wp2
  go_loopw [1, 5] (fun kv i wr => ∃ (k : Nat) (K : List T3), k ≤ n ∧ i = .int .i64 k ∧ kv = .int .i64 (k0 + 3 * k) ∧ Hid (K.length = n ∧ ∀ j, j < k → K[j]? = (mkC k0 n)[j]?) ∧ Sg w wr (A ++ rG kC (.slice p n c) K :: Bs)) (fun _ i _ => n - (intOf i).toNat)
  case atStart => exact ⟨0, M, by omega, rfl, by simp, ⟨HM.out, by simp⟩, hS⟩
  case round =>
    clear hS HM
    obtain ⟨k, K, hk, rfl, rfl, hK, hS⟩ := hrel
    by_cases hlt : k < n
    · have hki : (k : Int) < n := by omega
      have ho := hS.mem (K := kC) (v := .slice p n c) (L := K) (by simp)
      obtain ⟨g, rfl⟩ := ow_some ho (by omega)
      have hkK : k < K.length := by rw [hK.out.1]; exact hlt
      obtain ⟨d0, d1, d2⟩ := (OwG.cs ho).c3 (getC hkK)
      have hf := OwG.fz ho
      simp only [Nat.zero_add] at d0 d1 d2
      have hS2 := Sg.setC hS hkK ⟨k0 + 3 * k, k0 + 3 * k + 1, k0 + 3 * k + 1 + 1⟩
      have HK2 : Hid (k < K.length) := hkK
      clear ho hkK
      go_wp2
      go_roundw
      case rel =>
        refine ⟨k + 1, K.set k ⟨k0 + 3 * k, k0 + 3 * k + 1, k0 + 3 * k + 1 + 1⟩, by omega, by go_num, by congr 1; simp; omega, ⟨by simp [hK.out.1], fun j hj => ?_⟩, hS2⟩
        by_cases e : k = j
        · subst e; rw [List.getElem?_set_self HK2.out, mkC_get hlt]
        · rw [List.getElem?_set_ne e]; exact hK.out.2 j (by omega)
      case measure => simp [intOf]; omega
    · obtain rfl : k = n := by omega
      have e : K = mkC k0 k := List.ext_getElem? fun j => by
        by_cases hj : j < k
        · exact hK.out.2 j hj
        · rw [List.getElem?_eq_none (by rw [hK.out.1]; omega), List.getElem?_eq_none (by rw [mkC_len]; omega)]
      subst e
      clear hK
      go_wp2
      go_ret
      exact ⟨rfl, hS⟩
set_option maxRecDepth 100000 in
set_option maxHeartbeats 2000000 in
theorem heldCellS_any (p : Option Addr) (c : Nat) (k0 : Int) (n : Nat) (w : World) (hL : SlG kC w p (mkC k0 n)) (hb : n ≤ 10000000) (hk0 : 0 ≤ k0) (hk1 : k0 ≤ 100000000) :
    Calls Try.prog 16 #[.slice p n c, .int .i64 k0] w fun e w' => e = .returned (.int .i64 (k0 + 3 * n)) ∧ w' = w := by
  go_enter Try.func16, Try.ntmps16
  go_wp2
  go_loop [1, 5] (fun kv i => ∃ k : Nat, k ≤ n ∧ i = .int .i64 k ∧ kv = .int .i64 (k0 + 3 * k)) (fun _ i => n - (intOf i).toNat)
  case atStart => exact ⟨0, by omega, rfl, by simp⟩
  case round =>
    obtain ⟨k, hk, rfl, rfl⟩ := hrel
    by_cases hlt : k < n
    · have hki : (k : Int) < n := by omega
      obtain ⟨g, off, rfl, hC⟩ := hL.at (k := k) (by rw [mkC_len]; exact hlt)
      obtain ⟨d0, d1, d2⟩ := hC.c3 (mkC_get hlt)
      clear hC
      go_wp2
      go_round
      case rel => exact ⟨k + 1, by omega, by go_num, by congr 1; simp; omega⟩
      case measure => simp [intOf]; omega
    · obtain rfl : k = n := by omega
      go_wp2
      go_ret
      exact ⟨rfl, rfl⟩

end Go.Proofs.Ytkinbgcnenieeaa
