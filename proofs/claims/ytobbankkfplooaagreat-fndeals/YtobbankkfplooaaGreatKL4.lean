/-
  The law's looks at lists of numbers.
-/
import Derived.Test.YtobbankkfplooaaGreatKL3
namespace Go.Proofs.YtobbankkfplooaaGreat.K
open Go.Shelf Go.RowKit Go.Joins
attribute [local go_sem] Oper.semAt_some

def mk1 (k : Int) (n : Nat) : List Int := (List.range n).map fun i : Nat => k + (i : Int)
theorem mk1_get {k : Int} {n i : Nat} (h : i < n) : (mk1 k n)[i]? = some (k + i) := by simp [mk1, h]
theorem mk1_len (k : Int) (n : Nat) : (mk1 k n).length = n := by simp [mk1]
theorem getI {L : List Int} {k : Nat} (hk : k < L.length) : L[k]? = some (L.getD k 0) := by simp [List.getD, hk]
theorem Sg.setI {w W : World} {A Bs : List Rw} {g n c : Nat} {M : List Int} (h : Sg w W (A ++ rG kI (.slice (some ⟨g, 0, none⟩) n c) M :: Bs)) {k : Nat} (hk : k < M.length) (z : Int) :
    Sg w (W.setCell ⟨g, k, none⟩ (.int .i64 z)) (A ++ rG kI (.slice (some ⟨g, 0, none⟩) n c) (M.set k z) :: Bs) := by
  refine Sg.set h k (.int .i64 z) (by simp) ?_
  have hl := Kd.flat_len (K := kI) M
  rw [Kd.flat_set z hk]
  show (kI.flat M).take (k * 1) ++ [.int .i64 z] ++ (kI.flat M).drop (k * 1 + 1) = _
  rw [List.set_eq_take_append_cons_drop, if_pos (by rw [hl]; show k < M.length * 1; omega), Nat.mul_one]; simp
set_option maxHeartbeats 2000000 in
theorem markInt64S_any (p : Option Addr) (n c : Nat) (k0 : Int) (M : List Int) (A Bs : List Rw) (w W : World) (hS : Sg w W (A ++ rG kI (.slice p n c) M :: Bs)) (hb : n ≤ 10000000) (hk0 : 0 ≤ k0) (hk1 : k0 ≤ 100000000) :
    Calls Tryz.prog 61 #[.slice p n c, .int .i64 k0] W fun e w' => e = .returned (.int .i64 (k0 + n)) ∧ Sg w w' (A ++ rG kI (.slice p n c) (mk1 k0 n) :: Bs) := by
  have HM : Hid (M.length = n) := (OwG.len (hS.mem (K := kI) (v := .slice p n c) (L := M) (by simp))).symm
  go_enter Tryz.func61, Tryz.ntmps61
  go_wp2
  go_loopw [1, 5] (fun kv i wr => ∃ (k : Nat) (K : List Int), k ≤ n ∧ i = .int .i64 k ∧ kv = .int .i64 (k0 + k) ∧ Hid (K.length = n ∧ ∀ j, j < k → K[j]? = (mk1 k0 n)[j]?) ∧ Sg w wr (A ++ rG kI (.slice p n c) K :: Bs)) (fun _ i _ => n - (intOf i).toNat)
  case atStart => exact ⟨0, M, by omega, rfl, by simp, ⟨HM.out, by simp⟩, hS⟩
  case round =>
    clear hS HM
    obtain ⟨k, K, hk, rfl, rfl, hK, hS⟩ := hrel
    by_cases hlt : k < n
    · have hki : (k : Int) < n := by omega
      have ho := hS.mem (K := kI) (v := .slice p n c) (L := K) (by simp)
      obtain ⟨g, rfl⟩ := ow_some ho (by omega)
      have hkK : k < K.length := by rw [hK.out.1]; exact hlt
      have d0 := (OwG.cs ho).int (getI hkK)
      have hf := OwG.fz ho
      simp only [Nat.zero_add] at d0
      have hS2 := Sg.setI hS hkK (k0 + (k : Int))
      have HK2 : Hid (k < K.length) := hkK
      clear ho hkK
      go_wp2
      go_roundw
      case rel =>
        refine ⟨k + 1, K.set k (k0 + (k : Int)), by omega, by go_num, by congr 1; simp; omega, ⟨by simp [hK.out.1], fun j hj => ?_⟩, hS2⟩
        by_cases e : k = j
        · subst e; rw [List.getElem?_set_self HK2.out, mk1_get hlt]
        · rw [List.getElem?_set_ne e]; exact hK.out.2 j (by omega)
      case measure => simp [intOf]; omega
    · obtain rfl : k = n := by omega
      have e : K = mk1 k0 k := List.ext_getElem? fun j => by
        by_cases hj : j < k
        · exact hK.out.2 j hj
        · rw [List.getElem?_eq_none (by rw [hK.out.1]; omega), List.getElem?_eq_none (by rw [mk1_len]; omega)]
      subst e
      clear hK
      go_wp2
      go_ret
      exact ⟨rfl, hS⟩
set_option maxHeartbeats 1000000 in
theorem heldInt64S_any (p : Option Addr) (c : Nat) (k0 : Int) (n : Nat) (w : World) (hL : SlG kI w p (mk1 k0 n)) (hb : n ≤ 10000000) (hk0 : 0 ≤ k0) (hk1 : k0 ≤ 100000000) :
    Calls Tryz.prog 63 #[.slice p n c, .int .i64 k0] w fun e w' => e = .returned (.int .i64 (k0 + n)) ∧ w' = w := by
  go_enter Tryz.func63, Tryz.ntmps63
  go_wp2
  go_loop [1, 5] (fun kv i => ∃ k : Nat, k ≤ n ∧ i = .int .i64 k ∧ kv = .int .i64 (k0 + k)) (fun _ i => n - (intOf i).toNat)
  case atStart => exact ⟨0, by omega, rfl, by simp⟩
  case round =>
    obtain ⟨k, hk, rfl, rfl⟩ := hrel
    by_cases hlt : k < n
    · have hki : (k : Int) < n := by omega
      obtain ⟨g, off, rfl, hC⟩ := hL.at (k := k) (by rw [mk1_len]; exact hlt)
      have d0 := hC.int (mk1_get hlt)
      clear hC
      go_wp2
      go_round
      case rel => exact ⟨k + 1, by omega, by go_num, by congr 1; simp; omega⟩
      case measure => simp [intOf]; omega
    · obtain rfl : k = n := by omega
      go_wp2
      go_ret
      exact ⟨rfl, rfl⟩
set_option maxHeartbeats 1000000 in
theorem eqInt64S_same (p q : Option Addr) (cap cap' : Nat) (L : List Int) (n : Nat) (hn : L.length = n) (w : World) (hp : SlG kI w p L) (hq : SlG kI w q L) (_hb : n ≤ 10000000) :
    Calls Tryz.prog 59 #[.slice p n cap, .slice q n cap'] w fun e w' => e = .returned (.bool true) ∧ Below w.heap.size w w' := by
  have HN : Hid (L.length = n) := hn
  clear hn
  go_enter Tryz.func59, Tryz.ntmps59
  go_wp2
  go_loopw [5] (fun i wr => ∃ k : Nat, k ≤ n ∧ i = .int .i64 k ∧ Below w.heap.size w wr) (fun i _ => n - (intOf i).toNat)
  case atStart => exact ⟨0, by omega, rfl, Below.refl _ _⟩
  case round =>
    obtain ⟨k, hk, rfl, hb⟩ := hrel
    by_cases hlt : k < n
    · have hki : (k : Int) < n := by omega
      have hkL : k < L.length := by rw [HN.out]; exact hlt
      obtain ⟨g, off, rfl, hC⟩ := (hp.step hb).at hkL
      obtain ⟨g2, off2, rfl, hC2⟩ := (hq.step hb).at hkL
      have c0 := hC.int (getI hkL)
      have d0 := hC2.int (getI hkL)
      clear hC hC2
      go_wp2
      go_region
      all_goals
        go_wp2
        go_roundw
        case rel => exact ⟨k + 1, by omega, by go_num, hb.drew⟩
        case measure => simp [intOf]; omega
    · obtain rfl : k = n := by omega
      go_wp2
      go_ret
      exact ⟨rfl, hb⟩
end Go.Proofs.YtobbankkfplooaaGreat.K
