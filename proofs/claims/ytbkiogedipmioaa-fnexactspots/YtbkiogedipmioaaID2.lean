/-
  The law's looks at lists of Spots: alike, marked, still marked.
-/
import Derived.Test.YtbkiogedipmioaaID1
namespace Go.Proofs.Ytbkiogedipmioaa
open Go.Shelf Go.RowKit Go.Joins
theorem CsG.s2 {w : World} {g off : Nat} {L : List (Int × Int)} (h : CsG I.kS w g off L) {k : Nat} {c : Int × Int} (hk : L[k]? = some c) : w.cell? ⟨g, off + k * 2, none⟩ = some (.int .i64 c.1) ∧ w.cell? ⟨g, off + k * 2 + 1, none⟩ = some (.int .i64 c.2) :=
  ⟨h.at hk (i := 0) rfl, h.at hk (i := 1) rfl⟩
theorem Sg.dr {w W : World} {rs : List Rw} (h : Sg w W rs) : Sg w W.drew rs := h.step (Below.refl _ _).drew
end Go.Proofs.Ytbkiogedipmioaa
namespace Go.Proofs.Ytbkiogedipmioaa.I
open Go.Shelf Go.RowKit Go.Joins
attribute [local go_sem] Oper.semAt_some

theorem getP {L : List (Int × Int)} {k : Nat} (hk : k < L.length) : L[k]? = some (L.getD k (0, 0)) := by simp [List.getD, hk]
def mk2 (k : Int) (n : Nat) : List (Int × Int) := (List.range n).map fun i : Nat => (k + 2 * (i : Int), k + 2 * (i : Int) + 1)
theorem mk2_get {k : Int} {n i : Nat} (h : i < n) : (mk2 k n)[i]? = some (k + 2 * i, k + 2 * i + 1) := by simp [mk2, h]
theorem mk2_len (k : Int) (n : Nat) : (mk2 k n).length = n := by simp [mk2]
theorem Sg.setS2 {w W : World} {A Bs : List Rw} {g n c : Nat} {M : List (Int × Int)} (h : Sg w W (A ++ rG kS (.slice (some ⟨g, 0, none⟩) n c) M :: Bs)) {k : Nat} (hk : k < M.length) (a b : Int) :
    Sg w ((W.setCell ⟨g, k * 2, none⟩ (.int .i64 a)).setCell ⟨g, k * 2 + 1, none⟩ (.int .i64 b)) (A ++ rG kS (.slice (some ⟨g, 0, none⟩) n c) (M.set k (a, b)) :: Bs) := by
  have ho : OwG kS W w.heap.size (.slice (some ⟨g, 0, none⟩) n c) M := h.mem (by simp)
  have hn := OwG.len ho
  subst hn
  have h1 := (Sg.setRaw h (k * 2) (.int .i64 a)).setRaw (k * 2 + 1) (.int .i64 b)
  have hl := Kd.flat_len (K := kS) M
  have e : kS.flat (M.set k (a, b)) = ((kS.flat M).set (k * 2) (.int .i64 a)).set (k * 2 + 1) (.int .i64 b) := by
    have h2 : k * 2 + 2 ≤ (kS.flat M).length := by rw [hl]; show k * 2 + 2 ≤ M.length * 2; omega
    rw [Kd.flat_set (a, b) hk]
    show (kS.flat M).take (k * 2) ++ [.int .i64 a, .int .i64 b] ++ (kS.flat M).drop (k * 2 + 2) = _
    refine List.ext_getElem? fun j => ?_
    simp only [List.getElem?_append, List.length_append, List.length_take, List.length_cons, List.length_nil, List.getElem?_drop]
    have hmin : min (k * 2) (kS.flat M).length = k * 2 := by omega
    rw [hmin]
    by_cases h3 : j < k * 2
    · rw [if_pos (by omega), if_pos h3, List.getElem?_set_ne (by omega), List.getElem?_set_ne (by omega), List.getElem?_take_of_lt h3]
    · by_cases h4 : j < k * 2 + 2
      · rw [if_pos (by omega), if_neg h3]
        have : j = k * 2 ∨ j = k * 2 + 1 := by omega
        rcases this with rfl | rfl
        · rw [List.getElem?_set_ne (by omega), List.getElem?_set_self (by omega)]; simp
        · rw [List.getElem?_set_self (by simp; omega)]; simp
      · rw [if_neg (by omega), List.getElem?_set_ne (by omega), List.getElem?_set_ne (by omega)]
        congr 1; omega
  have e2 : rG kS (.slice (some ⟨g, 0, none⟩) M.length c) (M.set k (a, b)) = ⟨.slice (some ⟨g, 0, none⟩) M.length c, kS.t, 2, M.length, ((kS.flat M).set (k * 2) (.int .i64 a)).set (k * 2 + 1) (.int .i64 b)⟩ := by
    unfold rG; rw [e, List.length_set]; rfl
  rw [e2]; exact h1
set_option maxHeartbeats 2000000 in
theorem markSpotS_any (p : Option Addr) (n c : Nat) (k0 : Int) (M : List (Int × Int)) (A Bs : List Rw) (w W : World) (hS : Sg w W (A ++ rG kS (.slice p n c) M :: Bs)) (hb : n ≤ 1000000) (hk0 : 0 ≤ k0) (hk1 : k0 ≤ 100000000) :
    Calls Try.prog 19 #[.slice p n c, .int .i64 k0] W fun e w' => e = .returned (.int .i64 (k0 + 2 * n)) ∧ Sg w w' (A ++ rG kS (.slice p n c) (mk2 k0 n) :: Bs) := by
  have HM : Hid (M.length = n) := (OwG.len (hS.mem (K := kS) (v := .slice p n c) (L := M) (by simp))).symm
  go_enter Try.func19, Try.ntmps19
  go_wp2
  go_loopw [1, 5] (fun kv i wr => ∃ (k : Nat) (K : List (Int × Int)), k ≤ n ∧ i = .int .i64 k ∧ kv = .int .i64 (k0 + 2 * k) ∧ Hid (K.length = n ∧ ∀ j, j < k → K[j]? = (mk2 k0 n)[j]?) ∧ Sg w wr (A ++ rG kS (.slice p n c) K :: Bs)) (fun _ i _ => n - (intOf i).toNat)
  case atStart => exact ⟨0, M, by omega, rfl, by simp, ⟨HM.out, by simp⟩, hS⟩
  case round =>
    clear hS HM
    obtain ⟨k, K, hk, rfl, rfl, hK, hS⟩ := hrel
    by_cases hlt : k < n
    · have hki : (k : Int) < n := by omega
      have ho := hS.mem (K := kS) (v := .slice p n c) (L := K) (by simp)
      obtain ⟨g, rfl⟩ := ow_some ho (by omega)
      have hkK : k < K.length := by rw [hK.out.1]; exact hlt
      obtain ⟨d0, d1⟩ := (OwG.cs ho).s2 (getP hkK)
      have hf := OwG.fz ho
      simp only [Nat.zero_add] at d0 d1
      obtain ⟨z, hz⟩ : ∃ z, k0 + 2 * (k : Int) = z := ⟨_, rfl⟩
      have hz0 : 0 ≤ z := by omega
      have hz1 : z ≤ 110000000 := by omega
      have hS2 := Sg.setS2 hS hkK z (z + 1)
      have HK2 : Hid (k < K.length ∧ k0 + 2 * (k : Int) = z) := ⟨hkK, hz⟩
      rw [hz]
      clear ho hkK hz
      go_wp2
      go_roundw
      case rel =>
        refine ⟨k + 1, K.set k (z, z + 1), by omega, by go_num, by congr 1; have := HK2.out.2; simp; omega, ⟨by simp [hK.out.1], fun j hj => ?_⟩, hS2⟩
        by_cases e : k = j
        · subst e; rw [List.getElem?_set_self HK2.out.1, mk2_get hlt, HK2.out.2]
        · rw [List.getElem?_set_ne e]; exact hK.out.2 j (by omega)
      case measure => simp [intOf]; omega
    · obtain rfl : k = n := by omega
      have e : K = mk2 k0 k := List.ext_getElem? fun j => by
        by_cases hj : j < k
        · exact hK.out.2 j hj
        · rw [List.getElem?_eq_none (by rw [hK.out.1]; omega), List.getElem?_eq_none (by rw [mk2_len]; omega)]
      subst e
      clear hK
      go_wp2
      go_ret
      exact ⟨rfl, hS⟩
set_option maxHeartbeats 1000000 in
theorem heldSpotS_any (p : Option Addr) (c : Nat) (k0 : Int) (n : Nat) (w : World) (hL : SlG kS w p (mk2 k0 n)) (hb : n ≤ 1000000) (hk0 : 0 ≤ k0) (hk1 : k0 ≤ 100000000) :
    Calls Try.prog 20 #[.slice p n c, .int .i64 k0] w fun e w' => e = .returned (.int .i64 (k0 + 2 * n)) ∧ w' = w := by
  go_enter Try.func20, Try.ntmps20
  go_wp2
  go_loop [1, 5] (fun kv i => ∃ k : Nat, k ≤ n ∧ i = .int .i64 k ∧ kv = .int .i64 (k0 + 2 * k)) (fun _ i => n - (intOf i).toNat)
  case atStart => exact ⟨0, by omega, rfl, by simp⟩
  case round =>
    obtain ⟨k, hk, rfl, rfl⟩ := hrel
    by_cases hlt : k < n
    · have hki : (k : Int) < n := by omega
      obtain ⟨g, off, rfl, hC⟩ := hL.at (k := k) (by rw [mk2_len]; exact hlt)
      obtain ⟨d0, d1⟩ := hC.s2 (mk2_get hlt)
      simp only at d0 d1
      have HZ : Hid (k0 + 2 * (k : Int) + 2 = k0 + 2 * ((k + 1 : Nat) : Int)) := (by simp; omega : k0 + 2 * (k : Int) + 2 = k0 + 2 * ((k + 1 : Nat) : Int))
      obtain ⟨z, hz⟩ : ∃ z, k0 + 2 * (k : Int) = z := ⟨_, rfl⟩
      have hz0 : 0 ≤ z := by omega
      have hz1 : z ≤ 110000000 := by omega
      rw [hz] at d0 d1 HZ ⊢
      clear hC hz
      go_wp2
      go_round
      case rel => exact ⟨k + 1, by omega, by go_num, by congr 1; have := HZ.out; omega⟩
      case measure => simp [intOf]; omega
    · obtain rfl : k = n := by omega
      go_wp2
      go_ret
      exact ⟨rfl, rfl⟩
theorem eqSpot_same (c : Int × Int) (w : World) : Calls Try.prog 40 #[.agg #[.int .i64 c.1, .int .i64 c.2], .agg #[.int .i64 c.1, .int .i64 c.2]] w fun e w' => e = .returned (.bool true) ∧ Below w.heap.size w w' := by
  go_enter Try.func40, Try.ntmps40
  go_wp2
  go_ret
  exact ⟨rfl, below_alloc2 _ _ _⟩
set_option maxHeartbeats 1000000 in
theorem eqSpotS_same (p q : Option Addr) (cap cap' : Nat) (L : List (Int × Int)) (n : Nat) (hn : L.length = n) (w : World) (hp : SlG kS w p L) (hq : SlG kS w q L) (_hb : n ≤ 10000000) :
    Calls Try.prog 15 #[.slice p n cap, .slice q n cap'] w fun e w' => e = .returned (.bool true) ∧ Below w.heap.size w w' := by
  have HN : Hid (L.length = n) := hn
  clear hn
  go_enter Try.func15, Try.ntmps15
  go_wp2
  go_loopw [5] (fun i wr => ∃ k : Nat, k ≤ n ∧ i = .int .i64 k ∧ Below w.heap.size w wr) (fun i _ => n - (intOf i).toNat)
  case atStart => exact ⟨0, by omega, rfl, Below.refl _ _⟩
  case round =>
    obtain ⟨k, hk, rfl, hb⟩ := hrel
    by_cases hlt : k < n
    · have hki : (k : Int) < n := by omega
      have hkL : k < L.length := by rw [HN.out]; exact hlt
      obtain ⟨g, off, rfl, hC⟩ := (hp.step hb).at hkL
      obtain ⟨g2, off2, rfl, hC2⟩ := (hq.step hb).at hkL
      obtain ⟨c0, c1⟩ := hC.s2 (getP hkL)
      obtain ⟨d0, d1⟩ := hC2.s2 (getP hkL)
      generalize L.getD k (0, 0) = m at c0 c1 d0 d1
      clear hC hC2
      go_wp2
      go_region_with ((go_at_call 40; refine (eqSpot_same m _).mono ?_; rintro e w1 ⟨rfl, hb2⟩))
      all_goals
        go_wp2
        go_roundw
        case rel => exact ⟨k + 1, by omega, by go_num, bstep hb.drew hb2 (Nat.le_refl _)⟩
        case measure => simp [intOf]; omega
    · obtain rfl : k = n := by omega
      go_wp2
      go_ret
      exact ⟨rfl, hb⟩
end Go.Proofs.Ytbkiogedipmioaa.I
