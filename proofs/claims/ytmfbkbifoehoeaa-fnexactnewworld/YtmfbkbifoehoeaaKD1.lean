/-
  The law's looks at lists of Owns: how big, alike, marked, still marked.
-/
import Derived.Test.YtmfbkbifoehoeaaKD0
import Derived.Deep.RegionWith
namespace Go.Proofs.Ytmfbkbifoehoeaa.K.D
open Go.Shelf Go.RowKit Go.Joins
attribute [local go_sem] Oper.semAt_some

set_option maxHeartbeats 1000000 in
theorem eqOwn_same (o : On) (w : World) : Calls Try.prog 40 #[o.v, o.v] w fun e w' => e = .returned (.bool true) ∧ Below w.heap.size w w' := by
  obtain ⟨l, x, y, s⟩ := o
  have hst := ((St.nil w).push [.int .i64 l, .int .i64 x, .int .i64 y, .int .i64 s] 39).push [.int .i64 l, .int .i64 x, .int .i64 y, .int .i64 s] 39
  simp only [World.size_alloc] at hst
  go_enter Try.func40, Try.ntmps40
  go_wp2_with (go_at_call 47; refine (M.eqCell_same _ _ _ _).mono ?_; rintro e w1 ⟨rfl, hb2⟩; have hs1 := hst.step hb2; have hk := hs1.has; simp [Has, HasAt] at hk)
  go_ret
  exact ⟨rfl, hs1.bel⟩
set_option maxHeartbeats 1000000 in
theorem eqOwnS_same (p q : Option Addr) (cap cap' : Nat) (L : List On) (n : Nat) (hn : L.length = n) (w : World) (hp : SlG kO w p L) (hq : SlG kO w q L) (_hb : n ≤ 10000000) :
    Calls Try.prog 24 #[.slice p n cap, .slice q n cap'] w fun e w' => e = .returned (.bool true) ∧ Below w.heap.size w w' := by
  have HN : Hid (L.length = n) := hn
  clear hn
  go_enter Try.func24, Try.ntmps24
  go_wp2
  go_loopw [5] (fun i wr => ∃ k : Nat, k ≤ n ∧ i = .int .i64 k ∧ Below w.heap.size w wr) (fun i _ => n - (intOf i).toNat)
  case atStart => exact ⟨0, by omega, rfl, Below.refl _ _⟩
  case round =>
    obtain ⟨k, hk, rfl, hb⟩ := hrel
    by_cases hlt : k < n
    · have hki : (k : Int) < n := by omega
      have hkL : k < L.length := by rw [HN.out]; exact hlt
      obtain ⟨g, off, rfl, hC⟩ := (hp.step hb).at hkL
      obtain ⟨g2, off2, rfl, hC2⟩ := (hq.step hb).at hkL
      obtain ⟨c0, c1, c2, c3⟩ := CsG.o4 hC (getO hkL)
      obtain ⟨d0, d1, d2, d3⟩ := CsG.o4 hC2 (getO hkL)
      generalize L.getD k zon = m at c0 c1 c2 c3 d0 d1 d2 d3
      clear hC hC2
      go_wp2
      go_region_with ((go_at_call 40; refine (eqOwn_same m _).mono ?_; rintro e w1 ⟨rfl, hb2⟩))
      all_goals
        go_wp2
        go_roundw
        case rel => exact ⟨k + 1, by omega, by go_num, bstep hb.drew hb2 (Nat.le_refl _)⟩
        case measure => simp [intOf]; omega
    · obtain rfl : k = n := by omega
      go_wp2
      go_ret
      exact ⟨rfl, hb⟩
def mk4 (k : Int) : On := ⟨k, k + 1, k + 1 + 1, k + 1 + 1 + 1⟩
def mkOs (k : Int) (n : Nat) : List On := (List.range n).map fun i : Nat => mk4 (k + 4 * (i : Int))
theorem mkOs_get {k : Int} {n i : Nat} (h : i < n) : (mkOs k n)[i]? = some (mk4 (k + 4 * i)) := by simp [mkOs, h]
theorem mkOs_len (k : Int) (n : Nat) : (mkOs k n).length = n := by simp [mkOs]
theorem ow_some {α : Type} {K : Kd α} {W : World} {base n c : Nat} {p : Option Addr} {L : List α} (h : OwG K W base (.slice p n c) L) (h0 : 0 < n) : ∃ g, p = some ⟨g, 0, none⟩ := by
  obtain ⟨g, off, rfl, _⟩ := (OwG.sl h).at (k := 0) (by have := OwG.len h; omega)
  have hz := OwG.zero h
  subst hz
  exact ⟨g, rfl⟩
set_option maxRecDepth 100000 in
set_option maxHeartbeats 2000000 in
theorem markOwnS_any (p : Option Addr) (n c : Nat) (k0 : Int) (M : List On) (A Bs : List Rw) (w W : World) (hS : Sg w W (A ++ rG kO (.slice p n c) M :: Bs)) (hb : n ≤ 1048576) (hk0 : 1 ≤ k0) (hk1 : k0 ≤ 100000000) :
    Calls Try.prog 27 #[.slice p n c, .int .i64 k0] W fun e w' => e = .returned (.int .i64 (k0 + 4 * n)) ∧ Sg w w' (A ++ rG kO (.slice p n c) (mkOs k0 n) :: Bs) := by
  have hMl := (OwG.len (hS.mem (K := kO) (v := .slice p n c) (L := M) (by simp))).symm
  have HM : Hid (M.length = n) := hMl
  clear hMl
  go_enter Try.func27, Try.ntmps27
  go_wp2
  go_loopw [1, 5] (fun kv i wr => ∃ (k : Nat) (K : List On), k ≤ n ∧ i = .int .i64 k ∧ kv = .int .i64 (k0 + 4 * k) ∧ Hid (K.length = n ∧ ∀ j, j < k → K[j]? = (mkOs k0 n)[j]?) ∧ Sg w wr (A ++ rG kO (.slice p n c) K :: Bs)) (fun _ i _ => n - (intOf i).toNat)
  case atStart => exact ⟨0, M, by omega, rfl, by simp, ⟨HM.out, by simp⟩, hS⟩
  case round =>
    clear hS HM
    obtain ⟨k, K, hk, rfl, rfl, hK, hS⟩ := hrel
    by_cases hlt : k < n
    · have hki : (k : Int) < n := by omega
      have ho := hS.mem (K := kO) (v := .slice p n c) (L := K) (by simp)
      obtain ⟨g, rfl⟩ := ow_some ho (by omega)
      have hkK : k < K.length := by rw [hK.out.1]; exact hlt
      obtain ⟨d0, d1, d2, d3⟩ := CsG.o4 (OwG.cs ho) (getO hkK)
      have hf := OwG.fz ho
      simp only [Nat.zero_add] at d0 d1 d2 d3
      obtain ⟨⟨o0, o1, o2, o3⟩, hm⟩ : ∃ m, K.getD k zon = m := ⟨_, rfl⟩
      rw [hm] at d0 d1 d2 d3
      obtain ⟨z, hz⟩ : ∃ z, k0 + 4 * (k : Int) = z := ⟨_, rfl⟩
      have hz0 : 1 ≤ z := by omega
      have hz1 : z ≤ 110000000 := by omega
      have hgd : ∀ (m : On), (K.set k m).getD k zon = m := fun m => by simp [List.getD, hkK]
      have h1 := Sg.set1 hS hkK (i := 0) (by decide) (.int .i64 z) ⟨z, o1, o2, o3⟩ (by rw [hm]; rfl)
      have h2 := Sg.set1 h1 (k := k) (by simpa using hkK) (i := 1) (by decide) (.int .i64 (z + 1)) ⟨z, z + 1, o2, o3⟩ (by rw [hgd]; rfl)
      rw [List.set_set] at h2
      have h3 := Sg.set1 h2 (k := k) (by simpa using hkK) (i := 2) (by decide) (.int .i64 (z + 1 + 1)) ⟨z, z + 1, z + 1 + 1, o3⟩ (by rw [hgd]; rfl)
      rw [List.set_set] at h3
      have h4 := Sg.set1 h3 (k := k) (by simpa using hkK) (i := 3) (by decide) (.int .i64 (z + 1 + 1 + 1)) ⟨z, z + 1, z + 1 + 1, z + 1 + 1 + 1⟩ (by rw [hgd]; rfl)
      rw [List.set_set] at h4
      simp only [Nat.add_zero] at h4
      have HK2 : Hid (k < K.length ∧ (∀ (m : On), (K.set k m).getD k zon = m) ∧ k0 + 4 * (k : Int) = z) := ⟨hkK, hgd, hz⟩
      rw [hz]
      clear ho hkK h1 h2 h3 hm hgd hz
      go_wp2
      go_roundw
      case rel =>
        refine ⟨k + 1, K.set k (mk4 z), by omega, by go_num, by congr 1; have := HK2.out.2.2; simp; omega, ⟨by simp [hK.out.1], fun j hj => ?_⟩, h4⟩
        by_cases e : k = j
        · subst e; rw [List.getElem?_set_self HK2.out.1, mkOs_get hlt, HK2.out.2.2]
        · rw [List.getElem?_set_ne e]; exact hK.out.2 j (by omega)
      case measure => simp [intOf]; omega
    · obtain rfl : k = n := by omega
      have e : K = mkOs k0 k := List.ext_getElem? fun j => by
        by_cases hj : j < k
        · exact hK.out.2 j hj
        · rw [List.getElem?_eq_none (by rw [hK.out.1]; omega), List.getElem?_eq_none (by rw [mkOs_len]; omega)]
      subst e
      clear hK
      go_wp2
      go_ret
      exact ⟨rfl, hS⟩
set_option maxHeartbeats 1000000 in
theorem heldOwnS_any (p : Option Addr) (c : Nat) (k0 : Int) (n : Nat) (w : World) (hL : SlG kO w p (mkOs k0 n)) (hb : n ≤ 10000000) (hk0 : 0 ≤ k0) (hk1 : k0 ≤ 100000000) :
    Calls Try.prog 33 #[.slice p n c, .int .i64 k0] w fun e w' => e = .returned (.int .i64 (k0 + 4 * n)) ∧ w' = w := by
  go_enter Try.func33, Try.ntmps33
  go_wp2
  go_loop [1, 5] (fun kv i => ∃ k : Nat, k ≤ n ∧ i = .int .i64 k ∧ kv = .int .i64 (k0 + 4 * k)) (fun _ i => n - (intOf i).toNat)
  case atStart => exact ⟨0, by omega, rfl, by simp⟩
  case round =>
    obtain ⟨k, hk, rfl, rfl⟩ := hrel
    by_cases hlt : k < n
    · have hki : (k : Int) < n := by omega
      obtain ⟨g, off, rfl, hC⟩ := hL.at (k := k) (by rw [mkOs_len]; exact hlt)
      obtain ⟨d0, d1, d2, d3⟩ := CsG.o4 hC (mkOs_get hlt)
      obtain ⟨z, hz⟩ : ∃ z, k0 + 4 * (k : Int) = z := ⟨_, rfl⟩
      rw [hz] at d0 d1 d2 d3
      simp only [mk4] at d0 d1 d2 d3
      have hz0 : 0 ≤ z := by omega
      have hz1 : z ≤ 140000000 := by omega
      rw [hz]
      clear hC
      go_wp2
      go_round
      case rel => exact ⟨k + 1, by omega, by go_num, by congr 1; simp; omega⟩
      case measure => simp [intOf]; omega
    · obtain rfl : k = n := by omega
      go_wp2
      go_ret
      exact ⟨rfl, rfl⟩
end Go.Proofs.Ytmfbkbifoehoeaa.K.D
