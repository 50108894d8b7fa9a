/-
  The law's marks on lists of Items.
-/
import Derived.Test.YtppoafggiejdgaaGreatKIL2
import Derived.Test.YtppoafggiejdgaaGreatKL3
namespace Go.Proofs.YtppoafggiejdgaaGreat.K.I
open Go.Shelf Go.RowKit Go.Joins
attribute [local go_sem] Oper.semAt_some

theorem Sg.set1 {w W : World} {A Bs : List Rw} {g n c : Nat} {M : List Rc} (h : Sg w W (A ++ rG kR (.slice (some ⟨g, 0, none⟩) n c) M :: Bs)) {k i : Nat} (hk : k < M.length) (hi : i < 5) (u : Value) (m : Rc) (hm : kR.vs m = (kR.vs (M.getD k zrc)).set i u) :
    Sg w (W.setCell ⟨g, k * 5 + i, none⟩ u) (A ++ rG kR (.slice (some ⟨g, 0, none⟩) n c) (M.set k m) :: Bs) := by
  refine h.set (L' := M.set k m) (k * 5 + i) u (by simp) ?_
  have hl := Kd.flat_len (K := kR) M
  have hk5 : k * 5 + 5 ≤ M.length * 5 := by omega
  rw [Kd.flat_set m hk, hm]
  refine List.ext_getElem? fun j => ?_
  have e5 : kR.n = 5 := rfl
  rw [e5] at hl ⊢
  have hvl : (kR.vs (M.getD k zrc)).length = 5 := kR.len _
  simp only [List.getElem?_append, List.length_append, List.length_take, List.length_set, hl, hvl, List.getElem?_drop, List.getElem?_take]
  by_cases h1 : j < k * 5
  · rw [if_pos (by omega), if_pos (by omega), List.getElem?_set_ne (by omega)]; simp [h1]
  · by_cases h2 : j < k * 5 + 5
    · rw [if_pos (by omega), if_neg (by omega), Nat.min_eq_left (by omega)]
      have hg := Kd.flat_get (K := kR) (getR hk) (i := j - k * 5) (by rw [e5]; omega)
      rw [e5, show k * 5 + (j - k * 5) = j by omega] at hg
      by_cases h3 : j = k * 5 + i
      · subst h3
        rw [show k * 5 + i - k * 5 = i by omega, List.getElem?_set_self (by rw [hvl]; exact hi), List.getElem?_set_self (by rw [hl]; omega)]
      · rw [List.getElem?_set_ne (by omega), List.getElem?_set_ne (by omega), hg]
    · rw [if_neg (by omega), List.getElem?_set_ne (by omega)]
      congr 1; omega
set_option maxRecDepth 100000 in
set_option maxHeartbeats 2000000 in
theorem markRecS_any (p : Option Addr) (n c : Nat) (k0 : Int) (M : List Rc) (A Bs : List Rw) (w W : World) (hS : Sg w W (A ++ rG kR (.slice p n c) M :: Bs)) (hb : n ≤ 1048576) (hk0 : 1 ≤ k0) (hk1 : k0 ≤ 100000000) :
    Calls Tryz.prog 50 #[.slice p n c, .int .i64 k0] W fun e w' => e = .returned (.int .i64 (k0 + 5 * n)) ∧ Sg w w' (A ++ rG kR (.slice p n c) (mkRs k0 n) :: Bs) := by
  have hMl := (OwG.len (hS.mem (K := kR) (v := .slice p n c) (L := M) (by simp))).symm
  have HM : Hid (M.length = n) := hMl
  have HT := Lib.hid (fun k h0 h1 w => markText_any k h0 h1 w)
  clear hMl
  go_enter Tryz.func50, Tryz.ntmps50
  go_wp2
  go_loopw [1, 5] (fun kv i wr => ∃ (k : Nat) (K : List Rc), k ≤ n ∧ i = .int .i64 k ∧ kv = .int .i64 (k0 + 5 * k) ∧ Hid (K.length = n ∧ ∀ j, j < k → K[j]? = (mkRs k0 n)[j]?) ∧ Sg w wr (A ++ rG kR (.slice p n c) K :: Bs)) (fun _ i _ => n - (intOf i).toNat)
  case atStart => exact ⟨0, M, by omega, rfl, by simp, ⟨HM.out, by simp⟩, hS⟩
  case round =>
    clear hS HM
    obtain ⟨k, K, hk, rfl, rfl, hK, hS⟩ := hrel
    by_cases hlt : k < n
    · have hki : (k : Int) < n := by omega
      have ho := hS.mem (K := kR) (v := .slice p n c) (L := K) (by simp)
      obtain ⟨g, rfl⟩ := ow_some ho (by omega)
      have hkK : k < K.length := by rw [hK.out.1]; exact hlt
      obtain ⟨d0, d1, d2, d3, d4⟩ := (OwG.cs ho).i5 (getR hkK)
      have hf := OwG.fz ho
      simp only [Nat.zero_add] at d0 d1 d2 d3 d4
      obtain ⟨⟨o0, o1, o2, o3, o4⟩, hm⟩ : ∃ m, K.getD k zrc = m := ⟨_, rfl⟩
      rw [hm] at d0 d1 d2 d3 d4
      obtain ⟨z, hz⟩ : ∃ z, k0 + 5 * (k : Int) = z := ⟨_, rfl⟩
      have hz0 : 1 ≤ z := by omega
      have hz1 : z ≤ 110000000 := by omega
      have hgd : ∀ (m : Rc), (K.set k m).getD k zrc = m := fun m => by simp [List.getD, hkK]
      have h1 := Sg.set1 hS hkK (i := 0) (by decide) (.int .i64 z) ⟨z, o1, o2, o3, o4⟩ (by rw [hm]; rfl)
      have h2 := Sg.set1 h1 (k := k) (by simpa using hkK) (i := 1) (by decide) (.int .i64 (z + 1)) ⟨z, z + 1, o2, o3, o4⟩ (by rw [hgd]; rfl)
      rw [List.set_set] at h2
      have h3 := Sg.set1 h2 (k := k) (by simpa using hkK) (i := 2) (by decide) (.int .i64 (z + 1 + 1)) ⟨z, z + 1, z + 1 + 1, o3, o4⟩ (by rw [hgd]; rfl)
      rw [List.set_set] at h3
      have h4 := Sg.set1 h3 (k := k) (by simpa using hkK) (i := 3) (by decide) (.int .i64 (z + 1 + 1 + 1)) ⟨z, z + 1, z + 1 + 1, z + 1 + 1 + 1, o4⟩ (by rw [hgd]; rfl)
      rw [List.set_set] at h4
      simp only [Nat.add_zero] at h4
      have HK2 : Hid (k < K.length ∧ (∀ (m : Rc), (K.set k m).getD k zrc = m) ∧ k0 + 5 * (k : Int) = z) := ⟨hkK, hgd, hz⟩
      rw [hz]
      clear ho hkK h1 h2 h3 hm hgd hz
      go_wp2_with (go_at_call 49; refine (HT.out _ (by omega) (by omega) _).mono ?_; rintro e w1 ⟨rfl, hb1⟩; have h5 := h4.step hb1; have ho := h5.mem (K := kR) (v := .slice (some ⟨g, 0, none⟩) n c) (L := K.set k ⟨z, z + 1, z + 1 + 1, z + 1 + 1 + 1, o4⟩) (by simp); have hf2 := OwG.fz ho; have x4 := ((OwG.cs ho).i5 (getR (k := k) (by simpa using HK2.out.1))).2.2.2.2; rw [HK2.out.2.1] at x4; simp only [Nat.zero_add] at x4; clear ho)
      have h6 := Sg.set1 h5 (k := k) (by simpa using HK2.out.1) (i := 4) (by decide) (.string (mtx (z + 1 + 1 + 1 + 1))) ⟨z, z + 1, z + 1 + 1, z + 1 + 1 + 1, mtx (z + 1 + 1 + 1 + 1)⟩ (by rw [HK2.out.2.1]; rfl)
      rw [List.set_set] at h6
      go_roundw
      case rel =>
        refine ⟨k + 1, K.set k (mk5 z), by omega, by go_num, by congr 1; have := HK2.out.2.2; simp; omega, ⟨by simp [hK.out.1], fun j hj => ?_⟩, h6⟩
        by_cases e : k = j
        · subst e; rw [List.getElem?_set_self HK2.out.1, mkRs_get hlt, HK2.out.2.2]
        · rw [List.getElem?_set_ne e]; exact hK.out.2 j (by omega)
      case measure => simp [intOf]; omega
    · obtain rfl : k = n := by omega
      have e : K = mkRs k0 k := List.ext_getElem? fun j => by
        by_cases hj : j < k
        · exact hK.out.2 j hj
        · rw [List.getElem?_eq_none (by rw [hK.out.1]; omega), List.getElem?_eq_none (by rw [mkRs_len]; omega)]
      subst e
      clear hK
      go_wp2
      go_ret
      exact ⟨rfl, hS⟩
end Go.Proofs.YtppoafggiejdgaaGreat.K.I
