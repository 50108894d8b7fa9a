/-
  The law's marks on lists of Items.
-/
import Derived.Test.YtobbankkfplooaaGreatKIL1
import Derived.Test.YtobbankkfplooaaGreatKL3
namespace Go.Proofs.YtobbankkfplooaaGreat.K.I
open Go.Shelf Go.RowKit Go.Joins
attribute [local go_sem] Oper.semAt_some

set_option maxHeartbeats 1000000 in
theorem eqRec_same (r : Rc) (w : World) : Calls Tryz.prog 106 #[r.v, r.v] w fun e w' => e = .returned (.bool true) ∧ Below w.heap.size w w' := by
  obtain ⟨t, i, x, y, s⟩ := r
  have hE : ∀ w, Calls Tryz.prog 114 #[.agg #[.int .i64 x, .int .i64 y], .agg #[.int .i64 x, .int .i64 y]] w fun e w' => e = .returned (.bool true) ∧ Below w.heap.size w w' := fun w => by
    go_enter Tryz.func114, Tryz.ntmps114
    go_wp2
    go_ret
    exact ⟨rfl, below_alloc2 _ _ _⟩
  have hst := ((St.nil w).push [.int .i64 t, .int .i64 i, .int .i64 x, .int .i64 y, .string s] 91).push [.int .i64 t, .int .i64 i, .int .i64 x, .int .i64 y, .string s] 91
  simp only [World.size_alloc] at hst
  go_enter Tryz.func106, Tryz.ntmps106
  go_wp2_with (go_at_call 114; refine (hE _).mono ?_; rintro e w1 ⟨rfl, hb2⟩; have hs1 := hst.step hb2; have hk := hs1.has; simp [Has, HasAt] at hk)
  go_ret
  exact ⟨rfl, hs1.bel⟩
set_option maxHeartbeats 1000000 in
theorem eqRecS_same (p q : Option Addr) (cap cap' : Nat) (L : List Rc) (n : Nat) (hn : L.length = n) (w : World) (hp : SlG kR w p L) (hq : SlG kR w q L) (_hb : n ≤ 10000000) :
    Calls Tryz.prog 95 #[.slice p n cap, .slice q n cap'] w fun e w' => e = .returned (.bool true) ∧ Below w.heap.size w w' := by
  have HN : Hid (L.length = n) := hn
  clear hn
  go_enter Tryz.func95, Tryz.ntmps95
  go_wp2
  go_loopw [5] (fun i wr => ∃ k : Nat, k ≤ n ∧ i = .int .i64 k ∧ Below w.heap.size w wr) (fun i _ => n - (intOf i).toNat)
  case atStart => exact ⟨0, by omega, rfl, Below.refl _ _⟩
  case round =>
    obtain ⟨k, hk, rfl, hb⟩ := hrel
    by_cases hlt : k < n
    · have hki : (k : Int) < n := by omega
      have hkL : k < L.length := by rw [HN.out]; exact hlt
      obtain ⟨g, off, rfl, hC⟩ := (hp.step hb).at hkL
      obtain ⟨g2, off2, rfl, hC2⟩ := (hq.step hb).at hkL
      obtain ⟨c0, c1, c2, c3, c4⟩ := hC.i5 (getR hkL)
      obtain ⟨d0, d1, d2, d3, d4⟩ := hC2.i5 (getR hkL)
      generalize L.getD k zrc = m at c0 c1 c2 c3 c4 d0 d1 d2 d3 d4
      clear hC hC2
      go_wp2
      go_region_with ((go_at_call 106; refine (eqRec_same m _).mono ?_; rintro e w1 ⟨rfl, hb2⟩))
      all_goals
        go_wp2
        go_roundw
        case rel => exact ⟨k + 1, by omega, by go_num, bstep hb.drew hb2 (Nat.le_refl _)⟩
        case measure => simp [intOf]; omega
    · obtain rfl : k = n := by omega
      go_wp2
      go_ret
      exact ⟨rfl, hb⟩
theorem szRec_any (r : Rc) (a : Int) (w : World) (ha : 0 ≤ a) (ha2 : a ≤ 1048576) (hm : r.s.size ≤ maxLen) : Calls Tryz.prog 104 #[r.v, .int .i64 a] w fun e w' => e = .returned (.int .i64 (if a < r.s.size then -1 else a - r.s.size)) ∧ Below w.heap.size w w' := by
  unfold maxLen at hm
  by_cases h : a < r.s.size
  · have h2 : a - (r.s.size : Int) < 0 := by omega
    rw [if_pos h]
    go_enter Tryz.func104, Tryz.ntmps104
    go_wp2
    go_ret
    exact ⟨rfl, below_alloc1 _ _⟩
  · have h2 : ¬ a - (r.s.size : Int) < 0 := by omega
    rw [if_neg h]
    go_enter Tryz.func104, Tryz.ntmps104
    go_wp2
    go_ret
    exact ⟨rfl, below_alloc1 _ _⟩
theorem szRec_v {r : Rc} {a v : Int} (hv : (if a < r.s.size then -1 else a - (r.s.size : Int)) = v) (w : World) (ha : 0 ≤ a) (ha2 : a ≤ 1048576) (hm : r.s.size ≤ maxLen) : Calls Tryz.prog 104 #[r.v, .int .i64 a] w fun e w' => e = .returned (.int .i64 v) ∧ Below w.heap.size w w' := hv ▸ szRec_any r a w ha ha2 hm
set_option maxHeartbeats 1000000 in
theorem szRecS_any (p : Option Addr) (cap : Nat) (L : List Rc) (n : Nat) (hn : L.length = n) (a : Int) (w : World) (hL : SlG kL w p L) (ha : 0 ≤ a) (ha2 : a ≤ 1048576) (hm : n ≤ maxLen) (hms : ∀ r ∈ L, r.s.size ≤ maxLen) {v : Int} (hv : (if a < rsz L then -1 else a - (rsz L : Int)) = v) :
    Calls Tryz.prog 93 #[.slice p n cap, .int .i64 a] w fun e w' => e = .returned (.int .i64 v) ∧ Below w.heap.size w w' := by
  unfold maxLen at hm
  have HN : Hid (L.length = n) := hn
  have HS : Hid (∀ r ∈ L, r.s.size ≤ maxLen) := hms
  have hr : rsz L = n + tsz L n := by unfold rsz; rw [hn]
  rw [hr] at hv
  have HV : Hid ((if a < (n + tsz L n : Nat) then -1 else a - ((n + tsz L n : Nat) : Int)) = v) := hv
  clear hn hms hr hv
  by_cases h0 : a < n
  · have h2 : a - (n : Int) < 0 := by omega
    go_enter Tryz.func93, Tryz.ntmps93
    go_wp2
    go_ret
    exact ⟨ret_i64 (by rw [← HV.out, if_pos (by omega)]), Below.refl _ _⟩
  · have h2 : ¬ a - (n : Int) < 0 := by omega
    go_enter Tryz.func93, Tryz.ntmps93
    go_wp2
    go_loopw [1, 5] (fun lv i wr => ∃ (k : Nat) (b : Int), k ≤ n ∧ i = .int .i64 k ∧ lv = .int .i64 b ∧ 0 ≤ b ∧ b ≤ 1048576 ∧ Hid (b = a - n - (tsz L k : Int)) ∧ Below w.heap.size w wr) (fun _ i _ => n - (intOf i).toNat)
    case atStart => exact ⟨0, a - n, by omega, rfl, rfl, by omega, by omega, (by simp [tsz] : a - n = a - n - (tsz L 0 : Int)), Below.refl _ _⟩
    case round =>
      obtain ⟨k, b, hk, rfl, rfl, hb0, hb1, hbv, hb⟩ := hrel
      by_cases hlt : k < n
      · have hki : (k : Int) < n := by omega
        have hkL : k < L.length := by rw [HN.out]; exact hlt
        obtain ⟨g, off, rfl, hC⟩ := (hL.step hb).at hkL
        have hg := List.getElem?_eq_getElem hkL
        generalize L[k] = r at hg
        obtain ⟨c0, c1, c2, c3, c4⟩ := hC.j5 hg
        have ht := tsz_succ hg
        have hl := tsz_le (L := L) (show k + 1 ≤ n by omega)
        have hrm := HS.out r (List.mem_of_getElem? hg)
        have HT : Hid (tsz L (k + 1) = tsz L k + r.s.size ∧ tsz L (k + 1) ≤ tsz L n) := ⟨ht, hl⟩
        clear hg hC ht hl
        by_cases hlt2 : b < r.s.size
        · have hvv : (if b < r.s.size then -1 else b - (r.s.size : Int)) = -1 := if_pos hlt2
          go_wp2_with (go_at_call 104; refine (szRec_v (r := r) hvv _ hb0 hb1 hrm).mono ?_; rintro e w1 ⟨rfl, hb2⟩)
          go_ret
          exact ⟨ret_i64 (by rw [← HV.out, if_pos (by have := HT.out; have := hbv.out; omega)]), bstep hb hb2 (Nat.le_refl _)⟩
        · have hvv : (if b < r.s.size then -1 else b - (r.s.size : Int)) = b - r.s.size := if_neg hlt2
          have hnn : ¬ b - (r.s.size : Int) < 0 := by omega
          go_wp2_with (go_at_call 104; refine (szRec_v (r := r) hvv _ hb0 hb1 hrm).mono ?_; rintro e w1 ⟨rfl, hb2⟩)
          go_roundw
          case rel => exact ⟨k + 1, b - r.s.size, by omega, by go_num, rfl, by omega, by omega, (by rw [HT.out.1, hbv.out]; omega : b - (r.s.size : Int) = a - n - (tsz L (k + 1) : Int)), bstep hb hb2 (Nat.le_refl _)⟩
          case measure => simp [intOf]; omega
      · obtain rfl : k = n := by omega
        go_wp2
        go_ret
        exact ⟨ret_i64 (by rw [← HV.out, if_neg (by have := hbv.out; omega), hbv.out]; omega), hb⟩
end Go.Proofs.YtobbankkfplooaaGreat.K.I
namespace Go.Proofs.YtobbankkfplooaaGreat.K.I
open Go.Shelf Go.RowKit Go.Joins
attribute [local go_sem] Oper.semAt_some

theorem Sg.set1 {w W : World} {A Bs : List Rw} {g n c : Nat} {M : List Rc} (h : Sg w W (A ++ rG kR (.slice (some ⟨g, 0, none⟩) n c) M :: Bs)) {k i : Nat} (hk : k < M.length) (hi : i < 5) (u : Value) (m : Rc) (hm : kR.vs m = (kR.vs (M.getD k zrc)).set i u) :
    Sg w (W.setCell ⟨g, k * 5 + i, none⟩ u) (A ++ rG kR (.slice (some ⟨g, 0, none⟩) n c) (M.set k m) :: Bs) := by
  refine h.set (L' := M.set k m) (k * 5 + i) u (by simp) ?_
  have hl := Kd.flat_len (K := kR) M
  have hk5 : k * 5 + 5 ≤ M.length * 5 := by omega
  rw [Kd.flat_set m hk, hm]
  refine List.ext_getElem? fun j => ?_
  have e5 : kR.n = 5 := rfl
  rw [e5] at hl ⊢
  have hvl : (kR.vs (M.getD k zrc)).length = 5 := kR.len _
  simp only [List.getElem?_append, List.length_append, List.length_take, List.length_set, hl, hvl, List.getElem?_drop, List.getElem?_take]
  by_cases h1 : j < k * 5
  · rw [if_pos (by omega), if_pos (by omega), List.getElem?_set_ne (by omega)]; simp [h1]
  · by_cases h2 : j < k * 5 + 5
    · rw [if_pos (by omega), if_neg (by omega), Nat.min_eq_left (by omega)]
      have hg := Kd.flat_get (K := kR) (getR hk) (i := j - k * 5) (by rw [e5]; omega)
      rw [e5, show k * 5 + (j - k * 5) = j by omega] at hg
      by_cases h3 : j = k * 5 + i
      · subst h3
        rw [show k * 5 + i - k * 5 = i by omega, List.getElem?_set_self (by rw [hvl]; exact hi), List.getElem?_set_self (by rw [hl]; omega)]
      · rw [List.getElem?_set_ne (by omega), List.getElem?_set_ne (by omega), hg]
    · rw [if_neg (by omega), List.getElem?_set_ne (by omega)]
      congr 1; omega
set_option maxRecDepth 100000 in
set_option maxHeartbeats 2000000 in
theorem markRecS_any (p : Option Addr) (n c : Nat) (k0 : Int) (M : List Rc) (A Bs : List Rw) (w W : World) (hS : Sg w W (A ++ rG kR (.slice p n c) M :: Bs)) (hb : n ≤ 1048576) (hk0 : 1 ≤ k0) (hk1 : k0 ≤ 100000000) :
    Calls Tryz.prog 84 #[.slice p n c, .int .i64 k0] W fun e w' => e = .returned (.int .i64 (k0 + 5 * n)) ∧ Sg w w' (A ++ rG kR (.slice p n c) (mkRs k0 n) :: Bs) := by
  have hMl := (OwG.len (hS.mem (K := kR) (v := .slice p n c) (L := M) (by simp))).symm
  have HM : Hid (M.length = n) := hMl
  have HT := Lib.hid (fun k h0 h1 w => markText_any k h0 h1 w)
  clear hMl
  go_enter Tryz.func84, Tryz.ntmps84
  go_wp2
  go_loopw [1, 5] (fun kv i wr => ∃ (k : Nat) (K : List Rc), k ≤ n ∧ i = .int .i64 k ∧ kv = .int .i64 (k0 + 5 * k) ∧ Hid (K.length = n ∧ ∀ j, j < k → K[j]? = (mkRs k0 n)[j]?) ∧ Sg w wr (A ++ rG kR (.slice p n c) K :: Bs)) (fun _ i _ => n - (intOf i).toNat)
  case atStart => exact ⟨0, M, by omega, rfl, by simp, ⟨HM.out, by simp⟩, hS⟩
  case round =>
    clear hS HM
    obtain ⟨k, K, hk, rfl, rfl, hK, hS⟩ := hrel
    by_cases hlt : k < n
    · have hki : (k : Int) < n := by omega
      have ho := hS.mem (K := kR) (v := .slice p n c) (L := K) (by simp)
      obtain ⟨g, rfl⟩ := ow_some ho (by omega)
      have hkK : k < K.length := by rw [hK.out.1]; exact hlt
      obtain ⟨d0, d1, d2, d3, d4⟩ := (OwG.cs ho).i5 (getR hkK)
      have hf := OwG.fz ho
      simp only [Nat.zero_add] at d0 d1 d2 d3 d4
      obtain ⟨⟨o0, o1, o2, o3, o4⟩, hm⟩ : ∃ m, K.getD k zrc = m := ⟨_, rfl⟩
      rw [hm] at d0 d1 d2 d3 d4
      obtain ⟨z, hz⟩ : ∃ z, k0 + 5 * (k : Int) = z := ⟨_, rfl⟩
      have hz0 : 1 ≤ z := by omega
      have hz1 : z ≤ 110000000 := by omega
      have hgd : ∀ (m : Rc), (K.set k m).getD k zrc = m := fun m => by simp [List.getD, hkK]
      have h1 := Sg.set1 hS hkK (i := 0) (by decide) (.int .i64 z) ⟨z, o1, o2, o3, o4⟩ (by rw [hm]; rfl)
      have h2 := Sg.set1 h1 (k := k) (by simpa using hkK) (i := 1) (by decide) (.int .i64 (z + 1)) ⟨z, z + 1, o2, o3, o4⟩ (by rw [hgd]; rfl)
      rw [List.set_set] at h2
      have h3 := Sg.set1 h2 (k := k) (by simpa using hkK) (i := 2) (by decide) (.int .i64 (z + 1 + 1)) ⟨z, z + 1, z + 1 + 1, o3, o4⟩ (by rw [hgd]; rfl)
      rw [List.set_set] at h3
      have h4 := Sg.set1 h3 (k := k) (by simpa using hkK) (i := 3) (by decide) (.int .i64 (z + 1 + 1 + 1)) ⟨z, z + 1, z + 1 + 1, z + 1 + 1 + 1, o4⟩ (by rw [hgd]; rfl)
      rw [List.set_set] at h4
      simp only [Nat.add_zero] at h4
      have HK2 : Hid (k < K.length ∧ (∀ (m : Rc), (K.set k m).getD k zrc = m) ∧ k0 + 5 * (k : Int) = z) := ⟨hkK, hgd, hz⟩
      rw [hz]
      clear ho hkK h1 h2 h3 hm hgd hz
      go_wp2_with (go_at_call 96; refine (HT.out _ (by omega) (by omega) _).mono ?_; rintro e w1 ⟨rfl, hb1⟩; have h5 := h4.step hb1; have ho := h5.mem (K := kR) (v := .slice (some ⟨g, 0, none⟩) n c) (L := K.set k ⟨z, z + 1, z + 1 + 1, z + 1 + 1 + 1, o4⟩) (by simp); have hf2 := OwG.fz ho; have x4 := ((OwG.cs ho).i5 (getR (k := k) (by simpa using HK2.out.1))).2.2.2.2; rw [HK2.out.2.1] at x4; simp only [Nat.zero_add] at x4; clear ho)
      have h6 := Sg.set1 h5 (k := k) (by simpa using HK2.out.1) (i := 4) (by decide) (.string (mtx (z + 1 + 1 + 1 + 1))) ⟨z, z + 1, z + 1 + 1, z + 1 + 1 + 1, mtx (z + 1 + 1 + 1 + 1)⟩ (by rw [HK2.out.2.1]; rfl)
      rw [List.set_set] at h6
      go_roundw
      case rel =>
        refine ⟨k + 1, K.set k (mk5 z), by omega, by go_num, by congr 1; have := HK2.out.2.2; simp; omega, ⟨by simp [hK.out.1], fun j hj => ?_⟩, h6⟩
        by_cases e : k = j
        · subst e; rw [List.getElem?_set_self HK2.out.1, mkRs_get hlt, HK2.out.2.2]
        · rw [List.getElem?_set_ne e]; exact hK.out.2 j (by omega)
      case measure => simp [intOf]; omega
    · obtain rfl : k = n := by omega
      have e : K = mkRs k0 k := List.ext_getElem? fun j => by
        by_cases hj : j < k
        · exact hK.out.2 j hj
        · rw [List.getElem?_eq_none (by rw [hK.out.1]; omega), List.getElem?_eq_none (by rw [mkRs_len]; omega)]
      subst e
      clear hK
      go_wp2
      go_ret
      exact ⟨rfl, hS⟩
end Go.Proofs.YtobbankkfplooaaGreat.K.I
