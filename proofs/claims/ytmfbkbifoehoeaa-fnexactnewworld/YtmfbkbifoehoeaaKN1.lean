/-
  Shards that have nothing: the law's looks at lists of them; at a World without Deals.
-/
import Derived.Test.YtmfbkbifoehoeaaKL4
import Derived.Test.YtmfbkbifoehoeaaKYI
namespace Go.Proofs.Ytmfbkbifoehoeaa.K.D
open Go.Shelf Go.RowKit Go.Joins
attribute [local go_sem] Oper.semAt_some

/-- A Shard without lists: its Log, its Sure. -/
structure Zs where
  g : ByteArray
  s : Int
abbrev Zs.v (h : Zs) : Value := .agg #[.slice none 0 0, .slice none 0 0, .slice none 0 0, .string h.g, .int .i64 h.s]
def kZ : Kd Zs := ⟨59, 5, fun h => [.slice none 0 0, .slice none 0 0, .slice none 0 0, .string h.g, .int .i64 h.s], fun _ => rfl⟩
def zzs : Zs := ⟨ByteArray.empty, 0⟩
theorem getZ {L : List Zs} {k : Nat} (hk : k < L.length) : L[k]? = some (L.getD k zzs) := by simp [List.getD, hk]
theorem CsG.z5 {w : World} {g off : Nat} {L : List Zs} (h : CsG kZ w g off L) {k : Nat} {o : Zs} (hk : L[k]? = some o) : w.cell? ⟨g, off + k * 5, none⟩ = some (.slice none 0 0) ∧ w.cell? ⟨g, off + k * 5 + 1, none⟩ = some (.slice none 0 0) ∧ w.cell? ⟨g, off + k * 5 + 2, none⟩ = some (.slice none 0 0) ∧ w.cell? ⟨g, off + k * 5 + 3, none⟩ = some (.string o.g) ∧ w.cell? ⟨g, off + k * 5 + 4, none⟩ = some (.int .i64 o.s) := by
  have h0 := h.at hk (i := 0) (u := .slice none 0 0) rfl
  have h1 := h.at hk (i := 1) (u := .slice none 0 0) rfl
  have h2 := h.at hk (i := 2) (u := .slice none 0 0) rfl
  have h3 := h.at hk (i := 3) (u := .string o.g) rfl
  have h4 := h.at hk (i := 4) (u := .int .i64 o.s) rfl
  exact ⟨h0, h1, h2, h3, h4⟩
theorem Sg.setZ1 {w W : World} {A Bs : List Rw} {g n c : Nat} {M : List Zs} (h : Sg w W (A ++ rG kZ (.slice (some ⟨g, 0, none⟩) n c) M :: Bs)) {k i : Nat} (hk : k < M.length) (hi : i < 5) (u : Value) (m : Zs) (hm : kZ.vs m = (kZ.vs (M.getD k zzs)).set i u) :
    Sg w (W.setCell ⟨g, k * 5 + i, none⟩ u) (A ++ rG kZ (.slice (some ⟨g, 0, none⟩) n c) (M.set k m) :: Bs) := by
  refine h.set (L' := M.set k m) (k * 5 + i) u (by simp) ?_
  have hl := Kd.flat_len (K := kZ) M
  have hk4 : k * 5 + 5 ≤ M.length * 5 := by omega
  rw [Kd.flat_set m hk, hm]
  refine List.ext_getElem? fun j => ?_
  have e4 : kZ.n = 5 := rfl
  rw [e4] at hl ⊢
  have hvl : (kZ.vs (M.getD k zzs)).length = 5 := kZ.len _
  simp only [List.getElem?_append, List.length_append, List.length_take, List.length_set, hl, hvl, List.getElem?_drop, List.getElem?_take]
  by_cases h1 : j < k * 5
  · rw [if_pos (by omega), if_pos (by omega), List.getElem?_set_ne (by omega)]; simp [h1]
  · by_cases h2 : j < k * 5 + 5
    · rw [if_pos (by omega), if_neg (by omega), Nat.min_eq_left (by omega)]
      have hg := Kd.flat_get (K := kZ) (getZ hk) (i := j - k * 5) (by rw [e4]; omega)
      rw [e4, show k * 5 + (j - k * 5) = j by omega] at hg
      by_cases h3 : j = k * 5 + i
      · subst h3
        rw [show k * 5 + i - k * 5 = i by omega, List.getElem?_set_self (by rw [hvl]; exact hi), List.getElem?_set_self (by rw [hl]; omega)]
      · rw [List.getElem?_set_ne (by omega), List.getElem?_set_ne (by omega), hg]
    · rw [if_neg (by omega), List.getElem?_set_ne (by omega)]
      congr 1; omega
set_option maxHeartbeats 1000000 in
theorem nil41 (w : World) : Calls Try.prog 41 #[.slice none 0 0, .slice none 0 0] w fun e w' => e = .returned (.bool true) ∧ w' = w := by
  go_enter Try.func41, Try.ntmps41
  go_wp2
  refine wp_loop_rounds 1 ?_
  rw [rounds_succ]
  go_wp2
  go_ret
  exact ⟨rfl, rfl⟩
set_option maxHeartbeats 1000000 in
theorem nil42 (w : World) : Calls Try.prog 42 #[.slice none 0 0, .slice none 0 0] w fun e w' => e = .returned (.bool true) ∧ w' = w := by
  go_enter Try.func42, Try.ntmps42
  go_wp2
  refine wp_loop_rounds 1 ?_
  rw [rounds_succ]
  go_wp2
  go_ret
  exact ⟨rfl, rfl⟩
set_option maxHeartbeats 1000000 in
theorem nil43 (w : World) : Calls Try.prog 43 #[.slice none 0 0, .slice none 0 0] w fun e w' => e = .returned (.bool true) ∧ w' = w := by
  go_enter Try.func43, Try.ntmps43
  go_wp2
  refine wp_loop_rounds 1 ?_
  rw [rounds_succ]
  go_wp2
  go_ret
  exact ⟨rfl, rfl⟩
set_option maxHeartbeats 1000000 in
theorem nil15 (w : World) : Calls Try.prog 15 #[.slice none 0 0, .slice none 0 0] w fun e w' => e = .returned (.bool true) ∧ w' = w := by
  go_enter Try.func15, Try.ntmps15
  go_wp2
  refine wp_loop_rounds 1 ?_
  rw [rounds_succ]
  go_wp2
  go_ret
  exact ⟨rfl, rfl⟩
set_option maxHeartbeats 1000000 in
theorem nil28 (w : World) (k : Int) : Calls Try.prog 28 #[.slice none 0 0, .int .i64 k] w fun e w' => e = .returned (.int .i64 k) ∧ w' = w := by
  go_enter Try.func28, Try.ntmps28
  go_wp2
  refine wp_loop_rounds 1 ?_
  rw [rounds_succ]
  go_wp2
  go_ret
  exact ⟨rfl, rfl⟩
set_option maxHeartbeats 1000000 in
theorem nil29 (w : World) (k : Int) : Calls Try.prog 29 #[.slice none 0 0, .int .i64 k] w fun e w' => e = .returned (.int .i64 k) ∧ w' = w := by
  go_enter Try.func29, Try.ntmps29
  go_wp2
  refine wp_loop_rounds 1 ?_
  rw [rounds_succ]
  go_wp2
  go_ret
  exact ⟨rfl, rfl⟩
set_option maxHeartbeats 1000000 in
theorem nil30 (w : World) (k : Int) : Calls Try.prog 30 #[.slice none 0 0, .int .i64 k] w fun e w' => e = .returned (.int .i64 k) ∧ w' = w := by
  go_enter Try.func30, Try.ntmps30
  go_wp2
  refine wp_loop_rounds 1 ?_
  rw [rounds_succ]
  go_wp2
  go_ret
  exact ⟨rfl, rfl⟩
set_option maxHeartbeats 1000000 in
theorem nil18 (w : World) (k : Int) : Calls Try.prog 18 #[.slice none 0 0, .int .i64 k] w fun e w' => e = .returned (.int .i64 k) ∧ w' = w := by
  go_enter Try.func18, Try.ntmps18
  go_wp2
  refine wp_loop_rounds 1 ?_
  rw [rounds_succ]
  go_wp2
  go_ret
  exact ⟨rfl, rfl⟩
set_option maxHeartbeats 1000000 in
theorem nil34 (w : World) (k : Int) : Calls Try.prog 34 #[.slice none 0 0, .int .i64 k] w fun e w' => e = .returned (.int .i64 k) ∧ w' = w := by
  go_enter Try.func34, Try.ntmps34
  go_wp2
  refine wp_loop_rounds 1 ?_
  rw [rounds_succ]
  go_wp2
  go_ret
  exact ⟨rfl, rfl⟩
set_option maxHeartbeats 1000000 in
theorem nil35 (w : World) (k : Int) : Calls Try.prog 35 #[.slice none 0 0, .int .i64 k] w fun e w' => e = .returned (.int .i64 k) ∧ w' = w := by
  go_enter Try.func35, Try.ntmps35
  go_wp2
  refine wp_loop_rounds 1 ?_
  rw [rounds_succ]
  go_wp2
  go_ret
  exact ⟨rfl, rfl⟩
set_option maxHeartbeats 1000000 in
theorem nil36 (w : World) (k : Int) : Calls Try.prog 36 #[.slice none 0 0, .int .i64 k] w fun e w' => e = .returned (.int .i64 k) ∧ w' = w := by
  go_enter Try.func36, Try.ntmps36
  go_wp2
  refine wp_loop_rounds 1 ?_
  rw [rounds_succ]
  go_wp2
  go_ret
  exact ⟨rfl, rfl⟩
set_option maxHeartbeats 1000000 in
theorem nil21 (w : World) (k : Int) : Calls Try.prog 21 #[.slice none 0 0, .int .i64 k] w fun e w' => e = .returned (.int .i64 k) ∧ w' = w := by
  go_enter Try.func21, Try.ntmps21
  go_wp2
  refine wp_loop_rounds 1 ?_
  rw [rounds_succ]
  go_wp2
  go_ret
  exact ⟨rfl, rfl⟩
set_option maxHeartbeats 1000000 in
theorem eqShard_same (h : Zs) (w : World) : Calls Try.prog 25 #[h.v, h.v] w fun e w' => e = .returned (.bool true) ∧ Below w.heap.size w w' := by
  obtain ⟨g, s⟩ := h
  have hst := ((St.nil w).push [.slice none 0 0, .slice none 0 0, .slice none 0 0, .string g, .int .i64 s] 59).push [.slice none 0 0, .slice none 0 0, .slice none 0 0, .string g, .int .i64 s] 59
  simp only [World.size_alloc] at hst
  go_enter Try.func25, Try.ntmps25
  go_wp2_with (first
    | (go_at_call 41; refine (nil41 _).mono ?_; rintro e w1 ⟨rfl, rfl⟩)
    | (go_at_call 42; refine (nil42 _).mono ?_; rintro e w1 ⟨rfl, rfl⟩)
    | (go_at_call 43; refine (nil43 _).mono ?_; rintro e w1 ⟨rfl, rfl⟩))
  go_ret
  exact ⟨rfl, hst.bel⟩
set_option maxHeartbeats 1000000 in
theorem eqShardS_same (p q : Option Addr) (cap cap' : Nat) (L : List Zs) (n : Nat) (hn : L.length = n) (w : World) (hp : SlG kZ w p L) (hq : SlG kZ w q L) (_hb : n ≤ 10000000) :
    Calls Try.prog 14 #[.slice p n cap, .slice q n cap'] w fun e w' => e = .returned (.bool true) ∧ Below w.heap.size w w' := by
  have HN : Hid (L.length = n) := hn
  clear hn
  go_enter Try.func14, Try.ntmps14
  go_wp2
  go_loopw [5] (fun i wr => ∃ k : Nat, k ≤ n ∧ i = .int .i64 k ∧ Below w.heap.size w wr) (fun i _ => n - (intOf i).toNat)
  case atStart => exact ⟨0, by omega, rfl, Below.refl _ _⟩
  case round =>
    obtain ⟨k, hk, rfl, hb⟩ := hrel
    by_cases hlt : k < n
    · have hki : (k : Int) < n := by omega
      have hkL : k < L.length := by rw [HN.out]; exact hlt
      obtain ⟨g, off, rfl, hC⟩ := (hp.step hb).at hkL
      obtain ⟨g2, off2, rfl, hC2⟩ := (hq.step hb).at hkL
      obtain ⟨c0, c1, c2, c3, c4⟩ := CsG.z5 hC (getZ hkL)
      obtain ⟨d0, d1, d2, d3, d4⟩ := CsG.z5 hC2 (getZ hkL)
      generalize L.getD k zzs = m at c0 c1 c2 c3 c4 d0 d1 d2 d3 d4
      clear hC hC2
      go_wp2
      go_region_with ((go_at_call 25; refine (eqShard_same m _).mono ?_; rintro e w1 ⟨rfl, hb2⟩))
      all_goals
        go_wp2
        go_roundw
        case rel => exact ⟨k + 1, by omega, by go_num, bstep hb.drew hb2 (Nat.le_refl _)⟩
        case measure => simp [intOf]; omega
    · obtain rfl : k = n := by omega
      go_wp2
      go_ret
      exact ⟨rfl, hb⟩
def mk2 (k : Int) : Zs := ⟨mtx k, k + 1⟩
def mkZs (k : Int) (n : Nat) : List Zs := (List.range n).map fun i : Nat => mk2 (k + 2 * (i : Int))
theorem mkZs_get {k : Int} {n i : Nat} (h : i < n) : (mkZs k n)[i]? = some (mk2 (k + 2 * i)) := by simp [mkZs, h]
theorem mkZs_len (k : Int) (n : Nat) : (mkZs k n).length = n := by simp [mkZs]
set_option maxRecDepth 100000 in
set_option maxHeartbeats 2000000 in
theorem markShardS_any (p : Option Addr) (n c : Nat) (k0 : Int) (M : List Zs) (A Bs : List Rw) (w W : World) (hS : Sg w W (A ++ rG kZ (.slice p n c) M :: Bs)) (hb : n ≤ 1048576) (hk0 : 1 ≤ k0) (hk1 : k0 ≤ 100000000) :
    Calls Try.prog 17 #[.slice p n c, .int .i64 k0] W fun e w' => e = .returned (.int .i64 (k0 + 2 * n)) ∧ Sg w w' (A ++ rG kZ (.slice p n c) (mkZs k0 n) :: Bs) := by
  have hMl := (OwG.len (hS.mem (K := kZ) (v := .slice p n c) (L := M) (by simp))).symm
  have HM : Hid (M.length = n) := hMl
  clear hMl
  go_enter Try.func17, Try.ntmps17
  go_wp2
  go_loopw [1, 5] (fun kv i wr => ∃ (k : Nat) (K : List Zs), k ≤ n ∧ i = .int .i64 k ∧ kv = .int .i64 (k0 + 2 * k) ∧ Hid (K.length = n ∧ ∀ j, j < k → K[j]? = (mkZs k0 n)[j]?) ∧ Sg w wr (A ++ rG kZ (.slice p n c) K :: Bs)) (fun _ i _ => n - (intOf i).toNat)
  case atStart => exact ⟨0, M, by omega, rfl, by simp, ⟨HM.out, by simp⟩, hS⟩
  case round =>
    clear hS HM
    obtain ⟨k, K, hk, rfl, rfl, hK, hS⟩ := hrel
    by_cases hlt : k < n
    · have hki : (k : Int) < n := by omega
      have ho := hS.mem (K := kZ) (v := .slice p n c) (L := K) (by simp)
      obtain ⟨g, rfl⟩ := ow_some ho (by omega)
      have hkK : k < K.length := by rw [hK.out.1]; exact hlt
      obtain ⟨d0, d1, d2, d3, d4⟩ := CsG.z5 (OwG.cs ho) (getZ hkK)
      have hf := OwG.fz ho
      simp only [Nat.zero_add] at d0 d1 d2 d3 d4
      obtain ⟨⟨o0, o1⟩, hm⟩ : ∃ m, K.getD k zzs = m := ⟨_, rfl⟩
      rw [hm] at d3 d4
      obtain ⟨z, hz⟩ : ∃ z, k0 + 2 * (k : Int) = z := ⟨_, rfl⟩
      have hz0 : 1 ≤ z := by omega
      have hz1 : z ≤ 110000000 := by omega
      have hgd : ∀ (m : Zs), (K.set k m).getD k zzs = m := fun m => by simp [List.getD, hkK]
      have HK2 : Hid (k < K.length ∧ (∀ (m : Zs), (K.set k m).getD k zzs = m) ∧ k0 + 2 * (k : Int) = z ∧ K.getD k zzs = ⟨o0, o1⟩) := ⟨hkK, hgd, hz, hm⟩
      rw [hz]
      clear ho hkK hm hgd hz
      go_upto_region 8 with (first
        | (go_at_call 28; refine (nil28 _ _).mono ?_; rintro e w1 ⟨rfl, rfl⟩)
        | (go_at_call 29; refine (nil29 _ _).mono ?_; rintro e w1 ⟨rfl, rfl⟩)
        | (go_at_call 30; refine (nil30 _ _).mono ?_; rintro e w1 ⟨rfl, rfl⟩)
        | (go_at_call 31; refine (markText_any z hz0 (by omega) _).mono ?_; rintro e w1 ⟨rfl, hb1⟩; replace hS := hS.step hb1; clear d0 d1 d2 d3 d4 hf; have ho := hS.mem (K := kZ) (v := .slice (some ⟨g, 0, none⟩) n c) (L := K) (by simp); obtain ⟨d0, d1, d2, d3, d4⟩ := CsG.z5 (OwG.cs ho) (getZ HK2.out.1); have hf := OwG.fz ho; simp only [Nat.zero_add] at d0 d1 d2 d3 d4; rw [HK2.out.2.2.2] at d3 d4; clear ho))
      have h1 := Sg.setZ1 hS HK2.out.1 (i := 3) (by decide) (.string (mtx z)) ⟨mtx z, o1⟩ (by rw [HK2.out.2.2.2]; rfl)
      have h2 := Sg.setZ1 h1 (k := k) (by simpa using HK2.out.1) (i := 4) (by decide) (.int .i64 (z + 1)) ⟨mtx z, z + 1⟩ (by rw [HK2.out.2.1]; rfl)
      rw [List.set_set] at h2
      go_wp2
      go_roundw
      case rel =>
        refine ⟨k + 1, K.set k (mk2 z), by omega, by go_num, by congr 1; have := HK2.out.2.2; simp; omega, ⟨by simp [hK.out.1], fun j hj => ?_⟩, h2⟩
        by_cases e : k = j
        · subst e; rw [List.getElem?_set_self HK2.out.1, mkZs_get hlt, HK2.out.2.2.1]
        · rw [List.getElem?_set_ne e]; exact hK.out.2 j (by omega)
      case measure => simp [intOf]; omega
    · obtain rfl : k = n := by omega
      have e : K = mkZs k0 k := List.ext_getElem? fun j => by
        by_cases hj : j < k
        · exact hK.out.2 j hj
        · rw [List.getElem?_eq_none (by rw [hK.out.1]; omega), List.getElem?_eq_none (by rw [mkZs_len]; omega)]
      subst e
      clear hK
      go_wp2
      go_ret
      exact ⟨rfl, hS⟩
set_option maxRecDepth 100000 in
set_option maxHeartbeats 2000000 in
theorem heldShardS_any (p : Option Addr) (c : Nat) (k0 : Int) (n : Nat) (w : World) (hL : SlG kZ w p (mkZs k0 n)) (hb : n ≤ 1048576) (hk0 : 1 ≤ k0) (hk1 : k0 ≤ 100000000) :
    Calls Try.prog 20 #[.slice p n c, .int .i64 k0] w fun e w' => e = .returned (.int .i64 (k0 + 2 * n)) ∧ Below w.heap.size w w' := by
  go_enter Try.func20, Try.ntmps20
  go_wp2
  go_loopw [1, 5] (fun kv i wr => ∃ k : Nat, k ≤ n ∧ i = .int .i64 k ∧ kv = .int .i64 (k0 + 2 * k) ∧ Below w.heap.size w wr) (fun _ i _ => n - (intOf i).toNat)
  case atStart => exact ⟨0, by omega, rfl, by simp, Below.refl _ _⟩
  case round =>
    obtain ⟨k, hk, rfl, rfl, hB⟩ := hrel
    by_cases hlt : k < n
    · have hki : (k : Int) < n := by omega
      obtain ⟨g, off, rfl, hC⟩ := (hL.step hB).at (k := k) (by rw [mkZs_len]; exact hlt)
      obtain ⟨d0, d1, d2, d3, d4⟩ := CsG.z5 hC (mkZs_get hlt)
      obtain ⟨z, hz⟩ : ∃ z, k0 + 2 * (k : Int) = z := ⟨_, rfl⟩
      rw [hz] at d3 d4
      simp only [mk2] at d3 d4
      have hz0 : 1 ≤ z := by omega
      have hz1 : z ≤ 140000000 := by omega
      have HC : Hid (∀ W, Below w.heap.size w W → W.cell? ⟨g, off + k * 5 + 4, none⟩ = some (.int .i64 (z + 1)) ∧ W.cell? ⟨g, off + k * 5 + 3, none⟩ = some (.string (mtx z))) := fun W h => by
        obtain ⟨g', off', e, hC⟩ := (hL.step h).at (k := k) (by rw [mkZs_len]; exact hlt)
        cases e
        obtain ⟨_, _, _, d3, d4⟩ := CsG.z5 hC (mkZs_get hlt)
        rw [hz] at d3 d4
        exact ⟨d4, d3⟩
      rw [hz]
      clear hC
      go_upto_region 13 with (first
        | (go_at_call 34; refine (nil34 _ _).mono ?_; rintro e w1 ⟨rfl, rfl⟩)
        | (go_at_call 35; refine (nil35 _ _).mono ?_; rintro e w1 ⟨rfl, rfl⟩)
        | (go_at_call 36; refine (nil36 _ _).mono ?_; rintro e w1 ⟨rfl, rfl⟩))
      clear d0 d1 d2 d4
      go_region_with (go_at_call 31; refine (markText_any z hz0 (by omega) _).mono ?_; rintro e w1 ⟨rfl, hb1⟩; have hB2 := bstep hB.drew hb1 (Nat.le_refl _); obtain ⟨d4, d3'⟩ := HC.out _ hB2)
      all_goals
        go_wp2
        go_roundw
        case rel => exact ⟨k + 1, by omega, by go_num, by congr 1; simp; omega, hB2⟩
        case measure => simp [intOf]; omega
    · obtain rfl : k = n := by omega
      go_wp2
      go_ret
      exact ⟨rfl, hB⟩
end Go.Proofs.Ytmfbkbifoehoeaa.K.D
