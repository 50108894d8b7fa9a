/-
  The law's marks and looks: lists of Nodes, trees.
-/
import Derived.Test.YtipfcmfcdfofmaaX3
namespace Go.Proofs.Ytipfcmfcdfofmaa
open Go.RowKit Go.Joins
attribute [local go_sem] Oper.semAt_some

theorem tr_split {v : Value} {X Y : List (Nd × Sv)} {p : Nd × Sv} : trR v (X ++ p :: Y) = rG kN v (X ++ p :: Y) :: ((X.map fun p => rG kI p.2.v p.1.ps) ++ rG kI p.2.v p.1.ps :: (Y.map fun p => rG kI p.2.v p.1.ps)) := by unfold trR; simp
set_option maxRecDepth 100000 in
set_option maxHeartbeats 4000000 in
theorem markNodeS_any (p : Option Addr) (n c : Nat) (k0 : Int) (NL : List (Nd × Sv)) (A Bs : List Rw) (w W : World) (hS : Sg w W (A ++ (trR (.slice p n c) NL ++ Bs))) (hb : n ≤ 1000) (hps : ∀ x ∈ NL, x.1.ps.length ≤ 1000) (hk0 : 0 ≤ k0) (hk1 : k0 ≤ 1000000) :
    Calls Try.prog 50 #[.slice p n c, .int .i64 k0] W fun e w' => e = .returned (.int .i64 (endK k0 NL)) ∧ Sg w w' (A ++ (trR (.slice p n c) (mkNs k0 NL) ++ Bs)) := by
  have HM : Hid (NL.length = n ∧ ∀ x ∈ NL, x.1.ps.length ≤ 1000) := ⟨(OwG.len (hS.mem (K := kN) (v := .slice p n c) (L := NL) (by simp [trR]))).symm, hps⟩
  clear hps
  go_enter Try.func50, Try.ntmps50
  go_wp2
  go_loopw [1, 5] (fun kv i wr => ∃ k : Nat, k ≤ n ∧ i = .int .i64 k ∧ kv = .int .i64 (endK k0 (NL.take k)) ∧ Sg w wr (A ++ (trR (.slice p n c) (mkNs k0 (NL.take k) ++ NL.drop k) ++ Bs))) (fun _ i _ => n - (intOf i).toNat)
  case atStart => exact ⟨0, by omega, rfl, rfl, by simpa [mkNs] using hS⟩
  case round =>
    clear hS
    obtain ⟨k, hk, rfl, rfl, hS⟩ := hrel
    by_cases hlt : k < n
    · have hki : (k : Int) < n := by omega
      have hkN : k < NL.length := by rw [HM.out.1]; exact hlt
      have hgk := getN hkN
      have hdk : NL.drop k = NL.getD k zn :: NL.drop (k + 1) := by rw [List.drop_eq_getElem_cons hkN]; simp [List.getD, hkN]
      have htk : NL.take (k + 1) = NL.take k ++ [NL.getD k zn] := by rw [List.take_succ_eq_append_getElem hkN]; simp [List.getD, hkN]
      have hxl : (mkNs k0 (NL.take k)).length = k := by rw [mkNs_len]; simp; omega
      have hbd := endK_bd k0 (NL.take k) fun x hx => HM.out.2 x (List.mem_of_mem_take hx)
      have hpl := HM.out.2 _ (List.mem_of_getElem? hgk)
      have hms := mkNs_snoc k0 (NL.take k) (NL.getD k zn)
      have hes := endK_snoc k0 (NL.take k) (NL.getD k zn)
      rw [← htk] at hms hes
      have hbl : ((NL.take k).length : Int) ≤ 1000 := by simp; omega
      obtain ⟨q, hq⟩ : ∃ q, NL.getD k zn = q := ⟨_, rfl⟩
      rw [hq] at hdk hms hes hpl
      obtain ⟨X, hX⟩ : ∃ X, mkNs k0 (NL.take k) = X := ⟨_, rfl⟩
      obtain ⟨Y, hY⟩ : ∃ Y, NL.drop (k + 1) = Y := ⟨_, rfl⟩
      obtain ⟨κ, hκ⟩ : ∃ κ, endK k0 (NL.take k) = κ := ⟨_, rfl⟩
      rw [hX] at hxl hms hS
      rw [hY] at hdk
      rw [hκ] at hms hes hbd ⊢
      rw [hdk] at hS
      have HE : Hid (mkNs k0 (NL.take (k + 1)) = X ++ [mkNd κ q] ∧ endK k0 (NL.take (k + 1)) = κ + 1 + 1 + 1 + 1 + 1 + q.1.ps.length ∧ NL.drop (k + 1) = Y ∧ X.length = k) := ⟨hms, hes, hY, hxl⟩
      have hκ0 : 0 ≤ κ := by omega
      have hκ1 : κ ≤ 3000000 := by omega
      have ho := hS.mem (K := kN) (v := .slice p n c) (L := X ++ q :: Y) (by simp [trR])
      obtain ⟨g, rfl⟩ := ow_some ho (by omega)
      obtain ⟨d0, d1, d2, d3, d4, d5⟩ := (OwG.cs ho).nd (k := k) (p := q) (by rw [List.getElem?_append_right (by omega), hxl]; simp)
      have hf := OwG.fz ho
      simp only [Nat.zero_add] at d0 d1 d2 d3 d4 d5
      obtain ⟨e, he⟩ : ∃ e, q.1.ps.length = e := ⟨_, rfl⟩
      have hqn : q.2.n = e := by
        have h1 := OwG.len (hS.mem (K := kI) (v := .slice q.2.p q.2.n q.2.c) (L := q.1.ps) (by rw [tr_split]; simp [Sv.v]))
        omega
      rw [hqn] at d5
      have hS1 : Sg w wr (A ++ rG kN (.slice (some ⟨g, 0, none⟩) n c) (X ++ q :: Y) :: (((X.map fun p => rG kI p.2.v p.1.ps) ++ rG kI q.2.v q.1.ps :: (Y.map fun p => rG kI p.2.v p.1.ps)) ++ Bs)) := by rw [tr_split] at hS; simpa using hS
      have hS2 := Sg.setNdAt hS1 (mkNd κ q).1 (o := k * 6) (by omega)
      have hS3 := (show Sg w _ ((A ++ rG kN (.slice (some ⟨g, 0, none⟩) n c) (X ++ ((mkNd κ q).1, q.2) :: Y) :: (X.map fun p => rG kI p.2.v p.1.ps)) ++ rG kI (.slice q.2.p e q.2.c) q.1.ps :: ((Y.map fun p => rG kI p.2.v p.1.ps) ++ Bs)) from by
        have h := hS2
        unfold Sv.v at h
        rw [hqn] at h
        simpa [Sv.v, hqn] using h)
      have hmk := markInt64S_any q.2.p e q.2.c (κ + 1 + 1 + 1 + 1 + 1) q.1.ps _ _ w _ hS3 (by omega) (by omega) (by omega)
      have HPE : Hid (q.1.ps.length = e ∧ q.2.n = e) := ⟨he, hqn⟩
      clear hS hS1 hS2 hS3 ho hgk hdk htk hms hes hbd hbl hX hY hκ hxl hpl he hqn hkN
      simp only [mkNd, lfK] at hmk
      go_wp2_with (go_at_call 73; refine hmk.mono ?_; rintro ee w1 ⟨rfl, hS4⟩)
      go_roundw
      case rel =>
        refine ⟨k + 1, by omega, by go_num, by rw [HE.out.2.1, HPE.out.1], ?_⟩
        have e1 : mkNs k0 (NL.take (k + 1)) ++ NL.drop (k + 1) = X ++ mkNd κ q :: Y := by rw [HE.out.1, HE.out.2.2.1]; simp
        have e2 : rG kI (mkNd κ q).2.v (mkNd κ q).1.ps = rG kI (.slice q.2.p e q.2.c) (mk1 (κ + 1 + 1 + 1 + 1 + 1) e) := by simp [mkNd, Sv.v, HPE.out.1, HPE.out.2]
        have e3 : mkNd κ q = (⟨⟨κ, κ + 1, κ + 1 + 1, κ + 1 + 1 + 1⟩, (κ + 1 + 1 + 1 + 1) % 3 == 0, mk1 (κ + 1 + 1 + 1 + 1 + 1) e⟩, q.2) := by simp [mkNd, lfK, HPE.out.1]
        rw [e1, tr_split, e2, e3]
        have h := hS4
        simp only [List.append_assoc, List.cons_append] at h ⊢
        rw [HPE.out.1] at h
        exact h
      case measure => simp [intOf]; omega
    · obtain rfl : k = n := by omega
      have e1 : NL.take k = NL := List.take_of_length_le (by rw [HM.out.1]; exact Nat.le_refl _)
      have e2 : NL.drop k = [] := List.drop_eq_nil_of_le (by rw [HM.out.1]; exact Nat.le_refl _)
      rw [e1, e2, List.append_nil] at hS
      rw [e1]
      clear e1 e2
      obtain ⟨z, hz⟩ : ∃ z, endK k0 NL = z := ⟨_, rfl⟩
      have HZ : Hid (endK k0 NL = z) := hz
      rw [hz]
      clear hz
      go_wp2
      go_ret
      exact ⟨by rw [HZ.out]; rfl, hS⟩
theorem mkNs_at : ∀ (k : Int) (NL : List (Nd × Sv)) (i : Nat) (p : Nd × Sv), NL[i]? = some p → (mkNs k NL)[i]? = some (mkNd (endK k (NL.take i)) p)
  | _, [], i, p, h => by simp at h
  | k, q :: t, 0, p, h => by simp at h; subst h; rfl
  | k, q :: t, i + 1, p, h => by
    simp only [mkNs, List.getElem?_cons_succ, List.take_succ_cons, endK] at h ⊢
    exact mkNs_at _ t i p h
set_option maxRecDepth 100000 in
set_option maxHeartbeats 4000000 in
theorem heldNodeS_any (p : Option Addr) (n c : Nat) (k0 : Int) (NL : List (Nd × Sv)) (hn : NL.length = n) (w : World) (hR : RdN w p (mkNs k0 NL)) (hb : n ≤ 1000) (hps : ∀ x ∈ NL, x.1.ps.length ≤ 1000) (hk0 : 0 ≤ k0) (hk1 : k0 ≤ 1000000) :
    Calls Try.prog 52 #[.slice p n c, .int .i64 k0] w fun e w' => e = .returned (.int .i64 (endK k0 NL)) ∧ w' = w := by
  have HM : Hid (NL.length = n ∧ (∀ x ∈ NL, x.1.ps.length ≤ 1000) ∧ RdN w p (mkNs k0 NL)) := ⟨hn, hps, hR⟩
  clear hps hn hR
  go_enter Try.func52, Try.ntmps52
  go_wp2
  go_loop [1, 5] (fun kv i => ∃ k : Nat, k ≤ n ∧ i = .int .i64 k ∧ kv = .int .i64 (endK k0 (NL.take k))) (fun _ i => n - (intOf i).toNat)
  case atStart => exact ⟨0, by omega, rfl, rfl⟩
  case round =>
    obtain ⟨k, hk, rfl, rfl⟩ := hrel
    by_cases hlt : k < n
    · have hki : (k : Int) < n := by omega
      have hkN : k < NL.length := by rw [HM.out.1]; exact hlt
      have hgk := getN hkN
      have hat := mkNs_at k0 NL k _ hgk
      have htk : NL.take (k + 1) = NL.take k ++ [NL.getD k zn] := by rw [List.take_succ_eq_append_getElem hkN]; simp [List.getD, hkN]
      have hes := endK_snoc k0 (NL.take k) (NL.getD k zn)
      rw [← htk] at hes
      have hbd := endK_bd k0 (NL.take k) fun x hx => HM.out.2.1 x (List.mem_of_mem_take hx)
      have hbl : ((NL.take k).length : Int) ≤ 1000 := by simp; omega
      have hpl := HM.out.2.1 _ (List.mem_of_getElem? hgk)
      obtain ⟨q, hq⟩ : ∃ q, NL.getD k zn = q := ⟨_, rfl⟩
      obtain ⟨κ, hκ⟩ : ∃ κ, endK k0 (NL.take k) = κ := ⟨_, rfl⟩
      rw [hq] at hat hes hpl
      rw [hκ] at hat hes hbd ⊢
      have hκ0 : 0 ≤ κ := by omega
      have hκ1 : κ ≤ 3000000 := by omega
      obtain ⟨g, off, rfl, hC⟩ := HM.out.2.2.1.at (k := k) (by rw [mkNs_len]; exact hkN)
      obtain ⟨d0, d1, d2, d3, d4, d5⟩ := hC.nd hat
      obtain ⟨r1, r2⟩ := HM.out.2.2.2 _ (List.mem_of_getElem? hat)
      simp only [mkNd, lfK, mk1_len] at d0 d1 d2 d3 d4 d5 r1 r2
      obtain ⟨e, he⟩ : ∃ e, q.1.ps.length = e := ⟨_, rfl⟩
      rw [he] at r1 r2 hes
      rw [r2] at d5
      have HE : Hid (endK k0 (NL.take (k + 1)) = κ + 1 + 1 + 1 + 1 + 1 + e) := hes
      have HI : Hid (Calls Try.prog 74 #[.slice q.2.p e q.2.c, .int .i64 (κ + 1 + 1 + 1 + 1 + 1)] w fun e' w' => e' = .returned (.int .i64 (κ + 1 + 1 + 1 + 1 + 1 + e)) ∧ w' = w) := heldInt64S_any q.2.p q.2.c (κ + 1 + 1 + 1 + 1 + 1) e w r1 (by omega) (by omega) (by omega)
      have hpos : ¬ κ + 1 + 1 + 1 + 1 + 1 + (e : Int) < 0 := by omega
      clear hC hat htk hes hbd hbl hpl hq hκ hgk hkN r1 r2 he
      go_wp2_with (go_at_call 74; refine HI.out.mono ?_; rintro ee w1 ⟨rfl, rfl⟩)
      go_round
      case rel => exact ⟨k + 1, by omega, by go_num, by rw [HE.out]⟩
      case measure => simp [intOf]; omega
    · obtain rfl : k = n := by omega
      rw [List.take_of_length_le (by rw [HM.out.1]; exact Nat.le_refl _)]
      obtain ⟨z, hz⟩ : ∃ z, endK k0 NL = z := ⟨_, rfl⟩
      have HZ : Hid (endK k0 NL = z) := hz
      rw [hz]
      clear hz
      go_wp2
      go_ret
      exact ⟨by rw [HZ.out]; rfl, rfl⟩
end Go.Proofs.Ytipfcmfcdfofmaa
