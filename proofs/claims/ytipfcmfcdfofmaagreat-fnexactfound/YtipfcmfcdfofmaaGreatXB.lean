/-
  The law's marks of Trees that are great.
-/
import Derived.Test.YtipfcmfcdfofmaaGreatX3
namespace Go.Proofs.YtipfcmfcdfofmaaGreat
open Go.RowKit Go.Joins
attribute [local go_sem] Oper.semAt_some

theorem tr_split {v : Value} {X Y : List (Nd × Sv)} {p : Nd × Sv} : trR v (X ++ p :: Y) = rG kN v (X ++ p :: Y) :: ((X.map fun p => rG kI p.2.v p.1.ps) ++ rG kI p.2.v p.1.ps :: (Y.map fun p => rG kI p.2.v p.1.ps)) := by unfold trR; simp
set_option maxRecDepth 100000 in
set_option maxHeartbeats 4000000 in
theorem markNodeS_any (p : Option Addr) (n c : Nat) (k0 : Int) (NL : List (Nd × Sv)) (A Bs : List Rw) (w W : World) (hS : Sg w W (A ++ (trR (.slice p n c) NL ++ Bs))) (hb : n ≤ 1000) (hps : ∀ x ∈ NL, x.1.ps.length ≤ 1000) (hk0 : 0 ≤ k0) (hk1 : k0 ≤ 1000000) :
    Calls Tryz.prog 67 #[.slice p n c, .int .i64 k0] W fun e w' => e = .returned (.int .i64 (endK k0 NL)) ∧ Sg w w' (A ++ (trR (.slice p n c) (mkNs k0 NL) ++ Bs)) := by
  have HM : Hid (NL.length = n ∧ ∀ x ∈ NL, x.1.ps.length ≤ 1000) := ⟨(OwG.len (hS.mem (K := kN) (v := .slice p n c) (L := NL) (by simp [trR]))).symm, hps⟩
  clear hps
  go_enter Tryz.func67, Tryz.ntmps67
  go_wp2
  go_loopw [1, 5] (fun kv i wr => ∃ k : Nat, k ≤ n ∧ i = .int .i64 k ∧ kv = .int .i64 (endK k0 (NL.take k)) ∧ Sg w wr (A ++ (trR (.slice p n c) (mkNs k0 (NL.take k) ++ NL.drop k) ++ Bs))) (fun _ i _ => n - (intOf i).toNat)
  case atStart => exact ⟨0, by omega, rfl, rfl, by simpa [mkNs] using hS⟩
  case round =>
    clear hS
    obtain ⟨k, hk, rfl, rfl, hS⟩ := hrel
    by_cases hlt : k < n
    · have hki : (k : Int) < n := by omega
      have hkN : k < NL.length := by rw [HM.out.1]; exact hlt
      have hgk := getN hkN
      have hdk : NL.drop k = NL.getD k zn :: NL.drop (k + 1) := by rw [List.drop_eq_getElem_cons hkN]; simp [List.getD, hkN]
      have htk : NL.take (k + 1) = NL.take k ++ [NL.getD k zn] := by rw [List.take_succ_eq_append_getElem hkN]; simp [List.getD, hkN]
      have hxl : (mkNs k0 (NL.take k)).length = k := by rw [mkNs_len]; simp; omega
      have hbd := endK_bd k0 (NL.take k) fun x hx => HM.out.2 x (List.mem_of_mem_take hx)
      have hpl := HM.out.2 _ (List.mem_of_getElem? hgk)
      have hms := mkNs_snoc k0 (NL.take k) (NL.getD k zn)
      have hes := endK_snoc k0 (NL.take k) (NL.getD k zn)
      rw [← htk] at hms hes
      have hbl : ((NL.take k).length : Int) ≤ 1000 := by simp; omega
      obtain ⟨q, hq⟩ : ∃ q, NL.getD k zn = q := ⟨_, rfl⟩
      rw [hq] at hdk hms hes hpl
      obtain ⟨X, hX⟩ : ∃ X, mkNs k0 (NL.take k) = X := ⟨_, rfl⟩
      obtain ⟨Y, hY⟩ : ∃ Y, NL.drop (k + 1) = Y := ⟨_, rfl⟩
      obtain ⟨κ, hκ⟩ : ∃ κ, endK k0 (NL.take k) = κ := ⟨_, rfl⟩
      rw [hX] at hxl hms hS
      rw [hY] at hdk
      rw [hκ] at hms hes hbd ⊢
      rw [hdk] at hS
      have HE : Hid (mkNs k0 (NL.take (k + 1)) = X ++ [mkNd κ q] ∧ endK k0 (NL.take (k + 1)) = κ + 1 + 1 + 1 + 1 + 1 + q.1.ps.length ∧ NL.drop (k + 1) = Y ∧ X.length = k) := ⟨hms, hes, hY, hxl⟩
      have hκ0 : 0 ≤ κ := by omega
      have hκ1 : κ ≤ 3000000 := by omega
      have ho := hS.mem (K := kN) (v := .slice p n c) (L := X ++ q :: Y) (by simp [trR])
      obtain ⟨g, rfl⟩ := ow_some ho (by omega)
      obtain ⟨d0, d1, d2, d3, d4, d5⟩ := (OwG.cs ho).nd (k := k) (p := q) (by rw [List.getElem?_append_right (by omega), hxl]; simp)
      have hf := OwG.fz ho
      simp only [Nat.zero_add] at d0 d1 d2 d3 d4 d5
      obtain ⟨e, he⟩ : ∃ e, q.1.ps.length = e := ⟨_, rfl⟩
      have hqn : q.2.n = e := by
        have h1 := OwG.len (hS.mem (K := kI) (v := .slice q.2.p q.2.n q.2.c) (L := q.1.ps) (by rw [tr_split]; simp [Sv.v]))
        omega
      rw [hqn] at d5
      have hS1 : Sg w wr (A ++ rG kN (.slice (some ⟨g, 0, none⟩) n c) (X ++ q :: Y) :: (((X.map fun p => rG kI p.2.v p.1.ps) ++ rG kI q.2.v q.1.ps :: (Y.map fun p => rG kI p.2.v p.1.ps)) ++ Bs)) := by rw [tr_split] at hS; simpa using hS
      have hS2 := Sg.setNdAt hS1 (mkNd κ q).1 (o := k * 6) (by omega)
      have hS3 := (show Sg w _ ((A ++ rG kN (.slice (some ⟨g, 0, none⟩) n c) (X ++ ((mkNd κ q).1, q.2) :: Y) :: (X.map fun p => rG kI p.2.v p.1.ps)) ++ rG kI (.slice q.2.p e q.2.c) q.1.ps :: ((Y.map fun p => rG kI p.2.v p.1.ps) ++ Bs)) from by
        have h := hS2
        unfold Sv.v at h
        rw [hqn] at h
        simpa [Sv.v, hqn] using h)
      have hmk := markInt64S_any q.2.p e q.2.c (κ + 1 + 1 + 1 + 1 + 1) q.1.ps _ _ w _ hS3 (by omega) (by omega) (by omega)
      have HPE : Hid (q.1.ps.length = e ∧ q.2.n = e) := ⟨he, hqn⟩
      clear hS hS1 hS2 hS3 ho hgk hdk htk hms hes hbd hbl hX hY hκ hxl hpl he hqn hkN
      simp only [mkNd, lfK] at hmk
      go_wp2_with (go_at_call 31; refine hmk.mono ?_; rintro ee w1 ⟨rfl, hS4⟩)
      go_roundw
      case rel =>
        refine ⟨k + 1, by omega, by go_num, by rw [HE.out.2.1, HPE.out.1], ?_⟩
        have e1 : mkNs k0 (NL.take (k + 1)) ++ NL.drop (k + 1) = X ++ mkNd κ q :: Y := by rw [HE.out.1, HE.out.2.2.1]; simp
        have e2 : rG kI (mkNd κ q).2.v (mkNd κ q).1.ps = rG kI (.slice q.2.p e q.2.c) (mk1 (κ + 1 + 1 + 1 + 1 + 1) e) := by simp [mkNd, Sv.v, HPE.out.1, HPE.out.2]
        have e3 : mkNd κ q = (⟨⟨κ, κ + 1, κ + 1 + 1, κ + 1 + 1 + 1⟩, (κ + 1 + 1 + 1 + 1) % 3 == 0, mk1 (κ + 1 + 1 + 1 + 1 + 1) e⟩, q.2) := by simp [mkNd, lfK, HPE.out.1]
        rw [e1, tr_split, e2, e3]
        have h := hS4
        simp only [List.append_assoc, List.cons_append] at h ⊢
        rw [HPE.out.1] at h
        exact h
      case measure => simp [intOf]; omega
    · obtain rfl : k = n := by omega
      have e1 : NL.take k = NL := List.take_of_length_le (by rw [HM.out.1]; exact Nat.le_refl _)
      have e2 : NL.drop k = [] := List.drop_eq_nil_of_le (by rw [HM.out.1]; exact Nat.le_refl _)
      rw [e1, e2, List.append_nil] at hS
      rw [e1]
      clear e1 e2
      obtain ⟨z, hz⟩ : ∃ z, endK k0 NL = z := ⟨_, rfl⟩
      have HZ : Hid (endK k0 NL = z) := hz
      rw [hz]
      clear hz
      go_wp2
      go_ret
      exact ⟨by rw [HZ.out]; rfl, hS⟩
theorem mkNs_at : ∀ (k : Int) (NL : List (Nd × Sv)) (i : Nat) (p : Nd × Sv), NL[i]? = some p → (mkNs k NL)[i]? = some (mkNd (endK k (NL.take i)) p)
  | _, [], i, p, h => by simp at h
  | k, q :: t, 0, p, h => by simp at h; subst h; rfl
  | k, q :: t, i + 1, p, h => by
    simp only [mkNs, List.getElem?_cons_succ, List.take_succ_cons, endK] at h ⊢
    exact mkNs_at _ t i p h
end Go.Proofs.YtipfcmfcdfofmaaGreat
namespace Go.Proofs.YtipfcmfcdfofmaaGreat
open Go.RowKit Go.Joins
attribute [local go_sem] Oper.semAt_some

theorem grow_prop {P : Nd → Prop} (hP : ∀ ns fr, (∀ nd ∈ ns, P nd) → ∀ nd ∈ rowUp ns fr, P nd) : ∀ (d : Nat) (ns : List Nd) (fr : Nat), ns.length - fr ≤ d → (∀ nd ∈ ns, P nd) → ∀ nd ∈ grow ns fr, P nd
  | 0, ns, fr, hd, h => by rw [grow_end (by omega)]; exact h
  | d + 1, ns, fr, hd, h => by
    by_cases h1 : ns.length - fr ≤ 1
    · rw [grow_end h1]; exact h
    · rw [grow_on h1]
      refine grow_prop hP d _ _ ?_ ?_
      · simp [rowUp_len, cnt]; omega
      · intro nd hnd
        rcases List.mem_append.mp hnd with hh | hh
        · exact h nd hh
        · exact hP ns fr h nd hh
theorem grow_len : ∀ (d : Nat) (ns : List Nd) (fr : Nat), ns.length - fr ≤ d → ns.length + (ns.length - fr) ≤ 30 → (grow ns fr).length ≤ 30
  | 0, ns, fr, hd, h => by rw [grow_end (by omega)]; omega
  | d + 1, ns, fr, hd, h => by
    by_cases h1 : ns.length - fr ≤ 1
    · rw [grow_end h1]; omega
    · rw [grow_on h1]
      refine grow_len d _ _ ?_ ?_
      · simp [rowUp_len, cnt]; omega
      · simp [rowUp_len, cnt]; omega
theorem plN_bd (L : List Mk) : (plN L).length ≤ 30 ∧ ∀ nd ∈ plN L, nd.ps.length ≤ 4 := by
  unfold plN
  split
  · rename_i h
    have h60 : L.length ≤ 60 := by simp [mksB] at h; exact h.1
    have hl : (leafs (srtM fO L)).length ≤ 15 := by rw [leafs_len, srtM_len]; unfold cnt; omega
    refine ⟨grow_len _ _ _ (Nat.le_refl _) (by omega), grow_prop (P := fun nd => nd.ps.length ≤ 4) (fun ns fr _ nd hnd => ?_) _ _ _ (Nat.le_refl _) (fun nd hnd => ?_)⟩
    · simp only [rowUp, List.mem_map, List.mem_range] at hnd
      obtain ⟨j, _, rfl⟩ := hnd
      rw [forkN_ps, upto_len, four_len]; omega
    · simp only [leafs, List.mem_map, List.mem_range] at hnd
      obtain ⟨j, _, rfl⟩ := hnd
      simp only [leafN, List.length_map, four_len]; omega
  · simp
theorem plM_bd (L : List Mk) : (plM L).length ≤ 60 := by
  unfold plM
  split
  · rename_i h; simp [mksB] at h; exact h.1
  · simp
set_option maxHeartbeats 1000000 in
theorem eqTree_same (p1 p2 q1 q2 : Option Addr) (c1 c2 d1 d2 : Nat) (M : List Mk) (m : Nat) (hm : M.length = m) (A B : List (Nd × Sv)) (n : Nat) (hn : A.length = n) (he : A.map Prod.fst = B.map Prod.fst) (hmb : m ≤ 1000) (hb : n ≤ 1000) (hps : ∀ x ∈ A, x.1.ps.length ≤ 1000) (w : World) (hp1 : SlG kM w p1 M) (hp2 : SlG kM w p2 M) (hq1 : RdN w q1 A) (hq2 : RdN w q2 B) :
    Calls Tryz.prog 29 #[.agg #[.slice p1 m c1, .slice q1 n d1], .agg #[.slice p2 m c2, .slice q2 n d2]] w fun e w' => e = .returned (.bool true) ∧ Below w.heap.size w w' := by
  have HE1 : Hid (∀ W, Below w.heap.size w W → Calls Tryz.prog 64 #[.slice p1 m c1, .slice p2 m c2] W fun e w' => e = .returned (.bool true) ∧ Below W.heap.size W w') := fun W h => eqMarkS_same p1 p2 c1 c2 M m hm W (hp1.step h) (hp2.step h) (by omega)
  have HE2 : Hid (∀ W, Below w.heap.size w W → Calls Tryz.prog 65 #[.slice q1 n d1, .slice q2 n d2] W fun e w' => e = .returned (.bool true) ∧ Below W.heap.size W w') := fun W h => eqNodeS_same q1 q2 d1 d2 A B n hn he hb hps W (hq1.step h) (hq2.step h)
  have hst := ((St.nil w).push [.slice p1 m c1, .slice q1 n d1] 28).push [.slice p2 m c2, .slice q2 n d2] 28
  simp only [World.size_alloc] at hst
  clear hm hn he hps hp1 hp2 hq1 hq2
  go_enter Tryz.func29, Tryz.ntmps29
  go_wp2_with (first
    | (go_at_call 64; refine (HE1.out _ hst.bel).mono ?_; rintro e w1 ⟨rfl, hb2⟩; have hs1 := hst.step hb2; have hk := hs1.has; simp [Has, HasAt] at hk)
    | (go_at_call 65; refine (HE2.out _ hs1.bel).mono ?_; rintro e w2 ⟨rfl, hb3⟩))
  go_ret
  exact ⟨rfl, bstep hs1.bel hb3 (Nat.le_refl _)⟩
set_option maxHeartbeats 1000000 in
theorem markTree_any (p q : Option Addr) (m n c d : Nat) (M : List Mk) (NL : List (Nd × Sv)) (A Bs : List Rw) (w W : World) (hS : Sg w W (A ++ (treeR (.slice p m c) (.slice q n d) M NL ++ Bs))) (hmb : m ≤ 1000) (hb : n ≤ 1000) (hps : ∀ x ∈ NL, x.1.ps.length ≤ 1000) :
    Calls Tryz.prog 30 #[.agg #[.slice p m c, .slice q n d], .int .i64 1] W fun e w' => e = .returned (.int .i64 (endK (1 + 3 * m) NL)) ∧ Sg w w' (A ++ (treeR (.slice p m c) (.slice q n d) (mkM 1 m) (mkNs (1 + 3 * m) NL) ++ Bs)) := by
  have hS0 : Sg w W (A ++ rG kM (.slice p m c) M :: (trR (.slice q n d) NL ++ Bs)) := hS
  have hS1 := hS0.lit kT [(⟨p, m, c⟩, ⟨q, n, d⟩)] 1 rfl (by decide) #[.slice p m c, .slice q n d] rfl
  have HPS : Hid (∀ x ∈ NL, x.1.ps.length ≤ 1000) := hps
  clear hS hS0 hps
  have hS2 : Sg w (W.alloc (.cells #[.slice p m c, .slice q n d] 28)) ((rG kT (.slice (some ⟨W.heap.size, 0, none⟩) 1 1) [(⟨p, m, c⟩, ⟨q, n, d⟩)] :: A) ++ rG kM (.slice p m c) M :: (trR (.slice q n d) NL ++ Bs)) := hS1
  clear hS1
  go_enter Tryz.func30, Tryz.ntmps30
  go_wp2_with (first
    | (go_at_call 66; refine (markMarkS_any p m c 1 M _ _ w _ hS2 (by omega) (by omega) (by omega)).mono ?_; rintro e w1 ⟨rfl, hS3⟩; obtain ⟨u0, u1, _, ug⟩ := hS3.two (K := kT) (g := W.heap.size) (c := 1) (p := (⟨p, m, c⟩, ⟨q, n, d⟩)) (by simp) rfl; have hS4 : Sg w w1 ((rG kT (.slice (some ⟨W.heap.size, 0, none⟩) 1 1) [(⟨p, m, c⟩, ⟨q, n, d⟩)] :: (A ++ [rG kM (.slice p m c) (mkM 1 m)])) ++ (trR (.slice q n d) NL ++ Bs)) := by simpa using hS3)
    | (go_at_call 67; refine (markNodeS_any q n d (1 + 3 * m) NL _ _ w _ hS4 hb HPS.out (by omega) (by omega)).mono ?_; rintro e w2 ⟨rfl, hS5⟩))
  go_ret
  refine ⟨rfl, ?_⟩
  have h := hS5.sub (rs' := (A ++ [rG kM (.slice p m c) (mkM 1 m)]) ++ (trR (.slice q n d) (mkNs (1 + 3 * m) NL) ++ Bs)) (by simp)
  simpa [treeR] using h
end Go.Proofs.YtipfcmfcdfofmaaGreat
namespace Go.Proofs.YtipfcmfcdfofmaaGreat
open Go.RowKit Go.Joins
attribute [local go_sem] Oper.semAt_some

set_option maxHeartbeats 2000000 in
theorem markInt64S_big (p : Option Addr) (n c : Nat) (k0 : Int) (M : List Int) (A Bs : List Rw) (w W : World) (hS : Sg w W (A ++ rG kI (.slice p n c) M :: Bs)) (hb : n ≤ 10000000) (hk0 : 0 ≤ k0) (hk1 : k0 ≤ 2000000000000000) :
    Calls Tryz.prog 31 #[.slice p n c, .int .i64 k0] W fun e w' => e = .returned (.int .i64 (k0 + n)) ∧ Sg w w' (A ++ rG kI (.slice p n c) (mk1 k0 n) :: Bs) := by
  have HM : Hid (M.length = n) := (OwG.len (hS.mem (K := kI) (v := .slice p n c) (L := M) (by simp))).symm
  go_enter Tryz.func31, Tryz.ntmps31
  go_wp2
  go_loopw [1, 5] (fun kv i wr => ∃ (k : Nat) (K : List Int), k ≤ n ∧ i = .int .i64 k ∧ kv = .int .i64 (k0 + k) ∧ Hid (K.length = n ∧ ∀ j, j < k → K[j]? = (mk1 k0 n)[j]?) ∧ Sg w wr (A ++ rG kI (.slice p n c) K :: Bs)) (fun _ i _ => n - (intOf i).toNat)
  case atStart => exact ⟨0, M, by omega, rfl, by simp, ⟨HM.out, by simp⟩, hS⟩
  case round =>
    clear hS HM
    obtain ⟨k, K, hk, rfl, rfl, hK, hS⟩ := hrel
    by_cases hlt : k < n
    · have hki : (k : Int) < n := by omega
      have ho := hS.mem (K := kI) (v := .slice p n c) (L := K) (by simp)
      obtain ⟨g, rfl⟩ := ow_some ho (by omega)
      have hkK : k < K.length := by rw [hK.out.1]; exact hlt
      have d0 := (OwG.cs ho).int (getI hkK)
      have hf := OwG.fz ho
      simp only [Nat.zero_add] at d0
      have hS2 := Sg.setI hS hkK (k0 + (k : Int))
      have HK2 : Hid (k < K.length) := hkK
      clear ho hkK
      go_wp2
      go_roundw
      case rel =>
        refine ⟨k + 1, K.set k (k0 + (k : Int)), by omega, by go_num, by congr 1; simp; omega, ⟨by simp [hK.out.1], fun j hj => ?_⟩, hS2⟩
        by_cases e : k = j
        · subst e; rw [List.getElem?_set_self HK2.out, mk1_get hlt]
        · rw [List.getElem?_set_ne e]; exact hK.out.2 j (by omega)
      case measure => simp [intOf]; omega
    · obtain rfl : k = n := by omega
      have e : K = mk1 k0 k := List.ext_getElem? fun j => by
        by_cases hj : j < k
        · exact hK.out.2 j hj
        · rw [List.getElem?_eq_none (by rw [hK.out.1]; omega), List.getElem?_eq_none (by rw [mk1_len]; omega)]
      subst e
      clear hK
      go_wp2
      go_ret
      exact ⟨rfl, hS⟩
theorem endK_bdB : ∀ (k : Int) (X : List (Nd × Sv)), (∀ x ∈ X, x.1.ps.length ≤ 10000000) → k ≤ endK k X ∧ endK k X ≤ k + 10000005 * X.length
  | k, [], _ => by simp [endK]
  | k, p :: t, h => by
    have h1 := h p (List.mem_cons_self ..)
    have := endK_bdB (k + 1 + 1 + 1 + 1 + 1 + p.1.ps.length) t fun x hx => h x (List.mem_cons_of_mem _ hx)
    simp only [endK, List.length_cons]; omega
set_option maxRecDepth 100000 in
set_option maxHeartbeats 4000000 in
theorem markNodeS_big (p : Option Addr) (n c : Nat) (k0 : Int) (NL : List (Nd × Sv)) (A Bs : List Rw) (w W : World) (hS : Sg w W (A ++ (trR (.slice p n c) NL ++ Bs))) (hb : n ≤ 10000000) (hps : ∀ x ∈ NL, x.1.ps.length ≤ 10000000) (hk0 : 0 ≤ k0) (hk1 : k0 ≤ 1000000000) :
    Calls Tryz.prog 67 #[.slice p n c, .int .i64 k0] W fun e w' => e = .returned (.int .i64 (endK k0 NL)) ∧ Sg w w' (A ++ (trR (.slice p n c) (mkNs k0 NL) ++ Bs)) := by
  have HM : Hid (NL.length = n ∧ ∀ x ∈ NL, x.1.ps.length ≤ 10000000) := ⟨(OwG.len (hS.mem (K := kN) (v := .slice p n c) (L := NL) (by simp [trR]))).symm, hps⟩
  clear hps
  go_enter Tryz.func67, Tryz.ntmps67
  go_wp2
  go_loopw [1, 5] (fun kv i wr => ∃ k : Nat, k ≤ n ∧ i = .int .i64 k ∧ kv = .int .i64 (endK k0 (NL.take k)) ∧ Sg w wr (A ++ (trR (.slice p n c) (mkNs k0 (NL.take k) ++ NL.drop k) ++ Bs))) (fun _ i _ => n - (intOf i).toNat)
  case atStart => exact ⟨0, by omega, rfl, rfl, by simpa [mkNs] using hS⟩
  case round =>
    clear hS
    obtain ⟨k, hk, rfl, rfl, hS⟩ := hrel
    by_cases hlt : k < n
    · have hki : (k : Int) < n := by omega
      have hkN : k < NL.length := by rw [HM.out.1]; exact hlt
      have hgk := getN hkN
      have hdk : NL.drop k = NL.getD k zn :: NL.drop (k + 1) := by rw [List.drop_eq_getElem_cons hkN]; simp [List.getD, hkN]
      have htk : NL.take (k + 1) = NL.take k ++ [NL.getD k zn] := by rw [List.take_succ_eq_append_getElem hkN]; simp [List.getD, hkN]
      have hxl : (mkNs k0 (NL.take k)).length = k := by rw [mkNs_len]; simp; omega
      have hbd := endK_bdB k0 (NL.take k) fun x hx => HM.out.2 x (List.mem_of_mem_take hx)
      have hpl := HM.out.2 _ (List.mem_of_getElem? hgk)
      have hms := mkNs_snoc k0 (NL.take k) (NL.getD k zn)
      have hes := endK_snoc k0 (NL.take k) (NL.getD k zn)
      rw [← htk] at hms hes
      have hbl : ((NL.take k).length : Int) ≤ 10000000 := by simp; omega
      obtain ⟨q, hq⟩ : ∃ q, NL.getD k zn = q := ⟨_, rfl⟩
      rw [hq] at hdk hms hes hpl
      obtain ⟨X, hX⟩ : ∃ X, mkNs k0 (NL.take k) = X := ⟨_, rfl⟩
      obtain ⟨Y, hY⟩ : ∃ Y, NL.drop (k + 1) = Y := ⟨_, rfl⟩
      obtain ⟨κ, hκ⟩ : ∃ κ, endK k0 (NL.take k) = κ := ⟨_, rfl⟩
      rw [hX] at hxl hms hS
      rw [hY] at hdk
      rw [hκ] at hms hes hbd ⊢
      rw [hdk] at hS
      have HE : Hid (mkNs k0 (NL.take (k + 1)) = X ++ [mkNd κ q] ∧ endK k0 (NL.take (k + 1)) = κ + 1 + 1 + 1 + 1 + 1 + q.1.ps.length ∧ NL.drop (k + 1) = Y ∧ X.length = k) := ⟨hms, hes, hY, hxl⟩
      have hκ0 : 0 ≤ κ := by omega
      have hκ1 : κ ≤ 1000000000000000 := by omega
      have ho := hS.mem (K := kN) (v := .slice p n c) (L := X ++ q :: Y) (by simp [trR])
      obtain ⟨g, rfl⟩ := ow_some ho (by omega)
      obtain ⟨d0, d1, d2, d3, d4, d5⟩ := (OwG.cs ho).nd (k := k) (p := q) (by rw [List.getElem?_append_right (by omega), hxl]; simp)
      have hf := OwG.fz ho
      simp only [Nat.zero_add] at d0 d1 d2 d3 d4 d5
      obtain ⟨e, he⟩ : ∃ e, q.1.ps.length = e := ⟨_, rfl⟩
      have hqn : q.2.n = e := by
        have h1 := OwG.len (hS.mem (K := kI) (v := .slice q.2.p q.2.n q.2.c) (L := q.1.ps) (by rw [tr_split]; simp [Sv.v]))
        omega
      rw [hqn] at d5
      have hS1 : Sg w wr (A ++ rG kN (.slice (some ⟨g, 0, none⟩) n c) (X ++ q :: Y) :: (((X.map fun p => rG kI p.2.v p.1.ps) ++ rG kI q.2.v q.1.ps :: (Y.map fun p => rG kI p.2.v p.1.ps)) ++ Bs)) := by rw [tr_split] at hS; simpa using hS
      have hS2 := Sg.setNdAt hS1 (mkNd κ q).1 (o := k * 6) (by omega)
      have hS3 := (show Sg w _ ((A ++ rG kN (.slice (some ⟨g, 0, none⟩) n c) (X ++ ((mkNd κ q).1, q.2) :: Y) :: (X.map fun p => rG kI p.2.v p.1.ps)) ++ rG kI (.slice q.2.p e q.2.c) q.1.ps :: ((Y.map fun p => rG kI p.2.v p.1.ps) ++ Bs)) from by
        have h := hS2
        unfold Sv.v at h
        rw [hqn] at h
        simpa [Sv.v, hqn] using h)
      have hmk := markInt64S_big q.2.p e q.2.c (κ + 1 + 1 + 1 + 1 + 1) q.1.ps _ _ w _ hS3 (by omega) (by omega) (by omega)
      have HPE : Hid (q.1.ps.length = e ∧ q.2.n = e) := ⟨he, hqn⟩
      clear hS hS1 hS2 hS3 ho hgk hdk htk hms hes hbd hbl hX hY hκ hxl hpl he hqn hkN
      simp only [mkNd, lfK] at hmk
      go_wp2_with (go_at_call 31; refine hmk.mono ?_; rintro ee w1 ⟨rfl, hS4⟩)
      go_roundw
      case rel =>
        refine ⟨k + 1, by omega, by go_num, by rw [HE.out.2.1, HPE.out.1], ?_⟩
        have e1 : mkNs k0 (NL.take (k + 1)) ++ NL.drop (k + 1) = X ++ mkNd κ q :: Y := by rw [HE.out.1, HE.out.2.2.1]; simp
        have e2 : rG kI (mkNd κ q).2.v (mkNd κ q).1.ps = rG kI (.slice q.2.p e q.2.c) (mk1 (κ + 1 + 1 + 1 + 1 + 1) e) := by simp [mkNd, Sv.v, HPE.out.1, HPE.out.2]
        have e3 : mkNd κ q = (⟨⟨κ, κ + 1, κ + 1 + 1, κ + 1 + 1 + 1⟩, (κ + 1 + 1 + 1 + 1) % 3 == 0, mk1 (κ + 1 + 1 + 1 + 1 + 1) e⟩, q.2) := by simp [mkNd, lfK, HPE.out.1]
        rw [e1, tr_split, e2, e3]
        have h := hS4
        simp only [List.append_assoc, List.cons_append] at h ⊢
        rw [HPE.out.1] at h
        exact h
      case measure => simp [intOf]; omega
    · obtain rfl : k = n := by omega
      have e1 : NL.take k = NL := List.take_of_length_le (by rw [HM.out.1]; exact Nat.le_refl _)
      have e2 : NL.drop k = [] := List.drop_eq_nil_of_le (by rw [HM.out.1]; exact Nat.le_refl _)
      rw [e1, e2, List.append_nil] at hS
      rw [e1]
      clear e1 e2
      obtain ⟨z, hz⟩ : ∃ z, endK k0 NL = z := ⟨_, rfl⟩
      have HZ : Hid (endK k0 NL = z) := hz
      rw [hz]
      clear hz
      go_wp2
      go_ret
      exact ⟨by rw [HZ.out]; rfl, hS⟩
set_option maxHeartbeats 1000000 in
theorem markTree_big (p q : Option Addr) (m n c d : Nat) (M : List Mk) (NL : List (Nd × Sv)) (A Bs : List Rw) (w W : World) (hS : Sg w W (A ++ (treeR (.slice p m c) (.slice q n d) M NL ++ Bs))) (hmb : m ≤ 10000000) (hb : n ≤ 10000000) (hps : ∀ x ∈ NL, x.1.ps.length ≤ 10000000) :
    Calls Tryz.prog 30 #[.agg #[.slice p m c, .slice q n d], .int .i64 1] W fun e w' => e = .returned (.int .i64 (endK (1 + 3 * m) NL)) ∧ Sg w w' (A ++ (treeR (.slice p m c) (.slice q n d) (mkM 1 m) (mkNs (1 + 3 * m) NL) ++ Bs)) := by
  have hS0 : Sg w W (A ++ rG kM (.slice p m c) M :: (trR (.slice q n d) NL ++ Bs)) := hS
  have hS1 := hS0.lit kT [(⟨p, m, c⟩, ⟨q, n, d⟩)] 1 rfl (by decide) #[.slice p m c, .slice q n d] rfl
  have HPS : Hid (∀ x ∈ NL, x.1.ps.length ≤ 10000000) := hps
  clear hS hS0 hps
  have hS2 : Sg w (W.alloc (.cells #[.slice p m c, .slice q n d] 28)) ((rG kT (.slice (some ⟨W.heap.size, 0, none⟩) 1 1) [(⟨p, m, c⟩, ⟨q, n, d⟩)] :: A) ++ rG kM (.slice p m c) M :: (trR (.slice q n d) NL ++ Bs)) := hS1
  clear hS1
  go_enter Tryz.func30, Tryz.ntmps30
  go_wp2_with (first
    | (go_at_call 66; refine (markMarkS_any p m c 1 M _ _ w _ hS2 (by omega) (by omega) (by omega)).mono ?_; rintro e w1 ⟨rfl, hS3⟩; obtain ⟨u0, u1, _, ug⟩ := hS3.two (K := kT) (g := W.heap.size) (c := 1) (p := (⟨p, m, c⟩, ⟨q, n, d⟩)) (by simp) rfl; have hS4 : Sg w w1 ((rG kT (.slice (some ⟨W.heap.size, 0, none⟩) 1 1) [(⟨p, m, c⟩, ⟨q, n, d⟩)] :: (A ++ [rG kM (.slice p m c) (mkM 1 m)])) ++ (trR (.slice q n d) NL ++ Bs)) := by simpa using hS3)
    | (go_at_call 67; refine (markNodeS_big q n d (1 + 3 * m) NL _ _ w _ hS4 hb HPS.out (by omega) (by omega)).mono ?_; rintro e w2 ⟨rfl, hS5⟩))
  go_ret
  refine ⟨rfl, ?_⟩
  have h := hS5.sub (rs' := (A ++ [rG kM (.slice p m c) (mkM 1 m)]) ++ (trR (.slice q n d) (mkNs (1 + 3 * m) NL) ++ Bs)) (by simp)
  simpa [treeR] using h
end Go.Proofs.YtipfcmfcdfofmaaGreat
