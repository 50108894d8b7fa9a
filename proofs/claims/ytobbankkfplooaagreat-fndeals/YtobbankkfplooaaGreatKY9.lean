/-
  The law's marks on a Shard, and whether they are held.
-/
import Derived.Test.YtobbankkfplooaaGreatKY6
import Derived.Test.YtobbankkfplooaaGreatKCR
import Derived.Test.YtobbankkfplooaaGreatKCI
namespace Go.Proofs.YtobbankkfplooaaGreat.K.Y
open Go.Shelf Go.RowKit Go.Joins
attribute [local go_sem] Oper.semAt_some

/-- Readies marked from k on, and where the marks end. -/
def mkY : Int → List YQ → List YQ
  | _, [] => []
  | k, y :: t => (⟨k, k + 1, mkRs (k + 2) y.2.n⟩, y.2) :: mkY (k + 2 + 5 * y.2.n) t
def mkE : Int → List YQ → Int
  | k, [] => k
  | k, y :: t => mkE (k + 2 + 5 * y.2.n) t
def ywt (QL : List YQ) : Nat := (QL.map fun y => 1 + y.2.n).sum
theorem mkY_app : ∀ (A B : List YQ) (k : Int), mkY k (A ++ B) = mkY k A ++ mkY (mkE k A) B
  | [], _, _ => rfl
  | a :: t, B, k => by simp only [List.cons_append, mkY, mkE, mkY_app t B]
theorem mkE_app : ∀ (A B : List YQ) (k : Int), mkE k (A ++ B) = mkE (mkE k A) B
  | [], _, _ => rfl
  | a :: t, B, k => by simp only [List.cons_append, mkE, mkE_app t B]
theorem mkY_len : ∀ (A : List YQ) (k : Int), (mkY k A).length = A.length
  | [], _ => rfl
  | a :: t, k => by simp only [mkY, List.length_cons, mkY_len t]
theorem mkE_ge : ∀ (A : List YQ) (k : Int), k ≤ mkE k A
  | [], _ => Int.le_refl _
  | a :: t, k => by have := mkE_ge t (k + 2 + 5 * a.2.n); simp only [mkE]; omega
theorem mkE_le : ∀ (A : List YQ) (k : Int), mkE k A ≤ k + 5 * ywt A
  | [], _ => by simp [mkE, ywt]
  | a :: t, k => by
    have := mkE_le t (k + 2 + 5 * a.2.n)
    have e : ywt (a :: t) = (1 + a.2.n) + ywt t := by simp [ywt]
    rw [e]; simp only [mkE]; omega
theorem ywt_app (A B : List YQ) : ywt (A ++ B) = ywt A + ywt B := by simp [ywt]
theorem mkY_snd : ∀ (A : List YQ) (k : Int), (mkY k A).map (·.2) = A.map (·.2)
  | [], _ => rfl
  | a :: t, k => by simp only [mkY, List.map_cons, mkY_snd t]
theorem mkY_mem : ∀ {A : List YQ} {k : Int} {q : YQ}, q ∈ mkY k A → q.1.L.length = q.2.n ∧ ∃ y ∈ A, y.2 = q.2
  | a :: t, k, q, h => by
    simp only [mkY, List.mem_cons] at h
    rcases h with rfl | h
    · exact ⟨mkRs_len _ _, a, List.mem_cons_self .., rfl⟩
    · obtain ⟨h1, y, hy, e⟩ := mkY_mem h
      exact ⟨h1, y, List.mem_cons_of_mem _ hy, e⟩
theorem Sg.setY2 {w W : World} {A Bs : List Rw} {g n c : Nat} {X Y : List YQ} {t q : Int} {L : List Rc} {s : Sv} (h : Sg w W (A ++ rG kY (.slice (some ⟨g, 0, none⟩) n c) (X ++ (⟨t, q, L⟩, s) :: Y) :: Bs)) (t' q' : Int) {o : Nat} (ho : o = X.length * 3) :
    Sg w ((W.setCell ⟨g, o, none⟩ (.int .i64 t')).setCell ⟨g, o + 1, none⟩ (.int .i64 q')) (A ++ rG kY (.slice (some ⟨g, 0, none⟩) n c) (X ++ (⟨t', q', L⟩, s) :: Y) :: Bs) := by
  have hn := OwG.len (h.mem (K := kY) (v := .slice (some ⟨g, 0, none⟩) n c) (L := X ++ (⟨t, q, L⟩, s) :: Y) (by simp))
  subst hn
  have h1 := (Sg.setRaw h o (.int .i64 t')).setRaw (o + 1) (.int .i64 q')
  have hl : (kY.flat X).length = o := by rw [Kd.flat_len, ho]; rfl
  have e : ∀ q : YQ, kY.flat (X ++ q :: Y) = kY.flat X ++ (kY.vs q ++ kY.flat Y) := fun q => by rw [Kd.flat_append, Kd.flat_cons]
  have e2 : rG kY (.slice (some ⟨g, 0, none⟩) (X ++ (⟨t, q, L⟩, s) :: Y).length c) (X ++ (⟨t', q', L⟩, s) :: Y) = ⟨.slice (some ⟨g, 0, none⟩) (X ++ (⟨t, q, L⟩, s) :: Y).length c, 67, 3, (X ++ (⟨t, q, L⟩, s) :: Y).length, ((kY.flat (X ++ (⟨t, q, L⟩, s) :: Y)).set o (.int .i64 t')).set (o + 1) (.int .i64 q')⟩ := by
    unfold rG
    rw [e, e]
    have s0 : ∀ (zs : List Value) (j : Nat) (u : Value), (kY.flat X ++ zs).set (o + j) u = kY.flat X ++ zs.set j u := fun zs j u => by
      rw [List.set_append_right _ _ (by omega), hl]; congr 2; omega
    have := s0 (kY.vs (⟨t, q, L⟩, s) ++ kY.flat Y) 0 (.int .i64 t')
    rw [Nat.add_zero] at this
    rw [this, s0]
    simp [kY]
  rw [e2]; exact h1
theorem rY_L {v : Value} {X Y : List YQ} {t q : Int} {L L' : List Rc} {s : Sv} : rG kY v (X ++ (⟨t, q, L⟩, s) :: Y) = rG kY v (X ++ (⟨t, q, L'⟩, s) :: Y) := by
  unfold rG
  rw [Kd.flat_append, Kd.flat_cons, Kd.flat_append, Kd.flat_cons]
  simp [kY]
theorem mkY_get {QL : List YQ} {k : Nat} {y : YQ} (k0 : Int) (h : QL[k]? = some y) : (mkY k0 QL)[k]? = some (⟨mkE k0 (QL.take k), mkE k0 (QL.take k) + 1, mkRs (mkE k0 (QL.take k) + 2) y.2.n⟩, y.2) ∧ mkE k0 (QL.take (k + 1)) = mkE k0 (QL.take k) + 2 + 5 * y.2.n := by
  have hk := (List.getElem?_eq_some_iff.1 h).1
  have e : QL = QL.take k ++ y :: QL.drop (k + 1) := by
    have hd : QL.drop k = y :: QL.drop (k + 1) := by
      rw [List.drop_eq_getElem_cons hk]; congr 1; exact (List.getElem?_eq_some_iff.1 h).2
    rw [← hd, List.take_append_drop]
  constructor
  · have h1 : mkY k0 QL = mkY k0 (QL.take k) ++ mkY (mkE k0 (QL.take k)) (y :: QL.drop (k + 1)) := by rw [← mkY_app, ← e]
    rw [h1, List.getElem?_append_right (by rw [mkY_len, List.length_take]; omega), mkY_len, List.length_take, Nat.min_eq_left (by omega), Nat.sub_self]
    rfl
  · rw [List.take_add_one, h, mkE_app]; rfl
set_option maxRecDepth 100000 in
set_option maxHeartbeats 4000000 in
theorem markReadyS_any (p : Option Addr) (n c : Nat) (k0 : Int) (QL : List YQ) (A Bs : List Rw) (w W : World) (hS : Sg w W (A ++ (trY (.slice p n c) QL [] ++ Bs))) (hn : QL.length = n) (hb : n ≤ 1048576) (hbs : ∀ y ∈ QL, y.2.n ≤ 1048576) (hk0 : 1 ≤ k0) (hk1 : k0 + 5 * ywt QL ≤ 100000000) :
    Calls Tryz.prog 60 #[.slice p n c, .int .i64 k0] W fun e w' => e = .returned (.int .i64 (mkE k0 QL)) ∧ Sg w w' (A ++ (trY (.slice p n c) (mkY k0 QL) [] ++ Bs)) := by
  have HN : Hid (QL.length = n ∧ (∀ y ∈ QL, y.2.n ≤ 1048576) ∧ k0 + 5 * ywt QL ≤ 100000000) := ⟨hn, hbs, hk1⟩
  clear hn hbs hk1
  go_enter Tryz.func60, Tryz.ntmps60
  go_wp2
  go_loopw [1, 5] (fun kv i wr => ∃ (k : Nat) (X Z : List YQ) (z : Int), k ≤ n ∧ i = .int .i64 k ∧ kv = .int .i64 z ∧ Hid (QL = X ++ Z ∧ X.length = k ∧ z = mkE k0 X) ∧ Sg w wr (A ++ (trY (.slice p n c) (mkY k0 X ++ Z) [] ++ Bs))) (fun _ i _ => n - (intOf i).toNat)
  case atStart => exact ⟨0, [], QL, k0, by omega, rfl, rfl, ⟨rfl, rfl, rfl⟩, hS⟩
  case round =>
    clear hS
    obtain ⟨k, X, Z, z, hk, rfl, rfl, hK, hS⟩ := hrel
    by_cases hlt : k < n
    · have hki : (k : Int) < n := by omega
      have hZ : ∃ y Z', Z = y :: Z' := by
        cases Z with
        | nil => have h1 := hK.out; have h2 := HN.out.1; rw [h1.1, List.append_nil, h1.2.1] at h2; omega
        | cons y Z' => exact ⟨y, Z', rfl⟩
      obtain ⟨⟨⟨t, q, L⟩, ⟨sp, sn, sc⟩⟩, Z', rfl⟩ := hZ
      have HB : Hid (sn ≤ 1048576 ∧ 1 ≤ z ∧ z + 2 + 5 * sn ≤ 100000000) := by
        have h1 := HN.out.2.1 (⟨t, q, L⟩, ⟨sp, sn, sc⟩) (by rw [hK.out.1]; simp)
        have h2 := HN.out.2.2
        have h3 := mkE_le X k0
        have h4 := mkE_ge X k0
        rw [hK.out.1, ywt_app] at h2
        have h5 : ywt ((⟨t, q, L⟩, ⟨sp, sn, sc⟩) :: Z') = (1 + sn) + ywt Z' := by simp [ywt]
        rw [h5] at h2
        have h6 := hK.out.2.2
        simp only at h1
        exact ⟨h1, by omega, by omega⟩
      have etr : trY (.slice p n c) (mkY k0 X ++ (⟨t, q, L⟩, ⟨sp, sn, sc⟩) :: Z') [] ++ Bs = rG kY (.slice p n c) (mkY k0 X ++ (⟨t, q, L⟩, ⟨sp, sn, sc⟩) :: Z') :: ((mkY k0 X).map yR ++ yR (⟨t, q, L⟩, ⟨sp, sn, sc⟩) :: (Z'.map yR ++ Bs)) := by simp [trY]
      rw [etr] at hS
      have ho := hS.mem (K := kY) (v := .slice p n c) (L := mkY k0 X ++ (⟨t, q, L⟩, ⟨sp, sn, sc⟩) :: Z') (by simp)
      obtain ⟨g, rfl⟩ := ow_some ho (by omega)
      have hf := OwG.fz ho
      have HX : Hid ((mkY k0 X).length = k) := by show (mkY k0 X).length = k; rw [mkY_len, hK.out.2.1]
      obtain ⟨c0, c1, c2⟩ := CsG.y3 (OwG.cs ho) (k := k) (y := (⟨t, q, L⟩, ⟨sp, sn, sc⟩)) (by rw [List.getElem?_append_right (by rw [HX.out]; exact Nat.le_refl _), HX.out]; simp)
      simp only [Nat.zero_add] at c0 c1 c2
      have hS2 := Sg.setY2 (A := A) hS z (z + 1) (o := k * 3) (by rw [HX.out])
      have hS3 : Sg w ((wr.setCell ⟨g, k * 3, none⟩ (.int .i64 z)).setCell ⟨g, k * 3 + 1, none⟩ (.int .i64 (z + 1))) ((A ++ rG kY (.slice (some ⟨g, 0, none⟩) n c) (mkY k0 X ++ (⟨z, z + 1, L⟩, ⟨sp, sn, sc⟩) :: Z') :: (mkY k0 X).map yR) ++ rG I.kR (.slice sp sn sc) L :: (Z'.map yR ++ Bs)) := by
        simpa [yR] using hS2
      have HM := Lib.hid (I.markRecS_any sp sn sc (z + 2) L (A ++ rG kY (.slice (some ⟨g, 0, none⟩) n c) (mkY k0 X ++ (⟨z, z + 1, L⟩, ⟨sp, sn, sc⟩) :: Z') :: (mkY k0 X).map yR) (Z'.map yR ++ Bs) w _ hS3 HB.out.1 (by have := HB.out.2.1; omega) (by have := HB.out.2.2; omega))
      have e2 : z + 1 + 1 = z + 2 := by omega
      have hz1 := HB.out.2.1
      have hz2 : z ≤ 100000000 := by have := HB.out.2.2; omega
      clear ho hS hS2 hS3 etr
      go_wp2_with (go_at_call 84; (try rw [e2]); refine HM.out.mono ?_; rintro e w1 ⟨rfl, h1⟩)
      go_roundw
      case rel =>
        refine ⟨k + 1, X ++ [(⟨t, q, L⟩, ⟨sp, sn, sc⟩)], Z', z + 2 + 5 * sn, by omega, by go_num, rfl, ⟨by rw [hK.out.1]; simp, by simp [hK.out.2.1], by rw [mkE_app, ← hK.out.2.2]; rfl⟩, ?_⟩
        have e5 : mkY k0 (X ++ [(⟨t, q, L⟩, ⟨sp, sn, sc⟩)]) = mkY k0 X ++ [(⟨z, z + 1, mkRs (z + 2) sn⟩, ⟨sp, sn, sc⟩)] := by rw [mkY_app, ← hK.out.2.2]; rfl
        rw [e5]
        rw [rY_L (L' := mkRs (z + 2) sn)] at h1
        simpa [trY, yR] using h1
      case measure => simp [intOf]; omega
    · obtain rfl : n = k := by omega
      have hZ : Z = [] := by
        have h1 := hK.out; have h2 := HN.out.1
        rw [h1.1, List.length_append, h1.2.1] at h2
        exact List.eq_nil_of_length_eq_zero (by omega)
      subst hZ
      have HE : Hid (QL = X ∧ z = mkE k0 X) := ⟨by rw [hK.out.1, List.append_nil], hK.out.2.2⟩
      rw [List.append_nil] at hS
      clear hK
      go_wp2
      go_ret
      exact ⟨ret_i64 (by rw [HE.out.1]; exact HE.out.2), by rw [HE.out.1]; exact hS⟩
set_option maxRecDepth 100000 in
set_option maxHeartbeats 4000000 in
theorem heldReadyS_any (p : Option Addr) (c : Nat) (k0 : Int) (QL : List YQ) (n : Nat) (w : World) (hL : RdY w p (mkY k0 QL)) (hn : QL.length = n) (hb : n ≤ 1048576) (hbs : ∀ y ∈ QL, y.2.n ≤ 1048576) (hk0 : 1 ≤ k0) (hk1 : k0 + 5 * ywt QL ≤ 100000000) :
    Calls Tryz.prog 62 #[.slice p n c, .int .i64 k0] w fun e w' => e = .returned (.int .i64 (mkE k0 QL)) ∧ Below w.heap.size w w' := by
  have HN : Hid (QL.length = n ∧ (∀ y ∈ QL, y.2.n ≤ 1048576) ∧ k0 + 5 * ywt QL ≤ 100000000 ∧ RdY w p (mkY k0 QL)) := ⟨hn, hbs, hk1, hL⟩
  clear hn hbs hk1 hL
  go_enter Tryz.func62, Tryz.ntmps62
  go_wp2
  go_loopw [1, 5] (fun kv i wr => ∃ (k : Nat) (z : Int), k ≤ n ∧ i = .int .i64 k ∧ kv = .int .i64 z ∧ Hid (z = mkE k0 (QL.take k)) ∧ Below w.heap.size w wr) (fun _ i _ => n - (intOf i).toNat)
  case atStart => exact ⟨0, k0, by omega, rfl, rfl, rfl, Below.refl _ _⟩
  case round =>
    obtain ⟨k, z, hk, rfl, rfl, hK, hb0⟩ := hrel
    by_cases hlt : k < n
    · have hki : (k : Int) < n := by omega
      have hkQ : k < QL.length := by rw [HN.out.1]; exact hlt
      have hg := getY hkQ
      obtain ⟨hg1, hg2⟩ := mkY_get k0 hg
      have hbd := HN.out.2.1 _ (List.mem_of_getElem? hg)
      have HB : Hid (1 ≤ z ∧ z + 2 + 5 * (QL.getD k zyq).2.n ≤ 100000000) := by
        have h2 := HN.out.2.2.1
        have h3 := mkE_le (QL.take (k + 1)) k0
        have h4 := mkE_ge (QL.take k) k0
        have h5 : ywt QL = ywt (QL.take (k + 1)) + ywt (QL.drop (k + 1)) := by rw [← ywt_app, List.take_append_drop]
        rw [hg2, ← hK.out] at h3
        rw [← hK.out] at h4
        exact ⟨by omega, by omega⟩
      rw [← hK.out] at hg1 hg2
      obtain ⟨⟨y1, ⟨sp, sn, sc⟩⟩, hx⟩ : ∃ x : YQ, QL.getD k zyq = x := ⟨_, rfl⟩
      rw [hx] at hg1 hg2 hbd HB
      simp only at hg1 hg2 hbd HB
      have hkM : k < (mkY k0 QL).length := by rw [mkY_len]; exact hkQ
      obtain ⟨g, off, rfl, hC⟩ := (HN.out.2.2.2.1.step hb0).at hkM
      obtain ⟨c0, c1, c2⟩ := CsG.y3 hC hg1
      have hr := HN.out.2.2.2.2 _ (List.mem_of_getElem? hg1)
      simp only at c0 c1 c2
      have HM := Lib.hid (fun W (hbb : Below w.heap.size w W) => I.heldRecS_any sp sc (z + 2) sn W (hr.1.step hbb) hbd (by have := HB.out.1; omega) (by have := HB.out.2; omega))
      have HG := Lib.hid hg2
      have hz1 := HB.out.1
      have hz2 : z + 2 + 5 * (sn : Int) ≤ 100000000 := HB.out.2
      have e2 : z + 1 + 1 = z + 2 := by omega
      have nn : ¬ z + 2 + 5 * (sn : Int) < 0 := by omega
      clear hC hkM hkQ hg hg1 hg2 hbd hr hx
      go_wp2_with (go_at_call 85; (try rw [e2]); refine (HM.out _ hb0).mono ?_; rintro e w1 ⟨rfl, h1⟩)
      go_roundw
      case rel => exact ⟨k + 1, z + 2 + 5 * sn, by omega, by go_num, rfl, HG.out.symm, bstep hb0 h1 (Nat.le_refl _)⟩
      case measure => simp [intOf]; omega
    · obtain rfl : n = k := by omega
      go_wp2
      go_ret
      refine ⟨ret_i64 ?_, hb0⟩
      rw [hK.out, List.take_of_length_le (by rw [HN.out.1]; exact Nat.le_refl _)]
end Go.Proofs.YtobbankkfplooaaGreat.K.Y
