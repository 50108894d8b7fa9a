/-
  The law's marks and looks: Clauses, lists of Clauses, Papers.
-/
import Derived.Test.YtkinbgcnenieeaaV1
namespace Go.Proofs.Ytkinbgcnenieeaa
open Go.Shelf Go.RowKit Go.Joins M
attribute [local go_sem] Oper.semAt_some

/-- Both lists of a Clause are marked. -/
theorem mark2_any (c : Cl) (s t : Sv) (k0 : Int) (A Bs : List Rw) (w : World) (h1 : s.n ≤ 1100000) (h2 : t.n ≤ 1100000) (hk0 : 0 ≤ k0) (hk1 : k0 ≤ 90000000) :
    (∀ W, Sg w W (A ++ rG kC s.v c.rd :: rG kC t.v c.wr :: Bs) → Calls Try.prog 15 #[.slice s.p s.n s.c, .int .i64 k0] W fun e w' => e = .returned (.int .i64 (k0 + 3 * s.n)) ∧ Sg w w' (A ++ rG kC s.v (mkC k0 s.n) :: rG kC t.v c.wr :: Bs)) ∧
    (∀ W, Sg w W (A ++ rG kC s.v (mkC k0 s.n) :: rG kC t.v c.wr :: Bs) → Calls Try.prog 15 #[.slice t.p t.n t.c, .int .i64 (k0 + 3 * s.n)] W fun e w' => e = .returned (.int .i64 (k0 + 3 * s.n + 3 * t.n)) ∧ Sg w w' (A ++ rG kC s.v (mkC k0 s.n) :: rG kC t.v (mkC (k0 + 3 * s.n) t.n) :: Bs)) := by
  refine ⟨fun W h => markCellS_any s.p s.n s.c k0 c.rd A (rG kC t.v c.wr :: Bs) w W h (by omega) hk0 (by omega), fun W h => ?_⟩
  have h' : Sg w W ((A ++ [rG kC s.v (mkC k0 s.n)]) ++ rG kC t.v c.wr :: Bs) := by rw [List.append_assoc]; exact h
  refine (markCellS_any t.p t.n t.c (k0 + 3 * s.n) c.wr (A ++ [rG kC s.v (mkC k0 s.n)]) Bs w W h' (by omega) (by omega) (by omega)).mono ?_
  rintro e w' ⟨he, hs⟩
  exact ⟨he, by rw [List.append_assoc] at hs; exact hs⟩
/-- A Clause that is marked: every number its own. -/
def mkQ (k : Int) (q : CQ) : CQ := (⟨mkC k q.2.1.n, mkC (k + 3 * q.2.1.n) q.2.2.n, k + 3 * q.2.1.n + 3 * q.2.2.n⟩, q.2)
def nxQ (k : Int) (q : CQ) : Int := k + 3 * q.2.1.n + 3 * q.2.2.n + 1
def mkQs (k : Int) : List CQ → List CQ
  | [] => []
  | q :: t => mkQ k q :: mkQs (nxQ k q) t
def endQ (k : Int) : List CQ → Int
  | [] => k
  | q :: t => endQ (nxQ k q) t
theorem mkQs_len : ∀ (k : Int) (L : List CQ), (mkQs k L).length = L.length
  | _, [] => rfl
  | k, q :: t => by simp [mkQs, mkQs_len _ t]
theorem mkQs_snoc : ∀ (k : Int) (X : List CQ) (q : CQ), mkQs k (X ++ [q]) = mkQs k X ++ [mkQ (endQ k X) q]
  | _, [], _ => rfl
  | k, p :: t, q => by simp [mkQs, endQ, mkQs_snoc _ t q]
theorem endQ_snoc : ∀ (k : Int) (X : List CQ) (q : CQ), endQ k (X ++ [q]) = nxQ (endQ k X) q
  | _, [], _ => rfl
  | k, p :: t, q => by simp only [List.cons_append, endQ]; exact endQ_snoc _ t q
theorem mkQs_at : ∀ (k : Int) (L : List CQ) (i : Nat) (q : CQ), L[i]? = some q → (mkQs k L)[i]? = some (mkQ (endQ k (L.take i)) q)
  | _, [], i, p, h => by simp at h
  | k, q :: t, 0, p, h => by simp at h; subst h; rfl
  | k, q :: t, i + 1, p, h => by
    simp only [mkQs, List.getElem?_cons_succ, List.take_succ_cons, endQ] at h ⊢
    exact mkQs_at _ t i p h
theorem endQ_bd : ∀ (k : Int) (X : List CQ), sm6 X → k ≤ endQ k X ∧ endQ k X ≤ k + 6600001 * X.length
  | k, [], _ => by simp [endQ]
  | k, q :: t, h => by
    have h1 := h q (List.mem_cons_self ..)
    have := endQ_bd (nxQ k q) t fun x hx => h x (List.mem_cons_of_mem _ hx)
    simp only [endQ, List.length_cons, nxQ] at *; omega
theorem Sg.setQun {w W : World} {A Bs : List Rw} {g n c : Nat} {X Y : List CQ} {p : CQ} (h : Sg w W (A ++ rG kQ (.slice (some ⟨g, 0, none⟩) n c) (X ++ p :: Y) :: Bs)) (d : Cl) {o : Nat} (ho : o = X.length * 3 + 2) :
    Sg w (W.setCell ⟨g, o, none⟩ (.int .i64 d.un)) (A ++ rG kQ (.slice (some ⟨g, 0, none⟩) n c) (X ++ (d, p.2) :: Y) :: Bs) := by
  have hn := OwG.len (h.mem (K := kQ) (v := .slice (some ⟨g, 0, none⟩) n c) (L := X ++ p :: Y) (by simp))
  subst hn
  have h1 := Sg.setRaw h o (.int .i64 d.un)
  have hl : (kQ.flat X).length = X.length * 3 := by rw [Kd.flat_len]; rfl
  have e : ∀ q : CQ, kQ.flat (X ++ q :: Y) = kQ.flat X ++ (kQ.vs q ++ kQ.flat Y) := fun q => by rw [Kd.flat_append, Kd.flat_cons]
  have e2 : rG kQ (.slice (some ⟨g, 0, none⟩) (X ++ p :: Y).length c) (X ++ (d, p.2) :: Y) = ⟨.slice (some ⟨g, 0, none⟩) (X ++ p :: Y).length c, 48, 3, (X ++ p :: Y).length, (kQ.flat (X ++ p :: Y)).set o (.int .i64 d.un)⟩ := by
    unfold rG
    rw [e, e, List.set_append_right _ _ (by omega), hl]
    have : o - X.length * 3 = 2 := by omega
    rw [this]
    simp [kQ]
  rw [e2]; exact h1
theorem trX_split {v : Value} {X Y : List CQ} {q : CQ} : trX v (X ++ q :: Y) [] = rG kQ v (X ++ q :: Y) :: ((X.flatMap fun q => clR q.1 q.2.1 q.2.2) ++ rG kC q.2.1.v q.1.rd :: rG kC q.2.2.v q.1.wr :: (Y.flatMap fun q => clR q.1 q.2.1 q.2.2)) := by unfold trX clR; simp
set_option maxRecDepth 100000 in
set_option maxHeartbeats 4000000 in
theorem markClauseS_any (p : Option Addr) (n c : Nat) (k0 : Int) (QL : List CQ) (A Bs : List Rw) (w W : World) (hS : Sg w W (A ++ (trX (.slice p n c) QL [] ++ Bs))) (hb : n ≤ 10) (h6 : sm6 QL) (hk0 : 0 ≤ k0) (hk1 : k0 ≤ 20000000) :
    Calls Try.prog 32 #[.slice p n c, .int .i64 k0] W fun e w' => e = .returned (.int .i64 (endQ k0 QL)) ∧ Sg w w' (A ++ (trX (.slice p n c) (mkQs k0 QL) [] ++ Bs)) := by
  have HM : Hid (QL.length = n ∧ sm6 QL) := ⟨(OwG.len (hS.mem (K := kQ) (v := .slice p n c) (L := QL) (by simp [trX]))).symm, h6⟩
  clear h6
  go_enter Try.func32, Try.ntmps32
  go_wp2
  go_loopw [1, 5] (fun kv i wr => ∃ k : Nat, k ≤ n ∧ i = .int .i64 k ∧ kv = .int .i64 (endQ k0 (QL.take k)) ∧ Sg w wr (A ++ (trX (.slice p n c) (mkQs k0 (QL.take k) ++ QL.drop k) [] ++ Bs))) (fun _ i _ => n - (intOf i).toNat)
  case atStart => exact ⟨0, by omega, rfl, rfl, by simpa [mkQs] using hS⟩
  case round =>
    clear hS
    obtain ⟨k, hk, rfl, rfl, hS⟩ := hrel
    by_cases hlt : k < n
    · have hki : (k : Int) < n := by omega
      have hkN : k < QL.length := by rw [HM.out.1]; exact hlt
      have hgk := getQ hkN
      have hdk : QL.drop k = QL.getD k zq :: QL.drop (k + 1) := by rw [List.drop_eq_getElem_cons hkN]; simp [List.getD, hkN]
      have htk := take_getQ hkN
      have hxl : (mkQs k0 (QL.take k)).length = k := by rw [mkQs_len]; simp; omega
      have hbd := endQ_bd k0 (QL.take k) fun x hx => HM.out.2 x (List.mem_of_mem_take hx)
      have hpl := HM.out.2 _ (List.mem_of_getElem? hgk)
      have hms := mkQs_snoc k0 (QL.take k) (QL.getD k zq)
      have hes := endQ_snoc k0 (QL.take k) (QL.getD k zq)
      rw [← htk] at hms hes
      have hbl : ((QL.take k).length : Int) ≤ 10 := by simp; omega
      obtain ⟨⟨cc, s, t⟩, hq⟩ : ∃ q : CQ, QL.getD k zq = q := ⟨_, rfl⟩
      rw [hq] at hdk hms hes hpl
      obtain ⟨X, hX⟩ : ∃ X, mkQs k0 (QL.take k) = X := ⟨_, rfl⟩
      obtain ⟨Y, hY⟩ : ∃ Y, QL.drop (k + 1) = Y := ⟨_, rfl⟩
      obtain ⟨κ, hκ⟩ : ∃ κ, endQ k0 (QL.take k) = κ := ⟨_, rfl⟩
      rw [hX] at hxl hms hS
      rw [hY] at hdk
      rw [hκ] at hms hes hbd ⊢
      rw [hdk] at hS
      simp only at hpl
      have hκ0 : 0 ≤ κ := by omega
      have hκ1 : κ ≤ 90000000 := by omega
      rw [trX_split] at hS
      simp only at hS
      have hS1 : Sg w wr ((A ++ rG kQ (.slice p n c) (X ++ (cc, s, t) :: Y) :: (X.flatMap fun q => clR q.1 q.2.1 q.2.2)) ++ rG kC s.v cc.rd :: rG kC t.v cc.wr :: ((Y.flatMap fun q => clR q.1 q.2.1 q.2.2) ++ Bs)) := by simpa using hS
      obtain ⟨m1, m2⟩ := mark2_any cc s t κ (A ++ rG kQ (.slice p n c) (X ++ (cc, s, t) :: Y) :: (X.flatMap fun q => clR q.1 q.2.1 q.2.2)) ((Y.flatMap fun q => clR q.1 q.2.1 q.2.2) ++ Bs) w hpl.1 hpl.2 hκ0 hκ1
      have ho := hS1.mem (K := kQ) (v := .slice p n c) (L := X ++ (cc, s, t) :: Y) (by simp)
      obtain ⟨g, rfl⟩ := ow_some ho (by omega)
      obtain ⟨d0, d1, d2⟩ := (OwG.cs ho).q3 (k := k) (q := (cc, s, t)) (by rw [List.getElem?_append_right (by omega), hxl]; simp)
      simp only [Nat.zero_add] at d0 d1 d2
      have HX : Hid (X.length = k ∧ mkQs k0 (QL.take (k + 1)) = X ++ [mkQ κ (cc, s, t)] ∧ endQ k0 (QL.take (k + 1)) = κ + 3 * s.n + 3 * t.n + 1 ∧ QL.drop (k + 1) = Y) := ⟨hxl, hms, hes, hY⟩
      have HD : Hid (∀ W' rs, Sg w W' rs → rG kQ (.slice (some ⟨g, 0, none⟩) n c) (X ++ (cc, s, t) :: Y) ∈ rs → (W'.cell? ⟨g, k * 3, none⟩ = some (.slice s.p s.n s.c) ∧ W'.cell? ⟨g, k * 3 + 1, none⟩ = some (.slice t.p t.n t.c) ∧ W'.cell? ⟨g, k * 3 + 2, none⟩ = some (.int .i64 cc.un)) ∧ ∀ j, W'.frozen? ⟨g, j, none⟩ = false) := fun W' rs h hm => by
        have ho := h.mem (K := kQ) (v := .slice (some ⟨g, 0, none⟩) n c) (L := X ++ (cc, s, t) :: Y) hm
        obtain ⟨d0, d1, d2⟩ := (OwG.cs ho).q3 (k := k) (q := (cc, s, t)) (by rw [List.getElem?_append_right (by omega), hxl]; simp)
        simp only [Nat.zero_add] at d0 d1 d2
        exact ⟨⟨d0, d1, d2⟩, OwG.fz ho⟩
      have HM1 := Lib.hid m1
      have HM2 := Lib.hid m2
      have HSM : Hid (s.n ≤ 1100000 ∧ t.n ≤ 1100000) := hpl
      clear hS ho hgk hdk htk hms hes hbd hbl hX hY hκ hxl hpl hkN m1 m2 hq
      have f0 : True := trivial
      go_wp2_with (first
        | (go_at_call 15; clear f0; refine (HM1.out _ hS1).mono ?_; rintro e w1 ⟨rfl, hS2⟩; clear d0 d1 d2; obtain ⟨⟨d0, d1, d2⟩, df⟩ := HD.out _ _ hS2 (by simp))
        | (go_at_call 15; refine (HM2.out _ hS2).mono ?_; rintro e w2 ⟨rfl, hS3⟩; clear d0 d1 d2 df; obtain ⟨⟨d0, d1, d2⟩, df⟩ := HD.out _ _ hS3 (by simp)))
      have hS4 := Sg.setQun (A := A) (g := g) (n := n) (c := c) (X := X) (Y := Y) (p := (cc, s, t)) (by simpa using hS3) (mkQ κ (cc, s, t)).1 (o := k * 3 + 2) (by rw [HX.out.1])
      go_roundw
      case rel =>
        refine ⟨k + 1, by omega, by go_num, by (rw [HX.out.2.2.1]; have hs1 := HSM.out; obtain ⟨ha, hb⟩ := hs1; congr 1; unfold wrap64; omega), ?_⟩
        have e1 : mkQs k0 (QL.take (k + 1)) ++ QL.drop (k + 1) = X ++ mkQ κ (cc, s, t) :: Y := by rw [HX.out.2.1, HX.out.2.2.2]; simp
        rw [e1, trX_split]
        have h := hS4
        simp only [mkQ, List.append_assoc, List.cons_append] at h ⊢
        exact h
      case measure => simp [intOf]; omega
    · obtain rfl : k = n := by omega
      have e1 : QL.take k = QL := List.take_of_length_le (by rw [HM.out.1]; exact Nat.le_refl _)
      have e2 : QL.drop k = [] := List.drop_eq_nil_of_le (by rw [HM.out.1]; exact Nat.le_refl _)
      rw [e1, e2, List.append_nil] at hS
      rw [e1]
      clear e1 e2
      obtain ⟨z, hz⟩ : ∃ z, endQ k0 QL = z := ⟨_, rfl⟩
      have HZ : Hid (endQ k0 QL = z) := hz
      rw [hz]
      clear hz
      go_wp2
      go_ret
      exact ⟨by rw [HZ.out]; rfl, hS⟩
end Go.Proofs.Ytkinbgcnenieeaa
