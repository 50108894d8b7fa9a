/-
  The law's sizes and marks of Papers of any length.
-/
import Derived.Test.YtkinbgcnenieeaaV3
namespace Go.Proofs.Ytkinbgcnenieeaa
open Go.Shelf Go.RowKit Go.Joins M
attribute [local go_sem] Oper.semAt_some

def szT (X : List CQ) : Nat := (X.map fun q => q.2.1.n + q.2.2.n).sum
theorem szT_snoc (X : List CQ) (q : CQ) : szT (X ++ [q]) = szT X + (q.2.1.n + q.2.2.n) := by unfold szT; simp
set_option maxRecDepth 100000 in
set_option maxHeartbeats 2000000 in
theorem szClauseS_sum (p : Option Addr) (n cap : Nat) (QL : List CQ) (hn : QL.length = n) (hm : n ≤ maxLen) (z : Int) (h0 : 0 ≤ z) (h1 : z ≤ 1048576) (w : World) (hN : SlG kLQ w p QL) (hp : ∀ q ∈ QL, q.2.1.n ≤ maxLen ∧ q.2.2.n ≤ maxLen) :
    Calls Try.prog 17 #[.slice p n cap, .int .i64 z] w fun e w' => ∃ r, e = .returned (.int .i64 r) ∧ (r < 0 ∨ (0 ≤ r ∧ r + n + szT QL = z)) ∧ Below w.heap.size w w' := by
  have hm' := hm
  unfold maxLen at hm'
  by_cases hzn : z < n
  · have h2 : z - (n : Int) < 0 := by omega
    clear hm
    go_enter Try.func17, Try.ntmps17
    go_wp2
    go_ret
    exact ⟨-1, rfl, .inl (by omega), Below.refl _ _⟩
  · have h2 : ¬ z - (n : Int) < 0 := by omega
    have hn1 : n ≤ 1048576 := by omega
    have HH : Hid (QL.length = n ∧ SlG kLQ w p QL ∧ ∀ q ∈ QL, q.2.1.n ≤ maxLen ∧ q.2.2.n ≤ maxLen) := ⟨hn, hN, hp⟩
    clear hn hN hp hm hm'
    go_enter Try.func17, Try.ntmps17
    go_wp2
    go_loopw [1, 5] (fun zv iv wr => ∃ (k : Nat) (y : Int), k ≤ n ∧ iv = .int .i64 k ∧ zv = .int .i64 y ∧ 0 ≤ y ∧ y ≤ 1048576 ∧ Hid (y + n + szT (QL.take k) = z) ∧ Below w.heap.size w wr) (fun _ iv _ => n - (intOf iv).toNat)
    case atStart => exact ⟨0, z - n, by omega, rfl, rfl, by omega, by omega, (show z - n + n + (szT (QL.take 0) : Int) = z by simp [szT]), Below.refl _ _⟩
    case round =>
      obtain ⟨k, y, hk, rfl, rfl, hy0, hy1, hA, hb⟩ := hrel
      by_cases hlt : k < n
      · have hki : (k : Int) < n := by omega
        have hkL : k < QL.length := by rw [HH.out.1]; exact hlt
        obtain ⟨g, off, rfl, hC⟩ := (HH.out.2.1.step hb).at hkL
        obtain ⟨c0, c1, c2⟩ := hC.qL (getQ hkL)
        have hml := HH.out.2.2 _ (List.mem_of_getElem? (getQ hkL))
        have htk := take_getQ hkL
        obtain ⟨⟨c, s, t⟩, hx⟩ : ∃ x : CQ, QL.getD k zq = x := ⟨_, rfl⟩
        rw [hx] at c0 c1 c2 hml htk
        simp only at c0 c1 c2 hml
        have HS : Hid (∀ W, Calls Try.prog 33 #[.agg #[.slice s.p s.n s.c, .slice t.p t.n t.c, .int .i64 c.un], .int .i64 y] W fun e w' => ∃ r, e = .returned (.int .i64 r) ∧ szR y (s.n + t.n) r ∧ Below W.heap.size W w') := fun W => szClause_any s t c.un y hy0 hy1 hml.1 hml.2 W
        have HTK := Lib.hid htk
        clear hC hkL hml hx htk
        by_cases hye : y < (s.n + t.n : Nat)
        · go_wp2_with (go_at_call 33; refine (HS.out _).mono ?_; rintro ee w1 ⟨r, rfl, hr, hb2⟩; obtain rfl : r = -1 := by (rcases hr with hr | hr; exact hr.1; omega))
          go_ret
          exact ⟨-1, rfl, .inl (by omega), bstep hb hb2 (Nat.le_refl _)⟩
        · obtain ⟨y2, hy2⟩ : ∃ y2 : Int, y - (s.n + t.n : Nat) = y2 := ⟨_, rfl⟩
          have h3 : ¬ y2 < 0 := by omega
          have h4 : y2 ≤ 1048576 := by omega
          have HSM : Hid (y2 + n + szT (QL.take (k + 1)) = z) := by
            show y2 + n + (szT (QL.take (k + 1)) : Int) = z
            have h := hA.out
            rw [HTK.out, szT_snoc]
            show y2 + n + ((szT (QL.take k) + (s.n + t.n) : Nat) : Int) = z
            omega
          have HS2 : Hid (∀ W, Calls Try.prog 33 #[.agg #[.slice s.p s.n s.c, .slice t.p t.n t.c, .int .i64 c.un], .int .i64 y] W fun e w' => e = .returned (.int .i64 y2) ∧ Below W.heap.size W w') := fun W => (HS.out W).mono (by
            rintro e w1 ⟨r, rfl, hr, hb2⟩
            refine ⟨?_, hb2⟩
            rcases hr with hr | hr
            · omega
            · rw [hr.1, hy2])
          clear HS hy2 hye
          go_wp2_with (go_at_call 33; refine (HS2.out _).mono ?_; rintro ee w1 ⟨rfl, hb2⟩)
          go_roundw
          case rel =>
            refine ⟨k + 1, y2, by omega, by go_num, rfl, by omega, h4, HSM, bstep hb hb2 (Nat.le_refl _)⟩
          case measure => simp [intOf]; omega
      · obtain rfl : k = n := by omega
        have HF : Hid (y + k + szT QL = z) := by have h := hA.out; rw [List.take_of_length_le (by rw [HH.out.1]; exact Nat.le_refl _)] at h; exact h
        go_wp2
        go_ret
        exact ⟨y, rfl, .inr ⟨hy0, HF.out⟩, hb⟩

set_option maxHeartbeats 2000000 in
theorem szPaper_sum (p : Option Addr) (n cap : Nat) (tn tag : Int) (QL : List CQ) (hn : QL.length = n) (hm : n ≤ maxLen) (z : Int) (h0 : 0 ≤ z) (h1 : z ≤ 1048576) (w : World) (hN : SlG kLQ w p QL) (hp : ∀ q ∈ QL, q.2.1.n ≤ maxLen ∧ q.2.2.n ≤ maxLen) :
    Calls Try.prog 5 #[.agg #[.int .i64 tn, .slice p n cap, .int .i64 tag], .int .i64 z] w fun e w' => ∃ r, e = .returned (.int .i64 r) ∧ (r < 0 ∨ (0 ≤ r ∧ r + n + szT QL = z)) ∧ Below w.heap.size w w' := by
  have hb1 := below_alloc1 w (.cells #[.int .i64 tn, .slice p n cap, .int .i64 tag] 24)
  have HZ := szClauseS_sum p n cap QL hn hm z h0 h1 _ (hN.step hb1) hp
  clear hn hm hN hp
  go_enter Try.func5, Try.ntmps5
  go_upto_region 2 with (go_at_call 17; refine HZ.mono ?_; rintro e w2 ⟨r, rfl, hr, hb2⟩)
  by_cases hneg : r < 0
  · go_wp2
    go_ret
    exact ⟨-1, rfl, .inl (by omega), ba1 hb2⟩
  · have HR := Lib.hid hr
    clear hr
    go_wp2
    go_ret
    exact ⟨r, rfl, HR.out, ba1 hb2⟩

theorem endQ_val : ∀ (k : Int) (X : List CQ), endQ k X = k + 3 * (szT X : Int) + X.length
  | k, [] => by simp [endQ, szT]
  | k, q :: X => by
    have h := endQ_val (nxQ k q) X
    have e : szT (q :: X) = (q.2.1.n + q.2.2.n) + szT X := by unfold szT; simp
    show endQ (nxQ k q) X = _
    rw [h, e]
    simp only [nxQ, List.length_cons]
    omega
theorem szT_take (X : List CQ) (k : Nat) : szT (X.take k) ≤ szT X := by
  have h : szT X = szT (X.take k) + szT (X.drop k) := by
    conv => lhs; rw [← List.take_append_drop k X]
    unfold szT; rw [List.map_append, List.sum_append]
  omega
theorem szT_mem : ∀ {X : List CQ} {q : CQ}, q ∈ X → q.2.1.n + q.2.2.n ≤ szT X
  | p :: X, q, h => by
    have e : szT (p :: X) = (p.2.1.n + p.2.2.n) + szT X := by unfold szT; simp
    rcases List.mem_cons.mp h with rfl | h
    · omega
    · have := szT_mem h; omega
set_option maxRecDepth 100000 in
set_option maxHeartbeats 4000000 in
theorem markClauseS_sum (p : Option Addr) (n c : Nat) (k0 : Int) (QL : List CQ) (A Bs : List Rw) (w W : World) (hS : Sg w W (A ++ (trX (.slice p n c) QL [] ++ Bs))) (hb : n ≤ 1048576) (h6 : sm6 QL) (hk0 : 0 ≤ k0) (hE : ∀ k, endQ k0 (QL.take k) ≤ 90000000) :
    Calls Try.prog 32 #[.slice p n c, .int .i64 k0] W fun e w' => e = .returned (.int .i64 (endQ k0 QL)) ∧ Sg w w' (A ++ (trX (.slice p n c) (mkQs k0 QL) [] ++ Bs)) := by
  have HM : Hid (QL.length = n ∧ sm6 QL) := ⟨(OwG.len (hS.mem (K := kQ) (v := .slice p n c) (L := QL) (by simp [trX]))).symm, h6⟩
  clear h6
  go_enter Try.func32, Try.ntmps32
  go_wp2
  go_loopw [1, 5] (fun kv i wr => ∃ k : Nat, k ≤ n ∧ i = .int .i64 k ∧ kv = .int .i64 (endQ k0 (QL.take k)) ∧ Sg w wr (A ++ (trX (.slice p n c) (mkQs k0 (QL.take k) ++ QL.drop k) [] ++ Bs))) (fun _ i _ => n - (intOf i).toNat)
  case atStart => exact ⟨0, by omega, rfl, rfl, by simpa [mkQs] using hS⟩
  case round =>
    clear hS
    obtain ⟨k, hk, rfl, rfl, hS⟩ := hrel
    by_cases hlt : k < n
    · have hki : (k : Int) < n := by omega
      have hkN : k < QL.length := by rw [HM.out.1]; exact hlt
      have hgk := getQ hkN
      have hdk : QL.drop k = QL.getD k zq :: QL.drop (k + 1) := by rw [List.drop_eq_getElem_cons hkN]; simp [List.getD, hkN]
      have htk := take_getQ hkN
      have hxl : (mkQs k0 (QL.take k)).length = k := by rw [mkQs_len]; simp; omega
      have hbd := endQ_bd k0 (QL.take k) fun x hx => HM.out.2 x (List.mem_of_mem_take hx)
      have hpl := HM.out.2 _ (List.mem_of_getElem? hgk)
      have hms := mkQs_snoc k0 (QL.take k) (QL.getD k zq)
      have hes := endQ_snoc k0 (QL.take k) (QL.getD k zq)
      rw [← htk] at hms hes
      have hbl := hE k
      obtain ⟨⟨cc, s, t⟩, hq⟩ : ∃ q : CQ, QL.getD k zq = q := ⟨_, rfl⟩
      rw [hq] at hdk hms hes hpl
      obtain ⟨X, hX⟩ : ∃ X, mkQs k0 (QL.take k) = X := ⟨_, rfl⟩
      obtain ⟨Y, hY⟩ : ∃ Y, QL.drop (k + 1) = Y := ⟨_, rfl⟩
      obtain ⟨κ, hκ⟩ : ∃ κ, endQ k0 (QL.take k) = κ := ⟨_, rfl⟩
      rw [hX] at hxl hms hS
      rw [hY] at hdk
      rw [hκ] at hms hes hbd hbl ⊢
      rw [hdk] at hS
      simp only at hpl
      have hκ0 : 0 ≤ κ := by omega
      have hκ1 : κ ≤ 90000000 := by omega
      rw [trX_split] at hS
      simp only at hS
      have hS1 : Sg w wr ((A ++ rG kQ (.slice p n c) (X ++ (cc, s, t) :: Y) :: (X.flatMap fun q => clR q.1 q.2.1 q.2.2)) ++ rG kC s.v cc.rd :: rG kC t.v cc.wr :: ((Y.flatMap fun q => clR q.1 q.2.1 q.2.2) ++ Bs)) := by simpa using hS
      obtain ⟨m1, m2⟩ := mark2_any cc s t κ (A ++ rG kQ (.slice p n c) (X ++ (cc, s, t) :: Y) :: (X.flatMap fun q => clR q.1 q.2.1 q.2.2)) ((Y.flatMap fun q => clR q.1 q.2.1 q.2.2) ++ Bs) w hpl.1 hpl.2 hκ0 hκ1
      have ho := hS1.mem (K := kQ) (v := .slice p n c) (L := X ++ (cc, s, t) :: Y) (by simp)
      obtain ⟨g, rfl⟩ := ow_some ho (by omega)
      obtain ⟨d0, d1, d2⟩ := (OwG.cs ho).q3 (k := k) (q := (cc, s, t)) (by rw [List.getElem?_append_right (by omega), hxl]; simp)
      simp only [Nat.zero_add] at d0 d1 d2
      have HX : Hid (X.length = k ∧ mkQs k0 (QL.take (k + 1)) = X ++ [mkQ κ (cc, s, t)] ∧ endQ k0 (QL.take (k + 1)) = κ + 3 * s.n + 3 * t.n + 1 ∧ QL.drop (k + 1) = Y) := ⟨hxl, hms, hes, hY⟩
      have HD : Hid (∀ W' rs, Sg w W' rs → rG kQ (.slice (some ⟨g, 0, none⟩) n c) (X ++ (cc, s, t) :: Y) ∈ rs → (W'.cell? ⟨g, k * 3, none⟩ = some (.slice s.p s.n s.c) ∧ W'.cell? ⟨g, k * 3 + 1, none⟩ = some (.slice t.p t.n t.c) ∧ W'.cell? ⟨g, k * 3 + 2, none⟩ = some (.int .i64 cc.un)) ∧ ∀ j, W'.frozen? ⟨g, j, none⟩ = false) := fun W' rs h hm => by
        have ho := h.mem (K := kQ) (v := .slice (some ⟨g, 0, none⟩) n c) (L := X ++ (cc, s, t) :: Y) hm
        obtain ⟨d0, d1, d2⟩ := (OwG.cs ho).q3 (k := k) (q := (cc, s, t)) (by rw [List.getElem?_append_right (by omega), hxl]; simp)
        simp only [Nat.zero_add] at d0 d1 d2
        exact ⟨⟨d0, d1, d2⟩, OwG.fz ho⟩
      have HM1 := Lib.hid m1
      have HM2 := Lib.hid m2
      have HSM : Hid (s.n ≤ 1100000 ∧ t.n ≤ 1100000) := hpl
      clear hS ho hgk hdk htk hms hes hbd hbl hX hY hκ hxl hpl hkN m1 m2 hq
      have f0 : True := trivial
      go_wp2_with (first
        | (go_at_call 15; clear f0; refine (HM1.out _ hS1).mono ?_; rintro e w1 ⟨rfl, hS2⟩; clear d0 d1 d2; obtain ⟨⟨d0, d1, d2⟩, df⟩ := HD.out _ _ hS2 (by simp))
        | (go_at_call 15; refine (HM2.out _ hS2).mono ?_; rintro e w2 ⟨rfl, hS3⟩; clear d0 d1 d2 df; obtain ⟨⟨d0, d1, d2⟩, df⟩ := HD.out _ _ hS3 (by simp)))
      have hS4 := Sg.setQun (A := A) (g := g) (n := n) (c := c) (X := X) (Y := Y) (p := (cc, s, t)) (by simpa using hS3) (mkQ κ (cc, s, t)).1 (o := k * 3 + 2) (by rw [HX.out.1])
      go_roundw
      case rel =>
        refine ⟨k + 1, by omega, by go_num, by (rw [HX.out.2.2.1]; have hs1 := HSM.out; obtain ⟨ha, hb⟩ := hs1; congr 1; unfold wrap64; omega), ?_⟩
        have e1 : mkQs k0 (QL.take (k + 1)) ++ QL.drop (k + 1) = X ++ mkQ κ (cc, s, t) :: Y := by rw [HX.out.2.1, HX.out.2.2.2]; simp
        rw [e1, trX_split]
        have h := hS4
        simp only [mkQ, List.append_assoc, List.cons_append] at h ⊢
        exact h
      case measure => simp [intOf]; omega
    · obtain rfl : k = n := by omega
      have e1 : QL.take k = QL := List.take_of_length_le (by rw [HM.out.1]; exact Nat.le_refl _)
      have e2 : QL.drop k = [] := List.drop_eq_nil_of_le (by rw [HM.out.1]; exact Nat.le_refl _)
      rw [e1, e2, List.append_nil] at hS
      rw [e1]
      clear e1 e2
      obtain ⟨z, hz⟩ : ∃ z, endQ k0 QL = z := ⟨_, rfl⟩
      have HZ : Hid (endQ k0 QL = z) := hz
      rw [hz]
      clear hz
      go_wp2
      go_ret
      exact ⟨by rw [HZ.out]; rfl, hS⟩
set_option maxHeartbeats 2000000 in
theorem markPaper_sum (tn tag : Int) (p : Option Addr) (n c : Nat) (k0 : Int) (QL : List CQ) (A Bs : List Rw) (w W : World) (hS : Sg w W (A ++ (trX (.slice p n c) QL [] ++ Bs))) (hn : QL.length = n) (hb : n + szT QL ≤ 1048576) (hk0 : 0 ≤ k0) (hk1 : k0 ≤ 20000000) :
    Calls Try.prog 14 #[.agg #[.int .i64 tn, .slice p n c, .int .i64 tag], .int .i64 k0] W fun e w' => e = .returned (.int .i64 (endQ k0 QL)) ∧ Sg w w' (A ++ (trX (.slice p n c) (mkQs k0 QL) [] ++ Bs)) := by
  have hS1 := hS.lit kP [⟨tn, ⟨p, n, c⟩, tag⟩] 1 rfl (by decide) #[.int .i64 tn, .slice p n c, .int .i64 tag] rfl
  change Sg w (W.alloc (.cells #[.int .i64 tn, .slice p n c, .int .i64 tag] 31)) _ at hS1
  have HM := Lib.hid (markClauseS_sum p n c k0 QL (rG kP (.slice (some ⟨W.heap.size, 0, none⟩) 1 1) [⟨tn, ⟨p, n, c⟩, tag⟩] :: A) Bs w (W.alloc (.cells #[.int .i64 tn, .slice p n c, .int .i64 tag] 31)) hS1 (by omega) (fun q hq => by have := szT_mem hq; omega) hk0 (fun k => by
    rw [endQ_val]
    have h1 := szT_take QL k
    have h2 : (QL.take k).length ≤ n := by rw [List.length_take, hn]; omega
    omega))
  clear hS hS1 hn hb
  obtain ⟨x, hx⟩ : ∃ x, endQ k0 QL = x := ⟨_, rfl⟩
  rw [hx] at HM ⊢
  clear hx
  go_enter Try.func14, Try.ntmps14
  go_wp2_with (go_at_call 32; refine (HM.out).mono ?_; rintro e w1 ⟨rfl, hS2⟩)
  go_ret
  exact ⟨rfl, Sg.d0 hS2⟩
def szC (L : List Cl) : Nat := (L.map fun c => c.rd.length + c.wr.length).sum
theorem szT_cls {X : List CQ} (h : ∀ q ∈ X, q.1.rd.length = q.2.1.n ∧ q.1.wr.length = q.2.2.n) : szT X = szC (cls X) := by
  unfold szT szC cls
  rw [List.map_map]
  refine congrArg List.sum (List.map_congr_left fun q hq => ?_)
  show q.2.1.n + q.2.2.n = q.1.rd.length + q.1.wr.length
  rw [(h q hq).1, (h q hq).2]
end Go.Proofs.Ytkinbgcnenieeaa
