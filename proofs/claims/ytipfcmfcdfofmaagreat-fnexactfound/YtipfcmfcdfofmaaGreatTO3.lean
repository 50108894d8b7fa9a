/-
  TreeOk: the program's.
-/
import Derived.Test.YtipfcmfcdfofmaaGreatX3
import Derived.Laws.StructEq
import Derived.Test.YtipfcmfcdfofmaaGreatFq
import Derived.Deep.QuietTactic
import Derived.BigQuiet
namespace Go.Proofs.YtipfcmfcdfofmaaGreat
open Go.RowKit Go.Joins
attribute [local go_sem] Oper.semAt_some

theorem grow_propT {P : Nd → Prop} (hP : ∀ ns fr, (∀ nd ∈ ns, P nd) → ∀ nd ∈ rowUp ns fr, P nd) : ∀ (d : Nat) (ns : List Nd) (fr : Nat), ns.length - fr ≤ d → (∀ nd ∈ ns, P nd) → ∀ nd ∈ grow ns fr, P nd
  | 0, ns, fr, hd, h => by rw [grow_end (by omega)]; exact h
  | d + 1, ns, fr, hd, h => by
    by_cases h1 : ns.length - fr ≤ 1
    · rw [grow_end h1]; exact h
    · rw [grow_on h1]
      refine grow_propT hP d _ _ ?_ ?_
      · simp [rowUp_len, cnt]; omega
      · intro nd hnd
        rcases List.mem_append.mp hnd with hh | hh
        · exact h nd hh
        · exact hP ns fr h nd hh
theorem grow_lenT : ∀ (d : Nat) (ns : List Nd) (fr : Nat), ns.length - fr ≤ d → ns.length + (ns.length - fr) ≤ 30 → (grow ns fr).length ≤ 30
  | 0, ns, fr, hd, h => by rw [grow_end (by omega)]; omega
  | d + 1, ns, fr, hd, h => by
    by_cases h1 : ns.length - fr ≤ 1
    · rw [grow_end h1]; omega
    · rw [grow_on h1]
      refine grow_lenT d _ _ ?_ ?_
      · simp [rowUp_len, cnt]; omega
      · simp [rowUp_len, cnt]; omega
theorem plN_bdT (L : List Mk) : (plN L).length ≤ 30 ∧ ∀ nd ∈ plN L, nd.ps.length ≤ 4 := by
  unfold plN
  split
  · rename_i h
    have h60 : L.length ≤ 60 := by simp [mksB] at h; exact h.1
    have hl : (leafs (srtM fO L)).length ≤ 15 := by rw [leafs_len, srtM_len]; unfold cnt; omega
    refine ⟨grow_lenT _ _ _ (Nat.le_refl _) (by omega), grow_propT (P := fun nd => nd.ps.length ≤ 4) (fun ns fr _ nd hnd => ?_) _ _ _ (Nat.le_refl _) (fun nd hnd => ?_)⟩
    · simp only [rowUp, List.mem_map, List.mem_range] at hnd
      obtain ⟨j, _, rfl⟩ := hnd
      rw [forkN_ps, upto_len, four_len]; omega
    · simp only [leafs, List.mem_map, List.mem_range] at hnd
      obtain ⟨j, _, rfl⟩ := hnd
      simp only [leafN, List.length_map, four_len]; omega
  · simp
theorem plM_bdT (L : List Mk) : (plM L).length ≤ 60 := by
  unfold plM
  split
  · rename_i h; simp [mksB] at h; exact h.1
  · simp

def t4E (a b : T4) : Bool := decide (a.x = b.x) && decide (a.y = b.y) && decide (a.w = b.w) && decide (a.h = b.h)
def ndE (a b : Nd) : Bool := t4E a.b b.b && (a.lf == b.lf) && decide (a.ps = b.ps)
def nsE : List Nd → List Nd → Bool
  | [], [] => true
  | a :: s, b :: t => ndE a b && nsE s t
  | _, _ => false
theorem t4E_t {a b : T4} : t4E a b = true ↔ a = b := by cases a; cases b; simp [t4E, and_assoc]
theorem ndE_t {a b : Nd} : ndE a b = true ↔ a = b := by
  cases a; cases b; simp only [ndE, Bool.and_eq_true, t4E_t, beq_iff_eq, decide_eq_true_eq, Nd.mk.injEq, and_assoc]
theorem nsE_t : ∀ {A B : List Nd}, nsE A B = true ↔ A = B
  | [], [] => by simp [nsE]
  | [], _ :: _ => by simp [nsE]
  | _ :: _, [] => by simp [nsE]
  | a :: s, b :: t => by simp only [nsE, Bool.and_eq_true, ndE_t, nsE_t (A := s) (B := t), List.cons.injEq]
theorem run_eqlR (a b : T4) (w : World) : (binOp .eql 31 (.agg #[.int .i64 a.x, .int .i64 a.y, .int .i64 a.w, .int .i64 a.h]) (.agg #[.int .i64 b.x, .int .i64 b.y, .int .i64 b.w, .int .i64 b.h])).run Tryz.prog w = .ok (.bool (t4E a b)) w := by
  have u2 := Tryz.underlying2
  have a2 := Tryz.isAgg2
  have z2 := Tryz.sizeOf2
  have hS : Tryz.prog.underlying 31 = some (.struct (Tryz.prog.fieldsOf 31)) := by kernel_rfl
  have hp : Tryz.prog.stoodInHeld 31 = false := by kernel_rfl
  rw [run_eql_struct, show (10000 : Nat) = 9998 + 1 + 1 from rfl, run_equalIn_agg w (9998 + 1) 31 _ _ hS hp]
  simp only [Program.fieldsOf, Tryz.underlying31]
  unfold t4E
  go_simp
  by_cases h1 : a.x = b.x <;> by_cases h2 : a.y = b.y <;> by_cases h3 : a.w = b.w <;> by_cases h4 : a.h = b.h <;> simp [h1, h2, h3, h4]
theorem run_neqR (a b : T4) (w : World) : (binOp .neq 31 (.agg #[.int .i64 a.x, .int .i64 a.y, .int .i64 a.w, .int .i64 a.h]) (.agg #[.int .i64 b.x, .int .i64 b.y, .int .i64 b.w, .int .i64 b.h])).run Tryz.prog w = .ok (.bool (!(t4E a b))) w := by
  have u2 := Tryz.underlying2
  have a2 := Tryz.isAgg2
  have z2 := Tryz.sizeOf2
  have hS : Tryz.prog.underlying 31 = some (.struct (Tryz.prog.fieldsOf 31)) := by kernel_rfl
  have hp : Tryz.prog.stoodInHeld 31 = false := by kernel_rfl
  rw [run_neq_struct, show (10000 : Nat) = 9998 + 1 + 1 from rfl, run_equalIn_agg w (9998 + 1) 31 _ _ hS hp]
  simp only [Program.fieldsOf, Tryz.underlying31]
  unfold t4E
  go_simp
  by_cases h1 : a.x = b.x <;> by_cases h2 : a.y = b.y <;> by_cases h3 : a.w = b.w <;> by_cases h4 : a.h = b.h <;> simp [h1, h2, h3, h4]
theorem run_neqM (a : Mk) (w : World) : (binOp .neq 45 (.agg #[.int .i64 a.i, .int .i64 a.x, .int .i64 a.y]) (.agg #[.int .i64 a.i, .int .i64 a.x, .int .i64 a.y])).run Tryz.prog w = .ok (.bool false) w := by
  have u2 := Tryz.underlying2
  have a2 := Tryz.isAgg2
  have z2 := Tryz.sizeOf2
  have u29 := Tryz.underlying43
  have a29 := Tryz.isAgg43
  have z29 := Tryz.sizeOf43
  have hS : Tryz.prog.underlying 45 = some (.struct (Tryz.prog.fieldsOf 45)) := by kernel_rfl
  have hp : Tryz.prog.stoodInHeld 45 = false := by kernel_rfl
  have hS9 : Tryz.prog.underlying 43 = some (.struct (Tryz.prog.fieldsOf 43)) := by kernel_rfl
  have hp9 : Tryz.prog.stoodInHeld 43 = false := by kernel_rfl
  have h29 : ∀ W, (Op.equalIn (9997 + 1 + 1) 43 (.agg #[.int .i64 a.x, .int .i64 a.y]) (.agg #[.int .i64 a.x, .int .i64 a.y])).run Tryz.prog W = .ok true W := fun W => by
    rw [run_equalIn_agg W (9997 + 1) 43 _ _ hS9 hp9]
    simp only [Program.fieldsOf, Tryz.underlying43]
    go_simp
  rw [run_neq_struct, show (10000 : Nat) = 9997 + 1 + 1 + 1 from rfl, run_equalIn_agg w (9997 + 1 + 1) 45 _ _ hS hp]
  simp only [Program.fieldsOf, Tryz.underlying45]
  go_simp
end Go.Proofs.YtipfcmfcdfofmaaGreat
namespace Go.Proofs.YtipfcmfcdfofmaaGreat
open Go.RowKit Go.Joins
attribute [local go_sem] Oper.semAt_some

theorem bdrewN {B : Nat} {a w : World} (h : Below B a w) (n : Nat) : Below B a (w.drewN n) := h.trans ⟨rfl, rfl, rfl, Nat.le_refl _, fun _ _ => rfl⟩
set_option maxHeartbeats 1000000 in
theorem equalM_same (p q : Option Addr) (cap cap' : Nat) (L : List Mk) (n : Nat) (hn : L.length = n) (hb : n ≤ 1000) (w : World) (hp : SlG kM w p L) (hq : SlG kM w q L) :
    Calls Tryz.prog 83 #[.slice p n cap, .slice q n cap'] w fun e w' => e = .returned (.bool true) ∧ Below w.heap.size w w' := by
  have HN : Hid (L.length = n) := hn
  clear hn
  go_enter Tryz.func83, Tryz.ntmps83
  go_wp2
  go_loopw [13] (fun i wr => ∃ k : Nat, k ≤ n ∧ i = .int .i64 k ∧ Below w.heap.size w wr) (fun i _ => n - (intOf i).toNat)
  case atStart => exact ⟨0, by omega, rfl, Below.refl _ _⟩
  case round =>
    obtain ⟨k, hk, rfl, hb1⟩ := hrel
    by_cases hlt : k < n
    · have hki : (k : Int) < n := by omega
      have hkL : k < L.length := by rw [HN.out]; exact hlt
      obtain ⟨g, off, rfl, hC⟩ := (hp.step hb1).at hkL
      obtain ⟨g2, off2, rfl, hC2⟩ := (hq.step hb1).at hkL
      obtain ⟨c0, c1, c2⟩ := hC.mk (getM hkL)
      obtain ⟨d0, d1, d2⟩ := hC2.mk (getM hkL)
      generalize L.getD k zmk = m at c0 c1 c2 d0 d1 d2
      have hql := fun W => run_neqM m W
      clear hC hC2
      go_wp2_with fail
      go_quiet (fail)
      go_wp2_with fail
      go_roundw
      case rel => exact ⟨k + 1, by omega, by go_num, bdrewN hb1 _⟩
      case measure => simp [intOf]; omega
    · obtain rfl : k = n := by omega
      go_wp2
      go_ret
      exact ⟨rfl, hb1⟩
theorem equalM_len (p q : Option Addr) (cap cap' n m : Nat) (h : n ≠ m) (w : World) :
    Calls Tryz.prog 83 #[.slice p n cap, .slice q m cap'] w fun e w' => e = .returned (.bool false) ∧ Below w.heap.size w w' := by
  have hli : ((n : Int) != (m : Int)) = true := bne_iff_ne.mpr (by omega)
  go_enter Tryz.func83, Tryz.ntmps83
  go_wp2
  go_ret
  exact ⟨rfl, Below.refl _ _⟩
theorem take_eqI {A B : List Int} {k : Nat} {a : Int} (h : A.take k = B.take k) (ha : A[k]? = some a) (hb : B[k]? = some a) : A.take (k + 1) = B.take (k + 1) := by
  rw [List.take_add_one, List.take_add_one, h, ha, hb]
set_option maxHeartbeats 1000000 in
theorem equalI_any (p q : Option Addr) (cap cap' : Nat) (A B : List Int) (n m : Nat) (hn : A.length = n) (hm : B.length = m) (hb : n ≤ 10000000) (hb2 : m ≤ 10000000) (w : World) (hp : SlG kI w p A) (hq : SlG kI w q B) :
    Calls Tryz.prog 106 #[.slice p n cap, .slice q m cap'] w fun e w' => e = .returned (.bool (decide (A = B))) ∧ Below w.heap.size w w' := by
  by_cases hl : n = m
  · subst hl
    have HN : Hid (A.length = n ∧ B.length = n) := ⟨hn, hm⟩
    clear hn hm
    go_enter Tryz.func106, Tryz.ntmps106
    go_wp2
    go_loopw [13] (fun i wr => ∃ k : Nat, k ≤ n ∧ i = .int .i64 k ∧ Hid (A.take k = B.take k) ∧ Below w.heap.size w wr) (fun i _ => n - (intOf i).toNat)
    case atStart => exact ⟨0, by omega, rfl, (show A.take 0 = B.take 0 by simp), Below.refl _ _⟩
    case round =>
      obtain ⟨k, hk, rfl, hT, hb1⟩ := hrel
      by_cases hlt : k < n
      · have hki : (k : Int) < n := by omega
        have hkA : k < A.length := by rw [HN.out.1]; exact hlt
        have hkB : k < B.length := by rw [HN.out.2]; exact hlt
        obtain ⟨g, off, rfl, hC⟩ := (hp.step hb1).at hkA
        obtain ⟨g2, off2, rfl, hC2⟩ := (hq.step hb1).at hkB
        have ga := getI hkA
        have gb := getI hkB
        have c0 := hC.int ga
        have d0 := hC2.int gb
        obtain ⟨a, ha⟩ : ∃ a, A.getD k 0 = a := ⟨_, rfl⟩
        obtain ⟨b, hb'⟩ : ∃ b, B.getD k 0 = b := ⟨_, rfl⟩
        rw [ha] at ga c0
        rw [hb'] at gb d0
        have HG : Hid (A[k]? = some a ∧ B[k]? = some b) := ⟨ga, gb⟩
        clear hC hC2 ga gb ha hb'
        by_cases hab : a = b
        · subst hab
          go_wp2
          go_region_with fail
          all_goals
            go_wp2
            go_roundw
            case rel => exact ⟨k + 1, by omega, by go_num, take_eqI hT.out HG.out.1 HG.out.2, hb1.drew⟩
            case measure => simp [intOf]; omega
        · have hno : Hid (decide (A = B) = false) := decide_eq_false fun h => hab (by have h1 := HG.out; rw [h] at h1; have := h1.1.symm.trans h1.2; exact Option.some.inj this)
          have hbn : (a != b) = true := bne_iff_ne.mpr hab
          go_wp2
          go_region_with fail
          all_goals
            go_wp2
            go_ret
            rw [hno.out]
            exact ⟨rfl, hb1.drew⟩
      · obtain rfl : k = n := by omega
        have hyes : Hid (decide (A = B) = true) := decide_eq_true (by
          have h := hT.out
          rwa [List.take_of_length_le (by rw [HN.out.1]; exact Nat.le_refl _), List.take_of_length_le (by rw [HN.out.2]; exact Nat.le_refl _)] at h)
        go_wp2
        go_ret
        rw [hyes.out]
        exact ⟨rfl, hb1⟩
  · have hli : ((n : Int) != (m : Int)) = true := bne_iff_ne.mpr (by omega)
    have hno : Hid (decide (A = B) = false) := decide_eq_false fun h => hl (by rw [← hn, ← hm, h])
    clear hn hm
    go_enter Tryz.func106, Tryz.ntmps106
    go_wp2
    go_ret
    rw [hno.out]
    exact ⟨rfl, Below.refl _ _⟩
theorem equalI_v {A B : List Int} {v : Bool} (hv : decide (A = B) = v) (p q : Option Addr) (cap cap' : Nat) (n m : Nat) (hn : A.length = n) (hm : B.length = m) (hb : n ≤ 10000000) (hb2 : m ≤ 10000000) (w : World) (hp : SlG kI w p A) (hq : SlG kI w q B) :
    Calls Tryz.prog 106 #[.slice p n cap, .slice q m cap'] w fun e w' => e = .returned (.bool v) ∧ Below w.heap.size w w' := by subst hv; exact equalI_any p q cap cap' A B n m hn hm hb hb2 w hp hq
set_option maxRecDepth 100000 in
set_option maxHeartbeats 2000000 in
theorem isAlike_any (a b : Nd) (s t : Sv) (hs : s.n = a.ps.length) (ht : t.n = b.ps.length) (hb1 : a.ps.length ≤ 10000000) (hb2 : b.ps.length ≤ 10000000) (w : World) (h1 : SlG kI w s.p a.ps) (h2 : SlG kI w t.p b.ps) {v : Bool} (hv : ndE a b = v) :
    Calls Tryz.prog 85 #[.agg #[.int .i64 a.b.x, .int .i64 a.b.y, .int .i64 a.b.w, .int .i64 a.b.h, .bool a.lf, .slice s.p s.n s.c], .agg #[.int .i64 b.b.x, .int .i64 b.b.y, .int .i64 b.b.w, .int .i64 b.b.h, .bool b.lf, .slice t.p t.n t.c]] w fun e w' => e = .returned (.bool v) ∧ Below w.heap.size w w' := by
  have hst := ((St.nil w).push [.int .i64 a.b.x, .int .i64 a.b.y, .int .i64 a.b.w, .int .i64 a.b.h, .bool a.lf, .slice s.p s.n s.c] 49).push [.int .i64 b.b.x, .int .i64 b.b.y, .int .i64 b.b.w, .int .i64 b.b.h, .bool b.lf, .slice t.p t.n t.c] 49
  simp only [World.size_alloc] at hst
  have hql := fun W => run_eqlR a.b b.b W
  cases ht4 : t4E a.b b.b
  · rw [ht4] at hql
    have HV : Hid (v = false) := (show v = false by rw [← hv, ndE, ht4]; simp)
    clear hv ht4 hs ht h1 h2
    go_enter Tryz.func85, Tryz.ntmps85
    go_wp2
    go_ret
    exact ⟨by rw [HV.out]; rfl, hst.bel⟩
  · rw [ht4] at hql
    cases hlf : (a.lf == b.lf)
    · have HV : Hid (v = false) := (show v = false by rw [← hv, ndE, ht4, hlf]; simp)
      clear hv ht4 hs ht h1 h2
      go_enter Tryz.func85, Tryz.ntmps85
      go_wp2
      go_ret
      exact ⟨by rw [HV.out]; first | rfl | simp [hlf], hst.bel⟩
    · have hdec : decide (a.ps = b.ps) = v := by rw [← hv, ndE, ht4, hlf]; simp
      have HE : Hid (∀ W, Below w.heap.size w W → Calls Tryz.prog 106 #[.slice s.p s.n s.c, .slice t.p t.n t.c] W fun e w' => e = .returned (.bool v) ∧ Below W.heap.size W w') := fun W h => by
        rw [hs, ht]; exact equalI_v hdec s.p t.p s.c t.c _ _ rfl rfl hb1 hb2 W (h1.step h) (h2.step h)
      have hlf' : a.lf = b.lf := by simpa using hlf
      rw [hlf'] at hst ⊢
      clear hv ht4 hs ht h1 h2 hdec hlf hlf'
      go_enter Tryz.func85, Tryz.ntmps85
      go_wp2_with (go_at_call 106; refine (HE.out _ hst.bel).mono ?_; rintro e w1 ⟨rfl, hb3⟩)
      go_ret
      exact ⟨rfl, bstep hst.bel hb3 (Nat.le_refl _)⟩
end Go.Proofs.YtipfcmfcdfofmaaGreat
namespace Go.Proofs.YtipfcmfcdfofmaaGreat
open Go.RowKit Go.Joins
attribute [local go_sem] Oper.semAt_some

/-- Is it right: what both answer. -/
def tokB (L : List Mk) (ns : List Nd) : Bool := mksB L && nsE (plN L) ns
theorem nsE_take {A B : List Nd} {k : Nat} (h : A.take k = B.take k) {a : Nd} (ha : A[k]? = some a) (hb : B[k]? = some a) : A.take (k + 1) = B.take (k + 1) := by
  rw [List.take_add_one, List.take_add_one, h, ha, hb]
set_option maxRecDepth 100000 in
set_option maxHeartbeats 4000000 in
theorem equalF_any (p q : Option Addr) (cap cap' : Nat) (A B : List (Nd × Sv)) (n m : Nat) (hn : A.length = n) (hm : B.length = m) (hb : n ≤ 10000000) (hb2 : m ≤ 10000000) (hpa : ∀ x ∈ A, x.1.ps.length ≤ 10000000) (hpb : ∀ x ∈ B, x.1.ps.length ≤ 10000000) (w : World) (hp : RdN w p A) (hq : RdN w q B) {v : Bool} (hv : nsE (A.map Prod.fst) (B.map Prod.fst) = v) :
    Calls Tryz.prog 84 #[.slice p n cap, .slice q m cap', .func (.func 85) #[] #[]] w fun e w' => e = .returned (.bool v) ∧ Below w.heap.size w w' := by
  by_cases hl : n = m
  · subst hl
    have HH : Hid (A.length = n ∧ B.length = n ∧ RdN w p A ∧ RdN w q B ∧ (∀ x ∈ A, x.1.ps.length ≤ 10000000) ∧ (∀ x ∈ B, x.1.ps.length ≤ 10000000)) := ⟨hn, hm, hp, hq, hpa, hpb⟩
    have HV : Hid (nsE (A.map Prod.fst) (B.map Prod.fst) = v) := hv
    clear hn hm hp hq hpa hpb hv
    go_enter Tryz.func84, Tryz.ntmps84
    go_wp2
    go_loopw [17] (fun i wr => ∃ k : Nat, k ≤ n ∧ i = .int .i64 k ∧ Hid ((A.map Prod.fst).take k = (B.map Prod.fst).take k) ∧ Below w.heap.size w wr) (fun i _ => n - (intOf i).toNat)
    case atStart => exact ⟨0, by omega, rfl, (show _ = _ by simp), Below.refl _ _⟩
    case round =>
      obtain ⟨k, hk, rfl, hT, hb1⟩ := hrel
      by_cases hlt : k < n
      · have hki : (k : Int) < n := by omega
        obtain ⟨a1, a2, a4, a5, a6, a7⟩ := HH.out
        obtain ⟨g, off, rfl, hC⟩ := (a4.1.step hb1).at (k := k) (by omega)
        obtain ⟨g2, off2, rfl, hC2⟩ := (a5.1.step hb1).at (k := k) (by omega)
        have ga := getN (L := A) (k := k) (by omega)
        have gb := getN (L := B) (k := k) (by omega)
        have r1 := a4.2 _ (List.mem_of_getElem? ga)
        have r2 := a5.2 _ (List.mem_of_getElem? gb)
        have l1 := a6 _ (List.mem_of_getElem? ga)
        have l2 := a7 _ (List.mem_of_getElem? gb)
        have fa : (A.map Prod.fst)[k]? = some (A.getD k zn).1 := by rw [List.getElem?_map, ga]; rfl
        have fb : (B.map Prod.fst)[k]? = some (B.getD k zn).1 := by rw [List.getElem?_map, gb]; rfl
        obtain ⟨c0, c1, c2, c3, c4, c5⟩ := hC.nd ga
        obtain ⟨d0, d1, d2, d3, d4, d5⟩ := hC2.nd gb
        obtain ⟨x, hx⟩ : ∃ x, A.getD k zn = x := ⟨_, rfl⟩
        obtain ⟨y, hy⟩ : ∃ y, B.getD k zn = y := ⟨_, rfl⟩
        rw [hx] at c0 c1 c2 c3 c4 c5 r1 l1 fa
        rw [hy] at d0 d1 d2 d3 d4 d5 r2 l2 fb
        obtain ⟨a, s⟩ := x
        obtain ⟨b, t⟩ := y
        simp only at c0 c1 c2 c3 c4 c5 r1 l1 fa d0 d1 d2 d3 d4 d5 r2 l2 fb
        obtain ⟨u, hu⟩ : ∃ u, ndE a b = u := ⟨_, rfl⟩
        have HE : Hid (∀ W, Below w.heap.size w W → Calls Tryz.prog 85 #[.agg #[.int .i64 a.b.x, .int .i64 a.b.y, .int .i64 a.b.w, .int .i64 a.b.h, .bool a.lf, .slice s.p s.n s.c], .agg #[.int .i64 b.b.x, .int .i64 b.b.y, .int .i64 b.b.w, .int .i64 b.b.h, .bool b.lf, .slice t.p t.n t.c]] W fun e w' => e = .returned (.bool u) ∧ Below W.heap.size W w') := fun W h => isAlike_any a b s t r1.2 r2.2 l1 l2 W (r1.1.step h) (r2.1.step h) hu
        have HF : Hid ((A.map Prod.fst)[k]? = some a ∧ (B.map Prod.fst)[k]? = some b ∧ ndE a b = u) := ⟨fa, fb, hu⟩
        have hb2 : Below w.heap.size w ((wr.alloc (.cells #[.int .i64 a.b.x, .int .i64 a.b.y, .int .i64 a.b.w, .int .i64 a.b.h, .bool a.lf, .slice s.p s.n s.c] 49)).alloc (.cells #[.int .i64 b.b.x, .int .i64 b.b.y, .int .i64 b.b.w, .int .i64 b.b.h, .bool b.lf, .slice t.p t.n t.c] 49)) := (hb1.alloc hb1.size _).alloc (Nat.le_trans hb1.size (by simp)) _
        have hg1 := hC.1
        have hg2 := hC2.1
        clear hC hC2 ga gb r1 r2 l1 l2 fa fb hx hy hu a1 a2 a4 a5 a6 a7
        cases u
        · have hno : Hid (v = false) := (show v = false by
            rw [← HV.out]
            refine Bool.eq_false_iff.mpr fun h => ?_
            have h1 := nsE_t.mp h
            have h2 := HF.out
            rw [h1] at h2
            have : b = a := Option.some.inj (h2.2.1.symm.trans h2.1)
            subst this
            have h3 : ndE b b = true := ndE_t.mpr rfl
            rw [h2.2.2] at h3; cases h3)
          go_wp2_with (go_at_call 85; refine (HE.out _ hb2).mono ?_; rintro e w1 ⟨rfl, hb3⟩)
          go_ret
          exact ⟨by rw [hno.out]; rfl, bstep hb2 hb3 (Nat.le_refl _)⟩
        · go_wp2_with (go_at_call 85; refine (HE.out _ hb2).mono ?_; rintro e w1 ⟨rfl, hb3⟩)
          go_roundw
          case rel =>
            have hab := ndE_t.mp HF.out.2.2
            exact ⟨k + 1, by omega, by go_num, nsE_take hT.out HF.out.1 (by rw [hab]; exact HF.out.2.1), bstep hb2 hb3 (Nat.le_refl _)⟩
          case measure => simp [intOf]; omega
      · obtain rfl : k = n := by omega
        have hyes : Hid (v = true) := (show v = true by
          rw [← HV.out]
          refine nsE_t.mpr ?_
          have h := hT.out
          rwa [List.take_of_length_le (by simp [HH.out.1]), List.take_of_length_le (by simp [HH.out.2.1])] at h)
        go_wp2
        go_ret
        exact ⟨by rw [hyes.out]; rfl, hb1⟩
  · have hli : ((n : Int) != (m : Int)) = true := bne_iff_ne.mpr (by omega)
    have hno : Hid (v = false) := (show v = false by
      rw [← hv]
      refine Bool.eq_false_iff.mpr fun h => hl ?_
      have := congrArg List.length (nsE_t.mp h)
      simp at this; omega)
    clear hn hm hp hq hpa hpb hv
    go_enter Tryz.func84, Tryz.ntmps84
    go_wp2
    go_ret
    exact ⟨by rw [hno.out]; rfl, Below.refl _ _⟩
set_option maxRecDepth 100000 in
set_option maxHeartbeats 4000000 in
theorem isRight_any (p q : Option Addr) (m n c d : Nat) (L : List Mk) (NL : List (Nd × Sv)) (hm : L.length = m) (hn : NL.length = n) (hmb : m ≤ 10000000) (hnb : n ≤ 10000000) (hps : ∀ x ∈ NL, x.1.ps.length ≤ 10000000) (w : World) (hL : SlG kM w p L) (hN : RdN w q NL) {v : Bool} (hv : tokB L (NL.map Prod.fst) = v) :
    Calls Tryz.prog 44 #[.agg #[.slice p m c, .slice q n d]] w fun e w' => e = .returned (.bool v) ∧ Below w.heap.size w w' := by
  obtain ⟨M, hM⟩ : ∃ M, plM L = M := ⟨_, rfl⟩
  obtain ⟨ts, hts⟩ : ∃ ts, plN L = ts := ⟨_, rfl⟩
  have hS0 := (Sg.nil w).lit kT [(⟨p, m, c⟩, ⟨q, n, d⟩)] 1 rfl (by decide) #[.slice p m c, .slice q n d] rfl
  have HIP : Hid (∀ W, Below w.heap.size w W → Calls Tryz.prog 9 #[.slice p m c] W fun e w' => ∃ q c q2 c2 NL, e = .returned (.agg #[.slice q M.length c, .slice q2 ts.length c2]) ∧ NL.map Prod.fst = ts ∧ Sg W w' (treeR (.slice q M.length c) (.slice q2 ts.length c2) M NL)) := fun W h => iPlanted_any p c L m hm hmb W (hL.step h) hM hts
  have hTb := plN_bdT L
  have hMb := plM_bdT L
  rw [hts] at hTb
  rw [hM] at hMb
  obtain ⟨mm, hmm⟩ : ∃ k, M.length = k := ⟨_, rfl⟩
  obtain ⟨nn, hnn⟩ : ∃ k, ts.length = k := ⟨_, rfl⟩
  rw [hmm, hnn] at HIP
  rw [hmm] at hMb
  rw [hnn] at hTb
  cases hk : mksB L
  · have hv' : v = false := by rw [← hv, tokB, hk]; rfl
    subst hv'
    have hM0 : M = [] := by rw [← hM]; simp [plM, hk]
    have hne : mm ≠ m := by
      rw [← hmm, hM0]
      intro h
      have : L = [] := List.eq_nil_of_length_eq_zero (by rw [hm]; exact h.symm)
      rw [this] at hk; cases hk
    clear hv hM hts hTb hMb hmm hnn hk hM0 hL hN hps hm hn
    go_enter Tryz.func44, Tryz.ntmps44
    go_wp2_with (first
      | (go_at_call 9; refine (HIP.out _ hS0.bel).mono ?_; rintro e w1 ⟨q1, c1, q2, c2, NG, rfl, hNG, h1⟩; have hS1 := (hS0.addL h1).step (below_alloc1 _ (.cells #[.slice q1 mm c1, .slice q2 nn c2] 28)); obtain ⟨u0, u1, _, ug⟩ := (hS0.addL h1).two (K := kT) (g := w.heap.size) (c := 1) (p := (⟨p, m, c⟩, ⟨q, n, d⟩)) (by simp) rfl)
      | (go_at_call 83; refine (equalM_len _ _ _ _ _ _ hne _).mono ?_; rintro e w2 ⟨rfl, hb2⟩))
    go_ret
    exact ⟨rfl, bstep hS1.bel hb2 (Nat.le_refl _)⟩
  · have hM0 : M = L := by rw [← hM]; simp [plM, hk]
    subst hM0
    have hmm2 : mm = m := by omega
    subst hmm2
    have hv2 : nsE ts (NL.map Prod.fst) = v := by rw [← hv, tokB, hk, hts]; rfl
    have HQ : Hid (∀ W, Below w.heap.size w W → ∀ q1 c1, SlG kM W q1 M → Calls Tryz.prog 83 #[.slice q1 mm c1, .slice p mm c] W fun e w' => e = .returned (.bool true) ∧ Below W.heap.size W w') := fun W h q1 c1 h1 => equalM_same q1 p c1 c M mm hm (by omega) W h1 (hL.step h)
    have HF : Hid (∀ W, Below w.heap.size w W → ∀ q2 c2 NG, NG.map Prod.fst = ts → RdN W q2 NG → Calls Tryz.prog 84 #[.slice q2 nn c2, .slice q n d, .func (.func 85) #[] #[]] W fun e w' => e = .returned (.bool v) ∧ Below W.heap.size W w') := fun W h q2 c2 NG hNG h2 => equalF_any q2 q c2 d NG NL nn n (by rw [← hnn, ← hNG]; simp) hn (by omega) hnb (fun x hx => by have := hTb.2 x.1 (by rw [← hNG]; exact List.mem_map_of_mem hx); omega) hps W h2 (hN.step h) (by rw [hNG]; exact hv2)
    clear hv hM hts hTb hMb hmm hnn hk hL hN hps hm hn hv2
    go_enter Tryz.func44, Tryz.ntmps44
    go_wp2_with (first
      | (go_at_call 9; refine (HIP.out _ hS0.bel).mono ?_; rintro e w1 ⟨q1, c1, q2, c2, NG, rfl, hNG, h1⟩; have hS1 : Sg w (w1.alloc (.cells #[.slice q1 mm c1, .slice q2 nn c2] 28)) _ := (hS0.addL h1).lit kT [(⟨q1, mm, c1⟩, ⟨q2, nn, c2⟩)] 1 rfl (by decide) #[.slice q1 mm c1, .slice q2 nn c2] rfl; obtain ⟨u0, u1, _, ug⟩ := (hS0.addL h1).two (K := kT) (g := w.heap.size) (c := 1) (p := (⟨p, mm, c⟩, ⟨q, n, d⟩)) (by simp) rfl)
      | (go_at_call 83; refine (HQ.out _ hS1.bel q1 c1 (OwG.sl (hS1.mem (K := kM) (v := .slice q1 mm c1) (L := M) (by simp [treeR])))).mono ?_; rintro e w2 ⟨rfl, hb2⟩; have hS2 := hS1.step hb2; clear u0 u1 ug; obtain ⟨u0, u1, _, ug⟩ := hS2.two (K := kT) (g := w.heap.size) (c := 1) (p := (⟨p, mm, c⟩, ⟨q, n, d⟩)) (by simp) rfl; obtain ⟨v0, v1, _, vg⟩ := hS2.two (K := kT) (g := w1.heap.size) (c := 1) (p := (⟨q1, mm, c1⟩, ⟨q2, nn, c2⟩)) (by simp) rfl)
      | (go_at_call 84; refine (HF.out _ hS2.bel q2 c2 NG hNG (hS2.rdN (n := nn) (c := c2) (NL := NG) (fun r hr => by simp [treeR, hr]))).mono ?_; rintro e w3 ⟨rfl, hb3⟩))
    go_ret
    exact ⟨rfl, bstep hS2.bel hb3 (Nat.le_refl _)⟩
theorem iTreeOk_any (p q : Option Addr) (m n c d : Nat) (L : List Mk) (NL : List (Nd × Sv)) (hm : L.length = m) (hn : NL.length = n) (hmb : m ≤ 10000000) (hnb : n ≤ 10000000) (hps : ∀ x ∈ NL, x.1.ps.length ≤ 10000000) (w : World) (hL : SlG kM w p L) (hN : RdN w q NL) {v : Bool} (hv : tokB L (NL.map Prod.fst) = v) :
    Calls Tryz.prog 19 #[.agg #[.slice p m c, .slice q n d]] w fun e w' => e = .returned (.bool v) ∧ Below w.heap.size w w' := by
  have hb1 := below_alloc1 w (.cells #[.slice p m c, .slice q n d] 28)
  have H := isRight_any p q m n c d L NL hm hn hmb hnb hps _ (hL.step hb1) (hN.step hb1) hv
  clear hm hn hps hL hN hv
  go_enter Tryz.func19, Tryz.ntmps19
  go_wp2_with (go_at_call 44; refine H.mono ?_; rintro e w1 ⟨rfl, hb2⟩)
  go_ret
  exact ⟨rfl, ba1 hb2⟩
end Go.Proofs.YtipfcmfcdfofmaaGreat
