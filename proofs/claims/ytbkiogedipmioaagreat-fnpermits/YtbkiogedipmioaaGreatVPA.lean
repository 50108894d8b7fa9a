/-
  Papers: Genuine, the program's and the spec's.
-/
import Derived.Test.YtbkiogedipmioaaGreatVP7
import Derived.Deep.QuietTactic
import Derived.BigQuiet
namespace Go.Proofs.YtbkiogedipmioaaGreat.V
open Go.RowKit Go.Joins M
attribute [local go_sem] Oper.semAt_some

set_option maxRecDepth 100000 in
set_option maxHeartbeats 2000000 in
theorem sPaper_v {tn tag : Int} {p : Option Addr} {cap n : Nat} {QL : List CQ} {v : Bool} (hv : ppB tn (cls QL) tag = v) (hn : QL.length = n) (hb0 : n ≤ 10000000) (w : World) (hR : RdS w p QL) :
    Calls Tryz.prog 36 #[.agg #[.int .i64 tn, .slice p n cap, .int .i64 tag]] w fun e w' => e = .returned (.bool v) ∧ Below w.heap.size w w' := by
  have hst := (St.nil w).push [.int .i64 tn, .slice p n cap, .int .i64 tag] 26
  have HN : Hid (QL.length = n ∧ RdS w p QL) := ⟨hn, hR⟩
  have HE : Hid (clsB (cls QL) = (decide (1 ≤ n ∧ n ≤ 6) && (cls QL).all clB)) := clsB_n (by rw [cls_len, hn])
  clear hn hR
  unfold ppB at hv
  rw [HE.out] at hv
  clear HE
  cases h0 : tenB tn
  · rw [h0, Bool.false_and] at hv
    subst hv
    go_enter Tryz.func36, Tryz.ntmps36
    go_wp2_with (go_at_call 37; refine (sTenant_v h0 _).mono ?_; rintro e w1 ⟨rfl, hw1⟩; obtain rfl := hw1.symm)
    go_ret
    exact ⟨rfl, hst.bel⟩
  rw [h0, Bool.true_and] at hv
  by_cases h1 : n < 1
  · have h1' : (n : Int) < 1 := by omega
    rw [decide_eq_false (by omega), Bool.false_and, Bool.false_and] at hv
    subst hv
    go_enter Tryz.func36, Tryz.ntmps36
    go_wp2_with (go_at_call 37; refine (sTenant_v h0 _).mono ?_; rintro e w1 ⟨rfl, hw1⟩; obtain rfl := hw1.symm)
    go_ret
    exact ⟨rfl, hst.bel⟩
  have h1' : ¬ (n : Int) < 1 := by omega
  by_cases h6 : 6 < n
  · have h6' : (6 : Int) < n := by omega
    rw [decide_eq_false (by omega), Bool.false_and, Bool.false_and] at hv
    subst hv
    go_enter Tryz.func36, Tryz.ntmps36
    go_wp2_with (go_at_call 37; refine (sTenant_v h0 _).mono ?_; rintro e w1 ⟨rfl, hw1⟩; obtain rfl := hw1.symm)
    go_ret
    exact ⟨rfl, hst.bel⟩
  have h6' : ¬ (6 : Int) < n := by omega
  rw [decide_eq_true (by omega), Bool.true_and] at hv
  have f0 : True := trivial
  cases h2 : inB tag
  · rw [h2, Bool.and_false] at hv
    subst hv
    go_enter Tryz.func36, Tryz.ntmps36
    go_wp2_with (first
      | (go_at_call 37; clear f0; refine (sTenant_v h0 _).mono ?_; rintro e w1 ⟨rfl, hw1⟩; obtain rfl := hw1.symm)
      | (go_at_call 37; refine (sIn_v h2 _).mono ?_; rintro e w1 ⟨rfl, hw1⟩; obtain rfl := hw1.symm))
    go_ret
    exact ⟨rfl, hst.bel⟩
  rw [h2, Bool.and_true] at hv
  have HV := Lib.hid hv
  clear hv
  go_enter Tryz.func36, Tryz.ntmps36
  go_wp2_with (first
    | (go_at_call 37; clear f0; refine (sTenant_v h0 _).mono ?_; rintro e w1 ⟨rfl, hw1⟩; obtain rfl := hw1.symm)
    | (go_at_call 37; refine (sIn_v h2 _).mono ?_; rintro e w1 ⟨rfl, hw1⟩; obtain rfl := hw1.symm))
  go_loopw [3] (fun i wr => ∃ k : Nat, k ≤ n ∧ i = .int .i64 k ∧ Hid (((cls QL).take k).all clB = true) ∧ St w wr [(w.heap.size, [.int .i64 tn, .slice p n cap, .int .i64 tag])]) (fun i _ => n - (intOf i).toNat)
  case atStart => exact ⟨0, by omega, rfl, rfl, hst⟩
  case round =>
    obtain ⟨k, hk, rfl, hall, hs⟩ := hrel
    have hb := hs.bel
    have hk1 := hs.has
    simp [Has, HasAt] at hk1
    by_cases hlt : k < n
    · have hki : (k : Int) < n := by omega
      have hkL : k < QL.length := by rw [HN.out.1]; exact hlt
      obtain ⟨g, off, rfl, hC⟩ := (HN.out.2.1.step hb).at hkL
      obtain ⟨c0, c1, c2⟩ := hC.q3 (getQ hkL)
      have hq := HN.out.2.2 _ (List.mem_of_getElem? (getQ hkL))
      have hat := all_takeC hkL
      have hno := all_noC hkL
      obtain ⟨⟨c, s, t⟩, hx⟩ : ∃ x : CQ, QL.getD k zq = x := ⟨_, rfl⟩
      rw [hx] at c0 c1 c2 hq hat hno
      simp only at c0 c1 c2 hq hat hno
      have HQ := Lib.hid hq
      have HAT := Lib.hid hat
      have HNO := Lib.hid hno
      clear hC hkL hq hat hno hx
      cases hc : clB c
      · go_wp2_with (go_at_call 79; refine (sClause_v hc _ (HQ.out.step hb)).mono ?_; rintro e w1 ⟨rfl, hb2⟩)
        go_ret
        exact ⟨ret_bool (by rw [← HV.out, HNO.out hc]), (hs.step hb2).bel⟩
      · go_wp2_with (go_at_call 79; refine (sClause_v hc _ (HQ.out.step hb)).mono ?_; rintro e w1 ⟨rfl, hb2⟩)
        go_roundw
        case rel => exact ⟨k + 1, by omega, by go_num, by rw [HAT.out, hall.out, hc]; exact rfl, hs.step hb2⟩
        case measure => simp [intOf]; omega
    · obtain rfl : k = n := by omega
      have HF : Hid ((cls QL).all clB = true) := by
        have h := hall.out
        rw [List.take_of_length_le (by rw [cls_len, HN.out.1]; exact Nat.le_refl _)] at h
        exact h
      go_wp2
      go_ret
      exact ⟨ret_bool (by rw [← HV.out, HF.out]), hs.bel⟩

def txs (L : List Cl) : List ByteArray := L.map ctx
theorem txs_take {QL : List CQ} {k : Nat} (hk : k < QL.length) : txs ((cls QL).take (k + 1)) = txs ((cls QL).take k) ++ [ctx (QL.getD k zq).1] := by
  unfold txs; rw [List.take_add_one, cls_get hk, List.map_append]; rfl
end Go.Proofs.YtbkiogedipmioaaGreat.V
namespace Go.Proofs.YtbkiogedipmioaaGreat.V
open Go.RowKit Go.Joins M

/-- A frame of N slots of which some are told. -/
structure Fr (N : Nat) (A : Act) (l : List (Nat × Value)) : Prop where
  size : A.tmps.size = N
  has : ∀ p ∈ l, A.tmps[p.1]? = some p.2
theorem Fr.get {N : Nat} {A : Act} {l : List (Nat × Value)} (h : Fr N A l) {d : Nat} {v : Value} (hm : (d, v) ∈ l) : A.tmps[d]? = some v := h.has _ hm
theorem Fr.put {N : Nat} {A : Act} {l : List (Nat × Value)} (h : Fr N A l) {d : Nat} {v : Value} (hd : d < N) (hne : ∀ p ∈ l, p.1 ≠ d) : Fr N (A.put (some d) v) ((d, v) :: l) := by
  refine ⟨by simp [Act.put, h.size], fun p hp => ?_⟩
  rcases List.mem_cons.mp hp with rfl | hp
  · show (A.tmps.setIfInBounds d v)[d]? = some v
    rw [Array.getElem?_setIfInBounds_self_of_lt (by rw [h.size]; exact hd)]
  · show (A.tmps.setIfInBounds d v)[p.1]? = some p.2
    rw [Array.getElem?_setIfInBounds_ne (Ne.symm (hne p hp))]
    exact h.has p hp
section
variable {N : Nat} {ops : Array Oper} {C : World → Prop} {Q : Act → Prop} {A : Act} {o : Oper} {rest : List Oper} {l : List (Nat × Value)} {d e j : Nat} {v : Value} {want b : Bool}
theorem q_step (hf : Fr N A l) (hw : o.guard = none) (hd : o.dst = some d) (hlt : d < N) (hne : ∀ p ∈ l, p.1 ≠ d)
    (hq : ∀ w, C w → o.quietAt Tryz.prog A C w v) (k : ∀ A', A' = A.put (some d) v → Fr N A' ((d, v) :: l) → wpQuiet Tryz.prog ops C Q rest A') : wpQuiet Tryz.prog ops C Q (o :: rest) A :=
  BigFrame.wpQuiet_want (by simp [Region.wanted, hw]) (fun K hK => ⟨v, hq, hK _ (by rw [hd]; exact k _ rfl (hf.put hlt hne))⟩)
theorem q_want (hf : Fr N A l) (hg : o.guard = some (j, want)) (hj : (ops[j]?).bind (·.dst) = some e) (hv : (e, .bool want) ∈ l) (hd : o.dst = some d) (hlt : d < N) (hne : ∀ p ∈ l, p.1 ≠ d)
    (hq : ∀ w, C w → o.quietAt Tryz.prog A C w v) (k : ∀ A', A' = A.put (some d) v → Fr N A' ((d, v) :: l) → wpQuiet Tryz.prog ops C Q rest A') : wpQuiet Tryz.prog ops C Q (o :: rest) A :=
  BigFrame.wpQuiet_want (by rw [Region.wanted, hg]; simp [yielded, hj, hf.get hv]) (fun K hK => ⟨v, hq, hK _ (by rw [hd]; exact k _ rfl (hf.put hlt hne))⟩)
theorem q_skip (hf : Fr N A l) (hg : o.guard = some (j, want)) (hj : (ops[j]?).bind (·.dst) = some e) (hv : (e, .bool b) ∈ l) (hb : (b == want) = false)
    (hd : o.dst = some d) (hlt : d < N) (hne : ∀ p ∈ l, p.1 ≠ d) (k : ∀ A', A' = A.put (some d) undef → Fr N A' ((d, undef) :: l) → wpQuiet Tryz.prog ops C Q rest A') : wpQuiet Tryz.prog ops C Q (o :: rest) A :=
  BigFrame.wpQuiet_skip (by rw [Region.wanted, hg]; simp [yielded, hj, hf.get hv]; simpa using hb) (by rw [hd]; exact k _ rfl (hf.put hlt hne))
theorem q_skipU (hf : Fr N A l) (hg : o.guard = some (j, want)) (hj : (ops[j]?).bind (·.dst) = some e) (hv : (e, undef) ∈ l)
    (hd : o.dst = some d) (hlt : d < N) (hne : ∀ p ∈ l, p.1 ≠ d) (k : ∀ A', A' = A.put (some d) undef → Fr N A' ((d, undef) :: l) → wpQuiet Tryz.prog ops C Q rest A') : wpQuiet Tryz.prog ops C Q (o :: rest) A :=
  BigFrame.wpQuiet_skip (by rw [Region.wanted, hg]; simp [yielded, hj, hf.get hv, undef]) (by rw [hd]; exact k _ rfl (hf.put hlt hne))
end
theorem q_intro {ops : Array Oper} {C : World → Prop} {Q : Act → Prop} {os : List Oper} {A0 : Act} (h : ∀ A, A = A0 → wpQuiet Tryz.prog ops C Q os A) : wpQuiet Tryz.prog ops C Q os A0 := h _ rfl
end Go.Proofs.YtbkiogedipmioaaGreat.V
namespace Go.Proofs.YtbkiogedipmioaaGreat.V
open Go.RowKit Go.Joins M
attribute [local go_sem] Oper.semAt_some

/-- A paper's own struct. -/
structure Pw where
  s : Sv
  tn : Int
  tag : Int
def kW : Kd Pw := ⟨71, 3, fun q => [.slice q.s.p q.s.n q.s.c, .int .i64 q.tn, .int .i64 q.tag], fun _ => rfl⟩
theorem ow_some {α : Type} {K : Kd α} {W : World} {base n c : Nat} {p : Option Addr} {L : List α} (h : OwG K W base (.slice p n c) L) (h0 : 0 < n) : ∃ g, p = some ⟨g, 0, none⟩ := by
  obtain ⟨g, off, rfl, _⟩ := (OwG.sl h).at (k := 0) (by have := OwG.len h; omega)
  have hz := OwG.zero h
  subst hz
  exact ⟨g, rfl⟩
theorem dg_size {n : Int} (h : tenB n = true) : (dgS n).size ≤ 200 := by
  have hb : 1 ≤ n ∧ n ≤ 99 := by unfold tenB at h; exact of_decide_eq_true h
  have := itoa_len (n := n) (k := 2) (by omega) (by omega) (by omega)
  unfold dgS; rw [txA_size]; omega
end Go.Proofs.YtbkiogedipmioaaGreat.V
namespace Go.Proofs.YtbkiogedipmioaaGreat.V
open Go.RowKit Go.Joins M
attribute [local go_sem] Oper.semAt_some

theorem heldAs_any (tn tag : Int) (p : Option Addr) (n cap : Nat) (w : World) :
    Calls Tryz.prog 32 #[.agg #[.int .i64 tn, .slice p n cap, .int .i64 tag]] w fun e w' => e = .returned (.agg #[.slice p n cap, .int .i64 tn, .int .i64 tag]) ∧ Below w.heap.size w w' := by
  go_enter Tryz.func32, Tryz.ntmps32
  go_wp2
  refine bodyPost_ret (v := .agg #[.slice p n cap, .int .i64 tn, .int .i64 tag]) (by simp [results, Tryz.results32, go_sem]) rfl ⟨rfl, ?_⟩
  exact below_alloc2 _ _ _
/-- Is the Tag the chain by this key? -/
def genB (key tn : Int) (L : List Cl) (tag : Int) : Bool := ppB tn L tag && (tag == chI key (dgS tn :: txs L))
theorem ppB_t {tn tag : Int} {L : List Cl} (h : ppB tn L tag = true) : tenB tn = true ∧ (1 ≤ L.length ∧ L.length ≤ 6) ∧ L.all clB = true ∧ inB tag = true := by
  unfold ppB clsB at h
  rw [Bool.and_eq_true, Bool.and_eq_true, Bool.and_eq_true, decide_eq_true_iff] at h
  exact ⟨h.1, h.2.1.1, h.2.1.2, h.2.2⟩
/-- What the spec folds. -/
def hsF (h : Int) (s : ByteArray) : Int := hs s h (s.size + 7)
theorem fold_hs : ∀ {L : List ByteArray} {key : Int}, inB key = true → (∀ s ∈ L, s.size ≤ 200) → L.foldl lnI key = L.foldl hsF key ∧ inB (L.foldl hsF key) = true
  | [], key, hk, _ => ⟨rfl, hk⟩
  | s :: t, key, hk, hs => by
    obtain ⟨e1, e2⟩ := lnI_in hk (hs s (List.mem_cons_self ..))
    have ih := fold_hs (L := t) (key := lnI key s) e2 fun x hx => hs x (List.mem_cons_of_mem _ hx)
    have e3 : hsF key s = lnI key s := e1.symm
    rw [List.foldl_cons, List.foldl_cons, e3]
    exact ih
theorem chI_hs {key : Int} {L : List ByteArray} (hk : inB key = true) (hl : L.length ≤ 10) (hs : ∀ s ∈ L, s.size ≤ 200) : chI key L = L.foldl hsF key := by
  unfold chI; rw [if_pos ⟨hk, hl⟩, (fold_hs hk hs).1]
theorem tx_small (c : Cl) : (ctx c).size ≤ 200 := by have := ctx_size c; omega
theorem hsF_take {QL : List CQ} {k : Nat} {h0 : Int} (hk : k < QL.length) : (txs ((cls QL).take (k + 1))).foldl hsF h0 = hsF ((txs ((cls QL).take k)).foldl hsF h0) (ctx (QL.getD k zq).1) := by
  rw [txs_take hk, List.foldl_append]; rfl
theorem genB_no {key tn tag : Int} {L : List Cl} (hk : inB key = false) : genB key tn L tag = false := by
  unfold genB
  cases hv : ppB tn L tag
  · rfl
  · obtain ⟨_, _, _, h4⟩ := ppB_t hv
    have hb := inB_t.mp h4
    have e : chI key (dgS tn :: txs L) = -1 := by unfold chI; rw [if_neg (fun h => by rw [hk] at h; cases h.1)]
    rw [e, Bool.true_and]
    exact beq_false_of_ne (by omega)
end Go.Proofs.YtbkiogedipmioaaGreat.V
