/-
  Papers: the mathematics of the law; Papers that are alike; Spots picked.
-/
import Derived.Test.YtkinbgcnenieeaaGreatDoorDC5
import Derived.Test.YtkinbgcnenieeaaGreatDoorAL2
import Derived.Laws.StructEq
namespace Go.Proofs.YtkinbgcnenieeaaGreatDoor
open Go.RowKit Go.Joins M
attribute [local go_sem] Oper.semAt_some

theorem genB_mint {key tn : Int} {c : Cl} (h : mintB key tn c = true) : genB key tn [c] (mtag key tn c) = true := by
  unfold mintB at h
  rw [Bool.and_eq_true, Bool.and_eq_true] at h
  obtain ⟨h1, h2, h3⟩ := h
  have hin : inB (mtag key tn c) = true := (fold_hs (L := [tx c]) (mt_in h3 h1) (fun s hs => by simp at hs; subst hs; have := tx_size h2; omega)).2
  unfold genB
  rw [ppB_one, h1, h2, hin, mt_chain h1 h2 h3]
  simp
theorem genB_tag {key tn : Int} {L : List Cl} {tag : Int} (h : genB key tn L tag = true) : tag = chI key (dgS tn :: txs L) := by
  unfold genB at h
  rw [Bool.and_eq_true] at h
  exact eq_of_beq h.2
theorem genB_uniq {key tn : Int} {L : List Cl} {a b : Int} (ha : genB key tn L a = true) (hne : b ≠ a) : genB key tn L b = false := by
  cases hb : genB key tn L b
  · rfl
  · exact absurd ((genB_tag hb).trans (genB_tag ha).symm) hne
theorem genB_key {key tn : Int} {L : List Cl} {tag : Int} (h : genB key tn L tag = true) : inB key = true := by
  cases hk : inB key
  · rw [genB_no hk] at h; cases h
  · rfl
theorem genB_nar {key tn : Int} {L : List Cl} {tag : Int} {c : Cl} (h : genB key tn L tag = true) (hn : narB tn L tag c = true) : genB key tn (L ++ [c]) (hsF tag (tx c)) = true := by
  have hk := genB_key h
  have ht := genB_tag h
  unfold narB at hn
  rw [Bool.and_eq_true, Bool.and_eq_true, decide_eq_true_iff] at hn
  obtain ⟨hp, hc, h6⟩ := hn
  obtain ⟨p1, p2, p3, p4⟩ := ppB_t hp
  have htx := tx_size hc
  have hin : inB (hsF tag (tx c)) = true := (fold_hs (L := [tx c]) p4 (fun s hs => by simp at hs; subst hs; omega)).2
  have hpp : ppB tn (L ++ [c]) (hsF tag (tx c)) = true := by
    unfold ppB clsB
    rw [p1, hin, List.all_append, p3]
    simp [hc]
    omega
  have e : ctx c = tx c := by unfold ctx; rw [if_pos hc]
  have small : ∀ K : List Cl, ∀ s ∈ dgS tn :: txs K, s.size ≤ 200 := fun K s hs => by
    rcases List.mem_cons.mp hs with rfl | hs
    · exact dg_size p1
    · unfold txs at hs; obtain ⟨x, _, rfl⟩ := List.mem_map.mp hs; exact tx_small x
  rw [chI_hs hk (by unfold txs; simp; omega) (small L)] at ht
  unfold genB
  rw [hpp, chI_hs hk (by unfold txs; simp; omega) (small (L ++ [c])), Bool.true_and]
  have e2 : txs (L ++ [c]) = txs L ++ [tx c] := by unfold txs; rw [List.map_append]; simp [e]
  rw [e2, ← List.cons_append, List.foldl_append, ← ht]
  simp
theorem alB_nar {tn : Int} {L : List Cl} {tag tag' : Int} {c : Cl} {x y : Int} {b : Bool} {now : Int} (hn : narB tn L tag c = true) (h : alB tn (L ++ [c]) tag' x y b now = true) : alB tn L tag x y b now = true := by
  unfold narB at hn
  rw [Bool.and_eq_true] at hn
  unfold alB at h ⊢
  rw [Bool.and_eq_true, Bool.and_eq_true, Bool.and_eq_true, List.all_append, List.all_append, Bool.and_eq_true, Bool.and_eq_true] at h
  rw [hn.1, h.2.1, h.2.2.1.1, h.2.2.2.1]
  rfl

set_option maxHeartbeats 1000000 in
theorem likeCells_same (p q : Option Addr) (cap cap' n : Nat) (L : List T3) (hn : L.length = n) (w : World) (hp : SlG kC w p L) (hq : SlG kC w q L) (hb0 : n ≤ 10000000) :
    Calls Tryz.prog 41 #[.slice p n cap, .slice q n cap'] w fun e w' => e = .returned (.bool true) ∧ Below w.heap.size w w' := by
  have HN : Hid (L.length = n) := hn
  clear hn
  go_enter Tryz.func41, Tryz.ntmps41
  go_wp2
  go_loopw [5] (fun i wr => ∃ k : Nat, k ≤ n ∧ i = .int .i64 k ∧ Below w.heap.size w wr) (fun i _ => n - (intOf i).toNat)
  case atStart => exact ⟨0, by omega, rfl, Below.refl _ _⟩
  case round =>
    obtain ⟨k, hk, rfl, hb⟩ := hrel
    by_cases hlt : k < n
    · have hki : (k : Int) < n := by omega
      have hkL : k < L.length := by rw [HN.out]; exact hlt
      obtain ⟨g1, o1, rfl, hC1⟩ := (hp.step hb).at hkL
      obtain ⟨g2, o2, rfl, hC2⟩ := (hq.step hb).at hkL
      obtain ⟨c0, c1, c2⟩ := hC1.c3 (getC hkL)
      obtain ⟨d0, d1, d2⟩ := hC2.c3 (getC hkL)
      generalize L.getD k z3 = m at c0 c1 c2 d0 d1 d2
      clear hC1 hC2
      go_wp2
      go_quiet (fail)
      go_wp2
      go_roundw
      case rel => exact ⟨k + 1, by omega, by go_num, below_drewN hb _⟩
      case measure => simp [intOf]; omega
    · obtain rfl : k = n := by omega
      go_wp2
      go_ret
      exact ⟨rfl, hb⟩
set_option maxRecDepth 100000 in
set_option maxHeartbeats 4000000 in
theorem likePaper_same (tn tag : Int) (p q : Option Addr) (cap cap' n : Nat) (A B : List CQ) (hn : A.length = n) (he : cls A = cls B) (hb0 : n ≤ 10000000) (w : World) (hp : RdS w p A) (hq : RdS w q B) :
    Calls Tryz.prog 11 #[.agg #[.int .i64 tn, .slice p n cap, .int .i64 tag], .agg #[.int .i64 tn, .slice q n cap', .int .i64 tag]] w fun e w' => e = .returned (.bool true) ∧ Below w.heap.size w w' := by
  have hBl : B.length = n := by have := congrArg List.length he; rw [cls_len, cls_len] at this; omega
  have HH : Hid (A.length = n ∧ B.length = n ∧ cls A = cls B ∧ RdS w p A ∧ RdS w q B) := ⟨hn, hBl, he, hp, hq⟩
  have hst := ((St.nil w).push [.int .i64 tn, .slice p n cap, .int .i64 tag] 26).push [.int .i64 tn, .slice q n cap', .int .i64 tag] 26
  simp only [World.size_alloc] at hst
  clear hn hBl he hp hq
  go_enter Tryz.func11, Tryz.ntmps11
  go_wp2
  go_loopw [5, 6, 7] (fun i _ _ wr => ∃ k : Nat, k ≤ n ∧ i = .int .i64 k ∧ St w wr [(w.heap.size + 1, [.int .i64 tn, .slice q n cap', .int .i64 tag]), (w.heap.size, [.int .i64 tn, .slice p n cap, .int .i64 tag])]) (fun i _ _ _ => n - (intOf i).toNat)
  case atStart => exact ⟨0, by omega, rfl, hst⟩
  case round =>
    clear hst
    obtain ⟨k, hk, rfl, hs⟩ := hrel
    have hkk := hs.has
    simp [Has, HasAt] at hkk
    by_cases hlt : k < n
    · have hki : (k : Int) < n := by omega
      obtain ⟨a1, a2, a3, a4, a5⟩ := HH.out
      have hkA : k < A.length := by omega
      have hkB : k < B.length := by omega
      obtain ⟨g, off, rfl, hC⟩ := (a4.1.step hs.bel).at hkA
      obtain ⟨g2, off2, rfl, hC2⟩ := (a5.1.step hs.bel).at hkB
      obtain ⟨c0, c1, c2⟩ := hC.q3 (getQ hkA)
      obtain ⟨d0, d1, d2⟩ := hC2.q3 (getQ hkB)
      have hC2' := (hC2.step (below_alloc1 wr (.cells #[.slice (A.getD k zq).2.1.p (A.getD k zq).2.1.n (A.getD k zq).2.1.c, .slice (A.getD k zq).2.2.p (A.getD k zq).2.2.n (A.getD k zq).2.2.c, .int .i64 (A.getD k zq).1.un] 29))).q3 (getQ hkB)
      have r1 := a4.2 _ (List.mem_of_getElem? (getQ hkA))
      have r2 := a5.2 _ (List.mem_of_getElem? (getQ hkB))
      have hab : (A.getD k zq).1 = (B.getD k zq).1 := by
        have h1 := cls_get hkA
        have h2 := cls_get hkB
        rw [a3, h2] at h1
        exact (Option.some.inj h1).symm
      obtain ⟨⟨c, s, t⟩, hx⟩ : ∃ x : CQ, A.getD k zq = x := ⟨_, rfl⟩
      obtain ⟨⟨c', s', t'⟩, hy⟩ : ∃ x : CQ, B.getD k zq = x := ⟨_, rfl⟩
      rw [hx] at c0 c1 c2 r1 hab hC2'
      rw [hy] at d0 d1 d2 r2 hab hC2'
      simp only at c0 c1 c2 d0 d1 d2 r1 r2 hab hC2'
      subst hab
      have hs2 := (hs.push [.slice s.p s.n s.c, .slice t.p t.n t.c, .int .i64 c.un] 29).push [.slice s'.p s'.n s'.c, .slice t'.p t'.n t'.c, .int .i64 c.un] 29
      simp only [World.size_alloc] at hs2
      have H1 : Hid (∀ W, Below w.heap.size w W → Calls Tryz.prog 41 #[.slice s.p s.n s.c, .slice s'.p s'.n s'.c] W fun e w' => e = .returned (.bool true) ∧ Below W.heap.size W w') := fun W h => by
        have e1 := r1.n1; have e2 := r2.n1; have := r1.b1
        rw [← e2, e1]; exact likeCells_same s.p s'.p s.c s'.c s.n c.rd e1 W (r1.r1.step h) (r2.r1.step h) this
      have H2 : Hid (∀ W, Below w.heap.size w W → Calls Tryz.prog 41 #[.slice t.p t.n t.c, .slice t'.p t'.n t'.c] W fun e w' => e = .returned (.bool true) ∧ Below W.heap.size W w') := fun W h => by
        have e1 := r1.n2; have e2 := r2.n2; have := r1.b2
        rw [← e2, e1]; exact likeCells_same t.p t'.p t.c t'.c t.n c.wr e1 W (r1.r2.step h) (r2.r2.step h) this
      obtain ⟨d0', d1', d2'⟩ := hC2'
      clear hC hC2 r1 r2 hx hy a1 a2 a3 a4 a5 hkA hkB
      have f0 : True := trivial
      go_wp2_with (first
        | (go_at_call 41; clear f0; refine (H1.out _ hs2.bel).mono ?_; rintro e w1 ⟨rfl, hb1⟩; have hs3 := hs2.step hb1; clear hkk; have hkk := hs3.has; simp [Has, HasAt] at hkk)
        | (go_at_call 41; refine (H2.out _ hs3.bel).mono ?_; rintro e w2 ⟨rfl, hb2⟩; have hs4 := hs3.step hb2))
      go_roundw
      case rel => exact ⟨k + 1, by omega, by go_num, hs4.sub (by simp)⟩
      case measure => simp [intOf]; omega
    · obtain rfl : k = n := by omega
      go_wp2
      go_ret
      exact ⟨rfl, hs.bel⟩
set_option maxHeartbeats 1000000 in
theorem spotN (a : Option Addr) (len cap : Nat) (zs : List Int) (seed m : Int) (g : Nat) (w : World) (hl : len ≤ 4096) (hr : Rd w g a len zs) (hs1 : 0 ≤ seed) (hs2 : seed ≤ 100) (hm : 1 ≤ m) :
    Calls Tryz.prog 17 #[.slice a len cap, .int .i64 seed, .int .i64 m] w fun e w' => ∃ x y : Int, e = .returned (.agg #[.int .i64 x, .int .i64 y]) ∧ Below w.heap.size w w' := by
  have HR : Hid (Rd (w.alloc (.cells #[.int .i64 0, .int .i64 0] 43)) (g + w.heap.size) a len zs) := hr.up (below_alloc1 _ _) (by omega)
  clear hr
  have tok1 : True := trivial
  go_enter Tryz.func17, Tryz.ntmps17
  go_wp2_with (first
    | (go_at_call 47; have _t := tok1; clear _t tok1; refine (pick_any a len cap zs _ _ _ _ hl HR.out (by omega) (by omega) (by omega)).mono ?_; rintro e w1 ⟨x, rfl, hx0, hx1, rfl⟩)
    | (go_at_call 47; refine (pick_any a len cap zs _ _ _ _ hl HR.out (by omega) (by omega) (by omega)).mono ?_; rintro e w2 ⟨y, rfl, hy0, hy1, rfl⟩))
  refine bodyPost_ret (v := .agg #[.int .i64 x, .int .i64 y]) (by simp [results, Tryz.results17, go_sem]) rfl ⟨_, _, rfl, ?_⟩
  exact below_alloc1 _ _
end Go.Proofs.YtkinbgcnenieeaaGreatDoor
