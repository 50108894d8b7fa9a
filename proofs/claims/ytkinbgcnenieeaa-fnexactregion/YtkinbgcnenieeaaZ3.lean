/-
  Papers compared; the law of Genuine, walked.
-/
import Derived.Test.YtkinbgcnenieeaaZ2
namespace Go.Proofs.Ytkinbgcnenieeaa
open Go.Shelf Go.RowKit Go.Joins M
attribute [local go_sem] Oper.semAt_some

theorem Sg.rdS {w W : World} {rs : List Rw} {p : Option Addr} {n c : Nat} {QL : List CQ} (h : Sg w W rs) (hs : smQ QL) (hm : ∀ r ∈ trX (.slice p n c) QL [], r ∈ rs) : RdS W p QL := by
  refine ⟨OwG.sl (h.mem (K := kQ) (v := .slice p n c) (L := QL) (hm _ (by simp [trX]))), fun q hq => h.rdQ (fun r hr => hm r ?_) (hs q hq).1 (hs q hq).2⟩
  unfold trX
  exact List.mem_cons_of_mem _ (List.mem_flatMap.mpr ⟨q, hq, hr⟩)
set_option maxRecDepth 100000 in
set_option maxHeartbeats 2000000 in
theorem eqClauseS_same (p q : Option Addr) (cap cap' : Nat) (A B : List CQ) (n : Nat) (hn : A.length = n) (he : cls A = cls B) (hb : n ≤ 10000000) (w : World) (hp : RdS w p A) (hq : RdS w q B) :
    Calls Try.prog 28 #[.slice p n cap, .slice q n cap'] w fun e w' => e = .returned (.bool true) ∧ Below w.heap.size w w' := by
  have hBl : B.length = n := by have := congrArg List.length he; rw [cls_len, cls_len] at this; omega
  have HH : Hid (A.length = n ∧ B.length = n ∧ cls A = cls B ∧ RdS w p A ∧ RdS w q B) := ⟨hn, hBl, he, hp, hq⟩
  clear hn hBl he hp hq
  go_enter Try.func28, Try.ntmps28
  go_wp2
  go_loopw [5] (fun i wr => ∃ k : Nat, k ≤ n ∧ i = .int .i64 k ∧ Below w.heap.size w wr) (fun i _ => n - (intOf i).toNat)
  case atStart => exact ⟨0, by omega, rfl, Below.refl _ _⟩
  case round =>
    obtain ⟨k, hk, rfl, hb1⟩ := hrel
    by_cases hlt : k < n
    · have hki : (k : Int) < n := by omega
      obtain ⟨a1, a2, a3, a4, a5⟩ := HH.out
      have hkA : k < A.length := by omega
      have hkB : k < B.length := by omega
      obtain ⟨g, off, rfl, hC⟩ := (a4.1.step hb1).at hkA
      obtain ⟨g2, off2, rfl, hC2⟩ := (a5.1.step hb1).at hkB
      obtain ⟨c0, c1, c2⟩ := hC.q3 (getQ hkA)
      obtain ⟨d0, d1, d2⟩ := hC2.q3 (getQ hkB)
      have r1 := a4.2 _ (List.mem_of_getElem? (getQ hkA))
      have r2 := a5.2 _ (List.mem_of_getElem? (getQ hkB))
      have hab : (A.getD k zq).1 = (B.getD k zq).1 := by
        have h1 := cls_get hkA
        have h2 := cls_get hkB
        rw [a3, h2] at h1
        exact (Option.some.inj h1).symm
      obtain ⟨⟨c, s, t⟩, hx⟩ : ∃ x : CQ, A.getD k zq = x := ⟨_, rfl⟩
      obtain ⟨⟨c', s', t'⟩, hy⟩ : ∃ x : CQ, B.getD k zq = x := ⟨_, rfl⟩
      rw [hx] at c0 c1 c2 r1 hab
      rw [hy] at d0 d1 d2 r2 hab
      simp only at c0 c1 c2 d0 d1 d2 r1 r2 hab
      subst hab
      have HE : Hid (∀ W, Below w.heap.size w W → Calls Try.prog 43 #[.agg #[.slice s.p s.n s.c, .slice t.p t.n t.c, .int .i64 c.un], .agg #[.slice s'.p s'.n s'.c, .slice t'.p t'.n t'.c, .int .i64 c.un]] W fun e w' => e = .returned (.bool true) ∧ Below W.heap.size W w') := fun W h => eqClause_same c s t s' t' W (r1.step h) (r2.step h)
      clear hC hC2 r1 r2 hx hy a1 a2 a3 a4 a5 hkA hkB
      go_wp2
      go_region_with ((go_at_call 43; refine (HE.out _ hb1.drew).mono ?_; rintro e w1 ⟨rfl, hb2⟩))
      all_goals
        go_wp2
        go_roundw
        case rel => exact ⟨k + 1, by omega, by go_num, bstep hb1.drew hb2 (Nat.le_refl _)⟩
        case measure => simp [intOf]; omega
    · obtain rfl : k = n := by omega
      go_wp2
      go_ret
      exact ⟨rfl, hb1⟩
set_option maxHeartbeats 1000000 in
theorem eqPaper_same (tn tag : Int) (p q : Option Addr) (cap cap' n : Nat) (A B : List CQ) (hn : A.length = n) (he : cls A = cls B) (hb : n ≤ 10000000) (w : World) (hp : RdS w p A) (hq : RdS w q B) :
    Calls Try.prog 10 #[.agg #[.int .i64 tn, .slice p n cap, .int .i64 tag], .agg #[.int .i64 tn, .slice q n cap', .int .i64 tag]] w fun e w' => e = .returned (.bool true) ∧ Below w.heap.size w w' := by
  have H1 : Hid (∀ W, Below w.heap.size w W → Calls Try.prog 28 #[.slice p n cap, .slice q n cap'] W fun e w' => e = .returned (.bool true) ∧ Below W.heap.size W w') := fun W h => eqClauseS_same p q cap cap' A B n hn he hb W (hp.step h) (hq.step h)
  have hst := ((St.nil w).push [.int .i64 tn, .slice p n cap, .int .i64 tag] 31).push [.int .i64 tn, .slice q n cap', .int .i64 tag] 31
  simp only [World.size_alloc] at hst
  clear hn he hp hq
  go_enter Try.func10, Try.ntmps10
  go_wp2_with (go_at_call 28; refine (H1.out _ hst.bel).mono ?_; rintro e w1 ⟨rfl, hb2⟩; have hs1 := hst.step hb2; have hk := hs1.has; simp [Has, HasAt] at hk)
  go_ret
  exact ⟨rfl, hs1.bel⟩

end Go.Proofs.Ytkinbgcnenieeaa
