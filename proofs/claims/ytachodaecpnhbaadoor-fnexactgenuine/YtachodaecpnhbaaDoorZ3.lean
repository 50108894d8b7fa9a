/-
  Papers compared; the law of Genuine, walked.
-/
import Derived.Test.YtachodaecpnhbaaDoorZ2
namespace Go.Proofs.YtachodaecpnhbaaDoor
open Go.Shelf Go.RowKit Go.Joins
attribute [local go_sem] Oper.semAt_some

theorem Sg.rdS {w W : World} {rs : List Rw} {p : Option Addr} {n c : Nat} {QL : List CQ} (h : Sg w W rs) (hs : smQ QL) (hm : ∀ r ∈ trX (.slice p n c) QL [], r ∈ rs) : RdS W p QL := by
  refine ⟨OwG.sl (h.mem (K := kQ) (v := .slice p n c) (L := QL) (hm _ (by simp [trX]))), fun q hq => h.rdQ (fun r hr => hm r ?_) (hs q hq).1 (hs q hq).2⟩
  unfold trX
  exact List.mem_cons_of_mem _ (List.mem_flatMap.mpr ⟨q, hq, hr⟩)
set_option maxRecDepth 100000 in
set_option maxHeartbeats 2000000 in
theorem eqClauseS_same (p q : Option Addr) (cap cap' : Nat) (A B : List CQ) (n : Nat) (hn : A.length = n) (he : cls A = cls B) (hb : n ≤ 10000000) (w : World) (hp : RdS w p A) (hq : RdS w q B) :
    Calls Tryd.prog 33 #[.slice p n cap, .slice q n cap'] w fun e w' => e = .returned (.bool true) ∧ Below w.heap.size w w' := by
  have hBl : B.length = n := by have := congrArg List.length he; rw [cls_len, cls_len] at this; omega
  have HH : Hid (A.length = n ∧ B.length = n ∧ cls A = cls B ∧ RdS w p A ∧ RdS w q B) := ⟨hn, hBl, he, hp, hq⟩
  clear hn hBl he hp hq
  go_enter Tryd.func33, Tryd.ntmps33
  go_wp2
  go_loopw [5] (fun i wr => ∃ k : Nat, k ≤ n ∧ i = .int .i64 k ∧ Below w.heap.size w wr) (fun i _ => n - (intOf i).toNat)
  case atStart => exact ⟨0, by omega, rfl, Below.refl _ _⟩
  case round =>
    obtain ⟨k, hk, rfl, hb1⟩ := hrel
    by_cases hlt : k < n
    · have hki : (k : Int) < n := by omega
      obtain ⟨a1, a2, a3, a4, a5⟩ := HH.out
      have hkA : k < A.length := by omega
      have hkB : k < B.length := by omega
      obtain ⟨g, off, rfl, hC⟩ := (a4.1.step hb1).at hkA
      obtain ⟨g2, off2, rfl, hC2⟩ := (a5.1.step hb1).at hkB
      obtain ⟨c0, c1, c2⟩ := hC.q3 (getQ hkA)
      obtain ⟨d0, d1, d2⟩ := hC2.q3 (getQ hkB)
      have r1 := a4.2 _ (List.mem_of_getElem? (getQ hkA))
      have r2 := a5.2 _ (List.mem_of_getElem? (getQ hkB))
      have hab : (A.getD k zq).1 = (B.getD k zq).1 := by
        have h1 := cls_get hkA
        have h2 := cls_get hkB
        rw [a3, h2] at h1
        exact (Option.some.inj h1).symm
      obtain ⟨⟨c, s, t⟩, hx⟩ : ∃ x : CQ, A.getD k zq = x := ⟨_, rfl⟩
      obtain ⟨⟨c', s', t'⟩, hy⟩ : ∃ x : CQ, B.getD k zq = x := ⟨_, rfl⟩
      rw [hx] at c0 c1 c2 r1 hab
      rw [hy] at d0 d1 d2 r2 hab
      simp only at c0 c1 c2 d0 d1 d2 r1 r2 hab
      subst hab
      have HE : Hid (∀ W, Below w.heap.size w W → Calls Tryd.prog 9 #[.agg #[.slice s.p s.n s.c, .slice t.p t.n t.c, .int .i64 c.un], .agg #[.slice s'.p s'.n s'.c, .slice t'.p t'.n t'.c, .int .i64 c.un]] W fun e w' => e = .returned (.bool true) ∧ Below W.heap.size W w') := fun W h => eqClause_same c s t s' t' W (r1.step h) (r2.step h)
      clear hC hC2 r1 r2 hx hy a1 a2 a3 a4 a5 hkA hkB
      go_wp2
      go_region_with ((go_at_call 9; refine (HE.out _ hb1.drew).mono ?_; rintro e w1 ⟨rfl, hb2⟩))
      all_goals
        go_wp2
        go_roundw
        case rel => exact ⟨k + 1, by omega, by go_num, bstep hb1.drew hb2 (Nat.le_refl _)⟩
        case measure => simp [intOf]; omega
    · obtain rfl : k = n := by omega
      go_wp2
      go_ret
      exact ⟨rfl, hb1⟩
set_option maxHeartbeats 1000000 in
theorem eqPaper_same (tn tag : Int) (p q : Option Addr) (cap cap' n : Nat) (A B : List CQ) (hn : A.length = n) (he : cls A = cls B) (hb : n ≤ 10000000) (w : World) (hp : RdS w p A) (hq : RdS w q B) :
    Calls Tryd.prog 14 #[.agg #[.int .i64 tn, .slice p n cap, .int .i64 tag], .agg #[.int .i64 tn, .slice q n cap', .int .i64 tag]] w fun e w' => e = .returned (.bool true) ∧ Below w.heap.size w w' := by
  have H1 : Hid (∀ W, Below w.heap.size w W → Calls Tryd.prog 33 #[.slice p n cap, .slice q n cap'] W fun e w' => e = .returned (.bool true) ∧ Below W.heap.size W w') := fun W h => eqClauseS_same p q cap cap' A B n hn he hb W (hp.step h) (hq.step h)
  have hst := ((St.nil w).push [.int .i64 tn, .slice p n cap, .int .i64 tag] 40).push [.int .i64 tn, .slice q n cap', .int .i64 tag] 40
  simp only [World.size_alloc] at hst
  clear hn he hp hq
  go_enter Tryd.func14, Tryd.ntmps14
  go_wp2_with (go_at_call 33; refine (H1.out _ hst.bel).mono ?_; rintro e w1 ⟨rfl, hb2⟩; have hs1 := hst.step hb2; have hk := hs1.has; simp [Has, HasAt] at hk)
  go_ret
  exact ⟨rfl, hs1.bel⟩

set_option maxRecDepth 100000 in
set_option maxHeartbeats 4000000 in
theorem exactGenuine (key tn tag : Int) (p : Option Addr) (n cap : Nat) (QL : List CQ) (hn : QL.length = n) (hm : n ≤ maxLen) (hp : ∀ q ∈ QL, q.2.1.n ≤ maxLen ∧ q.2.2.n ≤ maxLen) (w : World) (hR : RdLS w p QL) (hT : TB w) :
    Calls Tryd.prog 4 #[.int .i64 key, .agg #[.int .i64 tn, .slice p n cap, .int .i64 tag]] w fun e w' => e = .returned (.bool true) ∧ Below w.heap.size w w' := by
  have hS0 := (Sg.nil w).lit kLP [⟨tn, ⟨p, n, cap⟩, tag⟩] 1 rfl (by decide) #[.int .i64 tn, .slice p n cap, .int .i64 tag] rfl
  change Sg w (w.alloc (.cells #[.int .i64 tn, .slice p n cap, .int .i64 tag] 35)) _ at hS0
  have HZ := szPaper_any p n cap tn tag QL hn hm 1048576 (by omega) (by omega) (w.alloc (.cells #[.int .i64 tn, .slice p n cap, .int .i64 tag] 35)) (hR.1.step hS0.bel) hp
  have HH : Hid (RdLS w p QL ∧ QL.length = n) := ⟨hR, hn⟩
  clear hR hn hm hp
  go_enter Tryd.func4, Tryd.ntmps4
  go_upto_region 3 with (go_at_call 10; refine HZ.mono ?_; rintro e w1 ⟨r, rfl, hr, hb1⟩; have hS1 := hS0.step hb1)
  by_cases hneg : r < 0
  · go_wp2
    go_ret
    exact ⟨rfl, hS1.bel⟩
  obtain ⟨_, _, hn1, hsm⟩ : 0 ≤ r ∧ r ≤ 1048576 ∧ n ≤ 1048576 ∧ smQ QL := by
    rcases hr with hr | hr
    · omega
    · exact hr
  have hnb : n ≤ 10000000 := by omega
  have HTC : Hid (∀ W, Below w.heap.size w W → Calls Tryd.prog 12 #[.agg #[.int .i64 tn, .slice p n cap, .int .i64 tag]] W fun e w' => ∃ g QL', e = .returned (.agg #[.int .i64 tn, .slice (some ⟨g, 0, none⟩) n n, .int .i64 tag]) ∧ cls QL' = cls QL ∧ smQ QL' ∧ Sg W w' (trX (.slice (some ⟨g, 0, none⟩) n n) QL' [])) := fun W h => toPaper_any p n cap tn tag QL HH.out.2 hn1 hsm W (HH.out.1.step h)
  have HLN : ∀ X : List CQ, cls X = cls QL → X.length = n := fun X h => by have := congrArg List.length h; rw [cls_len, cls_len, HH.out.2] at this; exact this
  have H11 : Hid (∀ W rs g X, Sg w W rs → cls X = cls QL → smQ X → (∀ r ∈ trX (.slice (some ⟨g, 0, none⟩) n n) X [], r ∈ rs) → Calls Tryd.prog 11 #[.int .i64 key, .agg #[.int .i64 tn, .slice (some ⟨g, 0, none⟩) n n, .int .i64 tag]] W fun e w' => e = .returned (.bool (genB key tn (cls QL) tag)) ∧ Below W.heap.size W w') := fun W rs g X hS hx hsx hm => hx ▸ sGenuine_any key tn tag (some ⟨g, 0, none⟩) n n X (HLN X hx) hnb W (hS.rdS (n := n) (c := n) hsx hm)
  have H13 : Hid (∀ W rs g X, Sg w W rs → cls X = cls QL → smQ X → (∀ r ∈ trX (.slice (some ⟨g, 0, none⟩) n n) X [], r ∈ rs) → Calls Tryd.prog 13 #[.int .i64 key, .agg #[.int .i64 tn, .slice (some ⟨g, 0, none⟩) n n, .int .i64 tag]] W fun e w' => e = .returned (.bool (genB key tn (cls QL) tag)) ∧ Below W.heap.size W w') := fun W rs g X hS hx hsx hm => hx ▸ iGenuine_any key tn tag (some ⟨g, 0, none⟩) n n X (HLN X hx) hnb W (hS.rdS (n := n) (c := n) hsx hm) (hT.step hS.bel)
  have H14 : Hid (∀ W rs g X g' X', Sg w W rs → cls X = cls QL → smQ X → cls X' = cls QL → smQ X' → (∀ r ∈ trX (.slice (some ⟨g, 0, none⟩) n n) X [], r ∈ rs) → (∀ r ∈ trX (.slice (some ⟨g', 0, none⟩) n n) X' [], r ∈ rs) → Calls Tryd.prog 14 #[.agg #[.int .i64 tn, .slice (some ⟨g, 0, none⟩) n n, .int .i64 tag], .agg #[.int .i64 tn, .slice (some ⟨g', 0, none⟩) n n, .int .i64 tag]] W fun e w' => e = .returned (.bool true) ∧ Below W.heap.size W w') := fun W rs g X g' X' hS hx hsx hx' hsx' hm hm' => eqPaper_same tn tag (some ⟨g, 0, none⟩) (some ⟨g', 0, none⟩) n n n X X' (HLN X hx) (hx.trans hx'.symm) hnb W (hS.rdS (n := n) (c := n) hsx hm) (hS.rdS (n := n) (c := n) hsx' hm')
  obtain ⟨v, hv⟩ : ∃ v, genB key tn (cls QL) tag = v := ⟨_, rfl⟩
  rw [hv] at H11 H13
  clear hv hr HLN hsm HH
  have f0 : True := trivial
  obtain ⟨x0, x1, x2, _, xg⟩ := hS1.three (K := kLP) (g := w.heap.size) (n := 1) (p := ⟨tn, ⟨p, n, cap⟩, tag⟩) (by simp) rfl
  cases v
  all_goals
    go_upto_region 10 with (first
      | (go_at_call 12; clear f0; refine (HTC.out _ hS1.bel).mono ?_; rintro e w2 ⟨g2, X2, rfl, hx2, hs2, hw2⟩; have hS2 := hS1.addL hw2)
      | (go_at_call 11; refine (H11.out _ _ g2 X2 hS2 hx2 hs2 (fun r hr => List.mem_append_left _ hr)).mono ?_; rintro e w3 ⟨rfl, hb3⟩; have hS3 := hS2.step hb3; clear x0 x1 x2 xg; obtain ⟨x0, x1, x2, _, xg⟩ := hS3.three (K := kLP) (g := w.heap.size) (n := 1) (p := ⟨tn, ⟨p, n, cap⟩, tag⟩) (by simp) rfl)
      | (go_at_call 12; refine (HTC.out _ hS3.bel).mono ?_; rintro e w4 ⟨g4, X4, rfl, hx4, hs4, hw4⟩; have hS4a := hS3.addL hw4; have hS4 := hS4a.lit kP [⟨tn, ⟨some ⟨g4, 0, none⟩, n, n⟩, tag⟩] 1 rfl (by decide) #[.int .i64 tn, .slice (some ⟨g4, 0, none⟩) n n, .int .i64 tag] rfl; change Sg w (w4.alloc (.cells #[.int .i64 tn, .slice (some ⟨g4, 0, none⟩) n n, .int .i64 tag] 40)) _ at hS4)
      | (go_at_call 13; refine (H13.out _ _ g4 X4 hS4 hx4 hs4 (fun r hr => List.mem_cons_of_mem _ (List.mem_append_left _ hr))).mono ?_; rintro e w5 ⟨rfl, hb5⟩; have hS5 := hS4.step hb5; clear x0 x1 x2 xg; obtain ⟨x0, x1, x2, _, xg⟩ := hS5.three (K := kLP) (g := w.heap.size) (n := 1) (p := ⟨tn, ⟨p, n, cap⟩, tag⟩) (by simp) rfl; obtain ⟨u0, u1, u2, _, ug⟩ := hS5.three (K := kP) (g := w4.heap.size) (n := 1) (p := ⟨tn, ⟨some ⟨g4, 0, none⟩, n, n⟩, tag⟩) (by simp) rfl))
    generalize w4.heap.size = b4 at *
    go_region_with (first
      | (go_at_call 12; refine (HTC.out _ hS5.bel.drew).mono ?_; rintro e w6 ⟨g6, X6, rfl, hx6, hs6, hw6⟩; have hy := (hS5.step (Below.refl _ _).drew).addL hw6; clear u0 u1 u2 ug; obtain ⟨u0, u1, u2, _, ug⟩ := hy.three (K := kP) (g := b4) (n := 1) (p := ⟨tn, ⟨some ⟨g4, 0, none⟩, n, n⟩, tag⟩) (by simp) rfl)
      | (go_at_call 14; refine (H14.out _ _ g4 X4 g6 X6 hy hx4 hs4 hx6 hs6 (fun r hr => List.mem_append_right _ (List.mem_cons_of_mem _ (List.mem_append_left _ hr))) (fun r hr => List.mem_append_left _ hr)).mono ?_; rintro e w7 ⟨rfl, hb7⟩; replace hy := hy.step hb7))
    all_goals
      go_wp2
      go_ret
      exact ⟨rfl, hy.bel⟩
end Go.Proofs.YtachodaecpnhbaaDoor
