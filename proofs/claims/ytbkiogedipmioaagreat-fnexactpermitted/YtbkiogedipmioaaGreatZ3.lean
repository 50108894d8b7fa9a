/-
  Papers compared; the law of Genuine, walked.
-/
import Derived.Test.YtbkiogedipmioaaGreatZ1
namespace Go.Proofs.YtbkiogedipmioaaGreat
open Go.Shelf Go.RowKit Go.Joins M
attribute [local go_sem] Oper.semAt_some

def smQ (QL : List CQ) : Prop := ∀ q ∈ QL, q.2.1.n ≤ 10000000 ∧ q.2.2.n ≤ 10000000
set_option maxRecDepth 100000 in
set_option maxHeartbeats 2000000 in
theorem szClauseS_any (p : Option Addr) (n cap : Nat) (QL : List CQ) (hn : QL.length = n) (hm : n ≤ maxLen) (z : Int) (h0 : 0 ≤ z) (h1 : z ≤ 1048576) (w : World) (hN : SlG kLQ w p QL) (hp : ∀ q ∈ QL, q.2.1.n ≤ maxLen ∧ q.2.2.n ≤ maxLen) :
    Calls Tryz.prog 52 #[.slice p n cap, .int .i64 z] w fun e w' => ∃ r, e = .returned (.int .i64 r) ∧ (r < 0 ∨ (0 ≤ r ∧ r ≤ 1048576 ∧ n ≤ 1048576 ∧ smQ QL)) ∧ Below w.heap.size w w' := by
  have hm' := hm
  unfold maxLen at hm'
  by_cases hzn : z < n
  · have h2 : z - (n : Int) < 0 := by omega
    clear hm
    go_enter Tryz.func52, Tryz.ntmps52
    go_wp2
    go_ret
    exact ⟨-1, rfl, .inl (by omega), Below.refl _ _⟩
  · have h2 : ¬ z - (n : Int) < 0 := by omega
    have hn1 : n ≤ 1048576 := by omega
    have HH : Hid (QL.length = n ∧ SlG kLQ w p QL ∧ ∀ q ∈ QL, q.2.1.n ≤ maxLen ∧ q.2.2.n ≤ maxLen) := ⟨hn, hN, hp⟩
    clear hn hN hp hm hm'
    go_enter Tryz.func52, Tryz.ntmps52
    go_wp2
    go_loopw [1, 5] (fun zv iv wr => ∃ (k : Nat) (y : Int), k ≤ n ∧ iv = .int .i64 k ∧ zv = .int .i64 y ∧ 0 ≤ y ∧ y ≤ 1048576 ∧ Hid (smQ (QL.take k)) ∧ Below w.heap.size w wr) (fun _ iv _ => n - (intOf iv).toNat)
    case atStart => exact ⟨0, z - n, by omega, rfl, rfl, by omega, by omega, fun q hq => by simp at hq, Below.refl _ _⟩
    case round =>
      obtain ⟨k, y, hk, rfl, rfl, hy0, hy1, hA, hb⟩ := hrel
      by_cases hlt : k < n
      · have hki : (k : Int) < n := by omega
        have hkL : k < QL.length := by rw [HH.out.1]; exact hlt
        obtain ⟨g, off, rfl, hC⟩ := (HH.out.2.1.step hb).at hkL
        obtain ⟨c0, c1, c2⟩ := hC.qL (getQ hkL)
        have hml := HH.out.2.2 _ (List.mem_of_getElem? (getQ hkL))
        have htk := take_getQ hkL
        obtain ⟨⟨c, s, t⟩, hx⟩ : ∃ x : CQ, QL.getD k zq = x := ⟨_, rfl⟩
        rw [hx] at c0 c1 c2 hml htk
        simp only at c0 c1 c2 hml
        have HS : Hid (∀ W, Calls Tryz.prog 88 #[.agg #[.slice s.p s.n s.c, .slice t.p t.n t.c, .int .i64 c.un], .int .i64 y] W fun e w' => ∃ r, e = .returned (.int .i64 r) ∧ szR y (s.n + t.n) r ∧ Below W.heap.size W w') := fun W => szClause_any s t c.un y hy0 hy1 hml.1 hml.2 W
        have HTK := Lib.hid htk
        clear hC hkL hml hx htk
        by_cases hye : y < (s.n + t.n : Nat)
        · go_wp2_with (go_at_call 88; refine (HS.out _).mono ?_; rintro ee w1 ⟨r, rfl, hr, hb2⟩; obtain rfl : r = -1 := by (rcases hr with hr | hr; exact hr.1; omega))
          go_ret
          exact ⟨-1, rfl, .inl (by omega), bstep hb hb2 (Nat.le_refl _)⟩
        · obtain ⟨y2, hy2⟩ : ∃ y2 : Int, y - (s.n + t.n : Nat) = y2 := ⟨_, rfl⟩
          have h3 : ¬ y2 < 0 := by omega
          have h4 : y2 ≤ 1048576 := by omega
          have HSM : Hid (s.n ≤ 10000000 ∧ t.n ≤ 10000000) := ⟨by omega, by omega⟩
          have HS2 : Hid (∀ W, Calls Tryz.prog 88 #[.agg #[.slice s.p s.n s.c, .slice t.p t.n t.c, .int .i64 c.un], .int .i64 y] W fun e w' => e = .returned (.int .i64 y2) ∧ Below W.heap.size W w') := fun W => (HS.out W).mono (by
            rintro e w1 ⟨r, rfl, hr, hb2⟩
            refine ⟨?_, hb2⟩
            rcases hr with hr | hr
            · omega
            · rw [hr.1, hy2])
          clear HS hy2 hye
          go_wp2_with (go_at_call 88; refine (HS2.out _).mono ?_; rintro ee w1 ⟨rfl, hb2⟩)
          go_roundw
          case rel =>
            refine ⟨k + 1, y2, by omega, by go_num, rfl, by omega, h4, fun q hq => ?_, bstep hb hb2 (Nat.le_refl _)⟩
            rw [HTK.out] at hq
            rcases List.mem_append.mp hq with hq | hq
            · exact hA.out q hq
            · simp at hq; subst hq; exact HSM.out
          case measure => simp [intOf]; omega
      · obtain rfl : k = n := by omega
        have HF : Hid (smQ QL) := by have h := hA.out; rw [List.take_of_length_le (by rw [HH.out.1]; exact Nat.le_refl _)] at h; exact h
        go_wp2
        go_ret
        exact ⟨y, rfl, .inr ⟨hy0, hy1, hn1, HF.out⟩, hb⟩
/-- A Paper's struct. -/
structure Pv where
  tn : Int
  s : Sv
  tag : Int
def kP : Kd Pv := ⟨26, 3, fun q => [.int .i64 q.tn, .slice q.s.p q.s.n q.s.c, .int .i64 q.tag], fun _ => rfl⟩
def kLP : Kd Pv := ⟨46, 3, fun q => [.int .i64 q.tn, .slice q.s.p q.s.n q.s.c, .int .i64 q.tag], fun _ => rfl⟩
set_option maxHeartbeats 1000000 in
theorem szPaper_any (p : Option Addr) (n cap : Nat) (tn tag : Int) (QL : List CQ) (hn : QL.length = n) (hm : n ≤ maxLen) (z : Int) (h0 : 0 ≤ z) (h1 : z ≤ 1048576) (w : World) (hN : SlG kLQ w p QL) (hp : ∀ q ∈ QL, q.2.1.n ≤ maxLen ∧ q.2.2.n ≤ maxLen) :
    Calls Tryz.prog 15 #[.agg #[.int .i64 tn, .slice p n cap, .int .i64 tag], .int .i64 z] w fun e w' => ∃ r, e = .returned (.int .i64 r) ∧ (r < 0 ∨ (0 ≤ r ∧ r ≤ 1048576 ∧ n ≤ 1048576 ∧ smQ QL)) ∧ Below w.heap.size w w' := by
  have hb1 := below_alloc1 w (.cells #[.int .i64 tn, .slice p n cap, .int .i64 tag] 46)
  have HZ := szClauseS_any p n cap QL hn hm z h0 h1 _ (hN.step hb1) hp
  clear hn hm hN hp
  go_enter Tryz.func15, Tryz.ntmps15
  go_upto_region 2 with (go_at_call 52; refine HZ.mono ?_; rintro e w2 ⟨r, rfl, hr, hb2⟩)
  by_cases hneg : r < 0
  · go_wp2
    go_ret
    exact ⟨-1, rfl, .inl (by omega), ba1 hb2⟩
  · have HR := Lib.hid hr
    clear hr
    go_wp2
    go_ret
    exact ⟨r, rfl, HR.out, ba1 hb2⟩
theorem Sg.setP0 {w W : World} {A Bs : List Rw} {g n : Nat} {a : Pv} (h : Sg w W (A ++ rG kP (.slice (some ⟨g, 0, none⟩) 1 n) [a] :: Bs)) (x : Int) :
    Sg w (W.setCell ⟨g, 0, none⟩ (.int .i64 x)) (A ++ rG kP (.slice (some ⟨g, 0, none⟩) 1 n) [⟨x, a.s, a.tag⟩] :: Bs) := Sg.setRaw h 0 (.int .i64 x)
theorem Sg.setP1 {w W : World} {A Bs : List Rw} {g n : Nat} {a : Pv} (h : Sg w W (A ++ rG kP (.slice (some ⟨g, 0, none⟩) 1 n) [a] :: Bs)) (u : Sv) :
    Sg w (W.setCell ⟨g, 1, none⟩ (.slice u.p u.n u.c)) (A ++ rG kP (.slice (some ⟨g, 0, none⟩) 1 n) [⟨a.tn, u, a.tag⟩] :: Bs) := Sg.setRaw h 1 (.slice u.p u.n u.c)
theorem Sg.setP2 {w W : World} {A Bs : List Rw} {g n : Nat} {a : Pv} (h : Sg w W (A ++ rG kP (.slice (some ⟨g, 0, none⟩) 1 n) [a] :: Bs)) (x : Int) :
    Sg w (W.setCell ⟨g, 2, none⟩ (.int .i64 x)) (A ++ rG kP (.slice (some ⟨g, 0, none⟩) 1 n) [⟨a.tn, a.s, x⟩] :: Bs) := Sg.setRaw h 2 (.int .i64 x)
theorem Sg.setP {w W : World} {A Bs : List Rw} {g n : Nat} {a : Pv} (h : Sg w W (A ++ rG kP (.slice (some ⟨g, 0, none⟩) 1 n) [a] :: Bs)) (q : Pv) :
    Sg w (((W.setCell ⟨g, 0, none⟩ (.int .i64 q.tn)).setCell ⟨g, 1, none⟩ (.slice q.s.p q.s.n q.s.c)).setCell ⟨g, 2, none⟩ (.int .i64 q.tag)) (A ++ rG kP (.slice (some ⟨g, 0, none⟩) 1 n) [q] :: Bs) :=
  ((Sg.setRaw h 0 (.int .i64 q.tn)).setRaw 1 (.slice q.s.p q.s.n q.s.c)).setRaw 2 (.int .i64 q.tag)
def zpv : Pv := ⟨0, zsv, 0⟩
set_option maxRecDepth 100000 in
set_option maxHeartbeats 4000000 in
theorem toPaper_any (p : Option Addr) (n cap : Nat) (tn tag : Int) (QL : List CQ) (hn : QL.length = n) (hb : n ≤ 1048576) (hsm : smQ QL) (w : World) (hR : RdLS w p QL) :
    Calls Tryz.prog 18 #[.agg #[.int .i64 tn, .slice p n cap, .int .i64 tag]] w fun e w' => ∃ g QL', e = .returned (.agg #[.int .i64 tn, .slice (some ⟨g, 0, none⟩) n n, .int .i64 tag]) ∧ cls QL' = cls QL ∧ smQ QL' ∧ Sg w w' (trX (.slice (some ⟨g, 0, none⟩) n n) QL' []) := by
  have hS0 := Sg.setP0 (A := []) ((((Sg.nil w).lit kLP [⟨tn, ⟨p, n, cap⟩, tag⟩] 1 rfl (by decide) #[.int .i64 tn, .slice p n cap, .int .i64 tag] rfl).lit kP [zpv] 1 rfl (by decide) #[.int .i64 0, .slice none 0 0, .int .i64 0] rfl).lit kP [zpv] 1 rfl (by decide) #[.int .i64 0, .slice none 0 0, .int .i64 0] rfl) tn
  simp only [World.size_alloc, List.nil_append] at hS0
  have HC : Hid (∀ W, Below w.heap.size w W → Calls Tryz.prog 55 #[.slice p n cap] W fun e w' => ∃ g QL', e = .returned (.slice (some ⟨g, 0, none⟩) n n) ∧ cls QL' = cls QL ∧ (∀ q ∈ QL', q.2.1.n ≤ 10000000 ∧ q.2.2.n ≤ 10000000) ∧ Sg W w' (trX (.slice (some ⟨g, 0, none⟩) n n) QL' [])) := fun W h => toClauseS_any p cap QL n hn hb hsm W (hR.step h)
  clear hn hR hsm
  have hS0b := Sg.setP0 (A := []) ((((Sg.nil w).lit kLP [⟨tn, ⟨p, n, cap⟩, tag⟩] 1 rfl (by decide) #[.int .i64 tn, .slice p n cap, .int .i64 tag] rfl).lit kP [zpv] 1 rfl (by decide) #[.int .i64 0, .slice none 0 0, .int .i64 0] rfl).lit kP [⟨tn, zsv, 0⟩] 1 rfl (by decide) #[.int .i64 tn, .slice none 0 0, .int .i64 0] rfl) tn
  have hS1 := ((((Sg.nil w).lit kLP [⟨tn, ⟨p, n, cap⟩, tag⟩] 1 rfl (by decide) #[.int .i64 tn, .slice p n cap, .int .i64 tag] rfl).lit kP [zpv] 1 rfl (by decide) #[.int .i64 0, .slice none 0 0, .int .i64 0] rfl).lit kP [⟨tn, zsv, 0⟩] 1 rfl (by decide) #[.int .i64 tn, .slice none 0 0, .int .i64 0] rfl)
  simp only [World.size_alloc] at hS1
  clear hS0b hS0
  go_enter Tryz.func18, Tryz.ntmps18
  go_wp2_with (go_at_call 55; refine (HC.out _ hS1.bel).mono ?_; rintro e w2 ⟨h, QL', rfl, hq1, hq2, hw2⟩; have hS3 := hS1.addL hw2; obtain ⟨t0, t1, t2, tf, tg⟩ := hS3.three (K := kP) (g := w.heap.size + 1 + 1) (n := 1) (p := ⟨tn, zsv, 0⟩) (by simp) rfl; obtain ⟨v0, v1, v2, vf, vg⟩ := hS3.three (K := kP) (g := w.heap.size + 1) (n := 1) (p := zpv) (by simp) rfl; obtain ⟨x0, x1, x2, _, xg⟩ := hS3.three (K := kLP) (g := w.heap.size) (n := 1) (p := ⟨tn, ⟨p, n, cap⟩, tag⟩) (by simp) rfl)
  have hS4 := Sg.setP2 (Sg.setP1 (A := trX (.slice (some ⟨h, 0, none⟩) n n) QL' []) (g := w.heap.size + 1 + 1) (n := 1) (a := ⟨tn, zsv, 0⟩) hS3 ⟨some ⟨h, 0, none⟩, n, n⟩) tag
  have hS5 := Sg.setP (A := trX (.slice (some ⟨h, 0, none⟩) n n) QL' [] ++ [rG kP (.slice (some ⟨w.heap.size + 1 + 1, 0, none⟩) 1 1) [⟨tn, ⟨some ⟨h, 0, none⟩, n, n⟩, tag⟩]]) (g := w.heap.size + 1) (n := 1) (a := zpv) (by rw [List.append_assoc]; exact hS4) ⟨tn, ⟨some ⟨h, 0, none⟩, n, n⟩, tag⟩
  refine bodyPost_ret (v := .agg #[.int .i64 tn, .slice (some ⟨h, 0, none⟩) n n, .int .i64 tag]) (by simp [results, Tryz.results18, go_sem, v0, v1, v2]) rfl ⟨h, QL', rfl, hq1, hq2, ?_⟩
  exact hS5.sub (by rw [List.append_assoc]; exact List.sublist_append_left _ _)
end Go.Proofs.YtbkiogedipmioaaGreat
namespace Go.Proofs.YtbkiogedipmioaaGreat
open Go.Shelf Go.RowKit Go.Joins M
attribute [local go_sem] Oper.semAt_some

theorem Sg.rdS {w W : World} {rs : List Rw} {p : Option Addr} {n c : Nat} {QL : List CQ} (h : Sg w W rs) (hs : smQ QL) (hm : ∀ r ∈ trX (.slice p n c) QL [], r ∈ rs) : RdS W p QL := by
  refine ⟨OwG.sl (h.mem (K := kQ) (v := .slice p n c) (L := QL) (hm _ (by simp [trX]))), fun q hq => h.rdQ (fun r hr => hm r ?_) (hs q hq).1 (hs q hq).2⟩
  unfold trX
  exact List.mem_cons_of_mem _ (List.mem_flatMap.mpr ⟨q, hq, hr⟩)
set_option maxRecDepth 100000 in
set_option maxHeartbeats 2000000 in
theorem eqClauseS_same (p q : Option Addr) (cap cap' : Nat) (A B : List CQ) (n : Nat) (hn : A.length = n) (he : cls A = cls B) (hb : n ≤ 10000000) (w : World) (hp : RdS w p A) (hq : RdS w q B) :
    Calls Tryz.prog 58 #[.slice p n cap, .slice q n cap'] w fun e w' => e = .returned (.bool true) ∧ Below w.heap.size w w' := by
  have hBl : B.length = n := by have := congrArg List.length he; rw [cls_len, cls_len] at this; omega
  have HH : Hid (A.length = n ∧ B.length = n ∧ cls A = cls B ∧ RdS w p A ∧ RdS w q B) := ⟨hn, hBl, he, hp, hq⟩
  clear hn hBl he hp hq
  go_enter Tryz.func58, Tryz.ntmps58
  go_wp2
  go_loopw [5] (fun i wr => ∃ k : Nat, k ≤ n ∧ i = .int .i64 k ∧ Below w.heap.size w wr) (fun i _ => n - (intOf i).toNat)
  case atStart => exact ⟨0, by omega, rfl, Below.refl _ _⟩
  case round =>
    obtain ⟨k, hk, rfl, hb1⟩ := hrel
    by_cases hlt : k < n
    · have hki : (k : Int) < n := by omega
      obtain ⟨a1, a2, a3, a4, a5⟩ := HH.out
      have hkA : k < A.length := by omega
      have hkB : k < B.length := by omega
      obtain ⟨g, off, rfl, hC⟩ := (a4.1.step hb1).at hkA
      obtain ⟨g2, off2, rfl, hC2⟩ := (a5.1.step hb1).at hkB
      obtain ⟨c0, c1, c2⟩ := hC.q3 (getQ hkA)
      obtain ⟨d0, d1, d2⟩ := hC2.q3 (getQ hkB)
      have r1 := a4.2 _ (List.mem_of_getElem? (getQ hkA))
      have r2 := a5.2 _ (List.mem_of_getElem? (getQ hkB))
      have hab : (A.getD k zq).1 = (B.getD k zq).1 := by
        have h1 := cls_get hkA
        have h2 := cls_get hkB
        rw [a3, h2] at h1
        exact (Option.some.inj h1).symm
      obtain ⟨⟨c, s, t⟩, hx⟩ : ∃ x : CQ, A.getD k zq = x := ⟨_, rfl⟩
      obtain ⟨⟨c', s', t'⟩, hy⟩ : ∃ x : CQ, B.getD k zq = x := ⟨_, rfl⟩
      rw [hx] at c0 c1 c2 r1 hab
      rw [hy] at d0 d1 d2 r2 hab
      simp only at c0 c1 c2 d0 d1 d2 r1 r2 hab
      subst hab
      have HE : Hid (∀ W, Below w.heap.size w W → Calls Tryz.prog 93 #[.agg #[.slice s.p s.n s.c, .slice t.p t.n t.c, .int .i64 c.un], .agg #[.slice s'.p s'.n s'.c, .slice t'.p t'.n t'.c, .int .i64 c.un]] W fun e w' => e = .returned (.bool true) ∧ Below W.heap.size W w') := fun W h => eqClause_same c s t s' t' W (r1.step h) (r2.step h)
      clear hC hC2 r1 r2 hx hy a1 a2 a3 a4 a5 hkA hkB
      go_wp2
      go_region_with ((go_at_call 93; refine (HE.out _ hb1.drew).mono ?_; rintro e w1 ⟨rfl, hb2⟩))
      all_goals
        go_wp2
        go_roundw
        case rel => exact ⟨k + 1, by omega, by go_num, bstep hb1.drew hb2 (Nat.le_refl _)⟩
        case measure => simp [intOf]; omega
    · obtain rfl : k = n := by omega
      go_wp2
      go_ret
      exact ⟨rfl, hb1⟩
set_option maxHeartbeats 1000000 in
theorem eqPaper_same (tn tag : Int) (p q : Option Addr) (cap cap' n : Nat) (A B : List CQ) (hn : A.length = n) (he : cls A = cls B) (hb : n ≤ 10000000) (w : World) (hp : RdS w p A) (hq : RdS w q B) :
    Calls Tryz.prog 21 #[.agg #[.int .i64 tn, .slice p n cap, .int .i64 tag], .agg #[.int .i64 tn, .slice q n cap', .int .i64 tag]] w fun e w' => e = .returned (.bool true) ∧ Below w.heap.size w w' := by
  have H1 : Hid (∀ W, Below w.heap.size w W → Calls Tryz.prog 58 #[.slice p n cap, .slice q n cap'] W fun e w' => e = .returned (.bool true) ∧ Below W.heap.size W w') := fun W h => eqClauseS_same p q cap cap' A B n hn he hb W (hp.step h) (hq.step h)
  have hst := ((St.nil w).push [.int .i64 tn, .slice p n cap, .int .i64 tag] 26).push [.int .i64 tn, .slice q n cap', .int .i64 tag] 26
  simp only [World.size_alloc] at hst
  clear hn he hp hq
  go_enter Tryz.func21, Tryz.ntmps21
  go_wp2_with (go_at_call 58; refine (H1.out _ hst.bel).mono ?_; rintro e w1 ⟨rfl, hb2⟩; have hs1 := hst.step hb2; have hk := hs1.has; simp [Has, HasAt] at hk)
  go_ret
  exact ⟨rfl, hs1.bel⟩

end Go.Proofs.YtbkiogedipmioaaGreat
