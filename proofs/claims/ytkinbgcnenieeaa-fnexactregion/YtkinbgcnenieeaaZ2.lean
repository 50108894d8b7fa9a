/-
  The law's Papers: sizes, made the program's, compared.
-/
import Derived.Test.YtkinbgcnenieeaaZ1
namespace Go.Proofs.Ytkinbgcnenieeaa
open Go.Shelf Go.RowKit Go.Joins M
attribute [local go_sem] Oper.semAt_some

def smQ (QL : List CQ) : Prop := ∀ q ∈ QL, q.2.1.n ≤ 10000000 ∧ q.2.2.n ≤ 10000000
set_option maxRecDepth 100000 in
set_option maxHeartbeats 2000000 in
theorem szClauseS_any (p : Option Addr) (n cap : Nat) (QL : List CQ) (hn : QL.length = n) (hm : n ≤ maxLen) (z : Int) (h0 : 0 ≤ z) (h1 : z ≤ 1048576) (w : World) (hN : SlG kLQ w p QL) (hp : ∀ q ∈ QL, q.2.1.n ≤ maxLen ∧ q.2.2.n ≤ maxLen) :
    Calls Try.prog 17 #[.slice p n cap, .int .i64 z] w fun e w' => ∃ r, e = .returned (.int .i64 r) ∧ (r < 0 ∨ (0 ≤ r ∧ r ≤ 1048576 ∧ n ≤ 1048576 ∧ smQ QL)) ∧ Below w.heap.size w w' := by
  have hm' := hm
  unfold maxLen at hm'
  by_cases hzn : z < n
  · have h2 : z - (n : Int) < 0 := by omega
    clear hm
    go_enter Try.func17, Try.ntmps17
    go_wp2
    go_ret
    exact ⟨-1, rfl, .inl (by omega), Below.refl _ _⟩
  · have h2 : ¬ z - (n : Int) < 0 := by omega
    have hn1 : n ≤ 1048576 := by omega
    have HH : Hid (QL.length = n ∧ SlG kLQ w p QL ∧ ∀ q ∈ QL, q.2.1.n ≤ maxLen ∧ q.2.2.n ≤ maxLen) := ⟨hn, hN, hp⟩
    clear hn hN hp hm hm'
    go_enter Try.func17, Try.ntmps17
    go_wp2
    go_loopw [1, 5] (fun zv iv wr => ∃ (k : Nat) (y : Int), k ≤ n ∧ iv = .int .i64 k ∧ zv = .int .i64 y ∧ 0 ≤ y ∧ y ≤ 1048576 ∧ Hid (smQ (QL.take k)) ∧ Below w.heap.size w wr) (fun _ iv _ => n - (intOf iv).toNat)
    case atStart => exact ⟨0, z - n, by omega, rfl, rfl, by omega, by omega, fun q hq => by simp at hq, Below.refl _ _⟩
    case round =>
      obtain ⟨k, y, hk, rfl, rfl, hy0, hy1, hA, hb⟩ := hrel
      by_cases hlt : k < n
      · have hki : (k : Int) < n := by omega
        have hkL : k < QL.length := by rw [HH.out.1]; exact hlt
        obtain ⟨g, off, rfl, hC⟩ := (HH.out.2.1.step hb).at hkL
        obtain ⟨c0, c1, c2⟩ := hC.qL (getQ hkL)
        have hml := HH.out.2.2 _ (List.mem_of_getElem? (getQ hkL))
        have htk := take_getQ hkL
        obtain ⟨⟨c, s, t⟩, hx⟩ : ∃ x : CQ, QL.getD k zq = x := ⟨_, rfl⟩
        rw [hx] at c0 c1 c2 hml htk
        simp only at c0 c1 c2 hml
        have HS : Hid (∀ W, Calls Try.prog 33 #[.agg #[.slice s.p s.n s.c, .slice t.p t.n t.c, .int .i64 c.un], .int .i64 y] W fun e w' => ∃ r, e = .returned (.int .i64 r) ∧ szR y (s.n + t.n) r ∧ Below W.heap.size W w') := fun W => szClause_any s t c.un y hy0 hy1 hml.1 hml.2 W
        have HTK := Lib.hid htk
        clear hC hkL hml hx htk
        by_cases hye : y < (s.n + t.n : Nat)
        · go_wp2_with (go_at_call 33; refine (HS.out _).mono ?_; rintro ee w1 ⟨r, rfl, hr, hb2⟩; obtain rfl : r = -1 := by (rcases hr with hr | hr; exact hr.1; omega))
          go_ret
          exact ⟨-1, rfl, .inl (by omega), bstep hb hb2 (Nat.le_refl _)⟩
        · obtain ⟨y2, hy2⟩ : ∃ y2 : Int, y - (s.n + t.n : Nat) = y2 := ⟨_, rfl⟩
          have h3 : ¬ y2 < 0 := by omega
          have h4 : y2 ≤ 1048576 := by omega
          have HSM : Hid (s.n ≤ 10000000 ∧ t.n ≤ 10000000) := ⟨by omega, by omega⟩
          have HS2 : Hid (∀ W, Calls Try.prog 33 #[.agg #[.slice s.p s.n s.c, .slice t.p t.n t.c, .int .i64 c.un], .int .i64 y] W fun e w' => e = .returned (.int .i64 y2) ∧ Below W.heap.size W w') := fun W => (HS.out W).mono (by
            rintro e w1 ⟨r, rfl, hr, hb2⟩
            refine ⟨?_, hb2⟩
            rcases hr with hr | hr
            · omega
            · rw [hr.1, hy2])
          clear HS hy2 hye
          go_wp2_with (go_at_call 33; refine (HS2.out _).mono ?_; rintro ee w1 ⟨rfl, hb2⟩)
          go_roundw
          case rel =>
            refine ⟨k + 1, y2, by omega, by go_num, rfl, by omega, h4, fun q hq => ?_, bstep hb hb2 (Nat.le_refl _)⟩
            rw [HTK.out] at hq
            rcases List.mem_append.mp hq with hq | hq
            · exact hA.out q hq
            · simp at hq; subst hq; exact HSM.out
          case measure => simp [intOf]; omega
      · obtain rfl : k = n := by omega
        have HF : Hid (smQ QL) := by have h := hA.out; rw [List.take_of_length_le (by rw [HH.out.1]; exact Nat.le_refl _)] at h; exact h
        go_wp2
        go_ret
        exact ⟨y, rfl, .inr ⟨hy0, hy1, hn1, HF.out⟩, hb⟩
/-- A Paper's struct. -/
structure Pv where
  tn : Int
  s : Sv
  tag : Int
def kP : Kd Pv := ⟨31, 3, fun q => [.int .i64 q.tn, .slice q.s.p q.s.n q.s.c, .int .i64 q.tag], fun _ => rfl⟩
def kLP : Kd Pv := ⟨24, 3, fun q => [.int .i64 q.tn, .slice q.s.p q.s.n q.s.c, .int .i64 q.tag], fun _ => rfl⟩
set_option maxHeartbeats 1000000 in
theorem szPaper_any (p : Option Addr) (n cap : Nat) (tn tag : Int) (QL : List CQ) (hn : QL.length = n) (hm : n ≤ maxLen) (z : Int) (h0 : 0 ≤ z) (h1 : z ≤ 1048576) (w : World) (hN : SlG kLQ w p QL) (hp : ∀ q ∈ QL, q.2.1.n ≤ maxLen ∧ q.2.2.n ≤ maxLen) :
    Calls Try.prog 5 #[.agg #[.int .i64 tn, .slice p n cap, .int .i64 tag], .int .i64 z] w fun e w' => ∃ r, e = .returned (.int .i64 r) ∧ (r < 0 ∨ (0 ≤ r ∧ r ≤ 1048576 ∧ n ≤ 1048576 ∧ smQ QL)) ∧ Below w.heap.size w w' := by
  have hb1 := below_alloc1 w (.cells #[.int .i64 tn, .slice p n cap, .int .i64 tag] 24)
  have HZ := szClauseS_any p n cap QL hn hm z h0 h1 _ (hN.step hb1) hp
  clear hn hm hN hp
  go_enter Try.func5, Try.ntmps5
  go_upto_region 2 with (go_at_call 17; refine HZ.mono ?_; rintro e w2 ⟨r, rfl, hr, hb2⟩)
  by_cases hneg : r < 0
  · go_wp2
    go_ret
    exact ⟨-1, rfl, .inl (by omega), ba1 hb2⟩
  · have HR := Lib.hid hr
    clear hr
    go_wp2
    go_ret
    exact ⟨r, rfl, HR.out, ba1 hb2⟩
theorem Sg.setP0 {w W : World} {A Bs : List Rw} {g n : Nat} {a : Pv} (h : Sg w W (A ++ rG kP (.slice (some ⟨g, 0, none⟩) 1 n) [a] :: Bs)) (x : Int) :
    Sg w (W.setCell ⟨g, 0, none⟩ (.int .i64 x)) (A ++ rG kP (.slice (some ⟨g, 0, none⟩) 1 n) [⟨x, a.s, a.tag⟩] :: Bs) := Sg.setRaw h 0 (.int .i64 x)
theorem Sg.setP1 {w W : World} {A Bs : List Rw} {g n : Nat} {a : Pv} (h : Sg w W (A ++ rG kP (.slice (some ⟨g, 0, none⟩) 1 n) [a] :: Bs)) (u : Sv) :
    Sg w (W.setCell ⟨g, 1, none⟩ (.slice u.p u.n u.c)) (A ++ rG kP (.slice (some ⟨g, 0, none⟩) 1 n) [⟨a.tn, u, a.tag⟩] :: Bs) := Sg.setRaw h 1 (.slice u.p u.n u.c)
theorem Sg.setP2 {w W : World} {A Bs : List Rw} {g n : Nat} {a : Pv} (h : Sg w W (A ++ rG kP (.slice (some ⟨g, 0, none⟩) 1 n) [a] :: Bs)) (x : Int) :
    Sg w (W.setCell ⟨g, 2, none⟩ (.int .i64 x)) (A ++ rG kP (.slice (some ⟨g, 0, none⟩) 1 n) [⟨a.tn, a.s, x⟩] :: Bs) := Sg.setRaw h 2 (.int .i64 x)
theorem Sg.setP {w W : World} {A Bs : List Rw} {g n : Nat} {a : Pv} (h : Sg w W (A ++ rG kP (.slice (some ⟨g, 0, none⟩) 1 n) [a] :: Bs)) (q : Pv) :
    Sg w (((W.setCell ⟨g, 0, none⟩ (.int .i64 q.tn)).setCell ⟨g, 1, none⟩ (.slice q.s.p q.s.n q.s.c)).setCell ⟨g, 2, none⟩ (.int .i64 q.tag)) (A ++ rG kP (.slice (some ⟨g, 0, none⟩) 1 n) [q] :: Bs) :=
  ((Sg.setRaw h 0 (.int .i64 q.tn)).setRaw 1 (.slice q.s.p q.s.n q.s.c)).setRaw 2 (.int .i64 q.tag)
def zpv : Pv := ⟨0, zsv, 0⟩
set_option maxRecDepth 100000 in
set_option maxHeartbeats 4000000 in
theorem toPaper_any (p : Option Addr) (n cap : Nat) (tn tag : Int) (QL : List CQ) (hn : QL.length = n) (hb : n ≤ 1048576) (hsm : smQ QL) (w : World) (hR : RdLS w p QL) :
    Calls Try.prog 7 #[.agg #[.int .i64 tn, .slice p n cap, .int .i64 tag]] w fun e w' => ∃ g QL', e = .returned (.agg #[.int .i64 tn, .slice (some ⟨g, 0, none⟩) n n, .int .i64 tag]) ∧ cls QL' = cls QL ∧ smQ QL' ∧ Sg w w' (trX (.slice (some ⟨g, 0, none⟩) n n) QL' []) := by
  have hS0 := Sg.setP0 (A := []) ((((Sg.nil w).lit kLP [⟨tn, ⟨p, n, cap⟩, tag⟩] 1 rfl (by decide) #[.int .i64 tn, .slice p n cap, .int .i64 tag] rfl).lit kP [zpv] 1 rfl (by decide) #[.int .i64 0, .slice none 0 0, .int .i64 0] rfl).lit kP [zpv] 1 rfl (by decide) #[.int .i64 0, .slice none 0 0, .int .i64 0] rfl) tn
  simp only [World.size_alloc, List.nil_append] at hS0
  have HC : Hid (∀ W, Below w.heap.size w W → Calls Try.prog 22 #[.slice p n cap] W fun e w' => ∃ g QL', e = .returned (.slice (some ⟨g, 0, none⟩) n n) ∧ cls QL' = cls QL ∧ (∀ q ∈ QL', q.2.1.n ≤ 10000000 ∧ q.2.2.n ≤ 10000000) ∧ Sg W w' (trX (.slice (some ⟨g, 0, none⟩) n n) QL' [])) := fun W h => toClauseS_any p cap QL n hn hb hsm W (hR.step h)
  clear hn hR hsm
  have hS0b := Sg.setP0 (A := []) ((((Sg.nil w).lit kLP [⟨tn, ⟨p, n, cap⟩, tag⟩] 1 rfl (by decide) #[.int .i64 tn, .slice p n cap, .int .i64 tag] rfl).lit kP [zpv] 1 rfl (by decide) #[.int .i64 0, .slice none 0 0, .int .i64 0] rfl).lit kP [⟨tn, zsv, 0⟩] 1 rfl (by decide) #[.int .i64 tn, .slice none 0 0, .int .i64 0] rfl) tn
  have hS1 := ((((Sg.nil w).lit kLP [⟨tn, ⟨p, n, cap⟩, tag⟩] 1 rfl (by decide) #[.int .i64 tn, .slice p n cap, .int .i64 tag] rfl).lit kP [zpv] 1 rfl (by decide) #[.int .i64 0, .slice none 0 0, .int .i64 0] rfl).lit kP [⟨tn, zsv, 0⟩] 1 rfl (by decide) #[.int .i64 tn, .slice none 0 0, .int .i64 0] rfl)
  simp only [World.size_alloc] at hS1
  clear hS0b hS0
  go_enter Try.func7, Try.ntmps7
  go_wp2_with (go_at_call 22; refine (HC.out _ hS1.bel).mono ?_; rintro e w2 ⟨h, QL', rfl, hq1, hq2, hw2⟩; have hS3 := hS1.addL hw2; obtain ⟨t0, t1, t2, tf, tg⟩ := hS3.three (K := kP) (g := w.heap.size + 1 + 1) (n := 1) (p := ⟨tn, zsv, 0⟩) (by simp) rfl; obtain ⟨v0, v1, v2, vf, vg⟩ := hS3.three (K := kP) (g := w.heap.size + 1) (n := 1) (p := zpv) (by simp) rfl; obtain ⟨x0, x1, x2, _, xg⟩ := hS3.three (K := kLP) (g := w.heap.size) (n := 1) (p := ⟨tn, ⟨p, n, cap⟩, tag⟩) (by simp) rfl)
  have hS4 := Sg.setP2 (Sg.setP1 (A := trX (.slice (some ⟨h, 0, none⟩) n n) QL' []) (g := w.heap.size + 1 + 1) (n := 1) (a := ⟨tn, zsv, 0⟩) hS3 ⟨some ⟨h, 0, none⟩, n, n⟩) tag
  have hS5 := Sg.setP (A := trX (.slice (some ⟨h, 0, none⟩) n n) QL' [] ++ [rG kP (.slice (some ⟨w.heap.size + 1 + 1, 0, none⟩) 1 1) [⟨tn, ⟨some ⟨h, 0, none⟩, n, n⟩, tag⟩]]) (g := w.heap.size + 1) (n := 1) (a := zpv) (by rw [List.append_assoc]; exact hS4) ⟨tn, ⟨some ⟨h, 0, none⟩, n, n⟩, tag⟩
  refine bodyPost_ret (v := .agg #[.int .i64 tn, .slice (some ⟨h, 0, none⟩) n n, .int .i64 tag]) (by simp [results, Try.results7, go_sem, v0, v1, v2]) rfl ⟨h, QL', rfl, hq1, hq2, ?_⟩
  exact hS5.sub (by rw [List.append_assoc]; exact List.sublist_append_left _ _)
end Go.Proofs.Ytkinbgcnenieeaa
