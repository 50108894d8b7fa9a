/-
  The law's looks at lists of Clauses and at Papers.
-/
import Derived.Test.YtbkiogedipmioaaGreatY2
import Derived.Test.YtbkiogedipmioaaGreatPA
namespace Go.Proofs.YtbkiogedipmioaaGreat
open Go.Shelf Go.RowKit Go.Joins M
attribute [local go_sem] Oper.semAt_some

theorem CsG.qL {w : World} {g off : Nat} {L : List CQ} (h : CsG kLQ w g off L) {k : Nat} {q : CQ} (hk : L[k]? = some q) : w.cell? ⟨g, off + k * 3, none⟩ = some (.slice q.2.1.p q.2.1.n q.2.1.c) ∧ w.cell? ⟨g, off + k * 3 + 1, none⟩ = some (.slice q.2.2.p q.2.2.n q.2.2.c) ∧ w.cell? ⟨g, off + k * 3 + 2, none⟩ = some (.int .i64 q.1.un) :=
  ⟨h.at hk (i := 0) rfl, h.at hk (i := 1) rfl, h.at hk (i := 2) rfl⟩
/-- The law's list of Clauses as one reads it. -/
def RdLS (W : World) (p : Option Addr) (QL : List CQ) : Prop := SlG kLQ W p QL ∧ ∀ q ∈ QL, RdL W q.1 q.2.1 q.2.2
theorem RdLS.step {w w' : World} {p : Option Addr} {QL : List CQ} (h : RdLS w p QL) (hb : Below w.heap.size w w') : RdLS w' p QL := ⟨h.1.step hb, fun q hq => (h.2 q hq).step hb⟩
/-- The rows of a list of Clauses, of which X are made. -/
def trX (v : Value) (X R : List CQ) : List Rw := rG kQ v (X ++ R) :: X.flatMap fun q => clR q.1 q.2.1 q.2.2
theorem Sg.setQAt {w W : World} {A Bs : List Rw} {g n c : Nat} {X Y : List CQ} {p : CQ} (h : Sg w W (A ++ rG kQ (.slice (some ⟨g, 0, none⟩) n c) (X ++ p :: Y) :: Bs)) (q : CQ) {o : Nat} (ho : o = X.length * 3) :
    Sg w (((W.setCell ⟨g, o, none⟩ (.slice q.2.1.p q.2.1.n q.2.1.c)).setCell ⟨g, o + 1, none⟩ (.slice q.2.2.p q.2.2.n q.2.2.c)).setCell ⟨g, o + 2, none⟩ (.int .i64 q.1.un)) (A ++ rG kQ (.slice (some ⟨g, 0, none⟩) n c) (X ++ q :: Y) :: Bs) := by
  have hn := OwG.len (h.mem (K := kQ) (v := .slice (some ⟨g, 0, none⟩) n c) (L := X ++ p :: Y) (by simp))
  subst hn
  have h1 := ((Sg.setRaw h o (.slice q.2.1.p q.2.1.n q.2.1.c)).setRaw (o + 1) (.slice q.2.2.p q.2.2.n q.2.2.c)).setRaw (o + 2) (.int .i64 q.1.un)
  have hl : (kQ.flat X).length = o := by rw [Kd.flat_len, ho]; rfl
  have e : ∀ q : CQ, kQ.flat (X ++ q :: Y) = kQ.flat X ++ (kQ.vs q ++ kQ.flat Y) := fun q => by rw [Kd.flat_append, Kd.flat_cons]
  have e2 : rG kQ (.slice (some ⟨g, 0, none⟩) (X ++ p :: Y).length c) (X ++ q :: Y) = ⟨.slice (some ⟨g, 0, none⟩) (X ++ p :: Y).length c, 110, 3, (X ++ p :: Y).length, (((kQ.flat (X ++ p :: Y)).set o (.slice q.2.1.p q.2.1.n q.2.1.c)).set (o + 1) (.slice q.2.2.p q.2.2.n q.2.2.c)).set (o + 2) (.int .i64 q.1.un)⟩ := by
    unfold rG
    rw [e, e]
    have s0 : ∀ (zs : List Value) (j : Nat) (u : Value), (kQ.flat X ++ zs).set (o + j) u = kQ.flat X ++ zs.set j u := fun zs j u => by
      rw [List.set_append_right _ _ (by omega), hl]; congr 2; omega
    have := s0 (kQ.vs p ++ kQ.flat Y) 0 (.slice q.2.1.p q.2.1.n q.2.1.c)
    rw [Nat.add_zero] at this
    rw [this, s0, s0]
    simp [kQ]
  rw [e2]; exact h1
theorem made_flatQ (n : Nat) : (madeCells #[.slice none 0 0, .slice none 0 0, .int .i64 0] (n * 3)).toList = kQ.flat (List.replicate n zq) := by
  refine List.ext_getElem? fun i => ?_
  have hl : (kQ.flat (List.replicate n zq)).length = n * 3 := by rw [Kd.flat_len]; simp [kQ]
  by_cases hi : i < n * 3
  · have h6 : i / 3 < n := by omega
    have hk : (List.replicate n zq)[i / 3]? = some zq := by simp [h6]
    have hg := Kd.flat_get (K := kQ) hk (i := i % 3) (Nat.mod_lt _ (by decide))
    have e3 : i / 3 * kQ.n + i % 3 = i := by show i / 3 * 3 + i % 3 = i; omega
    rw [e3] at hg
    rw [hg]
    have hm : i % 3 = 0 ∨ i % 3 = 1 ∨ i % 3 = 2 := by omega
    rcases hm with hm | hm | hm <;> simp [madeCells, hi, hm, kQ, zq, zcl, zsv]
  · rw [List.getElem?_eq_none (by simp [madeCells]; omega), List.getElem?_eq_none (by omega)]
theorem tr_more {w W : World} {v : Value} {X R : List CQ} {q : CQ} (h : Sg w W (clR q.1 q.2.1 q.2.2 ++ rG kQ v (X ++ q :: R) :: X.flatMap fun q => clR q.1 q.2.1 q.2.2)) : Sg w W (trX v (X ++ [q]) R) := by
  unfold trX
  refine h.perm ?_
  rw [List.flatMap_append, List.append_assoc]
  refine (List.perm_append_comm (l₁ := clR q.1 q.2.1 q.2.2)).trans ?_
  simp only [List.flatMap_cons, List.flatMap_nil, List.append_nil, List.cons_append, List.nil_append]
  exact List.Perm.refl _
theorem take_getQ {L : List CQ} {k : Nat} (hk : k < L.length) : L.take (k + 1) = L.take k ++ [L.getD k zq] := by
  rw [List.take_succ_eq_append_getElem hk]; simp [List.getD, hk]
set_option maxRecDepth 100000 in
set_option maxHeartbeats 2000000 in
theorem toClauseS_any (p : Option Addr) (cap : Nat) (QL : List CQ) (n : Nat) (hn : QL.length = n) (hb : n ≤ 1048576) (hsm : ∀ q ∈ QL, q.2.1.n ≤ 10000000 ∧ q.2.2.n ≤ 10000000) (w : World) (hR : RdLS w p QL) :
    Calls Tryz.prog 55 #[.slice p n cap] w fun e w' => ∃ g QL', e = .returned (.slice (some ⟨g, 0, none⟩) n n) ∧ cls QL' = cls QL ∧ (∀ q ∈ QL', q.2.1.n ≤ 10000000 ∧ q.2.2.n ≤ 10000000) ∧ Sg w w' (trX (.slice (some ⟨g, 0, none⟩) n n) QL' []) := by
  obtain ⟨i0, hi, hz0, hz1, hz2⟩ := info_parts info110
  have hmk := run_make (P := Tryz.prog) w 24 110 i0 _ Tryz.underlying24 hi hz0 .i64 .i64 (n : Int) (n : Int) (by omega) (by omega) (by rw [hz2]; omega) (by omega)
  rw [hz1, Int.toNat_natCast] at hmk
  have hS0 : Sg w (w.alloc (.cells (madeCells #[.slice none 0 0, .slice none 0 0, .int .i64 0] (n * 3)) 110)) (trX (.slice (some ⟨w.heap.size, 0, none⟩) n n) [] (List.replicate n zq)) := by
    have h := World.ownsRow_lit (base := w.heap.size) (e := 110) (size := 3) w (madeCells #[.slice none 0 0, .slice none 0 0, .int .i64 0] (n * 3)) n (Nat.le_refl _) (by unfold maxLen; omega) (size_madeCells _ _)
    rw [made_flatQ] at h
    refine ⟨below_alloc1 _ _, fun r hr => ?_, by simp [trX]⟩
    simp [trX] at hr
    subst hr
    unfold Rw.own rG
    simp only [List.length_replicate]
    exact h
  have HN : Hid (QL.length = n ∧ RdLS w p QL ∧ ∀ q ∈ QL, q.2.1.n ≤ 10000000 ∧ q.2.2.n ≤ 10000000) := ⟨hn, hR, hsm⟩
  clear hn hR hsm
  go_enter Tryz.func55, Tryz.ntmps55
  go_wp2
  go_loopw [4] (fun iv wr => ∃ (k r : Nat) (X : List CQ), iv = .int .i64 k ∧ Hid (k + r = n ∧ X.length = k ∧ cls X = (cls QL).take k ∧ ∀ q ∈ X, q.2.1.n ≤ 10000000 ∧ q.2.2.n ≤ 10000000) ∧ Sg w wr (trX (.slice (some ⟨w.heap.size, 0, none⟩) n n) X (List.replicate r zq))) (fun iv _ => n - (intOf iv).toNat)
  case atStart => exact ⟨0, n, [], rfl, ⟨by omega, rfl, rfl, by simp⟩, hS0⟩
  case round =>
    clear hS0 hmk
    obtain ⟨k, r, X, rfl, hK, hS⟩ := hrel
    by_cases hlt : k < n
    · have hki : (k : Int) < n := by omega
      have hkL : k < QL.length := by rw [HN.out.1]; exact hlt
      obtain ⟨r', rfl⟩ : ∃ r', r = r' + 1 := ⟨r - 1, by have := hK.out.1; omega⟩
      obtain ⟨g, off, rfl, hC⟩ := (HN.out.2.1.1.step hS.bel).at hkL
      obtain ⟨c0, c1, c2⟩ := hC.qL (getQ hkL)
      have hq := HN.out.2.1.2 _ (List.mem_of_getElem? (getQ hkL))
      have hbd := HN.out.2.2 _ (List.mem_of_getElem? (getQ hkL))
      have hct : (cls QL).take (k + 1) = (cls QL).take k ++ [(QL.getD k zq).1] := by rw [List.take_add_one, cls_get hkL]; rfl
      obtain ⟨⟨c, s, t⟩, hx⟩ : ∃ x : CQ, QL.getD k zq = x := ⟨_, rfl⟩
      rw [hx] at c0 c1 c2 hq hbd hct
      simp only at c0 c1 c2 hq hbd hct
      have HX : Hid (X.length = k ∧ k + (r' + 1) = n ∧ cls X ++ [c] = (cls QL).take (k + 1) ∧ (∀ q ∈ X, q.2.1.n ≤ 10000000 ∧ q.2.2.n ≤ 10000000) ∧ s.n ≤ 10000000 ∧ t.n ≤ 10000000) := ⟨hK.out.2.1, hK.out.1, by rw [hK.out.2.2.1, hct], hK.out.2.2.2, hbd⟩
      have HT : Hid (∀ W, Below w.heap.size w W → Calls Tryz.prog 90 #[.agg #[.slice s.p s.n s.c, .slice t.p t.n t.c, .int .i64 c.un]] W fun e w' => ∃ g h, e = .returned (.agg #[.slice (some ⟨g, 0, none⟩) s.n s.n, .slice (some ⟨h, 0, none⟩) t.n t.n, .int .i64 c.un]) ∧ Sg W w' (clR c ⟨some ⟨g, 0, none⟩, s.n, s.n⟩ ⟨some ⟨h, 0, none⟩, t.n, t.n⟩)) := fun W h => toClause_any c s t hbd.1 hbd.2 W (hq.step h)
      clear hC hkL hq hbd hct hx hK
      go_wp2_with (go_at_call 90; refine (HT.out _ hS.bel).mono ?_; rintro ee w1 ⟨ga, gb, rfl, h1⟩; have hS1 := hS.addL h1; have ho := hS1.mem (K := kQ) (v := .slice (some ⟨w.heap.size, 0, none⟩) n n) (L := X ++ List.replicate (r' + 1) zq) (by simp [trX]); have hf := OwG.fz ho; obtain ⟨d0, d1, d2⟩ := (OwG.cs ho).q3 (k := k) (q := zq) (by rw [List.getElem?_append_right (by rw [HX.out.1]; exact Nat.le_refl _), HX.out.1]; simp); simp only [Nat.zero_add, zq, zcl, zsv] at d0 d1 d2; clear ho)
      have hS2 := tr_more (q := (c, ⟨some ⟨ga, 0, none⟩, s.n, s.n⟩, ⟨some ⟨gb, 0, none⟩, t.n, t.n⟩)) (Sg.setQAt (A := clR c ⟨some ⟨ga, 0, none⟩, s.n, s.n⟩ ⟨some ⟨gb, 0, none⟩, t.n, t.n⟩) (Y := List.replicate r' zq) (p := zq) hS1 (c, ⟨some ⟨ga, 0, none⟩, s.n, s.n⟩, ⟨some ⟨gb, 0, none⟩, t.n, t.n⟩) (o := k * 3) (by rw [HX.out.1]))
      go_roundw
      case rel =>
        refine ⟨k + 1, r', X ++ [(c, ⟨some ⟨ga, 0, none⟩, s.n, s.n⟩, ⟨some ⟨gb, 0, none⟩, t.n, t.n⟩)], by go_num, ⟨by have := HX.out.2.1; omega, by simp [HX.out.1], by rw [← HX.out.2.2.1]; simp [cls], fun q hq => ?_⟩, hS2⟩
        rcases List.mem_append.mp hq with hq | hq
        · exact HX.out.2.2.2.1 q hq
        · simp at hq; subst hq; exact HX.out.2.2.2.2
      case measure => simp [intOf]; omega
    · have hr0 : r = 0 ∧ k = n := by have := hK.out.1; omega
      obtain ⟨rfl, rfl⟩ := hr0
      have HF : Hid (cls X = cls QL ∧ ∀ q ∈ X, q.2.1.n ≤ 10000000 ∧ q.2.2.n ≤ 10000000) := ⟨by rw [hK.out.2.2.1]; exact List.take_of_length_le (by rw [cls_len, HN.out.1]; exact Nat.le_refl _), hK.out.2.2.2⟩
      clear hK
      go_wp2
      go_ret
      exact ⟨_, X, rfl, HF.out.1, HF.out.2, hS⟩
end Go.Proofs.YtbkiogedipmioaaGreat
