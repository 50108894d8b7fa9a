/-
  Common: the spec's recursion over two lists.
-/
import Derived.Test.YtbkiogedipmioaaGreatVMM3
import Derived.Test.YtbkiogedipmioaaGreatVMG3
import Derived.Test.YtbkiogedipmioaaGreatVMJ3
import Derived.Test.YtbkiogedipmioaaGreatVMJ2
namespace Go.Proofs.YtbkiogedipmioaaGreat.V.M

theorem first_lo {c : T3} (h : c.ok = true) : D.firstI c = c.lo := by
  have h' : cellB c.l c.x c.y = true := h
  obtain ⟨n, n8, a1, a2, a3, hx, hx1, hy, hy1⟩ := ok_nat h
  obtain ⟨h0, h8, _⟩ := ok_iff.mp h
  have hsd : sd c.l = 2 ^ (8 - n) := by unfold sd; rw [← pw8 h0 h8, a3]
  have b1 := mul_bd h0 h8 hx (by rw [a2]; exact hx1)
  have b2 := mul_bd h0 h8 hy (by rw [a2]; exact hy1)
  have b3 := sd_bd h0 h8
  have hsp : spB (c.x * sd c.l) (c.y * sd c.l) = true := spB_t.mpr (by omega)
  unfold D.firstI
  simp only [rX, rY, h', if_true, ordI, hsp]
  rw [hsd]
  have hz := zz_split (c.x * 2 ^ (8 - n)) (c.y * 2 ^ (8 - n)) (8 - n) n
  rw [show 8 - n + n = 8 by omega, zz_low, half_low, half_low, Int.zero_add] at hz
  rw [hz]
  unfold T3.lo
  rw [sz_of a3, a2]
theorem next_ord {S : List T3} (hok : ∀ c ∈ S, c.ok = true) (hS : S.Pairwise fun a b => 0 ≤ D.cmpT b a) {k : Nat} (hk : k < S.length) : ∀ p ∈ S.take k, p.lo < S[k].lo ∨ (p.lo = S[k].lo ∧ S[k].hi ≤ p.hi) := by
  intro p hp
  obtain ⟨j, hj, rfl⟩ := List.mem_iff_getElem.mp hp
  have hjk : j < k := by simp at hj; omega
  simp only [List.getElem_take]
  have hjS : j < S.length := by omega
  have h := List.pairwise_iff_getElem.mp hS j k hjS hk hjk
  have oj := hok S[j] (List.getElem_mem _)
  have ok := hok S[k] (List.getElem_mem _)
  have h2 : ¬ D.cmpT S[k] S[j] < 0 := by omega
  rw [cmpT_lt, first_lo oj, first_lo ok] at h2
  rcases Int.lt_trichotomy S[j].lo S[k].lo with h3 | h3 | h3
  · exact .inl h3
  · right
    refine ⟨h3, ?_⟩
    have hl : S[j].l ≤ S[k].l := by omega
    have := (sz_le ok oj).mpr hl
    unfold T3.hi; omega
  · exact (h2 (.inl h3)).elim
theorem join_next {S : List T3} (hok : ∀ c ∈ S, c.ok = true) (hS : S.Pairwise fun a b => 0 ≤ D.cmpT b a) {k : Nat} (hk : k < S.length) {M : List T3} (hM : Canon M) (hcv : ∀ n, cov M n ↔ cov (S.take k) n) (hno : haveB M S[k] = false) : ∀ m ∈ M, m.hi ≤ S[k].lo := by
  intro m hm
  have oc := hok S[k] (List.getElem_mem _)
  have om := hM.ok m hm
  have hnf : ¬ full (cov M) S[k] := fun h => by have := (hM.have_iff oc).mpr h; rw [hno] at this; cases this
  have hord := next_ord hok hS hk
  -- a Cell of the first k that has all of the next one
  have key : ∀ p ∈ S.take k, p.lo ≤ S[k].lo → S[k].hi ≤ p.hi → False := fun p hp h1 h2 =>
    hnf fun n hn => (hcv n).mpr ⟨p, hp, by have := hn.1; omega, by have := hn.2; omega⟩
  have hml := m.lt
  obtain ⟨p, hp, p1, p2⟩ := (hcv m.lo).mp ⟨m, hm, Int.le_refl _, hml⟩
  have op := hok p (List.mem_of_mem_take hp)
  have ho := hord p hp
  rcases lam om oc with h | h | h | h
  · exact h
  · exact (key p hp (by omega) (by omega)).elim
  · obtain ⟨a1, a2⟩ := (ins_iff om oc).mp h
    have hcl := S[k].lt
    rcases lam op oc with h' | h' | h' | h'
    · omega
    · omega
    · obtain ⟨b1, b2⟩ := (ins_iff op oc).mp h'
      exact (key p hp (by omega) (by omega)).elim
    · obtain ⟨b1, b2⟩ := (ins_iff oc op).mp h'
      exact (key p hp b1 b2).elim
  · have : haveB M S[k] = true := List.any_eq_true.mpr ⟨m, hm, h⟩
    rw [hno] at this; cases this
theorem cov_take {S : List T3} {k : Nat} (hk : k < S.length) (n : Int) : cov (S.take (k + 1)) n ↔ cov (S.take k) n ∨ mem n S[k] := by
  rw [List.take_succ_eq_append_getElem hk, cov_append]
  refine or_congr Iff.rfl ⟨?_, fun h => ⟨_, by simp, h⟩⟩
  rintro ⟨c, hc, h⟩
  simp at hc; subst hc; exact h
theorem cov_perm {A B : List T3} (h : A.Perm B) (n : Int) : cov A n ↔ cov B n :=
  ⟨fun ⟨c, hc, hn⟩ => ⟨c, h.mem_iff.mp hc, hn⟩, fun ⟨c, hc, hn⟩ => ⟨c, h.mem_iff.mpr hc, hn⟩⟩
end Go.Proofs.YtbkiogedipmioaaGreat.V.M
namespace Go.Proofs.YtbkiogedipmioaaGreat.V.M
open Go.RowKit Go.Joins
attribute [local go_sem ↓] Go.wp_at_zero Go.wp_at_succ

theorem below_of_ext {base : Nat} {W W1 W2 : World} {v v' : Value} {M N : List T3} (hb : Below base W W1) (ho : Ow W1 base v N) (h : Ext base W1 v W2 v' M) (hB : base ≤ W.heap.size) : Below base W W2 := by
  refine ⟨h.gr.os.trans hb.os, h.gr.tape.trans hb.tape, h.gr.output.trans hb.output, Nat.le_trans hb.size h.gr.size, fun k hk => ?_⟩
  refine (h.gr.block k (Nat.lt_of_lt_of_le (Nat.lt_of_lt_of_le hk hB) hb.size) (fun e => ?_)).trans (hb.block k hk)
  have := (ho.lt k e.symm).1
  omega
theorem Slb.low {base : Nat} {w w' : World} {p : Option Addr} {L : List T3} (h : Slb base w p L) (hb : Below base w w') : Slb base w' p L := by
  rcases h with h | ⟨g, off, h1, h2, h3⟩
  · exact .inl h
  · refine .inr ⟨g, off, h1, h2, Nat.lt_of_lt_of_le h3.1 hb.size, fun k c hk => ?_⟩
    exact ⟨(hb.cell (p := ⟨g, _, none⟩) h2).trans (h3.2 k c hk).1, (hb.cell (p := ⟨g, _, none⟩) h2).trans (h3.2 k c hk).2.1, (hb.cell (p := ⟨g, _, none⟩) h2).trans (h3.2 k c hk).2.2⟩
theorem Slb.at {base : Nat} {w : World} {p : Option Addr} {L : List T3} (h : Slb base w p L) {k : Nat} (hk : k < L.length) : ∃ g off, p = some ⟨g, off, none⟩ ∧ Cs w g off L := by
  rcases h with rfl | ⟨g, off, h1, _, h3⟩
  · simp at hk
  · exact ⟨g, off, h1, h3⟩

set_option maxRecDepth 100000 in
set_option maxHeartbeats 4000000 in
theorem joined_any (p : Option Addr) (cap : Nat) (L : List T3) (w : World) (hL : Sl w p L) (hp : Pl p) (hok : ∀ c ∈ L, c.ok = true) (hn : L.length ≤ 1048) :
    Calls Tryz.prog 118 #[.slice p L.length cap] w fun e w' => ∃ v', e = .returned v' ∧ Ow w' w.heap.size v' (dec (muF L) 8 zro) ∧ Below w.heap.size w w' := by
  obtain ⟨i0, hi, hz0, hz1, hz2⟩ := info_parts info89
  go_enter Tryz.func118, Tryz.ntmps118
  go_wp2_with (go_at_call 130; refine (inOrder_any p cap L _ hL hp (by omega)).mono ?_; rintro e w1 ⟨q, cap', S, rfl, hS1, hS2, hS3, hb1⟩)
  have hlS : S.length = L.length := hS1.length_eq
  have hokS : ∀ c ∈ S, c.ok = true := fun c hc => hok c (hS1.mem_iff.mp hc)
  have hSl : Slb w1.heap.size w1 q S := (Ow.sl (by unfold Ow at hS3; unfold Ow; exact hS3)).slb (Nat.le_refl _)
  have Hl : Hid (S.length = L.length) := hlS
  clear hlS
  go_loopw [3, 9] (fun mv i wr => ∃ (k : Nat) (M : List T3), k ≤ L.length ∧ i = .int .i64 k ∧ Ow wr w1.heap.size mv M ∧ Below w1.heap.size w1 wr ∧ Canon M ∧ (∀ n, cov M n ↔ cov (S.take k) n) ∧ M.length ≤ k) (fun _ i _ => L.length - (intOf i).toNat)
  case atStart => exact ⟨0, [], by omega, rfl, Ow.nil _ _, Below.refl _ _, ⟨by simp, .nil, fun u _ _ h => by have := h 0 (by omega); cases this⟩, fun n => by simp [cov], by simp⟩
  case round =>
    obtain ⟨k, M, hk, rfl, hrow, hb, hM, hcv, hml⟩ := hrel
    obtain ⟨pm, capm, hmv, hslm⟩ := Ow.form hrow
    subst hmv
    by_cases hlt : k < L.length
    · have hki : (k : Int) < L.length := by omega
      have hkS : k < S.length := by have := Hl.out; omega
      obtain ⟨g, off, rfl, hC⟩ := (hSl.low hb).at hkS
      obtain ⟨c0, c1, c2⟩ := hC.2 k S[k] (List.getElem?_eq_getElem hkS)
      have hst := ((St.nil wr).push [.int .i64 S[k].l, .int .i64 S[k].x, .int .i64 S[k].y] 89)
      cases hv : haveB M S[k]
      · go_upto_region 6 with (go_at_call 50; refine (have_v hv pm capm _ (hslm.step hst.bel) (by omega)).mono ?_; rintro e w2 ⟨rfl, hb2⟩; replace hst := hst.step hb2; have hk1 := hst.has; simp [Has, HasAt] at hk1)
        clear hb2
        have hrow2 := own_of_below hrow hst.bel
        have hz2' : w1.heap.size ≤ w2.heap.size := by have := hb.size; have := hst.size; omega
        have hnext := join_next hokS hS2 hkS hM hcv hv
        have hpre := hM.snoc (hokS _ (List.getElem_mem hkS)) hnext
        go_wp2_with (first
          | (at_builtin; refine wpList_append_own_at _ rfl _ _ 86 rfl w1.heap.size 89 i0 (.agg #[.int .i64 0, .int .i64 0, .int .i64 0]) 3 24 Tryz.underlying86 hi hz0 hz1 hz2 rfl (by decide) _ _ _ rfl (hrow2.alloc _) ⟨w2.heap.size, 0, none⟩ 1 1 S[k].vs rfl rfl (cell_three_at rfl) (fun u hu => by simp [T3.vs] at hu; rcases hu with rfl | rfl | rfl <;> rfl) (by unfold maxLen; omega) (by omega) (by simp; omega) ?_; intro v' w3 hown' hgrow _ hat)
          | (go_at_call 131; refine (folded_any w1.heap.size v' (M ++ [S[k]]) _ (by unfold Ow; rw [List.length_append, flat_append]; exact hown') hpre (by simp; omega) (Nat.le_trans hz2' (Nat.le_trans (by simp) hgrow.size))).mono ?_; rintro e w4 ⟨v4, M4, rfl, hE4, hM4, hcv4, hl4⟩))
        have hE3 : Ext w1.heap.size (w2.alloc (.cells #[.int .i64 S[k].l, .int .i64 S[k].x, .int .i64 S[k].y] 89)) (.slice pm M.length capm) w3 v' (M ++ [S[k]]) := by
          refine ⟨by unfold Ow; rw [List.length_append, flat_append]; exact hown', hgrow, fun g e => ?_⟩
          rcases hat with e2 | e2
          · exact .inl (e2.symm.trans e)
          · rw [e2] at e; cases e; exact .inr (Nat.le_refl _)
        have hE := (Ext.ahead (hst.al _).bel hE3).trans hE4
        go_roundw
        case rel =>
          refine ⟨k + 1, M4, by omega, by go_num, hE.own, below_of_ext hb hrow hE (Nat.le_refl _), hM4, fun n => ?_, by simp at hl4; omega⟩
          rw [hcv4 n, cov_append, hcv n, cov_take hkS]
          refine or_congr Iff.rfl ⟨?_, fun h => ⟨_, by simp, h⟩⟩
          rintro ⟨c, hc, h⟩
          simp at hc; subst hc; exact h
        case measure => simp [intOf]; omega
      · go_wp2_with (go_at_call 50; refine (have_v hv pm capm _ (hslm.step hst.bel) (by omega)).mono ?_; rintro e w2 ⟨rfl, hb2⟩; replace hst := hst.step hb2)
        go_roundw
        case rel =>
          refine ⟨k + 1, M, by omega, by go_num, own_of_below hrow hst.bel, bstep hb hst.bel (Nat.le_refl _), hM, fun n => ?_, by omega⟩
          rw [cov_take hkS, ← hcv n]
          exact ⟨.inl, fun h => h.elim id (fun h => have_full hM.ok (hokS _ (List.getElem_mem hkS)) hv n h)⟩
        case measure => simp [intOf]; omega
    · obtain rfl : k = L.length := by omega
      go_wp2
      go_ret
      have hMd : M = dec (muF L) 8 zro := hM.is_dec (muF_tells hok) fun n _ _ => by
        rw [hcv n, ← Hl.out, List.take_length]; exact cov_perm hS1 n
      refine ⟨_, rfl, ?_, hb1.trans (hb.mono hb1.size)⟩
      rw [← hMd]
      exact Ow.mono hrow hb1.size
theorem joined_v {L M : List T3} (h : dec (muF L) 8 zro = M) (p : Option Addr) (cap : Nat) (w : World) (hL : Sl w p L) (hp : Pl p) (hok : ∀ c ∈ L, c.ok = true) (hn : L.length ≤ 1048) :
    Calls Tryz.prog 118 #[.slice p L.length cap] w fun e w' => ∃ q cap', e = .returned (.slice q M.length cap') ∧ Ow w' w.heap.size (.slice q M.length cap') M ∧ Below w.heap.size w w' := by
  subst h
  exact (joined_any p cap L w hL hp hok hn).mono fun _ _ ⟨v', h1, h2, h3⟩ => by
    obtain ⟨q, cap', rfl, _⟩ := Ow.form h2
    exact ⟨q, cap', h1, h2, h3⟩
theorem okL_len {L : List T3} (h : okL L = true) : L.length ≤ 100 := of_decide_eq_true ((Bool.and_eq_true _ _).mp h).1

theorem joinL_len (L : List T3) : (joinL L).length ≤ 65536 := by
  unfold joinL
  split
  · exact dec_len _ 8 _
  · simp
end Go.Proofs.YtbkiogedipmioaaGreat.V.M
namespace Go.Proofs.YtbkiogedipmioaaGreat.V.M
open Go.RowKit Go.Joins
attribute [local go_sem ↓] Go.wp_at_zero Go.wp_at_succ

theorem Sx.o0 {w W : World} {a : Value × List T3} {l : List (Value × List T3)} (h : Sx w W (a :: l)) : Ow W w.heap.size a.1 a.2 := h.own _ (by simp)
theorem Sx.o1 {w W : World} {a b : Value × List T3} {l : List (Value × List T3)} (h : Sx w W (a :: b :: l)) : Ow W w.heap.size b.1 b.2 := h.own _ (by simp)
theorem Sx.o2 {w W : World} {a b c : Value × List T3} {l : List (Value × List T3)} (h : Sx w W (a :: b :: c :: l)) : Ow W w.heap.size c.1 c.2 := h.own _ (by simp)
theorem Sx.o3 {w W : World} {a b c d : Value × List T3} {l : List (Value × List T3)} (h : Sx w W (a :: b :: c :: d :: l)) : Ow W w.heap.size d.1 d.2 := h.own _ (by simp)
theorem Sx.o4 {w W : World} {a b c d e : Value × List T3} {l : List (Value × List T3)} (h : Sx w W (a :: b :: c :: d :: e :: l)) : Ow W w.heap.size e.1 e.2 := h.own _ (by simp)
/-- The second of the lists, or the first, goes out of sight. -/
theorem Sx.d0 {w W : World} {a : Value × List T3} {l : List (Value × List T3)} (h : Sx w W (a :: l)) : Sx w W l := h.sub (List.sublist_cons_self ..)
theorem Sx.d1 {w W : World} {a b : Value × List T3} {l : List (Value × List T3)} (h : Sx w W (a :: b :: l)) : Sx w W (a :: l) := h.sub ((List.sublist_cons_self ..).cons_cons _)

end Go.Proofs.YtbkiogedipmioaaGreat.V.M
namespace Go.Proofs.YtbkiogedipmioaaGreat.V.M

def pk (c o : T3) : List T3 := if insT c o then [c] else if insT o c then [o] else []
def comB (B : List T3) (c : T3) : List T3 := B.flatMap (pk c)
def comL (A B : List T3) : List T3 := A.flatMap (comB B)
theorem pk_cases {c o m : T3} (h : m ∈ pk c o) : (m = c ∧ insT c o = true) ∨ (m = o ∧ insT o c = true) := by
  unfold pk at h
  split at h
  · simp at h; exact .inl ⟨h, by assumption⟩
  · split at h
    · simp at h; exact .inr ⟨h, by assumption⟩
    · cases h
theorem pk_in {c o m : T3} (hc : c.ok = true) (ho : o.ok = true) (h : m ∈ pk c o) : m.ok = true ∧ (c.lo ≤ m.lo ∧ m.hi ≤ c.hi) ∧ (o.lo ≤ m.lo ∧ m.hi ≤ o.hi) := by
  rcases pk_cases h with ⟨rfl, hi⟩ | ⟨rfl, hi⟩
  · exact ⟨hc, ⟨Int.le_refl _, Int.le_refl _⟩, (ins_iff hc ho).mp hi⟩
  · exact ⟨ho, (ins_iff ho hc).mp hi, ⟨Int.le_refl _, Int.le_refl _⟩⟩
theorem mem_comL {A B : List T3} {m : T3} : m ∈ comL A B ↔ ∃ c ∈ A, ∃ o ∈ B, m ∈ pk c o := by
  unfold comL comB
  simp only [List.mem_flatMap]
theorem com_cov {A B : List T3} (hA : Canon A) (hB : Canon B) (n : Int) : cov (comL A B) n ↔ cov A n ∧ cov B n := by
  constructor
  · rintro ⟨m, hm, n1, n2⟩
    obtain ⟨c, hc, o, ho, hp⟩ := mem_comL.mp hm
    obtain ⟨_, h1, h2⟩ := pk_in (hA.ok c hc) (hB.ok o ho) hp
    exact ⟨⟨c, hc, by omega, by omega⟩, ⟨o, ho, by omega, by omega⟩⟩
  · rintro ⟨⟨c, hc, c1, c2⟩, ⟨o, ho, o1, o2⟩⟩
    by_cases hi : insT c o = true
    · exact ⟨c, mem_comL.mpr ⟨c, hc, o, ho, by simp [pk, hi]⟩, c1, c2⟩
    · rcases lam (hA.ok c hc) (hB.ok o ho) with h | h | h | h
      · omega
      · omega
      · exact (hi h).elim
      · exact ⟨o, mem_comL.mpr ⟨c, hc, o, ho, by simp [pk, hi, h]⟩, o1, o2⟩
theorem com_canon {A B : List T3} (hA : Canon A) (hB : Canon B) : Canon (comL A B) := by
  refine ⟨fun m hm => ?_, ?_, fun u hu hl hq => ?_⟩
  · obtain ⟨c, hc, o, ho, hp⟩ := mem_comL.mp hm
    exact (pk_in (hA.ok c hc) (hB.ok o ho) hp).1
  · unfold comL
    rw [List.pairwise_flatMap]
    refine ⟨fun c hc => ?_, ?_⟩
    · unfold comB
      rw [List.pairwise_flatMap]
      refine ⟨fun o ho => ?_, ?_⟩
      · unfold pk; split
        · simp
        · split <;> simp
      · refine (List.pairwise_iff_forall_sublist.mpr fun {o1 o2} hs => ?_)
        have hsub := hs.subset
        have h1 := hsub (List.mem_cons_self ..)
        have h2 := hsub (List.mem_cons_of_mem _ (List.mem_cons_self ..))
        have hr := List.pairwise_iff_forall_sublist.mp hB.srt hs
        intro x hx y hy
        have a := (pk_in (hA.ok c hc) (hB.ok o1 h1) hx).2.2
        have b := (pk_in (hA.ok c hc) (hB.ok o2 h2) hy).2.2
        omega
    · refine (List.pairwise_iff_forall_sublist.mpr fun {c1 c2} hs => ?_)
      have hsub := hs.subset
      have h1 := hsub (List.mem_cons_self ..)
      have h2 := hsub (List.mem_cons_of_mem _ (List.mem_cons_self ..))
      have hr := List.pairwise_iff_forall_sublist.mp hA.srt hs
      intro x hx y hy
      unfold comB at hx hy
      obtain ⟨o1, ho1, hp1⟩ := List.mem_flatMap.mp hx
      obtain ⟨o2, ho2, hp2⟩ := List.mem_flatMap.mp hy
      have a := (pk_in (hA.ok c1 h1) (hB.ok o1 ho1) hp1).2.1
      have b := (pk_in (hA.ok c2 h2) (hB.ok o2 ho2) hp2).2.1
      omega
  · have hfA : full (cov A) u := full_of_q hu hl fun i hi n hn => ((com_cov hA hB n).mp ⟨_, hq i hi, hn⟩).1
    have hfB : full (cov B) u := full_of_q hu hl fun i hi n hn => ((com_cov hA hB n).mp ⟨_, hq i hi, hn⟩).2
    obtain ⟨a, ha, hia⟩ := hA.big' hu hfA
    obtain ⟨b, hb, hib⟩ := hB.big' hu hfB
    obtain ⟨s, h1, h2, _, h3⟩ := quarts hu hl
    have a0 := h3 0 (by omega)
    simp at a0
    obtain ⟨a1, a2⟩ := (ins_iff hu (hA.ok a ha)).mp hia
    obtain ⟨b1, b2⟩ := (ins_iff hu (hB.ok b hb)).mp hib
    obtain ⟨c, hc, o, ho, hp⟩ := mem_comL.mp (hq 0 (by omega))
    rcases pk_cases hp with ⟨e, _⟩ | ⟨e, _⟩
    · have : c = a := srt_one hA.srt hc ha (n := u.lo) ⟨by rw [← e]; omega, by rw [← e]; omega⟩ ⟨by omega, by omega⟩
      rw [← this, ← e] at a2
      omega
    · have : o = b := srt_one hB.srt ho hb (n := u.lo) ⟨by rw [← e]; omega, by rw [← e]; omega⟩ ⟨by omega, by omega⟩
      rw [← this, ← e] at b2
      omega
def cmF (L K : List T3) (c : T3) : Int := if muF L c = 0 ∨ muF K c = 0 then 0 else if muF L c = 2 ∧ muF K c = 2 then 2 else 1
theorem cmF_tells {L K : List T3} (hL : ∀ c ∈ L, c.ok = true) (hK : ∀ c ∈ K, c.ok = true) : Tells (cmF L K) (fun n => cov L n ∧ cov K n) := by
  have tL := muF_tells hL
  have tK := muF_tells hK
  refine ⟨fun c hc => ?_, fun c hc h n hn => ?_, fun c hc h8 => ?_⟩
  · have h1 := tL.two c hc
    have h2 := tK.two c hc
    have key : full (fun n => cov L n ∧ cov K n) c ↔ full (cov L) c ∧ full (cov K) c := ⟨fun h => ⟨fun n hn => (h n hn).1, fun n hn => (h n hn).2⟩, fun h n hn => ⟨h.1 n hn, h.2 n hn⟩⟩
    rw [key, ← h1, ← h2]
    unfold cmF
    split
    · constructor
      · intro h; simp at h
      · intro h; omega
    · split
      · exact ⟨fun _ => by assumption, fun _ => rfl⟩
      · exact ⟨fun h => by simp at h, fun h => by contradiction⟩
  · unfold cmF at h
    split at h
    · rename_i h0
      rcases h0 with h0 | h0
      · exact fun h5 => tL.nil c hc h0 n hn h5.1
      · exact fun h5 => tK.nil c hc h0 n hn h5.2
    · split at h <;> simp at h
  · unfold cmF
    rcases tL.spot c hc h8 with h | h <;> rcases tK.spot c hc h8 with h' | h' <;> simp [h, h']
theorem com_is {L K : List T3} (hL : ∀ c ∈ L, c.ok = true) (hK : ∀ c ∈ K, c.ok = true) {A B : List T3} (hA : Canon A) (hB : Canon B) (cA : ∀ n, cov A n ↔ cov L n) (cB : ∀ n, cov B n ↔ cov K n) : comL A B = dec (cmF L K) 8 zro :=
  (com_canon hA hB).is_dec (cmF_tells hL hK) fun n _ _ => by rw [com_cov hA hB, cA, cB]
end Go.Proofs.YtbkiogedipmioaaGreat.V.M
namespace Go.Proofs.YtbkiogedipmioaaGreat.V.M
open Go.RowKit Go.Joins
attribute [local go_sem ↓] Go.wp_at_zero Go.wp_at_succ

theorem dec_canon {L : List T3} (hok : ∀ c ∈ L, c.ok = true) : Canon (dec (muF L) 8 zro) ∧ ∀ n, cov (dec (muF L) 8 zro) n ↔ cov L n := by
  have hd := dec_of (muF_tells hok) 8 zro zro_ok (by decide)
  refine ⟨hd.canon, fun n => ⟨fun h => (hd.has n (hd.out h)).mpr h, ?_⟩⟩
  rintro ⟨c, hc, n1, n2⟩
  have := ok_in (hok c hc)
  exact (hd.has n ⟨by rw [zro_lo]; omega, by rw [zro_hi]; omega⟩).mp ⟨c, hc, n1, n2⟩
def comS (L K : List T3) : List T3 := if okL L && okL K then dec (cmF L K) 8 zro else []

end Go.Proofs.YtbkiogedipmioaaGreat.V.M
