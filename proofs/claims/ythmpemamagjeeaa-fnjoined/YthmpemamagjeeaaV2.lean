/-
  Common: the spec's recursion over two lists.
-/
import Derived.Test.YthmpemamagjeeaaJ5
import Derived.Test.YthmpemamagjeeaaM5
namespace Go.Proofs.Ythmpemamagjeeaa
open Go.RowKit Go.Joins
attribute [local go_sem ↓] Go.wp_at_zero Go.wp_at_succ

def CoP (L K : List T3) (p q : Option Addr) (cap cap2 base n : Nat) : Prop := ∀ (c : T3) (v : Value) (A : List T3) (w : World), c.ok = true → (8 - c.l).toNat = n → Ow w base v A → Slb base w p L → Slb base w q K → A.length + 4 ^ n ≤ 1000000 → base ≤ w.heap.size →
    Calls Try.prog 74 #[.slice p L.length cap, .slice q K.length cap2, .agg #[.int .i64 c.l, .int .i64 c.x, .int .i64 c.y], v] w fun e w' => ∃ v', e = .returned v' ∧ Ext base w v w' v' (A ++ dec (cmF L K) n c)

set_option maxRecDepth 100000 in
set_option maxHeartbeats 8000000 in
theorem l3Common_step {L K : List T3} (hok : ∀ a ∈ L, a.ok = true) (hokK : ∀ a ∈ K, a.ok = true) (hnL : L.length ≤ 1048576) (hnK : K.length ≤ 1048576) (p q : Option Addr) (cap cap2 base n : Nat) (ih : ∀ m, n = m + 1 → CoP L K p q cap cap2 base m) : CoP L K p q cap cap2 base n := by
  intro c v A w hc hn hrow hL hK hlen hbase
  obtain ⟨i0, hi, hz0, hz1, hz2⟩ := info_parts info38
  have hs := St.nil w
  have hp4 : 1 ≤ 4 ^ n := Nat.one_le_pow _ _ (by decide)
  have hmu := l3Much_any hok hnL p cap n
  have hmu2 := l3Much_any hokK hnK q cap2 n
  have b1 := much_le L (8 - c.l).toNat c
  have b2 := much_le K (8 - c.l).toNat c
  have hx : muF L c = 0 ∨ muF L c = 1 ∨ muF L c = 2 := by unfold muF; omega
  have hy : muF K c = 0 ∨ muF K c = 1 ∨ muF K c = 2 := by unfold muF; omega
  clear b1 b2
  have noneC : ∀ {w' : World}, Below w.heap.size w w' → cmF L K c = 0 → Ext base w v w' v (A ++ dec (cmF L K) n c) := fun hb h => by
    rw [dec_no h, List.append_nil]; exact (Ext.refl hrow).behind hb
  by_cases hx0 : muF L c = 0
  · rcases hy with hyv | hyv | hyv
    all_goals
      go_enter Try.func74, Try.ntmps74
      go_wp2_with (first
        | (have hb9 := hb2; clear hb9; go_at_call 72; refine (much_v hmu2 hc hn hyv _ (hK.sl.step hs.bel)).mono ?_; rintro e w2 ⟨rfl, hb3⟩; replace hs := hs.step hb3; clear hk; have hk := hs.has; simp [Has, HasAt] at hk)
        | (go_at_call 72; refine (much_v hmu hc hn hx0 _ (hL.sl.step (hs.push _ _).bel)).mono ?_; rintro e w1 ⟨rfl, hb2⟩; replace hs := (hs.push _ _).step hb2; have hk := hs.has; simp [Has, HasAt] at hk))
      go_ret
      exact ⟨_, rfl, noneC hs.bel (by simp [cmF, hx0])⟩
  by_cases hy0 : muF K c = 0
  · rcases hx with hxv | hxv | hxv
    · exact (hx0 hxv).elim
    all_goals
      go_enter Try.func74, Try.ntmps74
      go_wp2_with (first
        | (have hb9 := hb2; clear hb9; go_at_call 72; refine (much_v hmu2 hc hn hy0 _ (hK.sl.step hs.bel)).mono ?_; rintro e w2 ⟨rfl, hb3⟩; replace hs := hs.step hb3; clear hk; have hk := hs.has; simp [Has, HasAt] at hk)
        | (go_at_call 72; refine (much_v hmu hc hn hxv _ (hL.sl.step (hs.push _ _).bel)).mono ?_; rintro e w1 ⟨rfl, hb2⟩; replace hs := (hs.push _ _).step hb2; have hk := hs.has; simp [Has, HasAt] at hk))
      go_ret
      exact ⟨_, rfl, noneC hs.bel (by simp [cmF, hy0])⟩
  by_cases h22 : muF L c = 2 ∧ muF K c = 2
  · obtain ⟨hx2, hy2⟩ := h22
    have hf : cmF L K c = 2 := by simp [cmF, hx2, hy2]
    go_enter Try.func74, Try.ntmps74
    go_upto_region 6 with (first
      | (have hb9 := hb2; clear hb9; go_at_call 72; refine (much_v hmu2 hc hn hy2 _ (hK.sl.step hs.bel)).mono ?_; rintro e w2 ⟨rfl, hb3⟩; replace hs := hs.step hb3; clear hk; have hk := hs.has; simp [Has, HasAt] at hk)
      | (go_at_call 72; refine (much_v hmu hc hn hx2 _ (hL.sl.step (hs.push _ _).bel)).mono ?_; rintro e w1 ⟨rfl, hb2⟩; replace hs := (hs.push _ _).step hb2; have hk := hs.has; simp [Has, HasAt] at hk))
    clear hb2 hb3
    have hrow1 := own_of_below hrow hs.bel
    have hsz := hs.size
    go_wp2_with (at_builtin; refine wpList_append_own_at _ rfl _ _ 27 rfl base 38 i0 (.agg #[.int .i64 0, .int .i64 0, .int .i64 0]) 3 24 Try.underlying27 hi hz0 hz1 hz2 rfl (by decide) _ _ _ rfl (hrow1.alloc _) ⟨w2.heap.size, 0, none⟩ 1 1 c.vs rfl rfl (cell_three_at rfl) (fun u hu => by simp [T3.vs] at hu; rcases hu with rfl | rfl | rfl <;> rfl) (by unfold maxLen; omega) (by omega) (by simp; omega) ?_; intro v' w3 hown' hgrow _ hat)
    go_ret
    rw [dec_full hf]
    have hO : Ow w3 base v' (A ++ [c]) := by
      unfold Ow; rw [List.length_append, flat_append]; exact hown'
    refine ⟨v', rfl, Ext.ahead (hs.al _).bel ⟨hO, hgrow, fun g e => ?_⟩⟩
    rcases hat with e2 | e2
    · exact .inl (e2.symm.trans e)
    · rw [e2] at e; cases e; exact .inr (Nat.le_refl _)
  · have h0 : cmF L K c ≠ 0 := by unfold cmF; simp only [hx0, hy0, or_self, if_false]; split <;> simp
    have h2 : cmF L K c ≠ 2 := by unfold cmF; simp only [hx0, hy0, or_self, if_false, h22]; simp
    have hl8 : c.l < 8 := by
      rcases Int.lt_or_le c.l 8 with h | h
      · exact h
      · rcases (cmF_tells hok hokK).spot c hc (by have := (ok_iff.mp hc).2.1; omega) with h | h
        · exact (h0 h).elim
        · exact (h2 h).elim
    obtain ⟨m, rfl⟩ : ∃ m, n = m + 1 := ⟨n - 1, by omega⟩
    have ihm := ih m rfl
    have three : (muF L c = 1 ∧ muF K c = 1) ∨ (muF L c = 1 ∧ muF K c = 2) ∨ (muF L c = 2 ∧ muF K c = 1) := by omega
    clear hx hy h22 hx0 hy0
    rcases three with ⟨hxv, hyv⟩ | ⟨hxv, hyv⟩ | ⟨hxv, hyv⟩
    all_goals
      go_enter Try.func74, Try.ntmps74
      go_upto_region 7 with (first
      | (have hb9 := hb2; clear hb9; go_at_call 72; refine (much_v hmu2 hc hn hyv _ (hK.sl.step hs.bel)).mono ?_; rintro e w2 ⟨rfl, hb3⟩; replace hs := hs.step hb3; clear hk; have hk := hs.has; simp [Has, HasAt] at hk)
      | (go_at_call 72; refine (much_v hmu hc hn hxv _ (hL.sl.step (hs.push _ _).bel)).mono ?_; rintro e w1 ⟨rfl, hb2⟩; replace hs := (hs.push _ _).step hb2; have hk := hs.has; simp [Has, HasAt] at hk))
      clear hb2 hb3 hk
      have hrow1 := own_of_below hrow hs.bel
      have hL1 := hL.step hs.bel
      have hK1 := hK.step hs.bel
      have hd1 : ∀ pr ∈ ([(w.heap.size, [.int .i64 c.l, .int .i64 c.x, .int .i64 c.y])] : List (Nat × List Value)), v.ownBlock ≠ some pr.1 := by
        intro pr hpr e
        have := (hrow.lt _ e).2
        simp at hpr; subst hpr; simp at this
      have hsz := hs.size
      go_wp2
      go_loopw [3, 11] (fun v' i wr => ∃ k : Nat, k ≤ 4 ∧ i = .int .i64 k ∧ Ext base w2 v wr v' (A ++ decs (cmF L K) m c k) ∧ Has wr [(w.heap.size, [.int .i64 c.l, .int .i64 c.x, .int .i64 c.y])] ∧ (∀ pr ∈ ([(w.heap.size, [.int .i64 c.l, .int .i64 c.x, .int .i64 c.y])] : List (Nat × List Value)), v'.ownBlock ≠ some pr.1) ∧ Slb base wr p L ∧ Slb base wr q K) (fun _ i _ => 4 - (intOf i).toNat)
      case atStart => exact ⟨0, by omega, rfl, by rw [decs, List.append_nil]; exact Ext.refl hrow1, hs.has, hd1, hL1, hK1⟩
      case round =>
        obtain ⟨k, hk4, rfl, hE, hH, hd, hLk, hKk⟩ := hrel
        have hk1 := hH
        simp [Has, HasAt] at hk1
        by_cases hlt : k < 4
        · have hnum : (k : Int) < 4 := by omega
          have hl2 := decs_len (cmF L K) m c k
          have hl3 : k * 4 ^ m + 4 ^ m ≤ 4 ^ (m + 1) := by rw [Nat.pow_succ]; have := Nat.mul_le_mul_right (4 ^ m) (show k + 1 ≤ 4 by omega); rw [Nat.succ_mul] at this; omega
          have hbs : base ≤ wr.heap.size := by have := hE.gr.size; omega
          go_wp2_with (first
            | (go_at_call 83; refine (l2Quarter_any hc hlt _).mono ?_; rintro e w4 ⟨rfl, hb2⟩)
            | (go_at_call 74; refine (ihm (c.q k) _ _ _ (q_ok hc hl8 hlt) (by show (8 - (c.l + 1)).toNat = m; omega) (own_of_below hE.own hb2) (hLk.step hb2) (hKk.step hb2) (by simp only [List.length_append]; omega) (Nat.le_trans hbs hb2.size)).mono ?_; rintro e w3 ⟨v3, rfl, hE2⟩; have hfar := hE2.far (hH.step hb2) hd))
          go_roundw
          case rel =>
            refine ⟨k + 1, by omega, by go_num, ?_, hfar.1, hfar.2, (hLk.step hb2).grown hE2.gr (fun r e => (hE.own.lt r e).1), (hKk.step hb2).grown hE2.gr (fun r e => (hE.own.lt r e).1)⟩
            rw [decs, ← List.append_assoc]
            exact hE.trans (Ext.ahead hb2 hE2)
          case measure => simp [intOf]; omega
        · obtain rfl : k = 4 := by omega
          go_wp2
          go_ret
          rw [dec_part h0 h2]
          exact ⟨_, rfl, Ext.ahead hs.bel hE⟩
theorem l3Common_any {L K : List T3} (hok : ∀ a ∈ L, a.ok = true) (hokK : ∀ a ∈ K, a.ok = true) (hnL : L.length ≤ 1048576) (hnK : K.length ≤ 1048576) (p q : Option Addr) (cap cap2 base : Nat) : ∀ n, CoP L K p q cap cap2 base n := by
  intro n
  induction n with
  | zero => exact l3Common_step hok hokK hnL hnK p q cap cap2 base 0 (fun m h => by omega)
  | succ n ih => exact l3Common_step hok hokK hnL hnK p q cap cap2 base (n + 1) (fun m h => by cases h; exact ih)
def comS (L K : List T3) : List T3 := if okL L && okL K then dec (cmF L K) 8 zro else []

set_option maxRecDepth 100000 in
set_option maxHeartbeats 2000000 in
theorem sCommon_any (p q : Option Addr) (cap cap2 : Nat) (L K : List T3) (w : World) (hL : Sl w p L) (hn : L.length ≤ 1048576) (hK : Sl w q K) (hk : K.length ≤ 1048576) :
    Calls Try.prog 35 #[.slice p L.length cap, .slice q K.length cap2] w fun e w' => ∃ v', e = .returned v' ∧ Ow w' w.heap.size v' (comS L K) ∧ Below w.heap.size w w' := by
  cases hv1 : okL L
  · rw [comS, hv1]
    go_enter Try.func35, Try.ntmps35
    go_wp2_with (go_at_call 56; refine (l3Cells_v hv1 p cap _ hL (by omega)).mono ?_; rintro e w1 ⟨rfl, hb2⟩)
    go_ret
    exact ⟨_, rfl, own_empty _ _ hb2.size, bstep hb2 (below_alloc1 _ _) (Nat.le_refl _)⟩
  cases hv2 : okL K
  · rw [comS, hv1, hv2]
    go_enter Try.func35, Try.ntmps35
    go_wp2_with (first
      | (go_at_call 56; refine (l3Cells_v hv2 q cap2 _ (hK.step hb2) (by omega)).mono ?_; rintro e w2 ⟨rfl, hb3⟩; replace hb3 := bstep hb2 hb3 (Nat.le_refl _))
      | (go_at_call 56; refine (l3Cells_v hv1 p cap _ hL (by omega)).mono ?_; rintro e w1 ⟨rfl, hb2⟩))
    go_ret
    exact ⟨_, rfl, own_empty _ _ hb3.size, bstep hb3 (below_alloc1 _ _) (Nat.le_refl _)⟩
  · rw [comS, hv1, hv2]
    go_enter Try.func35, Try.ntmps35
    go_wp2_with (first
      | (go_at_call 56; refine (l3Cells_v hv2 q cap2 _ (hK.step hb2) (by omega)).mono ?_; rintro e w2 ⟨rfl, hb3⟩; replace hb3 := bstep hb2 hb3 (Nat.le_refl _))
      | (go_at_call 56; refine (l3Cells_v hv1 p cap _ hL (by omega)).mono ?_; rintro e w1 ⟨rfl, hb2⟩)
      | (go_at_call 74; refine (l3Common_any (okL_all hv1) (okL_all hv2) hn hk p q cap cap2 w.heap.size 8 zro _ [] _ (by decide) (by decide) (own_empty_at rfl hb3.size) ((hL.slb (Nat.le_refl _)).step (bstep hb3 (below_alloc1 _ _) (Nat.le_refl _))) ((hK.slb (Nat.le_refl _)).step (bstep hb3 (below_alloc1 _ _) (Nat.le_refl _))) (by decide) (by have := hb3.size; simp; omega)).mono ?_; rintro e w4 ⟨v2, rfl, hE⟩))
    go_ret
    have hb4 := bstep hb3 (below_alloc1 w2 (.cells #[] 38)) (Nat.le_refl _)
    refine ⟨v2, rfl, hE.own, ⟨hE.gr.os.trans hb4.os, hE.gr.tape.trans hb4.tape, hE.gr.output.trans hb4.output, Nat.le_trans hb4.size hE.gr.size, fun k hk => ?_⟩⟩
    refine (hE.gr.block k (Nat.lt_of_lt_of_le hk hb4.size) (fun e => ?_)).trans (hb4.block k hk)
    have := hb3.size
    simp [Value.ownBlock] at e
    omega
end Go.Proofs.Ythmpemamagjeeaa
