/-
  The spec's Joined: the list that its recursion makes.
-/
import Derived.Test.YthmpemamagjeeaaJ1
import Derived.Test.YthmpemamagjeeaaK2
namespace Go.Proofs.Ythmpemamagjeeaa
open Go.RowKit Go.Joins
attribute [local go_sem ↓] Go.wp_at_zero Go.wp_at_succ

theorem l3Much_any {L : List T3} (hok : ∀ a ∈ L, a.ok = true) (hn : L.length ≤ 1048576) (p : Option Addr) (cap : Nat) : ∀ n, MuP L p cap n := by
  intro n
  induction n with
  | zero => exact l3Much_step hok hn p cap 0 (fun m h => by omega)
  | succ n ih => exact l3Much_step hok hn p cap (n + 1) (fun m h => by obtain rfl : n = m := by omega
                                                                       exact ih)
def muF (L : List T3) (c : T3) : Int := much L (8 - c.l).toNat c
theorem no_cov {L : List T3} (hok : ∀ a ∈ L, a.ok = true) {c : T3} (hc : c.ok = true) (h1 : haveB L c = false) (h2 : anyOf L c = false) : ∀ k, mem k c → ¬ cov L k := by
  rintro k ⟨k1, k2⟩ ⟨a, ha, a1, a2⟩
  rcases lam hc (hok a ha) with h | h | h | h
  · omega
  · omega
  · have : haveB L c = true := List.any_eq_true.mpr ⟨a, ha, h⟩
    rw [h1] at this; cases this
  · have : anyOf L c = true := List.any_eq_true.mpr ⟨a, ha, h⟩
    rw [h2] at this; cases this
theorem much_two {L : List T3} (hok : ∀ a ∈ L, a.ok = true) : ∀ (n : Nat) (c : T3), c.ok = true → (8 - c.l).toNat = n → (much L n c = 2 ↔ full (cov L) c) ∧ (much L n c = 0 → ∀ k, mem k c → ¬ cov L k) := by
  intro n
  induction n with
  | zero =>
    intro c hc hn
    have h8 : c.l = 8 := by have := (ok_iff.mp hc).2.1; omega
    cases hh : haveB L c
    · have h2 : anyOf L c = false := by
        rw [Bool.eq_false_iff]; intro h; have := have_of8 hok hc h8 h; rw [hh] at this; cases this
      have hno := no_cov hok hc hh h2
      simp only [much, hh]
      exact ⟨⟨fun h => by simp at h, fun h => (hno c.lo ⟨Int.le_refl _, c.lt⟩ (h c.lo ⟨Int.le_refl _, c.lt⟩)).elim⟩, fun _ => hno⟩
    · simp only [much, hh]
      exact ⟨⟨fun _ => have_full hok hc hh, fun _ => rfl⟩, fun h => by simp at h⟩
  | succ n ih =>
    intro c hc hn
    have hl : c.l < 8 := by omega
    cases hh : haveB L c
    · cases h2 : anyOf L c
      · have hno := no_cov hok hc hh h2
        simp only [much, hh, h2]
        exact ⟨⟨fun h => by simp at h, fun h => (hno c.lo ⟨Int.le_refl _, c.lt⟩ (h c.lo ⟨Int.le_refl _, c.lt⟩)).elim⟩, fun _ => hno⟩
      · have hq : ∀ i, i < 4 → (much L n (c.q i) = 2 ↔ full (cov L) (c.q i)) := fun i hi => (ih (c.q i) (q_ok hc hl hi) (by show (8 - (c.l + 1)).toNat = n; omega)).1
        simp only [much, hh, h2]
        cases hall : (List.range 4).all (fun i => much L n (c.q i) == 2)
        · refine ⟨⟨fun h => by simp at h, fun h => ?_⟩, fun h => by simp at h⟩
          have : (List.range 4).all (fun i => much L n (c.q i) == 2) = true := List.all_eq_true.mpr fun i hi => by
            simp at hi; simp [(hq i hi).mpr (full_q hc hl hi h)]
          rw [hall] at this; cases this
        · refine ⟨⟨fun _ => full_of_q hc hl fun i hi => (hq i hi).mp (by have := List.all_eq_true.mp hall i (by simp; omega); simpa using this), fun _ => rfl⟩, fun h => by simp at h⟩
    · simp only [much, hh]
      exact ⟨⟨fun _ => have_full hok hc hh, fun _ => rfl⟩, fun h => by simp at h⟩
theorem muF_tells {L : List T3} (hok : ∀ a ∈ L, a.ok = true) : Tells (muF L) (cov L) := by
  refine ⟨fun c hc => (much_two hok _ c hc rfl).1, fun c hc => (much_two hok _ c hc rfl).2, fun c hc h8 => ?_⟩
  unfold muF
  rw [show (8 - c.l).toNat = 0 by omega]
  simp only [much]
  cases haveB L c <;> simp
theorem muF_at {L : List T3} {c : T3} {n : Nat} (h : (8 - c.l).toNat = n) : much L n c = muF L c := by subst h; rfl

/-- A list that lies below base. -/
def Slb (base : Nat) (w : World) (p : Option Addr) (L : List T3) : Prop := L = [] ∨ ∃ g off, p = some ⟨g, off, none⟩ ∧ g < base ∧ Cs w g off L
theorem Slb.sl {base : Nat} {w : World} {p : Option Addr} {L : List T3} (h : Slb base w p L) : Sl w p L := by
  rcases h with h | ⟨g, off, h1, _, h2⟩
  · exact .inl h
  · exact .inr ⟨g, off, h1, h2⟩
theorem Slb.step {base : Nat} {w w' : World} {p : Option Addr} {L : List T3} (h : Slb base w p L) (hb : Below w.heap.size w w') : Slb base w' p L := by
  rcases h with h | ⟨g, off, h1, h2, h3⟩
  · exact .inl h
  · exact .inr ⟨g, off, h1, h2, h3.step hb⟩
theorem Cs.grown {w w' : World} {g off : Nat} {L : List T3} {row : Option Nat} (h : Cs w g off L) (hg : w.grownBy w' row) (hne : row ≠ some g) : Cs w' g off L := by
  have hp : w'.heap[g]? = w.heap[g]? := hg.block g h.1 (fun e => hne e.symm)
  exact ⟨Nat.lt_of_lt_of_le h.1 hg.size, fun k c hk => ⟨(World.cell?_of_block (a := ⟨g, _, none⟩) hp).trans (h.2 k c hk).1, (World.cell?_of_block (a := ⟨g, _, none⟩) hp).trans (h.2 k c hk).2.1, (World.cell?_of_block (a := ⟨g, _, none⟩) hp).trans (h.2 k c hk).2.2⟩⟩
theorem Slb.grown {base : Nat} {w w' : World} {p : Option Addr} {L : List T3} {row : Option Nat} (h : Slb base w p L) (hg : w.grownBy w' row) (hr : ∀ r, row = some r → base ≤ r) : Slb base w' p L := by
  rcases h with h | ⟨g, off, h1, h2, h3⟩
  · exact .inl h
  · exact .inr ⟨g, off, h1, h2, h3.grown hg (fun e => by have := hr g e; omega)⟩
theorem Sl.slb {w : World} {p : Option Addr} {L : List T3} (h : Sl w p L) {base : Nat} (hb : w.heap.size ≤ base) : Slb base w p L := by
  rcases h with h | ⟨g, off, h1, h2⟩
  · exact .inl h
  · exact .inr ⟨g, off, h1, Nat.lt_of_lt_of_le h2.1 hb, h2⟩

def JoP (L : List T3) (p : Option Addr) (cap base n : Nat) : Prop := ∀ (c : T3) (v : Value) (A : List T3) (w : World), c.ok = true → (8 - c.l).toNat = n → Ow w base v A → Slb base w p L → A.length + 4 ^ n ≤ 1000000 → base ≤ w.heap.size →
    Calls Try.prog 71 #[.slice p L.length cap, .agg #[.int .i64 c.l, .int .i64 c.x, .int .i64 c.y], v] w fun e w' => ∃ v', e = .returned v' ∧ Ext base w v w' v' (A ++ dec (muF L) n c)
theorem much_v {L : List T3} {p : Option Addr} {cap n : Nat} {c : T3} {v : Int} (h : MuP L p cap n) (hc : c.ok = true) (hn : (8 - c.l).toNat = n) (hv : muF L c = v) (w : World) (hL : Sl w p L) :
    Calls Try.prog 72 #[.slice p L.length cap, .agg #[.int .i64 c.l, .int .i64 c.x, .int .i64 c.y]] w fun e w' => e = .returned (.int .i64 v) ∧ Below w.heap.size w w' := by
  subst hv; rw [← muF_at hn]; exact h c w hc hn hL

set_option maxRecDepth 100000 in
set_option maxHeartbeats 4000000 in
theorem l3Joined_step {L : List T3} (hok : ∀ a ∈ L, a.ok = true) (hnL : L.length ≤ 1048576) (p : Option Addr) (cap base n : Nat) (ih : ∀ m, n = m + 1 → JoP L p cap base m) : JoP L p cap base n := by
  intro c v A w hc hn hrow hL hlen hbase
  obtain ⟨i0, hi, hz0, hz1, hz2⟩ := info_parts info38
  have hs := St.nil w
  have hp4 : 1 ≤ 4 ^ n := Nat.one_le_pow _ _ (by decide)
  have hmu := l3Much_any hok hnL p cap n
  by_cases h0 : muF L c = 0
  · go_enter Try.func71, Try.ntmps71
    go_wp2_with (go_at_call 72; refine (much_v hmu hc hn h0 _ (hL.sl.step (hs.push _ _).bel)).mono ?_; rintro e w1 ⟨rfl, hb2⟩; replace hs := (hs.push _ _).step hb2; have hk := hs.has; simp [Has, HasAt] at hk)
    go_ret
    rw [dec_no h0, List.append_nil]
    exact ⟨_, rfl, (Ext.refl hrow).behind hs.bel⟩
  by_cases h2 : muF L c = 2
  · go_enter Try.func71, Try.ntmps71
    go_upto_region 5 with (go_at_call 72; refine (much_v hmu hc hn h2 _ (hL.sl.step (hs.push _ _).bel)).mono ?_; rintro e w1 ⟨rfl, hb2⟩; replace hs := (hs.push _ _).step hb2; have hk := hs.has; simp [Has, HasAt] at hk)
    clear hb2
    have hrow1 := own_of_below hrow hs.bel
    have hsz := hs.size
    go_wp2_with (at_builtin; refine wpList_append_own_at _ rfl _ _ 27 rfl base 38 i0 (.agg #[.int .i64 0, .int .i64 0, .int .i64 0]) 3 24 Try.underlying27 hi hz0 hz1 hz2 rfl (by decide) _ _ _ rfl (hrow1.alloc _) ⟨w1.heap.size, 0, none⟩ 1 1 c.vs rfl rfl (cell_three_at rfl) (fun u hu => by simp [T3.vs] at hu; rcases hu with rfl | rfl | rfl <;> rfl) (by unfold maxLen; omega) (by omega) (by simp; omega) ?_; intro v' w3 hown' hgrow _ hat)
    go_ret
    rw [dec_full h2]
    have hO : Ow w3 base v' (A ++ [c]) := by
      unfold Ow; rw [List.length_append, flat_append]; exact hown'
    refine ⟨v', rfl, Ext.ahead (hs.al _).bel ⟨hO, hgrow, fun g e => ?_⟩⟩
    rcases hat with e2 | e2
    · exact .inl (e2.symm.trans e)
    · rw [e2] at e; cases e; exact .inr (Nat.le_refl _)
  · have hl8 : c.l < 8 := by
      rcases Int.lt_or_le c.l 8 with h | h
      · exact h
      · rcases (muF_tells hok).spot c hc (by have := (ok_iff.mp hc).2.1; omega) with h | h
        · exact (h0 h).elim
        · exact (h2 h).elim
    obtain ⟨m, rfl⟩ : ∃ m, n = m + 1 := ⟨n - 1, by omega⟩
    have ihm := ih m rfl
    have hmv : muF L c = 1 := by have := much_le L (8 - c.l).toNat c; unfold muF at h0 h2 ⊢; omega
    go_enter Try.func71, Try.ntmps71
    go_upto_region 6 with (go_at_call 72; refine (much_v hmu hc hn hmv _ (hL.sl.step (hs.push _ _).bel)).mono ?_; rintro e w1 ⟨rfl, hb2⟩; replace hs := (hs.push _ _).step hb2; have hk := hs.has; simp [Has, HasAt] at hk)
    clear hb2 hk
    have hrow1 := own_of_below hrow hs.bel
    have hL1 := hL.step hs.bel
    have hd1 : ∀ pr ∈ ([(w.heap.size, [.int .i64 c.l, .int .i64 c.x, .int .i64 c.y])] : List (Nat × List Value)), v.ownBlock ≠ some pr.1 := by
      intro pr hpr e
      have := (hrow.lt _ e).2
      simp at hpr; subst hpr; simp at this
    have hsz := hs.size
    go_wp2
    go_loopw [2, 7] (fun v' i wr => ∃ k : Nat, k ≤ 4 ∧ i = .int .i64 k ∧ Ext base w1 v wr v' (A ++ decs (muF L) m c k) ∧ Has wr [(w.heap.size, [.int .i64 c.l, .int .i64 c.x, .int .i64 c.y])] ∧ (∀ pr ∈ ([(w.heap.size, [.int .i64 c.l, .int .i64 c.x, .int .i64 c.y])] : List (Nat × List Value)), v'.ownBlock ≠ some pr.1) ∧ Slb base wr p L) (fun _ i _ => 4 - (intOf i).toNat)
    case atStart => exact ⟨0, by omega, rfl, by rw [decs, List.append_nil]; exact Ext.refl hrow1, hs.has, hd1, hL1⟩
    case round =>
      obtain ⟨k, hk4, rfl, hE, hH, hd, hLk⟩ := hrel
      have hk1 := hH
      simp [Has, HasAt] at hk1
      by_cases hlt : k < 4
      · have hnum : (k : Int) < 4 := by omega
        have hl2 := decs_len (muF L) m c k
        have hl3 : k * 4 ^ m + 4 ^ m ≤ 4 ^ (m + 1) := by rw [Nat.pow_succ]; have := Nat.mul_le_mul_right (4 ^ m) (show k + 1 ≤ 4 by omega); rw [Nat.succ_mul] at this; omega
        have hbs : base ≤ wr.heap.size := by have := hE.gr.size; omega
        go_wp2_with (first
          | (go_at_call 83; refine (l2Quarter_any hc hlt _).mono ?_; rintro e w2 ⟨rfl, hb2⟩)
          | (go_at_call 71; refine (ihm (c.q k) _ _ _ (q_ok hc hl8 hlt) (by show (8 - (c.l + 1)).toNat = m; omega) (own_of_below hE.own hb2) (hLk.step hb2) (by simp only [List.length_append]; omega) (Nat.le_trans hbs hb2.size)).mono ?_; rintro e w3 ⟨v3, rfl, hE2⟩; have hfar := hE2.far (hH.step hb2) hd))
        go_roundw
        case rel =>
          refine ⟨k + 1, by omega, by go_num, ?_, hfar.1, hfar.2, (hLk.step hb2).grown hE2.gr (fun r e => (hE.own.lt r e).1)⟩
          rw [decs, ← List.append_assoc]
          exact hE.trans (Ext.ahead hb2 hE2)
        case measure => simp [intOf]; omega
      · obtain rfl : k = 4 := by omega
        go_wp2
        go_ret
        rw [dec_part h0 h2]
        exact ⟨_, rfl, Ext.ahead hs.bel hE⟩
theorem l3Joined_any {L : List T3} (hok : ∀ a ∈ L, a.ok = true) (hnL : L.length ≤ 1048576) (p : Option Addr) (cap base : Nat) : ∀ n, JoP L p cap base n := by
  intro n
  induction n with
  | zero => exact l3Joined_step hok hnL p cap base 0 (fun m h => by omega)
  | succ n ih => exact l3Joined_step hok hnL p cap base (n + 1) (fun m h => by obtain rfl : n = m := by omega
                                                                               exact ih)
def joinL (L : List T3) : List T3 := if okL L then dec (muF L) 8 zro else []

set_option maxRecDepth 100000 in
set_option maxHeartbeats 1000000 in
theorem sJoined_any (p : Option Addr) (cap : Nat) (L : List T3) (w : World) (hL : Sl w p L) (hn : L.length ≤ 1048576) :
    Calls Try.prog 29 #[.slice p L.length cap] w fun e w' => ∃ v', e = .returned v' ∧ Ow w' w.heap.size v' (joinL L) ∧ Below w.heap.size w w' := by
  cases hv : okL L
  · rw [joinL, hv]
    go_enter Try.func29, Try.ntmps29
    go_wp2_with (go_at_call 56; refine (l3Cells_v hv p cap _ hL (by omega)).mono ?_; rintro e w1 ⟨rfl, hb2⟩)
    go_ret
    exact ⟨_, rfl, own_empty _ _ hb2.size, bstep hb2 (below_alloc1 _ _) (Nat.le_refl _)⟩
  · rw [joinL, hv]
    go_enter Try.func29, Try.ntmps29
    go_wp2_with (first
      | (go_at_call 56; refine (l3Cells_v hv p cap _ hL (by omega)).mono ?_; rintro e w1 ⟨rfl, hb2⟩)
      | (go_at_call 71; refine (l3Joined_any (okL_all hv) hn p cap w.heap.size 8 zro _ [] _ (by decide) (by decide) (own_empty_at rfl hb2.size) ((hL.slb (Nat.le_refl _)).step (bstep hb2 (below_alloc1 _ _) (Nat.le_refl _))) (by decide) (by have := hb2.size; simp; omega)).mono ?_; rintro e w2 ⟨v2, rfl, hE⟩))
    go_ret
    have hb3 := bstep hb2 (below_alloc1 w1 (.cells #[] 38)) (Nat.le_refl _)
    refine ⟨v2, rfl, hE.own, ⟨hE.gr.os.trans hb3.os, hE.gr.tape.trans hb3.tape, hE.gr.output.trans hb3.output, Nat.le_trans hb3.size hE.gr.size, fun k hk => ?_⟩⟩
    refine (hE.gr.block k (Nat.lt_of_lt_of_le hk hb3.size) (fun e => ?_)).trans (hb3.block k hk)
    have := hb2.size
    simp [Value.ownBlock] at e
    omega
end Go.Proofs.Ythmpemamagjeeaa
