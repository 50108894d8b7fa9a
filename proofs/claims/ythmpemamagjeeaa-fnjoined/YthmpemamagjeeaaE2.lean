/-
  Two lists of Cells drawn for Common; what the laws of chapter 3 need of lists, plain mathematics.
-/
import Derived.Test.YthmpemamagjeeaaD5
import Derived.Test.YthmpemamagjeeaaJ5
import Derived.Test.YthmpemamagjeeaaV4
namespace Go.Proofs.Ythmpemamagjeeaa
open Go.RowKit Go.Joins
attribute [local go_sem ↓] Go.wp_at_zero Go.wp_at_succ

theorem Turn.gr {g : Nat} {w w' : World} (h : Turn g w w') : w.grownBy w' (some g) := ⟨h.os, h.tape, h.output, h.size, fun k hk hne => h.block k hk (fun e => hne (by rw [e]))⟩
theorem Ow.turn {g base : Nat} {W W' : World} {v : Value} {M : List T3} (h : Ow W base v M) (t : Turn g W W') (hg : g < base) : Ow W' base v M :=
  h.kept t.gr (.inr fun e => by have := (h.lt g e).1; omega)
theorem Has.turn {g : Nat} {W W' : World} {l : List (Nat × List Value)} (h : Has W l) (t : Turn g W W') (hl : ∀ p ∈ l, g ≠ p.1) : Has W' l := h.grown t.gr (fun p hp e => hl p hp (by injection e))
theorem Turn.row {g : Nat} {w W W' : World} {v : Value} {M : List T3} (h : Turn g w W) (ho : Ow W w.heap.size v M) (hg : W.grownBy W' v.ownBlock) : Turn g w W' :=
  ⟨hg.os.trans h.os, hg.tape.trans h.tape, hg.output.trans h.output, Nat.le_trans h.size hg.size, fun k hk hne => (hg.block k (Nat.lt_of_lt_of_le hk h.size) (fun e => by have := (ho.lt k e.symm).1; omega)).trans (h.block k hk hne)⟩
/-- What a drawing call leaves: the cursor, a list of one's own, some boxes. -/
structure Dr (w W : World) (g : Nat) (a : Option Addr) (len cap : Nat) (zs : List Int) (v : Value) (M : List T3) : Prop where
  turn : Turn g w W
  cur : Cur W g a len cap zs
  own : Ow W w.heap.size v M
theorem Dr.call {w W W' : World} {g : Nat} {a : Option Addr} {len cap : Nat} {zs : List Int} {v : Value} {M : List T3} (h : Dr w W g a len cap zs v M) (hg : g < w.heap.size) (t : Turn g W W') (c : Cur W' g a len cap zs) : Dr w W' g a len cap zs v M :=
  ⟨h.turn.trans t, c, h.own.turn t hg⟩
theorem Dr.below {w W W' : World} {g : Nat} {a : Option Addr} {len cap : Nat} {zs : List Int} {v : Value} {M : List T3} (h : Dr w W g a len cap zs v M) (hb : Below W.heap.size W W') : Dr w W' g a len cap zs v M :=
  ⟨h.turn.trans (Turn.of hb), h.cur.below hb, own_of_below h.own hb⟩
theorem Dr.row {w W W' : World} {g : Nat} {a : Option Addr} {len cap : Nat} {zs : List Int} {v v' : Value} {M M' : List T3} (h : Dr w W g a len cap zs v M) (hw : Rd w g a len zs) (hg : g < w.heap.size) (hgr : W.grownBy W' v.ownBlock) (ho : Ow W' w.heap.size v' M') : Dr w W' g a len cap zs v' M' := by
  have t := h.turn.row h.own hgr
  refine ⟨t, ?_, ho⟩
  exact Cur.keep2 h.cur hw t (hgr.block g h.cur.hg (fun e => by have := (h.own.lt g e.symm).1; omega)) (Nat.lt_of_lt_of_le h.cur.hg hgr.size)

set_option maxHeartbeats 1000000 in
theorem likeCells_same (p q : Option Addr) (cap cap' : Nat) (L : List T3) (w : World) (hp : Sl w p L) (hq : Sl w q L) (hn : L.length ≤ 10000000) :
    Calls Try.prog 15 #[.slice p L.length cap, .slice q L.length cap'] w fun e w' => e = .returned (.bool true) ∧ Below w.heap.size w w' := by
  go_enter Try.func15, Try.ntmps15
  go_wp2
  go_loopw [5] (fun i wr => ∃ k : Nat, k ≤ L.length ∧ i = .int .i64 k ∧ Below w.heap.size w wr) (fun i _ => L.length - (intOf i).toNat)
  case atStart => exact ⟨0, by omega, rfl, Below.refl _ _⟩
  case round =>
    obtain ⟨k, hk, rfl, hb⟩ := hrel
    by_cases hlt : k < L.length
    · have hki : (k : Int) < L.length := by omega
      obtain ⟨g1, o1, rfl, hC1⟩ := (hp.step hb).at hlt
      obtain ⟨g2, o2, rfl, hC2⟩ := (hq.step hb).at hlt
      obtain ⟨c0, c1, c2⟩ := hC1.2 k L[k] (List.getElem?_eq_getElem hlt)
      obtain ⟨d0, d1, d2⟩ := hC2.2 k L[k] (List.getElem?_eq_getElem hlt)
      go_wp2
      go_quiet (fail)
      go_wp2
      go_roundw
      case rel => exact ⟨k + 1, by omega, by go_num, bdrewN hb _⟩
      case measure => simp [intOf]; omega
    · obtain rfl : k = L.length := by omega
      go_wp2
      go_ret
      exact ⟨rfl, hb⟩

theorem cs_news {W : World} {g : Nat} {Q : List T3} (h : Cs W g 0 Q) : ∀ j u, (flat Q)[j]? = some u → W.cell? ((⟨g, 0, none⟩ : Addr).add j) = some u := by
  intro j u hj
  have hlt : j < Q.length * 3 := by have := (List.getElem?_eq_some_iff.1 hj).1; rw [flat_len] at this; exact this
  have hk : j / 3 < Q.length := by omega
  obtain ⟨c0, c1, c2⟩ := h.2 (j / 3) Q[j / 3] (List.getElem?_eq_getElem hk)
  obtain ⟨f0, f1, f2⟩ := flat_get (List.getElem?_eq_getElem hk)
  have ha : (⟨g, 0, none⟩ : Addr).add j = ⟨g, j, none⟩ := by unfold Addr.add; split <;> simp_all
  rw [ha]
  simp only [Nat.zero_add] at c0 c1 c2
  have hm : j = j / 3 * 3 ∨ j = j / 3 * 3 + 1 ∨ j = j / 3 * 3 + 2 := by omega
  rcases hm with h | h | h
  · rw [h] at hj ⊢; rw [f0] at hj; cases hj; exact c0
  · rw [h] at hj ⊢; rw [f1] at hj; cases hj; exact c1
  · rw [h] at hj ⊢; rw [f2] at hj; cases hj; exact c2

theorem sQuarters_g (c : T3) (hc : c.ok = true) (w : World) :
    Calls Try.prog 70 #[.agg #[.int .i64 c.l, .int .i64 c.x, .int .i64 c.y]] w fun e w' => ∃ (g n cap : Nat) (Q : List T3), e = .returned (.slice (some ⟨g, 0, none⟩) n cap) ∧ n = Q.length ∧ Q.length ≤ 4 ∧ (∀ j u, (flat Q)[j]? = some u → w'.cell? ((⟨g, 0, none⟩ : Addr).add j) = some u) ∧ Below w.heap.size w w' := by
  by_cases h8 : c.l = 8
  · exact (sQuarters_no (.inr h8) w).mono fun _ _ ⟨h1, h2⟩ => ⟨_, _, 0, [], h1, rfl, by simp, by simp [flat], h2⟩
  · exact (sQuarters_yes hc h8 w).mono fun _ _ ⟨g, cap, h1, _, _, h2⟩ => ⟨g, _, cap, [c.q 0, c.q 1, c.q 2, c.q 3], h1, rfl, by simp, cs_news (has_cs (by rw [← qs_flat]; exact h2.has)), h2.bel⟩
theorem flat_one (Q : List T3) : ∀ u ∈ flat Q, u.oneCell' = true := by
  intro u hu
  unfold flat at hu
  obtain ⟨c, _, hu⟩ := List.mem_flatMap.mp hu
  simp [T3.vs] at hu
  rcases hu with rfl | rfl | rfl <;> rfl
theorem ext_one {base : Nat} {W w4 : World} {lv v' : Value} {M : List T3} {c : T3} (h1 : w4.ownsRow base 38 3 v' (M.length + 1) (flat M ++ c.vs)) (h2 : W.grownBy w4 lv.ownBlock) (h3 : v'.ownBlock = lv.ownBlock ∨ v'.ownBlock = some W.heap.size) : Ext base W lv w4 v' (M ++ [c]) :=
  ⟨by unfold Ow; rw [List.length_append, flat_append]; exact h1, h2, fun g e => by
    rcases h3 with e2 | e2
    · exact .inl (e2.symm.trans e)
    · rw [e2] at e; cases e; exact .inr (Nat.le_refl _)⟩
theorem own_more {base n : Nat} {W : World} {v : Value} {M Q : List T3} (hn : n = Q.length) (h : W.ownsRow base 38 3 v (M.length + n) (flat M ++ flat Q)) : Ow W base v (M ++ Q) := by
  subst hn; unfold Ow; rw [List.length_append, flat_append]; exact h

set_option maxRecDepth 100000 in
set_option maxHeartbeats 4000000 in
theorem l3Draw_any (g : Nat) (a : Option Addr) (len cap : Nat) (zs : List Int) (w : World) (hcur : Cur w g a len cap zs) (hrd : Rd w g a len zs) :
    Calls Try.prog 48 #[.pointer (some ⟨g, 0, none⟩)] w fun e w' => ∃ v L, e = .returned v ∧ Dr w w' g a len cap zs v L ∧ L.length ≤ 30 := by
  obtain ⟨i0, hi, hz0, hz1, hz2⟩ := info_parts info38
  have hg := hcur.hg
  have hd0 : Dr w (w.alloc (.cells #[] 38)) g a len cap zs (.slice (some ⟨w.heap.size, 0, none⟩) 0 0) [] := ⟨Turn.of (below_alloc1 _ _), hcur.below (below_alloc1 _ _), own_empty w _ (Nat.le_refl _)⟩
  go_enter Try.func48, Try.ntmps48
  go_wp2_with (go_at_call 69; refine (below_any _ _ _ _ _ _ _ hd0.cur (by decide) (by decide)).mono ?_; rintro e w1 ⟨x, rfl, hx0, hx6, ht, hc⟩; have hd := hd0.call hg ht hc)
  go_loopw [3, 4] (fun lv i wr => ∃ (k : Nat) (M : List T3), (k : Int) ≤ x ∧ i = .int .i64 k ∧ Dr w wr g a len cap zs lv M ∧ (M.length : Int) ≤ 5 * (x - k)) (fun _ i _ => (intOf i).toNat)
  case atStart => exact ⟨x.toNat, [], by omega, by congr 1; omega, hd, by simp; omega⟩
  case round =>
    obtain ⟨k, M, hk, rfl, hD, hml⟩ := hrel
    by_cases hlt : 0 < k
    · have hki : (0 : Int) < k := by omega
      go_upto_region 6 with (go_at_call 79; refine (l2Draw_any _ _ _ _ _ _ hD.cur).mono ?_; rintro e w2 ⟨l, cx, cy, rfl, ht2, hc2⟩; replace hD := hD.call hg ht2 hc2)
      obtain ⟨c, hcd⟩ : ∃ c : T3, c = ⟨l, cx, cy⟩ := ⟨_, rfl⟩
      have e1 : l = c.l := by rw [hcd]
      have e2 : cx = c.x := by rw [hcd]
      have e3 : cy = c.y := by rw [hcd]
      subst e1 e2 e3
      clear hcd ht2 hc2
      have hH : Has (w2.alloc (.cells #[.int .i64 c.l, .int .i64 c.x, .int .i64 c.y] 38)) [(w2.heap.size, [.int .i64 c.l, .int .i64 c.x, .int .i64 c.y])] := ((St.nil w2).push [.int .i64 c.l, .int .i64 c.x, .int .i64 c.y] 38).has
      have hbr : ∀ p ∈ ([(w2.heap.size, [.int .i64 c.l, .int .i64 c.x, .int .i64 c.y])] : List (Nat × List Value)), u3.ownBlock ≠ some p.1 := by
        intro p hp e; have := (hD.own.lt _ e).2; simp at hp; subst hp; simp at this
      have hbg : ∀ p ∈ ([(w2.heap.size, [.int .i64 c.l, .int .i64 c.x, .int .i64 c.y])] : List (Nat × List Value)), g ≠ p.1 := by
        intro p hp; simp at hp; subst hp; have := hD.cur.hg; simp; omega
      replace hD := hD.below (below_alloc1 w2 (.cells #[.int .i64 c.l, .int .i64 c.x, .int .i64 c.y] 38))
      generalize w2.alloc _ = W3 at hD hH ⊢
      generalize w2.heap.size = b at hH hbr hbg ⊢
      have hk1 := hH
      simp [Has, HasAt] at hk1
      cases hv : c.ok
      · go_wp2_with (first
          | (go_at_call 80; refine (sCellOk_v hv _).mono ?_; rintro e w3 ⟨rfl, hb3⟩; replace hD := hD.below hb3; replace hH := hH.step hb3; (try clear hk1); have hk1 := hH; simp [Has, HasAt] at hk1)
          | (go_at_call 68; refine (once_any _ _ _ _ _ _ _ hD.cur (by decide) (by decide)).mono ?_; rintro e w3 ⟨xb, rfl, ht3, hc3⟩; replace hD := hD.call hg ht3 hc3; replace hH := hH.turn ht3 hbg; (try clear hk1); have hk1 := hH; simp [Has, HasAt] at hk1)
          | (at_builtin; refine wpList_append_own_at _ rfl _ _ 27 rfl w.heap.size 38 i0 (.agg #[.int .i64 0, .int .i64 0, .int .i64 0]) 3 24 Try.underlying27 hi hz0 hz1 hz2 rfl (by decide) _ _ _ rfl (hD.own.alloc _) ⟨w3.heap.size, 0, none⟩ 1 1 c.vs rfl rfl (cell_three_at rfl) (fun u hu => by simp [T3.vs] at hu; rcases hu with rfl | rfl | rfl <;> rfl) (by unfold maxLen; omega) (by omega) (by have := hD.turn.size; simp; omega) ?_; intro v' w4 hown' hgrow _ hat; have hE := ext_one hown' hgrow hat; have hfar := hE.far (hH.step (below_alloc1 _ _)) hbr; replace hD := (hD.below (below_alloc1 _ _)).row hrd hg hgrow hE.own; replace hH := hfar.1; replace hbr := hfar.2; have hone := hown'; clear hfar hE hgrow hat hown'; (try clear hk1); have hk1 := hH; simp [Has, HasAt] at hk1))
        all_goals
          go_roundw
          case rel => refine ⟨k - 1, _, by omega, by congr 1; omega, hD, ?_⟩; (try simp only [List.length_append, List.length_cons, List.length_nil]); omega
          case measure => simp [intOf]; omega
      · go_wp2_with (first
          | (go_at_call 80; refine (sCellOk_v hv _).mono ?_; rintro e w3 ⟨rfl, hb3⟩; replace hD := hD.below hb3; replace hH := hH.step hb3; (try clear hk1); have hk1 := hH; simp [Has, HasAt] at hk1)
          | (go_at_call 68; refine (once_any _ _ _ _ _ _ _ hD.cur (by decide) (by decide)).mono ?_; rintro e w3 ⟨xb, rfl, ht3, hc3⟩; replace hD := hD.call hg ht3 hc3; replace hH := hH.turn ht3 hbg; (try clear hk1); have hk1 := hH; simp [Has, HasAt] at hk1)
          | (go_at_call 70; refine (sQuarters_g c hv _).mono ?_; rintro e w3 ⟨gq, nq, capq, Q, rfl, rfl, hQ4, hQn, hb3⟩; replace hD := hD.below hb3; replace hH := hH.step hb3; (try clear hk1); have hk1 := hH; simp [Has, HasAt] at hk1)
          | (have hQn2 := hQn; at_builtin; refine wpList_append_own_at _ rfl _ _ 27 rfl w.heap.size 38 i0 (.agg #[.int .i64 0, .int .i64 0, .int .i64 0]) 3 24 Try.underlying27 hi hz0 hz1 hz2 rfl (by decide) _ _ _ rfl hD.own ⟨gq, 0, none⟩ Q.length capq (flat Q) rfl (flat_len Q) hQn2 (flat_one Q) (by simp only [List.length_append, List.length_cons, List.length_nil]; unfold maxLen; omega) (by simp only [List.length_append, List.length_cons, List.length_nil]; omega) (by have := hD.turn.size; omega) ?_; intro v4 w5 hown4 hgrow4 _ hat4; replace hD := hD.row hrd hg hgrow4 (own_more rfl hown4))
          | (at_builtin; refine wpList_append_own_at _ rfl _ _ 27 rfl w.heap.size 38 i0 (.agg #[.int .i64 0, .int .i64 0, .int .i64 0]) 3 24 Try.underlying27 hi hz0 hz1 hz2 rfl (by decide) _ _ _ rfl (hD.own.alloc _) ⟨w3.heap.size, 0, none⟩ 1 1 c.vs rfl rfl (cell_three_at rfl) (fun u hu => by simp [T3.vs] at hu; rcases hu with rfl | rfl | rfl <;> rfl) (by unfold maxLen; omega) (by omega) (by have := hD.turn.size; simp; omega) ?_; intro v' w4 hown' hgrow _ hat; have hE := ext_one hown' hgrow hat; have hfar := hE.far (hH.step (below_alloc1 _ _)) hbr; replace hD := (hD.below (below_alloc1 _ _)).row hrd hg hgrow hE.own; replace hH := hfar.1; replace hbr := hfar.2; have hone := hown'; clear hfar hE hgrow hat hown'; (try clear hk1); have hk1 := hH; simp [Has, HasAt] at hk1))
        all_goals
          go_roundw
          case rel => refine ⟨k - 1, _, by omega, by congr 1; omega, hD, ?_⟩; (try simp only [List.length_append, List.length_cons, List.length_nil]); omega
          case measure => simp [intOf]; omega
    · obtain rfl : k = 0 := by omega
      go_wp2
      go_ret
      first | exact ⟨_, rfl, M, hD, by omega⟩ | exact ⟨_, M, rfl, hD, by omega⟩
end Go.Proofs.Ythmpemamagjeeaa
namespace Go.Proofs.Ythmpemamagjeeaa
open Go.RowKit Go.Joins
attribute [local go_sem ↓] Go.wp_at_zero Go.wp_at_succ

theorem cmF_comm (L K : List T3) : cmF L K = cmF K L := by
  funext c
  unfold cmF
  by_cases h1 : muF L c = 0 <;> by_cases h2 : muF K c = 0 <;> by_cases h3 : muF L c = 2 <;> by_cases h4 : muF K c = 2 <;> simp [h1, h2, h3, h4]
theorem comS_comm (L K : List T3) : comS L K = comS K L := by
  unfold comS
  rw [cmF_comm, Bool.and_comm]
theorem comS_self (L : List T3) : comS L L = joinL L := by
  unfold comS joinL
  rw [Bool.and_self]
  cases h : okL L
  · rfl
  · have hok := okL_all h
    have hd := dec_of (cmF_tells hok hok) 8 zro zro_ok (by decide)
    simp only [if_true]
    refine hd.canon.is_dec (muF_tells hok) fun n h0 h1 => ?_
    rw [← hd.has n ⟨by rw [zro_lo]; omega, by rw [zro_hi]; omega⟩]
    exact ⟨fun h => h.1, fun h => ⟨h, h⟩⟩
theorem zz_zro (s t : Int) : mem (zz s t 8) zro := by
  have hz := zz_bd s t 8
  have h4 : (4 : Int) ^ 8 = 65536 := by decide
  rw [h4] at hz
  exact ⟨by rw [zro_lo]; omega, by rw [zro_hi]; omega⟩
/-- Whether a Spot is reached is told by its number. -/
theorem have8 {L : List T3} (hok : ∀ c ∈ L, c.ok = true) {s t : Int} (hs : spB s t = true) : haveB L ⟨8, s, t⟩ = true ↔ cov L (zz s t 8) := by
  have h8 : (⟨8, s, t⟩ : T3).ok = true := cell8_ok hs
  have hlo : (⟨8, s, t⟩ : T3).lo = zz s t 8 := by simp [T3.lo, T3.sz]
  have hhi : (⟨8, s, t⟩ : T3).hi = zz s t 8 + 1 := by unfold T3.hi; rw [hlo]; simp [T3.sz]
  unfold haveB
  rw [List.any_eq_true]
  constructor
  · rintro ⟨c, hc, hi⟩
    obtain ⟨a, b⟩ := (ins_iff h8 (hok c hc)).mp hi
    exact ⟨c, hc, by omega, by omega⟩
  · rintro ⟨c, hc, a, b⟩
    exact ⟨c, hc, (ins_iff h8 (hok c hc)).mpr ⟨by omega, by omega⟩⟩
theorem reach_iff {L : List T3} (hv : okL L = true) {s t : Int} (hs : spB s t = true) : reachI L s t = true ↔ cov L (zz s t 8) := by
  unfold reachI
  rw [hv, hs]
  simp only [Bool.and_self, Bool.true_and]
  exact have8 (okL_all hv) hs
/-- What two have in common is reached by both. -/
theorem reach_com {L K : List T3} {s t : Int} (hl : (comS L K).length ≤ 100) (h0 : 0 < (comS L K).length) : reachI (comS L K) s t = (reachI L s t && reachI K s t) := by
  cases hs : spB s t
  · simp [reachI, hs]
  cases hv : (okL L && okL K)
  · unfold comS at h0; rw [hv] at h0; simp at h0
  obtain ⟨hv1, hv2⟩ := (Bool.and_eq_true _ _).mp hv
  have hd := dec_of (cmF_tells (okL_all hv1) (okL_all hv2)) 8 zro zro_ok (by decide)
  have he : comS L K = dec (cmF L K) 8 zro := by unfold comS; rw [hv]; rfl
  rw [he] at hl ⊢
  have hok : okL (dec (cmF L K) 8 zro) = true := by
    unfold okL
    rw [decide_eq_true hl, Bool.true_and, List.all_eq_true]
    exact hd.ok
  have hm := zz_zro s t
  rw [Bool.eq_iff_iff, Bool.and_eq_true, reach_iff hok hs, reach_iff hv1 hs, reach_iff hv2 hs]
  exact (hd.has _ hm).symm
theorem reach_none {L K : List T3} {s t : Int} (h0 : (comS L K).length = 0) : (reachI L s t && reachI K s t) = false := by
  cases hs : spB s t
  · simp [reachI, hs]
  cases hv : (okL L && okL K)
  · rcases Bool.and_eq_false_iff.mp hv with h | h <;> simp [reachI, h]
  obtain ⟨hv1, hv2⟩ := (Bool.and_eq_true _ _).mp hv
  have hd := dec_of (cmF_tells (okL_all hv1) (okL_all hv2)) 8 zro zro_ok (by decide)
  have he : comS L K = dec (cmF L K) 8 zro := by unfold comS; rw [hv]; rfl
  rw [he] at h0
  have hnil := List.eq_nil_of_length_eq_zero h0
  have hm := zz_zro s t
  rw [Bool.eq_false_iff, ne_eq, Bool.and_eq_true, reach_iff hv1 hs, reach_iff hv2 hs]
  intro h
  obtain ⟨c, hc, _⟩ := (hd.has _ hm).mp h
  rw [hnil] at hc
  cases hc

set_option maxRecDepth 100000 in
set_option maxHeartbeats 2000000 in
theorem drawCommon_any (a : Option Addr) (len cap : Nat) (zs : List Int) (w : World) (hl : len ≤ 4096) (hr : Rd w w.heap.size a len zs) :
    Calls Try.prog 33 #[.slice a len cap] w fun e w' => ∃ p1 cap1 L1 p2 cap2 L2, e = .returned (.tuple #[.slice p1 L1.length cap1, .slice p2 L2.length cap2]) ∧ Sx w w' [(.slice p2 L2.length cap2, L2), (.slice p1 L1.length cap1, L1)] ∧ L1.length ≤ 30 ∧ L2.length ≤ 30 := by
  have hr0 : ∀ h : Int, Rd (w.alloc (.cells #[.slice a len cap, .int .i64 0, .int .i64 h] 97)) w.heap.size a len zs := fun h => hr.turn ((Turn.refl _ w).alloc _)
  go_enter Try.func33, Try.ntmps33
  go_upto_region 2 with (go_at_call 47; refine (new_any a len cap zs _ hl hr).mono ?_; rintro e w1 ⟨h, rfl, rfl⟩)
  have hcur := Cur.fresh (cap := cap) (h := h) hl hr
  have hrd := hr0 h
  have hbw := below_alloc1 w (.cells #[.slice a len cap, .int .i64 0, .int .i64 h] 97)
  have hsz : (w.alloc (.cells #[.slice a len cap, .int .i64 0, .int .i64 h] 97)).heap.size = w.heap.size + 1 := by simp
  generalize w.alloc _ = W at hcur hrd hbw hsz ⊢
  generalize hgg : w.heap.size = g at hcur hrd hsz ⊢
  have Hg : Hid (w.heap.size = g) := hgg
  clear hgg
  go_upto_region 3 with (go_at_call 48; refine (l3Draw_any g a len cap zs W hcur hrd).mono ?_; rintro e w2 ⟨v1, L1, rfl, hD1, hn1⟩)
  obtain ⟨p1, cap1, hv1, _⟩ := Ow.form hD1.own
  subst hv1
  have hrd2 : Rd w2 g a len zs := hrd.turn hD1.turn
  go_wp2_with (go_at_call 48; refine (l3Draw_any g a len cap zs w2 hD1.cur hrd2).mono ?_; rintro e w3 ⟨v2, L2, rfl, hD2, hn2⟩)
  obtain ⟨p2, cap2, hv2, _⟩ := Ow.form hD2.own
  subst hv2
  have hgw := Hg.out
  have hz1 := hD1.turn.size
  have o1 : Ow w3 W.heap.size (.slice p1 L1.length cap1) L1 := hD1.own.turn hD2.turn (by omega)
  have hb : Below w.heap.size w w3 := hbw.trans ((hD1.turn.trans hD2.turn).below (by omega) (by omega))
  refine bodyPost_ret (v := .tuple #[.slice p1 L1.length cap1, .slice p2 L2.length cap2]) (by simp [results, Try.results33, go_sem]) rfl ⟨p1, cap1, L1, p2, cap2, L2, rfl, ⟨hb, ?_, ?_⟩, hn1, hn2⟩
  · intro pr hpr
    simp at hpr
    rcases hpr with rfl | rfl
    · exact Ow.mono hD2.own (by omega)
    · exact Ow.mono o1 (by omega)
  · refine .cons (fun q hq => ?_) (.cons (by simp) .nil)
    simp at hq; subst hq
    cases hv : (Value.slice p2 L2.length cap2).ownBlock with
    | none => exact .inl rfl
    | some k =>
      refine .inr fun e => ?_
      have a1 := (hD2.own.lt k hv).1
      have a2 := (hD1.own.lt k e.symm).2
      omega
end Go.Proofs.Ythmpemamagjeeaa
