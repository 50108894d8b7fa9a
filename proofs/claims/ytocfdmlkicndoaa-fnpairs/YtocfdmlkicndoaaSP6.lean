/-
  Spread: the program's.
-/
import Derived.Test.YtocfdmlkicndoaaSP2
import Derived.Test.YtocfdmlkicndoaaSP3
import Derived.Test.YtocfdmlkicndoaaHC6
namespace Go.Proofs.Ytocfdmlkicndoaa
open Go.RowKit Go.Joins
attribute [local go_sem] Oper.semAt_some

theorem ow1_block {X Y : World} {base g n cap : Nat} {L : List Int} (h : Ow1 X base (.slice (some ⟨g, 0, none⟩) n cap) L) (hn : L.length = n) (hb : Y.heap[g]? = X.heap[g]?) : Ow1 Y base (.slice (some ⟨g, 0, none⟩) n cap) L := by
  subst hn; exact own_block h hb
theorem ow1_frozen {X : World} {base g n cap : Nat} {L : List Int} (h : Ow1 X base (.slice (some ⟨g, 0, none⟩) n cap) L) (hn : L.length = n) : ∀ o, X.frozen? ⟨g, o, none⟩ = false := by
  subst hn; exact World.ownsRow.frozenAt h
theorem index0 (a b : Value) (W : World) : (Instr.index 61 (.agg #[a, b]) (.int .i64 0)).run Try.prog W = .ok a W := by kernel_rfl
theorem index1 (a b : Value) (W : World) : (Instr.index 61 (.agg #[a, b]) (.int .i64 1)).run Try.prog W = .ok b W := by kernel_rfl
theorem St.far1 {w W : World} {l : List (Nat × List Value)} {g o : Nat} (h : St w W l) (hg : w.heap.size ≤ g) (hl : ∀ p ∈ l, g ≠ p.1) (v : Value) : St w (W.setCell ⟨g, o, none⟩ v) l :=
  ⟨h.bel.setCell (p := ⟨g, o, none⟩) hg v, Has.far hl h.has⟩
theorem getI_some {l : List Int} {k : Nat} (hk : k < l.length) : l[k]? = some (l.getD k 0) := by simp [List.getD, hk]
set_option maxRecDepth 100000 in
set_option maxHeartbeats 2000000 in
theorem iSpread_any (p : Option Addr) (cap : Nat) (L : List T2) (w : World) (hL : Sl w p L) (hcap : L.length ≤ cap) (hn : L.length ≤ 1048576) {v : List Int} (hv : spL L = v) :
    Calls Try.prog 12 #[.slice p L.length cap] w fun e w' => ∃ p1 cap1, e = .returned (.slice p1 v.length cap1) ∧ Ow1 w' w.heap.size (.slice p1 v.length cap1) v ∧ Below w.heap.size w w' := by
  cases hs : hpr L
  · have hv' : v = [] := by rw [← hv]; simp [spL, hs]
    subst hv'
    clear hv
    go_enter Try.func12, Try.ntmps12
    go_wp2_with (go_at_call 31; refine (havePair_v _ _ _ _ hL hn hs).mono ?_; rintro e w1 ⟨rfl, hb2⟩)
    go_ret
    exact ⟨_, _, rfl, World.ownsRow_nil .., hb2⟩
  · have hv' : sprK (srtP L) L.length (srtP L).length = v := by rw [← hv]; simp [spL, hs]
    have h40 := okS_len ((Bool.and_eq_true _ _).mp hs).1
    have h2 : 2 ≤ L.length := of_decide_eq_true ((Bool.and_eq_true _ _).mp hs).2
    have HV : Hid (sprK (srtP L) L.length (srtP L).length = v) := hv'
    clear hv hv'
    refine (callsIn_wide (n := 3)).1 ?_
    refine callsIn_of_wp_marks Try.func12 rfl trivial ?_ rfl
    simp only [Try.ntmps12, List.size_toArray, List.length_cons, List.length_nil, Nat.reduceAdd, Nat.reduceSub, Array.replicate_succ, Array.replicate_zero, List.push_toArray, List.append_toArray, List.nil_append, List.cons_append]
    gi_wp2_with (first
      | (refine ⟨trivial, ?_⟩; gi_at_call 31; refine (callsIn_wide.2 (havePair_v _ _ _ _ hL hn hs)).mono ?_; rintro e w1 ⟨rfl, hb2⟩)
      | (refine ⟨trivial, ?_⟩; gi_at_call 35; refine (callsIn_wide.2 (repeat_any w1.heap.size L.length (-1) _ (by simp) (by simp [go_sem]) (by omega) h40)).mono ?_; rintro e w2 ⟨gs, rfl, hO2, hb3⟩)
      | (refine ⟨trivial, ?_⟩; gi_at_call 34; refine (callsIn_wide.2 (nearestFirst_any _ _ _ _)).mono ?_; rintro e w3 ⟨rfl, rfl⟩))
    have hb1 : Below w.heap.size w (w1.alloc (.cells #[.int .i64 (-1)] 2)) := hb2.alloc hb2.size _
    have hbw2 : Below w.heap.size w w2 := bstep hb1 hb3 (Nat.le_refl _)
    have hO2' : Ow1 w2 w.heap.size (.slice (some ⟨gs, 0, none⟩) L.length L.length) (List.replicate L.length (-1)) := Ow1.mono hO2 hb1.size
    have hgs := (Ow1.cs hO2').1
    have hgw : w.heap.size ≤ gs := by have := (hO2'.lt gs rfl).1; exact this
    have hs0 := ((St.nil w).step hbw2).push [.slice (some ⟨gs, 0, none⟩) L.length L.length] 29 |>.push [.slice p L.length cap] 24
    have hO0 := own_of_below hO2' (below_alloc2 w2 (.cells #[.slice (some ⟨gs, 0, none⟩) L.length L.length] 29) (.cells #[.slice p L.length cap] 24))
    rw [World.size_alloc] at hs0
    have hb0 := hbw2.size
    have hL0 := hL.step hs0.bel
    clear hb1 hb2 hb3 hbw2 hO2 hO2'
    generalize hbq : w2.heap.size = bq at hs0 hb0 hgs ⊢
    change St w ((w2.alloc (.cells #[.slice (some ⟨gs, 0, none⟩) L.length L.length] 29)).alloc (.cells #[.slice p L.length cap] 24)) _ at hs0
    change Sl ((w2.alloc (.cells #[.slice (some ⟨gs, 0, none⟩) L.length L.length] 29)).alloc (.cells #[.slice p L.length cap] 24)) _ _ at hL0
    generalize (w2.alloc (.cells #[.slice (some ⟨gs, 0, none⟩) L.length L.length] 29)).alloc (.cells #[.slice p L.length cap] 24) = W0 at hs0 hL0 hO0 ⊢
    clear hbq
    have hk0 := hs0.has
    simp [Has, HasAt] at hk0
    have hz0 := hs0.size
    have hlt : bq < W0.heap.size := by omega
    have hgl : gs < W0.heap.size := by omega
    refine range_up (gf := 56) (lb := #[.pointer (some ⟨bq + 1, 0, none⟩)]) rfl (enters_of Try.func56 (by kernel_rfl) rfl) .ret (cs := celP (srtP L)) (t := 53) (nearest_seq p cap L hcap h40 (bq + 1) W0 hk0.1.1 hL0 hk0.1.2.2)
      (fun k W => Ow1 W w.heap.size (.slice (some ⟨gs, 0, none⟩) L.length L.length) (sprK (srtP L) L.length k) ∧ St w W [(bq, [.slice (some ⟨gs, 0, none⟩) L.length L.length])])
      (fun _ _ => False)
      (fun k X Y hq hb => ⟨ow1_block hq.1 (sprK_len ..) (hb.block gs hgl), hq.2.stab hb hz0 (by simp; omega)⟩)
      (fun k X Y hq hb => hq)
      ⟨hO0, hs0.sub (by simp)⟩
      (fun k v => { defers := [], tmps := #[Value.slice p L.length cap, undef, Value.slice none 0 0,
          Value.pointer (some { block := bq, off := 0 }), Value.pointer (some { block := v, off := 0 }), undef, undef, Value.slice p L.length cap,
          Value.bool true, Value.bool false, Value.slice (some { block := w1.heap.size, off := 0 }) 1 1,
          Value.slice p L.length cap, Value.int IntKind.i64 L.length,
          Value.slice (some { block := gs, off := 0 }) L.length L.length, Value.slice p L.length cap,
          Value.func (Fn.func 56) #[] #[Value.pointer (some { block := bq + 1, off := 0 })], encP (srtP L) k, undef,
          undef, undef, undef, undef, undef, undef, undef, undef, undef, undef, undef, undef, undef, undef, undef,
          undef, undef, undef, undef] }) ?assign ?body ?done ?stop
    case assign =>
      intro l1 k W K hK
      simp only [encP, celP] at hK ⊢
      gi_wp2
      exact hK
    case body =>
      rintro l1 k v W hkN ⟨hO, hst⟩ hv1 hv2 hv3 hz1
      have hk1 := hst.has
      simp [Has, HasAt] at hk1
      obtain ⟨i, j, hij, hjn, hm⟩ := mem_srt.mp (getD_mem hkN)
      have hsp := sprK_succ (n := L.length) hkN
      have hin : i < (sprK (srtP L) L.length k).length := by rw [sprK_len]; omega
      have hjn2 : j < (sprK (srtP L) L.length k).length := by rw [sprK_len]; omega
      unfold celP at hv3
      rw [hm] at hv3 hsp
      obtain ⟨d, hd⟩ : ∃ d, apT (L.getD i zro) (L.getD j zro) = d := ⟨_, rfl⟩
      simp only [prP, upd, Int.toNat_natCast, hd] at hv3 hsp
      have v0 : W.cell? ⟨v, 0, none⟩ = some (.int .i64 d) := by simp [World.cell?, hv3]
      have v1 : W.cell? ⟨v, 1, none⟩ = some (.int .i64 i) := by simp [World.cell?, hv3]
      have v2 : W.cell? ⟨v, 2, none⟩ = some (.int .i64 j) := by simp [World.cell?, hv3]
      have hcs := (Ow1.cs hO).2
      have x1 := hcs i _ (getI_some hin)
      have x2 := hcs j _ (getI_some hjn2)
      have hfr : ∀ o, W.frozen? ⟨gs, o, none⟩ = false := ow1_frozen hO (sprK_len ..)
      simp only [Nat.zero_add] at x1 x2
      have hu2 : (upd1 (sprK (srtP L) L.length k) i d).getD j 0 = (sprK (srtP L) L.length k).getD j 0 := by rw [upd1_get hin, if_neg (fun x => by omega)]
      generalize sprK (srtP L) L.length k = l at hO hsp hin hjn2 x1 x2 hu2
      have HSP : Hid (sprK (srtP L) L.length (k + 1) = upd1 (upd1 l i d) j d) := hsp
      have HO : Hid (Ow1 W w.heap.size (.slice (some ⟨gs, 0, none⟩) L.length L.length) l) := hO
      have hii : (i : Int) < L.length := by omega
      have hji : (j : Int) < L.length := by omega
      have hne : ¬ i = j := by omega
      have hne2 : ¬ j = i := by omega
      have hvg : ¬ v = gs := by omega
      have hvb : ¬ v = bq := by omega
      have hgb : ¬ gs = bq := by omega
      have hgb2 : ¬ bq = gs := by omega
      have hgv : ¬ gs = v := by omega
      have H1 : Hid (upd1 l i d = if l.getD i 0 = -1 then l.set i d else l) := rfl
      have H2 : Hid (∀ m : List Int, upd1 m j d = if m.getD j 0 = -1 then m.set j d else m) := fun m => rfl
      have HU : Hid ((upd1 l i d).getD j 0 = l.getD j 0) := hu2
      clear hO hsp hin hjn2 hcs hm hd hu2 hv3 hij hjn hkN
      have hx0 : ∀ W, (Instr.index 61 (.agg #[.int .i64 (i : Int), .int .i64 (j : Int)]) (.int .i64 0)).run Try.prog W = .ok (.int .i64 i) W := fun W => index0 _ _ W
      have hx1 : ∀ W, (Instr.index 61 (.agg #[.int .i64 (i : Int), .int .i64 (j : Int)]) (.int .i64 1)).run Try.prog W = .ok (.int .i64 j) W := fun W => index1 _ _ W
      by_cases y1 : l.getD i 0 = -1
      · have E1 : Hid (upd1 l i d = l.set i d) := by unfold Hid; rw [H1.out, if_pos y1]
        rw [y1] at x1
        by_cases y2 : l.getD j 0 = -1
        · skip
          have E2 : Hid (sprK (srtP L) L.length (k + 1) = ((l.set i d).set j d)) := by unfold Hid; rw [HSP.out, H2.out, HU.out, if_pos y2, E1.out]
          rw [y2] at x2
          clear y1 y2
          gi_wp2
          refine wpIn_loop_rounds 3 ?_
          rw [roundsIn_succ]
          gi_wp2
          rw [roundsIn_succ]
          gi_wp2
          rw [roundsIn_succ]
          gi_wp2
          refine ⟨(KeepF.setCell W i _ hgl).trans (KeepF.setCell _ j _ hgl), ?_, ((hst.far1 hgw (by simp; omega) _).far1 hgw (by simp; omega) _)⟩
          rw [E2.out]
          exact (Ow1.stored (k := j) (Ow1.stored (k := i) HO.out d).1 d).1
        · skip
          have E2 : Hid (sprK (srtP L) L.length (k + 1) = (l.set i d)) := by unfold Hid; rw [HSP.out, H2.out, HU.out, if_neg y2, E1.out]
          generalize l.getD j 0 = a2 at x2 y2
          clear y1
          gi_wp2
          refine wpIn_loop_rounds 3 ?_
          rw [roundsIn_succ]
          gi_wp2
          rw [roundsIn_succ]
          gi_wp2
          rw [roundsIn_succ]
          gi_wp2
          refine ⟨KeepF.setCell W i _ hgl, ?_, (hst.far1 hgw (by simp; omega) _)⟩
          rw [E2.out]
          exact (Ow1.stored (k := i) HO.out d).1
      · have E1 : Hid (upd1 l i d = l) := by unfold Hid; rw [H1.out, if_neg y1]
        by_cases y2 : l.getD j 0 = -1
        · skip
          have E2 : Hid (sprK (srtP L) L.length (k + 1) = (l.set j d)) := by unfold Hid; rw [HSP.out, H2.out, HU.out, if_pos y2, E1.out]
          rw [y2] at x2
          generalize l.getD i 0 = a1 at x1 y1
          clear y2
          gi_wp2
          refine wpIn_loop_rounds 3 ?_
          rw [roundsIn_succ]
          gi_wp2
          rw [roundsIn_succ]
          gi_wp2
          rw [roundsIn_succ]
          gi_wp2
          refine ⟨KeepF.setCell W j _ hgl, ?_, (hst.far1 hgw (by simp; omega) _)⟩
          rw [E2.out]
          exact (Ow1.stored (k := j) HO.out d).1
        · skip
          have E2 : Hid (sprK (srtP L) L.length (k + 1) = l) := by unfold Hid; rw [HSP.out, H2.out, HU.out, if_neg y2, E1.out]
          generalize l.getD j 0 = a2 at x2 y2
          generalize l.getD i 0 = a1 at x1 y1
          gi_wp2
          refine wpIn_loop_rounds 3 ?_
          rw [roundsIn_succ]
          gi_wp2
          rw [roundsIn_succ]
          gi_wp2
          rw [roundsIn_succ]
          gi_wp2
          refine ⟨KeepF.refl _ _, ?_, hst⟩
          rw [E2.out]
          exact HO.out
    case done =>
      rintro W ⟨hO, hst⟩ hD
      rw [HV.out] at hO
      have hk1 := hst.has
      simp [Has, HasAt] at hk1
      have hvl : v.length = L.length := by rw [← HV.out, sprK_len]
      have HVL : Hid (v.length = L.length) := hvl
      clear hvl
      gi_wp2
      refine ⟨by simp, .inl ⟨_, _, rfl, run_takeDeferred hD, ?_⟩⟩
      refine ⟨.slice (some ⟨gs, 0, none⟩) L.length L.length, by simp [results, Try.results12, go_sem], some ⟨gs, 0, none⟩, L.length, by rw [HVL.out], ?_, hst.bel.trans (below_putObj _ _ hz0)⟩
      rw [HVL.out]
      exact ow1_block hO HVL.out (World.putObj_heap_other (by omega))
    case stop =>
      rintro k W hkN hf hD
      exact hf.elim
end Go.Proofs.Ytocfdmlkicndoaa
