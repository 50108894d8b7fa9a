/-
  Farthest: the program's.
-/
import Derived.Test.YtocfdmlkicndoaaHU2
import Derived.Test.YtocfdmlkicndoaaHC3
import Derived.Laws.EntriesVeiled
namespace Go.Proofs.Ytocfdmlkicndoaa
open Go.RowKit Go.Joins
attribute [local go_sem] Oper.semAt_some

theorem St.stab {B : Nat} {w X Y : World} {l : List (Nat × List Value)} (h : St w X l) (hb : Below B X Y) (hB : w.heap.size ≤ B) (hl : ∀ p ∈ l, p.1 < B) : St w Y l := by
  refine ⟨h.bel.trans (hb.mono hB), ?_⟩
  have hh := h.has
  clear h
  induction l with
  | nil => trivial
  | cons p t ih =>
    obtain ⟨⟨h1, h2, h3⟩, h4⟩ := hh
    have hp := hl p (List.mem_cons_self ..)
    refine ⟨⟨Nat.lt_of_lt_of_le h1 hb.size, fun o => (hb.frozen (p := ⟨p.1, o, none⟩) hp).trans (h2 o), ?_⟩, ih (fun q hq => hl q (List.mem_cons_of_mem _ hq)) h4⟩
    have : ∀ (i : Nat) (vs : List Value), HasAt X p.1 i vs → HasAt Y p.1 i vs := by
      intro i vs
      induction vs generalizing i with
      | nil => intro _; trivial
      | cons v vs ihv => intro hv; exact ⟨(hb.cell (p := ⟨p.1, i, none⟩) hp).trans hv.1, ihv _ hv.2⟩
    exact this _ _ h3
/-- A store into a box of one cell. -/
theorem St.set1 {w W : World} {b : Nat} {u : Value} {l : List (Nat × List Value)} (h : St w W ((b, [u]) :: l)) (v : Value) (hb : w.heap.size ≤ b) (hl : ∀ p ∈ l, b ≠ p.1) : St w (W.setCell ⟨b, 0, none⟩ v) ((b, [v]) :: l) := by
  obtain ⟨h1, ⟨h2, h3, h4, _⟩, h5⟩ := h
  exact ⟨h1.setCell (p := ⟨b, 0, none⟩) hb _, ⟨⟨by simpa using h2, fun o => (World.frozen?_setCell ..).trans (h3 o), World.cell?_setCell_same' _ _ _ (by rw [h4]; rfl), trivial⟩, Has.far hl h5⟩⟩

/-- What was last among the first k. -/
def lasA (s : List P3) : Nat → Int
  | 0 => 0
  | k + 1 => (s.getD k zp).a
def faI (L : List T2) : Int := if hpr L then lasA (srtP L) (srtP L).length else -1

set_option maxRecDepth 100000 in
set_option maxHeartbeats 2000000 in
theorem iFarthest_any (p : Option Addr) (cap : Nat) (L : List T2) (w : World) (hL : Sl w p L) (hcap : L.length ≤ cap) (hn : L.length ≤ 1048576) {v : Int} (hv : faI L = v) :
    Calls Try.prog 11 #[.slice p L.length cap] w fun e w' => e = .returned (.int .i64 v) ∧ Below w.heap.size w w' := by
  cases hs : hpr L
  · have hv' : v = -1 := by rw [← hv]; simp [faI, hs]
    subst hv'
    clear hv
    go_enter Try.func11, Try.ntmps11
    go_wp2_with (go_at_call 31; refine (havePair_v _ _ _ _ hL hn hs).mono ?_; rintro e w1 ⟨rfl, hb2⟩)
    go_ret
    exact ⟨rfl, hb2⟩
  · have hv' : lasA (srtP L) (srtP L).length = v := by rw [← hv]; simp [faI, hs]
    have h40 := okS_len ((Bool.and_eq_true _ _).mp hs).1
    have HV : Hid (lasA (srtP L) (srtP L).length = v) := hv'
    clear hv hv'
    refine (callsIn_wide (n := 3)).1 ?_
    refine callsIn_of_wp_marks Try.func11 rfl trivial ?_ rfl
    simp only [Try.ntmps11, List.size_toArray, List.length_cons, List.length_nil, Nat.reduceAdd, Nat.reduceSub, Array.replicate_succ, Array.replicate_zero, List.push_toArray, List.append_toArray, List.nil_append, List.cons_append]
    gi_wp2_with (first
      | (refine ⟨trivial, ?_⟩; gi_at_call 31; refine (callsIn_wide.2 (havePair_v _ _ _ _ hL hn hs)).mono ?_; rintro e w1 ⟨rfl, hb2⟩)
      | (refine ⟨trivial, ?_⟩; gi_at_call 34; refine (callsIn_wide.2 (nearestFirst_any _ _ _ _)).mono ?_; rintro e w2 ⟨rfl, rfl⟩))
    have hs0 := ((St.nil w).step hb2).push [.int .i64 0] 2 |>.push [.slice p L.length cap] 24
    rw [World.size_alloc] at hs0
    have hb0 := hb2.size
    have hL0 := hL.step hs0.bel
    clear hb2
    generalize hbq : w1.heap.size = bq at hs0 hb0 ⊢
    change St w ((w1.alloc (.cells #[.int .i64 0] 2)).alloc (.cells #[.slice p L.length cap] 24)) _ at hs0
    change Sl ((w1.alloc (.cells #[.int .i64 0] 2)).alloc (.cells #[.slice p L.length cap] 24)) _ _ at hL0
    generalize (w1.alloc (.cells #[.int .i64 0] 2)).alloc (.cells #[.slice p L.length cap] 24) = W0 at hs0 hL0 ⊢
    clear hbq
    have hk0 := hs0.has
    simp [Has, HasAt] at hk0
    have hz0 := hs0.size
    have hlt : bq < W0.heap.size := by omega
    refine range_up (gf := 56) (lb := #[.pointer (some ⟨bq + 1, 0, none⟩)]) rfl (enters_of Try.func56 (by kernel_rfl) rfl) .ret (cs := celP (srtP L)) (t := 53) (nearest_seq p cap L hcap h40 (bq + 1) W0 hk0.1.1 hL0 hk0.1.2.2)
      (fun k W => St w W [(bq, [.int .i64 (lasA (srtP L) k)])])
      (fun _ _ => False)
      (fun k X Y hq hb => hq.stab hb hz0 (by simp; omega))
      (fun k X Y hq hb => hq)
      (hs0.sub (by simp [lasA]))
      (fun k v => { defers := [], tmps := #[Value.slice p L.length cap, undef, Value.int IntKind.i64 0,
          Value.pointer (some { block := bq, off := 0 }), Value.pointer (some { block := v, off := 0 }), Value.slice p L.length cap, Value.bool true,
          Value.bool false, Value.slice p L.length cap,
          Value.func (Fn.func 56) #[] #[Value.pointer (some { block := bq + 1, off := 0 })], encP (srtP L) k, undef,
          undef, undef] }) ?assign ?body ?done ?stop
    case assign =>
      intro l1 k W K hK
      simp only [encP, celP] at hK ⊢
      gi_wp2
      exact hK
    case body =>
      rintro l1 k v W hkN hst hv1 hv2 hv3 hz1
      have hk1 := hst.has
      simp [Has, HasAt] at hk1
      obtain ⟨m, hm⟩ : ∃ m, (srtP L).getD k zp = m := ⟨_, rfl⟩
      have v0 : W.cell? ⟨v, 0, none⟩ = some (.int .i64 m.a) := by unfold celP at hv3; rw [hm] at hv3; simp [World.cell?, hv3]
      have HM : Hid ((srtP L).getD k zp = m) := hm
      clear hm
      generalize hlu : lasA (srtP L) k = u at hst hk1
      gi_wp2
      refine ⟨KeepF.setCell W 0 _ hlt, ?_⟩
      show St w _ [(bq, [.int .i64 ((srtP L).getD k zp).a])]
      rw [HM.out]
      exact hst.set1 _ hb0 (by simp)
    case done =>
      rintro W hst hD
      rw [HV.out] at hst
      have hk1 := hst.has
      simp [Has, HasAt] at hk1
      gi_wp2
      refine ⟨by simp, .inl ⟨_, _, rfl, run_takeDeferred hD, ?_⟩⟩
      refine ⟨.int .i64 v, by simp [results, Try.results11, go_sem], ?_, hst.bel.trans (below_putObj _ _ hz0)⟩
      rfl
    case stop =>
      rintro k W hkN hf hD
      exact hf.elim
end Go.Proofs.Ytocfdmlkicndoaa
