/-
  The heap's Push and Pop: a pair is laid at the end, or taken from there.
-/
import Derived.Test.YtocfdmlkicndoaaHA4
import Derived.Deep.RegionLaw
namespace Go.Proofs.Ytocfdmlkicndoaa
open Go.RowKit Go.Joins
attribute [local go_sem] Oper.semAt_some

theorem info53 : (Try.prog.info? 53).map (fun i => (i.zero, i.size, i.bytes)) = some (some (.agg #[.int .i64 0, .int .i64 0, .int .i64 0]), 3, 24) := by kernel_rfl
theorem cell3_at {w : World} {g : Nat} {a b c : Value} {t : TypeId} (hg : g = w.heap.size) : ∀ j u, [a, b, c][j]? = some u → (w.alloc (.cells #[a, b, c] t)).drew.cell? ((⟨g, 0, none⟩ : Addr).add j) = some u := by
  subst hg
  intro j u hj
  have ea : (⟨w.heap.size, 0, none⟩ : Addr).add j = ⟨w.heap.size, j, none⟩ := by unfold Addr.add; split <;> simp_all
  rw [ea]
  show (w.alloc (.cells #[a, b, c] t)).cell? _ = _
  rw [World.cell?_alloc_at _ _ _ _ rfl]
  simpa using hj

theorem hp_pushed {w w4 : World} {b g cap g' cap' : Nat} {L : List P3} {c : P3} {o : Obj} (h : Hp w b g cap L) (c4 : w4.cell? ⟨b, 0, none⟩ = some (.slice (some ⟨g, 0, none⟩) L.length cap)) (_f4 : w4.frozen? ⟨b, 0, none⟩ = false)
    (ho : w4.ownsRow 0 53 3 (.slice (some ⟨g', 0, none⟩) (L.length + 1) cap') (L.length + 1) (flat3 L ++ c.vs)) (hg : (w.alloc o).drew.grownBy w4 (some g)) (hat : some g = some g' ∨ g' = w.heap.size + 1) :
    Hp (w4.setCell ⟨b, 0, none⟩ (.slice (some ⟨g', 0, none⟩) (L.length + 1) cap')) b g' cap' (L ++ [c]) ∧ Tn b g w g' (w4.setCell ⟨b, 0, none⟩ (.slice (some ⟨g', 0, none⟩) (L.length + 1) cap')) := by
  have hsz : w.heap.size + 1 ≤ w4.heap.size := by have := hg.size; simpa using this
  have hlt := h.lt
  have hglt := h.glt
  have hne : g' ≠ b := by
    rcases hat with e | e
    · injection e with e; rw [← e]; exact h.ne
    · omega
  have hfb : ∀ k, k < w.heap.size → k ≠ g → w4.heap[k]? = w.heap[k]? := fun k hk hkg => (hg.block k (by simp; omega) (fun e => hkg (by injection e))).trans (Below.heap_alloc w o k hk)
  have hlen : (L ++ [c]).length = L.length + 1 := by simp
  refine ⟨⟨by simp; omega, fun o' => ?_, ?_, ?_, hne⟩, ⟨?_, ?_, ?_, by simp; omega, fun k hk hb hkg => ?_, ?_⟩⟩
  · rw [World.frozen?_setCell]
    exact (World.frozen?_of_block (w := w) (hfb b hlt (fun e => h.ne e.symm))).trans (h.fz o')
  · rw [hlen]
    exact World.cell?_setCell_same _ _ _ c4
  · unfold Ow3
    rw [hlen, flat3_append, show flat3 [c] = c.vs by simp [flat3]]
    exact ho.kept (row := some b) ⟨rfl, rfl, rfl, by simp, fun k _ hk => Below.heap_setCell w4 ⟨b, 0, none⟩ _ k (fun e => hk (by have e' : k = b := e; rw [e']))⟩ (.inr (by simp [Value.ownBlock]; exact hne))
  · exact hg.os
  · exact hg.tape
  · exact hg.output
  · exact (Below.heap_setCell w4 ⟨b, 0, none⟩ _ k hb).trans (hfb k hk hkg)
  · rcases hat with e | e
    · injection e with e; exact .inl e.symm
    · right; omega
theorem assert_pair (v : Value) (W : World) : (Instr.typeAssert (.iface 53 v) 20 53 false).run Try.prog W = .ok v W := by kernel_rfl
set_option maxRecDepth 100000 in
set_option maxHeartbeats 4000000 in
theorem push_any (b g cap : Nat) (L : List P3) (c : P3) (w : World) (h : Hp w b g cap L) (hn : L.length ≤ 1000000) :
    Calls Try.prog 109 #[.pointer (some ⟨b, 0, none⟩), .iface 53 (.agg #[.int .i64 c.a, .int .i64 c.i, .int .i64 c.j])] w fun e w' => (∃ v, e = .returned v) ∧ ∃ g' cap', Hp w' b g' cap' (L ++ [c]) ∧ Tn b g w g' w' := by
  obtain ⟨i0, hi, hz0, hz1, hz2⟩ := info_parts info53
  have hd := h.hd
  have hb0 := h.lt
  have hfz := h.fz
  have hO := (World.ownsRow.alloc h.ow (.cells #[.int .i64 c.a, .int .i64 c.i, .int .i64 c.j] 53)).drew
  have hA : (w.alloc (.cells #[.int .i64 c.a, .int .i64 c.i, .int .i64 c.j] 53)).drew.heap.size = w.heap.size + 1 := by simp
  have hnb : some b ≠ (Value.slice (some ⟨g, 0, none⟩) L.length cap).ownBlock := by have := h.ne; simp [Value.ownBlock]; omega
  have hbA : b < (w.alloc (.cells #[.int .i64 c.a, .int .i64 c.i, .int .i64 c.j] 53)).drew.heap.size := by simp; omega
  have cA : (w.alloc (.cells #[.int .i64 c.a, .int .i64 c.i, .int .i64 c.j] 53)).drew.cell? ⟨b, 0, none⟩ = some (.slice (some ⟨g, 0, none⟩) L.length cap) := (((below_alloc1 w _).drew).cell (p := ⟨b, 0, none⟩) hb0).trans hd
  have fA : (w.alloc (.cells #[.int .i64 c.a, .int .i64 c.i, .int .i64 c.j] 53)).drew.frozen? ⟨b, 0, none⟩ = false := (((below_alloc1 w _).drew).frozen (p := ⟨b, 0, none⟩) hb0).trans (hfz 0)
  have hta : ∀ (W : World), (Instr.typeAssert (.iface 53 (.agg #[.int .i64 c.a, .int .i64 c.i, .int .i64 c.j])) 20 53 false).run Try.prog W = .ok (.agg #[.int .i64 c.a, .int .i64 c.i, .int .i64 c.j]) W := fun W => assert_pair _ W
  go_enter Try.func109, Try.ntmps109
  go_wp2
  go_region_law (refine step_append_lies _ (by rfl) _ _ 81 (by rfl) 0 53 i0 (.agg #[.int .i64 0, .int .i64 0, .int .i64 0]) 3 24 Try.underlying81 hi hz0 hz1 hz2 rfl (by decide) (.slice (some ⟨g, 0, none⟩) L.length cap) L.length (flat3 L) (by rfl) hO ⟨w.heap.size, 0, none⟩ 1 1 c.vs (by rfl) rfl (cell3_at rfl) (fun x hx => by simp [P3.vs] at hx; rcases hx with rfl | rfl | rfl <;> rfl) (by decide) (by unfold maxLen; omega) (by omega) (Nat.zero_le _) (w.heap.size + 1) (by simp) ?_; intro g' cap' w4 hown1 hgrow hat hlt; have c4 := (hgrow.cell_far ⟨b, 0, none⟩ hbA hnb).trans cA; have f4 := (hgrow.frozen_far ⟨b, 0, none⟩ hbA hnb).trans fA; have HH : Hid (w4.ownsRow 0 53 3 (.slice (some ⟨g', 0, none⟩) (L.length + 1) cap') (L.length + 1) (flat3 L ++ c.vs) ∧ (w.alloc (.cells #[.int .i64 c.a, .int .i64 c.i, .int .i64 c.j] 53)).drew.grownBy w4 (some g) ∧ (some g = some g' ∨ g' = w.heap.size + 1)) := ⟨hown1, hgrow, hat⟩; clear hown1 hgrow hat hlt)
  all_goals (
    go_wp2
    go_end0
    exact ⟨⟨_, rfl⟩, g', cap', hp_pushed h c4 f4 HH.out.1 HH.out.2.1 HH.out.2.2⟩)

theorem hp_popped {w : World} {b g cap : Nat} {L : List P3} {c : P3} (h : Hp w b g cap (L ++ [c])) :
    Hp (w.setCell ⟨b, 0, none⟩ (.slice (some ⟨g, 0, none⟩) L.length cap)) b g cap L ∧ Tn b g w g (w.setCell ⟨b, 0, none⟩ (.slice (some ⟨g, 0, none⟩) L.length cap)) := by
  refine ⟨⟨by simpa using h.lt, fun o => by rw [World.frozen?_setCell]; exact h.fz o, World.cell?_setCell_same _ _ _ h.hd, ?_, h.ne⟩, ⟨rfl, rfl, rfl, by simp, fun k _ hb _ => Below.heap_setCell w ⟨b, 0, none⟩ _ k hb, .inl rfl⟩⟩
  have hk := World.ownsRow.kept h.ow (w' := w.setCell ⟨b, 0, none⟩ (.slice (some ⟨g, 0, none⟩) L.length cap)) (row := some b) ⟨rfl, rfl, rfl, by simp, fun k _ hk => Below.heap_setCell w ⟨b, 0, none⟩ _ k (fun e => hk (by have e' : k = b := e; rw [e']))⟩ (.inr (by simp [Value.ownBlock]; exact h.ne))
  obtain ⟨h0, ⟨h1, _⟩ | ⟨g', cap', cur, e, hg, hh, hc, hm, hs, ht⟩⟩ := hk
  · cases h1
  · injection e with e1 e2 e3
    injection e1 with e1
    injection e1 with e1
    subst e1 e3
    simp only [List.length_append, List.length_cons, List.length_nil, Nat.zero_add] at hc ht
    refine ⟨by rw [flat3_len], .inr ⟨g, cap, cur, rfl, hg, hh, by omega, hm, hs, ?_⟩⟩
    have h5 := congrArg (List.take (L.length * 3)) ht
    rw [List.take_take, Nat.min_eq_left (by omega), flat3_append, List.take_left' (by rw [flat3_len])] at h5
    exact h5
set_option maxRecDepth 100000 in
set_option maxHeartbeats 4000000 in
theorem pop_any (b g cap : Nat) (L : List P3) (c : P3) (w : World) (h : Hp w b g cap (L ++ [c])) (hn : L.length ≤ 1000000) :
    Calls Try.prog 108 #[.pointer (some ⟨b, 0, none⟩)] w fun e w' => e = .returned (.iface 53 (.agg #[.int .i64 c.a, .int .i64 c.i, .int .i64 c.j])) ∧ Hp w' b g cap L ∧ Tn b g w g w' := by
  have hd := h.hd
  have hlen : (L ++ [c]).length = L.length + 1 := by simp
  rw [hlen] at hd
  have hb0 := h.lt
  have hfz := h.fz
  have hg0 := h.glt
  have hcap : L.length + 1 ≤ cap := by rcases h.ow.2 with ⟨h1, _⟩ | ⟨_, _, _, h1, _, _, h2, _⟩; (cases h1); (injection h1 with _ _ h1; rw [hlen] at h2; omega)
  have hcap' : (L.length : Int) ≤ cap := by omega
  obtain ⟨c0, c1, c2⟩ := h.ow.cs.2 L.length c (by simp)
  have HH : Hid (Hp w b g cap (L ++ [c])) := h
  clear h
  go_enter Try.func108, Try.ntmps108
  go_wp2
  go_ret
  obtain ⟨k1, k2⟩ := hp_popped HH.out
  exact ⟨rfl, k1.step (below_alloc1 _ _), k2.step (below_alloc1 _ _)⟩
end Go.Proofs.Ytocfdmlkicndoaa
