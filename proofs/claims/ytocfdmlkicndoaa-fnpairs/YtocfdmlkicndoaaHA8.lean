/-
  container/heap's Push and Pop; next.
-/
import Derived.Test.YtocfdmlkicndoaaHA7
namespace Go.Proofs.Ytocfdmlkicndoaa
open Go.RowKit Go.Joins
attribute [local go_sem] Oper.semAt_some

theorem Hp.mlen {b g cap n : Nat} {L : List P3} {w : World} (h : Hp w b g cap L) (hl : L.length = n) : (method 254 54 (.pointer (some ⟨b, 0, none⟩)) "Len").run Try.prog w = .ok (57, .slice (some ⟨g, 0, none⟩) n cap) w := by
  subst hl; exact m_len h.hd
theorem Hp.far {W : World} {b g cap k o : Nat} {L : List P3} (h : Hp W b g cap L) (hb : k ≠ b) (hg : k ≠ g) (v : Value) : Hp (W.setCell ⟨k, o, none⟩ v) b g cap L := by
  have e : ∀ i, i ≠ k → (W.setCell ⟨k, o, none⟩ v).heap[i]? = W.heap[i]? := fun i hi => Below.heap_setCell W ⟨k, o, none⟩ v i hi
  refine ⟨by simpa using h.lt, fun o' => (World.frozen?_of_block (w := W) (e b (Ne.symm hb))).trans (h.fz o'), (World.cell?_of_block (w := W) (e b (Ne.symm hb))).trans h.hd, ?_, h.ne⟩
  exact World.ownsRow.kept h.ow (row := some k) ⟨rfl, rfl, rfl, by simp, fun i _ hi => e i (fun e' => hi (by rw [e']))⟩ (.inr (by simp [Value.ownBlock]; exact fun e => hg e.symm))
theorem Tn.setNew {b g g' k o : Nat} {w w1 : World} (h : Tn b g w g' w1) (hk : w.heap.size ≤ k) (v : Value) : Tn b g w g' (w1.setCell ⟨k, o, none⟩ v) :=
  ⟨h.os, h.tape, h.output, by simpa using h.size, fun i hi hb hg => (Below.heap_setCell w1 ⟨k, o, none⟩ v i (by show i ≠ k; omega)).trans (h.block i hi hb hg), h.own⟩
set_option maxRecDepth 100000 in
set_option maxHeartbeats 1000000 in
theorem hpush_any (b g cap : Nat) (L : List P3) (c : P3) (w : World) (h : Hp w b g cap L) (hh : isHeap L) (hn : L.length ≤ 900000) :
    Calls Try.prog 54 #[.iface 54 (.pointer (some ⟨b, 0, none⟩)), .iface 53 (.agg #[.int .i64 c.a, .int .i64 c.i, .int .i64 c.j])] w fun e w' => (∃ v, e = .returned v) ∧ ∃ g' cap' M, M.Perm (L ++ [c]) ∧ isHeap M ∧ Hp w' b g' cap' M ∧ Tn b g w g' w' := by
  have hmp := m_push
  obtain ⟨n, hln⟩ : ∃ n, L.length = n := ⟨_, rfl⟩
  have HL : Hid (L.length = n) := hln
  have HU : Hid (UpInv (L ++ [c]) n) := by have := UpInv.start hh c; rw [hln] at this; exact this
  have hn2 : n ≤ 900000 := by omega
  clear hln
  go_enter Try.func54, Try.ntmps54
  go_wp2_with (first
    | (go_at_call 109; refine (push_any b g cap L c _ h (by omega)).mono ?_; rintro e w1 ⟨⟨v1, rfl⟩, g1, cap1, hH1, hT1⟩; have hml := hH1.mlen (n := n + 1) (by rw [List.length_append, HL.out]; rfl))
    | (go_at_call 57; refine (len_any _ _ _ _).mono ?_; rintro e w2 ⟨rfl, rfl⟩)
    | (go_at_call 66; refine (up_any b g1 cap1 (L ++ [c]) n _ hH1 (by rw [List.length_append, HL.out]; simp) HU.out (by rw [List.length_append, HL.out]; simp; omega)).mono ?_; rintro e w3 ⟨⟨v3, rfl⟩, M, hP, hM, hH3, hT3⟩))
  go_end0
  exact ⟨⟨_, rfl⟩, g1, cap1, M, hP, hM, hH3, hT1.trans hT3⟩

theorem pop_form {L : List P3} (h : isHeap L) (h0 : 0 < L.length) : ∃ H, swp L 0 (L.length - 1) = H ++ [L.getD 0 zp] ∧ DownInv H 0 ∧ H.length = L.length - 1 := by
  match L, h, h0 with
  | a :: t, h, _ =>
    rcases List.eq_nil_or_concat t with rfl | ⟨H, z, rfl⟩
    · exact ⟨[], rfl, ⟨fun k _ hk => by simp at hk, fun k _ hk => by simp at hk⟩, rfl⟩
    · rw [List.concat_eq_append] at h
      refine ⟨z :: H, ?_, DownInv.start h, by simp⟩
      have := swp_ends (H := H) (a := a) (z := z)
      simpa using this
set_option maxRecDepth 100000 in
set_option maxHeartbeats 1000000 in
theorem hpop_any (b g cap : Nat) (L : List P3) (w : World) (h : Hp w b g cap L) (hh : isHeap L) (h0 : 0 < L.length) (hn : L.length ≤ 900000) :
    Calls Try.prog 55 #[.iface 54 (.pointer (some ⟨b, 0, none⟩))] w fun e w' => e = .returned (.iface 53 (.agg #[.int .i64 (L.getD 0 zp).a, .int .i64 (L.getD 0 zp).i, .int .i64 (L.getD 0 zp).j])) ∧ ∃ M, (M ++ [L.getD 0 zp]).Perm L ∧ isHeap M ∧ Hp w' b g cap M ∧ Tn b g w g w' := by
  obtain ⟨H, hs, hD, hlH⟩ := pop_form hh h0
  obtain ⟨n, hln⟩ : ∃ n, H.length = n := ⟨_, rfl⟩
  have hL : L.length = n + 1 := by omega
  have hp0 : (H ++ [L.getD 0 zp]).Perm L := by rw [← hs]; exact swp_perm h0 (by omega)
  generalize L.getD 0 zp = m at hs hp0 ⊢
  have hml := h.mlen hL
  have hms := h.mswap hL
  have HS : Hid (∀ W : World, Hp W b g cap L → Calls Try.prog 110 #[.slice (some ⟨g, 0, none⟩) (n + 1) cap, .int .i64 0, .int .i64 n] W fun e w' => (∃ v, e = .returned v) ∧ Hp w' b g cap (H ++ [m]) ∧ Tn b g W g w') := by
    intro W hW
    have := swap_any b g cap L 0 n W hW h0 (by omega)
    rw [hL, show n = L.length - 1 by omega, hs] at this
    rw [show n = L.length - 1 by omega]
    exact this
  have HD : Hid (∀ W : World, Hp W b g cap (H ++ [m]) → Calls Try.prog 67 #[.iface 54 (.pointer (some ⟨b, 0, none⟩)), .int .i64 0, .int .i64 n] W fun e w' => (∃ v, e = .returned v) ∧ ∃ M, M.Perm H ∧ isHeap M ∧ Hp w' b g cap (M ++ [m]) ∧ Tn b g W g w') := by
    intro W hW
    have := down_any b g cap H m W hW hD (by omega)
    rw [hln] at this
    exact this
  have hmp := m_pop
  have hn2 : n ≤ 900000 := by omega
  have HB : Hid (H.length ≤ 900000) := (by omega : H.length ≤ 900000)
  clear hs hlH hln hL hn h0
  go_enter Try.func55, Try.ntmps55
  go_wp2_with (first
    | (go_at_call 57; refine (len_any _ _ _ _).mono ?_; rintro e w1 ⟨rfl, rfl⟩)
    | (go_at_call 110; refine (HS.out _ h).mono ?_; rintro e w2 ⟨⟨v2, rfl⟩, hH2, hT2⟩)
    | (go_at_call 67; refine (HD.out _ hH2).mono ?_; rintro e w3 ⟨⟨v3, rfl⟩, M, hP, hM, hH3, hT3⟩)
    | (go_at_call 108; refine (pop_any b g cap M m _ hH3 (by have := HB.out; have := hP.length_eq; omega)).mono ?_; rintro e w4 ⟨rfl, hH4, hT4⟩))
  go_ret
  exact ⟨rfl, M, (hP.append_right [m]).trans hp0, hM, hH4, (hT2.trans hT3).trans hT4⟩

set_option maxRecDepth 100000 in
set_option maxHeartbeats 1000000 in
theorem next_any (b g cap : Nat) (L : List P3) (w : World) (h : Hp w b g cap L) (hh : isHeap L) (h0 : 0 < L.length) (hn : L.length ≤ 900000) :
    Calls Try.prog 33 #[.pointer (some ⟨b, 0, none⟩)] w fun e w' => e = .returned (.agg #[.int .i64 (L.getD 0 zp).a, .int .i64 (L.getD 0 zp).i, .int .i64 (L.getD 0 zp).j]) ∧ ∃ M, (M ++ [L.getD 0 zp]).Perm L ∧ isHeap M ∧ Hp w' b g cap M ∧ Tn b g w g w' := by
  obtain ⟨m, hm⟩ : ∃ m, L.getD 0 zp = m := ⟨_, rfl⟩
  have HC : Hid (∀ W : World, Hp W b g cap L → Calls Try.prog 55 #[.iface 54 (.pointer (some ⟨b, 0, none⟩))] W fun e w' => e = .returned (.iface 53 (.agg #[.int .i64 m.a, .int .i64 m.i, .int .i64 m.j])) ∧ ∃ M, (M ++ [m]).Perm L ∧ isHeap M ∧ Hp w' b g cap M ∧ Tn b g W g w') := by
    intro W hW
    have := hpop_any b g cap L W hW hh h0 hn
    rw [hm] at this
    exact this
  rw [hm]
  clear hm hn h0
  have hb := h.lt
  have hg := h.glt
  have hta : ∀ (W : World), (Instr.typeAssert (.iface 53 (.agg #[.int .i64 m.a, .int .i64 m.i, .int .i64 m.j])) 20 53 false).run Try.prog W = .ok (.agg #[.int .i64 m.a, .int .i64 m.i, .int .i64 m.j]) W := fun W => assert_pair _ W
  have hA := h.step (below_alloc1 w (.cells #[.int .i64 0, .int .i64 0, .int .i64 0] 53))
  go_enter Try.func33, Try.ntmps33
  go_wp2_with (go_at_call 55; refine (HC.out _ hA).mono ?_; rintro e w1 ⟨rfl, M, hP, hM, hH1, hT1⟩; have c0 := (hT1.cell (k := w.heap.size) (o := 0) (by simp) (by omega) (by omega)); have c1 := (hT1.cell (k := w.heap.size) (o := 1) (by simp) (by omega) (by omega)); have c2 := (hT1.cell (k := w.heap.size) (o := 2) (by simp) (by omega) (by omega)); have ff : ∀ o, w1.frozen? ⟨w.heap.size, o, none⟩ = false := (fun o => (hT1.frozen (k := w.heap.size) (o := o) (by simp) (by omega) (by omega)).trans (World.frozen?_alloc_at _ _ _ _ rfl)); simp [go_sem] at c0 c1 c2)
  refine bodyPost_ret (v := .agg #[.int .i64 m.a, .int .i64 m.i, .int .i64 m.j]) (by simp [results, Try.results33, go_sem, c0, c1, c2]) rfl ⟨rfl, M, hP, hM, ?_, ?_⟩
  · exact ((hH1.far (by omega) (by omega) _).far (by omega) (by omega) _).far (by omega) (by omega) _
  · exact (((((Tn.of (below_alloc1 w _)).trans hT1).setNew (Nat.le_refl _) _).setNew (Nat.le_refl _) _).setNew (Nat.le_refl _) _)
end Go.Proofs.Ytocfdmlkicndoaa
