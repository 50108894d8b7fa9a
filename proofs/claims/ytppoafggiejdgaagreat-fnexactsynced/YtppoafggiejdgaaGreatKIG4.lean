/-
  A sorted copy of a list of Items.
-/
import Derived.Test.YtppoafggiejdgaaGreatKIG3
namespace Go.Proofs.YtppoafggiejdgaaGreat.K.I
open Go.Shelf Go.RowKit Go.Joins
attribute [local go_sem] Oper.semAt_some

theorem own_putG {α : Type} {K : Kd α} {W : World} {base g n cap : Nat} {M B : List α} (h : OwG K W base (.slice (some ⟨g, 0, none⟩) n cap) M) (hl : B.length = M.length) (h1 : ∀ u ∈ K.flat B, u.oneCell' = true) :
    ∃ W', (storeCells ⟨g, 0, none⟩ (K.flat B) 0).run Tryz.prog W = .ok () W' ∧ OwG K W' base (.slice (some ⟨g, 0, none⟩) n cap) B ∧ W.grownBy W' (some g) := by
  obtain ⟨h0, ⟨h1, _⟩ | ⟨g', cap', cur, e, hg, hh, hc, hm, hs, ht⟩⟩ := h
  · cases h1
  · injection e with e1 e2 e3
    injection e1 with e1
    injection e1 with e1
    subst e1 e2 e3
    have hfl := Kd.flat_len (K := K) B
    have hc2 := Nat.mul_le_mul_right K.n hc
    have hst := run_storeCells_at Tryz.prog g 0 K.t (K.flat B) 0 cur W hh (by rw [hfl, hs, hl]; omega) h1
    refine ⟨_, hst, ?_, ⟨rfl, rfl, rfl, by simp, fun j _ hj => setRow_other W g j _ (fun e => hj (by simp [e]))⟩⟩
    unfold OwG
    rw [hl]
    refine ⟨by rw [hfl, hl], .inr ⟨g, cap, _, rfl, hg, setRow_heap W g cur _ K.t _ hh, hc, hm, ?_, ?_⟩⟩
    · simp only [List.size_toArray, List.length_append, List.length_take, List.length_drop, Array.length_toList, hfl, hl]
      omega
    · have e0 : (K.flat B).length = M.length * K.n := by rw [hfl, hl]
      simp only [Nat.add_zero, List.take_zero, List.nil_append]
      rw [List.take_append_of_le_length (by omega), List.take_of_length_le (by omega)]
theorem run_copyI {W : World} {base g cap m : Nat} {M L : List Rc} {a : Addr} {c : Nat} (hM : M.length = m) (h : W.ownsRow base 88 5 (.slice (some ⟨g, 0, none⟩) m cap) m (kR.flat M)) (hl : L.length = m) (hsrc : ∀ j u, (kR.flat L)[j]? = some u → W.cell? (a.add j) = some u) :
    ∃ W', (∀ ty, (Builtin.copy_ #[113, 113] ty #[.slice (some ⟨g, 0, none⟩) m cap, .slice (some a) m c]).run Tryz.prog W = .ok (goInt m) W') ∧ W'.ownsRow base 88 5 (.slice (some ⟨g, 0, none⟩) m cap) m (kR.flat L) ∧ W.grownBy W' (some g) := by
  obtain ⟨i0, hi, hz0, hz1, hz2⟩ := info_parts info88
  subst hM
  obtain ⟨W', h1, h2, h3⟩ := own_putG (K := kR) (B := L) h hl (oneRs L)
  have hld := run_loadCells_list (P := Tryz.prog) W a (kR.flat L) hsrc
  rw [Kd.flat_len, hl] at hld
  refine ⟨W', fun ty => ?_, by unfold OwG at h2; rw [hl] at h2; exact h2, h3⟩
  have hmin : Nat.min M.length M.length = M.length := Nat.min_self _
  have h3' : kR.n = 5 := rfl
  rw [h3'] at hld
  simp [Builtin.copy_, run_underlying Tryz.underlying113, Builtin.lenOf, Builtin.firstCells, sizeOf, typeInfo, hi, hz1, hmin, hld, h1]
set_option maxRecDepth 100000 in
set_option maxHeartbeats 2000000 in
theorem sorted_any (p : Option Addr) (cap : Nat) (L : List Rc) (m : Nat) (hm : L.length = m) (w : World) (hL : SlG kR w p L) (hn : m ≤ 1000) :
    Calls Tryz.prog 89 #[.slice p m cap, .func (.func 90) #[] #[]] w fun e w' => ∃ q cap' S, e = .returned (.slice (some ⟨q, 0, none⟩) m cap') ∧ S.Perm L ∧ S.Pairwise (fun a b => ¬ lessB b a = true) ∧ Sg w w' [rG kR (.slice (some ⟨q, 0, none⟩) m cap') S] := by
  obtain ⟨i0, hi, hz0, hz1, hz2⟩ := info_parts info88
  have hmk := run_make (P := Tryz.prog) w 113 88 i0 _ Tryz.underlying113 hi hz0 .i64 .i64 (m : Int) (m : Int) (by omega) (by omega) (by rw [hz2]; omega) (by omega)
  rw [hz1, Int.toNat_natCast] at hmk
  have hrow0 : (w.alloc (.cells (madeCells #[.int .i64 0, .int .i64 0, .int .i64 0, .int .i64 0, .string ByteArray.empty] (m * 5)) 88)).ownsRow w.heap.size 88 5 (.slice (some ⟨w.heap.size, 0, none⟩) m m) m (kR.flat (List.replicate m zrc)) := by
    have := World.ownsRow_lit (base := w.heap.size) (e := 88) (size := 5) w (madeCells #[.int .i64 0, .int .i64 0, .int .i64 0, .int .i64 0, .string ByteArray.empty] (m * 5)) m (Nat.le_refl _) (by unfold maxLen; omega) (size_madeCells _ _)
    rw [made_flatR] at this
    exact this
  have hb0 := below_alloc1 w (.cells (madeCells #[.int .i64 0, .int .i64 0, .int .i64 0, .int .i64 0, .string ByteArray.empty] (m * 5)) 88)
  have hcp : ∃ W1, (∀ ty, (Builtin.copy_ #[113, 113] ty #[.slice (some ⟨w.heap.size, 0, none⟩) m m, .slice p m cap]).run Tryz.prog (w.alloc (.cells (madeCells #[.int .i64 0, .int .i64 0, .int .i64 0, .int .i64 0, .string ByteArray.empty] (m * 5)) 88)) = .ok (goInt m) W1) ∧ W1.ownsRow w.heap.size 88 5 (.slice (some ⟨w.heap.size, 0, none⟩) m m) m (kR.flat L) ∧ (w.alloc (.cells (madeCells #[.int .i64 0, .int .i64 0, .int .i64 0, .int .i64 0, .string ByteArray.empty] (m * 5)) 88)).grownBy W1 (some w.heap.size) := by
    rcases hL with h | ⟨g, off, h, hC⟩
    · subst h
      simp at hm
      subst hm
      cases p with
      | none => exact ⟨_, fun ty => by simp [Builtin.copy_, run_underlying Tryz.underlying113, Builtin.lenOf, Builtin.firstCells, sizeOf, typeInfo, hi]; rfl, hrow0, ⟨rfl, rfl, rfl, Nat.le_refl _, fun _ _ _ => rfl⟩⟩
      | some ad => exact run_copyI (M := []) (L := []) rfl hrow0 rfl (fun j u hj => by simp [Kd.flat] at hj)
    · subst h
      exact run_copyI (M := List.replicate m zrc) (L := L) (by simp) hrow0 hm (cs_src (hC.step hb0))
  obtain ⟨W1, hcp, hO1, hg1⟩ := hcp
  have hb1 : Below w.heap.size w W1 := ⟨hg1.os.trans hb0.os, hg1.tape.trans hb0.tape, hg1.output.trans hb0.output, Nat.le_trans hb0.size hg1.size, fun k hk => (hg1.block k (by simp; omega) (by simp; omega)).trans (hb0.block k hk)⟩
  have HS := sortFunc_any w.heap.size w.heap.size m L m hm W1 hO1 hn
  clear hrow0 hb0 hL
  go_enter Tryz.func89, Tryz.ntmps89
  go_wp2_with (go_at_call 94; refine HS.mono ?_; rintro e w2 ⟨rfl, S, hS1, hS2, hS3, hS4⟩)
  go_ret
  have hSl := hS1.length_eq
  refine ⟨w.heap.size, m, S, rfl, hS1, hS2, ⟨⟨hS4.os.trans hb1.os, hS4.tape.trans hb1.tape, hS4.output.trans hb1.output, Nat.le_trans hb1.size hS4.size, fun k hk => (hS4.block k (Nat.lt_of_lt_of_le hk hb1.size) (by simp; omega)).trans (hb1.block k hk)⟩, fun r hr => ?_, by simp⟩⟩
  simp at hr
  subst hr
  unfold Rw.own rG
  simp only [hSl, hm]
  exact hS3
end Go.Proofs.YtppoafggiejdgaaGreat.K.I
