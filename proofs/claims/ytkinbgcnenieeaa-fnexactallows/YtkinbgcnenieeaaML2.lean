/-
  Lists of Cells that a call made itself; the law's own looks at them: made out of the law's Cells, alike, marked, still marked.
-/
import Derived.Test.YtkinbgcnenieeaaML1
import Derived.Test.YtkinbgcnenieeaaMQ1
import Derived.Laws.OwnMore
namespace Go.Proofs.Ytkinbgcnenieeaa.M
open Go.RowKit Go.Joins

def flat (L : List T3) : List Value := L.flatMap T3.vs
theorem flat_len : ∀ L : List T3, (flat L).length = L.length * 3
  | [] => rfl
  | a :: t => by have := flat_len t; simp only [flat, List.flatMap_cons, List.length_append, List.length_cons] at this ⊢; rw [this]; simp [T3.vs]; omega
theorem flat_append (A B : List T3) : flat (A ++ B) = flat A ++ flat B := List.flatMap_append ..
theorem flat_get : ∀ {L : List T3} {k : Nat} {c : T3}, L[k]? = some c → (flat L)[k * 3]? = some (.int .i64 c.l) ∧ (flat L)[k * 3 + 1]? = some (.int .i64 c.x) ∧ (flat L)[k * 3 + 2]? = some (.int .i64 c.y)
  | [], k, c, h => by simp at h
  | a :: t, 0, c, h => by simp at h; subst h; simp [flat, T3.vs]
  | a :: t, k + 1, c, h => by
    have ih := flat_get (L := t) (k := k) (c := c) (by simpa using h)
    have e : flat (a :: t) = a.vs ++ flat t := by simp [flat]
    have hl : a.vs.length = 3 := rfl
    rw [e, List.getElem?_append_right (by omega), List.getElem?_append_right (by omega), List.getElem?_append_right (by omega), hl]
    rw [show (k + 1) * 3 - 3 = k * 3 by omega, show (k + 1) * 3 + 1 - 3 = k * 3 + 1 by omega, show (k + 1) * 3 + 2 - 3 = k * 3 + 2 by omega]
    exact ih
theorem flat_set : ∀ {L : List T3} {k : Nat} (c : T3), k < L.length → (((flat L).set (k * 3) (.int .i64 c.l)).set (k * 3 + 1) (.int .i64 c.x)).set (k * 3 + 2) (.int .i64 c.y) = flat (L.set k c)
  | [], k, c, h => by simp at h
  | a :: t, 0, c, _ => by simp [flat, T3.vs]
  | a :: t, k + 1, c, h => by
    have ih := flat_set (L := t) (k := k) c (by simpa using h)
    have e : ∀ b, flat (b :: t) = b.vs ++ flat t := fun b => by simp [flat]
    have hl : a.vs.length = 3 := rfl
    have e2 : flat ((a :: t).set (k + 1) c) = a.vs ++ flat (t.set k c) := by simp [flat]
    rw [e, e2, ← ih, List.set_append_right _ _ (by omega), List.set_append_right _ _ (by omega), List.set_append_right _ _ (by omega), hl]
    rw [show (k + 1) * 3 - 3 = k * 3 by omega, show (k + 1) * 3 + 1 - 3 = k * 3 + 1 by omega, show (k + 1) * 3 + 2 - 3 = k * 3 + 2 by omega]
def zro : T3 := ⟨0, 0, 0⟩
theorem made_flat (n : Nat) : (madeCells #[.int .i64 0, .int .i64 0, .int .i64 0] (n * 3)).toList = flat (List.replicate n zro) := by
  have hr : flat (List.replicate n zro) = List.replicate (n * 3) (.int .i64 0) := by
    induction n with
    | zero => rfl
    | succ n ih => rw [List.replicate_succ, show flat (zro :: List.replicate n zro) = zro.vs ++ flat (List.replicate n zro) by simp [flat], ih, show (n + 1) * 3 = n * 3 + 3 by omega]; simp [T3.vs, zro, List.replicate_succ]
  rw [hr]
  refine List.ext_getElem? fun i => ?_
  by_cases hi : i < n * 3
  · have hm : i % 3 = 0 ∨ i % 3 = 1 ∨ i % 3 = 2 := by omega
    rcases hm with hm | hm | hm <;> simp [madeCells, hi, hm]
  · simp [madeCells, hi]

/-- A list of the base's own or later memory. -/
abbrev Ow (W : World) (base : Nat) (v : Value) (L : List T3) : Prop := W.ownsRow base 62 3 v L.length (flat L)
theorem Ow.cs {W : World} {base : Nat} {g n cap : Nat} {L : List T3} (h : Ow W base (.slice (some ⟨g, 0, none⟩) n cap) L) : Cs W g 0 L := by
  have hn : n = L.length := by rcases h.2 with ⟨h1, _⟩ | ⟨_, _, _, h1, _⟩ <;> cases h1; rfl
  subst hn
  refine ⟨(h.lt g rfl).2, fun k c hk => ?_⟩
  have hlt : k < L.length := (List.getElem?_eq_some_iff.1 hk).1
  obtain ⟨a, b, d⟩ := flat_get hk
  simp only [Nat.zero_add]
  exact ⟨(h.cellAt _ (by omega)).trans a, (h.cellAt _ (by omega)).trans b, (h.cellAt _ (by omega)).trans d⟩
theorem Ow.form {W : World} {base : Nat} {v : Value} {L : List T3} (h : Ow W base v L) : ∃ p cap, v = .slice p L.length cap ∧ Sl W p L := by
  rcases h.2 with ⟨rfl, h0⟩ | ⟨g, cap, cur, rfl, _⟩
  · exact ⟨none, 0, by rw [h0], .inl (List.eq_nil_of_length_eq_zero h0)⟩
  · exact ⟨_, _, rfl, .inr ⟨g, 0, rfl, Ow.cs h⟩⟩
theorem Ow.nil (W : World) (base : Nat) : Ow W base (.slice none 0 0) [] := World.ownsRow_nil ..
theorem Ow.sl {W : World} {base : Nat} {p : Option Addr} {n cap : Nat} {L : List T3} (h : Ow W base (.slice p n cap) L) : Sl W p L := by
  obtain ⟨p', cap', e, hs⟩ := h.form
  cases e; exact hs

theorem sc3o {B : Nat} {w w1 : World} {g i j m : Nat} (h : Below B w w1) (hg : B ≤ g) {v0 v1 v2 : Value} : Below B w (((w1.setCell ⟨g, i, none⟩ v0).setCell ⟨g, j, none⟩ v1).setCell ⟨g, m, none⟩ v2) :=
  ((h.setCell (p := ⟨g, i, none⟩) hg v0).setCell (p := ⟨g, j, none⟩) hg v1).setCell (p := ⟨g, m, none⟩) hg v2
theorem gtrans {X Y Z : World} {row : Option Nat} (h : X.grownBy Y row) (k : Y.grownBy Z row) : X.grownBy Z row :=
  ⟨k.os.trans h.os, k.tape.trans h.tape, k.output.trans h.output, Nat.le_trans h.size k.size, fun b hb hr => (k.block b (Nat.lt_of_lt_of_le hb h.size) hr).trans (h.block b hb hr)⟩

set_option maxHeartbeats 1000000 in
theorem toCellS_any (p : Option Addr) (cap : Nat) (L : List T3) (w : World) (hL : Sl w p L) (hn : L.length ≤ 1048576) :
    Calls Try.prog 50 #[.slice p L.length cap] w fun e w' => e = .returned (.slice (some ⟨w.heap.size, 0, none⟩) L.length L.length) ∧ Ow w' w.heap.size (.slice (some ⟨w.heap.size, 0, none⟩) L.length L.length) L ∧ Below w.heap.size w w' := by
  obtain ⟨i0, hi, hz0, hz1, hz2⟩ := info_parts info62
  have hmk := run_make (P := Try.prog) w 37 62 i0 _ Try.underlying37 hi hz0 .i64 .i64 (L.length : Int) (L.length : Int) (by omega) (by omega) (by rw [hz2]; omega) (by omega)
  rw [hz1, Int.toNat_natCast] at hmk
  have hrow0 : Ow (w.alloc (.cells (madeCells #[.int .i64 0, .int .i64 0, .int .i64 0] (L.length * 3)) 62)) w.heap.size (.slice (some ⟨w.heap.size, 0, none⟩) L.length L.length) (List.replicate L.length zro) := by
    have := World.ownsRow_lit (base := w.heap.size) (e := 62) (size := 3) w (madeCells #[.int .i64 0, .int .i64 0, .int .i64 0] (L.length * 3)) L.length (Nat.le_refl _) (by unfold maxLen; omega) (size_madeCells _ _)
    rw [made_flat] at this
    unfold Ow; rw [List.length_replicate]; exact this
  have hb0 := below_alloc1 w (.cells (madeCells #[.int .i64 0, .int .i64 0, .int .i64 0] (L.length * 3)) 62)
  go_enter Try.func50, Try.ntmps50
  go_wp2
  generalize w.alloc (.cells (madeCells #[.int .i64 0, .int .i64 0, .int .i64 0] (L.length * 3)) 62) = W0 at hrow0 hb0 ⊢
  go_loopw [4] (fun i wr => ∃ (k : Nat) (M : List T3), k ≤ L.length ∧ i = .int .i64 k ∧ M.length = L.length ∧ (∀ j, j < k → M[j]? = L[j]?) ∧ Ow wr w.heap.size (.slice (some ⟨w.heap.size, 0, none⟩) L.length L.length) M ∧ Below w.heap.size w wr) (fun i _ => L.length - (intOf i).toNat)
  case atStart => exact ⟨0, _, by omega, rfl, by simp, by simp, hrow0, hb0⟩
  case round =>
    obtain ⟨k, M, hk, rfl, hM, hjs, hrow, hb⟩ := hrel
    by_cases hlt : k < L.length
    · have hki : (k : Int) < L.length := by omega
      obtain ⟨g, off, rfl, hC⟩ := (hL.step hb).at hlt
      obtain ⟨c0, c1, c2⟩ := hC.2 k L[k] (List.getElem?_eq_getElem hlt)
      have hkM : k < M.length := by omega
      go_wp2_with (go_at_call 61; refine (toCell_any _ _ _ _).mono ?_; rintro e w1 ⟨rfl, hb2⟩; have hrow2 := own_of_below hrow hb2; have hC2 := Ow.cs hrow2; obtain ⟨d0, d1, d2⟩ := hC2.2 k M[k] (List.getElem?_eq_getElem hkM); simp only [Nat.zero_add] at d0 d1 d2; unfold Ow at hrow2; rw [hM] at hrow2; have hf := hrow2.frozenAt)
      go_roundw
      case rel =>
        refine ⟨k + 1, M.set k L[k], by omega, by go_num, by simp [hM], fun j hj => ?_, ?_, ?_⟩
        · by_cases e : k = j
          · subst e; rw [List.getElem?_set_self hkM, List.getElem?_eq_getElem hlt]
          · rw [List.getElem?_set_ne e]; exact hjs j (by omega)
        · have := (((hrow2.stored (k * 3) (.int .i64 L[k].l)).1.stored (k * 3 + 1) (.int .i64 L[k].x)).1.stored (k * 3 + 2) (.int .i64 L[k].y)).1
          rw [flat_set _ hkM] at this
          unfold Ow; rw [List.length_set, hM]
          exact this
        · exact sc3o (bstep hb hb2 (Nat.le_refl _)) (Nat.le_refl _)
      case measure => simp [intOf]; omega
    · obtain rfl : k = L.length := by omega
      go_wp2
      go_ret
      obtain rfl : M = L := List.ext_getElem? fun j => by
        by_cases hj : j < L.length
        · exact hjs j hj
        · rw [List.getElem?_eq_none (by omega), List.getElem?_eq_none (by omega)]
      exact ⟨rfl, hrow, hb⟩

def mk (k : Int) (n : Nat) : List T3 := (List.range n).map fun i : Nat => ⟨k + 3 * (i : Int), k + 3 * (i : Int) + 1, k + 3 * (i : Int) + 2⟩
theorem mk_get {k : Int} {n i : Nat} (h : i < n) : (mk k n)[i]? = some ⟨k + 3 * i, k + 3 * i + 1, k + 3 * i + 2⟩ := by simp [mk, h]
theorem mk_len (k : Int) (n : Nat) : (mk k n).length = n := by simp [mk]

set_option maxHeartbeats 1000000 in
theorem markCellS_any (p : Option Addr) (cap base : Nat) (k0 : Int) (L : List T3) (w : World) (hL : Ow w base (.slice p L.length cap) L) (hn : L.length ≤ 10000000) (hk0 : 0 ≤ k0) (hk1 : k0 ≤ 100000000) :
    Calls Try.prog 15 #[.slice p L.length cap, .int .i64 k0] w fun e w' => e = .returned (.int .i64 (k0 + 3 * L.length)) ∧ Ow w' base (.slice p L.length cap) (mk k0 L.length) ∧ w.grownBy w' (Value.slice p L.length cap).ownBlock := by
  go_enter Try.func15, Try.ntmps15
  go_wp2
  go_loopw [1, 5] (fun kv i wr => ∃ (k : Nat) (M : List T3), k ≤ L.length ∧ i = .int .i64 k ∧ kv = .int .i64 (k0 + 3 * k) ∧ M.length = L.length ∧ (∀ j, j < k → M[j]? = (mk k0 L.length)[j]?) ∧ Ow wr base (.slice p L.length cap) M ∧ w.grownBy wr (Value.slice p L.length cap).ownBlock) (fun _ i _ => L.length - (intOf i).toNat)
  case atStart => exact ⟨0, L, by omega, rfl, by simp, rfl, by simp, hL, ⟨rfl, rfl, rfl, Nat.le_refl _, fun _ _ _ => rfl⟩⟩
  case round =>
    obtain ⟨k, M, hk, rfl, rfl, hM, hjs, hrow, hg⟩ := hrel
    by_cases hlt : k < L.length
    · have hki : (k : Int) < L.length := by omega
      have hkM : k < M.length := by omega
      obtain ⟨g, off, rfl, _⟩ := (Ow.sl hrow).at hkM
      have hoff : off = 0 := by rcases hrow.2 with ⟨h1, _⟩ | ⟨_, _, _, h1, _⟩ <;> injection h1 with h1 <;> first | (cases h1; done) | (injection h1 with h1; injection h1)
      subst hoff
      obtain ⟨d0, d1, d2⟩ := (Ow.cs hrow).2 k M[k] (List.getElem?_eq_getElem hkM)
      simp only [Nat.zero_add] at d0 d1 d2
      unfold Ow at hrow
      rw [hM] at hrow
      have hf := hrow.frozenAt
      go_wp2
      go_roundw
      case rel =>
        have e1 : k0 + 3 * (k : Int) + 1 + 1 = k0 + 3 * (k : Int) + 2 := by omega
        rw [e1]
        obtain ⟨s1, t1⟩ := hrow.stored (k * 3) (.int .i64 (k0 + 3 * (k : Int)))
        obtain ⟨s2, t2⟩ := s1.stored (k * 3 + 1) (.int .i64 (k0 + 3 * (k : Int) + 1))
        obtain ⟨s3, t3⟩ := s2.stored (k * 3 + 2) (.int .i64 (k0 + 3 * (k : Int) + 2))
        refine ⟨k + 1, M.set k ⟨k0 + 3 * (k : Int), k0 + 3 * (k : Int) + 1, k0 + 3 * (k : Int) + 2⟩, by omega, by go_num, by congr 1; omega, by simp [hM], fun j hj => ?_, ?_, gtrans hg (gtrans t1 (gtrans t2 t3))⟩
        · by_cases e : k = j
          · subst e; rw [List.getElem?_set_self hkM, mk_get hlt]
          · rw [List.getElem?_set_ne e]; exact hjs j (by omega)
        · rw [flat_set ⟨k0 + 3 * (k : Int), k0 + 3 * (k : Int) + 1, k0 + 3 * (k : Int) + 2⟩ hkM] at s3
          unfold Ow; rw [List.length_set, hM]
          exact s3
      case measure => simp [intOf]; omega
    · obtain rfl : k = L.length := by omega
      go_wp2
      go_ret
      obtain rfl : M = mk k0 L.length := List.ext_getElem? fun j => by
        by_cases hj : j < L.length
        · exact hjs j hj
        · rw [List.getElem?_eq_none (by omega), List.getElem?_eq_none (by rw [mk_len]; omega)]
      exact ⟨rfl, hrow, hg⟩
end Go.Proofs.Ytkinbgcnenieeaa.M
