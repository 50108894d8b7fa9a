/-
  The spec's Quarters: four Cells in a new list, or none.
-/
import Derived.Test.YtkinbgcnenieeaaMU3
import Derived.Maps.AppendAt
namespace Go.Proofs.Ytkinbgcnenieeaa.M
open Go.RowKit Go.Joins

theorem info62 : (Try.prog.info? 62).map (fun i => (i.zero, i.size, i.bytes)) = some (some (.agg #[.int .i64 0, .int .i64 0, .int .i64 0]), 3, 24) := by kernel_rfl
def qc (l x y : Int) (i : Nat) : List Value := [.int .i64 (l + 1), .int .i64 (2 * x + ((i % 2 : Nat) : Int)), .int .i64 (2 * y + ((i / 2 : Nat) : Int))]
def qs (l x y : Int) : Nat → List Value
  | 0 => []
  | k + 1 => qs l x y k ++ qc l x y k
theorem cell_three_new (w : World) (a b c : Value) (t : TypeId) : ∀ j u, [a, b, c][j]? = some u → (w.alloc (.cells #[a, b, c] t)).cell? ((⟨w.heap.size, 0, none⟩ : Addr).add j) = some u := by
  intro j u hj
  match j, hj with
  | 0, hj => simp at hj; subst hj; simp [Addr.add, go_sem]
  | 1, hj => simp at hj; subst hj; simp [Addr.add, go_sem]
  | 2, hj => simp at hj; subst hj; simp [Addr.add, go_sem]
theorem St.grown {w X Y : World} {l : List (Nat × List Value)} {row : Option Nat} (h : St w X l) (hg : X.grownBy Y row) (hr : ∀ r, row = some r → w.heap.size ≤ r ∧ ∀ p ∈ l, p.1 ≠ r) : St w Y l := by
  obtain ⟨hb, hh⟩ := h
  refine ⟨⟨hg.os.trans hb.os, hg.tape.trans hb.tape, hg.output.trans hb.output, Nat.le_trans hb.size hg.size, fun k hk => ?_⟩, ?_⟩
  · refine (hg.block k (Nat.lt_of_lt_of_le hk hb.size) (fun e => ?_)).trans (hb.block k hk)
    have := (hr k e.symm).1
    omega
  · clear hb
    induction l with
    | nil => trivial
    | cons p t ih =>
      obtain ⟨⟨h1, h2, h3⟩, h4⟩ := hh
      have hp : Y.heap[p.1]? = X.heap[p.1]? := hg.block p.1 h1 (fun e => (hr p.1 e.symm).2 p (List.mem_cons_self ..) rfl)
      refine ⟨⟨Nat.lt_of_lt_of_le h1 hg.size, fun o => (World.frozen?_of_block hp).trans (h2 o), ?_⟩, ih (fun r e => ⟨(hr r e).1, fun q hq => (hr r e).2 q (List.mem_cons_of_mem _ hq)⟩) h4⟩
      have : ∀ (i : Nat) (vs : List Value), HasAt X p.1 i vs → HasAt Y p.1 i vs := by
        intro i vs
        induction vs generalizing i with
        | nil => intro _; trivial
        | cons v vs ihv => intro hv; exact ⟨(World.cell?_of_block hp).trans hv.1, ihv _ hv.2⟩
      exact this _ _ h3
theorem row_St {w X : World} {base : Nat} {v : Value} {n : Nat} {xs : List Value} (h : X.ownsRow base 62 3 v (n + 1) xs) (hB : Below w.heap.size w X) :
    ∃ g cap, v = .slice (some ⟨g, 0, none⟩) (n + 1) cap ∧ base ≤ g ∧ n + 1 ≤ cap ∧ St w X [(g, xs)] := by
  obtain ⟨hl, ⟨_, h0⟩ | ⟨g, cap, cur, rfl, hg, hh, hc, _, _, ht⟩⟩ := h
  · omega
  · refine ⟨g, cap, rfl, hg, hc, hB, ⟨(Array.getElem?_eq_some_iff.1 hh).1, fun o => by simp [World.frozen?, hh], hasAt_of _ _ (fun j u hj => ?_)⟩, trivial⟩
    have hj' : cur[j]? = some u := by
      have : j < (n + 1) * 3 := by rw [← hl]; exact (List.getElem?_eq_some_iff.1 hj).1
      rw [← ht, List.getElem?_take_of_lt this] at hj
      simpa using hj
    simp [World.cell?, hh, hj']

set_option maxHeartbeats 1000000 in
theorem l2Quarter_any {l x y : Int} (h : cellB l x y = true) {k : Nat} (hk : k < 4) (w : World) :
    Calls Try.prog 46 #[.agg #[.int .i64 l, .int .i64 x, .int .i64 y], .int .i64 k] w fun e w' => e = .returned (.agg #[.int .i64 (l + 1), .int .i64 (2 * x + ((k % 2 : Nat) : Int)), .int .i64 (2 * y + ((k / 2 : Nat) : Int))]) ∧ Below w.heap.size w w' := by
  obtain ⟨h0, h8, hx, hx1, hy, hy1⟩ := cellB_t.mp h
  obtain ⟨p1, p2⟩ := pw h0 h8
  have : k = 0 ∨ k = 1 ∨ k = 2 ∨ k = 3 := by omega
  have f1 : wrap64 (l + 1) = l + 1 := w64 (by omega) (by omega)
  have f2 : wrap64 (2 * x) = 2 * x := w64 (by omega) (by omega)
  have f3 : wrap64 (2 * y) = 2 * y := w64 (by omega) (by omega)
  have f4 : wrap64 (2 * x + 1) = 2 * x + 1 := w64 (by omega) (by omega)
  have f5 : wrap64 (2 * y + 1) = 2 * y + 1 := w64 (by omega) (by omega)
  rcases this with rfl | rfl | rfl | rfl
  all_goals
    go_enter Try.func46, Try.ntmps46
    go_wp2
  · refine bodyPost_ret (v := .agg #[.int .i64 (l + 1), .int .i64 (2 * x), .int .i64 (2 * y)]) (by simp [results, Try.results46, go_sem]) rfl ⟨by simp, below_alloc2 _ _ _⟩
  · refine bodyPost_ret (v := .agg #[.int .i64 (l + 1), .int .i64 (2 * x + 1), .int .i64 (2 * y)]) (by simp [results, Try.results46, go_sem]) rfl ⟨by simp, below_alloc2 _ _ _⟩
  · refine bodyPost_ret (v := .agg #[.int .i64 (l + 1), .int .i64 (2 * x), .int .i64 (2 * y + 1)]) (by simp [results, Try.results46, go_sem]) rfl ⟨by simp, below_alloc2 _ _ _⟩
  · refine bodyPost_ret (v := .agg #[.int .i64 (l + 1), .int .i64 (2 * x + 1), .int .i64 (2 * y + 1)]) (by simp [results, Try.results46, go_sem]) rfl ⟨by simp, below_alloc2 _ _ _⟩

theorem own_of_below {X Y : World} {base size n : Nat} {e : TypeId} {v : Value} {xs : List Value} (h : X.ownsRow base e size v n xs) (hb : Below X.heap.size X Y) : Y.ownsRow base e size v n xs :=
  h.kept (row := none) ⟨hb.os, hb.tape, hb.output, hb.size, fun k hk _ => hb.block k hk⟩ (by cases hv : v.ownBlock <;> simp)

end Go.Proofs.Ytkinbgcnenieeaa.M
