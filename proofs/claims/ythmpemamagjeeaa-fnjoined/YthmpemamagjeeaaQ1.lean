/-
  The spec's Quarters: four Cells in a new list, or none.
-/
import Derived.Test.YthmpemamagjeeaaU3
import Derived.Maps.AppendAt
namespace Go.Proofs.Ythmpemamagjeeaa
open Go.RowKit Go.Joins

theorem info38 : (Try.prog.info? 38).map (fun i => (i.zero, i.size, i.bytes)) = some (some (.agg #[.int .i64 0, .int .i64 0, .int .i64 0]), 3, 24) := by kernel_rfl
def qc (l x y : Int) (i : Nat) : List Value := [.int .i64 (l + 1), .int .i64 (2 * x + ((i % 2 : Nat) : Int)), .int .i64 (2 * y + ((i / 2 : Nat) : Int))]
def qs (l x y : Int) : Nat → List Value
  | 0 => []
  | k + 1 => qs l x y k ++ qc l x y k
theorem cell_three_new (w : World) (a b c : Value) (t : TypeId) : ∀ j u, [a, b, c][j]? = some u → (w.alloc (.cells #[a, b, c] t)).cell? ((⟨w.heap.size, 0, none⟩ : Addr).add j) = some u := by
  intro j u hj
  match j, hj with
  | 0, hj => simp at hj; subst hj; simp [Addr.add, go_sem]
  | 1, hj => simp at hj; subst hj; simp [Addr.add, go_sem]
  | 2, hj => simp at hj; subst hj; simp [Addr.add, go_sem]
theorem St.grown {w X Y : World} {l : List (Nat × List Value)} {row : Option Nat} (h : St w X l) (hg : X.grownBy Y row) (hr : ∀ r, row = some r → w.heap.size ≤ r ∧ ∀ p ∈ l, p.1 ≠ r) : St w Y l := by
  obtain ⟨hb, hh⟩ := h
  refine ⟨⟨hg.os.trans hb.os, hg.tape.trans hb.tape, hg.output.trans hb.output, Nat.le_trans hb.size hg.size, fun k hk => ?_⟩, ?_⟩
  · refine (hg.block k (Nat.lt_of_lt_of_le hk hb.size) (fun e => ?_)).trans (hb.block k hk)
    have := (hr k e.symm).1
    omega
  · clear hb
    induction l with
    | nil => trivial
    | cons p t ih =>
      obtain ⟨⟨h1, h2, h3⟩, h4⟩ := hh
      have hp : Y.heap[p.1]? = X.heap[p.1]? := hg.block p.1 h1 (fun e => (hr p.1 e.symm).2 p (List.mem_cons_self ..) rfl)
      refine ⟨⟨Nat.lt_of_lt_of_le h1 hg.size, fun o => (World.frozen?_of_block hp).trans (h2 o), ?_⟩, ih (fun r e => ⟨(hr r e).1, fun q hq => (hr r e).2 q (List.mem_cons_of_mem _ hq)⟩) h4⟩
      have : ∀ (i : Nat) (vs : List Value), HasAt X p.1 i vs → HasAt Y p.1 i vs := by
        intro i vs
        induction vs generalizing i with
        | nil => intro _; trivial
        | cons v vs ihv => intro hv; exact ⟨(World.cell?_of_block hp).trans hv.1, ihv _ hv.2⟩
      exact this _ _ h3
theorem row_St {w X : World} {base : Nat} {v : Value} {n : Nat} {xs : List Value} (h : X.ownsRow base 38 3 v (n + 1) xs) (hB : Below w.heap.size w X) :
    ∃ g cap, v = .slice (some ⟨g, 0, none⟩) (n + 1) cap ∧ base ≤ g ∧ n + 1 ≤ cap ∧ St w X [(g, xs)] := by
  obtain ⟨hl, ⟨_, h0⟩ | ⟨g, cap, cur, rfl, hg, hh, hc, _, _, ht⟩⟩ := h
  · omega
  · refine ⟨g, cap, rfl, hg, hc, hB, ⟨(Array.getElem?_eq_some_iff.1 hh).1, fun o => by simp [World.frozen?, hh], hasAt_of _ _ (fun j u hj => ?_)⟩, trivial⟩
    have hj' : cur[j]? = some u := by
      have : j < (n + 1) * 3 := by rw [← hl]; exact (List.getElem?_eq_some_iff.1 hj).1
      rw [← ht, List.getElem?_take_of_lt this] at hj
      simpa using hj
    simp [World.cell?, hh, hj']

set_option maxHeartbeats 1000000 in
theorem l2Quarter_any {l x y : Int} (h : cellB l x y = true) {k : Nat} (hk : k < 4) (w : World) :
    Calls Try.prog 83 #[.agg #[.int .i64 l, .int .i64 x, .int .i64 y], .int .i64 k] w fun e w' => e = .returned (.agg #[.int .i64 (l + 1), .int .i64 (2 * x + ((k % 2 : Nat) : Int)), .int .i64 (2 * y + ((k / 2 : Nat) : Int))]) ∧ Below w.heap.size w w' := by
  obtain ⟨h0, h8, hx, hx1, hy, hy1⟩ := cellB_t.mp h
  obtain ⟨p1, p2⟩ := pw h0 h8
  have : k = 0 ∨ k = 1 ∨ k = 2 ∨ k = 3 := by omega
  have f1 : wrap64 (l + 1) = l + 1 := w64 (by omega) (by omega)
  have f2 : wrap64 (2 * x) = 2 * x := w64 (by omega) (by omega)
  have f3 : wrap64 (2 * y) = 2 * y := w64 (by omega) (by omega)
  have f4 : wrap64 (2 * x + 1) = 2 * x + 1 := w64 (by omega) (by omega)
  have f5 : wrap64 (2 * y + 1) = 2 * y + 1 := w64 (by omega) (by omega)
  rcases this with rfl | rfl | rfl | rfl
  all_goals
    go_enter Try.func83, Try.ntmps83
    go_wp2
  · refine bodyPost_ret (v := .agg #[.int .i64 (l + 1), .int .i64 (2 * x), .int .i64 (2 * y)]) (by simp [results, Try.results83, go_sem]) rfl ⟨by simp, below_alloc2 _ _ _⟩
  · refine bodyPost_ret (v := .agg #[.int .i64 (l + 1), .int .i64 (2 * x + 1), .int .i64 (2 * y)]) (by simp [results, Try.results83, go_sem]) rfl ⟨by simp, below_alloc2 _ _ _⟩
  · refine bodyPost_ret (v := .agg #[.int .i64 (l + 1), .int .i64 (2 * x), .int .i64 (2 * y + 1)]) (by simp [results, Try.results83, go_sem]) rfl ⟨by simp, below_alloc2 _ _ _⟩
  · refine bodyPost_ret (v := .agg #[.int .i64 (l + 1), .int .i64 (2 * x + 1), .int .i64 (2 * y + 1)]) (by simp [results, Try.results83, go_sem]) rfl ⟨by simp, below_alloc2 _ _ _⟩

theorem own_of_below {X Y : World} {base size n : Nat} {e : TypeId} {v : Value} {xs : List Value} (h : X.ownsRow base e size v n xs) (hb : Below X.heap.size X Y) : Y.ownsRow base e size v n xs :=
  h.kept (row := none) ⟨hb.os, hb.tape, hb.output, hb.size, fun k hk _ => hb.block k hk⟩ (by cases hv : v.ownBlock <;> simp)

set_option maxRecDepth 100000 in
set_option maxHeartbeats 2000000 in
theorem sQuarters_yes {l x y : Int} (h : cellB l x y = true) (hl : l ≠ 8) (w : World) :
    Calls Try.prog 70 #[.agg #[.int .i64 l, .int .i64 x, .int .i64 y]] w fun e w' => ∃ g cap, e = .returned (.slice (some ⟨g, 0, none⟩) 4 cap) ∧ w.heap.size ≤ g ∧ 4 ≤ cap ∧ St w w' [(g, qs l x y 4)] := by
  obtain ⟨i0, hi, hz0, hz1, hz2⟩ := info_parts info38
  have hl8 : (l == 8) = false := by simpa using hl
  have hs := St.nil w
  go_enter Try.func70, Try.ntmps70
  go_wp2_with (go_at_call 80; refine (sCellOk_v h _).mono ?_; rintro e w1 ⟨rfl, hb2⟩; (first | replace hs := hs.step hb2 | replace hs := (hs.push _ _).step hb2 | replace hs := ((hs.push _ _).push _ _).step hb2 | replace hs := (((hs.push _ _).push _ _).push _ _).step hb2); (try simp only [World.size_alloc] at hs); (try clear hk); have hk := hs.has; simp [Has, HasAt] at hk)
  have hh : w1.heap[w.heap.size + 1]? = some (.cells #[] 38 (0, 0)) := (hb2.block _ (by simp)).trans (by have := World.alloc_heap_new (w.alloc (.cells #[.int .i64 l, .int .i64 x, .int .i64 y] 38)) (.cells #[] 38); rwa [World.size_alloc] at this)
  have hs1 := hs.sub (l' := [(w.heap.size, [.int .i64 l, .int .i64 x, .int .i64 y])]) (by simp)
  have hown : w1.ownsRow (w.heap.size + 1) 38 3 (.slice (some ⟨w.heap.size + 1, 0, none⟩) 0 0) 0 [] := ⟨rfl, .inr ⟨w.heap.size + 1, 0, #[], rfl, Nat.le_refl _, hh, Nat.le_refl _, Nat.zero_le _, rfl, rfl⟩⟩
  clear hk hs hh hb2
  go_loopw [3, 4] (fun v i wr => ∃ k : Nat, k ≤ 4 ∧ i = .int .i64 k ∧ wr.ownsRow (w.heap.size + 1) 38 3 v k (qs l x y k) ∧ St w wr [(w.heap.size, [.int .i64 l, .int .i64 x, .int .i64 y])]) (fun _ i _ => 4 - (intOf i).toNat)
  case atStart => exact ⟨0, by omega, rfl, hown, hs1⟩
  case round =>
    obtain ⟨k, hk4, rfl, hrow, hst⟩ := hrel
    have hk := hst.has
    simp [Has, HasAt] at hk
    by_cases hlt : k < 4
    · have hnum : (k : Int) < 4 := by omega
      go_wp2_with (first
        | (go_at_call 83; refine (l2Quarter_any h hlt _).mono ?_; rintro e w2 ⟨rfl, hb2⟩; have hst2 := hst.step hb2; have hrow2 := own_of_below hrow hb2)
        | (at_builtin; refine wpList_append_own _ rfl _ _ 27 rfl (w.heap.size + 1) 38 i0 (.agg #[.int .i64 0, .int .i64 0, .int .i64 0]) 3 24 Try.underlying27 hi hz0 hz1 hz2 rfl (by decide) _ _ _ rfl (hrow2.alloc _) ⟨w2.heap.size, 0, none⟩ 1 1 (qc l x y k) rfl rfl (cell_three_new _ _ _ _ _) (fun u hu => by simp [qc] at hu; rcases hu with rfl | rfl | rfl <;> rfl) (by unfold maxLen; omega) (by omega) (by have := hst2.has.1.1; simp; omega) ?_; intro v' w3 hown' hgrow _))
      have hst3 : St w w3 [(w.heap.size, [.int .i64 l, .int .i64 x, .int .i64 y])] := (hst2.al _).grown hgrow (fun r e => by
        have := hrow.lt r e
        exact ⟨by omega, fun p hp => by simp at hp; subst hp; show w.heap.size ≠ r; omega⟩)
      refine ⟨⟨k + 1, by omega, by go_num, hown', hst3⟩, by simp [intOf]; omega⟩
    · go_wp2
      obtain rfl : k = 4 := by omega
      obtain ⟨g, cap, rfl, hg, hc, hS⟩ := row_St hrow hst.bel
      go_ret
      exact ⟨g, cap, rfl, by omega, hc, hS⟩

set_option maxHeartbeats 1000000 in
theorem sQuarters_no {l x y : Int} (h : cellB l x y = false ∨ l = 8) (w : World) :
    Calls Try.prog 70 #[.agg #[.int .i64 l, .int .i64 x, .int .i64 y]] w fun e w' => e = .returned (.slice (some ⟨w.heap.size + 1, 0, none⟩) 0 0) ∧ Below w.heap.size w w' := by
  have hs := St.nil w
  cases hv : cellB l x y
  · go_enter Try.func70, Try.ntmps70
    go_wp2_with (go_at_call 80; refine (sCellOk_v hv _).mono ?_; rintro e w1 ⟨rfl, hb2⟩; (first | replace hs := hs.step hb2 | replace hs := (hs.push _ _).step hb2 | replace hs := ((hs.push _ _).push _ _).step hb2 | replace hs := (((hs.push _ _).push _ _).push _ _).step hb2); (try simp only [World.size_alloc] at hs); (try clear hk); have hk := hs.has; simp [Has, HasAt] at hk)
    go_ret
    exact ⟨rfl, hs.bel⟩
  · obtain rfl : l = 8 := by rcases h with h | h; (rw [hv] at h; cases h); exact h
    go_enter Try.func70, Try.ntmps70
    go_wp2_with (go_at_call 80; refine (sCellOk_v hv _).mono ?_; rintro e w1 ⟨rfl, hb2⟩; (first | replace hs := hs.step hb2 | replace hs := (hs.push _ _).step hb2 | replace hs := ((hs.push _ _).push _ _).step hb2 | replace hs := (((hs.push _ _).push _ _).push _ _).step hb2); (try simp only [World.size_alloc] at hs); (try clear hk); have hk := hs.has; simp [Has, HasAt] at hk)
    go_ret
    exact ⟨rfl, hs.bel⟩
end Go.Proofs.Ythmpemamagjeeaa
