/-
  slices.Sort and slices.Compact of a list of numbers of one's own; a call inside a region whose order is open; appends of numbers and of stretches.
-/
import Derived.Test.YtgpgmndjkcpaoaaSP1
import Derived.Test.YtgpgmndjkcpaoaaSh
import Derived.Shelf.SortG.SortNone
import Derived.Sort.EveryDepth
import Derived.Sort.OwnSorted
import Derived.Deep.RegionLaw
import Derived.Deep.AppendLies
namespace Go.Proofs.Ytgpgmndjkcpaoaa
open Go.Shelf Go.RowKit Go.Joins

theorem own1_holds {w : World} {base g cap : Nat} {L : List Int} (h : Ow1 w base (.slice (some ⟨g, 0, none⟩) L.length cap) L) : Go.Sort.Holds (Value.int .i64) w g 0 L.toArray := by
  intro j hj
  have hj' : j < L.length := by simpa using hj
  rw [Nat.zero_add]
  refine ⟨?_, World.ownsRow.frozenAt h j⟩
  have := (World.ownsRow.cellAt h j (by omega)).trans (flat1_get (List.getElem?_eq_getElem hj'))
  rw [this, getElem!_pos L.toArray j hj]
  simp
theorem put_own1 {w : World} {base g cap n : Nat} {os : Array Obj} {L : List Int} {d : Array Int} (h : Ow1 w base (.slice (some ⟨g, 0, none⟩) L.length cap) L) (hl : d.size = L.length) :
    Ow1 (Go.Sort.grow (Go.Sort.putRow (Value.int .i64) (Go.Sort.ahead w n) g 0 d) os) base (.slice (some ⟨g, 0, none⟩) L.length cap) d.toList := by
  obtain ⟨h0, ⟨h1, _⟩ | ⟨g', cap', cur, e, hg, hh, hc, hm, hs, ht⟩⟩ := h
  · cases h1
  · injection e with e1 e2 e3
    injection e1 with e1
    injection e1 with e1
    subst e1 e3
    have hlen : d.toList.length = L.length := by simpa using hl
    unfold Ow1
    rw [hlen]
    refine ⟨by rw [flat1_len, hlen, Nat.mul_one], .inr ⟨g, cap, Go.Sort.putCells (Value.int .i64) 0 d cur, rfl, hg, ?_, hc, hm, by simp [Go.Sort.putCells, hs], ?_⟩⟩
    · have hlt := (Array.getElem?_eq_some_iff.1 hh).1
      unfold Go.Sort.putRow
      rw [Go.Sort.heap_grow_old _ _ (by simpa [Go.Sort.mapBlock, Go.Sort.ahead] using hlt)]
      simp [Go.Sort.mapBlock, Go.Sort.ahead, Array.getElem?_modify, hh, Go.Sort.onCells]
    · refine List.ext_getElem? fun j => ?_
      by_cases hj : j < L.length * 1
      · rw [List.getElem?_take_of_lt hj, Array.getElem?_toList]
        have hjc : j < cur.size := by rw [hs]; have := Nat.mul_le_mul_right 1 hc; omega
        have hjd : j < d.size := by omega
        have : (flat1 d.toList)[j]? = some (.int .i64 d[j]) := flat1_get (by simp [hjd])
        rw [this]
        simp [Go.Sort.putCells, hjc, hjd]
      · rw [List.getElem?_take_eq_none (by omega), List.getElem?_eq_none (by rw [flat1_len]; omega)]
theorem put_grown1 {w : World} {g n : Nat} {os : Array Obj} {d : Array Int} : w.grownBy (Go.Sort.grow (Go.Sort.putRow (Value.int .i64) (Go.Sort.ahead w n) g 0 d) os) (some g) := by
  unfold Go.Sort.putRow
  refine ⟨rfl, rfl, rfl, by simp [Go.Sort.mapBlock, Go.Sort.ahead, Go.Sort.grow], fun k hk hne => ?_⟩
  rw [Go.Sort.heap_grow_old _ _ (by simpa [Go.Sort.mapBlock, Go.Sort.ahead] using hk)]
  have : g ≠ k := fun e => hne (by rw [e])
  simp [Go.Sort.mapBlock, Go.Sort.ahead, Array.getElem?_modify, this]
theorem cut_own1 {W : World} {base g n cap : Nat} {A B : List Int} (h : Ow1 W base (.slice (some ⟨g, 0, none⟩) n cap) (A ++ B)) : Ow1 W base (.slice (some ⟨g, 0, none⟩) A.length cap) A := by
  obtain ⟨h0, ⟨h1, _⟩ | ⟨g', cap', cur, e, hg, hh, hc, hm, hs, ht⟩⟩ := h
  · cases h1
  · injection e with e1 e2 e3
    injection e1 with e1
    injection e1 with e1
    subst e1 e3
    simp only [List.length_append] at hc ht
    refine ⟨by rw [flat1_len, Nat.mul_one], .inr ⟨g, cap, cur, rfl, hg, hh, by omega, hm, hs, ?_⟩⟩
    have h5 := congrArg (List.take (A.length * 1)) ht
    rw [List.take_take, Nat.min_eq_left (by omega), flat1_append, List.take_left' (by rw [flat1_len, Nat.mul_one])] at h5
    exact h5
def msI (L : List Int) : List Int := L.mergeSort fun x y => decide (x ≤ y)
theorem msI_len (L : List Int) : (msI L).length = L.length := by simp [msI]
theorem msI_cut (L : List Int) : Lib.compact (msI L) = cutL L := sort_cut L
theorem sort_some (base g cap : Nat) (L : List Int) (w : World) (h : Ow1 w base (.slice (some ⟨g, 0, none⟩) L.length cap) L) (hn : L.length ≤ 1048576) :
    Calls Try.prog 74 #[.slice (some ⟨g, 0, none⟩) L.length cap] w fun e w' => e = .returned (.tuple #[]) ∧ Ow1 w' base (.slice (some ⟨g, 0, none⟩) L.length cap) (msI L) ∧ w.grownBy w' (some g) := by
  have hc : Calls Try.prog 74 #[.slice (some ⟨g, 0, none⟩) L.length cap] w _ := calls_of_every_depth fun D => AnySG.slices_Sort_int_in Try.sortL D g 0 cap L w (own1_holds h) (World.ownsRow.lt h g rfl).2 (by omega)
  refine hc.mono ?_
  rintro e w' ⟨rfl, n, os, rfl⟩
  have hl : (L.mergeSort fun x y => decide (x ≤ y)).toArray.size = L.length := by simp
  exact ⟨rfl, put_own1 h hl, put_grown1⟩
theorem compact_some (base g cap : Nat) (L : List Int) (w : World) (h : Ow1 w base (.slice (some ⟨g, 0, none⟩) L.length cap) L) (hn : L.length ≤ 1048576) :
    Calls Try.prog 75 #[.slice (some ⟨g, 0, none⟩) L.length cap] w fun e w' => e = .returned (.slice (some ⟨g, 0, none⟩) (Lib.compact L).length cap) ∧ Ow1 w' base (.slice (some ⟨g, 0, none⟩) (Lib.compact L).length cap) (Lib.compact L) ∧ w.grownBy w' (some g) := by
  have hcap : L.length ≤ cap := by rcases h.2 with ⟨h1, _⟩ | ⟨_, _, _, h1, _, _, h2, _⟩; (cases h1); (injection h1 with _ _ h1; omega)
  have hc : Calls Try.prog 75 #[.slice (some ⟨g, 0, none⟩) L.length cap] w _ := AnyG.slices_Compact_int Try.compL g 0 cap L w (own1_holds h) (by omega) hcap
  refine hc.mono ?_
  rintro e w' ⟨rfl, q, rfl⟩
  have hle : (Lib.compact L).length ≤ L.length := by
    unfold Lib.compact Lib.compactUpTo
    rw [List.length_map]
    exact Nat.le_trans (List.length_filter_le _ _) (by simp)
  have hl : (Lib.compact L ++ List.replicate (L.length - (Lib.compact L).length) (0 : Int)).toArray.size = L.length := by simp; omega
  have h1 := put_own1 (n := q) (os := #[]) h hl
  have h2 := put_grown1 (w := w) (g := g) (n := q) (os := #[]) (d := (Lib.compact L ++ List.replicate (L.length - (Lib.compact L).length) (0 : Int)).toArray)
  rw [Go.Sort.grow_empty] at h1 h2
  exact ⟨rfl, cut_own1 h1, h2⟩
theorem sort_none (p : Option Addr) (cap : Nat) (w : World) : Calls Try.prog 74 #[.slice p 0 cap] w fun e w' => e = .returned (.tuple #[]) ∧ w' = w := AnyG.slices_Sort_int_none Try.sortL p cap w
theorem compact_none (p : Option Addr) (cap : Nat) (w : World) : Calls Try.prog 75 #[.slice p 0 cap] w fun e w' => e = .returned (.slice p 0 cap) ∧ w' = w := AnyG.slices_Compact_int_empty Try.compL p cap w

theorem own1_nil {W : World} {base : Nat} {q : Option Addr} {c : Nat} {L : List Int} (h : W.ownsRow base 2 1 (.slice q 0 c) 0 (flat1 L)) : L = [] := by
  have := h.1; rw [flat1_len] at this; exact List.eq_nil_of_length_eq_zero (by omega)
theorem own1_len {W : World} {base n : Nat} {v : Value} {L : List Int} (h : W.ownsRow base 2 1 v n (flat1 L)) : L.length = n := by
  have := h.1; rw [flat1_len] at this; omega
theorem own1_some {W : World} {base n c : Nat} {q : Option Addr} {L : List Int} (h : W.ownsRow base 2 1 (.slice q n c) n (flat1 L)) (hn : 0 < n) : ∃ g, q = some ⟨g, 0, none⟩ := by
  rcases h.2 with ⟨_, h1⟩ | ⟨g, _, _, h1, _⟩
  · omega
  · injection h1 with h1; exact ⟨g, h1⟩
theorem sort_any (base n : Nat) (q : Option Addr) (c : Nat) (L : List Int) (w : World) (h : w.ownsRow base 2 1 (.slice q n c) n (flat1 L)) (hn : n ≤ 1048576) :
    Calls Try.prog 74 #[.slice q n c] w fun e w' => e = .returned (.tuple #[]) ∧ w'.ownsRow base 2 1 (.slice q n c) n (flat1 (msI L)) ∧ w.grownBy w' (Value.slice q n c).ownBlock := by
  have hl := own1_len h
  by_cases h0 : n = 0
  · subst h0
    have := own1_nil h
    subst this
    refine (sort_none q c w).mono ?_
    rintro e w' ⟨rfl, rfl⟩
    exact ⟨rfl, by rw [show msI [] = [] by simp [msI]]; exact h, ⟨rfl, rfl, rfl, Nat.le_refl _, fun _ _ _ => rfl⟩⟩
  · obtain ⟨g, rfl⟩ := own1_some h (by omega)
    subst hl
    refine (sort_some base g c L w h hn).mono ?_
    rintro e w' ⟨rfl, h1, h2⟩
    refine ⟨rfl, ?_, h2⟩
    unfold Ow1 at h1
    rw [msI_len] at h1
    exact h1
theorem compact_any (base n : Nat) (q : Option Addr) (c : Nat) (L : List Int) (w : World) (h : w.ownsRow base 2 1 (.slice q n c) n (flat1 L)) (hn : n ≤ 1048576) {M : List Int} (hM : Lib.compact L = M) :
    Calls Try.prog 75 #[.slice q n c] w fun e w' => e = .returned (.slice q M.length c) ∧ Ow1 w' base (.slice q M.length c) M ∧ w.grownBy w' (Value.slice q n c).ownBlock := by
  have hl := own1_len h
  subst hM
  by_cases h0 : n = 0
  · subst h0
    have := own1_nil h
    subst this
    refine (compact_none q c w).mono ?_
    rintro e w' ⟨rfl, rfl⟩
    exact ⟨rfl, h, ⟨rfl, rfl, rfl, Nat.le_refl _, fun _ _ _ => rfl⟩⟩
  · obtain ⟨g, rfl⟩ := own1_some h (by omega)
    subst hl
    refine (compact_some base g c L w h hn).mono ?_
    rintro e w' ⟨rfl, h1, h2⟩
    exact ⟨rfl, h1, h2⟩

/-- A call of a function of one argument, as one step of a region whose order is open. -/
theorem step_call1 {ops : Array Oper} {o : Oper} {a : Act} {W : World} {K : Act → World → Prop} {Q : Exit → Act → World → Prop} {E : Prop} (hgd : o.guard = none) (c x : Operand) (ts : Array TypeId) (ho : o.op = .call { callee := .value c, args := #[x], argTypes := ts }) (f : Nat) (u : Value) (hc : a.eval c = .func (.func f) #[] #[]) (hx : a.eval x = u) (he : ∀ args w, (callFunc f args).run Try.prog w = .ok (.enter f args) w)
    {R : World → Prop} {v : Value} (h : Calls Try.prog f #[u] W fun e w' => e = .returned v ∧ R w') (hK : ∀ w', R w' → K (a.put o.dst v) w') : if Region.wanted o (yielded ops a.tmps) = true then Oper.wp Try.prog o a W K Q else E := by
  have hw : Region.wanted o (yielded ops a.tmps) = true := by simp [Region.wanted, hgd]
  rw [if_pos hw]
  unfold Oper.wp execOp
  simp only [ho, resolve, hc, hx, Deferred.ofValue, Sem.run_bind, Sem.run_pure, Result.andThen_ok, invoke, Array.append_empty, Array.empty_append, he, List.map_toArray, List.map_cons, List.map_nil]
  refine h.mono ?_
  rintro e w' ⟨rfl, hr⟩
  exact hK w' hr
end Go.Proofs.Ytgpgmndjkcpaoaa
