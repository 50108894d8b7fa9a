/-
  The mathematics of rows of four, further: boxes that are right, Nodes in memory.
-/
import Derived.Test.YtipfcmfcdfofmaaGreatM8
import Derived.Test.YtipfcmfcdfofmaaGreatF8
namespace Go.Proofs.YtipfcmfcdfofmaaGreat
open Go.RowKit Go.Joins

theorem boxL_ok {l : List T4} (h : l ≠ []) (hl : ∀ t ∈ l, t.ok = true) : (boxL l).ok = true := by
  unfold boxL
  cases l with
  | nil => exact absurd rfl h
  | cons a t => exact boxF_ok (hl a (List.mem_cons_self ..)) hl
theorem four_len {α : Type} (l : List α) (fr j : Nat) : (four l fr j).length = min 4 (l.length - (fr + 4 * j)) := by simp [four]
theorem four_mem {α : Type} {l : List α} {fr j : Nat} {a : α} (h : a ∈ four l fr j) : a ∈ l := List.mem_of_mem_drop (List.mem_of_mem_take h)
theorem four_map {α β : Type} (f : α → β) (l : List α) (fr j : Nat) : (four l fr j).map f = four (l.map f) fr j := by simp [four, List.map_take, List.map_drop]
theorem cnt_lt {n j : Nat} (h : j < cnt n) : 4 * j < n := by unfold cnt at h; omega
theorem leafN_ok {c : List Mk} (h : c ≠ []) (hc : ∀ m ∈ c, spB m.x m.y = true) : (leafN c).b.ok = true := by
  refine boxL_ok (by simpa using h) fun t ht => ?_
  obtain ⟨m, hm, rfl⟩ := List.mem_map.mp ht
  exact uni_ok (hc m hm)
theorem leafs_ok {S : List Mk} (hc : ∀ m ∈ S, spB m.x m.y = true) : ∀ nd ∈ leafs S, nd.b.ok = true := fun nd hnd => by
  simp only [leafs, List.mem_map, List.mem_range] at hnd
  obtain ⟨j, hj, rfl⟩ := hnd
  refine leafN_ok (fun e => ?_) fun m hm => hc m (four_mem hm)
  have := four_len S 0 j
  rw [e] at this
  have := cnt_lt hj
  simp at *; omega
theorem forkN_ok {c : List Nd} {fr : Nat} (h : c ≠ []) (hc : ∀ nd ∈ c, nd.b.ok = true) : (forkN fr c).b.ok = true := by
  refine boxL_ok (by simpa using h) fun t ht => ?_
  obtain ⟨m, hm, rfl⟩ := List.mem_map.mp ht
  exact hc m hm
theorem rowUp_ok {ns : List Nd} {fr : Nat} (hc : ∀ nd ∈ ns, nd.b.ok = true) : ∀ nd ∈ rowUp ns fr, nd.b.ok = true := fun nd hnd => by
  simp only [rowUp, List.mem_map, List.mem_range] at hnd
  obtain ⟨j, hj, rfl⟩ := hnd
  refine forkN_ok (fun e => ?_) fun m hm => hc m (four_mem hm)
  have := four_len ns fr j
  rw [e] at this
  have := cnt_lt hj
  simp at *; omega
theorem getD_leafs {S : List Mk} {k : Nat} (h : k < cnt S.length) : (leafs S).getD k znd = leafN (four S 0 k) := by simp [leafs, List.getD, h]
theorem getD_rowUp {ns : List Nd} {fr k : Nat} (h : k < cnt (ns.length - fr)) : (rowUp ns fr).getD k znd = forkN (fr + 4 * k) (four ns fr k) := by simp [rowUp, List.getD, h]
theorem forkN_ps (fr : Nat) (c : List Nd) : (forkN fr c).ps = upto fr c.length := by simp [forkN, upto]
theorem CsG.four {α : Type} {K : Kd α} {w : World} {g : Nat} {L : List α} (h : CsG K w g 0 L) (fr j : Nat) : CsG K w g ((fr + 4 * j) * K.n) (YtipfcmfcdfofmaaGreat.four L fr j) := by
  have := (h.drop (fr + 4 * j)).take 4
  rw [Nat.zero_add] at this
  exact this

/-- A leaf's Node, of the j-th four of a sorted row. -/
theorem leaf_at {w : World} {g m : Nat} {S : List Mk} (hS : S.length = m) (hok : ∀ c ∈ S, spB c.x c.y = true) (hC : CsG kM w g 0 S) {k : Nat} (hk : k < cnt m) :
    Calls Tryz.prog 171 #[chV g 0 3 m k] w fun e w' => ∃ q c, e = .returned (.agg #[.int .i64 ((leafs S).getD k znd).b.x, .int .i64 ((leafs S).getD k znd).b.y, .int .i64 ((leafs S).getD k znd).b.w, .int .i64 ((leafs S).getD k znd).b.h, .bool ((leafs S).getD k znd).lf, .slice q ((leafs S).getD k znd).ps.length c]) ∧ Sg w w' [rG kI (.slice q ((leafs S).getD k znd).ps.length c) ((leafs S).getD k znd).ps] := by
  have h4 := cnt_lt hk
  have hl := four_len S 0 k
  rw [hS, Nat.zero_add] at hl
  have hps : (leafN (four S 0 k)).ps.length = min 4 (m - 4 * k) := by simp [leafN, hl]
  rw [getD_leafs (by rw [hS]; exact hk), hps]
  have := leafNode_any (some ⟨g, 0 + 4 * k * 3, none⟩) (min 4 (m - 4 * k)) (four S 0 k) (min 4 (m - 4 * k)) hl (by omega) (by omega) w (.inr ⟨g, 0 + 4 * k * 3, rfl, by have := hC.four 0 k; rw [Nat.zero_add] at this ⊢; exact this⟩) (fun c hc => hok c (four_mem hc)) (b := (leafN (four S 0 k)).b) rfl (V := (leafN (four S 0 k)).ps) rfl
  exact this
theorem fork_at {w : World} {g fr r : Nat} {NL : List (Nd × Sv)} {ns : List Nd} (hNL : NL.map Prod.fst = ns) (hl : NL.length = fr + r) (hr : r ≤ 1000) (hfr : fr ≤ 1000) (hok : ∀ nd ∈ ns, nd.b.ok = true) (hC : CsG kN w g 0 NL) {k : Nat} (hk : k < cnt r) :
    Calls Tryz.prog 174 #[.agg #[.int .i64 ((fr + 4 * k : Nat) : Int), chV g (0 + fr * 6) 6 r k]] w fun e w' => ∃ q c, e = .returned (.agg #[.int .i64 ((rowUp ns fr).getD k znd).b.x, .int .i64 ((rowUp ns fr).getD k znd).b.y, .int .i64 ((rowUp ns fr).getD k znd).b.w, .int .i64 ((rowUp ns fr).getD k znd).b.h, .bool ((rowUp ns fr).getD k znd).lf, .slice q ((rowUp ns fr).getD k znd).ps.length c]) ∧ Sg w w' [rG kI (.slice q ((rowUp ns fr).getD k znd).ps.length c) ((rowUp ns fr).getD k znd).ps] := by
  have h4 := cnt_lt hk
  have hns : ns.length = fr + r := by rw [← hNL]; simpa using hl
  have hlc := four_len NL fr k
  have e0 : fr + r - (fr + 4 * k) = r - 4 * k := by omega
  rw [hl, e0] at hlc
  have hfm : (four NL fr k).map Prod.fst = four ns fr k := by rw [four_map, hNL]
  have hlc2 : (four ns fr k).length = min 4 (r - 4 * k) := by rw [← hfm]; simpa using hlc
  rw [getD_rowUp (by rw [hns]; rwa [show fr + r - fr = r by omega])]
  have hps : (forkN (fr + 4 * k) (four ns fr k)).ps = upto (fr + 4 * k) (min 4 (r - 4 * k)) := by rw [forkN_ps, hlc2]
  have hpl : (forkN (fr + 4 * k) (four ns fr k)).ps.length = min 4 (r - 4 * k) := by rw [hps, upto_len]
  rw [hpl, hps]
  refine forkNode_any (fr + 4 * k) (some ⟨g, 0 + fr * 6 + 4 * k * 6, none⟩) (min 4 (r - 4 * k)) (four NL fr k) (min 4 (r - 4 * k)) hlc (by omega) (by omega) (by omega) w (.inr ⟨g, 0 + fr * 6 + 4 * k * 6, rfl, ?_⟩) (fun c hc => hok c.1 (by rw [← hNL]; exact List.mem_map_of_mem (four_mem hc))) (b := (forkN (fr + 4 * k) (four ns fr k)).b) ?_
  · have := hC.four fr k
    have e : (fr + 4 * k) * kN.n = 0 + fr * 6 + 4 * k * 6 := by show (fr + 4 * k) * 6 = _; omega
    rw [e] at this; exact this
  · show boxL _ = boxL ((four ns fr k).map Nd.b)
    rw [← hfm, List.map_map]; rfl
end Go.Proofs.YtipfcmfcdfofmaaGreat
