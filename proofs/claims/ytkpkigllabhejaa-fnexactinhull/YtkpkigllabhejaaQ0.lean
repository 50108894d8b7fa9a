/-
  What is in a hull: what the spec asks of a Spot and what the program asks are the same.
-/
import Derived.Test.YtkpkigllabhejaaX1
import Derived.Test.YtkpkigllabhejaaA4
namespace Go.Proofs.Ytkpkigllabhejaa

def eqL : List T2 → List T2 → Bool
  | [], [] => true
  | a :: s, b :: t => eqB a b && eqL s t
  | _, _ => false
theorem eqL_t : ∀ {A B : List T2}, eqL A B = true ↔ A = B
  | [], [] => by simp [eqL]
  | [], _ :: _ => by simp [eqL]
  | _ :: _, [] => by simp [eqL]
  | a :: s, b :: t => by
    simp only [eqL, Bool.and_eq_true, eqB_t, List.cons.injEq]
    rw [eqL_t]
/-- Is it a hull, and not an empty one? -/
def okH (L : List T2) : Bool := okS L && decide (0 < L.length) && eqL (hulT L) L
theorem okH_t {L : List T2} : okH L = true ↔ (okS L = true ∧ 0 < L.length ∧ hulT L = L) := by
  simp only [okH, Bool.and_eq_true, decide_eq_true_eq, eqL_t, and_assoc]
/-- To the right of no edge. -/
def edB (L : List T2) (s : T2) : Bool := (List.range L.length).all fun i => decide (0 ≤ crT (L.getD i zro) (L.getD ((i + 1) % L.length) zro) s)
def bxB (L : List T2) (a s : T2) : Bool := holdsB (lowX L a.x) (lowY L a.y) (topX L a.x - lowX L a.x + 1) (topY L a.y - lowY L a.y + 1) s.x s.y
def inB (L : List T2) (s : T2) : Bool := okH L && s.ok && edB L s && bxB L (L.getD 0 zro) s
theorem ed_at {L : List T2} {s : T2} (h : edB L s = true) (i j : Nat) (hi : i < L.length) (hj : j < L.length) (e : (i + 1) % L.length = j) : 0 ≤ crT L[i] L[j] s := by
  have := of_decide_eq_true (List.all_eq_true.mp h i (List.mem_range.mpr hi))
  rw [e] at this
  simpa [hi, hj] using this
theorem ed_of {L : List T2} {s : T2} (h : ∀ (i j : Nat) (hi : i < L.length) (hj : j < L.length), (i + 1) % L.length = j → 0 ≤ crT L[i] L[j] s) : edB L s = true := by
  refine List.all_eq_true.mpr fun i hi => decide_eq_true ?_
  have hi := List.mem_range.mp hi
  have hj : (i + 1) % L.length < L.length := Nat.mod_lt _ (by omega)
  have := h i _ hi hj rfl
  simpa [hi, hj] using this
theorem ed_no {L : List T2} {s : T2} {i j : Nat} (hi : i < L.length) (hj : j < L.length) (e : (i + 1) % L.length = j) (h : crT L[i] L[j] s < 0) : edB L s = false := by
  refine Bool.eq_false_iff.mpr fun h2 => ?_
  have := ed_at h2 i j hi hj e
  omega
theorem low_le {f : T2 → Int} : ∀ (L : List T2) (m : Int), L.foldl (fun m c => min m (f c)) m ≤ m ∧ ∀ c ∈ L, L.foldl (fun m c => min m (f c)) m ≤ f c
  | [], m => by simp
  | a :: t, m => by
    obtain ⟨h1, h2⟩ := low_le (f := f) t (min m (f a))
    simp only [List.foldl_cons]
    refine ⟨by omega, fun c hc => ?_⟩
    rcases List.mem_cons.mp hc with rfl | hc
    · omega
    · exact h2 c hc
theorem top_ge {f : T2 → Int} : ∀ (L : List T2) (m : Int), m ≤ L.foldl (fun m c => max m (f c)) m ∧ ∀ c ∈ L, f c ≤ L.foldl (fun m c => max m (f c)) m
  | [], m => by simp
  | a :: t, m => by
    obtain ⟨h1, h2⟩ := top_ge (f := f) t (max m (f a))
    simp only [List.foldl_cons]
    refine ⟨by omega, fun c hc => ?_⟩
    rcases List.mem_cons.mp hc with rfl | hc
    · omega
    · exact h2 c hc
theorem okH_ris {L : List T2} (h : okH L = true) : Ris 1000 1 (srtT L) ∧ hullS (srtT L) = L := by
  obtain ⟨h1, _, h3⟩ := okH_t.mp h
  have e : hulT L = hullS (srtT L) := by simp [hulT, h1]
  exact ⟨okS_ris h1, e.symm.trans h3⟩
/-- Three corners or more: what is to the right of no edge is in the box. -/
theorem bx_more {L : List T2} {s : T2} (h : okH L = true) (h3 : 3 ≤ L.length) (hs : s.ok = true) (he : edB L s = true) : bxB L (L.getD 0 zro) s = true := by
  obtain ⟨hr, hM⟩ := okH_ris h
  obtain ⟨hok, hl, _⟩ := okH_t.mp h
  have far : ∀ a b : Int, ∃ c ∈ L, lin a b s ≤ lin a b c := fun a b =>
    in_ext h3 (fun i j k hi hj hk ej ek => hull_turn hr hM h3 i j k hi hj hk ej ek) (fun i j hi hj e => ed_at he i j hi hj e)
  obtain ⟨c1, m1, k1⟩ := far 1 0
  obtain ⟨c2, m2, k2⟩ := far (-1) 0
  obtain ⟨c3, m3, k3⟩ := far 0 1
  obtain ⟨c4, m4, k4⟩ := far 0 (-1)
  simp only [lin] at k1 k2 k3 k4
  have ha : L.getD 0 zro ∈ L := by rw [getD_at (show 0 < L.length by omega)]; exact List.getElem_mem _
  generalize L.getD 0 zro = a at *
  have hra := spB_t.mp (okS_all hok a ha)
  obtain ⟨b1, b2, b3, b4, b5, b6⟩ := fold_in (L := L) (okS_all hok) (a := a.x) (b := a.x) (c := a.y) (d := a.y) (by omega) (by omega) (by omega) (by omega) (by omega) (by omega)
  have l1 := (low_le (f := fun c => c.x) L a.x).2 c2 m2
  have l2 := (top_ge (f := fun c => c.x) L a.x).2 c1 m1
  have l3 := (low_le (f := fun c => c.y) L a.y).2 c4 m4
  have l4 := (top_ge (f := fun c => c.y) L a.y).2 c3 m3
  change lowX L a.x ≤ c2.x at l1
  change c1.x ≤ topX L a.x at l2
  change lowY L a.y ≤ c4.y at l3
  change c3.y ≤ topY L a.y at l4
  unfold bxB
  generalize lowX L a.x = p1 at *
  generalize lowY L a.y = p2 at *
  generalize topX L a.x = p3 at *
  generalize topY L a.y = p4 at *
  unfold holdsB inR
  rw [okB_t.mpr (by omega), show spB s.x s.y = true from hs]
  simp
  omega
theorem in_more {L : List T2} {s : T2} (h : okH L = true) (h3 : 3 ≤ L.length) (hs : s.ok = true) : inB L s = edB L s := by
  unfold inB
  rw [h, hs]
  cases he : edB L s
  · rfl
  · rw [bx_more h h3 hs he]; rfl
theorem in_one {a s : T2} (h : okH [a] = true) (hs : s.ok = true) : inB [a] s = eqB a s := by
  have ha := spB_t.mp (okS_all (okH_t.mp h).1 a (by simp))
  have hr := spB_t.mp hs
  have e1 : edB [a] s = true := by simp [edB, crT, cr]
  have e2 : bxB [a] a s = eqB a s := by
    have o : okB a.x a.y 1 1 = true := okB_t.mpr (by omega)
    simp only [bxB, lowX, lowY, topX, topY, List.foldl_cons, List.foldl_nil, Int.min_self, Int.max_self]
    rw [show a.x - a.x + 1 = 1 by omega, show a.y - a.y + 1 = 1 by omega]
    unfold holdsB inR eqB
    rw [o, show spB s.x s.y = true from hs]
    simp only [Bool.true_and]
    rw [← Bool.decide_and]
    exact decide_eq_decide.mpr (by omega)
  unfold inB
  rw [h, hs, e1, show List.getD [a] 0 zro = a from rfl, e2]; rfl
theorem in_two {a b s : T2} (h : okH [a, b] = true) (hs : s.ok = true) : inB [a, b] s = (decide (crT a b s = 0) && btwB a b s) := by
  have ha := spB_t.mp (okS_all (okH_t.mp h).1 a (by simp))
  have hb := spB_t.mp (okS_all (okH_t.mp h).1 b (by simp))
  have hr := spB_t.mp hs
  have e0 : crT b a s = - crT a b s := by unfold crT cr; grind
  have e1 : edB [a, b] s = decide (crT a b s = 0) := by
    have : edB [a, b] s = (decide (0 ≤ crT a b s) && decide (0 ≤ crT b a s)) := by simp [edB, List.range_succ]
    rw [this, e0, ← Bool.decide_and]
    exact decide_eq_decide.mpr (by omega)
  have e2 : bxB [a, b] a s = btwB a b s := by
    have o : okB (min a.x b.x) (min a.y b.y) (max a.x b.x - min a.x b.x + 1) (max a.y b.y - min a.y b.y + 1) = true := okB_t.mpr (by omega)
    simp only [bxB, lowX, lowY, topX, topY, List.foldl_cons, List.foldl_nil, Int.min_self, Int.max_self]
    unfold holdsB inR btwB
    rw [o, show spB s.x s.y = true from hs]
    simp only [Bool.true_and]
    exact decide_eq_decide.mpr (by omega)
  unfold inB
  rw [h, hs, e1, show List.getD [a, b] 0 zro = a from rfl, e2]; rfl
end Go.Proofs.Ytkpkigllabhejaa
