/-
  The mathematics of trees: what Marks are, their order, rows of four, the Nodes above them.
-/
import Derived.Test.YtipfcmfcdfofmaaGreatW2
namespace Go.Proofs.YtipfcmfcdfofmaaGreat

structure T4 where
  x : Int
  y : Int
  w : Int
  h : Int
structure T2 where
  x : Int
  y : Int
def T4.ok (c : T4) : Bool := okB c.x c.y c.w c.h

structure Mk where
  i : Int
  x : Int
  y : Int
def zmk : Mk := ⟨0, 0, 0⟩
/-- What Marks are: numbers that rise from above last on, and Spots. -/
def mkR (last : Int) : List Mk → Bool
  | [] => true
  | m :: t => (decide (last < m.i ∧ m.i ≤ 100000) && spB m.x m.y) && mkR m.i t
def mksB (L : List Mk) : Bool := decide (L.length ≤ 60) && mkR 0 L
theorem mkR_all : ∀ {L : List Mk} {last : Int}, mkR last L = true → (∀ m ∈ L, last < m.i ∧ m.i ≤ 100000 ∧ spB m.x m.y = true) ∧ L.Pairwise (fun a b => a.i < b.i)
  | [], last, _ => ⟨by simp, .nil⟩
  | m :: t, last, h => by
    simp only [mkR, Bool.and_eq_true, decide_eq_true_eq] at h
    obtain ⟨⟨⟨h1, h2⟩, h3⟩, h4⟩ := h
    obtain ⟨a, b⟩ := mkR_all h4
    refine ⟨fun c hc => ?_, .cons (fun c hc => (a c hc).1) b⟩
    rcases List.mem_cons.mp hc with rfl | hc
    · exact ⟨h1, h2, h3⟩
    · have := a c hc; exact ⟨by omega, this.2.1, this.2.2⟩
def lastI (L : List Mk) : Nat → Int
  | 0 => 0
  | k + 1 => (L.getD k zmk).i
theorem getD_drop {L : List Mk} {k : Nat} (h : k < L.length) : L.drop k = L.getD k zmk :: L.drop (k + 1) := by
  rw [List.drop_eq_getElem_cons h]; simp [List.getD, h]
theorem mkR_step {L : List Mk} {k : Nat} (h : k < L.length) : mkR (lastI L k) (L.drop k) = ((decide (lastI L k < (L.getD k zmk).i ∧ (L.getD k zmk).i ≤ 100000) && spB (L.getD k zmk).x (L.getD k zmk).y) && mkR (lastI L (k + 1)) (L.drop (k + 1))) := by
  rw [getD_drop h]; rfl

section
variable (f : Mk → Int)
def insM (m : Mk) : List Mk → List Mk
  | [] => [m]
  | a :: t => if f a ≤ f m then a :: insM m t else m :: a :: t
def srtM (L : List Mk) : List Mk := L.foldl (fun acc m => insM f m acc) []
def ltM (a b : Mk) : Prop := f a < f b ∨ f a = f b ∧ a.i < b.i
def headM (m : Mk) : List Mk → Nat
  | [] => 0
  | a :: t => if f a ≤ f m then headM m t + 1 else 0
variable {f}
theorem headM_le (m : Mk) : ∀ l : List Mk, headM f m l ≤ l.length
  | [] => Nat.le_refl _
  | a :: t => by have := headM_le m t; unfold headM; split <;> simp; omega
theorem insM_cut (m : Mk) : ∀ l : List Mk, insM f m l = l.take (headM f m l) ++ m :: l.drop (headM f m l)
  | [] => rfl
  | a :: t => by
    unfold insM headM
    split
    · rw [insM_cut m t]; rfl
    · rfl
theorem headM_lt (m : Mk) : ∀ (l : List Mk) (k : Nat), k < headM f m l → f (l.getD k zmk) ≤ f m
  | [], k, h => by simp [headM] at h
  | a :: t, k, h => by
    unfold headM at h
    split at h
    · cases k with
      | zero => simpa
      | succ k => have := headM_lt m t k (by omega); simpa using this
    · omega
theorem headM_at (m : Mk) : ∀ (l : List Mk), headM f m l < l.length → ¬ f (l.getD (headM f m l) zmk) ≤ f m
  | [], h => by simp [headM] at h
  | a :: t, h => by
    unfold headM at h ⊢
    split
    · rename_i h1
      rw [if_pos h1] at h
      have := headM_at m t (by simpa using h)
      simpa using this
    · simp; omega
theorem headM_is {m : Mk} {l : List Mk} {k : Nat} (h1 : k ≤ l.length) (h2 : ∀ j, j < k → f (l.getD j zmk) ≤ f m) (h3 : k < l.length → ¬ f (l.getD k zmk) ≤ f m) : k = headM f m l := by
  have a := headM_le (f := f) m l
  by_cases c : k < headM f m l
  · exact absurd (headM_lt m l k c) (h3 (by omega))
  · by_cases d : headM f m l < k
    · exact absurd (h2 _ d) (headM_at m l (by omega))
    · omega
theorem insM_perm (m : Mk) : ∀ l : List Mk, (insM f m l).Perm (m :: l)
  | [] => .refl _
  | a :: t => by
    unfold insM
    split
    · exact ((insM_perm m t).cons a).trans (.swap m a t)
    · exact .refl _
theorem insM_pair {m : Mk} : ∀ {l : List Mk}, l.Pairwise (ltM f) → (∀ a ∈ l, a.i < m.i) → (insM f m l).Pairwise (ltM f)
  | [], _, _ => by simp [insM]
  | a :: t, h, hi => by
    obtain ⟨h1, h2⟩ := List.pairwise_cons.mp h
    unfold insM
    split
    · rename_i hle
      refine .cons (fun b hb => ?_) (insM_pair h2 fun c hc => hi c (List.mem_cons_of_mem _ hc))
      rcases List.mem_cons.mp ((insM_perm m t).mem_iff.mp hb) with rfl | hb
      · have := hi a (List.mem_cons_self ..); unfold ltM; omega
      · exact h1 b hb
    · rename_i hle
      refine .cons (fun b hb => ?_) h
      rcases List.mem_cons.mp hb with rfl | hb
      · unfold ltM; omega
      · have := h1 b hb; unfold ltM at this ⊢; omega
theorem foldM_perm : ∀ (L acc : List Mk), (L.foldl (fun acc m => insM f m acc) acc).Perm (acc ++ L)
  | [], acc => by simp
  | m :: t, acc => by
    refine (foldM_perm t _).trans ?_
    exact ((insM_perm m acc).append_right t).trans (List.perm_middle.symm)
theorem foldM_pair : ∀ (L acc : List Mk), L.Pairwise (fun a b => a.i < b.i) → acc.Pairwise (ltM f) → (∀ a ∈ acc, ∀ b ∈ L, a.i < b.i) → (L.foldl (fun acc m => insM f m acc) acc).Pairwise (ltM f)
  | [], acc, _, h, _ => h
  | m :: t, acc, hL, h, hb => by
    obtain ⟨h1, h2⟩ := List.pairwise_cons.mp hL
    refine foldM_pair t _ h2 (insM_pair h fun a ha => hb a ha m (List.mem_cons_self ..)) fun a ha b hbt => ?_
    rcases List.mem_cons.mp ((insM_perm m acc).mem_iff.mp ha) with rfl | ha
    · exact h1 b hbt
    · exact hb a ha b (List.mem_cons_of_mem _ hbt)
theorem srtM_perm (L : List Mk) : (srtM f L).Perm L := by have := foldM_perm (f := f) L []; simpa [srtM] using this
theorem srtM_pair {L : List Mk} (h : L.Pairwise (fun a b => a.i < b.i)) : (srtM f L).Pairwise (ltM f) := foldM_pair L [] h .nil (by simp)
theorem srtM_len (L : List Mk) : (srtM f L).length = L.length := (srtM_perm L).length_eq
theorem srtM_take {L : List Mk} {k : Nat} (h : k < L.length) : srtM f (L.take (k + 1)) = insM f (L.getD k zmk) (srtM f (L.take k)) := by
  unfold srtM
  rw [List.take_succ_eq_append_getElem h, List.foldl_append]; simp [List.getD, h]
theorem id_uniq {L : List Mk} (h : L.Pairwise (fun a b => a.i < b.i)) {a b : Mk} (ha : a ∈ L) (hb : b ∈ L) (e : a.i = b.i) : a = b := by
  induction h with
  | nil => simp at ha
  | cons h1 h2 ih =>
    rcases List.mem_cons.mp ha with ha' | ha'
    · rcases List.mem_cons.mp hb with hb' | hb'
      · rw [ha', hb']
      · have := h1 b hb'; rw [← ha'] at this; omega
    · rcases List.mem_cons.mp hb with hb' | hb'
      · have := h1 a ha'; rw [← hb'] at this; omega
      · exact ih ha' hb'
theorem srt_uniq {S L : List Mk} (h : L.Pairwise (fun a b => a.i < b.i)) (hp : S.Perm L) (hs : S.Pairwise (fun a b => ¬ ltM f b a)) : S = srtM f L := by
  refine List.Perm.eq_of_pairwise (le := fun a b => ¬ ltM f b a) (fun a b ha hb h1 h2 => ?_) hs ((srtM_pair h).imp fun {a b} hab => ?_) (hp.trans (srtM_perm L).symm)
  · refine id_uniq h (hp.mem_iff.mp ha) ((srtM_perm L).mem_iff.mp hb) ?_
    unfold ltM at h1 h2; omega
  · unfold ltM at hab ⊢; omega
end

/-- A box around two. -/
def aro (a b : T4) : T4 := ⟨min a.x b.x, min a.y b.y, uW a.x a.w b.x b.w, uW a.y a.h b.y b.h⟩
def uni (m : Mk) : T4 := ⟨m.x, m.y, 1, 1⟩
theorem aro_self (a : T4) : aro a a = a := by cases a; simp [aro, uW]; omega
theorem aro_ok {a b : T4} (ha : a.ok = true) (hb : b.ok = true) : (aro a b).ok = true := by
  have h1 := okB_t.mp ha; have h2 := okB_t.mp hb
  exact okB_t.mpr (by simp only [aro, uW]; omega)
theorem uni_ok {m : Mk} (h : spB m.x m.y = true) : (uni m).ok = true := by
  have := spB_t.mp h; exact okB_t.mpr (by simp only [uni]; omega)
def zt4 : T4 := ⟨0, 0, 0, 0⟩
/-- The box around all of a list, from a first box on. -/
def boxF (b : T4) (l : List T4) : T4 := l.foldl aro b
theorem boxF_ok : ∀ {l : List T4} {b : T4}, b.ok = true → (∀ c ∈ l, c.ok = true) → (boxF b l).ok = true
  | [], _, h, _ => h
  | c :: t, _, h, hl => boxF_ok (l := t) (aro_ok h (hl c (List.mem_cons_self ..))) fun d hd => hl d (List.mem_cons_of_mem _ hd)
def boxL (l : List T4) : T4 := boxF (l.getD 0 zt4) l

structure Nd where
  b : T4
  lf : Bool
  ps : List Int
def znd : Nd := ⟨zt4, false, []⟩
/-- How many rows of four n make. -/
def cnt (n : Nat) : Nat := (n + 3) / 4
def four {α : Type} (l : List α) (from_ : Nat) (j : Nat) : List α := (l.drop (from_ + 4 * j)).take 4
def leafN (c : List Mk) : Nd := ⟨boxL (c.map uni), true, c.map Mk.i⟩
def forkN (from_ : Nat) (c : List Nd) : Nd := ⟨boxL (c.map Nd.b), false, (List.range c.length).map fun k => ((from_ + k : Nat) : Int)⟩
def leafs (S : List Mk) : List Nd := (List.range (cnt S.length)).map fun j => leafN (four S 0 j)
def rowUp (ns : List Nd) (from_ : Nat) : List Nd := (List.range (cnt (ns.length - from_))).map fun j => forkN (from_ + 4 * j) (four ns from_ j)
theorem leafs_len (S : List Mk) : (leafs S).length = cnt S.length := by simp [leafs]
theorem rowUp_len (ns : List Nd) (k : Nat) : (rowUp ns k).length = cnt (ns.length - k) := by simp [rowUp]
def growF : Nat → List Nd → Nat → List Nd
  | 0, ns, _ => ns
  | d + 1, ns, from_ => if ns.length - from_ ≤ 1 then ns else growF d (ns ++ rowUp ns from_) ns.length
theorem growF_more : ∀ (d : Nat) (ns : List Nd) (k : Nat), ns.length - k ≤ d → growF (d + 1) ns k = growF d ns k
  | 0, ns, k, h => by rw [growF, growF, if_pos (by omega)]
  | d + 1, ns, k, h => by
    by_cases h1 : ns.length - k ≤ 1
    · rw [growF, if_pos h1, growF, if_pos h1]
    · have e := growF_more d (ns ++ rowUp ns k) ns.length (by rw [List.length_append, rowUp_len]; unfold cnt; omega)
      rw [growF, if_neg h1, e, growF, if_neg h1]
theorem growF_any {d e : Nat} (h : e ≤ d) (ns : List Nd) (k : Nat) (hk : ns.length - k ≤ e) : growF d ns k = growF e ns k := by
  induction d with
  | zero => obtain rfl : e = 0 := by omega
            rfl
  | succ d ih =>
    by_cases e1 : e = d + 1
    · rw [e1]
    · rw [growF_more d ns k (by omega), ih (by omega)]
def grow (ns : List Nd) (from_ : Nat) : List Nd := growF (ns.length - from_) ns from_
theorem grow_end {ns : List Nd} {k : Nat} (h : ns.length - k ≤ 1) : grow ns k = ns := by
  unfold grow
  rw [← growF_more _ ns k (Nat.le_refl _), growF, if_pos h]
theorem grow_on {ns : List Nd} {k : Nat} (h : ¬ ns.length - k ≤ 1) : grow ns k = grow (ns ++ rowUp ns k) ns.length := by
  unfold grow
  rw [← growF_more _ ns k (Nat.le_refl _), growF, if_neg h]
  exact growF_any (by rw [List.length_append, rowUp_len]; unfold cnt; omega) _ _ (Nat.le_refl _)
def nodesOf (S : List Mk) : List Nd := grow (leafs S) 0
end Go.Proofs.YtipfcmfcdfofmaaGreat
