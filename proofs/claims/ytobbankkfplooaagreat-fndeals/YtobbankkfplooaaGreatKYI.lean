/-
  A region that draws its order, by one condition that holds behind whatever of its operations is done: each operation is looked at once, whatever the orders.
-/
import Derived.Test.YtobbankkfplooaaGreatKA0
import Derived.Orders
namespace Go.Proofs.YtobbankkfplooaaGreat.K.Inv
open Go.RowKit Go.Joins
/-- Is number k of a region's operations done? -/
def D (l : Array Bool) (k : Nat) : Bool := l.getD k false
theorem D_set (l : Array Bool) (i k : Nat) (hi : i < l.size) : D (l.setIfInBounds i true) k = if k = i then true else D l k := by
  unfold D
  by_cases h : k = i
  · subst h; simp [hi]
  · simp [h, Array.getElem?_setIfInBounds_ne (Ne.symm h)]
/-- Every operation waits only for such as stand ahead of it. -/
def rising (md : Region.Mode) (ops : Array Oper) : Bool :=
  (List.range ops.size).all fun i => ((ops[i]?).map (·.after.all fun e => !Region.binds md e || decide (e.on < i))).getD true
section
variable {P : Program} {ops : Array Oper} {Q : Exit → Act → World → Prop} {md : Region.Mode}
theorem all_done (hr : rising md ops = true) {l : Array Bool} (hl : l.size = ops.size) (h : Region.ready md ops l = []) : ∀ k, k < ops.size → D l k = true := by
  intro k
  induction k using Nat.strongRecOn with
  | ind k ih =>
    intro hk
    by_cases hd : D l k = true
    · exact hd
    · exfalso
      have hm : k ∈ Region.ready md ops l := by
        refine mem_ready.2 ⟨?_, ops[k], by simp [hk], fun e he hb => ?_⟩
        · have : l.getD k true = l.getD k false := by simp [hl, hk]
          rw [this]
          simpa [D] using hd
        · unfold rising at hr
          simp only [List.all_eq_true, List.mem_range] at hr
          have h1 := hr k hk
          simp only [Array.getElem?_eq_getElem hk, Option.map_some, Option.getD_some, Array.all_eq_true_iff_forall_mem] at h1
          have h2 := h1 e he
          simp only [hb, Bool.not_true, Bool.false_or, decide_eq_true_eq] at h2
          exact ih e.on h2 (by omega)
      rw [h] at hm
      cases hm
/-- The number of those that are not done. -/
def left (l : Array Bool) : Nat := l.toList.count false
theorem left_set (l : Array Bool) (i : Nat) (hi : i < l.size) (hf : D l i = false) : left (l.setIfInBounds i true) + 1 = left l := by
  obtain ⟨l⟩ := l
  simp only [left, List.setIfInBounds_toArray]
  simp only [D, List.size_toArray] at hi hf
  have hf' : l[i] = false := by simpa [hi] using hf
  have h1 := List.count_set (a := true) (b := false) (l := l) (i := i) hi
  have h2 : 0 < l.count false := List.count_pos_iff.2 (hf' ▸ List.getElem_mem hi)
  simp [hf'] at h1
  omega
theorem wpAny_inv {Inv : Array Bool → Act → World → Prop} (hrise : rising md ops = true)
    (hdone : ∀ l a w, (∀ k, k < ops.size → D l k = true) → Inv l a w → Q .normal a w)
    (hstep : ∀ l a w i o, l.size = ops.size → ops[i]? = some o → D l i = false → (∀ e ∈ o.after, Region.binds md e = true → D l e.on = true) → Inv l a w → wpOp P ops Q i (Inv (l.setIfInBounds i true)) a w) :
    ∀ (fuel : Nat) (l : Array Bool) (a : Act) (w : World), l.size = ops.size → left l ≤ fuel → Inv l a w → wpAny P md ops Q fuel l a w
  | 0, l, a, w, hl, hf, hI => by
    have h0 : Region.ready md ops l = [] := by
      rcases hr : Region.ready md ops l with _ | ⟨i, t⟩
      · rfl
      · exfalso
        have hm : i ∈ Region.ready md ops l := by rw [hr]; simp
        obtain ⟨h1, o, ho, -⟩ := mem_ready.1 hm
        have hi : i < l.size := by rw [hl]; exact (Array.getElem?_eq_some_iff.1 ho).1
        have h2 : D l i = false := by unfold D; simp [hi] at h1 ⊢; exact h1
        have := left_set l i hi h2
        omega
    exact ⟨h0, hdone l a w (all_done hrise hl h0) hI⟩
  | fuel + 1, l, a, w, hl, hf, hI => by
    refine ⟨fun h0 => hdone l a w (all_done hrise hl h0) hI, fun i hi => ?_⟩
    obtain ⟨h1, o, ho, hall⟩ := mem_ready.1 hi
    have hlt : i < l.size := by rw [hl]; exact (Array.getElem?_eq_some_iff.1 ho).1
    have h2 : D l i = false := by unfold D; simp [hlt] at h1 ⊢; exact h1
    have h3 := left_set l i hlt h2
    exact wpOp_mono (fun a' w' h' => wpAny_inv hrise hdone hstep fuel _ a' w' (by simp [hl]) (by omega) h') (hstep l a w i o hl ho h2 hall hI)
theorem left_none (n : Nat) : left (Array.replicate n false) = n := by simp [left]
/-- **A region that draws its order, by one condition that holds behind whatever of it is done.** -/
theorem wp_region_inv {id : Nat} {a : Act} {w : World} (Inv : Array Bool → Act → World → Prop) (hm : P.follows .mixedOrders = true) (hrise : rising .any ops = true)
    (hbegin : Inv (Array.replicate ops.size false) a { w with drawn := w.drawn + 1 })
    (hdone : ∀ l a w, (∀ k, k < ops.size → D l k = true) → Inv l a w → Q .normal a w)
    (hstep : ∀ l a w i o, l.size = ops.size → ops[i]? = some o → D l i = false → (∀ e ∈ o.after, Region.binds .any e = true → D l e.on = true) → Inv l a w → wpOp P ops Q i (Inv (l.setIfInBounds i true)) a w) :
    (Code.region id ops true).wp P Q a w :=
  wp_region_any hm (wpAny_inv hrise hdone hstep _ _ a _ (by simp) (by simp [left_none]) hbegin)
theorem wpOp_step {i : Nat} {o : Oper} {a : Act} {w : World} {K : Act → World → Prop} (hi : ops[i]? = some o)
    (h : if Region.wanted o (yielded ops a.tmps) = true then Oper.wp P o a w K Q else K (a.put o.dst undef) w) : wpOp P ops Q i K a w := by
  unfold wpOp
  simp only [hi]
  split
  · rename_i hw; rw [if_pos hw] at h; exact .inl h
  · rename_i hw; rw [if_neg hw] at h; exact h
theorem wpOp_run {i : Nat} {o : Oper} {a : Act} {w w' : World} {v : Value} {K : Act → World → Prop} (hi : ops[i]? = some o) (hg : o.guard = none)
    (h : (execOp a.eval o).run P w = .ok (.value v) w') (hK : K (a.put o.dst v) w') : wpOp P ops Q i K a w := by
  refine wpOp_step hi ?_
  rw [if_pos (by simp [Region.wanted, hg])]
  simp only [Oper.wp, h, Oper.upon]
  exact hK
theorem wpOp_skip {i : Nat} {o : Oper} {a : Act} {w w' : World} {K : Act → World → Prop} (hi : ops[i]? = some o) (hg : o.guard = none)
    (h : (execOp a.eval o).run P w = .ok .skip w') (hK : K (a.put o.dst undef) w') : wpOp P ops Q i K a w := by
  refine wpOp_step hi ?_
  rw [if_pos (by simp [Region.wanted, hg])]
  simp only [Oper.wp, h, Oper.upon]
  exact hK
end
/-- F of each of a list's operations, from number n on. -/
def Each (F : Nat → Oper → Prop) : Nat → List Oper → Prop
  | _, [] => True
  | n, o :: t => F n o ∧ Each F (n + 1) t
theorem Each.at {F : Nat → Oper → Prop} {L : List Oper} : ∀ {n : Nat}, Each F n L → ∀ {i : Nat} {o : Oper}, L[i]? = some o → F (n + i) o := by
  induction L with
  | nil => intro n _ i o ho; cases ho
  | cons x t ih =>
    intro n h i o ho
    cases i with
    | zero =>
      rw [List.getElem?_cons_zero] at ho
      obtain rfl := Option.some.inj ho
      exact h.1
    | succ i =>
      rw [List.getElem?_cons_succ] at ho
      have := ih h.2 ho
      rw [show n + 1 + i = n + (i + 1) by omega] at this
      exact this
/-- The operations that an operation waits for are done. -/
def ahead (md : Region.Mode) (o : Oper) (l : Array Bool) : Bool := o.after.all fun e => !Region.binds md e || D l e.on
/-- What each operation has to keep. -/
def Keeps (P : Program) (os : List Oper) (Q : Exit → Act → World → Prop) (Inv : Array Bool → Act → World → Prop) (i : Nat) (o : Oper) : Prop :=
  ∀ l a w, l.size = os.length → D l i = false → ahead .any o l = true → Inv l a w → wpOp P os.toArray Q i (Inv (l.setIfInBounds i true)) a w
theorem wp_region_each {P : Program} {os : List Oper} {Q : Exit → Act → World → Prop} {id : Nat} {a : Act} {w : World} (Inv : Array Bool → Act → World → Prop) (hm : P.follows .mixedOrders = true) (hrise : rising .any os.toArray = true)
    (hbegin : Inv (Array.replicate os.length false) a w.drew)
    (hdone : ∀ l a w, (∀ k, k < os.length → D l k = true) → Inv l a w → Q .normal a w)
    (hstep : Each (Keeps P os Q Inv) 0 os) :
    (Code.region id os.toArray true).wp P Q a w := by
  refine wp_region_inv Inv hm hrise ?_ ?_ ?_
  · rw [List.size_toArray]; exact hbegin
  · intro l a w h hI
    exact hdone l a w (fun k hk => h k (by rw [List.size_toArray]; exact hk)) hI
  · intro l a w i o hl ho hd ha hI
    have h : Keeps P os Q Inv (0 + i) o := Each.at (F := Keeps P os Q Inv) hstep (i := i) (o := o) (by rw [← List.getElem?_toArray]; exact ho)
    rw [Nat.zero_add] at h
    refine h l a w (by rw [hl, List.size_toArray]) hd ?_ hI
    unfold ahead
    rw [Array.all_eq_true_iff_forall_mem]
    intro e he
    cases hb : Region.binds .any e
    · rfl
    · simp [ha e he hb]
theorem wpOp_K {P : Program} {ops : Array Oper} {Q : Exit → Act → World → Prop} {i : Nat} {o : Oper} {a : Act} {w : World} {K0 : Act → World → Prop} (hi : ops[i]? = some o)
    (h : ∀ K : Act → World → Prop, (∀ a w, K0 a w → K a w) → if Region.wanted o (yielded ops a.tmps) = true then Oper.wp P o a w K Q else K (a.put o.dst undef) w) : wpOp P ops Q i K0 a w :=
  wpOp_step hi (h K0 fun _ _ h => h)
end Go.Proofs.YtobbankkfplooaaGreat.K.Inv
