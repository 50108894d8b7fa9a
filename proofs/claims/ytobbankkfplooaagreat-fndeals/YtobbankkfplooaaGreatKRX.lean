/-
  The mathematics of Records: right ones, lists that rise, where one stands, one set, one cut.
-/
import Derived.Below
namespace Go.Proofs.YtobbankkfplooaaGreat.K

/-- A Record: Tenant, Id, the Spot, the Text. -/
structure Rc where
  t : Int
  i : Int
  x : Int
  y : Int
  s : ByteArray
def zrc : Rc := ⟨0, 0, 0, 0, ByteArray.empty⟩
def lessB (a b : Rc) : Bool := decide (a.t < b.t ∨ a.t = b.t ∧ a.i < b.i)
def sameK (a b : Rc) : Bool := decide (a.t = b.t ∧ a.i = b.i)
def cmpI (a b : Rc) : Int := if a.t < b.t then -1 else if b.t < a.t then 1 else if a.i < b.i then -1 else if b.i < a.i then 1 else 0
theorem lessB_iff {a b : Rc} : lessB a b = true ↔ (a.t < b.t ∨ a.t = b.t ∧ a.i < b.i) := by unfold lessB; exact decide_eq_true_iff
theorem sameK_iff {a b : Rc} : sameK a b = true ↔ (a.t = b.t ∧ a.i = b.i) := by unfold sameK; exact decide_eq_true_iff
theorem lessB_no {a b : Rc} : lessB a b = false ↔ ¬ (a.t < b.t ∨ a.t = b.t ∧ a.i < b.i) := by unfold lessB; exact decide_eq_false_iff_not
theorem sameK_no {a b : Rc} : sameK a b = false ↔ ¬ (a.t = b.t ∧ a.i = b.i) := by unfold sameK; exact decide_eq_false_iff_not
theorem cmpI_neg {a b : Rc} : cmpI a b < 0 ↔ lessB a b = true := by
  rw [lessB_iff]; unfold cmpI
  repeat' split
  all_goals omega
theorem cmpI_zero {a b : Rc} : cmpI a b = 0 ↔ sameK a b = true := by
  rw [sameK_iff]; unfold cmpI
  repeat' split
  all_goals omega
theorem cmpI_ge {a b : Rc} : 0 ≤ cmpI a b ↔ lessB a b = false := by
  rw [← Int.not_lt, cmpI_neg]; simp
theorem less_trans {a b c : Rc} (h : lessB a b = true) (k : lessB b c = true) : lessB a c = true := by
  rw [lessB_iff] at *; omega
theorem less_same {a b c : Rc} (h : lessB a b = true) (k : sameK b c = true) : lessB a c = true := by
  rw [sameK_iff] at k; rw [lessB_iff] at *; omega
theorem same_less {a b c : Rc} (h : sameK b a = true) (k : lessB b c = true) : lessB a c = true := by
  rw [sameK_iff] at h; rw [lessB_iff] at *; omega
theorem not_less_of {a b c : Rc} (h : lessB a b = true) (k : lessB a c = false) : lessB b c = false := by
  cases e : lessB b c
  · rfl
  · rw [less_trans h e] at k; cases k
theorem same_not {a b : Rc} (h : sameK a b = true) : lessB a b = false := by
  rw [sameK_iff] at h; rw [lessB_no]; omega
theorem more_of {a b : Rc} (h : lessB a b = false) (k : sameK a b = false) : lessB b a = true := by
  rw [lessB_no] at h; rw [sameK_no] at k; rw [lessB_iff]; omega
def rgB (n a b : Int) : Bool := decide (a ≤ n ∧ n ≤ b)
def szB (s : ByteArray) : Bool := decide (s.size ≤ 20)
def spotB (x y : Int) : Bool := rgB x 0 255 && rgB y 0 255
/-- Is it a right Record? -/
def recB (r : Rc) : Bool := rgB r.t 1 99 && (rgB r.i 1 100000 && (spotB r.x r.y && szB r.s))
def riseB : List Rc → Bool
  | [] => true
  | [_] => true
  | a :: b :: t => lessB a b && riseB (b :: t)
def recsB (L : List Rc) : Bool := decide (L.length ≤ 400) && (L.all recB && riseB L)
theorem rise_cons {a : Rc} {L : List Rc} (h : riseB (a :: L) = true) : riseB L = true ∧ ∀ b ∈ L, lessB a b = true := by
  induction L generalizing a with
  | nil => exact ⟨rfl, by simp⟩
  | cons c t ih =>
    simp only [riseB, Bool.and_eq_true] at h
    obtain ⟨h1, h2⟩ := ih h.2
    refine ⟨h.2, fun b hb => ?_⟩
    rcases List.mem_cons.1 hb with rfl | hb
    · exact h.1
    · exact less_trans h.1 (h2 b hb)
theorem rise_mk {a : Rc} {L : List Rc} (h : riseB L = true) (k : ∀ b ∈ L, lessB a b = true) : riseB (a :: L) = true := by
  cases L with
  | nil => rfl
  | cons c t => simp only [riseB, Bool.and_eq_true]; exact ⟨k c (by simp), h⟩
theorem rise_iff {L : List Rc} : riseB L = true ↔ L.Pairwise (fun a b => lessB a b = true) := by
  induction L with
  | nil => simp [riseB]
  | cons a t ih =>
    rw [List.pairwise_cons, ← ih]
    exact ⟨fun h => ⟨(rise_cons h).2, (rise_cons h).1⟩, fun h => rise_mk h.2 h.1⟩
theorem rise_of {L : List Rc} (h : ∀ i a b, L[i]? = some a → L[i + 1]? = some b → lessB a b = true) : riseB L = true := by
  induction L with
  | nil => rfl
  | cons a t ih =>
    have h2 := ih (fun i a b h1 h2 => h (i + 1) a b (by simpa using h1) (by simpa using h2))
    cases t with
    | nil => rfl
    | cons b u => simp only [riseB, Bool.and_eq_true]; exact ⟨h 0 a b rfl rfl, h2⟩
theorem rise_no {L : List Rc} {i : Nat} {a b : Rc} (h1 : L[i]? = some a) (h2 : L[i + 1]? = some b) (h : lessB a b = false) : riseB L = false := by
  cases e : riseB L
  · rfl
  · have hp := List.pairwise_iff_getElem.1 (rise_iff.1 e) i (i + 1) (List.getElem?_eq_some_iff.1 h1).1 (List.getElem?_eq_some_iff.1 h2).1 (by omega)
    rw [(List.getElem?_eq_some_iff.1 h1).2, (List.getElem?_eq_some_iff.1 h2).2, h] at hp
    cases hp
theorem rise_at {L : List Rc} (h : riseB L = true) {i j : Nat} {a b : Rc} (hij : i < j) (h1 : L[i]? = some a) (h2 : L[j]? = some b) : lessB a b = true := by
  have hp := List.pairwise_iff_getElem.1 (rise_iff.1 h) i j (List.getElem?_eq_some_iff.1 h1).1 (List.getElem?_eq_some_iff.1 h2).1 hij
  rwa [(List.getElem?_eq_some_iff.1 h1).2, (List.getElem?_eq_some_iff.1 h2).2] at hp
/-- How many stand ahead of q. -/
def pos : List Rc → Rc → Nat
  | [], _ => 0
  | a :: t, q => if lessB a q then pos t q + 1 else 0
theorem pos_le (L : List Rc) (q : Rc) : pos L q ≤ L.length := by
  induction L with
  | nil => simp [pos]
  | cons a t ih => simp only [pos, List.length_cons]; split <;> omega
theorem pos_lt {L : List Rc} {q a : Rc} {j : Nat} (h : j < pos L q) (ha : L[j]? = some a) : lessB a q = true := by
  induction L generalizing j with
  | nil => simp at ha
  | cons b t ih =>
    unfold pos at h
    split at h
    · cases j with
      | zero => simp at ha; subst ha; assumption
      | succ j => exact ih (j := j) (by omega) (by simpa using ha)
    · omega
theorem pos_at {L : List Rc} {q a : Rc} (ha : L[pos L q]? = some a) : lessB a q = false := by
  induction L with
  | nil => simp at ha
  | cons b t ih =>
    unfold pos at ha
    split at ha
    · exact ih (by simpa using ha)
    · rename_i hn; simp at ha; subst ha; simpa using hn
theorem pos_ge {L : List Rc} {q a : Rc} {j : Nat} (hr : riseB L = true) (h : pos L q ≤ j) (ha : L[j]? = some a) : lessB a q = false := by
  by_cases e : pos L q = j
  · subst e; exact pos_at ha
  · have hj := (List.getElem?_eq_some_iff.1 ha).1
    have h0 : pos L q < L.length := by omega
    exact not_less_of (rise_at hr (by omega) (List.getElem?_eq_getElem h0) ha) (pos_at (List.getElem?_eq_getElem h0))
theorem pos_uniq {L : List Rc} {q : Rc} {k : Nat} (hk : k ≤ L.length) (h1 : ∀ j a, j < k → L[j]? = some a → lessB a q = true) (h2 : ∀ a, L[k]? = some a → lessB a q = false) : k = pos L q := by
  have hp := pos_le L q
  rcases Nat.lt_trichotomy k (pos L q) with h | h | h
  · have hl : k < L.length := by omega
    have e := h2 _ (List.getElem?_eq_getElem hl)
    rw [pos_lt h (List.getElem?_eq_getElem hl)] at e; cases e
  · exact h
  · have hl : pos L q < L.length := by omega
    have e := h1 _ _ h (List.getElem?_eq_getElem hl)
    rw [pos_at (List.getElem?_eq_getElem hl)] at e; cases e
/-- Does one with q's Tenant and Id stand there? -/
def isAt (L : List Rc) (q : Rc) : Bool := match L[pos L q]? with | some a => sameK a q | none => false
def past (L : List Rc) (q : Rc) : Nat := if isAt L q then pos L q + 1 else pos L q
theorem isAt_lt {L : List Rc} {q : Rc} (h : isAt L q = true) : pos L q < L.length := by
  unfold isAt at h
  split at h
  · exact (List.getElem?_eq_some_iff.1 ‹_›).1
  · cases h
theorem isAt_get {L : List Rc} {q a : Rc} (h : L[pos L q]? = some a) : isAt L q = sameK a q := by unfold isAt; rw [h]
theorem isAt_none {L : List Rc} {q : Rc} (h : L[pos L q]? = none) : isAt L q = false := by unfold isAt; rw [h]
theorem past_le (L : List Rc) (q : Rc) : pos L q ≤ past L q ∧ past L q ≤ L.length := by
  have := pos_le L q
  unfold past
  split
  · have := isAt_lt ‹_›; omega
  · omega
theorem key_at {L : List Rc} {q a : Rc} {j : Nat} (hr : riseB L = true) (ha : L[j]? = some a) (hk : sameK a q = true) : j = pos L q ∧ isAt L q = true := by
  have e : j = pos L q := pos_uniq (by have := (List.getElem?_eq_some_iff.1 ha).1; omega) (fun i b hi hb => less_same (rise_at hr hi hb ha) hk) (fun b hb => by rw [ha] at hb; cases hb; exact same_not hk)
  exact ⟨e, by rw [isAt_get (a := a) (by rw [← e]; exact ha)]; exact hk⟩
theorem no_key {L : List Rc} {q a : Rc} (hr : riseB L = true) (h : isAt L q = false) (ha : a ∈ L) : sameK a q = false := by
  obtain ⟨j, hj, rfl⟩ := List.getElem_of_mem ha
  cases e : sameK L[j] q
  · rfl
  · rw [(key_at hr (List.getElem?_eq_getElem hj) e).2] at h; cases h
/-- What stands there goes, B comes. -/
def swL (L : List Rc) (q : Rc) (B : List Rc) : List Rc := L.take (pos L q) ++ B ++ L.drop (past L q)
theorem swL_len (L : List Rc) (q : Rc) (B : List Rc) : (swL L q B).length = pos L q + B.length + (L.length - past L q) := by
  have := pos_le L q
  simp [swL, Nat.min_eq_left this, Nat.add_assoc]
theorem mem_take_less {L : List Rc} {q a : Rc} (h : a ∈ L.take (pos L q)) : lessB a q = true := by
  obtain ⟨j, hj, rfl⟩ := List.getElem_of_mem h
  rw [List.length_take] at hj
  rw [List.getElem_take]
  exact pos_lt (j := j) (by omega) (List.getElem?_eq_getElem (by omega))
theorem mem_drop_more {L : List Rc} {q a : Rc} (hr : riseB L = true) (h : a ∈ L.drop (past L q)) : lessB q a = true := by
  obtain ⟨j, hj, rfl⟩ := List.getElem_of_mem h
  rw [List.length_drop] at hj
  rw [List.getElem_drop]
  have hl : past L q + j < L.length := by omega
  have hp := past_le L q
  have n1 := pos_ge hr (q := q) (j := past L q + j) (by omega) (List.getElem?_eq_getElem hl)
  refine more_of n1 ?_
  cases e : sameK L[past L q + j] q
  · rfl
  · obtain ⟨e1, e2⟩ := key_at hr (List.getElem?_eq_getElem hl) e
    unfold past at e1; rw [e2] at e1; simp at e1; omega
theorem rise_append {A B : List Rc} : riseB (A ++ B) = true ↔ riseB A = true ∧ riseB B = true ∧ ∀ a ∈ A, ∀ b ∈ B, lessB a b = true := by
  rw [rise_iff, rise_iff, rise_iff, List.pairwise_append]
theorem rise_take {L : List Rc} (h : riseB L = true) (k : Nat) : riseB (L.take k) = true := rise_iff.2 ((rise_iff.1 h).sublist (List.take_sublist ..))
theorem rise_drop {L : List Rc} (h : riseB L = true) (k : Nat) : riseB (L.drop k) = true := rise_iff.2 ((rise_iff.1 h).sublist (List.drop_sublist ..))
theorem sw_rise1 {L : List Rc} {r : Rc} (h : riseB L = true) : riseB (swL L r [r]) = true := by
  unfold swL
  rw [rise_append, rise_append]
  refine ⟨⟨rise_take h _, rfl, fun a ha b hb => by simp at hb; subst hb; exact mem_take_less ha⟩, rise_drop h _, fun a ha b hb => ?_⟩
  rcases List.mem_append.1 ha with ha | ha
  · exact less_trans (mem_take_less ha) (mem_drop_more h hb)
  · simp at ha; subst ha; exact mem_drop_more h hb
theorem sw_rise0 {L : List Rc} {q : Rc} (h : riseB L = true) : riseB (swL L q []) = true := by
  unfold swL
  rw [List.append_nil, rise_append]
  exact ⟨rise_take h _, rise_drop h _, fun a ha b hb => less_trans (mem_take_less ha) (mem_drop_more h hb)⟩
theorem sw_mem {L : List Rc} {q a : Rc} {B : List Rc} (h : a ∈ swL L q B) : a ∈ L ∨ a ∈ B := by
  unfold swL at h
  rcases List.mem_append.1 h with h | h
  · rcases List.mem_append.1 h with h | h
    · exact .inl (List.mem_of_mem_take h)
    · exact .inr h
  · exact .inl (List.mem_of_mem_drop h)
theorem sw_kept {L : List Rc} {q a : Rc} {B : List Rc} (ha : a ∈ L) (hk : sameK a q = false) : a ∈ swL L q B := by
  obtain ⟨j, hj, rfl⟩ := List.getElem_of_mem ha
  unfold swL
  by_cases h1 : j < pos L q
  · exact List.mem_append_left _ (List.mem_append_left _ (List.mem_take_iff_getElem.2 ⟨j, by omega, rfl⟩))
  · refine List.mem_append_right _ ?_
    have h2 : past L q ≤ j := by
      unfold past
      split
      · by_cases e : j = pos L q
        · exfalso
          subst e
          rename_i hi
          rw [isAt_get (List.getElem?_eq_getElem hj), hk] at hi; cases hi
        · omega
      · omega
    exact List.mem_drop_iff_getElem.2 ⟨j - past L q, by omega, by congr 1; omega⟩
theorem recs_mk {L : List Rc} : recsB L = true ↔ (L.length ≤ 400 ∧ (∀ a ∈ L, recB a = true) ∧ riseB L = true) := by
  unfold recsB
  simp only [Bool.and_eq_true, decide_eq_true_eq, List.all_eq_true]
theorem sw_ok1 {L : List Rc} {r : Rc} (h : recsB L = true) (hr : recB r = true) (hl : (swL L r [r]).length ≤ 400) : recsB (swL L r [r]) = true := by
  rw [recs_mk] at h ⊢
  refine ⟨hl, fun a ha => ?_, sw_rise1 h.2.2⟩
  rcases sw_mem ha with ha | ha
  · exact h.2.1 a ha
  · simp at ha; subst ha; exact hr
theorem sw_ok0 {L : List Rc} {q : Rc} (h : recsB L = true) : recsB (swL L q []) = true := by
  have hl := swL_len L q []
  have hp := past_le L q
  rw [recs_mk] at h ⊢
  refine ⟨by simp at hl; omega, fun a ha => ?_, sw_rise0 h.2.2⟩
  rcases sw_mem ha with ha | ha
  · exact h.2.1 a ha
  · simp at ha
theorem sw_gone {L : List Rc} {q : Rc} (hr : riseB L = true) : isAt (swL L q []) q = false := by
  cases e : isAt (swL L q []) q
  · rfl
  · exfalso
    have hl := isAt_lt e
    rw [isAt_get (List.getElem?_eq_getElem hl)] at e
    have hm : (swL L q [])[pos (swL L q []) q] ∈ swL L q [] := List.getElem_mem _
    generalize (swL L q [])[pos (swL L q []) q] = a at e hm
    unfold swL at hm
    rw [List.append_nil] at hm
    rcases List.mem_append.1 hm with hm | hm
    · have := mem_take_less hm; rw [same_not e] at this; cases this
    · have := mem_drop_more hr hm
      rw [sameK_iff] at e; rw [lessB_iff] at this; omega
/-- What the functions answer. -/
def setB (L : List Rc) (r : Rc) : Bool := recsB L && (recB r && decide ((swL L r [r]).length ≤ 400))
def setL (L : List Rc) (r : Rc) : List Rc := if recsB L then (if setB L r then swL L r [r] else L) else []
def kq (t i : Int) : Rc := ⟨t, i, 0, 0, ByteArray.empty⟩
def cutB (L : List Rc) (t i : Int) : Bool := recsB L && isAt L (kq t i)
def cutL (L : List Rc) (t i : Int) : List Rc := if recsB L then swL L (kq t i) [] else []
def ofL (L : List Rc) (t : Int) : List Rc := if recsB L then L.filter (fun a => decide (a.t = t)) else []
theorem sw_none {L : List Rc} {q : Rc} (h : isAt L q = false) : swL L q [] = L := by
  unfold swL past; rw [h]; simp
theorem sw_len1 {L : List Rc} {r : Rc} : (swL L r [r]).length = if isAt L r then L.length else L.length + 1 := by
  have hl := swL_len L r [r]
  have hp := past_le L r
  rw [hl]; unfold past at *
  split
  · have := isAt_lt ‹_›; simp at *; omega
  · simp at *; omega
theorem sw_set {L : List Rc} {r : Rc} (h : isAt L r = true) : swL L r [r] = L.set (pos L r) r := by
  have := isAt_lt h
  unfold swL past; rw [h, List.set_eq_take_append_cons_drop, if_pos this]; simp
end Go.Proofs.YtobbankkfplooaaGreat.K
