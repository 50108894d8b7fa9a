/-
  The mathematics of Items: right ones, which comes first by Id, no two with one Id; the Ids, sorted; the Spots that are touched.
-/
import Derived.Test.YtobbankkfplooaaGreatKB2
namespace Go.Proofs.YtobbankkfplooaaGreat.K.I

def lessB (a b : Rc) : Bool := decide (a.i < b.i)
def cmpI (a b : Rc) : Int := cmpZ a.i b.i
theorem lessB_iff {a b : Rc} : lessB a b = true ↔ a.i < b.i := by unfold lessB; exact decide_eq_true_iff
theorem lessB_no {a b : Rc} : lessB a b = false ↔ ¬ a.i < b.i := by unfold lessB; exact decide_eq_false_iff_not
theorem cmpI_neg {a b : Rc} : cmpI a b < 0 ↔ lessB a b = true := by
  rw [lessB_iff]; unfold cmpI cmpZ
  repeat' split
  all_goals omega
theorem cmpI_ge {a b : Rc} : 0 ≤ cmpI a b ↔ lessB a b = false := by
  rw [← Int.not_lt, cmpI_neg]; simp
theorem less_trans {a b c : Rc} (h : lessB a b = true) (k : lessB b c = true) : lessB a c = true := by
  rw [lessB_iff] at *; omega
def riseB : List Rc → Bool
  | [] => true
  | [_] => true
  | a :: b :: t => lessB a b && riseB (b :: t)
theorem rise_cons {a : Rc} {L : List Rc} (h : riseB (a :: L) = true) : riseB L = true ∧ ∀ b ∈ L, lessB a b = true := by
  induction L generalizing a with
  | nil => exact ⟨rfl, by simp⟩
  | cons c t ih =>
    simp only [riseB, Bool.and_eq_true] at h
    obtain ⟨h1, h2⟩ := ih h.2
    refine ⟨h.2, fun b hb => ?_⟩
    rcases List.mem_cons.1 hb with rfl | hb
    · exact h.1
    · exact less_trans h.1 (h2 b hb)
theorem rise_mk {a : Rc} {L : List Rc} (h : riseB L = true) (k : ∀ b ∈ L, lessB a b = true) : riseB (a :: L) = true := by
  cases L with
  | nil => rfl
  | cons c t => simp only [riseB, Bool.and_eq_true]; exact ⟨k c (by simp), h⟩
theorem rise_iff {L : List Rc} : riseB L = true ↔ L.Pairwise (fun a b => lessB a b = true) := by
  induction L with
  | nil => simp [riseB]
  | cons a t ih =>
    rw [List.pairwise_cons, ← ih]
    exact ⟨fun h => ⟨(rise_cons h).2, (rise_cons h).1⟩, fun h => rise_mk h.2 h.1⟩
theorem rise_of {L : List Rc} (h : ∀ i a b, L[i]? = some a → L[i + 1]? = some b → lessB a b = true) : riseB L = true := by
  induction L with
  | nil => rfl
  | cons a t ih =>
    have h2 := ih (fun i a b h1 h2 => h (i + 1) a b (by simpa using h1) (by simpa using h2))
    cases t with
    | nil => rfl
    | cons b u => simp only [riseB, Bool.and_eq_true]; exact ⟨h 0 a b rfl rfl, h2⟩
theorem rise_no {L : List Rc} {i : Nat} {a b : Rc} (h1 : L[i]? = some a) (h2 : L[i + 1]? = some b) (h : lessB a b = false) : riseB L = false := by
  cases e : riseB L
  · rfl
  · have hp := List.pairwise_iff_getElem.1 (rise_iff.1 e) i (i + 1) (List.getElem?_eq_some_iff.1 h1).1 (List.getElem?_eq_some_iff.1 h2).1 (by omega)
    rw [(List.getElem?_eq_some_iff.1 h1).2, (List.getElem?_eq_some_iff.1 h2).2, h] at hp
    cases hp
/-- Is it a right Item? -/
def recB (r : Rc) : Bool := rgB r.i 1 100000 && (if r.t = 1 then spotB r.x r.y && szB r.s else if r.t = 2 then decide (r.x = 0 ∧ r.y = 0 ∧ r.s = ByteArray.empty) else false)
/-- No two with one Id. -/
def oneB (L : List Rc) : Bool := decide (L.Pairwise fun a b => a.i ≠ b.i)
def itsB (L : List Rc) : Bool := decide (1 ≤ L.length) && (decide (L.length ≤ 6) && (L.all recB && oneB L))
/-- A sorted list rises where no two have one Id. -/
theorem rise_one {S L : List Rc} (hp : S.Perm L) (hs : S.Pairwise fun a b => ¬ lessB b a = true) : riseB S = oneB L := by
  have e1 : oneB L = oneB S := by
    unfold oneB
    exact decide_eq_decide.mpr (hp.symm.pairwise_iff (fun h => fun e => h e.symm))
  rw [e1]
  cases e : oneB S
  · rw [Bool.eq_false_iff]
    intro h
    have h2 : S.Pairwise fun a b => a.i ≠ b.i := (rise_iff.1 h).imp (fun h => by rw [lessB_iff] at h; omega)
    rw [oneB, decide_eq_false_iff_not] at e
    exact e h2
  · rw [oneB, decide_eq_true_iff] at e
    rw [rise_iff]
    refine (hs.and e).imp (fun {a b} h => ?_)
    rw [lessB_iff] at *
    have := h.1; have := h.2; omega
theorem its_mk {L : List Rc} : itsB L = true ↔ (1 ≤ L.length ∧ L.length ≤ 6 ∧ (∀ a ∈ L, recB a = true) ∧ oneB L = true) := by
  unfold itsB
  simp only [Bool.and_eq_true, decide_eq_true_eq, List.all_eq_true]
/-- The Batch: Tenant, Seq, Items. -/
def batB (t s : Int) (L : List Rc) : Bool := (rgB t 1 99 && rgB s 1 100000) && itsB L
/-- Numbers that rise, and one put among them. -/
def putI : List Int → Int → List Int
  | [], z => [z]
  | a :: t, z => if a < z then a :: putI t z else if a = z then a :: t else z :: a :: t
def rsI (L : List Int) : Prop := L.Pairwise (fun a b => a < b)
theorem putI_mem {L : List Int} {z x : Int} : x ∈ putI L z ↔ x = z ∨ x ∈ L := by
  induction L with
  | nil => simp [putI]
  | cons a t ih =>
    unfold putI
    split
    · simp only [List.mem_cons, ih]; grind
    · split
      · rename_i h; subst h; simp only [List.mem_cons]; grind
      · simp only [List.mem_cons]
theorem putI_rs {L : List Int} {z : Int} (h : rsI L) : rsI (putI L z) := by
  unfold rsI at *
  induction L with
  | nil => simp [putI]
  | cons a t ih =>
    obtain ⟨h1, h2⟩ := List.pairwise_cons.1 h
    unfold putI
    split
    · refine List.pairwise_cons.2 ⟨fun x hx => ?_, ih h2⟩
      rcases putI_mem.1 hx with rfl | hx
      · assumption
      · exact h1 x hx
    · split
      · exact h
      · refine List.pairwise_cons.2 ⟨fun x hx => ?_, h⟩
        rcases List.mem_cons.1 hx with rfl | hx
        · omega
        · have := h1 x hx; omega
theorem rsI_uniq {A B : List Int} (hA : rsI A) (hB : rsI B) (h : ∀ x, x ∈ A ↔ x ∈ B) : A = B := by
  unfold rsI at *
  induction A generalizing B with
  | nil =>
    cases B with
    | nil => rfl
    | cons b t => have := (h b).2 (by simp); simp at this
  | cons a t ih =>
    cases B with
    | nil => have := (h a).1 (by simp); simp at this
    | cons b u =>
      obtain ⟨a1, a2⟩ := List.pairwise_cons.1 hA
      obtain ⟨b1, b2⟩ := List.pairwise_cons.1 hB
      have hab : a = b := by
        have x1 := (h a).1 (by simp)
        have x2 := (h b).2 (by simp)
        rcases List.mem_cons.1 x1 with e | e
        · exact e
        · rcases List.mem_cons.1 x2 with e2 | e2
          · exact e2.symm
          · have := b1 a e; have := a1 b e2; omega
      subst hab
      congr 1
      refine ih a2 b2 (fun x => ⟨fun hx => ?_, fun hx => ?_⟩)
      · rcases List.mem_cons.1 ((h x).1 (List.mem_cons_of_mem _ hx)) with e | e
        · have := a1 x hx; omega
        · exact e
      · rcases List.mem_cons.1 ((h x).2 (List.mem_cons_of_mem _ hx)) with e | e
        · have := b1 x hx; omega
        · exact e
/-- The Ids of Items, rising. -/
def idsF (L : List Rc) : List Int := L.foldl (fun A r => putI A r.i) []
def idsL (t s : Int) (L : List Rc) : List Int := if batB t s L then idsF L else []
theorem idsF_gen {L : List Rc} {A : List Int} (h : rsI A) : rsI (L.foldl (fun A r => putI A r.i) A) ∧ ∀ x, x ∈ L.foldl (fun A r => putI A r.i) A ↔ x ∈ A ∨ ∃ r ∈ L, r.i = x := by
  induction L generalizing A with
  | nil => simp [h]
  | cons a t ih =>
    obtain ⟨h1, h2⟩ := ih (putI_rs (z := a.i) h)
    refine ⟨h1, fun x => ?_⟩
    rw [List.foldl_cons, h2, putI_mem]
    simp only [List.mem_cons, exists_eq_or_imp]
    constructor
    · rintro ((rfl | h) | h)
      · exact .inr (.inl rfl)
      · exact .inl h
      · exact .inr (.inr h)
    · rintro (h | (rfl | h))
      · exact .inl (.inr h)
      · exact .inl (.inl rfl)
      · exact .inr h
theorem idsF_take {L : List Rc} {k : Nat} (hk : k < L.length) : idsF (L.take (k + 1)) = putI (idsF (L.take k)) L[k].i := by
  unfold idsF
  rw [List.take_succ_eq_append_getElem hk, List.foldl_append]; rfl
theorem putI_len (L : List Int) (z : Int) : (putI L z).length ≤ L.length + 1 := by
  induction L with
  | nil => simp [putI]
  | cons a t ih => unfold putI; split <;> (try split) <;> simp <;> omega
theorem ids_sorted {S L : List Rc} (hp : S.Perm L) (h : riseB S = true) : S.map (·.i) = idsF L := by
  have g := idsF_gen (L := L) (A := []) List.Pairwise.nil
  refine rsI_uniq ?_ g.1 (fun x => ?_)
  · unfold rsI; rw [List.pairwise_map]; exact (rise_iff.1 h).imp (fun h => lessB_iff.1 h)
  · have := g.2 x
    rw [show idsF L = L.foldl (fun A r => putI A r.i) [] from rfl, this]
    simp only [List.mem_map, List.not_mem_nil, false_or]
    exact ⟨fun ⟨r, hr, e⟩ => ⟨r, hp.mem_iff.1 hr, e⟩, fun ⟨r, hr, e⟩ => ⟨r, hp.mem_iff.2 hr, e⟩⟩
/-- The Spots that an Item touches. -/
def spI (L : List Rc) (t : Int) (r : Rc) : List (Int × Int) := (if r.t = 1 then [(r.x, r.y)] else []) ++ ((L.take (past L (kq t r.i))).drop (pos L (kq t r.i))).map (fun a => (a.x, a.y))
def spF (L : List Rc) (t : Int) (M : List Rc) : List (Int × Int) := M.flatMap (spI L t)
def spL (L : List Rc) (t s : Int) (M : List Rc) : List (Int × Int) := if recsB L && batB t s M then spF L t M else []
theorem pos_key {L : List Rc} {a b : Rc} (h : sameK a b = true) : pos L a = pos L b ∧ past L a = past L b := by
  rw [sameK_iff] at h
  have e1 : ∀ x, YtobbankkfplooaaGreat.K.lessB x a = YtobbankkfplooaaGreat.K.lessB x b := fun x => by unfold YtobbankkfplooaaGreat.K.lessB; rw [h.1, h.2]
  have e2 : ∀ x, sameK x a = sameK x b := fun x => by unfold sameK; rw [h.1, h.2]
  have e3 : pos L a = pos L b := by
    induction L with
    | nil => rfl
    | cons c t ih => unfold pos; rw [e1 c, ih]
  have e4 : isAt L a = isAt L b := by unfold isAt; rw [e3]; split <;> simp [e2]
  exact ⟨e3, by unfold past; rw [e4, e3]⟩
theorem spI_at {L : List Rc} {t : Int} {r a : Rc} (hi : isAt L (kq t r.i) = true) (ha : L[pos L (kq t r.i)]? = some a) : spI L t r = (if r.t = 1 then [(r.x, r.y)] else []) ++ [(a.x, a.y)] := by
  have hl := isAt_lt hi
  have e : L[pos L (kq t r.i)] = a := by rw [List.getElem?_eq_getElem hl] at ha; exact Option.some.inj ha
  unfold spI past
  rw [if_pos hi, List.take_succ_eq_append_getElem hl, e, List.drop_append_of_le_length (by simp; omega), List.drop_take_self]
  simp
theorem spI_no {L : List Rc} {t : Int} {r : Rc} (hi : isAt L (kq t r.i) = false) : spI L t r = (if r.t = 1 then [(r.x, r.y)] else []) := by
  unfold spI past
  rw [hi]
  simp
theorem spI_len (L : List Rc) (t : Int) (r : Rc) : (spI L t r).length ≤ 2 := by
  cases hi : isAt L (kq t r.i)
  · rw [spI_no hi]; split <;> simp
  · have hl := isAt_lt hi
    rw [spI_at hi (List.getElem?_eq_getElem hl)]; split <;> simp
theorem spF_take {L M : List Rc} {t : Int} {k : Nat} (hk : k < M.length) : spF L t (M.take (k + 1)) = spF L t (M.take k) ++ spI L t M[k] := by
  unfold spF; rw [List.take_succ_eq_append_getElem hk, List.flatMap_append]; simp
theorem spF_len (L : List Rc) (t : Int) (M : List Rc) : (spF L t M).length ≤ 2 * M.length := by
  unfold spF
  induction M with
  | nil => simp
  | cons a m ih => rw [List.flatMap_cons, List.length_append, List.length_cons]; have := spI_len L t a; omega
theorem spL_len (L : List Rc) (t s : Int) (M : List Rc) : (spL L t s M).length ≤ 12 := by
  unfold spL
  split
  · rename_i h
    rw [Bool.and_eq_true] at h
    have h2 := h.2
    unfold batB at h2
    rw [Bool.and_eq_true, its_mk] at h2
    have := spF_len L t M
    omega
  · simp
theorem idsL_len (t s : Int) (L : List Rc) : (idsL t s L).length ≤ 6 := by
  unfold idsL
  split
  · rename_i h
    unfold batB at h
    rw [Bool.and_eq_true, its_mk] at h
    have hh : ∀ (L : List Rc) (A : List Int), (L.foldl (fun A r => putI A r.i) A).length ≤ A.length + L.length := by
      intro L
      induction L with
      | nil => intro A; simp
      | cons a t ih => intro A; rw [List.foldl_cons]; have := ih (putI A a.i); have := putI_len A a.i; simp; omega
    have := hh L []
    unfold idsF
    simp at this
    omega
  · simp
end Go.Proofs.YtobbankkfplooaaGreat.K.I
