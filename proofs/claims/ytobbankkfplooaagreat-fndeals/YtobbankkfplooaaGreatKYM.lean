/-
  The mathematics of Readies and of a Shard: numbers that rise, numbers unlike, Readies of which no two meet.
-/
import Derived.Test.YtobbankkfplooaaGreatKIX
namespace Go.Proofs.YtobbankkfplooaaGreat.K.Y

/-- Numbers that rise. -/
def riseN : List Int → Bool
  | [] => true
  | [_] => true
  | a :: b :: t => decide (a < b) && riseN (b :: t)
theorem rise_cons {a : Int} {L : List Int} (h : riseN (a :: L) = true) : riseN L = true ∧ ∀ b ∈ L, a < b := by
  induction L generalizing a with
  | nil => exact ⟨rfl, by simp⟩
  | cons c t ih =>
    simp only [riseN, Bool.and_eq_true, decide_eq_true_eq] at h
    obtain ⟨h1, h2⟩ := ih h.2
    refine ⟨h.2, fun b hb => ?_⟩
    rcases List.mem_cons.1 hb with rfl | hb
    · exact h.1
    · exact Int.lt_trans h.1 (h2 b hb)
theorem rise_mk {a : Int} {L : List Int} (h : riseN L = true) (k : ∀ b ∈ L, a < b) : riseN (a :: L) = true := by
  cases L with
  | nil => rfl
  | cons c t => simp only [riseN, Bool.and_eq_true, decide_eq_true_eq]; exact ⟨k c (by simp), h⟩
theorem rise_iff {L : List Int} : riseN L = true ↔ L.Pairwise (fun a b => a < b) := by
  induction L with
  | nil => simp [riseN]
  | cons a t ih =>
    rw [List.pairwise_cons, ← ih]
    exact ⟨fun h => ⟨(rise_cons h).2, (rise_cons h).1⟩, fun h => rise_mk h.2 h.1⟩
theorem rise_of {L : List Int} (h : ∀ i a b, L[i]? = some a → L[i + 1]? = some b → a < b) : riseN L = true := by
  induction L with
  | nil => rfl
  | cons a t ih =>
    have h2 := ih (fun i a b h1 h2 => h (i + 1) a b (by simpa using h1) (by simpa using h2))
    cases t with
    | nil => rfl
    | cons b u => simp only [riseN, Bool.and_eq_true, decide_eq_true_eq]; exact ⟨h 0 a b rfl rfl, h2⟩
theorem rise_no {L : List Int} {i : Nat} {a b : Int} (h1 : L[i]? = some a) (h2 : L[i + 1]? = some b) (h : ¬ a < b) : riseN L = false := by
  cases e : riseN L
  · rfl
  · have hp := List.pairwise_iff_getElem.1 (rise_iff.1 e) i (i + 1) (List.getElem?_eq_some_iff.1 h1).1 (List.getElem?_eq_some_iff.1 h2).1 (by omega)
    rw [(List.getElem?_eq_some_iff.1 h1).2, (List.getElem?_eq_some_iff.1 h2).2] at hp
    exact absurd hp h
/-- No number twice. -/
def uniB (L : List Int) : Bool := decide (L.Pairwise fun a b => a ≠ b)
theorem rise_uni {S L : List Int} (hp : S.Perm L) (hs : S.Pairwise fun a b => a ≤ b) : riseN S = uniB L := by
  have e1 : uniB L = uniB S := by
    unfold uniB
    exact decide_eq_decide.mpr (hp.symm.pairwise_iff (fun h => fun e => h e.symm))
  rw [e1]
  cases e : uniB S
  · rw [Bool.eq_false_iff]
    intro h
    rw [uniB, decide_eq_false_iff_not] at e
    exact e ((rise_iff.1 h).imp (fun h => by omega))
  · rw [uniB, decide_eq_true_iff] at e
    rw [rise_iff]
    exact (hs.and e).imp (fun h => by omega)
/-- A Ready. -/
structure Yd where
  t : Int
  q : Int
  L : List Rc
def zyd : Yd := ⟨0, 0, []⟩
def yB (y : Yd) : Bool := I.batB y.t y.q y.L
def numN (t n : Int) : Int := t * 1000000 + n
def idsN (y : Yd) : List Int := y.L.map fun r => numN y.t r.i
def seqN (y : Yd) : Int := numN y.t y.q
def meetB (A B : List Rc) : Bool := A.any fun a => B.any fun b => decide (a.i = b.i)
def badB (a b : Yd) : Bool := decide (a.t = b.t) && (decide (a.q = b.q) || meetB a.L b.L)
def readyB (Y : List Yd) : Bool := Y.all yB && (uniB (Y.flatMap idsN) && uniB (Y.map seqN))
def sreadyB (Y : List Yd) : Bool := Y.all yB && decide (Y.Pairwise fun a b => badB a b = false)
theorem yB_parts {y : Yd} (h : yB y = true) : (1 ≤ y.t ∧ y.t ≤ 99) ∧ (1 ≤ y.q ∧ y.q ≤ 100000) ∧ (1 ≤ y.L.length ∧ y.L.length ≤ 6) ∧ (∀ r ∈ y.L, 1 ≤ r.i ∧ r.i ≤ 100000) ∧ y.L.Pairwise (fun a b => a.i ≠ b.i) := by
  unfold yB I.batB I.itsB I.oneB rgB at h
  simp only [Bool.and_eq_true, decide_eq_true_eq, List.all_eq_true] at h
  obtain ⟨⟨h1, h2⟩, h3⟩ := h
  refine ⟨by omega, by omega, by omega, fun r hr => ?_, h3.2.2.2⟩
  have := h3.2.2.1 r hr
  unfold I.recB rgB at this
  simp only [Bool.and_eq_true, decide_eq_true_eq] at this
  omega
theorem num_inj {t n s m : Int} (h1 : 1 ≤ n) (h2 : n ≤ 100000) (h3 : 1 ≤ m) (h4 : m ≤ 100000) (h : numN t n = numN s m) : t = s ∧ n = m := by
  unfold numN at h; omega
theorem bad_iff {a b : Yd} (ha : yB a = true) (hb : yB b = true) : badB a b = false ↔ ((∀ x ∈ idsN a, ∀ z ∈ idsN b, x ≠ z) ∧ seqN a ≠ seqN b) := by
  obtain ⟨_, a2, _, a4, _⟩ := yB_parts ha
  obtain ⟨_, b2, _, b4, _⟩ := yB_parts hb
  constructor
  · intro h
    refine ⟨fun x hx z hz e => ?_, fun e => ?_⟩
    · unfold idsN at hx hz
      rw [List.mem_map] at hx hz
      obtain ⟨r, hr, rfl⟩ := hx
      obtain ⟨s, hs, rfl⟩ := hz
      have := num_inj (a4 r hr).1 (a4 r hr).2 (b4 s hs).1 (b4 s hs).2 e
      have hm : meetB a.L b.L = true := by
        unfold meetB
        rw [List.any_eq_true]
        exact ⟨r, hr, by rw [List.any_eq_true]; exact ⟨s, hs, decide_eq_true this.2⟩⟩
      unfold badB at h
      rw [hm, decide_eq_true this.1] at h
      simp at h
    · unfold seqN at e
      have := num_inj a2.1 a2.2 b2.1 b2.2 e
      unfold badB at h
      rw [decide_eq_true this.1, decide_eq_true this.2] at h
      simp at h
  · intro ⟨h1, h2⟩
    rw [Bool.eq_false_iff]
    intro h
    unfold badB at h
    simp only [Bool.and_eq_true, decide_eq_true_eq, Bool.or_eq_true] at h
    obtain ⟨e, h | h⟩ := h
    · exact h2 (by unfold seqN; rw [e, h])
    · unfold meetB at h
      rw [List.any_eq_true] at h
      obtain ⟨r, hr, h⟩ := h
      rw [List.any_eq_true] at h
      obtain ⟨s, hs, h⟩ := h
      refine h1 (numN a.t r.i) (List.mem_map.2 ⟨r, hr, rfl⟩) (numN b.t s.i) (List.mem_map.2 ⟨s, hs, rfl⟩) ?_
      rw [e, of_decide_eq_true h]
theorem ids_uni {y : Yd} (h : yB y = true) : (idsN y).Pairwise fun a b => a ≠ b := by
  obtain ⟨_, _, _, _, h5⟩ := yB_parts h
  unfold idsN
  rw [List.pairwise_map]
  exact h5.imp (fun h e => h (by unfold numN at e; omega))
/-- The program's look and the spec's. -/
theorem ready_eq : ∀ Y : List Yd, sreadyB Y = readyB Y := by
  intro Y
  unfold sreadyB readyB uniB
  cases ha : Y.all yB
  · rfl
  · rw [Bool.true_and, Bool.true_and, ← Bool.decide_and]
    refine decide_eq_decide.mpr ?_
    rw [List.all_eq_true] at ha
    induction Y with
    | nil => simp
    | cons y t ih =>
      have ih := ih (fun x hx => ha x (List.mem_cons_of_mem _ hx))
      have hy := ha y (List.mem_cons_self ..)
      rw [List.pairwise_cons, ih, List.flatMap_cons, List.pairwise_append, List.map_cons, List.pairwise_cons]
      constructor
      · intro ⟨h1, h2, h3⟩
        refine ⟨⟨ids_uni hy, h2, fun a ha' b hb => ?_⟩, fun s hs => ?_, h3⟩
        · rw [List.mem_flatMap] at hb
          obtain ⟨z, hz, hb⟩ := hb
          exact ((bad_iff hy (ha z (List.mem_cons_of_mem _ hz))).1 (h1 z hz)).1 a ha' b hb
        · rw [List.mem_map] at hs
          obtain ⟨z, hz, rfl⟩ := hs
          exact ((bad_iff hy (ha z (List.mem_cons_of_mem _ hz))).1 (h1 z hz)).2
      · intro ⟨⟨h1, h2, h3⟩, h4, h5⟩
        refine ⟨fun z hz => (bad_iff hy (ha z (List.mem_cons_of_mem _ hz))).2 ⟨fun x hx w hw => h3 x hx w (List.mem_flatMap.2 ⟨z, hz, hw⟩), h4 _ (List.mem_map.2 ⟨z, hz, rfl⟩)⟩, h2, h5⟩
/-- Is it a number of a Batch? -/
def numB (n : Int) : Bool := rgB (n.tdiv 1000000) 1 99 && rgB (n.tmod 1000000) 1 100000
def numsB (L : List Int) : Bool := L.all numB && riseN L
/-- Is it a right Shard? -/
def roomB (y o g : Nat) : Bool := decide (y ≤ 100) && (decide (o ≤ 400) && decide (g ≤ 100000))
def shB (R : List Rc) (Y : List Yd) (O : List Int) (g : Nat) (s : Int) : Bool := roomB Y.length O.length g && (decide (0 ≤ s) && (decide (s ≤ g) && (recsB R && (readyB Y && numsB O))))
end Go.Proofs.YtobbankkfplooaaGreat.K.Y
