/-
  Items: is one right, which comes first, are all right, do they rise.
-/
import Derived.Test.YtbkiogedipmioaaGreatVUFq
import Derived.Test.YtbkiogedipmioaaGreatVUIB0
import Derived.Laws.StructEq
namespace Go.Proofs.YtbkiogedipmioaaGreat.V.U.I

def lessB (a b : Rc) : Bool := decide (a.i < b.i)
def cmpI (a b : Rc) : Int := cmpZ a.i b.i
theorem lessB_iff {a b : Rc} : lessB a b = true ↔ a.i < b.i := by unfold lessB; exact decide_eq_true_iff
theorem lessB_no {a b : Rc} : lessB a b = false ↔ ¬ a.i < b.i := by unfold lessB; exact decide_eq_false_iff_not
theorem cmpI_neg {a b : Rc} : cmpI a b < 0 ↔ lessB a b = true := by
  rw [lessB_iff]; unfold cmpI cmpZ
  repeat' split
  all_goals omega
theorem cmpI_ge {a b : Rc} : 0 ≤ cmpI a b ↔ lessB a b = false := by
  rw [← Int.not_lt, cmpI_neg]; simp
theorem less_trans {a b c : Rc} (h : lessB a b = true) (k : lessB b c = true) : lessB a c = true := by
  rw [lessB_iff] at *; omega
def riseB : List Rc → Bool
  | [] => true
  | [_] => true
  | a :: b :: t => lessB a b && riseB (b :: t)
theorem rise_cons {a : Rc} {L : List Rc} (h : riseB (a :: L) = true) : riseB L = true ∧ ∀ b ∈ L, lessB a b = true := by
  induction L generalizing a with
  | nil => exact ⟨rfl, by simp⟩
  | cons c t ih =>
    simp only [riseB, Bool.and_eq_true] at h
    obtain ⟨h1, h2⟩ := ih h.2
    refine ⟨h.2, fun b hb => ?_⟩
    rcases List.mem_cons.1 hb with rfl | hb
    · exact h.1
    · exact less_trans h.1 (h2 b hb)
theorem rise_mk {a : Rc} {L : List Rc} (h : riseB L = true) (k : ∀ b ∈ L, lessB a b = true) : riseB (a :: L) = true := by
  cases L with
  | nil => rfl
  | cons c t => simp only [riseB, Bool.and_eq_true]; exact ⟨k c (by simp), h⟩
theorem rise_iff {L : List Rc} : riseB L = true ↔ L.Pairwise (fun a b => lessB a b = true) := by
  induction L with
  | nil => simp [riseB]
  | cons a t ih =>
    rw [List.pairwise_cons, ← ih]
    exact ⟨fun h => ⟨(rise_cons h).2, (rise_cons h).1⟩, fun h => rise_mk h.2 h.1⟩
theorem rise_of {L : List Rc} (h : ∀ i a b, L[i]? = some a → L[i + 1]? = some b → lessB a b = true) : riseB L = true := by
  induction L with
  | nil => rfl
  | cons a t ih =>
    have h2 := ih (fun i a b h1 h2 => h (i + 1) a b (by simpa using h1) (by simpa using h2))
    cases t with
    | nil => rfl
    | cons b u => simp only [riseB, Bool.and_eq_true]; exact ⟨h 0 a b rfl rfl, h2⟩
theorem rise_no {L : List Rc} {i : Nat} {a b : Rc} (h1 : L[i]? = some a) (h2 : L[i + 1]? = some b) (h : lessB a b = false) : riseB L = false := by
  cases e : riseB L
  · rfl
  · have hp := List.pairwise_iff_getElem.1 (rise_iff.1 e) i (i + 1) (List.getElem?_eq_some_iff.1 h1).1 (List.getElem?_eq_some_iff.1 h2).1 (by omega)
    rw [(List.getElem?_eq_some_iff.1 h1).2, (List.getElem?_eq_some_iff.1 h2).2, h] at hp
    cases hp
/-- Is it a right Item? -/
def recB (r : Rc) : Bool := rgB r.i 1 100000 && (if r.t = 1 then spotB r.x r.y && szB r.s else if r.t = 2 then decide (r.x = 0 ∧ r.y = 0 ∧ r.s = ByteArray.empty) else false)
/-- No two with one Id. -/
def oneB (L : List Rc) : Bool := decide (L.Pairwise fun a b => a.i ≠ b.i)
def itsB (L : List Rc) : Bool := decide (1 ≤ L.length) && (decide (L.length ≤ 6) && (L.all recB && oneB L))
/-- A sorted list rises where no two have one Id. -/
theorem rise_one {S L : List Rc} (hp : S.Perm L) (hs : S.Pairwise fun a b => ¬ lessB b a = true) : riseB S = oneB L := by
  have e1 : oneB L = oneB S := by
    unfold oneB
    exact decide_eq_decide.mpr (hp.symm.pairwise_iff (fun h => fun e => h e.symm))
  rw [e1]
  cases e : oneB S
  · rw [Bool.eq_false_iff]
    intro h
    have h2 : S.Pairwise fun a b => a.i ≠ b.i := (rise_iff.1 h).imp (fun h => by rw [lessB_iff] at h; omega)
    rw [oneB, decide_eq_false_iff_not] at e
    exact e h2
  · rw [oneB, decide_eq_true_iff] at e
    rw [rise_iff]
    refine (hs.and e).imp (fun {a b} h => ?_)
    rw [lessB_iff] at *
    have := h.1; have := h.2; omega
theorem its_mk {L : List Rc} : itsB L = true ↔ (1 ≤ L.length ∧ L.length ≤ 6 ∧ (∀ a ∈ L, recB a = true) ∧ oneB L = true) := by
  unfold itsB
  simp only [Bool.and_eq_true, decide_eq_true_eq, List.all_eq_true]
/-- The Batch: Tenant, Seq, Items. -/
def batB (t s : Int) (L : List Rc) : Bool := (rgB t 1 99 && rgB s 1 100000) && itsB L
/-- Numbers that rise, and one put among them. -/
def putI : List Int → Int → List Int
  | [], z => [z]
  | a :: t, z => if a < z then a :: putI t z else if a = z then a :: t else z :: a :: t
def rsI (L : List Int) : Prop := L.Pairwise (fun a b => a < b)
theorem putI_mem {L : List Int} {z x : Int} : x ∈ putI L z ↔ x = z ∨ x ∈ L := by
  induction L with
  | nil => simp [putI]
  | cons a t ih =>
    unfold putI
    split
    · simp only [List.mem_cons, ih]; grind
    · split
      · rename_i h; subst h; simp only [List.mem_cons]; grind
      · simp only [List.mem_cons]
theorem putI_rs {L : List Int} {z : Int} (h : rsI L) : rsI (putI L z) := by
  unfold rsI at *
  induction L with
  | nil => simp [putI]
  | cons a t ih =>
    obtain ⟨h1, h2⟩ := List.pairwise_cons.1 h
    unfold putI
    split
    · refine List.pairwise_cons.2 ⟨fun x hx => ?_, ih h2⟩
      rcases putI_mem.1 hx with rfl | hx
      · assumption
      · exact h1 x hx
    · split
      · exact h
      · refine List.pairwise_cons.2 ⟨fun x hx => ?_, h⟩
        rcases List.mem_cons.1 hx with rfl | hx
        · omega
        · have := h1 x hx; omega
theorem rsI_uniq {A B : List Int} (hA : rsI A) (hB : rsI B) (h : ∀ x, x ∈ A ↔ x ∈ B) : A = B := by
  unfold rsI at *
  induction A generalizing B with
  | nil =>
    cases B with
    | nil => rfl
    | cons b t => have := (h b).2 (by simp); simp at this
  | cons a t ih =>
    cases B with
    | nil => have := (h a).1 (by simp); simp at this
    | cons b u =>
      obtain ⟨a1, a2⟩ := List.pairwise_cons.1 hA
      obtain ⟨b1, b2⟩ := List.pairwise_cons.1 hB
      have hab : a = b := by
        have x1 := (h a).1 (by simp)
        have x2 := (h b).2 (by simp)
        rcases List.mem_cons.1 x1 with e | e
        · exact e
        · rcases List.mem_cons.1 x2 with e2 | e2
          · exact e2.symm
          · have := b1 a e; have := a1 b e2; omega
      subst hab
      congr 1
      refine ih a2 b2 (fun x => ⟨fun hx => ?_, fun hx => ?_⟩)
      · rcases List.mem_cons.1 ((h x).1 (List.mem_cons_of_mem _ hx)) with e | e
        · have := a1 x hx; omega
        · exact e
      · rcases List.mem_cons.1 ((h x).2 (List.mem_cons_of_mem _ hx)) with e | e
        · have := b1 x hx; omega
        · exact e
/-- The Ids of Items, rising. -/
def idsF (L : List Rc) : List Int := L.foldl (fun A r => putI A r.i) []
def idsL (t s : Int) (L : List Rc) : List Int := if batB t s L then idsF L else []
theorem idsF_gen {L : List Rc} {A : List Int} (h : rsI A) : rsI (L.foldl (fun A r => putI A r.i) A) ∧ ∀ x, x ∈ L.foldl (fun A r => putI A r.i) A ↔ x ∈ A ∨ ∃ r ∈ L, r.i = x := by
  induction L generalizing A with
  | nil => simp [h]
  | cons a t ih =>
    obtain ⟨h1, h2⟩ := ih (putI_rs (z := a.i) h)
    refine ⟨h1, fun x => ?_⟩
    rw [List.foldl_cons, h2, putI_mem]
    simp only [List.mem_cons, exists_eq_or_imp]
    constructor
    · rintro ((rfl | h) | h)
      · exact .inr (.inl rfl)
      · exact .inl h
      · exact .inr (.inr h)
    · rintro (h | (rfl | h))
      · exact .inl (.inr h)
      · exact .inl (.inl rfl)
      · exact .inr h
theorem idsF_take {L : List Rc} {k : Nat} (hk : k < L.length) : idsF (L.take (k + 1)) = putI (idsF (L.take k)) L[k].i := by
  unfold idsF
  rw [List.take_succ_eq_append_getElem hk, List.foldl_append]; rfl
theorem putI_len (L : List Int) (z : Int) : (putI L z).length ≤ L.length + 1 := by
  induction L with
  | nil => simp [putI]
  | cons a t ih => unfold putI; split <;> (try split) <;> simp <;> omega
theorem ids_sorted {S L : List Rc} (hp : S.Perm L) (h : riseB S = true) : S.map (·.i) = idsF L := by
  have g := idsF_gen (L := L) (A := []) List.Pairwise.nil
  refine rsI_uniq ?_ g.1 (fun x => ?_)
  · unfold rsI; rw [List.pairwise_map]; exact (rise_iff.1 h).imp (fun h => lessB_iff.1 h)
  · have := g.2 x
    rw [show idsF L = L.foldl (fun A r => putI A r.i) [] from rfl, this]
    simp only [List.mem_map, List.not_mem_nil, false_or]
    exact ⟨fun ⟨r, hr, e⟩ => ⟨r, hp.mem_iff.1 hr, e⟩, fun ⟨r, hr, e⟩ => ⟨r, hp.mem_iff.2 hr, e⟩⟩
/-- The Spots that an Item touches. -/
def spI (L : List Rc) (t : Int) (r : Rc) : List (Int × Int) := (if r.t = 1 then [(r.x, r.y)] else []) ++ ((L.take (past L (kq t r.i))).drop (pos L (kq t r.i))).map (fun a => (a.x, a.y))
def spF (L : List Rc) (t : Int) (M : List Rc) : List (Int × Int) := M.flatMap (spI L t)
def spL (L : List Rc) (t s : Int) (M : List Rc) : List (Int × Int) := if recsB L && batB t s M then spF L t M else []
theorem pos_key {L : List Rc} {a b : Rc} (h : sameK a b = true) : pos L a = pos L b ∧ past L a = past L b := by
  rw [sameK_iff] at h
  have e1 : ∀ x, YtbkiogedipmioaaGreat.V.U.lessB x a = YtbkiogedipmioaaGreat.V.U.lessB x b := fun x => by unfold YtbkiogedipmioaaGreat.V.U.lessB; rw [h.1, h.2]
  have e2 : ∀ x, sameK x a = sameK x b := fun x => by unfold sameK; rw [h.1, h.2]
  have e3 : pos L a = pos L b := by
    induction L with
    | nil => rfl
    | cons c t ih => unfold pos; rw [e1 c, ih]
  have e4 : isAt L a = isAt L b := by unfold isAt; rw [e3]; split <;> simp [e2]
  exact ⟨e3, by unfold past; rw [e4, e3]⟩
theorem spI_at {L : List Rc} {t : Int} {r a : Rc} (hi : isAt L (kq t r.i) = true) (ha : L[pos L (kq t r.i)]? = some a) : spI L t r = (if r.t = 1 then [(r.x, r.y)] else []) ++ [(a.x, a.y)] := by
  have hl := isAt_lt hi
  have e : L[pos L (kq t r.i)] = a := by rw [List.getElem?_eq_getElem hl] at ha; exact Option.some.inj ha
  unfold spI past
  rw [if_pos hi, List.take_succ_eq_append_getElem hl, e, List.drop_append_of_le_length (by simp; omega), List.drop_take_self]
  simp
theorem spI_no {L : List Rc} {t : Int} {r : Rc} (hi : isAt L (kq t r.i) = false) : spI L t r = (if r.t = 1 then [(r.x, r.y)] else []) := by
  unfold spI past
  rw [hi]
  simp
theorem spI_len (L : List Rc) (t : Int) (r : Rc) : (spI L t r).length ≤ 2 := by
  cases hi : isAt L (kq t r.i)
  · rw [spI_no hi]; split <;> simp
  · have hl := isAt_lt hi
    rw [spI_at hi (List.getElem?_eq_getElem hl)]; split <;> simp
theorem spF_take {L M : List Rc} {t : Int} {k : Nat} (hk : k < M.length) : spF L t (M.take (k + 1)) = spF L t (M.take k) ++ spI L t M[k] := by
  unfold spF; rw [List.take_succ_eq_append_getElem hk, List.flatMap_append]; simp
theorem spF_len (L : List Rc) (t : Int) (M : List Rc) : (spF L t M).length ≤ 2 * M.length := by
  unfold spF
  induction M with
  | nil => simp
  | cons a m ih => rw [List.flatMap_cons, List.length_append, List.length_cons]; have := spI_len L t a; omega
theorem spL_len (L : List Rc) (t s : Int) (M : List Rc) : (spL L t s M).length ≤ 12 := by
  unfold spL
  split
  · rename_i h
    rw [Bool.and_eq_true] at h
    have h2 := h.2
    unfold batB at h2
    rw [Bool.and_eq_true, its_mk] at h2
    have := spF_len L t M
    omega
  · simp
theorem idsL_len (t s : Int) (L : List Rc) : (idsL t s L).length ≤ 6 := by
  unfold idsL
  split
  · rename_i h
    unfold batB at h
    rw [Bool.and_eq_true, its_mk] at h
    have hh : ∀ (L : List Rc) (A : List Int), (L.foldl (fun A r => putI A r.i) A).length ≤ A.length + L.length := by
      intro L
      induction L with
      | nil => intro A; simp
      | cons a t ih => intro A; rw [List.foldl_cons]; have := ih (putI A a.i); have := putI_len A a.i; simp; omega
    have := hh L []
    unfold idsF
    simp at this
    omega
  · simp
end Go.Proofs.YtbkiogedipmioaaGreat.V.U.I
namespace Go.Proofs.YtbkiogedipmioaaGreat.V.U.I
open Go.Shelf Go.RowKit Go.Joins
attribute [local go_sem] Oper.semAt_some

theorem no_bytes : ByteArray.empty.toList = [] := by rw [ByteArray.toList_eq]; rfl
theorem toList_inj {a b : ByteArray} (h : a.toList = b.toList) : a = b := by
  rw [ByteArray.toList_eq, ByteArray.toList_eq] at h
  obtain ⟨⟨x⟩⟩ := a
  obtain ⟨⟨y⟩⟩ := b
  have h' : x = y := h
  rw [h']
theorem recB1 (i x y : Int) (s : ByteArray) : recB ⟨1, i, x, y, s⟩ = (rgB i 1 100000 && (spotB x y && szB s)) := by unfold recB; simp
theorem recB2 (i x y : Int) (s : ByteArray) : recB ⟨2, i, x, y, s⟩ = (rgB i 1 100000 && decide (x = 0 ∧ y = 0 ∧ s = ByteArray.empty)) := by unfold recB; simp
theorem recB3 {t i x y : Int} {s : ByteArray} (h1 : ¬ t = 1) (h2 : ¬ t = 2) : recB ⟨t, i, x, y, s⟩ = false := by unfold recB; simp [h1, h2]
set_option maxHeartbeats 1000000 in
theorem isRec_any (r : Rc) (w : World) : Calls Tryz.prog 108 #[r.v] w fun e w' => e = .returned (.bool (recB r)) ∧ Below w.heap.size w w' := by
  obtain ⟨t, i, x, y, s⟩ := r
  have hst := (St.nil w).push [.int .i64 t, .int .i64 i, .int .i64 x, .int .i64 y, .string s] 117
  by_cases h1 : t = 1
  · subst h1
    rw [recB1]
    cases h2 : rgB i 1 100000
    · go_enter Tryz.func108, Tryz.ntmps108
      go_wp2_with (go_at_call 74; refine (isId_v h2 _).mono ?_; rintro e w1 ⟨rfl, rfl⟩)
      go_ret
      exact ⟨ret_bool (by simp only [Bool.false_and]), hst.bel⟩
    cases h3 : spotB x y
    · go_enter Tryz.func108, Tryz.ntmps108
      go_wp2_with (first | (go_at_call 74; refine (isId_v h2 _).mono ?_; rintro e w1 ⟨rfl, rfl⟩) | (go_at_call 49; refine (isSpot_v h3 _).mono ?_; rintro e w1 ⟨rfl, hb1⟩; have hs1 := hst.step hb1))
      go_ret
      exact ⟨ret_bool (by simp only [Bool.true_and, Bool.false_and]), hs1.bel⟩
    obtain ⟨v, h4⟩ : ∃ v, szB s = v := ⟨_, rfl⟩
    have h5 := szB_i h4
    go_enter Tryz.func108, Tryz.ntmps108
    go_wp2_with (first | (go_at_call 74; refine (isId_v h2 _).mono ?_; rintro e w1 ⟨rfl, rfl⟩) | (go_at_call 49; refine (isSpot_v h3 _).mono ?_; rintro e w1 ⟨rfl, hb1⟩; have hs1 := hst.step hb1; have hk := hs1.has; simp [Has, HasAt] at hk))
    go_ret
    exact ⟨ret_bool (by simp only [h4, Bool.true_and]), hs1.bel⟩
  · by_cases h0 : t = 2
    · subst h0
      rw [recB2]
      cases h2 : rgB i 1 100000
      · go_enter Tryz.func108, Tryz.ntmps108
        go_wp2_with (go_at_call 74; refine (isId_v h2 _).mono ?_; rintro e w1 ⟨rfl, rfl⟩)
        go_ret
        exact ⟨ret_bool (by simp only [Bool.false_and]), hst.bel⟩
      by_cases e3 : x = 0
      · subst e3
        by_cases e4 : y = 0
        · subst e4
          by_cases e5 : s.toList = []
          · have es : s = ByteArray.empty := toList_inj (by rw [e5, no_bytes])
            subst es
            go_enter Tryz.func108, Tryz.ntmps108
            go_wp2_with (go_at_call 74; refine (isId_v h2 _).mono ?_; rintro e w1 ⟨rfl, rfl⟩)
            go_ret
            exact ⟨ret_bool (by simp), hst.bel⟩
          · have es : ¬ s = ByteArray.empty := fun h => e5 (by rw [h, no_bytes])
            go_enter Tryz.func108, Tryz.ntmps108
            go_wp2_with (go_at_call 74; refine (isId_v h2 _).mono ?_; rintro e w1 ⟨rfl, rfl⟩)
            go_ret
            exact ⟨ret_bool (by simp [es]), hst.bel⟩
        · go_enter Tryz.func108, Tryz.ntmps108
          go_wp2_with (go_at_call 74; refine (isId_v h2 _).mono ?_; rintro e w1 ⟨rfl, rfl⟩)
          go_ret
          exact ⟨ret_bool (by simp [e4]), hst.bel⟩
      · go_enter Tryz.func108, Tryz.ntmps108
        go_wp2_with (go_at_call 74; refine (isId_v h2 _).mono ?_; rintro e w1 ⟨rfl, rfl⟩)
        go_ret
        exact ⟨ret_bool (by simp [e3]), hst.bel⟩
    · rw [recB3 h1 h0]
      go_enter Tryz.func108, Tryz.ntmps108
      go_wp2
      go_ret
      exact ⟨rfl, hst.bel⟩
theorem isRec_v {r : Rc} {v : Bool} (hv : recB r = v) (w : World) : Calls Tryz.prog 108 #[r.v] w fun e w' => e = .returned (.bool v) ∧ Below w.heap.size w w' := hv ▸ isRec_any r w
set_option maxHeartbeats 1000000 in
theorem byOwner_any (a b : Rc) (w : World) : Calls Tryz.prog 110 #[a.v, b.v] w fun e w' => e = .returned (.int .i64 (cmpI a b)) ∧ Below w.heap.size w w' := by
  go_enter Tryz.func110, Tryz.ntmps110
  go_wp2_with (go_at_call 106; refine (compare_any _ _ _).mono ?_; rintro e w1 ⟨rfl, rfl⟩)
  go_ret
  exact ⟨rfl, below_alloc2 _ _ _⟩
theorem byOwner_v {a b : Rc} {v : Int} (hv : cmpI a b = v) (w : World) : Calls Tryz.prog 110 #[a.v, b.v] w fun e w' => e = .returned (.int .i64 v) ∧ Below w.heap.size w w' := hv ▸ byOwner_any a b w
set_option maxHeartbeats 1000000 in
theorem are_any (p : Option Addr) (cap : Nat) (L : List Rc) (n : Nat) (hn : L.length = n) (w : World) (hL : SlG kR w p L) (hb0 : n ≤ 10000000) {fb : Bool} (hv : L.all recB = fb) :
    Calls Tryz.prog 107 #[.slice p n cap, .func (.func 108) #[] #[]] w fun e w' => e = .returned (.bool fb) ∧ Below w.heap.size w w' := by
  subst hn
  go_enter Tryz.func107, Tryz.ntmps107
  go_wp2
  go_loopw [9] (fun i wr => ∃ k : Nat, k ≤ L.length ∧ i = .int .i64 k ∧ (L.take k).all recB = true ∧ Below w.heap.size w wr) (fun i _ => L.length - (intOf i).toNat)
  case atStart => exact ⟨0, by omega, rfl, rfl, Below.refl _ _⟩
  case round =>
    obtain ⟨k, hk, rfl, hall, hb⟩ := hrel
    by_cases hlt : k < L.length
    · have hki : (k : Int) < L.length := by omega
      obtain ⟨g, off, rfl, hC⟩ := (hL.step hb).at hlt
      have hg := List.getElem?_eq_getElem hlt
      have ht := all_take (f := recB) hlt
      generalize L[k] = r at hg ht
      obtain ⟨c0, c1, c2, c3, c4⟩ := hC.i5 hg
      cases hr : recB r
      · go_wp2_with (go_at_call 108; refine (isRec_v (r := r) hr _).mono ?_; rintro e w1 ⟨rfl, hb2⟩)
        go_ret
        exact ⟨ret_bool (by rw [← hv, all_no hg hr]), bstepA hb hb2 (Nat.le_refl _)⟩
      · go_wp2_with (go_at_call 108; refine (isRec_v (r := r) hr _).mono ?_; rintro e w1 ⟨rfl, hb2⟩)
        go_roundw
        case rel => exact ⟨k + 1, by omega, by go_num, by rw [ht, hall, hr]; rfl, bstepA hb hb2 (Nat.le_refl _)⟩
        case measure => simp [intOf]; omega
    · obtain rfl : k = L.length := by omega
      go_wp2
      go_ret
      rw [List.take_length] at hall
      exact ⟨ret_bool (by rw [← hv, hall]), hb⟩
set_option maxHeartbeats 1000000 in
theorem rises_any (p : Option Addr) (cap : Nat) (L : List Rc) (n : Nat) (hn : L.length = n) (w : World) (hL : SlG kR w p L) (hb0 : n ≤ 10000000) {fb : Bool} (hv : riseB L = fb) :
    Calls Tryz.prog 111 #[.slice p n cap, .func (.func 110) #[] #[]] w fun e w' => e = .returned (.bool fb) ∧ Below w.heap.size w w' := by
  subst hn
  go_enter Tryz.func111, Tryz.ntmps111
  go_wp2
  go_loopw [5] (fun i wr => ∃ k : Nat, i = .int .i64 ((k : Int) + 1) ∧ k ≤ L.length ∧ Hid (∀ j a b, j < k → L[j]? = some a → L[j + 1]? = some b → lessB a b = true) ∧ Below w.heap.size w wr) (fun i _ => L.length + 1 - (intOf i).toNat)
  case atStart => exact ⟨0, rfl, by omega, fun j a b hj => by omega, Below.refl _ _⟩
  case round =>
    obtain ⟨k, rfl, hk, hall, hb⟩ := hrel
    by_cases hlt : k + 1 < L.length
    · have hki : (k : Int) + 1 < L.length := by omega
      have hk0 : k < L.length := by omega
      obtain ⟨g, off, rfl, hC⟩ := (hL.step hb).at hlt
      have hg := List.getElem?_eq_getElem hlt
      have hg0 := List.getElem?_eq_getElem hk0
      generalize L[k + 1] = b at hg
      generalize L[k] = a at hg0
      obtain ⟨c0, c1, c2, c3, c4⟩ := hC.i5 hg
      obtain ⟨d0, d1, d2, d3, d4⟩ := hC.i5 hg0
      have HG : Hid (L[k]? = some a ∧ L[k + 1]? = some b) := ⟨hg0, hg⟩
      clear hC hg hg0
      obtain ⟨v, hc⟩ : ∃ v, cmpI a b = v := ⟨_, rfl⟩
      have hrn := @rise_no L k a b
      have hw : IntKind.i64.wrap (k : Int) = k := wrapI (by omega) (by omega)
      have hk1 : (k : Int) < L.length := by omega
      have hk2 : (0 : Int) ≤ k := by omega
      by_cases hv0 : v < 0
      · have hge : ¬ v ≥ 0 := by omega
        have hge' : ¬ 0 ≤ v := by omega
        go_wp2
        go_region_with ((go_at_call 110; refine (byOwner_v (a := a) (b := b) hc _).mono ?_; rintro e w1 ⟨rfl, hb2⟩))
        all_goals
          go_wp2
          go_roundw
          case rel => exact ⟨k + 1, by go_num, by omega, fun j a' b' hj h1 h2 => by
            by_cases e : j = k
            · subst e
              rw [HG.out.1] at h1; rw [HG.out.2] at h2
              cases h1; cases h2
              rw [← cmpI_neg, hc]; exact hv0
            · exact hall.out j a' b' (by omega) h1 h2, bstep hb.drew hb2 (Nat.le_refl _)⟩
          case measure => simp [intOf]; omega
      · have hge : 0 ≤ v := by omega
        go_wp2
        go_region_with ((go_at_call 110; refine (byOwner_v (a := a) (b := b) hc _).mono ?_; rintro e w1 ⟨rfl, hb2⟩))
        all_goals
          go_wp2
          go_ret
          exact ⟨ret_bool (by rw [← hv, hrn HG.out.1 HG.out.2 (by rw [← cmpI_ge, hc]; exact hge)]), bstep hb.drew hb2 (Nat.le_refl _)⟩
    · have hki : ¬ (k : Int) + 1 < L.length := by omega
      go_wp2
      go_ret
      refine ⟨ret_bool (by rw [← hv]; exact (rise_of fun j a b h1 h2 => hall.out j a b (by have := (List.getElem?_eq_some_iff.1 h2).1; omega) h1 h2).symm), hb⟩
end Go.Proofs.YtbkiogedipmioaaGreat.V.U.I
