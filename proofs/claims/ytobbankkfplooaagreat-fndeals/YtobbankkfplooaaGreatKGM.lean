/-
  The mathematics of a Deal: which are right, as the program looks and as the specification does.
-/
import Derived.Test.YtobbankkfplooaaGreatKYM
namespace Go.Proofs.YtobbankkfplooaaGreat.K.G
open Y

def partB (t q : Int) (y : Yd) : Bool := yB y && (decide (y.t = t) && decide (y.q = q))
def shN (x : Int) : Bool := decide (0 ≤ x) && decide (x ≤ 3)
def voN (x : Int) : Bool := decide (x = 0) || (decide (x = 1) || decide (x = 2))
def partsB (t q : Int) (Y : List Yd) (n : Nat) : Bool := decide (1 ≤ n) && (decide (n ≤ 4) && Y.all (partB t q))
def shardsB (n m : Nat) (O : List Int) : Bool := decide (m = n) && (O.all shN && riseN O)
def votesB (n m : Nat) (V : List Int) : Bool := decide (m = n) && V.all voN
/-- A list of votes as it stands in the room of four. -/
def vt (V : List Int) : List Int := [V.getD 0 0, V.getD 1 0, V.getD 2 0, V.getD 3 0]
def yesN (n : Nat) : List Int := vt (List.replicate n 1)
def stB (s : Int) (a b : List Int) : Bool := decide (s = 0) || (decide (s = 2) || (decide (s = 1) && decide (a = b)))
def dealB (t q : Int) (Y : List Yd) (O V : List Int) (s : Int) : Bool :=
  partsB t q Y Y.length && (shardsB Y.length O.length O && (votesB Y.length V.length V && stB s (vt V) (yesN Y.length)))

/-- What a right Deal is. -/
structure DealP (t q : Int) (Y : List Yd) (O V : List Int) (s : Int) : Prop where
  tn : 1 ≤ t ∧ t ≤ 99
  qn : 1 ≤ q ∧ q ≤ 100000
  n : 1 ≤ Y.length ∧ Y.length ≤ 4
  on : O.length = Y.length
  un : V.length = Y.length
  st : s = 0 ∨ s = 1 ∨ s = 2
  r : riseN O = true
  o : ∀ x ∈ O, 0 ≤ x ∧ x ≤ 3
  y : ∀ y ∈ Y, yB y = true ∧ y.t = t ∧ y.q = q
  u : ∀ x ∈ V, x = 0 ∨ x = 1 ∨ x = 2
  d : s = 1 → ∀ x ∈ V, x = 1
theorem vt_yes {V : List Int} (h : V.length ≤ 4) : vt V = yesN V.length ↔ ∀ x ∈ V, x = 1 := by
  match V, h with
  | [], _ => simp [vt, yesN]
  | [a], _ => simp [vt, yesN]
  | [a, b], _ => simp [vt, yesN, List.replicate]
  | [a, b, c], _ => simp [vt, yesN, List.replicate]
  | [a, b, c, d], _ => simp [vt, yesN, List.replicate]
  | a :: b :: c :: d :: e :: t, h => simp at h
theorem deal_iff {t q : Int} {Y : List Yd} {O V : List Int} {s : Int} : dealB t q Y O V s = true ↔ DealP t q Y O V s := by
  unfold dealB partsB shardsB votesB stB partB shN voN
  simp only [Bool.and_eq_true, Bool.or_eq_true, decide_eq_true_eq, List.all_eq_true]
  constructor
  · rintro ⟨⟨h1, h2, h3⟩, ⟨h4, h5, h6⟩, ⟨h7, h8⟩, h9⟩
    obtain ⟨y, hy⟩ : ∃ y, y ∈ Y := by
      cases Y with
      | nil => simp at h1
      | cons a t => exact ⟨a, by simp⟩
    obtain ⟨k1, k2, k3⟩ := h3 y hy
    obtain ⟨p1, p2, _⟩ := yB_parts k1
    rw [k2] at p1; rw [k3] at p2
    refine ⟨p1, p2, ⟨h1, h2⟩, h4, h7, by omega, h6, h5, h3, h8, fun e => ?_⟩
    rcases h9 with h9 | h9 | h9
    · omega
    · omega
    · rw [← h7] at h9; exact (vt_yes (by omega)).1 h9.2
  · intro h
    refine ⟨⟨h.n.1, h.n.2, h.y⟩, ⟨h.on, h.o, h.r⟩, ⟨h.un, h.u⟩, ?_⟩
    rcases h.st with e | e | e
    · exact .inl e
    · refine .inr (.inr ⟨e, ?_⟩)
      rw [← h.un]
      exact (vt_yes (by rw [h.un]; exact h.n.2)).2 (h.d e)
    · exact .inr (.inl e)
theorem deal_no {t q : Int} {Y : List Yd} {O V : List Int} {s : Int} (h : ¬ DealP t q Y O V s) : dealB t q Y O V s = false := by
  rw [← deal_iff] at h; simpa using h
/-- Numbers that rise lie between the first and the last. -/
theorem rise_mid {L : List Int} (h : riseN L = true) {i j : Nat} {a b : Int} (hij : i ≤ j) (ha : L[i]? = some a) (hb : L[j]? = some b) : a ≤ b := by
  rcases Nat.lt_or_eq_of_le hij with hlt | rfl
  · have hp := List.pairwise_iff_getElem.1 (Y.rise_iff.1 h) i j (List.getElem?_eq_some_iff.1 ha).1 (List.getElem?_eq_some_iff.1 hb).1 hlt
    rw [(List.getElem?_eq_some_iff.1 ha).2, (List.getElem?_eq_some_iff.1 hb).2] at hp
    omega
  · rw [ha] at hb; cases hb; exact Int.le_refl _
theorem rise_ends {L : List Int} {n : Nat} {a b : Int} (hn : L.length = n + 1) (h : riseN L = true) (ha : L[0]? = some a) (hb : L[n]? = some b) (h0 : 0 ≤ a) (h3 : b ≤ 3) : ∀ x ∈ L, 0 ≤ x ∧ x ≤ 3 := by
  intro x hx
  obtain ⟨i, hi, rfl⟩ := List.getElem_of_mem hx
  have e := List.getElem?_eq_getElem hi
  have h1 := rise_mid h (Nat.zero_le i) ha e
  have h2 := rise_mid h (j := n) (by omega) e hb
  omega
/-- A Deal. -/
structure Dd where
  t : Int
  q : Int
  Y : List Yd
  O : List Int
  V : List Int
  s : Int
def dB (d : Dd) : Bool := dealB d.t d.q d.Y d.O d.V d.s
def DP (d : Dd) : Prop := DealP d.t d.q d.Y d.O d.V d.s
theorem dB_iff {d : Dd} : dB d = true ↔ DP d := deal_iff
/-- Where a Shard stands in a list, -1 where it doesn't. -/
def atN : List Int → Int → Int → Int
  | [], _, _ => -1
  | a :: t, x, k => if a = x then k else atN t x (k + 1)
theorem atN_none {L : List Int} {x : Int} {k : Int} (h : ∀ a ∈ L, a ≠ x) : atN L x k = -1 := by
  induction L generalizing k with
  | nil => rfl
  | cons a t ih => rw [atN, if_neg (h a (by simp))]; exact ih (fun b hb => h b (by simp [hb]))
theorem atN_some {L : List Int} {x : Int} {i : Nat} {k : Int} (h1 : ∀ j a, j < i → L[j]? = some a → a ≠ x) (h2 : L[i]? = some x) : atN L x k = k + i := by
  induction L generalizing k i with
  | nil => simp at h2
  | cons a t ih =>
    cases i with
    | zero => simp at h2; rw [atN, if_pos h2]; simp
    | succ j =>
      rw [atN, if_neg (h1 0 a (by omega) (by simp)), ih (i := j) (fun m b hm hb => h1 (m + 1) b (by omega) (by simpa using hb)) (by simpa using h2)]
      omega
theorem atN_bd {L : List Int} {x k : Int} (hk : 0 ≤ k) : atN L x k = -1 ∨ (k ≤ atN L x k ∧ atN L x k < k + L.length) := by
  induction L generalizing k with
  | nil => exact .inl rfl
  | cons a t ih =>
    rw [atN]
    split
    · right; simp; omega
    · rcases ih (k := k + 1) (by omega) with h | h
      · exact .inl h
      · right; simp only [List.length_cons]; omega
def voteN (yes : Bool) : Int := if yes then 1 else 2
/-- What becomes of a Deal: whether it did, and as it is then. -/
def votedD (d : Dd) (x : Int) (yes : Bool) : Dd × Bool :=
  let k := atN d.O x 0
  if d.s = 0 ∧ 0 ≤ k ∧ d.V.getD k.toNat 0 = 0 then ({d with V := d.V.set k.toNat (voteN yes)}, true) else (d, false)
def decidedD (d : Dd) (off : Bool) : Dd × Bool :=
  if d.s = 0 then
    if off || d.V.any (fun v => decide (v = 2)) then ({d with s := 2}, true)
    else if d.V.all (fun v => decide (v = 1)) then ({d with s := 1}, true)
    else (d, false)
  else (d, false)
def forgottenD (d : Dd) : Dd := if d.s = 0 then {d with V := List.replicate d.V.length 0} else d
/-- The same of a standing: four votes and a state. -/
def votedS (a : List Int) (s k : Int) (yes : Bool) : List Int × Int :=
  if 0 ≤ k ∧ s = 0 ∧ a.getD k.toNat 0 = 0 then (a.set k.toNat (voteN yes), s) else (a, s)
def decidedS (a : List Int) (s : Int) (off : Bool) (al : List Int) : List Int × Int :=
  if s = 0 then
    if off || a.any (fun v => decide (v = 2)) then (a, 2) else if a = al then (a, 1) else (a, s)
  else (a, s)
def forgottenS (a : List Int) (s : Int) : List Int × Int := if s = 0 then ([0, 0, 0, 0], s) else (a, s)
def becameD (d : Dd) (p : List Int × Int) : Dd × Bool :=
  ({d with V := p.1.take d.V.length, s := p.2}, decide (¬ (p.1 = vt d.V ∧ p.2 = d.s)))
theorem vt_take {V : List Int} (h : V.length ≤ 4) : (vt V).take V.length = V := by
  match V, h with
  | [], _ => simp
  | [a], _ => simp [vt]
  | [a, b], _ => simp [vt]
  | [a, b, c], _ => simp [vt]
  | [a, b, c, d], _ => simp [vt]
  | a :: b :: c :: d :: e :: t, h => simp at h
theorem vt_getD {V : List Int} {k : Nat} (h : k < 4) : (vt V).getD k 0 = V.getD k 0 := by
  match k, h with
  | 0, _ => simp [vt]
  | 1, _ => simp [vt]
  | 2, _ => simp [vt]
  | 3, _ => simp [vt]
theorem vt_len (V : List Int) : (vt V).length = 4 := rfl
theorem vt_ext {a b : List Int} (h : ∀ i, i < 4 → a.getD i 0 = b.getD i 0) : vt a = vt b := by
  unfold vt; rw [h 0 (by decide), h 1 (by decide), h 2 (by decide), h 3 (by decide)]
theorem vt_set {V : List Int} {k : Nat} {x : Int} (h : k < V.length) : (vt V).set k x = vt (V.set k x) := by
  apply List.ext_getElem (by simp [vt])
  intro i h1 h2
  have hi : i < 4 := by simpa [vt_len] using h1
  have e1 := vt_getD (V := V.set k x) hi
  have e2 := vt_getD (V := V) hi
  rw [List.getD_eq_getElem?_getD, List.getElem?_eq_getElem h2] at e1
  rw [List.getD_eq_getElem?_getD, List.getElem?_eq_getElem (by simpa [vt_len] using hi)] at e2
  simp only [Option.getD_some] at e1 e2
  rw [e1, List.getElem_set, e2]
  by_cases e : k = i
  · subst e; rw [if_pos rfl, List.getD_eq_getElem?_getD, List.getElem?_set_self h]; rfl
  · rw [if_neg e, List.getD_eq_getElem?_getD, List.getD_eq_getElem?_getD, List.getElem?_set_ne e]
theorem vt_any {V : List Int} (h : V.length ≤ 4) : (vt V).any (fun v => decide (v = 2)) = V.any (fun v => decide (v = 2)) := by
  match V, h with
  | [], _ => simp [vt]
  | [a], _ => simp [vt]
  | [a, b], _ => simp [vt]
  | [a, b, c], _ => simp [vt]
  | [a, b, c, d], _ => simp [vt]
  | a :: b :: c :: d :: e :: t, h => simp at h
theorem set_eq {V : List Int} {k : Nat} (h : k < V.length) {x : Int} (hx : ¬ V.getD k 0 = x) : ¬ V.set k x = V := by
  intro e
  have h1 : (V.set k x)[k]? = some x := List.getElem?_set_self h
  rw [e] at h1
  rw [List.getD_eq_getElem?_getD, h1] at hx
  exact hx rfl
theorem became_voted {d : Dd} (h : DP d) (x : Int) (yes : Bool) : becameD d (votedS (vt d.V) d.s (atN d.O x 0) yes) = votedD d x yes := by
  have hV : d.V.length ≤ 4 := by have := h.un; have := h.n.2; omega
  have hO : d.O.length = d.V.length := by rw [h.un, h.on]
  have hb := atN_bd (L := d.O) (x := x) (k := 0) (by decide)
  unfold votedS votedD becameD
  dsimp only
  generalize atN d.O x 0 = k at hb ⊢
  have ht := vt_take hV
  by_cases c : d.s = 0 ∧ 0 ≤ k ∧ d.V.getD k.toNat 0 = 0
  · have hk : k.toNat < d.V.length := by omega
    rw [if_pos ⟨c.2.1, c.1, by rw [vt_getD (by omega)]; exact c.2.2⟩]
    dsimp only
    rw [if_pos c]
    rw [vt_set hk]
    have hl : (d.V.set k.toNat (voteN yes)).length = d.V.length := by simp
    have ht2 := vt_take (V := d.V.set k.toNat (voteN yes)) (by rw [hl]; exact hV)
    rw [hl] at ht2
    rw [ht2]
    have hne : ¬ vt (d.V.set k.toNat (voteN yes)) = vt d.V := by
      intro e
      have e2 := congrArg (List.take d.V.length) e
      rw [ht2, ht] at e2
      refine set_eq hk (x := voteN yes) ?_ e2
      rw [c.2.2]; unfold voteN; cases yes <;> decide
    simp [hne]
  · have c' : ¬ (0 ≤ k ∧ d.s = 0 ∧ (vt d.V).getD k.toNat 0 = 0) := by
      intro ⟨a1, a2, a3⟩
      exact c ⟨a2, a1, by rw [← vt_getD (V := d.V) (k := k.toNat) (by omega)]; exact a3⟩
    rw [if_neg c']
    dsimp only
    rw [if_neg c, ht]
    simp
theorem became_decided {d : Dd} (h : DP d) (off : Bool) : becameD d (decidedS (vt d.V) d.s off (yesN d.Y.length)) = decidedD d off := by
  have hV : d.V.length ≤ 4 := by have := h.un; have := h.n.2; omega
  have ht := vt_take hV
  have hall : (vt d.V = yesN d.Y.length) ↔ d.V.all (fun v => decide (v = 1)) = true := by
    rw [← h.un, vt_yes hV, List.all_eq_true]; simp
  unfold decidedS decidedD becameD
  by_cases c : d.s = 0
  · simp only [if_pos c, vt_any hV]
    cases e : (off || d.V.any (fun v => decide (v = 2)))
    · simp only [Bool.false_eq_true, if_false]
      by_cases e2 : vt d.V = yesN d.Y.length
      · rw [if_pos e2, if_pos (hall.1 e2)]; simp [ht, c]
      · rw [if_neg e2, if_neg (fun hh => e2 (hall.2 hh))]; simp [ht]
    · simp only [if_true]; simp [ht, c]
  · simp only [if_neg c, ht]; simp
theorem zeros_take {n : Nat} (h : n ≤ 4) : ([0, 0, 0, 0] : List Int).take n = List.replicate n 0 := by
  match n, h with
  | 0, _ => rfl
  | 1, _ => rfl
  | 2, _ => rfl
  | 3, _ => rfl
  | 4, _ => rfl
theorem became_forgotten {d : Dd} (h : DP d) : (becameD d (forgottenS (vt d.V) d.s)).1 = forgottenD d := by
  have hV : d.V.length ≤ 4 := by have := h.un; have := h.n.2; omega
  unfold forgottenS forgottenD becameD
  by_cases c : d.s = 0
  · simp only [if_pos c, zeros_take hV]
  · simp only [if_neg c, vt_take hV]
end Go.Proofs.YtobbankkfplooaaGreat.K.G
