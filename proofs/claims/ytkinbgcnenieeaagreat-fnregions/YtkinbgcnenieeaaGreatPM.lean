/-
  Papers: the mathematics: Clauses, their numbers, their text, how long it is; Papers.
-/
import Derived.Lib.ItoaNum
import Derived.Lib.ItoaMem
import Derived.Lib.Join
import Derived.Test.YtkinbgcnenieeaaGreatML6
namespace Go.Proofs.YtkinbgcnenieeaaGreat
open Go.RowKit Go.Joins M

theorem t3_bd {c : T3} (h : c.ok = true) : 0 ≤ c.l ∧ c.l ≤ 8 ∧ 0 ≤ c.x ∧ c.x ≤ 255 ∧ 0 ≤ c.y ∧ c.y ≤ 255 := by
  obtain ⟨h0, h8, hx, hx1, hy, hy1⟩ := M.cellB_t.mp h
  have := (M.pw h0 h8).2
  omega

structure Cl where
  rd : List T3
  wr : List T3
  un : Int
def timeB (n : Int) : Bool := decide (0 ≤ n ∧ n ≤ 100000)
theorem timeB_t {n : Int} : timeB n = true ↔ (0 ≤ n ∧ n ≤ 100000) := by unfold timeB; exact decide_eq_true_iff
def ofB (L : List T3) : Bool := decide (L.length ≤ 8) && okL L
/-- Is it a right Clause? -/
def clB (c : Cl) : Bool := timeB c.un && (ofB c.rd && ofB c.wr)
def n3 (c : T3) : List Int := [c.l, c.x, c.y]
def nL (L : List T3) : List Int := (L.length : Int) :: L.flatMap n3
/-- The numbers that a Clause's text tells. -/
def nums (c : Cl) : List Int := c.un :: (nL c.rd ++ nL c.wr)
/-- A number's text. -/
def dgS (n : Int) : ByteArray := ⟨(Lib.itoa n).toArray⟩
def blank : List UInt8 := [32]
/-- Numbers with blanks between. -/
def txL (ns : List Int) : List UInt8 := Lib.join (ns.map Lib.itoa) blank
def tx (c : Cl) : ByteArray := ⟨(txL (nums c)).toArray⟩
def ctx (c : Cl) : ByteArray := if clB c = true then tx c else ByteArray.empty

theorem itoa_len {n : Int} {k : Nat} (h0 : 0 ≤ n) (h : n < ((10 ^ k : Nat) : Int)) (hk : 1 ≤ k) : (Lib.itoa n).length ≤ k := by
  obtain ⟨u, rfl⟩ : ∃ u : Nat, n = u := ⟨n.toNat, by omega⟩
  rw [Lib.itoa_nonneg, Lib.decDigits_length]
  have hu : u < 10 ^ k := by omega
  clear h0 h
  induction k generalizing u with
  | zero => omega
  | succ k ih =>
    by_cases h10 : u < 10
    · rw [Lib.nDigits_small h10]; omega
    · rw [Lib.nDigits_big h10]
      have hk1 : 1 ≤ k := by
        rcases Nat.eq_zero_or_pos k with rfl | h
        · simp at hu; omega
        · exact h
      have := ih hk1 (u / 10) (by rw [Nat.pow_succ] at hu; omega)
      omega
theorem lens_append (A B : List (List UInt8)) : Lib.lens (A ++ B) = Lib.lens A + Lib.lens B := by simp [Lib.lens]
theorem okL_t {L : List T3} (h : okL L = true) : ∀ c ∈ L, c.ok = true := by
  unfold okL at h
  rw [Bool.and_eq_true] at h
  exact List.all_eq_true.mp h.2
theorem lens_cells : ∀ {L : List T3}, (∀ c ∈ L, c.ok = true) → Lib.lens ((L.flatMap n3).map Lib.itoa) ≤ 7 * L.length
  | [], _ => by simp [Lib.lens]
  | c :: t, h => by
    have ih := lens_cells (L := t) fun x hx => h x (List.mem_cons_of_mem _ hx)
    have hc := t3_bd (h c (List.mem_cons_self ..))
    have l1 := itoa_len (n := c.l) (k := 1) hc.1 (by have := hc.2.1; omega) (by omega)
    have l2 := itoa_len (n := c.x) (k := 3) hc.2.2.1 (by have := hc.2.2.2.1; omega) (by omega)
    have l3 := itoa_len (n := c.y) (k := 3) hc.2.2.2.2.1 (by have := hc.2.2.2.2.2; omega) (by omega)
    rw [List.flatMap_cons, List.map_append, lens_append]
    simp only [n3, List.map_cons, List.map_nil, Lib.lens, List.sum_cons, List.sum_nil, List.length_cons] at *
    omega
theorem nL_len (L : List T3) : (nL L).length = 1 + 3 * L.length := by
  unfold nL
  rw [List.length_cons, List.length_flatMap]
  have : L.map (fun a => (n3 a).length) = List.replicate L.length 3 := by
    rw [List.eq_replicate_iff]; simp [n3]
  rw [this]; simp; omega
theorem lens_nL {L : List T3} (h : ofB L = true) : Lib.lens ((nL L).map Lib.itoa) ≤ 57 ∧ (nL L).length ≤ 25 := by
  unfold ofB at h
  rw [Bool.and_eq_true, decide_eq_true_iff] at h
  have h1 := lens_cells (okL_t h.2)
  have l1 := itoa_len (n := (L.length : Int)) (k := 1) (by omega) (by omega) (by omega)
  refine ⟨?_, by rw [nL_len]; omega⟩
  unfold nL
  rw [List.map_cons]
  simp only [Lib.lens, List.map_cons, List.sum_cons] at *
  omega
theorem clB_t {c : Cl} (h : clB c = true) : (0 ≤ c.un ∧ c.un ≤ 100000) ∧ ofB c.rd = true ∧ ofB c.wr = true := by
  unfold clB at h
  rw [Bool.and_eq_true, Bool.and_eq_true] at h
  exact ⟨timeB_t.mp h.1, h.2⟩
theorem txL_len {c : Cl} (h : clB c = true) : (txL (nums c)).length ≤ 170 := by
  obtain ⟨h1, h2, h3⟩ := clB_t h
  have a := lens_nL h2
  have b := lens_nL h3
  have l1 := itoa_len (n := c.un) (k := 6) h1.1 (by have := h1.2; omega) (by omega)
  unfold txL nums
  rw [List.map_cons, Lib.join_length, List.length_map, List.length_append]
  have e : Lib.lens (Lib.itoa c.un :: (nL c.rd ++ nL c.wr).map Lib.itoa) = (Lib.itoa c.un).length + (Lib.lens ((nL c.rd).map Lib.itoa) + Lib.lens ((nL c.wr).map Lib.itoa)) := by
    rw [List.map_append, ← lens_append]; simp [Lib.lens]
  rw [e]
  show 1 * _ + _ ≤ 170
  omega
theorem tx_size {c : Cl} (h : clB c = true) : (tx c).size ≤ 170 := by
  have := txL_len h
  unfold tx
  show (txL (nums c)).toArray.size ≤ 170
  simpa using this
theorem ctx_size (c : Cl) : (ctx c).size ≤ 170 := by
  unfold ctx
  split
  · rename_i h; exact tx_size h
  · decide

/-- A Paper. -/
structure Pp where
  tn : Int
  cs : List Cl
  tag : Int
def tenB (n : Int) : Bool := decide (1 ≤ n ∧ n ≤ 99)
def clsB (L : List Cl) : Bool := decide (1 ≤ L.length ∧ L.length ≤ 6) && L.all clB
theorem txL_one (n : Int) : txL [n] = Lib.itoa n := by unfold txL; exact Lib.join_one ..
theorem txL_snoc {A : List Int} (h : A ≠ []) (n : Int) : txL (A ++ [n]) = txL A ++ [32] ++ Lib.itoa n := by
  obtain ⟨a, r, rfl⟩ : ∃ a r, A = a :: r := by
    cases A with
    | nil => exact absurd rfl h
    | cons a r => exact ⟨a, r, rfl⟩
  unfold txL
  rw [List.cons_append, List.map_cons, Lib.join_cons, List.map_cons, Lib.join_cons, List.map_append]
  simp [Lib.joinTail, blank]
/-- The digits of a number, none of 0. -/
def dd (m : Nat) : List UInt8 := if m = 0 then [] else Lib.decDigits m
theorem dd_step {m : Nat} (h : m ≠ 0) : dd m = dd (m / 10) ++ [UInt8.ofNat (48 + m % 10)] := by
  unfold dd
  rw [if_neg h]
  by_cases h10 : m < 10
  · rw [if_pos (by omega), Lib.decDigits_one h10, Nat.mod_eq_of_lt h10]; rfl
  · rw [if_neg (by omega), Lib.decDigits, dif_neg h10]
theorem dec_step (m : Nat) : Lib.decDigits m = dd (m / 10) ++ [UInt8.ofNat (48 + m % 10)] := by
  by_cases h : m = 0
  · subst h; rw [Lib.decDigits_one (by omega)]; rfl
  · rw [← dd_step h, dd, if_neg h]
theorem txL_take {ns : List Int} {k : Nat} (hk : k < ns.length) (h0 : k ≠ 0) : txL (ns.take (k + 1)) = txL (ns.take k) ++ [32] ++ Lib.itoa (ns.getD k 0) := by
  have e : ns.take (k + 1) = ns.take k ++ [ns.getD k 0] := by rw [List.take_succ_eq_append_getElem hk]; simp [List.getD, hk]
  rw [e, txL_snoc]
  intro h
  have h2 := congrArg List.length h
  rw [List.length_take, List.length_nil] at h2
  omega
end Go.Proofs.YtkinbgcnenieeaaGreat
