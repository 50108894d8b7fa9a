/-
  Numbers' texts: the mathematics.
-/
import Derived.Lib.ItoaNum
import Derived.Lib.ItoaMem
import Derived.Lib.Join
import Derived.Test.YtgpfdoiiholncaaDoorKSA
namespace Go.Proofs.YtgpfdoiiholncaaDoor.K
open Go.RowKit Go.Joins

/-- A number's text. -/
def dgS (n : Int) : ByteArray := ⟨(Lib.itoa n).toArray⟩
def blank : List UInt8 := [32]
/-- Numbers with blanks between. -/
def txL (ns : List Int) : List UInt8 := Lib.join (ns.map Lib.itoa) blank
theorem itoa_len {n : Int} {k : Nat} (h0 : 0 ≤ n) (h : n < ((10 ^ k : Nat) : Int)) (hk : 1 ≤ k) : (Lib.itoa n).length ≤ k := by
  obtain ⟨u, rfl⟩ : ∃ u : Nat, n = u := ⟨n.toNat, by omega⟩
  rw [Lib.itoa_nonneg, Lib.decDigits_length]
  have hu : u < 10 ^ k := by omega
  clear h0 h
  induction k generalizing u with
  | zero => omega
  | succ k ih =>
    by_cases h10 : u < 10
    · rw [Lib.nDigits_small h10]; omega
    · rw [Lib.nDigits_big h10]
      have hk1 : 1 ≤ k := by
        rcases Nat.eq_zero_or_pos k with rfl | h
        · simp at hu; omega
        · exact h
      have := ih hk1 (u / 10) (by rw [Nat.pow_succ] at hu; omega)
      omega
theorem txL_one (n : Int) : txL [n] = Lib.itoa n := by unfold txL; exact Lib.join_one ..
theorem txL_snoc {A : List Int} (h : A ≠ []) (n : Int) : txL (A ++ [n]) = txL A ++ [32] ++ Lib.itoa n := by
  obtain ⟨a, r, rfl⟩ : ∃ a r, A = a :: r := by
    cases A with
    | nil => exact absurd rfl h
    | cons a r => exact ⟨a, r, rfl⟩
  unfold txL
  rw [List.cons_append, List.map_cons, Lib.join_cons, List.map_cons, Lib.join_cons, List.map_append]
  simp [Lib.joinTail, blank]
/-- The digits of a number, none of 0. -/
def dd (m : Nat) : List UInt8 := if m = 0 then [] else Lib.decDigits m
theorem dd_step {m : Nat} (h : m ≠ 0) : dd m = dd (m / 10) ++ [UInt8.ofNat (48 + m % 10)] := by
  unfold dd
  rw [if_neg h]
  by_cases h10 : m < 10
  · rw [if_pos (by omega), Lib.decDigits_one h10, Nat.mod_eq_of_lt h10]; rfl
  · rw [if_neg (by omega), Lib.decDigits, dif_neg h10]
theorem dec_step (m : Nat) : Lib.decDigits m = dd (m / 10) ++ [UInt8.ofNat (48 + m % 10)] := by
  by_cases h : m = 0
  · subst h; rw [Lib.decDigits_one (by omega)]; rfl
  · rw [← dd_step h, dd, if_neg h]
theorem txL_take {ns : List Int} {k : Nat} (hk : k < ns.length) (h0 : k ≠ 0) : txL (ns.take (k + 1)) = txL (ns.take k) ++ [32] ++ Lib.itoa (ns.getD k 0) := by
  have e : ns.take (k + 1) = ns.take k ++ [ns.getD k 0] := by rw [List.take_succ_eq_append_getElem hk]; simp [List.getD, hk]
  rw [e, txL_snoc]
  intro h
  have h2 := congrArg List.length h
  rw [List.length_take, List.length_nil] at h2
  omega
end Go.Proofs.YtgpfdoiiholncaaDoor.K
