/-
  Whether one of a list of Cells has another Cell: the program's and the spec's looks; the lists are right.
-/
import Derived.Test.YtkinbgcnenieeaaGreatDoorML3
namespace Go.Proofs.YtkinbgcnenieeaaGreatDoor.M
open Go.RowKit Go.Joins

theorem i64_and1 (n : Int) : bits .and .i64 n 1 = n % 2 := by
  have h1 : (BitVec.ofInt 64 1).toNat = 2 ^ 1 - 1 := by decide
  have key : (BitVec.ofInt 64 n &&& BitVec.ofInt 64 1).toNat = (n % ((2 ^ 64 : Nat) : Int)).toNat % 2 ^ 1 := by
    rw [BitVec.toNat_and, BitVec.toNat_ofInt, h1, Nat.and_two_pow_sub_one_eq_mod]
  show IntKind.i64.wrap ((BitVec.ofInt 64 n &&& BitVec.ofInt 64 1).toNat : Nat) = n % 2
  rw [key, IntKind.wrap_i64]
  omega
theorem i64_or_nat (a b : Nat) (ha : a < 2 ^ 40) (hb : b < 2 ^ 40) : bits .or .i64 (a : Int) (b : Int) = ((a ||| b : Nat) : Int) := by
  have e1 : ((a : Int) % ((2 ^ 64 : Nat) : Int)).toNat = a := by omega
  have e2 : ((b : Int) % ((2 ^ 64 : Nat) : Int)).toNat = b := by omega
  have key : (BitVec.ofInt 64 (a : Int) ||| BitVec.ofInt 64 (b : Int)).toNat = a ||| b := by
    rw [BitVec.toNat_or, BitVec.toNat_ofInt, BitVec.toNat_ofInt, e1, e2]
  have hl : a ||| b < 2 ^ 40 := Nat.or_lt_two_pow ha hb
  show IntKind.i64.wrap ((BitVec.ofInt 64 (a : Int) ||| BitVec.ofInt 64 (b : Int)).toNat : Nat) = _
  rw [key, IntKind.wrap_i64]
  omega
/-- A number below 2 ^ m, and a bit at m: together they are the sum. -/
theorem or_bit {n b : Int} {m : Nat} (hm : m ≤ 20) (h0 : 0 ≤ n) (h1 : n < 2 ^ m) (hb0 : 0 ≤ b) (hb1 : b ≤ 1) : bits .or .i64 n (b * 2 ^ m) = n + b * 2 ^ m := by
  obtain ⟨a, rfl⟩ := Int.eq_ofNat_of_zero_le h0
  obtain ⟨c, rfl⟩ := Int.eq_ofNat_of_zero_le hb0
  have hp : (2 : Int) ^ m = ((2 ^ m : Nat) : Int) := by simp
  have hle : 2 ^ m ≤ 2 ^ 20 := Nat.pow_le_pow_right (by decide) hm
  rw [hp] at h1 ⊢
  have ha : a < 2 ^ m := by omega
  have hc : c * 2 ^ m ≤ 1 * 2 ^ m := Nat.mul_le_mul_right _ (by omega)
  have e : ((c : Int) * ((2 ^ m : Nat) : Int)) = ((c * 2 ^ m : Nat) : Int) := by simp
  rw [e, i64_or_nat _ _ (by omega) (by omega)]
  have := Nat.two_pow_add_eq_or_of_lt ha c
  rw [Nat.or_comm, Nat.mul_comm c, ← this]
  omega

def zz (s t : Int) : Nat → Int
  | 0 => 0
  | k + 1 => zz s t k + 4 ^ k * (2 * (half t k % 2) + half s k % 2)
theorem pow4 (k : Nat) : (1 : Int) ≤ 4 ^ k := by
  induction k with
  | zero => decide
  | succ k ih => rw [Int.pow_succ]; omega
theorem zz_bd (s t : Int) : ∀ k : Nat, 0 ≤ zz s t k ∧ zz s t k < 4 ^ k
  | 0 => by simp [zz]
  | k + 1 => by
    obtain ⟨h1, h2⟩ := zz_bd s t k
    have hp := pow4 k
    have hv : 0 ≤ 2 * (half t k % 2) + half s k % 2 ∧ 2 * (half t k % 2) + half s k % 2 ≤ 3 := by omega
    rw [zz, Int.pow_succ]
    generalize 2 * (half t k % 2) + half s k % 2 = v at hv
    have h3 : 0 ≤ 4 ^ k * v := Int.mul_nonneg (by omega) hv.1
    have h4 : 4 ^ k * v ≤ 4 ^ k * 3 := Int.mul_le_mul_of_nonneg_left hv.2 (by omega)
    omega
theorem pow4_le {k : Nat} (h : k ≤ 9) : (4 : Int) ^ k ≤ 262144 := by
  have : k = 0 ∨ k = 1 ∨ k = 2 ∨ k = 3 ∨ k = 4 ∨ k = 5 ∨ k = 6 ∨ k = 7 ∨ k = 8 ∨ k = 9 := by omega
  rcases this with rfl | rfl | rfl | rfl | rfl | rfl | rfl | rfl | rfl | rfl <;> decide
theorem half8 {s : Int} (h0 : 0 ≤ s) (h1 : s ≤ 255) : half s 8 = 0 := by simp only [half]; omega
theorem zz9 {s t : Int} (h : spB s t = true) : zz s t 9 = zz s t 8 := by
  obtain ⟨a, b, c, d⟩ := spB_t.mp h
  rw [zz, half8 a b, half8 c d]; simp
theorem half_nn {s : Int} (h : 0 ≤ s) : ∀ k, 0 ≤ half s k
  | 0 => h
  | k + 1 => by have := half_nn h k; rw [half]; omega
theorem pow24 (k : Nat) : (2 : Int) ^ (2 * k) = 4 ^ k := by
  rw [Int.pow_mul]; rfl
/-- The spec's step. -/
theorem or_step {s t : Int} {k : Nat} (hk : k < 8) : bits .or .i64 (bits .or .i64 (zz s t k) (half s k % 2 * 2 ^ (2 * k))) (half t k % 2 * 2 ^ (2 * k + 1)) = zz s t (k + 1) := by
  obtain ⟨h1, h2⟩ := zz_bd s t k
  have e4 := pow24 k
  have hb : 0 ≤ half s k % 2 ∧ half s k % 2 ≤ 1 := by omega
  have hc : 0 ≤ half t k % 2 ∧ half t k % 2 ≤ 1 := by omega
  rw [zz]
  generalize half s k % 2 = b at hb
  generalize half t k % 2 = c at hc
  rw [or_bit (by omega) h1 (by rw [e4]; exact h2) hb.1 hb.2]
  have h3 : 0 ≤ b * 2 ^ (2 * k) := Int.mul_nonneg hb.1 (by rw [e4]; have := pow4 k; omega)
  have h4 : b * 2 ^ (2 * k) ≤ 1 * 2 ^ (2 * k) := Int.mul_le_mul_of_nonneg_right hb.2 (by rw [e4]; have := pow4 k; omega)
  rw [or_bit (by omega) (by omega) (by rw [Int.pow_succ, e4]; rw [e4] at h4; omega) hc.1 hc.2, Int.pow_succ, e4]
  rw [Int.mul_add, Int.mul_comm b, Int.mul_comm c, ← Int.mul_assoc]
  have e5 : (4 : Int) ^ k * 2 * c = 4 ^ k * 2 * c := rfl
  omega
end Go.Proofs.YtkinbgcnenieeaaGreatDoor.M
namespace Go.Proofs.YtkinbgcnenieeaaGreatDoor.M
open Go.RowKit Go.Joins

theorem bit_w {b : Int} {m : Nat} (hm : m ≤ 20) (h0 : 0 ≤ b) (h1 : b ≤ 1) : wrap64 (b * 2 ^ m) = b * 2 ^ m := by
  have hp : (2 : Int) ^ m = ((2 ^ m : Nat) : Int) := by simp
  have hle : 2 ^ m ≤ 2 ^ 20 := Nat.pow_le_pow_right (by decide) hm
  rw [hp]
  generalize 2 ^ m = P at hle
  have h3 : 0 ≤ b * (P : Int) := Int.mul_nonneg h0 (by omega)
  have h4 : b * (P : Int) ≤ 1 * (P : Int) := Int.mul_le_mul_of_nonneg_right h1 (by omega)
  exact w64 (by omega) (by omega)
def plI (x y : Int) : Int := 2 * (y % 2) + x % 2
def ordI (s t : Int) : Int := if spB s t then zz s t 8 else -1

theorem St.add {w W : World} {v : Nat} {vs : List Value} {t : TypeId} {l : List (Nat × List Value)} (h : St w W l) (hv : W.heap[v]? = some (.cells vs.toArray t)) : St w W ((v, vs) :: l) :=
  ⟨h.bel, ⟨(Array.getElem?_eq_some_iff.1 hv).1, fun o => by simp [World.frozen?, hv], hasAt_of _ _ (fun j u hj => by simp [World.cell?, hv]; simpa using hj)⟩, h.has⟩

theorem iCellAt8 {s t : Int} (h : spB s t = true) (w : World) :
    Calls Tryz.prog 81 #[.agg #[.int .i64 s, .int .i64 t], .int .i64 8] w fun e w' => e = .returned (.agg #[.int .i64 8, .int .i64 s, .int .i64 t]) ∧ Below w.heap.size w w' := by
  have hl : levB 8 = true := by decide
  have := iCellAt_any s t 8 w
  simp only [aL, aX, aY, h, hl, Bool.and_self, if_true] at this
  simpa using this

end Go.Proofs.YtkinbgcnenieeaaGreatDoor.M
namespace Go.Proofs.YtkinbgcnenieeaaGreatDoor.M
open Go.RowKit Go.Joins
attribute [local go_sem] Oper.semAt_some

theorem cell8_ok {s t : Int} (h : spB s t = true) : cellB 8 s t = true := by
  obtain ⟨a, b, c, d⟩ := spB_t.mp h
  exact cellB_t.mpr ⟨by decide, by decide, a, by show s < 256; omega, c, by show t < 256; omega⟩

end Go.Proofs.YtkinbgcnenieeaaGreatDoor.M
namespace Go.Proofs.YtkinbgcnenieeaaGreatDoor.M
open Go.RowKit Go.Joins

def insT (a b : T3) : Bool := insB a.l a.x a.y b.l b.x b.y
def haveB (L : List T3) (c : T3) : Bool := L.any (insT c)
theorem any_take {L : List T3} {f : T3 → Bool} {k : Nat} (hk : k < L.length) : (L.take (k + 1)).any f = ((L.take k).any f || f L[k]) := by
  rw [List.take_succ_eq_append_getElem hk, List.any_append]; simp
theorem any_yes {L : List T3} {f : T3 → Bool} {k : Nat} (hk : k < L.length) (h : f L[k] = true) : L.any f = true := List.any_eq_true.mpr ⟨_, List.getElem_mem hk, h⟩
theorem iInside_v {a b : T3} {v : Bool} (hv : insT a b = v) (w : World) :
    Calls Tryz.prog 92 #[.agg #[.int .i64 a.l, .int .i64 a.x, .int .i64 a.y], .agg #[.int .i64 b.l, .int .i64 b.x, .int .i64 b.y]] w fun e w' => e = .returned (.bool v) ∧ Below w.heap.size w w' := by
  subst hv; exact iInside_any a.l a.x a.y b.l b.x b.y w

set_option maxHeartbeats 1000000 in
theorem have_any (p : Option Addr) (cap : Nat) (L : List T3) (c : T3) (w : World) (hL : Sl w p L) (hn : L.length ≤ 10000000) :
    Calls Tryz.prog 80 #[.slice p L.length cap, .agg #[.int .i64 c.l, .int .i64 c.x, .int .i64 c.y]] w fun e w' => e = .returned (.bool (haveB L c)) ∧ Below w.heap.size w w' := by
  have hs0 := (St.nil w).push [.int .i64 c.l, .int .i64 c.x, .int .i64 c.y] 89
  go_enter Tryz.func80, Tryz.ntmps80
  go_wp2
  go_loopw [9] (fun i wr => ∃ k : Nat, k ≤ L.length ∧ i = .int .i64 k ∧ (L.take k).any (insT c) = false ∧ St w wr [(w.heap.size, [.int .i64 c.l, .int .i64 c.x, .int .i64 c.y])]) (fun i _ => L.length - (intOf i).toNat)
  case atStart => exact ⟨0, by omega, rfl, rfl, hs0⟩
  case round =>
    obtain ⟨k, hk, rfl, hall, hst⟩ := hrel
    have hk1 := hst.has
    simp [Has, HasAt] at hk1
    by_cases hlt : k < L.length
    · have hki : (k : Int) < L.length := by omega
      obtain ⟨g, off, rfl, hC⟩ := (hL.step hst.bel).at hlt
      obtain ⟨c0, c1, c2⟩ := hC.2 k L[k] (List.getElem?_eq_getElem hlt)
      cases hv : insT c L[k]
      · go_wp2_with (go_at_call 92; refine (iInside_v hv _).mono ?_; rintro e w1 ⟨rfl, hb2⟩)
        go_roundw
        case rel => exact ⟨k + 1, by omega, by go_num, by rw [any_take hlt, hall, hv]; rfl, ((hst.push _ _).step hb2).sub (by simp)⟩
        case measure => simp [intOf]; omega
      · go_wp2_with (go_at_call 92; refine (iInside_v hv _).mono ?_; rintro e w1 ⟨rfl, hb2⟩)
        go_ret
        exact ⟨ret_bool (by rw [haveB, any_yes hlt hv]), ((hst.push _ _).step hb2).bel⟩
    · obtain rfl : k = L.length := by omega
      go_wp2
      go_ret
      rw [List.take_length] at hall
      exact ⟨ret_bool (by rw [haveB, hall]), hst.bel⟩

set_option maxHeartbeats 1000000 in
theorem l3Cells_any (p : Option Addr) (cap : Nat) (L : List T3) (w : World) (hL : Sl w p L) (hn : L.length ≤ 10000000) :
    Calls Tryz.prog 62 #[.slice p L.length cap] w fun e w' => e = .returned (.bool (okL L)) ∧ Below w.heap.size w w' := by
  go_enter Tryz.func62, Tryz.ntmps62
  go_wp2
  go_loopw [3] (fun i wr => ∃ k : Nat, k ≤ L.length ∧ i = .int .i64 k ∧ (L.take k).all T3.ok = true ∧ Below w.heap.size w wr) (fun i _ => L.length - (intOf i).toNat)
  case atStart => exact ⟨0, by omega, rfl, rfl, Below.refl _ _⟩
  case round =>
    obtain ⟨k, hk, rfl, hall, hb⟩ := hrel
    by_cases hlt : k < L.length
    · have hki : (k : Int) < L.length := by omega
      obtain ⟨g, off, rfl, hC⟩ := (hL.step hb).at hlt
      obtain ⟨c0, c1, c2⟩ := hC.2 k L[k] (List.getElem?_eq_getElem hlt)
      cases hv : T3.ok L[k]
      · go_wp2_with (go_at_call 71; refine (sCellOk_v hv _).mono ?_; rintro e w1 ⟨rfl, hb2⟩)
        go_ret
        exact ⟨ret_bool (by rw [okL, all_no hlt hv, Bool.and_false]), bstep hb hb2 (Nat.le_refl _)⟩
      · go_wp2_with (go_at_call 71; refine (sCellOk_v hv _).mono ?_; rintro e w1 ⟨rfl, hb2⟩)
        go_roundw
        case rel => exact ⟨k + 1, by omega, by go_num, by rw [all_take hlt, hall, hv]; rfl, bstep hb hb2 (Nat.le_refl _)⟩
        case measure => simp [intOf]; omega
    · obtain rfl : k = L.length := by omega
      go_wp2
      go_ret
      rw [List.take_length] at hall
      exact ⟨ret_bool (by rw [okL, hall, Bool.and_true]; exact decide_eq_decide.mpr (by omega)), hb⟩
end Go.Proofs.YtkinbgcnenieeaaGreatDoor.M
