/-
  A list of Spots, turned about: slices.Reverse.
-/
import Derived.Test.YtkpkigllabhejaaC0
namespace Go.Proofs.Ytkpkigllabhejaa
open Go.RowKit Go.Joins

theorem gdrew {X Y : World} {r : Option Nat} (h : X.grownBy Y r) : X.grownBy Y.drew r := ⟨h.os, h.tape, h.output, h.size, h.block⟩
/-- M is L, turned about from both ends as far as k. -/
def Rvd (L M : List T2) (k : Nat) : Prop := M.length = L.length ∧ ∀ t, t < L.length → M[t]? = if t < k ∨ L.length ≤ t + k then L[L.length - 1 - t]? else L[t]?
theorem Rvd.start (L : List T2) : Rvd L L 0 := ⟨rfl, fun t ht => by rw [if_neg (by omega)]⟩
theorem Rvd.next {L M : List T2} {k q : Nat} (h : Rvd L M k) (hq : q + k + 1 = L.length) (hlt : k < q) {a b : T2} (ha : M[q]? = some a) (hb : M[k]? = some b) : Rvd L ((M.set k a).set q b) (k + 1) := by
  obtain ⟨h1, h2⟩ := h
  have e1 := h2 q (by omega)
  rw [if_neg (by omega), ha] at e1
  have e2 := h2 k (by omega)
  rw [if_neg (by omega), hb] at e2
  refine ⟨by simp [h1], fun t ht => ?_⟩
  by_cases tq : q = t
  · subst tq
    rw [List.getElem?_set_self (by simp; omega), if_pos (by omega), show L.length - 1 - q = k by omega, e2]
  · rw [List.getElem?_set_ne tq]
    by_cases tk : k = t
    · subst tk
      rw [List.getElem?_set_self (by omega), if_pos (by omega), show L.length - 1 - k = q by omega, e1]
    · rw [List.getElem?_set_ne tk, h2 t ht]
      by_cases c : t < k ∨ L.length ≤ t + k
      · rw [if_pos c, if_pos (by omega)]
      · rw [if_neg c, if_neg (by omega)]
theorem Rvd.done {L M : List T2} {k : Nat} (h : Rvd L M k) (hk : L.length ≤ k + k + 1) : M = L.reverse := by
  obtain ⟨h1, h2⟩ := h
  refine List.ext_getElem? fun t => ?_
  by_cases ht : t < L.length
  · rw [h2 t ht, List.getElem?_reverse ht]
    split
    · rfl
    · congr 1; omega
  · rw [List.getElem?_eq_none (by omega), List.getElem?_eq_none (by simp; omega)]

set_option maxRecDepth 100000 in
set_option maxHeartbeats 2000000 in
theorem reverse_any (base g cap : Nat) (L : List T2) (w : World) (hL : Ow w base (.slice (some ⟨g, 0, none⟩) L.length cap) L) (hn : L.length ≤ 10000000) (hn1 : 1 ≤ L.length) :
    Calls Try.prog 37 #[.slice (some ⟨g, 0, none⟩) L.length cap] w fun e w' => e = .returned (.tuple #[]) ∧ Ow w' base (.slice (some ⟨g, 0, none⟩) L.length cap) L.reverse ∧ w.grownBy w' (some g) := by
  go_enter Try.func37, Try.ntmps37
  go_wp2
  go_loopw [2, 3] (fun i j wr => ∃ (k : Nat) (m : Int) (M : List T2), i = .int .i64 k ∧ j = .int .i64 m ∧ Hid (m = (L.length : Int) - 1 - k) ∧ k ≤ L.length ∧ Hid (Rvd L M k) ∧ Ow wr base (.slice (some ⟨g, 0, none⟩) L.length cap) M ∧ w.grownBy wr (some g)) (fun i _ _ => L.length - (intOf i).toNat)
  case atStart => exact ⟨0, _, L, rfl, rfl, by unfold Hid; omega, by omega, Rvd.start L, hL, ⟨rfl, rfl, rfl, Nat.le_refl _, fun _ _ _ => rfl⟩⟩
  case round =>
    obtain ⟨k, m, M, rfl, rfl, hm, hk, hR, hO, hg⟩ := hrel
    by_cases hlt : (k : Int) < m
    · obtain ⟨q, rfl⟩ : ∃ q : Nat, m = q := ⟨m.toNat, by omega⟩
      have hq : Hid (q + k + 1 = L.length) := by unfold Hid at hm ⊢; omega
      have hqL : q < L.length := by unfold Hid at hq; omega
      have hkL : k < L.length := by omega
      have hML : Hid (M.length = L.length) := hR.1
      obtain ⟨a, ha⟩ : ∃ a, M[q]? = some a := ⟨M[q]'(by unfold Hid at hML; omega), List.getElem?_eq_getElem _⟩
      obtain ⟨b, hb⟩ : ∃ b, M[k]? = some b := ⟨M[k]'(by unfold Hid at hML; omega), List.getElem?_eq_getElem _⟩
      obtain ⟨a0, a1⟩ := (Ow.cs hO).2 q a ha
      obtain ⟨b0, b1⟩ := (Ow.cs hO).2 k b hb
      simp only [Nat.zero_add] at a0 a1 b0 b1
      have hO2 := hO
      unfold Ow at hO2
      rw [show M.length = L.length from hML] at hO2
      have hf := hO2.frozenAt
      clear hm
      have hkq : k < q := by omega
      have n1 : ¬ q * 2 = k * 2 := by omega
      have n2 : ¬ q * 2 = k * 2 + 1 := by omega
      have n3 : ¬ q * 2 + 1 = k * 2 := by omega
      have n4 : ¬ q * 2 + 1 = k * 2 + 1 := by omega
      go_wp2
      go_region
      go_wp2
      go_roundw
      case rel =>
        obtain ⟨s1, t1⟩ := hO2.stored (k * 2) (.int .i64 a.x)
        obtain ⟨s2, t2⟩ := s1.stored (k * 2 + 1) (.int .i64 a.y)
        obtain ⟨s3, t3⟩ := s2.stored (q * 2) (.int .i64 b.x)
        obtain ⟨s4, t4⟩ := s3.stored (q * 2 + 1) (.int .i64 b.y)
        have hq' : q + k + 1 = L.length := hq
        have hML' : M.length = L.length := hML
        refine ⟨k + 1, _, (M.set k a).set q b, by go_num, rfl, by unfold Hid; omega, by omega, Rvd.next hR hq' hkq ha hb, ?_, ?_⟩
        · rw [flat_set a (by omega), flat_set b (by simp; omega)] at s4
          unfold Ow; rw [List.length_set, List.length_set, hML']
          exact own_of_below s4 (Below.refl _ _).drew
        · exact gdrew (gtrans hg (gtrans t1 (gtrans t2 (gtrans t3 t4))))
      case measure => simp [intOf]; omega
    · go_wp2
      go_end0
      have hm' : m = (L.length : Int) - 1 - k := hm
      obtain rfl := Rvd.done hR (by omega)
      exact ⟨rfl, hO, hg⟩
end Go.Proofs.Ytkpkigllabhejaa
