/-
  Seals: unlike keys, or texts that are unlike in one byte, have unlike seals; a chain of one text more.
-/
import Derived.Test.YtmphjakdmknkhaaA5
namespace Go.Proofs.Ytmphjakdmknkhaa
open Go.RowKit Go.Joins

theorem inj_mod {p q u t x y c : Int} (hu : q * u = 1 + p * t) (h : (x * q + c) % p = (y * q + c) % p) : ∃ m, x - y = p * m := by
  have h' := Int.emod_eq_emod_iff_emod_sub_eq_zero.mp h
  obtain ⟨k, hk⟩ := Int.dvd_of_emod_eq_zero h'
  refine ⟨u * k - t * (x - y), ?_⟩
  have e1 : (x - y) * q = p * k := by rw [← hk]; grind
  have e2 : (x - y) * (q * u) = p * k * u := by rw [← e1]; grind
  rw [hu] at e2
  grind
theorem st_inj {x y b : Int} (hx : 0 ≤ x ∧ x ≤ 2147483646) (hy : 0 ≤ y ∧ y ≤ 2147483646) (h : st x b = st y b) : x = y := by
  unfold st at h
  rw [Int.add_assoc, Int.add_assoc] at h
  obtain ⟨m, hm⟩ := inj_mod (p := 2147483647) (q := 1000003) (u := 1523789695) (t := 709572) (by decide) h
  clear h
  omega
theorem st_byte {x b c : Int} (hb : 0 ≤ b ∧ b ≤ 255) (hc : 0 ≤ c ∧ c ≤ 255) (h : st x b = st x c) : b = c := by
  unfold st at h
  omega
theorem hs_keys {s : ByteArray} {a b : Int} (ha : 0 ≤ a ∧ a ≤ 2147483646) (hb : 0 ≤ b ∧ b ≤ 2147483646) (hne : a ≠ b) : ∀ k, hs s a k ≠ hs s b k
  | 0 => hne
  | k + 1 => fun e => hs_keys ha hb hne k (st_inj (hs_bd ha k) (hs_bd hb k) e)
theorem hs_same {s t : ByteArray} {a : Int} {m : Nat} (h : ∀ j, j < m → bt s j = bt t j) : ∀ k, k ≤ m → hs s a k = hs t a k
  | 0, _ => rfl
  | k + 1, hk => by
    show st _ _ = st _ _
    rw [hs_same h k (by omega), h k (by omega)]
theorem hs_byte {s t : ByteArray} {a : Int} {m : Nat} (ha : 0 ≤ a ∧ a ≤ 2147483646) (h : ∀ j, j ≠ m → bt s j = bt t j) (hne : bt s m ≠ bt t m) : ∀ k, m < k → hs s a k ≠ hs t a k
  | k + 1, hk => by
    intro e
    by_cases h0 : k = m
    · subst h0
      have e' : st (hs s a k) (bt s k) = st (hs t a k) (bt t k) := e
      rw [hs_same (fun j hj => h j (by omega)) k (Nat.le_refl _)] at e'
      exact hne (st_byte (bt_bd s k) (bt_bd t k) e')
    · have e' : st (hs s a k) (bt s k) = st (hs t a k) (bt t k) := e
      rw [h k h0] at e'
      exact hs_byte ha h hne k (by omega) (st_inj (hs_bd ha k) (hs_bd ha k) e')
theorem slI_next {a : Int} {s : ByteArray} (h0 : 0 ≤ slI a s) (hm : a ≠ 2147483646) : slI (a + 1) s ≠ slI a s := by
  unfold slI at h0 ⊢
  by_cases hv : inB a = true
  · have ha := inB_t.mp hv
    have hv' : inB (a + 1) = true := inB_t.mpr (by omega)
    rw [if_pos hv', if_pos hv]
    exact hs_keys (inB_t.mp hv') ha (by omega) _
  · rw [if_neg hv] at h0; omega
theorem slI_byte {a : Int} {s t : ByteArray} {m : Nat} (h0 : 0 ≤ slI a s) (hz : t.size = s.size) (hm : m < s.size) (h : ∀ j, j ≠ m → bt t j = bt s j) (hne : bt t m ≠ bt s m) : slI a t ≠ slI a s := by
  unfold slI at h0 ⊢
  by_cases hv : inB a = true
  · rw [if_pos hv, if_pos hv, hz]
    exact hs_byte (inB_t.mp hv) h hne _ (by omega)
  · rw [if_neg hv] at h0; omega
theorem chI_more {k : Int} {L : List ByteArray} {t : ByteArray} (h0 : 0 ≤ chI k L) (hl : L.length < 10) : chI k (L ++ [t]) = lnI (chI k L) t := by
  unfold chI at h0 ⊢
  by_cases hv : inB k = true
  · rw [if_pos ⟨hv, by simp; omega⟩, if_pos ⟨hv, by omega⟩, List.foldl_append]; rfl
  · rw [if_neg (fun h => hv h.1)] at h0; omega
end Go.Proofs.Ytmphjakdmknkhaa
