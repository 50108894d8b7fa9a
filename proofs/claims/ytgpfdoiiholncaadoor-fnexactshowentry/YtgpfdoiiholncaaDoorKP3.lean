/-
  Papers: a number's text and numbers' text, as the spec makes them.
-/
import Derived.Test.YtgpfdoiiholncaaDoorKP2
import Derived.Laws.IdiomStrings
namespace Go.Proofs.YtgpfdoiiholncaaDoor.K
open Go.RowKit Go.Joins
attribute [local go_sem] Oper.semAt_some

def emp : Value → Nat
  | .string s => if s.size = 0 then 1 else 0
  | _ => 0
/-- What the rounds keep: digits that are made, and the number that is left. -/
def dgI (n0 m : Nat) (t : List UInt8) : Prop := (t = [] ∧ m = n0) ∨ (t ≠ [] ∧ Lib.decDigits n0 = dd m ++ t)

theorem digit_cv (wr : World) (m : Nat) : (convert 62 9 (.slice (some ⟨wr.heap.size, 0, none⟩) 1 1)).run Tryd.prog (wr.alloc (.cells #[.int .u8 (48 + (m : Int) % 10)] 5)) = .ok (.string ⟨#[UInt8.ofNat (48 + m % 10)]⟩) (wr.alloc (.cells #[.int .u8 (48 + (m : Int) % 10)] 5)) := by
  refine run_convert_bytes_back (P := Tryd.prog) (wr.alloc (.cells #[.int .u8 (48 + (m : Int) % 10)] 5)) 62 9 5 ⟨wr.heap.size, 0, none⟩ 1 [UInt8.ofNat (48 + m % 10)] Tryd.underlying62 Tryd.underlying5 Tryd.underlying9 fun j hj => ?_
  have hj0 : j = 0 := by simp at hj; omega
  subst hj0
  have hm : m % 10 < 10 := Nat.mod_lt _ (by decide)
  have ea : (⟨wr.heap.size, 0, none⟩ : Addr).add 0 = ⟨wr.heap.size, 0, none⟩ := by unfold Addr.add; split <;> simp_all
  rw [ea, World.cell?_alloc_at _ _ _ _ rfl]
  simp
  omega
theorem cat_eq (l m : List UInt8) : (⟨l.toArray⟩ : ByteArray) ++ ⟨m.toArray⟩ = ⟨(l ++ m).toArray⟩ := by
  apply ByteArray.ext
  simp [ByteArray.data_append]
theorem dgI_step {n0 m : Nat} {t : List UInt8} (h : dgI n0 m t) (h2 : t = [] ∨ m ≠ 0) : dgI n0 (m / 10) (UInt8.ofNat (48 + m % 10) :: t) := by
  right
  refine ⟨by simp, ?_⟩
  rcases h with ⟨rfl, rfl⟩ | ⟨h3, h4⟩
  · exact dec_step m
  · rcases h2 with h2 | h2
    · exact absurd h2 h3
    · rw [h4, dd_step h2]; simp
theorem dgI_len {n0 m : Nat} {t : List UInt8} (h : dgI n0 m t) (hn : n0 ≤ 1000000000) : t.length ≤ 10 := by
  rcases h with ⟨rfl, rfl⟩ | ⟨h3, h4⟩
  · simp
  · have h5 := congrArg List.length h4
    have h6 := itoa_len (n := (n0 : Int)) (k := 10) (by omega) (by omega) (by omega)
    rw [Lib.itoa_nonneg] at h6
    rw [List.length_append] at h5
    omega
theorem dgI_end {n0 : Nat} {t : List UInt8} (h : dgI n0 0 t) (ht : t ≠ []) : (⟨t.toArray⟩ : ByteArray) = dgS n0 := by
  rcases h with ⟨h3, _⟩ | ⟨_, h4⟩
  · exact absurd h3 ht
  · unfold dgS
    rw [Lib.itoa_nonneg, h4]
    simp [dd]
set_option maxRecDepth 100000 in
set_option maxHeartbeats 1000000 in
theorem l1Int_any (n0 : Nat) (hn : n0 ≤ 1000000000) (w : World) :
    Calls Tryd.prog 25 #[.int .i64 (n0 : Int)] w fun e w' => e = .returned (.string (dgS n0)) ∧ Below w.heap.size w w' := by
  have hnn : ¬ (n0 : Int) < 0 := by omega
  go_enter Tryd.func25, Tryd.ntmps25
  go_wp2
  go_loopw [0, 3] (fun nv sv wr => ∃ (m : Nat) (t : List UInt8), m ≤ 1000000000 ∧ nv = .int .i64 (m : Int) ∧ sv = .string ⟨t.toArray⟩ ∧ Hid (dgI n0 m t) ∧ Below w.heap.size w wr) (fun nv sv _ => (intOf nv).toNat + emp sv)
  case atStart => exact ⟨n0, [], hn, rfl, rfl, .inl ⟨rfl, rfl⟩, Below.refl _ _⟩
  case round =>
    obtain ⟨m, t, hm, rfl, rfl, hI, hb⟩ := hrel
    have hl := dgI_len hI.out hn
    have hcv := digit_cv wr m
    have HS : Hid (∀ h2 : t = [] ∨ m ≠ 0, dgI n0 (m / 10) (UInt8.ofNat (48 + m % 10) :: t)) := fun h2 => dgI_step hI.out h2
    have hq0 : ¬ (m : Int) % 10 < 0 := by omega
    obtain ⟨b, hbb⟩ : ∃ b, UInt8.ofNat (48 + m % 10) = b := ⟨_, rfl⟩
    rw [hbb] at hcv HS
    clear hbb
    cases t with
    | nil =>
      go_wp2
      go_roundw
      case rel => exact ⟨m / 10, [b], by omega, by go_num, rfl, HS.out (.inl rfl), hb.alloc (by have := hb.size; omega) _⟩
      case measure => simp [intOf, emp, ByteArray.size]; omega
    | cons a r =>
      by_cases hm0 : m = 0
      · subst hm0
        have HE : Hid ((⟨(a :: r).toArray⟩ : ByteArray) = dgS n0) := dgI_end hI.out (by simp)
        go_wp2
        go_ret
        exact ⟨by rw [HE.out]; rfl, hb⟩
      · have hm1 : ((m : Int) != 0) = true := by simp [hm0]
        have hm2 : ¬ (m : Int) = 0 := by omega
        have hl2 : ¬ 9223372036854775807 < 1 + (r.length + 1) := by simp at hl; omega
        go_wp2
        go_roundw
        case rel => exact ⟨m / 10, b :: a :: r, by omega, by go_num, by rw [cat_eq [b] (a :: r)]; rfl, HS.out (.inr hm0), hb.alloc (by have := hb.size; omega) _⟩
        case measure => rw [cat_eq [b] (a :: r)]; simp [intOf, emp, ByteArray.size]; omega
end Go.Proofs.YtgpfdoiiholncaaDoor.K
