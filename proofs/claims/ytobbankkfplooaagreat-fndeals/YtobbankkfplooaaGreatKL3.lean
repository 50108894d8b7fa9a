/-
  The law's marks on lists of Records.
-/
import Derived.Test.YtobbankkfplooaaGreatKL1
namespace Go.Proofs.YtobbankkfplooaaGreat.K
open Go.Shelf Go.RowKit Go.Joins
attribute [local go_sem] Oper.semAt_some

theorem ba2 {w w1 : World} {o1 o2 : Obj} (hb : Below ((w.alloc o1).alloc o2).heap.size ((w.alloc o1).alloc o2) w1) : Below w.heap.size w w1 := ba1 (ba1 hb)
/-- How many bytes the Texts of the first k have. -/
def tsz (L : List Rc) (k : Nat) : Nat := ((L.take k).map fun r => r.s.size).sum
theorem tsz_succ {L : List Rc} {k : Nat} {r : Rc} (h : L[k]? = some r) : tsz L (k + 1) = tsz L k + r.s.size := by
  obtain ⟨hk, rfl⟩ := List.getElem?_eq_some_iff.1 h
  unfold tsz
  rw [List.take_succ_eq_append_getElem hk, List.map_append, List.sum_append]; simp
theorem tsz_le {L : List Rc} {k j : Nat} (h : k ≤ j) : tsz L k ≤ tsz L j := by
  induction j with
  | zero => simp at h; subst h; exact Nat.le_refl _
  | succ j ih =>
    by_cases e : k = j + 1
    · subst e; exact Nat.le_refl _
    · refine Nat.le_trans (ih (by omega)) ?_
      by_cases hj : j < L.length
      · rw [tsz_succ (List.getElem?_eq_getElem hj)]; omega
      · unfold tsz; rw [List.take_of_length_le (by omega), List.take_of_length_le (by omega)]; exact Nat.le_refl _
def rsz (L : List Rc) : Nat := L.length + tsz L L.length
/-- The text of a mark. -/
def dgF : Nat → Nat → List UInt8
  | 0, _ => []
  | k + 1, m => if m = 0 then [] else dgF k (m / 10) ++ [UInt8.ofNat (48 + m % 10)]
theorem dgF_zero : ∀ k : Nat, dgF k 0 = []
  | 0 => rfl
  | _ + 1 => rfl
theorem dgF_pos {k m : Nat} (h : m ≠ 0) : dgF (k + 1) m = dgF k (m / 10) ++ [UInt8.ofNat (48 + m % 10)] := by rw [dgF, if_neg h]
theorem dgF_more : ∀ (k m : Nat), m < 10 ^ k → dgF (k + 1) m = dgF k m
  | 0, m, h => by simp at h; subst h; rfl
  | k + 1, m, h => by
    by_cases h0 : m = 0
    · subst h0; rw [dgF_zero, dgF_zero]
    · rw [dgF_pos h0, dgF_pos h0, dgF_more k (m / 10) (by rw [Nat.pow_succ] at h; omega)]
theorem dgF_len : ∀ (k m : Nat), (dgF k m).length ≤ k
  | 0, _ => by simp [dgF]
  | k + 1, m => by
    by_cases h0 : m = 0
    · subst h0; rw [dgF_zero]; simp
    · rw [dgF_pos h0, List.length_append]
      have := dgF_len k (m / 10)
      simp; omega
def dg (m : Nat) : List UInt8 := dgF 10 m
theorem dg_zero : dg 0 = [] := dgF_zero 10
theorem dg_pos {m : Nat} (h : m ≠ 0) (hb : m < 10000000000) : dg m = dg (m / 10) ++ [UInt8.ofNat (48 + m % 10)] := by
  unfold dg
  rw [dgF_pos h, dgF_more 9 (m / 10) (by omega)]
theorem dg_len (m : Nat) : (dg m).length ≤ 10 := dgF_len 10 m
def mtx (k : Int) : ByteArray := ⟨(109 :: dg k.toNat).toArray⟩
theorem digit_cv (wr : World) (m : Nat) : (convert 22 9 (.slice (some ⟨wr.heap.size, 0, none⟩) 1 1)).run Tryz.prog (wr.alloc (.cells #[.int .u8 (48 + (m : Int) % 10)] 5)) = .ok (.string ⟨#[UInt8.ofNat (48 + m % 10)]⟩) (wr.alloc (.cells #[.int .u8 (48 + (m : Int) % 10)] 5)) := by
  refine run_convert_bytes_back (P := Tryz.prog) (wr.alloc (.cells #[.int .u8 (48 + (m : Int) % 10)] 5)) 22 9 5 ⟨wr.heap.size, 0, none⟩ 1 [UInt8.ofNat (48 + m % 10)] Tryz.underlying22 Tryz.underlying5 Tryz.underlying9 fun j hj => ?_
  have hj0 : j = 0 := by simp at hj; omega
  subst hj0
  have hm : m % 10 < 10 := Nat.mod_lt _ (by decide)
  have ea : (⟨wr.heap.size, 0, none⟩ : Addr).add 0 = ⟨wr.heap.size, 0, none⟩ := by unfold Addr.add; split <;> simp_all
  rw [ea, World.cell?_alloc_at _ _ _ _ rfl]
  simp
  omega
theorem cat_eq (l m : List UInt8) : (⟨l.toArray⟩ : ByteArray) ++ ⟨m.toArray⟩ = ⟨(l ++ m).toArray⟩ := by
  apply ByteArray.ext
  simp [ByteArray.data_append]
set_option maxRecDepth 100000 in
set_option maxHeartbeats 1000000 in
theorem markText_any (k0 : Int) (h0 : 1 ≤ k0) (h1 : k0 ≤ 1000000000) (w : World) :
    Calls Tryz.prog 96 #[.int .i64 k0] w fun e w' => e = .returned (.string (mtx k0)) ∧ Below w.heap.size w w' := by
  obtain ⟨n0, rfl⟩ : ∃ n : Nat, k0 = n := ⟨k0.toNat, by omega⟩
  have hnn : ¬ (n0 : Int) ≤ 0 := by omega
  have HL := Lib.hid (dg_len n0)
  go_enter Tryz.func96, Tryz.ntmps96
  go_wp2
  go_loopw [0, 3] (fun nv sv wr => ∃ (m : Nat) (t : List UInt8), m ≤ 1000000000 ∧ nv = .int .i64 (m : Int) ∧ sv = .string ⟨t.toArray⟩ ∧ Hid (dg n0 = dg m ++ t) ∧ Below w.heap.size w wr) (fun nv _ _ => (intOf nv).toNat)
  case atStart => exact ⟨n0, [], by omega, rfl, rfl, (by simp : dg n0 = dg n0 ++ []), Below.refl _ _⟩
  case round =>
    obtain ⟨m, t, hm, rfl, rfl, hI, hb⟩ := hrel
    have hl : t.length ≤ 10 := by have h := congrArg List.length hI.out; rw [List.length_append] at h; have := HL.out; omega
    by_cases hm0 : m = 0
    · subst hm0
      have HE : Hid (dg n0 = t) := (by rw [hI.out, dg_zero]; rfl : dg n0 = t)
      have hl2 : ¬ 9223372036854775807 < 1 + t.length := by omega
      go_wp2
      go_ret
      exact ⟨by rw [show mtx (n0 : Int) = ⟨(109 :: t).toArray⟩ by unfold mtx; rw [Int.toNat_natCast, HE.out], cat_eq [109] t]; rfl, hb⟩
    · have hm1 : (0 : Int) < m := by omega
      have hcv := digit_cv wr m
      have HS : Hid (dg n0 = dg (m / 10) ++ (UInt8.ofNat (48 + m % 10) :: t)) := (by rw [hI.out, dg_pos hm0 (by omega)]; simp : dg n0 = _)
      have hq0 : ¬ (m : Int) % 10 < 0 := by omega
      obtain ⟨b, hbb⟩ : ∃ b, UInt8.ofNat (48 + m % 10) = b := ⟨_, rfl⟩
      rw [hbb] at hcv HS
      clear hbb
      have hl2 : ¬ 9223372036854775807 < 1 + t.length := by omega
      go_wp2
      go_roundw
      case rel => exact ⟨m / 10, b :: t, by omega, by go_num, by rw [cat_eq [b] t]; rfl, HS.out, hb.alloc (by have := hb.size; omega) _⟩
      case measure => simp [intOf]; omega
end Go.Proofs.YtobbankkfplooaaGreat.K
namespace Go.Proofs.YtobbankkfplooaaGreat.K
open Go.Shelf Go.RowKit Go.Joins
attribute [local go_sem] Oper.semAt_some

def mk5 (k : Int) : Rc := ⟨k, k + 1, k + 1 + 1, k + 1 + 1 + 1, mtx (k + 1 + 1 + 1 + 1)⟩
def mkRs (k : Int) (n : Nat) : List Rc := (List.range n).map fun i : Nat => mk5 (k + 5 * (i : Int))
theorem mkRs_get {k : Int} {n i : Nat} (h : i < n) : (mkRs k n)[i]? = some (mk5 (k + 5 * i)) := by simp [mkRs, h]
theorem mkRs_len (k : Int) (n : Nat) : (mkRs k n).length = n := by simp [mkRs]
theorem ow_some {α : Type} {K : Kd α} {W : World} {base n c : Nat} {p : Option Addr} {L : List α} (h : OwG K W base (.slice p n c) L) (h0 : 0 < n) : ∃ g, p = some ⟨g, 0, none⟩ := by
  obtain ⟨g, off, rfl, _⟩ := (OwG.sl h).at (k := 0) (by have := OwG.len h; omega)
  have hz := OwG.zero h
  subst hz
  exact ⟨g, rfl⟩
end Go.Proofs.YtobbankkfplooaaGreat.K
