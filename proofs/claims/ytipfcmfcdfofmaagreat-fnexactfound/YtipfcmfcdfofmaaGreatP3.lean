/-
  The box of a list of Spots; a leaf's Node.
-/
import Derived.Test.YtipfcmfcdfofmaaGreatP2
import Derived.Test.YtipfcmfcdfofmaaGreatW6A
import Derived.Deep.CutBlock
namespace Go.Proofs.YtipfcmfcdfofmaaGreat
open Go.RowKit Go.Joins
attribute [local go_sem ↓] Go.wp_at_zero Go.wp_at_succ

def unS (c : T2) : T4 := ⟨c.x, c.y, 1, 1⟩
def zsp : T2 := ⟨0, 0⟩
def bx4 (b : T4) : List Value := [.int .i64 b.x, .int .i64 b.y, .int .i64 b.w, .int .i64 b.h]
theorem getS {L : List T2} {k : Nat} (hk : k < L.length) : L[k]? = some (L.getD k zsp) := by simp [List.getD, hk]
theorem around_t {a b c : T4} (ha : a.ok = true) (hb : b.ok = true) (hc : aro a b = c) (w : World) :
    Calls Tryz.prog 173 #[.agg #[.int .i64 a.x, .int .i64 a.y, .int .i64 a.w, .int .i64 a.h], .agg #[.int .i64 b.x, .int .i64 b.y, .int .i64 b.w, .int .i64 b.h]] w fun e w' => e = .returned (.agg #[.int .i64 c.x, .int .i64 c.y, .int .i64 c.w, .int .i64 c.h]) ∧ Below w.heap.size w w' := by
  refine (iAround_any a.x a.y a.w a.h b.x b.y b.w b.h w).mono ?_
  rintro e w' ⟨rfl, h⟩
  refine ⟨?_, h⟩
  have h1 : okB a.x a.y a.w a.h = true := ha
  have h2 : okB b.x b.y b.w b.h = true := hb
  subst hc
  simp [aroundV, h1, h2, aro]
theorem spanned1 {x y : Int} (h : 0 ≤ x ∧ x ≤ 255 ∧ 0 ≤ y ∧ y ≤ 255) (w : World) :
    Calls Tryz.prog 59 #[.agg #[.int .i64 x, .int .i64 y], .agg #[.int .i64 x, .int .i64 y]] w fun e w' => e = .returned (.agg #[.int .i64 x, .int .i64 y, .int .i64 1, .int .i64 1]) ∧ Below w.heap.size w w' := by
  have := spanned_any x y x y w (by omega)
  rw [show x - x + 1 = 1 by omega, show y - y + 1 = 1 by omega] at this
  exact this
theorem boxF_take {b0 : T4} {L : List T4} {k : Nat} {a : T4} (h : L[k]? = some a) : boxF b0 (L.take (k + 1)) = aro (boxF b0 (L.take k)) a := by
  have hk := (List.getElem?_eq_some_iff.1 h).1
  unfold boxF
  rw [List.take_succ_eq_append_getElem hk, List.foldl_append, (List.getElem?_eq_some_iff.1 h).2]; rfl

set_option maxHeartbeats 4000000 in
theorem box_any (p : Option Addr) (cap : Nat) (L : List T2) (n : Nat) (hn : L.length = n) (h0 : 0 < n) (w : World) (hL : SlG kS w p L) (hb : n ≤ 1000) (hok : ∀ c ∈ L, spB c.x c.y = true) {r : T4} (hr : boxL (L.map unS) = r) :
    Calls Tryz.prog 172 #[.slice p n cap] w fun e w' => e = .returned (.agg #[.int .i64 r.x, .int .i64 r.y, .int .i64 r.w, .int .i64 r.h]) ∧ Below w.heap.size w w' := by
  have HN : Hid (L.length = n) := hn
  have h0L : 0 < L.length := by omega
  have hi0 : (0 : Int) < n := by omega
  have hmem : ∀ k, k < L.length → spB (L.getD k zsp).x (L.getD k zsp).y = true := fun k hk => hok _ (List.mem_of_getElem? (getS hk))
  have HM : Hid (∀ k, k < L.length → spB (L.getD k zsp).x (L.getD k zsp).y = true) := hmem
  have hall : ∀ t ∈ L.map unS, t.ok = true := fun t ht => by
    obtain ⟨c, hc, rfl⟩ := List.mem_map.mp ht
    have := spB_t.mp (hok c hc)
    exact okB_t.mpr (by simp only [unS]; omega)
  obtain ⟨g, off, rfl, hC⟩ := hL.at h0L
  obtain ⟨c0, c1⟩ := hC.spot (getS h0L)
  simp only [Nat.zero_mul, Nat.add_zero] at c0 c1
  obtain ⟨s0, hs0⟩ : ∃ s, L.getD 0 zsp = s := ⟨_, rfl⟩
  have k0 := spB_t.mp (hmem 0 h0L)
  rw [hs0] at c0 c1 k0
  have hb0 : (L.map unS).getD 0 zt4 = unS s0 := by
    rw [← hs0]; simp [List.getD, h0L]
  have h0k : (unS s0).ok = true := okB_t.mpr (by simp only [unS]; omega)
  have HR : Hid (boxF (unS s0) (L.map unS) = r) := (show _ = r by rw [← hr, boxL, hb0])
  have HB : Hid (∀ k, (boxF (unS s0) ((L.map unS).take k)).ok = true) := fun k => boxF_ok h0k fun t ht => hall t (List.mem_of_mem_take ht)
  have hg := hC.1
  have HC : Hid (CsG kS w g off L) := hC
  have hs := (St.nil w).push [.int .i64 0, .int .i64 0, .int .i64 0, .int .i64 0] 31
  have hz : w.heap.size < (w.alloc (.cells #[.int .i64 0, .int .i64 0, .int .i64 0, .int .i64 0] 31)).heap.size := by simp
  clear hn hr hok hmem hall hs0 hb0 h0L hL hC
  go_enter Tryz.func172, Tryz.ntmps172
  go_upto_region 1 with fail
  go_cut [3] from 6 to 12 (fun s3 wx => ∃ B : Nat, s3 = .pointer (some ⟨B, 0, none⟩) ∧ w.heap.size < B ∧ St w wx [(B, [.int .i64 s0.x, .int .i64 s0.y, .int .i64 1, .int .i64 1]), (w.heap.size, [.int .i64 0, .int .i64 0, .int .i64 0, .int .i64 0])])
  case first =>
    go_region_with (go_at_call 59; refine (spanned1 k0 _).mono ?_; rintro e w1 ⟨rfl, hb2⟩; obtain ⟨hcl, hfl⟩ := bcell hb2)
    all_goals
      go_wp2_with fail
      go_meet
      first
        | exact ⟨_, rfl, by have := hb2.size; simp at this; omega, (hs.dr.step hb2).push _ _⟩
        | (refine ⟨_, rfl, by omega, ?_⟩; have hs2 := (hs.push [.int .i64 0, .int .i64 0, .int .i64 0, .int .i64 0] 31).dr.step hb2; simp only [World.size_alloc] at hs2; exact hs2.set4 _ _ _ _ (by omega) (by simp))
  case rest =>
  obtain ⟨B, rfl, hB, hst⟩ := hcut
  go_wp2
  go_loopw [15] (fun i wr => ∃ k : Nat, k ≤ n ∧ i = .int .i64 k ∧ St w wr [(B, bx4 (boxF (unS s0) ((L.map unS).take k))), (w.heap.size, [.int .i64 0, .int .i64 0, .int .i64 0, .int .i64 0])]) (fun i _ => n - (intOf i).toNat)
  case atStart => exact ⟨0, by omega, rfl, by simpa [bx4, boxF, unS] using hst⟩
  case round =>
    obtain ⟨k, hk1, rfl, hst2⟩ := hrel
    clear hst
    by_cases hlt : k < n
    · have hki : (k : Int) < n := by omega
      have hkL : k < L.length := by rw [HN.out]; exact hlt
      obtain ⟨d0, d1⟩ := (HC.out.step hst2.bel).spot (getS hkL)
      have kk := HM.out k hkL
      have hbt := boxF_take (b0 := unS s0) (L := L.map unS) (k := k) (a := unS (L.getD k zsp)) (by rw [List.getElem?_map, getS hkL]; rfl)
      obtain ⟨s, hsv⟩ : ∃ s, L.getD k zsp = s := ⟨_, rfl⟩
      rw [hsv] at d0 d1 kk hbt
      have hbk := HB.out k
      obtain ⟨b, hbv⟩ : ∃ b, boxF (unS s0) ((L.map unS).take k) = b := ⟨_, rfl⟩
      rw [hbv] at hbk hbt hst2
      obtain ⟨b2, hbv2⟩ : ∃ z, aro b (unS s) = z := ⟨_, rfl⟩
      rw [hbv2] at hbt
      have hou : (unS s).ok = true := by have := spB_t.mp kk; exact okB_t.mpr (by simp only [unS]; omega)
      have HA : Hid (∀ w, Calls Tryz.prog 173 #[.agg #[.int .i64 b.x, .int .i64 b.y, .int .i64 b.w, .int .i64 b.h], .agg #[.int .i64 s.x, .int .i64 s.y, .int .i64 1, .int .i64 1]] w fun e w' => e = .returned (.agg #[.int .i64 b2.x, .int .i64 b2.y, .int .i64 b2.w, .int .i64 b2.h]) ∧ Below w.heap.size w w') := fun w => around_t hbk hou hbv2 w
      have HBT : Hid (boxF (unS s0) ((L.map unS).take (k + 1)) = b2) := hbt
      have kk' := spB_t.mp kk
      have hkk := hst2.has
      simp [Has, HasAt, bx4] at hkk
      unfold bx4 at hst2
      clear hbt hbv hbv2 hsv hou hbk kk
      go_wp2
      go_region_with (first | (go_at_call 59; refine (spanned1 kk' _).mono ?_; rintro e w1 ⟨rfl, hb2⟩; have hst3 := (hst2.push [.int .i64 s.x, .int .i64 s.y] 43).dr.step hb2; have hk3 := hst3.has; simp [Has, HasAt] at hk3) | (go_at_call 173; refine (HA.out _).mono ?_; rintro e w2 ⟨rfl, hb3⟩; have hst4 := hst3.step hb3; have hk4 := hst4.has; simp [Has, HasAt] at hk4))
      all_goals
        go_wp2
        go_roundw
        case rel =>
          refine ⟨k + 1, by omega, by go_num, ?_⟩
          rw [HBT.out]
          exact (St.mk hst4.bel hst4.has.2).set4 _ _ _ _ (by omega) (by simp; omega)
        case measure => simp [intOf]; omega
    · obtain rfl : k = n := by omega
      have e : (L.map unS).take k = L.map unS := List.take_of_length_le (by rw [List.length_map, HN.out]; exact Nat.le_refl _)
      rw [e, HR.out] at hst2
      have hkk := hst2.has
      simp [Has, HasAt, bx4] at hkk
      clear e
      go_wp2
      refine bodyPost_ret (v := .agg #[.int .i64 r.x, .int .i64 r.y, .int .i64 r.w, .int .i64 r.h]) (by simp [results, Tryz.results172, go_sem, hkk]) rfl ⟨rfl, ?_⟩
      exact sc4 hst2.bel (Nat.le_refl _)
end Go.Proofs.YtipfcmfcdfofmaaGreat
