/-
  The law's looks at lists of Records: alike, how big, marked, still marked.
-/
import Derived.Test.YtppoafggiejdgaaGreatKL1
namespace Go.Proofs.YtppoafggiejdgaaGreat.K
open Go.Shelf Go.RowKit Go.Joins
attribute [local go_sem] Oper.semAt_some

theorem ba2 {w w1 : World} {o1 o2 : Obj} (hb : Below ((w.alloc o1).alloc o2).heap.size ((w.alloc o1).alloc o2) w1) : Below w.heap.size w w1 := ba1 (ba1 hb)
set_option maxHeartbeats 1000000 in
theorem eqRec_same (r : Rc) (w : World) : Calls Tryz.prog 47 #[r.v, r.v] w fun e w' => e = .returned (.bool true) ∧ Below w.heap.size w w' := by
  obtain ⟨t, i, x, y, s⟩ := r
  have hE : ∀ w, Calls Tryz.prog 72 #[.agg #[.int .i64 x, .int .i64 y], .agg #[.int .i64 x, .int .i64 y]] w fun e w' => e = .returned (.bool true) ∧ Below w.heap.size w w' := fun w => by
    go_enter Tryz.func72, Tryz.ntmps72
    go_wp2
    go_ret
    exact ⟨rfl, below_alloc2 _ _ _⟩
  have hst := ((St.nil w).push [.int .i64 t, .int .i64 i, .int .i64 x, .int .i64 y, .string s] 70).push [.int .i64 t, .int .i64 i, .int .i64 x, .int .i64 y, .string s] 70
  simp only [World.size_alloc] at hst
  go_enter Tryz.func47, Tryz.ntmps47
  go_wp2_with (go_at_call 72; refine (hE _).mono ?_; rintro e w1 ⟨rfl, hb2⟩; have hs1 := hst.step hb2; have hk := hs1.has; simp [Has, HasAt] at hk)
  go_ret
  exact ⟨rfl, hs1.bel⟩
set_option maxHeartbeats 1000000 in
theorem eqRecS_same (p q : Option Addr) (cap cap' : Nat) (L : List Rc) (n : Nat) (hn : L.length = n) (w : World) (hp : SlG kR w p L) (hq : SlG kR w q L) (_hb : n ≤ 10000000) :
    Calls Tryz.prog 21 #[.slice p n cap, .slice q n cap'] w fun e w' => e = .returned (.bool true) ∧ Below w.heap.size w w' := by
  have HN : Hid (L.length = n) := hn
  clear hn
  go_enter Tryz.func21, Tryz.ntmps21
  go_wp2
  go_loopw [5] (fun i wr => ∃ k : Nat, k ≤ n ∧ i = .int .i64 k ∧ Below w.heap.size w wr) (fun i _ => n - (intOf i).toNat)
  case atStart => exact ⟨0, by omega, rfl, Below.refl _ _⟩
  case round =>
    obtain ⟨k, hk, rfl, hb⟩ := hrel
    by_cases hlt : k < n
    · have hki : (k : Int) < n := by omega
      have hkL : k < L.length := by rw [HN.out]; exact hlt
      obtain ⟨g, off, rfl, hC⟩ := (hp.step hb).at hkL
      obtain ⟨g2, off2, rfl, hC2⟩ := (hq.step hb).at hkL
      obtain ⟨c0, c1, c2, c3, c4⟩ := hC.r5 (getR hkL)
      obtain ⟨d0, d1, d2, d3, d4⟩ := hC2.r5 (getR hkL)
      generalize L.getD k zrc = m at c0 c1 c2 c3 c4 d0 d1 d2 d3 d4
      clear hC hC2
      go_wp2
      go_region_with ((go_at_call 47; refine (eqRec_same m _).mono ?_; rintro e w1 ⟨rfl, hb2⟩))
      all_goals
        go_wp2
        go_roundw
        case rel => exact ⟨k + 1, by omega, by go_num, bstep hb.drew hb2 (Nat.le_refl _)⟩
        case measure => simp [intOf]; omega
    · obtain rfl : k = n := by omega
      go_wp2
      go_ret
      exact ⟨rfl, hb⟩
/-- How many bytes the Texts of the first k have. -/
def tsz (L : List Rc) (k : Nat) : Nat := ((L.take k).map fun r => r.s.size).sum
theorem tsz_succ {L : List Rc} {k : Nat} {r : Rc} (h : L[k]? = some r) : tsz L (k + 1) = tsz L k + r.s.size := by
  obtain ⟨hk, rfl⟩ := List.getElem?_eq_some_iff.1 h
  unfold tsz
  rw [List.take_succ_eq_append_getElem hk, List.map_append, List.sum_append]; simp
theorem tsz_le {L : List Rc} {k j : Nat} (h : k ≤ j) : tsz L k ≤ tsz L j := by
  induction j with
  | zero => simp at h; subst h; exact Nat.le_refl _
  | succ j ih =>
    by_cases e : k = j + 1
    · subst e; exact Nat.le_refl _
    · refine Nat.le_trans (ih (by omega)) ?_
      by_cases hj : j < L.length
      · rw [tsz_succ (List.getElem?_eq_getElem hj)]; omega
      · unfold tsz; rw [List.take_of_length_le (by omega), List.take_of_length_le (by omega)]; exact Nat.le_refl _
def rsz (L : List Rc) : Nat := L.length + tsz L L.length
theorem szRec_any (r : Rc) (a : Int) (w : World) (ha : 0 ≤ a) (ha2 : a ≤ 1048576) (hm : r.s.size ≤ maxLen) : Calls Tryz.prog 30 #[r.v, .int .i64 a] w fun e w' => e = .returned (.int .i64 (if a < r.s.size then -1 else a - r.s.size)) ∧ Below w.heap.size w w' := by
  unfold maxLen at hm
  by_cases h : a < r.s.size
  · have h2 : a - (r.s.size : Int) < 0 := by omega
    rw [if_pos h]
    go_enter Tryz.func30, Tryz.ntmps30
    go_wp2
    go_ret
    exact ⟨rfl, below_alloc1 _ _⟩
  · have h2 : ¬ a - (r.s.size : Int) < 0 := by omega
    rw [if_neg h]
    go_enter Tryz.func30, Tryz.ntmps30
    go_wp2
    go_ret
    exact ⟨rfl, below_alloc1 _ _⟩
theorem szRec_v {r : Rc} {a v : Int} (hv : (if a < r.s.size then -1 else a - (r.s.size : Int)) = v) (w : World) (ha : 0 ≤ a) (ha2 : a ≤ 1048576) (hm : r.s.size ≤ maxLen) : Calls Tryz.prog 30 #[r.v, .int .i64 a] w fun e w' => e = .returned (.int .i64 v) ∧ Below w.heap.size w w' := hv ▸ szRec_any r a w ha ha2 hm
set_option maxHeartbeats 1000000 in
theorem szRecS_any (p : Option Addr) (cap : Nat) (L : List Rc) (n : Nat) (hn : L.length = n) (a : Int) (w : World) (hL : SlG kL w p L) (ha : 0 ≤ a) (ha2 : a ≤ 1048576) (hm : n ≤ maxLen) (hms : ∀ r ∈ L, r.s.size ≤ maxLen) {v : Int} (hv : (if a < rsz L then -1 else a - (rsz L : Int)) = v) :
    Calls Tryz.prog 11 #[.slice p n cap, .int .i64 a] w fun e w' => e = .returned (.int .i64 v) ∧ Below w.heap.size w w' := by
  unfold maxLen at hm
  have HN : Hid (L.length = n) := hn
  have HS : Hid (∀ r ∈ L, r.s.size ≤ maxLen) := hms
  have hr : rsz L = n + tsz L n := by unfold rsz; rw [hn]
  rw [hr] at hv
  have HV : Hid ((if a < (n + tsz L n : Nat) then -1 else a - ((n + tsz L n : Nat) : Int)) = v) := hv
  clear hn hms hr hv
  by_cases h0 : a < n
  · have h2 : a - (n : Int) < 0 := by omega
    go_enter Tryz.func11, Tryz.ntmps11
    go_wp2
    go_ret
    exact ⟨ret_i64 (by rw [← HV.out, if_pos (by omega)]), Below.refl _ _⟩
  · have h2 : ¬ a - (n : Int) < 0 := by omega
    go_enter Tryz.func11, Tryz.ntmps11
    go_wp2
    go_loopw [1, 5] (fun lv i wr => ∃ (k : Nat) (b : Int), k ≤ n ∧ i = .int .i64 k ∧ lv = .int .i64 b ∧ 0 ≤ b ∧ b ≤ 1048576 ∧ Hid (b = a - n - (tsz L k : Int)) ∧ Below w.heap.size w wr) (fun _ i _ => n - (intOf i).toNat)
    case atStart => exact ⟨0, a - n, by omega, rfl, rfl, by omega, by omega, (by simp [tsz] : a - n = a - n - (tsz L 0 : Int)), Below.refl _ _⟩
    case round =>
      obtain ⟨k, b, hk, rfl, rfl, hb0, hb1, hbv, hb⟩ := hrel
      by_cases hlt : k < n
      · have hki : (k : Int) < n := by omega
        have hkL : k < L.length := by rw [HN.out]; exact hlt
        obtain ⟨g, off, rfl, hC⟩ := (hL.step hb).at hkL
        have hg := List.getElem?_eq_getElem hkL
        generalize L[k] = r at hg
        obtain ⟨c0, c1, c2, c3, c4⟩ := hC.l5 hg
        have ht := tsz_succ hg
        have hl := tsz_le (L := L) (show k + 1 ≤ n by omega)
        have hrm := HS.out r (List.mem_of_getElem? hg)
        have HT : Hid (tsz L (k + 1) = tsz L k + r.s.size ∧ tsz L (k + 1) ≤ tsz L n) := ⟨ht, hl⟩
        clear hg hC ht hl
        by_cases hlt2 : b < r.s.size
        · have hvv : (if b < r.s.size then -1 else b - (r.s.size : Int)) = -1 := if_pos hlt2
          go_wp2_with (go_at_call 30; refine (szRec_v (r := r) hvv _ hb0 hb1 hrm).mono ?_; rintro e w1 ⟨rfl, hb2⟩)
          go_ret
          exact ⟨ret_i64 (by rw [← HV.out, if_pos (by have := HT.out; have := hbv.out; omega)]), bstep hb hb2 (Nat.le_refl _)⟩
        · have hvv : (if b < r.s.size then -1 else b - (r.s.size : Int)) = b - r.s.size := if_neg hlt2
          have hnn : ¬ b - (r.s.size : Int) < 0 := by omega
          go_wp2_with (go_at_call 30; refine (szRec_v (r := r) hvv _ hb0 hb1 hrm).mono ?_; rintro e w1 ⟨rfl, hb2⟩)
          go_roundw
          case rel => exact ⟨k + 1, b - r.s.size, by omega, by go_num, rfl, by omega, by omega, (by rw [HT.out.1, hbv.out]; omega : b - (r.s.size : Int) = a - n - (tsz L (k + 1) : Int)), bstep hb hb2 (Nat.le_refl _)⟩
          case measure => simp [intOf]; omega
      · obtain rfl : k = n := by omega
        go_wp2
        go_ret
        exact ⟨ret_i64 (by rw [← HV.out, if_neg (by have := hbv.out; omega), hbv.out]; omega), hb⟩
/-- The text of a mark. -/
def dgF : Nat → Nat → List UInt8
  | 0, _ => []
  | k + 1, m => if m = 0 then [] else dgF k (m / 10) ++ [UInt8.ofNat (48 + m % 10)]
theorem dgF_zero : ∀ k : Nat, dgF k 0 = []
  | 0 => rfl
  | _ + 1 => rfl
theorem dgF_pos {k m : Nat} (h : m ≠ 0) : dgF (k + 1) m = dgF k (m / 10) ++ [UInt8.ofNat (48 + m % 10)] := by rw [dgF, if_neg h]
theorem dgF_more : ∀ (k m : Nat), m < 10 ^ k → dgF (k + 1) m = dgF k m
  | 0, m, h => by simp at h; subst h; rfl
  | k + 1, m, h => by
    by_cases h0 : m = 0
    · subst h0; rw [dgF_zero, dgF_zero]
    · rw [dgF_pos h0, dgF_pos h0, dgF_more k (m / 10) (by rw [Nat.pow_succ] at h; omega)]
theorem dgF_len : ∀ (k m : Nat), (dgF k m).length ≤ k
  | 0, _ => by simp [dgF]
  | k + 1, m => by
    by_cases h0 : m = 0
    · subst h0; rw [dgF_zero]; simp
    · rw [dgF_pos h0, List.length_append]
      have := dgF_len k (m / 10)
      simp; omega
def dg (m : Nat) : List UInt8 := dgF 10 m
theorem dg_zero : dg 0 = [] := dgF_zero 10
theorem dg_pos {m : Nat} (h : m ≠ 0) (hb : m < 10000000000) : dg m = dg (m / 10) ++ [UInt8.ofNat (48 + m % 10)] := by
  unfold dg
  rw [dgF_pos h, dgF_more 9 (m / 10) (by omega)]
theorem dg_len (m : Nat) : (dg m).length ≤ 10 := dgF_len 10 m
def mtx (k : Int) : ByteArray := ⟨(109 :: dg k.toNat).toArray⟩
theorem digit_cv (wr : World) (m : Nat) : (convert 106 9 (.slice (some ⟨wr.heap.size, 0, none⟩) 1 1)).run Tryz.prog (wr.alloc (.cells #[.int .u8 (48 + (m : Int) % 10)] 5)) = .ok (.string ⟨#[UInt8.ofNat (48 + m % 10)]⟩) (wr.alloc (.cells #[.int .u8 (48 + (m : Int) % 10)] 5)) := by
  refine run_convert_bytes_back (P := Tryz.prog) (wr.alloc (.cells #[.int .u8 (48 + (m : Int) % 10)] 5)) 106 9 5 ⟨wr.heap.size, 0, none⟩ 1 [UInt8.ofNat (48 + m % 10)] Tryz.underlying106 Tryz.underlying5 Tryz.underlying9 fun j hj => ?_
  have hj0 : j = 0 := by simp at hj; omega
  subst hj0
  have hm : m % 10 < 10 := Nat.mod_lt _ (by decide)
  have ea : (⟨wr.heap.size, 0, none⟩ : Addr).add 0 = ⟨wr.heap.size, 0, none⟩ := by unfold Addr.add; split <;> simp_all
  rw [ea, World.cell?_alloc_at _ _ _ _ rfl]
  simp
  omega
theorem cat_eq (l m : List UInt8) : (⟨l.toArray⟩ : ByteArray) ++ ⟨m.toArray⟩ = ⟨(l ++ m).toArray⟩ := by
  apply ByteArray.ext
  simp [ByteArray.data_append]
set_option maxRecDepth 100000 in
set_option maxHeartbeats 1000000 in
theorem markText_any (k0 : Int) (h0 : 1 ≤ k0) (h1 : k0 ≤ 1000000000) (w : World) :
    Calls Tryz.prog 49 #[.int .i64 k0] w fun e w' => e = .returned (.string (mtx k0)) ∧ Below w.heap.size w w' := by
  obtain ⟨n0, rfl⟩ : ∃ n : Nat, k0 = n := ⟨k0.toNat, by omega⟩
  have hnn : ¬ (n0 : Int) ≤ 0 := by omega
  have HL := Lib.hid (dg_len n0)
  go_enter Tryz.func49, Tryz.ntmps49
  go_wp2
  go_loopw [0, 3] (fun nv sv wr => ∃ (m : Nat) (t : List UInt8), m ≤ 1000000000 ∧ nv = .int .i64 (m : Int) ∧ sv = .string ⟨t.toArray⟩ ∧ Hid (dg n0 = dg m ++ t) ∧ Below w.heap.size w wr) (fun nv _ _ => (intOf nv).toNat)
  case atStart => exact ⟨n0, [], by omega, rfl, rfl, (by simp : dg n0 = dg n0 ++ []), Below.refl _ _⟩
  case round =>
    obtain ⟨m, t, hm, rfl, rfl, hI, hb⟩ := hrel
    have hl : t.length ≤ 10 := by have h := congrArg List.length hI.out; rw [List.length_append] at h; have := HL.out; omega
    by_cases hm0 : m = 0
    · subst hm0
      have HE : Hid (dg n0 = t) := (by rw [hI.out, dg_zero]; rfl : dg n0 = t)
      have hl2 : ¬ 9223372036854775807 < 1 + t.length := by omega
      go_wp2
      go_ret
      exact ⟨by rw [show mtx (n0 : Int) = ⟨(109 :: t).toArray⟩ by unfold mtx; rw [Int.toNat_natCast, HE.out], cat_eq [109] t]; rfl, hb⟩
    · have hm1 : (0 : Int) < m := by omega
      have hcv := digit_cv wr m
      have HS : Hid (dg n0 = dg (m / 10) ++ (UInt8.ofNat (48 + m % 10) :: t)) := (by rw [hI.out, dg_pos hm0 (by omega)]; simp : dg n0 = _)
      have hq0 : ¬ (m : Int) % 10 < 0 := by omega
      obtain ⟨b, hbb⟩ : ∃ b, UInt8.ofNat (48 + m % 10) = b := ⟨_, rfl⟩
      rw [hbb] at hcv HS
      clear hbb
      have hl2 : ¬ 9223372036854775807 < 1 + t.length := by omega
      go_wp2
      go_roundw
      case rel => exact ⟨m / 10, b :: t, by omega, by go_num, by rw [cat_eq [b] t]; rfl, HS.out, hb.alloc (by have := hb.size; omega) _⟩
      case measure => simp [intOf]; omega
end Go.Proofs.YtppoafggiejdgaaGreat.K
