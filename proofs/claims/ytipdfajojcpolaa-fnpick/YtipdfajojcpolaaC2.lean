/-
  Edge: the steps of an edge, the program's and the spec's sums.
-/
import Derived.Test.YtipdfajojcpolaaC1
namespace Go.Proofs.Ytipdfajojcpolaa
open Go.RowKit Go.Joins
attribute [local go_sem ↓] Go.wp_at_zero Go.wp_at_succ

def gq (a b : T2) : Nat := Nat.gcd (b.x - a.x).natAbs (b.y - a.y).natAbs
def esum (L : List T2) : Nat → Int
  | 0 => 0
  | k + 1 => esum L k + gq (nth L k) (nth L ((k + 1) % L.length))
def edgI (L : List T2) : Int := if shB L then esum L L.length else -1
theorem gcd_step (x y : Int) : Nat.gcd y.natAbs (x.tmod y).natAbs = Nat.gcd x.natAbs y.natAbs := by
  rw [Int.natAbs_tmod, Nat.gcd_comm y.natAbs, ← Nat.gcd_rec, Nat.gcd_comm]
theorem tmod_bd {x y : Int} (hy : y ≠ 0) : (x.tmod y).natAbs < y.natAbs := by
  rw [Int.natAbs_tmod]; exact Nat.mod_lt _ (by omega)
theorem gcd_bd {m n : Nat} (h1 : m ≤ 255) (h2 : n ≤ 255) : Nat.gcd m n ≤ 255 := by
  by_cases h : n = 0
  · subst h; simpa using h1
  · exact Nat.le_trans (Nat.le_of_dvd (by omega) (Nat.gcd_dvd_right m n)) h2
theorem gq_bd {a b : T2} (ha : a.ok = true) (hb : b.ok = true) : gq a b ≤ 255 := by
  have k1 := spB_t.mp ha
  have k2 := spB_t.mp hb
  exact gcd_bd (by omega) (by omega)
theorem esum_bd {L : List T2} (h : rtB L = true) : ∀ k, k ≤ L.length → 0 ≤ esum L k ∧ esum L k ≤ 255 * k
  | 0, _ => by simp [esum]
  | k + 1, hk => by
    have ih := esum_bd h k (by omega)
    have t := gq_bd (nth_ok h (i := k) (by omega)) (nth_ok h (i := (k + 1) % L.length) (Nat.mod_lt _ (by omega)))
    simp only [esum]
    omega

set_option maxHeartbeats 2000000 in
theorem steps_any {p : Option Addr} {a b : T2} (ha : a.ok = true) (hb : b.ok = true) (w : World) (hE : Eg w p a b) :
    Calls Try.prog 28 #[.slice p 2 2] w fun e w' => e = .returned (.int .i64 (gq a b : Int)) ∧ Below w.heap.size w w' := by
  have k1 := spB_t.mp ha
  have k2 := spB_t.mp hb
  obtain ⟨gx, ox, rfl, hgx, n0, n1, n2, n3⟩ := hE
  go_enter Try.func28, Try.ntmps28
  go_wp2
  go_quiet (fail)
  go_wp2
  go_loopw [3, 4] (fun sx sy wr => ∃ x y : Int, sx = .int .i64 x ∧ sy = .int .i64 y ∧ x.natAbs ≤ 255 ∧ y.natAbs ≤ 255 ∧ Nat.gcd x.natAbs y.natAbs = gq a b ∧ Below w.heap.size w wr) (fun _ sy _ => (intOf sy).natAbs)
  case atStart => exact ⟨b.x - a.x, b.y - a.y, rfl, rfl, by omega, by omega, rfl, bdrewN (Below.refl _ _) _⟩
  case round =>
    obtain ⟨x, y, rfl, rfl, hx, hy, hg, hB⟩ := hrel
    by_cases h0 : y = 0
    · subst h0
      have hg2 : gq a b = x.natAbs := by rw [← hg]; simp
      go_wp2
      all_goals (go_ret; exact ⟨ret_i64 (by omega), hB⟩)
    · have hb := tmod_bd (x := x) h0
      have hg2 := gcd_step x y
      have HG : Hid (Nat.gcd y.natAbs (x.tmod y).natAbs = gq a b) := hg2.trans hg
      clear hg hg2
      go_wp2
      go_quiet (fail)
      go_wp2
      go_roundw
      case rel => exact ⟨y, x.tmod y, rfl, rfl, by omega, by omega, HG.out, bdrewN hB _⟩
      case measure => simpa [intOf] using hb

set_option maxHeartbeats 2000000 in
theorem iEdge_any (p : Option Addr) (cap : Nat) (L : List T2) (w : World) (hL : Sl w p L) (hn : L.length ≤ 1048576) :
    Calls Try.prog 12 #[.slice p L.length cap] w fun e w' => e = .returned (.int .i64 (edgI L)) ∧ Below w.heap.size w w' := by
  cases hv : shB L
  · rw [edgI, hv]
    go_enter Try.func12, Try.ntmps12
    go_wp2_with (go_at_call 18; refine (iShapeOk_v hv p cap _ hL hn).mono ?_; rintro e w1 ⟨rfl, hb2⟩)
    go_ret
    exact ⟨rfl, hb2⟩
  · rw [edgI, hv]
    have hr := sh_rt hv
    obtain ⟨h3, h12⟩ := rt_len hr
    have h3i : (3 : Int) ≤ L.length := by omega
    have h12i : (L.length : Int) ≤ 12 := by omega
    obtain ⟨g, off, rfl, hC⟩ := sl_cs hL (by omega)
    go_enter Try.func12, Try.ntmps12
    go_upto_region 4 with (go_at_call 18; refine (iShapeOk_v hv _ cap _ hL hn).mono ?_; rintro e w1 ⟨rfl, hb2⟩)
    go_wp2_with (go_at_call 27; refine (edges_any g off cap L (by omega) _ (hC.step hb2) h12).mono ?_; rintro e w2 ⟨v, rfl, hE, hb3⟩; obtain ⟨ge, ce, gr, rfl, hge, hAt⟩ := hE.nth; clear hE)
    have hB := bstep hb2 hb3 (Nat.le_refl _)
    go_loopw [3, 12] (fun sv i wr => ∃ k : Nat, k ≤ L.length ∧ i = .int .i64 k ∧ sv = .int .i64 (esum L k) ∧ Below w2.heap.size w2 wr) (fun _ i _ => L.length - (intOf i).toNat)
    case atStart => exact ⟨0, by omega, rfl, rfl, Below.refl _ _⟩
    case round =>
      obtain ⟨k, hk, rfl, rfl, hb⟩ := hrel
      by_cases hlt : k < L.length
      · have hki : (k : Int) < L.length := by omega
        obtain ⟨hc1, hE1⟩ := hAt k hlt
        replace hc1 := (hb.cell (p := ⟨ge, k, none⟩) hge).trans hc1
        replace hE1 := hE1.step hb
        have hA := nth_ok hr hlt
        have hA2 := nth_ok hr (i := (k + 1) % L.length) (Nat.mod_lt _ (by omega))
        have ht := gq_bd hA hA2
        have hbd := esum_bd hr k hk
        have hsucc : esum L (k + 1) = esum L k + gq (nth L k) (nth L ((k + 1) % L.length)) := rfl
        generalize nth L k = a at hE1 ht hsucc hA
        generalize nth L ((k + 1) % L.length) = b at hE1 ht hsucc hA2
        have HS : Hid (esum L (k + 1) = esum L k + gq a b) := hsucc
        clear hsucc
        go_wp2_with (go_at_call 28; refine (steps_any hA hA2 _ hE1).mono ?_; rintro e w3 ⟨rfl, hb4⟩)
        go_roundw
        case rel => exact ⟨k + 1, by omega, by go_num, by rw [HS.out], bstep hb hb4 (Nat.le_refl _)⟩
        case measure => simp [intOf]; omega
      · obtain rfl : k = L.length := by omega
        go_wp2
        go_ret
        exact ⟨rfl, bstep hB hb (Nat.le_refl _)⟩

set_option maxHeartbeats 2000000 in
theorem l4Edge_any (p : Option Addr) (cap : Nat) (L : List T2) (hr : rtB L = true) (w : World) (hL : Sl w p L) :
    Calls Try.prog 36 #[.slice p L.length cap] w fun e w' => e = .returned (.int .i64 (esum L L.length)) ∧ Below w.heap.size w w' := by
  obtain ⟨h3, h12⟩ := rt_len hr
  have h3i : (3 : Int) ≤ L.length := by omega
  have h12i : (L.length : Int) ≤ 12 := by omega
  have hne0 : ¬ L = [] := by intro h; subst h; simp at h3
  obtain ⟨g, off, rfl, hC⟩ := sl_cs hL (by omega)
  go_enter Try.func36, Try.ntmps36
  go_wp2
  go_loopw [3, 4] (fun sv i wr => ∃ k : Nat, k ≤ L.length ∧ i = .int .i64 k ∧ sv = .int .i64 (esum L k) ∧ Below w.heap.size w wr) (fun _ i _ => L.length - (intOf i).toNat)
  case atStart => exact ⟨0, by omega, rfl, rfl, Below.refl _ _⟩
  case round =>
    obtain ⟨k, hk, rfl, rfl, hb⟩ := hrel
    by_cases hlt : k < L.length
    · have hki : (k : Int) < L.length := by omega
      have hm : (k + 1) % L.length < L.length := Nat.mod_lt _ (by omega)
      have hmi : (((k + 1) % L.length : Nat) : Int) < L.length := by omega
      have hT := tmod1 k L.length
      have hgw : g < wr.heap.size := (hC.step hb).1
      obtain ⟨c0, c1⟩ := (hC.step hb).nth hlt
      obtain ⟨d0, d1⟩ := (hC.step hb).nth hm
      have hA := nth_ok hr hlt
      have hA2 := nth_ok hr (i := (k + 1) % L.length) (Nat.mod_lt _ (by omega))
      have ht := gq_bd hA hA2
      have hbd := esum_bd hr k hk
      have hsucc : esum L (k + 1) = esum L k + gq (nth L k) (nth L ((k + 1) % L.length)) := rfl
      generalize (k + 1) % L.length = m at hm hmi hT d0 d1 ht hsucc hA2
      generalize nth L k = a at c0 c1 ht hsucc hA
      generalize nth L m = b at d0 d1 ht hsucc hA2
      have k1 := spB_t.mp hA
      have k2 := spB_t.mp hA2
      have HS : Hid (esum L (k + 1) = esum L k + gq a b) := hsucc
      clear hsucc
      have hbb := (hb.alloc hb.size (.cells #[.int .i64 a.x, .int .i64 a.y] 28))
      have hbb2 := hbb.alloc hbb.size (.cells #[.int .i64 b.x, .int .i64 b.y] 28)
      have hX : Hid (Nat.gcd (max (a.x - b.x) (b.x - a.x)).natAbs (max (a.y - b.y) (b.y - a.y)).natAbs = gq a b) := by
        show _ = gq a b
        rw [gq, show (max (a.x - b.x) (b.x - a.x)).natAbs = (b.x - a.x).natAbs by omega, show (max (a.y - b.y) (b.y - a.y)).natAbs = (b.y - a.y).natAbs by omega]
      generalize hmx : max (a.x - b.x) (b.x - a.x) = x0 at hX
      generalize hmy : max (a.y - b.y) (b.y - a.y) = y0 at hX
      go_wp2_with (go_at_call 55; refine (sMax_q _ _ _).mono ?_; rintro e w2 ⟨rfl, rfl⟩)
      go_loopw [7, 8] (fun sx sy wq => ∃ x y : Int, sx = .int .i64 x ∧ sy = .int .i64 y ∧ 0 ≤ x ∧ x ≤ 255 ∧ 0 ≤ y ∧ y ≤ 255 ∧ Nat.gcd x.natAbs y.natAbs = gq a b ∧ Below w.heap.size w wq) (fun _ sy _ => (intOf sy).natAbs)
      case atStart => exact ⟨x0, y0, rfl, rfl, by omega, by omega, by omega, by omega, hX.out, hbb2⟩
      case round =>
        obtain ⟨x, y, rfl, rfl, hx0, hx, hy0, hy, hg, hBq⟩ := hrel
        by_cases h0 : y = 0
        · subst h0
          have hg2 : (gq a b : Int) = x := by rw [← hg]; simp; omega
          go_wp2
          go_roundw
          case rel => exact ⟨k + 1, by omega, by go_num, by rw [HS.out, hg2], hBq⟩
          case measure => simp [intOf]; omega
        · have htb := tmod_bd (x := x) h0
          have htn : 0 ≤ x.tmod y := Int.tmod_nonneg _ hx0
          have hg2 := gcd_step x y
          rw [Int.tmod_eq_emod_of_nonneg hx0] at htb htn hg2
          have HG : Hid (Nat.gcd y.natAbs (x % y).natAbs = gq a b) := hg2.trans hg
          clear hg hg2
          go_wp2
          go_roundw
          case rel => exact ⟨y, x % y, rfl, rfl, hy0, hy, htn, by omega, HG.out, hBq⟩
          case measure => simpa [intOf] using htb
    · obtain rfl : k = L.length := by omega
      go_wp2
      go_ret
      exact ⟨rfl, hb⟩
theorem l4Edge_v {L : List T2} {v : Int} (hv : esum L L.length = v) (p : Option Addr) (cap : Nat) (hr : rtB L = true) (w : World) (hL : Sl w p L) :
    Calls Try.prog 36 #[.slice p L.length cap] w fun e w' => e = .returned (.int .i64 v) ∧ Below w.heap.size w w' := by subst hv; exact l4Edge_any p cap L hr w hL

set_option maxHeartbeats 2000000 in
theorem sEdge_any (p : Option Addr) (cap : Nat) (L : List T2) (w : World) (hL : Sl w p L) (hn : L.length ≤ 1048576) :
    Calls Try.prog 16 #[.slice p L.length cap] w fun e w' => e = .returned (.int .i64 (edgI L)) ∧ Below w.heap.size w w' := by
  cases hv : shB L
  · rw [edgI, hv]
    go_enter Try.func16, Try.ntmps16
    go_wp2_with (go_at_call 19; refine (sShapeOk_v hv p cap _ hL hn).mono ?_; rintro e w1 ⟨rfl, hb2⟩)
    go_ret
    exact ⟨rfl, hb2⟩
  · rw [edgI, hv, if_pos rfl]
    generalize hd : esum L L.length = d
    go_enter Try.func16, Try.ntmps16
    go_wp2_with (first
      | (go_at_call 19; refine (sShapeOk_v hv p cap _ hL hn).mono ?_; rintro e w1 ⟨rfl, hb2⟩)
      | (go_at_call 36; refine (l4Edge_v hd p cap (sh_rt hv) _ (hL.step hb2)).mono ?_; rintro e w2 ⟨rfl, hb3⟩))
    go_ret
    exact ⟨rfl, bstep hb2 hb3 (Nat.le_refl _)⟩
theorem iEdge_v {L : List T2} {v : Int} (hv : edgI L = v) (p : Option Addr) (cap : Nat) (w : World) (hL : Sl w p L) (hn : L.length ≤ 1048576) :
    Calls Try.prog 12 #[.slice p L.length cap] w fun e w' => e = .returned (.int .i64 v) ∧ Below w.heap.size w w' := by subst hv; exact iEdge_any p cap L w hL hn
theorem sEdge_v {L : List T2} {v : Int} (hv : edgI L = v) (p : Option Addr) (cap : Nat) (w : World) (hL : Sl w p L) (hn : L.length ≤ 1048576) :
    Calls Try.prog 16 #[.slice p L.length cap] w fun e w' => e = .returned (.int .i64 v) ∧ Below w.heap.size w w' := by subst hv; exact sEdge_any p cap L w hL hn

set_option maxHeartbeats 2000000 in
theorem exactEdge (p : Option Addr) (cap : Nat) (L : List T2) (w : World) (hL : Sl w p L) (hm : L.length ≤ maxLen) :
    Calls Try.prog 6 #[.slice p L.length cap] w fun e w' => e = .returned (.bool true) ∧ Below w.heap.size w w' := by
  by_cases hn : L.length ≤ 1048576
  · have hni : (L.length : Int) ≤ 1048576 := by omega
    have hx := Sx.nil w
    generalize hv : edgI L = v
    go_enter Try.func6, Try.ntmps6
    go_wp2_with (first
      | (go_at_call 22; refine (szSpotS_ok _ _ _ _ _ hni (by omega)).mono ?_; rintro e w1 ⟨rfl, rfl⟩)
      | (go_at_call 23; refine (toSpotS_any p cap L _ (hL.step hx.bel) hn).mono ?_; rintro e w1 ⟨p1, cap1, rfl, hO, hb2⟩; replace hx := hx.add hO hb2)
      | (go_at_call 16; refine (sEdge_v hv _ _ _ (Ow.sl (hx.own _ (List.mem_cons_self ..))) hn).mono ?_; rintro e w1 ⟨rfl, hb2⟩; replace hx := hx.step hb2)
      | (go_at_call 12; refine (iEdge_v hv _ _ _ (Ow.sl (hx.own _ (List.mem_cons_self ..))) hn).mono ?_; rintro e w1 ⟨rfl, hb2⟩; replace hx := hx.step hb2)
      | (go_at_call 24; refine (eqSpotS_same _ _ _ _ L _ (Ow.sl (hx.own _ (List.mem_cons_of_mem _ (List.mem_cons_self ..)))) (Ow.sl (hx.own _ (List.mem_cons_self ..))) (by omega)).mono ?_; rintro e w1 ⟨rfl, hb2⟩; replace hx := hx.step hb2))
    all_goals (go_ret; exact ⟨rfl, hx.bel⟩)
  · have hni : (1048576 : Int) < L.length := by omega
    go_enter Try.func6, Try.ntmps6
    go_wp2_with (go_at_call 22; refine (szSpotS_no _ _ _ _ _ hni (by omega) hm).mono ?_; rintro e w1 ⟨rfl, rfl⟩)
    go_ret
    exact ⟨rfl, Below.refl _ _⟩
end Go.Proofs.Ytipdfajojcpolaa
