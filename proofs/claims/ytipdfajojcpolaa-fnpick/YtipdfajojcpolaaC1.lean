/-
  Double: the program's and the spec's.
-/
import Derived.Test.YtipdfajojcpolaaB2
import Derived.Deep.CutBlock
import Derived.Deep.QuietTactic
import Derived.BigQuiet
namespace Go.Proofs.Ytipdfajojcpolaa
open Go.RowKit Go.Joins
attribute [local go_sem ↓] Go.wp_at_zero Go.wp_at_succ

/-- Twice the area up to the corner k, with its sign. -/
def dsum (L : List T2) : Nat → Int
  | 0 => 0
  | k + 1 => dsum L k + ((nth L k).x * (nth L ((k + 1) % L.length)).y - (nth L ((k + 1) % L.length)).x * (nth L k).y)
def dblI (L : List T2) : Int := if shB L then max (dsum L L.length) (-dsum L L.length) else -1
theorem sh_rt {L : List T2} (h : shB L = true) : rtB L = true := ((Bool.and_eq_true _ _).mp h).1
theorem pr0_bd {u v : Int} (h1 : 0 ≤ u) (h2 : u ≤ 255) (h3 : 0 ≤ v) (h4 : v ≤ 255) : 0 ≤ u * v ∧ u * v ≤ 65025 :=
  ⟨Int.mul_nonneg h1 h3, (pr_bd (by omega) h2 (by omega) h4).2⟩
theorem dterm {L : List T2} (h : rtB L = true) {k : Nat} (hk : k < L.length) : (0 ≤ (nth L k).x * (nth L ((k + 1) % L.length)).y ∧ (nth L k).x * (nth L ((k + 1) % L.length)).y ≤ 65025) ∧ (0 ≤ (nth L ((k + 1) % L.length)).x * (nth L k).y ∧ (nth L ((k + 1) % L.length)).x * (nth L k).y ≤ 65025) := by
  have a := spB_t.mp (nth_ok h hk)
  have b := spB_t.mp (nth_ok h (i := (k + 1) % L.length) (Nat.mod_lt _ (by omega)))
  exact ⟨pr0_bd (by omega) (by omega) (by omega) (by omega), pr0_bd (by omega) (by omega) (by omega) (by omega)⟩
theorem dsum_bd {L : List T2} (h : rtB L = true) : ∀ k, k ≤ L.length → -(65025 * k : Int) ≤ dsum L k ∧ dsum L k ≤ 65025 * k
  | 0, _ => by simp [dsum]
  | k + 1, hk => by
    have ih := dsum_bd h k (by omega)
    have t := dterm h (k := k) (by omega)
    simp only [dsum]
    omega

set_option maxHeartbeats 2000000 in
theorem iDouble_any (p : Option Addr) (cap : Nat) (L : List T2) (w : World) (hL : Sl w p L) (hn : L.length ≤ 1048576) :
    Calls Try.prog 11 #[.slice p L.length cap] w fun e w' => e = .returned (.int .i64 (dblI L)) ∧ Below w.heap.size w w' := by
  cases hv : shB L
  · rw [dblI, hv]
    go_enter Try.func11, Try.ntmps11
    go_wp2_with (go_at_call 18; refine (iShapeOk_v hv p cap _ hL hn).mono ?_; rintro e w1 ⟨rfl, hb2⟩)
    go_ret
    exact ⟨rfl, hb2⟩
  · rw [dblI, hv]
    have hr := sh_rt hv
    obtain ⟨h3, h12⟩ := rt_len hr
    have h3i : (3 : Int) ≤ L.length := by omega
    have h12i : (L.length : Int) ≤ 12 := by omega
    obtain ⟨g, off, rfl, hC⟩ := sl_cs hL (by omega)
    go_enter Try.func11, Try.ntmps11
    go_upto_region 4 with (go_at_call 18; refine (iShapeOk_v hv _ cap _ hL hn).mono ?_; rintro e w1 ⟨rfl, hb2⟩)
    go_wp2_with (go_at_call 27; refine (edges_any g off cap L (by omega) _ (hC.step hb2) h12).mono ?_; rintro e w2 ⟨v, rfl, hE, hb3⟩; obtain ⟨ge, ce, gr, rfl, hge, hAt⟩ := hE.nth; clear hE)
    have hB := bstep hb2 hb3 (Nat.le_refl _)
    go_loopw [3, 12] (fun sv i wr => ∃ k : Nat, k ≤ L.length ∧ i = .int .i64 k ∧ sv = .int .i64 (dsum L k) ∧ Below w2.heap.size w2 wr) (fun _ i _ => L.length - (intOf i).toNat)
    case atStart => exact ⟨0, by omega, rfl, rfl, Below.refl _ _⟩
    case round =>
      obtain ⟨k, hk, rfl, rfl, hb⟩ := hrel
      by_cases hlt : k < L.length
      · have hki : (k : Int) < L.length := by omega
        obtain ⟨hc1, hE1⟩ := hAt k hlt
        replace hc1 := (hb.cell (p := ⟨ge, k, none⟩) hge).trans hc1
        replace hE1 := hE1.step hb
        have ht := dterm hr hlt
        have hbd := dsum_bd hr k hk
        have hsucc : dsum L (k + 1) = dsum L k + ((nth L k).x * (nth L ((k + 1) % L.length)).y - (nth L ((k + 1) % L.length)).x * (nth L k).y) := rfl
        generalize nth L k = a at hE1 ht hsucc
        generalize nth L ((k + 1) % L.length) = b at hE1 ht hsucc
        obtain ⟨gx, ox, ex, hgx, n0, n1, n2, n3⟩ := id hE1
        injection ex with ex
        injection ex with ex1 ex2
        subst ex1 ex2
        have HS : Hid (dsum L (k + 1) = dsum L k + (a.x * b.y - b.x * a.y)) := hsucc
        clear hsucc
        go_wp2
        go_quiet (fail)
        go_wp2
        go_roundw
        case rel => exact ⟨k + 1, by omega, by go_num, by rw [HS.out], bdrewN hb _⟩
        case measure => simp [intOf]; omega
      · obtain rfl : k = L.length := by omega
        have hbd := dsum_bd hr L.length (Nat.le_refl _)
        go_wp2
        all_goals (go_ret; exact ⟨ret_i64 (by omega), bstep hB hb (Nat.le_refl _)⟩)

set_option maxHeartbeats 2000000 in
theorem l4Double_any (p : Option Addr) (cap : Nat) (L : List T2) (hr : rtB L = true) (w : World) (hL : Sl w p L) :
    Calls Try.prog 35 #[.slice p L.length cap] w fun e w' => e = .returned (.int .i64 (max (dsum L L.length) (-dsum L L.length))) ∧ Below w.heap.size w w' := by
  obtain ⟨h3, h12⟩ := rt_len hr
  have h3i : (3 : Int) ≤ L.length := by omega
  have h12i : (L.length : Int) ≤ 12 := by omega
  have hne0 : ¬ L = [] := by intro h; subst h; simp at h3
  obtain ⟨g, off, rfl, hC⟩ := sl_cs hL (by omega)
  go_enter Try.func35, Try.ntmps35
  go_wp2
  go_loopw [3, 4] (fun sv i wr => ∃ k : Nat, k ≤ L.length ∧ i = .int .i64 k ∧ sv = .int .i64 (dsum L k) ∧ Below w.heap.size w wr) (fun _ i _ => L.length - (intOf i).toNat)
  case atStart => exact ⟨0, by omega, rfl, rfl, Below.refl _ _⟩
  case round =>
    obtain ⟨k, hk, rfl, rfl, hb⟩ := hrel
    by_cases hlt : k < L.length
    · have hki : (k : Int) < L.length := by omega
      have hm : (k + 1) % L.length < L.length := Nat.mod_lt _ (by omega)
      have hmi : (((k + 1) % L.length : Nat) : Int) < L.length := by omega
      have hT := tmod1 k L.length
      have hgw : g < wr.heap.size := (hC.step hb).1
      obtain ⟨c0, c1⟩ := (hC.step hb).nth hlt
      obtain ⟨d0, d1⟩ := (hC.step hb).nth hm
      have ht := dterm hr hlt
      have hbd := dsum_bd hr k hk
      have hsucc : dsum L (k + 1) = dsum L k + ((nth L k).x * (nth L ((k + 1) % L.length)).y - (nth L ((k + 1) % L.length)).x * (nth L k).y) := rfl
      generalize (k + 1) % L.length = m at hm hmi hT d0 d1 ht hsucc
      generalize nth L k = a at c0 c1 ht hsucc
      generalize nth L m = b at d0 d1 ht hsucc
      rw [Int.mul_comm b.x a.y] at ht hsucc
      have HS : Hid (dsum L (k + 1) = dsum L k + (a.x * b.y - a.y * b.x)) := hsucc
      clear hsucc
      go_wp2
      go_roundw
      case rel => exact ⟨k + 1, by omega, by go_num, by rw [HS.out]; congr 1; omega, ((hb.alloc hb.size _).alloc (hb.alloc hb.size _).size _)⟩
      case measure => simp [intOf]; omega
    · obtain rfl : k = L.length := by omega
      have hbd := dsum_bd hr L.length (Nat.le_refl _)
      go_wp2_with (go_at_call 55; refine (sMax_q _ _ _).mono ?_; rintro e w2 ⟨rfl, rfl⟩)
      go_ret
      exact ⟨rfl, hb⟩
theorem l4Double_v {L : List T2} {v : Int} (hv : max (dsum L L.length) (-dsum L L.length) = v) (p : Option Addr) (cap : Nat) (hr : rtB L = true) (w : World) (hL : Sl w p L) :
    Calls Try.prog 35 #[.slice p L.length cap] w fun e w' => e = .returned (.int .i64 v) ∧ Below w.heap.size w w' := by subst hv; exact l4Double_any p cap L hr w hL

set_option maxHeartbeats 2000000 in
theorem sDouble_any (p : Option Addr) (cap : Nat) (L : List T2) (w : World) (hL : Sl w p L) (hn : L.length ≤ 1048576) :
    Calls Try.prog 15 #[.slice p L.length cap] w fun e w' => e = .returned (.int .i64 (dblI L)) ∧ Below w.heap.size w w' := by
  cases hv : shB L
  · rw [dblI, hv]
    go_enter Try.func15, Try.ntmps15
    go_wp2_with (go_at_call 19; refine (sShapeOk_v hv p cap _ hL hn).mono ?_; rintro e w1 ⟨rfl, hb2⟩)
    go_ret
    exact ⟨rfl, hb2⟩
  · rw [dblI, hv, if_pos rfl]
    generalize hd : max (dsum L L.length) (-dsum L L.length) = d
    go_enter Try.func15, Try.ntmps15
    go_wp2_with (first
      | (go_at_call 19; refine (sShapeOk_v hv p cap _ hL hn).mono ?_; rintro e w1 ⟨rfl, hb2⟩)
      | (go_at_call 35; refine (l4Double_v hd p cap (sh_rt hv) _ (hL.step hb2)).mono ?_; rintro e w2 ⟨rfl, hb3⟩))
    go_ret
    exact ⟨rfl, bstep hb2 hb3 (Nat.le_refl _)⟩
theorem iDouble_v {L : List T2} {v : Int} (hv : dblI L = v) (p : Option Addr) (cap : Nat) (w : World) (hL : Sl w p L) (hn : L.length ≤ 1048576) :
    Calls Try.prog 11 #[.slice p L.length cap] w fun e w' => e = .returned (.int .i64 v) ∧ Below w.heap.size w w' := by subst hv; exact iDouble_any p cap L w hL hn
theorem sDouble_v {L : List T2} {v : Int} (hv : dblI L = v) (p : Option Addr) (cap : Nat) (w : World) (hL : Sl w p L) (hn : L.length ≤ 1048576) :
    Calls Try.prog 15 #[.slice p L.length cap] w fun e w' => e = .returned (.int .i64 v) ∧ Below w.heap.size w w' := by subst hv; exact sDouble_any p cap L w hL hn

set_option maxHeartbeats 2000000 in
theorem exactDouble (p : Option Addr) (cap : Nat) (L : List T2) (w : World) (hL : Sl w p L) (hm : L.length ≤ maxLen) :
    Calls Try.prog 5 #[.slice p L.length cap] w fun e w' => e = .returned (.bool true) ∧ Below w.heap.size w w' := by
  by_cases hn : L.length ≤ 1048576
  · have hni : (L.length : Int) ≤ 1048576 := by omega
    have hx := Sx.nil w
    generalize hv : dblI L = v
    go_enter Try.func5, Try.ntmps5
    go_wp2_with (first
      | (go_at_call 22; refine (szSpotS_ok _ _ _ _ _ hni (by omega)).mono ?_; rintro e w1 ⟨rfl, rfl⟩)
      | (go_at_call 23; refine (toSpotS_any p cap L _ (hL.step hx.bel) hn).mono ?_; rintro e w1 ⟨p1, cap1, rfl, hO, hb2⟩; replace hx := hx.add hO hb2)
      | (go_at_call 15; refine (sDouble_v hv _ _ _ (Ow.sl (hx.own _ (List.mem_cons_self ..))) hn).mono ?_; rintro e w1 ⟨rfl, hb2⟩; replace hx := hx.step hb2)
      | (go_at_call 11; refine (iDouble_v hv _ _ _ (Ow.sl (hx.own _ (List.mem_cons_self ..))) hn).mono ?_; rintro e w1 ⟨rfl, hb2⟩; replace hx := hx.step hb2)
      | (go_at_call 24; refine (eqSpotS_same _ _ _ _ L _ (Ow.sl (hx.own _ (List.mem_cons_of_mem _ (List.mem_cons_self ..)))) (Ow.sl (hx.own _ (List.mem_cons_self ..))) (by omega)).mono ?_; rintro e w1 ⟨rfl, hb2⟩; replace hx := hx.step hb2))
    all_goals (go_ret; exact ⟨rfl, hx.bel⟩)
  · have hni : (1048576 : Int) < L.length := by omega
    go_enter Try.func5, Try.ntmps5
    go_wp2_with (go_at_call 22; refine (szSpotS_no _ _ _ _ _ hni (by omega) hm).mono ?_; rintro e w1 ⟨rfl, rfl⟩)
    go_ret
    exact ⟨rfl, Below.refl _ _⟩
end Go.Proofs.Ytipdfajojcpolaa
