/-
  The Spots within a shape: the spec's count and the program's.
-/
import Derived.Test.YtipdfajojcpolaaV1
namespace Go.Proofs.Ytipdfajojcpolaa
open Go.RowKit Go.Joins
attribute [local go_sem ↓] Go.wp_at_zero Go.wp_at_succ

/-- A box that has all corners, as the program reckons it. -/
structure Bx (L : List T2) (X0 Y0 : Int) (wN hN : Nat) : Prop where
  x0 : lowX L (nth L 0).x = X0
  y0 : lowY L (nth L 0).y = Y0
  w : topX L (nth L 0).x - lowX L (nth L 0).x + 1 = wN
  h : topY L (nth L 0).y - lowY L (nth L 0).y + 1 = hN
  b : 0 ≤ X0 ∧ X0 + wN ≤ 256 ∧ 1 ≤ wN ∧ 0 ≤ Y0 ∧ Y0 + hN ≤ 256 ∧ 1 ≤ hN
  inb : ∀ c ∈ L, InB X0 Y0 wN hN c
theorem foldl_min {f : T2 → Int} : ∀ (L : List T2) (m : Int), L.foldl (fun m c => min m (f c)) m ≤ m ∧ ∀ c ∈ L, L.foldl (fun m c => min m (f c)) m ≤ f c
  | [], m => by simp
  | a :: t, m => by
    obtain ⟨h1, h2⟩ := foldl_min (f := f) t (min m (f a))
    simp only [List.foldl_cons]
    refine ⟨by omega, fun c hc => ?_⟩
    rcases List.mem_cons.mp hc with rfl | hc
    · omega
    · exact h2 c hc
theorem foldl_max {f : T2 → Int} : ∀ (L : List T2) (m : Int), m ≤ L.foldl (fun m c => max m (f c)) m ∧ ∀ c ∈ L, f c ≤ L.foldl (fun m c => max m (f c)) m
  | [], m => by simp
  | a :: t, m => by
    obtain ⟨h1, h2⟩ := foldl_max (f := f) t (max m (f a))
    simp only [List.foldl_cons]
    refine ⟨by omega, fun c hc => ?_⟩
    rcases List.mem_cons.mp hc with rfl | hc
    · omega
    · exact h2 c hc
theorem bx_ex {L : List T2} (h : rtB L = true) : ∃ X0 Y0 wN hN, Bx L X0 Y0 wN hN := by
  obtain ⟨l3, _⟩ := rt_len h
  have h0 := spB_t.mp (nth_ok h (show 0 < L.length by omega))
  obtain ⟨b1, b2, b3, b4, b5, b6⟩ := fold_in (L := L) (rt_all h) (a := (nth L 0).x) (b := (nth L 0).x) (c := (nth L 0).y) (d := (nth L 0).y) (by omega) (by omega) (by omega) (by omega) (by omega) (by omega)
  refine ⟨_, _, (topX L (nth L 0).x - lowX L (nth L 0).x + 1).toNat, (topY L (nth L 0).y - lowY L (nth L 0).y + 1).toNat, rfl, rfl, by omega, by omega, by omega, fun c hc => ?_⟩
  have l1 := (foldl_min (f := fun c => c.x) L (nth L 0).x).2 c hc
  have l2 := (foldl_max (f := fun c => c.x) L (nth L 0).x).2 c hc
  have l3' := (foldl_min (f := fun c => c.y) L (nth L 0).y).2 c hc
  have l4 := (foldl_max (f := fun c => c.y) L (nth L 0).y).2 c hc
  change lowX L (nth L 0).x ≤ c.x at l1
  change c.x ≤ topX L (nth L 0).x at l2
  change lowY L (nth L 0).y ≤ c.y at l3'
  change c.y ≤ topY L (nth L 0).y at l4
  exact ⟨by omega, by omega, by omega, by omega⟩
def witI (L : List T2) : Int := if shB L then (max (dsum L L.length) (-dsum L L.length) - esum L L.length + 2) / 2 else -1
theorem wit_bx {L : List T2} (h : shB L = true) {X0 Y0 : Int} {wN hN : Nat} (hb : Bx L X0 Y0 wN hN) : witI L = sm (fun k => innI L.length (cyc L) (spotAt X0 Y0 wN k)) (wN * hN) := by
  have p := pick_L h hb.inb
  rw [bx_rows X0 Y0 wN hN (by have := hb.b; omega)]
  unfold witI
  rw [if_pos h]
  omega

set_option maxHeartbeats 1000000 in
theorem sWithin_any (p : Option Addr) (cap : Nat) (L : List T2) (w : World) (hL : Sl w p L) (hn : L.length ≤ 1048576) :
    Calls Try.prog 17 #[.slice p L.length cap] w fun e w' => e = .returned (.int .i64 (witI L)) ∧ Below w.heap.size w w' := by
  cases hv : shB L
  · have e : witI L = -1 := by simp [witI, hv]
    rw [e]
    go_enter Try.func17, Try.ntmps17
    go_wp2_with (go_at_call 19; refine (sShapeOk_v hv _ _ _ hL hn).mono ?_; rintro e w1 ⟨rfl, hb⟩)
    go_ret
    exact ⟨rfl, hb⟩
  · have hr := sh_rt hv
    obtain ⟨l3, l12⟩ := rt_len hr
    have d1 := dsum_bd hr L.length (Nat.le_refl _)
    have e1 := esum_bd hr L.length (Nat.le_refl _)
    obtain ⟨X0, Y0, wN, hN, hbx⟩ := bx_ex hr
    have pk := pick_L hv hbx.inb
    have f0 : 0 ≤ bx X0 Y0 wN hN (innI L.length (cyc L)) := by
      unfold bx
      refine sm_nn (fun r => sm_nn (fun x => ?_) _) _
      unfold innI; split <;> omega
    have e : witI L = (max (dsum L L.length) (-dsum L L.length) - esum L L.length + 2) / 2 := by simp [witI, hv]
    rw [e]
    obtain ⟨dv, hdv⟩ : ∃ dv, max (dsum L L.length) (-dsum L L.length) = dv := ⟨_, rfl⟩
    obtain ⟨ev, hev⟩ : ∃ ev, esum L L.length = ev := ⟨_, rfl⟩
    have dbd : 0 ≤ dv ∧ dv ≤ 780300 := by omega
    have ebd : 0 ≤ ev ∧ ev ≤ 3060 := by omega
    have hnn : 0 ≤ dv - ev + 2 := by omega
    rw [hdv, hev]
    have hq : (dv - ev + 2).tdiv 2 = (dv - ev + 2) / 2 := Int.tdiv_eq_ediv_of_nonneg hnn
    have hq2 : wrap64 ((dv - ev + 2) / 2) = (dv - ev + 2) / 2 := by unfold wrap64; omega
    clear pk f0 d1 e1 e hbx
    go_enter Try.func17, Try.ntmps17
    go_wp2_with (first
      | (go_at_call 19; refine (sShapeOk_v hv _ _ _ hL hn).mono ?_; rintro e w1 ⟨rfl, hb⟩)
      | (go_at_call 35; refine (l4Double_v hdv _ _ hr _ (hL.step hb)).mono ?_; rintro e w2 ⟨rfl, hb2⟩; replace hb := bstep hb hb2 (Nat.le_refl _))
      | (go_at_call 36; refine (l4Edge_v hev _ _ hr _ (hL.step hb)).mono ?_; rintro e w3 ⟨rfl, hb3⟩; replace hb := bstep hb hb3 (Nat.le_refl _)))
    go_ret
    exact ⟨ret_i64 (by first | rfl | omega), hb⟩
end Go.Proofs.Ytipdfajojcpolaa
