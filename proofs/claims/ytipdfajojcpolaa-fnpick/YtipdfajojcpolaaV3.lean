/-
  The program's Within.
-/
import Derived.Test.YtipdfajojcpolaaV2
import Derived.WalkMore
import Derived.Deep.LoopGhost
namespace Go.Proofs.Ytipdfajojcpolaa
open Go.RowKit Go.Joins
attribute [local go_sem ↓] Go.wp_at_zero Go.wp_at_succ

theorem box_v {L : List T2} {X0 Y0 : Int} {wN hN : Nat} (hb : Bx L X0 Y0 wN hN) (h0 : 0 < L.length) (p : Option Addr) (cap : Nat) (w : World) (hL : Sl w p L) (hn : L.length ≤ 1048576) (hok : ∀ c ∈ L, c.ok = true) :
    Calls Try.prog 29 #[.slice p L.length cap] w fun e w' => e = .returned (.agg #[.int .i64 X0, .int .i64 Y0, .int .i64 wN, .int .i64 hN]) ∧ Below w.heap.size w w' := by
  have := box_any p cap L h0 w hL hn hok
  rw [← nth_lt h0, hb.w, hb.h, hb.x0, hb.y0] at this
  exact this
theorem area_v {X0 Y0 : Int} {wN hN : Nat} (hb : 0 ≤ X0 ∧ X0 + wN ≤ 256 ∧ 1 ≤ wN ∧ 0 ≤ Y0 ∧ Y0 + hN ≤ 256 ∧ 1 ≤ hN) {A : Nat} (hA : wN * hN = A) (w : World) :
    Calls Try.prog 30 #[.agg #[.int .i64 X0, .int .i64 Y0, .int .i64 wN, .int .i64 hN]] w fun e w' => e = .returned (.int .i64 (A : Int)) ∧ Below w.heap.size w w' := by
  have h := iArea_any X0 Y0 wN hN w
  have e : areaI X0 Y0 wN hN = (A : Int) := by
    unfold areaI
    rw [show okB X0 Y0 wN hN = true from okB_t.mpr (by omega), if_pos rfl, ← hA]
    exact (Int.natCast_mul _ _).symm
  rw [e] at h
  exact h
theorem has_v {p : Option Addr} {a b s : T2} {v : Bool} (hv : onB a b s = v) (ha : a.ok = true) (hb : b.ok = true) (hs : s.ok = true) (w : World) (hE : Eg w p a b) :
    Calls Try.prog 31 #[.slice p 2 2, .agg #[.int .i64 s.x, .int .i64 s.y]] w fun e w' => e = .returned (.bool v) ∧ Below w.heap.size w w' := by subst hv; exact has_any ha hb hs w hE
theorem crosses_v {p : Option Addr} {a b s : T2} {v : Bool} (hv : crB a b s = v) (ha : a.ok = true) (hb : b.ok = true) (hs : s.ok = true) (w : World) (hE : Eg w p a b) :
    Calls Try.prog 32 #[.slice p 2 2, .agg #[.int .i64 s.x, .int .i64 s.y]] w fun e w' => e = .returned (.bool v) ∧ Below w.heap.size w w' := by subst hv; exact crosses_any ha hb hs w hE
/-- Crossed an odd number of times, as far as j. -/
def oddB (L : List T2) (s : T2) (j : Nat) : Bool := decide (sm (fun j => chi (df (cyc L j) s) (df (cyc L (j + 1)) s)) j % 2 = 1)
theorem odd_next {L : List T2} {s : T2} {j : Nat} (hj : j < L.length) : oddB L s (j + 1) = xor (oddB L s j) (crB (nth L j) (nth L ((j + 1) % L.length)) s) := by
  have e : sm (fun j => chi (df (cyc L j) s) (df (cyc L (j + 1)) s)) (j + 1) = sm (fun j => chi (df (cyc L j) s) (df (cyc L (j + 1)) s)) j + chi (df (nth L j) s) (df (nth L ((j + 1) % L.length)) s) := by
    rw [← cyc_lt hj]; rfl
  unfold oddB crB
  rw [e]
  generalize sm (fun j => chi (df (cyc L j) s) (df (cyc L (j + 1)) s)) j = m
  have hc : ∀ u v, chi u v = 0 ∨ chi u v = 1 ∨ chi u v = -1 := fun u v => by unfold chi chN; split; omega; split <;> omega
  have := hc (df (nth L j) s) (df (nth L ((j + 1) % L.length)) s)
  generalize chi (df (nth L j) s) (df (nth L ((j + 1) % L.length)) s) = c at *
  by_cases h1 : m % 2 = 1 <;> by_cases h2 : c = 0
  · rw [decide_eq_true h1, decide_eq_true (by omega), decide_eq_false (by omega)]; rfl
  · rw [decide_eq_true h1, decide_eq_false (by omega), decide_eq_true h2]; rfl
  · rw [decide_eq_false h1, decide_eq_false (by omega), decide_eq_false (by omega)]; rfl
  · rw [decide_eq_false h1, decide_eq_true (by omega), decide_eq_true h2]; rfl
theorem inn_on {L : List T2} {s : T2} {j : Nat} (hj : j < L.length) (h : onB (nth L j) (nth L ((j + 1) % L.length)) s = true) : innI L.length (cyc L) s = 0 := by
  unfold innI
  rw [if_neg]
  intro hh
  refine on_none.mp hh.1 ⟨j, hj, ?_⟩
  unfold onE
  rw [cyc_lt hj]
  exact onB_on.mp h
theorem inn_off {L : List T2} {s : T2} (h : ∀ j, j < L.length → onB (nth L j) (nth L ((j + 1) % L.length)) s = false) : innI L.length (cyc L) s = if oddB L s L.length then 1 else 0 := by
  have hn : sm (fun j => onI (cyc L j) (cyc L (j + 1)) s) L.length = 0 := by
    refine on_none.mpr ?_
    rintro ⟨j, hj, ho⟩
    unfold onE at ho
    rw [cyc_lt hj] at ho
    have ho' : On (nth L j) (nth L ((j + 1) % L.length)) s := ho
    have := h j hj
    rw [onB_on.mpr ho'] at this; cases this
  unfold innI oddB W
  by_cases h1 : sm (fun j => chi (df (cyc L j) s) (df (cyc L (j + 1)) s)) L.length % 2 = 1
  · rw [if_pos ⟨hn, h1⟩, decide_eq_true h1]; rfl
  · rw [if_neg (fun hh => h1 hh.2), decide_eq_false h1]; rfl
theorem has4 {W : World} {b : Nat} {x y z v : Value} (h : Has W [(b, [x, y, z, v])]) : W.cell? ⟨b, 0, none⟩ = some x ∧ W.cell? ⟨b, 1, none⟩ = some y ∧ W.cell? ⟨b, 2, none⟩ = some z ∧ W.cell? ⟨b, 3, none⟩ = some v := by simp [Has, HasAt] at h; simp [h]

def cntW (L : List T2) (X0 Y0 : Int) (wN k : Nat) : Int := sm (fun k => innI L.length (cyc L) (spotAt X0 Y0 wN k)) k
theorem cnt_bd (L : List T2) (X0 Y0 : Int) (wN : Nat) : ∀ k : Nat, 0 ≤ cntW L X0 Y0 wN k ∧ cntW L X0 Y0 wN k ≤ k
  | 0 => by simp [cntW, sm]
  | k + 1 => by
    have := cnt_bd L X0 Y0 wN k
    have h : innI L.length (cyc L) (spotAt X0 Y0 wN k) = 0 ∨ innI L.length (cyc L) (spotAt X0 Y0 wN k) = 1 := by unfold innI; split <;> omega
    unfold cntW at *
    simp only [sm]
    omega
set_option maxRecDepth 100000 in
set_option maxHeartbeats 4000000 in
theorem iWithin_ok {L : List T2} (hv : shB L = true) {X0 Y0 : Int} {wN hN A : Nat} (hbx : Bx L X0 Y0 wN hN) (hA : wN * hN = A) (g off cap : Nat) (w : World) (hL : Sl w (some ⟨g, off, none⟩) L) (hC : Cs w g off L) (hn : L.length ≤ 12) (h0 : 0 < L.length) (hok : ∀ c ∈ L, c.ok = true) (hnok : ∀ i, i < L.length → (nth L i).ok = true) :
    Calls Try.prog 13 #[.slice (some ⟨g, off, none⟩) L.length cap] w fun e w' => e = .returned (.int .i64 (cntW L X0 Y0 wN A)) ∧ Below w.heap.size w w' := by
  have hb := hbx.b
  have hAb : A ≤ 65536 := by rw [← hA]; exact Nat.le_trans (Nat.mul_le_mul (show wN ≤ 256 by omega) (show hN ≤ 256 by omega)) (by decide)
  go_enter Try.func13, Try.ntmps13
  go_wp2_with fail
  go_step3
  go_wp2_with (first
    | (go_at_call 18; refine (iShapeOk_v hv _ _ _ hL (by omega)).mono ?_; rintro e w1 ⟨rfl, hb1⟩)
    | (go_at_call 27; refine (edges_any g off cap L h0 _ (hC.step hb1) hn).mono ?_; rintro e w2 ⟨v, rfl, hE, hb2⟩; have hB2 := bstep hb1 hb2 (Nat.le_refl _); obtain ⟨ge, cape, gr, rfl, hge, hat⟩ := hE.nth)
    | (go_at_call 29; refine (box_v hbx h0 _ _ _ (hL.step hB2) (by omega) hok).mono ?_; rintro e w3 ⟨rfl, hb3⟩))
  go_step3
  go_wp2_with (go_at_call 30; refine (area_v hb hA _).mono ?_; rintro e w4 ⟨rfl, hb4⟩)
  have hb34 := bstepA (Below.refl w3.heap.size w3) hb4 (Nat.le_refl _)
  have hB24 : Below w2.heap.size w2 w4 := bstep hb3 hb34 (Nat.le_refl _)
  have hBw : Below w.heap.size w w4 := bstep hB2 hB24 (Nat.le_refl _)
  have hbox : Has w4 [(w3.heap.size, [.int .i64 X0, .int .i64 Y0, .int .i64 (wN : Int), .int .i64 (hN : Int)])] := (((St.nil w3).push [.int .i64 X0, .int .i64 Y0, .int .i64 (wN : Int), .int .i64 (hN : Int)] 47).step hb4).has
  have hat4 : ∀ W, Below w4.heap.size w4 W → ∀ i, i < L.length → W.cell? ⟨ge, i, none⟩ = some (.slice (some ⟨gr, i * 2, none⟩) 2 2) ∧ Eg W (some ⟨gr, i * 2, none⟩) (nth L i) (nth L ((i + 1) % L.length)) := fun W hW i hi => by
    have h := bstep hB24 hW (Nat.le_refl _)
    exact ⟨(h.cell (p := ⟨ge, i, none⟩) hge).trans (hat i hi).1, (hat i hi).2.step h⟩
  clear hb1 hb2 hb3 hb4 hb34 hB24 hB2 hE hat hge hL hC hv hbx
  generalize w3.heap.size = b4 at hbox ⊢
  go_loopg [5, 20] A (fun gk s5 s20 wr => ∃ k : Nat, k + gk = A ∧ s20 = .int .i64 k ∧ s5 = .int .i64 (cntW L X0 Y0 wN k) ∧ Below w4.heap.size w4 wr)
  case atStart => exact ⟨0, by omega, rfl, rfl, Below.refl _ _⟩
  case round =>
    obtain ⟨k, hkg, rfl, rfl, hbr⟩ := hrel
    have hcb := cnt_bd L X0 Y0 wN k
    cases gk with
    | zero =>
      have hkz : ¬ ((k : Int) < (A : Int)) := by omega
      obtain rfl : k = A := by omega
      go_wp2
      try rw [Exit.noGoto_ret]
      go_ret
      exact ⟨rfl, bstep hBw hbr (Nat.le_refl _)⟩
    | succ g1 =>
      have hkz : (k : Int) < (A : Int) := by omega
      have hw1 : 0 < wN := by omega
      obtain ⟨xk, hxk⟩ : ∃ xk, k % wN = xk := ⟨_, rfl⟩
      obtain ⟨yk, hyk⟩ : ∃ yk, k / wN = yk := ⟨_, rfl⟩
      have hxl : xk < wN := by rw [← hxk]; exact Nat.mod_lt _ hw1
      have hyl : yk < hN := by rw [← hyk]; exact Nat.div_lt_of_lt_mul (by rw [hA]; omega)
      have hT : (k : Int).tmod (wN : Int) = (xk : Int) := by rw [← hxk]; rfl
      have hQ : (k : Int).tdiv (wN : Int) = (yk : Int) := by rw [← hyk]; rfl
      have hwz : ((wN : Int) == 0) = false := beq_eq_false_iff_ne.mpr (by omega)
      have hwz2 : ¬ wN = 0 := by omega
      have HS : Hid (spotAt X0 Y0 wN k = ⟨X0 + xk, Y0 + yk⟩) := by unfold Hid spotAt; rw [hxk, hyk]
      clear hxk hyk
      obtain ⟨e0, e1, e2, e3⟩ := has4 (hbox.step hbr)
      have hb4l : b4 < wr.heap.size := (hbox.step hbr).1.1
      have hal : ∀ (o : Obj) (i : Nat), (wr.alloc o).cell? ⟨b4, i, none⟩ = wr.cell? ⟨b4, i, none⟩ := fun o i => (below_alloc1 wr o).cell (p := ⟨b4, i, none⟩) hb4l
      go_wp2_with fail
      go_region
      have hs5 : Has (wr.alloc (.cells #[.int .i64 (X0 + xk), .int .i64 (Y0 + yk)] 28)).drew [(wr.heap.size, [.int .i64 (X0 + xk), .int .i64 (Y0 + yk)])] := (((St.nil wr).push [.int .i64 (X0 + xk), .int .i64 (Y0 + yk)] 28).dr).has
      have hb5 : Below w4.heap.size w4 (wr.alloc (.cells #[.int .i64 (X0 + xk), .int .i64 (Y0 + yk)] 28)).drew := bstep hbr ((below_alloc1 wr _).trans ((Below.refl _ _).drew)) (Nat.le_refl _)
      have hsok : spB (X0 + xk) (Y0 + yk) = true := spB_t.mpr (by omega)
      generalize wr.heap.size = b7 at hs5 ⊢
      generalize (wr.alloc (.cells #[.int .i64 (X0 + xk), .int .i64 (Y0 + yk)] 28)).drew = W5 at hs5 hb5 ⊢
      clear hal e0 e1 e2 e3 hT hQ hbr hb4l
      generalize X0 + (xk : Int) = sx at hs5 hsok HS ⊢
      generalize Y0 + (yk : Int) = sy at hs5 hsok HS ⊢
      have HN : Hid (cntW L X0 Y0 wN (k + 1) = cntW L X0 Y0 wN k + innI L.length (cyc L) ⟨sx, sy⟩) := by unfold Hid; rw [← HS.out]; rfl
      have hso : (⟨sx, sy⟩ : T2).ok = true := hsok
      go_wp2_with fail
      go_loopg [8, 40] L.length (fun gn s8 s40 wy => ∃ (j : Nat) (b : Bool), j + gn = L.length ∧ s40 = .int .i64 j ∧ s8 = .bool b ∧ Hid (b = oddB L ⟨sx, sy⟩ j) ∧ Hid (∀ i, i < j → onB (nth L i) (nth L ((i + 1) % L.length)) ⟨sx, sy⟩ = false) ∧ Below W5.heap.size W5 wy)
      case atStart => exact ⟨0, false, by omega, rfl, rfl, by simp [Hid, oddB, sm], fun i hi => absurd hi (by omega), Below.refl _ _⟩
      case round =>
        obtain ⟨j, b, hjg, rfl, rfl, HB, HO, hby⟩ := hrel
        have hb45 := bstep hb5 hby (Nat.le_refl _)
        cases gk with
        | zero =>
          have hjz : ¬ ((j : Int) < (L.length : Int)) := by omega
          have HI : Hid (innI L.length (cyc L) ⟨sx, sy⟩ = if b then 1 else 0) := by
            unfold Hid
            have e : j = L.length := by omega
            rw [HB.out, e]
            exact inn_off fun i hi => HO.out i (by omega)
          cases b
          · go_wp2_with fail
            go_roundg g1
            case measure => omega
            case rel => exact ⟨k + 1, by omega, by go_num, by rw [HN.out, HI.out]; simp, hb45⟩
          · go_wp2_with fail
            go_roundg g1
            case measure => omega
            case rel => exact ⟨k + 1, by omega, by go_num, by rw [HN.out, HI.out]; simp, hb45⟩
        | succ gj =>
          have hjl : j < L.length := by omega
          have hjz : (j : Int) < (L.length : Int) := by omega
          obtain ⟨hce, hEg⟩ := hat4 _ hb45 j hjl
          obtain ⟨c0, c1⟩ := has2 (s := ⟨sx, sy⟩) (hs5.step hby)
          simp only at c0 c1
          have hao := hnok j hjl
          have hbo := hnok ((j + 1) % L.length) (Nat.mod_lt _ h0)
          cases hon : onB (nth L j) (nth L ((j + 1) % L.length)) ⟨sx, sy⟩
          · have HO2 : Hid (∀ i, i < j + 1 → onB (nth L i) (nth L ((i + 1) % L.length)) ⟨sx, sy⟩ = false) := by
              intro i hi
              rcases Nat.lt_or_ge i j with h' | h'
              · exact HO.out i h'
              · obtain rfl : i = j := by omega
                exact hon
            cases hcr : crB (nth L j) (nth L ((j + 1) % L.length)) ⟨sx, sy⟩
            · have HB2 : Hid (b = oddB L ⟨sx, sy⟩ (j + 1)) := by unfold Hid; rw [odd_next hjl, hcr, HB.out, Bool.xor_false]
              go_wp2_with (first
                | (go_at_call 31; refine (has_v (s := ⟨sx, sy⟩) hon hao hbo hso _ hEg).mono ?_; rintro e w6 ⟨rfl, hb6⟩; have hby6 := bstep hby hb6 (Nat.le_refl _); clear c0 c1; obtain ⟨c0, c1⟩ := has2 (s := ⟨sx, sy⟩) (hs5.step hby6); simp only at c0 c1)
                | (go_at_call 32; refine (crosses_v (s := ⟨sx, sy⟩) hcr hao hbo hso _ (hEg.step hb6)).mono ?_; rintro e w7 ⟨rfl, hb7⟩))
              go_roundg gj
              case measure => omega
              case rel => exact ⟨j + 1, b, by omega, by go_num, rfl, HB2, HO2, bstep hby6 hb7 (Nat.le_refl _)⟩
            · have HB2 : Hid ((!b) = oddB L ⟨sx, sy⟩ (j + 1)) := by unfold Hid; rw [odd_next hjl, hcr, HB.out, Bool.xor_true]
              go_wp2_with (first
                | (go_at_call 31; refine (has_v (s := ⟨sx, sy⟩) hon hao hbo hso _ hEg).mono ?_; rintro e w6 ⟨rfl, hb6⟩; have hby6 := bstep hby hb6 (Nat.le_refl _); clear c0 c1; obtain ⟨c0, c1⟩ := has2 (s := ⟨sx, sy⟩) (hs5.step hby6); simp only at c0 c1)
                | (go_at_call 32; refine (crosses_v (s := ⟨sx, sy⟩) hcr hao hbo hso _ (hEg.step hb6)).mono ?_; rintro e w7 ⟨rfl, hb7⟩))
              go_roundg gj
              case measure => omega
              case rel => exact ⟨j + 1, !b, by omega, by go_num, rfl, HB2, HO2, bstep hby6 hb7 (Nat.le_refl _)⟩
          · have HI : Hid (innI L.length (cyc L) ⟨sx, sy⟩ = 0) := inn_on hjl hon
            go_wp2_with (go_at_call 31; refine (has_v (s := ⟨sx, sy⟩) hon hao hbo hso _ hEg).mono ?_; rintro e w6 ⟨rfl, hb6⟩)
            go_roundg g1
            case measure => omega
            case rel => exact ⟨k + 1, by omega, by go_num, by rw [HN.out, HI.out]; simp, bstep hb45 hb6 (Nat.le_refl _)⟩
end Go.Proofs.Ytipdfajojcpolaa
