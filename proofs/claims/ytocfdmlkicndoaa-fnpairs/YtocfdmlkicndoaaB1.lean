/-
  The law's own looks at lists of Spots: made out of the law's Spots, alike, not too long; a slice that was handed in, read.
-/
import Derived.Test.YtocfdmlkicndoaaA2
import Derived.Deep.RegionHeld3
import Derived.Deep.Slices
import Derived.ProofKit
import Derived.Lib.SmallJoins
namespace Go.Proofs.Ytocfdmlkicndoaa
open Go.ChangeShapes Go.WideShapes Go.ChangeAt Go.RowKit Go.Joins
attribute [local go_sem ↓] Go.wp_at_zero Go.wp_at_succ

set_option maxHeartbeats 1000000 in
theorem toSpotS_any (p : Option Addr) (cap : Nat) (L : List T2) (w : World) (hL : Sl w p L) (hn : L.length ≤ 1048576) :
    Calls Try.prog 23 #[.slice p L.length cap] w fun e w' => ∃ p1 cap1, e = .returned (.slice p1 L.length cap1) ∧ Ow w' w.heap.size (.slice p1 L.length cap1) L ∧ Below w.heap.size w w' := by
  obtain ⟨i0, hi, hz0, hz1, hz2⟩ := info_parts info37
  have hmk := run_make (P := Try.prog) w 24 37 i0 _ Try.underlying24 hi hz0 .i64 .i64 (L.length : Int) (L.length : Int) (by omega) (by omega) (by rw [hz2]; omega) (by omega)
  rw [hz1, Int.toNat_natCast] at hmk
  have hrow0 : Ow (w.alloc (.cells (madeCells #[.int .i64 0, .int .i64 0] (L.length * 2)) 37)) w.heap.size (.slice (some ⟨w.heap.size, 0, none⟩) L.length L.length) (List.replicate L.length zro) := by
    have := World.ownsRow_lit (base := w.heap.size) (e := 37) (size := 2) w (madeCells #[.int .i64 0, .int .i64 0] (L.length * 2)) L.length (Nat.le_refl _) (by unfold maxLen; omega) (size_madeCells _ _)
    rw [made_flat] at this
    unfold Ow; rw [List.length_replicate]; exact this
  have hb0 := below_alloc1 w (.cells (madeCells #[.int .i64 0, .int .i64 0] (L.length * 2)) 37)
  go_enter Try.func23, Try.ntmps23
  go_wp2
  generalize w.alloc (.cells (madeCells #[.int .i64 0, .int .i64 0] (L.length * 2)) 37) = W0 at hrow0 hb0 ⊢
  go_loopw [4] (fun i wr => ∃ (k : Nat) (M : List T2), k ≤ L.length ∧ i = .int .i64 k ∧ M.length = L.length ∧ (∀ j, j < k → M[j]? = L[j]?) ∧ Ow wr w.heap.size (.slice (some ⟨w.heap.size, 0, none⟩) L.length L.length) M ∧ Below w.heap.size w wr) (fun i _ => L.length - (intOf i).toNat)
  case atStart => exact ⟨0, _, by omega, rfl, by simp, by simp, hrow0, hb0⟩
  case round =>
    obtain ⟨k, M, hk, rfl, hM, hjs, hrow, hb⟩ := hrel
    by_cases hlt : k < L.length
    · have hki : (k : Int) < L.length := by omega
      obtain ⟨g, off, rfl, hC⟩ := (hL.step hb).at hlt
      obtain ⟨c0, c1⟩ := hC.2 k L[k] (List.getElem?_eq_getElem hlt)
      have hkM : k < M.length := by omega
      go_wp2_with (go_at_call 49; refine (toSpot_any _ _ _).mono ?_; rintro e w1 ⟨rfl, hb2⟩; have hrow2 := own_of_below hrow hb2; have hC2 := Ow.cs hrow2; obtain ⟨d0, d1⟩ := hC2.2 k M[k] (List.getElem?_eq_getElem hkM); simp only [Nat.zero_add] at d0 d1; unfold Ow at hrow2; rw [hM] at hrow2; have hf := hrow2.frozenAt)
      go_roundw
      case rel =>
        refine ⟨k + 1, M.set k L[k], by omega, by go_num, by simp [hM], fun j hj => ?_, ?_, ?_⟩
        · by_cases e : k = j
          · subst e; rw [List.getElem?_set_self hkM, List.getElem?_eq_getElem hlt]
          · rw [List.getElem?_set_ne e]; exact hjs j (by omega)
        · have := ((hrow2.stored (k * 2) (.int .i64 L[k].x)).1.stored (k * 2 + 1) (.int .i64 L[k].y)).1
          rw [flat_set _ hkM] at this
          unfold Ow; rw [List.length_set, hM]
          exact this
        · exact sc2o (bstep hb hb2 (Nat.le_refl _)) (Nat.le_refl _)
      case measure => simp [intOf]; omega
    · obtain rfl : k = L.length := by omega
      go_wp2
      go_ret
      obtain rfl : M = L := List.ext_getElem? fun j => by
        by_cases hj : j < L.length
        · exact hjs j hj
        · rw [List.getElem?_eq_none (by omega), List.getElem?_eq_none (by omega)]
      exact ⟨_, _, rfl, hrow, hb⟩

set_option maxHeartbeats 1000000 in
theorem szSpotS_ok (p : Option Addr) (n cap : Nat) (left : Int) (w : World) (h0 : (n : Int) ≤ left) (h1 : left ≤ 1048576) :
    Calls Try.prog 22 #[.slice p n cap, .int .i64 left] w fun e w' => e = .returned (.int .i64 (left - n)) ∧ w' = w := by
  go_enter Try.func22, Try.ntmps22
  go_wp2
  go_ret
  exact ⟨rfl, rfl⟩
set_option maxHeartbeats 1000000 in
theorem szSpotS_no (p : Option Addr) (n cap : Nat) (left : Int) (w : World) (h0 : left < n) (h1 : 0 ≤ left) (h2 : n ≤ maxLen) :
    Calls Try.prog 22 #[.slice p n cap, .int .i64 left] w fun e w' => e = .returned (.int .i64 (-1)) ∧ w' = w := by
  unfold maxLen at h2
  go_enter Try.func22, Try.ntmps22
  go_wp2
  go_ret
  exact ⟨rfl, rfl⟩
set_option maxHeartbeats 1000000 in
theorem eqSpot_same (x y : Int) (w : World) :
    Calls Try.prog 50 #[.agg #[.int .i64 x, .int .i64 y], .agg #[.int .i64 x, .int .i64 y]] w fun e w' => e = .returned (.bool true) ∧ Below w.heap.size w w' := by
  go_enter Try.func50, Try.ntmps50
  go_wp2
  go_ret
  exact ⟨rfl, below_alloc2 _ _ _⟩

set_option maxHeartbeats 1000000 in
theorem eqSpotS_same (p q : Option Addr) (cap cap' : Nat) (L : List T2) (w : World) (hp : Sl w p L) (hq : Sl w q L) (hn : L.length ≤ 10000000) :
    Calls Try.prog 24 #[.slice p L.length cap, .slice q L.length cap'] w fun e w' => e = .returned (.bool true) ∧ Below w.heap.size w w' := by
  go_enter Try.func24, Try.ntmps24
  go_wp2
  go_loopw [5] (fun i wr => ∃ k : Nat, k ≤ L.length ∧ i = .int .i64 k ∧ Below w.heap.size w wr) (fun i _ => L.length - (intOf i).toNat)
  case atStart => exact ⟨0, by omega, rfl, Below.refl _ _⟩
  case round =>
    obtain ⟨k, hk, rfl, hb⟩ := hrel
    by_cases hlt : k < L.length
    · have hki : (k : Int) < L.length := by omega
      obtain ⟨g1, o1, rfl, hC1⟩ := hp.at hlt
      obtain ⟨g2, o2, rfl, hC2⟩ := hq.at hlt
      have hS : ∀ w', Below w.heap.size w w' → (w'.cell? ⟨g1, o1 + k * 2, none⟩ = some (.int .i64 L[k].x) ∧ w'.cell? ⟨g1, o1 + k * 2 + 1, none⟩ = some (.int .i64 L[k].y)) ∧ (w'.cell? ⟨g2, o2 + k * 2, none⟩ = some (.int .i64 L[k].x) ∧ w'.cell? ⟨g2, o2 + k * 2 + 1, none⟩ = some (.int .i64 L[k].y)) :=
        fun w' h => ⟨(hC1.step h).2 k L[k] (List.getElem?_eq_getElem hlt), (hC2.step h).2 k L[k] (List.getElem?_eq_getElem hlt)⟩
      have hcc := hS _ hb
      go_wp2
      go_region_held3 (fun w' => Below w.heap.size w w' ∧ (w'.cell? ⟨g1, o1 + k * 2, none⟩ = some (.int .i64 L[k].x) ∧ w'.cell? ⟨g1, o1 + k * 2 + 1, none⟩ = some (.int .i64 L[k].y)) ∧ (w'.cell? ⟨g2, o2 + k * 2, none⟩ = some (.int .i64 L[k].x) ∧ w'.cell? ⟨g2, o2 + k * 2 + 1, none⟩ = some (.int .i64 L[k].y))) (first | exact ‹Below _ _ _ ∧ _› | exact keepS hS (bstep (‹Below _ _ _ ∧ _›).1 hb2 (Nat.le_refl _)) | exact keepS hS hb.drew | fail)
        (first | (go_at_call 50; refine (eqSpot_same _ _ _).mono ?_; rintro e w1 ⟨rfl, hb2⟩))
      clear hb hcc
      obtain ⟨hb, hcc⟩ := ‹Below _ _ _ ∧ _›
      go_wp2
      go_roundw
      case rel => exact ⟨k + 1, by omega, by go_num, hb⟩
      case measure => simp [intOf]; omega
    · obtain rfl : k = L.length := by omega
      go_wp2
      go_ret
      exact ⟨rfl, hb⟩

theorem cells73 : Try.prog.cellsOf 73 = 2 := by kernel_rfl
theorem addr_ad (b off n : Nat) : (⟨b, off, none⟩ : Addr).add n = ⟨b, off + n, none⟩ := by
  unfold Addr.add; split <;> simp_all
set_option maxRecDepth 100000 in
theorem open_T2 {H : Type} {enc : TypeId × Value → H} {w : World} {base : Nat} {spare : Nat → Bool} {held : Bool} {fuel : Nat} {x : DataW H × List MemPlace} {p : Option Addr} {len cap : Nat}
    (h : DataW.trod enc Try.prog w base spare held fuel 39 [.slice p len cap] = some x) : ∃ L : List T2, L.length = len ∧ Sl w p L ∧ len ≤ maxLen := by
  rcases Go.Deep.open_slice Try.underlying39 h with ⟨hcs, _⟩ | ⟨a, len', cap', m, n, D, Pl, hcs, _, hl, hm, hmm, _, hx⟩
  · simp at hcs
    obtain ⟨_, rfl, _⟩ := hcs
    exact ⟨[], rfl, .inl rfl, by omega⟩
  · simp at hcs
    obtain ⟨rfl, rfl, rfl⟩ := hcs
    have hlm : len ≤ m := by rw [hmm]; split <;> omega
    have each : ∀ i, i < len → ∃ c : T2, w.cell? (a.add (i * 2)) = some (.int .i64 c.x) ∧ w.cell? (a.add (i * 2 + 1)) = some (.int .i64 c.y) := by
      intro i hi
      obtain ⟨cs', h1, h2⟩ := hx i (by omega)
      rw [cells73] at h1
      obtain ⟨_, hlen, hcell⟩ := World.cells?_some h1
      obtain ⟨xs, k, hk, hxy, _, hxl, hf⟩ := DataW.trod_struct Try.underlying73 h2
      match xs, hxl, cs', hlen with
      | [y0, y1], _, [v0, v1], _ =>
        have g0 := hf 0 _ rfl
        have g1 := hf 1 _ rfl
        have c2 : Try.prog.cellsOf 2 = 1 := by kernel_rfl
        simp [c2] at g0 g1
        obtain ⟨a0, e0, _, _⟩ := DataW.trod_int Try.underlying2 g0
        obtain ⟨a1, e1, _, _⟩ := DataW.trod_int Try.underlying2 g1
        simp at e0 e1
        subst e0 e1
        have d0 := hcell 0 (by omega)
        have d1 := hcell 1 (by omega)
        rw [Go.Deep.add_add] at d0 d1
        exact ⟨⟨a0, a1⟩, by simpa using d0, by simpa using d1⟩
    by_cases h0 : len = 0
    · subst h0; exact ⟨[], rfl, .inl rfl, by omega⟩
    obtain ⟨q, hq⟩ : ∃ q : Nat → T2, ∀ i, i < len → w.cell? (a.add (i * 2)) = some (.int .i64 (q i).x) ∧ w.cell? (a.add (i * 2 + 1)) = some (.int .i64 (q i).y) := by
      haveI : Inhabited T2 := ⟨zro⟩
      exact Go.Deep.choose_lt each
    refine ⟨(List.range len).map q, by simp, .inr ?_, by omega⟩
    obtain ⟨b, off, spot⟩ := a
    have hc0 := (hq 0 (by omega)).1
    have hspot : spot = none := by simpa [Addr.add] using World.cell?_spot hc0
    subst hspot
    have hb := World.block_lt_of_cell? w _ hc0
    simp [Addr.add] at hb
    refine ⟨b, off, rfl, hb, fun k c hk => ?_⟩
    simp only [List.getElem?_map, Option.map_eq_some_iff] at hk
    obtain ⟨i, hi, rfl⟩ := hk
    obtain ⟨hi1, hi2⟩ := List.getElem?_eq_some_iff.1 hi
    simp at hi1 hi2
    subst hi2
    obtain ⟨r0, r1⟩ := hq k hi1
    rw [addr_ad] at r0 r1
    exact ⟨r0, by rw [Nat.add_assoc]; exact r1⟩
end Go.Proofs.Ytocfdmlkicndoaa
