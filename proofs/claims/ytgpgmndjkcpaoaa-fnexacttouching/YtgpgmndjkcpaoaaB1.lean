/-
  The law's own looks at lists of Rects: made out of the law's Rects, alike, not too long, marked; a slice that was handed in, read.
-/
import Derived.Test.YtgpgmndjkcpaoaaSG
import Derived.Test.YtgpgmndjkcpaoaaW5
import Derived.Deep.RegionHeld3
import Derived.Deep.Slices
import Derived.ProofKit
import Derived.Lib.SmallJoins
namespace Go.Proofs.Ytgpgmndjkcpaoaa
open Go.ChangeShapes Go.WideShapes Go.ChangeAt Go.RowKit Go.Joins

theorem sc4o {B : Nat} {w w1 : World} {g i j k l : Nat} (h : Below B w w1) (hg : B ≤ g) {v0 v1 v2 v3 : Value} : Below B w ((((w1.setCell ⟨g, i, none⟩ v0).setCell ⟨g, j, none⟩ v1).setCell ⟨g, k, none⟩ v2).setCell ⟨g, l, none⟩ v3) :=
  (((h.setCell (p := ⟨g, i, none⟩) hg v0).setCell (p := ⟨g, j, none⟩) hg v1).setCell (p := ⟨g, k, none⟩) hg v2).setCell (p := ⟨g, l, none⟩) hg v3
set_option maxHeartbeats 1000000 in
theorem toRectS_any (p : Option Addr) (cap : Nat) (L : List T4) (w : World) (hL : Sl4 w p L) (hn : L.length ≤ 1048576) :
    Calls Try.prog 32 #[.slice p L.length cap] w fun e w' => ∃ p1 cap1, e = .returned (.slice p1 L.length cap1) ∧ Ow4 w' w.heap.size (.slice p1 L.length cap1) L ∧ Below w.heap.size w w' := by
  obtain ⟨i0, hi, hz0, hz1, hz2⟩ := info_parts info35
  have hmk := run_make (P := Try.prog) w 24 35 i0 _ Try.underlying24 hi hz0 .i64 .i64 (L.length : Int) (L.length : Int) (by omega) (by omega) (by rw [hz2]; omega) (by omega)
  rw [hz1, Int.toNat_natCast] at hmk
  have hrow0 : Ow4 (w.alloc (.cells (madeCells #[.int .i64 0, .int .i64 0, .int .i64 0, .int .i64 0] (L.length * 4)) 35)) w.heap.size (.slice (some ⟨w.heap.size, 0, none⟩) L.length L.length) (List.replicate L.length zr4) := by
    have := World.ownsRow_lit (base := w.heap.size) (e := 35) (size := 4) w (madeCells #[.int .i64 0, .int .i64 0, .int .i64 0, .int .i64 0] (L.length * 4)) L.length (Nat.le_refl _) (by unfold maxLen; omega) (size_madeCells _ _)
    rw [made_flat4] at this
    unfold Ow4; rw [List.length_replicate]; exact this
  have hb0 := below_alloc1 w (.cells (madeCells #[.int .i64 0, .int .i64 0, .int .i64 0, .int .i64 0] (L.length * 4)) 35)
  go_enter Try.func32, Try.ntmps32
  go_wp2
  generalize w.alloc (.cells (madeCells #[.int .i64 0, .int .i64 0, .int .i64 0, .int .i64 0] (L.length * 4)) 35) = W0 at hrow0 hb0 ⊢
  go_loopw [4] (fun i wr => ∃ (k : Nat) (M : List T4), k ≤ L.length ∧ i = .int .i64 k ∧ M.length = L.length ∧ (∀ j, j < k → M[j]? = L[j]?) ∧ Ow4 wr w.heap.size (.slice (some ⟨w.heap.size, 0, none⟩) L.length L.length) M ∧ Below w.heap.size w wr) (fun i _ => L.length - (intOf i).toNat)
  case atStart => exact ⟨0, _, by omega, rfl, by simp, by simp, hrow0, hb0⟩
  case round =>
    obtain ⟨k, M, hk, rfl, hM, hjs, hrow, hb⟩ := hrel
    by_cases hlt : k < L.length
    · have hki : (k : Int) < L.length := by omega
      obtain ⟨g, off, rfl, hC⟩ := (hL.step hb).at hlt
      obtain ⟨c0, c1, c2, c3⟩ := hC.2 k L[k] (List.getElem?_eq_getElem hlt)
      have hkM : k < M.length := by omega
      go_wp2_with (go_at_call 59; refine (toRect_any _ _ _ _ _).mono ?_; rintro e w1 ⟨rfl, hb2⟩; have hrow2 := own_of_below hrow hb2; have hC2 := Ow4.cs hrow2; obtain ⟨d0, d1, d2, d3⟩ := hC2.2 k M[k] (List.getElem?_eq_getElem hkM); simp only [Nat.zero_add] at d0 d1 d2 d3; unfold Ow4 at hrow2; rw [hM] at hrow2; have hf := hrow2.frozenAt)
      go_roundw
      case rel =>
        refine ⟨k + 1, M.set k L[k], by omega, by go_num, by simp [hM], fun j hj => ?_, ?_, ?_⟩
        · by_cases e : k = j
          · subst e; rw [List.getElem?_set_self hkM, List.getElem?_eq_getElem hlt]
          · rw [List.getElem?_set_ne e]; exact hjs j (by omega)
        · have := ((((hrow2.stored (k * 4) (.int .i64 L[k].x)).1.stored (k * 4 + 1) (.int .i64 L[k].y)).1.stored (k * 4 + 2) (.int .i64 L[k].w)).1.stored (k * 4 + 3) (.int .i64 L[k].h)).1
          rw [flat4_set _ hkM] at this
          unfold Ow4; rw [List.length_set, hM]
          exact this
        · exact sc4o (bstep hb hb2 (Nat.le_refl _)) (Nat.le_refl _)
      case measure => simp [intOf]; omega
    · obtain rfl : k = L.length := by omega
      go_wp2
      go_ret
      obtain rfl : M = L := List.ext_getElem? fun j => by
        by_cases hj : j < L.length
        · exact hjs j hj
        · rw [List.getElem?_eq_none (by omega), List.getElem?_eq_none (by omega)]
      exact ⟨_, _, rfl, hrow, hb⟩

set_option maxHeartbeats 1000000 in
theorem szRectS_ok (p : Option Addr) (n cap : Nat) (left : Int) (w : World) (h0 : (n : Int) ≤ left) (h1 : left ≤ 1048576) :
    Calls Try.prog 31 #[.slice p n cap, .int .i64 left] w fun e w' => e = .returned (.int .i64 (left - n)) ∧ w' = w := by
  go_enter Try.func31, Try.ntmps31
  go_wp2
  go_ret
  exact ⟨rfl, rfl⟩
set_option maxHeartbeats 1000000 in
theorem szRectS_no (p : Option Addr) (n cap : Nat) (left : Int) (w : World) (h0 : left < n) (h1 : 0 ≤ left) (h2 : n ≤ maxLen) :
    Calls Try.prog 31 #[.slice p n cap, .int .i64 left] w fun e w' => e = .returned (.int .i64 (-1)) ∧ w' = w := by
  unfold maxLen at h2
  go_enter Try.func31, Try.ntmps31
  go_wp2
  go_ret
  exact ⟨rfl, rfl⟩

set_option maxHeartbeats 1000000 in
theorem eqRectS_same (p q : Option Addr) (cap cap' : Nat) (L : List T4) (w : World) (hp : Sl4 w p L) (hq : Sl4 w q L) (hn : L.length ≤ 10000000) :
    Calls Try.prog 33 #[.slice p L.length cap, .slice q L.length cap'] w fun e w' => e = .returned (.bool true) ∧ Below w.heap.size w w' := by
  go_enter Try.func33, Try.ntmps33
  go_wp2
  go_loopw [5] (fun i wr => ∃ k : Nat, k ≤ L.length ∧ i = .int .i64 k ∧ Below w.heap.size w wr) (fun i _ => L.length - (intOf i).toNat)
  case atStart => exact ⟨0, by omega, rfl, Below.refl _ _⟩
  case round =>
    obtain ⟨k, hk, rfl, hb⟩ := hrel
    by_cases hlt : k < L.length
    · have hki : (k : Int) < L.length := by omega
      obtain ⟨g1, o1, rfl, hC1⟩ := hp.at hlt
      obtain ⟨g2, o2, rfl, hC2⟩ := hq.at hlt
      have hS : ∀ w', Below w.heap.size w w' → (w'.cell? ⟨g1, o1 + k * 4, none⟩ = some (.int .i64 L[k].x) ∧ w'.cell? ⟨g1, o1 + k * 4 + 1, none⟩ = some (.int .i64 L[k].y) ∧ w'.cell? ⟨g1, o1 + k * 4 + 2, none⟩ = some (.int .i64 L[k].w) ∧ w'.cell? ⟨g1, o1 + k * 4 + 3, none⟩ = some (.int .i64 L[k].h)) ∧ (w'.cell? ⟨g2, o2 + k * 4, none⟩ = some (.int .i64 L[k].x) ∧ w'.cell? ⟨g2, o2 + k * 4 + 1, none⟩ = some (.int .i64 L[k].y) ∧ w'.cell? ⟨g2, o2 + k * 4 + 2, none⟩ = some (.int .i64 L[k].w) ∧ w'.cell? ⟨g2, o2 + k * 4 + 3, none⟩ = some (.int .i64 L[k].h)) :=
        fun w' h => ⟨(hC1.step h).2 k L[k] (List.getElem?_eq_getElem hlt), (hC2.step h).2 k L[k] (List.getElem?_eq_getElem hlt)⟩
      have hcc := hS _ hb
      go_wp2
      go_region_held3 (fun w' => Below w.heap.size w w' ∧ (w'.cell? ⟨g1, o1 + k * 4, none⟩ = some (.int .i64 L[k].x) ∧ w'.cell? ⟨g1, o1 + k * 4 + 1, none⟩ = some (.int .i64 L[k].y) ∧ w'.cell? ⟨g1, o1 + k * 4 + 2, none⟩ = some (.int .i64 L[k].w) ∧ w'.cell? ⟨g1, o1 + k * 4 + 3, none⟩ = some (.int .i64 L[k].h)) ∧ (w'.cell? ⟨g2, o2 + k * 4, none⟩ = some (.int .i64 L[k].x) ∧ w'.cell? ⟨g2, o2 + k * 4 + 1, none⟩ = some (.int .i64 L[k].y) ∧ w'.cell? ⟨g2, o2 + k * 4 + 2, none⟩ = some (.int .i64 L[k].w) ∧ w'.cell? ⟨g2, o2 + k * 4 + 3, none⟩ = some (.int .i64 L[k].h))) (first | exact ‹Below _ _ _ ∧ _› | exact keepS hS (bstep (‹Below _ _ _ ∧ _›).1 hb2 (Nat.le_refl _)) | exact keepS hS hb.drew | fail)
        (first | (go_at_call 60; refine (eqRect_any _ _ _ _ _).mono ?_; rintro e w1 ⟨rfl, hb2⟩))
      clear hb hcc
      obtain ⟨hb, hcc⟩ := ‹Below _ _ _ ∧ _›
      go_wp2
      go_roundw
      case rel => exact ⟨k + 1, by omega, by go_num, hb⟩
      case measure => simp [intOf]; omega
    · obtain rfl : k = L.length := by omega
      go_wp2
      go_ret
      exact ⟨rfl, hb⟩

def mk4 (k : Int) (n : Nat) : List T4 := (List.range n).map fun i : Nat => ⟨k + 4 * (i : Int), k + 4 * (i : Int) + 1, k + 4 * (i : Int) + 2, k + 4 * (i : Int) + 3⟩
theorem mk4_get {k : Int} {n i : Nat} (h : i < n) : (mk4 k n)[i]? = some ⟨k + 4 * i, k + 4 * i + 1, k + 4 * i + 2, k + 4 * i + 3⟩ := by simp [mk4, h]
theorem mk4_len (k : Int) (n : Nat) : (mk4 k n).length = n := by simp [mk4]
set_option maxHeartbeats 2000000 in
theorem markRectS_any (p : Option Addr) (cap base : Nat) (L : List T4) (w : World) (hL : Ow4 w base (.slice p L.length cap) L) (hn : L.length ≤ 10000000) :
    Calls Try.prog 35 #[.slice p L.length cap, .int .i64 1] w fun e w' => e = .returned (.int .i64 (1 + 4 * L.length)) ∧ Ow4 w' base (.slice p L.length cap) (mk4 1 L.length) ∧ w.grownBy w' (Value.slice p L.length cap).ownBlock := by
  go_enter Try.func35, Try.ntmps35
  go_wp2
  go_loopw [1, 5] (fun kv i wr => ∃ (k : Nat) (M : List T4), k ≤ L.length ∧ i = .int .i64 k ∧ kv = .int .i64 (1 + 4 * k) ∧ M.length = L.length ∧ (∀ j, j < k → M[j]? = (mk4 1 L.length)[j]?) ∧ Ow4 wr base (.slice p L.length cap) M ∧ w.grownBy wr (Value.slice p L.length cap).ownBlock) (fun _ i _ => L.length - (intOf i).toNat)
  case atStart => exact ⟨0, L, by omega, rfl, by simp, rfl, by simp, hL, ⟨rfl, rfl, rfl, Nat.le_refl _, fun _ _ _ => rfl⟩⟩
  case round =>
    obtain ⟨k, M, hk, rfl, rfl, hM, hjs, hrow, hg⟩ := hrel
    by_cases hlt : k < L.length
    · have hki : (k : Int) < L.length := by omega
      have hkM : k < M.length := by omega
      obtain ⟨g, off, rfl, _⟩ := (Ow4.sl hrow).at hkM
      have hoff : off = 0 := by rcases hrow.2 with ⟨h1, _⟩ | ⟨_, _, _, h1, _⟩ <;> injection h1 with h1 <;> first | (cases h1; done) | (injection h1 with h1; injection h1)
      subst hoff
      obtain ⟨d0, d1, d2, d3⟩ := (Ow4.cs hrow).2 k M[k] (List.getElem?_eq_getElem hkM)
      simp only [Nat.zero_add] at d0 d1 d2 d3
      unfold Ow4 at hrow
      rw [hM] at hrow
      have hf := hrow.frozenAt
      go_wp2
      go_roundw
      case rel =>
        obtain ⟨s1, t1⟩ := hrow.stored (k * 4) (.int .i64 (1 + 4 * (k : Int)))
        obtain ⟨s2, t2⟩ := s1.stored (k * 4 + 1) (.int .i64 (1 + 4 * (k : Int) + 1))
        obtain ⟨s3, t3⟩ := s2.stored (k * 4 + 2) (.int .i64 (1 + 4 * (k : Int) + 2))
        obtain ⟨s4, t4⟩ := s3.stored (k * 4 + 3) (.int .i64 (1 + 4 * (k : Int) + 3))
        refine ⟨k + 1, M.set k ⟨1 + 4 * (k : Int), 1 + 4 * (k : Int) + 1, 1 + 4 * (k : Int) + 2, 1 + 4 * (k : Int) + 3⟩, by omega, by go_num, by first | (congr 1; done) | (congr 1; omega), by simp [hM], fun j hj => ?_, ?_, ?_⟩
        · by_cases e : k = j
          · subst e; rw [List.getElem?_set_self hkM, mk4_get hlt]
          · rw [List.getElem?_set_ne e]; exact hjs j (by omega)
        · rw [flat4_set ⟨1 + 4 * (k : Int), 1 + 4 * (k : Int) + 1, 1 + 4 * (k : Int) + 2, 1 + 4 * (k : Int) + 3⟩ hkM] at s4
          unfold Ow4; rw [List.length_set, hM]
          exact s4
        · exact gtrans hg (gtrans t1 (gtrans t2 (gtrans t3 t4)))
      case measure => simp [intOf]; omega
    · obtain rfl : k = L.length := by omega
      go_wp2
      go_ret
      obtain rfl : M = mk4 1 L.length := List.ext_getElem? fun j => by
        by_cases hj : j < L.length
        · exact hjs j hj
        · rw [List.getElem?_eq_none (by omega), List.getElem?_eq_none (by rw [mk4_len]; omega)]
      exact ⟨rfl, hrow, hg⟩

theorem cells71 : Try.prog.cellsOf 71 = 4 := by kernel_rfl
theorem addr_ad (b off n : Nat) : (⟨b, off, none⟩ : Addr).add n = ⟨b, off + n, none⟩ := by
  unfold Addr.add; split <;> simp_all
set_option maxRecDepth 100000 in
theorem open_T4 {H : Type} {enc : TypeId × Value → H} {w : World} {base : Nat} {spare : Nat → Bool} {held : Bool} {fuel : Nat} {x : DataW H × List MemPlace} {p : Option Addr} {len cap : Nat}
    (h : DataW.trod enc Try.prog w base spare held fuel 47 [.slice p len cap] = some x) : ∃ L : List T4, L.length = len ∧ Sl4 w p L ∧ len ≤ maxLen := by
  rcases Go.Deep.open_slice Try.underlying47 h with ⟨hcs, _⟩ | ⟨a, len', cap', m, n, D, Pl, hcs, _, hl, hm, hmm, _, hx⟩
  · simp at hcs
    obtain ⟨_, rfl, _⟩ := hcs
    exact ⟨[], rfl, .inl rfl, by omega⟩
  · simp at hcs
    obtain ⟨rfl, rfl, rfl⟩ := hcs
    have hlm : len ≤ m := by rw [hmm]; split <;> omega
    have each : ∀ i, i < len → ∃ c : T4, w.cell? (a.add (i * 4)) = some (.int .i64 c.x) ∧ w.cell? (a.add (i * 4 + 1)) = some (.int .i64 c.y) ∧ w.cell? (a.add (i * 4 + 2)) = some (.int .i64 c.w) ∧ w.cell? (a.add (i * 4 + 3)) = some (.int .i64 c.h) := by
      intro i hi
      obtain ⟨cs', h1, h2⟩ := hx i (by omega)
      rw [cells71] at h1
      obtain ⟨_, hlen, hcell⟩ := World.cells?_some h1
      obtain ⟨xs, k, hk, hxy, _, hxl, hf⟩ := DataW.trod_struct Try.underlying71 h2
      match xs, hxl, cs', hlen with
      | [y0, y1, y2, y3], _, [v0, v1, v2, v3], _ =>
        have g0 := hf 0 _ rfl
        have g1 := hf 1 _ rfl
        have g2 := hf 2 _ rfl
        have g3 := hf 3 _ rfl
        have c2 : Try.prog.cellsOf 2 = 1 := by kernel_rfl
        simp [c2] at g0 g1 g2 g3
        obtain ⟨a0, e0, _, _⟩ := DataW.trod_int Try.underlying2 g0
        obtain ⟨a1, e1, _, _⟩ := DataW.trod_int Try.underlying2 g1
        obtain ⟨a2, e2, _, _⟩ := DataW.trod_int Try.underlying2 g2
        obtain ⟨a3, e3, _, _⟩ := DataW.trod_int Try.underlying2 g3
        simp at e0 e1 e2 e3
        subst e0 e1 e2 e3
        have d0 := hcell 0 (by omega)
        have d1 := hcell 1 (by omega)
        have d2 := hcell 2 (by omega)
        have d3 := hcell 3 (by omega)
        rw [Go.Deep.add_add] at d0 d1 d2 d3
        exact ⟨⟨a0, a1, a2, a3⟩, by simpa using d0, by simpa using d1, by simpa using d2, by simpa using d3⟩
    by_cases h0 : len = 0
    · subst h0; exact ⟨[], rfl, .inl rfl, by omega⟩
    obtain ⟨q, hq⟩ : ∃ q : Nat → T4, ∀ i, i < len → w.cell? (a.add (i * 4)) = some (.int .i64 (q i).x) ∧ w.cell? (a.add (i * 4 + 1)) = some (.int .i64 (q i).y) ∧ w.cell? (a.add (i * 4 + 2)) = some (.int .i64 (q i).w) ∧ w.cell? (a.add (i * 4 + 3)) = some (.int .i64 (q i).h) := by
      haveI : Inhabited T4 := ⟨zr4⟩
      exact Go.Deep.choose_lt each
    refine ⟨(List.range len).map q, by simp, .inr ?_, by omega⟩
    obtain ⟨b, off, spot⟩ := a
    have hc0 := (hq 0 (by omega)).1
    have hspot : spot = none := by simpa [Addr.add] using World.cell?_spot hc0
    subst hspot
    have hb := World.block_lt_of_cell? w _ hc0
    simp [Addr.add] at hb
    refine ⟨b, off, rfl, hb, fun k c hk => ?_⟩
    simp only [List.getElem?_map, Option.map_eq_some_iff] at hk
    obtain ⟨i, hi, rfl⟩ := hk
    obtain ⟨hi1, hi2⟩ := List.getElem?_eq_some_iff.1 hi
    simp at hi1 hi2
    subst hi2
    obtain ⟨r0, r1, r2, r3⟩ := hq k hi1
    rw [addr_ad] at r0 r1 r2 r3
    exact ⟨r0, by rw [Nat.add_assoc]; exact r1, by rw [Nat.add_assoc]; exact r2, by rw [Nat.add_assoc]; exact r3⟩
end Go.Proofs.Ytgpgmndjkcpaoaa
