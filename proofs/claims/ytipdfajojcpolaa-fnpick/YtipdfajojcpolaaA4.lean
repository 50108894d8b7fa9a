/-
  The box of a list of Spots.
-/
import Derived.Test.YtipdfajojcpolaaA2
import Derived.Test.YtipdfajojcpolaaN2
import Derived.Deep.CutBlock
import Derived.Test.YtipdfajojcpolaaW6A
namespace Go.Proofs.Ytipdfajojcpolaa
open Go.RowKit Go.Joins
attribute [local go_sem ↓] Go.wp_at_zero Go.wp_at_succ

def lowX (L : List T2) (m : Int) : Int := L.foldl (fun m c => min m c.x) m
def lowY (L : List T2) (m : Int) : Int := L.foldl (fun m c => min m c.y) m
def topX (L : List T2) (m : Int) : Int := L.foldl (fun m c => max m c.x) m
def topY (L : List T2) (m : Int) : Int := L.foldl (fun m c => max m c.y) m
theorem fold_take {f : Int → T2 → Int} {L : List T2} {m : Int} {k : Nat} (hk : k < L.length) : (L.take (k + 1)).foldl f m = f ((L.take k).foldl f m) L[k] := by
  rw [List.take_succ_eq_append_getElem hk, List.foldl_append]; rfl
theorem fold_in {L : List T2} (hok : ∀ c ∈ L, c.ok = true) : ∀ {a b c d : Int}, 0 ≤ a → a ≤ b → b ≤ 255 → 0 ≤ c → c ≤ d → d ≤ 255 → 0 ≤ lowX L a ∧ lowX L a ≤ topX L b ∧ topX L b ≤ 255 ∧ 0 ≤ lowY L c ∧ lowY L c ≤ topY L d ∧ topY L d ≤ 255 := by
  induction L with
  | nil => intro a b c d h1 h2 h3 h4 h5 h6; exact ⟨h1, h2, h3, h4, h5, h6⟩
  | cons e L ih =>
    intro a b c d h1 h2 h3 h4 h5 h6
    have k := spB_t.mp (hok e (List.mem_cons_self ..))
    exact ih (fun c hc => hok c (List.mem_cons_of_mem _ hc)) (a := min a e.x) (b := max b e.x) (c := min c e.y) (d := max d e.y) (by omega) (by omega) (by omega) (by omega) (by omega) (by omega)

def bxV (a b c d : Int) : List Value := [.int .i64 a, .int .i64 b, .int .i64 (c - a + 1), .int .i64 (d - b + 1)]
theorem around_box {a b c d x y : Int} (h : 0 ≤ a ∧ a ≤ c ∧ c ≤ 255 ∧ 0 ≤ b ∧ b ≤ d ∧ d ≤ 255) (k : 0 ≤ x ∧ x ≤ 255 ∧ 0 ≤ y ∧ y ≤ 255) :
    aroundV a b (c - a + 1) (d - b + 1) x y 1 1 = .agg #[.int .i64 (min a x), .int .i64 (min b y), .int .i64 (max c x - min a x + 1), .int .i64 (max d y - min b y + 1)] := by
  have h1 : okB a b (c - a + 1) (d - b + 1) = true := okB_t.mpr (by omega)
  have h2 : okB x y 1 1 = true := okB_t.mpr (by omega)
  have e1 : uW a (c - a + 1) x 1 = max c x - min a x + 1 := by unfold uW; omega
  have e2 : uW b (d - b + 1) y 1 = max d y - min b y + 1 := by unfold uW; omega
  simp [aroundV, h1, h2, e1, e2]
theorem iAround_v {x1 y1 a1 b1 x2 y2 a2 b2 : Int} {v : Value} (hv : aroundV x1 y1 a1 b1 x2 y2 a2 b2 = v) (w : World) :
    Calls Try.prog 50 #[.agg #[.int .i64 x1, .int .i64 y1, .int .i64 a1, .int .i64 b1], .agg #[.int .i64 x2, .int .i64 y2, .int .i64 a2, .int .i64 b2]] w fun e w' => e = .returned v ∧ Below w.heap.size w w' := by subst hv; exact iAround_any _ _ _ _ _ _ _ _ w
theorem spanned1 {x y : Int} (h : 0 ≤ x ∧ x ≤ 255 ∧ 0 ≤ y ∧ y ≤ 255) (w : World) :
    Calls Try.prog 49 #[.agg #[.int .i64 x, .int .i64 y], .agg #[.int .i64 x, .int .i64 y]] w fun e w' => e = .returned (.agg #[.int .i64 x, .int .i64 y, .int .i64 1, .int .i64 1]) ∧ Below w.heap.size w w' := by
  have := spanned_any x y x y w (by omega)
  rw [show x - x + 1 = 1 by omega, show y - y + 1 = 1 by omega] at this
  exact this

set_option maxHeartbeats 2000000 in
theorem box_any (p : Option Addr) (cap : Nat) (L : List T2) (h0 : 0 < L.length) (w : World) (hL : Sl w p L) (hn : L.length ≤ 1048576) (hok : ∀ c ∈ L, c.ok = true) :
    Calls Try.prog 29 #[.slice p L.length cap] w fun e w' => e = .returned (.agg #[.int .i64 (lowX L L[0].x), .int .i64 (lowY L L[0].y), .int .i64 (topX L L[0].x - lowX L L[0].x + 1), .int .i64 (topY L L[0].y - lowY L L[0].y + 1)]) ∧ Below w.heap.size w w' := by
  have hi0 : (0 : Int) < L.length := by omega
  have k0 := spB_t.mp (hok L[0] (List.getElem_mem h0))
  obtain ⟨g, off, rfl, hC⟩ := hL.at h0
  obtain ⟨c0, c1⟩ := hC.2 0 L[0] (List.getElem?_eq_getElem h0)
  simp only [Nat.zero_mul, Nat.add_zero] at c0 c1
  have hg := hC.1
  have hs := (St.nil w).push [.int .i64 0, .int .i64 0, .int .i64 0, .int .i64 0] 47
  have hz : w.heap.size < (w.alloc (.cells #[.int .i64 0, .int .i64 0, .int .i64 0, .int .i64 0] 47)).heap.size := by simp
  go_enter Try.func29, Try.ntmps29
  go_upto_region 1 with fail
  go_cut [3] from 6 to 12 (fun s3 wx => ∃ B : Nat, s3 = .pointer (some ⟨B, 0, none⟩) ∧ w.heap.size < B ∧ St w wx [(B, [.int .i64 L[0].x, .int .i64 L[0].y, .int .i64 1, .int .i64 1]), (w.heap.size, [.int .i64 0, .int .i64 0, .int .i64 0, .int .i64 0])])
  case first =>
    go_region_with (go_at_call 49; refine (spanned1 k0 _).mono ?_; rintro e w1 ⟨rfl, hb2⟩; obtain ⟨hcl, hfl⟩ := bcell hb2)
    all_goals
      go_wp2_with fail
      go_meet
      first
        | exact ⟨_, rfl, by have := hb2.size; simp at this; omega, (hs.dr.step hb2).push _ _⟩
        | (refine ⟨_, rfl, by omega, ?_⟩; have hs2 := (hs.push [.int .i64 0, .int .i64 0, .int .i64 0, .int .i64 0] 47).dr.step hb2; simp only [World.size_alloc] at hs2; exact hs2.set4 _ _ _ _ (by omega) (by simp))
  case rest =>
  obtain ⟨B, rfl, hB, hst⟩ := hcut
  have hk := hst.has
  simp [Has, HasAt] at hk
  have hin : ∀ k, 0 ≤ lowX (L.take k) L[0].x ∧ lowX (L.take k) L[0].x ≤ topX (L.take k) L[0].x ∧ topX (L.take k) L[0].x ≤ 255 ∧ 0 ≤ lowY (L.take k) L[0].y ∧ lowY (L.take k) L[0].y ≤ topY (L.take k) L[0].y ∧ topY (L.take k) L[0].y ≤ 255 := fun k => fold_in (fun c hc => hok c (List.mem_of_mem_take hc)) (by omega) (by omega) (by omega) (by omega) (by omega) (by omega)
  go_wp2
  go_loopw [15] (fun i wr => ∃ k : Nat, k ≤ L.length ∧ i = .int .i64 k ∧ St w wr [(B, bxV (lowX (L.take k) L[0].x) (lowY (L.take k) L[0].y) (topX (L.take k) L[0].x) (topY (L.take k) L[0].y)), (w.heap.size, [.int .i64 0, .int .i64 0, .int .i64 0, .int .i64 0])]) (fun i _ => L.length - (intOf i).toNat)
  case atStart => exact ⟨0, by omega, rfl, by simpa [bxV, lowX, lowY, topX, topY, show ∀ x : Int, x - x + 1 = 1 by omega] using hst⟩
  case round =>
    obtain ⟨k, hk1, rfl, hst2⟩ := hrel
    have hkk := hst2.has
    simp [Has, HasAt, bxV] at hkk
    clear hk hst
    by_cases hlt : k < L.length
    · have hki : (k : Int) < L.length := by omega
      obtain ⟨d0, d1⟩ := (hC.step hst2.bel).2 k L[k] (List.getElem?_eq_getElem hlt)
      have kk := spB_t.mp (hok L[k] (List.getElem_mem hlt))
      have hav := around_box (a := lowX (L.take k) L[0].x) (b := lowY (L.take k) L[0].y) (c := topX (L.take k) L[0].x) (d := topY (L.take k) L[0].y) (hin k) kk
      go_wp2
      go_region_with (first | (go_at_call 49; refine (spanned1 kk _).mono ?_; rintro e w1 ⟨rfl, hb2⟩; have hst3 := (hst2.push [.int .i64 L[k].x, .int .i64 L[k].y] 28).dr.step hb2; have hk3 := hst3.has; simp [Has, HasAt, bxV] at hk3) | (go_at_call 50; refine (iAround_v hav _).mono ?_; rintro e w2 ⟨rfl, hb3⟩; have hst4 := hst3.step hb3; have hk4 := hst4.has; simp [Has, HasAt, bxV] at hk4))
      all_goals
        go_wp2
        go_roundw
        case rel =>
          refine ⟨k + 1, by omega, by go_num, ?_⟩
          have e1 : lowX (L.take (k + 1)) L[0].x = min (lowX (L.take k) L[0].x) L[k].x := fold_take hlt
          have e2 : lowY (L.take (k + 1)) L[0].y = min (lowY (L.take k) L[0].y) L[k].y := fold_take hlt
          have e3 : topX (L.take (k + 1)) L[0].x = max (topX (L.take k) L[0].x) L[k].x := fold_take hlt
          have e4 : topY (L.take (k + 1)) L[0].y = max (topY (L.take k) L[0].y) L[k].y := fold_take hlt
          rw [e1, e2, e3, e4]
          exact (St.mk hst4.bel hst4.has.2).set4 _ _ _ _ (by omega) (by simp; omega)
        case measure => simp [intOf]; omega
    · obtain rfl : k = L.length := by omega
      rw [List.take_length] at hkk hst2
      go_wp2
      refine bodyPost_ret (v := .agg #[.int .i64 (lowX L L[0].x), .int .i64 (lowY L L[0].y), .int .i64 (topX L L[0].x - lowX L L[0].x + 1), .int .i64 (topY L L[0].y - lowY L L[0].y + 1)]) (by simp [results, Try.results29, go_sem, hkk]) rfl ⟨rfl, ?_⟩
      exact sc4 hst2.bel (Nat.le_refl _)
end Go.Proofs.Ytipdfajojcpolaa
