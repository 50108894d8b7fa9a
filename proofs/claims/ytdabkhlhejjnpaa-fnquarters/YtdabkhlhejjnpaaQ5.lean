/-
  The law of Quarters, walked: the program's list is the spec's, it is new memory, and a second call answers as the first.
-/
import Derived.Test.YtdabkhlhejjnpaaQ4
import Derived.Deep.CutBlock
namespace Go.Proofs.Ytdabkhlhejjnpaa
open Go.RowKit Go.Joins

theorem St.join {w X Y : World} {l l2 : List (Nat × List Value)} (h : St w X l) (h2 : St X Y l2) : St w Y (l2 ++ l) := by
  have hx := h.step h2.bel
  refine ⟨hx.bel, ?_⟩
  have hh := h2.has
  clear h h2
  induction l2 with
  | nil => exact hx.has
  | cons p t ih => exact ⟨hh.1, ih hh.2⟩
theorem St.dist {w X : World} {l : List (Nat × List Value)} (h : St w X l) {g : Nat} (hg : X.heap.size ≤ g) : ∀ p ∈ l, g ≠ p.1 := fun p hp => by have := (h.has.mem hp).1; omega
theorem HasAt.get {W : World} {b : Nat} : ∀ {vs : List Value} {i : Nat}, HasAt W b i vs → ∀ j v, vs[j]? = some v → W.cell? ⟨b, i + j, none⟩ = some v
  | _ :: _, i, ⟨h, t⟩, 0, v, hv => by simp at hv; subst hv; exact h
  | _ :: vs, i, ⟨h, t⟩, j + 1, v, hv => by have := HasAt.get t j v (by simpa using hv); rwa [show i + (j + 1) = i + 1 + j by omega]
theorem St.set {w W : World} {b : Nat} {vs : List Value} {l : List (Nat × List Value)} (h : St w W ((b, vs) :: l)) (i : Nat) (hi : i < vs.length) (v : Value) (hb : w.heap.size ≤ b) (hl : ∀ p ∈ l, b ≠ p.1) : St w (W.setCell ⟨b, i, none⟩ v) ((b, vs.set i v) :: l) := by
  obtain ⟨h1, ⟨h2, h3, h4⟩, h5⟩ := h
  refine ⟨h1.setCell (p := ⟨b, i, none⟩) hb _, ⟨⟨by simpa using h2, fun o => (World.frozen?_setCell ..).trans (h3 o), hasAt_of _ _ (fun j u hj => ?_)⟩, Has.far hl h5⟩⟩
  have hg := HasAt.get h4
  by_cases e : i = j
  · subst e
    have hu : u = v := by rw [List.getElem?_set_self hi] at hj; exact (Option.some.inj hj).symm
    subst hu
    have := hg i _ (List.getElem?_eq_getElem hi)
    rw [Nat.zero_add] at this ⊢
    exact World.cell?_setCell_same' _ _ _ (by rw [this]; rfl)
  · rw [List.getElem?_set_ne e] at hj
    have := hg j u hj
    rw [Nat.zero_add] at this ⊢
    refine (World.cell?_setCell_other _ _ _ _ (fun q => e ?_)).trans this
    injection q
theorem qs_len (l x y : Int) : (qs l x y 4).length = 12 := by simp [qs, qc]
theorem qs_eq (l x y : Int) : qs l x y 4 = [.int .i64 (l + 1), .int .i64 (2 * x), .int .i64 (2 * y), .int .i64 (l + 1), .int .i64 (2 * x + 1), .int .i64 (2 * y), .int .i64 (l + 1), .int .i64 (2 * x), .int .i64 (2 * y + 1), .int .i64 (l + 1), .int .i64 (2 * x + 1), .int .i64 (2 * y + 1)] := by simp [qs, qc]
theorem St.mark {w W : World} {g : Nat} {l x y : Int} {L : List (Nat × List Value)} (h : St w W ((g, qs l x y 4) :: L)) (hb : w.heap.size ≤ g) (hl : ∀ p ∈ L, g ≠ p.1) : St w (marked W g) ((g, ones) :: L) := by
  have := ((((((((((((((((((((((((h).set 0 (by simp [qs_len]) (.int .i64 1) hb hl)).set 1 (by simp [qs_len]) (.int .i64 2) hb hl)).set 2 (by simp [qs_len]) (.int .i64 3) hb hl)).set 3 (by simp [qs_len]) (.int .i64 4) hb hl)).set 4 (by simp [qs_len]) (.int .i64 5) hb hl)).set 5 (by simp [qs_len]) (.int .i64 6) hb hl)).set 6 (by simp [qs_len]) (.int .i64 7) hb hl)).set 7 (by simp [qs_len]) (.int .i64 8) hb hl)).set 8 (by simp [qs_len]) (.int .i64 9) hb hl)).set 9 (by simp [qs_len]) (.int .i64 10) hb hl)).set 10 (by simp [qs_len]) (.int .i64 11) hb hl)).set 11 (by simp [qs_len]) (.int .i64 12) hb hl)
  rw [qs_eq] at this
  exact this
theorem eqQ (l x y : Int) (g1 c1 g2 c2 : Nat) (w : World) (h1 : Has w [(g1, qs l x y 4)]) (h2 : Has w [(g2, qs l x y 4)]) :
    Calls Try.prog 40 #[.slice (some ⟨g1, 0, none⟩) 4 c1, .slice (some ⟨g2, 0, none⟩) 4 c2] w fun e w' => e = .returned (.bool true) ∧ Below w.heap.size w w' :=
  eqS4 (l + 1) (2 * x) (2 * y) (l + 1) (2 * x + 1) (2 * y) (l + 1) (2 * x) (2 * y + 1) (l + 1) (2 * x + 1) (2 * y + 1) g1 c1 g2 c2 w h1.1.1 h2.1.1 (by have := h1.1.2.2; rw [qs_eq] at this; exact this) (by have := h2.1.2.2; rw [qs_eq] at this; exact this)
theorem markQ (l x y : Int) (g c : Nat) (w : World) (h1 : Has w [(g, qs l x y 4)]) :
    Calls Try.prog 41 #[.slice (some ⟨g, 0, none⟩) 4 c, .int .i64 1] w fun e w' => e = .returned (.int .i64 13) ∧ w' = marked w g :=
  markS4 (l + 1) (2 * x) (2 * y) (l + 1) (2 * x + 1) (2 * y) (l + 1) (2 * x) (2 * y + 1) (l + 1) (2 * x + 1) (2 * y + 1) g c w h1.1.2.1 (by have := h1.1.2.2; rw [qs_eq] at this; exact this)
theorem heldQ (g c : Nat) (w : World) (h1 : Has w [(g, ones)]) :
    Calls Try.prog 42 #[.slice (some ⟨g, 0, none⟩) 4 c, .int .i64 1] w fun e w' => e = .returned (.int .i64 13) ∧ w' = w := heldS4 g c w h1.1.2.2

set_option maxHeartbeats 2000000 in
theorem exactQuarters_yes {l x y : Int} (h : cellB l x y = true) (hl : l ≠ 8) (w : World) :
    Calls Try.prog 9 #[.agg #[.int .i64 l, .int .i64 x, .int .i64 y]] w fun e w' => e = .returned (.bool true) ∧ Below w.heap.size w w' := by
  have hs := St.nil w
  go_enter Try.func9, Try.ntmps9
  go_upto_region 6 with (first
    | (go_at_call 36; refine (toCell_any _ _ _ _).mono ?_; rintro e w1 ⟨rfl, hb2⟩; (first | replace hs := hs.step hb2 | replace hs := (hs.push _ _).step hb2); (try simp only [World.size_alloc] at hs); (try clear hk); have hk := hs.has; simp [Has, HasAt] at hk)
    | (go_at_call 21; refine (sQuarters_yes h hl _).mono ?_; rintro e w1 ⟨g0, cap0, rfl, hg0, hc0, hq0⟩; replace hs := hs.join hq0; (try simp only [World.size_alloc] at hs); (try clear hk); have hk := hs.has; simp [Has, HasAt] at hk)
    | (go_at_call 14; refine (iQuarters_yes h hl _).mono ?_; rintro e w1 ⟨g1, cap1, rfl, hg1, hc1, hq1⟩; have hd1 := hs.dist hg1; have hw1 := Nat.le_trans hs.size hg1; replace hs := hs.join hq1; (try simp only [World.size_alloc] at hs); (try clear hk); have hk := hs.has; simp [Has, HasAt] at hk)
    | (go_at_call 40; refine (eqQ l x y _ _ _ _ _ (hs.has.sub (by simp)) (hs.has.sub (by simp))).mono ?_; rintro e w1 ⟨rfl, hb2⟩; (first | replace hs := hs.step hb2 | replace hs := (hs.push _ _).step hb2); (try simp only [World.size_alloc] at hs); (try clear hk); have hk := hs.has; simp [Has, HasAt] at hk))
  go_upto_region 14 with (first
    | (go_at_call 41; refine (markQ l x y _ _ _ (hs.has.sub (by simp))).mono ?_; rintro e w1 ⟨rfl, rfl⟩; replace hs := hs.mark hw1 hd1; (try simp only [World.size_alloc] at hs); (try clear hk); have hk := hs.has; simp [Has, HasAt] at hk)
    | (go_at_call 42; refine (heldQ _ _ _ (hs.has.sub (by simp))).mono ?_; rintro e w1 ⟨rfl, rfl⟩)
    | (go_at_call 36; refine (toCell_any _ _ _ _).mono ?_; rintro e w1 ⟨rfl, hb2⟩; (first | replace hs := hs.step hb2 | replace hs := (hs.push _ _).step hb2); (try simp only [World.size_alloc] at hs); (try clear hk); have hk := hs.has; simp [Has, HasAt] at hk)
    | (go_at_call 14; refine (iQuarters_yes h hl _).mono ?_; rintro e w1 ⟨g2, cap2, rfl, hg2, hc2, hq2⟩; replace hs := hs.join hq2; (try simp only [World.size_alloc] at hs); (try clear hk); have hk := hs.has; simp [Has, HasAt] at hk))
  go_wp2_with (first
    | (go_at_call 40; refine (eqQ l x y _ _ _ _ _ (hs.has.sub (by simp)) (hs.has.sub (by simp))).mono ?_; rintro e w1 ⟨rfl, hb2⟩; (first | replace hs := hs.step hb2 | replace hs := (hs.push _ _).step hb2); (try simp only [World.size_alloc] at hs); (try clear hk); have hk := hs.has; simp [Has, HasAt] at hk)
    | (go_at_call 42; refine (heldQ _ _ _ (hs.has.sub (by simp))).mono ?_; rintro e w1 ⟨rfl, rfl⟩))
  go_ret
  exact ⟨rfl, hs.bel⟩

set_option maxHeartbeats 2000000 in
theorem exactQuarters_no {l x y : Int} (h : cellB l x y = false ∨ l = 8) (w : World) :
    Calls Try.prog 9 #[.agg #[.int .i64 l, .int .i64 x, .int .i64 y]] w fun e w' => e = .returned (.bool true) ∧ Below w.heap.size w w' := by
  have hs := St.nil w
  go_enter Try.func9, Try.ntmps9
  go_wp2_with (first
    | (go_at_call 36; refine (toCell_any _ _ _ _).mono ?_; rintro e w1 ⟨rfl, hb2⟩; (first | replace hs := hs.step hb2 | replace hs := (hs.push _ _).step hb2); (try simp only [World.size_alloc] at hs); (try clear hk); have hk := hs.has; simp [Has, HasAt] at hk)
    | (go_at_call 21; refine (sQuarters_no h _).mono ?_; rintro e w1 ⟨rfl, hb2⟩; (first | replace hs := hs.step hb2 | replace hs := (hs.push _ _).step hb2); (try simp only [World.size_alloc] at hs); (try clear hk); have hk := hs.has; simp [Has, HasAt] at hk)
    | (go_at_call 14; refine (iQuarters_no h _).mono ?_; rintro e w1 ⟨rfl, hb2⟩; (first | replace hs := hs.step hb2 | replace hs := (hs.push _ _).step hb2); (try simp only [World.size_alloc] at hs); (try clear hk); have hk := hs.has; simp [Has, HasAt] at hk)
    | (go_at_call 40; refine (eqS0 _ _ _ _ _).mono ?_; rintro e w1 ⟨rfl, hb2⟩; (first | replace hs := hs.step hb2 | replace hs := (hs.push _ _).step hb2); (try simp only [World.size_alloc] at hs); (try clear hk); have hk := hs.has; simp [Has, HasAt] at hk)
    | (go_at_call 41; refine (markS0 _ _ _).mono ?_; rintro e w1 ⟨rfl, rfl⟩)
    | (go_at_call 42; refine (heldS0 _ _ _).mono ?_; rintro e w1 ⟨rfl, rfl⟩))
  go_ret
  exact ⟨rfl, hs.bel⟩

theorem exactQuarters (l x y : Int) (w : World) :
    Calls Try.prog 9 #[.agg #[.int .i64 l, .int .i64 x, .int .i64 y]] w fun e w' => e = .returned (.bool true) ∧ Below w.heap.size w w' := by
  by_cases h8 : l = 8
  · exact exactQuarters_no (.inr h8) w
  · cases h : cellB l x y
    · exact exactQuarters_no (.inl h) w
    · exact exactQuarters_yes h h8 w
end Go.Proofs.Ytdabkhlhejjnpaa
