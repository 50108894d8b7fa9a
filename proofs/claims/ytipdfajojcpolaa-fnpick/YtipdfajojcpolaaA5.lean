/-
  Do two edges meet: the program's question, and that it is the spec's.
-/
import Derived.Test.YtipdfajojcpolaaA3
import Derived.Test.YtipdfajojcpolaaA4
import Derived.Test.YtipdfajojcpolaaW6
namespace Go.Proofs.Ytipdfajojcpolaa
open Go.RowKit Go.Joins
attribute [local go_sem ↓] Go.wp_at_zero Go.wp_at_succ

theorem Eg.sl {w : World} {p : Option Addr} {a b : T2} (h : Eg w p a b) : Sl w p [a, b] := by
  obtain ⟨g, off, rfl, hg, h0, h1, h2, h3⟩ := h
  refine .inr ⟨g, off, rfl, hg, fun k c hk => ?_⟩
  match k, hk with
  | 0, hk => simp at hk; subst hk; simpa using ⟨h0, h1⟩
  | 1, hk => simp at hk; subst hk; simpa using ⟨h2, h3⟩
def bx2 (a b : T2) : Value := .agg #[.int .i64 (min a.x b.x), .int .i64 (min a.y b.y), .int .i64 (max a.x b.x - min a.x b.x + 1), .int .i64 (max a.y b.y - min a.y b.y + 1)]
theorem box2_any {p : Option Addr} {a b : T2} (ha : a.ok = true) (hb : b.ok = true) (w : World) (hE : Eg w p a b) :
    Calls Try.prog 29 #[.slice p 2 2] w fun e w' => e = .returned (.agg #[.int .i64 (min a.x b.x), .int .i64 (min a.y b.y), .int .i64 (max a.x b.x - min a.x b.x + 1), .int .i64 (max a.y b.y - min a.y b.y + 1)]) ∧ Below w.heap.size w w' := by
  have h := box_any p 2 [a, b] (by simp) w hE.sl (by simp) (by simp [ha, hb])
  simp only [lowX, lowY, topX, topY, List.foldl, List.getElem_cons_zero, Int.min_self, Int.max_self] at h
  exact h
def ovB (a b c d : T2) : Bool := decide (max (min a.x b.x) (min c.x d.x) ≤ min (max a.x b.x) (max c.x d.x) ∧ max (min a.y b.y) (min c.y d.y) ≤ min (max a.y b.y) (max c.y d.y))
theorem meet_ov {a b c d : T2} (ha : a.ok = true) (hb : b.ok = true) (hc : c.ok = true) (hd : d.ok = true) : ∃ m0 m1 m2 m3 : Int, meetV (min a.x b.x) (min a.y b.y) (max a.x b.x - min a.x b.x + 1) (max a.y b.y - min a.y b.y + 1) (min c.x d.x) (min c.y d.y) (max c.x d.x - min c.x d.x + 1) (max c.y d.y - min c.y d.y + 1) = .tuple #[.agg #[.int .i64 m0, .int .i64 m1, .int .i64 m2, .int .i64 m3], .bool (ovB a b c d)] := by
  have k1 := spB_t.mp ha
  have k2 := spB_t.mp hb
  have k3 := spB_t.mp hc
  have k4 := spB_t.mp hd
  have o1 : okB (min a.x b.x) (min a.y b.y) (max a.x b.x - min a.x b.x + 1) (max a.y b.y - min a.y b.y + 1) = true := okB_t.mpr (by omega)
  have o2 : okB (min c.x d.x) (min c.y d.y) (max c.x d.x - min c.x d.x + 1) (max c.y d.y - min c.y d.y + 1) = true := okB_t.mpr (by omega)
  have e : mB (min a.x b.x) (min a.y b.y) (max a.x b.x - min a.x b.x + 1) (max a.y b.y - min a.y b.y + 1) (min c.x d.x) (min c.y d.y) (max c.x d.x - min c.x d.x + 1) (max c.y d.y - min c.y d.y + 1) = ovB a b c d := by
    unfold mB ovB mW
    exact decide_eq_decide.mpr (by omega)
  unfold meetV
  rw [o1, o2, e]
  cases ovB a b c d
  · exact ⟨_, _, _, _, rfl⟩
  · exact ⟨_, _, _, _, rfl⟩
theorem iMeet_v {x1 y1 a1 b1 x2 y2 a2 b2 : Int} {v : Value} (hv : meetV x1 y1 a1 b1 x2 y2 a2 b2 = v) (w : World) :
    Calls Try.prog 56 #[.agg #[.int .i64 x1, .int .i64 y1, .int .i64 a1, .int .i64 b1], .agg #[.int .i64 x2, .int .i64 y2, .int .i64 a2, .int .i64 b2]] w fun e w' => e = .returned v ∧ Below w.heap.size w w' := by subst hv; exact iMeet_any _ _ _ _ _ _ _ _ w
def ptB (a b c d : T2) : Bool := decide (sg (crT a b c) * sg (crT a b d) ≤ 0)

set_option maxHeartbeats 2000000 in
theorem parts_any {p q : Option Addr} {a b c d : T2} (ha : a.ok = true) (hb : b.ok = true) (hc : c.ok = true) (hd : d.ok = true) (w : World) (hE : Eg w p a b) (hF : Eg w q c d) :
    Calls Try.prog 57 #[.slice p 2 2, .slice q 2 2] w fun e w' => e = .returned (.bool (ptB a b c d)) ∧ Below w.heap.size w w' := by
  obtain ⟨g, off, rfl, hg, c0, c1, c2, c3⟩ := hF
  have e1 := sg_pr (crT a b c) (crT a b d)
  have hS : ∀ w', Below w.heap.size w w' → (w'.cell? ⟨g, off, none⟩ = some (.int .i64 c.x) ∧ w'.cell? ⟨g, off + 1, none⟩ = some (.int .i64 c.y) ∧ w'.cell? ⟨g, off + 2, none⟩ = some (.int .i64 d.x) ∧ w'.cell? ⟨g, off + 2 + 1, none⟩ = some (.int .i64 d.y)) := by
    intro w' h
    obtain ⟨hcl, _⟩ := bcell h
    rw [hcl _ _ hg, hcl _ _ hg, hcl _ _ hg, hcl _ _ hg]
    exact ⟨c0, c1, c2, c3⟩
  go_enter Try.func57, Try.ntmps57
  go_wp2
  go_region_held3 (fun w' => Below w.heap.size w w' ∧ (w'.cell? ⟨g, off, none⟩ = some (.int .i64 c.x) ∧ w'.cell? ⟨g, off + 1, none⟩ = some (.int .i64 c.y) ∧ w'.cell? ⟨g, off + 2, none⟩ = some (.int .i64 d.x) ∧ w'.cell? ⟨g, off + 2 + 1, none⟩ = some (.int .i64 d.y))) (first | exact ‹Below _ _ _ ∧ _› | exact keepS hS (bstep (‹Below _ _ _ ∧ _›).1 hb2 (Nat.le_refl _)) | exact keepS hS (Below.refl _ _).drew | fail)
    (first | (go_at_call 38; refine (side_any ha hb ?_ _ _ (hE.step (‹Below _ _ _ ∧ _›).1)).mono ?_; (focus assumption); rintro e w1 ⟨rfl, hb2⟩))
  obtain ⟨hB, _⟩ := ‹Below _ _ _ ∧ _›
  go_wp2
  go_ret
  exact ⟨ret_bool (by rw [ptB, wr (by omega) (by omega)]), hB⟩

def mtB (a b c d : T2) : Bool := ovB a b c d && ptB a b c d && ptB c d a b
theorem parts_v {p q : Option Addr} {a b c d : T2} {v : Bool} (hv : ptB a b c d = v) (ha : a.ok = true) (hb : b.ok = true) (hc : c.ok = true) (hd : d.ok = true) (w : World) (hE : Eg w p a b) (hF : Eg w q c d) :
    Calls Try.prog 57 #[.slice p 2 2, .slice q 2 2] w fun e w' => e = .returned (.bool v) ∧ Below w.heap.size w w' := by subst hv; exact parts_any ha hb hc hd w hE hF

set_option maxHeartbeats 2000000 in
theorem meets_any {p q : Option Addr} {a b c d : T2} (ha : a.ok = true) (hb : b.ok = true) (hc : c.ok = true) (hd : d.ok = true) (w : World) (hE : Eg w p a b) (hF : Eg w q c d) :
    Calls Try.prog 39 #[.slice p 2 2, .slice q 2 2] w fun e w' => e = .returned (.bool (mtB a b c d)) ∧ Below w.heap.size w w' := by
  obtain ⟨m0, m1, m2, m3, hm⟩ := meet_ov ha hb hc hd
  unfold mtB
  generalize hov : ovB a b c d = ov
  generalize hp1 : ptB a b c d = p1
  generalize hp2 : ptB c d a b = p2
  rw [hov] at hm
  have hB := Below.refl w.heap.size w
  have f1 : True := trivial
  have f2 : True := trivial
  cases ov
  · go_enter Try.func39, Try.ntmps39
    go_wp2_with (first
      | (go_at_call 29; clear f1; refine (box2_any ha hb _ (hE.step hB)).mono ?_; rintro e w1 ⟨rfl, hb2⟩; replace hB := bstep hB hb2 (Nat.le_refl _))
      | (go_at_call 29; refine (box2_any hc hd _ (hF.step hB)).mono ?_; rintro e w1 ⟨rfl, hb2⟩; replace hB := bstep hB hb2 (Nat.le_refl _))
      | (go_at_call 56; refine (iMeet_v hm _).mono ?_; rintro e w1 ⟨rfl, hb2⟩; replace hB := bstep hB hb2 (Nat.le_refl _)))
    go_ret
    exact ⟨rfl, hB.alloc hB.size _⟩
  cases p1
  · go_enter Try.func39, Try.ntmps39
    go_wp2_with (first
      | (go_at_call 29; clear f1; refine (box2_any ha hb _ (hE.step hB)).mono ?_; rintro e w1 ⟨rfl, hb2⟩; replace hB := bstep hB hb2 (Nat.le_refl _))
      | (go_at_call 29; refine (box2_any hc hd _ (hF.step hB)).mono ?_; rintro e w1 ⟨rfl, hb2⟩; replace hB := bstep hB hb2 (Nat.le_refl _))
      | (go_at_call 56; refine (iMeet_v hm _).mono ?_; rintro e w1 ⟨rfl, hb2⟩; replace hB := bstep hB hb2 (Nat.le_refl _))
      | (go_at_call 57; clear f2; replace hB := hB.alloc hB.size (.cells #[.int .i64 m0, .int .i64 m1, .int .i64 m2, .int .i64 m3] 47); refine (parts_v hp1 ha hb hc hd _ (hE.step hB) (hF.step hB)).mono ?_; rintro e w1 ⟨rfl, hb2⟩; replace hB := bstep hB hb2 (Nat.le_refl _)))
    go_ret
    exact ⟨rfl, hB⟩
  · go_enter Try.func39, Try.ntmps39
    go_wp2_with (first
      | (go_at_call 29; clear f1; refine (box2_any ha hb _ (hE.step hB)).mono ?_; rintro e w1 ⟨rfl, hb2⟩; replace hB := bstep hB hb2 (Nat.le_refl _))
      | (go_at_call 29; refine (box2_any hc hd _ (hF.step hB)).mono ?_; rintro e w1 ⟨rfl, hb2⟩; replace hB := bstep hB hb2 (Nat.le_refl _))
      | (go_at_call 56; refine (iMeet_v hm _).mono ?_; rintro e w1 ⟨rfl, hb2⟩; replace hB := bstep hB hb2 (Nat.le_refl _))
      | (go_at_call 57; clear f2; replace hB := hB.alloc hB.size (.cells #[.int .i64 m0, .int .i64 m1, .int .i64 m2, .int .i64 m3] 47); refine (parts_v hp1 ha hb hc hd _ (hE.step hB) (hF.step hB)).mono ?_; rintro e w1 ⟨rfl, hb2⟩; replace hB := bstep hB hb2 (Nat.le_refl _))
      | (go_at_call 57; refine (parts_v hp2 hc hd ha hb _ (hF.step hB) (hE.step hB)).mono ?_; rintro e w1 ⟨rfl, hb2⟩; replace hB := bstep hB hb2 (Nat.le_refl _)))
    go_ret
    exact ⟨rfl, hB⟩

theorem sg_cases (n : Int) : (0 < n ∧ sg n = 1) ∨ (n = 0 ∧ sg n = 0) ∨ (n < 0 ∧ sg n = -1) := by
  rcases Int.lt_trichotomy n 0 with h | h | h
  · exact .inr (.inr ⟨h, sg_m h⟩)
  · exact .inr (.inl ⟨h, sg_z h⟩)
  · exact .inl ⟨h, sg_p h⟩
theorem sg_neg (m n : Int) : sg m * sg n < 0 ↔ m * n < 0 := by
  rcases sg_cases m with ⟨h, e⟩ | ⟨h, e⟩ | ⟨h, e⟩ <;> rcases sg_cases n with ⟨h', e'⟩ | ⟨h', e'⟩ | ⟨h', e'⟩ <;> rw [e, e']
  · have := Int.mul_pos h h'; omega
  · subst h'; simp
  · have := Int.mul_neg_of_pos_of_neg h h'; omega
  · subst h; simp
  · subst h; simp
  · subst h; simp
  · have := Int.mul_neg_of_neg_of_pos h h'; omega
  · subst h'; simp
  · have := Int.mul_pos_of_neg_of_neg h h'; omega
theorem sg_le (m n : Int) : sg m * sg n ≤ 0 ↔ m * n ≤ 0 := by
  rcases sg_cases m with ⟨h, e⟩ | ⟨h, e⟩ | ⟨h, e⟩ <;> rcases sg_cases n with ⟨h', e'⟩ | ⟨h', e'⟩ | ⟨h', e'⟩ <;> rw [e, e']
  · have := Int.mul_pos h h'; omega
  · subst h'; simp
  · have := Int.mul_neg_of_pos_of_neg h h'; omega
  · subst h; simp
  · subst h; simp
  · subst h; simp
  · have := Int.mul_neg_of_neg_of_pos h h'; omega
  · subst h'; simp
  · have := Int.mul_pos_of_neg_of_neg h h'; omega
theorem sg_0 (n : Int) : sg n = 0 ↔ n = 0 := by
  rcases sg_cases n with ⟨h, e⟩ | ⟨h, e⟩ | ⟨h, e⟩ <;> rw [e] <;> omega
theorem on_B (a b c : T2) : (decide (sg (crT a b c) = 0) && btwB a b c) = true ↔ on a.x a.y b.x b.y c.x c.y := by
  unfold btwB on btw crT
  simp only [Bool.and_eq_true, decide_eq_true_eq, sg_0]
  constructor
  · rintro ⟨h, h1, h2, h3, h4⟩; exact ⟨h, ⟨h1, h2⟩, h3, h4⟩
  · rintro ⟨h, ⟨h1, h2⟩, h3, h4⟩; exact ⟨h, h1, h2, h3, h4⟩
/-- The program's question is the spec's. -/
theorem mt_cut (a b c d : T2) : mtB a b c d = cutB a b c d := by
  have h := meets_cut a.x a.y b.x b.y c.x c.y d.x d.y
  rw [Bool.eq_iff_iff]
  unfold mtB cutB cutS
  rw [Bool.or_eq_true, Bool.or_eq_true, Bool.or_eq_true, Bool.or_eq_true, on_B, on_B, on_B, on_B]
  unfold ovB ptB
  simp only [Bool.and_eq_true, decide_eq_true_eq, sg_neg, sg_le]
  unfold over at h
  constructor
  · rintro ⟨⟨⟨h1, h2⟩, h3⟩, h4⟩
    rcases h.mp ⟨h1, h2, h3, h4⟩ with h | h | h | h | h
    · exact .inl h
    · exact .inr (.inl (.inl (.inl h)))
    · exact .inr (.inl (.inl (.inr h)))
    · exact .inr (.inl (.inr h))
    · exact .inr (.inr h)
  · intro k
    have : (cr a.x a.y b.x b.y c.x c.y * cr a.x a.y b.x b.y d.x d.y < 0 ∧ cr c.x c.y d.x d.y a.x a.y * cr c.x c.y d.x d.y b.x b.y < 0) ∨ on a.x a.y b.x b.y c.x c.y ∨ on a.x a.y b.x b.y d.x d.y ∨ on c.x c.y d.x d.y a.x a.y ∨ on c.x c.y d.x d.y b.x b.y := by
      rcases k with k | ((k | k) | k) | k
      · exact .inl k
      · exact .inr (.inl k)
      · exact .inr (.inr (.inl k))
      · exact .inr (.inr (.inr (.inl k)))
      · exact .inr (.inr (.inr (.inr k)))
    obtain ⟨h1, h2, h3, h4⟩ := h.mpr this
    exact ⟨⟨⟨h1, h2⟩, h3⟩, h4⟩
end Go.Proofs.Ytipdfajojcpolaa
