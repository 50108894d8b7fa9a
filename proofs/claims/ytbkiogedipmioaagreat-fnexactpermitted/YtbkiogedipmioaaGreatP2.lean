/-
  Papers: whether a Clause is right, the program's and the spec's look; a number's text.
-/
import Derived.Test.YtbkiogedipmioaaGreatP1
namespace Go.Proofs.YtbkiogedipmioaaGreat
open Go.RowKit Go.Joins M
attribute [local go_sem] Oper.semAt_some

/-- A Clause as one reads it: its lists at s and t. -/
structure RdQ (W : World) (c : Cl) (s t : Sv) : Prop where
  r1 : SlG kC W s.p c.rd
  n1 : c.rd.length = s.n
  r2 : SlG kC W t.p c.wr
  n2 : c.wr.length = t.n
  b1 : s.n ≤ 10000000
  b2 : t.n ≤ 10000000
theorem RdQ.step {w w' : World} {c : Cl} {s t : Sv} (h : RdQ w c s t) (hb : Below w.heap.size w w') : RdQ w' c s t := ⟨h.r1.step hb, h.n1, h.r2.step hb, h.n2, h.b1, h.b2⟩

set_option maxHeartbeats 1000000 in
theorem iClause_v {c : Cl} {s t : Sv} {v : Bool} (hv : clB c = v) (w : World) (hR : RdQ w c s t) :
    Calls Tryz.prog 112 #[.agg #[.slice s.p s.n s.c, .slice t.p t.n t.c, .int .i64 c.un]] w fun e w' => e = .returned (.bool v) ∧ Below w.heap.size w w' := by
  have hst := (St.nil w).push [.slice s.p s.n s.c, .slice t.p t.n t.c, .int .i64 c.un] 110
  have H1 : Hid (∀ W v, Below w.heap.size w W → ofB c.rd = v → Calls Tryz.prog 128 #[.slice s.p s.n s.c] W fun e w' => e = .returned (.bool v) ∧ Below W.heap.size W w') := fun W v h hv => isOfClause_v hv s.p s.c s.n hR.n1 W (hR.r1.step h) hR.b1
  have H2 : Hid (∀ W v, Below w.heap.size w W → ofB c.wr = v → Calls Tryz.prog 128 #[.slice t.p t.n t.c] W fun e w' => e = .returned (.bool v) ∧ Below W.heap.size W w') := fun W v h hv => isOfClause_v hv t.p t.c t.n hR.n2 W (hR.r2.step h) hR.b2
  clear hR
  unfold clB at hv
  cases h0 : timeB c.un
  · rw [h0, Bool.false_and] at hv
    subst hv
    go_enter Tryz.func112, Tryz.ntmps112
    go_wp2_with (go_at_call 34; refine (isTime_v h0 _).mono ?_; rintro e w1 ⟨rfl, hw1⟩; obtain rfl := hw1.symm)
    go_ret
    exact ⟨rfl, hst.bel⟩
  rw [h0, Bool.true_and] at hv
  cases h1 : ofB c.rd
  · rw [h1, Bool.false_and] at hv
    subst hv
    go_enter Tryz.func112, Tryz.ntmps112
    go_wp2_with (first
      | (go_at_call 34; refine (isTime_v h0 _).mono ?_; rintro e w1 ⟨rfl, hw1⟩; obtain rfl := hw1.symm)
      | (go_at_call 128; refine (H1.out _ _ hst.bel h1).mono ?_; rintro e w1 ⟨rfl, hb1⟩))
    go_ret
    exact ⟨rfl, (hst.step hb1).bel⟩
  rw [h1, Bool.true_and] at hv
  have h0' : True := trivial
  go_enter Tryz.func112, Tryz.ntmps112
  go_wp2_with (first
    | (go_at_call 34; refine (isTime_v h0 _).mono ?_; rintro e w1 ⟨rfl, hw1⟩; obtain rfl := hw1.symm)
    | (go_at_call 128; clear h0'; refine (H1.out _ _ hst.bel h1).mono ?_; rintro e w1 ⟨rfl, hb1⟩; have hs1 := hst.step hb1; have hk := hs1.has; simp [Has, HasAt] at hk)
    | (go_at_call 128; refine (H2.out _ _ hs1.bel hv).mono ?_; rintro e w2 ⟨rfl, hb2⟩))
  go_ret
  exact ⟨rfl, (hs1.step hb2).bel⟩

theorem sTime_v {n : Int} {v : Bool} (hv : timeB n = v) (w : World) : Calls Tryz.prog 37 #[.int .i64 n, .int .i64 0, .int .i64 100000] w fun e w' => e = .returned (.bool v) ∧ w' = w := hv ▸ l1In_any n 0 100000 w
set_option maxHeartbeats 1000000 in
theorem sClause_v {c : Cl} {s t : Sv} {v : Bool} (hv : clB c = v) (w : World) (hR : RdQ w c s t) :
    Calls Tryz.prog 79 #[.agg #[.slice s.p s.n s.c, .slice t.p t.n t.c, .int .i64 c.un]] w fun e w' => e = .returned (.bool v) ∧ Below w.heap.size w w' := by
  have hst := (St.nil w).push [.slice s.p s.n s.c, .slice t.p t.n t.c, .int .i64 c.un] 110
  have H1 : Hid (∀ W v, Below w.heap.size w W → okL c.rd = v → Calls Tryz.prog 115 #[.slice s.p s.n s.c] W fun e w' => e = .returned (.bool v) ∧ Below W.heap.size W w') := fun W v h hv => l3Cells_v hv s.p s.c s.n hR.n1 W (hR.r1.step h) hR.b1
  have H2 : Hid (∀ W v, Below w.heap.size w W → okL c.wr = v → Calls Tryz.prog 115 #[.slice t.p t.n t.c] W fun e w' => e = .returned (.bool v) ∧ Below W.heap.size W w') := fun W v h hv => l3Cells_v hv t.p t.c t.n hR.n2 W (hR.r2.step h) hR.b2
  unfold clB at hv
  rw [ofB_eq hR.n1, ofB_eq hR.n2] at hv
  clear hR
  by_cases h8 : s.n ≤ 8
  rotate_left
  · have h8' : ¬ (s.n : Int) ≤ 8 := by omega
    rw [decide_eq_false h8] at hv
    simp at hv
    subst hv
    go_enter Tryz.func79, Tryz.ntmps79
    go_wp2
    go_ret
    exact ⟨rfl, hst.bel⟩
  have h8' : (s.n : Int) ≤ 8 := by omega
  rw [decide_eq_true h8, Bool.true_and] at hv
  by_cases h9 : t.n ≤ 8
  rotate_left
  · have h9' : ¬ (t.n : Int) ≤ 8 := by omega
    rw [decide_eq_false h9] at hv
    simp at hv
    subst hv
    go_enter Tryz.func79, Tryz.ntmps79
    go_wp2
    go_ret
    exact ⟨rfl, hst.bel⟩
  have h9' : (t.n : Int) ≤ 8 := by omega
  rw [decide_eq_true h9, Bool.true_and] at hv
  cases h1 : okL c.rd
  · rw [h1] at hv
    simp at hv
    subst hv
    go_enter Tryz.func79, Tryz.ntmps79
    go_wp2_with (go_at_call 115; refine (H1.out _ _ hst.bel h1).mono ?_; rintro e w1 ⟨rfl, hb1⟩)
    go_ret
    exact ⟨rfl, (hst.step hb1).bel⟩
  rw [h1, Bool.true_and] at hv
  have h0' : True := trivial
  cases h2 : okL c.wr
  · rw [h2, Bool.and_false] at hv
    subst hv
    go_enter Tryz.func79, Tryz.ntmps79
    go_wp2_with (first
      | (go_at_call 115; clear h0'; refine (H1.out _ _ hst.bel h1).mono ?_; rintro e w1 ⟨rfl, hb1⟩; have hs1 := hst.step hb1; have hk := hs1.has; simp [Has, HasAt] at hk)
      | (go_at_call 115; refine (H2.out _ _ hs1.bel h2).mono ?_; rintro e w2 ⟨rfl, hb2⟩))
    go_ret
    exact ⟨rfl, (hs1.step hb2).bel⟩
  rw [h2, Bool.and_true] at hv
  go_enter Tryz.func79, Tryz.ntmps79
  go_wp2_with (first
    | (go_at_call 115; clear h0'; refine (H1.out _ _ hst.bel h1).mono ?_; rintro e w1 ⟨rfl, hb1⟩; have hs1 := hst.step hb1; have hk := hs1.has; simp [Has, HasAt] at hk)
    | (go_at_call 115; refine (H2.out _ _ hs1.bel h2).mono ?_; rintro e w2 ⟨rfl, hb2⟩; have hs2 := hs1.step hb2; clear hk; have hk := hs2.has; simp [Has, HasAt] at hk)
    | (go_at_call 37; refine (sTime_v hv _).mono ?_; rintro e w3 ⟨rfl, hw3⟩; obtain rfl := hw3.symm))
  go_ret
  exact ⟨rfl, hs2.bel⟩

end Go.Proofs.YtbkiogedipmioaaGreat
