/-
  Arrays of votes and standings compared; whether a standing is right.
-/
import Derived.Test.YtobbankkfplooaaKP2
namespace Go.Proofs.Ytobbankkfplooaa.K.G
open Go.Shelf Go.RowKit Go.Joins Y
attribute [local go_sem] Oper.semAt_some

def eq4 (a b : Q4) : Bool := a.a == b.a && (a.b == b.b && (a.c == b.c && a.d == b.d))
theorem eq4_l {a b : Q4} : eq4 a b = decide (a.l = b.l) := by
  obtain ⟨a0, a1, a2, a3⟩ := a
  obtain ⟨b0, b1, b2, b3⟩ := b
  rw [Bool.eq_iff_iff]
  simp [eq4, Q4.l]
theorem part_Q4 (q : Q4) (w : World) :
    (part 2 #[.int .i64 q.a, .int .i64 q.b, .int .i64 q.c, .int .i64 q.d] (0 * 1)).run Try.prog w = .ok (.int .i64 q.a) w ∧ (part 2 #[.int .i64 q.a, .int .i64 q.b, .int .i64 q.c, .int .i64 q.d] (1 * 1)).run Try.prog w = .ok (.int .i64 q.b) w ∧ (part 2 #[.int .i64 q.a, .int .i64 q.b, .int .i64 q.c, .int .i64 q.d] (2 * 1)).run Try.prog w = .ok (.int .i64 q.c) w ∧ (part 2 #[.int .i64 q.a, .int .i64 q.b, .int .i64 q.c, .int .i64 q.d] (3 * 1)).run Try.prog w = .ok (.int .i64 q.d) w := by
  have a2 := Try.isAgg2
  have z2 := Try.sizeOf2
  refine ⟨?_, ?_, ?_, ?_⟩ <;> simp [part, a2, z2]
theorem run_eq57 (n : Nat) (a b : Q4) (w : World) : (Op.equalIn (n + 1 + 1) 54 (.agg #[.int .i64 a.a, .int .i64 a.b, .int .i64 a.c, .int .i64 a.d]) (.agg #[.int .i64 b.a, .int .i64 b.b, .int .i64 b.c, .int .i64 b.d])).run Try.prog w = .ok (eq4 a b) w := by
  have z2 := Try.sizeOf2
  obtain ⟨p0, p1, p2, p3⟩ := part_Q4 a w
  obtain ⟨q0, q1, q2, q3⟩ := part_Q4 b w
  have e := fun x y => run_equalIn_int (P := Try.prog) w n 2 .i64 .i64 x y Try.underlying2
  rw [Op.equalIn]
  simp only [Sem.run_bind, run_underlying Try.underlying54, Result.andThen_ok, z2]
  have hr : ∀ {β : Type} (b : β) (f : Nat → β → Sem (ForInStep β)), forIn [:4] b f = forIn [0, 1, 2, 3] b f := by
    intro β b f
    simp [Std.Legacy.Range.forIn_eq_forIn_range', List.range']
  rw [hr]
  unfold eq4
  cases h0 : a.a == b.a
  · simp [List.forIn_cons, p0, q0, e, h0]
  cases h1 : a.b == b.b
  · simp [List.forIn_cons, p0, q0, p1, q1, e, h0, h1]
  cases h2 : a.c == b.c
  · simp [List.forIn_cons, p0, q0, p1, q1, p2, q2, e, h0, h1, h2]
  cases h3 : a.d == b.d
  · simp [List.forIn_cons, p0, q0, p1, q1, p2, q2, p3, q3, e, h0, h1, h2, h3]
  · simp [List.forIn_cons, p0, q0, p1, q1, p2, q2, p3, q3, e, h0, h1, h2, h3]
theorem run_eql57 (a b : Q4) (w : World) : (binOp .eql 54 (.agg #[.int .i64 a.a, .int .i64 a.b, .int .i64 a.c, .int .i64 a.d]) (.agg #[.int .i64 b.a, .int .i64 b.b, .int .i64 b.c, .int .i64 b.d])).run Try.prog w = .ok (.bool (eq4 a b)) w := by
  rw [run_eql_struct, show (10000 : Nat) = 9998 + 1 + 1 from rfl, run_eq57]
  rfl
theorem run_neq59 (a b : Sd) (w : World) : (binOp .neq 56 (.agg #[.int .i64 a.q.a, .int .i64 a.q.b, .int .i64 a.q.c, .int .i64 a.q.d, .int .i64 a.s]) (.agg #[.int .i64 b.q.a, .int .i64 b.q.b, .int .i64 b.q.c, .int .i64 b.q.d, .int .i64 b.s])).run Try.prog w = .ok (.bool (!(eq4 a.q b.q && a.s == b.s))) w := by
  have hS : Try.prog.underlying 56 = some (.struct (Try.prog.fieldsOf 56)) := by kernel_rfl
  have hp : Try.prog.stoodInHeld 56 = false := by kernel_rfl
  have a57 := Try.isAgg54
  have z57 := Try.sizeOf54
  have a2 := Try.isAgg2
  have z2 := Try.sizeOf2
  rw [run_neq_struct, show (10000 : Nat) = 9997 + 1 + 1 + 1 from rfl, run_equalIn_agg w (9997 + 1 + 1) 56 _ _ hS hp]
  have e1 := run_eq57 9997 a.q b.q w
  have e2 := run_equalIn_int (P := Try.prog) w (9997 + 1) 2 .i64 .i64 a.s b.s Try.underlying2
  simp only [Program.fieldsOf, Try.underlying56]
  cases h0 : eq4 a.q b.q
  · simp [Op.eqFields, part, a57, z57, a2, z2, e1, h0]
  · generalize (a.s == b.s) = z at e2 ⊢
    cases z
    · simp [Op.eqFields, part, a57, z57, a2, z2, e1, e2, h0]
    · simp [Op.eqFields, part, a57, z57, a2, z2, e1, e2, h0]
set_option maxHeartbeats 1000000 in
theorem isRight_v {q al : Q4} {s : Int} {v : Bool} (hv : stB s q.l al.l = v) (w : World) :
    Calls Try.prog 30 #[(Sd.mk q s).v, al.v] w fun e w' => e = .returned (.bool v) ∧ Below w.heap.size w w' := by
  have hS1 := (Sg.nil w).lit kD [⟨q, s⟩] 1 rfl (by decide) #[.int .i64 q.a, .int .i64 q.b, .int .i64 q.c, .int .i64 q.d, .int .i64 s] rfl
  have hS2 := hS1.lit kV [al] 1 rfl (by decide) #[.int .i64 al.a, .int .i64 al.b, .int .i64 al.c, .int .i64 al.d] rfl
  change Sg w ((w.alloc (.cells #[.int .i64 q.a, .int .i64 q.b, .int .i64 q.c, .int .i64 q.d, .int .i64 s] 56)).alloc (.cells #[.int .i64 al.a, .int .i64 al.b, .int .i64 al.c, .int .i64 al.d] 54)) _ at hS2
  have hEq := run_eql57 q al
  rw [eq4_l] at hEq
  unfold stB at hv
  obtain ⟨d, hd⟩ : ∃ d, decide (q.l = al.l) = d := ⟨_, rfl⟩
  rw [hd] at hv hEq
  clear hd
  obtain ⟨qa, qb, qc, qd⟩ := q
  obtain ⟨la, lb, lc, ld⟩ := al
  simp only at hS2 hEq hv
  by_cases h0 : s = 0
  · subst h0
    obtain rfl : true = v := by rw [← hv]; rfl
    go_enter Try.func30, Try.ntmps30
    go_wp2
    go_ret
    exact ⟨rfl, hS2.bel⟩
  by_cases h2 : s = 2
  · subst h2
    obtain rfl : true = v := by rw [← hv]; rfl
    go_enter Try.func30, Try.ntmps30
    go_wp2
    go_ret
    exact ⟨rfl, hS2.bel⟩
  have h0' : (s == 0) = false := by simpa using h0
  have h2' : (s == 2) = false := by simpa using h2
  rw [decide_eq_false h0, decide_eq_false h2, Bool.false_or, Bool.false_or] at hv
  by_cases h1 : s = 1
  · subst h1
    obtain rfl : d = v := by rw [← hv]; rfl
    go_enter Try.func30, Try.ntmps30
    go_wp2
    go_ret
    exact ⟨rfl, hS2.bel⟩
  · have h1' : (s == 1) = false := by simpa using h1
    rw [decide_eq_false h1, Bool.false_and] at hv
    subst hv
    go_enter Try.func30, Try.ntmps30
    go_wp2
    go_ret
    exact ⟨rfl, hS2.bel⟩
end Go.Proofs.Ytobbankkfplooaa.K.G
