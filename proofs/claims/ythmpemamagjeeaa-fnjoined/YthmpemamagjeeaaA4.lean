/-
  Arrays of four Cells compared.
-/
import Derived.Test.YthmpemamagjeeaaL1
import Derived.Laws.StructEq
namespace Go.Proofs.Ythmpemamagjeeaa
open Go.RowKit Go.Joins

def eqT (a b : T3) : Bool := a.l == b.l && (a.x == b.x && a.y == b.y)
theorem eqT_iff {a b : T3} : eqT a b = true ↔ a = b := by
  obtain ⟨l, x, y⟩ := a
  obtain ⟨l', x', y'⟩ := b
  simp [eqT]
theorem run_eq38 (d : Nat) (a b : T3) (w : World) : (Op.equalIn (d + 1 + 1) 38 (.agg #[.int .i64 a.l, .int .i64 a.x, .int .i64 a.y]) (.agg #[.int .i64 b.l, .int .i64 b.x, .int .i64 b.y])).run Try.prog w = .ok (eqT a b) w := by
  have u2 := Try.underlying2
  have a2 := Try.isAgg2
  have z2 := Try.sizeOf2
  have hS : Try.prog.underlying 38 = some (.struct (Try.prog.fieldsOf 38)) := by kernel_rfl
  have hp : Try.prog.stoodInHeld 38 = false := by kernel_rfl
  rw [run_equalIn_agg w (d + 1) 38 _ _ hS hp]
  simp only [Program.fieldsOf, Try.underlying38]
  unfold eqT
  go_simp
  by_cases h1 : a.l = b.l <;> by_cases h2 : a.x = b.x <;> by_cases h3 : a.y = b.y <;> simp [h1, h2, h3]
def T4 (a b c d : T3) : Array Value := #[.int .i64 a.l, .int .i64 a.x, .int .i64 a.y, .int .i64 b.l, .int .i64 b.x, .int .i64 b.y, .int .i64 c.l, .int .i64 c.x, .int .i64 c.y, .int .i64 d.l, .int .i64 d.x, .int .i64 d.y]
theorem part_T4 (a b c d : T3) (w : World) :
    (part 38 (T4 a b c d) (0 * 3)).run Try.prog w = .ok (.agg #[.int .i64 a.l, .int .i64 a.x, .int .i64 a.y]) w ∧ (part 38 (T4 a b c d) (1 * 3)).run Try.prog w = .ok (.agg #[.int .i64 b.l, .int .i64 b.x, .int .i64 b.y]) w ∧ (part 38 (T4 a b c d) (2 * 3)).run Try.prog w = .ok (.agg #[.int .i64 c.l, .int .i64 c.x, .int .i64 c.y]) w ∧ (part 38 (T4 a b c d) (3 * 3)).run Try.prog w = .ok (.agg #[.int .i64 d.l, .int .i64 d.x, .int .i64 d.y]) w := by
  have a38 := Try.isAgg38
  have z38 := Try.sizeOf38
  refine ⟨?_, ?_, ?_, ?_⟩ <;> simp [part, a38, z38, T4]
theorem run_eq111 (n : Nat) (a b c d a' b' c' d' : T3) (w : World) : (Op.equalIn (n + 1 + 1 + 1) 111 (.agg (T4 a b c d)) (.agg (T4 a' b' c' d'))).run Try.prog w = .ok (eqT a a' && (eqT b b' && (eqT c c' && eqT d d'))) w := by
  have z38 := Try.sizeOf38
  obtain ⟨p0, p1, p2, p3⟩ := part_T4 a b c d w
  obtain ⟨q0, q1, q2, q3⟩ := part_T4 a' b' c' d' w
  have e := fun x y => run_eq38 n x y w
  rw [Op.equalIn]
  simp only [Sem.run_bind, run_underlying Try.underlying111, Result.andThen_ok, z38]
  have hr : ∀ {β : Type} (b : β) (f : Nat → β → Sem (ForInStep β)), forIn [:4] b f = forIn [0, 1, 2, 3] b f := by
    intro β b f
    simp [Std.Legacy.Range.forIn_eq_forIn_range', List.range']
  rw [hr]
  have e' : ∀ x y : T3, Sem.run Try.prog (Op.equalIn (n + 2) 38 (.agg #[.int .i64 x.l, .int .i64 x.x, .int .i64 x.y]) (.agg #[.int .i64 y.l, .int .i64 y.x, .int .i64 y.y])) w = .ok (eqT x y) w := e
  cases h0 : eqT a a'
  · simp [List.forIn_cons, p0, q0, e', h0]
  cases h1 : eqT b b'
  · simp [List.forIn_cons, p0, q0, p1, q1, e', h0, h1]
  cases h2 : eqT c c'
  · simp [List.forIn_cons, p0, q0, p1, q1, p2, q2, e', h0, h1, h2]
  cases h3 : eqT d d'
  · simp [List.forIn_cons, p0, q0, p1, q1, p2, q2, p3, q3, e', h0, h1, h2, h3]
  · simp [List.forIn_cons, p0, q0, p1, q1, p2, q2, p3, q3, e', h0, h1, h2, h3]
theorem run_neq111 (a b c d a' b' c' d' : T3) (w : World) : (binOp .neq 111 (.agg (T4 a b c d)) (.agg (T4 a' b' c' d'))).run Try.prog w = .ok (.bool (!(eqT a a' && (eqT b b' && (eqT c c' && eqT d d'))))) w := by
  rw [run_neq_struct, show (10000 : Nat) = 9997 + 1 + 1 + 1 from rfl, run_eq111]
  rfl
end Go.Proofs.Ythmpemamagjeeaa
