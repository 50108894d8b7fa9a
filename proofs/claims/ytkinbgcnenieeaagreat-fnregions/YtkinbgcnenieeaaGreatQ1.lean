/-
  Papers: Clauses copied, the program's and the spec's; lists of Clauses copied.
-/
import Derived.Test.YtkinbgcnenieeaaGreatPA
import Derived.Test.YtkinbgcnenieeaaGreatY2
import Derived.Laws.OwnMore
namespace Go.Proofs.YtkinbgcnenieeaaGreat
open Go.RowKit Go.Joins M
attribute [local go_sem] Oper.semAt_some

/-- A slice that lies somewhere, or nil. -/
def okv (s : Sv) : Prop := (∃ a, s.p = some a) ∨ s = ⟨none, 0, 0⟩
theorem own_okv {W : World} {base n c size : Nat} {e : TypeId} {p : Option Addr} {xs : List Value} {m : Nat} (h : W.ownsRow base e size (.slice p n c) m xs) : okv ⟨p, n, c⟩ := by
  rcases h.2 with ⟨h1, _⟩ | ⟨g, cap, cur, h1, _⟩
  · injection h1 with a b d; subst a b d; exact .inr rfl
  · injection h1 with a b d; subst a; exact .inl ⟨_, rfl⟩
theorem appC : Ap kC 29 (.agg #[.int .i64 0, .int .i64 0, .int .i64 0]) 24 := ⟨Tryz.underlying29, info55, rfl, by decide, by decide⟩
theorem oneCs (L : List T3) : ∀ u ∈ kC.flat L, u.oneCell' = true := fun u hu => by
  unfold Kd.flat at hu
  obtain ⟨s, _, hs⟩ := List.mem_flatMap.mp hu
  simp [kC] at hs
  rcases hs with rfl | rfl | rfl <;> rfl
theorem oneQs (L : List CQ) : ∀ u ∈ kQ.flat L, u.oneCell' = true := fun u hu => by
  unfold Kd.flat at hu
  obtain ⟨s, _, hs⟩ := List.mem_flatMap.mp hu
  simp [kQ] at hs
  rcases hs with rfl | rfl | rfl <;> rfl
section
variable {α : Type} {K : Kd α} {ts : TypeId} {z : Value} {bytes : Nat}
/-- A list appended to an empty one. -/
theorem cp_run (hA : Ap K ts z bytes) (hone : ∀ L : List α, ∀ u ∈ K.flat L, u.oneCell' = true) {w W0 W : World} {A Bs : List Rw} {v : Value} {L : List α} {s : Sv} (hS : Sg w W0 (A ++ rG K v [] :: Bs)) (hb : Below W0.heap.size W0 W) (hL : SlG K W s.p L) (hn : L.length = s.n) (hb0 : s.n ≤ 1100000) (ho : okv s) (ty : TypeId) :
    ∃ q cap w', (Builtin.append_ #[ts, ts] ty #[v, .slice s.p s.n s.c]).run Tryz.prog W = .ok (.slice q s.n cap) w' ∧ Sg w w' (A ++ rG K (.slice q s.n cap) L :: Bs) ∧ okv ⟨q, s.n, cap⟩ := by
  obtain ⟨i0, hi, hz0, hz1, hz2⟩ := info_parts hA.inf
  have hS1 := hS.step hb
  have hown : OwG K W w.heap.size v [] := hS1.own (rG K v []) (by simp)
  rcases ho with ⟨a, ha⟩ | rfl
  · have hsm := hA.small
    rw [ha] at hL ⊢
    have hsrc : ∀ j u, (K.flat L)[j]? = some u → W.cell? (a.add j) = some u := by
      rcases hL with rfl | ⟨g, off, hp, hC⟩
      · intro j u hj; simp [Kd.flat] at hj
      · cases hp; exact cs_src hC
    obtain ⟨v', w', r1, r2, r3, r4, r5⟩ := run_append_own_at (P := Tryz.prog) W w.heap.size ts ty K.t i0 z K.n bytes hA.und hi hz0 hz1 hz2 hA.zs hA.pos v 0 (K.flat []) hown a s.n s.c (K.flat L) (by rw [Kd.flat_len, hn]) hsrc (hone L) (by unfold maxLen; omega) (by
      have : (0 + s.n) * bytes ≤ 1100000 * 64 := Nat.mul_le_mul (by omega) hsm
      omega) hS1.bel.size
    rw [Nat.zero_add, Kd.flat_nil, List.nil_append] at r2
    have hr2 : OwG K w' w.heap.size v' L := by unfold OwG; rw [hn]; exact r2
    obtain ⟨q, cap, rfl, _⟩ := hr2.form
    rw [hn] at r1 r5
    have hr3 : OwG K w' w.heap.size (.slice q s.n cap) L := by rw [← hn]; exact hr2
    refine ⟨q, cap, w', r1, hS1.app (r' := rG K (.slice q s.n cap) L) hr3 r3 (fun gg e => ?_), own_okv hr3⟩
    have e' : (Value.slice q s.n cap).ownBlock = some gg := e
    rcases r5 with h | h
    · left; exact h.symm.trans e'
    · right
      rw [h] at e'
      exact Nat.le_of_eq (Option.some.inj e')
  · have h0 : L = [] := List.eq_nil_of_length_eq_zero hn
    subst h0
    have r1 := run_append_owned_none (P := Tryz.prog) (w := W) w.heap.size ts ty K.t i0 K.n hA.und hi v 0 (K.flat []) hown
    obtain ⟨q, cap, rfl, _⟩ := hown.form
    exact ⟨q, cap, W, r1, hS1, own_okv hown⟩
theorem wp_cp (hA : Ap K ts z bytes) (hone : ∀ L : List α, ∀ u ∈ K.flat L, u.oneCell' = true) {o : Oper} {a : Act} {KK : Act → World → Prop} {Q : Exit → Act → World → Prop} (x y : Operand) (hop : o.op = .call { callee := .builtin .append, args := #[x, y], argTypes := #[ts, ts] })
    {w W0 W : World} {A Bs : List Rw} {v : Value} {L : List α} {s : Sv} (hS : Sg w W0 (A ++ rG K v [] :: Bs)) (hb : Below W0.heap.size W0 W) (hL : SlG K W s.p L) (hn : L.length = s.n) (hb0 : s.n ≤ 1100000) (ho : okv s) (hx : a.eval x = v) (hy : a.eval y = .slice s.p s.n s.c)
    (h : ∀ q cap w', Sg w w' (A ++ rG K (.slice q s.n cap) L :: Bs) → okv ⟨q, s.n, cap⟩ → KK (a.put o.dst (.slice q s.n cap)) w') : o.wp Tryz.prog a W KK Q := by
  obtain ⟨q, cap, w', hr, h2, h3⟩ := cp_run hA hone hS hb hL hn hb0 ho o.type
  unfold Oper.wp execOp
  simp only [hop, resolve, invoke, builtin, Sem.run_bind, Sem.run_pure, Result.andThen_ok, List.map_toArray, List.map_cons, List.map_nil, hx, hy, hr]
  exact h q cap w' h2 h3
theorem step_cp (hA : Ap K ts z bytes) (hone : ∀ L : List α, ∀ u ∈ K.flat L, u.oneCell' = true) {ops : Array Oper} {o : Oper} {a : Act} {KK : Act → World → Prop} {Q : Exit → Act → World → Prop} {E : Prop} (hgd : o.guard = none) (x y : Operand) (hop : o.op = .call { callee := .builtin .append, args := #[x, y], argTypes := #[ts, ts] })
    {w W0 W : World} {A Bs : List Rw} {v : Value} {L : List α} {s : Sv} (hS : Sg w W0 (A ++ rG K v [] :: Bs)) (hb : Below W0.heap.size W0 W) (hL : SlG K W s.p L) (hn : L.length = s.n) (hb0 : s.n ≤ 1100000) (ho : okv s) (hx : a.eval x = v) (hy : a.eval y = .slice s.p s.n s.c)
    (h : ∀ q cap w', Sg w w' (A ++ rG K (.slice q s.n cap) L :: Bs) → okv ⟨q, s.n, cap⟩ → KK (a.put o.dst (.slice q s.n cap)) w') :
    if Region.wanted o (yielded ops a.tmps) = true then Oper.wp Tryz.prog o a W KK Q else E := by
  have hw : Region.wanted o (yielded ops a.tmps) = true := by simp [Region.wanted, hgd]
  rw [if_pos hw]
  exact wp_cp hA hone x y hop hS hb hL hn hb0 ho hx hy h
end
end Go.Proofs.YtkinbgcnenieeaaGreat
