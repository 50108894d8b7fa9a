/-
  Records appended, grown, put together: slices.Grow and slices.Concat.
-/
import Derived.Test.YtppoafggiejdgaaGreatKB4
import Derived.Shelf.Spec.SlicesGrow
import Derived.Shelf.SlGeneric
import Derived.Laws.OwnMore
namespace Go.Proofs
open Go.Shelf
end Go.Proofs
namespace Go.Proofs.YtppoafggiejdgaaGreat.K
open Go.Shelf Go.RowKit Go.Joins
attribute [local go_sem] Oper.semAt_some

/-- A slice, as it lies in a cell. -/
structure Sv where
  p : Option Addr
  n : Nat
  c : Nat
/-- A slice that lies somewhere, or nil. -/
def okv (s : Sv) : Prop := (∃ a, s.p = some a) ∨ s = ⟨none, 0, 0⟩
theorem own_okv {W : World} {base n c size : Nat} {e : TypeId} {p : Option Addr} {xs : List Value} {m : Nat} (h : W.ownsRow base e size (.slice p n c) m xs) : okv ⟨p, n, c⟩ := by
  rcases h.2 with ⟨h1, _⟩ | ⟨g, cap, cur, h1, _⟩
  · injection h1 with a b d; subst a b d; exact .inr rfl
  · injection h1 with a b d; subst a; exact .inl ⟨_, rfl⟩
theorem oneRs (L : List Rc) : ∀ u ∈ kR.flat L, u.oneCell' = true := fun u hu => by
  unfold Kd.flat at hu
  obtain ⟨s, _, hs⟩ := List.mem_flatMap.mp hu
  simp [kR] at hs
  rcases hs with rfl | rfl | rfl | rfl | rfl <;> rfl
theorem oneIs (L : List Int) : ∀ u ∈ kI.flat L, u.oneCell' = true := fun u hu => by
  unfold Kd.flat at hu
  obtain ⟨s, _, hs⟩ := List.mem_flatMap.mp hu
  simp [kI] at hs
  subst hs; rfl
abbrev zR : Value := .agg #[.int .i64 0, .int .i64 0, .int .i64 0, .int .i64 0, .string ByteArray.empty]
theorem appR : Ap kR 28 zR 48 := ⟨Tryz.underlying28, info70, rfl, by decide, by decide⟩
theorem appR2 : Ap kR 76 zR 48 := ⟨Tryz.underlying76, info70, rfl, by decide, by decide⟩
section
variable {α : Type} {K : Kd α} {ts : TypeId} {z : Value} {bytes : Nat}
/-- A list, maybe empty or nil, appended to a list of one's own. -/
theorem ap_run (hA : Ap K ts z bytes) (hone : ∀ L : List α, ∀ u ∈ K.flat L, u.oneCell' = true) {w W0 W : World} {A Bs : List Rw} {v : Value} {M L : List α} {m : Nat} {s : Sv} (hS : Sg w W0 (A ++ rG K v M :: Bs)) (hb : Below W0.heap.size W0 W) (hL : SlG K W s.p L) (hm : M.length = m) (hn : L.length = s.n) (hb0 : m + s.n ≤ 1100000) (ho : okv s) (ty : TypeId) :
    ∃ q cap w', (Builtin.append_ #[ts, ts] ty #[v, .slice s.p s.n s.c]).run Tryz.prog W = .ok (.slice q (m + s.n) cap) w' ∧ Sg w w' (A ++ rG K (.slice q (m + s.n) cap) (M ++ L) :: Bs) ∧ W.grownBy w' v.ownBlock ∧ (∀ gg, (Value.slice q (m + s.n) cap).ownBlock = some gg → v.ownBlock = some gg ∨ W.heap.size ≤ gg) ∧ ((Value.slice q (m + s.n) cap) = .slice none 0 0 → v = .slice none 0 0) := by
  obtain ⟨i0, hi, hz0, hz1, hz2⟩ := info_parts hA.inf
  have hS1 := hS.step hb
  have hown : OwG K W w.heap.size v M := hS1.own (rG K v M) (by simp)
  rcases ho with ⟨a, ha⟩ | rfl
  · have hsm := hA.small
    rw [ha] at hL ⊢
    have hsrc : ∀ j u, (K.flat L)[j]? = some u → W.cell? (a.add j) = some u := by
      rcases hL with rfl | ⟨g, off, hp, hC⟩
      · intro j u hj; simp [Kd.flat] at hj
      · cases hp; exact cs_src hC
    obtain ⟨v', w', r1, r2, r3, r4, r5⟩ := run_append_own_at (P := Tryz.prog) W w.heap.size ts ty K.t i0 z K.n bytes hA.und hi hz0 hz1 hz2 hA.zs hA.pos v M.length (K.flat M) hown a s.n s.c (K.flat L) (by rw [Kd.flat_len, hn]) hsrc (hone L) (by unfold maxLen; omega) (by
      have : (M.length + s.n) * bytes ≤ 1100000 * 64 := Nat.mul_le_mul (by omega) hsm
      omega) hS1.bel.size
    have hr2 : OwG K w' w.heap.size v' (M ++ L) := by unfold OwG; rw [List.length_append, Kd.flat_append, hn]; exact r2
    obtain ⟨q, cap, rfl, _⟩ := hr2.form
    rw [List.length_append, hn, hm] at r1 r4 r5
    have hr3 : OwG K w' w.heap.size (.slice q (m + s.n) cap) (M ++ L) := by
      have e : (M ++ L).length = m + s.n := by rw [List.length_append, hn, hm]
      rw [← e]; exact hr2
    have hat : ∀ gg, (Value.slice q (m + s.n) cap).ownBlock = some gg → v.ownBlock = some gg ∨ W.heap.size ≤ gg := fun gg e' => by
      rcases r5 with h | h
      · left; exact h.symm.trans e'
      · right
        rw [h] at e'
        exact Nat.le_of_eq (Option.some.inj e')
    exact ⟨q, cap, w', r1, hS1.app (r' := rG K (.slice q (m + s.n) cap) (M ++ L)) hr3 r3 (fun gg e => hat gg e), r3, hat, fun e => (r4.mp e).1⟩
  · have h0 : L = [] := List.eq_nil_of_length_eq_zero hn
    subst h0
    have r1 := run_append_owned_none (P := Tryz.prog) (w := W) w.heap.size ts ty K.t i0 K.n hA.und hi v M.length (K.flat M) hown
    obtain ⟨q, cap, rfl, _⟩ := hown.form
    subst hm
    exact ⟨q, cap, W, r1, by simpa using hS1, ⟨rfl, rfl, rfl, Nat.le_refl _, fun _ _ _ => rfl⟩, fun gg e => .inl e, fun e => e⟩
theorem wp_ap (hA : Ap K ts z bytes) (hone : ∀ L : List α, ∀ u ∈ K.flat L, u.oneCell' = true) {o : Oper} {a : Act} {KK : Act → World → Prop} {Q : Exit → Act → World → Prop} (x y : Operand) (hop : o.op = .call { callee := .builtin .append, args := #[x, y], argTypes := #[ts, ts] })
    {w W0 W : World} {A Bs : List Rw} {v : Value} {M L : List α} {m : Nat} {s : Sv} (hS : Sg w W0 (A ++ rG K v M :: Bs)) (hb : Below W0.heap.size W0 W) (hL : SlG K W s.p L) (hm : M.length = m) (hn : L.length = s.n) (hb0 : m + s.n ≤ 1100000) (ho : okv s) (hx : a.eval x = v) (hy : a.eval y = .slice s.p s.n s.c)
    (h : ∀ q cap w', Sg w w' (A ++ rG K (.slice q (m + s.n) cap) (M ++ L) :: Bs) → W.grownBy w' v.ownBlock → (∀ gg, (Value.slice q (m + s.n) cap).ownBlock = some gg → v.ownBlock = some gg ∨ W.heap.size ≤ gg) → ((Value.slice q (m + s.n) cap) = .slice none 0 0 → v = .slice none 0 0) → KK (a.put o.dst (.slice q (m + s.n) cap)) w') : o.wp Tryz.prog a W KK Q := by
  obtain ⟨q, cap, w', hr, h2, h3, h4, h5⟩ := ap_run hA hone hS hb hL hm hn hb0 ho o.type
  unfold Oper.wp execOp
  simp only [hop, resolve, invoke, builtin, Sem.run_bind, Sem.run_pure, Result.andThen_ok, List.map_toArray, List.map_cons, List.map_nil, hx, hy, hr]
  exact h q cap w' h2 h3 h4 h5
theorem wpList_ap (hA : Ap K ts z bytes) (hone : ∀ L : List α, ∀ u ∈ K.flat L, u.oneCell' = true) {ops : Array Oper} {rest : List Oper} {o : Oper} {a : Act} {Q : Exit → Act → World → Prop} (hgd : o.guard = none) (x y : Operand) (hop : o.op = .call { callee := .builtin .append, args := #[x, y], argTypes := #[ts, ts] })
    {w W0 W : World} {A Bs : List Rw} {v : Value} {M L : List α} {m : Nat} {s : Sv} (hS : Sg w W0 (A ++ rG K v M :: Bs)) (hb : Below W0.heap.size W0 W) (hL : SlG K W s.p L) (hm : M.length = m) (hn : L.length = s.n) (hb0 : m + s.n ≤ 1100000) (ho : okv s) (hx : a.eval x = v) (hy : a.eval y = .slice s.p s.n s.c)
    (h : ∀ q cap w', Sg w w' (A ++ rG K (.slice q (m + s.n) cap) (M ++ L) :: Bs) → W.grownBy w' v.ownBlock → (∀ gg, (Value.slice q (m + s.n) cap).ownBlock = some gg → v.ownBlock = some gg ∨ W.heap.size ≤ gg) → ((Value.slice q (m + s.n) cap) = .slice none 0 0 → v = .slice none 0 0) → wpList Tryz.prog ops Q rest (a.put o.dst (.slice q (m + s.n) cap)) w') : wpList Tryz.prog ops Q (o :: rest) a W :=
  wpList_plain hgd fun _ hK => wp_ap hA hone x y hop hS hb hL hm hn hb0 ho hx hy fun q cap w' h2 h3 h4 h5 => hK _ _ (h q cap w' h2 h3 h4 h5)
theorem step_ap (hA : Ap K ts z bytes) (hone : ∀ L : List α, ∀ u ∈ K.flat L, u.oneCell' = true) {ops : Array Oper} {o : Oper} {a : Act} {KK : Act → World → Prop} {Q : Exit → Act → World → Prop} {E : Prop} (hgd : o.guard = none) (x y : Operand) (hop : o.op = .call { callee := .builtin .append, args := #[x, y], argTypes := #[ts, ts] })
    {w W0 W : World} {A Bs : List Rw} {v : Value} {M L : List α} {m : Nat} {s : Sv} (hS : Sg w W0 (A ++ rG K v M :: Bs)) (hb : Below W0.heap.size W0 W) (hL : SlG K W s.p L) (hm : M.length = m) (hn : L.length = s.n) (hb0 : m + s.n ≤ 1100000) (ho : okv s) (hx : a.eval x = v) (hy : a.eval y = .slice s.p s.n s.c)
    (h : ∀ q cap w', Sg w w' (A ++ rG K (.slice q (m + s.n) cap) (M ++ L) :: Bs) → W.grownBy w' v.ownBlock → (∀ gg, (Value.slice q (m + s.n) cap).ownBlock = some gg → v.ownBlock = some gg ∨ W.heap.size ≤ gg) → ((Value.slice q (m + s.n) cap) = .slice none 0 0 → v = .slice none 0 0) → KK (a.put o.dst (.slice q (m + s.n) cap)) w') :
    if Region.wanted o (yielded ops a.tmps) = true then Oper.wp Tryz.prog o a W KK Q else E := by
  have hw : Region.wanted o (yielded ops a.tmps) = true := by simp [Region.wanted, hgd]
  rw [if_pos hw]
  exact wp_ap hA hone x y hop hS hb hL hm hn hb0 ho hx hy h
end
theorem sg_nilrow (w : World) : Sg w w [rG kR (.slice none 0 0) []] := by
  refine ⟨Below.refl _ _, fun r hr => ?_, List.pairwise_singleton _ _⟩
  obtain rfl := List.mem_singleton.mp hr
  exact ⟨rfl, .inl ⟨rfl, rfl⟩⟩
end Go.Proofs.YtppoafggiejdgaaGreat.K
