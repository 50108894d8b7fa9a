/-
  Records appended, grown, put together: slices.Grow and slices.Concat.
-/
import Derived.Test.YtobbankkfplooaaGreatKB2
import Derived.Deep.QuietTactic
import Derived.BigQuiet
import Derived.Shelf.Spec.SlicesGrow
import Derived.Shelf.SlGeneric
import Derived.Laws.OwnMore
namespace Go.Proofs.YtobbankkfplooaaGreat.K
open Go.RowKit Go.Joins

/-- A frame of N slots of which some are told. -/
structure Fr (N : Nat) (A : Act) (l : List (Nat × Value)) : Prop where
  size : A.tmps.size = N
  has : ∀ p ∈ l, A.tmps[p.1]? = some p.2
theorem Fr.get {N : Nat} {A : Act} {l : List (Nat × Value)} (h : Fr N A l) {d : Nat} {v : Value} (hm : (d, v) ∈ l) : A.tmps[d]? = some v := h.has _ hm
theorem Fr.put {N : Nat} {A : Act} {l : List (Nat × Value)} (h : Fr N A l) {d : Nat} {v : Value} (hd : d < N) (hne : ∀ p ∈ l, p.1 ≠ d) : Fr N (A.put (some d) v) ((d, v) :: l) := by
  refine ⟨by simp [Act.put, h.size], fun p hp => ?_⟩
  rcases List.mem_cons.mp hp with rfl | hp
  · show (A.tmps.setIfInBounds d v)[d]? = some v
    rw [Array.getElem?_setIfInBounds_self_of_lt (by rw [h.size]; exact hd)]
  · show (A.tmps.setIfInBounds d v)[p.1]? = some p.2
    rw [Array.getElem?_setIfInBounds_ne (Ne.symm (hne p hp))]
    exact h.has p hp
section
variable {N : Nat} {ops : Array Oper} {C : World → Prop} {Q : Act → Prop} {A : Act} {o : Oper} {rest : List Oper} {l : List (Nat × Value)} {d e j : Nat} {v : Value} {want b : Bool}
theorem q_step (hf : Fr N A l) (hw : o.guard = none) (hd : o.dst = some d) (hlt : d < N) (hne : ∀ p ∈ l, p.1 ≠ d)
    (hq : ∀ w, C w → o.quietAt Tryz.prog A C w v) (k : ∀ A', A' = A.put (some d) v → Fr N A' ((d, v) :: l) → wpQuiet Tryz.prog ops C Q rest A') : wpQuiet Tryz.prog ops C Q (o :: rest) A :=
  BigFrame.wpQuiet_want (by simp [Region.wanted, hw]) (fun K hK => ⟨v, hq, hK _ (by rw [hd]; exact k _ rfl (hf.put hlt hne))⟩)
theorem q_want (hf : Fr N A l) (hg : o.guard = some (j, want)) (hj : (ops[j]?).bind (·.dst) = some e) (hv : (e, .bool want) ∈ l) (hd : o.dst = some d) (hlt : d < N) (hne : ∀ p ∈ l, p.1 ≠ d)
    (hq : ∀ w, C w → o.quietAt Tryz.prog A C w v) (k : ∀ A', A' = A.put (some d) v → Fr N A' ((d, v) :: l) → wpQuiet Tryz.prog ops C Q rest A') : wpQuiet Tryz.prog ops C Q (o :: rest) A :=
  BigFrame.wpQuiet_want (by rw [Region.wanted, hg]; simp [yielded, hj, hf.get hv]) (fun K hK => ⟨v, hq, hK _ (by rw [hd]; exact k _ rfl (hf.put hlt hne))⟩)
theorem q_skip (hf : Fr N A l) (hg : o.guard = some (j, want)) (hj : (ops[j]?).bind (·.dst) = some e) (hv : (e, .bool b) ∈ l) (hb : (b == want) = false)
    (hd : o.dst = some d) (hlt : d < N) (hne : ∀ p ∈ l, p.1 ≠ d) (k : ∀ A', A' = A.put (some d) undef → Fr N A' ((d, undef) :: l) → wpQuiet Tryz.prog ops C Q rest A') : wpQuiet Tryz.prog ops C Q (o :: rest) A :=
  BigFrame.wpQuiet_skip (by rw [Region.wanted, hg]; simp [yielded, hj, hf.get hv]; simpa using hb) (by rw [hd]; exact k _ rfl (hf.put hlt hne))
theorem q_skipU (hf : Fr N A l) (hg : o.guard = some (j, want)) (hj : (ops[j]?).bind (·.dst) = some e) (hv : (e, undef) ∈ l)
    (hd : o.dst = some d) (hlt : d < N) (hne : ∀ p ∈ l, p.1 ≠ d) (k : ∀ A', A' = A.put (some d) undef → Fr N A' ((d, undef) :: l) → wpQuiet Tryz.prog ops C Q rest A') : wpQuiet Tryz.prog ops C Q (o :: rest) A :=
  BigFrame.wpQuiet_skip (by rw [Region.wanted, hg]; simp [yielded, hj, hf.get hv, undef]) (by rw [hd]; exact k _ rfl (hf.put hlt hne))
end
theorem q_intro {ops : Array Oper} {C : World → Prop} {Q : Act → Prop} {os : List Oper} {A0 : Act} (h : ∀ A, A = A0 → wpQuiet Tryz.prog ops C Q os A) : wpQuiet Tryz.prog ops C Q os A0 := h _ rfl
end Go.Proofs.YtobbankkfplooaaGreat.K
namespace Go.Proofs.YtobbankkfplooaaGreat.K
open Go.RowKit Go.Joins
attribute [local go_sem] Oper.semAt_some

theorem recsB_eq {L : List Rc} {n : Nat} (hn : L.length = n) : recsB L = (decide (n ≤ 400) && (L.all recB && riseB L)) := by unfold recsB; rw [hn]
theorem rise_snoc {L : List Rc} {k : Nat} {a b : Rc} (h1 : L[k]? = some a) (h2 : L[k + 1]? = some b) (h : riseB (L.take (k + 1)) = true) (hl : lessB a b = true) : riseB (L.take (k + 2)) = true := by
  refine rise_of fun i x y hx hy => ?_
  have hi := (List.getElem?_eq_some_iff.1 hy).1
  rw [List.length_take] at hi
  rw [List.getElem?_take_of_lt (by omega)] at hx hy
  by_cases e : i = k
  · subst e; rw [h1] at hx; rw [h2] at hy; cases hx; cases hy; exact hl
  · exact rise_at h (i := i) (j := i + 1) (by omega) (by rw [List.getElem?_take_of_lt (by omega)]; exact hx) (by rw [List.getElem?_take_of_lt (by omega)]; exact hy)
theorem recs_no1 {L : List Rc} {k : Nat} {r : Rc} (hg : L[k]? = some r) (h : recB r = false) : recsB L = false := by
  unfold recsB; rw [all_no hg h]; simp
theorem recs_no2 {L : List Rc} {k : Nat} {a b : Rc} (h1 : L[k]? = some a) (h2 : L[k + 1]? = some b) (h : lessB a b = false) : recsB L = false := by
  unfold recsB; rw [rise_no h1 h2 h]; simp
end Go.Proofs.YtobbankkfplooaaGreat.K
namespace Go.Proofs.YtobbankkfplooaaGreat.K
open Go.RowKit Go.Joins
attribute [local go_sem] Oper.semAt_some

theorem has5 {W : World} {b : Nat} {a0 a1 a2 a3 a4 : Value} {l : List (Nat × List Value)} (h : Has W ((b, [a0, a1, a2, a3, a4]) :: l)) : W.cell? ⟨b, 0, none⟩ = some a0 ∧ W.cell? ⟨b, 1, none⟩ = some a1 ∧ W.cell? ⟨b, 2, none⟩ = some a2 ∧ W.cell? ⟨b, 3, none⟩ = some a3 ∧ W.cell? ⟨b, 4, none⟩ = some a4 := by
  obtain ⟨⟨_, _, h0, h1, h2, h3, h4, _⟩, _⟩ := h
  exact ⟨h0, h1, h2, h3, h4⟩
theorem pos_of_halves {L : List Rc} {q : Rc} {k : Nat} (hk : k ≤ L.length) (h1 : ∀ j a, j < k → L[j]? = some a → lessB a q = true) (h2 : ∀ j a, k ≤ j → L[j]? = some a → lessB a q = false) : k = pos L q :=
  pos_uniq hk h1 (fun a ha => h2 k a (Nat.le_refl _) ha)
end Go.Proofs.YtobbankkfplooaaGreat.K
namespace Go.Proofs
open Go.Shelf
end Go.Proofs
namespace Go.Proofs.YtobbankkfplooaaGreat.K
open Go.Shelf Go.RowKit Go.Joins
attribute [local go_sem] Oper.semAt_some

/-- A slice, as it lies in a cell. -/
structure Sv where
  p : Option Addr
  n : Nat
  c : Nat
/-- A slice that lies somewhere, or nil. -/
def okv (s : Sv) : Prop := (∃ a, s.p = some a) ∨ s = ⟨none, 0, 0⟩
theorem own_okv {W : World} {base n c size : Nat} {e : TypeId} {p : Option Addr} {xs : List Value} {m : Nat} (h : W.ownsRow base e size (.slice p n c) m xs) : okv ⟨p, n, c⟩ := by
  rcases h.2 with ⟨h1, _⟩ | ⟨g, cap, cur, h1, _⟩
  · injection h1 with a b d; subst a b d; exact .inr rfl
  · injection h1 with a b d; subst a; exact .inl ⟨_, rfl⟩
theorem oneIs (L : List Int) : ∀ u ∈ kI.flat L, u.oneCell' = true := fun u hu => by
  unfold Kd.flat at hu
  obtain ⟨s, _, hs⟩ := List.mem_flatMap.mp hu
  simp [kI] at hs
  subst hs; rfl
abbrev zR : Value := .agg #[.int .i64 0, .int .i64 0, .int .i64 0, .int .i64 0, .string ByteArray.empty]
section
variable {α : Type} {K : Kd α} {ts : TypeId} {z : Value} {bytes : Nat}
/-- A list, maybe empty or nil, appended to a list of one's own. -/
theorem ap_run (hA : Ap K ts z bytes) (hone : ∀ L : List α, ∀ u ∈ K.flat L, u.oneCell' = true) {w W0 W : World} {A Bs : List Rw} {v : Value} {M L : List α} {m : Nat} {s : Sv} (hS : Sg w W0 (A ++ rG K v M :: Bs)) (hb : Below W0.heap.size W0 W) (hL : SlG K W s.p L) (hm : M.length = m) (hn : L.length = s.n) (hb0 : m + s.n ≤ 1100000) (ho : okv s) (ty : TypeId) :
    ∃ q cap w', (Builtin.append_ #[ts, ts] ty #[v, .slice s.p s.n s.c]).run Tryz.prog W = .ok (.slice q (m + s.n) cap) w' ∧ Sg w w' (A ++ rG K (.slice q (m + s.n) cap) (M ++ L) :: Bs) ∧ W.grownBy w' v.ownBlock ∧ (∀ gg, (Value.slice q (m + s.n) cap).ownBlock = some gg → v.ownBlock = some gg ∨ W.heap.size ≤ gg) ∧ ((Value.slice q (m + s.n) cap) = .slice none 0 0 → v = .slice none 0 0) := by
  obtain ⟨i0, hi, hz0, hz1, hz2⟩ := info_parts hA.inf
  have hS1 := hS.step hb
  have hown : OwG K W w.heap.size v M := hS1.own (rG K v M) (by simp)
  rcases ho with ⟨a, ha⟩ | rfl
  · have hsm := hA.small
    rw [ha] at hL ⊢
    have hsrc : ∀ j u, (K.flat L)[j]? = some u → W.cell? (a.add j) = some u := by
      rcases hL with rfl | ⟨g, off, hp, hC⟩
      · intro j u hj; simp [Kd.flat] at hj
      · cases hp; exact cs_src hC
    obtain ⟨v', w', r1, r2, r3, r4, r5⟩ := run_append_own_at (P := Tryz.prog) W w.heap.size ts ty K.t i0 z K.n bytes hA.und hi hz0 hz1 hz2 hA.zs hA.pos v M.length (K.flat M) hown a s.n s.c (K.flat L) (by rw [Kd.flat_len, hn]) hsrc (hone L) (by unfold maxLen; omega) (by
      have : (M.length + s.n) * bytes ≤ 1100000 * 64 := Nat.mul_le_mul (by omega) hsm
      omega) hS1.bel.size
    have hr2 : OwG K w' w.heap.size v' (M ++ L) := by unfold OwG; rw [List.length_append, Kd.flat_append, hn]; exact r2
    obtain ⟨q, cap, rfl, _⟩ := hr2.form
    rw [List.length_append, hn, hm] at r1 r4 r5
    have hr3 : OwG K w' w.heap.size (.slice q (m + s.n) cap) (M ++ L) := by
      have e : (M ++ L).length = m + s.n := by rw [List.length_append, hn, hm]
      rw [← e]; exact hr2
    have hat : ∀ gg, (Value.slice q (m + s.n) cap).ownBlock = some gg → v.ownBlock = some gg ∨ W.heap.size ≤ gg := fun gg e' => by
      rcases r5 with h | h
      · left; exact h.symm.trans e'
      · right
        rw [h] at e'
        exact Nat.le_of_eq (Option.some.inj e')
    exact ⟨q, cap, w', r1, hS1.app (r' := rG K (.slice q (m + s.n) cap) (M ++ L)) hr3 r3 (fun gg e => hat gg e), r3, hat, fun e => (r4.mp e).1⟩
  · have h0 : L = [] := List.eq_nil_of_length_eq_zero hn
    subst h0
    have r1 := run_append_owned_none (P := Tryz.prog) (w := W) w.heap.size ts ty K.t i0 K.n hA.und hi v M.length (K.flat M) hown
    obtain ⟨q, cap, rfl, _⟩ := hown.form
    subst hm
    exact ⟨q, cap, W, r1, by simpa using hS1, ⟨rfl, rfl, rfl, Nat.le_refl _, fun _ _ _ => rfl⟩, fun gg e => .inl e, fun e => e⟩
theorem wp_ap (hA : Ap K ts z bytes) (hone : ∀ L : List α, ∀ u ∈ K.flat L, u.oneCell' = true) {o : Oper} {a : Act} {KK : Act → World → Prop} {Q : Exit → Act → World → Prop} (x y : Operand) (hop : o.op = .call { callee := .builtin .append, args := #[x, y], argTypes := #[ts, ts] })
    {w W0 W : World} {A Bs : List Rw} {v : Value} {M L : List α} {m : Nat} {s : Sv} (hS : Sg w W0 (A ++ rG K v M :: Bs)) (hb : Below W0.heap.size W0 W) (hL : SlG K W s.p L) (hm : M.length = m) (hn : L.length = s.n) (hb0 : m + s.n ≤ 1100000) (ho : okv s) (hx : a.eval x = v) (hy : a.eval y = .slice s.p s.n s.c)
    (h : ∀ q cap w', Sg w w' (A ++ rG K (.slice q (m + s.n) cap) (M ++ L) :: Bs) → W.grownBy w' v.ownBlock → (∀ gg, (Value.slice q (m + s.n) cap).ownBlock = some gg → v.ownBlock = some gg ∨ W.heap.size ≤ gg) → ((Value.slice q (m + s.n) cap) = .slice none 0 0 → v = .slice none 0 0) → KK (a.put o.dst (.slice q (m + s.n) cap)) w') : o.wp Tryz.prog a W KK Q := by
  obtain ⟨q, cap, w', hr, h2, h3, h4, h5⟩ := ap_run hA hone hS hb hL hm hn hb0 ho o.type
  unfold Oper.wp execOp
  simp only [hop, resolve, invoke, builtin, Sem.run_bind, Sem.run_pure, Result.andThen_ok, List.map_toArray, List.map_cons, List.map_nil, hx, hy, hr]
  exact h q cap w' h2 h3 h4 h5
theorem wpList_ap (hA : Ap K ts z bytes) (hone : ∀ L : List α, ∀ u ∈ K.flat L, u.oneCell' = true) {ops : Array Oper} {rest : List Oper} {o : Oper} {a : Act} {Q : Exit → Act → World → Prop} (hgd : o.guard = none) (x y : Operand) (hop : o.op = .call { callee := .builtin .append, args := #[x, y], argTypes := #[ts, ts] })
    {w W0 W : World} {A Bs : List Rw} {v : Value} {M L : List α} {m : Nat} {s : Sv} (hS : Sg w W0 (A ++ rG K v M :: Bs)) (hb : Below W0.heap.size W0 W) (hL : SlG K W s.p L) (hm : M.length = m) (hn : L.length = s.n) (hb0 : m + s.n ≤ 1100000) (ho : okv s) (hx : a.eval x = v) (hy : a.eval y = .slice s.p s.n s.c)
    (h : ∀ q cap w', Sg w w' (A ++ rG K (.slice q (m + s.n) cap) (M ++ L) :: Bs) → W.grownBy w' v.ownBlock → (∀ gg, (Value.slice q (m + s.n) cap).ownBlock = some gg → v.ownBlock = some gg ∨ W.heap.size ≤ gg) → ((Value.slice q (m + s.n) cap) = .slice none 0 0 → v = .slice none 0 0) → wpList Tryz.prog ops Q rest (a.put o.dst (.slice q (m + s.n) cap)) w') : wpList Tryz.prog ops Q (o :: rest) a W :=
  wpList_plain hgd fun _ hK => wp_ap hA hone x y hop hS hb hL hm hn hb0 ho hx hy fun q cap w' h2 h3 h4 h5 => hK _ _ (h q cap w' h2 h3 h4 h5)
theorem step_ap (hA : Ap K ts z bytes) (hone : ∀ L : List α, ∀ u ∈ K.flat L, u.oneCell' = true) {ops : Array Oper} {o : Oper} {a : Act} {KK : Act → World → Prop} {Q : Exit → Act → World → Prop} {E : Prop} (hgd : o.guard = none) (x y : Operand) (hop : o.op = .call { callee := .builtin .append, args := #[x, y], argTypes := #[ts, ts] })
    {w W0 W : World} {A Bs : List Rw} {v : Value} {M L : List α} {m : Nat} {s : Sv} (hS : Sg w W0 (A ++ rG K v M :: Bs)) (hb : Below W0.heap.size W0 W) (hL : SlG K W s.p L) (hm : M.length = m) (hn : L.length = s.n) (hb0 : m + s.n ≤ 1100000) (ho : okv s) (hx : a.eval x = v) (hy : a.eval y = .slice s.p s.n s.c)
    (h : ∀ q cap w', Sg w w' (A ++ rG K (.slice q (m + s.n) cap) (M ++ L) :: Bs) → W.grownBy w' v.ownBlock → (∀ gg, (Value.slice q (m + s.n) cap).ownBlock = some gg → v.ownBlock = some gg ∨ W.heap.size ≤ gg) → ((Value.slice q (m + s.n) cap) = .slice none 0 0 → v = .slice none 0 0) → KK (a.put o.dst (.slice q (m + s.n) cap)) w') :
    if Region.wanted o (yielded ops a.tmps) = true then Oper.wp Tryz.prog o a W KK Q else E := by
  have hw : Region.wanted o (yielded ops a.tmps) = true := by simp [Region.wanted, hgd]
  rw [if_pos hw]
  exact wp_ap hA hone x y hop hS hb hL hm hn hb0 ho hx hy h
end
end Go.Proofs.YtobbankkfplooaaGreat.K
