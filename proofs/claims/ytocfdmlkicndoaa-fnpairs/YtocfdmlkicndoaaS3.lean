/-
  Appends onto a list of one's own, wherever; Spots compared.
-/
import Derived.Test.YtocfdmlkicndoaaS1
import Derived.Test.YtocfdmlkicndoaaN2
import Derived.Laws.StructEq
namespace Go.Proofs.Ytocfdmlkicndoaa
open Go.RowKit Go.Joins
attribute [local go_sem ↓] Go.wp_at_zero Go.wp_at_succ

theorem run_eqlT (a b : T2) (w : World) : (binOp .eql 37 (.agg #[.int .i64 a.x, .int .i64 a.y]) (.agg #[.int .i64 b.x, .int .i64 b.y])).run Try.prog w = .ok (.bool (eqB a b)) w := by
  have u2 := Try.underlying2
  have a2 := Try.isAgg2
  have z2 := Try.sizeOf2
  have hS : Try.prog.underlying 37 = some (.struct (Try.prog.fieldsOf 37)) := by kernel_rfl
  have hp : Try.prog.stoodInHeld 37 = false := by kernel_rfl
  rw [run_eql_struct, show (10000 : Nat) = 9998 + 1 + 1 from rfl, run_equalIn_agg w (9998 + 1) 37 _ _ hS hp]
  simp only [Program.fieldsOf, Try.underlying37]
  unfold eqB
  go_simp
  by_cases h1 : a.x = b.x <;> by_cases h2 : a.y = b.y <;> simp [h1, h2]
theorem run_neqT (a b : T2) (w : World) : (binOp .neq 37 (.agg #[.int .i64 a.x, .int .i64 a.y]) (.agg #[.int .i64 b.x, .int .i64 b.y])).run Try.prog w = .ok (.bool (!(eqB a b))) w := by
  have u2 := Try.underlying2
  have a2 := Try.isAgg2
  have z2 := Try.sizeOf2
  have hS : Try.prog.underlying 37 = some (.struct (Try.prog.fieldsOf 37)) := by kernel_rfl
  have hp : Try.prog.stoodInHeld 37 = false := by kernel_rfl
  rw [run_neq_struct, show (10000 : Nat) = 9998 + 1 + 1 from rfl, run_equalIn_agg w (9998 + 1) 37 _ _ hS hp]
  simp only [Program.fieldsOf, Try.underlying37]
  unfold eqB
  go_simp
  by_cases h1 : a.x = b.x <;> by_cases h2 : a.y = b.y <;> simp [h1, h2]

theorem run_app {W : World} {base : Nat} {ty : TypeId} {g0 cap0 : Nat} {M B : List T2} (hown : Ow W base (.slice (some ⟨g0, 0, none⟩) M.length cap0) M) (ad : Addr) (c : Nat) (hnews : ∀ j u, (flat B)[j]? = some u → W.cell? (ad.add j) = some u) (hl : M.length + B.length ≤ 1000000) (hbase : base ≤ W.heap.size) :
    ∃ g cap w', (Builtin.append_ #[24, 24] ty #[.slice (some ⟨g0, 0, none⟩) M.length cap0, .slice (some ad) B.length c]).run Try.prog W = .ok (.slice (some ⟨g, 0, none⟩) (M ++ B).length cap) w' ∧ Ow w' base (.slice (some ⟨g, 0, none⟩) (M ++ B).length cap) (M ++ B) ∧ W.grownBy w' (some g0) ∧ (g = g0 ∨ g = W.heap.size) := by
  obtain ⟨i0, hi, hz0, hz1, hz2⟩ := info_parts info37
  obtain ⟨v', w', h1, h2, h3, h4, h5⟩ := run_append_own_at (P := Try.prog) W base 24 ty 37 i0 (.agg #[.int .i64 0, .int .i64 0]) 2 16 Try.underlying24 hi hz0 hz1 hz2 rfl (by decide) _ _ _ hown ad B.length c (flat B) (flat_len B) hnews (flat_one B) (by unfold maxLen; omega) (by omega) hbase
  have hne : ¬ v' = .slice none 0 0 := fun e => by have := (h4.mp e).1; cases this
  rcases h2.2 with ⟨e, _⟩ | ⟨g, cap, cur, e, _⟩
  · exact absurd e hne
  · subst e
    rw [← List.length_append] at h1 h2
    rw [← flat_append] at h2
    refine ⟨g, cap, w', h1, h2, h3, ?_⟩
    rcases h5 with h5 | h5
    · left; injection h5
    · right; injection h5
theorem wp_app {W : World} {o : Oper} {a : Act} {K : Act → World → Prop} {Q : Exit → Act → World → Prop} (s x : Operand) (ho : o.op = .call { callee := .builtin .append, args := #[s, x], argTypes := #[24, 24] }) {base g0 cap0 : Nat} {M B : List T2} (hs : a.eval s = .slice (some ⟨g0, 0, none⟩) M.length cap0) (hown : Ow W base (.slice (some ⟨g0, 0, none⟩) M.length cap0) M) (ad : Addr) (c : Nat) (hx : a.eval x = .slice (some ad) B.length c) (hnews : ∀ j u, (flat B)[j]? = some u → W.cell? (ad.add j) = some u) (hl : M.length + B.length ≤ 1000000) (hbase : base ≤ W.heap.size)
    (h : ∀ g cap w', Ow w' base (.slice (some ⟨g, 0, none⟩) (M ++ B).length cap) (M ++ B) → W.grownBy w' (some g0) → (g = g0 ∨ g = W.heap.size) → K (a.put o.dst (.slice (some ⟨g, 0, none⟩) (M ++ B).length cap)) w') : o.wp Try.prog a W K Q := by
  obtain ⟨g, cap, w', hr, h2, h3, h4⟩ := run_app (ty := o.type) hown ad c hnews hl hbase
  unfold Oper.wp execOp
  simp only [ho, resolve, invoke, builtin, Sem.run_bind, Sem.run_pure, Result.andThen_ok, List.map_toArray, List.map_cons, List.map_nil, hs, hx, hr]
  exact h g cap w' h2 h3 h4
theorem wpList_app {W : World} {ops : Array Oper} {rest : List Oper} {o : Oper} {a : Act} {Q : Exit → Act → World → Prop} (hgd : o.guard = none) (s x : Operand) (ho : o.op = .call { callee := .builtin .append, args := #[s, x], argTypes := #[24, 24] }) {base g0 cap0 : Nat} {M B : List T2} (hs : a.eval s = .slice (some ⟨g0, 0, none⟩) M.length cap0) (hown : Ow W base (.slice (some ⟨g0, 0, none⟩) M.length cap0) M) (ad : Addr) (c : Nat) (hx : a.eval x = .slice (some ad) B.length c) (hnews : ∀ j u, (flat B)[j]? = some u → W.cell? (ad.add j) = some u) (hl : M.length + B.length ≤ 1000000) (hbase : base ≤ W.heap.size)
    (h : ∀ g cap w', Ow w' base (.slice (some ⟨g, 0, none⟩) (M ++ B).length cap) (M ++ B) → W.grownBy w' (some g0) → (g = g0 ∨ g = W.heap.size) → wpList Try.prog ops Q rest (a.put o.dst (.slice (some ⟨g, 0, none⟩) (M ++ B).length cap)) w') : wpList Try.prog ops Q (o :: rest) a W :=
  wpList_plain hgd fun _ hK => wp_app s x ho hs hown ad c hx hnews hl hbase fun g cap w' h2 h3 h4 => hK _ _ (h g cap w' h2 h3 h4)
theorem step_app {W : World} {ops : Array Oper} {o : Oper} {a : Act} {K : Act → World → Prop} {Q : Exit → Act → World → Prop} {E : Prop} (hgd : o.guard = none) (s x : Operand) (ho : o.op = .call { callee := .builtin .append, args := #[s, x], argTypes := #[24, 24] }) {base g0 cap0 : Nat} {M B : List T2} (hs : a.eval s = .slice (some ⟨g0, 0, none⟩) M.length cap0) (hown : Ow W base (.slice (some ⟨g0, 0, none⟩) M.length cap0) M) (ad : Addr) (c : Nat) (hx : a.eval x = .slice (some ad) B.length c) (hnews : ∀ j u, (flat B)[j]? = some u → W.cell? (ad.add j) = some u) (hl : M.length + B.length ≤ 1000000) (hbase : base ≤ W.heap.size)
    (h : ∀ g cap w', Ow w' base (.slice (some ⟨g, 0, none⟩) (M ++ B).length cap) (M ++ B) → W.grownBy w' (some g0) → (g = g0 ∨ g = W.heap.size) → K (a.put o.dst (.slice (some ⟨g, 0, none⟩) (M ++ B).length cap)) w') :
    if Region.wanted o (yielded ops a.tmps) = true then Oper.wp Try.prog o a W K Q else E := by
  have hw : Region.wanted o (yielded ops a.tmps) = true := by simp [Region.wanted, hgd]
  rw [if_pos hw]
  exact wp_app s x ho hs hown ad c hx hnews hl hbase h
/-- One of the lists has grown, at its place or elsewhere. -/
theorem Sx.app {w W W' : World} {A B : List (Value × List T2)} {g0 n0 cap0 g n cap : Nat} {L M : List T2} (h : Sx w W (A ++ (.slice (some ⟨g0, 0, none⟩) n0 cap0, L) :: B)) (hr : Ow W' w.heap.size (.slice (some ⟨g, 0, none⟩) n cap) M) (hg : W.grownBy W' (some g0)) (hat : g = g0 ∨ g = W.heap.size) : Sx w W' (A ++ (.slice (some ⟨g, 0, none⟩) n cap, M) :: B) := by
  have hd := h.dis
  rw [List.pairwise_append, List.pairwise_cons] at hd
  obtain ⟨dA, ⟨dv, dB⟩, dAB⟩ := hd
  have hv := h.own (.slice (some ⟨g0, 0, none⟩) n0 cap0, L) (by simp)
  have far : ∀ p ∈ A ++ B, p.1.ownBlock = none ∨ p.1.ownBlock ≠ some g0 := by
    intro p hp
    rcases List.mem_append.mp hp with hp | hp
    · exact dAB p hp (.slice (some ⟨g0, 0, none⟩) n0 cap0, L) (by simp)
    · rcases dv p hp with e | e
      · cases e
      · exact .inr fun e' => e e'.symm
  have far' : ∀ p ∈ A ++ B, p.1.ownBlock = none ∨ p.1.ownBlock ≠ some g := by
    intro p hp
    rcases far p hp with e | e
    · exact .inl e
    · rcases hat with rfl | rfl
      · exact .inr e
      · refine .inr fun e' => ?_
        have hp2 : p ∈ A ++ (Value.slice (some ⟨g0, 0, none⟩) n0 cap0, L) :: B := by
          rcases List.mem_append.mp hp with hp | hp
          · exact List.mem_append_left _ hp
          · exact List.mem_append_right _ (List.mem_cons_of_mem _ hp)
        have := (h.own p hp2).lt _ e'
        omega
  refine ⟨⟨hg.os.trans h.bel.os, hg.tape.trans h.bel.tape, hg.output.trans h.bel.output, Nat.le_trans h.bel.size hg.size, fun k hk => ?_⟩, fun p hp => ?_, ?_⟩
  · refine (hg.block k (Nat.lt_of_lt_of_le hk h.bel.size) (fun e => ?_)).trans (h.bel.block k hk)
    have := hv.lt k e.symm
    omega
  · simp only [List.mem_append, List.mem_cons] at hp
    rcases hp with hp | rfl | hp
    · exact (h.own p (by simp [hp])).kept hg (far p (by simp [hp]))
    · exact hr
    · exact (h.own p (by simp [hp])).kept hg (far p (by simp [hp]))
  · rw [List.pairwise_append, List.pairwise_cons]
    refine ⟨dA, ⟨fun p hp => ?_, dB⟩, fun a ha b hb => ?_⟩
    · rcases far' p (by simp [hp]) with e | e
      · exact .inr (by rw [e]; simp [Value.ownBlock])
      · exact .inr fun e' => e e'.symm
    · rcases List.mem_cons.mp hb with rfl | hb
      · exact far' a (by simp [ha])
      · exact dAB a ha b (by simp [hb])
theorem Sx.o0 {w W : World} {a : Value × List T2} {l : List (Value × List T2)} (h : Sx w W (a :: l)) : Ow W w.heap.size a.1 a.2 := h.own _ (by simp)
theorem Sx.o1 {w W : World} {a b : Value × List T2} {l : List (Value × List T2)} (h : Sx w W (a :: b :: l)) : Ow W w.heap.size b.1 b.2 := h.own _ (by simp)
theorem Sx.o2 {w W : World} {a b c : Value × List T2} {l : List (Value × List T2)} (h : Sx w W (a :: b :: c :: l)) : Ow W w.heap.size c.1 c.2 := h.own _ (by simp)
theorem Sx.o3 {w W : World} {a b c d : Value × List T2} {l : List (Value × List T2)} (h : Sx w W (a :: b :: c :: d :: l)) : Ow W w.heap.size d.1 d.2 := h.own _ (by simp)
theorem Sx.d0 {w W : World} {a : Value × List T2} {l : List (Value × List T2)} (h : Sx w W (a :: l)) : Sx w W l := h.sub (List.sublist_cons_self ..)
theorem Sx.d1 {w W : World} {a b : Value × List T2} {l : List (Value × List T2)} (h : Sx w W (a :: b :: l)) : Sx w W (a :: l) := h.sub ((List.sublist_cons_self ..).cons_cons _)
/-- A new, empty list. -/
theorem Sx.new {w W : World} {ls : List (Value × List T2)} (h : Sx w W ls) : Sx w (W.alloc (.cells #[] 37)) ((.slice (some ⟨W.heap.size, 0, none⟩) 0 0, []) :: ls) :=
  h.add (World.ownsRow_made (base := W.heap.size) (e := 37) (size := 2) W #[] 0 (Nat.le_refl _) (by unfold maxLen; omega) rfl) (below_alloc1 _ _)
theorem cs_take {W : World} {g off : Nat} {N : List T2} (h : Cs W g off N) (k : Nat) : Cs W g off (N.take k) := ⟨h.1, fun j c hj => h.2 j c (by rw [List.getElem?_take] at hj; split at hj; exact hj; cases hj)⟩
theorem cs_drop {W : World} {g off : Nat} {N : List T2} (h : Cs W g off N) (k : Nat) : Cs W g (off + k * 2) (N.drop k) := ⟨h.1, fun j c hj => by
  rw [List.getElem?_drop] at hj
  have := h.2 (k + j) c hj
  rw [show off + (k + j) * 2 = off + k * 2 + j * 2 by omega] at this
  exact this⟩
theorem Has.grown {X Y : World} {g0 : Nat} (hg : X.grownBy Y (some g0)) : ∀ {l : List (Nat × List Value)}, (∀ p ∈ l, p.1 ≠ g0) → Has X l → Has Y l
  | [], _, _ => trivial
  | p :: l, hl, ⟨⟨h1, h2, h3⟩, t⟩ => by
    have hb := hg.block p.1 h1 (fun e => hl p (by simp) (by injection e))
    refine ⟨⟨Nat.lt_of_lt_of_le h1 hg.size, fun o => ?_, hasAt_of _ _ (fun j v hj => ?_)⟩, Has.grown hg (fun q hq => hl q (List.mem_cons_of_mem _ hq)) t⟩
    · have := h2 o
      unfold World.frozen? at this ⊢
      rw [hb]; exact this
    · have := HasAt.get h3 j v hj
      exact (World.cell?_of_block (w := X) hb).trans this
end Go.Proofs.Ytocfdmlkicndoaa
