/-
  Papers: Minted, the program's and the spec's.
-/
import Derived.Test.YtbkiogedipmioaaGreatVPA
import Derived.Laws.OwnMore
import Derived.Test.YtbkiogedipmioaaGreatVZ3
namespace Go.Proofs.YtbkiogedipmioaaGreat.V
open Go.RowKit Go.Joins M
attribute [local go_sem] Oper.semAt_some

/-- A slice that lies somewhere, or nil. -/
def okv (s : Sv) : Prop := (∃ a, s.p = some a) ∨ s = ⟨none, 0, 0⟩
theorem own_okv {W : World} {base n c size : Nat} {e : TypeId} {p : Option Addr} {xs : List Value} {m : Nat} (h : W.ownsRow base e size (.slice p n c) m xs) : okv ⟨p, n, c⟩ := by
  rcases h.2 with ⟨h1, _⟩ | ⟨g, cap, cur, h1, _⟩
  · injection h1 with a b d; subst a b d; exact .inr rfl
  · injection h1 with a b d; subst a; exact .inl ⟨_, rfl⟩
theorem appC : Ap kC 41 (.agg #[.int .i64 0, .int .i64 0, .int .i64 0]) 24 := ⟨Tryz.underlying41, info89, rfl, by decide, by decide⟩
theorem oneCs (L : List T3) : ∀ u ∈ kC.flat L, u.oneCell' = true := fun u hu => by
  unfold Kd.flat at hu
  obtain ⟨s, _, hs⟩ := List.mem_flatMap.mp hu
  simp [kC] at hs
  rcases hs with rfl | rfl | rfl <;> rfl
theorem oneQs (L : List CQ) : ∀ u ∈ kQ.flat L, u.oneCell' = true := fun u hu => by
  unfold Kd.flat at hu
  obtain ⟨s, _, hs⟩ := List.mem_flatMap.mp hu
  simp [kQ] at hs
  rcases hs with rfl | rfl | rfl <;> rfl
section
variable {α : Type} {K : Kd α} {ts : TypeId} {z : Value} {bytes : Nat}
/-- A list appended to an empty one. -/
theorem cp_run (hA : Ap K ts z bytes) (hone : ∀ L : List α, ∀ u ∈ K.flat L, u.oneCell' = true) {w W0 W : World} {A Bs : List Rw} {v : Value} {L : List α} {s : Sv} (hS : Sg w W0 (A ++ rG K v [] :: Bs)) (hb : Below W0.heap.size W0 W) (hL : SlG K W s.p L) (hn : L.length = s.n) (hb0 : s.n ≤ 1100000) (ho : okv s) (ty : TypeId) :
    ∃ q cap w', (Builtin.append_ #[ts, ts] ty #[v, .slice s.p s.n s.c]).run Tryz.prog W = .ok (.slice q s.n cap) w' ∧ Sg w w' (A ++ rG K (.slice q s.n cap) L :: Bs) ∧ okv ⟨q, s.n, cap⟩ := by
  obtain ⟨i0, hi, hz0, hz1, hz2⟩ := info_parts hA.inf
  have hS1 := hS.step hb
  have hown : OwG K W w.heap.size v [] := hS1.own (rG K v []) (by simp)
  rcases ho with ⟨a, ha⟩ | rfl
  · have hsm := hA.small
    rw [ha] at hL ⊢
    have hsrc : ∀ j u, (K.flat L)[j]? = some u → W.cell? (a.add j) = some u := by
      rcases hL with rfl | ⟨g, off, hp, hC⟩
      · intro j u hj; simp [Kd.flat] at hj
      · cases hp; exact cs_src hC
    obtain ⟨v', w', r1, r2, r3, r4, r5⟩ := run_append_own_at (P := Tryz.prog) W w.heap.size ts ty K.t i0 z K.n bytes hA.und hi hz0 hz1 hz2 hA.zs hA.pos v 0 (K.flat []) hown a s.n s.c (K.flat L) (by rw [Kd.flat_len, hn]) hsrc (hone L) (by unfold maxLen; omega) (by
      have : (0 + s.n) * bytes ≤ 1100000 * 64 := Nat.mul_le_mul (by omega) hsm
      omega) hS1.bel.size
    rw [Nat.zero_add, Kd.flat_nil, List.nil_append] at r2
    have hr2 : OwG K w' w.heap.size v' L := by unfold OwG; rw [hn]; exact r2
    obtain ⟨q, cap, rfl, _⟩ := hr2.form
    rw [hn] at r1 r5
    have hr3 : OwG K w' w.heap.size (.slice q s.n cap) L := by rw [← hn]; exact hr2
    refine ⟨q, cap, w', r1, hS1.app (r' := rG K (.slice q s.n cap) L) hr3 r3 (fun gg e => ?_), own_okv hr3⟩
    have e' : (Value.slice q s.n cap).ownBlock = some gg := e
    rcases r5 with h | h
    · left; exact h.symm.trans e'
    · right
      rw [h] at e'
      exact Nat.le_of_eq (Option.some.inj e')
  · have h0 : L = [] := List.eq_nil_of_length_eq_zero hn
    subst h0
    have r1 := run_append_owned_none (P := Tryz.prog) (w := W) w.heap.size ts ty K.t i0 K.n hA.und hi v 0 (K.flat []) hown
    obtain ⟨q, cap, rfl, _⟩ := hown.form
    exact ⟨q, cap, W, r1, hS1, own_okv hown⟩
theorem wp_cp (hA : Ap K ts z bytes) (hone : ∀ L : List α, ∀ u ∈ K.flat L, u.oneCell' = true) {o : Oper} {a : Act} {KK : Act → World → Prop} {Q : Exit → Act → World → Prop} (x y : Operand) (hop : o.op = .call { callee := .builtin .append, args := #[x, y], argTypes := #[ts, ts] })
    {w W0 W : World} {A Bs : List Rw} {v : Value} {L : List α} {s : Sv} (hS : Sg w W0 (A ++ rG K v [] :: Bs)) (hb : Below W0.heap.size W0 W) (hL : SlG K W s.p L) (hn : L.length = s.n) (hb0 : s.n ≤ 1100000) (ho : okv s) (hx : a.eval x = v) (hy : a.eval y = .slice s.p s.n s.c)
    (h : ∀ q cap w', Sg w w' (A ++ rG K (.slice q s.n cap) L :: Bs) → okv ⟨q, s.n, cap⟩ → KK (a.put o.dst (.slice q s.n cap)) w') : o.wp Tryz.prog a W KK Q := by
  obtain ⟨q, cap, w', hr, h2, h3⟩ := cp_run hA hone hS hb hL hn hb0 ho o.type
  unfold Oper.wp execOp
  simp only [hop, resolve, invoke, builtin, Sem.run_bind, Sem.run_pure, Result.andThen_ok, List.map_toArray, List.map_cons, List.map_nil, hx, hy, hr]
  exact h q cap w' h2 h3
theorem step_cp (hA : Ap K ts z bytes) (hone : ∀ L : List α, ∀ u ∈ K.flat L, u.oneCell' = true) {ops : Array Oper} {o : Oper} {a : Act} {KK : Act → World → Prop} {Q : Exit → Act → World → Prop} {E : Prop} (hgd : o.guard = none) (x y : Operand) (hop : o.op = .call { callee := .builtin .append, args := #[x, y], argTypes := #[ts, ts] })
    {w W0 W : World} {A Bs : List Rw} {v : Value} {L : List α} {s : Sv} (hS : Sg w W0 (A ++ rG K v [] :: Bs)) (hb : Below W0.heap.size W0 W) (hL : SlG K W s.p L) (hn : L.length = s.n) (hb0 : s.n ≤ 1100000) (ho : okv s) (hx : a.eval x = v) (hy : a.eval y = .slice s.p s.n s.c)
    (h : ∀ q cap w', Sg w w' (A ++ rG K (.slice q s.n cap) L :: Bs) → okv ⟨q, s.n, cap⟩ → KK (a.put o.dst (.slice q s.n cap)) w') :
    if Region.wanted o (yielded ops a.tmps) = true then Oper.wp Tryz.prog o a W KK Q else E := by
  have hw : Region.wanted o (yielded ops a.tmps) = true := by simp [Region.wanted, hgd]
  rw [if_pos hw]
  exact wp_cp hA hone x y hop hS hb hL hn hb0 ho hx hy h
end
end Go.Proofs.YtbkiogedipmioaaGreat.V
namespace Go.Proofs.YtbkiogedipmioaaGreat.V
open Go.RowKit Go.Joins M
attribute [local go_sem] Oper.semAt_some

set_option maxRecDepth 100000 in
set_option maxHeartbeats 4000000 in
theorem copyClause_any {c : Cl} {s t : Sv} (w : World) (hR : RdQ w c s t) (h1 : s.n ≤ 1100000) (h2 : t.n ≤ 1100000) (o1 : okv s) (o2 : okv t) :
    Calls Tryz.prog 96 #[.agg #[.slice s.p s.n s.c, .slice t.p t.n t.c, .int .i64 c.un]] w fun e w' => ∃ s' t' : Sv, e = .returned (.agg #[.slice s'.p s'.n s'.c, .slice t'.p t'.n t'.c, .int .i64 c.un]) ∧ s'.n = s.n ∧ t'.n = t.n ∧ okv s' ∧ okv t' ∧ Sg w w' [rG kC s'.v c.rd, rG kC t'.v c.wr] := by
  have hrow := ((Sg.nil w).lit kQ [(c, s, t)] 1 rfl (by decide) #[.slice s.p s.n s.c, .slice t.p t.n t.c, .int .i64 c.un] rfl).lit kQ [zq] 1 rfl (by decide) #[.slice none 0 0, .slice none 0 0, .int .i64 0] rfl
  simp only [World.size_alloc] at hrow
  change Sg w ((w.alloc (.cells #[.slice s.p s.n s.c, .slice t.p t.n t.c, .int .i64 c.un] 110)).alloc (.cells #[.slice none 0 0, .slice none 0 0, .int .i64 0] 110)) _ at hrow
  have HR : Hid (∀ W, Below w.heap.size w W → RdQ W c s t) := fun W h => hR.step h
  have HK : Hid (∀ w', Sg w w' [rG kQ (.slice (some ⟨w.heap.size, 0, none⟩) 1 1) [(c, s, t)]] → (w'.cell? ⟨w.heap.size, 0, none⟩ = some (.slice s.p s.n s.c) ∧ w'.cell? ⟨w.heap.size, 1, none⟩ = some (.slice t.p t.n t.c) ∧ w'.cell? ⟨w.heap.size, 2, none⟩ = some (.int .i64 c.un))) := fun w' h => by
    obtain ⟨y0, y1, y2, _, _⟩ := h.three (K := kQ) (g := w.heap.size) (n := 1) (p := (c, s, t)) (by simp) rfl
    exact ⟨y0, y1, y2⟩
  have HN : Hid (c.rd.length = s.n ∧ c.wr.length = t.n) := ⟨hR.n1, hR.n2⟩
  clear hR
  have f1 : True := trivial
  have f2 : True := trivial
  have hne : ¬ w.heap.size = w.heap.size + 1 := by omega
  go_enter Tryz.func96, Tryz.ntmps96
  go_wp2
  go_region_held3 (fun w' => w'.cell? ⟨w.heap.size, 0, none⟩ = some (.slice s.p s.n s.c) ∧ w'.cell? ⟨w.heap.size, 1, none⟩ = some (.slice t.p t.n t.c) ∧ w'.cell? ⟨w.heap.size, 2, none⟩ = some (.int .i64 c.un))
    (first | assumption | exact HK.out _ (hrow.sub (by simp)) | exact HK.out _ ((hrow.sub (by simp)).step (below_alloc1 _ _)) | exact HK.out _ ((hrow.sub (by simp)).step ((below_alloc1 _ _).drew)) | exact HK.out _ ((hrow.sub (by simp)).step ((below_alloc2 _ _ _).drew)) | exact HK.out _ ((hrow.sub (by simp)).step (below_alloc2 _ _ _)) | exact HK.out _ ((hrow.sub (by simp)).step ((Below.refl _ _).drew)) | go_keep | fail)
    (first
      | (clear f1; have hl := hrow.lit kC [] 0 rfl (by decide) #[] rfl; (try simp only [World.size_alloc] at hl); refine step_cp appC oneCs (by rfl) _ _ (by rfl) (A := []) (L := c.rd) (s := s) hl (by first | exact Below.refl _ _ | exact (Below.refl _ _).drew) (HR.out _ (by first | exact hl.bel | exact hl.bel.drew)).r1 HN.out.1 h1 o1 (by rfl) (by rfl) ?_; intro q1 cap1 w1 hS1 ok1; replace hrow := hS1; (try clear v0 v1 v2 vf vg); obtain ⟨v0, v1, v2, vf, vg⟩ := hrow.three (K := kQ) (g := w.heap.size + 1) (n := 1) (p := zq) (by simp) rfl)
      | (clear f1; have hl := hrow.lit kC [] 0 rfl (by decide) #[] rfl; (try simp only [World.size_alloc] at hl); refine step_cp appC oneCs (by rfl) _ _ (by rfl) (A := [_]) (L := c.rd) (s := s) hl (by first | exact Below.refl _ _ | exact (Below.refl _ _).drew) (HR.out _ (by first | exact hl.bel | exact hl.bel.drew)).r1 HN.out.1 h1 o1 (by rfl) (by rfl) ?_; intro q1 cap1 w1 hS1 ok1; replace hrow := hS1; (try clear v0 v1 v2 vf vg); obtain ⟨v0, v1, v2, vf, vg⟩ := hrow.three (K := kQ) (g := w.heap.size + 1) (n := 1) (p := zq) (by simp) rfl)
      | (clear f1; have hl := hrow.lit kC [] 0 rfl (by decide) #[] rfl; (try simp only [World.size_alloc] at hl); refine step_cp appC oneCs (by rfl) _ _ (by rfl) (A := [_, _]) (L := c.rd) (s := s) hl (by first | exact Below.refl _ _ | exact (Below.refl _ _).drew) (HR.out _ (by first | exact hl.bel | exact hl.bel.drew)).r1 HN.out.1 h1 o1 (by rfl) (by rfl) ?_; intro q1 cap1 w1 hS1 ok1; replace hrow := hS1; (try clear v0 v1 v2 vf vg); obtain ⟨v0, v1, v2, vf, vg⟩ := hrow.three (K := kQ) (g := w.heap.size + 1) (n := 1) (p := zq) (by simp) rfl)
      | (clear f1; have hl := (hrow.lit kC [] 0 rfl (by decide) #[] rfl).lit kC [] 0 rfl (by decide) #[] rfl; (try simp only [World.size_alloc] at hl); refine step_cp appC oneCs (by rfl) _ _ (by rfl) (A := []) (L := c.rd) (s := s) hl (by first | exact Below.refl _ _ | exact (Below.refl _ _).drew) (HR.out _ (by first | exact hl.bel | exact hl.bel.drew)).r1 HN.out.1 h1 o1 (by rfl) (by rfl) ?_; intro q1 cap1 w1 hS1 ok1; replace hrow := hS1; (try clear v0 v1 v2 vf vg); obtain ⟨v0, v1, v2, vf, vg⟩ := hrow.three (K := kQ) (g := w.heap.size + 1) (n := 1) (p := zq) (by simp) rfl)
      | (clear f1; have hl := (hrow.lit kC [] 0 rfl (by decide) #[] rfl).lit kC [] 0 rfl (by decide) #[] rfl; (try simp only [World.size_alloc] at hl); refine step_cp appC oneCs (by rfl) _ _ (by rfl) (A := [_]) (L := c.rd) (s := s) hl (by first | exact Below.refl _ _ | exact (Below.refl _ _).drew) (HR.out _ (by first | exact hl.bel | exact hl.bel.drew)).r1 HN.out.1 h1 o1 (by rfl) (by rfl) ?_; intro q1 cap1 w1 hS1 ok1; replace hrow := hS1; (try clear v0 v1 v2 vf vg); obtain ⟨v0, v1, v2, vf, vg⟩ := hrow.three (K := kQ) (g := w.heap.size + 1) (n := 1) (p := zq) (by simp) rfl)
      | (clear f1; have hl := (hrow.lit kC [] 0 rfl (by decide) #[] rfl).lit kC [] 0 rfl (by decide) #[] rfl; (try simp only [World.size_alloc] at hl); refine step_cp appC oneCs (by rfl) _ _ (by rfl) (A := [_, _]) (L := c.rd) (s := s) hl (by first | exact Below.refl _ _ | exact (Below.refl _ _).drew) (HR.out _ (by first | exact hl.bel | exact hl.bel.drew)).r1 HN.out.1 h1 o1 (by rfl) (by rfl) ?_; intro q1 cap1 w1 hS1 ok1; replace hrow := hS1; (try clear v0 v1 v2 vf vg); obtain ⟨v0, v1, v2, vf, vg⟩ := hrow.three (K := kQ) (g := w.heap.size + 1) (n := 1) (p := zq) (by simp) rfl)
      | (clear f1; have hl := hrow; refine step_cp appC oneCs (by rfl) _ _ (by rfl) (A := []) (L := c.rd) (s := s) hl (by first | exact Below.refl _ _ | exact (Below.refl _ _).drew) (HR.out _ (by first | exact hl.bel | exact hl.bel.drew)).r1 HN.out.1 h1 o1 (by rfl) (by rfl) ?_; intro q1 cap1 w1 hS1 ok1; replace hrow := hS1; (try clear v0 v1 v2 vf vg); obtain ⟨v0, v1, v2, vf, vg⟩ := hrow.three (K := kQ) (g := w.heap.size + 1) (n := 1) (p := zq) (by simp) rfl)
      | (clear f1; have hl := hrow; refine step_cp appC oneCs (by rfl) _ _ (by rfl) (A := [_]) (L := c.rd) (s := s) hl (by first | exact Below.refl _ _ | exact (Below.refl _ _).drew) (HR.out _ (by first | exact hl.bel | exact hl.bel.drew)).r1 HN.out.1 h1 o1 (by rfl) (by rfl) ?_; intro q1 cap1 w1 hS1 ok1; replace hrow := hS1; (try clear v0 v1 v2 vf vg); obtain ⟨v0, v1, v2, vf, vg⟩ := hrow.three (K := kQ) (g := w.heap.size + 1) (n := 1) (p := zq) (by simp) rfl)
      | (clear f1; have hl := hrow; refine step_cp appC oneCs (by rfl) _ _ (by rfl) (A := [_, _]) (L := c.rd) (s := s) hl (by first | exact Below.refl _ _ | exact (Below.refl _ _).drew) (HR.out _ (by first | exact hl.bel | exact hl.bel.drew)).r1 HN.out.1 h1 o1 (by rfl) (by rfl) ?_; intro q1 cap1 w1 hS1 ok1; replace hrow := hS1; (try clear v0 v1 v2 vf vg); obtain ⟨v0, v1, v2, vf, vg⟩ := hrow.three (K := kQ) (g := w.heap.size + 1) (n := 1) (p := zq) (by simp) rfl)
      | (clear f2; have hl := hrow.lit kC [] 0 rfl (by decide) #[] rfl; (try simp only [World.size_alloc] at hl); refine step_cp appC oneCs (by rfl) _ _ (by rfl) (A := []) (L := c.wr) (s := t) hl (by first | exact Below.refl _ _ | exact (Below.refl _ _).drew) (HR.out _ (by first | exact hl.bel | exact hl.bel.drew)).r2 HN.out.2 h2 o2 (by rfl) (by rfl) ?_; intro q2 cap2 w2 hS2 ok2; replace hrow := hS2; (try clear v0 v1 v2 vf vg); obtain ⟨v0, v1, v2, vf, vg⟩ := hrow.three (K := kQ) (g := w.heap.size + 1) (n := 1) (p := zq) (by simp) rfl)
      | (clear f2; have hl := hrow.lit kC [] 0 rfl (by decide) #[] rfl; (try simp only [World.size_alloc] at hl); refine step_cp appC oneCs (by rfl) _ _ (by rfl) (A := [_]) (L := c.wr) (s := t) hl (by first | exact Below.refl _ _ | exact (Below.refl _ _).drew) (HR.out _ (by first | exact hl.bel | exact hl.bel.drew)).r2 HN.out.2 h2 o2 (by rfl) (by rfl) ?_; intro q2 cap2 w2 hS2 ok2; replace hrow := hS2; (try clear v0 v1 v2 vf vg); obtain ⟨v0, v1, v2, vf, vg⟩ := hrow.three (K := kQ) (g := w.heap.size + 1) (n := 1) (p := zq) (by simp) rfl)
      | (clear f2; have hl := hrow.lit kC [] 0 rfl (by decide) #[] rfl; (try simp only [World.size_alloc] at hl); refine step_cp appC oneCs (by rfl) _ _ (by rfl) (A := [_, _]) (L := c.wr) (s := t) hl (by first | exact Below.refl _ _ | exact (Below.refl _ _).drew) (HR.out _ (by first | exact hl.bel | exact hl.bel.drew)).r2 HN.out.2 h2 o2 (by rfl) (by rfl) ?_; intro q2 cap2 w2 hS2 ok2; replace hrow := hS2; (try clear v0 v1 v2 vf vg); obtain ⟨v0, v1, v2, vf, vg⟩ := hrow.three (K := kQ) (g := w.heap.size + 1) (n := 1) (p := zq) (by simp) rfl)
      | (clear f2; have hl := (hrow.lit kC [] 0 rfl (by decide) #[] rfl).lit kC [] 0 rfl (by decide) #[] rfl; (try simp only [World.size_alloc] at hl); refine step_cp appC oneCs (by rfl) _ _ (by rfl) (A := []) (L := c.wr) (s := t) hl (by first | exact Below.refl _ _ | exact (Below.refl _ _).drew) (HR.out _ (by first | exact hl.bel | exact hl.bel.drew)).r2 HN.out.2 h2 o2 (by rfl) (by rfl) ?_; intro q2 cap2 w2 hS2 ok2; replace hrow := hS2; (try clear v0 v1 v2 vf vg); obtain ⟨v0, v1, v2, vf, vg⟩ := hrow.three (K := kQ) (g := w.heap.size + 1) (n := 1) (p := zq) (by simp) rfl)
      | (clear f2; have hl := (hrow.lit kC [] 0 rfl (by decide) #[] rfl).lit kC [] 0 rfl (by decide) #[] rfl; (try simp only [World.size_alloc] at hl); refine step_cp appC oneCs (by rfl) _ _ (by rfl) (A := [_]) (L := c.wr) (s := t) hl (by first | exact Below.refl _ _ | exact (Below.refl _ _).drew) (HR.out _ (by first | exact hl.bel | exact hl.bel.drew)).r2 HN.out.2 h2 o2 (by rfl) (by rfl) ?_; intro q2 cap2 w2 hS2 ok2; replace hrow := hS2; (try clear v0 v1 v2 vf vg); obtain ⟨v0, v1, v2, vf, vg⟩ := hrow.three (K := kQ) (g := w.heap.size + 1) (n := 1) (p := zq) (by simp) rfl)
      | (clear f2; have hl := (hrow.lit kC [] 0 rfl (by decide) #[] rfl).lit kC [] 0 rfl (by decide) #[] rfl; (try simp only [World.size_alloc] at hl); refine step_cp appC oneCs (by rfl) _ _ (by rfl) (A := [_, _]) (L := c.wr) (s := t) hl (by first | exact Below.refl _ _ | exact (Below.refl _ _).drew) (HR.out _ (by first | exact hl.bel | exact hl.bel.drew)).r2 HN.out.2 h2 o2 (by rfl) (by rfl) ?_; intro q2 cap2 w2 hS2 ok2; replace hrow := hS2; (try clear v0 v1 v2 vf vg); obtain ⟨v0, v1, v2, vf, vg⟩ := hrow.three (K := kQ) (g := w.heap.size + 1) (n := 1) (p := zq) (by simp) rfl)
      | (clear f2; have hl := hrow; refine step_cp appC oneCs (by rfl) _ _ (by rfl) (A := []) (L := c.wr) (s := t) hl (by first | exact Below.refl _ _ | exact (Below.refl _ _).drew) (HR.out _ (by first | exact hl.bel | exact hl.bel.drew)).r2 HN.out.2 h2 o2 (by rfl) (by rfl) ?_; intro q2 cap2 w2 hS2 ok2; replace hrow := hS2; (try clear v0 v1 v2 vf vg); obtain ⟨v0, v1, v2, vf, vg⟩ := hrow.three (K := kQ) (g := w.heap.size + 1) (n := 1) (p := zq) (by simp) rfl)
      | (clear f2; have hl := hrow; refine step_cp appC oneCs (by rfl) _ _ (by rfl) (A := [_]) (L := c.wr) (s := t) hl (by first | exact Below.refl _ _ | exact (Below.refl _ _).drew) (HR.out _ (by first | exact hl.bel | exact hl.bel.drew)).r2 HN.out.2 h2 o2 (by rfl) (by rfl) ?_; intro q2 cap2 w2 hS2 ok2; replace hrow := hS2; (try clear v0 v1 v2 vf vg); obtain ⟨v0, v1, v2, vf, vg⟩ := hrow.three (K := kQ) (g := w.heap.size + 1) (n := 1) (p := zq) (by simp) rfl)
      | (clear f2; have hl := hrow; refine step_cp appC oneCs (by rfl) _ _ (by rfl) (A := [_, _]) (L := c.wr) (s := t) hl (by first | exact Below.refl _ _ | exact (Below.refl _ _).drew) (HR.out _ (by first | exact hl.bel | exact hl.bel.drew)).r2 HN.out.2 h2 o2 (by rfl) (by rfl) ?_; intro q2 cap2 w2 hS2 ok2; replace hrow := hS2; (try clear v0 v1 v2 vf vg); obtain ⟨v0, v1, v2, vf, vg⟩ := hrow.three (K := kQ) (g := w.heap.size + 1) (n := 1) (p := zq) (by simp) rfl))
  all_goals
    go_wp2
    first
      | (have hS3 := Sg.setQ (A := [rG kC (.slice q1 s.n cap1) c.rd, rG kC (.slice q2 t.n cap2) c.wr]) (g := w.heap.size + 1) (n := 1) (p := zq) hrow (c, ⟨q1, s.n, cap1⟩, ⟨q2, t.n, cap2⟩); refine bodyPost_ret (v := .agg #[.slice q1 s.n cap1, .slice q2 t.n cap2, .int .i64 c.un]) (by simp [results, Tryz.results96, go_sem, v0, v1, v2]) rfl ⟨⟨q1, s.n, cap1⟩, ⟨q2, t.n, cap2⟩, rfl, rfl, rfl, ok1, ok2, ?_⟩; exact hS3.sub (by simp [Sv.v]))
      | (have hS3 := Sg.setQ (A := [rG kC (.slice q2 t.n cap2) c.wr, rG kC (.slice q1 s.n cap1) c.rd]) (g := w.heap.size + 1) (n := 1) (p := zq) hrow (c, ⟨q1, s.n, cap1⟩, ⟨q2, t.n, cap2⟩); refine bodyPost_ret (v := .agg #[.slice q1 s.n cap1, .slice q2 t.n cap2, .int .i64 c.un]) (by simp [results, Tryz.results96, go_sem, v0, v1, v2]) rfl ⟨⟨q1, s.n, cap1⟩, ⟨q2, t.n, cap2⟩, rfl, rfl, rfl, ok1, ok2, ?_⟩; exact (hS3.sub (rs' := [rG kC (.slice q2 t.n cap2) c.wr, rG kC (.slice q1 s.n cap1) c.rd]) (by simp)).perm (List.Perm.swap _ _ _))
end Go.Proofs.YtbkiogedipmioaaGreat.V
namespace Go.Proofs.YtbkiogedipmioaaGreat.V
open Go.Shelf Go.RowKit Go.Joins M
attribute [local go_sem] Oper.semAt_some

theorem appQ : Ap kQ 24 (.agg #[.slice none 0 0, .slice none 0 0, .int .i64 0]) 56 := ⟨Tryz.underlying24, info110, rfl, by decide, by decide⟩
/-- Every list of these Clauses lies somewhere, or is nil. -/
def okQ (QL : List CQ) : Prop := ∀ q ∈ QL, okv q.2.1 ∧ okv q.2.2
def sm6 (QL : List CQ) : Prop := ∀ q ∈ QL, q.2.1.n ≤ 1100000 ∧ q.2.2.n ≤ 1100000
theorem tr_app {w W : World} {v : Value} {X : List CQ} {c : Cl} {s t : Sv} {b : Rw} (h : Sg w W ([rG kC s.v c.rd, rG kC t.v c.wr, b] ++ rG kQ v (X ++ [(c, s, t)]) :: X.flatMap fun q => clR q.1 q.2.1 q.2.2)) : Sg w W (trX v (X ++ [(c, s, t)]) []) := by
  refine tr_more (q := (c, s, t)) (R := []) ?_
  refine h.sub ?_
  exact ((List.sublist_cons_self b _).cons_cons _).cons_cons _
end Go.Proofs.YtbkiogedipmioaaGreat.V
namespace Go.Proofs.YtbkiogedipmioaaGreat.V
open Go.Shelf Go.RowKit Go.Joins M
attribute [local go_sem] Oper.semAt_some

def mintB (key tn : Int) (c : Cl) : Bool := tenB tn && (clB c && inB key)
def mtag (key tn : Int) (c : Cl) : Int := hsF (hsF key (dgS tn)) (tx c)
def zpp : Pp := ⟨0, [], 0⟩
def mintP (key tn : Int) (c : Cl) : Pp := if mintB key tn c = true then ⟨tn, [c], mtag key tn c⟩ else zpp
/-- A Paper and a flag are answered, in memory of their own. -/
def PapO (w : World) (P : Pp) (b : Bool) (e : Ending) (w' : World) : Prop := ∃ q n cp X, e = .returned (.tuple #[.agg #[.int .i64 P.tn, .slice q n cp, .int .i64 P.tag], .bool b]) ∧ P.cs.length = n ∧ cls X = P.cs ∧ sm6 X ∧ okQ X ∧ Sg w w' (trX (.slice q n cp) X [])
theorem papO_zero {w w' : World} {rs : List Rw} (h : Sg w w' rs) : PapO w zpp false (.returned (.tuple #[.agg #[.int .i64 0, .slice none 0 0, .int .i64 0], .bool false])) w' :=
  ⟨none, 0, 0, [], rfl, rfl, rfl, fun q hq => by simp at hq, fun q hq => by simp at hq, (h.sub (List.nil_sublist _)).nilRow kQ⟩
theorem ppB_one (tn tag : Int) (c : Cl) : ppB tn [c] tag = (tenB tn && (clB c && inB tag)) := by
  unfold ppB clsB; simp
theorem mt_chain {key tn : Int} {c : Cl} (ht : tenB tn = true) (hc : clB c = true) (hk : inB key = true) : chI key (dgS tn :: txs [c]) = mtag key tn c := by
  have e : ctx c = tx c := by unfold ctx; rw [if_pos hc]
  rw [chI_hs hk (by simp [txs]) (fun s hs => by
    rcases List.mem_cons.mp hs with rfl | hs
    · exact dg_size ht
    · simp [txs] at hs; subst hs; exact tx_small c)]
  show hsF (hsF key (dgS tn)) (ctx c) = _
  rw [e]; rfl
theorem mt_in {key tn : Int} (hk : inB key = true) (ht : tenB tn = true) : inB (hsF key (dgS tn)) = true := (fold_hs (L := [dgS tn]) hk (fun s hs => by simp at hs; subst hs; exact dg_size ht)).2
end Go.Proofs.YtbkiogedipmioaaGreat.V
