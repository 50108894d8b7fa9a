/-
  Records appended, grown, put together: slices.Grow and slices.Concat.
-/
import Derived.Test.YtjjnmeahcjpinaaB4
import Derived.Shelf.Spec.SlicesGrow
import Derived.Shelf.SlGeneric
import Derived.Laws.OwnMore
namespace Go.Proofs
open Go.Shelf
def Try.growC_ren : Go.Shelf.Ren := ⟨fun | 4 => 96 | n => n, fun | 22 => 74 | 25 => 28 | 0 => 0 | 3 => 3 | 4 => 4 | 9 => 9 | 20 => 20 | n => n, fun | n => n⟩
theorem Try.growC : Go.Proofs.Lays8.n4 Try.prog Try.growC_ren := {
  mixed := by kernel_rfl
  f4 := ⟨Try.f96.name, by decide, Try.func96.trans (congrArg some (by kernel_rfl))⟩
  t0 := Try.underlying0
  a0 := Try.isAgg0
  z0 := Try.sizeOf0
  v0 := Try.zeroValue0
  t3 := Try.underlying3
  a3 := Try.isAgg3
  z3 := Try.sizeOf3
  v3 := Try.zeroValue3
  t4 := Try.underlying4
  a4 := Try.isAgg4
  z4 := Try.sizeOf4
  v4 := Try.zeroValue4
  t9 := Try.underlying9
  a9 := Try.isAgg9
  z9 := Try.sizeOf9
  v9 := Try.zeroValue9
  t20 := Try.underlying20
  a20 := Try.isAgg20
  z20 := Try.sizeOf20
  v20 := Try.zeroValue20
  t22 := Try.underlying74
  a22 := Try.isAgg74
  z22 := Try.sizeOf74
  v22 := Try.zeroValue74 }
end Go.Proofs
namespace Go.Proofs.Ytjjnmeahcjpinaa
open Go.Shelf Go.RowKit Go.Joins
attribute [local go_sem] Oper.semAt_some

/-- A slice, as it lies in a cell. -/
structure Sv where
  p : Option Addr
  n : Nat
  c : Nat
/-- A slice that lies somewhere, or nil. -/
def okv (s : Sv) : Prop := (∃ a, s.p = some a) ∨ s = ⟨none, 0, 0⟩
theorem own_okv {W : World} {base n c size : Nat} {e : TypeId} {p : Option Addr} {xs : List Value} {m : Nat} (h : W.ownsRow base e size (.slice p n c) m xs) : okv ⟨p, n, c⟩ := by
  rcases h.2 with ⟨h1, _⟩ | ⟨g, cap, cur, h1, _⟩
  · injection h1 with a b d; subst a b d; exact .inr rfl
  · injection h1 with a b d; subst a; exact .inl ⟨_, rfl⟩
theorem oneRs (L : List Rc) : ∀ u ∈ kR.flat L, u.oneCell' = true := fun u hu => by
  unfold Kd.flat at hu
  obtain ⟨s, _, hs⟩ := List.mem_flatMap.mp hu
  simp [kR] at hs
  rcases hs with rfl | rfl | rfl | rfl | rfl <;> rfl
theorem oneIs (L : List Int) : ∀ u ∈ kI.flat L, u.oneCell' = true := fun u hu => by
  unfold Kd.flat at hu
  obtain ⟨s, _, hs⟩ := List.mem_flatMap.mp hu
  simp [kI] at hs
  subst hs; rfl
abbrev zR : Value := .agg #[.int .i64 0, .int .i64 0, .int .i64 0, .int .i64 0, .string ByteArray.empty]
theorem appR : Ap kR 24 zR 48 := ⟨Try.underlying24, info28, rfl, by decide, by decide⟩
theorem appR2 : Ap kR 74 zR 48 := ⟨Try.underlying74, info28, rfl, by decide, by decide⟩
section
variable {α : Type} {K : Kd α} {ts : TypeId} {z : Value} {bytes : Nat}
/-- A list, maybe empty or nil, appended to a list of one's own. -/
theorem ap_run (hA : Ap K ts z bytes) (hone : ∀ L : List α, ∀ u ∈ K.flat L, u.oneCell' = true) {w W0 W : World} {A Bs : List Rw} {v : Value} {M L : List α} {m : Nat} {s : Sv} (hS : Sg w W0 (A ++ rG K v M :: Bs)) (hb : Below W0.heap.size W0 W) (hL : SlG K W s.p L) (hm : M.length = m) (hn : L.length = s.n) (hb0 : m + s.n ≤ 1100000) (ho : okv s) (ty : TypeId) :
    ∃ q cap w', (Builtin.append_ #[ts, ts] ty #[v, .slice s.p s.n s.c]).run Try.prog W = .ok (.slice q (m + s.n) cap) w' ∧ Sg w w' (A ++ rG K (.slice q (m + s.n) cap) (M ++ L) :: Bs) ∧ W.grownBy w' v.ownBlock ∧ (∀ gg, (Value.slice q (m + s.n) cap).ownBlock = some gg → v.ownBlock = some gg ∨ W.heap.size ≤ gg) ∧ ((Value.slice q (m + s.n) cap) = .slice none 0 0 → v = .slice none 0 0) := by
  obtain ⟨i0, hi, hz0, hz1, hz2⟩ := info_parts hA.inf
  have hS1 := hS.step hb
  have hown : OwG K W w.heap.size v M := hS1.own (rG K v M) (by simp)
  rcases ho with ⟨a, ha⟩ | rfl
  · have hsm := hA.small
    rw [ha] at hL ⊢
    have hsrc : ∀ j u, (K.flat L)[j]? = some u → W.cell? (a.add j) = some u := by
      rcases hL with rfl | ⟨g, off, hp, hC⟩
      · intro j u hj; simp [Kd.flat] at hj
      · cases hp; exact cs_src hC
    obtain ⟨v', w', r1, r2, r3, r4, r5⟩ := run_append_own_at (P := Try.prog) W w.heap.size ts ty K.t i0 z K.n bytes hA.und hi hz0 hz1 hz2 hA.zs hA.pos v M.length (K.flat M) hown a s.n s.c (K.flat L) (by rw [Kd.flat_len, hn]) hsrc (hone L) (by unfold maxLen; omega) (by
      have : (M.length + s.n) * bytes ≤ 1100000 * 64 := Nat.mul_le_mul (by omega) hsm
      omega) hS1.bel.size
    have hr2 : OwG K w' w.heap.size v' (M ++ L) := by unfold OwG; rw [List.length_append, Kd.flat_append, hn]; exact r2
    obtain ⟨q, cap, rfl, _⟩ := hr2.form
    rw [List.length_append, hn, hm] at r1 r4 r5
    have hr3 : OwG K w' w.heap.size (.slice q (m + s.n) cap) (M ++ L) := by
      have e : (M ++ L).length = m + s.n := by rw [List.length_append, hn, hm]
      rw [← e]; exact hr2
    have hat : ∀ gg, (Value.slice q (m + s.n) cap).ownBlock = some gg → v.ownBlock = some gg ∨ W.heap.size ≤ gg := fun gg e' => by
      rcases r5 with h | h
      · left; exact h.symm.trans e'
      · right
        rw [h] at e'
        exact Nat.le_of_eq (Option.some.inj e')
    exact ⟨q, cap, w', r1, hS1.app (r' := rG K (.slice q (m + s.n) cap) (M ++ L)) hr3 r3 (fun gg e => hat gg e), r3, hat, fun e => (r4.mp e).1⟩
  · have h0 : L = [] := List.eq_nil_of_length_eq_zero hn
    subst h0
    have r1 := run_append_owned_none (P := Try.prog) (w := W) w.heap.size ts ty K.t i0 K.n hA.und hi v M.length (K.flat M) hown
    obtain ⟨q, cap, rfl, _⟩ := hown.form
    subst hm
    exact ⟨q, cap, W, r1, by simpa using hS1, ⟨rfl, rfl, rfl, Nat.le_refl _, fun _ _ _ => rfl⟩, fun gg e => .inl e, fun e => e⟩
theorem wp_ap (hA : Ap K ts z bytes) (hone : ∀ L : List α, ∀ u ∈ K.flat L, u.oneCell' = true) {o : Oper} {a : Act} {KK : Act → World → Prop} {Q : Exit → Act → World → Prop} (x y : Operand) (hop : o.op = .call { callee := .builtin .append, args := #[x, y], argTypes := #[ts, ts] })
    {w W0 W : World} {A Bs : List Rw} {v : Value} {M L : List α} {m : Nat} {s : Sv} (hS : Sg w W0 (A ++ rG K v M :: Bs)) (hb : Below W0.heap.size W0 W) (hL : SlG K W s.p L) (hm : M.length = m) (hn : L.length = s.n) (hb0 : m + s.n ≤ 1100000) (ho : okv s) (hx : a.eval x = v) (hy : a.eval y = .slice s.p s.n s.c)
    (h : ∀ q cap w', Sg w w' (A ++ rG K (.slice q (m + s.n) cap) (M ++ L) :: Bs) → W.grownBy w' v.ownBlock → (∀ gg, (Value.slice q (m + s.n) cap).ownBlock = some gg → v.ownBlock = some gg ∨ W.heap.size ≤ gg) → ((Value.slice q (m + s.n) cap) = .slice none 0 0 → v = .slice none 0 0) → KK (a.put o.dst (.slice q (m + s.n) cap)) w') : o.wp Try.prog a W KK Q := by
  obtain ⟨q, cap, w', hr, h2, h3, h4, h5⟩ := ap_run hA hone hS hb hL hm hn hb0 ho o.type
  unfold Oper.wp execOp
  simp only [hop, resolve, invoke, builtin, Sem.run_bind, Sem.run_pure, Result.andThen_ok, List.map_toArray, List.map_cons, List.map_nil, hx, hy, hr]
  exact h q cap w' h2 h3 h4 h5
theorem wpList_ap (hA : Ap K ts z bytes) (hone : ∀ L : List α, ∀ u ∈ K.flat L, u.oneCell' = true) {ops : Array Oper} {rest : List Oper} {o : Oper} {a : Act} {Q : Exit → Act → World → Prop} (hgd : o.guard = none) (x y : Operand) (hop : o.op = .call { callee := .builtin .append, args := #[x, y], argTypes := #[ts, ts] })
    {w W0 W : World} {A Bs : List Rw} {v : Value} {M L : List α} {m : Nat} {s : Sv} (hS : Sg w W0 (A ++ rG K v M :: Bs)) (hb : Below W0.heap.size W0 W) (hL : SlG K W s.p L) (hm : M.length = m) (hn : L.length = s.n) (hb0 : m + s.n ≤ 1100000) (ho : okv s) (hx : a.eval x = v) (hy : a.eval y = .slice s.p s.n s.c)
    (h : ∀ q cap w', Sg w w' (A ++ rG K (.slice q (m + s.n) cap) (M ++ L) :: Bs) → W.grownBy w' v.ownBlock → (∀ gg, (Value.slice q (m + s.n) cap).ownBlock = some gg → v.ownBlock = some gg ∨ W.heap.size ≤ gg) → ((Value.slice q (m + s.n) cap) = .slice none 0 0 → v = .slice none 0 0) → wpList Try.prog ops Q rest (a.put o.dst (.slice q (m + s.n) cap)) w') : wpList Try.prog ops Q (o :: rest) a W :=
  wpList_plain hgd fun _ hK => wp_ap hA hone x y hop hS hb hL hm hn hb0 ho hx hy fun q cap w' h2 h3 h4 h5 => hK _ _ (h q cap w' h2 h3 h4 h5)
theorem step_ap (hA : Ap K ts z bytes) (hone : ∀ L : List α, ∀ u ∈ K.flat L, u.oneCell' = true) {ops : Array Oper} {o : Oper} {a : Act} {KK : Act → World → Prop} {Q : Exit → Act → World → Prop} {E : Prop} (hgd : o.guard = none) (x y : Operand) (hop : o.op = .call { callee := .builtin .append, args := #[x, y], argTypes := #[ts, ts] })
    {w W0 W : World} {A Bs : List Rw} {v : Value} {M L : List α} {m : Nat} {s : Sv} (hS : Sg w W0 (A ++ rG K v M :: Bs)) (hb : Below W0.heap.size W0 W) (hL : SlG K W s.p L) (hm : M.length = m) (hn : L.length = s.n) (hb0 : m + s.n ≤ 1100000) (ho : okv s) (hx : a.eval x = v) (hy : a.eval y = .slice s.p s.n s.c)
    (h : ∀ q cap w', Sg w w' (A ++ rG K (.slice q (m + s.n) cap) (M ++ L) :: Bs) → W.grownBy w' v.ownBlock → (∀ gg, (Value.slice q (m + s.n) cap).ownBlock = some gg → v.ownBlock = some gg ∨ W.heap.size ≤ gg) → ((Value.slice q (m + s.n) cap) = .slice none 0 0 → v = .slice none 0 0) → KK (a.put o.dst (.slice q (m + s.n) cap)) w') :
    if Region.wanted o (yielded ops a.tmps) = true then Oper.wp Try.prog o a W KK Q else E := by
  have hw : Region.wanted o (yielded ops a.tmps) = true := by simp [Region.wanted, hgd]
  rw [if_pos hw]
  exact wp_ap hA hone x y hop hS hb hL hm hn hb0 ho hx hy h
end
theorem sg_nilrow (w : World) : Sg w w [rG kR (.slice none 0 0) []] := by
  refine ⟨Below.refl _ _, fun r hr => ?_, List.pairwise_singleton _ _⟩
  obtain rfl := List.mem_singleton.mp hr
  exact ⟨rfl, .inl ⟨rfl, rfl⟩⟩
theorem grow_any (n : Nat) (w : World) (h2 : n ≤ 1100000) :
    Calls Try.prog 96 #[.slice none 0 0, .int .i64 (n : Int)] w fun e w' => ∃ q cap, e = .returned (.slice q 0 cap) ∧ Sg w w' [rG kR (.slice q 0 cap) []] := by
  by_cases h0 : n = 0
  · subst h0
    go_enter Try.func96, Try.ntmps96
    go_wp2
    go_ret
    exact ⟨none, 0, rfl, sg_nilrow w⟩
  obtain ⟨i0, hi, hz0, hz1, hz2⟩ := info_parts info28
  have h : Calls Try.prog 96 #[.slice none 0 0, .int .i64 (n : Int)] w _ := Any8.slices_Grow_grow Try.growC i0 _ hi hz0 (by omega) none 0 0 n [] w (Nat.le_refl _) (by omega) (by rw [hz2]; omega) (by omega) (by simp) (fun _ => rfl) (fun a h => by cases h)
  refine h.mono ?_
  rintro e w' ⟨he, rfl⟩
  have hge := grownCap_ge w (0 + n) 0 28
  have hle := grownCap_le_maxLen w (0 + n) 0 28 (by unfold maxLen; omega)
  change e = .returned (.slice (some ⟨w.heap.size, 0, none⟩) 0 (grownCap w (0 + n) 0 28)) at he
  refine ⟨_, _, he, (Below.refl _ _).drew.alloc (Nat.le_refl _) _, ?_, List.pairwise_singleton _ _⟩
  intro r hr
  obtain rfl := List.mem_singleton.mp hr
  refine ⟨rfl, .inr ⟨w.heap.size, _, _, rfl, Nat.le_refl _, heap_alloc_new w.drew _, Nat.zero_le _, hle, ?_, by simp [rG, Kd.flat]⟩⟩
  change _ = grownCap w (0 + n) 0 28 * 5
  have hz : ∀ k, (Builtin.zeroCells zR.cells k).size = k * 5 := fun k => by simp [Builtin.zeroCells, Value.cells]
  rw [Array.size_append, Array.size_append, hz, hz]
  change 0 + (0 + n - 0) * 5 + (grownCap w (0 + n) 0 28 - (0 + n)) * 5 = grownCap w (0 + n) 0 28 * 5
  omega
set_option maxRecDepth 100000 in
set_option maxHeartbeats 1500000 in
theorem concat3_any (gb : Nat) (a b c : Sv) (A B C : List Rc) (w : World) (h0 : w.cell? ⟨gb, 0, none⟩ = some (.slice a.p a.n a.c)) (h1 : w.cell? ⟨gb, 1, none⟩ = some (.slice b.p b.n b.c)) (h2 : w.cell? ⟨gb, 2, none⟩ = some (.slice c.p c.n c.c)) (hgb : gb < w.heap.size)
    (hA : SlG kR w a.p A) (hB : SlG kR w b.p B) (hC : SlG kR w c.p C) (la : A.length = a.n) (lb : B.length = b.n) (lc : C.length = c.n) (oa : okv a) (ob : okv b) (oc : okv c) (hs : a.n + b.n + c.n ≤ 1000000) :
    Calls Try.prog 78 #[.slice (some ⟨gb, 0, none⟩) 3 3] w fun e w' => ∃ q cap, e = .returned (.slice q (a.n + b.n + c.n) cap) ∧ Sg w w' [rG kR (.slice q (a.n + b.n + c.n) cap) (A ++ B ++ C)] := by
  obtain ⟨ap, an, ac⟩ := a
  obtain ⟨bp, bn, bc⟩ := b
  obtain ⟨cp, cn, cc⟩ := c
  simp only at h0 h1 h2 hA hB hC la lb lc hs ⊢
  have HG := Lib.hid (show ∀ (m : Int) (n : Nat) (w : World), m = n → n ≤ 1100000 → Calls Try.prog 96 #[.slice none 0 0, .int .i64 m] w fun e w' => ∃ q cap, e = .returned (.slice q 0 cap) ∧ Sg w w' [rG kR (.slice q 0 cap) []] from fun m n w e h => e ▸ grow_any n w h)
  have HA := Lib.hid hA
  have HB := Lib.hid hB
  have HC := Lib.hid hC
  have HO := Lib.hid (show okv ⟨ap, an, ac⟩ ∧ okv ⟨bp, bn, bc⟩ ∧ okv ⟨cp, cn, cc⟩ from ⟨oa, ob, oc⟩)
  have HL := Lib.hid (show A.length = an ∧ B.length = bn ∧ C.length = cn from ⟨la, lb, lc⟩)
  clear hA hB hC oa ob oc la lb lc
  have s1 : ¬ ((an : Int) < 0) := by omega
  have s2 : ¬ ((an : Int) + bn < 0) := by omega
  have s3 : ¬ ((an : Int) + bn + cn < 0) := by omega
  go_enter Try.func78, Try.ntmps78
  go_wp2
  refine wp_loop_rounds 4 ?_
  rw [rounds_succ]
  go_wp2
  rw [rounds_succ]
  go_wp2
  rw [rounds_succ]
  go_wp2
  rw [rounds_succ]
  go_wp2_with (go_at_call 96; refine (HG.out _ (an + bn + cn) _ (by omega) (by omega)).mono ?_; rintro e w1 ⟨q1, cap1, rfl, hS1⟩)
  have c0 := (hS1.bel.cell (p := ⟨gb, 0, none⟩) hgb).trans h0
  refine wp_loop_rounds 4 ?_
  rw [rounds_succ]
  go_wp2_with (at_builtin; refine wpList_ap appR2 oneRs rfl _ _ rfl (A := []) (M := ([] : List Rc)) (L := A) (m := 0) (s := ⟨ap, an, ac⟩) hS1 (Below.refl _ _) (HA.out.step hS1.bel) rfl HL.out.1 (by simp only; omega) HO.out.1 rfl rfl ?_; intro q2 cap2 w2 hS2 _ _ _)
  clear c0 hS1
  simp only [Nat.zero_add, List.nil_append] at hS2
  have c1 := (hS2.bel.cell (p := ⟨gb, 1, none⟩) hgb).trans h1
  rw [rounds_succ]
  go_wp2_with (at_builtin; refine wpList_ap appR2 oneRs rfl _ _ rfl (A := []) (M := A) (L := B) (m := an) (s := ⟨bp, bn, bc⟩) hS2 (Below.refl _ _) (HB.out.step hS2.bel) HL.out.1 HL.out.2.1 (by simp only; omega) HO.out.2.1 rfl rfl ?_; intro q3 cap3 w3 hS3 _ _ _)
  clear c1 hS2
  have c2 := (hS3.bel.cell (p := ⟨gb, 2, none⟩) hgb).trans h2
  rw [rounds_succ]
  go_wp2_with (at_builtin; refine wpList_ap appR2 oneRs rfl _ _ rfl (A := []) (M := A ++ B) (L := C) (m := an + bn) (s := ⟨cp, cn, cc⟩) hS3 (Below.refl _ _) (HC.out.step hS3.bel) (by rw [List.length_append, HL.out.1, HL.out.2.1]) HL.out.2.2 (by simp only; omega) HO.out.2.2 rfl rfl ?_; intro q4 cap4 w4 hS4 _ _ _)
  rw [rounds_succ]
  go_wp2
  go_ret
  exact ⟨q4, cap4, rfl, hS4⟩
end Go.Proofs.Ytjjnmeahcjpinaa
