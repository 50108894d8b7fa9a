/-
  The program's Hull.
-/
import Derived.Shelf.Spec.SlicesGrow
import Derived.Shelf.SlGeneric
import Derived.Test.YtocfdmlkicndoaaRows
import Derived.Test.YtocfdmlkicndoaaC0
import Derived.Test.YtocfdmlkicndoaaS1
import Derived.Test.YtocfdmlkicndoaaS3
import Derived.Test.YtocfdmlkicndoaaX1
import Derived.Test.YtocfdmlkicndoaaG3
namespace Go.Proofs
open Go.Shelf
def Try.growC_ren : Go.Shelf.Ren := ⟨fun | 4 => 64 | n => n, fun | 22 => 24 | 25 => 37 | 0 => 0 | 3 => 3 | 4 => 4 | 9 => 9 | 20 => 20 | n => n, fun | n => n⟩
theorem Try.growC : Go.Proofs.Lays8.n4 Try.prog Try.growC_ren := {
  mixed := by kernel_rfl
  f4 := ⟨Try.f64.name, by decide, Try.func64.trans (congrArg some (by kernel_rfl))⟩
  t0 := Try.underlying0
  a0 := Try.isAgg0
  z0 := Try.sizeOf0
  v0 := Try.zeroValue0
  t3 := Try.underlying3
  a3 := Try.isAgg3
  z3 := Try.sizeOf3
  v3 := Try.zeroValue3
  t4 := Try.underlying4
  a4 := Try.isAgg4
  z4 := Try.sizeOf4
  v4 := Try.zeroValue4
  t9 := Try.underlying9
  a9 := Try.isAgg9
  z9 := Try.sizeOf9
  v9 := Try.zeroValue9
  t20 := Try.underlying20
  a20 := Try.isAgg20
  z20 := Try.sizeOf20
  v20 := Try.zeroValue20
  t22 := Try.underlying24
  a22 := Try.isAgg24
  z22 := Try.sizeOf24
  v22 := Try.zeroValue24 }
end Go.Proofs
namespace Go.Proofs.Ytocfdmlkicndoaa
open Go.RowKit Go.Joins
attribute [local go_sem ↓] Go.wp_at_zero Go.wp_at_succ

theorem grow_any (m : Int) (w : World) (h1 : 1 ≤ m) (h2 : m ≤ 100000) :
    Calls Try.prog 64 #[.slice none 0 0, .int .i64 m] w fun e w' => ∃ cap, e = .returned (.slice (some ⟨w.heap.size, 0, none⟩) 0 cap) ∧ Ow w' w.heap.size (.slice (some ⟨w.heap.size, 0, none⟩) 0 cap) [] ∧ Below w.heap.size w w' := by
  obtain ⟨n, rfl⟩ : ∃ n : Nat, m = n := ⟨m.toNat, by omega⟩
  obtain ⟨i0, hi, hz0, hz1, hz2⟩ := info_parts info37
  have h : Calls Try.prog 64 #[.slice none 0 0, .int .i64 (n : Int)] w _ := Any8.slices_Grow_grow Try.growC i0 _ hi hz0 (by omega) none 0 0 n [] w (Nat.le_refl _) (by omega) (by rw [hz2]; omega) (by omega) (by simp) (fun _ => rfl) (fun a h => by cases h)
  refine h.mono ?_
  rintro e w' ⟨he, rfl⟩
  have hge := grownCap_ge w (0 + n) 0 37
  have hle := grownCap_le_maxLen w (0 + n) 0 37 (by unfold maxLen; omega)
  change e = .returned (.slice (some ⟨w.heap.size, 0, none⟩) 0 (grownCap w (0 + n) 0 37)) at he
  refine ⟨_, he, ?_, (Below.refl _ _).drew.alloc (Nat.le_refl _) _⟩
  refine ⟨rfl, .inr ⟨w.heap.size, _, _, rfl, Nat.le_refl _, heap_alloc_new w.drew _, Nat.zero_le _, hle, ?_, by simp [flat]⟩⟩
  change _ = grownCap w (0 + n) 0 37 * 2
  have hz : ∀ k, (Builtin.zeroCells (Value.agg #[Value.int IntKind.i64 0, Value.int IntKind.i64 0]).cells k).size = k * 2 := fun k => by simp [Builtin.zeroCells, Value.cells]
  rw [Array.size_append, Array.size_append, hz, hz]
  change 0 + (0 + n - 0) * 2 + (grownCap w (0 + n) 0 37 - (0 + n)) * 2 = grownCap w (0 + n) 0 37 * 2
  omega

set_option maxRecDepth 100000 in
set_option maxHeartbeats 4000000 in
theorem concat_any (gb ga oa ca gc oc cc : Nat) (LA LB : List T2) (w : World) (h0 : w.cell? ⟨gb, 0, none⟩ = some (.slice (some ⟨ga, oa, none⟩) LA.length ca)) (h1 : w.cell? ⟨gb, 1, none⟩ = some (.slice (some ⟨gc, oc, none⟩) LB.length cc)) (hgb : gb < w.heap.size) (hA : Cs w ga oa LA) (hB : Cs w gc oc LB) (hla : 1 ≤ LA.length) (hla2 : LA.length ≤ 1000) (hlb : LB.length ≤ 1000) :
    Calls Try.prog 48 #[.slice (some ⟨gb, 0, none⟩) 2 2] w fun e w' => ∃ q cap', e = .returned (.slice (some ⟨q, 0, none⟩) (LA ++ LB).length cap') ∧ Ow w' w.heap.size (.slice (some ⟨q, 0, none⟩) (LA ++ LB).length cap') (LA ++ LB) ∧ Below w.heap.size w w' := by
  have s1 : ¬ ((LA.length : Int) < 0) := by omega
  have s2 : ¬ ((LA.length : Int) + (LB.length : Int) < 0) := by omega
  go_enter Try.func48, Try.ntmps48
  go_wp2
  refine wp_loop_rounds 3 ?_
  rw [rounds_succ]
  go_wp2
  rw [rounds_succ]
  go_wp2
  rw [rounds_succ]
  go_wp2_with (go_at_call 64; refine (grow_any _ _ ?_ ?_).mono ?_; (focus omega); (focus omega); rintro e w1 ⟨cap1, rfl, hO1, hb1⟩)
  have c0 := (hb1.cell (p := ⟨gb, 0, none⟩) hgb).trans h0
  have c1 := (hb1.cell (p := ⟨gb, 1, none⟩) hgb).trans h1
  refine wp_loop_rounds 3 ?_
  rw [rounds_succ]
  go_wp2_with (at_builtin; refine wpList_app rfl _ _ rfl (base := w.heap.size) (M := ([] : List T2)) (B := LA) rfl hO1 _ _ rfl (cs_news (hA.step hb1)) (by simp; omega) hb1.size ?_; intro g2 cap2 w2 hO2 hg2 ha2)
  simp only [List.nil_append] at hO2 ⊢
  have hb2 : Below w.heap.size w w2 := bel_grown hb1 hg2 (fun r hr => by injection hr with hr; omega) (Nat.le_refl _)
  clear c0 c1 hO1 hb1 hg2 ha2 h0
  have c1 := (hb2.cell (p := ⟨gb, 1, none⟩) hgb).trans h1
  have hb2g : w.heap.size ≤ g2 := (hO2.lt g2 rfl).1
  rw [rounds_succ]
  go_wp2_with (at_builtin; refine wpList_app rfl _ _ rfl (base := w.heap.size) (M := LA) (B := LB) rfl hO2 _ _ rfl (cs_news (hB.step hb2)) (by omega) hb2.size ?_; intro g3 cap3 w3 hO3 hg3 ha3)
  have hb3 : Below w.heap.size w w3 := bel_grown hb2 hg3 (fun r hr => by injection hr with hr; omega) (Nat.le_refl _)
  rw [rounds_succ]
  go_wp2
  go_ret
  exact ⟨g3, cap3, by rw [List.length_append]; rfl, hO3, hb3⟩
end Go.Proofs.Ytocfdmlkicndoaa
namespace Go.Proofs.Ytocfdmlkicndoaa
open Go.RowKit Go.Joins

theorem gdrew {X Y : World} {r : Option Nat} (h : X.grownBy Y r) : X.grownBy Y.drew r := ⟨h.os, h.tape, h.output, h.size, h.block⟩
/-- M is L, turned about from both ends as far as k. -/
def Rvd (L M : List T2) (k : Nat) : Prop := M.length = L.length ∧ ∀ t, t < L.length → M[t]? = if t < k ∨ L.length ≤ t + k then L[L.length - 1 - t]? else L[t]?
theorem Rvd.start (L : List T2) : Rvd L L 0 := ⟨rfl, fun t ht => by rw [if_neg (by omega)]⟩
theorem Rvd.next {L M : List T2} {k q : Nat} (h : Rvd L M k) (hq : q + k + 1 = L.length) (hlt : k < q) {a b : T2} (ha : M[q]? = some a) (hb : M[k]? = some b) : Rvd L ((M.set k a).set q b) (k + 1) := by
  obtain ⟨h1, h2⟩ := h
  have e1 := h2 q (by omega)
  rw [if_neg (by omega), ha] at e1
  have e2 := h2 k (by omega)
  rw [if_neg (by omega), hb] at e2
  refine ⟨by simp [h1], fun t ht => ?_⟩
  by_cases tq : q = t
  · subst tq
    rw [List.getElem?_set_self (by simp; omega), if_pos (by omega), show L.length - 1 - q = k by omega, e2]
  · rw [List.getElem?_set_ne tq]
    by_cases tk : k = t
    · subst tk
      rw [List.getElem?_set_self (by omega), if_pos (by omega), show L.length - 1 - k = q by omega, e1]
    · rw [List.getElem?_set_ne tk, h2 t ht]
      by_cases c : t < k ∨ L.length ≤ t + k
      · rw [if_pos c, if_pos (by omega)]
      · rw [if_neg c, if_neg (by omega)]
theorem Rvd.done {L M : List T2} {k : Nat} (h : Rvd L M k) (hk : L.length ≤ k + k + 1) : M = L.reverse := by
  obtain ⟨h1, h2⟩ := h
  refine List.ext_getElem? fun t => ?_
  by_cases ht : t < L.length
  · rw [h2 t ht, List.getElem?_reverse ht]
    split
    · rfl
    · congr 1; omega
  · rw [List.getElem?_eq_none (by omega), List.getElem?_eq_none (by simp; omega)]

set_option maxRecDepth 100000 in
set_option maxHeartbeats 2000000 in
theorem reverse_any (base g cap : Nat) (L : List T2) (w : World) (hL : Ow w base (.slice (some ⟨g, 0, none⟩) L.length cap) L) (hn : L.length ≤ 10000000) (hn1 : 1 ≤ L.length) :
    Calls Try.prog 47 #[.slice (some ⟨g, 0, none⟩) L.length cap] w fun e w' => e = .returned (.tuple #[]) ∧ Ow w' base (.slice (some ⟨g, 0, none⟩) L.length cap) L.reverse ∧ w.grownBy w' (some g) := by
  go_enter Try.func47, Try.ntmps47
  go_wp2
  go_loopw [2, 3] (fun i j wr => ∃ (k : Nat) (m : Int) (M : List T2), i = .int .i64 k ∧ j = .int .i64 m ∧ Hid (m = (L.length : Int) - 1 - k) ∧ k ≤ L.length ∧ Hid (Rvd L M k) ∧ Ow wr base (.slice (some ⟨g, 0, none⟩) L.length cap) M ∧ w.grownBy wr (some g)) (fun i _ _ => L.length - (intOf i).toNat)
  case atStart => exact ⟨0, _, L, rfl, rfl, by unfold Hid; omega, by omega, Rvd.start L, hL, ⟨rfl, rfl, rfl, Nat.le_refl _, fun _ _ _ => rfl⟩⟩
  case round =>
    obtain ⟨k, m, M, rfl, rfl, hm, hk, hR, hO, hg⟩ := hrel
    by_cases hlt : (k : Int) < m
    · obtain ⟨q, rfl⟩ : ∃ q : Nat, m = q := ⟨m.toNat, by omega⟩
      have hq : Hid (q + k + 1 = L.length) := by unfold Hid at hm ⊢; omega
      have hqL : q < L.length := by unfold Hid at hq; omega
      have hkL : k < L.length := by omega
      have hML : Hid (M.length = L.length) := hR.1
      obtain ⟨a, ha⟩ : ∃ a, M[q]? = some a := ⟨M[q]'(by unfold Hid at hML; omega), List.getElem?_eq_getElem _⟩
      obtain ⟨b, hb⟩ : ∃ b, M[k]? = some b := ⟨M[k]'(by unfold Hid at hML; omega), List.getElem?_eq_getElem _⟩
      obtain ⟨a0, a1⟩ := (Ow.cs hO).2 q a ha
      obtain ⟨b0, b1⟩ := (Ow.cs hO).2 k b hb
      simp only [Nat.zero_add] at a0 a1 b0 b1
      have hO2 := hO
      unfold Ow at hO2
      rw [show M.length = L.length from hML] at hO2
      have hf := hO2.frozenAt
      clear hm
      have hkq : k < q := by omega
      have n1 : ¬ q * 2 = k * 2 := by omega
      have n2 : ¬ q * 2 = k * 2 + 1 := by omega
      have n3 : ¬ q * 2 + 1 = k * 2 := by omega
      have n4 : ¬ q * 2 + 1 = k * 2 + 1 := by omega
      go_wp2
      go_region
      go_wp2
      go_roundw
      case rel =>
        obtain ⟨s1, t1⟩ := hO2.stored (k * 2) (.int .i64 a.x)
        obtain ⟨s2, t2⟩ := s1.stored (k * 2 + 1) (.int .i64 a.y)
        obtain ⟨s3, t3⟩ := s2.stored (q * 2) (.int .i64 b.x)
        obtain ⟨s4, t4⟩ := s3.stored (q * 2 + 1) (.int .i64 b.y)
        have hq' : q + k + 1 = L.length := hq
        have hML' : M.length = L.length := hML
        refine ⟨k + 1, _, (M.set k a).set q b, by go_num, rfl, by unfold Hid; omega, by omega, Rvd.next hR hq' hkq ha hb, ?_, ?_⟩
        · rw [flat_set a (by omega), flat_set b (by simp; omega)] at s4
          unfold Ow; rw [List.length_set, List.length_set, hML']
          exact own_of_below s4 (Below.refl _ _).drew
        · exact gdrew (gtrans hg (gtrans t1 (gtrans t2 (gtrans t3 t4))))
      case measure => simp [intOf]; omega
    · go_wp2
      go_end0
      have hm' : m = (L.length : Int) - 1 - k := hm
      obtain rfl := Rvd.done hR (by omega)
      exact ⟨rfl, hO, hg⟩
end Go.Proofs.Ytocfdmlkicndoaa
namespace Go.Proofs.Ytocfdmlkicndoaa
open Go.RowKit Go.Joins
attribute [local go_sem ↓] Go.wp_at_zero Go.wp_at_succ

theorem cmpc_nil : cmpc [] = [] := by simp [cmpc]
theorem cmpc_one (a : T2) : cmpc [a] = [a] := by simp [cmpc]
theorem cmpc_cons2 (c d : T2) (r : List T2) : cmpc (c :: d :: r) = if eqB c d then cmpc (d :: r) else c :: cmpc (d :: r) := by rw [cmpc]
theorem cmpc_app2 : ∀ (A : List T2) (a b : T2), cmpc (A ++ [a, b]) = if eqB a b then cmpc (A ++ [a]) else cmpc (A ++ [a]) ++ [b]
  | [], a, b => by
    simp only [List.nil_append]
    rw [cmpc_cons2, cmpc_one, cmpc_one]
    split
    · rename_i h
      rw [eqB_t] at h; subst h; rfl
    · rfl
  | [c], a, b => by
    have ih := cmpc_app2 [] a b
    simp only [List.nil_append] at ih
    simp only [List.cons_append, List.nil_append]
    rw [cmpc_cons2 c a [b], cmpc_cons2 c a [], ih]
    cases eqB c a <;> cases eqB a b <;> simp
  | c :: d :: A, a, b => by
    have ih := cmpc_app2 (d :: A) a b
    simp only [List.cons_append] at ih ⊢
    rw [cmpc_cons2 c d, cmpc_cons2 c d, ih]
    cases eqB c d <;> cases eqB a b <;> simp
theorem take_snoc {S : List T2} {j : Nat} {a : T2} (h : S[j]? = some a) : S.take (j + 1) = S.take j ++ [a] := by rw [List.take_add_one, h]; rfl
theorem cmpc_take {S : List T2} {j : Nat} {a b : T2} (ha : S[j]? = some a) (hb : S[j + 1]? = some b) : cmpc (S.take (j + 1 + 1)) = if eqB a b then cmpc (S.take (j + 1)) else cmpc (S.take (j + 1)) ++ [b] := by
  rw [take_snoc hb, take_snoc ha, List.append_assoc]
  exact cmpc_app2 _ a b
theorem eqB_comm (a b : T2) : eqB a b = eqB b a := by unfold eqB; rw [decide_eq_decide.mpr (show a.x = b.x ↔ b.x = a.x from ⟨Eq.symm, Eq.symm⟩), decide_eq_decide.mpr (show a.y = b.y ↔ b.y = a.y from ⟨Eq.symm, Eq.symm⟩)]

set_option maxRecDepth 100000 in
set_option maxHeartbeats 4000000 in
theorem compact_any (base g cap : Nat) (S : List T2) (w : World) (hL : Ow w base (.slice (some ⟨g, 0, none⟩) S.length cap) S) (hn : S.length ≤ 1000000) (hn1 : 1 ≤ S.length) :
    Calls Try.prog 43 #[.slice (some ⟨g, 0, none⟩) S.length cap] w fun e w' => e = .returned (.slice (some ⟨g, 0, none⟩) (cmpc S).length cap) ∧ Ow w' base (.slice (some ⟨g, 0, none⟩) (cmpc S).length cap) (cmpc S) ∧ w.grownBy w' (some g) := by
  have hcap : S.length ≤ cap := by obtain ⟨_, _, _, _, h⟩ := Ow.some hL (by omega); exact h
  by_cases h2 : S.length < 2
  · have h2i : (S.length : Int) < 2 := by omega
    have hS : Hid (cmpc S = S) := by
      match S, h2, hn1 with
      | [a], _, _ => exact cmpc_one a
    go_enter Try.func43, Try.ntmps43
    go_wp2
    go_ret
    rw [hS.out]; exact ⟨rfl, hL, grefl _ _⟩
  have h2i : ¬ (S.length : Int) < 2 := by omega
  have hS1 : cmpc (S.take 1) = S.take 1 := by
    match S, h2 with
    | a :: b :: t, _ => exact cmpc_one a
    | [a], h => exact absurd (by simp) h
    | [], h => exact absurd (by simp) h
  go_enter Try.func43, Try.ntmps43
  go_wp2
  go_loopw [3] (fun kv wr => ∃ k j : Nat, k ≤ S.length ∧ Hid (k = j + 1) ∧ kv = .int .i64 k ∧ Hid (cmpc (S.take k) = S.take k) ∧ Ow wr base (.slice (some ⟨g, 0, none⟩) S.length cap) S ∧ w.grownBy wr (some g)) (fun kv _ => S.length - (intOf kv).toNat)
  case atStart => exact ⟨1, 0, by omega, rfl, rfl, hS1, hL, grefl _ _⟩
  case round =>
    clear hL hS1
    obtain ⟨k, j, hk, hkj, rfl, hc, hO, hg⟩ := hrel
    by_cases hlt : k < S.length
    · have hki : (k : Int) < S.length := by omega
      have hk0 : (0 : Int) ≤ (k : Int) := by omega
      have hj0 : (0 : Int) ≤ (j : Int) := by omega
      have hjk : j < S.length := by have := hkj.out; omega
      have hji : (j : Int) < S.length := by omega
      obtain ⟨b, hb⟩ : ∃ b, S[k]? = some b := ⟨_, List.getElem?_eq_getElem hlt⟩
      obtain ⟨a, ha⟩ : ∃ a, S[j]? = some a := ⟨_, List.getElem?_eq_getElem hjk⟩
      obtain ⟨b0, b1⟩ := (Ow.cs hO).2 k b hb
      obtain ⟨a0, a1⟩ := (Ow.cs hO).2 j a ha
      simp only [Nat.zero_add] at a0 a1 b0 b1
      have hw : IntKind.i64.wrap ((k : Int) - 1) = j := by rw [IntKind.wrap_i64]; have := hkj.out; omega
      have HC : Hid (cmpc (S.take (k + 1)) = if eqB b a then cmpc (S.take k) else cmpc (S.take k) ++ [b]) := by
        have := hkj.out; subst this
        rw [eqB_comm]; exact cmpc_take ha hb
      have HT : Hid (S.take (k + 1) = S.take k ++ [b]) := take_snoc hb
      have hql := fun W => run_eqlT b a W
      cases heq : eqB b a
      · rw [heq] at hql HC
        go_wp2_with fail
        go_quiet (fail)
        go_wp2_with fail
        go_roundw
        case rel =>
          refine ⟨k + 1, k, by omega, rfl, by go_num, ?_, own_of_below hO (below_drewN _ _), gdrewN hg _⟩
          unfold Hid
          rw [HC.out, HT.out, hc.out]; rfl
        case measure => simp [intOf]; omega
      · rw [heq] at hql HC
        go_wp2_with fail
        go_quiet (fail)
        generalize hWe : World.drewN _ _ = W2
        replace hO : Ow W2 base (.slice (some ⟨g, 0, none⟩) S.length cap) S := by rw [← hWe]; exact own_of_below hO (below_drewN _ _)
        replace hg : w.grownBy W2 (some g) := by rw [← hWe]; exact gdrewN hg _
        clear hWe a0 a1 b0 b1 hql ha hb hw hji hj0 hjk heq HT
        have hS1 : Hid (S.take k = cmpc (S.take (k + 1))) := by unfold Hid; rw [HC.out, hc.out]; rfl
        clear HC hc hkj
        have hck : ¬ cap = k := by omega
        have hkc : k ≤ cap := by omega
        have hkI : (k : Int) ≤ (S.length : Int) := by omega
        go_wp2
        generalize hn2 : S.length - k = n2
        generalize cap - k = c2
        have HN : Hid (S.length = k + n2) := by unfold Hid; omega
        have hn2b : n2 ≤ 1000000 := by omega
        clear hn2
        go_loopw [3, 5] (fun kv k2v wq => ∃ (kk k2 q : Nat) (M : List T2), kv = .int .i64 kk ∧ k2v = .int .i64 k2 ∧ Hid (k2 = q + 1 ∧ k2 ≤ n2 ∧ k ≤ kk ∧ kk ≤ k + q ∧ M.length = S.length) ∧ Hid (M.take kk = cmpc (S.take (k + k2))) ∧ Hid (∀ t, k + q ≤ t → M[t]? = S[t]?) ∧ Ow wq base (.slice (some ⟨g, 0, none⟩) S.length cap) M ∧ w.grownBy wq (some g)) (fun _ k2v _ => n2 - (intOf k2v).toNat)
        case atStart => exact ⟨k, 1, 0, S, rfl, rfl, ⟨by omega, by have := HN.out; omega, by omega, by omega, rfl⟩, hS1, fun _ _ => rfl, hO, hg⟩
        case round =>
          clear hO hg hS1
          obtain ⟨kk, k2, q, M, rfl, rfl, hA, hT, hR, hO, hg⟩ := hrel
          have hML : Hid (M.length = S.length) := hA.out.2.2.2.2
          have hkkS : kk < S.length := by have := hA.out; have := HN.out; omega
          have hkk0 : (0 : Int) ≤ (kk : Int) := by omega
          have hkkI : (kk : Int) < (S.length : Int) := by omega
          have hO2 := hO
          unfold Ow at hO2
          rw [hML.out] at hO2
          have hf := hO2.frozenAt
          by_cases hlt2 : k2 < n2
          · have hk2i : (k2 : Int) < (n2 : Int) := by omega
            have hk20 : (0 : Int) ≤ (k2 : Int) := by omega
            have hq0 : (0 : Int) ≤ (q : Int) := by omega
            have hqi : (q : Int) < (n2 : Int) := by have := hA.out; omega
            have hw : IntKind.i64.wrap ((k2 : Int) - 1) = q := by rw [IntKind.wrap_i64]; have := hA.out; have := HN.out; omega
            obtain ⟨d, hd⟩ : ∃ d, S[k + k2]? = some d := ⟨_, List.getElem?_eq_getElem (by have := HN.out; omega)⟩
            obtain ⟨c, hc⟩ : ∃ c, S[k + q]? = some c := ⟨_, List.getElem?_eq_getElem (by have := HN.out; have := hA.out; omega)⟩
            obtain ⟨u, hu⟩ : ∃ u, M[kk]? = some u := ⟨_, List.getElem?_eq_getElem (by rw [hML.out]; exact hkkS)⟩
            have HC : Hid (cmpc (S.take (k + (k2 + 1))) = if eqB d c then cmpc (S.take (k + k2)) else cmpc (S.take (k + k2)) ++ [d]) := by
              obtain ⟨rfl, _⟩ := hA.out
              rw [eqB_comm]
              exact cmpc_take hc hd
            have hcells : ∀ W, Ow W base (.slice (some ⟨g, 0, none⟩) S.length cap) M → ((W.cell? ⟨g, k * 2 + k2 * 2, none⟩ = some (.int .i64 d.x) ∧ W.cell? ⟨g, k * 2 + k2 * 2 + 1, none⟩ = some (.int .i64 d.y)) ∧ (W.cell? ⟨g, k * 2 + q * 2, none⟩ = some (.int .i64 c.x) ∧ W.cell? ⟨g, k * 2 + q * 2 + 1, none⟩ = some (.int .i64 c.y)) ∧ (W.cell? ⟨g, kk * 2, none⟩ = some (.int .i64 u.x) ∧ W.cell? ⟨g, kk * 2 + 1, none⟩ = some (.int .i64 u.y))) := by
              intro W hW
              have r1 := (Ow.cs hW).2 (k + k2) d (by rw [hR.out _ (by have := hA.out; omega)]; exact hd)
              have r2 := (Ow.cs hW).2 (k + q) c (by rw [hR.out _ (by omega)]; exact hc)
              have r3 := (Ow.cs hW).2 kk u hu
              rw [Nat.zero_add, Nat.add_mul] at r1 r2
              rw [Nat.zero_add] at r3
              exact ⟨r1, r2, r3⟩
            clear hd hc hu
            obtain ⟨⟨d0, d1⟩, ⟨c0, c1⟩, _⟩ := hcells _ hO
            have hql := fun W => run_neqT d c W
            cases heq : eqB d c
            · rw [heq] at hql HC
              go_wp2_with fail
              go_quiet (fail)
              generalize hWe : World.drewN _ _ = W3
              replace hO : Ow W3 base (.slice (some ⟨g, 0, none⟩) S.length cap) M := by rw [← hWe]; exact own_of_below hO (below_drewN _ _)
              replace hg : w.grownBy W3 (some g) := by rw [← hWe]; exact gdrewN hg _
              clear hO2 hf hWe d0 d1 c0 c1
              have hO2 := hO
              unfold Ow at hO2
              rw [hML.out] at hO2
              have hf := hO2.frozenAt
              obtain ⟨⟨d0, d1⟩, _, ⟨u0, u1⟩⟩ := hcells _ hO
              clear hcells
              go_wp2
              go_roundw
              case rel =>
                obtain ⟨s1, t1⟩ := hO2.stored (kk * 2) (.int .i64 d.x)
                obtain ⟨s2, t2⟩ := s1.stored (kk * 2 + 1) (.int .i64 d.y)
                have hml := hML.out
                have ha' := hA.out
                refine ⟨kk + 1, k2 + 1, k2, M.set kk d, by go_num, by go_num, ⟨rfl, by omega, by omega, by omega, by simp [hml]⟩, ?_, fun t ht => ?_, ?_, gtrans hg (gtrans t1 t2)⟩
                · unfold Hid
                  rw [HC.out, ← hT.out, List.take_succ_eq_append_getElem (by simp; omega), List.take_set_of_le (Nat.le_refl _), List.getElem_set_self]
                  rfl
                · rw [List.getElem?_set_ne (by omega)]; exact hR.out t (by omega)
                · rw [flat_set d (by omega)] at s2
                  unfold Ow; rw [List.length_set, hml]
                  exact s2
              case measure => simp [intOf]; omega
            · rw [heq] at hql HC
              go_wp2_with fail
              go_quiet (fail)
              go_wp2_with fail
              go_roundw
              case rel =>
                have ha' := hA.out
                refine ⟨kk, k2 + 1, k2, M, rfl, by go_num, ⟨rfl, by omega, by omega, by omega, ha'.2.2.2.2⟩, ?_, fun t ht => hR.out t (by omega), own_of_below hO (below_drewN _ _), gdrewN hg _⟩
                unfold Hid
                rw [HC.out, hT.out]; rfl
              case measure => simp [intOf]; omega
          · have hk2i : ¬ (k2 : Int) < (n2 : Int) := by omega
            have hfin : Hid (M.take kk = cmpc S) := by
              have := hA.out
              have hn := HN.out
              have e : k + k2 = S.length := by omega
              have h := hT.out
              rw [e, List.take_length] at h
              exact h
            obtain ⟨W', N, hcl, hO', hN, hg'⟩ := run_clearT (k := kk) (cap - kk) hO (by rw [hML.out]; exact hkkS)
            rw [hML.out] at hcl
            have hNl : Hid (N.length = S.length) := by
              rcases hO'.2 with ⟨h, _⟩ | ⟨_, _, _, h, _⟩
              · cases h
              · injection h with _ h; exact h.symm
            have hck2 : ¬ cap = kk := by omega
            have hkkc : kk ≤ cap := by omega
            have hkkI2 : (kk : Int) ≤ (S.length : Int) := by omega
            clear hO2 hf
            go_wp2
            go_ret
            have hlen : (M.take kk).length = kk := by rw [List.length_take, hML.out]; omega
            rw [← hfin.out, hlen]
            refine ⟨rfl, ?_, gtrans hg hg'⟩
            unfold Ow
            rw [hlen]
            unfold Ow at hO'
            rw [hNl.out, ← List.take_append_drop kk N, hN] at hO'
            exact own_take hO' hlen.symm (by omega)
    · have hki : ¬ (k : Int) < S.length := by omega
      have hkS : Hid (cmpc S = S) := by
        have e : k = S.length := by omega
        have h := hc.out
        rw [e, List.take_length] at h
        exact h
      go_wp2
      go_ret
      rw [hkS.out]; exact ⟨rfl, hO, hg⟩
end Go.Proofs.Ytocfdmlkicndoaa
namespace Go.Proofs.Ytocfdmlkicndoaa
open Go.RowKit Go.Joins
attribute [local go_sem ↓] Go.wp_at_zero Go.wp_at_succ

set_option maxHeartbeats 1000000 in
theorem side_cap {a b c : T2} (ha : a.ok = true) (hb : b.ok = true) (hc : c.ok = true) (p : Option Addr) (cc : Nat) (w : World) (hE : Eg w p a b) :
    Calls Try.prog 63 #[.slice p 2 cc, .agg #[.int .i64 c.x, .int .i64 c.y]] w fun e w' => e = .returned (.int .i64 (sg (crT a b c))) ∧ Below w.heap.size w w' := by
  have k1 := spB_t.mp ha
  have k2 := spB_t.mp hb
  have k3 := spB_t.mp hc
  have h1 := pr_bd (u := b.x - a.x) (v := c.y - a.y) (by omega) (by omega) (by omega) (by omega)
  have h2 := pr_bd (u := b.y - a.y) (v := c.x - a.x) (by omega) (by omega) (by omega) (by omega)
  clear ha hb hc
  obtain ⟨g, off, rfl, hg, c0, c1, c2, c3⟩ := hE
  have hc3 : ∀ (o1 o2 o3 : Obj) (k : Nat), (((w.alloc o1).alloc o2).alloc o3).cell? ⟨g, k, none⟩ = w.cell? ⟨g, k, none⟩ := fun o1 o2 o3 k => (below_alloc3 w o1 o2 o3).cell (p := ⟨g, k, none⟩) hg
  have hsg : sg (crT a b c) = sg ((b.x - a.x) * (c.y - a.y) - (b.y - a.y) * (c.x - a.x)) := rfl
  rcases Int.lt_trichotomy ((b.x - a.x) * (c.y - a.y) - (b.y - a.y) * (c.x - a.x)) 0 with h | h | h
  all_goals
    go_enter Try.func63, Try.ntmps63
    go_wp2
    go_region
    go_wp2
  all_goals (go_ret; exact ⟨ret_i64 (by rw [hsg]; first | exact (sg_p h).symm | exact (sg_m h).symm | exact (sg_z h).symm), (below_alloc3 _ _ _ _).drew⟩)
theorem side_c {a b c : T2} {v : Int} (hv : sg (crT a b c) = v) (ha : a.ok = true) (hb : b.ok = true) (hc : c.ok = true) (p : Option Addr) (cc : Nat) (w : World) (hE : Eg w p a b) :
    Calls Try.prog 63 #[.slice p 2 cc, .agg #[.int .i64 c.x, .int .i64 c.y]] w fun e w' => e = .returned (.int .i64 v) ∧ Below w.heap.size w w' := by subst hv; exact side_cap ha hb hc p cc w hE

set_option maxRecDepth 100000 in
set_option maxHeartbeats 4000000 in
theorem leftTurns_any (p : Option Addr) (cap : Nat) (L : List T2) (hok : ∀ c ∈ L, c.ok = true) (hn : L.length ≤ 40) (w : World) (hL : Sl w p L) :
    Calls Try.prog 46 #[.slice p L.length cap] w fun e w' => ∃ q cap', e = .returned (.slice q (halfR L).reverse.length cap') ∧ Ow w' w.heap.size (.slice q (halfR L).reverse.length cap') (halfR L).reverse ∧ Below w.heap.size w w' := by
  obtain ⟨i0, hi, hz0, hz1, hz2⟩ := info_parts info37
  go_enter Try.func46, Try.ntmps46
  go_wp2
  go_loopw [3, 8] (fun sv i wr => ∃ (k : Nat) (q : Option Addr) (cap' : Nat) (M : List T2), k ≤ L.length ∧ i = .int .i64 k ∧ sv = .slice q M.length cap' ∧ M.reverse = halfR (L.take k) ∧ Ow wr w.heap.size (.slice q M.length cap') M ∧ Below w.heap.size w wr) (fun _ i _ => L.length - (intOf i).toNat)
  case atStart => exact ⟨0, none, 0, [], by omega, rfl, rfl, rfl, Ow.nil _ _, Below.refl _ _⟩
  case round =>
    obtain ⟨k, q, cap', M, hk, rfl, rfl, hM, hO, hb⟩ := hrel
    by_cases hlt : k < L.length
    · have hki : (k : Int) < L.length := by omega
      obtain ⟨g, off, rfl, hC⟩ := hL.at hlt
      have hsok := hok _ (List.getElem_mem hlt)
      have hLk := List.getElem?_eq_getElem hlt
      have hht := half_take hlt
      generalize L[k] = s at hsok hLk hht
      have HT : Hid (halfR (L.take (k + 1)) = pushT (halfR (L.take k)) s) := hht
      clear hht
      have hMl : M.length ≤ 40 := by rw [← List.length_reverse, hM]; have := half_len (L.take k); rw [List.length_take] at this; omega
      have hMok : ∀ c ∈ M, c.ok = true := fun c hc => hok c (List.mem_of_mem_take (half_sub _ c (by rw [← hM]; simpa using hc)))
      obtain ⟨c0, c1⟩ := (hC.step hb).2 k s hLk
      go_wp2
      have hB := ((St.nil wr).push [.int .i64 s.x, .int .i64 s.y] 37)
      have hOn := own_of_below hO hB.bel
      have hbn := bstep hb hB.bel (Nat.le_refl _)
      have hHs := hB.has
      clear hO hb hB c0 c1
      generalize wr.alloc _ = W1 at hOn hbn hHs ⊢
      generalize wr.heap.size = bS at hHs ⊢
      have hO := hOn
      have hb := hbn
      clear hOn hbn
      go_loopw [3] (fun sv wq => ∃ (q : Option Addr) (cap' : Nat) (N : List T2), sv = .slice q N.length cap' ∧ N.length ≤ 40 ∧ (∀ c ∈ N, c.ok = true) ∧ popT N.reverse s = popT (halfR (L.take k)) s ∧ Ow wq w.heap.size (.slice q N.length cap') N ∧ Below w.heap.size w wq ∧ Has wq [(bS, [.int .i64 s.x, .int .i64 s.y])]) (fun sv _ => lenV sv)
      case atStart => exact ⟨q, cap', M, rfl, hMl, hMok, by rw [hM], hO, hb, hHs⟩
      case round =>
        clear hO hb hHs hMl hMok hM
        obtain ⟨q, cap', N, rfl, hNl, hNok, hNp, hO, hb, hHs⟩ := hrel
        by_cases h2 : 2 ≤ N.length
        · obtain ⟨A, u, v, hA⟩ := split2 h2
          obtain ⟨gq, rfl, hgq, _, hcap⟩ := hO.some (by omega)
          have hu := hNok u (by simp [hA])
          have hv := hNok v (by simp [hA])
          obtain ⟨m2, hm2⟩ : ∃ m2, m2 = A.length := ⟨_, rfl⟩
          obtain ⟨m1, hm1⟩ : ∃ m1, m1 = A.length + 1 := ⟨_, rfl⟩
          have hAl : A.length + 2 = N.length := by simp [hA]
          have hN2 : N[m2]? = some u := by rw [hA, hm2]; simp
          have hN1 : N[m1]? = some v := by rw [hA, hm1]; simp
          have hS : ∀ w', (Ow w' w.heap.size (.slice (some ⟨gq, 0, none⟩) N.length cap') N ∧ Below w.heap.size w w' ∧ Has w' [(bS, [.int .i64 s.x, .int .i64 s.y])]) → (w'.cell? ⟨bS, 0, none⟩ = some (.int .i64 s.x) ∧ w'.cell? ⟨bS, 1, none⟩ = some (.int .i64 s.y)) :=
            fun w' h => by have := h.2.2; simp [Has, HasAt] at this; simp [this]
          have hcc := hS _ ⟨hO, hb, hHs⟩
          have hEg : ∀ w', (Ow w' w.heap.size (.slice (some ⟨gq, 0, none⟩) N.length cap') N ∧ Below w.heap.size w w' ∧ Has w' [(bS, [.int .i64 s.x, .int .i64 s.y])]) → Eg w' (some ⟨gq, m2 * 2, none⟩) u v := fun w' h => ⟨gq, m2 * 2, rfl, (Ow.cs h.1).1, by simpa using ((Ow.cs h.1).2 m2 u hN2).1, by simpa using ((Ow.cs h.1).2 m2 u hN2).2, by have := ((Ow.cs h.1).2 m1 v hN1).1; rw [show 0 + m1 * 2 = m2 * 2 + 2 by omega] at this; exact this, by have := ((Ow.cs h.1).2 m1 v hN1).2; rw [show 0 + m1 * 2 + 1 = m2 * 2 + 3 by omega] at this; exact this⟩
          have hkp : ∀ {w' w'' : World}, (Ow w' w.heap.size (.slice (some ⟨gq, 0, none⟩) N.length cap') N ∧ Below w.heap.size w w' ∧ Has w' [(bS, [.int .i64 s.x, .int .i64 s.y])]) → Below w'.heap.size w' w'' → (Ow w'' w.heap.size (.slice (some ⟨gq, 0, none⟩) N.length cap') N ∧ Below w.heap.size w w'' ∧ Has w'' [(bS, [.int .i64 s.x, .int .i64 s.y])]) := fun h hb => ⟨own_of_below h.1 hb, bstep h.2.1 hb (Nat.le_refl _), h.2.2.step hb⟩
          generalize hcv : crT u v s = cv
          have hpp := @pop_two A u v s
          rw [hcv, ← hA] at hpp
          have hm1n : m1 + 1 = N.length := by omega
          have hA1 : (A ++ [u]).length = m1 := by simp [hm1]
          have hA2 : N = (A ++ [u]) ++ [v] := by rw [hA]; simp
          have HA : Hid ((A ++ [u]).length = m1 ∧ N = (A ++ [u]) ++ [v] ∧ ∀ c ∈ A ++ [u], c.ok = true) := ⟨hA1, hA2, fun c hc => hNok c (by rw [hA2]; exact List.mem_append_left _ hc)⟩
          have HPP : Hid (popT N.reverse s = if cv ≤ 0 then popT (A ++ [u]).reverse s else N.reverse) := hpp
          have HNP : Hid (popT N.reverse s = popT (halfR (L.take k)) s) := hNp
          have hd2 : decide ((2 : Int) ≤ (N.length : Int)) = true := decide_eq_true (by omega)
          have ha2 : IntKind.i64.wrap ((N.length : Int) - 2) = m2 := by rw [IntKind.wrap_i64]; omega
          have ha1 : IntKind.i64.wrap ((N.length : Int) - 1) = m1 := by rw [IntKind.wrap_i64]; omega
          have hb0 : (0 : Int) ≤ (m2 : Int) := by omega
          have hb1 : (m2 : Int) < (N.length : Int) := by omega
          have hb3 : (0 : Int) ≤ (m1 : Int) := by omega
          have hb4 : (m1 : Int) < (N.length : Int) := by omega
          have hk0 : (0 : Int) ≤ (k : Int) := by omega
          have hm1c : m1 ≤ cap' := by omega
          have hNm : N.length - m2 = 2 := by omega
          have hcm : ¬ cap' = m2 := by omega
          have hm2n : (m2 : Int) ≤ (N.length : Int) := by omega
          have hsz : N.length ≤ cap' := by omega
          clear hA hA1 hA2 hm1 hm2 hAl hN1 hN2 hpp hNp hNok hm1n h2
          rcases Int.lt_or_le 0 cv with hcl | hcl
          · have hsv : sg (crT u v s) = 1 := by rw [hcv]; exact sg_p hcl
            go_wp2_with fail
            go_region_held3 (fun w' => (Ow w' w.heap.size (.slice (some ⟨gq, 0, none⟩) N.length cap') N ∧ Below w.heap.size w w' ∧ Has w' [(bS, [.int .i64 s.x, .int .i64 s.y])]) ∧ (w'.cell? ⟨bS, 0, none⟩ = some (.int .i64 s.x) ∧ w'.cell? ⟨bS, 1, none⟩ = some (.int .i64 s.y))) (first | exact ‹(World.ownsRow _ _ _ _ _ _ _ ∧ _) ∧ _› | exact keepS hS (hkp (‹(World.ownsRow _ _ _ _ _ _ _ ∧ _) ∧ _›).1 hb2) | exact keepS hS (hkp ⟨hO, hb, hHs⟩ (Below.refl _ _).drew) | fail)
              (first | (go_at_call 63; refine (side_c hsv hu hv hsok _ _ _ ?_).mono ?_; (focus exact hEg _ (‹(World.ownsRow _ _ _ _ _ _ _ ∧ _) ∧ _›).1); rintro e w1 ⟨rfl, hb2⟩))
            clear hO hb hHs hcc
            obtain ⟨⟨hO, hb, hHs⟩, hcc⟩ := ‹(World.ownsRow _ _ _ _ _ _ _ ∧ _) ∧ _›
            have hE : N.reverse = popT (halfR (L.take k)) s := by rw [← HNP.out, HPP.out, if_neg (by omega)]
            have HE : Hid (N.reverse = popT (halfR (L.take k)) s) := hE
            clear hE
            go_wp2_with (at_builtin; refine wpList_append_lies _ rfl _ _ 24 rfl w.heap.size 37 i0 (.agg #[.int .i64 0, .int .i64 0]) 2 16 Try.underlying24 hi hz0 hz1 hz2 rfl (by decide) _ _ _ rfl (hO.alloc _) _ 1 1 s.vs rfl rfl (cell_two_at rfl) (fun x hx => by simp [T2.vs] at hx; rcases hx with rfl | rfl <;> rfl) (by decide) (by unfold maxLen; omega) (by omega) (by have := hb.size; simp; omega) _ rfl ?_; intro g' cap2 w4 hown1 hgrow hat hlt4)
            go_roundw
            case rel =>
              have hfs : flat N ++ s.vs = flat (N ++ [s]) := by rw [flat_append]; simp [flat]
              rw [hfs] at hown1
              refine ⟨k + 1, some ⟨g', 0, none⟩, cap2, N ++ [s], by omega, by go_num, by simp, by rw [HT.out, List.reverse_append, HE.out]; rfl, ?_, bel_grown (hb.alloc hb.size _) hgrow (fun r hr => (hO.lt r hr).1) (Nat.le_refl _)⟩
              rw [show (N ++ [s]).length = N.length + 1 by simp]
              unfold Ow
              rw [show (N ++ [s]).length = N.length + 1 by simp]
              exact hown1
            case measure => simp [intOf]; omega
          · obtain ⟨sv, hsv⟩ : ∃ sv, sg (crT u v s) = sv := ⟨_, rfl⟩
            have hs0 : sv ≤ 0 := by rw [← hsv, hcv]; unfold sg; rw [if_neg (by omega)]; split <;> omega
            have hdc : decide (sv ≤ 0) = true := decide_eq_true hs0
            go_wp2_with fail
            go_region_held3 (fun w' => (Ow w' w.heap.size (.slice (some ⟨gq, 0, none⟩) N.length cap') N ∧ Below w.heap.size w w' ∧ Has w' [(bS, [.int .i64 s.x, .int .i64 s.y])]) ∧ (w'.cell? ⟨bS, 0, none⟩ = some (.int .i64 s.x) ∧ w'.cell? ⟨bS, 1, none⟩ = some (.int .i64 s.y))) (first | exact ‹(World.ownsRow _ _ _ _ _ _ _ ∧ _) ∧ _› | exact keepS hS (hkp (‹(World.ownsRow _ _ _ _ _ _ _ ∧ _) ∧ _›).1 hb2) | exact keepS hS (hkp ⟨hO, hb, hHs⟩ (Below.refl _ _).drew) | fail)
              (first | (go_at_call 63; refine (side_c hsv hu hv hsok _ _ _ ?_).mono ?_; (focus exact hEg _ (‹(World.ownsRow _ _ _ _ _ _ _ ∧ _) ∧ _›).1); rintro e w1 ⟨rfl, hb2⟩))
            clear hO hb hHs hcc
            obtain ⟨⟨hO, hb, hHs⟩, hcc⟩ := ‹(World.ownsRow _ _ _ _ _ _ _ ∧ _) ∧ _›
            go_wp2
            go_roundw
            case rel =>
              refine ⟨some ⟨gq, 0, none⟩, cap', A ++ [u], by rw [HA.out.1], by rw [HA.out.1]; omega, HA.out.2.2, ?_, ?_, hb, hHs⟩
              · rw [← HNP.out, HPP.out, if_pos hcl]
              · have hO' : Ow _ w.heap.size (.slice (some ⟨gq, 0, none⟩) N.length cap') N := hO
                unfold Ow at hO' ⊢
                rw [HA.out.1]
                have hq := HA.out.2.1
                have hln : N.length = m1 + 1 := by rw [hq, List.length_append, HA.out.1]; rfl
                rw [hln] at hO'
                rw [hq] at hO'
                exact own_take hO' HA.out.1.symm (by omega)
            case measure => simp [lenV]; omega
        · have hd2 : decide ((2 : Int) ≤ (N.length : Int)) = false := decide_eq_false (by omega)
          have hE : N.reverse = popT (halfR (L.take k)) s := by rw [← hNp, pop_short (by omega)]
          have HE : Hid (N.reverse = popT (halfR (L.take k)) s) := hE
          clear hE
          clear hNp hNok
          go_wp2_with fail
          go_quiet (fail)
          have hcc : ∀ {W : World}, Has W [(bS, [.int .i64 s.x, .int .i64 s.y])] → (W.cell? ⟨bS, 0, none⟩ = some (.int .i64 s.x) ∧ W.cell? ⟨bS, 1, none⟩ = some (.int .i64 s.y)) := fun h => by simp [Has, HasAt] at h; simp [h]
          obtain ⟨c0, c1⟩ := hcc hHs
          go_wp2_with (at_builtin; refine wpList_append_lies _ rfl _ _ 24 rfl w.heap.size 37 i0 (.agg #[.int .i64 0, .int .i64 0]) 2 16 Try.underlying24 hi hz0 hz1 hz2 rfl (by decide) _ _ _ rfl ((own_of_below hO (below_drewN _ _)).alloc _) _ 1 1 s.vs rfl rfl (cell_two_at rfl) (fun x hx => by simp [T2.vs] at hx; rcases hx with rfl | rfl <;> rfl) (by decide) (by unfold maxLen; omega) (by omega) (by have := hb.size; simp; omega) _ rfl ?_; intro g' cap2 w4 hown1 hgrow hat hlt4)
          go_roundw
          case rel =>
            have hfs : flat N ++ s.vs = flat (N ++ [s]) := by rw [flat_append]; simp [flat]
            rw [hfs] at hown1
            refine ⟨k + 1, some ⟨g', 0, none⟩, cap2, N ++ [s], by omega, by go_num, by simp, by rw [HT.out, List.reverse_append, HE.out]; rfl, ?_, bel_grown ((bdrewN hb _).alloc (bdrewN hb _).size _) hgrow (fun r hr => (hO.lt r hr).1) (Nat.le_refl _)⟩
            rw [show (N ++ [s]).length = N.length + 1 by simp]
            unfold Ow
            rw [show (N ++ [s]).length = N.length + 1 by simp]
            exact hown1
          case measure => simp [intOf]; omega
    · obtain rfl : k = L.length := by omega
      rw [List.take_length] at hM
      have hM' : M = (halfR L).reverse := by rw [← hM, List.reverse_reverse]
      subst hM'
      go_wp2
      go_ret
      exact ⟨q, cap', rfl, hO, hb⟩
end Go.Proofs.Ytocfdmlkicndoaa
namespace Go.Proofs.Ytocfdmlkicndoaa
open Go.RowKit Go.Joins
attribute [local go_sem ↓] Go.wp_at_zero Go.wp_at_succ

theorem Ow.capS {W : World} {base g n cap : Nat} {M : List T2} (h : Ow W base (.slice (Option.some ⟨g, 0, none⟩) n cap) M) : M.length ≤ cap := by
  rcases h.2 with ⟨h1, _⟩ | ⟨_, _, _, h1, _, _, h2, _⟩
  · cases h1
  · injection h1 with _ _ h1
    subst h1; exact h2
theorem srt_take {L : List T2} {k : Nat} (hk : k < L.length) : srtT (L.take (k + 1)) = insT L[k] (srtT (L.take k)) := by
  rw [List.take_succ_eq_append_getElem hk, srt_snoc]
end Go.Proofs.Ytocfdmlkicndoaa
namespace Go.Proofs.Ytocfdmlkicndoaa
open Go.RowKit Go.Joins
attribute [local go_sem ↓] Go.wp_at_zero Go.wp_at_succ

theorem half_pos {S : List T2} (h : S ≠ []) : 0 < (halfR S).reverse.length := by rw [List.length_reverse]; exact List.length_pos_iff.mpr (half_ne h)
theorem tail_take (K : List T2) {m : Nat} (h : m + 1 = K.reverse.length) : K.reverse.take m = K.tail.reverse := by
  cases K with
  | nil => simp at h
  | cons a t =>
    rw [List.length_reverse] at h
    rw [List.reverse_cons, List.tail_cons, List.take_left' (by simp at h ⊢; omega)]
theorem drop_rev {S : List T2} {m : Nat} (h : m < S.length) : (S.drop m).reverse = (S.drop (m + 1)).reverse ++ [S[m]] := by
  rw [List.drop_eq_getElem_cons h, List.reverse_cons]

end Go.Proofs.Ytocfdmlkicndoaa
namespace Go.Proofs.Ytocfdmlkicndoaa
open Go.RowKit Go.Joins
attribute [local go_sem ↓] Go.wp_at_zero Go.wp_at_succ

theorem leftTurns_v {L A : List T2} {n : Nat} (hnl : L.length = n) (hA : (halfR L).reverse = A) (h1 : 0 < A.length) (p : Option Addr) (cap : Nat) (hok : ∀ c ∈ L, c.ok = true) (hn : L.length ≤ 40) (w : World) (hL : Sl w p L) :
    Calls Try.prog 46 #[.slice p n cap] w fun e w' => ∃ q cap', e = .returned (.slice (some ⟨q, 0, none⟩) A.length cap') ∧ Ow w' w.heap.size (.slice (some ⟨q, 0, none⟩) A.length cap') A ∧ Below w.heap.size w w' := by
  subst hnl
  refine (leftTurns_any p cap L hok hn w hL).mono ?_
  rw [hA]
  rintro e w' ⟨q, cap', rfl, hO, hb⟩
  obtain ⟨g, rfl, _⟩ := Ow.some hO h1
  exact ⟨g, cap', rfl, hO, hb⟩
theorem compact_v {S R : List T2} (hR : cmpc S = R) (base g cap : Nat) (w : World) (hL : Ow w base (.slice (some ⟨g, 0, none⟩) S.length cap) S) (hn : S.length ≤ 1000000) (hn1 : 1 ≤ S.length) :
    Calls Try.prog 43 #[.slice (some ⟨g, 0, none⟩) S.length cap] w fun e w' => e = .returned (.slice (some ⟨g, 0, none⟩) R.length cap) ∧ Ow w' base (.slice (some ⟨g, 0, none⟩) R.length cap) R ∧ w.grownBy w' (some g) := by subst hR; exact compact_any base g cap S w hL hn hn1
theorem reverse_v {L R : List T2} (hR : L.reverse = R) (base g cap : Nat) (w : World) (hL : Ow w base (.slice (some ⟨g, 0, none⟩) L.length cap) L) (hn : L.length ≤ 10000000) (hn1 : 1 ≤ L.length) :
    Calls Try.prog 47 #[.slice (some ⟨g, 0, none⟩) L.length cap] w fun e w' => e = .returned (.tuple #[]) ∧ Ow w' base (.slice (some ⟨g, 0, none⟩) L.length cap) R ∧ w.grownBy w' (some g) := by subst hR; exact reverse_any base g cap L w hL hn hn1
theorem concat_v {LA LB M : List T2} {na nb : Nat} (hna : LA.length = na) (hnb : LB.length = nb) (hM : LA ++ LB = M) (gb ga oa ca gc oc cc : Nat) (w : World) (h0 : w.cell? ⟨gb, 0, none⟩ = some (.slice (some ⟨ga, oa, none⟩) na ca)) (h1 : w.cell? ⟨gb, 1, none⟩ = some (.slice (some ⟨gc, oc, none⟩) nb cc)) (hgb : gb < w.heap.size) (hA : Cs w ga oa LA) (hB : Cs w gc oc LB) (hla : 1 ≤ na) (hla2 : na ≤ 1000) (hlb : nb ≤ 1000) :
    Calls Try.prog 48 #[.slice (some ⟨gb, 0, none⟩) 2 2] w fun e w' => ∃ q cap', e = .returned (.slice (some ⟨q, 0, none⟩) M.length cap') ∧ Ow w' w.heap.size (.slice (some ⟨q, 0, none⟩) M.length cap') M ∧ Below w.heap.size w w' := by
  subst hna hnb hM
  exact concat_any gb ga oa ca gc oc cc LA LB w h0 h1 hgb hA hB hla hla2 hlb

set_option maxRecDepth 100000 in
set_option maxHeartbeats 800000 in
theorem iHull_ok {L R A B M : List T2} (g off cap : Nat) (w : World) (hC : Cs w g off L) (hv : okS L = true) (hl : 1 ≤ L.length) (hl2 : L.length ≤ 40) (hR : srtT L = R) (hR1 : 1 ≤ R.length) (hR2 : R.length ≤ 40) (hok : ∀ c ∈ R, c.ok = true)
    (hA : (halfR R).reverse = A) (hB : (halfR R.reverse).reverse = B) (ma mb : Nat) (h2 : ¬ R.length = 1 → Hid (A.length = ma + 1 ∧ B.length = mb + 1 ∧ 1 ≤ ma ∧ A.take ma ++ B.take mb = M)) (hone : R.length = 1 → Hid (M = R)) (hAl : A.length ≤ 40) (hBl : B.length ≤ 40) :
    Calls Try.prog 21 #[.slice (some ⟨g, off, none⟩) L.length cap] w fun e w' => ∃ q cap', e = .returned (.slice q M.length cap') ∧ Ow w' w.heap.size (.slice q M.length cap') M ∧ Below w.heap.size w w' := by
  have hl0 : ((L.length : Int) == 0) = false := beq_eq_false_iff_ne.mpr (by omega)
  by_cases h1 : R.length = 1
  · have hr1 : ((R.length : Int) == 1) = true := beq_iff_eq.mpr (by omega)
    have hM := hone h1
    clear h1 hone h2
    go_enter Try.func21, Try.ntmps21
    go_wp2_with (first
      | (go_at_call 37; refine (areRight_v hv _ _ _ (Or.inr ⟨g, off, rfl, hC⟩) (by omega)).mono ?_; rintro e w1 ⟨rfl, hb1⟩)
      | (go_at_call 44; refine (sorted_any g off cap L _ (hC.step hb1) (by omega)).mono ?_; rintro e w2 ⟨q, cap', S, rfl, hP, hS, hO, hb2⟩; have hSl : Hid (S.length = L.length) := hP.length_eq)
      | (go_at_call 43; refine (compact_v ((sort_cmpc hP hS).trans hR) _ q cap' _ hO (by have := hSl.out; omega) (by have := hSl.out; omega)).mono ?_; rintro e w3 ⟨rfl, hO3, hg3⟩))
    go_ret
    rw [hM.out]
    have hx := bstep hb1 hb2 (Nat.le_refl _)
    have hO4 := Ow.mono (b' := w.heap.size) hO3 hb1.size
    exact ⟨_, _, rfl, hO4, bel_grown hx hg3 (fun r hr => by injection hr with hr; subst hr; exact Nat.le_trans hb1.size (hO.lt _ rfl).1) (Nat.le_refl _)⟩
  have hr1 : ((R.length : Int) == 1) = false := beq_eq_false_iff_ne.mpr (by omega)
  obtain ⟨hA1, hB1, hma, hM⟩ := (h2 h1).out
  have HA : Hid (A.length = ma + 1) := hA1
  have HB : Hid (B.length = mb + 1) := hB1
  have HM : Hid (A.take ma ++ B.take mb = M) := hM
  have wA : IntKind.i64.wrap ((A.length : Int) - 1) = ma := by rw [IntKind.wrap_i64]; omega
  have wB : IntKind.i64.wrap ((B.length : Int) - 1) = mb := by rw [IntKind.wrap_i64]; omega
  have hA0 : 0 < A.length := by omega
  have hB0 : 0 < B.length := by omega
  have na0 : (0 : Int) ≤ (ma : Int) := by omega
  have nb0 : (0 : Int) ≤ (mb : Int) := by omega
  have hma2 : ma ≤ 40 := by omega
  have hmb2 : mb ≤ 40 := by omega
  have hrok : ∀ c ∈ R.reverse, c.ok = true := fun c hc => hok c (List.mem_reverse.mp hc)
  obtain ⟨R', hR'⟩ : ∃ R', R.reverse = R' := ⟨_, rfl⟩
  have HRl : Hid (R'.length = R.length) := by unfold Hid; rw [← hR']; simp
  rw [hR'] at hrok hB
  clear h1 hone h2 hA1 hB1 hM
  have mk1 : True := trivial
  go_enter Try.func21, Try.ntmps21
  go_upto_region 9 with (first
      | (go_at_call 37; refine (areRight_v hv _ _ _ (Or.inr ⟨g, off, rfl, hC⟩) (by omega)).mono ?_; rintro e w1 ⟨rfl, hb1⟩)
      | (go_at_call 44; refine (sorted_any g off cap L _ (hC.step hb1) (by omega)).mono ?_; rintro e w2 ⟨q, cap', S, rfl, hP, hS, hO, hb2⟩; have hSl : Hid (S.length = L.length) := hP.length_eq)
      | (go_at_call 43; refine (compact_v ((sort_cmpc hP hS).trans hR) _ q cap' _ hO (by have := hSl.out; omega) (by have := hSl.out; omega)).mono ?_; rintro e w3 ⟨rfl, hO3, hg3⟩; have hx : Sx w w3 [(.slice (some ⟨q, 0, none⟩) R.length cap', R)] := Sx.app (A := []) (((Sx.nil w).step hb1).add hO hb2) (Ow.mono hO3 hb1.size) hg3 (.inl rfl))
      | (go_at_call 46; clear mk1; refine (leftTurns_v (n := R.length) rfl hA hA0 _ _ hok hR2 _ (Or.inr ⟨_, _, rfl, Ow.cs hx.o0⟩)).mono ?_; rintro e w4 ⟨qa, capA, rfl, hO4, hb4⟩; replace hx := hx.add hO4 hb4)
      | (go_at_call 47; refine (reverse_v hR' _ q cap' _ hx.o1 (by omega) hR1).mono ?_; rintro e w5 ⟨rfl, hO5, hg5⟩; replace hx := hx.put (A := [_]) hO5 hg5)
      | (go_at_call 46; refine (leftTurns_v (n := R.length) HRl.out hB hB0 _ _ hrok (by have := HRl.out; omega) _ (Or.inr ⟨_, _, rfl, Ow.cs hx.o1⟩)).mono ?_; rintro e w6 ⟨qb, capB, rfl, hO6, hb6⟩; replace hx := hx.add hO6 hb6))
  have hAc : A.length ≤ capA := by obtain ⟨_, _, _, _, h⟩ := Ow.some (M := A) hx.o1 hA0; exact h
  have hBc : B.length ≤ capB := by obtain ⟨_, _, _, _, h⟩ := Ow.some (M := B) hx.o0 hB0; exact h
  have ma1 : ma ≤ capA := by have := HA.out; omega
  have mb1 : mb ≤ capB := by have := HB.out; omega
  have ma2 : (ma : Int) ≤ (capA : Int) := by omega
  have mb2 : (mb : Int) ≤ (capB : Int) := by omega
  have hna : Hid ((A.take ma).length = ma) := by unfold Hid; rw [List.length_take]; have := HA.out; omega
  have hnb : Hid ((B.take mb).length = mb) := by unfold Hid; rw [List.length_take]; have := HB.out; omega
  have hcA : Cs w6 qa 0 (A.take ma) := cs_take (Ow.cs hx.o1) ma
  have hcB : Cs w6 qb 0 (B.take mb) := cs_take (Ow.cs hx.o0) mb
  have hbx := hx.bel
  clear hx hO hO3 hO4 hO5 hO6 hb1 hb2 hb4 hb6 hg3 hg5 hP hS hSl hAc hBc HRl hR' hok hrok hA hB hR hv hC
  have hst : Below w6.heap.size w6 w6 := Below.refl _ _
  go_region_held3 (fun w' => Below w6.heap.size w6 w') (first | exact ‹Below w6.heap.size w6 _› | exact bstep ‹Below w6.heap.size w6 _› hb7 (Nat.le_refl _) | exact (‹Below w6.heap.size w6 _›).alloc (‹Below w6.heap.size w6 _›).size _ | exact hst.drew | fail)
    (first | (go_at_call 48; refine (concat_v hna.out hnb.out HM.out _ qa 0 capA qb 0 capB _ ?_ ?_ ?_ ?_ ?_ hma (by omega) (by omega)).mono ?_; (focus (simp [go_sem]; done)); (focus (simp [go_sem]; done)); (focus (simp; done)); (focus exact hcA.step (by assumption)); (focus exact hcB.step (by assumption)); rintro e w7 ⟨qc, capC, rfl, hO7, hb7⟩))
  go_wp2
  go_ret
  exact ⟨_, _, rfl, Ow.mono hO7 (Nat.le_trans hbx.size (below_alloc1 w6 _).size), bstep hbx ‹Below w6.heap.size w6 w7› (Nat.le_refl _)⟩

set_option maxHeartbeats 800000 in
theorem iHull_any (p : Option Addr) (cap : Nat) (L : List T2) (hn : L.length ≤ 1048576) (w : World) (hL : Sl w p L) :
    Calls Try.prog 21 #[.slice p L.length cap] w fun e w' => ∃ q cap', e = .returned (.slice q (hulT L).length cap') ∧ Ow w' w.heap.size (.slice q (hulT L).length cap') (hulT L) ∧ Below w.heap.size w w' := by
  rcases Nat.eq_zero_or_pos L.length with h0 | h0
  · obtain rfl := List.eq_nil_of_length_eq_zero h0
    have e : hulT [] = [] := List.eq_nil_of_length_eq_zero (hul_nil.mpr (.inr rfl))
    rw [e]
    change Calls Try.prog 21 #[.slice p 0 cap] w _
    go_enter Try.func21, Try.ntmps21
    go_wp2
    go_ret
    exact ⟨none, 0, rfl, Ow.nil _ _, Below.refl _ _⟩
  cases hv : okS L
  · have e : hulT L = [] := by simp [hulT, hv]
    rw [e]
    have hl0 : ((L.length : Int) == 0) = false := beq_eq_false_iff_ne.mpr (by omega)
    go_enter Try.func21, Try.ntmps21
    go_wp2_with (go_at_call 37; refine (areRight_v hv _ _ _ hL hn).mono ?_; rintro e w1 ⟨rfl, hb1⟩)
    go_ret
    exact ⟨none, 0, rfl, Ow.nil _ _, hb1⟩
  · have e : hulT L = hullS (srtT L) := by simp [hulT, hv]
    obtain ⟨g, off, rfl, hC⟩ := hL.at h0
    have hris := okS_ris hv
    have hl2 := okS_len hv
    have hsl := srt_len L
    have hok : ∀ c ∈ srtT L, c.ok = true := fun c hc => okS_all hv c ((srt_mem L).mp hc)
    have h1 : 1 ≤ (srtT L).length := by
      have : L[0] ∈ srtT L := (srt_mem L).mpr (List.getElem_mem h0)
      exact List.length_pos_of_mem this
    have ha := half_len (srtT L)
    have hb := half_len (srtT L).reverse
    rw [List.length_reverse] at hb
    refine iHull_ok (R := srtT L) (A := (halfR (srtT L)).reverse) (B := (halfR (srtT L).reverse).reverse) (M := hulT L) g off cap w hC hv (by omega) hl2 rfl h1 (by omega) hok rfl rfl ((halfR (srtT L)).reverse.length - 1) ((halfR (srtT L).reverse).reverse.length - 1) (fun h2 => ?_) (fun h2 => ?_) (by rw [List.length_reverse]; omega) (by rw [List.length_reverse]; omega)
    · obtain ⟨z, a, r, e1, _⟩ := half_two hris (by omega)
      obtain ⟨z', a', r', f1, _⟩ := half_two (ris_rev hris) (by simp; omega)
      have l1 : 2 ≤ (halfR (srtT L)).reverse.length := by rw [List.length_reverse, e1]; simp
      have l2 : 2 ≤ (halfR (srtT L).reverse).reverse.length := by rw [List.length_reverse, f1]; simp
      refine ⟨by omega, by omega, by omega, ?_⟩
      rw [tail_take _ (by omega), tail_take _ (by omega), e]
      unfold hullS
      rw [if_neg (by omega)]
    · unfold Hid
      rw [e]; unfold hullS
      rw [if_pos (by omega)]
end Go.Proofs.Ytocfdmlkicndoaa
