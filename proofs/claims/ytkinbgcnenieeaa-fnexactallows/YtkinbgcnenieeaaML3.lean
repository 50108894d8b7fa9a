/-
  The law's own looks at lists of Cells, second part: alike, still marked, not too long; a state that carries several lists.
-/
import Derived.Test.YtkinbgcnenieeaaML2
import Derived.Test.YtkinbgcnenieeaaMX2
import Derived.Deep.RegionHeld3
namespace Go.Proofs.Ytkinbgcnenieeaa.M
open Go.RowKit Go.Joins


set_option maxHeartbeats 1000000 in
theorem szCellS_ok (p : Option Addr) (n cap : Nat) (left : Int) (w : World) (h0 : (n : Int) ≤ left) (h1 : left ≤ 1048576) :
    Calls Try.prog 48 #[.slice p n cap, .int .i64 left] w fun e w' => e = .returned (.int .i64 (left - n)) ∧ w' = w := by
  go_enter Try.func48, Try.ntmps48
  go_wp2
  go_ret
  exact ⟨rfl, rfl⟩
set_option maxHeartbeats 1000000 in
theorem szCellS_no (p : Option Addr) (n cap : Nat) (left : Int) (w : World) (h0 : left < n) (h1 : 0 ≤ left) (h2 : n ≤ maxLen) :
    Calls Try.prog 48 #[.slice p n cap, .int .i64 left] w fun e w' => e = .returned (.int .i64 (-1)) ∧ w' = w := by
  unfold maxLen at h2
  go_enter Try.func48, Try.ntmps48
  go_wp2
  go_ret
  exact ⟨rfl, rfl⟩

set_option maxHeartbeats 1000000 in
theorem eqCellS_same (p q : Option Addr) (cap cap' : Nat) (L : List T3) (w : World) (hp : Sl w p L) (hq : Sl w q L) (hn : L.length ≤ 10000000) :
    Calls Try.prog 13 #[.slice p L.length cap, .slice q L.length cap'] w fun e w' => e = .returned (.bool true) ∧ Below w.heap.size w w' := by
  go_enter Try.func13, Try.ntmps13
  go_wp2
  go_loopw [5] (fun i wr => ∃ k : Nat, k ≤ L.length ∧ i = .int .i64 k ∧ Below w.heap.size w wr) (fun i _ => L.length - (intOf i).toNat)
  case atStart => exact ⟨0, by omega, rfl, Below.refl _ _⟩
  case round =>
    obtain ⟨k, hk, rfl, hb⟩ := hrel
    by_cases hlt : k < L.length
    · have hki : (k : Int) < L.length := by omega
      obtain ⟨g1, o1, rfl, hC1⟩ := hp.at hlt
      obtain ⟨g2, o2, rfl, hC2⟩ := hq.at hlt
      have hS : ∀ w', Below w.heap.size w w' → (w'.cell? ⟨g1, o1 + k * 3, none⟩ = some (.int .i64 L[k].l) ∧ w'.cell? ⟨g1, o1 + k * 3 + 1, none⟩ = some (.int .i64 L[k].x) ∧ w'.cell? ⟨g1, o1 + k * 3 + 2, none⟩ = some (.int .i64 L[k].y)) ∧ (w'.cell? ⟨g2, o2 + k * 3, none⟩ = some (.int .i64 L[k].l) ∧ w'.cell? ⟨g2, o2 + k * 3 + 1, none⟩ = some (.int .i64 L[k].x) ∧ w'.cell? ⟨g2, o2 + k * 3 + 2, none⟩ = some (.int .i64 L[k].y)) :=
        fun w' h => ⟨(hC1.step h).2 k L[k] (List.getElem?_eq_getElem hlt), (hC2.step h).2 k L[k] (List.getElem?_eq_getElem hlt)⟩
      have hcc := hS _ hb
      go_wp2
      go_region_held3 (fun w' => Below w.heap.size w w' ∧ (w'.cell? ⟨g1, o1 + k * 3, none⟩ = some (.int .i64 L[k].l) ∧ w'.cell? ⟨g1, o1 + k * 3 + 1, none⟩ = some (.int .i64 L[k].x) ∧ w'.cell? ⟨g1, o1 + k * 3 + 2, none⟩ = some (.int .i64 L[k].y)) ∧ (w'.cell? ⟨g2, o2 + k * 3, none⟩ = some (.int .i64 L[k].l) ∧ w'.cell? ⟨g2, o2 + k * 3 + 1, none⟩ = some (.int .i64 L[k].x) ∧ w'.cell? ⟨g2, o2 + k * 3 + 2, none⟩ = some (.int .i64 L[k].y))) (first | exact ‹Below _ _ _ ∧ _› | exact keepS hS (bstep (‹Below _ _ _ ∧ _›).1 hb2 (Nat.le_refl _)) | exact keepS hS hb.drew | fail)
        (first | (go_at_call 31; refine (eqCell_same _ _ _ _).mono ?_; rintro e w1 ⟨rfl, hb2⟩))
      clear hb hcc
      obtain ⟨hb, hcc⟩ := ‹Below _ _ _ ∧ _›
      go_wp2
      go_roundw
      case rel => exact ⟨k + 1, by omega, by go_num, hb⟩
      case measure => simp [intOf]; omega
    · obtain rfl : k = L.length := by omega
      go_wp2
      go_ret
      exact ⟨rfl, hb⟩

set_option maxHeartbeats 1000000 in
theorem heldCellS_any (p : Option Addr) (cap : Nat) (k0 : Int) (n : Nat) (w : World) (hL : Sl w p (mk k0 n)) (hn : n ≤ 10000000) (hk0 : 0 ≤ k0) (hk1 : k0 ≤ 100000000) :
    Calls Try.prog 16 #[.slice p n cap, .int .i64 k0] w fun e w' => e = .returned (.int .i64 (k0 + 3 * n)) ∧ w' = w := by
  go_enter Try.func16, Try.ntmps16
  go_wp2
  go_loop [1, 5] (fun kv i => ∃ k : Nat, k ≤ n ∧ i = .int .i64 k ∧ kv = .int .i64 (k0 + 3 * k)) (fun _ i => n - (intOf i).toNat)
  case atStart => exact ⟨0, by omega, rfl, by simp⟩
  case round =>
    obtain ⟨k, hk, rfl, rfl⟩ := hrel
    by_cases hlt : k < n
    · have hki : (k : Int) < n := by omega
      obtain ⟨g, off, rfl, hC⟩ := hL.at (k := k) (by rw [mk_len]; exact hlt)
      obtain ⟨d0, d1, d2⟩ := hC.2 k _ (mk_get hlt)
      have e2 : k0 + 3 * (k : Int) + 2 = k0 + 3 * (k : Int) + 1 + 1 := by omega
      simp only [e2] at d2
      clear e2
      go_wp2
      go_round
      case rel => exact ⟨k + 1, by omega, by go_num, by congr 1; omega⟩
      case measure => simp [intOf]; omega
    · obtain rfl : k = n := by omega
      go_wp2
      go_ret
      exact ⟨rfl, rfl⟩

/-- Behind w nothing old has turned; the listed values are lists of new memory, no two share any. -/
structure Sx (w W : World) (ls : List (Value × List T3)) : Prop where
  bel : Below w.heap.size w W
  own : ∀ p ∈ ls, Ow W w.heap.size p.1 p.2
  dis : ls.Pairwise fun p q => p.1.ownBlock = none ∨ p.1.ownBlock ≠ q.1.ownBlock
theorem Ow.mono {W : World} {b b' : Nat} {v : Value} {L : List T3} (h : Ow W b v L) (hb : b' ≤ b) : Ow W b' v L := by
  rcases h with ⟨h0, h1 | ⟨g, cap, cur, e, hg, r⟩⟩
  · exact ⟨h0, .inl h1⟩
  · exact ⟨h0, .inr ⟨g, cap, cur, e, Nat.le_trans hb hg, r⟩⟩
theorem Sx.nil (w : World) : Sx w w [] := ⟨Below.refl _ _, by simp, .nil⟩
theorem Sx.step {w W W' : World} {ls : List (Value × List T3)} (h : Sx w W ls) (hb : Below W.heap.size W W') : Sx w W' ls :=
  ⟨bstep h.bel hb (Nat.le_refl _), fun p hp => own_of_below (h.own p hp) hb, h.dis⟩
theorem Sx.add {w W W' : World} {ls : List (Value × List T3)} {v : Value} {M : List T3} (h : Sx w W ls) (hr : Ow W' W.heap.size v M) (hb : Below W.heap.size W W') : Sx w W' ((v, M) :: ls) := by
  have h' := h.step hb
  refine ⟨h'.bel, fun p hp => ?_, .cons (fun q hq => ?_) h'.dis⟩
  · rcases List.mem_cons.mp hp with rfl | hp
    · exact Ow.mono hr h.bel.size
    · exact h'.own p hp
  · cases hv : v.ownBlock with
    | none => exact .inl rfl
    | some g =>
      refine .inr fun e => ?_
      have h1 := hr.lt g hv
      have h2 := (h.own q hq).lt g e.symm
      omega
theorem Sx.sub {w W : World} {ls ls' : List (Value × List T3)} (h : Sx w W ls) (hs : ls'.Sublist ls) : Sx w W ls' := ⟨h.bel, fun p hp => h.own p (hs.subset hp), h.dis.sublist hs⟩
/-- One of the lists is written into. -/
theorem Sx.put {w W W' : World} {A B : List (Value × List T3)} {v : Value} {L M : List T3} (h : Sx w W (A ++ (v, L) :: B)) (hr : Ow W' w.heap.size v M) (hg : W.grownBy W' v.ownBlock) : Sx w W' (A ++ (v, M) :: B) := by
  have hv := h.own (v, L) (by simp)
  have hd := h.dis
  rw [List.pairwise_append, List.pairwise_cons] at hd
  obtain ⟨dA, ⟨dv, dB⟩, dAB⟩ := hd
  refine ⟨⟨hg.os.trans h.bel.os, hg.tape.trans h.bel.tape, hg.output.trans h.bel.output, Nat.le_trans h.bel.size hg.size, fun k hk => ?_⟩, fun p hp => ?_, ?_⟩
  · refine (hg.block k (Nat.lt_of_lt_of_le hk h.bel.size) (fun e => ?_)).trans (h.bel.block k hk)
    have := hv.lt k e.symm
    omega
  · simp only [List.mem_append, List.mem_cons] at hp
    rcases hp with hp | rfl | hp
    · refine (h.own p (by simp [hp])).kept hg ?_
      exact dAB p hp (v, L) (by simp)
    · exact hr
    · refine (h.own p (by simp [hp])).kept hg ?_
      rcases dv p hp with e | e
      · rw [e]; cases hp' : p.1.ownBlock <;> simp
      · exact .inr (fun e' => e e'.symm)
  · rw [List.pairwise_append, List.pairwise_cons]
    exact ⟨dA, ⟨dv, dB⟩, fun a ha b hb => by
      rcases List.mem_cons.mp hb with rfl | hb
      · exact dAB a ha (v, L) (by simp)
      · exact dAB a ha b (by simp [hb])⟩
end Go.Proofs.Ytkinbgcnenieeaa.M
