/-
  Lists of several kinds in memory of one's own, none sharing any; the law's own looks at lists of numbers.
-/
import Derived.Test.YtgpgmndjkcpaoaaSP1
import Derived.Test.YtgpgmndjkcpaoaaN4
namespace Go.Proofs.Ytgpgmndjkcpaoaa
open Go.RowKit Go.Joins

structure Rw where
  v : Value
  e : TypeId
  s : Nat
  n : Nat
  xs : List Value
def Rw.own (r : Rw) (W : World) (base : Nat) : Prop := W.ownsRow base r.e r.s r.v r.n r.xs
def r2 (v : Value) (L : List T2) : Rw := ⟨v, 83, 2, L.length, flat L⟩
def r4 (v : Value) (L : List T4) : Rw := ⟨v, 35, 4, L.length, flat4 L⟩
def r1 (v : Value) (L : List Int) : Rw := ⟨v, 2, 1, L.length, flat1 L⟩
structure Sg (w W : World) (rs : List Rw) : Prop where
  bel : Below w.heap.size w W
  own : ∀ r ∈ rs, r.own W w.heap.size
  dis : rs.Pairwise fun p q => p.v.ownBlock = none ∨ p.v.ownBlock ≠ q.v.ownBlock
theorem own_mono {W : World} {b b' size n : Nat} {e : TypeId} {v : Value} {xs : List Value} (h : W.ownsRow b e size v n xs) (hb : b' ≤ b) : W.ownsRow b' e size v n xs := by
  rcases h with ⟨h0, h1 | ⟨g, cap, cur, e, hg, r⟩⟩
  · exact ⟨h0, .inl h1⟩
  · exact ⟨h0, .inr ⟨g, cap, cur, e, Nat.le_trans hb hg, r⟩⟩
theorem Sg.nil (w : World) : Sg w w [] := ⟨Below.refl _ _, by simp, .nil⟩
theorem Sg.step {w W W' : World} {rs : List Rw} (h : Sg w W rs) (hb : Below W.heap.size W W') : Sg w W' rs :=
  ⟨bstep h.bel hb (Nat.le_refl _), fun p hp => own_of_below (h.own p hp) hb, h.dis⟩
theorem Sg.add {w W W' : World} {rs : List Rw} {r : Rw} (h : Sg w W rs) (hr : r.own W' W.heap.size) (hb : Below W.heap.size W W') : Sg w W' (r :: rs) := by
  have h' := h.step hb
  refine ⟨h'.bel, fun p hp => ?_, .cons (fun q hq => ?_) h'.dis⟩
  · rcases List.mem_cons.mp hp with rfl | hp
    · exact own_mono hr h.bel.size
    · exact h'.own p hp
  · cases hv : r.v.ownBlock with
    | none => exact .inl rfl
    | some g =>
      refine .inr fun e => ?_
      have h1 := World.ownsRow.lt hr g hv
      have h2 := World.ownsRow.lt (h.own q hq) g e.symm
      omega
theorem Sg.sub {w W : World} {rs rs' : List Rw} (h : Sg w W rs) (hs : rs'.Sublist rs) : Sg w W rs' := ⟨h.bel, fun p hp => h.own p (hs.subset hp), h.dis.sublist hs⟩
theorem Sg.put {w W W' : World} {A B : List Rw} {r r' : Rw} (h : Sg w W (A ++ r :: B)) (hv : r'.v = r.v) (hr : r'.own W' w.heap.size) (hg : W.grownBy W' r.v.ownBlock) : Sg w W' (A ++ r' :: B) := by
  have hd := h.dis
  rw [List.pairwise_append, List.pairwise_cons] at hd
  obtain ⟨dA, ⟨dv, dB⟩, dAB⟩ := hd
  have hrr := h.own r (by simp)
  refine ⟨⟨hg.os.trans h.bel.os, hg.tape.trans h.bel.tape, hg.output.trans h.bel.output, Nat.le_trans h.bel.size hg.size, fun k hk => ?_⟩, fun p hp => ?_, ?_⟩
  · refine (hg.block k (Nat.lt_of_lt_of_le hk h.bel.size) (fun e => ?_)).trans (h.bel.block k hk)
    have := World.ownsRow.lt hrr k e.symm
    omega
  · simp only [List.mem_append, List.mem_cons] at hp
    rcases hp with hp | rfl | hp
    · refine World.ownsRow.kept (h.own p (by simp [hp])) hg ?_
      exact dAB p hp r (by simp)
    · exact hr
    · refine World.ownsRow.kept (h.own p (by simp [hp])) hg ?_
      rcases dv p hp with e | e
      · rw [e]; cases hp' : p.v.ownBlock <;> simp
      · exact .inr (fun e' => e e'.symm)
  · rw [List.pairwise_append, List.pairwise_cons]
    refine ⟨dA, ⟨fun p hp => by rw [hv]; exact dv p hp, dB⟩, fun a ha b hb => ?_⟩
    rcases List.mem_cons.mp hb with rfl | hb
    · rw [hv]; exact dAB a ha r (by simp)
    · exact dAB a ha b (by simp [hb])
/-- One of the lists has grown, at its place or elsewhere. -/
theorem Sg.app {w W W' : World} {A B : List Rw} {r r' : Rw} (h : Sg w W (A ++ r :: B)) (hr : r'.own W' w.heap.size) (hg : W.grownBy W' r.v.ownBlock) (hat : ∀ g, r'.v.ownBlock = some g → r.v.ownBlock = some g ∨ W.heap.size ≤ g) : Sg w W' (A ++ r' :: B) := by
  have hd := h.dis
  rw [List.pairwise_append, List.pairwise_cons] at hd
  obtain ⟨dA, ⟨dv, dB⟩, dAB⟩ := hd
  have hrr := h.own r (by simp)
  have far : ∀ p ∈ A ++ B, p.v.ownBlock = none ∨ p.v.ownBlock ≠ r.v.ownBlock := by
    intro p hp
    rcases List.mem_append.mp hp with hp | hp
    · exact dAB p hp r (by simp)
    · rcases dv p hp with e | e
      · rw [e]; cases p.v.ownBlock <;> simp
      · exact .inr fun e' => e e'.symm
  have mem : ∀ p ∈ A ++ B, p ∈ A ++ r :: B := by
    intro p hp
    rcases List.mem_append.mp hp with hp | hp
    · exact List.mem_append_left _ hp
    · exact List.mem_append_right _ (List.mem_cons_of_mem _ hp)
  have far' : ∀ p ∈ A ++ B, p.v.ownBlock = none ∨ p.v.ownBlock ≠ r'.v.ownBlock := by
    intro p hp
    cases e : p.v.ownBlock with
    | none => exact .inl rfl
    | some g =>
      refine .inr fun e' => ?_
      rcases hat g e'.symm with e2 | e2
      · rcases far p hp with f | f
        · rw [e] at f; cases f
        · exact f (by rw [e, e2])
      · have := World.ownsRow.lt (h.own p (mem p hp)) g e
        omega
  refine ⟨⟨hg.os.trans h.bel.os, hg.tape.trans h.bel.tape, hg.output.trans h.bel.output, Nat.le_trans h.bel.size hg.size, fun k hk => ?_⟩, fun p hp => ?_, ?_⟩
  · refine (hg.block k (Nat.lt_of_lt_of_le hk h.bel.size) (fun e => ?_)).trans (h.bel.block k hk)
    have := World.ownsRow.lt hrr k e.symm
    omega
  · simp only [List.mem_append, List.mem_cons] at hp
    rcases hp with hp | rfl | hp
    · exact World.ownsRow.kept (h.own p (by simp [hp])) hg (far p (by simp [hp]))
    · exact hr
    · exact World.ownsRow.kept (h.own p (by simp [hp])) hg (far p (by simp [hp]))
  · rw [List.pairwise_append, List.pairwise_cons]
    refine ⟨dA, ⟨fun p hp => ?_, dB⟩, fun a ha b hb => ?_⟩
    · rcases far' p (by simp [hp]) with e | e
      · rw [e]; cases r'.v.ownBlock <;> simp
      · exact .inr fun e' => e e'.symm
    · rcases List.mem_cons.mp hb with rfl | hb
      · exact far' a (by simp [ha])
      · exact dAB a ha b (by simp [hb])
theorem Sg.o0 {w W : World} {a : Rw} {l : List Rw} (h : Sg w W (a :: l)) : a.own W w.heap.size := h.own _ (by simp)
theorem Sg.o1 {w W : World} {a b : Rw} {l : List Rw} (h : Sg w W (a :: b :: l)) : b.own W w.heap.size := h.own _ (by simp)
theorem Sg.o2 {w W : World} {a b c : Rw} {l : List Rw} (h : Sg w W (a :: b :: c :: l)) : c.own W w.heap.size := h.own _ (by simp)
theorem Sg.o3 {w W : World} {a b c d : Rw} {l : List Rw} (h : Sg w W (a :: b :: c :: d :: l)) : d.own W w.heap.size := h.own _ (by simp)
theorem Sg.d0 {w W : World} {a : Rw} {l : List Rw} (h : Sg w W (a :: l)) : Sg w W l := h.sub (List.sublist_cons_self ..)
theorem Sg.d1 {w W : World} {a b : Rw} {l : List Rw} (h : Sg w W (a :: b :: l)) : Sg w W (a :: l) := h.sub ((List.sublist_cons_self ..).cons_cons _)
theorem rw_s {W : World} {base n cap : Nat} {p : Option Addr} {L : List T2} (h : (r2 (.slice p n cap) L).own W base) : Ow W base (.slice p n cap) L := h
theorem rw_4 {W : World} {base n cap : Nat} {p : Option Addr} {L : List T4} (h : (r4 (.slice p n cap) L).own W base) : Ow4 W base (.slice p n cap) L := h
theorem rw_i {W : World} {base n cap : Nat} {p : Option Addr} {L : List Int} (h : (r1 (.slice p n cap) L).own W base) : Ow1 W base (.slice p n cap) L := h

set_option maxHeartbeats 1000000 in
theorem eqInt64S_same (p q : Option Addr) (cap cap' : Nat) (L : List Int) (w : World) (hp : Sl1 w p L) (hq : Sl1 w q L) (_hn : L.length ≤ 10000000) :
    Calls Try.prog 38 #[.slice p L.length cap, .slice q L.length cap'] w fun e w' => e = .returned (.bool true) ∧ Below w.heap.size w w' := by
  go_enter Try.func38, Try.ntmps38
  go_wp2
  go_loopw [5] (fun i wr => ∃ k : Nat, k ≤ L.length ∧ i = .int .i64 k ∧ Below w.heap.size w wr) (fun i _ => L.length - (intOf i).toNat)
  case atStart => exact ⟨0, by omega, rfl, Below.refl _ _⟩
  case round =>
    obtain ⟨k, hk, rfl, hb⟩ := hrel
    by_cases hlt : k < L.length
    · have hki : (k : Int) < L.length := by omega
      obtain ⟨g, off, rfl, hC⟩ := (hp.step hb).at hlt
      obtain ⟨g2, off2, rfl, hC2⟩ := (hq.step hb).at hlt
      have c0 := hC.2 k L[k] (List.getElem?_eq_getElem hlt)
      have d0 := hC2.2 k L[k] (List.getElem?_eq_getElem hlt)
      go_wp2
      go_region_with fail
      all_goals
        go_wp2
        go_roundw
        case rel => exact ⟨k + 1, by omega, by go_num, hb.drew⟩
        case measure => simp [intOf]; omega
    · obtain rfl : k = L.length := by omega
      go_wp2
      go_ret
      exact ⟨rfl, hb⟩

def mk1 (k : Int) (n : Nat) : List Int := (List.range n).map fun i : Nat => k + (i : Int)
theorem mk1_get {k : Int} {n i : Nat} (h : i < n) : (mk1 k n)[i]? = some (k + i) := by simp [mk1, h]
theorem mk1_len (k : Int) (n : Nat) : (mk1 k n).length = n := by simp [mk1]

set_option maxHeartbeats 1000000 in
theorem markInt64S_any (p : Option Addr) (cap base : Nat) (k0 : Int) (L : List Int) (w : World) (hL : Ow1 w base (.slice p L.length cap) L) (hn : L.length ≤ 10000000) (hk0 : 0 ≤ k0) (hk1 : k0 ≤ 100000000) :
    Calls Try.prog 39 #[.slice p L.length cap, .int .i64 k0] w fun e w' => e = .returned (.int .i64 (k0 + L.length)) ∧ Ow1 w' base (.slice p L.length cap) (mk1 k0 L.length) ∧ w.grownBy w' (Value.slice p L.length cap).ownBlock := by
  go_enter Try.func39, Try.ntmps39
  go_wp2
  go_loopw [1, 5] (fun kv i wr => ∃ (k : Nat) (M : List Int), k ≤ L.length ∧ i = .int .i64 k ∧ kv = .int .i64 (k0 + k) ∧ M.length = L.length ∧ (∀ j, j < k → M[j]? = (mk1 k0 L.length)[j]?) ∧ Ow1 wr base (.slice p L.length cap) M ∧ w.grownBy wr (Value.slice p L.length cap).ownBlock) (fun _ i _ => L.length - (intOf i).toNat)
  case atStart => exact ⟨0, L, by omega, rfl, by simp, rfl, by simp, hL, ⟨rfl, rfl, rfl, Nat.le_refl _, fun _ _ _ => rfl⟩⟩
  case round =>
    obtain ⟨k, M, hk, rfl, rfl, hM, hjs, hrow, hg⟩ := hrel
    by_cases hlt : k < L.length
    · have hki : (k : Int) < L.length := by omega
      have hkM : k < M.length := by omega
      obtain ⟨g, off, rfl, _⟩ := (Ow1.sl hrow).at hkM
      have hoff : off = 0 := by rcases hrow.2 with ⟨h1, _⟩ | ⟨_, _, _, h1, _⟩ <;> injection h1 with h1 <;> first | (cases h1; done) | (injection h1 with h1; injection h1)
      subst hoff
      have d0 := (Ow1.cs hrow).2 k M[k] (List.getElem?_eq_getElem hkM)
      simp only [Nat.zero_add] at d0
      have HR : Hid (Ow1 wr base (.slice (some ⟨g, 0, none⟩) L.length cap) M) := hrow
      have hf : ∀ j, wr.frozen? ⟨g, j, none⟩ = false := by
        have := hrow
        unfold Ow1 at this
        rw [hM] at this
        exact this.frozenAt
      clear hrow
      go_wp2
      go_roundw
      case rel =>
        obtain ⟨s1, t1⟩ := Ow1.stored HR.out (k := k) (k0 + (k : Int))
        refine ⟨k + 1, M.set k (k0 + (k : Int)), by omega, by go_num, by congr 1; omega, by simp [hM], fun j hj => ?_, s1, gtrans hg t1⟩
        by_cases e : k = j
        · subst e; rw [List.getElem?_set_self hkM, mk1_get hlt]
        · rw [List.getElem?_set_ne e]; exact hjs j (by omega)
      case measure => simp [intOf]; omega
    · obtain rfl : k = L.length := by omega
      go_wp2
      go_ret
      obtain rfl : M = mk1 k0 L.length := List.ext_getElem? fun j => by
        by_cases hj : j < L.length
        · exact hjs j hj
        · rw [List.getElem?_eq_none (by omega), List.getElem?_eq_none (by rw [mk1_len]; omega)]
      exact ⟨rfl, hrow, hg⟩

set_option maxHeartbeats 1000000 in
theorem heldInt64S_any (p : Option Addr) (cap : Nat) (k0 : Int) (n : Nat) (w : World) (hL : Sl1 w p (mk1 k0 n)) (hn : n ≤ 10000000) (hk0 : 0 ≤ k0) (hk1 : k0 ≤ 100000000) :
    Calls Try.prog 40 #[.slice p n cap, .int .i64 k0] w fun e w' => e = .returned (.int .i64 (k0 + n)) ∧ w' = w := by
  go_enter Try.func40, Try.ntmps40
  go_wp2
  go_loop [1, 5] (fun kv i => ∃ k : Nat, k ≤ n ∧ i = .int .i64 k ∧ kv = .int .i64 (k0 + k)) (fun _ i => n - (intOf i).toNat)
  case atStart => exact ⟨0, by omega, rfl, by simp⟩
  case round =>
    obtain ⟨k, hk, rfl, rfl⟩ := hrel
    by_cases hlt : k < n
    · have hki : (k : Int) < n := by omega
      obtain ⟨g, off, rfl, hC⟩ := hL.at (k := k) (by rw [mk1_len]; exact hlt)
      have d0 := hC.2 k _ (mk1_get hlt)
      go_wp2
      go_round
      case rel => exact ⟨k + 1, by omega, by go_num, by congr 1; omega⟩
      case measure => simp [intOf]; omega
    · obtain rfl : k = n := by omega
      go_wp2
      go_ret
      exact ⟨rfl, rfl⟩
end Go.Proofs.Ytgpgmndjkcpaoaa
