/-
  A Directory in which one Own becomes others: the program's change, for a split and for a gift; plain mathematics of both.
-/
import Derived.Test.YtamnmakegdnblaaKP5
import Derived.Test.YtamnmakegdnblaaKD8
namespace Go.Proofs.Ytamnmakegdnblaa.K.D
open Go.Shelf Go.RowKit Go.Joins
attribute [local go_sem] Oper.semAt_some

/-- The Owns of L begin at a, each where the one ahead of it ends, and end at b. -/
def chain (a : Int) : List On → Int → Prop
  | [], b => a = b
  | o :: r, b => o.t.lo = a ∧ chain (a + area o) r b
theorem chain_app : ∀ {A B : List On} {a b : Int}, chain a (A ++ B) b ↔ ∃ m, chain a A m ∧ chain m B b
  | [], B, a, b => by simp [chain]
  | o :: r, B, a, b => by
    simp only [List.cons_append, chain]
    rw [chain_app (A := r)]
    constructor
    · rintro ⟨h, m, h1, h2⟩; exact ⟨m, ⟨h, h1⟩, h2⟩
    · rintro ⟨m, ⟨h, h1⟩, h2⟩; exact ⟨h, m, h1, h2⟩
def arsum (L : List On) : Int := (L.map area).sum
theorem chain_end : ∀ {L : List On} {a b : Int}, chain a L b → b = a + arsum L
  | [], a, b, h => by simp only [chain] at h; simp [arsum, h]
  | o :: r, a, b, h => by
    have := chain_end h.2
    simp only [arsum, List.map_cons, List.sum_cons] at this ⊢
    omega
theorem arS_cons (o : On) (r : List On) (k : Nat) : arS (o :: r) (k + 1) = area o + arS r k := by simp [arS]
theorem chain_iff : ∀ {L : List On} {a b : Int}, chain a L b ↔ (∀ j, j < L.length → (L.getD j zon).t.lo = a + arS L j) ∧ a + arS L L.length = b
  | [], a, b => by simp [chain, arS]
  | o :: r, a, b => by
    simp only [chain]
    rw [chain_iff (L := r)]
    constructor
    · rintro ⟨h, h1, h2⟩
      refine ⟨fun j hj => ?_, ?_⟩
      · cases j with
        | zero => simp only [arS_zero, List.getD_cons_zero]; omega
        | succ j =>
          have := h1 j (by simpa using hj)
          rw [arS_cons, List.getD_cons_succ, this]; omega
      · rw [List.length_cons, arS_cons]; omega
    · rintro ⟨h1, h2⟩
      refine ⟨?_, fun j hj => ?_, ?_⟩
      · have := h1 0 (by simp); simpa [arS_zero] using this
      · have := h1 (j + 1) (by simpa using hj)
        rw [arS_cons, List.getD_cons_succ] at this
        omega
      · rw [List.length_cons, arS_cons] at h2; omega
theorem dir_chain {e : Int} {L : List On} : dirB e L = true ↔ M.inB e 1 100000 = true ∧ L.length ≤ 64 ∧ (∀ o ∈ L, onB o = true) ∧ chain 0 L 65536 := by
  have hal : (∀ o ∈ L, onB o = true) ↔ ∀ j, j < L.length → onB (L.getD j zon) = true := by rw [← all_iff, List.all_eq_true]
  rw [chain_iff, hal]
  constructor
  · intro h
    obtain ⟨a, b, c, d, f⟩ := dir_whole h
    exact ⟨a, b, c, fun j hj => by rw [d j hj]; omega, by omega⟩
  · rintro ⟨a, b, c, d, f⟩
    exact whole_dir a b c (fun j hj => by rw [d j hj]; omega) (by omega)
theorem list_at {L : List On} {k : Nat} (hk : k < L.length) : L = L.take k ++ L.getD k zon :: L.drop (k + 1) := by
  rw [← drop_getO hk, List.take_append_drop]

def chB (f : On → List On) (e : Int) (L : List On) (l x y : Int) : Bool := dirB e L && (decide (posO l x y L < L.length) && dirB (e + 1) (L.take (posO l x y L) ++ f (L.getD (posO l x y L) zon) ++ L.drop (posO l x y L + 1)))
def chE (f : On → List On) (e : Int) (L : List On) (l x y : Int) : Int := if dirB e L then (if chB f e L l x y then e + 1 else e) else 0
def chL (f : On → List On) (e : Int) (L : List On) (l x y : Int) : List On := if dirB e L then (if chB f e L l x y then L.take (posO l x y L) ++ f (L.getD (posO l x y L) zon) ++ L.drop (posO l x y L + 1) else L) else []

/-- Around one Own: what is changed is right just when its own part is. -/
theorem dir_swap {e : Int} {L : List On} {k : Nat} (hd : dirB e L = true) (hk : k < L.length) (B : List On) : dirB (e + 1) (L.take k ++ B ++ L.drop (k + 1)) = true ↔ e ≠ 100000 ∧ L.length - 1 + B.length ≤ 64 ∧ (∀ o ∈ B, onB o = true) ∧ chain (L.getD k zon).t.lo B (L.getD k zon).t.hi := by
  obtain ⟨he, hn, hon, hch⟩ := dir_chain.mp hd
  have hel := M.inB_t.mp he
  have hL := list_at hk
  obtain ⟨o, ho⟩ : ∃ o, L.getD k zon = o := ⟨_, rfl⟩
  rw [ho] at hL ⊢
  have honk : onB o = true := hon o (by rw [hL]; simp)
  have hlen : (L.take k ++ B ++ L.drop (k + 1)).length = L.length - 1 + B.length := by simp; omega
  rw [hL, chain_app] at hch
  obtain ⟨m, c1, c2, c3⟩ := hch
  have hhi : o.t.hi = m + area o := by rw [area_sz honk, ← c2]; rfl
  rw [dir_chain, hlen, M.inB_t, List.append_assoc, chain_app]
  rw [← hhi] at c3
  rw [c2]
  constructor
  · rintro ⟨a1, a2, a3, m', d1, d2⟩
    rw [chain_app] at d2
    obtain ⟨m2, d2, d3⟩ := d2
    have e1 : m' = m := by have := chain_end c1; have := chain_end d1; omega
    have e2 : m2 = o.t.hi := by have := chain_end c3; have := chain_end d3; omega
    subst e1 e2
    exact ⟨by omega, a2, fun q hq => a3 q (by simp [hq]), d2⟩
  · rintro ⟨a1, a2, a3, a4⟩
    refine ⟨by omega, a2, fun q hq => ?_, m, c1, chain_app.mpr ⟨_, a4, c3⟩⟩
    simp only [List.mem_append] at hq
    rcases hq with hq | hq | hq
    · exact hon q (List.mem_of_mem_take hq)
    · exact a3 q hq
    · exact hon q (List.mem_of_mem_drop hq)
theorem quO_t (o : On) (k : Nat) : (quO o.l o.x o.y o.s k).t = o.t.q k := rfl
theorem split_part {o : On} (ho : onB o = true) (h8 : o.l ≠ 8) : (∀ q ∈ quL o.l o.x o.y o.s 4, onB q = true) ∧ chain o.t.lo (quL o.l o.x o.y o.s 4) o.t.hi := by
  have hk := onB_ok ho
  have hs := (Bool.and_eq_true_iff.mp ho).2
  have hl : o.t.l < 8 := by have h1 := lvl ho; show o.l < 8; omega
  have hon : ∀ k, k < 4 → onB (quO o.l o.x o.y o.s k) = true := fun k h => Bool.and_eq_true_iff.mpr ⟨M.q_ok hk hl h, hs⟩
  have e : quL o.l o.x o.y o.s 4 = [quO o.l o.x o.y o.s 0, quO o.l o.x o.y o.s 1, quO o.l o.x o.y o.s 2, quO o.l o.x o.y o.s 3] := by simp [quL, List.range_succ]
  rw [e]
  refine ⟨fun q hq => ?_, ?_⟩
  · simp only [List.mem_cons, List.not_mem_nil, or_false] at hq
    rcases hq with rfl | rfl | rfl | rfl
    · exact hon 0 (by decide)
    · exact hon 1 (by decide)
    · exact hon 2 (by decide)
    · exact hon 3 (by decide)
  · obtain ⟨s, s1, s2, s3, s4⟩ := M.quarts hk hl
    have ar : ∀ k, k < 4 → area (quO o.l o.x o.y o.s k) = s := fun k h => by rw [area_sz (hon k h), quO_t]; exact s3 k h
    simp only [chain, ar 0 (by decide), ar 1 (by decide), ar 2 (by decide), ar 3 (by decide), quO_t, (s4 0 (by decide)).1, (s4 1 (by decide)).1, (s4 2 (by decide)).1, (s4 3 (by decide)).1, s2]
    simp
    omega
theorem quL_len (l x y s : Int) (j : Nat) : (quL l x y s j).length = j := by simp [quL]
theorem bool_iff {a b : Bool} (h : a = true ↔ b = true) : a = b := Bool.eq_iff_iff.mpr h
theorem nil_part {o : On} : ¬ chain o.t.lo [] o.t.hi := fun h => by
  have := M.T3.lt o.t
  simp only [chain] at h
  omega
theorem split_ch (e : Int) (L : List On) (l x y : Int) : chB splitO e L l x y = splB e L l x y := by
  refine bool_iff ?_
  unfold chB splB
  simp only [Bool.and_eq_true, decide_eq_true_eq, Bool.not_eq_true', decide_eq_false_iff_not]
  refine and_congr_right fun hd => and_congr_right fun hp => ?_
  obtain ⟨q1, q2, q3⟩ := posO_eq l x y L hp
  rw [dir_swap hd hp]
  obtain ⟨-, -, hon, -⟩ := dir_chain.mp hd
  generalize hk : posO l x y L = k at hp q1 q2 q3 ⊢
  have ho := hon _ (List.mem_of_getElem? (getO hp))
  have hn := (dir_on hd).1
  generalize L.getD k zon = o at q1 q2 q3 ho ⊢
  by_cases h8 : l = 8
  · have e1 : splitO o = [] := by unfold splitO; rw [if_pos (by rw [q1]; exact h8)]
    rw [e1]
    constructor
    · rintro ⟨-, -, -, h⟩; exact absurd h nil_part
    · rintro ⟨h, -⟩; exact absurd h8 h
  · have e1 : splitO o = quL o.l o.x o.y o.s 4 := by unfold splitO; rw [if_neg (by rw [q1]; exact h8)]
    obtain ⟨p1, p2⟩ := split_part ho (by rw [q1]; exact h8)
    rw [e1, quL_len]
    constructor
    · rintro ⟨a, b, -, -⟩; exact ⟨h8, by omega, a⟩
    · rintro ⟨-, a, b⟩; exact ⟨b, by omega, p1, p2⟩
theorem split_chL (e : Int) (L : List On) (l x y : Int) : chL splitO e L l x y = splL e L l x y := by
  unfold chL splL
  rw [split_ch]
  cases hd : dirB e L
  · rfl
  · simp only [if_true]
    cases hs : splB e L l x y
    · rfl
    · simp only [if_true]
      have hs2 := hs
      unfold splB at hs2
      simp only [Bool.and_eq_true, decide_eq_true_eq, Bool.not_eq_true', decide_eq_false_iff_not] at hs2
      obtain ⟨-, hp, h8, -, -⟩ := hs2
      obtain ⟨q1, q2, q3⟩ := posO_eq l x y L hp
      have e1 : splitO (L.getD (posO l x y L) zon) = quL l x y (L.getD (posO l x y L) zon).s 4 := by unfold splitO; rw [if_neg (by rw [q1]; exact h8), q1, q2, q3]
      rw [e1]
theorem split_chE (e : Int) (L : List On) (l x y : Int) : chE splitO e L l x y = splE e L l x y := by
  unfold chE splE
  rw [split_ch]
theorem given_ch (s e : Int) (L : List On) (l x y : Int) : chB (givenO s) e L l x y = givB e L l x y s := by
  refine bool_iff ?_
  unfold chB givB
  simp only [Bool.and_eq_true, decide_eq_true_eq, Bool.not_eq_true', decide_eq_false_iff_not]
  refine and_congr_right fun hd => and_congr_right fun hp => ?_
  rw [dir_swap hd hp]
  obtain ⟨-, -, hon, -⟩ := dir_chain.mp hd
  generalize hk : posO l x y L = k at hp ⊢
  have ho := hon _ (List.mem_of_getElem? (getO hp))
  have hn := (dir_on hd).1
  generalize L.getD k zon = o at ho ⊢
  by_cases hs : o.s = s
  · have e1 : givenO s o = [] := by unfold givenO; rw [if_pos hs]
    rw [e1]
    constructor
    · rintro ⟨-, -, -, h⟩; exact absurd h nil_part
    · rintro ⟨-, h, -⟩; exact absurd hs h
  · have e1 : givenO s o = [givO o s] := by unfold givenO; rw [if_neg hs]
    have hc := onB_ok ho
    have ha : area (givO o s) = o.t.sz := (show area o = o.t.sz from area_sz ho)
    rw [e1]
    constructor
    · rintro ⟨a, b, c, -⟩
      exact ⟨(Bool.and_eq_true_iff.mp (c _ (List.mem_cons_self ..))).2, hs, a⟩
    · rintro ⟨a, -, b⟩
      refine ⟨b, by simp; omega, fun q hq => ?_, rfl, ?_⟩
      · obtain rfl := List.mem_singleton.mp hq
        exact Bool.and_eq_true_iff.mpr ⟨hc, a⟩
      · show o.t.lo + area (givO o s) = o.t.hi
        rw [ha]; rfl
theorem set_take {L : List On} {k : Nat} (hk : k < L.length) (m : On) : L.take k ++ [m] ++ L.drop (k + 1) = L.set k m := by
  rw [List.set_eq_take_append_cons_drop, if_pos hk]; simp
theorem given_chL (s e : Int) (L : List On) (l x y : Int) : chL (givenO s) e L l x y = givL e L l x y s := by
  unfold chL givL
  rw [given_ch]
  cases hd : dirB e L
  · rfl
  · simp only [if_true]
    cases hs : givB e L l x y s
    · rfl
    · simp only [if_true]
      have hs2 := hs
      unfold givB at hs2
      simp only [Bool.and_eq_true, decide_eq_true_eq, Bool.not_eq_true', decide_eq_false_iff_not] at hs2
      obtain ⟨-, hp, -, h8, -⟩ := hs2
      have e1 : givenO s (L.getD (posO l x y L) zon) = [givO (L.getD (posO l x y L) zon) s] := by unfold givenO; rw [if_neg h8]
      rw [e1, set_take hp]
theorem given_chE (s e : Int) (L : List On) (l x y : Int) : chE (givenO s) e L l x y = givE e L l x y s := by
  unfold chE givE
  rw [given_ch]
end Go.Proofs.Ytamnmakegdnblaa.K.D
