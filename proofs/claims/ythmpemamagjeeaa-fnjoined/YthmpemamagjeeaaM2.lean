/-
  Lists of Cells that are as few as can be: each list of Spots has one such list. Plain mathematics.
-/
import Derived.Test.YthmpemamagjeeaaK1
namespace Go.Proofs.Ythmpemamagjeeaa

def mem (n : Int) (c : T3) : Prop := c.lo ≤ n ∧ n < c.hi
def cov (L : List T3) (n : Int) : Prop := ∃ c ∈ L, mem n c
def full (P : Int → Prop) (c : T3) : Prop := ∀ n, mem n c → P n
structure Canon (L : List T3) : Prop where
  ok : ∀ c ∈ L, c.ok = true
  srt : L.Pairwise fun a b => a.hi ≤ b.lo
  nof : ∀ u : T3, u.ok = true → u.l < 8 → (∀ i, i < 4 → u.q i ∈ L) → False

theorem sz_eq {a b : T3} (h : a.l = b.l) : a.sz = b.sz := by unfold T3.sz; rw [h]
/-- A Cell's quarters lie one behind the other. -/
theorem quarts {c : T3} (h : c.ok = true) (hl : c.l < 8) : ∃ s : Int, 1 ≤ s ∧ c.hi = c.lo + 4 * s ∧ (∀ i, i < 4 → (c.q i).sz = s) ∧ ∀ i : Nat, i < 4 → (c.q i).lo = c.lo + i * s ∧ (c.q i).hi = c.lo + (i + 1) * s := by
  have hs : ∀ i, (c.q i).sz = (c.q 0).sz := fun i => sz_eq rfl
  refine ⟨(c.q 0).sz, (c.q 0).sz_pos, ?_, fun i _ => hs i, fun i hi => ?_⟩
  · unfold T3.hi; rw [q_sz h hl 0]
  · have a := q_lo h hl hi
    have b := q_hi h hl hi
    rw [hs i] at a b
    exact ⟨a, b⟩
theorem q_in {c : T3} (h : c.ok = true) (hl : c.l < 8) {i : Nat} (hi : i < 4) : c.lo ≤ (c.q i).lo ∧ (c.q i).hi ≤ c.hi := by
  obtain ⟨s, h1, h2, _, h3⟩ := quarts h hl
  obtain ⟨a, b⟩ := h3 i hi
  have : i = 0 ∨ i = 1 ∨ i = 2 ∨ i = 3 := by omega
  rcases this with rfl | rfl | rfl | rfl <;> simp at a b <;> omega
theorem full_q {P : Int → Prop} {c : T3} (h : c.ok = true) (hl : c.l < 8) {i : Nat} (hi : i < 4) (hf : full P c) : full P (c.q i) := fun n hn => by
  have := q_in h hl hi
  exact hf n ⟨by have := hn.1; omega, by have := hn.2; omega⟩
theorem full_of_q {P : Int → Prop} {c : T3} (h : c.ok = true) (hl : c.l < 8) (hf : ∀ i, i < 4 → full P (c.q i)) : full P c := fun n hn => by
  obtain ⟨s, h1, h2, _, h3⟩ := quarts h hl
  have a0 := h3 0 (by omega); have a1 := h3 1 (by omega); have a2 := h3 2 (by omega); have a3 := h3 3 (by omega)
  obtain ⟨n1, n2⟩ := hn
  simp at a0 a1 a2 a3
  by_cases c0 : n < c.lo + s
  · exact hf 0 (by omega) n ⟨by omega, by omega⟩
  by_cases c1 : n < c.lo + 2 * s
  · exact hf 1 (by omega) n ⟨by omega, by omega⟩
  by_cases c2 : n < c.lo + 3 * s
  · exact hf 2 (by omega) n ⟨by omega, by omega⟩
  · exact hf 3 (by omega) n ⟨by omega, by omega⟩
theorem ins_refl {c : T3} (h : c.ok = true) : insT c c = true := (ins_iff h h).mpr ⟨Int.le_refl _, Int.le_refl _⟩
theorem q_up_or {c m : T3} (hc : c.ok = true) (hl : c.l < 8) (hm : m.ok = true) {i : Nat} (hi : i < 4) (h : insT (c.q i) m = true) : m = c.q i ∨ insT c m = true := by
  have hq := q_ok hc hl hi
  obtain ⟨a1, a2⟩ := (ins_iff hq hm).mp h
  obtain ⟨b1, b2⟩ := q_in hc hl hi
  have hqlt := (c.q i).lt
  rcases lam hc hm with h | h | h | h
  · omega
  · omega
  · exact .inr h
  · obtain ⟨d1, d2⟩ := (ins_iff hm hc).mp h
    have s1 : (c.q i).sz ≤ m.sz := by unfold T3.hi at a2; omega
    have s2 : m.sz ≤ c.sz := by unfold T3.hi at d2; omega
    have l1 := (sz_le hq hm).mp s1
    have l2 := (sz_le hm hc).mp s2
    have l3 : (c.q i).l = c.l + 1 := rfl
    rcases Int.lt_or_le c.l m.l with hlt | hle
    · left
      have e : m.sz = (c.q i).sz := sz_eq (by omega)
      refine eq_of hm hq ?_ ?_
      · unfold T3.hi at a2; omega
      · unfold T3.hi at *; omega
    · right
      have e : m.sz = c.sz := sz_eq (by omega)
      refine (ins_iff hc hm).mpr ⟨?_, ?_⟩
      · unfold T3.hi at d2; omega
      · unfold T3.hi at *; omega
/-- What such a list has whole lies in one of its Cells. -/
theorem Canon.big {L : List T3} (hL : Canon L) : ∀ (n : Nat) (c : T3), c.ok = true → (8 - c.l).toNat = n → full (cov L) c → ∃ m ∈ L, insT c m = true := by
  intro n
  induction n with
  | zero =>
    intro c hc hn hf
    obtain ⟨m, hm, h1, h2⟩ := hf c.lo ⟨Int.le_refl _, c.lt⟩
    refine ⟨m, hm, (ins_iff hc (hL.ok m hm)).mpr ⟨h1, ?_⟩⟩
    have : c.sz = 1 := by unfold T3.sz; rw [hn]; rfl
    unfold T3.hi at *; omega
  | succ n ih =>
    intro c hc hn hf
    have hl : c.l < 8 := by omega
    have hq : ∀ i, i < 4 → (∃ m ∈ L, insT c m = true) ∨ c.q i ∈ L := fun i hi => by
      obtain ⟨m, hm, hi2⟩ := ih (c.q i) (q_ok hc hl hi) (by show (8 - (c.l + 1)).toNat = n; omega) (full_q hc hl hi hf)
      rcases q_up_or hc hl (hL.ok m hm) hi hi2 with e | e
      · right; rw [← e]; exact hm
      · exact .inl ⟨m, hm, e⟩
    by_cases hex : ∃ m ∈ L, insT c m = true
    · exact hex
    · exact (hL.nof c hc hl (fun i hi => (hq i hi).resolve_left hex)).elim
theorem Canon.big' {L : List T3} (hL : Canon L) {c : T3} (hc : c.ok = true) (hf : full (cov L) c) : ∃ m ∈ L, insT c m = true := hL.big _ c hc rfl hf
theorem have_full {L : List T3} (hok : ∀ c ∈ L, c.ok = true) {c : T3} (hc : c.ok = true) (h : haveB L c = true) : full (cov L) c := fun n hn => by
  obtain ⟨m, hm, hi⟩ := List.any_eq_true.mp h
  obtain ⟨a, b⟩ := (ins_iff hc (hok m hm)).mp hi
  exact ⟨m, hm, by have := hn.1; omega, by have := hn.2; omega⟩
theorem Canon.have_iff {L : List T3} (hL : Canon L) {c : T3} (hc : c.ok = true) : haveB L c = true ↔ full (cov L) c :=
  ⟨have_full hL.ok hc, fun h => by obtain ⟨m, hm, hi⟩ := hL.big' hc h; exact List.any_eq_true.mpr ⟨m, hm, hi⟩⟩

theorem srt_ext : ∀ {A B : List T3}, A.Pairwise (fun a b => a.hi ≤ b.lo) → B.Pairwise (fun a b => a.hi ≤ b.lo) → (∀ c, c ∈ A ↔ c ∈ B) → A = B
  | [], [], _, _, _ => rfl
  | [], b :: B, _, _, h => by have := (h b).mpr (List.mem_cons_self ..); cases this
  | a :: A, [], _, _, h => by have := (h a).mp (List.mem_cons_self ..); cases this
  | a :: A, b :: B, hA, hB, h => by
    obtain ⟨a1, a2⟩ := List.pairwise_cons.mp hA
    obtain ⟨b1, b2⟩ := List.pairwise_cons.mp hB
    have hab : a = b := by
      rcases List.mem_cons.mp ((h a).mp (List.mem_cons_self ..)) with e | e
      · exact e
      rcases List.mem_cons.mp ((h b).mpr (List.mem_cons_self ..)) with e2 | e2
      · exact e2.symm
      · have := b1 a e; have := a1 b e2; have := a.lt; have := b.lt; omega
    subst hab
    congr 1
    refine srt_ext a2 b2 fun c => ⟨fun hc => ?_, fun hc => ?_⟩
    · rcases List.mem_cons.mp ((h c).mp (List.mem_cons_of_mem _ hc)) with e | e
      · subst e; have := a1 c hc; have := c.lt; omega
      · exact e
    · rcases List.mem_cons.mp ((h c).mpr (List.mem_cons_of_mem _ hc)) with e | e
      · subst e; have := b1 c hc; have := c.lt; omega
      · exact e
theorem srt_one {L : List T3} (h : L.Pairwise fun a b => a.hi ≤ b.lo) {a b : T3} (ha : a ∈ L) (hb : b ∈ L) {n : Int} (h1 : mem n a) (h2 : mem n b) : a = b := by
  induction L with
  | nil => cases ha
  | cons x t ih =>
    obtain ⟨x1, x2⟩ := List.pairwise_cons.mp h
    obtain ⟨p1, p2⟩ := h1
    obtain ⟨r1, r2⟩ := h2
    rcases List.mem_cons.mp ha with rfl | ha'
    · rcases List.mem_cons.mp hb with rfl | hb'
      · rfl
      · have := x1 b hb'; omega
    · rcases List.mem_cons.mp hb with rfl | hb'
      · have := x1 a ha'; omega
      · exact ih x2 ha' hb'
theorem Canon.sub {A B : List T3} (hA : Canon A) (hB : Canon B) (h : ∀ n, cov A n ↔ cov B n) : ∀ c ∈ A, c ∈ B := fun a ha => by
  have ha' := hA.ok a ha
  obtain ⟨b, hb, hi⟩ := hB.big' ha' (fun n hn => (h n).mp ⟨a, ha, hn⟩)
  obtain ⟨a2, ha2, hi2⟩ := hA.big' (hB.ok b hb) (fun n hn => (h n).mpr ⟨b, hb, hn⟩)
  obtain ⟨u1, u2⟩ := (ins_iff ha' (hB.ok b hb)).mp hi
  obtain ⟨v1, v2⟩ := (ins_iff (hB.ok b hb) (hA.ok a2 ha2)).mp hi2
  have hlt := a.lt
  have e : a = a2 := srt_one hA.srt ha ha2 (n := a.lo) ⟨by omega, by omega⟩ ⟨by omega, by omega⟩
  subst e
  have : a = b := eq_of ha' (hB.ok b hb) (by omega) (by omega)
  rw [this]; exact hb
theorem Canon.uniq {A B : List T3} (hA : Canon A) (hB : Canon B) (h : ∀ n, cov A n ↔ cov B n) : A = B :=
  srt_ext hA.srt hB.srt fun c => ⟨fun hc => hA.sub hB h c hc, fun hc => hB.sub hA (fun n => (h n).symm) c hc⟩
end Go.Proofs.Ythmpemamagjeeaa
