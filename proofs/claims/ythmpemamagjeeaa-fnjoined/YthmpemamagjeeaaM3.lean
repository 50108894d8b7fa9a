/-
  Lists of Cells, further: what the recursion by quarters makes is as few as can be; so is what comes of putting in order and making four one. Plain mathematics.
-/
import Derived.Test.YthmpemamagjeeaaM2
namespace Go.Proofs.Ythmpemamagjeeaa

/-- What f must say of Cells for the Spots of P. -/
structure Tells (f : T3 → Int) (P : Int → Prop) : Prop where
  two : ∀ c : T3, c.ok = true → (f c = 2 ↔ full P c)
  nil : ∀ c : T3, c.ok = true → f c = 0 → ∀ n, mem n c → ¬ P n
  spot : ∀ c : T3, c.ok = true → c.l = 8 → f c = 0 ∨ f c = 2
structure DecOf (P : Int → Prop) (c : T3) (L : List T3) : Prop where
  ok : ∀ m ∈ L, m.ok = true
  ins : ∀ m ∈ L, c.lo ≤ m.lo ∧ m.hi ≤ c.hi
  full : ∀ m ∈ L, full P m
  least : ∀ m ∈ L, m = c ∨ ¬ Go.Proofs.Ythmpemamagjeeaa.full P m.up
  srt : L.Pairwise fun a b => a.hi ≤ b.lo
  has : ∀ n, mem n c → (P n ↔ cov L n)
theorem DecOf.none {P : Int → Prop} {c : T3} (h : ∀ n, mem n c → ¬ P n) : DecOf P c [] :=
  ⟨by simp, by simp, by simp, by simp, .nil, fun n hn => ⟨fun hp => (h n hn hp).elim, fun ⟨_, hm, _⟩ => by cases hm⟩⟩
theorem DecOf.one {P : Int → Prop} {c : T3} (hc : c.ok = true) (h : Go.Proofs.Ythmpemamagjeeaa.full P c) : DecOf P c [c] :=
  ⟨by simpa using hc, by simp, by simpa using h, by simp, by simp, fun n hn => ⟨fun _ => ⟨c, by simp, hn⟩, fun _ => h n hn⟩⟩
theorem cov_append {A B : List T3} {n : Int} : cov (A ++ B) n ↔ cov A n ∨ cov B n := by
  unfold cov
  constructor
  · rintro ⟨c, hc, hn⟩
    rcases List.mem_append.mp hc with h | h
    · exact .inl ⟨c, h, hn⟩
    · exact .inr ⟨c, h, hn⟩
  · rintro (⟨c, hc, hn⟩ | ⟨c, hc, hn⟩)
    · exact ⟨c, List.mem_append.mpr (.inl hc), hn⟩
    · exact ⟨c, List.mem_append.mpr (.inr hc), hn⟩
theorem DecOf.out {P : Int → Prop} {c : T3} {L : List T3} (h : DecOf P c L) {n : Int} (hn : cov L n) : mem n c := by
  obtain ⟨m, hm, a, b⟩ := hn
  have := h.ins m hm
  exact ⟨by omega, by omega⟩
/-- Four quarters' lists, one behind the other. -/
theorem DecOf.four {P : Int → Prop} {c : T3} (hc : c.ok = true) (hl : c.l < 8) (hf : ¬ Go.Proofs.Ythmpemamagjeeaa.full P c) {A B C D : List T3} (hA : DecOf P (c.q 0) A) (hB : DecOf P (c.q 1) B) (hC : DecOf P (c.q 2) C) (hD : DecOf P (c.q 3) D) : DecOf P c (((A ++ B) ++ C) ++ D) := by
  obtain ⟨s, h1, h2, _, h3⟩ := quarts hc hl
  have a0 := h3 0 (by omega); have a1 := h3 1 (by omega); have a2 := h3 2 (by omega); have a3 := h3 3 (by omega)
  simp at a0 a1 a2 a3
  have lst : ∀ {i : Nat} {L : List T3}, i < 4 → DecOf P (c.q i) L → ∀ m ∈ L, m = c ∨ ¬ Go.Proofs.Ythmpemamagjeeaa.full P m.up := fun hi hd m hm => by
    rcases hd.least m hm with e | e
    · right; rw [e, q_up hi]; exact hf
    · exact .inr e
  refine ⟨?_, ?_, ?_, ?_, ?_, ?_⟩
  · intro m hm; simp only [List.mem_append] at hm
    rcases hm with ((h | h) | h) | h
    · exact hA.ok m h
    · exact hB.ok m h
    · exact hC.ok m h
    · exact hD.ok m h
  · intro m hm; simp only [List.mem_append] at hm
    rcases hm with ((h | h) | h) | h
    · have := hA.ins m h; omega
    · have := hB.ins m h; omega
    · have := hC.ins m h; omega
    · have := hD.ins m h; omega
  · intro m hm; simp only [List.mem_append] at hm
    rcases hm with ((h | h) | h) | h
    · exact hA.full m h
    · exact hB.full m h
    · exact hC.full m h
    · exact hD.full m h
  · intro m hm; simp only [List.mem_append] at hm
    rcases hm with ((h | h) | h) | h
    · exact lst (by omega) hA m h
    · exact lst (by omega) hB m h
    · exact lst (by omega) hC m h
    · exact lst (by omega) hD m h
  · refine List.pairwise_append.mpr ⟨List.pairwise_append.mpr ⟨List.pairwise_append.mpr ⟨hA.srt, hB.srt, ?_⟩, hC.srt, ?_⟩, hD.srt, ?_⟩
    · intro x hx y hy; have := hA.ins x hx; have := hB.ins y hy; omega
    · intro x hx y hy; have := hC.ins y hy
      rcases List.mem_append.mp hx with h | h
      · have := hA.ins x h; omega
      · have := hB.ins x h; omega
    · intro x hx y hy; have := hD.ins y hy
      rcases List.mem_append.mp hx with h | h
      · rcases List.mem_append.mp h with h | h
        · have := hA.ins x h; omega
        · have := hB.ins x h; omega
      · have := hC.ins x h; omega
  · intro n hn
    obtain ⟨n1, n2⟩ := hn
    rw [cov_append, cov_append, cov_append]
    have o0 : cov A n → mem n (c.q 0) := hA.out
    have o1 : cov B n → mem n (c.q 1) := hB.out
    have o2 : cov C n → mem n (c.q 2) := hC.out
    have o3 : cov D n → mem n (c.q 3) := hD.out
    constructor
    · intro hp
      by_cases c0 : n < c.lo + s
      · exact .inl (.inl (.inl ((hA.has n ⟨by omega, by omega⟩).mp hp)))
      by_cases c1 : n < c.lo + 2 * s
      · exact .inl (.inl (.inr ((hB.has n ⟨by omega, by omega⟩).mp hp)))
      by_cases c2 : n < c.lo + 3 * s
      · exact .inl (.inr ((hC.has n ⟨by omega, by omega⟩).mp hp))
      · exact .inr ((hD.has n ⟨by omega, by omega⟩).mp hp)
    · rintro (((h | h) | h) | h)
      · exact (hA.has n (o0 h)).mpr h
      · exact (hB.has n (o1 h)).mpr h
      · exact (hC.has n (o2 h)).mpr h
      · exact (hD.has n (o3 h)).mpr h
theorem dec_of {f : T3 → Int} {P : Int → Prop} (hf : Tells f P) : ∀ (n : Nat) (c : T3), c.ok = true → (8 - c.l).toNat = n → DecOf P c (dec f n c) := by
  intro n
  induction n with
  | zero =>
    intro c hc hn
    have h8 : c.l = 8 := by have := (ok_iff.mp hc).2.1; omega
    rcases hf.spot c hc h8 with h | h
    · rw [dec_no h]; exact DecOf.none (hf.nil c hc h)
    · rw [dec_full h]; exact DecOf.one hc ((hf.two c hc).mp h)
  | succ n ih =>
    intro c hc hn
    by_cases h0 : f c = 0
    · rw [dec_no h0]; exact DecOf.none (hf.nil c hc h0)
    by_cases h2 : f c = 2
    · rw [dec_full h2]; exact DecOf.one hc ((hf.two c hc).mp h2)
    have hl : c.l < 8 := by omega
    have hq : ∀ i, i < 4 → DecOf P (c.q i) (dec f n (c.q i)) := fun i hi => ih (c.q i) (q_ok hc hl hi) (by show (8 - (c.l + 1)).toNat = n; omega)
    rw [dec_part h0 h2]
    simp only [decs, List.nil_append]
    exact DecOf.four hc hl (fun h => h2 ((hf.two c hc).mpr h)) (hq 0 (by omega)) (hq 1 (by omega)) (hq 2 (by omega)) (hq 3 (by omega))
theorem q_ne {u : T3} (hu : u.ok = true) (hl : u.l < 8) {i j : Nat} (hi : i < 4) (hj : j < 4) (h : i < j) : (u.q i).hi ≤ (u.q j).lo := by
  obtain ⟨s, h1, h2, _, h3⟩ := quarts hu hl
  have a := (h3 i hi).2
  have b := (h3 j hj).1
  rw [a, b]
  have : ((i : Int) + 1) * s ≤ j * s := Int.mul_le_mul_of_nonneg_right (by omega) (by omega)
  omega
theorem DecOf.canon {P : Int → Prop} {c : T3} {L : List T3} (h : DecOf P c L) : Canon L := by
  refine ⟨h.ok, h.srt, fun u hu hl hq => ?_⟩
  have hf : Go.Proofs.Ythmpemamagjeeaa.full P u := full_of_q hu hl (fun i hi => h.full _ (hq i hi))
  have e0 : u.q 0 = c := by
    rcases h.least _ (hq 0 (by omega)) with e | e
    · exact e
    · rw [q_up (by omega)] at e; exact (e hf).elim
  have e1 : u.q 1 = c := by
    rcases h.least _ (hq 1 (by omega)) with e | e
    · exact e
    · rw [q_up (by omega)] at e; exact (e hf).elim
  have := q_ne hu hl (i := 0) (j := 1) (by omega) (by omega) (by omega)
  rw [e0, e1] at this
  have := c.lt
  omega
theorem zro_ok : zro.ok = true := by decide
theorem zro_lo : zro.lo = 0 := by decide
theorem zro_hi : zro.hi = 65536 := by decide
theorem ok_in {c : T3} (h : c.ok = true) : 0 ≤ c.lo ∧ c.hi ≤ 65536 := by
  obtain ⟨n, n8, a1, a2, a3, _⟩ := ok_nat h
  have hz := zz_bd c.x c.y n
  have hs := sz_of a3
  have hp := pw4 (8 - n)
  have e : (4 : Int) ^ (8 - n) * 4 ^ n = 65536 := by rw [← Int.pow_add, show 8 - n + n = 8 by omega]; decide
  unfold T3.hi T3.lo
  rw [a2, hs]
  have h1 := Int.mul_nonneg (show (0 : Int) ≤ 4 ^ (8 - n) by omega) hz.1
  have h2 := Int.mul_le_mul_of_nonneg_left (show zz c.x c.y n + 1 ≤ 4 ^ n by omega) (show (0 : Int) ≤ 4 ^ (8 - n) by omega)
  rw [Int.mul_add, Int.mul_one, e] at h2
  omega
/-- A list as few as can be is what the recursion makes of its Spots. -/
theorem Canon.is_dec {f : T3 → Int} {P : Int → Prop} (hf : Tells f P) {L : List T3} (hL : Canon L) (h : ∀ n, 0 ≤ n → n < 65536 → (cov L n ↔ P n)) : L = dec f 8 zro := by
  have hd := dec_of hf 8 zro zro_ok (by decide)
  refine hL.uniq hd.canon fun n => ?_
  constructor
  · rintro ⟨c, hc, hn⟩
    have := ok_in (hL.ok c hc)
    obtain ⟨n1, n2⟩ := hn
    have hz : mem n zro := ⟨by rw [zro_lo]; omega, by rw [zro_hi]; omega⟩
    exact (hd.has n hz).mp ((h n (by omega) (by omega)).mp ⟨c, hc, n1, n2⟩)
  · intro hn
    have hz := hd.out hn
    have h1 := hz.1
    have h2 := hz.2
    rw [zro_lo] at h1
    rw [zro_hi] at h2
    exact (h n h1 h2).mpr ((hd.has n hz).mpr hn)

/-- As few as can be, but for the last one, which may be a fourth quarter. -/
structure Pre (L : List T3) : Prop where
  ok : ∀ c ∈ L, c.ok = true
  srt : L.Pairwise fun a b => a.hi ≤ b.lo
  nof : ∀ u : T3, u.ok = true → u.l < 8 → (∀ i, i < 4 → u.q i ∈ L) → ∃ A, L = A ++ [u.q 3]
theorem Canon.snoc {A : List T3} (hA : Canon A) {c : T3} (hc : c.ok = true) (h : ∀ m ∈ A, m.hi ≤ c.lo) : Pre (A ++ [c]) := by
  refine ⟨?_, ?_, ?_⟩
  · intro m hm; simp at hm; rcases hm with h | rfl
    · exact hA.ok m h
    · exact hc
  · refine List.pairwise_append.mpr ⟨hA.srt, by simp, ?_⟩
    intro x hx y hy; simp at hy; subst hy; exact h x hx
  · intro u hu hl hq
    by_cases h3 : u.q 3 = c
    · exact ⟨A, by rw [h3]⟩
    · have h3A : u.q 3 ∈ A := by have := hq 3 (by omega); simp at this; exact this.resolve_right h3
      refine (hA.nof u hu hl fun i hi => ?_).elim
      have hi2 := hq i hi
      simp at hi2
      rcases hi2 with e | e
      · exact e
      · by_cases hi3 : i = 3
        · subst hi3; exact h3A
        · have a := q_ne hu hl hi (show 3 < 4 by omega) (by omega)
          have b := h _ h3A
          have := (u.q 3).lt
          rw [e] at a
          have := c.lt
          omega
theorem Pre.snoc_last {A : List T3} {z y : T3} (h : (A ++ [z]).Pairwise fun a b => a.hi ≤ b.lo) (hy : y ∈ A ++ [z]) (he : y.hi = z.lo) : ∃ B, A = B ++ [y] := by
  rw [List.pairwise_append] at h
  obtain ⟨h1, _, h2⟩ := h
  have hyA : y ∈ A := by
    rcases List.mem_append.mp hy with e | e
    · exact e
    · simp at e; subst e; have := y.lt; omega
  have hne : A ≠ [] := fun e => by rw [e] at hyA; cases hyA
  have hd := List.dropLast_concat_getLast hne
  refine ⟨A.dropLast, ?_⟩
  have hl : A.getLast hne = y := by
    by_cases e : y = A.getLast hne
    · exact e.symm
    · have hin : y ∈ A.dropLast := by
        rw [← hd] at hyA
        rcases List.mem_append.mp hyA with e2 | e2
        · exact e2
        · simp at e2; exact (e e2).elim
      rw [← hd, List.pairwise_append] at h1
      have a := h1.2.2 y hin (A.getLast hne) (by simp)
      have b := h2 (A.getLast hne) (List.getLast_mem hne) z (by simp)
      have := (A.getLast hne).lt
      omega
  rw [← hl]; exact hd.symm
theorem q_next {u : T3} (hu : u.ok = true) (hl : u.l < 8) {i : Nat} (hi : i + 1 < 4) : (u.q i).hi = (u.q (i + 1)).lo := by
  obtain ⟨s, h1, h2, _, h3⟩ := quarts hu hl
  have a := (h3 i (by omega)).2
  have b := (h3 (i + 1) hi).1
  rw [a, b]; simp
/-- The four quarters stand at the end. -/
theorem Pre.tail {L : List T3} (h : Pre L) {u : T3} (hu : u.ok = true) (hl : u.l < 8) (hq : ∀ i, i < 4 → u.q i ∈ L) : ∃ A, L = A ++ [u.q 0, u.q 1, u.q 2, u.q 3] := by
  obtain ⟨A, rfl⟩ := h.nof u hu hl hq
  have h3 := h.srt
  obtain ⟨B, rfl⟩ := Pre.snoc_last h3 (hq 2 (by omega)) (q_next hu hl (by omega))
  have h2 : (B ++ [u.q 2]).Pairwise fun a b => a.hi ≤ b.lo := (List.pairwise_append.mp h3).1
  have m1 : u.q 1 ∈ B ++ [u.q 2] := by
    rcases List.mem_append.mp (hq 1 (by omega)) with e | e
    · exact e
    · simp at e; have := q_ne hu hl (i := 1) (j := 3) (by omega) (by omega) (by omega); rw [e] at this; have := (u.q 3).lt; omega
  obtain ⟨C, rfl⟩ := Pre.snoc_last h2 m1 (q_next hu hl (by omega))
  have h1 : (C ++ [u.q 1]).Pairwise fun a b => a.hi ≤ b.lo := (List.pairwise_append.mp h2).1
  have m0 : u.q 0 ∈ C ++ [u.q 1] := by
    rcases List.mem_append.mp (hq 0 (by omega)) with e | e
    · rcases List.mem_append.mp e with e | e
      · exact e
      · simp at e; have := q_ne hu hl (i := 0) (j := 2) (by omega) (by omega) (by omega); rw [e] at this; have := (u.q 2).lt; omega
    · simp at e; have := q_ne hu hl (i := 0) (j := 3) (by omega) (by omega) (by omega); rw [e] at this; have := (u.q 3).lt; omega
  obtain ⟨D, rfl⟩ := Pre.snoc_last h1 m0 (q_next hu hl (by omega))
  exact ⟨D, by simp⟩
theorem Pre.canon {L : List T3} (h : Pre L) (hno : ∀ u : T3, u.ok = true → u.l < 8 → ¬ ∃ A, L = A ++ [u.q 0, u.q 1, u.q 2, u.q 3]) : Canon L :=
  ⟨h.ok, h.srt, fun u hu hl hq => hno u hu hl (h.tail hu hl hq)⟩
theorem Pre.fold {A : List T3} {u : T3} (hu : u.ok = true) (hl : u.l < 8) (h : Pre (A ++ [u.q 0, u.q 1, u.q 2, u.q 3])) : Pre (A ++ [u]) ∧ ∀ n, cov (A ++ [u]) n ↔ cov (A ++ [u.q 0, u.q 1, u.q 2, u.q 3]) n := by
  obtain ⟨s, h1, h2, _, h3⟩ := quarts hu hl
  have a0 := h3 0 (by omega); have a1 := h3 1 (by omega); have a2 := h3 2 (by omega); have a3 := h3 3 (by omega)
  simp at a0 a1 a2 a3
  have hs := List.pairwise_append.mp h.srt
  have hA : ∀ m ∈ A, m.hi ≤ u.lo := fun m hm => by have := hs.2.2 m hm (u.q 0) (by simp); omega
  have hcA : Canon A := by
    refine ⟨fun c hc => h.ok c (by simp [hc]), hs.1, fun v hv hvl hq => ?_⟩
    obtain ⟨B, hB⟩ := h.nof v hv hvl (fun i hi => List.mem_append.mpr (.inl (hq i hi)))
    have e : v.q 3 = u.q 3 := by
      have e1 := congrArg List.getLast? hB
      simp at e1
      exact e1.symm
    have := hA _ (hq 3 (by omega))
    rw [e] at this
    have := (u.q 3).lt
    omega
  refine ⟨hcA.snoc hu hA, fun n => ?_⟩
  rw [cov_append, cov_append]
  refine or_congr Iff.rfl ?_
  constructor
  · rintro ⟨c, hc, n1, n2⟩
    simp at hc; subst hc
    by_cases c0 : n < c.lo + s
    · exact ⟨c.q 0, by simp, by omega, by omega⟩
    by_cases c1 : n < c.lo + 2 * s
    · exact ⟨c.q 1, by simp, by omega, by omega⟩
    by_cases c2 : n < c.lo + 3 * s
    · exact ⟨c.q 2, by simp, by omega, by omega⟩
    · exact ⟨c.q 3, by simp, by omega, by omega⟩
  · rintro ⟨c, hc, n1, n2⟩
    refine ⟨u, by simp, ?_⟩
    simp at hc
    rcases hc with rfl | rfl | rfl | rfl
    · exact ⟨by omega, by omega⟩
    · exact ⟨by omega, by omega⟩
    · exact ⟨by omega, by omega⟩
    · exact ⟨by omega, by omega⟩
end Go.Proofs.Ythmpemamagjeeaa
