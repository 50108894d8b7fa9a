/-
  What two lists of Cells have in common: as few as can be, if both are. Plain mathematics.
-/
import Derived.Test.YtkinbgcnenieeaaGreatMJ2
namespace Go.Proofs.YtkinbgcnenieeaaGreat.M

def pk (c o : T3) : List T3 := if insT c o then [c] else if insT o c then [o] else []
def comB (B : List T3) (c : T3) : List T3 := B.flatMap (pk c)
def comL (A B : List T3) : List T3 := A.flatMap (comB B)
theorem pk_cases {c o m : T3} (h : m ∈ pk c o) : (m = c ∧ insT c o = true) ∨ (m = o ∧ insT o c = true) := by
  unfold pk at h
  split at h
  · simp at h; exact .inl ⟨h, by assumption⟩
  · split at h
    · simp at h; exact .inr ⟨h, by assumption⟩
    · cases h
theorem pk_in {c o m : T3} (hc : c.ok = true) (ho : o.ok = true) (h : m ∈ pk c o) : m.ok = true ∧ (c.lo ≤ m.lo ∧ m.hi ≤ c.hi) ∧ (o.lo ≤ m.lo ∧ m.hi ≤ o.hi) := by
  rcases pk_cases h with ⟨rfl, hi⟩ | ⟨rfl, hi⟩
  · exact ⟨hc, ⟨Int.le_refl _, Int.le_refl _⟩, (ins_iff hc ho).mp hi⟩
  · exact ⟨ho, (ins_iff ho hc).mp hi, ⟨Int.le_refl _, Int.le_refl _⟩⟩
theorem mem_comL {A B : List T3} {m : T3} : m ∈ comL A B ↔ ∃ c ∈ A, ∃ o ∈ B, m ∈ pk c o := by
  unfold comL comB
  simp only [List.mem_flatMap]
theorem com_cov {A B : List T3} (hA : Canon A) (hB : Canon B) (n : Int) : cov (comL A B) n ↔ cov A n ∧ cov B n := by
  constructor
  · rintro ⟨m, hm, n1, n2⟩
    obtain ⟨c, hc, o, ho, hp⟩ := mem_comL.mp hm
    obtain ⟨_, h1, h2⟩ := pk_in (hA.ok c hc) (hB.ok o ho) hp
    exact ⟨⟨c, hc, by omega, by omega⟩, ⟨o, ho, by omega, by omega⟩⟩
  · rintro ⟨⟨c, hc, c1, c2⟩, ⟨o, ho, o1, o2⟩⟩
    by_cases hi : insT c o = true
    · exact ⟨c, mem_comL.mpr ⟨c, hc, o, ho, by simp [pk, hi]⟩, c1, c2⟩
    · rcases lam (hA.ok c hc) (hB.ok o ho) with h | h | h | h
      · omega
      · omega
      · exact (hi h).elim
      · exact ⟨o, mem_comL.mpr ⟨c, hc, o, ho, by simp [pk, hi, h]⟩, o1, o2⟩
theorem com_canon {A B : List T3} (hA : Canon A) (hB : Canon B) : Canon (comL A B) := by
  refine ⟨fun m hm => ?_, ?_, fun u hu hl hq => ?_⟩
  · obtain ⟨c, hc, o, ho, hp⟩ := mem_comL.mp hm
    exact (pk_in (hA.ok c hc) (hB.ok o ho) hp).1
  · unfold comL
    rw [List.pairwise_flatMap]
    refine ⟨fun c hc => ?_, ?_⟩
    · unfold comB
      rw [List.pairwise_flatMap]
      refine ⟨fun o ho => ?_, ?_⟩
      · unfold pk; split
        · simp
        · split <;> simp
      · refine (List.pairwise_iff_forall_sublist.mpr fun {o1 o2} hs => ?_)
        have hsub := hs.subset
        have h1 := hsub (List.mem_cons_self ..)
        have h2 := hsub (List.mem_cons_of_mem _ (List.mem_cons_self ..))
        have hr := List.pairwise_iff_forall_sublist.mp hB.srt hs
        intro x hx y hy
        have a := (pk_in (hA.ok c hc) (hB.ok o1 h1) hx).2.2
        have b := (pk_in (hA.ok c hc) (hB.ok o2 h2) hy).2.2
        omega
    · refine (List.pairwise_iff_forall_sublist.mpr fun {c1 c2} hs => ?_)
      have hsub := hs.subset
      have h1 := hsub (List.mem_cons_self ..)
      have h2 := hsub (List.mem_cons_of_mem _ (List.mem_cons_self ..))
      have hr := List.pairwise_iff_forall_sublist.mp hA.srt hs
      intro x hx y hy
      unfold comB at hx hy
      obtain ⟨o1, ho1, hp1⟩ := List.mem_flatMap.mp hx
      obtain ⟨o2, ho2, hp2⟩ := List.mem_flatMap.mp hy
      have a := (pk_in (hA.ok c1 h1) (hB.ok o1 ho1) hp1).2.1
      have b := (pk_in (hA.ok c2 h2) (hB.ok o2 ho2) hp2).2.1
      omega
  · have hfA : full (cov A) u := full_of_q hu hl fun i hi n hn => ((com_cov hA hB n).mp ⟨_, hq i hi, hn⟩).1
    have hfB : full (cov B) u := full_of_q hu hl fun i hi n hn => ((com_cov hA hB n).mp ⟨_, hq i hi, hn⟩).2
    obtain ⟨a, ha, hia⟩ := hA.big' hu hfA
    obtain ⟨b, hb, hib⟩ := hB.big' hu hfB
    obtain ⟨s, h1, h2, _, h3⟩ := quarts hu hl
    have a0 := h3 0 (by omega)
    simp at a0
    obtain ⟨a1, a2⟩ := (ins_iff hu (hA.ok a ha)).mp hia
    obtain ⟨b1, b2⟩ := (ins_iff hu (hB.ok b hb)).mp hib
    obtain ⟨c, hc, o, ho, hp⟩ := mem_comL.mp (hq 0 (by omega))
    rcases pk_cases hp with ⟨e, _⟩ | ⟨e, _⟩
    · have : c = a := srt_one hA.srt hc ha (n := u.lo) ⟨by rw [← e]; omega, by rw [← e]; omega⟩ ⟨by omega, by omega⟩
      rw [← this, ← e] at a2
      omega
    · have : o = b := srt_one hB.srt ho hb (n := u.lo) ⟨by rw [← e]; omega, by rw [← e]; omega⟩ ⟨by omega, by omega⟩
      rw [← this, ← e] at b2
      omega
def cmF (L K : List T3) (c : T3) : Int := if muF L c = 0 ∨ muF K c = 0 then 0 else if muF L c = 2 ∧ muF K c = 2 then 2 else 1
theorem cmF_tells {L K : List T3} (hL : ∀ c ∈ L, c.ok = true) (hK : ∀ c ∈ K, c.ok = true) : Tells (cmF L K) (fun n => cov L n ∧ cov K n) := by
  have tL := muF_tells hL
  have tK := muF_tells hK
  refine ⟨fun c hc => ?_, fun c hc h n hn => ?_, fun c hc h8 => ?_⟩
  · have h1 := tL.two c hc
    have h2 := tK.two c hc
    have key : full (fun n => cov L n ∧ cov K n) c ↔ full (cov L) c ∧ full (cov K) c := ⟨fun h => ⟨fun n hn => (h n hn).1, fun n hn => (h n hn).2⟩, fun h n hn => ⟨h.1 n hn, h.2 n hn⟩⟩
    rw [key, ← h1, ← h2]
    unfold cmF
    split
    · constructor
      · intro h; simp at h
      · intro h; omega
    · split
      · exact ⟨fun _ => by assumption, fun _ => rfl⟩
      · exact ⟨fun h => by simp at h, fun h => by contradiction⟩
  · unfold cmF at h
    split at h
    · rename_i h0
      rcases h0 with h0 | h0
      · exact fun h5 => tL.nil c hc h0 n hn h5.1
      · exact fun h5 => tK.nil c hc h0 n hn h5.2
    · split at h <;> simp at h
  · unfold cmF
    rcases tL.spot c hc h8 with h | h <;> rcases tK.spot c hc h8 with h' | h' <;> simp [h, h']
theorem com_is {L K : List T3} (hL : ∀ c ∈ L, c.ok = true) (hK : ∀ c ∈ K, c.ok = true) {A B : List T3} (hA : Canon A) (hB : Canon B) (cA : ∀ n, cov A n ↔ cov L n) (cB : ∀ n, cov B n ↔ cov K n) : comL A B = dec (cmF L K) 8 zro :=
  (com_canon hA hB).is_dec (cmF_tells hL hK) fun n _ _ => by rw [com_cov hA hB, cA, cB]
end Go.Proofs.YtkinbgcnenieeaaGreat.M
