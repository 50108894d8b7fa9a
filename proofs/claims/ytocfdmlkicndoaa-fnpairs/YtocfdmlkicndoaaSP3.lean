/-
  What each Spot's nearest other is Apart: by the pairs in their order, and by looking at all.
-/
import Derived.Test.YtocfdmlkicndoaaHC5
namespace Go.Proofs.Ytocfdmlkicndoaa

def upd1 (l : List Int) (i : Nat) (a : Int) : List Int := if l.getD i 0 = -1 then l.set i a else l
def upd (l : List Int) (q : P3) : List Int := upd1 (upd1 l q.i.toNat q.a) q.j.toNat q.a
def sprK (s : List P3) (n k : Nat) : List Int := (s.take k).foldl upd (List.replicate n (-1))
theorem upd1_len (l : List Int) (i : Nat) (a : Int) : (upd1 l i a).length = l.length := by unfold upd1; split <;> simp
theorem upd_len (l : List Int) (q : P3) : (upd l q).length = l.length := by unfold upd; rw [upd1_len, upd1_len]
theorem sprK_succ {s : List P3} {n k : Nat} (hk : k < s.length) : sprK s n (k + 1) = upd (sprK s n k) (s.getD k zp) := by
  unfold sprK
  rw [List.take_succ_eq_append_getElem hk, List.foldl_append]
  simp [List.getD, hk]
theorem foldl_upd_len (l : List P3) : ∀ m : List Int, (l.foldl upd m).length = m.length := by
  induction l with
  | nil => intro m; rfl
  | cons q t ih => intro m; rw [List.foldl_cons, ih, upd_len]
theorem sprK_len (s : List P3) (n k : Nat) : (sprK s n k).length = n := by unfold sprK; rw [foldl_upd_len]; simp
theorem upd1_get {l : List Int} {i k : Nat} {a : Int} (hi : i < l.length) : (upd1 l i a).getD k 0 = if k = i ∧ l.getD i 0 = -1 then a else l.getD k 0 := by
  unfold upd1
  by_cases h : l.getD i 0 = -1
  · rw [if_pos h]
    by_cases e : k = i
    · subst e; rw [if_pos ⟨rfl, h⟩]; simp [List.getD, hi]
    · rw [if_neg (fun x => e x.1)]; simp only [List.getD_eq_getElem?_getD]; rw [List.getElem?_set_ne (fun x => e x.symm)]
  · rw [if_neg h, if_neg (fun x => h x.2)]

/-- The pair has the Spot i. -/
def hasI (q : P3) (i : Nat) : Prop := q.i.toNat = i ∨ q.j.toNat = i
/-- What is told of each Spot behind the pairs of d. -/
def SInv (l : List Int) (d : List P3) : Prop := ∀ i, i < l.length →
  (l.getD i 0 = -1 ∧ ∀ q ∈ d, ¬ hasI q i) ∨ (∃ q ∈ d, hasI q i ∧ l.getD i 0 = q.a ∧ ∀ r ∈ d, hasI r i → q.a ≤ r.a)
theorem SInv.next {l : List Int} {d : List P3} {q : P3} (h : SInv l d) (hi : q.i.toNat < l.length) (hj : q.j.toNat < l.length) (hne : q.i.toNat ≠ q.j.toNat) (hnn : ∀ r ∈ d, 0 ≤ r.a) (hmax : ∀ r ∈ d, r.a ≤ q.a) : SInv (upd l q) (d ++ [q]) := by
  intro i hil
  rw [upd_len] at hil
  have hl1 : q.j.toNat < (upd1 l q.i.toNat q.a).length := by rw [upd1_len]; exact hj
  have e1 : (upd l q).getD i 0 = if (i = q.i.toNat ∨ i = q.j.toNat) ∧ l.getD i 0 = -1 then q.a else l.getD i 0 := by
    unfold upd
    rw [upd1_get hl1, upd1_get hi, upd1_get hi]
    by_cases a1 : i = q.j.toNat
    · have a2 : ¬ q.j.toNat = q.i.toNat := fun e => hne e.symm
      have a3 : ¬ i = q.i.toNat := fun e => hne (by omega)
      rw [if_neg (c := q.j.toNat = q.i.toNat ∧ _) (fun x => a2 x.1), if_neg (c := i = q.i.toNat ∧ _) (fun x => a3 x.1), ← a1]
      by_cases a4 : l.getD i 0 = -1
      · rw [if_pos ⟨rfl, a4⟩, if_pos ⟨.inr rfl, a4⟩]
      · rw [if_neg (fun x => a4 x.2), if_neg (fun x => a4 x.2)]
    · rw [if_neg (c := i = q.j.toNat ∧ _) (fun x => a1 x.1)]
      by_cases a3 : i = q.i.toNat
      · rw [← a3]
        by_cases a4 : l.getD i 0 = -1
        · rw [if_pos ⟨rfl, a4⟩, if_pos ⟨.inl rfl, a4⟩]
        · rw [if_neg (fun x => a4 x.2), if_neg (fun x => a4 x.2)]
      · rw [if_neg (fun x => a3 x.1), if_neg (fun x => by rcases x.1 with x | x; exact a3 x; exact a1 x)]
  rw [e1]
  rcases h i hil with ⟨h1, h2⟩ | ⟨r, hr, h1, h2, h3⟩
  · by_cases hq : hasI q i
    · right
      refine ⟨q, by simp, hq, ?_, ?_⟩
      · rw [if_pos ⟨by unfold hasI at hq; omega, h1⟩]
      · intro r hr hri
        rcases List.mem_append.mp hr with hr | hr
        · exact absurd hri (h2 r hr)
        · rw [List.mem_singleton.mp hr]; exact Int.le_refl _
    · left
      refine ⟨?_, ?_⟩
      · rw [if_neg (fun x => hq (by unfold hasI; omega))]; exact h1
      · intro r hr hri
        rcases List.mem_append.mp hr with hr | hr
        · exact h2 r hr hri
        · rw [List.mem_singleton.mp hr] at hri; exact hq hri
  · right
    have hn1 : ¬ l.getD i 0 = -1 := by rw [h2]; have := hnn r hr; omega
    refine ⟨r, by simp [hr], h1, ?_, ?_⟩
    · rw [if_neg (fun x => hn1 x.2)]; exact h2
    · intro r' hr' hri
      rcases List.mem_append.mp hr' with hr' | hr'
      · exact h3 r' hr' hri
      · rw [List.mem_singleton.mp hr']; exact hmax r hr
theorem SInv.start (n : Nat) : SInv (List.replicate n (-1)) [] := by
  intro i hi
  rw [List.length_replicate] at hi
  exact .inl ⟨by simp [List.getD, hi], by simp⟩
theorem srt_nn {L : List T2} (hnn : ∀ i k, i < L.length → k < L.length → 0 ≤ apT (L.getD i zro) (L.getD k zro)) : ∀ q ∈ srtP L, 0 ≤ q.a ∧ q.i.toNat < q.j.toNat ∧ q.j.toNat < L.length := by
  intro q hq
  obtain ⟨i, k, hi, hk, rfl⟩ := mem_srt.mp hq
  exact ⟨hnn i k (by omega) hk, by simp [prP]; omega, by simp [prP]; omega⟩
theorem spr_inv {L : List T2} (hnn : ∀ i k, i < L.length → k < L.length → 0 ≤ apT (L.getD i zro) (L.getD k zro)) : ∀ k, k ≤ (srtP L).length → SInv (sprK (srtP L) L.length k) ((srtP L).take k)
  | 0, _ => by simpa [sprK] using SInv.start L.length
  | k + 1, hk => by
    have ih := spr_inv hnn k (by omega)
    have hlt : k < (srtP L).length := by omega
    rw [sprK_succ hlt, List.take_succ_eq_append_getElem hlt]
    have e : (srtP L).getD k zp = (srtP L)[k] := by simp [List.getD, hlt]
    rw [← e]
    have hm := srt_nn hnn _ (getD_mem hlt)
    refine ih.next (by rw [sprK_len]; omega) (by rw [sprK_len]; omega) (by omega) (fun r hr => (srt_nn hnn r (List.mem_of_mem_take hr)).1) (fun r hr => ?_)
    obtain ⟨i, hi, rfl⟩ := List.getElem_of_mem hr
    rw [List.length_take] at hi
    have := sorted_le (srt_pair L) (show i ≤ k by omega) hlt
    rw [leP_iff] at this
    have e2 : (srtP L).getD i zp = ((srtP L).take k)[i] := by simp [List.getD, show i < (srtP L).length by omega]
    rw [e2] at this
    omega
/-- The answer of Spread. -/
def spL (L : List T2) : List Int := if hpr L then sprK (srtP L) L.length (srtP L).length else []
/-- The least Apart of Spot i from the others among the first k. -/
def BInv (L : List T2) (i k : Nat) (best : Int) : Prop :=
  (best = -1 ∧ ∀ j, j < k → j = i) ∨ ((∃ j, j < k ∧ j ≠ i ∧ best = apT (L.getD i zro) (L.getD j zro)) ∧ ∀ j, j < k → j ≠ i → best ≤ apT (L.getD i zro) (L.getD j zro))
theorem BInv.start (L : List T2) (i : Nat) : BInv L i 0 (-1) := .inl ⟨rfl, fun j hj => by omega⟩
theorem BInv.same {L : List T2} {i : Nat} {best : Int} (h : BInv L i i best) : BInv L i (i + 1) best := by
  rcases h with ⟨h1, h2⟩ | ⟨⟨j, h1, h2, h3⟩, h4⟩
  · exact .inl ⟨h1, fun j hj => by by_cases e : j = i; exact e; exact h2 j (by omega)⟩
  · exact .inr ⟨⟨j, by omega, h2, h3⟩, fun j hj hne => h4 j (by omega) hne⟩
theorem BInv.take {L : List T2} {i k : Nat} {best : Int} (h : BInv L i k best) (hk : k ≠ i) (ht : best < 0 ∨ apT (L.getD i zro) (L.getD k zro) < best) (hnn : ∀ j, j < k → 0 ≤ apT (L.getD i zro) (L.getD j zro)) : BInv L i (k + 1) (apT (L.getD i zro) (L.getD k zro)) := by
  refine .inr ⟨⟨k, by omega, hk, rfl⟩, fun j hj hne => ?_⟩
  by_cases e : j = k
  · rw [e]; exact Int.le_refl _
  · rcases h with ⟨h1, h2⟩ | ⟨⟨j', h1, h2, h3⟩, h4⟩
    · exact absurd (h2 j (by omega)) hne
    · have a1 := h4 j (by omega) hne
      have a2 := hnn j' h1
      omega
theorem BInv.skip {L : List T2} {i k : Nat} {best : Int} (h : BInv L i k best) (hb : 0 ≤ best) (ht : best ≤ apT (L.getD i zro) (L.getD k zro)) : BInv L i (k + 1) best := by
  rcases h with ⟨h1, h2⟩ | ⟨⟨j, h1, h2, h3⟩, h4⟩
  · omega
  · refine .inr ⟨⟨j, by omega, h2, h3⟩, fun j' hj' hne => ?_⟩
    by_cases e : j' = k
    · rw [e]; exact ht
    · exact h4 j' (by omega) hne
theorem BInv.nn {L : List T2} {i k : Nat} {best : Int} (h : BInv L i k best) (hnn : ∀ j, j < k → 0 ≤ apT (L.getD i zro) (L.getD j zro)) : best = -1 ∨ 0 ≤ best := by
  rcases h with ⟨h1, h2⟩ | ⟨⟨j, h1, h2, h3⟩, h4⟩
  · exact .inl h1
  · right; rw [h3]; exact hnn j h1
theorem hasI_pr {L : List T2} {i a b : Nat} : hasI (prP L a b) i ↔ a = i ∨ b = i := by unfold hasI prP; simp
theorem BInv.done {L : List T2} (h2 : 2 ≤ L.length) (hnn : ∀ i k, i < L.length → k < L.length → 0 ≤ apT (L.getD i zro) (L.getD k zro)) {i : Nat} (hi : i < L.length) {best : Int} (h : BInv L i L.length best) : (sprK (srtP L) L.length (srtP L).length).getD i 0 = best := by
  have hS := spr_inv hnn (srtP L).length (Nat.le_refl _) i (by rw [sprK_len]; exact hi)
  rw [List.take_length] at hS
  obtain ⟨o, ho, hoi⟩ : ∃ o, o < L.length ∧ o ≠ i := by
    by_cases e : i = 0
    · exact ⟨1, by omega, by omega⟩
    · exact ⟨0, by omega, by omega⟩
  have key : ∀ j, j < L.length → j ≠ i → ∃ q ∈ srtP L, hasI q i ∧ q.a = apT (L.getD i zro) (L.getD j zro) := by
    intro j hj hne
    rcases Nat.lt_or_ge j i with hlt | hge
    · exact ⟨prP L j i, mem_srt.mpr ⟨j, i, hlt, hi, rfl⟩, hasI_pr.mpr (.inr rfl), by unfold prP; exact apT_symm _ _⟩
    · exact ⟨prP L i j, mem_srt.mpr ⟨i, j, by omega, hj, rfl⟩, hasI_pr.mpr (.inl rfl), rfl⟩
  rcases hS with ⟨_, h3⟩ | ⟨q, hq, hqi, e, hmin⟩
  · obtain ⟨q, hq, hqi, _⟩ := key o ho hoi
    exact absurd hqi (h3 q hq)
  · rw [e]
    rcases h with ⟨_, h3⟩ | ⟨⟨j, h3, h4, h5⟩, h6⟩
    · exact absurd (h3 o ho) hoi
    · obtain ⟨r, hr, hri, hra⟩ := key j h3 h4
      have b1 := hmin r hr hri
      obtain ⟨a, b, hab, hb, rfl⟩ := mem_srt.mp hq
      have b2 : best ≤ (prP L a b).a := by
        rcases hasI_pr.mp hqi with rfl | rfl
        · exact h6 b hb (by omega)
        · unfold prP; rw [apT_symm]; exact h6 a (by omega) (by omega)
      omega
end Go.Proofs.Ytocfdmlkicndoaa
