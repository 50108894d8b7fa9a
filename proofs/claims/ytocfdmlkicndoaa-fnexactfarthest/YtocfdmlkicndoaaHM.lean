/-
  Hulls: a row of Spots by place, each once; the half of a hull by left turns; that all lie to the left of each edge, that it turns at each corner, that in every direction a corner is the farthest.
-/
import Derived.Test.YtocfdmlkicndoaaA1
namespace Go.Proofs.Ytocfdmlkicndoaa
/-- A linear look at a Spot. -/
def lin (p q : Int) (c : T2) : Int := p * c.x + q * c.y

def popT : List T2 → T2 → List T2
  | v :: u :: r, s => if crT u v s ≤ 0 then popT (u :: r) s else v :: u :: r
  | K, _ => K
def pushT (K : List T2) (s : T2) : List T2 := s :: popT K s
def halfR (L : List T2) : List T2 := L.foldl pushT []

theorem pop_sub (s : T2) : ∀ (K : List T2), ∀ c ∈ popT K s, c ∈ K
  | [], c, h => by simp [popT] at h
  | [v], c, h => by simpa [popT] using h
  | v :: u :: r, c, h => by
    unfold popT at h
    split at h
    · exact List.mem_cons_of_mem _ (pop_sub s (u :: r) c h)
    · exact h
theorem pop_ne (s : T2) : ∀ (K : List T2), K ≠ [] → popT K s ≠ []
  | [], h => absurd rfl h
  | [v], _ => by simp [popT]
  | v :: u :: r, _ => by
    unfold popT
    split
    · exact pop_ne s (u :: r) (by simp)
    · simp
theorem pop_len (s : T2) : ∀ (K : List T2), (popT K s).length ≤ K.length
  | [] => by simp [popT]
  | [v] => by simp [popT]
  | v :: u :: r => by
    unfold popT
    split
    · have := pop_len s (u :: r); simp at this ⊢; omega
    · simp
theorem pop_last (s : T2) : ∀ (K : List T2), (popT K s).getLast? = K.getLast?
  | [] => by simp [popT]
  | [v] => by simp [popT]
  | v :: u :: r => by
    unfold popT
    split
    · rw [pop_last s (u :: r)]; simp
    · rfl

/-- The looks of a stack fall from its top on. -/
def Fal (p q : Int) : List T2 → Prop
  | v :: u :: r => lin p q u < lin p q v ∧ Fal p q (u :: r)
  | _ => True
def Edg (P : List T2) : List T2 → Prop
  | v :: u :: r => (∀ t ∈ P, 0 ≤ crT u v t) ∧ Edg P (u :: r)
  | _ => True
def Lft : List T2 → Prop
  | w :: v :: u :: r => 0 < crT u v w ∧ Lft (v :: u :: r)
  | _ => True

theorem Fal.pop {p q : Int} {s : T2} : ∀ {K : List T2}, Fal p q K → Fal p q (popT K s)
  | [], _ => by simp [popT, Fal]
  | [v], _ => by simp [popT, Fal]
  | v :: u :: r, h => by
    unfold popT
    split
    · exact Fal.pop h.2
    · exact h
theorem Fal.cons {p q : Int} {s : T2} {K : List T2} (h : Fal p q K) (hs : ∀ c ∈ K, lin p q c < lin p q s) : Fal p q (s :: K) := by
  cases K with
  | nil => trivial
  | cons v r => exact ⟨hs v (by simp), h⟩
theorem Fal.push {p q : Int} {s : T2} {K : List T2} (h : Fal p q K) (hs : ∀ c ∈ K, lin p q c < lin p q s) : Fal p q (pushT K s) :=
  h.pop.cons (fun c hc => hs c (pop_sub s K c hc))
theorem Lft.push {s : T2} : ∀ {K : List T2}, Lft K → Lft (pushT K s)
  | [], _ => by simp [pushT, popT, Lft]
  | [v], _ => by simp [pushT, popT, Lft]
  | v :: u :: r, h => by
    have ih := Lft.push (s := s) (K := u :: r)
    unfold pushT at ih ⊢
    unfold popT
    split
    · refine ih ?_
      cases r with
      | nil => trivial
      | cons z r => exact h.2
    · rename_i hc; exact ⟨by omega, h⟩

/-- Of three in a row, the middle one above the line of the others: in a direction that looks down, one of the others is as far. -/
theorem tri_ext {p q a b : Int} {u v s : T2} (hk : p * b - q * a ≤ 0) (h1 : lin p q u < lin p q v) (h2 : lin p q v < lin p q s) (hc : crT u v s ≤ 0) : lin a b v ≤ lin a b u ∨ lin a b v ≤ lin a b s := by
  by_cases hu : lin a b v ≤ lin a b u
  · exact .inl hu
  by_cases hs : lin a b v ≤ lin a b s
  · exact .inr hs
  exfalso
  have e : (lin p q s - lin p q u) * (lin a b v - lin a b u) - (lin p q v - lin p q u) * (lin a b s - lin a b u) = (p * b - q * a) * (- crT u v s) := by unfold lin crT cr; grind
  have n1 : (p * b - q * a) * (- crT u v s) ≤ 0 := Int.mul_nonpos_of_nonpos_of_nonneg hk (by omega)
  have f : (lin p q s - lin p q u) * (lin a b v - lin a b u) - (lin p q v - lin p q u) * (lin a b s - lin a b u) = (lin p q s - lin p q v) * (lin a b v - lin a b u) + (lin p q v - lin p q u) * (lin a b v - lin a b s) := by grind
  have n2 := Int.mul_pos (show 0 < lin p q s - lin p q v by omega) (show 0 < lin a b v - lin a b u by omega)
  have n3 := Int.mul_pos (show 0 < lin p q v - lin p q u by omega) (show 0 < lin a b v - lin a b s by omega)
  omega
theorem push_ext {p q a b : Int} {s : T2} (hk : p * b - q * a ≤ 0) : ∀ {K : List T2}, Fal p q K → (∀ c ∈ K, lin p q c < lin p q s) → ∀ t ∈ K, ∃ c ∈ pushT K s, lin a b t ≤ lin a b c
  | [], _, _, t, ht => by simp at ht
  | [v], _, _, t, ht => ⟨t, by simp [pushT, popT] at ht ⊢; simp [ht], Int.le_refl _⟩
  | v :: u :: r, hf, hs, t, ht => by
    have ih := push_ext hk (K := u :: r) hf.2 (fun c hc => hs c (by simp at hc ⊢; exact .inr hc))
    unfold pushT at ih ⊢
    unfold popT
    split
    · rename_i hc
      rcases List.mem_cons.mp ht with rfl | ht
      · rcases tri_ext hk hf.1 (hs t (by simp)) hc with h | h
        · obtain ⟨c, h1, h2⟩ := ih u (by simp)
          exact ⟨c, h1, by omega⟩
        · exact ⟨s, by simp, h⟩
      · exact ih t ht
    · exact ⟨t, List.mem_cons_of_mem _ ht, Int.le_refl _⟩

/-- A row whose looks rise. -/
def Ris (p q : Int) (L : List T2) : Prop := L.Pairwise fun a b => lin p q a < lin p q b
theorem half_snoc (L : List T2) (s : T2) : halfR (L ++ [s]) = pushT (halfR L) s := by simp [halfR]
theorem snoc_ind {P : List T2 → Prop} (h0 : P []) (h1 : ∀ L s, P L → P (L ++ [s])) (L : List T2) : P L := by
  have : ∀ M : List T2, P M.reverse := by
    intro M
    induction M with
    | nil => exact h0
    | cons a t ih => rw [List.reverse_cons]; exact h1 _ _ ih
  have := this L.reverse
  rwa [List.reverse_reverse] at this
theorem half_sub : ∀ (L : List T2), ∀ c ∈ halfR L, c ∈ L :=
  snoc_ind (by simp [halfR]) fun L s ih c hc => by
    rw [half_snoc] at hc
    unfold pushT at hc
    rcases List.mem_cons.mp hc with rfl | hc
    · simp
    · exact List.mem_append_left _ (ih c (pop_sub _ _ _ hc))
theorem Ris.snoc {p q : Int} {L : List T2} {s : T2} (h : Ris p q (L ++ [s])) : Ris p q L ∧ ∀ c ∈ L, lin p q c < lin p q s := by
  unfold Ris at h
  rw [List.pairwise_append] at h
  exact ⟨h.1, fun c hc => h.2.2 c hc s (by simp)⟩
theorem half_fal {p q : Int} : ∀ (L : List T2), Ris p q L → Fal p q (halfR L) :=
  snoc_ind (by simp [halfR, Fal]) fun L s ih h => by
    rw [half_snoc]
    exact (ih h.snoc.1).push (fun c hc => h.snoc.2 c (half_sub L c hc))
theorem half_lft : ∀ (L : List T2), Lft (halfR L) :=
  snoc_ind (by simp [halfR, Lft]) fun L s ih => by rw [half_snoc]; exact ih.push
theorem half_ext {p q a b : Int} (hk : p * b - q * a ≤ 0) : ∀ (L : List T2), Ris p q L → ∀ t ∈ L, ∃ c ∈ halfR L, lin a b t ≤ lin a b c :=
  snoc_ind (by simp) fun L s ih h t ht => by
    rw [half_snoc]
    rcases List.mem_append.mp ht with ht | ht
    · obtain ⟨c, h1, h2⟩ := ih h.snoc.1 t ht
      obtain ⟨d, h3, h4⟩ := push_ext hk (half_fal L h.snoc.1) (fun c hc => h.snoc.2 c (half_sub L c hc)) c h1
      exact ⟨d, h3, by omega⟩
    · obtain rfl : t = s := by simpa using ht
      exact ⟨t, by simp [pushT], Int.le_refl _⟩
theorem half_head (L : List T2) (s : T2) : (halfR (L ++ [s])).head? = some s := by rw [half_snoc]; rfl
theorem half_ne {L : List T2} (h : L ≠ []) : halfR L ≠ [] := by
  have : ∀ M : List T2, M ≠ [] → halfR M ≠ [] := snoc_ind (by simp) fun M s _ _ => by rw [half_snoc]; simp [pushT]
  exact this L h
theorem half_last : ∀ (L : List T2), (halfR L).getLast? = L.head? :=
  snoc_ind (by simp [halfR]) fun L s ih => by
    rw [half_snoc]
    cases L with
    | nil => simp [halfR, pushT, popT]
    | cons a t =>
      have hne := pop_ne s _ (half_ne (L := a :: t) (by simp))
      have e := pop_last s (halfR (a :: t))
      rw [ih] at e
      unfold pushT
      rw [List.getLast?_cons, e]
      simp

/-- What lies to the left of an edge, and further on: the edges that follow. -/
theorem pl {p q : Int} (d e f : T2) (hd : 0 < lin p q d) (h : 0 ≤ (d.x * f.y - d.y * f.x) * lin p q e - (d.x * e.y - d.y * e.x) * lin p q f) : 0 ≤ e.x * f.y - e.y * f.x := by
  have k : lin p q d * (e.x * f.y - e.y * f.x) = (d.x * f.y - d.y * f.x) * lin p q e - (d.x * e.y - d.y * e.x) * lin p q f := by unfold lin; grind
  rw [← k] at h
  rcases Int.lt_or_le (e.x * f.y - e.y * f.x) 0 with h1 | h1
  · have := Int.mul_neg_of_pos_of_neg hd h1; omega
  · exact h1
def df (a b : T2) : T2 := ⟨b.x - a.x, b.y - a.y⟩
def cx (d e : T2) : Int := d.x * e.y - d.y * e.x
theorem lin_df (p q : Int) (a b : T2) : lin p q (df a b) = lin p q b - lin p q a := by unfold lin df; grind
theorem cr_df (a b c : T2) : crT a b c = cx (df a b) (df a c) := by unfold crT cr cx df; rfl
theorem cr_df2 (a b c : T2) : crT a b c = cx (df a b) (df b c) := by unfold crT cr cx df; grind
theorem cx_pl {p q : Int} (d e f : T2) (hd : 0 < lin p q d) (h : 0 ≤ cx d f * lin p q e - cx d e * lin p q f) : 0 ≤ cx e f := pl d e f hd h

theorem see {p q : Int} {z u v s : T2} (h1 : lin p q z < lin p q u) (h2 : lin p q u < lin p q v) (h3 : lin p q v < lin p q s) (hc : 0 < crT z u v) (hs : 0 ≤ crT u v s) : 0 ≤ crT z u s := by
  rw [cr_df2] at hc ⊢
  rw [cr_df] at hs
  have k : lin p q (df u v) * cx (df z u) (df u s) = lin p q (df z u) * cx (df u v) (df u s) + lin p q (df u s) * cx (df z u) (df u v) := by unfold lin cx df; grind
  rw [lin_df, lin_df, lin_df] at k
  have n1 := Int.mul_nonneg (show 0 ≤ lin p q u - lin p q z by omega) hs
  have n2 := Int.mul_pos (show 0 < lin p q s - lin p q u by omega) hc
  rcases Int.lt_or_le (cx (df z u) (df u s)) 0 with h | h
  · have := Int.mul_neg_of_pos_of_neg (show 0 < lin p q v - lin p q u by omega) h; omega
  · exact h
theorem see_all {p q : Int} {s : T2} : ∀ {K : List T2}, Fal p q K → Lft K → (∀ c ∈ K, lin p q c < lin p q s) → (∀ v u r, K = v :: u :: r → 0 ≤ crT u v s) → ∀ {P}, Edg P K → Edg (P ++ [s]) K
  | [], _, _, _, _, _, _ => trivial
  | [v], _, _, _, _, _, _ => trivial
  | v :: u :: r, hf, hl, hs, h0, P, he => by
    have hvs := h0 v u r rfl
    refine ⟨fun t ht => ?_, ?_⟩
    · rcases List.mem_append.mp ht with ht | ht
      · exact he.1 t ht
      · obtain rfl : t = s := by simpa using ht
        exact hvs
    · refine see_all hf.2 ?_ (fun c hc => hs c (List.mem_cons_of_mem _ hc)) ?_ he.2
      · cases r with
        | nil => trivial
        | cons z r => exact hl.2
      · rintro v' u' r' e
        injection e with e1 e2
        subst e1 e2
        exact see hf.2.1 hf.1 (hs v (by simp)) hl.1 hvs
theorem Edg.pop {P : List T2} {s : T2} : ∀ {K : List T2}, Edg P K → Edg P (popT K s)
  | [], _ => by simp [popT, Edg]
  | [v], _ => by simp [popT, Edg]
  | v :: u :: r, h => by
    unfold popT
    split
    · exact Edg.pop h.2
    · exact h
/-- Behind the pops all that lies further on lies to the left of the way to s. -/
theorem pop_top {p q : Int} {P : List T2} {s : T2} (hP : ∀ t ∈ P, lin p q t < lin p q s) : ∀ {K : List T2}, Fal p q K → Edg P K → (∀ c ∈ K, lin p q c < lin p q s) → (∀ v r, K = v :: r → ∀ t ∈ P, lin p q v < lin p q t → 0 ≤ crT v s t) →
    ∀ v r, popT K s = v :: r → ∀ t ∈ P, lin p q v < lin p q t → 0 ≤ crT v s t
  | [], _, _, _, _, v, r, e => by simp [popT] at e
  | [v], _, _, _, h, v', r', e => by simp [popT] at e; exact h v' r' (by simp [e])
  | v :: u :: r, hf, he, hs, h, v', r', e => by
    unfold popT at e
    split at e
    · rename_i hc
      refine pop_top hP hf.2 he.2 (fun c hc => hs c (List.mem_cons_of_mem _ hc)) ?_ v' r' e
      rintro v1 r1 e1 t ht hlt
      injection e1 with e1 e2
      subst e1 e2
      have h1 := he.1 t ht
      rw [cr_df] at h1 hc ⊢
      have g1 := hf.1
      have g2 := hs u (by simp)
      refine cx_pl (p := p) (q := q) (df u v) _ _ (by rw [lin_df]; omega) ?_
      rw [lin_df, lin_df]
      have n1 := Int.mul_nonneg h1 (show 0 ≤ lin p q s - lin p q u by omega)
      have n2 := Int.mul_nonneg (show 0 ≤ - cx (df u v) (df u s) by omega) (show 0 ≤ lin p q t - lin p q u by omega)
      rw [Int.neg_mul] at n2
      omega
    · exact h v' r' e
theorem cr_self (a b : T2) : crT a b b = 0 ∧ crT a b a = 0 := by unfold crT cr; constructor <;> grind
theorem half_edg {p q : Int} : ∀ (L : List T2), Ris p q L → Edg L (halfR L) :=
  snoc_ind (by simp [halfR, Edg]) fun L s ih h => by
    obtain ⟨hr, hs⟩ := h.snoc
    have ih := ih hr
    have hf := half_fal L hr
    have hsub := half_sub L
    have hlt : ∀ c ∈ halfR L, lin p q c < lin p q s := fun c hc => hs c (hsub c hc)
    have hL' := half_lft (L ++ [s])
    have htop : ∀ v r, halfR L = v :: r → ∀ t ∈ L, lin p q v < lin p q t → 0 ≤ crT v s t := by
      intro v r e t ht hvt
      exfalso
      rcases List.eq_nil_or_concat L with rfl | ⟨M, b, rfl⟩
      · simp at ht
      · simp only [List.concat_eq_append] at *
        have := half_head M b
        rw [e] at this
        obtain rfl : v = b := by simpa using this
        rcases List.mem_append.mp ht with ht | ht
        · have := hr.snoc.2 t ht; omega
        · obtain rfl : t = v := by simpa using ht
          omega
    have hpt := pop_top (s := s) hs hf ih hlt htop
    rw [half_snoc] at hL' ⊢
    have hpe := ih.pop (s := s)
    have hpf := hf.pop (s := s)
    have hps := pop_sub s (halfR L)
    have hla := pop_last s (halfR L)
    rw [half_last] at hla
    unfold pushT at hL' ⊢
    generalize popT (halfR L) s = K at *
    cases K with
    | nil => trivial
    | cons v r =>
      have hvs : lin p q v < lin p q s := hlt v (hps v (by simp))
      refine ⟨fun t ht => ?_, ?_⟩
      · rcases List.mem_append.mp ht with ht | ht
        · rcases Int.lt_or_le (lin p q v) (lin p q t) with hvt | hvt
          · exact hpt v r rfl t ht hvt
          · cases r with
            | nil =>
              -- v is the first of all
              cases L with
              | nil => simp at ht
              | cons a M =>
                have hva : a = v := by simpa using hla.symm
                subst hva
                rcases List.mem_cons.mp ht with rfl | ht
                · rw [(cr_self _ _).2]; exact Int.le_refl _
                · have := (List.pairwise_cons.mp hr).1 t ht
                  omega
            | cons u r =>
              have hc := hL'.1
              have h1 := hpe.1 t ht
              rw [cr_df2] at hc h1
              rw [cr_df]
              have g1 := hpf.1
              refine cx_pl (p := p) (q := q) (df u v) _ _ (by rw [lin_df]; omega) ?_
              rw [lin_df, lin_df]
              have n1 := Int.mul_nonneg h1 (show 0 ≤ lin p q s - lin p q v by omega)
              have n2 := Int.mul_nonneg (Int.le_of_lt hc) (show 0 ≤ lin p q v - lin p q t by omega)
              have n3 : cx (df u v) (df v s) * (lin p q t - lin p q v) = - (cx (df u v) (df v s) * (lin p q v - lin p q t)) := by grind
              omega
        · obtain rfl : t = s := by simpa using ht
          rw [(cr_self _ _).1]; exact Int.le_refl _
      · refine see_all hpf ?_ (fun c hc => hlt c (hps c hc)) ?_ hpe
        · cases r with
          | nil => trivial
          | cons u r => exact hL'.2
        · rintro v' u' r' e
          injection e with e1 e2
          subst e1 e2
          have := hL'.1; omega
/-- By X, then Y. -/
def ltB (a b : T2) : Bool := decide (a.x < b.x) || (decide (a.x = b.x) && decide (a.y < b.y))
def eqB (a b : T2) : Bool := decide (a.x = b.x) && decide (a.y = b.y)
theorem ltB_t {a b : T2} : ltB a b = true ↔ (a.x < b.x ∨ a.x = b.x ∧ a.y < b.y) := by simp [ltB]
theorem eqB_t {a b : T2} : eqB a b = true ↔ a = b := by
  cases a; cases b; simp [eqB]
def pos (s : T2) : List T2 → Nat
  | [] => 0
  | a :: t => if ltB a s then pos s t + 1 else 0
theorem pos_le (s : T2) : ∀ L, pos s L ≤ L.length
  | [] => by simp [pos]
  | a :: t => by have := pos_le s t; unfold pos; split <;> simp <;> omega
theorem pos_lt (s : T2) : ∀ (L : List T2) (k : Nat) (hk : k < L.length), k < pos s L → ltB L[k] s = true
  | [], k, hk, _ => by simp at hk
  | a :: t, 0, _, h => by unfold pos at h; split at h <;> simp_all
  | a :: t, k + 1, hk, h => by
    unfold pos at h
    split at h
    · exact pos_lt s t k (by simpa using hk) (by omega)
    · omega
theorem pos_at (s : T2) : ∀ (L : List T2) (hk : pos s L < L.length), ltB L[pos s L] s = false
  | [], hk => by simp at hk
  | a :: t, hk => by
    by_cases h : ltB a s = true
    · have e : pos s (a :: t) = pos s t + 1 := by simp [pos, h]
      have := pos_at s t (by simp [e] at hk; exact hk)
      simp [e, this]
    · have e : pos s (a :: t) = 0 := by simp [pos, h]
      simp [e]; simpa using h
/-- Where it would go there is one alike. -/
def hasP (s : T2) (L : List T2) : Bool := match L[pos s L]? with
  | some c => eqB c s
  | none => false
def insT (s : T2) (L : List T2) : List T2 := if hasP s L then L else L.take (pos s L) ++ s :: L.drop (pos s L)
def srtT (L : List T2) : List T2 := L.foldl (fun o s => insT s o) []
def Srt (L : List T2) : Prop := L.Pairwise fun a b => ltB a b = true
theorem ins_mem {s c : T2} {L : List T2} : c ∈ insT s L ↔ (c = s ∨ c ∈ L) := by
  unfold insT
  split
  · rename_i h
    constructor
    · exact .inr
    · rintro (rfl | h2)
      · unfold hasP at h
        split at h
        · rename_i d hd
          rw [eqB_t] at h; subst h
          exact List.mem_of_getElem? hd
        · cases h
      · exact h2
  · have e := List.take_append_drop (pos s L) L
    constructor
    · intro h
      rcases List.mem_append.mp h with h | h
      · exact .inr (List.mem_of_mem_take h)
      · rcases List.mem_cons.mp h with h | h
        · exact .inl h
        · exact .inr (List.mem_of_mem_drop h)
    · rintro (rfl | h)
      · simp
      · rw [← e] at h
        rcases List.mem_append.mp h with h | h
        · exact List.mem_append_left _ h
        · exact List.mem_append_right _ (List.mem_cons_of_mem _ h)
theorem ltB_trans {a b c : T2} (h1 : ltB a b = true) (h2 : ltB b c = true) : ltB a c = true := by rw [ltB_t] at *; omega
theorem ltB_tri {a b : T2} (h1 : ltB a b = false) (h2 : eqB a b = false) : ltB b a = true := by
  rw [ltB_t]
  have h1' : ¬ (a.x < b.x ∨ a.x = b.x ∧ a.y < b.y) := by rw [← ltB_t]; simp [h1]
  have h2' : ¬ (a.x = b.x ∧ a.y = b.y) := by
    rintro ⟨e1, e2⟩
    simp [eqB, e1, e2] at h2
  omega
theorem ins_srt {s : T2} {L : List T2} (h : Srt L) : Srt (insT s L) := by
  unfold insT
  split
  · exact h
  · rename_i hp
    have e := List.take_append_drop (pos s L) L
    have h' := h
    unfold Srt at h'
    rw [← e, List.pairwise_append] at h'
    obtain ⟨h1, h2, h3⟩ := h'
    have hlo : ∀ c ∈ L.take (pos s L), ltB c s = true := by
      intro c hc
      obtain ⟨k, hk, rfl⟩ := List.mem_iff_getElem.mp hc
      rw [List.length_take] at hk
      rw [List.getElem_take]
      exact pos_lt s L k (by omega) (by omega)
    have hhi : ∀ c ∈ L.drop (pos s L), ltB s c = true := by
      by_cases hk : pos s L < L.length
      · have g := pos_at s L hk
        have g2 : eqB L[pos s L] s = false := by
          unfold hasP at hp
          rw [List.getElem?_eq_getElem hk] at hp
          simpa using hp
        have g3 := ltB_tri g g2
        intro c hc
        rw [List.drop_eq_getElem_cons hk] at hc h2
        rcases List.mem_cons.mp hc with rfl | hc
        · exact g3
        · exact ltB_trans g3 ((List.pairwise_cons.mp h2).1 c hc)
      · intro c hc
        rw [List.drop_eq_nil_of_le (by omega)] at hc
        simp at hc
    unfold Srt
    rw [List.pairwise_append, List.pairwise_cons]
    refine ⟨h1, ⟨hhi, h2⟩, fun a ha b hb => ?_⟩
    rcases List.mem_cons.mp hb with rfl | hb
    · exact hlo a ha
    · exact h3 a ha b hb
theorem srt_snoc (L : List T2) (s : T2) : srtT (L ++ [s]) = insT s (srtT L) := by simp [srtT]
theorem srt_mem {c : T2} : ∀ L : List T2, c ∈ srtT L ↔ c ∈ L :=
  snoc_ind (by simp [srtT]) fun L s ih => by rw [srt_snoc, ins_mem, ih]; simp [or_comm]
theorem srt_srt : ∀ L : List T2, Srt (srtT L) :=
  snoc_ind (by simp [srtT, Srt]) fun L s ih => by rw [srt_snoc]; exact ins_srt ih
theorem srt_len : ∀ L : List T2, (srtT L).length ≤ L.length :=
  snoc_ind (by simp [srtT]) fun L s ih => by
    rw [srt_snoc]; unfold insT
    split
    · simp; omega
    · simp; omega
theorem ltB_irr (a : T2) : ltB a a = false := by simp [ltB]
theorem srt_uniq : ∀ {L M : List T2}, Srt L → Srt M → (∀ c, c ∈ L ↔ c ∈ M) → L = M
  | [], [], _, _, _ => rfl
  | [], b :: M, _, _, h => by have := (h b).2 (by simp); simp at this
  | a :: L, [], _, _, h => by have := (h a).1 (by simp); simp at this
  | a :: L, b :: M, hL, hM, h => by
    obtain ⟨l1, l2⟩ := List.pairwise_cons.mp hL
    obtain ⟨m1, m2⟩ := List.pairwise_cons.mp hM
    have hab : a = b := by
      rcases List.mem_cons.mp ((h a).1 (by simp)) with e | e
      · exact e
      · rcases List.mem_cons.mp ((h b).2 (by simp)) with e' | e'
        · exact e'.symm
        · have := ltB_trans (m1 a e) (l1 b e'); rw [ltB_irr] at this; cases this
    subst hab
    refine congrArg _ (srt_uniq l2 m2 fun c => ⟨fun hc => ?_, fun hc => ?_⟩)
    · rcases List.mem_cons.mp ((h c).1 (List.mem_cons_of_mem _ hc)) with e | e
      · subst e; have := l1 c hc; rw [ltB_irr] at this; cases this
      · exact e
    · rcases List.mem_cons.mp ((h c).2 (List.mem_cons_of_mem _ hc)) with e | e
      · subst e; have := m1 c hc; rw [ltB_irr] at this; cases this
      · exact e
/-- Of like ones in a row the first. -/
def cmpc : List T2 → List T2
  | [] => []
  | [a] => [a]
  | a :: b :: t => if eqB a b then cmpc (b :: t) else a :: cmpc (b :: t)
theorem cmpc_mem {c : T2} : ∀ {L : List T2}, c ∈ cmpc L ↔ c ∈ L
  | [] => by simp [cmpc]
  | [a] => by simp [cmpc]
  | a :: b :: t => by
    unfold cmpc
    split
    · rename_i h
      rw [eqB_t] at h; subst h
      rw [cmpc_mem]; simp
    · rw [List.mem_cons, cmpc_mem]; simp
theorem cmpc_srt : ∀ {L : List T2}, L.Pairwise (fun a b => ltB b a = false) → Srt (cmpc L)
  | [], _ => by simp [cmpc, Srt]
  | [a], _ => by simp [cmpc, Srt]
  | a :: b :: t, h => by
    obtain ⟨h1, h2⟩ := List.pairwise_cons.mp h
    unfold cmpc
    split
    · exact cmpc_srt h2
    · rename_i hne
      refine List.pairwise_cons.mpr ⟨fun c hc => ?_, cmpc_srt h2⟩
      rw [cmpc_mem] at hc
      have hab : ltB a b = true := by
        refine ltB_tri (h1 b (by simp)) ?_
        cases e : eqB b a
        · rfl
        · rw [eqB_t] at e; subst e
          have : eqB b b = true := eqB_t.mpr rfl
          exact absurd this hne
      rcases List.mem_cons.mp hc with rfl | hc
      · exact hab
      · have := (List.pairwise_cons.mp h2).1 c hc
        rw [ltB_t] at hab ⊢
        have h3 : ¬ (c.x < b.x ∨ c.x = b.x ∧ c.y < b.y) := by rw [← ltB_t]; simp [this]
        omega
theorem sort_cmpc {L S : List T2} (hp : S.Perm L) (hs : S.Pairwise (fun a b => ltB b a = false)) : cmpc S = srtT L :=
  srt_uniq (cmpc_srt hs) (srt_srt L) fun c => by rw [cmpc_mem, srt_mem, hp.mem_iff]

def hullS (S : List T2) : List T2 := if S.length < 2 then S else (halfR S).tail.reverse ++ (halfR S.reverse).tail.reverse
theorem hullS_two {S : List T2} (h : S.length = 2) : hullS S = S := by
  match S, h with
  | [a, b], _ => simp [hullS, halfR, pushT, popT]
theorem Fal.lt {p q : Int} : ∀ {K : List T2} {v : T2}, Fal p q (v :: K) → ∀ c ∈ K, lin p q c < lin p q v
  | [], v, _, c, hc => by simp at hc
  | u :: r, v, h, c, hc => by
    rcases List.mem_cons.mp hc with rfl | hc
    · exact h.1
    · have := Fal.lt h.2 c hc; have := h.1; omega
theorem Fal.tl {p q : Int} {K : List T2} {v : T2} (h : Fal p q (v :: K)) : Fal p q K := by
  cases K with
  | nil => trivial
  | cons u r => exact h.2
theorem Fal.nodup {p q : Int} : ∀ {K : List T2}, Fal p q K → K.Nodup
  | [], _ => List.nodup_nil
  | v :: K, h => List.nodup_cons.mpr ⟨fun hv => by have := h.lt v hv; omega, h.tl.nodup⟩
theorem mid {p q : Int} {c : T2} : ∀ {K : List T2}, Fal p q K → Lft K → c ∈ K.tail → K.getLast? ≠ some c → ∃ u ∈ K, ∃ w ∈ K, lin p q u < lin p q c ∧ lin p q c < lin p q w ∧ 0 < crT u c w
  | [], _, _, h, _ => by simp at h
  | [v], _, _, h, _ => by simp at h
  | [v, u], _, _, h, hl => by simp at h hl; exact absurd h.symm hl
  | w :: v :: u :: r, hf, hl, h, hn => by
    simp only [List.tail_cons] at h
    rcases List.mem_cons.mp h with rfl | h
    · exact ⟨u, by simp, w, by simp, hf.2.1, hf.1, hl.1⟩
    · obtain ⟨u', h1, w', h2, h3⟩ := mid (c := c) (K := v :: u :: r) hf.2 hl.2 (by simpa using h) (by simpa using hn)
      exact ⟨u', List.mem_cons_of_mem _ h1, w', List.mem_cons_of_mem _ h2, h3⟩
theorem nxt {p q : Int} {P : List T2} {c : T2} : ∀ {K : List T2}, Fal p q K → Edg P K → c ∈ K.tail → ∃ b ∈ K, lin p q c < lin p q b ∧ ∀ t ∈ P, 0 ≤ crT c b t
  | [], _, _, h => by simp at h
  | [v], _, _, h => by simp at h
  | v :: u :: r, hf, he, h => by
    simp only [List.tail_cons] at h
    rcases List.mem_cons.mp h with rfl | h
    · exact ⟨v, by simp, hf.1, he.1⟩
    · obtain ⟨b, h1, h2⟩ := nxt (c := c) (K := u :: r) hf.2 he.2 (by simpa using h)
      exact ⟨b, List.mem_cons_of_mem _ h1, h2⟩
theorem cx_id (p q : Int) (d e f : T2) : cx e f * lin p q d - cx d f * lin p q e + cx d e * lin p q f = 0 := by unfold cx lin; grind
theorem lin_neg (p q : Int) (c : T2) : lin (-p) (-q) c = - lin p q c := by unfold lin; grind
theorem cr_df3 (u c w : T2) : crT u c w = - cx (df c u) (df c w) := by unfold crT cr cx df; grind
/-- What turns strictly below is no corner above. -/
theorem low_high {p q : Int} {c u w b : T2} (h1 : lin p q u < lin p q c) (h2 : lin p q c < lin p q w) (h3 : 0 < crT u c w) (h4 : lin p q b < lin p q c) (h5 : 0 ≤ crT c b u) (h6 : 0 ≤ crT c b w) : False := by
  rw [cr_df3] at h3
  rw [cr_df] at h5 h6
  have k := cx_id p q (df c b) (df c u) (df c w)
  simp only [lin_df] at k
  have n1 := Int.mul_pos_of_neg_of_neg (show cx (df c u) (df c w) < 0 by omega) (show lin p q b - lin p q c < 0 by omega)
  have n2 := Int.mul_nonpos_of_nonneg_of_nonpos h6 (show lin p q u - lin p q c ≤ 0 by omega)
  have n3 := Int.mul_nonneg h5 (show 0 ≤ lin p q w - lin p q c by omega)
  omega
theorem Ris.nodup {p q : Int} {L : List T2} (h : Ris p q L) : L.Nodup := by
  refine List.Pairwise.imp (R := fun a b => lin p q a < lin p q b) (fun {a b} hab e => ?_) h
  subst e; omega
theorem ris_rev {p q : Int} {S : List T2} (h : Ris p q S) : Ris (-p) (-q) S.reverse := by
  unfold Ris at *
  rw [List.pairwise_reverse]
  refine h.imp fun {a b} hab => ?_
  rw [lin_neg, lin_neg]; omega
theorem rev_ne {S : List T2} (h : S ≠ []) : S.reverse ≠ [] := by simpa using h
/-- Two ends and what is between. -/
theorem half_two {p q : Int} {S : List T2} (h : Ris p q S) (h2 : 2 ≤ S.length) : ∃ z a r, halfR S = z :: a :: r ∧ S.getLast? = some z ∧ (a :: r).getLast? = S.head? := by
  rcases List.eq_nil_or_concat S with rfl | ⟨M, z, rfl⟩
  · simp at h2
  · rw [List.concat_eq_append] at *
    have e1 := half_head M z
    have e2 := half_last (M ++ [z])
    cases hK : halfR (M ++ [z]) with
    | nil => rw [hK] at e1; simp at e1
    | cons y K =>
      rw [hK] at e1 e2
      have hy : y = z := by simpa using e1
      subst hy
      cases K with
      | nil =>
        exfalso
        cases M with
        | nil => simp at h2
        | cons m M =>
          have hym : y = m := by simpa using e2
          subst hym
          have := h.snoc.2 y (by simp)
          omega
      | cons a r => exact ⟨y, a, r, rfl, by simp, by rw [← e2]; simp⟩
theorem last_mem {L : List T2} {c : T2} (h : L.getLast? = some c) : c ∈ L := List.mem_of_getLast? h
theorem hull_mem {S : List T2} (h2 : 2 ≤ S.length) {c : T2} : c ∈ hullS S ↔ (c ∈ (halfR S).tail ∨ c ∈ (halfR S.reverse).tail) := by
  unfold hullS
  rw [if_neg (by omega)]
  simp
theorem hull_all {p q : Int} {S : List T2} (h : Ris p q S) (h2 : 2 ≤ S.length) {c : T2} : c ∈ hullS S ↔ (c ∈ halfR S ∨ c ∈ halfR S.reverse) := by
  rw [hull_mem h2]
  obtain ⟨z, a, r, e1, e2, e3⟩ := half_two h h2
  obtain ⟨z', a', r', f1, f2, f3⟩ := half_two (ris_rev h) (by simpa using h2)
  rw [e1, f1]
  have g1 : z ∈ a' :: r' := by
    have : S.reverse.head? = some z := by rw [List.head?_reverse]; exact e2
    rw [this] at f3; exact last_mem f3
  have g2 : z' ∈ a :: r := by
    have : S.head? = some z' := by rw [List.getLast?_reverse] at f2; exact f2
    rw [this] at e3; exact last_mem e3
  simp only [List.tail_cons]
  constructor
  · rintro (h | h)
    · exact .inl (List.mem_cons_of_mem _ h)
    · exact .inr (List.mem_cons_of_mem _ h)
  · rintro (h | h)
    · rcases List.mem_cons.mp h with rfl | h
      · exact .inr g1
      · exact .inl h
    · rcases List.mem_cons.mp h with rfl | h
      · exact .inl g2
      · exact .inr h
theorem hull_sub {S : List T2} {c : T2} (h : c ∈ hullS S) : c ∈ S := by
  unfold hullS at h
  split at h
  · exact h
  · rcases List.mem_append.mp h with h | h
    · exact half_sub S c (List.mem_of_mem_tail (by simpa using h))
    · have := half_sub S.reverse c (List.mem_of_mem_tail (by simpa using h))
      simpa using this
theorem hull_ext {p q a b : Int} {S : List T2} (h : Ris p q S) {t : T2} (ht : t ∈ S) : ∃ c ∈ hullS S, lin a b t ≤ lin a b c := by
  by_cases h2 : 2 ≤ S.length
  · rcases Int.le_total (p * b - q * a) 0 with hk | hk
    · obtain ⟨c, h3, h4⟩ := half_ext hk S h t ht
      exact ⟨c, (hull_all h h2).mpr (.inl h3), h4⟩
    · obtain ⟨c, h3, h4⟩ := half_ext (p := -p) (q := -q) (a := a) (b := b) (by rw [Int.neg_mul, Int.neg_mul]; omega) S.reverse (ris_rev h) t (by simpa using ht)
      exact ⟨c, (hull_all h h2).mpr (.inr h3), h4⟩
  · exact ⟨t, by unfold hullS; rw [if_pos (by omega)]; exact ht, Int.le_refl _⟩
theorem nodup_rev {L : List T2} (h : L.Nodup) : L.reverse.Nodup := by unfold List.Nodup at *; rw [List.pairwise_reverse]; exact h.imp Ne.symm
theorem hull_nodup {p q : Int} {S : List T2} (h : Ris p q S) : (hullS S).Nodup := by
  by_cases h2 : 2 ≤ S.length
  · unfold hullS
    rw [if_neg (by omega), List.nodup_append]
    have f1 := half_fal S h
    have f2 := half_fal S.reverse (ris_rev h)
    have n1 := f1.nodup
    have n2 := f2.nodup
    refine ⟨?_, ?_, ?_⟩
    · exact nodup_rev (n1.sublist (List.tail_sublist _))
    · exact nodup_rev (n2.sublist (List.tail_sublist _))
    · intro c hc d hd e
      subst e
      have hc : c ∈ (halfR S).tail := by simpa using hc
      have hd : c ∈ (halfR S.reverse).tail := by simpa using hd
      obtain ⟨b, hb1, hb2, hb3⟩ := nxt f2 (half_edg S.reverse (ris_rev h)) hd
      have hlast : (halfR S).getLast? ≠ some c := by
        rw [half_last]
        intro e
        obtain ⟨z', a', r', g1, g2, _⟩ := half_two (ris_rev h) (by simpa using h2)
        rw [List.getLast?_reverse, e] at g2
        have : c = z' := by simpa using g2
        subst this
        rw [g1] at n2 hd
        exact (List.nodup_cons.mp n2).1 hd
      obtain ⟨u, hu, w, hw, k1, k2, k3⟩ := mid f1 (half_lft S) hc hlast
      rw [lin_neg, lin_neg] at hb2
      exact low_high k1 k2 k3 (b := b) (by omega) (hb3 u (by simpa using half_sub S u hu)) (hb3 w (by simpa using half_sub S w hw))
  · unfold hullS; rw [if_pos (by omega)]; exact h.nodup
theorem nodup_len : ∀ {A B : List T2}, A.Nodup → (∀ c ∈ A, c ∈ B) → A.length ≤ B.length
  | [], B, _, _ => by simp
  | a :: A, B, hn, hs => by
    obtain ⟨h1, h2⟩ := List.nodup_cons.mp hn
    obtain ⟨B1, B2, rfl⟩ := List.append_of_mem (hs a (by simp))
    have := nodup_len (A := A) (B := B1 ++ B2) h2 fun c hc => by
      have := hs c (List.mem_cons_of_mem _ hc)
      rcases List.mem_append.mp this with h | h
      · exact List.mem_append_left _ h
      · rcases List.mem_cons.mp h with rfl | h
        · exact absurd hc h1
        · exact List.mem_append_right _ h
    simp at this ⊢; omega
theorem hull_len {p q : Int} {S : List T2} (h : Ris p q S) : (hullS S).length ≤ S.length := nodup_len (hull_nodup h) fun _ hc => hull_sub hc
/-- On one line with a and z, all of them: then no row of them turns. -/
theorem line_all {p q : Int} {a z b : T2} {S : List T2} (ha : lin p q a < lin p q z) (hb : lin p q b < lin p q z) (h0 : crT a z b = 0) (h1 : ∀ t ∈ S, 0 ≤ crT a z t) (h2 : ∀ t ∈ S, 0 ≤ crT z b t) {u v w : T2} (hu : u ∈ S) (hv : v ∈ S) (hw : w ∈ S) : crT u v w = 0 := by
  have key : ∀ t ∈ S, cx (df z a) (df z t) = 0 := by
    intro t ht
    have k1 := h1 t ht
    have k2 := h2 t ht
    rw [cr_df3] at k1 h0
    rw [cr_df] at k2
    have k := cx_id p q (df z a) (df z b) (df z t)
    simp only [lin_df] at k
    have e0 : cx (df z a) (df z b) = 0 := by omega
    rw [e0] at k
    have n1 := Int.mul_nonpos_of_nonneg_of_nonpos k2 (show lin p q a - lin p q z ≤ 0 by omega)
    rcases Int.lt_or_le (cx (df z a) (df z t)) 0 with h | h
    · have n2 := Int.mul_pos_of_neg_of_neg h (show lin p q b - lin p q z < 0 by omega)
      omega
    · omega
  have two : ∀ s ∈ S, ∀ t ∈ S, cx (df z s) (df z t) = 0 := by
    intro s hs t ht
    have k := cx_id p q (df z a) (df z s) (df z t)
    rw [key s hs, key t ht, lin_df] at k
    have k' : cx (df z s) (df z t) * (lin p q a - lin p q z) = 0 := by omega
    rcases Int.mul_eq_zero.mp k' with h | h
    · exact h
    · omega
  have e : crT u v w = cx (df z v) (df z w) - cx (df z v) (df z u) - cx (df z u) (df z w) := by unfold crT cr cx df; grind
  rw [e, two v hv w hw, two v hv u hu, two u hu w hw]; rfl
theorem lft_short {K : List T2} (h : Lft K) (h0 : ∀ u ∈ K, ∀ v ∈ K, ∀ w ∈ K, crT u v w = 0) : K.length ≤ 2 := by
  match K, h with
  | [], _ => simp
  | [a], _ => simp
  | [a, b], _ => simp
  | w :: v :: u :: r, h =>
    have := h.1
    rw [h0 u (by simp) v (by simp) w (by simp)] at this
    omega
/-- An edge that goes into the foot of the stack. -/
theorem edg_foot {P : List T2} : ∀ {K : List T2} {b z : T2}, Edg P (K ++ [b, z]) → ∀ t ∈ P, 0 ≤ crT z b t
  | [], _, _, h => h.1
  | [_], _, _, h => h.2.1
  | _ :: u :: r, _, _, h => edg_foot (K := u :: r) h.2
theorem fal_foot {p q : Int} : ∀ {K : List T2} {b z : T2}, Fal p q (K ++ [b, z]) → lin p q z < lin p q b
  | [], _, _, h => h.1
  | [_], _, _, h => h.2.1
  | _ :: u :: r, _, _, h => fal_foot (K := u :: r) h.2
theorem foot_of {K : List T2} {z : T2} (h2 : 2 ≤ K.length) (hl : K.getLast? = some z) : ∃ A b, K = A ++ [b, z] := by
  rcases List.eq_nil_or_concat K with rfl | ⟨M, y, rfl⟩
  · simp at h2
  · rw [List.concat_eq_append] at *
    have : y = z := by simpa using hl
    subst this
    rcases List.eq_nil_or_concat M with rfl | ⟨A, b, rfl⟩
    · simp at h2
    · exact ⟨A, b, by simp [List.concat_eq_append]⟩
/-- At the end where the way there meets the way back it turns, too. -/
theorem turn_at {p q : Int} {S : List T2} (h : Ris p q S) (h2 : 2 ≤ S.length) (h3 : 3 ≤ (hullS S).length) {z a : T2} {r A : List T2} {b : T2} (e1 : halfR S = z :: a :: r) (e2 : halfR S.reverse = A ++ [b, z]) : 0 < crT a z b := by
  have f1 := half_fal S h
  have f2 := half_fal S.reverse (ris_rev h)
  have g1 := half_edg S h
  have g2 := half_edg S.reverse (ris_rev h)
  have s1 := half_sub S
  have s2 : ∀ c ∈ halfR S.reverse, c ∈ S := fun c hc => by simpa using half_sub S.reverse c hc
  have l1 := half_lft S
  have l2 := half_lft S.reverse
  have hbS : b ∈ S := s2 b (by rw [e2]; simp)
  rcases Int.lt_or_le 0 (crT a z b) with h' | h'
  · exact h'
  exfalso
  rw [e1] at f1 g1
  rw [e2] at f2 g2
  have hz : crT a z b = 0 := by have := g1.1 b hbS; omega
  have hb := fal_foot f2
  rw [lin_neg, lin_neg] at hb
  have all : ∀ {u v w : T2}, u ∈ S → v ∈ S → w ∈ S → crT u v w = 0 := fun hu hv hw => line_all (p := p) (q := q) (a := a) (z := z) (b := b) (S := S) f1.1 (by omega) hz g1.1 (fun t ht => edg_foot g2 t (by simpa using ht)) hu hv hw
  have n1 := lft_short l1 (fun u hu v hv w hw => all (s1 u hu) (s1 v hv) (s1 w hw))
  have n2 := lft_short l2 (fun u hu v hv w hw => all (s2 u hu) (s2 v hv) (s2 w hw))
  unfold hullS at h3
  rw [if_neg (by omega)] at h3
  simp at h3
  omega
theorem Lft.glue : ∀ {A : List T2} {x y : T2} {B : List T2}, Lft (A ++ [x, y]) → Lft (x :: y :: B) → Lft (A ++ x :: y :: B)
  | [], _, _, _, _, h => h
  | [_], _, _, _, h1, h => ⟨h1.1, h⟩
  | [_, b], _, _, _, h1, h => ⟨h1.1, Lft.glue (A := [b]) h1.2 h⟩
  | _ :: b :: c :: r, _, _, _, h1, h => ⟨h1.1, Lft.glue (A := b :: c :: r) h1.2 h⟩
/-- The row of the corners, the first two once more at its end, turns to the left all along. -/
theorem hull_lft {p q : Int} {S : List T2} (h : Ris p q S) (h3 : 3 ≤ (hullS S).length) : Lft (hullS S ++ (hullS S).take 2).reverse := by
  have h2 : 2 ≤ S.length := by
    rcases Nat.lt_or_ge S.length 2 with h' | h'
    · unfold hullS at h3; rw [if_pos h'] at h3; omega
    · exact h'
  obtain ⟨z, a, r, e1, e2, e3⟩ := half_two h h2
  obtain ⟨y, c, s, f1, f2, f3⟩ := half_two (ris_rev h) (by simpa using h2)
  -- z the last, y the first of S
  have hz : S.reverse.head? = some z := by rw [List.head?_reverse]; exact e2
  have hy : S.head? = some y := by rw [List.getLast?_reverse] at f2; exact f2
  have k1 := half_last S
  have k2 := half_last S.reverse
  rw [hy] at k1
  rw [hz] at k2
  obtain ⟨A, b, hA⟩ := foot_of (by rw [f1]; simp) k2
  obtain ⟨B, d, hB⟩ := foot_of (by rw [e1]; simp) k1
  have t1 := turn_at h h2 h3 e1 hA
  have h3' : 3 ≤ (hullS S.reverse).length := by
    unfold hullS at h3 ⊢
    rw [if_neg (by omega)] at h3
    rw [if_neg (by simpa using h2)]
    simp at h3 ⊢; omega
  have t2 := turn_at (ris_rev h) (by simpa using h2) h3' f1 (by rw [List.reverse_reverse]; exact hB)
  have l1 := half_lft S
  have l2 := half_lft S.reverse
  have hh : hullS S = (halfR S).tail.reverse ++ (halfR S.reverse).tail.reverse := by unfold hullS; rw [if_neg (by omega)]
  -- hullS S = y :: d' :: ..
  have eR : (hullS S).reverse = (c :: s) ++ (a :: r) := by rw [hh, f1, e1]; simp
  have g1 : A ++ [b, z] = y :: c :: s := by rw [← hA, f1]
  have g2 : B ++ [d, y] = z :: a :: r := by rw [← hB, e1]
  -- the first two of the hull are y and d
  have hfst : ∃ H, hullS S = y :: d :: H := by
    have eq : (hullS S).reverse = (c :: s) ++ (a :: r) := eR
    cases B with
    | nil =>
      -- z = d, a = y, r = []
      simp at g2
      obtain ⟨rfl, rfl, rfl⟩ := g2
      -- the high half's last but one is z = d
      have hcs : ∃ s', c :: s = s' ++ [d] := by
        cases A with
        | nil =>
          simp at g1
          obtain ⟨rfl, rfl, rfl⟩ := g1
          exfalso
          have : (hullS S).length = 2 := by rw [← List.length_reverse, eR]; rfl
          omega
        | cons a' A' =>
          simp at g1
          exact ⟨A' ++ [b], by rw [← g1.2]; simp⟩
      obtain ⟨s', hs'⟩ := hcs
      refine ⟨s'.reverse, ?_⟩
      have := congrArg List.reverse eR
      rw [List.reverse_reverse] at this
      rw [this, hs']; simp
    | cons z' B' =>
      simp at g2
      have := congrArg List.reverse eR
      rw [List.reverse_reverse] at this
      refine ⟨B'.reverse ++ (c :: s).reverse, ?_⟩
      rw [this, ← g2.2]; simp
  obtain ⟨H, hH⟩ := hfst
  have eT : (hullS S ++ (hullS S).take 2).reverse = d :: y :: ((c :: s) ++ (a :: r)) := by
    rw [List.reverse_append, eR, hH]; simp
  rw [eT]
  -- glue: [d, y, c], halfR S.reverse = y :: c :: s = A ++ [b, z], [b, z, a], halfR S = z :: a :: r
  rw [f1] at l2
  rw [e1] at l1
  have q1 : Lft (b :: z :: a :: r) := ⟨t1, l1⟩
  have q2 : Lft (A ++ b :: z :: a :: r) := Lft.glue (by rw [g1]; exact l2) q1
  have q3 : A ++ b :: z :: a :: r = y :: c :: (s ++ (a :: r)) := by
    have : A ++ b :: z :: a :: r = (A ++ [b, z]) ++ (a :: r) := by simp
    rw [this, g1]; simp
  rw [q3] at q2
  exact ⟨t2, q2⟩
theorem lft_at : ∀ {K : List T2}, Lft K → ∀ i (h : i + 2 < K.length), 0 < crT K[i + 2] K[i + 1] K[i]
  | [], _, i, h => by simp at h
  | [_], _, i, h => by simp at h
  | [_, _], _, i, h => by simp at h; omega
  | w :: v :: u :: r, hl, 0, _ => hl.1
  | w :: v :: u :: r, hl, i + 1, h => by
    have := lft_at hl.2 i (by simpa using h)
    simpa using this
theorem hull_turn {p q : Int} {S : List T2} (h : Ris p q S) {M : List T2} (hM : hullS S = M) (h3 : 3 ≤ M.length) (i j k : Nat) (hi : i < M.length) (hj : j < M.length) (hk : k < M.length) (ej : (i + 1) % M.length = j) (ek : (j + 1) % M.length = k) : 0 < crT M[i] M[j] M[k] := by
  have hl := hull_lft h (by rw [hM]; exact h3)
  rw [hM] at hl
  have hlen : (M ++ M.take 2).reverse.length = M.length + 2 := by simp; omega
  have := lft_at hl (M.length - 1 - i) (by rw [hlen]; omega)
  have look : ∀ n (hn : n < (M ++ M.take 2).reverse.length) (m : Nat) (hm : m < M.length), (M.length + 1 - n) % M.length = m → (M ++ M.take 2).reverse[n] = M[m] := by
    intro n hn m hm e
    rw [hlen] at hn
    rw [List.getElem_reverse]
    have e1 : (M ++ M.take 2).length - 1 - n = M.length + 1 - n := by simp; omega
    simp only [e1]
    rcases Nat.lt_or_ge (M.length + 1 - n) M.length with g | g
    · rw [List.getElem_append_left g]
      rw [Nat.mod_eq_of_lt g] at e
      subst e; rfl
    · rw [List.getElem_append_right g, List.getElem_take]
      have e2 : (M.length + 1 - n) % M.length = M.length + 1 - n - M.length := by
        rw [Nat.mod_eq_sub_mod g, Nat.mod_eq_of_lt (by omega)]
      rw [e2] at e
      subst e; rfl
  have m1 : ∀ x, x < M.length → (x + 1) % M.length = if x + 1 < M.length then x + 1 else 0 := by
    intro x hx
    split
    · rename_i h; exact Nat.mod_eq_of_lt h
    · have : x + 1 = M.length := by omega
      rw [this, Nat.mod_self]
  rw [look _ _ i hi (by rw [show M.length + 1 - (M.length - 1 - i + 2) = i by omega, Nat.mod_eq_of_lt hi]),
    look _ _ j hj (by rw [show M.length + 1 - (M.length - 1 - i + 1) = i + 1 by omega]; exact ej),
    look _ _ k hk (by
      rw [show M.length + 1 - (M.length - 1 - i) = i + 2 by omega]
      rw [m1 i hi] at ej
      rw [m1 j hj] at ek
      rcases Nat.lt_or_ge (i + 2) M.length with g | g
      · rw [Nat.mod_eq_of_lt g]
        rw [if_pos (by omega)] at ej
        subst ej
        rw [if_pos (by omega)] at ek
        omega
      · rw [Nat.mod_eq_sub_mod g, Nat.mod_eq_of_lt (by omega)]
        split at ej <;> split at ek <;> omega)] at this
  exact this
/-- Some corner is the farthest. -/
theorem farthest (a b : Int) : ∀ (M : List T2), M ≠ [] → ∃ (i : Nat) (hi : i < M.length), ∀ c ∈ M, lin a b c ≤ lin a b M[i]
  | [], h => absurd rfl h
  | [c], _ => ⟨0, by simp, fun d hd => by simp at hd; subst hd; simp⟩
  | c :: d :: r, _ => by
    obtain ⟨i, hi, h⟩ := farthest a b (d :: r) (by simp)
    by_cases hc : lin a b c ≤ lin a b (d :: r)[i]
    · refine ⟨i + 1, by simpa using hi, fun e he => ?_⟩
      rcases List.mem_cons.mp he with rfl | he
      · simpa using hc
      · simpa using h e he
    · refine ⟨0, by simp, fun e he => ?_⟩
      rcases List.mem_cons.mp he with rfl | he
      · simp
      · have := h e he; simp only [List.getElem_cons_zero]; omega
/-- What lies to the right of no edge is in no direction farther off than a corner. -/
theorem in_ext {a b : Int} {M : List T2} {s : T2} (h3 : 3 ≤ M.length)
    (ht : ∀ (i j k : Nat) (hi : i < M.length) (hj : j < M.length) (hk : k < M.length), (i + 1) % M.length = j → (j + 1) % M.length = k → 0 < crT M[i] M[j] M[k])
    (hs : ∀ (i j : Nat) (hi : i < M.length) (hj : j < M.length), (i + 1) % M.length = j → 0 ≤ crT M[i] M[j] s) : ∃ c ∈ M, lin a b s ≤ lin a b c := by
  obtain ⟨j, hj, hm⟩ := farthest a b M (by intro e; subst e; simp at h3)
  refine ⟨M[j], List.getElem_mem hj, ?_⟩
  -- the corners ahead and behind
  obtain ⟨i, hi, ei⟩ : ∃ i, i < M.length ∧ (i + 1) % M.length = j := by
    cases j with
    | zero => exact ⟨M.length - 1, by omega, by rw [show M.length - 1 + 1 = M.length by omega, Nat.mod_self]⟩
    | succ j => exact ⟨j, by omega, Nat.mod_eq_of_lt hj⟩
  have hk : (j + 1) % M.length < M.length := Nat.mod_lt _ (by omega)
  have t1 := ht i j _ hi hj hk ei rfl
  have s1 := hs i j hi hj ei
  have s2 := hs j _ hj hk rfl
  have m1 := hm M[i] (List.getElem_mem hi)
  have m2 := hm M[(j + 1) % M.length] (List.getElem_mem hk)
  generalize M[i] = u at *
  generalize M[(j + 1) % M.length] = w at *
  generalize M[j] = v at *
  rw [cr_df2] at t1 s1
  rw [cr_df] at s2
  have k := cx_id a b (df u v) (df v w) (df v s)
  simp only [lin_df] at k
  have n1 := Int.mul_nonneg s2 (show 0 ≤ lin a b v - lin a b u by omega)
  have n2 := Int.mul_nonpos_of_nonneg_of_nonpos s1 (show lin a b w - lin a b v ≤ 0 by omega)
  rcases Int.lt_or_le 0 (lin a b s - lin a b v) with h | h
  · have := Int.mul_pos t1 h; omega
  · omega
theorem srt_ris {S : List T2} (h : Srt S) (hok : ∀ c ∈ S, 0 ≤ c.x ∧ c.x ≤ 255 ∧ 0 ≤ c.y ∧ c.y ≤ 255) : Ris 1000 1 S := by
  refine List.Pairwise.imp_of_mem (R := fun a b => ltB a b = true) (fun {a b} ha hb hab => ?_) h
  have := hok a ha
  have := hok b hb
  rw [ltB_t] at hab
  unfold lin; omega
end Go.Proofs.Ytocfdmlkicndoaa
