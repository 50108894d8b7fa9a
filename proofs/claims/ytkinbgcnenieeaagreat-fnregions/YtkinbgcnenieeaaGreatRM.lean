/-
  What several lists of Cells have in common: the mathematics of a Paper's region.
-/
import Derived.Test.YtkinbgcnenieeaaGreatMV2
import Derived.Test.YtkinbgcnenieeaaGreatAL2
namespace Go.Proofs.YtkinbgcnenieeaaGreat
open M

/-- How much of a Cell all lists have: 0 nothing, 1 some, 2 all. -/
def rgF (Ls : List (List T3)) (c : T3) : Int := Ls.foldl (fun a L => min a (muF L c)) 2
theorem muF_bd (L : List T3) (c : T3) : 0 ≤ muF L c ∧ muF L c ≤ 2 := by have := much_le L (8 - c.l).toNat c; unfold muF; omega
theorem rg_snoc (Ls : List (List T3)) (L : List T3) (c : T3) : rgF (Ls ++ [L]) c = min (rgF Ls c) (muF L c) := by unfold rgF; rw [List.foldl_append]; rfl
theorem fold_min (c : T3) : ∀ (Ls : List (List T3)) (a : Int), 0 ≤ a → a ≤ 2 → (0 ≤ Ls.foldl (fun a L => min a (muF L c)) a ∧ Ls.foldl (fun a L => min a (muF L c)) a ≤ 2)
    ∧ (Ls.foldl (fun a L => min a (muF L c)) a = 2 ↔ a = 2 ∧ ∀ L ∈ Ls, muF L c = 2)
    ∧ (Ls.foldl (fun a L => min a (muF L c)) a = 0 ↔ a = 0 ∨ ∃ L ∈ Ls, muF L c = 0)
  | [], a, h0, h2 => by simp [h0, h2]
  | L :: t, a, h0, h2 => by
    have hb := muF_bd L c
    obtain ⟨i1, i2, i3⟩ := fold_min c t (min a (muF L c)) (by omega) (by omega)
    rw [List.foldl_cons]
    refine ⟨i1, ?_, ?_⟩
    · rw [i2]
      simp only [List.mem_cons, forall_eq_or_imp]
      constructor
      · rintro ⟨h, k⟩; exact ⟨by omega, by omega, k⟩
      · rintro ⟨h, k, l⟩; exact ⟨by omega, l⟩
    · rw [i3]
      simp only [List.mem_cons, exists_eq_or_imp]
      constructor
      · rintro (h | h)
        · by_cases e : a = 0
          · exact .inl e
          · exact .inr (.inl (by omega))
        · exact .inr (.inr h)
      · rintro (h | h | h)
        · exact .inl (by omega)
        · exact .inl (by omega)
        · exact .inr h
theorem rg_bd (Ls : List (List T3)) (c : T3) : 0 ≤ rgF Ls c ∧ rgF Ls c ≤ 2 := (fold_min c Ls 2 (by omega) (by omega)).1
theorem rg_two (Ls : List (List T3)) (c : T3) : rgF Ls c = 2 ↔ ∀ L ∈ Ls, muF L c = 2 := by have := (fold_min c Ls 2 (by omega) (by omega)).2.1; unfold rgF; rw [this]; simp
theorem rg_nil (Ls : List (List T3)) (c : T3) : rgF Ls c = 0 ↔ ∃ L ∈ Ls, muF L c = 0 := by have := (fold_min c Ls 2 (by omega) (by omega)).2.2; unfold rgF; rw [this]; simp
/-- All Spots that each list has. -/
def covA (Ls : List (List T3)) (n : Int) : Prop := ∀ L ∈ Ls, cov L n
def okLs (Ls : List (List T3)) : Prop := ∀ L ∈ Ls, ∀ c ∈ L, c.ok = true
theorem rg_tells {Ls : List (List T3)} (h : okLs Ls) : Tells (rgF Ls) (covA Ls) := by
  refine ⟨fun c hc => ?_, fun c hc h0 n hn hcv => ?_, fun c hc h8 => ?_⟩
  · rw [rg_two]
    constructor
    · intro h2 n hn L hL; exact ((muF_tells (h L hL)).two c hc).mp (h2 L hL) n hn
    · intro hf L hL; exact ((muF_tells (h L hL)).two c hc).mpr fun n hn => hf n hn L hL
  · obtain ⟨L, hL, h1⟩ := (rg_nil Ls c).mp h0
    exact (muF_tells (h L hL)).nil c hc h1 n hn (hcv L hL)
  · by_cases h0 : ∃ L ∈ Ls, muF L c = 0
    · exact .inl ((rg_nil Ls c).mpr h0)
    · refine .inr ((rg_two Ls c).mpr fun L hL => ?_)
      rcases (muF_tells (h L hL)).spot c hc h8 with e | e
      · exact absurd ⟨L, hL, e⟩ h0
      · exact e
/-- The region of several lists. -/
def rgL (Ls : List (List T3)) : List T3 := dec (rgF Ls) 8 zro
theorem zro_8 : (8 - zro.l).toNat = 8 := by decide
theorem rgL_of {Ls : List (List T3)} (h : okLs Ls) : DecOf (covA Ls) zro (rgL Ls) := dec_of (rg_tells h) 8 zro zro_ok zro_8
theorem zro_mem {n : Int} : mem n zro ↔ 0 ≤ n ∧ n < 65536 := by unfold mem; rw [zro_lo, zro_hi]
theorem rgL_nil : rgL [] = [zro] := dec_full rfl
theorem rgL_ok {Ls : List (List T3)} (h : okLs Ls) : ∀ c ∈ rgL Ls, c.ok = true := (rgL_of h).ok
theorem nodup_le : ∀ {A B : List Int}, A.Nodup → (∀ x ∈ A, x ∈ B) → A.length ≤ B.length
  | [], _, _, _ => Nat.zero_le _
  | a :: t, B, hn, hs => by
    obtain ⟨s, u, rfl⟩ := List.append_of_mem (hs a (List.mem_cons_self ..))
    have hn' := List.nodup_cons.mp hn
    have := nodup_le (A := t) (B := s ++ u) hn'.2 fun x hx => by
      have := hs x (List.mem_cons_of_mem _ hx)
      simp only [List.mem_append, List.mem_cons] at this ⊢
      rcases this with h | rfl | h
      · exact .inl h
      · exact absurd hx hn'.1
      · exact .inr h
    simp only [List.length_cons, List.length_append] at this ⊢
    omega
theorem rgL_from {Ls : List (List T3)} (h : okLs Ls) {m : T3} (hm : m ∈ rgL Ls) (hz : m ≠ zro) : ∃ a ∈ Ls.flatten, a.lo = m.lo := by
  have hd := rgL_of h
  have hok := hd.ok m hm
  have hl : 0 < m.l := by
    have := (ok_iff.mp hok)
    rcases Int.lt_or_le 0 m.l with h | h
    · exact h
    · exfalso
      apply hz
      have e : m.l = 0 := by omega
      rw [e] at this
      have ex : m.x = 0 := by have h1 := this.2.2.1; have h2 := this.2.2.2.1; simp at h2; omega
      have ey : m.y = 0 := by have h1 := this.2.2.2.2.1; have h2 := this.2.2.2.2.2; simp at h2; omega
      obtain ⟨l, x, y⟩ := m
      simp only at e ex ey
      subst e ex ey
      rfl
  have hu := up_ok' hok hl
  have hul : m.up.l < 8 := by have := (ok_iff.mp hok).2.1; show m.l - 1 < 8; omega
  rcases hd.least m hm with e | hnf
  · exact absurd e hz
  · have hlo : mem m.lo m := ⟨Int.le_refl _, m.lt⟩
    apply Classical.byContradiction
    intro hno
    apply hnf
    intro n hn L hL
    have hfull : full (cov L) m := fun k hk => hd.full m hm k hk L hL
    obtain ⟨a, ha, a1, a2⟩ := hfull m.lo hlo
    have haok := h L hL a ha
    have hne : a.lo ≠ m.lo := fun e => hno ⟨a, List.mem_flatten.mpr ⟨L, hL, ha⟩, e⟩
    have hins : insT m a = true := by
      rcases lam haok hok with h1 | h1 | h1 | h1
      · have := m.lt; omega
      · have := m.lt; omega
      · have := (ins_iff haok hok).mp h1; omega
      · exact h1
    obtain ⟨i, hi, hq⟩ : ∃ i, i < 4 ∧ m.up.q i = m := ⟨_, by omega, up_q hl⟩
    rw [← hq] at hins
    rcases q_up_or hu hul haok hi hins with e | e
    · rw [hq] at e; exact absurd (by rw [e]) hne
    · have := (ins_iff hu haok).mp e
      exact ⟨a, ha, by have := hn.1; omega, by have := hn.2; omega⟩
theorem rgL_len {Ls : List (List T3)} (h : okLs Ls) (h8 : ∀ L ∈ Ls, L.length ≤ 8) : (rgL Ls).length ≤ 1 + 8 * Ls.length := by
  have hd := rgL_of h
  have hfl : Ls.flatten.length ≤ 8 * Ls.length := by
    clear hd h
    induction Ls with
    | nil => simp
    | cons L t ih =>
      have h1 := h8 L (List.mem_cons_self ..)
      have h2 := ih fun x hx => h8 x (List.mem_cons_of_mem _ hx)
      simp only [List.flatten_cons, List.length_append, List.length_cons]
      omega
  have hnd : ((rgL Ls).map T3.lo).Nodup := by
    unfold List.Nodup
    rw [List.pairwise_map]
    exact hd.srt.imp fun {a b} hab e => by have := a.lt; omega
  have hz0 : zro.lo = 0 := zro_lo
  have := nodup_le (A := (rgL Ls).map T3.lo) (B := zro.lo :: Ls.flatten.map T3.lo) hnd fun x hx => by
    obtain ⟨m, hm, rfl⟩ := List.mem_map.mp hx
    by_cases hz : m = zro
    · rw [hz]; exact List.mem_cons_self ..
    · obtain ⟨a, ha, e⟩ := rgL_from h hm hz
      rw [← e]
      exact List.mem_cons_of_mem _ (List.mem_map.mpr ⟨a, ha, rfl⟩)
  simp only [List.length_map, List.length_cons] at this
  omega
theorem rgL_okL {Ls : List (List T3)} (h : okLs Ls) (h8 : ∀ L ∈ Ls, L.length ≤ 8) (h6 : Ls.length ≤ 6) : okL (rgL Ls) = true := by
  have h1 := rgL_len h h8
  unfold okL
  rw [Bool.and_eq_true, decide_eq_true_iff, List.all_eq_true]
  exact ⟨by omega, rgL_ok h⟩
/-- One list more: what is common to the region and the list. -/
theorem rgL_snoc {Ls : List (List T3)} {L : List T3} (h : okLs Ls) (hL : okL L = true) (h8 : ∀ L ∈ Ls, L.length ≤ 8) (h6 : Ls.length ≤ 6) : comS (rgL Ls) L = rgL (Ls ++ [L]) := by
  have hLk : ∀ c ∈ L, c.ok = true := okL_t hL
  have hk : okLs (Ls ++ [L]) := fun K hK => by
    rcases List.mem_append.mp hK with hK | hK
    · exact h K hK
    · simp at hK; subst hK; exact hLk
  have hd := rgL_of h
  have hd2 := rgL_of hk
  have ht := cmF_tells (rgL_ok h) hLk
  unfold comS
  rw [rgL_okL h h8 h6, hL, Bool.true_and, if_pos rfl]
  refine (hd2.canon.is_dec ht fun n h0 h1 => ?_).symm
  have hm : mem n zro := zro_mem.mpr ⟨h0, h1⟩
  rw [← hd2.has n hm, ← hd.has n hm]
  constructor
  · intro hc; exact ⟨fun K hK => hc K (List.mem_append.mpr (.inl hK)), hc L (by simp)⟩
  · rintro ⟨a, b⟩ K hK
    rcases List.mem_append.mp hK with hK | hK
    · exact a K hK
    · simp at hK; subst hK; exact b
end Go.Proofs.YtkinbgcnenieeaaGreat
