/-
  A journal's lines: how long they are; what the loops over them say.
-/
import Derived.Test.YtgpfdoiiholncaaDoorKJM
namespace Go.Proofs.YtgpfdoiiholncaaDoor.K.J

theorem itoa_len {n : Int} {k : Nat} (h0 : 0 ≤ n) (h : n < ((10 ^ (k + 1) : Nat) : Int)) : (Lib.itoa n).length ≤ k + 1 := by
  obtain ⟨u, rfl⟩ : ∃ u : Nat, n = u := ⟨n.toNat, by omega⟩
  have e : Lib.itoa (u : Int) = Lib.decDigits u := by unfold Lib.itoa; rw [if_neg (by omega)]; rfl
  rw [e, Lib.decDigits_length]
  exact nDig_le (by omega)
theorem rec_in {r : Rc} (h : I.recB r = true) : (1 ≤ r.t ∧ r.t ≤ 2) ∧ (1 ≤ r.i ∧ r.i ≤ 100000) ∧ (0 ≤ r.x ∧ r.x ≤ 255) ∧ (0 ≤ r.y ∧ r.y ≤ 255) ∧ r.s.size ≤ 20 := by
  unfold I.recB rgB at h
  rw [Bool.and_eq_true, decide_eq_true_iff] at h
  obtain ⟨h1, h2⟩ := h
  split at h2
  · rename_i ht
    rw [spotB_eq, Bool.and_eq_true, decide_eq_true_iff] at h2
    unfold szB at h2
    rw [decide_eq_true_iff] at h2
    omega
  · split at h2
    · rename_i ht
      rw [decide_eq_true_iff] at h2
      obtain ⟨a, b, c⟩ := h2
      rw [c]
      refine ⟨by omega, by omega, by omega, by omega, by decide⟩
    · cases h2
theorem hexW_len (s : List UInt8) : (hexW s).length ≤ 2 * s.length + 1 := by
  unfold hexW
  split
  · simp
  · rw [hex_len]; omega
theorem lens_cons (a : List UInt8) (L : List (List UInt8)) : Lib.lens (a :: L) = a.length + Lib.lens L := by simp [Lib.lens]
theorem lens_app (A B : List (List UInt8)) : Lib.lens (A ++ B) = Lib.lens A + Lib.lens B := by simp [Lib.lens]
theorem lens_it {r : Rc} (h : I.recB r = true) : Lib.lens (itW r) ≤ 56 := by
  obtain ⟨h1, h2, h3, h4, h5⟩ := rec_in h
  have a1 := itoa_len (n := r.t) (k := 0) (by omega) (by omega)
  have a2 := itoa_len (n := r.i) (k := 5) (by omega) (by omega)
  have a3 := itoa_len (n := r.x) (k := 2) (by omega) (by omega)
  have a4 := itoa_len (n := r.y) (k := 2) (by omega) (by omega)
  have a5 := itoa_len (n := (r.s.size : Int)) (k := 1) (by omega) (by omega)
  have a6 := hexW_len r.s.data.toList
  have a7 : r.s.data.toList.length = r.s.size := Array.length_toList
  unfold itW
  simp only [lens_cons]
  have : Lib.lens [] = 0 := rfl
  omega
theorem lens_its : ∀ {L : List Rc} (_ : ∀ r ∈ L, I.recB r = true), Lib.lens (L.flatMap itW) ≤ 56 * L.length
  | [], _ => by simp [Lib.lens]
  | r :: L, h => by
    have ih := lens_its (L := L) fun x hx => h x (List.mem_cons_of_mem _ hx)
    have hr := lens_it (h r (List.mem_cons_self ..))
    rw [List.flatMap_cons, lens_app, List.length_cons]
    omega
/-- A line has at most 400 bytes. -/
theorem shL_len {e : En} (h : enB e = true) : (shL e).length ≤ 400 := by
  obtain ⟨h1, h2, h3, h4, h5⟩ := enB_t h
  have hi := lens_its h5
  have hc := chk_bd (body e)
  have a1 := itoa_len (n := chk (body e)) (k := 5) (by omega) (by omega)
  have a2 := itoa_len (n := e.k) (k := 0) (by omega) (by omega)
  have a3 := itoa_len (n := e.t) (k := 1) (by omega) (by omega)
  have a4 := itoa_len (n := e.q) (k := 5) (by omega) (by omega)
  have hw := liW_len e
  unfold shL lin
  rw [List.length_append]
  unfold liW at hw ⊢
  rw [Lib.join_length, lens_cons]
  unfold enW at hw ⊢
  simp only [lens_cons, List.length_cons, List.length_nil] at hw ⊢
  omega
/-- Words, one more: 'from' and 'i' of a loop that looks for the sign. -/
theorem spl_at {b : UInt8} {s : List UInt8} {f i : Nat} (hf : f ≤ i) (hn : b ∉ (s.drop f).take (i - f)) (hi : s[i]? = some b) : spl b (s.drop f) = (s.drop f).take (i - f) :: spl b (s.drop (i + 1)) := by
  have hl := (List.getElem?_eq_some_iff.1 hi).1
  have e : s.drop f = (s.drop f).take (i - f) ++ b :: s.drop (i + 1) := by
    have e1 : (s.drop f).drop (i - f) = b :: s.drop (i + 1) := by
      rw [List.drop_drop]
      have : f + (i - f) = i := by omega
      rw [this, List.drop_eq_getElem_cons hl, (List.getElem?_eq_some_iff.1 hi).2]
    rw [← e1, List.take_append_drop]
  conv => lhs; rw [e]
  exact spl_word hn _
theorem spl_end {b : UInt8} {s : List UInt8} {f : Nat} (hn : b ∉ (s.drop f).take (s.length - f)) : spl b (s.drop f) = [(s.drop f).take (s.length - f)] := by
  have e : (s.drop f).take (s.length - f) = s.drop f := List.take_of_length_le (by simp)
  rw [e] at hn ⊢
  exact spl_last hn
theorem no_more {b : UInt8} {s : List UInt8} {f i : Nat} {c : UInt8} (hf : f ≤ i) (hn : b ∉ (s.drop f).take (i - f)) (hi : s[i]? = some c) (hc : c ≠ b) : b ∉ (s.drop f).take (i + 1 - f) := by
  have e : i + 1 - f = (i - f) + 1 := by omega
  rw [e, List.take_add_one]
  intro m
  rcases List.mem_append.1 m with m | m
  · exact hn m
  · rw [List.getElem?_drop] at m
    have : f + (i - f) = i := by omega
    rw [this, hi] at m
    simp only [Option.toList_some, List.mem_singleton] at m
    exact hc m.symm
/-- Entries, one more: the disk from 'at' on, its first byte 10 at 'end'. -/
theorem ens_at {s : List UInt8} {f i : Nat} (hf : f ≤ i) (hn : (10 : UInt8) ∉ (s.drop f).take (i - f)) (hi : s[i]? = some 10) : ens (s.drop f) = match linE ((s.drop f).take (i - f)) with
    | none => ([], 0)
    | some e => (e :: (ens (s.drop (i + 1))).1, i + 1 - f + (ens (s.drop (i + 1))).2) := by
  have hl := (List.getElem?_eq_some_iff.1 hi).1
  have e : s.drop f = (s.drop f).take (i - f) ++ 10 :: s.drop (i + 1) := by
    have e1 : (s.drop f).drop (i - f) = 10 :: s.drop (i + 1) := by
      rw [List.drop_drop]
      have : f + (i - f) = i := by omega
      rw [this, List.drop_eq_getElem_cons hl, (List.getElem?_eq_some_iff.1 hi).2]
    rw [← e1, List.take_append_drop]
  conv => lhs; rw [e]
  rw [ens_line hn]
  have e2 : ((s.drop f).take (i - f)).length + 1 = i + 1 - f := by rw [List.length_take, List.length_drop]; omega
  rw [e2]
  cases linE ((s.drop f).take (i - f)) <;> rfl
theorem ens_end {s : List UInt8} {f : Nat} (hn : (10 : UInt8) ∉ (s.drop f).take (s.length - f)) : ens (s.drop f) = ([], 0) := by
  have e : (s.drop f).take (s.length - f) = s.drop f := List.take_of_length_le (by simp)
  rw [e] at hn
  exact ens_none hn
theorem hex_snoc (s : List UInt8) (c : UInt8) : hexL (s ++ [c]) = hexL s ++ [hx (c.toNat / 16), hx (c.toNat % 16)] := by unfold hexL; rw [List.flatMap_append]; rfl
theorem its_snoc (L : List Rc) (r : Rc) : (L ++ [r]).flatMap itW = L.flatMap itW ++ itW r := by rw [List.flatMap_append]; simp

end Go.Proofs.YtgpfdoiiholncaaDoor.K.J
