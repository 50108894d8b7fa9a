/-
  Papers: numbers with blanks between, a Clause's text, as the spec makes them.
-/
import Derived.Test.YtgpfdoiiholncaaDoorKP3
import Derived.BigRegion
namespace Go.Proofs.YtgpfdoiiholncaaDoor.K
open Go.RowKit Go.Joins
attribute [local go_sem] Oper.semAt_some

def smallN (ns : List Int) : Prop := ∀ n ∈ ns, 0 ≤ n ∧ n ≤ 1000000000
theorem getI {L : List Int} {k : Nat} (hk : k < L.length) : L[k]? = some (L.getD k 0) := by simp [List.getD, hk]
theorem txL_le {ns : List Int} (h : smallN ns) : (txL ns).length ≤ 11 * ns.length := by
  have hl : ∀ L : List Int, smallN L → Lib.lens (L.map Lib.itoa) ≤ 10 * L.length := by
    intro L
    induction L with
    | nil => intro _; simp [Lib.lens]
    | cons a t ih =>
      intro hL
      have h1 := itoa_len (n := a) (k := 10) (hL a (by simp)).1 (by have := (hL a (by simp)).2; omega) (by omega)
      have h2 := ih fun x hx => hL x (List.mem_cons_of_mem _ hx)
      simp only [Lib.lens, List.map_cons, List.sum_cons, List.length_cons] at *
      omega
  cases ns with
  | nil => simp [txL, Lib.join_nil]
  | cons a t =>
    have h1 := hl _ h
    unfold txL
    rw [List.map_cons, Lib.join_length, List.length_map]
    rw [List.map_cons] at h1
    simp only [blank, List.length_cons, List.length_nil] at *
    omega
theorem txA_size (l : List UInt8) : (⟨l.toArray⟩ : ByteArray).size = l.length := by simp [ByteArray.size]
set_option maxRecDepth 100000 in
set_option maxHeartbeats 1000000 in
theorem l1Ints_any (p : Option Addr) (cap : Nat) (ns : List Int) (n : Nat) (hn : ns.length = n) (hb0 : n ≤ 100) (hs : smallN ns) (w : World) (hL : SlG kI w p ns) :
    Calls Tryd.prog 23 #[.slice p n cap] w fun e w' => e = .returned (.string ⟨(txL ns).toArray⟩) ∧ Below w.heap.size w w' := by
  have HN : Hid (ns.length = n ∧ smallN ns) := ⟨hn, hs⟩
  clear hn hs
  go_enter Tryd.func23, Tryd.ntmps23
  go_wp2
  go_loopw [3, 4] (fun sv iv wr => ∃ (k : Nat) (u : ByteArray), k ≤ n ∧ iv = .int .i64 k ∧ sv = .string u ∧ Hid (u = ⟨(txL (ns.take k)).toArray⟩) ∧ u.size ≤ 1100 ∧ Below w.heap.size w wr) (fun _ iv _ => n - (intOf iv).toNat)
  case atStart => exact ⟨0, ⟨#[]⟩, by omega, rfl, rfl, rfl, by decide, Below.refl _ _⟩
  case round =>
    obtain ⟨k, u, hk, rfl, rfl, hu, hus, hb⟩ := hrel
    by_cases hlt : k < n
    · have hki : (k : Int) < n := by omega
      have hkL : k < ns.length := by rw [HN.out.1]; exact hlt
      obtain ⟨g, off, rfl, hC⟩ := (hL.step hb).at hkL
      have c0 := hC.int (getI hkL)
      have hm := HN.out.2 _ (List.mem_of_getElem? (getI hkL))
      have htk : ns.take (k + 1) = ns.take k ++ [ns.getD k 0] := by rw [List.take_succ_eq_append_getElem hkL]; simp [List.getD, hkL]
      have hlen := txL_le (ns := ns.take (k + 1)) fun x hx => HN.out.2 x (List.mem_of_mem_take hx)
      have hl2 : (ns.take (k + 1)).length ≤ 100 := by rw [List.length_take]; omega
      obtain ⟨m, hmm⟩ : ∃ m : Nat, ns.getD k 0 = m := ⟨(ns.getD k 0).toNat, by omega⟩
      rw [hmm] at c0 hm htk
      have hm9 : m ≤ 1000000000 := by omega
      have hds : (dgS m).size ≤ 10 := by
        have := itoa_len (n := (m : Int)) (k := 10) (by omega) (by omega) (by omega)
        unfold dgS; rw [txA_size]; exact this
      have HE : Hid (ns.take (k + 1) = ns.take k ++ [(m : Int)] ∧ (txL (ns.take (k + 1))).length ≤ 1100 ∧ (ns.take k).length = k) := ⟨htk, by omega, by rw [List.length_take]; omega⟩
      clear hC hm htk hlen hl2 hmm hkL
      have hq1 : ¬ 9223372036854775807 < u.size + 1 := by omega
      have hq2 : ¬ 9223372036854775807 < u.size + (dgS m).size := by omega
      have hq3 : ¬ 9223372036854775807 < u.size + 1 + (dgS m).size := by omega
      by_cases hk0 : k = 0
      · subst hk0
        rw [Nat.add_zero] at c0
        go_wp2_with (go_at_call 25; refine (l1Int_any m hm9 _).mono ?_; rintro e w1 ⟨rfl, hb1⟩)
        go_roundw
        case rel =>
          have e1 : u ++ dgS m = ⟨(txL (ns.take (0 + 1))).toArray⟩ := by
            rw [hu.out, HE.out.1]
            simp only [List.take_zero, List.nil_append, txL_one]
            show (⟨([] : List UInt8).toArray⟩ : ByteArray) ++ ⟨(Lib.itoa m).toArray⟩ = _
            rw [cat_eq]; rfl
          exact ⟨0 + 1, _, by omega, by go_num, rfl, e1, by rw [e1, txA_size]; exact HE.out.2.1, bstep hb hb1 (Nat.le_refl _)⟩
        case measure => simp [intOf]; omega
      · have hk1 : (0 : Int) < k := by omega
        go_wp2_with (go_at_call 25; refine (l1Int_any m hm9 _).mono ?_; rintro e w1 ⟨rfl, hb1⟩)
        go_roundw
        case rel =>
          have e1 : u ++ ⟨#[32]⟩ ++ dgS m = ⟨(txL (ns.take (k + 1))).toArray⟩ := by
            rw [hu.out, HE.out.1, txL_snoc (fun h => by have h2 := HE.out.2.2; rw [h] at h2; exact hk0 (by simpa using h2.symm))]
            show (⟨(txL (ns.take k)).toArray⟩ : ByteArray) ++ ⟨[32].toArray⟩ ++ ⟨(Lib.itoa m).toArray⟩ = _
            rw [cat_eq, cat_eq]
          exact ⟨k + 1, _, by omega, by go_num, rfl, e1, by rw [e1, txA_size]; exact HE.out.2.1, bstep hb hb1 (Nat.le_refl _)⟩
        case measure => simp [intOf]; omega
    · obtain rfl : k = n := by omega
      have HF : Hid (u = ⟨(txL ns).toArray⟩) := by rw [hu.out, List.take_of_length_le (by rw [HN.out.1]; exact Nat.le_refl _)]; exact rfl
      clear hu
      go_wp2
      go_ret
      exact ⟨by rw [← HF.out]; rfl, hb⟩
end Go.Proofs.YtgpfdoiiholncaaDoor.K
