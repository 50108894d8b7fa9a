/-
  The numbers of Marks, a list of its own with the same Marks.
-/
import Derived.Test.YtipfcmfcdfofmaaGreatP1
namespace Go.Proofs.YtipfcmfcdfofmaaGreat
open Go.RowKit Go.Joins
attribute [local go_sem] Oper.semAt_some

theorem oneI (n : Int) : ∀ u ∈ kI.flat [n], u.oneCell' = true := fun u hu => by simp [Kd.flat, kI] at hu; subst hu; rfl
theorem oneM (L : List Mk) : ∀ u ∈ kM.flat L, u.oneCell' = true := fun u hu => by
  simp only [Kd.flat, List.mem_flatMap, kM] at hu
  obtain ⟨m, _, hu⟩ := hu
  simp at hu
  rcases hu with rfl | rfl | rfl <;> rfl
theorem oneS (c : T2) : ∀ u ∈ kS.flat [c], u.oneCell' = true := fun u hu => by
  simp [Kd.flat, kS] at hu
  rcases hu with rfl | rfl <;> rfl
theorem Sg.nilRow {α : Type} (K : Kd α) {w W : World} {rs : List Rw} (h : Sg w W rs) : Sg w W (rG K (.slice none 0 0) [] :: rs) :=
  ⟨h.bel, fun r hr => by
    rcases List.mem_cons.mp hr with rfl | hr
    · exact World.ownsRow_nil ..
    · exact h.own r hr, .cons (fun q _ => .inl rfl) h.dis⟩
theorem take_map {α β : Type} {L : List α} {k : Nat} {a : α} (f : α → β) (h : L[k]? = some a) : (L.take (k + 1)).map f = (L.take k).map f ++ [f a] := by
  have hk := (List.getElem?_eq_some_iff.1 h).1
  rw [List.take_succ_eq_append_getElem hk, List.map_append]
  rw [(List.getElem?_eq_some_iff.1 h).2]; rfl

set_option maxHeartbeats 2000000 in
theorem idsOf_any (p : Option Addr) (cap : Nat) (L : List Mk) (n : Nat) (hn : L.length = n) (w : World) (hL : SlG kM w p L) (hb : n ≤ 1000) {V : List Int} (hV : L.map Mk.i = V) :
    Calls Tryz.prog 76 #[.slice p n cap] w fun e w' => ∃ q c, e = .returned (.slice q n c) ∧ Sg w w' [rG kI (.slice q n c) V] := by
  have HN : Hid (L.length = n) := hn
  have HV : Hid (L.map Mk.i = V) := hV
  clear hn hV
  have hS0 := (Sg.nil w).nilRow kI
  go_enter Tryz.func76, Tryz.ntmps76
  go_wp2
  go_loopw [3, 8] (fun v iv wr => ∃ (k : Nat) (q : Option Addr) (c : Nat), k ≤ n ∧ iv = .int .i64 k ∧ v = .slice q k c ∧ Sg w wr [rG kI (.slice q k c) ((L.take k).map Mk.i)]) (fun _ iv _ => n - (intOf iv).toNat)
  case atStart => exact ⟨0, none, 0, by omega, rfl, rfl, hS0⟩
  case round =>
    clear hS0
    obtain ⟨k, q, c, hk, rfl, rfl, hS⟩ := hrel
    by_cases hlt : k < n
    · have hki : (k : Int) < n := by omega
      have hkL : k < L.length := by rw [HN.out]; exact hlt
      obtain ⟨g, off, rfl, hC⟩ := (hL.step hS.bel).at hkL
      obtain ⟨c0, c1, c2⟩ := hC.mk (getM hkL)
      have htk := take_map Mk.i (getM hkL)
      obtain ⟨m, hm⟩ : ∃ m, L.getD k zmk = m := ⟨_, rfl⟩
      rw [hm] at c0 c1 c2 htk
      have HT : Hid ((L.take (k + 1)).map Mk.i = (L.take k).map Mk.i ++ [m.i]) := htk
      have hml : ((L.take k).map Mk.i).length = k := by simp; omega
      have HML : Hid (((L.take k).map Mk.i).length = k) := hml
      clear htk hm hC hml
      go_wp2_with (at_builtin; refine wpList_sgapp appI rfl _ _ rfl (A := []) (Bs := []) (B := [m.i]) (n := k) (m := 1) hS (below_alloc2 _ _ _) HML.out rfl rfl ⟨wr.heap.size + 1, 0, none⟩ 1 rfl (lit_src (xs := [.int .i64 m.i]) (by simp)) (oneI _) (.inl (by decide)) (by omega) ?_; intro g' cap' w4 hS4 _ _)
      go_roundw
      case rel => exact ⟨k + 1, _, _, by omega, by go_num, rfl, by rw [HT.out]; exact hS4⟩
      case measure => simp [intOf]; omega
    · obtain rfl : k = n := by omega
      have HE : Hid ((L.take k).map Mk.i = V) := (show _ = V by rw [List.take_of_length_le (by rw [HN.out]; exact Nat.le_refl _)]; exact HV.out)
      go_wp2
      go_ret
      exact ⟨q, c, rfl, by rw [← HE.out]; exact hS⟩

set_option maxHeartbeats 2000000 in
theorem clone_any (p : Option Addr) (cap : Nat) (L : List Mk) (n : Nat) (hn : L.length = n) (w : World) (hL : SlG kM w p L) (hb : n ≤ 1000) :
    Calls Tryz.prog 39 #[.slice p n cap] w fun e w' => ∃ q c, e = .returned (.slice q n c) ∧ Sg w w' [rG kM (.slice q n c) L] := by
  have q24 : ∀ (w : World) (a : Option Addr) (n c n' c' : Nat), (binOp .eql 24 (.slice a n c) (.slice none n' c')).run Tryz.prog w = .ok (.bool a.isNone) w := fun w a n c n' c' => Go.Lib.run_eql_slice_nil w _ _ a n c n' c' Tryz.underlying24
  have HN : Hid (L.length = n) := hn
  cases p with
  | none =>
    have h0 : L = [] := by
      rcases hL with h | ⟨_, _, h, _⟩
      · exact h
      · cases h
    subst h0
    simp at hn
    subst hn
    have hS := (Sg.nil w).nilRow kM
    go_enter Tryz.func39, Tryz.ntmps39
    go_wp2
    go_ret
    exact ⟨none, 0, rfl, hS⟩
  | some ad =>
    have hS0 := (Sg.nil w).lit kM [] 0 rfl (by decide) #[] rfl
    have hsrc : ∀ j u, (kM.flat L)[j]? = some u → (w.alloc (.cells #[] 45)).cell? (ad.add j) = some u := by
      rcases hL with h | ⟨g, off, h, hC⟩
      · subst h; intro j u hj; simp [Kd.flat] at hj
      · injection h with h
        subst h
        exact cs_src (hC.step (below_alloc1 _ _))
    have HS : Hid (∀ j u, (kM.flat L)[j]? = some u → (w.alloc (.cells #[] 45)).cell? (ad.add j) = some u) := hsrc
    clear hsrc hn hL
    go_enter Tryz.func39, Tryz.ntmps39
    go_wp2_with (at_builtin; refine wpList_sgapp appM rfl _ _ rfl (A := []) (Bs := []) (M := []) (B := L) (n := 0) (m := n) hS0 (Below.refl _ _) rfl HN.out rfl ad cap rfl HS.out (oneM L) (.inr (by simp)) (by omega) ?_; intro g' cap' w4 hS4 _ _)
    go_ret
    exact ⟨some ⟨g', 0, none⟩, cap', by simp, by simpa using hS4⟩
end Go.Proofs.YtipfcmfcdfofmaaGreat
