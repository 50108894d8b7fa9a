/-
  The Ids of a Batch, the program's and the spec's.
-/
import Derived.Test.YtbkiogedipmioaaIC1
namespace Go.Proofs.Ytbkiogedipmioaa.I
open Go.Shelf Go.RowKit Go.Joins
attribute [local go_sem] Oper.semAt_some

theorem bx3 {w W : World} {v0 v1 v2 : Value} {ty : TypeId} (h : Below (w.alloc (.cells #[v0, v1, v2] ty)).heap.size (w.alloc (.cells #[v0, v1, v2] ty)) W) : W.cell? ⟨w.heap.size, 0, none⟩ = some v0 ∧ W.cell? ⟨w.heap.size, 1, none⟩ = some v1 ∧ W.cell? ⟨w.heap.size, 2, none⟩ = some v2 := by
  have := (((St.nil w).push [v0, v1, v2] ty).step h).has
  simp [Has, HasAt] at this
  simp [this]
theorem putI_pos (L : List Int) (z : Int) : 1 ≤ (putI L z).length := by
  cases L with
  | nil => simp [putI]
  | cons a t => unfold putI; split <;> (try split) <;> simp
theorem idsF_len (L : List Rc) : (idsF L).length ≤ L.length := by
  have hh : ∀ (L : List Rc) (A : List Int), (L.foldl (fun A r => putI A r.i) A).length ≤ A.length + L.length := by
    intro L
    induction L with
    | nil => intro A; simp
    | cons a t ih => intro A; rw [List.foldl_cons]; have := ih (putI A a.i); have := putI_len A a.i; simp; omega
  have := hh L []
  simpa [idsF] using this
theorem bat_len {t s : Int} {L : List Rc} (h : batB t s L = true) : L.length ≤ 6 := by
  unfold batB at h
  rw [Bool.and_eq_true, its_mk] at h
  exact h.2.2.1
set_option maxRecDepth 100000 in
set_option maxHeartbeats 2000000 in
theorem sIds_any {t s : Int} {L : List Rc} (p : Option Addr) (c n : Nat) (hn : L.length = n) (w : World) (hL : SlG kR w p L) (hb0 : n ≤ 10000000) {I : List Int} (hI : idsL t s L = I) :
    Calls Try.prog 21 #[batV t s p n c] w fun e w' => ∃ q m c', I.length = m ∧ e = .returned (.slice q m c') ∧ Sg w w' [rG kI (.slice q m c') I] := by
  have h0 := sg_bel (below_alloc1 w (.cells #[.int .i64 t, .int .i64 s, .slice p n c] 29))
  have HO := Lib.hid (fun W b (h : Below w.heap.size w W) (hok : batB t s L = b) => sBat_v hok p c n hn W (hL.step h) hb0)
  have hS0 : Sg (w.alloc (.cells #[.int .i64 t, .int .i64 s, .slice p n c] 29)) ((w.alloc (.cells #[.int .i64 t, .int .i64 s, .slice p n c] 29)).alloc (.cells #[] 2)) [rG kI (.slice (some ⟨(w.alloc (.cells #[.int .i64 t, .int .i64 s, .slice p n c] 29)).heap.size, 0, none⟩) 0 0) []] := (Sg.nil _).lit kI [] 0 rfl (by decide) #[] rfl
  rw [World.size_alloc] at hS0
  have hb00 := bx3 hS0.bel
  cases hok : batB t s L
  · have e : idsL t s L = [] := by unfold idsL; rw [hok]; rfl
    rw [e] at hI
    subst hI
    clear hn hL
    go_enter Try.func21, Try.ntmps21
    go_wp2_with (go_at_call 7; refine (HO.out _ _ (h0.addL hS0).bel hok).mono ?_; rintro e w1 ⟨rfl, hb1⟩)
    go_ret
    exact ⟨_, 0, 0, rfl, rfl, by simpa using h0.addL (hS0.step hb1)⟩
  · have hl6 := bat_len hok
    rw [hn] at hl6
    have e : idsL t s L = idsF L := by unfold idsL; rw [hok]; rfl
    rw [e] at hI
    have HI := Lib.hid hI
    have HN := Lib.hid hn
    have HL := Lib.hid hL
    clear hn hL hI e
    go_enter Try.func21, Try.ntmps21
    go_upto_region 5 with (go_at_call 7; refine (HO.out _ _ (h0.addL hS0).bel hok).mono ?_; rintro e w1 ⟨rfl, hb1⟩; have hS1 := hS0.step hb1)
    clear hS0 hb00 HO
    go_loopw [3, 4] (fun s3 s4 wr => ∃ (k g m c' : Nat) (X : List Int), k ≤ n ∧ s4 = .int .i64 k ∧ s3 = .slice (some ⟨g, 0, none⟩) m c' ∧ Hid (X = idsF (L.take k) ∧ X.length = m ∧ m ≤ k) ∧ Sg (w.alloc (.cells #[.int .i64 t, .int .i64 s, .slice p n c] 29)) wr [rG kI (.slice (some ⟨g, 0, none⟩) m c') X]) (fun _ i _ => n - (intOf i).toNat)
    case atStart => exact ⟨0, _, 0, 0, [], by omega, rfl, rfl, ⟨rfl, rfl, Nat.le_refl _⟩, hS1⟩
    case round =>
      clear hS1
      obtain ⟨k, g, m, c', X, hk, rfl, rfl, HX, hS⟩ := hrel
      obtain ⟨b0, b1, b2⟩ := bx3 hS.bel
      by_cases hlt : k < n
      · have hki : (k : Int) < n := by omega
        have hkL : k < L.length := by rw [HN.out]; exact hlt
        obtain ⟨gl, off, rfl, hC⟩ := (HL.out.step (h0.addL hS).bel).at hkL
        have hgk := List.getElem?_eq_getElem hkL
        have hf := idsF_take hkL
        generalize L[k] = r at hgk hf
        obtain ⟨c0, c1, c2, c3, c4⟩ := hC.i5 hgk
        have HF : Hid (idsF (L.take (k + 1)) = putI (idsF (L.take k)) r.i) := hf
        obtain ⟨v, hv⟩ : ∃ v, putI X r.i = v := ⟨_, rfl⟩
        have HV := Lib.hid hv
        have HP := Lib.hid (put_any g m c' X r.i _ _ hS (by have := HX.out.2.2; omega) hv)
        clear hC hgk hf hv
        go_wp2_with (go_at_call 44; refine HP.out.mono ?_; rintro e w2 ⟨q2, m2, c2', rfl, hm2, hS2⟩)
        have hpos := putI_pos X r.i
        have hle := putI_len X r.i
        rw [HV.out, hm2] at hpos hle
        obtain ⟨g2, rfl⟩ := ow_some (hS2.mem (K := kI) (v := .slice q2 m2 c2') (L := v) (by simp)) (by omega)
        go_roundw
        case rel => exact ⟨k + 1, g2, m2, c2', v, by omega, by go_num, rfl, ⟨by rw [HF.out, ← HX.out.1, HV.out], hm2, by have := HX.out; omega⟩, hS2⟩
        case measure => simp [intOf]; omega
      · obtain rfl : k = n := by omega
        have HE : Hid (X = I ∧ X.length = m) := ⟨by have e := HX.out.1; rw [List.take_of_length_le (by rw [HN.out]; exact Nat.le_refl _), HI.out] at e; exact e, HX.out.2.1⟩
        go_wp2
        go_ret
        exact ⟨_, m, c', by rw [← HE.out.1]; exact HE.out.2, rfl, by rw [← HE.out.1]; simpa using h0.addL hS⟩
theorem sg_nilI (w : World) : Sg w w [rG kI (.slice none 0 0) []] := by
  refine ⟨Below.refl _ _, fun r hr => ?_, List.pairwise_singleton _ _⟩
  obtain rfl := List.mem_singleton.mp hr
  exact ⟨rfl, .inl ⟨rfl, rfl⟩⟩
theorem mapI_take {S : List Rc} {k : Nat} {r : Rc} (hk : S[k]? = some r) : (S.take (k + 1)).map (fun r => r.i) = (S.take k).map (fun r => r.i) ++ [r.i] := by
  rw [List.take_add_one, hk, List.map_append]; rfl
set_option maxRecDepth 100000 in
set_option maxHeartbeats 2000000 in
theorem iIds_any {t s : Int} {L : List Rc} (p : Option Addr) (c n : Nat) (hn : L.length = n) (w : World) (hL : SlG kR w p L) (hb0 : n ≤ 10000000) {I : List Int} (hI : idsL t s L = I) :
    Calls Try.prog 22 #[batV t s p n c] w fun e w' => ∃ q m c', I.length = m ∧ e = .returned (.slice q m c') ∧ Sg w w' [rG kI (.slice q m c') I] := by
  have h0 := sg_bel (below_alloc1 w (.cells #[.int .i64 t, .int .i64 s, .slice p n c] 29))
  have HO := Lib.hid (fun W b (h : Below w.heap.size w W) (hok : batB t s L = b) => iBat_v hok p c n hn W (hL.step h) hb0)
  have hb00 := bx3 (Below.refl (w.alloc (.cells #[.int .i64 t, .int .i64 s, .slice p n c] 29)).heap.size (w.alloc (.cells #[.int .i64 t, .int .i64 s, .slice p n c] 29)))
  cases hok : batB t s L
  · have e : idsL t s L = [] := by unfold idsL; rw [hok]; rfl
    rw [e] at hI
    subst hI
    clear hn hL
    go_enter Try.func22, Try.ntmps22
    go_wp2_with (go_at_call 9; refine (HO.out _ _ h0.bel hok).mono ?_; rintro e w1 ⟨rfl, hb1⟩)
    go_ret
    exact ⟨none, 0, 0, rfl, rfl, by simpa using (h0.step hb1).addL (sg_nilI w1)⟩
  · have hl6 := bat_len hok
    have hone : oneB L = true := by
      have h := hok
      unfold batB at h
      rw [Bool.and_eq_true, its_mk] at h
      exact h.2.2.2.2
    rw [hn] at hl6
    have HS : Hid (∀ W, Below w.heap.size w W → Calls Try.prog 45 #[.slice p n c, .func (.func 46) #[] #[]] W fun e w' => ∃ q cap' S, e = .returned (.slice (some ⟨q, 0, none⟩) n cap') ∧ Hid (S.map (fun r => r.i) = I ∧ S.length = n) ∧ Sg W w' [rG kR (.slice (some ⟨q, 0, none⟩) n cap') S]) := fun W hb => by
      refine (sorted_any p c L n hn W (hL.step hb) (by omega)).mono ?_
      rintro e w' ⟨q, c, S, h1, h2, h3, h4⟩
      refine ⟨q, c, S, h1, ⟨?_, by rw [h2.length_eq, hn]⟩, h4⟩
      rw [ids_sorted h2 (by rw [rise_one h2 h3]; exact hone), ← hI]
      unfold idsL; rw [hok]; rfl
    clear hn hL hI
    go_enter Try.func22, Try.ntmps22
    go_upto_region 3 with (go_at_call 9; refine (HO.out _ _ h0.bel hok).mono ?_; rintro e w1 ⟨rfl, hb1⟩; have h1 := h0.step hb1; obtain ⟨b0, b1, b2⟩ := bx3 hb1)
    clear hb00 HO
    go_upto_region 5 with (go_at_call 45; refine (HS.out _ h1.bel).mono ?_; rintro e w2 ⟨q, cs, S, rfl, HSS, h2⟩)
    have hS0 : Sg w1 w2 [rG kI (.slice none 0 0) [], rG kR (.slice (some ⟨q, 0, none⟩) n cs) S] := h2.addL (sg_nilI w2)
    clear h2 HS b0 b1 b2
    go_loopw [3, 13] (fun s3 s13 wr => ∃ (k : Nat) (qa : Option Addr) (ma ca : Nat) (X : List Int), k ≤ n ∧ s13 = .int .i64 k ∧ s3 = .slice qa ma ca ∧ Hid (X = (S.take k).map (fun r => r.i) ∧ X.length = ma ∧ ma ≤ k) ∧ Sg w1 wr [rG kI (.slice qa ma ca) X, rG kR (.slice (some ⟨q, 0, none⟩) n cs) S]) (fun _ i _ => n - (intOf i).toNat)
    case atStart => exact ⟨0, none, 0, 0, [], by omega, rfl, rfl, ⟨rfl, rfl, Nat.le_refl _⟩, hS0⟩
    case round =>
      clear hS0
      obtain ⟨k, qa, ma, ca, X, hk, rfl, rfl, HX, hS⟩ := hrel
      by_cases hlt : k < n
      · have hki : (k : Int) < n := by omega
        have hkS : k < S.length := by rw [HSS.out.2]; exact hlt
        have hC := OwG.cs (hS.mem (K := kR) (v := .slice (some ⟨q, 0, none⟩) n cs) (L := S) (by simp))
        have hgk := List.getElem?_eq_getElem hkS
        generalize S[k] = r at hgk
        obtain ⟨c0, c1, c2, c3, c4⟩ := hC.i5 hgk
        simp only [Nat.zero_add] at c0 c1 c2 c3 c4
        have HF : Hid ((S.take (k + 1)).map (fun r => r.i) = (S.take k).map (fun r => r.i) ++ [r.i]) := mapI_take hgk
        have hS1 := hS.step (below_alloc1 wr (.cells #[.int .i64 r.t, .int .i64 r.i, .int .i64 r.x, .int .i64 r.y, .string r.s] 66))
        clear hC hgk
        go_wp2_with (at_builtin; refine wpList_ap appI oneIs rfl _ _ rfl (A := []) (M := X) (L := [r.i]) (m := ma) (s := ⟨some ⟨wr.heap.size + 1, 0, none⟩, 1, 1⟩) hS1 (below_alloc1 _ _) (.inr ⟨_, 0, rfl, by have := lit_ci (wr.alloc (.cells #[.int .i64 r.t, .int .i64 r.i, .int .i64 r.x, .int .i64 r.y, .string r.s] 66)) r.i; rw [World.size_alloc] at this; exact this⟩) HX.out.2.1 rfl (by have := HX.out.2.2; simp only; omega) (.inl ⟨_, rfl⟩) rfl rfl ?_; intro q2 cap2 w3 hS3 _ _ _)
        go_roundw
        case rel => exact ⟨k + 1, q2, ma + 1, cap2, X ++ [r.i], by omega, by go_num, rfl, ⟨by rw [HF.out, ← HX.out.1], by simp [HX.out.2.1], by have := HX.out.2.2; omega⟩, hS3⟩
        case measure => simp [intOf]; omega
      · obtain rfl : k = n := by omega
        have HE : Hid (X = I ∧ X.length = ma) := ⟨by have e := HX.out.1; rw [List.take_of_length_le (by rw [HSS.out.2]; exact Nat.le_refl _), HSS.out.1] at e; exact e, HX.out.2.1⟩
        go_wp2
        go_ret
        exact ⟨qa, ma, ca, by rw [← HE.out.1]; exact HE.out.2, rfl, by rw [← HE.out.1]; simpa using h1.addL (hS.sub (by simp))⟩
end Go.Proofs.Ytbkiogedipmioaa.I
