/-
  ShowEntry, the spec's.
-/
import Derived.Test.YtgpfdoiiholncaaDoorKW2
import Derived.Test.YtgpfdoiiholncaaDoorKWM
namespace Go.Proofs.YtgpfdoiiholncaaDoor.K
open Go.Shelf Go.RowKit Go.Joins
attribute [local go_sem] Oper.semAt_some

theorem small5 {z : Rc} (h : I.recB z = true) : smallN [z.t, z.i, z.x, z.y, (z.s.size : Int)] := by
  obtain ⟨h1, h2, h3, h4, h5⟩ := J.rec_in h
  intro n hn
  simp only [List.mem_cons, List.not_mem_nil, or_false] at hn
  omega
set_option maxRecDepth 100000 in
set_option maxHeartbeats 4000000 in
theorem l13Show_any (k t s : Int) (p : Option Addr) (n c : Nat) (L : List Rc) (hn : L.length = n) (hb0 : n ≤ 6) (hk3 : 0 ≤ k ∧ k ≤ 3) (ht : 0 ≤ t ∧ t ≤ 99) (hs : 0 ≤ s ∧ s ≤ 100000) (hz : ∀ r ∈ L, I.recB r = true) (w : World) (hL : SlG I.kR w p L) :
    Calls Tryd.prog 11 #[I.entV k t s p n c] w fun e w' => e = .returned (.string (lnS k t s L)) ∧ Below w.heap.size w w' := by
  have HN : Hid (L.length = n ∧ ∀ r ∈ L, I.recB r = true) := ⟨hn, hz⟩
  have HBL : Hid (∀ j, (bdS k t s (L.take j)).size ≤ 400) := fun j => by
    rw [bdS_size]
    exact body_len hk3 ht hs (by rw [List.length_take]; omega) fun r hr => hz r (List.mem_of_mem_take hr)
  clear hn hz
  have hS0 := ((Sg.nil w).lit I.kE [⟨k, t, s, ⟨p, n, c⟩⟩] 1 rfl (by decide) #[.int .i64 k, .int .i64 t, .int .i64 s, .slice p n c] rfl).lit kI [k, t, s] 3 rfl (by decide) #[.int .i64 k, .int .i64 t, .int .i64 s] rfl
  simp only [World.size_alloc] at hS0
  have hsm : smallN [k, t, s] := fun n hn => by
    simp only [List.mem_cons, List.not_mem_nil, or_false] at hn
    omega
  go_enter Tryd.func11, Tryd.ntmps11
  go_wp2_with (go_at_call 23; refine (l1Ints_any (some ⟨w.heap.size + 1, 0, none⟩) 3 [k, t, s] 3 rfl (by omega) hsm _ (OwG.sl (hS0.mem (K := kI) (v := .slice (some ⟨w.heap.size + 1, 0, none⟩) 3 3) (L := [k, t, s]) (by simp)))).mono ?_; rintro e w1 ⟨rfl, hb1⟩; have hS1 := Sg.d0 (hS0.step hb1))
  go_loopw [3, 4] (fun sv iv wr => ∃ (j : Nat) (u : ByteArray), j ≤ n ∧ iv = .int .i64 j ∧ sv = .string u ∧ Hid (u = bdS k t s (L.take j)) ∧ u.size ≤ 400 ∧ Sg w wr [rG I.kE (.slice (some ⟨w.heap.size, 0, none⟩) 1 1) [⟨k, t, s, ⟨p, n, c⟩⟩]]) (fun _ iv _ => n - (intOf iv).toNat)
  case atStart => exact ⟨0, bdS k t s (L.take 0), by omega, rfl, rfl, rfl, HBL.out 0, hS1⟩
  case round =>
    clear hS0 hS1
    obtain ⟨j, u, hj, rfl, rfl, hu, hus, hS⟩ := hrel
    obtain ⟨x0, x1, x2, x3, _, xg⟩ := I.ent4 hS (K := I.kE) (g := w.heap.size) (n := 1) (q := ⟨k, t, s, ⟨p, n, c⟩⟩) (by simp) rfl
    simp only at x0 x1 x2 x3
    by_cases hlt : j < n
    · have hki : (j : Int) < n := by omega
      have hkL : j < L.length := by rw [HN.out.1]; exact hlt
      obtain ⟨gl, off, rfl, hC⟩ := (hL.step hS.bel).at hkL
      obtain ⟨c0, c1, c2, c3, c4⟩ := CsI.i5 hC (getR hkL)
      have HF := Lib.hid (bd_take (k := k) (t := t) (s := s) hkL)
      have HU : Hid ((bdS k t s (L.take (j + 1))).size ≤ 400) := HBL.out (j + 1)
      have HZ : Hid (I.recB (L.getD j zrc) = true) := HN.out.2 _ (List.mem_of_getElem? (getR hkL))
      generalize L.getD j zrc = z at c0 c1 c2 c3 c4 HF HZ
      have hrow := hS.lit I.kR [z] 1 rfl (by decide) #[.int .i64 z.t, .int .i64 z.i, .int .i64 z.x, .int .i64 z.y, .string z.s] rfl
      have hr5 := J.rec_in HZ.out
      have HSM : Hid (smallN [z.t, z.i, z.x, z.y, (z.s.size : Int)]) := small5 HZ.out
      obtain ⟨X, hX⟩ : ∃ X : ByteArray, (⟨(txL [z.t, z.i, z.x, z.y, (z.s.size : Int)]).toArray⟩ : ByteArray) = X := ⟨_, rfl⟩
      have hXs : X.size ≤ 55 := by rw [← hX, txA_size]; exact txL_le HSM.out
      rw [hX] at HF
      obtain ⟨H, hH⟩ : ∃ H : ByteArray, hxS z.s = H := ⟨_, rfl⟩
      have hHs : H.size ≤ 41 := by
        rw [← hH]; unfold hxS; rw [txA_size]
        have := J.hexW_len z.s.data.toList
        have e : z.s.data.toList.length = z.s.size := rfl
        omega
      rw [hH] at HF
      have H23 : Hid (∀ W g, SlG kI W (some ⟨g, 0, none⟩) [z.t, z.i, z.x, z.y, (z.s.size : Int)] → Calls Tryd.prog 23 #[.slice (some ⟨g, 0, none⟩) 5 5] W fun e w' => e = .returned (.string X) ∧ Below W.heap.size W w') := fun W g h => hX ▸ l1Ints_any (some ⟨g, 0, none⟩) 5 _ 5 rfl (by omega) HSM.out W h
      have H24 : Hid (∀ W, Calls Tryd.prog 24 #[.string z.s] W fun e w' => e = .returned (.string H) ∧ Below W.heap.size W w') := fun W => hH ▸ sHexW_any z.s W (by omega)
      have HK : Hid (∀ w', Sg w w' [rG I.kR (.slice (some ⟨wr.heap.size, 0, none⟩) 1 1) [z]] → (w'.cell? ⟨wr.heap.size, 0, none⟩ = some (.int .i64 z.t) ∧ w'.cell? ⟨wr.heap.size, 1, none⟩ = some (.int .i64 z.i) ∧ w'.cell? ⟨wr.heap.size, 2, none⟩ = some (.int .i64 z.x) ∧ w'.cell? ⟨wr.heap.size, 3, none⟩ = some (.int .i64 z.y) ∧ w'.cell? ⟨wr.heap.size, 4, none⟩ = some (.string z.s))) := fun w' h => rec5 h (g := wr.heap.size) (n := 1) (q := z) (by simp)
      have hq1 : ¬ 9223372036854775807 < u.size + 1 := by omega
      have hq2 : ¬ 9223372036854775807 < u.size + 1 + X.size := by omega
      have hq3 : ¬ 9223372036854775807 < u.size + 1 + X.size + 1 := by omega
      have hq4 : ¬ 9223372036854775807 < u.size + 1 + X.size + 1 + H.size := by omega
      clear hC hkL hX hH
      go_wp2
      go_region_held3 (fun w' => Sg w w' [rG I.kR (.slice (some ⟨wr.heap.size, 0, none⟩) 1 1) [z]] ∧ (w'.cell? ⟨wr.heap.size, 0, none⟩ = some (.int .i64 z.t) ∧ w'.cell? ⟨wr.heap.size, 1, none⟩ = some (.int .i64 z.i) ∧ w'.cell? ⟨wr.heap.size, 2, none⟩ = some (.int .i64 z.x) ∧ w'.cell? ⟨wr.heap.size, 3, none⟩ = some (.int .i64 z.y) ∧ w'.cell? ⟨wr.heap.size, 4, none⟩ = some (.string z.s)))
        (first | exact ‹Sg _ _ _ ∧ _› | exact keepG HK (Sg.d1 hx2) | exact keepG HK (Sg.d1 hx) | exact keepG HK ((Sg.d1 hrow).step ((below_alloc1 _ _).drew)) | exact keepG HK ((Sg.d1 hrow).step ((Below.refl _ _).drew)) | exact keepG HK ((Sg.d1 hrow).step (below_alloc1 _ _)) | exact keepG HK (Sg.d1 hrow) | fail)
        (first
          | (go_at_call 23; refine (H23.out _ _ (OwG.sl (((hrow.lit kI [z.t, z.i, z.x, z.y, (z.s.size : Int)] 5 rfl (by decide) #[.int .i64 z.t, .int .i64 z.i, .int .i64 z.x, .int .i64 z.y, .int .i64 z.s.size] rfl).step ((Below.refl _ _).drew)).mem (K := kI) (by simp; exact .inl rfl)))).mono ?_; rintro e w2 ⟨rfl, hb2⟩; have hx := (hrow.step ((below_alloc1 _ _).drew)).step hb2)
          | (go_at_call 24; refine (H24.out _).mono ?_; rintro e w3 ⟨rfl, hb3⟩; have hx2 := hx.step hb3))
      all_goals
        go_wp2
        go_roundw
        case rel => exact ⟨j + 1, u ++ ⟨#[32]⟩ ++ X ++ ⟨#[32]⟩ ++ H, by omega, by go_num, rfl, by rw [hu.out]; exact HF.out.symm, by have h1 := HF.out; rw [← hu.out] at h1; rw [← h1]; exact HU.out, Sg.d0 hx2⟩
        case measure => simp [intOf]; omega
    · obtain rfl : j = n := by omega
      have hu2 : u = bdS k t s L := by rw [hu.out, List.take_of_length_le (by rw [HN.out.1]; exact Nat.le_refl _)]
      obtain ⟨m, hm⟩ : ∃ m : Nat, ck u u.size = m := ⟨(ck u u.size).toNat, by have := ck_bd u u.size; omega⟩
      have hmb := ck_bd u u.size
      rw [hm] at hmb
      have hds : (dgS (m : Int)).size ≤ 6 := by unfold dgS; rw [txA_size]; exact J.itoa_len (k := 5) hmb.1 (by omega)
      have HE : Hid (dgS (m : Int) ++ ⟨#[32]⟩ ++ u ++ ⟨#[10]⟩ = lnS k t s L) := by
        have : (m : Int) = J.chk (J.body ⟨k, t, s, L⟩) := by rw [← hm, hu2]; exact ck_all _
        rw [this, hu2]
        exact lnS_eq k t s L
      have HC : Hid (∀ W, Calls Tryd.prog 26 #[.string u] W fun e w' => e = .returned (.int .i64 (m : Int)) ∧ w' = W) := fun W => hm ▸ sCheck_any u W (by omega)
      have hq1 : ¬ 9223372036854775807 < (dgS (m : Int)).size + 1 := by omega
      have hq2 : ¬ 9223372036854775807 < (dgS (m : Int)).size + 1 + u.size := by omega
      have hq3 : ¬ 9223372036854775807 < (dgS (m : Int)).size + 1 + u.size + 1 := by omega
      clear hu hu2 hm
      go_wp2_with (first
        | (go_at_call 26; refine (HC.out _).mono ?_; rintro e w4 ⟨rfl, hw4⟩; obtain rfl := hw4.symm)
        | (go_at_call 25; refine (l1Int_any m (by omega) _).mono ?_; rintro e w5 ⟨rfl, hb5⟩))
      go_ret
      exact ⟨by rw [← HE.out]; rfl, (hS.step hb5).bel⟩
theorem sShow_any (k t s : Int) (p : Option Addr) (n c : Nat) (L : List Rc) (hn : L.length = n) (hb0 : n ≤ 10000000) (w : World) (hL : SlG I.kR w p L) {T : ByteArray} (hv : shS k t s L = T) :
    Calls Tryd.prog 5 #[I.entV k t s p n c] w fun e w' => e = .returned (.string T) ∧ Below w.heap.size w w' := by
  have hst := (Sg.nil w).lit I.kE [⟨k, t, s, ⟨p, n, c⟩⟩] 1 rfl (by decide) #[.int .i64 k, .int .i64 t, .int .i64 s, .slice p n c] rfl
  change Sg w (w.alloc (.cells #[.int .i64 k, .int .i64 t, .int .i64 s, .slice p n c] 29)) _ at hst
  have HB : Hid (∀ W v, Below w.heap.size w W → I.entB k t s L = v → Calls Tryd.prog 10 #[I.entV k t s p n c] W fun e w' => e = .returned (.bool v) ∧ Below W.heap.size W w') := fun W v hb h => I.sEnt_v h p c n hn W (hL.step hb) hb0
  cases hb : I.entB k t s L
  · have e : T = ⟨#[]⟩ := by rw [← hv]; unfold shS; rw [hb]; rfl
    subst e
    clear hv hn hL
    go_enter Tryd.func5, Tryd.ntmps5
    go_wp2_with (go_at_call 10; refine (HB.out _ _ hst.bel hb).mono ?_; rintro e w1 ⟨rfl, hb1⟩)
    go_ret
    exact ⟨rfl, (hst.step hb1).bel⟩
  · have e : T = lnS k t s L := by rw [← hv]; unfold shS; rw [hb]; rfl
    subst e
    obtain ⟨h2, h3, h1, h4, h5⟩ := J.enB_t (e := ⟨k, t, s, L⟩) hb
    simp only at h1 h2 h3 h4 h5
    rw [hn] at h4
    have HW : Hid (∀ W, Below w.heap.size w W → Calls Tryd.prog 11 #[I.entV k t s p n c] W fun e w' => e = .returned (.string (lnS k t s L)) ∧ Below W.heap.size W w') := fun W h => l13Show_any k t s p n c L hn h4 (by omega) (by omega) (by omega) h5 W (hL.step h)
    clear hv hn hL h5
    go_enter Tryd.func5, Tryd.ntmps5
    go_wp2_with (first
      | (go_at_call 10; refine (HB.out _ _ hst.bel hb).mono ?_; rintro e w1 ⟨rfl, hb1⟩; have hS1 := hst.step hb1; obtain ⟨x0, x1, x2, x3, _, xg⟩ := I.ent4 hS1 (K := I.kE) (g := w.heap.size) (n := 1) (q := ⟨k, t, s, ⟨p, n, c⟩⟩) (by simp) rfl)
      | (go_at_call 11; refine (HW.out _ hS1.bel).mono ?_; rintro e w2 ⟨rfl, hb2⟩))
    go_ret
    exact ⟨rfl, (hS1.step hb2).bel⟩
end Go.Proofs.YtgpfdoiiholncaaDoor.K
