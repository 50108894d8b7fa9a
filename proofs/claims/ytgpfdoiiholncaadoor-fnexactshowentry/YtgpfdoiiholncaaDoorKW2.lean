/-
  An Entry's words, ShowEntry: the program's.
-/
import Derived.Test.YtgpfdoiiholncaaDoorKW1
import Derived.Test.YtgpfdoiiholncaaDoorKC1
import Derived.Test.YtgpfdoiiholncaaDoorKJN
namespace Go.Proofs.YtgpfdoiiholncaaDoor.K
open Go.Shelf Go.RowKit Go.Joins
attribute [local go_sem] Oper.semAt_some

/-- An Entry's words. -/
def enS (k t s : Int) (L : List Rc) : List ByteArray := dgS k :: dgS t :: dgS s :: L.flatMap itS
theorem its_take {L : List Rc} {k : Nat} (hk : k < L.length) : (L.take (k + 1)).flatMap itS = (L.take k).flatMap itS ++ itS (L.getD k zrc) := by
  have e : L.take (k + 1) = L.take k ++ [L.getD k zrc] := by rw [List.take_succ_eq_append_getElem hk]; simp [List.getD, hk]
  rw [e, List.flatMap_append]; simp
theorem CsI.i5 {w : World} {g off : Nat} {L : List Rc} (h : CsG I.kR w g off L) {k : Nat} {r : Rc} (hk : L[k]? = some r) : w.cell? ⟨g, off + k * 5, none⟩ = some (.int .i64 r.t) ∧ w.cell? ⟨g, off + k * 5 + 1, none⟩ = some (.int .i64 r.i) ∧ w.cell? ⟨g, off + k * 5 + 2, none⟩ = some (.int .i64 r.x) ∧ w.cell? ⟨g, off + k * 5 + 3, none⟩ = some (.int .i64 r.y) ∧ w.cell? ⟨g, off + k * 5 + 4, none⟩ = some (.string r.s) :=
  ⟨h.at hk (i := 0) rfl, h.at hk (i := 1) rfl, h.at hk (i := 2) rfl, h.at hk (i := 3) rfl, h.at hk (i := 4) rfl⟩
set_option maxRecDepth 100000 in
set_option maxHeartbeats 4000000 in
theorem iWords_any (k t s : Int) (p : Option Addr) (n c : Nat) (L : List Rc) (hn : L.length = n) (hb0 : n ≤ 6) (hk3 : 0 ≤ k ∧ k ≤ 3) (ht : 0 ≤ t ∧ t ≤ 99) (hs : 0 ≤ s ∧ s ≤ 100000) (hz : ∀ r ∈ L, I.recB r = true) (w : World) (hL : SlG I.kR w p L) (hT : TB w) :
    Calls Tryd.prog 15 #[I.entV k t s p n c] w fun e w' => ∃ g cp, e = .returned (.slice (some ⟨g, 0, none⟩) (3 + 6 * n) cp) ∧ Sg w w' [rG kT (.slice (some ⟨g, 0, none⟩) (3 + 6 * n) cp) (enS k t s L)] := by
  have HN : Hid (L.length = n ∧ ∀ r ∈ L, I.recB r = true) := ⟨hn, hz⟩
  clear hn hz
  have hrow := (Sg.nil w).lit I.kE [⟨k, t, s, ⟨p, n, c⟩⟩] 1 rfl (by decide) #[.int .i64 k, .int .i64 t, .int .i64 s, .slice p n c] rfl
  change Sg w (w.alloc (.cells #[.int .i64 k, .int .i64 t, .int .i64 s, .slice p n c] 29)) _ at hrow
  have HK : Hid (∀ w', Sg w w' [rG I.kE (.slice (some ⟨w.heap.size, 0, none⟩) 1 1) [⟨k, t, s, ⟨p, n, c⟩⟩]] → ((w'.cell? ⟨w.heap.size, 0, none⟩ = some (.int .i64 k) ∧ w'.cell? ⟨w.heap.size, 1, none⟩ = some (.int .i64 t) ∧ w'.cell? ⟨w.heap.size, 2, none⟩ = some (.int .i64 s) ∧ w'.cell? ⟨w.heap.size, 3, none⟩ = some (.slice p n c)) ∧ TB w')) := fun w' h => by
    obtain ⟨y0, y1, y2, y3, _, _⟩ := I.ent4 h (K := I.kE) (g := w.heap.size) (n := 1) (q := ⟨k, t, s, ⟨p, n, c⟩⟩) (by simp) rfl
    exact ⟨⟨y0, y1, y2, y3⟩, hT.step h.bel⟩
  go_enter Tryd.func15, Tryd.ntmps15
  go_wp2
  go_region_held3 (fun w' => Sg w w' [rG I.kE (.slice (some ⟨w.heap.size, 0, none⟩) 1 1) [⟨k, t, s, ⟨p, n, c⟩⟩]] ∧ ((w'.cell? ⟨w.heap.size, 0, none⟩ = some (.int .i64 k) ∧ w'.cell? ⟨w.heap.size, 1, none⟩ = some (.int .i64 t) ∧ w'.cell? ⟨w.heap.size, 2, none⟩ = some (.int .i64 s) ∧ w'.cell? ⟨w.heap.size, 3, none⟩ = some (.slice p n c)) ∧ TB w'))
    (first | exact ‹Sg _ _ _ ∧ _› | exact keepG HK hrow | exact keepG HK (hrow.step (below_alloc1 _ _)) | exact keepG HK (hrow.step ((Below.refl _ _).drew)) | fail)
    (first
      | (go_at_call 16; refine (decimal_any _ (by omega) (by omega) _ (‹Sg _ _ _ ∧ _ ∧ _›).2.2).mono ?_; rintro e w2 ⟨rfl, hb2⟩; (first | (replace hrow := hrow.step hb2) | (replace hrow := (hrow.step (Below.refl _ _).drew).step hb2))))
  have hS0 := (hrow.lit kT [dgS k, dgS t, dgS s] 3 rfl (by decide) #[.string (dgS k), .string (dgS t), .string (dgS s)] rfl).d1
  rename_i hHeld
  obtain ⟨_, ⟨b0, b1, b2, b3⟩, _⟩ := hHeld
  clear hrow HK
  go_wp2
  go_loopw [3, 19] (fun nv iv wr => ∃ (j g cp : Nat) (Ls : List ByteArray), j ≤ n ∧ iv = .int .i64 j ∧ nv = .slice (some ⟨g, 0, none⟩) (3 + 6 * j) cp ∧ Hid (Ls = dgS k :: dgS t :: dgS s :: (L.take j).flatMap itS ∧ Ls.length = 3 + 6 * j) ∧ Sg w wr [rG kT (.slice (some ⟨g, 0, none⟩) (3 + 6 * j) cp) Ls]) (fun _ iv _ => n - (intOf iv).toNat)
  case atStart => exact ⟨0, _, _, _, by omega, rfl, rfl, ⟨rfl, rfl⟩, hS0⟩
  case round =>
    clear hS0 b0 b1 b2 b3
    obtain ⟨j, g, cp, Ls, hj, rfl, rfl, hLs, hS⟩ := hrel
    by_cases hlt : j < n
    · have hki : (j : Int) < n := by omega
      have hkL : j < L.length := by rw [HN.out.1]; exact hlt
      obtain ⟨gl, off, rfl, hC⟩ := (hL.step hS.bel).at hkL
      obtain ⟨c0, c1, c2, c3, c4⟩ := CsI.i5 hC (getR hkL)
      have HF := Lib.hid (its_take hkL)
      have HZ : Hid (I.recB (L.getD j zrc) = true) := HN.out.2 _ (List.mem_of_getElem? (getR hkL))
      generalize L.getD j zrc = z at c0 c1 c2 c3 c4 HF HZ
      have hrow := hS.lit I.kR [z] 1 rfl (by decide) #[.int .i64 z.t, .int .i64 z.i, .int .i64 z.x, .int .i64 z.y, .string z.s] rfl
      clear hC hkL
      go_wp2_with (first
        | (go_at_call 34; refine (iItem_any z _ HZ.out (hT.step hrow.bel)).mono ?_; rintro e w2 ⟨g2, rfl, hw2⟩; have hS2 := hrow.addL hw2)
        | (at_builtin; refine wpList_sgapp appT rfl _ _ rfl (A := [rG kT (.slice (some ⟨g2, 0, none⟩) 6 6) (itS z), rG I.kR (.slice (some ⟨wr.heap.size, 0, none⟩) 1 1) [z]]) (M := Ls) (B := itS z) (n := 3 + 6 * j) (m := 6) hS2 (Below.refl _ _) hLs.out.2 rfl rfl ⟨g2, 0, none⟩ 6 rfl (cs_src (OwG.cs (hS2.mem (K := kT) (v := .slice (some ⟨g2, 0, none⟩) 6 6) (L := itS z) (by simp)))) (oneTs _) (.inl (by decide)) (by omega) ?_; intro g4 cp4 w4 hS4 _ _))
      go_roundw
      case rel => exact ⟨j + 1, g4, cp4, Ls ++ itS z, by omega, by go_num, rfl, ⟨by rw [hLs.out.1, HF.out]; simp, by rw [List.length_append, hLs.out.2]; rfl⟩, Sg.d0 (Sg.d0 hS4)⟩
      case measure => simp [intOf]; omega
    · obtain rfl : j = n := by omega
      have HE : Hid (Ls = enS k t s L) := by
        rw [hLs.out.1, List.take_of_length_le (by rw [HN.out.1]; exact Nat.le_refl _)]
        exact rfl
      go_wp2
      go_ret
      exact ⟨g, cp, rfl, by rw [← HE.out]; exact hS⟩
end Go.Proofs.YtgpfdoiiholncaaDoor.K
