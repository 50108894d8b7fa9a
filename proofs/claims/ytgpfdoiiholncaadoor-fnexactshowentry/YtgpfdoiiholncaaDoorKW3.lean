/-
  ShowEntry, the program's.
-/
import Derived.Test.YtgpfdoiiholncaaDoorKW2
import Derived.Test.YtgpfdoiiholncaaDoorKWM
namespace Go.Proofs.YtgpfdoiiholncaaDoor.K
open Go.Shelf Go.RowKit Go.Joins
attribute [local go_sem] Oper.semAt_some

theorem OwG.cap {α : Type} {K : Kd α} {W : World} {base g n c : Nat} {L : List α} (h : OwG K W base (.slice (some ⟨g, 0, none⟩) n c) L) : n ≤ c := by
  have hn := OwG.len h
  subst hn
  rcases h.2 with ⟨h1, _⟩ | ⟨_, _, _, h1, _, _, h2, _⟩
  · cases h1
  · injection h1 with _ _ h1; omega
theorem join_own {w W : World} {rs : List Rw} {g n c : Nat} {L : List ByteArray} {T : List UInt8} (hS : Sg w W rs) (hm : rG kT (.slice (some ⟨g, 0, none⟩) n c) L ∈ rs) (hl : Lib.join (L.map (·.data.toList)) (⟨#[32]⟩ : ByteArray).data.toList = T) (hn : n ≤ 1000) (ht : T.length ≤ 1000) :
    Calls Tryd.prog 14 #[.slice (some ⟨g, 0, none⟩) n c, .string ⟨#[32]⟩] W fun e w' => e = .returned (.string ⟨T.toArray⟩) ∧ Below W.heap.size W w' := by
  have ho := hS.mem (K := kT) hm
  have hlen := OwG.len ho
  have hcap := OwG.cap ho
  have hc := OwG.cs ho
  subst hl
  have := Tryd.strings_Join g 0 c L ⟨#[32]⟩ W (fun j x hj => hc.str hj) hc.1 (by omega) (by omega) (by omega)
  rw [← hlen] at this
  exact this
theorem dg_size {m : Int} (h0 : 0 ≤ m) (h1 : m < 999983) : (dgS m).size ≤ 6 := by
  unfold dgS; rw [txA_size]; exact J.itoa_len (k := 5) h0 (by omega)
set_option maxRecDepth 100000 in
set_option maxHeartbeats 4000000 in
theorem iShow_any (k t s : Int) (p : Option Addr) (n c : Nat) (L : List Rc) (hn : L.length = n) (hb0 : n ≤ 10000000) (w : World) (hL : SlG I.kR w p L) (hT : TB w) {T : ByteArray} (hv : shS k t s L = T) :
    Calls Tryd.prog 7 #[I.entV k t s p n c] w fun e w' => e = .returned (.string T) ∧ Below w.heap.size w w' := by
  have hst := (Sg.nil w).lit I.kE [⟨k, t, s, ⟨p, n, c⟩⟩] 1 rfl (by decide) #[.int .i64 k, .int .i64 t, .int .i64 s, .slice p n c] rfl
  change Sg w (w.alloc (.cells #[.int .i64 k, .int .i64 t, .int .i64 s, .slice p n c] 29)) _ at hst
  have HB : Hid (∀ W v, Below w.heap.size w W → I.entB k t s L = v → Calls Tryd.prog 13 #[I.entV k t s p n c] W fun e w' => e = .returned (.bool v) ∧ Below W.heap.size W w') := fun W v hb h => I.iEnt_v h p c n hn W (hL.step hb) hb0
  cases hb : I.entB k t s L
  · have e : T = ⟨#[]⟩ := by rw [← hv]; unfold shS; rw [hb]; rfl
    subst e
    clear hv hn hL
    go_enter Tryd.func7, Tryd.ntmps7
    go_wp2_with (go_at_call 13; refine (HB.out _ _ hst.bel hb).mono ?_; rintro e w1 ⟨rfl, hb1⟩)
    go_ret
    exact ⟨rfl, (hst.step hb1).bel⟩
  · have e : T = lnS k t s L := by rw [← hv]; unfold shS; rw [hb]; rfl
    subst e
    obtain ⟨h2, h3, h1, h4, h5⟩ := J.enB_t (e := ⟨k, t, s, L⟩) hb
    simp only at h1 h2 h3 h4 h5
    have hbl := body_len (k := k) (t := t) (s := s) (L := L) (by omega) (by omega) (by omega) h4 h5
    rw [hn] at h4
    have HW : Hid (∀ W, Below w.heap.size w W → Calls Tryd.prog 15 #[I.entV k t s p n c] W fun e w' => ∃ g cp, e = .returned (.slice (some ⟨g, 0, none⟩) (3 + 6 * n) cp) ∧ Sg W w' [rG kT (.slice (some ⟨g, 0, none⟩) (3 + 6 * n) cp) (enS k t s L)]) := fun W h => iWords_any k t s p n c L hn h4 (by omega) (by omega) (by omega) h5 W (hL.step h) (hT.step h)
    have HJ : Hid (∀ W W0 g cp, Sg W0 W [rG kT (.slice (some ⟨g, 0, none⟩) (3 + 6 * n) cp) (enS k t s L)] → Calls Tryd.prog 14 #[.slice (some ⟨g, 0, none⟩) (3 + 6 * n) cp, .string ⟨#[32]⟩] W fun e w' => e = .returned (.string (bdS k t s L)) ∧ Below W.heap.size W w') := fun W W0 g cp h => join_own (T := J.body ⟨k, t, s, L⟩) h (g := g) (n := 3 + 6 * n) (c := cp) (L := enS k t s L) (by simp) (join_enS k t s L) (by omega) (by omega)
    obtain ⟨R, hR⟩ : ∃ R, bdS k t s L = R := ⟨_, rfl⟩
    have hRs : R.size ≤ 400 := by rw [← hR, bdS_size]; exact hbl
    obtain ⟨m, hm⟩ : ∃ m, ck R R.size = m := ⟨_, rfl⟩
    have hmb := ck_bd R R.size
    rw [hm] at hmb
    have hds := dg_size hmb.1 hmb.2
    have HE : Hid (dgS m ++ ⟨#[32]⟩ ++ R ++ ⟨#[10]⟩ = lnS k t s L) := by
      have : m = J.chk (J.body ⟨k, t, s, L⟩) := by rw [← hm, ← hR]; exact ck_all _
      rw [this, ← hR]
      exact lnS_eq k t s L
    have HC : Hid (∀ W, Calls Tryd.prog 17 #[.string R] W fun e w' => e = .returned (.int .i64 m) ∧ w' = W) := fun W => hm ▸ iCheck_any R W (by omega)
    rw [hR] at HJ
    clear hv hn hL h5 hbl hm hR
    have hq1 : ¬ 9223372036854775807 < (dgS m).size + 1 := by omega
    have hq2 : ¬ 9223372036854775807 < (dgS m).size + 1 + R.size := by omega
    have hq3 : ¬ 9223372036854775807 < (dgS m).size + 1 + R.size + 1 := by omega
    go_enter Tryd.func7, Tryd.ntmps7
    go_wp2_with (first
      | (go_at_call 13; refine (HB.out _ _ hst.bel hb).mono ?_; rintro e w1 ⟨rfl, hb1⟩; have hS1 := hst.step hb1; obtain ⟨x0, x1, x2, x3, _, xg⟩ := I.ent4 hS1 (K := I.kE) (g := w.heap.size) (n := 1) (q := ⟨k, t, s, ⟨p, n, c⟩⟩) (by simp) rfl)
      | (go_at_call 15; refine (HW.out _ hS1.bel).mono ?_; rintro e w2 ⟨g2, c2, rfl, hw2⟩; have hS2 := hS1.addL hw2)
      | (go_at_call 14; refine (HJ.out _ _ _ _ hw2).mono ?_; rintro e w3 ⟨rfl, hb3⟩; have hS3 := hS2.step hb3)
      | (go_at_call 17; refine (HC.out _).mono ?_; rintro e w4 ⟨rfl, hw4⟩; obtain rfl := hw4.symm)
      | (go_at_call 16; refine (decimal_any m (by omega) (by omega) _ (hT.step hS3.bel)).mono ?_; rintro e w5 ⟨rfl, hb5⟩))
    go_ret
    exact ⟨by rw [← HE.out]; rfl, (hS3.step hb5).bel⟩
end Go.Proofs.YtgpfdoiiholncaaDoor.K
