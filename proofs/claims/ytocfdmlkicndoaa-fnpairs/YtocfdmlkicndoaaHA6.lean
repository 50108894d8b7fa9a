/-
  The heap's methods, called through the interface; up.
-/
import Derived.Test.YtocfdmlkicndoaaHA5
import Derived.Test.YtocfdmlkicndoaaHM1
namespace Go.Proofs.Ytocfdmlkicndoaa
open Go.RowKit Go.Joins
attribute [local go_sem] Oper.semAt_some

theorem m_push (a : Addr) (w : World) : (method 254 54 (.pointer (some a)) "Push").run Try.prog w = .ok (109, .pointer (some a)) w := by kernel_rfl
theorem m_pop (a : Addr) (w : World) : (method 254 54 (.pointer (some a)) "Pop").run Try.prog w = .ok (108, .pointer (some a)) w := by kernel_rfl
theorem m_len {b : Nat} {v : Value} {w : World} (h : w.cell? ⟨b, 0, none⟩ = some v) : (method 254 54 (.pointer (some ⟨b, 0, none⟩)) "Len").run Try.prog w = .ok (57, v) w := by
  have e : (method 254 54 (.pointer (some ⟨b, 0, none⟩)) "Len").run Try.prog w = (do let v ← loadVar 81 ⟨b, 0, none⟩; pure (57, v) : Sem (FuncId × Value)).run Try.prog w := by kernel_rfl
  rw [e]
  simp [go_sem, h]
theorem m_less {b : Nat} {v : Value} {w : World} (h : w.cell? ⟨b, 0, none⟩ = some v) : (method 254 54 (.pointer (some ⟨b, 0, none⟩)) "Less").run Try.prog w = .ok (107, v) w := by
  have e : (method 254 54 (.pointer (some ⟨b, 0, none⟩)) "Less").run Try.prog w = (do let v ← loadVar 81 ⟨b, 0, none⟩; pure (107, v) : Sem (FuncId × Value)).run Try.prog w := by kernel_rfl
  rw [e]
  simp [go_sem, h]
theorem m_swap {b : Nat} {v : Value} {w : World} (h : w.cell? ⟨b, 0, none⟩ = some v) : (method 254 54 (.pointer (some ⟨b, 0, none⟩)) "Swap").run Try.prog w = .ok (110, v) w := by
  have e : (method 254 54 (.pointer (some ⟨b, 0, none⟩)) "Swap").run Try.prog w = (do let v ← loadVar 81 ⟨b, 0, none⟩; pure (110, v) : Sem (FuncId × Value)).run Try.prog w := by kernel_rfl
  rw [e]
  simp [go_sem, h]
theorem less_h {b g cap : Nat} {L : List P3} {i j : Nat} {v : Bool} {w : World} (h : Hp w b g cap L) (hi : i < L.length) (hj : j < L.length) (hv : ltP (L.getD i zp) (L.getD j zp) = v) :
    Calls Try.prog 107 #[.slice (some ⟨g, 0, none⟩) L.length cap, .int .i64 i, .int .i64 j] w fun e w' => e = .returned (.bool v) ∧ Below w.heap.size w w' := by
  subst hv
  exact less_any g L.length cap i j _ _ w hi hj (h.ow.cs.2 i _ (getD_some hi)) (h.ow.cs.2 j _ (getD_some hj))

set_option maxRecDepth 100000 in
set_option maxHeartbeats 2000000 in
theorem up_any (b g cap : Nat) (L : List P3) (j : Nat) (w : World) (h : Hp w b g cap L) (hj : j < L.length) (hu : UpInv L j) (hn : L.length ≤ 1000000) :
    Calls Try.prog 66 #[.iface 54 (.pointer (some ⟨b, 0, none⟩)), .int .i64 j] w fun e w' => (∃ v, e = .returned v) ∧ ∃ M, M.Perm L ∧ isHeap M ∧ Hp w' b g cap M ∧ Tn b g w g w' := by
  go_enter Try.func66, Try.ntmps66
  go_wp2
  go_loopw [1] (fun jv wr => ∃ (k : Nat) (M : List P3), jv = .int .i64 k ∧ k < M.length ∧ M.Perm L ∧ UpInv M k ∧ Hp wr b g cap M ∧ Tn b g w g wr) (fun jv _ => (intOf jv).toNat)
  case atStart => exact ⟨j, L, rfl, hj, .refl _, hu, h, .refl _ _ _⟩
  case round =>
    obtain ⟨k, M, rfl, hk, hP, hI, hH, hT⟩ := hrel
    have hk2 : k ≤ 1000000 := by have := hP.length_eq; omega
    clear hn h hj hu
    rcases Nat.eq_zero_or_pos k with rfl | h0
    · go_wp2
      go_end0
      exact ⟨⟨_, rfl⟩, M, hP, hI.done (fun h => by omega), hH, hT⟩
    · obtain ⟨p, hpp⟩ : ∃ p, (k - 1) / 2 = p := ⟨_, rfl⟩
      have e0 : ((k : Int) - 1).tdiv 2 = (p : Int) := by rw [Int.tdiv_eq_ediv_of_nonneg (by omega)]; omega
      have hp : p < M.length := by omega
      have hpk : p < k := by omega
      have e1 : ¬ (p : Int) = (k : Int) := by omega
      have HP : Hid ((k - 1) / 2 = p) := hpp
      clear hpp
      have hml := m_less hH.hd
      cases hv : ltP (M.getD k zp) (M.getD p zp)
      · go_wp2_with (go_at_call 107; refine (less_h hH hk hp hv).mono ?_; rintro e w1 ⟨rfl, hb2⟩)
        go_end0
        exact ⟨⟨_, rfl⟩, M, hP, hI.done (fun _ => by rw [HP.out]; exact hv), hH.step hb2, hT.step hb2⟩
      · go_wp2_with (first
          | (go_at_call 107; refine (less_h hH hk hp hv).mono ?_; rintro e w1 ⟨rfl, hb2⟩; have hH1 := hH.step hb2; have hms := m_swap hH1.hd)
          | (go_at_call 110; refine (swap_any b g cap M p k _ hH1 hp hk).mono ?_; rintro e w2 ⟨⟨v2, rfl⟩, hH2, hT2⟩))
        go_roundw
        case rel =>
          have hN := hI.next h0 hk (by rw [HP.out]; exact hv)
          rw [HP.out] at hN
          exact ⟨p, swp M p k, rfl, by rw [swp_len]; exact hp, (swp_perm hp hk).trans hP, hN, hH2, (hT.step hb2).trans hT2⟩
        case measure => simp [intOf]; omega
end Go.Proofs.Ytocfdmlkicndoaa
