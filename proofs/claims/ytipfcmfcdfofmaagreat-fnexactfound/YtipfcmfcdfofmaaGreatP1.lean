/-
  Are they Marks: the program's and the spec's.
-/
import Derived.Test.YtipfcmfcdfofmaaGreatSA
namespace Go.Proofs.YtipfcmfcdfofmaaGreat
open Go.RowKit Go.Joins
attribute [local go_sem] Oper.semAt_some

theorem getM {L : List Mk} {k : Nat} (hk : k < L.length) : L[k]? = some (L.getD k zmk) := by simp [List.getD, hk]
theorem spRight_v {x y : Int} {v : Bool} (hv : spB x y = v) (w : World) :
    Calls Tryz.prog 54 #[.agg #[.int .i64 x, .int .i64 y]] w fun e w' => e = .returned (.bool v) ∧ Below w.heap.size w w' := by subst hv; exact spRight_any x y w

set_option maxHeartbeats 2000000 in
theorem areMarks_any (p : Option Addr) (cap : Nat) (L : List Mk) (w : World) (hL : SlG kM w p L) (hn : L.length ≤ 10000000) :
    Calls Tryz.prog 38 #[.slice p L.length cap] w fun e w' => e = .returned (.bool (mksB L)) ∧ Below w.heap.size w w' := by
  by_cases h60 : L.length ≤ 60
  · have h60' : ¬ (60 : Int) < L.length := by omega
    have HV : Hid (mksB L = mkR 0 L) := (show mksB L = mkR 0 L by unfold mksB; simp [h60])
    obtain ⟨N, hN⟩ : ∃ N, L.length = N := ⟨_, rfl⟩
    have HN : Hid (L.length = N) := hN
    rw [hN] at h60' hn h60 ⊢
    clear hN
    go_enter Tryz.func38, Tryz.ntmps38
    go_wp2
    go_loopw [3, 11] (fun lv iv wr => ∃ k : Nat, k ≤ N ∧ iv = .int .i64 k ∧ lv = .int .i64 (lastI L k) ∧ Hid (mkR (lastI L k) (L.drop k) = mkR 0 L) ∧ Below w.heap.size w wr) (fun _ iv _ => N - (intOf iv).toNat)
    case atStart => exact ⟨0, by omega, rfl, rfl, rfl, Below.refl _ _⟩
    case round =>
      obtain ⟨k, hk, rfl, rfl, hR, hb⟩ := hrel
      by_cases hlt : k < N
      · have hki : (k : Int) < N := by omega
        have hkL : k < L.length := by rw [HN.out]; exact hlt
        obtain ⟨g, off, rfl, hC⟩ := (hL.step hb).at hkL
        obtain ⟨c0, c1, c2⟩ := hC.mk (getM hkL)
        have hst := mkR_step hkL
        obtain ⟨m, hm⟩ : ∃ m, L.getD k zmk = m := ⟨_, rfl⟩
        have hl2 : lastI L (k + 1) = m.i := by rw [← hm]; rfl
        rw [hm] at c0 c1 c2 hst
        obtain ⟨l, hl⟩ : ∃ l, lastI L k = l := ⟨_, rfl⟩
        rw [hl] at hst hR ⊢
        rw [hR.out] at hst
        have HST : Hid (mkR 0 L = ((decide (l < m.i ∧ m.i ≤ 100000) && spB m.x m.y) && mkR (lastI L (k + 1)) (L.drop (k + 1)))) := hst
        have HL2 : Hid (lastI L (k + 1) = m.i) := hl2
        clear hst hl2 hm hl hC hR
        by_cases h1 : m.i ≤ l
        · go_wp2
          go_ret
          exact ⟨ret_bool (by rw [HV.out, HST.out]; simp; intro h; omega), by first | exact hb.alloc hb.size _ | exact hb⟩
        · by_cases h2 : 100000 < m.i
          · go_wp2
            go_ret
            exact ⟨ret_bool (by rw [HV.out, HST.out]; simp; intro _ h; omega), by first | exact hb.alloc hb.size _ | exact hb⟩
          · cases h3 : spB m.x m.y
            · go_wp2_with (go_at_call 54; refine (spRight_v h3 _).mono ?_; rintro e w1 ⟨rfl, hb2⟩)
              go_ret
              exact ⟨ret_bool (by rw [HV.out, HST.out, h3]; simp), bstepA hb hb2 (Nat.le_refl _)⟩
            · go_wp2_with (go_at_call 54; refine (spRight_v h3 _).mono ?_; rintro e w1 ⟨rfl, hb2⟩; obtain ⟨hcl, hfl⟩ := bcell hb2)
              go_roundw
              case rel => exact ⟨k + 1, by omega, by go_num, by rw [HL2.out], (show mkR _ _ = mkR 0 L by rw [HST.out, h3, show decide (l < m.i ∧ m.i ≤ 100000) = true from decide_eq_true (by omega)]; simp), bstepA hb hb2 (Nat.le_refl _)⟩
              case measure => simp [intOf]; omega
      · obtain rfl : k = N := by omega
        have e : L.drop k = [] := List.drop_eq_nil_of_le (by rw [HN.out]; exact Nat.le_refl _)
        have HE : Hid (mkR 0 L = true) := (show mkR 0 L = true by rw [← hR.out, e]; rfl)
        clear e hR
        go_wp2
        go_ret
        exact ⟨ret_bool (by rw [HV.out, HE.out]), hb⟩
  · have h60' : (60 : Int) < L.length := by omega
    have HV : Hid (mksB L = false) := (show mksB L = false by unfold mksB; simp [h60])
    go_enter Tryz.func38, Tryz.ntmps38
    go_wp2
    go_ret
    exact ⟨ret_bool HV.out.symm, Below.refl _ _⟩
end Go.Proofs.YtipfcmfcdfofmaaGreat
