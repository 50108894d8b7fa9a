/-
  How far two Spots are apart: the program's and the spec's.
-/
import Derived.Test.YtocfdmlkicndoaaE1
namespace Go.Proofs.Ytocfdmlkicndoaa
open Go.RowKit Go.Joins
attribute [local go_sem ↓] Go.wp_at_zero Go.wp_at_succ

set_option maxHeartbeats 1000000 in
theorem iApart_any (s1 t1 s2 t2 : Int) (w : World) :
    Calls Try.prog 20 #[.agg #[.int .i64 s1, .int .i64 t1], .agg #[.int .i64 s2, .int .i64 t2]] w fun e w' => e = .returned (.int .i64 (apI s1 t1 s2 t2)) ∧ Below w.heap.size w w' := by
  cases hv : (spB s1 t1 && spB s2 t2)
  · go_enter Try.func20, Try.ntmps20
    go_wp2_with ((go_at_call 41; refine (every_ss_v s1 t1 s2 t2 _ _ _ hv ?_ ?_ ?_).mono ?_; (focus (simp; done)); (focus (simp [go_sem]; done)); (focus (simp [go_sem]; done)); rintro e w1 ⟨rfl, hb2⟩; have hb := bstepA (Below.refl _ _) hb2 (Nat.le_refl _); obtain ⟨hc, hf⟩ := bcell hb))
    go_ret
    exact ⟨ret_i64 (by simp [apI, hv]), ba2 hb⟩
  · obtain ⟨g1, g2⟩ := (Bool.and_eq_true _ _).mp hv
    have k := spB_t.mp g1
    have k' := spB_t.mp g2
    obtain ⟨k1, k2⟩ := sq_bd (d := s1 - s2) (by omega) (by omega)
    obtain ⟨k3, k4⟩ := sq_bd (d := t1 - t2) (by omega) (by omega)
    clear g1 g2
    go_enter Try.func20, Try.ntmps20
    go_wp2_with ((go_at_call 41; refine (every_ss_v s1 t1 s2 t2 _ _ _ hv ?_ ?_ ?_).mono ?_; (focus (simp; done)); (focus (simp [go_sem]; done)); (focus (simp [go_sem]; done)); rintro e w1 ⟨rfl, hb2⟩; have hb := bstepA (Below.refl _ _) hb2 (Nat.le_refl _); obtain ⟨hc, hf⟩ := bcell hb))
    go_ret
    exact ⟨ret_i64 (by simp [apI, hv]), ba2 hb⟩
set_option maxHeartbeats 1000000 in
theorem sApart_any (s1 t1 s2 t2 : Int) (w : World) :
    Calls Try.prog 39 #[.agg #[.int .i64 s1, .int .i64 t1], .agg #[.int .i64 s2, .int .i64 t2]] w fun e w' => e = .returned (.int .i64 (apI s1 t1 s2 t2)) ∧ Below w.heap.size w w' := by
  cases h : spB s1 t1
  · go_enter Try.func39, Try.ntmps39
    go_wp2_with ((go_at_call 59; refine (sSpot_any _ _ _).mono ?_; rintro e w1 ⟨rfl, hb2⟩; (first | replace hb := bstep hb hb2 (Nat.le_refl _) | replace hb := bstepA hb hb2 (Nat.le_refl _) | have hb := hb2); (try clear hc hf); obtain ⟨hc, hf⟩ := bcell hb))
    go_ret
    exact ⟨ret_i64 (by simp [apI, h]), ba2 hb⟩
  cases h2 : spB s2 t2
  · go_enter Try.func39, Try.ntmps39
    go_wp2_with ((go_at_call 59; refine (sSpot_any _ _ _).mono ?_; rintro e w1 ⟨rfl, hb2⟩; (first | replace hb := bstep hb hb2 (Nat.le_refl _) | replace hb := bstepA hb hb2 (Nat.le_refl _) | have hb := hb2); (try clear hc hf); obtain ⟨hc, hf⟩ := bcell hb))
    go_ret
    exact ⟨ret_i64 (by simp [apI, h2]), ba2 hb⟩
  · have k := spB_t.mp h
    have k' := spB_t.mp h2
    obtain ⟨k1, k2⟩ := sq_bd (d := s1 - s2) (by omega) (by omega)
    obtain ⟨k3, k4⟩ := sq_bd (d := t1 - t2) (by omega) (by omega)
    go_enter Try.func39, Try.ntmps39
    go_wp2_with ((go_at_call 59; refine (sSpot_any _ _ _).mono ?_; rintro e w1 ⟨rfl, hb2⟩; (first | replace hb := bstep hb hb2 (Nat.le_refl _) | replace hb := bstepA hb hb2 (Nat.le_refl _) | have hb := hb2); (try clear hc hf); obtain ⟨hc, hf⟩ := bcell hb))
    go_ret
    exact ⟨ret_i64 (by simp [apI, h, h2]), ba2 hb⟩
def apT (p q : T2) : Int := apI p.x p.y q.x q.y
theorem apT_ok {p q : T2} (hp : p.ok = true) (hq : q.ok = true) : apT p q = (p.x - q.x) * (p.x - q.x) + (p.y - q.y) * (p.y - q.y) := by
  unfold apT apI
  rw [show spB p.x p.y = true from hp, show spB q.x q.y = true from hq]; rfl
theorem apT_bd {p q : T2} (hp : p.ok = true) (hq : q.ok = true) : 0 ≤ apT p q ∧ apT p q ≤ 130050 := by
  rw [apT_ok hp hq]
  have k := spB_t.mp (show spB p.x p.y = true from hp)
  have k' := spB_t.mp (show spB q.x q.y = true from hq)
  obtain ⟨k1, k2⟩ := sq_bd (d := p.x - q.x) (by omega) (by omega)
  obtain ⟨k3, k4⟩ := sq_bd (d := p.y - q.y) (by omega) (by omega)
  omega
theorem apT_symm (p q : T2) : apT p q = apT q p := by
  unfold apT apI
  rw [Bool.and_comm]
  split
  · grind
  · rfl
end Go.Proofs.Ytocfdmlkicndoaa
