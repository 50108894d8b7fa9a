/-
  NearTo: the spec's, whole.
-/
import Derived.Test.YtipfcmfcdfofmaaGreatG1
import Derived.Laws.EntriesVeiled
import Derived.Test.YtipfcmfcdfofmaaGreatG4
import Derived.Test.YtipfcmfcdfofmaaGreatW3
import Derived.Test.YtipfcmfcdfofmaaGreatTO3
import Derived.Test.YtipfcmfcdfofmaaGreatTO4
import Derived.Test.YtipfcmfcdfofmaaGreatS2
import Derived.Deep.CutRange
import Derived.Deep.RegionWith
namespace Go.Proofs.YtipfcmfcdfofmaaGreat.O.D
open Go.RowKit Go.Joins
section
set_option maxHeartbeats 1000000 in
theorem every_ss (x1 y1 x2 y2 : Int) (g : Nat) (w : World) (hg : g < w.heap.size)
    (h0 : w.cell? ⟨g, 0, none⟩ = some (.func (Fn.func 54) #[.agg #[.int .i64 x1, .int .i64 y1]] #[])) (h1 : w.cell? ⟨g, 1, none⟩ = some (.func (Fn.func 54) #[.agg #[.int .i64 x2, .int .i64 y2]] #[])) :
    Calls Tryz.prog 43 #[.slice (some ⟨g, 0, none⟩) 2 2] w fun e w' => e = .returned (.bool (spB x1 y1 && spB x2 y2)) ∧ Below w.heap.size w w' := by
  cases k1 : spB x1 y1
  · go_enter Tryz.func43, Tryz.ntmps43
    go_wp2
    refine wp_loop_rounds 3 ?_
    rw [rounds_succ]
    go_wp2_with ((go_at_call 54; refine (spRight_any x1 y1 _).mono ?_; rintro e w1 ⟨rfl, hb2⟩; (first | replace hb := bstep hb hb2 (Nat.le_refl _) | replace hb := bstepA hb hb2 (Nat.le_refl _) | have hb := hb2); (try clear hc hf); obtain ⟨hc, hf⟩ := bcell hb))
    go_ret
    exact ⟨rfl, hb⟩
  cases k2 : spB x2 y2
  · go_enter Tryz.func43, Tryz.ntmps43
    go_wp2
    refine wp_loop_rounds 3 ?_
    rw [rounds_succ]
    go_wp2_with ((go_at_call 54; refine (spRight_any x1 y1 _).mono ?_; rintro e w1 ⟨rfl, hb2⟩; (first | replace hb := bstep hb hb2 (Nat.le_refl _) | replace hb := bstepA hb hb2 (Nat.le_refl _) | have hb := hb2); (try clear hc hf); obtain ⟨hc, hf⟩ := bcell hb))
    rw [rounds_succ]
    go_wp2_with ((go_at_call 54; refine (spRight_any x2 y2 _).mono ?_; rintro e w1 ⟨rfl, hb2⟩; (first | replace hb := bstep hb hb2 (Nat.le_refl _) | replace hb := bstepA hb hb2 (Nat.le_refl _) | have hb := hb2); (try clear hc hf); obtain ⟨hc, hf⟩ := bcell hb))
    go_ret
    exact ⟨rfl, hb⟩
  · go_enter Tryz.func43, Tryz.ntmps43
    go_wp2
    refine wp_loop_rounds 3 ?_
    rw [rounds_succ]
    go_wp2_with ((go_at_call 54; refine (spRight_any x1 y1 _).mono ?_; rintro e w1 ⟨rfl, hb2⟩; (first | replace hb := bstep hb hb2 (Nat.le_refl _) | replace hb := bstepA hb hb2 (Nat.le_refl _) | have hb := hb2); (try clear hc hf); obtain ⟨hc, hf⟩ := bcell hb))
    rw [rounds_succ]
    go_wp2_with ((go_at_call 54; refine (spRight_any x2 y2 _).mono ?_; rintro e w1 ⟨rfl, hb2⟩; (first | replace hb := bstep hb hb2 (Nat.le_refl _) | replace hb := bstepA hb hb2 (Nat.le_refl _) | have hb := hb2); (try clear hc hf); obtain ⟨hc, hf⟩ := bcell hb))
    rw [rounds_succ]
    go_wp2
    go_ret
    exact ⟨rfl, hb⟩

theorem every_ss_v (x1 y1 x2 y2 : Int) (v : Bool) (g : Nat) (w : World) (hv : (spB x1 y1 && spB x2 y2) = v) (hg : g < w.heap.size)
    (h0 : w.cell? ⟨g, 0, none⟩ = some (.func (Fn.func 54) #[.agg #[.int .i64 x1, .int .i64 y1]] #[])) (h1 : w.cell? ⟨g, 1, none⟩ = some (.func (Fn.func 54) #[.agg #[.int .i64 x2, .int .i64 y2]] #[])) :
    Calls Tryz.prog 43 #[.slice (some ⟨g, 0, none⟩) 2 2] w fun e w' => e = .returned (.bool v) ∧ Below w.heap.size w w' := by
  subst hv; exact every_ss x1 y1 x2 y2 g w hg h0 h1

set_option maxHeartbeats 1000000 in
theorem iApart_any (s1 t1 s2 t2 : Int) (w : World) :
    Calls Tryz.prog 75 #[.agg #[.int .i64 s1, .int .i64 t1], .agg #[.int .i64 s2, .int .i64 t2]] w fun e w' => e = .returned (.int .i64 (apI s1 t1 s2 t2)) ∧ Below w.heap.size w w' := by
  have hap : ∀ v, (spB s1 t1 && spB s2 t2) = v → apI s1 t1 s2 t2 = if v = true then (s1 - s2) * (s1 - s2) + (t1 - t2) * (t1 - t2) else -1 := fun v h => by unfold apI; rw [show (Go.Proofs.YtipfcmfcdfofmaaGreat.spB s1 t1 && Go.Proofs.YtipfcmfcdfofmaaGreat.spB s2 t2) = v from h]
  cases hv : (spB s1 t1 && spB s2 t2)
  · go_enter Tryz.func75, Tryz.ntmps75
    go_wp2_with ((go_at_call 43; refine (every_ss_v s1 t1 s2 t2 _ _ _ hv ?_ ?_ ?_).mono ?_; (focus (simp; done)); (focus (simp [go_sem]; done)); (focus (simp [go_sem]; done)); rintro e w1 ⟨rfl, hb2⟩; have hb := bstepA (Below.refl _ _) hb2 (Nat.le_refl _); obtain ⟨hc, hf⟩ := bcell hb))
    go_ret
    exact ⟨ret_i64 (by rw [hap _ hv]; simp), ba2 hb⟩
  · obtain ⟨g1, g2⟩ := (Bool.and_eq_true _ _).mp hv
    have k := spB_t.mp g1
    have k' := spB_t.mp g2
    obtain ⟨k1, k2⟩ := sq_bd (d := s1 - s2) (by omega) (by omega)
    obtain ⟨k3, k4⟩ := sq_bd (d := t1 - t2) (by omega) (by omega)
    clear g1 g2
    go_enter Tryz.func75, Tryz.ntmps75
    go_wp2_with ((go_at_call 43; refine (every_ss_v s1 t1 s2 t2 _ _ _ hv ?_ ?_ ?_).mono ?_; (focus (simp; done)); (focus (simp [go_sem]; done)); (focus (simp [go_sem]; done)); rintro e w1 ⟨rfl, hb2⟩; have hb := bstepA (Below.refl _ _) hb2 (Nat.le_refl _); obtain ⟨hc, hf⟩ := bcell hb))
    go_ret
    exact ⟨ret_i64 (by rw [hap _ hv]; simp), ba2 hb⟩
end
attribute [local go_sem] Oper.semAt_some

def cmpN (sx sy : Int) (a b : Mk) : Int := orI (cmpI (apI a.x a.y sx sy) (apI b.x b.y sx sy)) (cmpI a.i b.i)
set_option maxRecDepth 100000 in
set_option maxHeartbeats 4000000 in
theorem nearTurn_any (sx sy : Int) (gs : Nat) (a b : Mk) (w : World) (hs : Has w [(gs, [.int .i64 sx, .int .i64 sy])]) :
    Calls Tryz.prog 72 #[.agg #[.int .i64 a.i, .int .i64 a.x, .int .i64 a.y], .agg #[.int .i64 b.i, .int .i64 b.x, .int .i64 b.y], .pointer (some ⟨gs, 0, none⟩)] w fun e w' => e = .returned (.int .i64 (cmpN sx sy a b)) ∧ Below w.heap.size w w' := by
  have hst := (St.push (St.push (⟨Below.refl _ _, hs⟩ : St w w [(gs, [.int .i64 sx, .int .i64 sy])]) [.int .i64 a.i, .int .i64 a.x, .int .i64 a.y] 45) [.int .i64 b.i, .int .i64 b.x, .int .i64 b.y] 45)
  rw [World.size_alloc] at hst
  have hS : ∀ w', St w w' [(w.heap.size + 1, [.int .i64 b.i, .int .i64 b.x, .int .i64 b.y]), (w.heap.size, [.int .i64 a.i, .int .i64 a.x, .int .i64 a.y]), (gs, [.int .i64 sx, .int .i64 sy])] → ((w'.cell? ⟨w.heap.size + 1, 0, none⟩ = some (.int .i64 b.i) ∧ w'.cell? ⟨w.heap.size + 1, 1, none⟩ = some (.int .i64 b.x) ∧ w'.cell? ⟨w.heap.size + 1, 2, none⟩ = some (.int .i64 b.y)) ∧ (w'.cell? ⟨w.heap.size, 0, none⟩ = some (.int .i64 a.i) ∧ w'.cell? ⟨w.heap.size, 1, none⟩ = some (.int .i64 a.x) ∧ w'.cell? ⟨w.heap.size, 2, none⟩ = some (.int .i64 a.y)) ∧ (w'.cell? ⟨gs, 0, none⟩ = some (.int .i64 sx) ∧ w'.cell? ⟨gs, 1, none⟩ = some (.int .i64 sy))) :=
    fun w' h => by have := h.has; simp [Has, HasAt] at this; simp [this]
  have hcc := hS _ hst
  unfold cmpN
  go_enter Tryz.func72, Tryz.ntmps72
  go_wp2
  go_region_held3 (fun w' => St w w' [(w.heap.size + 1, [.int .i64 b.i, .int .i64 b.x, .int .i64 b.y]), (w.heap.size, [.int .i64 a.i, .int .i64 a.x, .int .i64 a.y]), (gs, [.int .i64 sx, .int .i64 sy])] ∧ ((w'.cell? ⟨w.heap.size + 1, 0, none⟩ = some (.int .i64 b.i) ∧ w'.cell? ⟨w.heap.size + 1, 1, none⟩ = some (.int .i64 b.x) ∧ w'.cell? ⟨w.heap.size + 1, 2, none⟩ = some (.int .i64 b.y)) ∧ (w'.cell? ⟨w.heap.size, 0, none⟩ = some (.int .i64 a.i) ∧ w'.cell? ⟨w.heap.size, 1, none⟩ = some (.int .i64 a.x) ∧ w'.cell? ⟨w.heap.size, 2, none⟩ = some (.int .i64 a.y)) ∧ (w'.cell? ⟨gs, 0, none⟩ = some (.int .i64 sx) ∧ w'.cell? ⟨gs, 1, none⟩ = some (.int .i64 sy)))) (first | exact ‹St _ _ _ ∧ _› | exact keepD hS ((‹St _ _ _ ∧ _›).1.step hb2) | exact keepD hS ((‹St _ _ _ ∧ _›).1.al _) | exact keepD hS hst.dr | fail)
    (first
      | (go_at_call 75; refine (iApart_any _ _ _ _ _).mono ?_; rintro e w1 ⟨rfl, hb2⟩)
      | (go_at_call 74; refine (compare_any _ _ _).mono ?_; rintro e w1 ⟨rfl, rfl⟩)
      | (go_at_call 73; refine (or_any (cmpI (apI a.x a.y sx sy) (apI b.x b.y sx sy)) (cmpI a.i b.i) _ _ ?_ ?_).mono ?_; (focus (simp [go_sem]; done)); (focus (simp [go_sem]; done)); rintro e w1 ⟨rfl, rfl⟩))
  clear hst hcc
  obtain ⟨hst, hcc⟩ := ‹St _ _ _ ∧ _›
  go_wp2
  go_ret
  exact ⟨rfl, hst.bel⟩
end Go.Proofs.YtipfcmfcdfofmaaGreat.O.D
namespace Go.Proofs.YtipfcmfcdfofmaaGreat
open Go.Shelf Go.RowKit Go.Joins

namespace O.D
theorem nearTurn_c (sx sy : Int) (gs : Nat) (a b : Mk) (w : World) (hg : gs < w.heap.size) (hf : ∀ o, w.frozen? ⟨gs, o, none⟩ = false) (c0 : w.cell? ⟨gs, 0, none⟩ = some (.int .i64 sx)) (c1 : w.cell? ⟨gs, 1, none⟩ = some (.int .i64 sy)) :
    Calls Tryz.prog 72 #[.agg #[.int .i64 a.i, .int .i64 a.x, .int .i64 a.y], .agg #[.int .i64 b.i, .int .i64 b.x, .int .i64 b.y], .pointer (some ⟨gs, 0, none⟩)] w fun e w' => e = .returned (.int .i64 (cmpN sx sy a b)) ∧ Below w.heap.size w w' :=
  nearTurn_any sx sy gs a b w (by simp [Has, HasAt, hg, hf, c0, c1])
end O.D
/-- How far from a Spot. -/
def fN (sx sy : Int) (m : Mk) : Int := apI m.x m.y sx sy
theorem cmpNear (sx sy : Int) (gs blk size : Nat) (w : World) (hne : gs ≠ blk) (hg : gs < w.heap.size) (hf : ∀ o, w.frozen? ⟨gs, o, none⟩ = false) (c0 : w.cell? ⟨gs, 0, none⟩ = some (.int .i64 sx)) (c1 : w.cell? ⟨gs, 1, none⟩ = some (.int .i64 sy)) : CmpLays Tryz.prog 72 #[.pointer (some ⟨gs, 0, none⟩)] encP 3 (cfM (fN sx sy)) blk 0 size w :=
  fun m os dk _ x y => by
    have hgr : w.grownBy (sortWorldK encP 3 w blk 0 m dk os) (some blk) := sorted_grown
    have hb : (sortWorldK encP 3 w blk 0 m dk os).heap[gs]? = w.heap[gs]? := hgr.block gs hg (by simpa using hne)
    refine (O.D.nearTurn_c sx sy gs (tri x) (tri y) _ (Nat.lt_of_lt_of_le hg hgr.size) (fun o => ?_) ?_ ?_).mono fun _ _ ⟨he, hb⟩ => ⟨he, hb.grown⟩
    · rw [World.frozen?_of_block (w := w) hb]; exact hf o
    · rw [World.cell?_of_block (w := w) hb]; exact c0
    · rw [World.cell?_of_block (w := w) hb]; exact c1
theorem sortedNear_any (sx sy : Int) (gs : Nat) (p : Option Addr) (cap : Nat) (L : List Mk) (m : Nat) (hm : L.length = m) (hn : m ≤ 1000) (hL2 : L.Pairwise fun a b => a.i < b.i) (w : World) (hL : SlG kM w p L) (hg : gs < w.heap.size) (hf : ∀ o, w.frozen? ⟨gs, o, none⟩ = false) (c0 : w.cell? ⟨gs, 0, none⟩ = some (.int .i64 sx)) (c1 : w.cell? ⟨gs, 1, none⟩ = some (.int .i64 sy)) :
    Calls Tryz.prog 71 #[.slice p m cap, .func (.func 72) #[] #[.pointer (some ⟨gs, 0, none⟩)]] w fun e w' => ∃ q cap', e = .returned (.slice (some ⟨q, 0, none⟩) m cap') ∧ Sg w w' [rG kM (.slice (some ⟨q, 0, none⟩) m cap') (srtM (fN sx sy) L)] := by
  refine (sorted_any (fN sx sy) 72 #[.pointer (some ⟨gs, 0, none⟩)] (enters_of Tryz.func72 (by kernel_rfl) rfl) p cap L m hm w hL hn (fun W hb => cmpNear sx sy gs _ _ W (by omega) (Nat.lt_of_lt_of_le hg hb.size) (fun o => by rw [hb.frozen hg]; exact hf o) (by rw [hb.cell hg]; exact c0) (by rw [hb.cell hg]; exact c1))).mono ?_
  rintro e w' ⟨q, cap', S', rfl, h1, h2, h3⟩
  have e : S' = srtM (fN sx sy) L := srt_uniq hL2 h1 h2
  subst e
  exact ⟨q, cap', rfl, h3⟩
end Go.Proofs.YtipfcmfcdfofmaaGreat
namespace Go.Proofs.YtipfcmfcdfofmaaGreat
open Go.RowKit Go.Joins

set_option maxHeartbeats 1000000 in
theorem every_ts (T : Value) (v1 : Bool) (x2 y2 : Int) (g : Nat) (w : World) (hg : g < w.heap.size) (HT : Hid (∀ W, Below w.heap.size w W → Calls Tryz.prog 44 #[T] W fun e w' => e = .returned (.bool v1) ∧ Below W.heap.size W w'))
    (h0 : w.cell? ⟨g, 0, none⟩ = some (.func (Fn.func 44) #[T] #[])) (h1 : w.cell? ⟨g, 1, none⟩ = some (.func (Fn.func 54) #[.agg #[.int .i64 x2, .int .i64 y2]] #[])) :
    Calls Tryz.prog 43 #[.slice (some ⟨g, 0, none⟩) 2 2] w fun e w' => e = .returned (.bool (v1 && spB x2 y2)) ∧ Below w.heap.size w w' := by
  cases v1
  · go_enter Tryz.func43, Tryz.ntmps43
    go_wp2
    refine wp_loop_rounds 3 ?_
    rw [rounds_succ]
    go_wp2_with ((go_at_call 44; refine (HT.out _ (Below.refl _ _)).mono ?_; rintro e w1 ⟨rfl, hb2⟩; (first | replace hb := bstep hb hb2 (Nat.le_refl _) | replace hb := bstepA hb hb2 (Nat.le_refl _) | have hb := hb2); (try clear hc hf); obtain ⟨hc, hf⟩ := bcell hb))
    go_ret
    exact ⟨rfl, hb⟩
  cases k2 : spB x2 y2
  · go_enter Tryz.func43, Tryz.ntmps43
    go_wp2
    refine wp_loop_rounds 3 ?_
    rw [rounds_succ]
    go_wp2_with ((go_at_call 44; refine (HT.out _ (Below.refl _ _)).mono ?_; rintro e w1 ⟨rfl, hb2⟩; (first | replace hb := bstep hb hb2 (Nat.le_refl _) | replace hb := bstepA hb hb2 (Nat.le_refl _) | have hb := hb2); (try clear hc hf); obtain ⟨hc, hf⟩ := bcell hb))
    rw [rounds_succ]
    go_wp2_with ((go_at_call 54; refine (spRight_any x2 y2 _).mono ?_; rintro e w1 ⟨rfl, hb2⟩; (first | replace hb := bstep hb hb2 (Nat.le_refl _) | replace hb := bstepA hb hb2 (Nat.le_refl _) | have hb := hb2); (try clear hc hf); obtain ⟨hc, hf⟩ := bcell hb))
    go_ret
    exact ⟨rfl, hb⟩
  · go_enter Tryz.func43, Tryz.ntmps43
    go_wp2
    refine wp_loop_rounds 3 ?_
    rw [rounds_succ]
    go_wp2_with ((go_at_call 44; refine (HT.out _ (Below.refl _ _)).mono ?_; rintro e w1 ⟨rfl, hb2⟩; (first | replace hb := bstep hb hb2 (Nat.le_refl _) | replace hb := bstepA hb hb2 (Nat.le_refl _) | have hb := hb2); (try clear hc hf); obtain ⟨hc, hf⟩ := bcell hb))
    rw [rounds_succ]
    go_wp2_with ((go_at_call 54; refine (spRight_any x2 y2 _).mono ?_; rintro e w1 ⟨rfl, hb2⟩; (first | replace hb := bstep hb hb2 (Nat.le_refl _) | replace hb := bstepA hb hb2 (Nat.le_refl _) | have hb := hb2); (try clear hc hf); obtain ⟨hc, hf⟩ := bcell hb))
    rw [rounds_succ]
    go_wp2
    go_ret
    exact ⟨rfl, hb⟩

end Go.Proofs.YtipfcmfcdfofmaaGreat
namespace Go.Proofs.YtipfcmfcdfofmaaGreat
open Go.RowKit Go.Joins
attribute [local go_sem] Oper.semAt_some

/-- Their numbers: at most k of them, the nearest ones. -/
def nrL (L : List Mk) (sx sy k : Int) : List Int := ((srtM (fN sx sy) L).take k.toNat).map Mk.i
def nrB (L : List Mk) (ns : List Nd) (sx sy k : Int) : Bool := tokB L ns && spB sx sy && decide (1 ≤ k ∧ k ≤ 60)
set_option maxRecDepth 100000 in
set_option maxHeartbeats 4000000 in
theorem iNearTo_any (p q : Option Addr) (m n c d : Nat) (L : List Mk) (NL : List (Nd × Sv)) (hm : L.length = m) (hn : NL.length = n) (hmb : m ≤ 10000000) (hnb : n ≤ 10000000) (hps : ∀ x ∈ NL, x.1.ps.length ≤ 10000000) (sx sy k : Int) (w : World) (hL : SlG kM w p L) (hN : RdN w q NL) :
    Calls Tryz.prog 35 #[.agg #[.slice p m c, .slice q n d], .agg #[.int .i64 sx, .int .i64 sy], .int .i64 k] w fun e w' => ∃ q n c, e = .returned (.slice q n c) ∧ Sg w w' [rG kI (.slice q n c) (if nrB L (NL.map Prod.fst) sx sy k = true then nrL L sx sy k else [])] := by
  have hS0 := ((Sg.nil w).lit kT [(⟨p, m, c⟩, ⟨q, n, d⟩)] 1 rfl (by decide) #[.slice p m c, .slice q n d] rfl).lit kS [⟨sx, sy⟩] 1 rfl (by decide) #[.int .i64 sx, .int .i64 sy] rfl
  simp only [World.size_alloc] at hS0
  obtain ⟨v1, hv1⟩ : ∃ v, tokB L (NL.map Prod.fst) = v := ⟨_, rfl⟩
  have HT : Hid (∀ W, Below w.heap.size w W → Calls Tryz.prog 44 #[.agg #[.slice p m c, .slice q n d]] W fun e w' => e = .returned (.bool v1) ∧ Below W.heap.size W w') := fun W h => isRight_any p q m n c d L NL hm hn hmb hnb hps W (hL.step h) (hN.step h) hv1
  obtain ⟨v, hv⟩ : ∃ v, (v1 && spB sx sy) = v := ⟨_, rfl⟩
  have HE : Hid (∀ W, Below w.heap.size w W → ∀ g, g < W.heap.size → W.cell? ⟨g, 0, none⟩ = some (.func (Fn.func 44) #[.agg #[.slice p m c, .slice q n d]] #[]) → W.cell? ⟨g, 1, none⟩ = some (.func (Fn.func 54) #[.agg #[.int .i64 sx, .int .i64 sy]] #[]) → Calls Tryz.prog 43 #[.slice (some ⟨g, 0, none⟩) 2 2] W fun e w' => e = .returned (.bool v) ∧ Below W.heap.size W w') := fun W h g hg h0 h1 => by
    rw [← hv]; exact every_ts _ v1 sx sy g W hg (fun W' h' => HT.out W' (bstep h h' (Nat.le_refl _))) h0 h1
  by_cases hk : v = true ∧ 1 ≤ k ∧ k ≤ 60
  · obtain ⟨rfl, hk1, hk2⟩ := hk
    have hyes : nrB L (NL.map Prod.fst) sx sy k = true := by
      unfold nrB; rw [hv1, hv]; simp; omega
    have htok : mksB L = true := by
      have h1 : v1 = true := by cases v1 <;> simp_all
      rw [h1] at hv1; simp [tokB] at hv1; exact hv1.1
    have h60 : m ≤ 60 ∧ L.Pairwise (fun a b => a.i < b.i) := by
      simp [mksB] at htok; exact ⟨by omega, (mkR_all htok.2).2⟩
    rw [if_pos hyes]
    have hmi : m ≤ 60 := h60.1
    have HSO : Hid (∀ W, Below w.heap.size w W → ∀ gs, gs < W.heap.size → (∀ o, W.frozen? ⟨gs, o, none⟩ = false) → W.cell? ⟨gs, 0, none⟩ = some (.int .i64 sx) → W.cell? ⟨gs, 1, none⟩ = some (.int .i64 sy) → Calls Tryz.prog 71 #[.slice p m c, .func (.func 72) #[] #[.pointer (some ⟨gs, 0, none⟩)]] W fun e w' => ∃ q cap', e = .returned (.slice (some ⟨q, 0, none⟩) m cap') ∧ Sg W w' [rG kM (.slice (some ⟨q, 0, none⟩) m cap') (srtM (fN sx sy) L)]) := fun W hb gs hg hf c0 c1 => sortedNear_any sx sy gs p c L m hm (by omega) h60.2 W (hL.step hb) hg hf c0 c1
    have HLM : Hid (L.length = m) := hm
    clear hyes htok h60 hv hv1 hm hn hps hL hN HT
    go_enter Tryz.func35, Tryz.ntmps35
    go_upto_region 4 with (first
      | (go_at_call 43; refine (HE.out _ (hS0.bel.alloc hS0.bel.size _) _ ?_ ?_ ?_).mono ?_; (focus (simp; done)); (focus (simp [go_sem]; done)); (focus (simp [go_sem]; done)); rintro e w1 ⟨rfl, hb2⟩; have hS1 := hS0.step (bstepA (Below.refl _ _) hb2 (Nat.le_refl _)); obtain ⟨x0, x1, xf, xg⟩ := hS1.two (K := kT) (g := w.heap.size) (c := 1) (p := (⟨p, m, c⟩, ⟨q, n, d⟩)) (by simp) rfl; obtain ⟨s0, s1, sf, sg⟩ := hS1.two (K := kS) (g := w.heap.size + 1) (c := 1) (p := ⟨sx, sy⟩) (by simp) rfl)
      | (go_at_call 71; refine (HSO.out _ hS1.bel _ sg sf s0 s1).mono ?_; rintro e w2 ⟨g2, c2, rfl, hT⟩; have hS2 := hS1.addL hT))
    have hcap : m ≤ c2 := by
      have ho := hS2.mem (K := kM) (v := .slice (some ⟨g2, 0, none⟩) m c2) (L := srtM (fN sx sy) L) (by simp)
      have hl := OwG.len ho
      rcases ho.2 with ⟨h1, _⟩ | ⟨_, _, _, h1, _, _, h2, _⟩
      · cases h1
      · injection h1 with _ _ h1; omega
    obtain ⟨j, hj⟩ : ∃ j : Nat, min k (m : Int) = j := ⟨(min k (m : Int)).toNat, by omega⟩
    have hmn : 0 ≤ (j : Int) ∧ (j : Int) ≤ (c2 : Int) := by omega
    have hsl : (srtM (fN sx sy) L).length = m := by rw [srtM_len]; exact HLM.out
    have htk : (srtM (fN sx sy) L).take j = (srtM (fN sx sy) L).take k.toNat := by
      by_cases hkm : k.toNat ≤ m
      · rw [show j = k.toNat by omega]
      · rw [List.take_of_length_le (by omega), List.take_of_length_le (by omega)]
    have HID : Hid (Calls Tryz.prog 76 #[.slice (some ⟨g2, 0, none⟩) j c2] w2 fun e w' => ∃ q c, e = .returned (.slice q j c) ∧ Sg w2 w' [rG kI (.slice q j c) (nrL L sx sy k)]) :=
      idsOf_any (some ⟨g2, 0, none⟩) c2 ((srtM (fN sx sy) L).take j) j (by rw [List.length_take]; omega) w2 (.inr ⟨g2, 0, rfl, (OwG.cs (hS2.mem (K := kM) (v := .slice (some ⟨g2, 0, none⟩) m c2) (L := srtM (fN sx sy) L) (by simp))).take j⟩) (by omega) (by unfold nrL; rw [htk])
    clear hsl htk
    go_wp2_with (go_at_call 76; refine HID.out.mono ?_; rintro e w3 ⟨q3, c3, rfl, hT3⟩)
    go_ret
    exact ⟨_, _, _, rfl, (hS2.addL hT3).sub (by simp)⟩
  · have hno : nrB L (NL.map Prod.fst) sx sy k = false := by
      unfold nrB; rw [hv1, hv]
      cases v
      · rfl
      · simp at hk ⊢; omega
    rw [hno]
    clear hno hv hv1 hm hn hps hL hN HT
    cases v
    · go_enter Tryz.func35, Tryz.ntmps35
      go_wp2_with (go_at_call 43; refine (HE.out _ (hS0.bel.alloc hS0.bel.size _) _ ?_ ?_ ?_).mono ?_; (focus (simp; done)); (focus (simp [go_sem]; done)); (focus (simp [go_sem]; done)); rintro e w1 ⟨rfl, hb2⟩; have hS1 := hS0.step (bstepA (Below.refl _ _) hb2 (Nat.le_refl _)))
      go_ret
      exact ⟨_, _, _, rfl, (hS1.sub (List.nil_sublist _)).nilRow kI⟩
    · by_cases hk1 : k < 1
      · go_enter Tryz.func35, Tryz.ntmps35
        go_wp2_with (go_at_call 43; refine (HE.out _ (hS0.bel.alloc hS0.bel.size _) _ ?_ ?_ ?_).mono ?_; (focus (simp; done)); (focus (simp [go_sem]; done)); (focus (simp [go_sem]; done)); rintro e w1 ⟨rfl, hb2⟩; have hS1 := hS0.step (bstepA (Below.refl _ _) hb2 (Nat.le_refl _)))
        go_ret
        exact ⟨_, _, _, rfl, (hS1.sub (List.nil_sublist _)).nilRow kI⟩
      · have hk2 : 60 < k := by simp at hk; omega
        go_enter Tryz.func35, Tryz.ntmps35
        go_wp2_with (go_at_call 43; refine (HE.out _ (hS0.bel.alloc hS0.bel.size _) _ ?_ ?_ ?_).mono ?_; (focus (simp; done)); (focus (simp [go_sem]; done)); (focus (simp [go_sem]; done)); rintro e w1 ⟨rfl, hb2⟩; have hS1 := hS0.step (bstepA (Below.refl _ _) hb2 (Nat.le_refl _)))
        go_ret
        exact ⟨_, _, _, rfl, (hS1.sub (List.nil_sublist _)).nilRow kI⟩
end Go.Proofs.YtipfcmfcdfofmaaGreat
namespace Go.Proofs.YtipfcmfcdfofmaaGreat
open Go.RowKit Go.Joins
attribute [local go_sem] Oper.semAt_some

set_option maxHeartbeats 1000000 in
theorem sApart_any (s1 t1 s2 t2 : Int) (w : World) :
    Calls Tryz.prog 99 #[.agg #[.int .i64 s1, .int .i64 t1], .agg #[.int .i64 s2, .int .i64 t2]] w fun e w' => e = .returned (.int .i64 (apI s1 t1 s2 t2)) ∧ Below w.heap.size w w' := by
  cases h : spB s1 t1
  · go_enter Tryz.func99, Tryz.ntmps99
    go_wp2_with ((go_at_call 68; refine (l1Spot_v rfl _).mono ?_; rintro e w1 ⟨rfl, hb2⟩; (first | replace hb := bstep hb hb2 (Nat.le_refl _) | replace hb := bstepA hb hb2 (Nat.le_refl _) | have hb := hb2); (try clear hc hf); obtain ⟨hc, hf⟩ := bcell hb))
    go_ret
    exact ⟨ret_i64 (by simp [apI, h]), ba2 hb⟩
  cases h2 : spB s2 t2
  · go_enter Tryz.func99, Tryz.ntmps99
    go_wp2_with ((go_at_call 68; refine (l1Spot_v rfl _).mono ?_; rintro e w1 ⟨rfl, hb2⟩; (first | replace hb := bstep hb hb2 (Nat.le_refl _) | replace hb := bstepA hb hb2 (Nat.le_refl _) | have hb := hb2); (try clear hc hf); obtain ⟨hc, hf⟩ := bcell hb))
    go_ret
    exact ⟨ret_i64 (by simp [apI, h2]), ba2 hb⟩
  · have k := spB_t.mp h
    have k' := spB_t.mp h2
    obtain ⟨k1, k2⟩ := sq_bd (d := s1 - s2) (by omega) (by omega)
    obtain ⟨k3, k4⟩ := sq_bd (d := t1 - t2) (by omega) (by omega)
    go_enter Tryz.func99, Tryz.ntmps99
    go_wp2_with ((go_at_call 68; refine (l1Spot_v rfl _).mono ?_; rintro e w1 ⟨rfl, hb2⟩; (first | replace hb := bstep hb hb2 (Nat.le_refl _) | replace hb := bstepA hb hb2 (Nat.le_refl _) | have hb := hb2); (try clear hc hf); obtain ⟨hc, hf⟩ := bcell hb))
    go_ret
    exact ⟨ret_i64 (by simp [apI, h, h2]), ba2 hb⟩
set_option maxRecDepth 100000 in
set_option maxHeartbeats 4000000 in
theorem sNearTo_of (ad : Addr) (q : Option Addr) (m n c d : Nat) (L : List Mk) (NL : List (Nd × Sv)) (hm : L.length = m) (hn : NL.length = n) (hmb : m ≤ 10000000) (hnb : n ≤ 10000000) (hps : ∀ x ∈ NL, x.1.ps.length ≤ 10000000) (sx sy k : Int) (w : World) (hL : SlG kM w (some ad) L) (hN : RdN w q NL)
    (H40 : Hid (mksB L = true → spB sx sy = true → 1 ≤ k → k ≤ 60 → ∀ W, Below w.heap.size w W → Calls Tryz.prog 70 #[.slice (some ad) m c, .agg #[.int .i64 sx, .int .i64 sy], .int .i64 k] W fun e w' => ∃ q n c, e = .returned (.slice q n c) ∧ Sg W w' [rG kI (.slice q n c) (nrL L sx sy k)])) :
    Calls Tryz.prog 33 #[.agg #[.slice (some ad) m c, .slice q n d], .agg #[.int .i64 sx, .int .i64 sy], .int .i64 k] w fun e w' => ∃ q n c, e = .returned (.slice q n c) ∧ Sg w w' [rG kI (.slice q n c) (if nrB L (NL.map Prod.fst) sx sy k = true then nrL L sx sy k else [])] := by
  have hS0 := ((Sg.nil w).lit kT [(⟨some ad, m, c⟩, ⟨q, n, d⟩)] 1 rfl (by decide) #[.slice (some ad) m c, .slice q n d] rfl).lit kS [⟨sx, sy⟩] 1 rfl (by decide) #[.int .i64 sx, .int .i64 sy] rfl
  simp only [World.size_alloc] at hS0
  obtain ⟨v1, hv1⟩ : ∃ v, tokB L (NL.map Prod.fst) = v := ⟨_, rfl⟩
  have H23 : Hid (∀ W, Below w.heap.size w W → Calls Tryz.prog 20 #[.agg #[.slice (some ad) m c, .slice q n d]] W fun e w' => e = .returned (.bool v1) ∧ Below W.heap.size W w') := fun W h => sTreeOk_any ad q m n c d L NL hm hn hmb hnb hps W (hL.step h) (hN.step h) hv1
  have hnr : nrB L (NL.map Prod.fst) sx sy k = (v1 && spB sx sy && decide (1 ≤ k ∧ k ≤ 60)) := by unfold nrB; rw [hv1]
  have hmk : v1 = true → mksB L = true := fun h => by rw [h] at hv1; simp [tokB] at hv1; exact hv1.1
  rw [hnr]
  clear hnr hv1 hm hn hps hL hN
  obtain ⟨s0, s1, sf, sg⟩ := hS0.two (K := kS) (g := w.heap.size + 1) (c := 1) (p := ⟨sx, sy⟩) (by simp) rfl
  cases v1
  · clear H40 hmk
    go_enter Tryz.func33, Tryz.ntmps33
    go_wp2_with (first
      | (go_at_call 20; refine (H23.out _ hS0.bel).mono ?_; rintro e w1 ⟨rfl, hb1⟩; have hS1 := hS0.step hb1; clear s0 s1 sf sg; obtain ⟨s0, s1, sf, sg⟩ := hS1.two (K := kS) (g := w.heap.size + 1) (c := 1) (p := ⟨sx, sy⟩) (by simp) rfl; obtain ⟨x0, x1, xf, xg⟩ := hS1.two (K := kT) (g := w.heap.size) (c := 1) (p := (⟨some ad, m, c⟩, ⟨q, n, d⟩)) (by simp) rfl)
      | (go_at_call 68; refine (l1Spot_v h2 _).mono ?_; rintro e w2 ⟨rfl, hb2⟩; have hS2 := hS1.step hb2; clear s0 s1 sf sg x0 x1 xf xg; obtain ⟨s0, s1, sf, sg⟩ := hS2.two (K := kS) (g := w.heap.size + 1) (c := 1) (p := ⟨sx, sy⟩) (by simp) rfl; obtain ⟨x0, x1, xf, xg⟩ := hS2.two (K := kT) (g := w.heap.size) (c := 1) (p := (⟨some ad, m, c⟩, ⟨q, n, d⟩)) (by simp) rfl)
      | (go_at_call 69; refine (l1In_v h3 _).mono ?_; rintro e w3 ⟨rfl, rfl⟩)
      | (go_at_call 70; refine (H40.out _ hS2.bel).mono ?_; rintro e w4 ⟨q4, n4, c4, rfl, hT4⟩))
    go_ret
    exact ⟨_, _, _, rfl, (hS1.sub (List.nil_sublist _)).lit kI [] 0 rfl (by decide) #[] rfl⟩
  cases h2 : spB sx sy
  · clear H40 hmk
    go_enter Tryz.func33, Tryz.ntmps33
    go_wp2_with (first
      | (go_at_call 20; refine (H23.out _ hS0.bel).mono ?_; rintro e w1 ⟨rfl, hb1⟩; have hS1 := hS0.step hb1; clear s0 s1 sf sg; obtain ⟨s0, s1, sf, sg⟩ := hS1.two (K := kS) (g := w.heap.size + 1) (c := 1) (p := ⟨sx, sy⟩) (by simp) rfl; obtain ⟨x0, x1, xf, xg⟩ := hS1.two (K := kT) (g := w.heap.size) (c := 1) (p := (⟨some ad, m, c⟩, ⟨q, n, d⟩)) (by simp) rfl)
      | (go_at_call 68; refine (l1Spot_v h2 _).mono ?_; rintro e w2 ⟨rfl, hb2⟩; have hS2 := hS1.step hb2; clear s0 s1 sf sg x0 x1 xf xg; obtain ⟨s0, s1, sf, sg⟩ := hS2.two (K := kS) (g := w.heap.size + 1) (c := 1) (p := ⟨sx, sy⟩) (by simp) rfl; obtain ⟨x0, x1, xf, xg⟩ := hS2.two (K := kT) (g := w.heap.size) (c := 1) (p := (⟨some ad, m, c⟩, ⟨q, n, d⟩)) (by simp) rfl)
      | (go_at_call 69; refine (l1In_v h3 _).mono ?_; rintro e w3 ⟨rfl, rfl⟩)
      | (go_at_call 70; refine (H40.out _ hS2.bel).mono ?_; rintro e w4 ⟨q4, n4, c4, rfl, hT4⟩))
    go_ret
    exact ⟨_, _, _, rfl, (hS2.sub (List.nil_sublist _)).lit kI [] 0 rfl (by decide) #[] rfl⟩
  cases h3 : decide (1 ≤ k ∧ k ≤ 60)
  · clear H40 hmk
    go_enter Tryz.func33, Tryz.ntmps33
    go_wp2_with (first
      | (go_at_call 20; refine (H23.out _ hS0.bel).mono ?_; rintro e w1 ⟨rfl, hb1⟩; have hS1 := hS0.step hb1; clear s0 s1 sf sg; obtain ⟨s0, s1, sf, sg⟩ := hS1.two (K := kS) (g := w.heap.size + 1) (c := 1) (p := ⟨sx, sy⟩) (by simp) rfl; obtain ⟨x0, x1, xf, xg⟩ := hS1.two (K := kT) (g := w.heap.size) (c := 1) (p := (⟨some ad, m, c⟩, ⟨q, n, d⟩)) (by simp) rfl)
      | (go_at_call 68; refine (l1Spot_v h2 _).mono ?_; rintro e w2 ⟨rfl, hb2⟩; have hS2 := hS1.step hb2; clear s0 s1 sf sg x0 x1 xf xg; obtain ⟨s0, s1, sf, sg⟩ := hS2.two (K := kS) (g := w.heap.size + 1) (c := 1) (p := ⟨sx, sy⟩) (by simp) rfl; obtain ⟨x0, x1, xf, xg⟩ := hS2.two (K := kT) (g := w.heap.size) (c := 1) (p := (⟨some ad, m, c⟩, ⟨q, n, d⟩)) (by simp) rfl)
      | (go_at_call 69; refine (l1In_v h3 _).mono ?_; rintro e w3 ⟨rfl, rfl⟩)
      | (go_at_call 70; refine (H40.out _ hS2.bel).mono ?_; rintro e w4 ⟨q4, n4, c4, rfl, hT4⟩))
    go_ret
    exact ⟨_, _, _, rfl, (hS2.sub (List.nil_sublist _)).lit kI [] 0 rfl (by decide) #[] rfl⟩
  · have hk := of_decide_eq_true h3
    have H40' := H40.out (hmk rfl) h2 hk.1 hk.2
    clear H40
    have H40 : Hid (∀ W, Below w.heap.size w W → Calls Tryz.prog 70 #[.slice (some ad) m c, .agg #[.int .i64 sx, .int .i64 sy], .int .i64 k] W fun e w' => ∃ q n c, e = .returned (.slice q n c) ∧ Sg W w' [rG kI (.slice q n c) (nrL L sx sy k)]) := H40'
    clear H40' hmk hk
    go_enter Tryz.func33, Tryz.ntmps33
    go_wp2_with (first
      | (go_at_call 20; refine (H23.out _ hS0.bel).mono ?_; rintro e w1 ⟨rfl, hb1⟩; have hS1 := hS0.step hb1; clear s0 s1 sf sg; obtain ⟨s0, s1, sf, sg⟩ := hS1.two (K := kS) (g := w.heap.size + 1) (c := 1) (p := ⟨sx, sy⟩) (by simp) rfl; obtain ⟨x0, x1, xf, xg⟩ := hS1.two (K := kT) (g := w.heap.size) (c := 1) (p := (⟨some ad, m, c⟩, ⟨q, n, d⟩)) (by simp) rfl)
      | (go_at_call 68; refine (l1Spot_v h2 _).mono ?_; rintro e w2 ⟨rfl, hb2⟩; have hS2 := hS1.step hb2; clear s0 s1 sf sg x0 x1 xf xg; obtain ⟨s0, s1, sf, sg⟩ := hS2.two (K := kS) (g := w.heap.size + 1) (c := 1) (p := ⟨sx, sy⟩) (by simp) rfl; obtain ⟨x0, x1, xf, xg⟩ := hS2.two (K := kT) (g := w.heap.size) (c := 1) (p := (⟨some ad, m, c⟩, ⟨q, n, d⟩)) (by simp) rfl)
      | (go_at_call 69; refine (l1In_v h3 _).mono ?_; rintro e w3 ⟨rfl, rfl⟩)
      | (go_at_call 70; refine (H40.out _ hS2.bel).mono ?_; rintro e w4 ⟨q4, n4, c4, rfl, hT4⟩))
    go_ret
    exact ⟨_, _, _, rfl, (hS2.addL hT4).sub (by simp)⟩
end Go.Proofs.YtipfcmfcdfofmaaGreat
namespace Go.Proofs.YtipfcmfcdfofmaaGreat
open Go.RowKit Go.Joins
attribute [local go_sem] Oper.semAt_some

theorem oneIs (L : List Int) : ∀ u ∈ kI.flat L, u.oneCell' = true := fun u hu => by
  unfold Kd.flat at hu
  obtain ⟨s, _, hs⟩ := List.mem_flatMap.mp hu
  simp [kI] at hs
  subst hs
  rfl
theorem slice_drop (go i co k : Nat) (hk : k ≤ i) (hc : i ≤ co) : ∃ (ad : Addr) (c' : Nat), (∀ W, (Instr.sliceAt 34 (.slice (some ⟨go, 0, none⟩) i co) (some (.int .i64 (k : Int))) none none).run Tryz.prog W = .ok (.slice (some ad) (i - k) c') W) ∧ (∀ W, (Instr.slice 34 (.slice (some ⟨go, 0, none⟩) i co) (some (.int .i64 (k : Int))) none none).run Tryz.prog W = .ok (.slice (some ad) (i - k) c') W) ∧
    ∀ (W : World) (M : List Int), M.length = i → CsG kI W go 0 M → ∀ j u, (kI.flat (M.drop k))[j]? = some u → W.cell? (ad.add j) = some u := by
  by_cases h : co = k
  · subst h
    have hi : i = co := by omega
    subst hi
    refine ⟨⟨go, 0, none⟩, 0, fun W => by simp [go_sem], fun W => by simp [go_sem], fun W M hM hC j u hj => ?_⟩
    rw [List.drop_eq_nil_of_le (by omega)] at hj
    simp [Kd.flat] at hj
  · have hki : (k : Int) ≤ i := by omega
    refine ⟨⟨go, k, none⟩, co - k, fun W => by simp [go_sem, hki, h], fun W => by simp [go_sem, hki, h], fun W M hM hC j u hj => ?_⟩
    have hh := cs_src (hC.drop k) j u hj
    rw [Nat.zero_add] at hh
    have e : k * kI.n = k := by show k * 1 = k; omega
    rw [e] at hh
    exact hh
theorem OwG.cut {W : World} {base g n c k : Nat} {L : List Int} (h : OwG kI W base (.slice (some ⟨g, 0, none⟩) n c) L) (hk : k ≤ n) : OwG kI W base (.slice (some ⟨g, 0, none⟩) k c) (L.take k) := by
  have hn := OwG.len h
  subst hn
  have hl : (L.take k).length = k := by rw [List.length_take]; omega
  have hkt : kI.n = 1 := rfl
  refine ⟨Kd.flat_len _, ?_⟩
  rcases h.2 with ⟨h1, _⟩ | ⟨g', cap, cur, h1, h2, h3, h4, h5, h6, h7⟩
  · cases h1
  · injection h1 with h8 h9 h10
    injection h8 with h8
    injection h8 with h8
    subst h8 h10
    refine .inr ⟨g, c, cur, by rw [hl], h2, h3, by rw [hl]; omega, h5, h6, ?_⟩
    rw [hl, Kd.flat_take, ← h7, List.take_take]
    congr 1
    rw [hkt]; omega
set_option maxHeartbeats 400000 in
theorem l1Min_v (a b : Int) (w : World) : Calls Tryz.prog 90 #[.int .i64 a, .int .i64 b] w fun e w' => e = .returned (.int .i64 (min a b)) ∧ w' = w := by
  by_cases h : a < b
  · go_enter Tryz.func90, Tryz.ntmps90
    go_wp2
    all_goals (go_ret; exact ⟨ret_i64 (by omega), rfl⟩)
  · go_enter Tryz.func90, Tryz.ntmps90
    go_wp2
    all_goals (go_ret; exact ⟨ret_i64 (by omega), rfl⟩)

set_option maxRecDepth 100000 in
set_option maxHeartbeats 8000000 in
theorem l8Near_any (p : Option Addr) (cap : Nat) (L : List Mk) (n : Nat) (hn : L.length = n) (sx sy kk : Int) (w : World) (hL : SlG kM w p L) (hb : n ≤ 1000) (hkk : 0 ≤ kk) :
    Calls Tryz.prog 70 #[.slice p n cap, .agg #[.int .i64 sx, .int .i64 sy], .int .i64 kk] w fun e w' => ∃ q n c, e = .returned (.slice q n c) ∧ Sg w w' [rG kI (.slice q n c) (nrL L sx sy kk)] := by
  have HN : Hid (L.length = n ∧ SlG kM w p L) := ⟨hn, hL⟩
  clear hn hL
  obtain ⟨gb, hgb⟩ : ∃ gb, w.heap.size = gb := ⟨_, rfl⟩
  have hB0 : Sg w (w.alloc (.cells #[.int .i64 sx, .int .i64 sy] 43)) [rG kS (.slice (some ⟨w.heap.size, 0, none⟩) 1 1) [⟨sx, sy⟩]] := (Sg.nil w).lit kS [⟨sx, sy⟩] 1 rfl (by decide) #[.int .i64 sx, .int .i64 sy] rfl
  obtain ⟨x0, x1, xf, xg⟩ := hB0.two (K := kS) (g := w.heap.size) (c := 1) (p := ⟨sx, sy⟩) (by simp) rfl
  have hHL := HN.out.2.step hB0.bel
  go_enter Tryz.func70, Tryz.ntmps70
  go_upto_region 1 with fail
  rw [hgb] at x0 x1 xf xg
  have HB : Hid (∃ rs, Sg w (w.alloc (.cells #[.int .i64 sx, .int .i64 sy] 43)) rs) := ⟨_, hB0⟩
  clear hB0 hgb
  generalize w.alloc (.cells #[.int .i64 sx, .int .i64 sy] 43) = W1 at x0 x1 xf xg hHL HB ⊢
  have HX : Hid (W1.cell? ⟨gb, 0, none⟩ = some (.int .i64 sx) ∧ W1.cell? ⟨gb, 1, none⟩ = some (.int .i64 sy) ∧ gb < W1.heap.size ∧ SlG kM W1 p L) := ⟨x0, x1, xg, hHL⟩
  clear x0 x1 xf xg hHL
  have hS0 := ((Sg.nil W1).lit kI [] 0 rfl (by decide) #[] rfl).lit kI [] 0 rfl (by decide) #[] rfl
  simp only [World.size_alloc] at hS0
  have hS0 := hS0.perm (List.Perm.swap ..)
  go_wp2
  go_loopw [7, 8, 9] (fun ov fv iv wr => ∃ (i go co gf cf : Nat), i ≤ n ∧ iv = .int .i64 i ∧ ov = .slice (some ⟨go, 0, none⟩) i co ∧ fv = .slice (some ⟨gf, 0, none⟩) i cf ∧ Sg W1 wr [rG kI (.slice (some ⟨go, 0, none⟩) i co) ((srtM (fN sx sy) (L.take i)).map Mk.i), rG kI (.slice (some ⟨gf, 0, none⟩) i cf) ((srtM (fN sx sy) (L.take i)).map (fN sx sy))]) (fun _ _ iv _ => n - (intOf iv).toNat)
  case atStart => exact ⟨0, _, _, _, _, by omega, rfl, rfl, rfl, hS0⟩
  case round =>
    clear hS0
    rename World => wo
    obtain ⟨i, go, co, gf, cf, hi, rfl, rfl, rfl, hS⟩ := hrel
    by_cases hlt : i < n
    · have hii : (i : Int) < n := by omega
      have hiL : i < L.length := by rw [HN.out.1]; exact hlt
      obtain ⟨g, off, rfl, hC⟩ := HX.out.2.2.2.at hiL
      have hgm := getM hiL
      have hst := srtM_take (f := fN sx sy) hiL
      obtain ⟨m, hm⟩ : ∃ m, L.getD i zmk = m := ⟨_, rfl⟩
      rw [hm] at hgm hst
      have hOl : (srtM (fN sx sy) (L.take i)).length = i := by rw [srtM_len]; simp; omega
      obtain ⟨O, hO⟩ : ∃ O, srtM (fN sx sy) (L.take i) = O := ⟨_, rfl⟩
      rw [hO] at hst hOl hS
      have HCC : Hid (CsG kM W1 g off L ∧ L[i]? = some m) := ⟨hC, hgm⟩
      obtain ⟨d, hd⟩ : ∃ d, fN sx sy m = d := ⟨_, rfl⟩
      obtain ⟨M1, hM1⟩ : ∃ M, O.map Mk.i = M := ⟨_, rfl⟩
      obtain ⟨M2, hM2⟩ : ∃ M, O.map (fN sx sy) = M := ⟨_, rfl⟩
      obtain ⟨N1, hN1⟩ : ∃ M, (insM (fN sx sy) m O).map Mk.i = M := ⟨_, rfl⟩
      obtain ⟨N2, hN2⟩ : ∃ M, (insM (fN sx sy) m O).map (fN sx sy) = M := ⟨_, rfl⟩
      rw [hM1, hM2] at hS
      have HML : Hid (M1.length = i ∧ M2.length = i) := ⟨by rw [← hM1, List.length_map, hOl], by rw [← hM2, List.length_map, hOl]⟩
      have HNN : Hid (N1 = (srtM (fN sx sy) (L.take (i + 1))).map Mk.i ∧ N2 = (srtM (fN sx sy) (L.take (i + 1))).map (fN sx sy)) := ⟨by rw [hst, hN1], by rw [hst, hN2]⟩
      have HNC : Hid (∀ k, k = headM (fN sx sy) m O → M1.take k ++ [m.i] ++ M1.drop k = N1 ∧ M2.take k ++ [d] ++ M2.drop k = N2) := fun k hk => by
        subst hk hM1 hM2 hN1 hN2 hd
        rw [insM_cut]
        simp [List.map_take, List.map_drop]
      have HO2 : Hid (O.length = i ∧ O.map (fN sx sy) = M2 ∧ fN sx sy m = d) := ⟨hOl, hM2, hd⟩
      have hAp : Hid (∀ W, Calls Tryz.prog 99 #[.agg #[.int .i64 m.x, .int .i64 m.y], .agg #[.int .i64 sx, .int .i64 sy]] W fun e w' => e = .returned (.int .i64 d) ∧ Below W.heap.size W w') := fun W => by
        have := sApart_any m.x m.y sx sy W
        rw [show apI m.x m.y sx sy = d from hd] at this
        exact this
      clear hC hgm hst hm hOl hO hM1 hM2 hN1 hN2 hd
      go_upto_region 6 with fail
      go_cut [10] from 16 to 76 (fun dv wx => dv = .int .i64 d ∧ Sg W1 wx [rG kI (.slice (some ⟨go, 0, none⟩) i co) M1, rG kI (.slice (some ⟨gf, 0, none⟩) i cf) M2])
      case first =>
        have b0 := hS.bel.drew
        have mc0 := (HCC.out.1.step b0).mk HCC.out.2
        have xx0 := (b0.cell (p := ⟨gb, 0, none⟩) HX.out.2.2.1).trans HX.out.1
        have xx1 := (b0.cell (p := ⟨gb, 1, none⟩) HX.out.2.2.1).trans HX.out.2.1
        clear b0
        obtain ⟨m0, m1, m2⟩ := mc0
        go_region_with (go_at_call 99; refine (hAp.out _).mono ?_; rintro e w5 ⟨rfl, hb5⟩)
        all_goals
          go_wp2
          go_meet
          exact ⟨rfl, (hS.step (Below.refl _ _).drew).step hb5⟩
      case rest =>
      clear hS
      obtain ⟨rfl, hS⟩ := hcut
      clear hAp
      rename World => wd
      have hcapo : i ≤ co := OwG.cap (hS.mem (K := kI) (v := .slice (some ⟨go, 0, none⟩) i co) (L := M1) (by simp))
      have hcapf : i ≤ cf := OwG.cap (hS.mem (K := kI) (v := .slice (some ⟨gf, 0, none⟩) i cf) (L := M2) (by simp))
      go_wp2
      go_loopw [11] (fun kv wr => ∃ k : Nat, k ≤ i ∧ kv = .int .i64 k ∧ Hid (∀ j, j < k → fN sx sy (O.getD j zmk) ≤ fN sx sy m) ∧ Sg W1 wr [rG kI (.slice (some ⟨go, 0, none⟩) i co) M1, rG kI (.slice (some ⟨gf, 0, none⟩) i cf) M2]) (fun kv _ => i - (intOf kv).toNat)
      case atStart => exact ⟨0, by omega, rfl, fun j hj => by omega, hS⟩
      case round =>
        clear hS
        rename World => wk
        obtain ⟨k, hk, rfl, hH, hSk⟩ := hrel
        by_cases hki' : k < i
        · have hki : (k : Int) < i := by omega
          obtain ⟨za, hza, hz2⟩ : ∃ za, wk.cell? ⟨gf, k, none⟩ = some (.int .i64 za) ∧ za = fN sx sy (O.getD k zmk) := by
            have hkO : k < O.length := by rw [HO2.out.1]; exact hki'
            have h2 : M2[k]? = some (fN sx sy (O.getD k zmk)) := by rw [← HO2.out.2.1, List.getElem?_map, getM hkO]; rfl
            have h3 := (OwG.cs (hSk.mem (K := kI) (v := .slice (some ⟨gf, 0, none⟩) i cf) (L := M2) (by simp))).int h2
            rw [Nat.zero_add] at h3
            exact ⟨_, h3, rfl⟩
          have HZ : Hid (za = fN sx sy (O.getD k zmk)) := hz2
          clear hz2
          by_cases hle : za ≤ d
          · go_wp2
            go_roundw
            case rel =>
              refine ⟨k + 1, by omega, by go_num, (fun j hj => ?_), hSk⟩
              rcases Nat.lt_or_ge j k with h | h
              · exact hH.out j h
              · obtain rfl : j = k := by omega
                rw [← HZ.out, HO2.out.2.2]; exact hle
            case measure => simp [intOf]; omega
          · have HN1 := HNC.out k (headM_is (by rw [HO2.out.1]; omega) hH.out (fun _ => by rw [← HZ.out, HO2.out.2.2]; exact hle))
            have HN1 : Hid (M1.take k ++ [m.i] ++ M1.drop k = N1 ∧ M2.take k ++ [d] ++ M2.drop k = N2) := HN1
            obtain ⟨ad1, cd1, hs1a, hs1, hsrc1⟩ := slice_drop go i co k (by omega) hcapo
            obtain ⟨ad2, cd2, hs2a, hs2, hsrc2⟩ := slice_drop gf i cf k (by omega) hcapf
            have hkco : k ≤ co := by omega
            have hkcf : k ≤ cf := by omega
            have hS1 : Sg W1 (wk.alloc (.cells #[] 2)) ([] ++ rG kI (.slice (some ⟨wk.heap.size, 0, none⟩) 0 0) [] :: [rG kI (.slice (some ⟨go, 0, none⟩) i co) M1, rG kI (.slice (some ⟨gf, 0, none⟩) i cf) M2]) := hSk.lit kI [] 0 rfl (by decide) #[] rfl
            have HSR : Hid (∀ j u, (kI.flat (M1.drop k))[j]? = some u → (wk.alloc (.cells #[] 2)).cell? (ad1.add j) = some u) := hsrc1 _ M1 HML.out.1 (OwG.cs (hS1.mem (K := kI) (v := .slice (some ⟨go, 0, none⟩) i co) (L := M1) (by simp)))
            have HD1 : Hid ((M1.drop k).length = i - k) := (show _ = i - k by rw [List.length_drop, HML.out.1])
            have HD2 : Hid ((M2.drop k).length = i - k) := (show _ = i - k by rw [List.length_drop, HML.out.2])
            have HT1 : Hid ((M1.take k).length = k) := (show _ = k by rw [List.length_take, HML.out.1]; omega)
            have HT2 : Hid ((M2.take k).length = k) := (show _ = k by rw [List.length_take, HML.out.2]; omega)
            have HS2 : Hid (∀ W rs, Sg W1 W rs → rG kI (.slice (some ⟨gf, 0, none⟩) i cf) M2 ∈ rs → ∀ j u, (kI.flat (M2.drop k))[j]? = some u → W.cell? (ad2.add j) = some u) := fun W rs h hm => hsrc2 _ M2 HML.out.2 (OwG.cs (h.mem (K := kI) hm))
            clear hSk hH hsrc1 hsrc2
            have e0 : True := trivial
            go_upto_region 12 with (first
              | (at_builtin; clear e0; refine wpList_sgapp0 appI rfl _ _ rfl (A := []) (B := M1.drop k) (m := i - k) hS1 (Below.refl _ _) HD1.out rfl ad1 cd1 rfl HSR.out (oneIs _) (.inr (by simp)) (by omega) ?_; intro gr cr w7 hS7 _ _; simp only [List.nil_append] at hS7; have hS7b : Sg W1 (w7.alloc (.cells #[] 2)) ([] ++ rG kI (.slice (some ⟨w7.heap.size, 0, none⟩) 0 0) [] :: [rG kI (.slice (some ⟨gr, 0, none⟩) (i - k) cr) (M1.drop k), rG kI (.slice (some ⟨go, 0, none⟩) i co) M1, rG kI (.slice (some ⟨gf, 0, none⟩) i cf) M2]) := hS7.lit kI [] 0 rfl (by decide) #[] rfl; have e1 : True := trivial)
              | (at_builtin; clear e1; refine wpList_sgapp0 appI rfl _ _ rfl (A := []) (B := M2.drop k) (m := i - k) hS7b (Below.refl _ _) HD2.out rfl ad2 cd2 rfl (HS2.out _ _ hS7b (by simp)) (oneIs _) (.inr (by simp)) (by omega) ?_; intro gs cs w8 hS8 _ _))
            simp only [List.nil_append] at hS8
            clear hS1 HSR hS7 hS7b
            have mc : ∀ W, Below W1.heap.size W1 W → (W.cell? ⟨g, off + i * 3, none⟩ = some (.int .i64 m.i) ∧ W.cell? ⟨g, off + i * 3 + 1, none⟩ = some (.int .i64 m.x) ∧ W.cell? ⟨g, off + i * 3 + 2, none⟩ = some (.int .i64 m.y)) := fun W h => (HCC.out.1.step h).mk HCC.out.2
            have b0 := hS8.bel
            have mc0 := mc _ b0.drew
            have mc1 := mc _ ((b0.alloc b0.size (.cells #[] 2)).drew)
            have hSa : Sg W1 (w8.alloc (.cells #[] 2)) ([] ++ rG kI (.slice (some ⟨w8.heap.size, 0, none⟩) 0 0) [] :: [rG kI (.slice (some ⟨gs, 0, none⟩) (i - k) cs) (M2.drop k), rG kI (.slice (some ⟨gr, 0, none⟩) (i - k) cr) (M1.drop k), rG kI (.slice (some ⟨go, 0, none⟩) i co) M1, rG kI (.slice (some ⟨gf, 0, none⟩) i cf) M2]) := hS8.lit kI [] 0 rfl (by decide) #[] rfl
            have hSb : Sg W1 ((w8.alloc (.cells #[] 2)).alloc (.cells #[.int .i64 m.i] 2)) ([rG kI (.slice (some ⟨w8.heap.size + 1, 0, none⟩) 1 1) [m.i]] ++ rG kI (.slice (some ⟨w8.heap.size, 0, none⟩) 0 0) [] :: [rG kI (.slice (some ⟨gs, 0, none⟩) (i - k) cs) (M2.drop k), rG kI (.slice (some ⟨gr, 0, none⟩) (i - k) cr) (M1.drop k), rG kI (.slice (some ⟨go, 0, none⟩) i co) M1, rG kI (.slice (some ⟨gf, 0, none⟩) i cf) M2]) := by
              have := Sg.lit hSa kI [m.i] 1 rfl (by decide) #[.int .i64 m.i] rfl
              rw [World.size_alloc] at this; exact this
            have hSc : Sg W1 ((w8.alloc (.cells #[.int .i64 m.i] 2)).alloc (.cells #[] 2)) ([] ++ rG kI (.slice (some ⟨w8.heap.size + 1, 0, none⟩) 0 0) [] :: [rG kI (.slice (some ⟨w8.heap.size, 0, none⟩) 1 1) [m.i], rG kI (.slice (some ⟨gs, 0, none⟩) (i - k) cs) (M2.drop k), rG kI (.slice (some ⟨gr, 0, none⟩) (i - k) cr) (M1.drop k), rG kI (.slice (some ⟨go, 0, none⟩) i co) M1, rG kI (.slice (some ⟨gf, 0, none⟩) i cf) M2]) := by
              have := Sg.lit (Sg.lit hS8 kI [m.i] 1 rfl (by decide) #[.int .i64 m.i] rfl) kI [] 0 rfl (by decide) #[] rfl
              rw [World.size_alloc] at this; exact this
            have HTK : Hid (∀ W rs, Sg W1 W rs → rG kI (.slice (some ⟨go, 0, none⟩) i co) M1 ∈ rs → ∀ j u, (kI.flat (M1.take k))[j]? = some u → W.cell? ((⟨go, 0, none⟩ : Addr).add j) = some u) := fun W rs h hm => cs_src ((OwG.cs (h.mem (K := kI) hm)).take k)
            have HTF : Hid (∀ W rs, Sg W1 W rs → rG kI (.slice (some ⟨gf, 0, none⟩) i cf) M2 ∈ rs → ∀ j u, (kI.flat (M2.take k))[j]? = some u → W.cell? ((⟨gf, 0, none⟩ : Addr).add j) = some u) := fun W rs h hm => cs_src ((OwG.cs (h.mem (K := kI) hm)).take k)
            have HRS : Hid (∀ W rs, Sg W1 W rs → rG kI (.slice (some ⟨gr, 0, none⟩) (i - k) cr) (M1.drop k) ∈ rs → ∀ j u, (kI.flat (M1.drop k))[j]? = some u → W.cell? ((⟨gr, 0, none⟩ : Addr).add j) = some u) := fun W rs h hm => cs_src (OwG.cs (h.mem (K := kI) hm))
            have HRF : Hid (∀ W rs, Sg W1 W rs → rG kI (.slice (some ⟨gs, 0, none⟩) (i - k) cs) (M2.drop k) ∈ rs → ∀ j u, (kI.flat (M2.drop k))[j]? = some u → W.cell? ((⟨gs, 0, none⟩ : Addr).add j) = some u) := fun W rs h hm => cs_src (OwG.cs (h.mem (K := kI) hm))
            have f1 : True := trivial
            go_cut [7] from 16 to 76 (fun ov wx => ∃ g3 c3, ov = .slice (some ⟨g3, 0, none⟩) (i + 1) c3 ∧ Sg W1 wx [rG kI (.slice (some ⟨g3, 0, none⟩) (i + 1) c3) N1, rG kI (.slice (some ⟨gs, 0, none⟩) (i - k) cs) (M2.drop k), rG kI (.slice (some ⟨gf, 0, none⟩) i cf) M2])
            case first =>
              clear hs1a hs1 hs2a hs2
              go_region_law (first
                | (clear f1; refine step_sgapp0 appI (by rfl) _ _ (by rfl) (A := []) (B := M1.take k) (m := k) hSa ((Below.refl _ _).drew) HT1.out (by rfl) ⟨go, 0, none⟩ co (by rfl) (HTK.out _ _ (hSa.step (Below.refl _ _).drew) (by simp)) (oneIs _) (.inr (by simp)) (by omega) ?_; intro g1 c1 w4 hS4 _ _; have f2 : True := trivial; have mc2 := mc _ hS4.bel)
                | (clear f1; refine step_sgapp0 appI (by rfl) _ _ (by rfl) (A := [_]) (B := M1.take k) (m := k) hSb ((Below.refl _ _).drew) HT1.out (by rfl) ⟨go, 0, none⟩ co (by rfl) (HTK.out _ _ (hSb.step (Below.refl _ _).drew) (by simp)) (oneIs _) (.inr (by simp)) (by omega) ?_; intro g1 c1 w4 hS4 _ _; have f3 : True := trivial; have mc2 := mc _ hS4.bel)
                | (clear f1; refine step_sgapp0 appI (by rfl) _ _ (by rfl) (A := []) (B := M1.take k) (m := k) hSc ((Below.refl _ _).drew) HT1.out (by rfl) ⟨go, 0, none⟩ co (by rfl) (HTK.out _ _ (hSc.step (Below.refl _ _).drew) (by simp)) (oneIs _) (.inr (by simp)) (by omega) ?_; intro g1 c1 w4 hS4 _ _; have f4 : True := trivial; have mc2 := mc _ hS4.bel)
                | (clear f2; refine step_sgapp appI (by rfl) _ _ (by rfl) (A := []) (B := [m.i]) (n := k) (m := 1) hS4 (below_alloc1 _ _) HT1.out rfl (by rfl) ⟨w4.heap.size, 0, none⟩ 1 (by rfl) (lit_src (xs := [.int .i64 m.i]) rfl) (oneI _) (.inl (by decide)) (by omega) ?_; intro g2 c2 w5 hS5 _ _; have f5 : True := trivial)
                | (clear f3; refine step_sgapp appI (by rfl) _ _ (by rfl) (A := [_]) (B := [m.i]) (n := k) (m := 1) hS4 (Below.refl _ _) HT1.out rfl (by rfl) ⟨w8.heap.size + 1, 0, none⟩ 1 (by rfl) (cs_src (OwG.cs (hS4.mem (K := kI) (v := .slice (some ⟨w8.heap.size + 1, 0, none⟩) 1 1) (L := [m.i]) (by simp)))) (oneI _) (.inl (by decide)) (by omega) ?_; intro g2 c2 w5 hS5 _ _; have f5 : True := trivial)
                | (clear f4; refine step_sgapp appI (by rfl) _ _ (by rfl) (A := []) (B := [m.i]) (n := k) (m := 1) hS4 (Below.refl _ _) HT1.out rfl (by rfl) ⟨w8.heap.size, 0, none⟩ 1 (by rfl) (cs_src (OwG.cs (hS4.mem (K := kI) (v := .slice (some ⟨w8.heap.size, 0, none⟩) 1 1) (L := [m.i]) (by simp)))) (oneI _) (.inl (by decide)) (by omega) ?_; intro g2 c2 w5 hS5 _ _; have f5 : True := trivial)
                | (clear f5; refine step_sgapp appI (by rfl) _ _ (by rfl) (A := []) (B := M1.drop k) (n := k + 1) (m := i - k) hS5 (Below.refl _ _) (by rw [List.length_append, HT1.out]; rfl) HD1.out (by rfl) ⟨gr, 0, none⟩ cr (by rfl) (HRS.out _ _ hS5 (by simp)) (oneIs _) (.inr (by simp)) (by omega) ?_; intro g3 c3 w6 hS6 _ _)
                | (clear f5; refine step_sgapp appI (by rfl) _ _ (by rfl) (A := [_]) (B := M1.drop k) (n := k + 1) (m := i - k) hS5 (Below.refl _ _) (by rw [List.length_append, HT1.out]; rfl) HD1.out (by rfl) ⟨gr, 0, none⟩ cr (by rfl) (HRS.out _ _ hS5 (by simp)) (oneIs _) (.inr (by simp)) (by omega) ?_; intro g3 c3 w6 hS6 _ _))
              all_goals
                simp only [List.getElem_toArray, List.getElem_cons_succ, List.getElem_cons_zero, Act.put, List.setIfInBounds_toArray, List.set_cons_succ, List.set_cons_zero]
                go_wp2
                have hlen : k + 1 + (i - k) = i + 1 := by omega
                rw [HN1.out.1, hlen] at hS6
                go_meet
                exact ⟨g3, c3, by rw [← hlen], hS6.sub (by simp)⟩
            case rest =>
              obtain ⟨g3, c3, rfl, hS9⟩ := hcut
              clear hSa hSb hSc mc mc0 mc1 b0 hS8 hs1a hs1 hs2a hs2 HTK HRS f1
              have hSd : Sg W1 (wc.alloc (.cells #[] 2)) ([] ++ rG kI (.slice (some ⟨wc.heap.size, 0, none⟩) 0 0) [] :: [rG kI (.slice (some ⟨g3, 0, none⟩) (i + 1) c3) N1, rG kI (.slice (some ⟨gs, 0, none⟩) (i - k) cs) (M2.drop k), rG kI (.slice (some ⟨gf, 0, none⟩) i cf) M2]) := hS9.lit kI [] 0 rfl (by decide) #[] rfl
              have f1 : True := trivial
              go_wp2_with (first
                | (at_builtin; clear f1; refine wpList_sgapp0 appI rfl _ _ rfl (A := []) (B := M2.take k) (m := k) hSd (Below.refl _ _) HT2.out rfl ⟨gf, 0, none⟩ cf rfl (HTF.out _ _ hSd (by simp)) (oneIs _) (.inr (by simp)) (by omega) ?_; intro g4 c4 w10 hS10 _ _; have f2 : True := trivial)
                | (at_builtin; clear f2; refine wpList_sgapp appI rfl _ _ rfl (A := []) (B := [d]) (n := k) (m := 1) hS10 (below_alloc1 _ _) HT2.out rfl rfl ⟨w10.heap.size, 0, none⟩ 1 rfl (lit_src (xs := [.int .i64 d]) rfl) (oneI _) (.inl (by decide)) (by omega) ?_; intro g5 c5 w11 hS11 _ _; have f3 : True := trivial)
                | (at_builtin; clear f3; refine wpList_sgapp appI rfl _ _ rfl (A := []) (B := M2.drop k) (n := k + 1) (m := i - k) hS11 (Below.refl _ _) (by rw [List.length_append, HT2.out]; rfl) HD2.out rfl ⟨gs, 0, none⟩ cs rfl (HRF.out _ _ hS11 (by simp)) (oneIs _) (.inr (by simp)) (by omega) ?_; intro g6 c6 w12 hS12 _ _))
              have hlen : k + 1 + (i - k) = i + 1 := by omega
              rw [HN1.out.2, hlen] at hS12
              go_roundw
              case rel => exact ⟨i + 1, g3, c3, g6, c6, by omega, by go_num, rfl, by rw [← hlen], by
                rw [← HNN.out.1, ← HNN.out.2]
                have h := (hS12.sub (rs' := [rG kI (.slice (some ⟨g6, 0, none⟩) (i + 1) c6) N2, rG kI (.slice (some ⟨g3, 0, none⟩) (i + 1) c3) N1]) (by simp))
                exact h.perm (List.Perm.swap ..)⟩
              case measure => simp [intOf]; omega
        · have hki : ¬ (k : Int) < i := by omega
          have HN1 := HNC.out k (headM_is (by rw [HO2.out.1]; omega) hH.out (fun h => by rw [HO2.out.1] at h; omega))
          have HN1 : Hid (M1.take k ++ [m.i] ++ M1.drop k = N1 ∧ M2.take k ++ [d] ++ M2.drop k = N2) := HN1
          obtain ⟨ad1, cd1, hs1a, hs1, hsrc1⟩ := slice_drop go i co k (by omega) hcapo
          obtain ⟨ad2, cd2, hs2a, hs2, hsrc2⟩ := slice_drop gf i cf k (by omega) hcapf
          have hkco : k ≤ co := by omega
          have hkcf : k ≤ cf := by omega
          have hS1 : Sg W1 (wk.alloc (.cells #[] 2)) ([] ++ rG kI (.slice (some ⟨wk.heap.size, 0, none⟩) 0 0) [] :: [rG kI (.slice (some ⟨go, 0, none⟩) i co) M1, rG kI (.slice (some ⟨gf, 0, none⟩) i cf) M2]) := hSk.lit kI [] 0 rfl (by decide) #[] rfl
          have HSR : Hid (∀ j u, (kI.flat (M1.drop k))[j]? = some u → (wk.alloc (.cells #[] 2)).cell? (ad1.add j) = some u) := hsrc1 _ M1 HML.out.1 (OwG.cs (hS1.mem (K := kI) (v := .slice (some ⟨go, 0, none⟩) i co) (L := M1) (by simp)))
          have HD1 : Hid ((M1.drop k).length = i - k) := (show _ = i - k by rw [List.length_drop, HML.out.1])
          have HD2 : Hid ((M2.drop k).length = i - k) := (show _ = i - k by rw [List.length_drop, HML.out.2])
          have HT1 : Hid ((M1.take k).length = k) := (show _ = k by rw [List.length_take, HML.out.1]; omega)
          have HT2 : Hid ((M2.take k).length = k) := (show _ = k by rw [List.length_take, HML.out.2]; omega)
          have HS2 : Hid (∀ W rs, Sg W1 W rs → rG kI (.slice (some ⟨gf, 0, none⟩) i cf) M2 ∈ rs → ∀ j u, (kI.flat (M2.drop k))[j]? = some u → W.cell? (ad2.add j) = some u) := fun W rs h hm => hsrc2 _ M2 HML.out.2 (OwG.cs (h.mem (K := kI) hm))
          clear hSk hH hsrc1 hsrc2
          have e0 : True := trivial
          go_upto_region 12 with (first
            | (at_builtin; clear e0; refine wpList_sgapp0 appI rfl _ _ rfl (A := []) (B := M1.drop k) (m := i - k) hS1 (Below.refl _ _) HD1.out rfl ad1 cd1 rfl HSR.out (oneIs _) (.inr (by simp)) (by omega) ?_; intro gr cr w7 hS7 _ _; simp only [List.nil_append] at hS7; have hS7b : Sg W1 (w7.alloc (.cells #[] 2)) ([] ++ rG kI (.slice (some ⟨w7.heap.size, 0, none⟩) 0 0) [] :: [rG kI (.slice (some ⟨gr, 0, none⟩) (i - k) cr) (M1.drop k), rG kI (.slice (some ⟨go, 0, none⟩) i co) M1, rG kI (.slice (some ⟨gf, 0, none⟩) i cf) M2]) := hS7.lit kI [] 0 rfl (by decide) #[] rfl; have e1 : True := trivial)
            | (at_builtin; clear e1; refine wpList_sgapp0 appI rfl _ _ rfl (A := []) (B := M2.drop k) (m := i - k) hS7b (Below.refl _ _) HD2.out rfl ad2 cd2 rfl (HS2.out _ _ hS7b (by simp)) (oneIs _) (.inr (by simp)) (by omega) ?_; intro gs cs w8 hS8 _ _))
          simp only [List.nil_append] at hS8
          clear hS1 HSR hS7 hS7b
          have mc : ∀ W, Below W1.heap.size W1 W → (W.cell? ⟨g, off + i * 3, none⟩ = some (.int .i64 m.i) ∧ W.cell? ⟨g, off + i * 3 + 1, none⟩ = some (.int .i64 m.x) ∧ W.cell? ⟨g, off + i * 3 + 2, none⟩ = some (.int .i64 m.y)) := fun W h => (HCC.out.1.step h).mk HCC.out.2
          have b0 := hS8.bel
          have mc0 := mc _ b0.drew
          have mc1 := mc _ ((b0.alloc b0.size (.cells #[] 2)).drew)
          have hSa : Sg W1 (w8.alloc (.cells #[] 2)) ([] ++ rG kI (.slice (some ⟨w8.heap.size, 0, none⟩) 0 0) [] :: [rG kI (.slice (some ⟨gs, 0, none⟩) (i - k) cs) (M2.drop k), rG kI (.slice (some ⟨gr, 0, none⟩) (i - k) cr) (M1.drop k), rG kI (.slice (some ⟨go, 0, none⟩) i co) M1, rG kI (.slice (some ⟨gf, 0, none⟩) i cf) M2]) := hS8.lit kI [] 0 rfl (by decide) #[] rfl
          have hSb : Sg W1 ((w8.alloc (.cells #[] 2)).alloc (.cells #[.int .i64 m.i] 2)) ([rG kI (.slice (some ⟨w8.heap.size + 1, 0, none⟩) 1 1) [m.i]] ++ rG kI (.slice (some ⟨w8.heap.size, 0, none⟩) 0 0) [] :: [rG kI (.slice (some ⟨gs, 0, none⟩) (i - k) cs) (M2.drop k), rG kI (.slice (some ⟨gr, 0, none⟩) (i - k) cr) (M1.drop k), rG kI (.slice (some ⟨go, 0, none⟩) i co) M1, rG kI (.slice (some ⟨gf, 0, none⟩) i cf) M2]) := by
            have := Sg.lit hSa kI [m.i] 1 rfl (by decide) #[.int .i64 m.i] rfl
            rw [World.size_alloc] at this; exact this
          have hSc : Sg W1 ((w8.alloc (.cells #[.int .i64 m.i] 2)).alloc (.cells #[] 2)) ([] ++ rG kI (.slice (some ⟨w8.heap.size + 1, 0, none⟩) 0 0) [] :: [rG kI (.slice (some ⟨w8.heap.size, 0, none⟩) 1 1) [m.i], rG kI (.slice (some ⟨gs, 0, none⟩) (i - k) cs) (M2.drop k), rG kI (.slice (some ⟨gr, 0, none⟩) (i - k) cr) (M1.drop k), rG kI (.slice (some ⟨go, 0, none⟩) i co) M1, rG kI (.slice (some ⟨gf, 0, none⟩) i cf) M2]) := by
            have := Sg.lit (Sg.lit hS8 kI [m.i] 1 rfl (by decide) #[.int .i64 m.i] rfl) kI [] 0 rfl (by decide) #[] rfl
            rw [World.size_alloc] at this; exact this
          have HTK : Hid (∀ W rs, Sg W1 W rs → rG kI (.slice (some ⟨go, 0, none⟩) i co) M1 ∈ rs → ∀ j u, (kI.flat (M1.take k))[j]? = some u → W.cell? ((⟨go, 0, none⟩ : Addr).add j) = some u) := fun W rs h hm => cs_src ((OwG.cs (h.mem (K := kI) hm)).take k)
          have HTF : Hid (∀ W rs, Sg W1 W rs → rG kI (.slice (some ⟨gf, 0, none⟩) i cf) M2 ∈ rs → ∀ j u, (kI.flat (M2.take k))[j]? = some u → W.cell? ((⟨gf, 0, none⟩ : Addr).add j) = some u) := fun W rs h hm => cs_src ((OwG.cs (h.mem (K := kI) hm)).take k)
          have HRS : Hid (∀ W rs, Sg W1 W rs → rG kI (.slice (some ⟨gr, 0, none⟩) (i - k) cr) (M1.drop k) ∈ rs → ∀ j u, (kI.flat (M1.drop k))[j]? = some u → W.cell? ((⟨gr, 0, none⟩ : Addr).add j) = some u) := fun W rs h hm => cs_src (OwG.cs (h.mem (K := kI) hm))
          have HRF : Hid (∀ W rs, Sg W1 W rs → rG kI (.slice (some ⟨gs, 0, none⟩) (i - k) cs) (M2.drop k) ∈ rs → ∀ j u, (kI.flat (M2.drop k))[j]? = some u → W.cell? ((⟨gs, 0, none⟩ : Addr).add j) = some u) := fun W rs h hm => cs_src (OwG.cs (h.mem (K := kI) hm))
          have f1 : True := trivial
          go_cut [7] from 16 to 76 (fun ov wx => ∃ g3 c3, ov = .slice (some ⟨g3, 0, none⟩) (i + 1) c3 ∧ Sg W1 wx [rG kI (.slice (some ⟨g3, 0, none⟩) (i + 1) c3) N1, rG kI (.slice (some ⟨gs, 0, none⟩) (i - k) cs) (M2.drop k), rG kI (.slice (some ⟨gf, 0, none⟩) i cf) M2])
          case first =>
            clear hs1a hs1 hs2a hs2
            go_region_law (first
              | (clear f1; refine step_sgapp0 appI (by rfl) _ _ (by rfl) (A := []) (B := M1.take k) (m := k) hSa ((Below.refl _ _).drew) HT1.out (by rfl) ⟨go, 0, none⟩ co (by rfl) (HTK.out _ _ (hSa.step (Below.refl _ _).drew) (by simp)) (oneIs _) (.inr (by simp)) (by omega) ?_; intro g1 c1 w4 hS4 _ _; have f2 : True := trivial; have mc2 := mc _ hS4.bel)
              | (clear f1; refine step_sgapp0 appI (by rfl) _ _ (by rfl) (A := [_]) (B := M1.take k) (m := k) hSb ((Below.refl _ _).drew) HT1.out (by rfl) ⟨go, 0, none⟩ co (by rfl) (HTK.out _ _ (hSb.step (Below.refl _ _).drew) (by simp)) (oneIs _) (.inr (by simp)) (by omega) ?_; intro g1 c1 w4 hS4 _ _; have f3 : True := trivial; have mc2 := mc _ hS4.bel)
              | (clear f1; refine step_sgapp0 appI (by rfl) _ _ (by rfl) (A := []) (B := M1.take k) (m := k) hSc ((Below.refl _ _).drew) HT1.out (by rfl) ⟨go, 0, none⟩ co (by rfl) (HTK.out _ _ (hSc.step (Below.refl _ _).drew) (by simp)) (oneIs _) (.inr (by simp)) (by omega) ?_; intro g1 c1 w4 hS4 _ _; have f4 : True := trivial; have mc2 := mc _ hS4.bel)
              | (clear f2; refine step_sgapp appI (by rfl) _ _ (by rfl) (A := []) (B := [m.i]) (n := k) (m := 1) hS4 (below_alloc1 _ _) HT1.out rfl (by rfl) ⟨w4.heap.size, 0, none⟩ 1 (by rfl) (lit_src (xs := [.int .i64 m.i]) rfl) (oneI _) (.inl (by decide)) (by omega) ?_; intro g2 c2 w5 hS5 _ _; have f5 : True := trivial)
              | (clear f3; refine step_sgapp appI (by rfl) _ _ (by rfl) (A := [_]) (B := [m.i]) (n := k) (m := 1) hS4 (Below.refl _ _) HT1.out rfl (by rfl) ⟨w8.heap.size + 1, 0, none⟩ 1 (by rfl) (cs_src (OwG.cs (hS4.mem (K := kI) (v := .slice (some ⟨w8.heap.size + 1, 0, none⟩) 1 1) (L := [m.i]) (by simp)))) (oneI _) (.inl (by decide)) (by omega) ?_; intro g2 c2 w5 hS5 _ _; have f5 : True := trivial)
              | (clear f4; refine step_sgapp appI (by rfl) _ _ (by rfl) (A := []) (B := [m.i]) (n := k) (m := 1) hS4 (Below.refl _ _) HT1.out rfl (by rfl) ⟨w8.heap.size, 0, none⟩ 1 (by rfl) (cs_src (OwG.cs (hS4.mem (K := kI) (v := .slice (some ⟨w8.heap.size, 0, none⟩) 1 1) (L := [m.i]) (by simp)))) (oneI _) (.inl (by decide)) (by omega) ?_; intro g2 c2 w5 hS5 _ _; have f5 : True := trivial)
              | (clear f5; refine step_sgapp appI (by rfl) _ _ (by rfl) (A := []) (B := M1.drop k) (n := k + 1) (m := i - k) hS5 (Below.refl _ _) (by rw [List.length_append, HT1.out]; rfl) HD1.out (by rfl) ⟨gr, 0, none⟩ cr (by rfl) (HRS.out _ _ hS5 (by simp)) (oneIs _) (.inr (by simp)) (by omega) ?_; intro g3 c3 w6 hS6 _ _)
              | (clear f5; refine step_sgapp appI (by rfl) _ _ (by rfl) (A := [_]) (B := M1.drop k) (n := k + 1) (m := i - k) hS5 (Below.refl _ _) (by rw [List.length_append, HT1.out]; rfl) HD1.out (by rfl) ⟨gr, 0, none⟩ cr (by rfl) (HRS.out _ _ hS5 (by simp)) (oneIs _) (.inr (by simp)) (by omega) ?_; intro g3 c3 w6 hS6 _ _))
            all_goals
              simp only [List.getElem_toArray, List.getElem_cons_succ, List.getElem_cons_zero, Act.put, List.setIfInBounds_toArray, List.set_cons_succ, List.set_cons_zero]
              go_wp2
              have hlen : k + 1 + (i - k) = i + 1 := by omega
              rw [HN1.out.1, hlen] at hS6
              go_meet
              exact ⟨g3, c3, by rw [← hlen], hS6.sub (by simp)⟩
          case rest =>
            obtain ⟨g3, c3, rfl, hS9⟩ := hcut
            clear hSa hSb hSc mc mc0 mc1 b0 hS8 hs1a hs1 hs2a hs2 HTK HRS f1
            have hSd : Sg W1 (wc.alloc (.cells #[] 2)) ([] ++ rG kI (.slice (some ⟨wc.heap.size, 0, none⟩) 0 0) [] :: [rG kI (.slice (some ⟨g3, 0, none⟩) (i + 1) c3) N1, rG kI (.slice (some ⟨gs, 0, none⟩) (i - k) cs) (M2.drop k), rG kI (.slice (some ⟨gf, 0, none⟩) i cf) M2]) := hS9.lit kI [] 0 rfl (by decide) #[] rfl
            have f1 : True := trivial
            go_wp2_with (first
              | (at_builtin; clear f1; refine wpList_sgapp0 appI rfl _ _ rfl (A := []) (B := M2.take k) (m := k) hSd (Below.refl _ _) HT2.out rfl ⟨gf, 0, none⟩ cf rfl (HTF.out _ _ hSd (by simp)) (oneIs _) (.inr (by simp)) (by omega) ?_; intro g4 c4 w10 hS10 _ _; have f2 : True := trivial)
              | (at_builtin; clear f2; refine wpList_sgapp appI rfl _ _ rfl (A := []) (B := [d]) (n := k) (m := 1) hS10 (below_alloc1 _ _) HT2.out rfl rfl ⟨w10.heap.size, 0, none⟩ 1 rfl (lit_src (xs := [.int .i64 d]) rfl) (oneI _) (.inl (by decide)) (by omega) ?_; intro g5 c5 w11 hS11 _ _; have f3 : True := trivial)
              | (at_builtin; clear f3; refine wpList_sgapp appI rfl _ _ rfl (A := []) (B := M2.drop k) (n := k + 1) (m := i - k) hS11 (Below.refl _ _) (by rw [List.length_append, HT2.out]; rfl) HD2.out rfl ⟨gs, 0, none⟩ cs rfl (HRF.out _ _ hS11 (by simp)) (oneIs _) (.inr (by simp)) (by omega) ?_; intro g6 c6 w12 hS12 _ _))
            have hlen : k + 1 + (i - k) = i + 1 := by omega
            rw [HN1.out.2, hlen] at hS12
            go_roundw
            case rel => exact ⟨i + 1, g3, c3, g6, c6, by omega, by go_num, rfl, by rw [← hlen], by
              rw [← HNN.out.1, ← HNN.out.2]
              have h := (hS12.sub (rs' := [rG kI (.slice (some ⟨g6, 0, none⟩) (i + 1) c6) N2, rG kI (.slice (some ⟨g3, 0, none⟩) (i + 1) c3) N1]) (by simp))
              exact h.perm (List.Perm.swap ..)⟩
            case measure => simp [intOf]; omega
    · obtain rfl : i = n := by omega
      rw [List.take_of_length_le (by rw [HN.out.1]; exact Nat.le_refl _)] at hS
      have hcap : i ≤ co := OwG.cap (hS.mem (K := kI) (v := .slice (some ⟨go, 0, none⟩) i co) (L := (srtM (fN sx sy) L).map Mk.i) (by simp))
      obtain ⟨j, hj⟩ : ∃ j : Nat, min kk (i : Int) = j := ⟨(min kk (i : Int)).toNat, by omega⟩
      have hji : j ≤ i := by omega
      have hmn : 0 ≤ (j : Int) ∧ (j : Int) ≤ (co : Int) := by omega
      have htk : ((srtM (fN sx sy) L).map Mk.i).take j = nrL L sx sy kk := by
        unfold nrL
        rw [← List.map_take]
        congr 1
        have hsl : (srtM (fN sx sy) L).length = i := by rw [srtM_len]; exact HN.out.1
        by_cases hkm : kk.toNat ≤ i
        · rw [show j = kk.toNat by omega]
        · rw [List.take_of_length_le (by omega), List.take_of_length_le (by omega)]
      have HF : Hid (∀ W, Below wo.heap.size wo W → Sg w W [rG kI (.slice (some ⟨go, 0, none⟩) j co) (nrL L sx sy kk)]) := fun W hb => by
        obtain ⟨rs, hB⟩ := HB.out
        have h1 := hS.step hb
        have ho := OwG.cut (h1.mem (K := kI) (v := .slice (some ⟨go, 0, none⟩) i co) (L := (srtM (fN sx sy) L).map Mk.i) (by simp)) hji
        rw [htk] at ho
        have h2 : Sg W1 W [rG kI (.slice (some ⟨go, 0, none⟩) j co) (nrL L sx sy kk)] := ⟨h1.bel, fun r hr => by simp at hr; subst hr; exact ho, by simp⟩
        exact (hB.addL h2).sub (by simp)
      clear htk
      go_wp2_with (go_at_call 90; refine (l1Min_v _ _ _).mono ?_; rintro e w5 ⟨rfl, hw5⟩; obtain rfl := hw5.symm)
      go_ret
      exact ⟨_, _, _, rfl, HF.out _ (Below.refl _ _)⟩
end Go.Proofs.YtipfcmfcdfofmaaGreat
namespace Go.Proofs.YtipfcmfcdfofmaaGreat
open Go.RowKit Go.Joins

theorem sNearTo_any (ad : Addr) (q : Option Addr) (m n c d : Nat) (L : List Mk) (NL : List (Nd × Sv)) (hm : L.length = m) (hn : NL.length = n) (hmb : m ≤ 10000000) (hnb : n ≤ 10000000) (hps : ∀ x ∈ NL, x.1.ps.length ≤ 10000000) (sx sy k : Int) (w : World) (hL : SlG kM w (some ad) L) (hN : RdN w q NL) :
    Calls Tryz.prog 33 #[.agg #[.slice (some ad) m c, .slice q n d], .agg #[.int .i64 sx, .int .i64 sy], .int .i64 k] w fun e w' => ∃ q n c, e = .returned (.slice q n c) ∧ Sg w w' [rG kI (.slice q n c) (if nrB L (NL.map Prod.fst) sx sy k = true then nrL L sx sy k else [])] :=
  sNearTo_of ad q m n c d L NL hm hn hmb hnb hps sx sy k w hL hN fun hmk _ hk1 _ W hb => by
    have h60 : m ≤ 60 := by simp [mksB] at hmk; omega
    exact l8Near_any (some ad) c L m hm sx sy k W (hL.step hb) (by omega) (by omega)
end Go.Proofs.YtipfcmfcdfofmaaGreat
