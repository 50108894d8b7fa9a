/-
  The law of ShardOk walked.
-/
import Derived.Test.YtecmalfhabcfbaaGreatKY6
import Derived.Test.YtecmalfhabcfbaaGreatKY4
import Derived.Test.YtecmalfhabcfbaaGreatKB6
namespace Go.Proofs.YtecmalfhabcfbaaGreat.K.Y
open Go.Shelf Go.RowKit Go.Joins
attribute [local go_sem] Oper.semAt_some

theorem Sg.dr {w W : World} {rs : List Rw} (h : Sg w W rs) : Sg w W.drew rs := h.step (Below.refl _ _).drew
theorem bx5 {w W : World} {v0 v1 v2 v3 v4 : Value} {ty : TypeId} (h : Below (w.alloc (.cells #[v0, v1, v2, v3, v4] ty)).heap.size (w.alloc (.cells #[v0, v1, v2, v3, v4] ty)) W) : W.cell? ⟨w.heap.size, 0, none⟩ = some v0 ∧ W.cell? ⟨w.heap.size, 1, none⟩ = some v1 ∧ W.cell? ⟨w.heap.size, 2, none⟩ = some v2 ∧ W.cell? ⟨w.heap.size, 3, none⟩ = some v3 ∧ W.cell? ⟨w.heap.size, 4, none⟩ = some v4 := by
  have := (((St.nil w).push [v0, v1, v2, v3, v4] ty).step h).has
  simp [Has, HasAt] at this
  simp [this]
theorem ssz_parts {h : Hv} {R : List Rc} {QL : List YQ} {O : List Int} {w : World} (H : RdLS w h R QL O) (hz : ssz h R QL ≤ 1048576) : h.r.n ≤ 1048576 ∧ h.y.n ≤ 1048576 ∧ h.o.n ≤ 1048576 ∧ h.g.size ≤ 1048576 ∧ ∀ q ∈ QL, q.2.n ≤ 1048576 := by
  unfold ssz at hz
  have h1 : h.r.n ≤ rsz R := by unfold rsz; rw [H.rn]; omega
  have h2 : h.y.n ≤ ysz QL := by unfold ysz; rw [H.yn]; omega
  refine ⟨by omega, by omega, by omega, by omega, fun q hq => ?_⟩
  have := ysz_mem hq
  rw [(H.y.2 q hq).2] at this
  omega
set_option maxRecDepth 100000 in
set_option maxHeartbeats 4000000 in
theorem exactShardOk (h : Hv) (R : List Rc) (QL : List YQ) (O : List Int) (w : World) (H : RdLS w h R QL O) (hs : SmS h R QL) :
    Calls Tryz.prog 3 #[h.v] w fun e w' => e = .returned (.bool true) ∧ Below w.heap.size w w' := by
  by_cases hz : ssz h R QL ≤ 1048576
  · obtain ⟨p1, p2, p3, p4, p5⟩ := ssz_parts H hz
    obtain ⟨v, hv⟩ : ∃ v, (1048576 : Int) - (ssz h R QL : Int) = v := ⟨_, rfl⟩
    have hv0 : ¬ v < 0 := by omega
    have HZ := Lib.hid (fun W (hb : Below w.heap.size w W) => szShard_v (h := h) (R := R) (QL := QL) (O := O) (v := v) (by rw [if_neg (by omega)]; exact hv) W (H.step hb) hs)
    have HT := Lib.hid (fun W (hb : Below w.heap.size w W) => toShard_any h R QL O W (H.step hb) p1 p2 p3 p5)
    obtain ⟨b, hbb⟩ : ∃ b, shB R (yds QL) O h.g.size h.s = b := ⟨_, rfl⟩
    have hoi := H.oi
    obtain ⟨⟨rp, rn, rc⟩, ⟨yp, yn, yc⟩, ⟨op, on, oc⟩, g, s⟩ := h
    simp only at HZ HT hbb p1 p2 p3 p4 p5
    have HRd : Hid (∀ (X W : World) (rs : List Rw) (g1 g2 g3 : Nat) (Q : List YQ), Sg X W rs → (∀ r ∈ shR ⟨⟨some ⟨g1, 0, none⟩, rn, rn⟩, ⟨some ⟨g2, 0, none⟩, yn, yn⟩, ⟨some ⟨g3, 0, none⟩, on, on⟩, g, s⟩ R Q O, r ∈ rs) → (∀ q ∈ Q, q.2.n ≤ 1048576 ∧ q.1.L.length = q.2.n) → RdS W ⟨⟨some ⟨g1, 0, none⟩, rn, rn⟩, ⟨some ⟨g2, 0, none⟩, yn, yn⟩, ⟨some ⟨g3, 0, none⟩, on, on⟩, g, s⟩ R Q O) := fun X W rs g1 g2 g3 Q hS hm hq => shR_rd hS hm hq hoi ⟨by simp only; omega, by simp only; omega, by simp only; omega, by simp only; omega⟩
    have HS : Hid (∀ W g1 g2 g3 (Q : List YQ), RdS W ⟨⟨some ⟨g1, 0, none⟩, rn, rn⟩, ⟨some ⟨g2, 0, none⟩, yn, yn⟩, ⟨some ⟨g3, 0, none⟩, on, on⟩, g, s⟩ R Q O → yds Q = yds QL → Calls Tryz.prog 6 #[Hv.v ⟨⟨some ⟨g1, 0, none⟩, rn, rn⟩, ⟨some ⟨g2, 0, none⟩, yn, yn⟩, ⟨some ⟨g3, 0, none⟩, on, on⟩, g, s⟩] W fun e w' => e = .returned (.bool b) ∧ Below W.heap.size W w') := fun W g1 g2 g3 Q hr he => sShardOk_v (by rw [he]; exact hbb) W hr
    have HI : Hid (∀ W g1 g2 g3 (Q : List YQ), RdS W ⟨⟨some ⟨g1, 0, none⟩, rn, rn⟩, ⟨some ⟨g2, 0, none⟩, yn, yn⟩, ⟨some ⟨g3, 0, none⟩, on, on⟩, g, s⟩ R Q O → yds Q = yds QL → Calls Tryz.prog 8 #[Hv.v ⟨⟨some ⟨g1, 0, none⟩, rn, rn⟩, ⟨some ⟨g2, 0, none⟩, yn, yn⟩, ⟨some ⟨g3, 0, none⟩, on, on⟩, g, s⟩] W fun e w' => e = .returned (.bool b) ∧ Below W.heap.size W w') := fun W g1 g2 g3 Q hr he => iShardOk_v (by rw [he]; exact hbb) W hr
    have HE : Hid (∀ W a1 a2 a3 b1 b2 b3 (A B : List YQ), RdS W ⟨⟨some ⟨a1, 0, none⟩, rn, rn⟩, ⟨some ⟨a2, 0, none⟩, yn, yn⟩, ⟨some ⟨a3, 0, none⟩, on, on⟩, g, s⟩ R A O → RdS W ⟨⟨some ⟨b1, 0, none⟩, rn, rn⟩, ⟨some ⟨b2, 0, none⟩, yn, yn⟩, ⟨some ⟨b3, 0, none⟩, on, on⟩, g, s⟩ R B O → yds A = yds QL → yds B = yds QL → (∀ q ∈ A, q.2.n ≤ 1048576 ∧ q.1.L.length = q.2.n) → Calls Tryz.prog 9 #[Hv.v ⟨⟨some ⟨a1, 0, none⟩, rn, rn⟩, ⟨some ⟨a2, 0, none⟩, yn, yn⟩, ⟨some ⟨a3, 0, none⟩, on, on⟩, g, s⟩, Hv.v ⟨⟨some ⟨b1, 0, none⟩, rn, rn⟩, ⟨some ⟨b2, 0, none⟩, yn, yn⟩, ⟨some ⟨b3, 0, none⟩, on, on⟩, g, s⟩] W fun e w' => e = .returned (.bool true) ∧ Below W.heap.size W w') := fun W a1 a2 a3 b1 b2 b3 A B ha hb e1 e2 hsm => eqShard_same _ _ R A B O W ha hb (e1.trans e2.symm) rfl rfl (fun y hy => (hsm y hy).1)
    have h0 := sg_bel (below_alloc1 w (.cells #[.slice rp rn rc, .slice yp yn yc, .slice op on oc, .string g, .int .i64 s] 26))
    have hx := Sg.nil (w.alloc (.cells #[.slice rp rn rc, .slice yp yn yc, .slice op on oc, .string g, .int .i64 s] 26))
    obtain ⟨b0, b1, b2, b3, b4⟩ := bx5 hx.bel
    clear H hs hz hv hbb p1 p2 p3 p4 p5 hoi
    go_enter Tryz.func3, Tryz.ntmps3
    go_upto_region 5 with (go_at_call 5; refine (HZ.out _ (h0.addL hx).bel).mono ?_; rintro e w1 ⟨rfl, hb1⟩; replace hx := hx.step hb1; clear b0 b1 b2 b3 b4; obtain ⟨b0, b1, b2, b3, b4⟩ := bx5 hx.bel)
    go_upto_region 6 with (first
      | (go_at_call 7; refine (HT.out _ (h0.addL hx).bel).mono ?_; rintro e w2 ⟨a1, a2, a3, Q1, rfl, he1, hm1, hg1⟩; replace hx := hx.addL hg1; clear b0 b1 b2 b3 b4; obtain ⟨b0, b1, b2, b3, b4⟩ := bx5 hx.bel)
      | (go_at_call 6; refine (HS.out _ a1 a2 a3 Q1 (HRd.out _ _ _ _ _ _ _ hx (fun r hr => by simp [hr]) hm1) he1).mono ?_; rintro e w3 ⟨rfl, hb3⟩; replace hx := hx.step hb3; clear b0 b1 b2 b3 b4; obtain ⟨b0, b1, b2, b3, b4⟩ := bx5 hx.bel))
    go_upto_region 7 with (go_at_call 7; refine (HT.out _ (h0.addL hx).bel).mono ?_; rintro e w4 ⟨c1, c2, c3, Q2, rfl, he2, hm2, hg2⟩; replace hx := hx.addL hg2; clear b0 b1 b2 b3 b4; obtain ⟨b0, b1, b2, b3, b4⟩ := bx5 hx.bel)
    have hx2 := hx.lit kSh [⟨⟨some ⟨c1, 0, none⟩, rn, rn⟩, ⟨some ⟨c2, 0, none⟩, yn, yn⟩, ⟨some ⟨c3, 0, none⟩, on, on⟩, g, s⟩] 1 rfl (by decide) #[.slice (some ⟨c1, 0, none⟩) rn rn, .slice (some ⟨c2, 0, none⟩) yn yn, .slice (some ⟨c3, 0, none⟩) on on, .string g, .int .i64 s] rfl
    clear hx
    obtain ⟨x0, x1, x2, x3, x4, xf, xg⟩ := sh5 hx2 (K := kSh) (g := w4.heap.size) (n := 1) (q := ⟨⟨some ⟨c1, 0, none⟩, rn, rn⟩, ⟨some ⟨c2, 0, none⟩, yn, yn⟩, ⟨some ⟨c3, 0, none⟩, on, on⟩, g, s⟩) (by simp) rfl
    simp only at x0 x1 x2 x3 x4
    clear b0 b1 b2 b3 b4
    obtain ⟨b0, b1, b2, b3, b4⟩ := bx5 hx2.bel
    have hx := hx2
    clear hx2
    go_upto_region 8 with (go_at_call 8; refine (HI.out _ c1 c2 c3 Q2 (HRd.out _ _ _ _ _ _ _ hx (fun r hr => by simp [hr]) hm2) he2).mono ?_; rintro e w5 ⟨rfl, hb5⟩; replace hx := hx.step hb5; clear b0 b1 b2 b3 b4; obtain ⟨b0, b1, b2, b3, b4⟩ := bx5 hx.bel; clear x0 x1 x2 x3 x4; obtain ⟨x0, x1, x2, x3, x4, _, _⟩ := sh5 hx (K := kSh) (g := w4.heap.size) (n := 1) (q := ⟨⟨some ⟨c1, 0, none⟩, rn, rn⟩, ⟨some ⟨c2, 0, none⟩, yn, yn⟩, ⟨some ⟨c3, 0, none⟩, on, on⟩, g, s⟩) (by simp) rfl; simp only at x0 x1 x2 x3 x4)
    cases b
    all_goals
      go_upto_region 10 with (fail)
      clear x0 x1 x2 x3 x4 b0 b1 b2 b3 b4 xf xg
      generalize w4.heap.size = k4 at *
      have HK2 : Hid (∀ w' rs, Sg (w.alloc (.cells #[.slice rp rn rc, .slice yp yn yc, .slice op on oc, .string g, .int .i64 s] 26)) w' rs → rG kSh (.slice (some ⟨k4, 0, none⟩) 1 1) [⟨⟨some ⟨c1, 0, none⟩, rn, rn⟩, ⟨some ⟨c2, 0, none⟩, yn, yn⟩, ⟨some ⟨c3, 0, none⟩, on, on⟩, g, s⟩] ∈ rs → ((w'.cell? ⟨k4, 0, none⟩ = some (.slice (some ⟨c1, 0, none⟩) rn rn) ∧ w'.cell? ⟨k4, 1, none⟩ = some (.slice (some ⟨c2, 0, none⟩) yn yn) ∧ w'.cell? ⟨k4, 2, none⟩ = some (.slice (some ⟨c3, 0, none⟩) on on) ∧ w'.cell? ⟨k4, 3, none⟩ = some (.string g) ∧ w'.cell? ⟨k4, 4, none⟩ = some (.int .i64 s)) ∧ (w'.cell? ⟨w.heap.size, 0, none⟩ = some (.slice rp rn rc) ∧ w'.cell? ⟨w.heap.size, 1, none⟩ = some (.slice yp yn yc) ∧ w'.cell? ⟨w.heap.size, 2, none⟩ = some (.slice op on oc) ∧ w'.cell? ⟨w.heap.size, 3, none⟩ = some (.string g) ∧ w'.cell? ⟨w.heap.size, 4, none⟩ = some (.int .i64 s)))) := fun w' rs h m1 => by
        obtain ⟨y0, y1, y2, y3, y4, _, _⟩ := sh5 h (K := kSh) (g := k4) (n := 1) (q := ⟨⟨some ⟨c1, 0, none⟩, rn, rn⟩, ⟨some ⟨c2, 0, none⟩, yn, yn⟩, ⟨some ⟨c3, 0, none⟩, on, on⟩, g, s⟩) m1 rfl
        exact ⟨⟨y0, y1, y2, y3, y4⟩, bx5 h.bel⟩
      go_region_held3 (fun w' => ((w'.cell? ⟨k4, 0, none⟩ = some (.slice (some ⟨c1, 0, none⟩) rn rn) ∧ w'.cell? ⟨k4, 1, none⟩ = some (.slice (some ⟨c2, 0, none⟩) yn yn) ∧ w'.cell? ⟨k4, 2, none⟩ = some (.slice (some ⟨c3, 0, none⟩) on on) ∧ w'.cell? ⟨k4, 3, none⟩ = some (.string g) ∧ w'.cell? ⟨k4, 4, none⟩ = some (.int .i64 s)) ∧ (w'.cell? ⟨w.heap.size, 0, none⟩ = some (.slice rp rn rc) ∧ w'.cell? ⟨w.heap.size, 1, none⟩ = some (.slice yp yn yc) ∧ w'.cell? ⟨w.heap.size, 2, none⟩ = some (.slice op on oc) ∧ w'.cell? ⟨w.heap.size, 3, none⟩ = some (.string g) ∧ w'.cell? ⟨w.heap.size, 4, none⟩ = some (.int .i64 s))))
        (first
          | assumption
          | with_reducible exact HK2.out _ _ hx (by simp)
          | with_reducible exact HK2.out _ _ (Sg.dr hx) (by simp))
        (first
          | (go_at_call 7; refine (HT.out _ (by first | with_reducible exact (h0.addL hx).bel | with_reducible exact (h0.addL (Sg.dr hx)).bel)).mono ?_; rintro e w7 ⟨d1, d2, d3, Q3, rfl, he3, hm3, hg3⟩; (first | with_reducible (replace hx := hx.addL hg3) | with_reducible (replace hx := (Sg.dr hx).addL hg3)); clear hg3)
          | (go_at_call 9; refine (HE.out _ c1 c2 c3 d1 d2 d3 Q2 Q3 (HRd.out _ _ _ _ _ _ _ hx (fun r hr => by simp [hr]) hm2) (HRd.out _ _ _ _ _ _ _ hx (fun r hr => by simp [hr]) hm3) he2 he3 hm2).mono ?_; rintro e w8 ⟨rfl, hb8⟩; replace hx := hx.step hb8; clear hb8))
      go_wp2
      go_ret
      exact ⟨rfl, (h0.addL hx).bel⟩
  · have HZ := Lib.hid (fun W (hb : Below w.heap.size w W) => szShard_v (h := h) (R := R) (QL := QL) (O := O) (v := -1) (by rw [if_pos (by omega)]) W (H.step hb) hs)
    obtain ⟨⟨rp, rn, rc⟩, ⟨yp, yn, yc⟩, ⟨op, on, oc⟩, g, s⟩ := h
    have h0 := sg_bel (below_alloc1 w (.cells #[.slice rp rn rc, .slice yp yn yc, .slice op on oc, .string g, .int .i64 s] 26))
    clear H hs hz
    go_enter Tryz.func3, Tryz.ntmps3
    go_wp2_with (go_at_call 5; refine (HZ.out _ h0.bel).mono ?_; rintro e w1 ⟨rfl, hb1⟩)
    go_ret
    exact ⟨rfl, (h0.step hb1).bel⟩
end Go.Proofs.YtecmalfhabcfbaaGreat.K.Y
