/-
  The law of DealOk walked.
-/
import Derived.Test.YtobbankkfplooaaKS1
import Derived.Test.YtobbankkfplooaaKG2
import Derived.Test.YtobbankkfplooaaKB6
namespace Go.Proofs.Ytobbankkfplooaa.K.G
open Go.Shelf Go.RowKit Go.Joins Y
attribute [local go_sem] Oper.semAt_some

theorem bx6 {w W : World} {v0 v1 v2 v3 v4 v5 : Value} {ty : TypeId} (h : Below (w.alloc (.cells #[v0, v1, v2, v3, v4, v5] ty)).heap.size (w.alloc (.cells #[v0, v1, v2, v3, v4, v5] ty)) W) : W.cell? ⟨w.heap.size, 0, none⟩ = some v0 ∧ W.cell? ⟨w.heap.size, 1, none⟩ = some v1 ∧ W.cell? ⟨w.heap.size, 2, none⟩ = some v2 ∧ W.cell? ⟨w.heap.size, 3, none⟩ = some v3 ∧ W.cell? ⟨w.heap.size, 4, none⟩ = some v4 ∧ W.cell? ⟨w.heap.size, 5, none⟩ = some v5 := by
  have := (((St.nil w).push [v0, v1, v2, v3, v4, v5] ty).step h).has
  simp [Has, HasAt] at this
  simp [this]
theorem gsz_parts {h : Gv} {QL : List YQ} {O V : List Int} {w : World} (H : RdLG w h QL O V) (hz : gsz h QL ≤ 1048576) : h.y.n ≤ 1048576 ∧ h.o.n ≤ 1048576 ∧ h.u.n ≤ 1048576 ∧ (∀ q ∈ QL, q.2.n ≤ 1048576) ∧ ywS (yds QL) ≤ 1048576 := by
  unfold gsz at hz
  have h2 : h.y.n ≤ ysz QL := by unfold ysz; rw [H.yn]; omega
  have h3 := ywS_ysz QL
  refine ⟨by omega, by omega, by omega, fun q hq => ?_, by omega⟩
  have := ysz_mem hq
  rw [(H.y.2 q hq).2] at this
  omega
set_option maxRecDepth 100000 in
set_option maxHeartbeats 8000000 in
theorem exactDealOk (h : Gv) (QL : List YQ) (O V : List Int) (w : World) (H : RdLG w h QL O V) (hs : SmG h QL) :
    Calls Try.prog 3 #[h.v] w fun e w' => e = .returned (.bool true) ∧ Below w.heap.size w w' := by
  by_cases hz : gsz h QL ≤ 1048576
  · obtain ⟨p1, p2, p3, p5, hyw⟩ := gsz_parts H hz
    obtain ⟨v, hv⟩ : ∃ v, (1048576 : Int) - (gsz h QL : Int) = v := ⟨_, rfl⟩
    have hv0 : ¬ v < 0 := by omega
    have HZ := Lib.hid (fun W (hb : Below w.heap.size w W) => szDeal_v (h := h) (QL := QL) (O := O) (V := V) (v := v) (by rw [if_neg (by omega)]; exact hv) W (H.step hb) hs)
    have HT := Lib.hid (fun W (hb : Below w.heap.size w W) => toDeal_any h QL O V W (H.step hb) p1 p2 p3 p5)
    obtain ⟨b, hbb⟩ : ∃ b, dealB h.t h.q (yds QL) O V h.s = b := ⟨_, rfl⟩
    obtain ⟨t, q, ⟨yp, yn, yc⟩, ⟨op, on, oc⟩, ⟨up, un, uc⟩, s⟩ := h
    dsimp only at HZ HT hbb p1 p2 p3 p5
    have HRd : Hid (∀ (X W : World) (rs : List Rw) (g1 g2 g3 : Nat) (Q : List YQ), Sg X W rs → (∀ r ∈ gR ⟨t, q, ⟨some ⟨g1, 0, none⟩, yn, yn⟩, ⟨some ⟨g2, 0, none⟩, on, on⟩, ⟨some ⟨g3, 0, none⟩, un, un⟩, s⟩ Q O V, r ∈ rs) → (∀ q ∈ Q, q.2.n ≤ 1048576 ∧ q.1.L.length = q.2.n) → RdG W ⟨t, q, ⟨some ⟨g1, 0, none⟩, yn, yn⟩, ⟨some ⟨g2, 0, none⟩, on, on⟩, ⟨some ⟨g3, 0, none⟩, un, un⟩, s⟩ Q O V) := fun X W rs g1 g2 g3 Q hS hm hq => gR_rd hS hm hq ⟨by simp only; omega, by simp only; omega, by simp only; omega⟩
    have HS : Hid (∀ W g1 g2 g3 (Q : List YQ), RdG W ⟨t, q, ⟨some ⟨g1, 0, none⟩, yn, yn⟩, ⟨some ⟨g2, 0, none⟩, on, on⟩, ⟨some ⟨g3, 0, none⟩, un, un⟩, s⟩ Q O V → yds Q = yds QL → Calls Try.prog 6 #[Gv.v ⟨t, q, ⟨some ⟨g1, 0, none⟩, yn, yn⟩, ⟨some ⟨g2, 0, none⟩, on, on⟩, ⟨some ⟨g3, 0, none⟩, un, un⟩, s⟩] W fun e w' => e = .returned (.bool b) ∧ Below W.heap.size W w') := fun W g1 g2 g3 Q hr he => sDealOk_v (by rw [he]; exact hbb) W hr
    have HI : Hid (∀ W g1 g2 g3 (Q : List YQ), RdG W ⟨t, q, ⟨some ⟨g1, 0, none⟩, yn, yn⟩, ⟨some ⟨g2, 0, none⟩, on, on⟩, ⟨some ⟨g3, 0, none⟩, un, un⟩, s⟩ Q O V → yds Q = yds QL → Calls Try.prog 8 #[Gv.v ⟨t, q, ⟨some ⟨g1, 0, none⟩, yn, yn⟩, ⟨some ⟨g2, 0, none⟩, on, on⟩, ⟨some ⟨g3, 0, none⟩, un, un⟩, s⟩] W fun e w' => e = .returned (.bool b) ∧ Below W.heap.size W w') := fun W g1 g2 g3 Q hr he => iDealOk_v (by rw [he]; exact hbb) W hr
    have HE : Hid (∀ W a1 a2 a3 b1 b2 b3 (A B : List YQ), RdG W ⟨t, q, ⟨some ⟨a1, 0, none⟩, yn, yn⟩, ⟨some ⟨a2, 0, none⟩, on, on⟩, ⟨some ⟨a3, 0, none⟩, un, un⟩, s⟩ A O V → RdG W ⟨t, q, ⟨some ⟨b1, 0, none⟩, yn, yn⟩, ⟨some ⟨b2, 0, none⟩, on, on⟩, ⟨some ⟨b3, 0, none⟩, un, un⟩, s⟩ B O V → yds A = yds QL → yds B = yds QL → (∀ q ∈ A, q.2.n ≤ 1048576 ∧ q.1.L.length = q.2.n) → Calls Try.prog 9 #[Gv.v ⟨t, q, ⟨some ⟨a1, 0, none⟩, yn, yn⟩, ⟨some ⟨a2, 0, none⟩, on, on⟩, ⟨some ⟨a3, 0, none⟩, un, un⟩, s⟩, Gv.v ⟨t, q, ⟨some ⟨b1, 0, none⟩, yn, yn⟩, ⟨some ⟨b2, 0, none⟩, on, on⟩, ⟨some ⟨b3, 0, none⟩, un, un⟩, s⟩] W fun e w' => e = .returned (.bool true) ∧ Below W.heap.size W w') := fun W a1 a2 a3 b1 b2 b3 A B ha hb e1 e2 hq => eqDeal_same _ _ A B O V W ha hb (e1.trans e2.symm) rfl rfl rfl (fun y hy => (hq y hy).1)
    have h0 := sg_bel (below_alloc1 w (.cells #[.int .i64 t, .int .i64 q, .slice yp yn yc, .slice op on oc, .slice up un uc, .int .i64 s] 25))
    have hx := Sg.nil (w.alloc (.cells #[.int .i64 t, .int .i64 q, .slice yp yn yc, .slice op on oc, .slice up un uc, .int .i64 s] 25))
    obtain ⟨b0, b1, b2, b3, b4, b5⟩ := bx6 hx.bel
    clear H hs hz hv hbb p1 p2 p3 p5 hyw
    go_enter Try.func3, Try.ntmps3
    go_upto_region 5 with (go_at_call 5; refine (HZ.out _ (h0.addL hx).bel).mono ?_; rintro e w1 ⟨rfl, hb1⟩; replace hx := hx.step hb1; clear b0 b1 b2 b3 b4 b5; obtain ⟨b0, b1, b2, b3, b4, b5⟩ := bx6 hx.bel)
    go_upto_region 6 with (first
      | (go_at_call 7; refine (HT.out _ (h0.addL hx).bel).mono ?_; rintro e w2 ⟨a1, a2, a3, Q1, rfl, he1, hm1, hg1⟩; replace hx := hx.addL hg1; clear b0 b1 b2 b3 b4 b5; obtain ⟨b0, b1, b2, b3, b4, b5⟩ := bx6 hx.bel)
      | (go_at_call 6; refine (HS.out _ a1 a2 a3 Q1 (HRd.out _ _ _ _ _ _ _ hx (fun r hr => by simp [hr]) hm1) he1).mono ?_; rintro e w3 ⟨rfl, hb3⟩; replace hx := hx.step hb3; clear b0 b1 b2 b3 b4 b5; obtain ⟨b0, b1, b2, b3, b4, b5⟩ := bx6 hx.bel))
    go_upto_region 7 with (go_at_call 7; refine (HT.out _ (h0.addL hx).bel).mono ?_; rintro e w4 ⟨c1, c2, c3, Q2, rfl, he2, hm2, hg2⟩; replace hx := hx.addL hg2; clear b0 b1 b2 b3 b4 b5; obtain ⟨b0, b1, b2, b3, b4, b5⟩ := bx6 hx.bel)
    have hx2 := hx.lit kG [⟨t, q, ⟨some ⟨c1, 0, none⟩, yn, yn⟩, ⟨some ⟨c2, 0, none⟩, on, on⟩, ⟨some ⟨c3, 0, none⟩, un, un⟩, s⟩] 1 rfl (by decide) #[.int .i64 t, .int .i64 q, .slice (some ⟨c1, 0, none⟩) yn yn, .slice (some ⟨c2, 0, none⟩) on on, .slice (some ⟨c3, 0, none⟩) un un, .int .i64 s] rfl
    clear hx
    obtain ⟨x0, x1, x2, x3, x4, x5, xf, xg⟩ := g6 hx2 (K := kG) (g := w4.heap.size) (n := 1) (q := ⟨t, q, ⟨some ⟨c1, 0, none⟩, yn, yn⟩, ⟨some ⟨c2, 0, none⟩, on, on⟩, ⟨some ⟨c3, 0, none⟩, un, un⟩, s⟩) (by simp) rfl; dsimp only at x0 x1 x2 x3 x4 x5
    clear b0 b1 b2 b3 b4 b5
    obtain ⟨b0, b1, b2, b3, b4, b5⟩ := bx6 hx2.bel
    have hx := hx2
    clear hx2
    go_upto_region 8 with (go_at_call 8; refine (HI.out _ c1 c2 c3 Q2 (HRd.out _ _ _ _ _ _ _ hx (fun r hr => by simp [hr]) hm2) he2).mono ?_; rintro e w5 ⟨rfl, hb5⟩; replace hx := hx.step hb5; clear b0 b1 b2 b3 b4 b5; obtain ⟨b0, b1, b2, b3, b4, b5⟩ := bx6 hx.bel; clear x0 x1 x2 x3 x4 x5 xf xg; obtain ⟨x0, x1, x2, x3, x4, x5, xf, xg⟩ := g6 hx (K := kG) (g := w4.heap.size) (n := 1) (q := ⟨t, q, ⟨some ⟨c1, 0, none⟩, yn, yn⟩, ⟨some ⟨c2, 0, none⟩, on, on⟩, ⟨some ⟨c3, 0, none⟩, un, un⟩, s⟩) (by simp) rfl; dsimp only at x0 x1 x2 x3 x4 x5)
    cases b
    all_goals
      go_upto_region 10 with (fail)
      clear x0 x1 x2 x3 x4 x5 xf xg
      clear b0 b1 b2 b3 b4 b5
      generalize w4.heap.size = k4 at *
      have HK2 : Hid (∀ w' rs, Sg (w.alloc (.cells #[.int .i64 t, .int .i64 q, .slice yp yn yc, .slice op on oc, .slice up un uc, .int .i64 s] 25)) w' rs → rG kG (.slice (some ⟨k4, 0, none⟩) 1 1) [⟨t, q, ⟨some ⟨c1, 0, none⟩, yn, yn⟩, ⟨some ⟨c2, 0, none⟩, on, on⟩, ⟨some ⟨c3, 0, none⟩, un, un⟩, s⟩] ∈ rs → ((w'.cell? ⟨k4, 0, none⟩ = some (.int .i64 t) ∧ w'.cell? ⟨k4, 1, none⟩ = some (.int .i64 q) ∧ w'.cell? ⟨k4, 2, none⟩ = some (.slice (some ⟨c1, 0, none⟩) yn yn) ∧ w'.cell? ⟨k4, 3, none⟩ = some (.slice (some ⟨c2, 0, none⟩) on on) ∧ w'.cell? ⟨k4, 4, none⟩ = some (.slice (some ⟨c3, 0, none⟩) un un) ∧ w'.cell? ⟨k4, 5, none⟩ = some (.int .i64 s)) ∧ (w'.cell? ⟨w.heap.size, 0, none⟩ = some (.int .i64 t) ∧ w'.cell? ⟨w.heap.size, 1, none⟩ = some (.int .i64 q) ∧ w'.cell? ⟨w.heap.size, 2, none⟩ = some (.slice yp yn yc) ∧ w'.cell? ⟨w.heap.size, 3, none⟩ = some (.slice op on oc) ∧ w'.cell? ⟨w.heap.size, 4, none⟩ = some (.slice up un uc) ∧ w'.cell? ⟨w.heap.size, 5, none⟩ = some (.int .i64 s)))) := fun w' rs h m1 => by
        obtain ⟨y0, y1, y2, y3, y4, y5, _, _⟩ := g6 h (K := kG) (g := k4) (n := 1) (q := ⟨t, q, ⟨some ⟨c1, 0, none⟩, yn, yn⟩, ⟨some ⟨c2, 0, none⟩, on, on⟩, ⟨some ⟨c3, 0, none⟩, un, un⟩, s⟩) m1 rfl
        exact ⟨⟨y0, y1, y2, y3, y4, y5⟩, bx6 h.bel⟩
      go_region_held3 (fun w' => ((w'.cell? ⟨k4, 0, none⟩ = some (.int .i64 t) ∧ w'.cell? ⟨k4, 1, none⟩ = some (.int .i64 q) ∧ w'.cell? ⟨k4, 2, none⟩ = some (.slice (some ⟨c1, 0, none⟩) yn yn) ∧ w'.cell? ⟨k4, 3, none⟩ = some (.slice (some ⟨c2, 0, none⟩) on on) ∧ w'.cell? ⟨k4, 4, none⟩ = some (.slice (some ⟨c3, 0, none⟩) un un) ∧ w'.cell? ⟨k4, 5, none⟩ = some (.int .i64 s)) ∧ (w'.cell? ⟨w.heap.size, 0, none⟩ = some (.int .i64 t) ∧ w'.cell? ⟨w.heap.size, 1, none⟩ = some (.int .i64 q) ∧ w'.cell? ⟨w.heap.size, 2, none⟩ = some (.slice yp yn yc) ∧ w'.cell? ⟨w.heap.size, 3, none⟩ = some (.slice op on oc) ∧ w'.cell? ⟨w.heap.size, 4, none⟩ = some (.slice up un uc) ∧ w'.cell? ⟨w.heap.size, 5, none⟩ = some (.int .i64 s))))
        (first
          | assumption
          | with_reducible exact HK2.out _ _ hx (by simp)
          | with_reducible exact HK2.out _ _ (hx.step (Below.refl _ _).drew) (by simp))
        (first
          | (go_at_call 7; refine (HT.out _ (by first | with_reducible exact (h0.addL hx).bel | with_reducible exact (h0.addL (hx.step (Below.refl _ _).drew)).bel)).mono ?_; rintro e w7 ⟨d1, d2, d3, Q3, rfl, he3, hm3, hg3⟩; (first | with_reducible (replace hx := hx.addL hg3) | with_reducible (replace hx := (hx.step (Below.refl _ _).drew).addL hg3)); clear hg3)
          | (go_at_call 9; refine (HE.out _ c1 c2 c3 d1 d2 d3 Q2 Q3 (HRd.out _ _ _ _ _ _ _ hx (fun r hr => by simp [hr]) hm2) (HRd.out _ _ _ _ _ _ _ hx (fun r hr => by simp [hr]) hm3) he2 he3 hm2).mono ?_; rintro e w8 ⟨rfl, hb8⟩; replace hx := hx.step hb8; clear hb8))
      go_wp2
      go_ret
      exact ⟨rfl, (h0.addL hx).bel⟩
  · have HZ := Lib.hid (fun W (hb : Below w.heap.size w W) => szDeal_v (h := h) (QL := QL) (O := O) (V := V) (v := -1) (by rw [if_pos (by omega)]) W (H.step hb) hs)
    obtain ⟨t, q, ⟨yp, yn, yc⟩, ⟨op, on, oc⟩, ⟨up, un, uc⟩, s⟩ := h
    have h0 := sg_bel (below_alloc1 w (.cells #[.int .i64 t, .int .i64 q, .slice yp yn yc, .slice op on oc, .slice up un uc, .int .i64 s] 25))
    clear H hs hz
    go_enter Try.func3, Try.ntmps3
    go_wp2_with (go_at_call 5; refine (HZ.out _ h0.bel).mono ?_; rintro e w1 ⟨rfl, hb1⟩)
    go_ret
    exact ⟨rfl, (h0.step hb1).bel⟩
end Go.Proofs.Ytobbankkfplooaa.K.G
