/-
  The law of Voted walked.
-/
import Derived.Test.YtobbankkfplooaaGreatKE0
namespace Go.Proofs.YtobbankkfplooaaGreat.K.G
open Go.Shelf Go.RowKit Go.Joins Y
attribute [local go_sem] Oper.semAt_some

set_option maxRecDepth 100000 in
set_option maxHeartbeats 8000000 in
theorem exactVoted (h : Gv) (QL : List YQ) (O V : List Int) (x : Int) (yes : Bool) (w : World) (H : RdLG w h QL O V) (hs : SmG h QL) :
    Calls Tryz.prog 4 #[h.v, .int .i64 x, .bool yes] w fun e w' => e = .returned (.bool true) ∧ Below w.heap.size w w' := by
  by_cases hz : gsz h QL ≤ 1048576
  · obtain ⟨p1, p2, p3, p5, hyw⟩ := gsz_parts H hz
    obtain ⟨v, hv⟩ : ∃ v, (1048576 : Int) - (gsz h QL : Int) = v := ⟨_, rfl⟩
    have hv0 : ¬ v < 0 := by omega
    have HZ := Lib.hid (fun W (hb : Below w.heap.size w W) => szDeal_v (h := h) (QL := QL) (O := O) (V := V) (v := v) (by rw [if_neg (by omega)]; exact hv) W (H.step hb) hs)
    have HT := Lib.hid (fun W (hb : Below w.heap.size w W) => toDeal_any h QL O V W (H.step hb) p1 p2 p3 p5)
    obtain ⟨⟨⟨t2, q2, Y2, O2, V2, s2⟩, rb⟩, hr⟩ : ∃ r, (if dB ⟨h.t, h.q, yds QL, O, V, h.s⟩ = true then votedD ⟨h.t, h.q, yds QL, O, V, h.s⟩ x yes else (zdd, false)) = r := ⟨_, rfl⟩
    have hsm := sml_voted hr
    obtain ⟨t, q, ⟨yp, yn, yc⟩, ⟨op, on, oc⟩, ⟨up, un, uc⟩, s⟩ := h
    dsimp only at HZ HT hr hsm p1 p2 p3 p5
    have HRd : Hid (∀ (X W : World) (rs : List Rw) (g1 g2 g3 : Nat) (Q : List YQ), Sg X W rs → (∀ r ∈ gR ⟨t, q, ⟨some ⟨g1, 0, none⟩, yn, yn⟩, ⟨some ⟨g2, 0, none⟩, on, on⟩, ⟨some ⟨g3, 0, none⟩, un, un⟩, s⟩ Q O V, r ∈ rs) → (∀ q ∈ Q, q.2.n ≤ 1048576 ∧ q.1.L.length = q.2.n) → RdG W ⟨t, q, ⟨some ⟨g1, 0, none⟩, yn, yn⟩, ⟨some ⟨g2, 0, none⟩, on, on⟩, ⟨some ⟨g3, 0, none⟩, un, un⟩, s⟩ Q O V) := fun X W rs g1 g2 g3 Q hS hm hq => gR_rd hS hm hq ⟨by simp only; omega, by simp only; omega, by simp only; omega⟩
    have HS : Hid (∀ (X W : World) (rs : List Rw) (g1 g2 g3 : Nat) (Q : List YQ), Sg X W rs → (∀ r ∈ gR ⟨t, q, ⟨some ⟨g1, 0, none⟩, yn, yn⟩, ⟨some ⟨g2, 0, none⟩, on, on⟩, ⟨some ⟨g3, 0, none⟩, un, un⟩, s⟩ Q O V, r ∈ rs) → (∀ q ∈ Q, q.2.n ≤ 1048576 ∧ q.1.L.length = q.2.n) → yds Q = yds QL → Calls Tryz.prog 15 #[Gv.v ⟨t, q, ⟨some ⟨g1, 0, none⟩, yn, yn⟩, ⟨some ⟨g2, 0, none⟩, on, on⟩, ⟨some ⟨g3, 0, none⟩, un, un⟩, s⟩, .int .i64 x, .bool yes] W fun e w' => ∃ (y o u : Sv) (Q2 : List YQ), e = .returned (.tuple #[Gv.v ⟨t2, q2, y, o, u, s2⟩, .bool rb]) ∧ yds Q2 = Y2 ∧ (∀ q ∈ Q2, q.2.n ≤ 1000 ∧ q.1.L.length = q.2.n) ∧ Sg W w' (gR ⟨t2, q2, y, o, u, s2⟩ Q2 O2 V2)) := fun X W rs g1 g2 g3 Q hS hm hq he => by
      refine (sVoted_any ⟨t, q, ⟨some ⟨g1, 0, none⟩, yn, yn⟩, ⟨some ⟨g2, 0, none⟩, on, on⟩, ⟨some ⟨g3, 0, none⟩, un, un⟩, s⟩ Q O V x yes W (HRd.out X W rs g1 g2 g3 Q hS hm hq) (gR_ok hS hm) (r := ⟨⟨t2, q2, Y2, O2, V2, s2⟩, rb⟩) (by rw [he]; exact hr)).mono ?_
      rintro e w' ⟨v, rfl, y, o, u, Q2, rfl, h1, h2, h3⟩
      exact ⟨y, o, u, Q2, rfl, h1, h2, h3⟩
    have HI : Hid (∀ (X W : World) (rs : List Rw) (g1 g2 g3 : Nat) (Q : List YQ), Sg X W rs → (∀ r ∈ gR ⟨t, q, ⟨some ⟨g1, 0, none⟩, yn, yn⟩, ⟨some ⟨g2, 0, none⟩, on, on⟩, ⟨some ⟨g3, 0, none⟩, un, un⟩, s⟩ Q O V, r ∈ rs) → (∀ q ∈ Q, q.2.n ≤ 1048576 ∧ q.1.L.length = q.2.n) → yds Q = yds QL → Calls Tryz.prog 9 #[Gv.v ⟨t, q, ⟨some ⟨g1, 0, none⟩, yn, yn⟩, ⟨some ⟨g2, 0, none⟩, on, on⟩, ⟨some ⟨g3, 0, none⟩, un, un⟩, s⟩, .int .i64 x, .bool yes] W fun e w' => ∃ (y o u : Sv) (Q2 : List YQ), e = .returned (.tuple #[Gv.v ⟨t2, q2, y, o, u, s2⟩, .bool rb]) ∧ yds Q2 = Y2 ∧ (∀ q ∈ Q2, q.2.n ≤ 1000 ∧ q.1.L.length = q.2.n) ∧ Sg W w' (gR ⟨t2, q2, y, o, u, s2⟩ Q2 O2 V2)) := fun X W rs g1 g2 g3 Q hS hm hq he => by
      refine (iVoted_any ⟨t, q, ⟨some ⟨g1, 0, none⟩, yn, yn⟩, ⟨some ⟨g2, 0, none⟩, on, on⟩, ⟨some ⟨g3, 0, none⟩, un, un⟩, s⟩ Q O V x yes W (HRd.out X W rs g1 g2 g3 Q hS hm hq) (gR_ok hS hm) (r := ⟨⟨t2, q2, Y2, O2, V2, s2⟩, rb⟩) (by rw [he]; exact hr)).mono ?_
      rintro e w' ⟨v, rfl, y, o, u, Q2, rfl, h1, h2, h3⟩
      exact ⟨y, o, u, Q2, rfl, h1, h2, h3⟩
    have HE : Hid (∀ W a1 a2 a3 b1 b2 b3 (A B : List YQ), RdG W ⟨t, q, ⟨some ⟨a1, 0, none⟩, yn, yn⟩, ⟨some ⟨a2, 0, none⟩, on, on⟩, ⟨some ⟨a3, 0, none⟩, un, un⟩, s⟩ A O V → RdG W ⟨t, q, ⟨some ⟨b1, 0, none⟩, yn, yn⟩, ⟨some ⟨b2, 0, none⟩, on, on⟩, ⟨some ⟨b3, 0, none⟩, un, un⟩, s⟩ B O V → yds A = yds QL → yds B = yds QL → (∀ q ∈ A, q.2.n ≤ 1048576 ∧ q.1.L.length = q.2.n) → Calls Tryz.prog 25 #[Gv.v ⟨t, q, ⟨some ⟨a1, 0, none⟩, yn, yn⟩, ⟨some ⟨a2, 0, none⟩, on, on⟩, ⟨some ⟨a3, 0, none⟩, un, un⟩, s⟩, Gv.v ⟨t, q, ⟨some ⟨b1, 0, none⟩, yn, yn⟩, ⟨some ⟨b2, 0, none⟩, on, on⟩, ⟨some ⟨b3, 0, none⟩, un, un⟩, s⟩] W fun e w' => e = .returned (.bool true) ∧ Below W.heap.size W w') := fun W a1 a2 a3 b1 b2 b3 A B ha hb e1 e2 hq => eqDeal_same _ _ A B O V W ha hb (e1.trans e2.symm) rfl rfl rfl (fun y hy => (hq y hy).1)
    have HE2 : Hid (∀ (X W : World) (rs : List Rw) (ay ao au by_ bo bu : Sv) (A B : List YQ), Sg X W rs → (∀ r ∈ gR ⟨t2, q2, ay, ao, au, s2⟩ A O2 V2, r ∈ rs) → (∀ r ∈ gR ⟨t2, q2, by_, bo, bu, s2⟩ B O2 V2, r ∈ rs) → (∀ q ∈ A, q.2.n ≤ 1000 ∧ q.1.L.length = q.2.n) → (∀ q ∈ B, q.2.n ≤ 1000 ∧ q.1.L.length = q.2.n) → yds A = Y2 → yds B = Y2 → Calls Tryz.prog 25 #[Gv.v ⟨t2, q2, ay, ao, au, s2⟩, Gv.v ⟨t2, q2, by_, bo, bu, s2⟩] W fun e w' => e = .returned (.bool true) ∧ Below W.heap.size W w') := fun X W rs ay ao au by_ bo bu A B hS ha hb qa qb ea eb => eqDeal_same _ _ A B O2 V2 W (ans_rd hS ha qa ea hsm) (ans_rd hS hb qb eb hsm) (ea.trans eb.symm) rfl rfl rfl (fun y hy => by have := (qa y hy).1; omega)
    have HM1 : Hid (∀ (X W : World) (A Bs : List Rw) (g1 g2 g3 : Nat) (Q : List YQ), Sg X W (A ++ (gR ⟨t, q, ⟨some ⟨g1, 0, none⟩, yn, yn⟩, ⟨some ⟨g2, 0, none⟩, on, on⟩, ⟨some ⟨g3, 0, none⟩, un, un⟩, s⟩ Q O V ++ Bs)) → (∀ q ∈ Q, q.2.n ≤ 1048576 ∧ q.1.L.length = q.2.n) → yds Q = yds QL → Calls Tryz.prog 26 #[Gv.v ⟨t, q, ⟨some ⟨g1, 0, none⟩, yn, yn⟩, ⟨some ⟨g2, 0, none⟩, on, on⟩, ⟨some ⟨g3, 0, none⟩, un, un⟩, s⟩, .int .i64 1] W fun e w' => ∃ v : Int, e = .returned (.int .i64 v) ∧ ¬ v < 0 ∧ Sg X w' (A ++ Bs)) := fun X W A Bs g1 g2 g3 Q hS hq he => by
      have h5 := ywt_eq fun q hq' => (hq q hq').2
      rw [he] at h5
      refine (markDeal_any ⟨t, q, ⟨some ⟨g1, 0, none⟩, yn, yn⟩, ⟨some ⟨g2, 0, none⟩, on, on⟩, ⟨some ⟨g3, 0, none⟩, un, un⟩, s⟩ Q O V A Bs X W hS p1 p2 p3 (fun q hq' => (hq q hq').1) (by omega) rfl).mono ?_
      rintro e w' ⟨rfl, h1⟩
      exact ⟨_, rfl, mk_pos _ _ _, h1.sub ((List.sublist_append_right _ _).append_left A)⟩
    have HM2 : Hid (∀ (X W : World) (A Bs : List Rw) (y o u : Sv) (Q : List YQ) (v : Int), Sg X W (A ++ (gR ⟨t2, q2, y, o, u, s2⟩ Q O2 V2 ++ Bs)) → (∀ q ∈ Q, q.2.n ≤ 1000 ∧ q.1.L.length = q.2.n) → yds Q = Y2 → mkE 1 Q + o.n + u.n = v → Calls Tryz.prog 26 #[Gv.v ⟨t2, q2, y, o, u, s2⟩, .int .i64 1] W fun e w' => e = .returned (.int .i64 v) ∧ Sg X w' (A ++ (gR ⟨t2, q2, y, o, u, s2⟩ (mkY 1 Q) (mk1 (mkE 1 Q) o.n) (mk1 (mkE 1 Q + o.n) u.n) ++ Bs))) := fun X W A Bs y o u Q v hS hq he hv => ans_mark hS hq he hsm hv
    have HH : Hid (∀ (X W : World) (rs : List Rw) (y o u : Sv) (Q : List YQ) (v : Int), Sg X W rs → (∀ x ∈ gR ⟨t2, q2, y, o, u, s2⟩ (mkY 1 Q) (mk1 (mkE 1 Q) o.n) (mk1 (mkE 1 Q + o.n) u.n), x ∈ rs) → (o.n ≤ 1000 ∧ u.n ≤ 1000) → (∀ q ∈ Q, q.2.n ≤ 1000 ∧ q.1.L.length = q.2.n) → yds Q = Y2 → mkE 1 Q + o.n + u.n = v → Calls Tryz.prog 27 #[Gv.v ⟨t2, q2, y, o, u, s2⟩, .int .i64 1] W fun e w' => e = .returned (.int .i64 v) ∧ Below W.heap.size W w') := fun X W rs y o u Q v hS hm hb hq he hv => ans_held hS hm hb hq he hsm hv
    have HB : Hid (O2.length ≤ 1000 ∧ V2.length ≤ 1000) := ⟨hsm.o, hsm.u⟩
    have h0 := sg_bel (below_alloc1 w (.cells #[.int .i64 t, .int .i64 q, .slice yp yn yc, .slice op on oc, .slice up un uc, .int .i64 s] 43))
    have hx := Sg.nil (w.alloc (.cells #[.int .i64 t, .int .i64 q, .slice yp yn yc, .slice op on oc, .slice up un uc, .int .i64 s] 43))
    obtain ⟨b0, b1, b2, b3, b4, b5⟩ := bx6 hx.bel
    clear H hs hz hv hr p1 p2 p3 p5 hsm hyw
    go_enter Tryz.func4, Tryz.ntmps4
    go_upto_region 5 with (go_at_call 23; refine (HZ.out _ (h0.addL hx).bel).mono ?_; rintro e w1 ⟨rfl, hb1⟩; replace hx := hx.step hb1; clear b0 b1 b2 b3 b4 b5; obtain ⟨b0, b1, b2, b3, b4, b5⟩ := bx6 hx.bel)
    go_upto_region 6 with (first
      | (go_at_call 24; refine (HT.out _ (h0.addL hx).bel).mono ?_; rintro e w2 ⟨a1, a2, a3, Q1, rfl, he1, hm1, hg1⟩; replace hx := hx.addL hg1; clear b0 b1 b2 b3 b4 b5)
      | (go_at_call 15; refine (HS.out _ _ _ a1 a2 a3 Q1 hx (fun r hr => by simp [hr]) hm1 he1).mono ?_; rintro e w3 ⟨wy, wo, wu, Qw, rfl, hew, hqw, hg3⟩; replace hx : Sg (w.alloc (.cells #[.int .i64 t, .int .i64 q, .slice yp yn yc, .slice op on oc, .slice up un uc, .int .i64 s] 43)) w3 (gR ⟨t2, q2, wy, wo, wu, s2⟩ Qw O2 V2) := (hx.addL hg3).sub (List.sublist_append_left ..); obtain ⟨b0, b1, b2, b3, b4, b5⟩ := bx6 hx.bel))
    replace hx : Sg (w.alloc (.cells #[.int .i64 t, .int .i64 q, .slice yp yn yc, .slice op on oc, .slice up un uc, .int .i64 s] 43)) (w3.alloc (.cells #[.int .i64 t2, .int .i64 q2, .slice wy.p wy.n wy.c, .slice wo.p wo.n wo.c, .slice wu.p wu.n wu.c, .int .i64 s2] 27)) (rG kG (.slice (some ⟨w3.heap.size, 0, none⟩) 1 1) [⟨t2, q2, wy, wo, wu, s2⟩] :: gR ⟨t2, q2, wy, wo, wu, s2⟩ Qw O2 V2) := hx.lit kG [⟨t2, q2, wy, wo, wu, s2⟩] 1 rfl (by decide) #[.int .i64 t2, .int .i64 q2, .slice wy.p wy.n wy.c, .slice wo.p wo.n wo.c, .slice wu.p wu.n wu.c, .int .i64 s2] rfl
    clear b0 b1 b2 b3 b4 b5
    obtain ⟨b0, b1, b2, b3, b4, b5⟩ := bx6 hx.bel
    go_upto_region 7 with (go_at_call 24; refine (HT.out _ (h0.addL hx).bel).mono ?_; rintro e w4 ⟨c1, c2, c3, Q2, rfl, he2, hm2, hg4⟩; replace hx := hx.addL hg4; clear b0 b1 b2 b3 b4 b5; obtain ⟨b0, b1, b2, b3, b4, b5⟩ := bx6 hx.bel)
    replace hx : Sg (w.alloc (.cells #[.int .i64 t, .int .i64 q, .slice yp yn yc, .slice op on oc, .slice up un uc, .int .i64 s] 43)) (w4.alloc (.cells #[.int .i64 t, .int .i64 q, .slice (some ⟨c1, 0, none⟩) yn yn, .slice (some ⟨c2, 0, none⟩) on on, .slice (some ⟨c3, 0, none⟩) un un, .int .i64 s] 27)) (rG kG (.slice (some ⟨w4.heap.size, 0, none⟩) 1 1) [⟨t, q, ⟨some ⟨c1, 0, none⟩, yn, yn⟩, ⟨some ⟨c2, 0, none⟩, on, on⟩, ⟨some ⟨c3, 0, none⟩, un, un⟩, s⟩] :: (gR ⟨t, q, ⟨some ⟨c1, 0, none⟩, yn, yn⟩, ⟨some ⟨c2, 0, none⟩, on, on⟩, ⟨some ⟨c3, 0, none⟩, un, un⟩, s⟩ Q2 O V ++ (rG kG (.slice (some ⟨w3.heap.size, 0, none⟩) 1 1) [⟨t2, q2, wy, wo, wu, s2⟩] :: gR ⟨t2, q2, wy, wo, wu, s2⟩ Qw O2 V2))) := hx.lit kG [⟨t, q, ⟨some ⟨c1, 0, none⟩, yn, yn⟩, ⟨some ⟨c2, 0, none⟩, on, on⟩, ⟨some ⟨c3, 0, none⟩, un, un⟩, s⟩] 1 rfl (by decide) #[.int .i64 t, .int .i64 q, .slice (some ⟨c1, 0, none⟩) yn yn, .slice (some ⟨c2, 0, none⟩) on on, .slice (some ⟨c3, 0, none⟩) un un, .int .i64 s] rfl
    clear b0 b1 b2 b3 b4 b5
    obtain ⟨x0, x1, x2, x3, x4, x5, xf, xg⟩ := g6 hx (K := kG) (g := w4.heap.size) (n := 1) (q := ⟨t, q, ⟨some ⟨c1, 0, none⟩, yn, yn⟩, ⟨some ⟨c2, 0, none⟩, on, on⟩, ⟨some ⟨c3, 0, none⟩, un, un⟩, s⟩) (by simp) rfl; dsimp only at x0 x1 x2 x3 x4 x5
    go_upto_region 8 with (go_at_call 9; refine (HI.out _ _ _ c1 c2 c3 Q2 hx (fun r hr => by simp [hr]) hm2 he2).mono ?_; rintro e w5 ⟨gy, go, gu, Qg, rfl, heg, hqg, hg5⟩; replace hx := hx.addL hg5; clear x0 x1 x2 x3 x4 x5)
    replace hx : Sg (w.alloc (.cells #[.int .i64 t, .int .i64 q, .slice yp yn yc, .slice op on oc, .slice up un uc, .int .i64 s] 43)) (w5.alloc (.cells #[.int .i64 t2, .int .i64 q2, .slice gy.p gy.n gy.c, .slice go.p go.n go.c, .slice gu.p gu.n gu.c, .int .i64 s2] 27)) (rG kG (.slice (some ⟨w5.heap.size, 0, none⟩) 1 1) [⟨t2, q2, gy, go, gu, s2⟩] :: (gR ⟨t2, q2, gy, go, gu, s2⟩ Qg O2 V2 ++ (rG kG (.slice (some ⟨w4.heap.size, 0, none⟩) 1 1) [⟨t, q, ⟨some ⟨c1, 0, none⟩, yn, yn⟩, ⟨some ⟨c2, 0, none⟩, on, on⟩, ⟨some ⟨c3, 0, none⟩, un, un⟩, s⟩] :: (gR ⟨t, q, ⟨some ⟨c1, 0, none⟩, yn, yn⟩, ⟨some ⟨c2, 0, none⟩, on, on⟩, ⟨some ⟨c3, 0, none⟩, un, un⟩, s⟩ Q2 O V ++ (rG kG (.slice (some ⟨w3.heap.size, 0, none⟩) 1 1) [⟨t2, q2, wy, wo, wu, s2⟩] :: gR ⟨t2, q2, wy, wo, wu, s2⟩ Qw O2 V2))))) := hx.lit kG [⟨t2, q2, gy, go, gu, s2⟩] 1 rfl (by decide) #[.int .i64 t2, .int .i64 q2, .slice gy.p gy.n gy.c, .slice go.p go.n go.c, .slice gu.p gu.n gu.c, .int .i64 s2] rfl
    obtain ⟨y0, y1, y2, y3, y4, y5, yf, yg⟩ := g6 hx (K := kG) (g := w5.heap.size) (n := 1) (q := ⟨t2, q2, gy, go, gu, s2⟩) (by simp) rfl; dsimp only at y0 y1 y2 y3 y4 y5
    obtain ⟨z0, z1, z2, z3, z4, z5, zf, zg⟩ := g6 hx (K := kG) (g := w3.heap.size) (n := 1) (q := ⟨t2, q2, wy, wo, wu, s2⟩) (by simp) rfl; dsimp only at z0 z1 z2 z3 z4 z5
    go_upto_region 10 with (go_at_call 25; refine (HE2.out _ _ _ gy go gu wy wo wu Qg Qw hx (fun r hr => by simp [hr]) (fun r hr => by simp [hr]) hqg hqw heg hew).mono ?_; rintro e w6 ⟨rfl, hb6⟩; replace hx := hx.step hb6; clear y0 y1 y2 y3 y4 y5; clear z0 z1 z2 z3 z4 z5)
    clear xf xg yf yg zf zg
    generalize w3.heap.size = k4 at *
    generalize w4.heap.size = k5 at *
    generalize w5.heap.size = k6 at *
    have HK2 : Hid (∀ w' rs, Sg (w.alloc (.cells #[.int .i64 t, .int .i64 q, .slice yp yn yc, .slice op on oc, .slice up un uc, .int .i64 s] 43)) w' rs → rG kG (.slice (some ⟨k5, 0, none⟩) 1 1) [⟨t, q, ⟨some ⟨c1, 0, none⟩, yn, yn⟩, ⟨some ⟨c2, 0, none⟩, on, on⟩, ⟨some ⟨c3, 0, none⟩, un, un⟩, s⟩] ∈ rs → ((w'.cell? ⟨k5, 0, none⟩ = some (.int .i64 t) ∧ w'.cell? ⟨k5, 1, none⟩ = some (.int .i64 q) ∧ w'.cell? ⟨k5, 2, none⟩ = some (.slice (some ⟨c1, 0, none⟩) yn yn) ∧ w'.cell? ⟨k5, 3, none⟩ = some (.slice (some ⟨c2, 0, none⟩) on on) ∧ w'.cell? ⟨k5, 4, none⟩ = some (.slice (some ⟨c3, 0, none⟩) un un) ∧ w'.cell? ⟨k5, 5, none⟩ = some (.int .i64 s)) ∧ (w'.cell? ⟨w.heap.size, 0, none⟩ = some (.int .i64 t) ∧ w'.cell? ⟨w.heap.size, 1, none⟩ = some (.int .i64 q) ∧ w'.cell? ⟨w.heap.size, 2, none⟩ = some (.slice yp yn yc) ∧ w'.cell? ⟨w.heap.size, 3, none⟩ = some (.slice op on oc) ∧ w'.cell? ⟨w.heap.size, 4, none⟩ = some (.slice up un uc) ∧ w'.cell? ⟨w.heap.size, 5, none⟩ = some (.int .i64 s)))) := fun w' rs h m1 => by
      obtain ⟨y0, y1, y2, y3, y4, y5, _, _⟩ := g6 h (K := kG) (g := k5) (n := 1) (q := ⟨t, q, ⟨some ⟨c1, 0, none⟩, yn, yn⟩, ⟨some ⟨c2, 0, none⟩, on, on⟩, ⟨some ⟨c3, 0, none⟩, un, un⟩, s⟩) m1 rfl
      exact ⟨⟨y0, y1, y2, y3, y4, y5⟩, bx6 h.bel⟩
    go_region_held3 (fun w' => ((w'.cell? ⟨k5, 0, none⟩ = some (.int .i64 t) ∧ w'.cell? ⟨k5, 1, none⟩ = some (.int .i64 q) ∧ w'.cell? ⟨k5, 2, none⟩ = some (.slice (some ⟨c1, 0, none⟩) yn yn) ∧ w'.cell? ⟨k5, 3, none⟩ = some (.slice (some ⟨c2, 0, none⟩) on on) ∧ w'.cell? ⟨k5, 4, none⟩ = some (.slice (some ⟨c3, 0, none⟩) un un) ∧ w'.cell? ⟨k5, 5, none⟩ = some (.int .i64 s)) ∧ (w'.cell? ⟨w.heap.size, 0, none⟩ = some (.int .i64 t) ∧ w'.cell? ⟨w.heap.size, 1, none⟩ = some (.int .i64 q) ∧ w'.cell? ⟨w.heap.size, 2, none⟩ = some (.slice yp yn yc) ∧ w'.cell? ⟨w.heap.size, 3, none⟩ = some (.slice op on oc) ∧ w'.cell? ⟨w.heap.size, 4, none⟩ = some (.slice up un uc) ∧ w'.cell? ⟨w.heap.size, 5, none⟩ = some (.int .i64 s))))
      (first
        | assumption
        | with_reducible exact HK2.out _ _ hx (by simp)
        | with_reducible exact HK2.out _ _ (hx.step (Below.refl _ _).drew) (by simp))
      (first
        | (go_at_call 24; refine (HT.out _ (by first | with_reducible exact (h0.addL hx).bel | with_reducible exact (h0.addL (hx.step (Below.refl _ _).drew)).bel)).mono ?_; rintro e w7 ⟨d1, d2, d3, Q3, rfl, he3, hm3, hg3⟩; (first | with_reducible (replace hx := hx.addL hg3) | with_reducible (replace hx := (hx.step (Below.refl _ _).drew).addL hg3)); clear hg3)
        | (go_at_call 25; refine (HE.out _ c1 c2 c3 d1 d2 d3 Q2 Q3 (HRd.out _ _ _ _ _ _ _ hx (fun r hr => by simp [hr]) hm2) (HRd.out _ _ _ _ _ _ _ hx (fun r hr => by simp [hr]) hm3) he2 he3 hm2).mono ?_; rintro e w8 ⟨rfl, hb8⟩; replace hx := hx.step hb8; clear hb8))
    replace hx : Sg (w.alloc (.cells #[.int .i64 t, .int .i64 q, .slice yp yn yc, .slice op on oc, .slice up un uc, .int .i64 s] 43)) w8 (rG kG (.slice (some ⟨k6, 0, none⟩) 1 1) [⟨t2, q2, gy, go, gu, s2⟩] :: (gR ⟨t2, q2, gy, go, gu, s2⟩ Qg O2 V2 ++ (rG kG (.slice (some ⟨k5, 0, none⟩) 1 1) [⟨t, q, ⟨some ⟨c1, 0, none⟩, yn, yn⟩, ⟨some ⟨c2, 0, none⟩, on, on⟩, ⟨some ⟨c3, 0, none⟩, un, un⟩, s⟩] :: (gR ⟨t, q, ⟨some ⟨c1, 0, none⟩, yn, yn⟩, ⟨some ⟨c2, 0, none⟩, on, on⟩, ⟨some ⟨c3, 0, none⟩, un, un⟩, s⟩ Q2 O V ++ (rG kG (.slice (some ⟨k4, 0, none⟩) 1 1) [⟨t2, q2, wy, wo, wu, s2⟩] :: gR ⟨t2, q2, wy, wo, wu, s2⟩ Qw O2 V2))))) := hx.sub (List.sublist_append_right ..)
    have hxm : Sg (w.alloc (.cells #[.int .i64 t, .int .i64 q, .slice yp yn yc, .slice op on oc, .slice up un uc, .int .i64 s] 43)) w8 ((rG kG (.slice (some ⟨k6, 0, none⟩) 1 1) [⟨t2, q2, gy, go, gu, s2⟩] :: (gR ⟨t2, q2, gy, go, gu, s2⟩ Qg O2 V2 ++ [rG kG (.slice (some ⟨k5, 0, none⟩) 1 1) [⟨t, q, ⟨some ⟨c1, 0, none⟩, yn, yn⟩, ⟨some ⟨c2, 0, none⟩, on, on⟩, ⟨some ⟨c3, 0, none⟩, un, un⟩, s⟩]])) ++ (gR ⟨t, q, ⟨some ⟨c1, 0, none⟩, yn, yn⟩, ⟨some ⟨c2, 0, none⟩, on, on⟩, ⟨some ⟨c3, 0, none⟩, un, un⟩, s⟩ Q2 O V ++ (rG kG (.slice (some ⟨k4, 0, none⟩) 1 1) [⟨t2, q2, wy, wo, wu, s2⟩] :: gR ⟨t2, q2, wy, wo, wu, s2⟩ Qw O2 V2))) := by simpa using hx
    go_upto_region 13 with (fail)
    obtain ⟨x0, x1, x2, x3, x4, x5, xf, xg⟩ := g6 hx (K := kG) (g := k5) (n := 1) (q := ⟨t, q, ⟨some ⟨c1, 0, none⟩, yn, yn⟩, ⟨some ⟨c2, 0, none⟩, on, on⟩, ⟨some ⟨c3, 0, none⟩, un, un⟩, s⟩) (by simp) rfl; dsimp only at x0 x1 x2 x3 x4 x5
    clear hx
    go_upto_region 14 with (go_at_call 26; refine (HM1.out _ _ _ _ c1 c2 c3 Q2 hxm hm2 he2).mono ?_; rintro e w9 ⟨v9, rfl, hv9, hx9⟩; clear x0 x1 x2 x3 x4 x5)
    clear hxm xf xg
    have hx : Sg (w.alloc (.cells #[.int .i64 t, .int .i64 q, .slice yp yn yc, .slice op on oc, .slice up un uc, .int .i64 s] 43)) w9 (rG kG (.slice (some ⟨k6, 0, none⟩) 1 1) [⟨t2, q2, gy, go, gu, s2⟩] :: (gR ⟨t2, q2, gy, go, gu, s2⟩ Qg O2 V2 ++ (rG kG (.slice (some ⟨k4, 0, none⟩) 1 1) [⟨t2, q2, wy, wo, wu, s2⟩] :: gR ⟨t2, q2, wy, wo, wu, s2⟩ Qw O2 V2))) := (show Sg (w.alloc (.cells #[.int .i64 t, .int .i64 q, .slice yp yn yc, .slice op on oc, .slice up un uc, .int .i64 s] 43)) w9 (rG kG (.slice (some ⟨k6, 0, none⟩) 1 1) [⟨t2, q2, gy, go, gu, s2⟩] :: (gR ⟨t2, q2, gy, go, gu, s2⟩ Qg O2 V2 ++ (rG kG (.slice (some ⟨k5, 0, none⟩) 1 1) [⟨t, q, ⟨some ⟨c1, 0, none⟩, yn, yn⟩, ⟨some ⟨c2, 0, none⟩, on, on⟩, ⟨some ⟨c3, 0, none⟩, un, un⟩, s⟩] :: (rG kG (.slice (some ⟨k4, 0, none⟩) 1 1) [⟨t2, q2, wy, wo, wu, s2⟩] :: gR ⟨t2, q2, wy, wo, wu, s2⟩ Qw O2 V2)))) by simpa using hx9).sub (List.Sublist.cons_cons _ (List.Sublist.append_left (List.sublist_cons_self ..) _))
    clear hx9
    obtain ⟨y0, y1, y2, y3, y4, y5, yf, yg⟩ := g6 hx (K := kG) (g := k6) (n := 1) (q := ⟨t2, q2, gy, go, gu, s2⟩) (by simp) rfl; dsimp only at y0 y1 y2 y3 y4 y5
    obtain ⟨z0, z1, z2, z3, z4, z5, zf, zg⟩ := g6 hx (K := kG) (g := k4) (n := 1) (q := ⟨t2, q2, wy, wo, wu, s2⟩) (by simp) rfl; dsimp only at z0 z1 z2 z3 z4 z5
    go_upto_region 17 with (go_at_call 25; refine (HE2.out _ _ _ gy go gu wy wo wu Qg Qw hx (fun r hr => by simp [hr]) (fun r hr => by simp [hr]) hqg hqw heg hew).mono ?_; rintro e w10 ⟨rfl, hb10⟩; replace hx := hx.step hb10; clear y0 y1 y2 y3 y4 y5; clear z0 z1 z2 z3 z4 z5; clear yf yg zf zg; obtain ⟨y0, y1, y2, y3, y4, y5, yf, yg⟩ := g6 hx (K := kG) (g := k6) (n := 1) (q := ⟨t2, q2, gy, go, gu, s2⟩) (by simp) rfl; dsimp only at y0 y1 y2 y3 y4 y5)
    obtain ⟨vm, hvm⟩ : ∃ z : Int, mkE 1 Qg + go.n + gu.n = z := ⟨_, rfl⟩
    have hvp : ¬ vm < 0 := by rw [← hvm]; exact mk_pos _ _ _
    have hgl : go.n ≤ 1000 ∧ gu.n ≤ 1000 := by
      obtain ⟨l1, l2, l3⟩ := gR_len hx (h := ⟨t2, q2, gy, go, gu, s2⟩) (QL := Qg) (O := O2) (V := V2) (fun r hr => by simp [hr])
      have := HB.out
      simp only at l2 l3
      omega
    have hxm : Sg (w.alloc (.cells #[.int .i64 t, .int .i64 q, .slice yp yn yc, .slice op on oc, .slice up un uc, .int .i64 s] 43)) w10 ([rG kG (.slice (some ⟨k6, 0, none⟩) 1 1) [⟨t2, q2, gy, go, gu, s2⟩]] ++ (gR ⟨t2, q2, gy, go, gu, s2⟩ Qg O2 V2 ++ (rG kG (.slice (some ⟨k4, 0, none⟩) 1 1) [⟨t2, q2, wy, wo, wu, s2⟩] :: gR ⟨t2, q2, wy, wo, wu, s2⟩ Qw O2 V2))) := hx
    clear hx
    go_upto_region 19 with (go_at_call 26; refine (HM2.out _ _ _ _ gy go gu Qg vm hxm hqg heg hvm).mono ?_; rintro e w11 ⟨rfl, hx11⟩; clear y0 y1 y2 y3 y4 y5; clear yf yg)
    have hx : Sg (w.alloc (.cells #[.int .i64 t, .int .i64 q, .slice yp yn yc, .slice op on oc, .slice up un uc, .int .i64 s] 43)) w11 (rG kG (.slice (some ⟨k6, 0, none⟩) 1 1) [⟨t2, q2, gy, go, gu, s2⟩] :: (gR ⟨t2, q2, gy, go, gu, s2⟩ (mkY 1 Qg) (mk1 (mkE 1 Qg) go.n) (mk1 (mkE 1 Qg + go.n) gu.n) ++ (rG kG (.slice (some ⟨k4, 0, none⟩) 1 1) [⟨t2, q2, wy, wo, wu, s2⟩] :: gR ⟨t2, q2, wy, wo, wu, s2⟩ Qw O2 V2))) := hx11
    clear hxm hx11
    obtain ⟨y0, y1, y2, y3, y4, y5, yf, yg⟩ := g6 hx (K := kG) (g := k6) (n := 1) (q := ⟨t2, q2, gy, go, gu, s2⟩) (by simp) rfl; dsimp only at y0 y1 y2 y3 y4 y5
    go_upto_region 24 with (go_at_call 27; refine (HH.out _ _ _ gy go gu Qg vm hx (fun r hr => by simp [hr]) hgl hqg heg hvm).mono ?_; rintro e w12 ⟨rfl, hb12⟩; replace hx := hx.step hb12; clear y0 y1 y2 y3 y4 y5; clear yf yg)
    obtain ⟨b0, b1, b2, b3, b4, b5⟩ := bx6 hx.bel
    go_upto_region 25 with (first
      | (go_at_call 24; refine (HT.out _ (h0.addL hx).bel).mono ?_; rintro e w13 ⟨d1, d2, d3, Q4, rfl, he4, hm4, hg4⟩; replace hx := hx.addL hg4; clear hg4; clear b0 b1 b2 b3 b4 b5)
      | (go_at_call 9; refine (HI.out _ _ _ d1 d2 d3 Q4 hx (fun r hr => by simp [hr]) hm4 he4).mono ?_; rintro e w14 ⟨hy, ho, hu, Qh, rfl, heh, hqh, hg5⟩; replace hx := hx.addL hg5; clear hg5))
    replace hx : Sg (w.alloc (.cells #[.int .i64 t, .int .i64 q, .slice yp yn yc, .slice op on oc, .slice up un uc, .int .i64 s] 43)) (w14.alloc (.cells #[.int .i64 t2, .int .i64 q2, .slice hy.p hy.n hy.c, .slice ho.p ho.n ho.c, .slice hu.p hu.n hu.c, .int .i64 s2] 27)) (rG kG (.slice (some ⟨w14.heap.size, 0, none⟩) 1 1) [⟨t2, q2, hy, ho, hu, s2⟩] :: (gR ⟨t2, q2, hy, ho, hu, s2⟩ Qh O2 V2 ++ (gR ⟨t, q, ⟨some ⟨d1, 0, none⟩, yn, yn⟩, ⟨some ⟨d2, 0, none⟩, on, on⟩, ⟨some ⟨d3, 0, none⟩, un, un⟩, s⟩ Q4 O V ++ (rG kG (.slice (some ⟨k6, 0, none⟩) 1 1) [⟨t2, q2, gy, go, gu, s2⟩] :: (gR ⟨t2, q2, gy, go, gu, s2⟩ (mkY 1 Qg) (mk1 (mkE 1 Qg) go.n) (mk1 (mkE 1 Qg + go.n) gu.n) ++ (rG kG (.slice (some ⟨k4, 0, none⟩) 1 1) [⟨t2, q2, wy, wo, wu, s2⟩] :: gR ⟨t2, q2, wy, wo, wu, s2⟩ Qw O2 V2)))))) := hx.lit kG [⟨t2, q2, hy, ho, hu, s2⟩] 1 rfl (by decide) #[.int .i64 t2, .int .i64 q2, .slice hy.p hy.n hy.c, .slice ho.p ho.n ho.c, .slice hu.p hu.n hu.c, .int .i64 s2] rfl
    obtain ⟨y0, y1, y2, y3, y4, y5, yf, yg⟩ := g6 hx (K := kG) (g := w14.heap.size) (n := 1) (q := ⟨t2, q2, hy, ho, hu, s2⟩) (by simp) rfl; dsimp only at y0 y1 y2 y3 y4 y5
    obtain ⟨z0, z1, z2, z3, z4, z5, zf, zg⟩ := g6 hx (K := kG) (g := k4) (n := 1) (q := ⟨t2, q2, wy, wo, wu, s2⟩) (by simp) rfl; dsimp only at z0 z1 z2 z3 z4 z5
    go_upto_region 28 with (go_at_call 25; refine (HE2.out _ _ _ hy ho hu wy wo wu Qh Qw hx (fun r hr => by simp [hr]) (fun r hr => by simp [hr]) hqh hqw heh hew).mono ?_; rintro e w15 ⟨rfl, hb15⟩; replace hx := hx.step hb15; clear y0 y1 y2 y3 y4 y5; clear z0 z1 z2 z3 z4 z5; clear yf yg zf zg)
    obtain ⟨y0, y1, y2, y3, y4, y5, yf, yg⟩ := g6 hx (K := kG) (g := k6) (n := 1) (q := ⟨t2, q2, gy, go, gu, s2⟩) (by simp) rfl; dsimp only at y0 y1 y2 y3 y4 y5
    go_wp2_with (go_at_call 27; refine (HH.out _ _ _ gy go gu Qg vm hx (fun r hr => by simp [hr]) hgl hqg heg hvm).mono ?_; rintro e w16 ⟨rfl, hb16⟩; replace hx := hx.step hb16; clear y0 y1 y2 y3 y4 y5; clear yf yg)
    go_ret
    exact ⟨rfl, (h0.addL hx).bel⟩
  · have HZ := Lib.hid (fun W (hb : Below w.heap.size w W) => szDeal_v (h := h) (QL := QL) (O := O) (V := V) (v := -1) (by rw [if_pos (by omega)]) W (H.step hb) hs)
    obtain ⟨t, q, ⟨yp, yn, yc⟩, ⟨op, on, oc⟩, ⟨up, un, uc⟩, s⟩ := h
    have h0 := sg_bel (below_alloc1 w (.cells #[.int .i64 t, .int .i64 q, .slice yp yn yc, .slice op on oc, .slice up un uc, .int .i64 s] 43))
    clear H hs hz
    go_enter Tryz.func4, Tryz.ntmps4
    go_wp2_with (go_at_call 23; refine (HZ.out _ h0.bel).mono ?_; rintro e w1 ⟨rfl, hb1⟩)
    go_ret
    exact ⟨rfl, (h0.step hb1).bel⟩
end Go.Proofs.YtobbankkfplooaaGreat.K.G
