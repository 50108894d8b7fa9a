/-
  The law's looks at a Shard: how big, made the program's, alike.
-/
import Derived.Test.YtppoafggiejdgaaGreatKY5
namespace Go.Proofs.YtppoafggiejdgaaGreat.K.Y
open Go.Shelf Go.RowKit Go.Joins
attribute [local go_sem] Oper.semAt_some

/-- The law's Shard as one reads it. -/
structure RdLS (W : World) (h : Hv) (R : List Rc) (QL : List YQ) (O : List Int) : Prop where
  r : SlG kL W h.r.p R
  rn : R.length = h.r.n
  y : RdLY W h.y.p QL
  yn : QL.length = h.y.n
  o : SlG kI W h.o.p O
  on : O.length = h.o.n
  oi : ∀ z ∈ O, i64B z
theorem RdLS.step {w w' : World} {h : Hv} {R : List Rc} {QL : List YQ} {O : List Int} (H : RdLS w h R QL O) (hb : Below w.heap.size w w') : RdLS w' h R QL O :=
  ⟨H.r.step hb, H.rn, H.y.step hb, H.yn, H.o.step hb, H.on, H.oi⟩
/-- No list is longer than there is room. -/
structure SmS (h : Hv) (R : List Rc) (QL : List YQ) : Prop where
  r : h.r.n ≤ maxLen
  rs : ∀ r ∈ R, r.s.size ≤ maxLen
  y : h.y.n ≤ maxLen
  ys : SmY QL
  o : h.o.n ≤ maxLen
  g : h.g.size ≤ maxLen
def ssz (h : Hv) (R : List Rc) (QL : List YQ) : Nat := rsz R + (ysz QL + (h.o.n + h.g.size))
set_option maxRecDepth 100000 in
set_option maxHeartbeats 2000000 in
theorem szShard_v {h : Hv} {R : List Rc} {QL : List YQ} {O : List Int} {v : Int} (hv : (if 1048576 < ssz h R QL then -1 else 1048576 - (ssz h R QL : Int)) = v) (w : World) (H : RdLS w h R QL O) (hs : SmS h R QL) :
    Calls Tryz.prog 4 #[h.v, .int .i64 1048576] w fun e w' => e = .returned (.int .i64 v) ∧ Below w.heap.size w w' := by
  have HR := Lib.hid (fun W (hb : Below w.heap.size w W) v hv => szRecS_any h.r.p h.r.c R h.r.n H.rn 1048576 W (H.r.step hb) (by decide) (by decide) hs.r hs.rs (v := v) hv)
  have HY := Lib.hid (fun a (h0 : 0 ≤ a) (h1 : a ≤ 1048576) W (hb : Below w.heap.size w W) v hv => szReadyS_any h.y.p h.y.c QL h.y.n H.yn a W (H.y.step hb) h0 h1 hs.y hs.ys (v := v) hv)
  have HO := Lib.hid (fun a (h0 : 0 ≤ a) (h1 : a ≤ 1048576) W v hv => szInt64S_any h.o.p h.o.n h.o.c a W h0 h1 hs.o (v := v) hv)
  have hg := hs.g
  have ho := hs.o
  unfold maxLen at hg ho
  unfold ssz at hv
  have HV := Lib.hid hv
  clear H hs hv
  obtain ⟨⟨rp, rn, rc⟩, ⟨yp, yn, yc⟩, ⟨op, on, oc⟩, g, s⟩ := h
  simp only at HR HY HO HV hg ho
  have hlit := (Sg.nil w).lit kLSh [⟨⟨rp, rn, rc⟩, ⟨yp, yn, yc⟩, ⟨op, on, oc⟩, g, s⟩] 1 rfl (by decide) #[.slice rp rn rc, .slice yp yn yc, .slice op on oc, .string g, .int .i64 s] rfl
  change Sg w (w.alloc (.cells #[.slice rp rn rc, .slice yp yn yc, .slice op on oc, .string g, .int .i64 s] 26)) _ at hlit
  have HC := Lib.hid (fun W (hb : Sg w W [rG kLSh (.slice (some ⟨w.heap.size, 0, none⟩) 1 1) [⟨⟨rp, rn, rc⟩, ⟨yp, yn, yc⟩, ⟨op, on, oc⟩, g, s⟩]]) => sh5 hb (K := kLSh) (g := w.heap.size) (n := 1) (q := ⟨⟨rp, rn, rc⟩, ⟨yp, yn, yc⟩, ⟨op, on, oc⟩, g, s⟩) (by simp) rfl)
  simp only at HC
  generalize rsz R = a1 at HR HV
  generalize ysz QL = a2 at HY HV
  by_cases h1 : 1048576 < a1
  · have e1 : (if (1048576 : Int) < a1 then -1 else 1048576 - (a1 : Int)) = -1 := if_pos (by omega)
    go_enter Tryz.func4, Tryz.ntmps4
    go_wp2_with (go_at_call 11; refine (HR.out _ hlit.bel _ e1).mono ?_; rintro e w1 ⟨rfl, hb1⟩)
    go_ret
    exact ⟨ret_i64 (by rw [← HV.out, if_pos (by omega)]), bstep hlit.bel hb1 (Nat.le_refl _)⟩
  obtain ⟨b1, hb1⟩ : ∃ b : Int, 1048576 - (a1 : Int) = b := ⟨_, rfl⟩
  have e1 : (if (1048576 : Int) < a1 then -1 else 1048576 - (a1 : Int)) = b1 := (if_neg (by omega)).trans hb1
  have n1 : ¬ b1 < 0 := by omega
  have m1 : 0 ≤ b1 := by omega
  have k1 : b1 ≤ 1048576 := by omega
  by_cases h2 : b1 < a2
  · have e2 : (if b1 < (a2 : Int) then -1 else b1 - (a2 : Int)) = -1 := if_pos h2
    have HB := Lib.hid hb1
    clear hb1
    go_enter Tryz.func4, Tryz.ntmps4
    go_wp2_with (first
      | (go_at_call 11; refine (HR.out _ hlit.bel _ e1).mono ?_; rintro e w1 ⟨rfl, hbb⟩; have hS1 := hlit.step hbb; obtain ⟨y0, y1, y2, y3, y4, _, _⟩ := HC.out _ hS1)
      | (go_at_call 12; refine (HY.out _ m1 k1 _ hS1.bel _ e2).mono ?_; rintro e w2 ⟨rfl, hb2⟩))
    go_ret
    exact ⟨ret_i64 (by rw [← HV.out, if_pos (by have := HB.out; omega)]), bstep hS1.bel hb2 (Nat.le_refl _)⟩
  obtain ⟨b2, hb2⟩ : ∃ b : Int, b1 - (a2 : Int) = b := ⟨_, rfl⟩
  have e2 : (if b1 < (a2 : Int) then -1 else b1 - (a2 : Int)) = b2 := (if_neg h2).trans hb2
  have n2 : ¬ b2 < 0 := by omega
  have m2 : 0 ≤ b2 := by omega
  have k2 : b2 ≤ 1048576 := by omega
  by_cases h3 : b2 < on
  · have e3 : (if b2 < (on : Int) then -1 else b2 - (on : Int)) = -1 := if_pos h3
    have HB : Hid (1048576 - (a1 : Int) = b1 ∧ b1 - (a2 : Int) = b2) := ⟨hb1, hb2⟩
    clear hb1 hb2
    go_enter Tryz.func4, Tryz.ntmps4
    go_wp2_with (first
      | (go_at_call 11; refine (HR.out _ hlit.bel _ e1).mono ?_; rintro e w1 ⟨rfl, hbb⟩; have hS1 := hlit.step hbb; obtain ⟨y0, y1, y2, y3, y4, _, _⟩ := HC.out _ hS1)
      | (go_at_call 12; refine (HY.out _ m1 k1 _ hS1.bel _ e2).mono ?_; rintro e w2 ⟨rfl, hb2⟩; have hS2 := hS1.step hb2; obtain ⟨x0, x1, x2, x3, x4, _, _⟩ := HC.out _ hS2)
      | (go_at_call 13; refine (HO.out _ m2 k2 _ _ e3).mono ?_; rintro e w3 ⟨rfl, hw3⟩; obtain rfl := hw3.symm))
    go_ret
    exact ⟨ret_i64 (by rw [← HV.out, if_pos (by have := HB.out; omega)]), hS2.bel⟩
  obtain ⟨b3, hb3⟩ : ∃ b : Int, b2 - (on : Int) = b := ⟨_, rfl⟩
  have e3 : (if b2 < (on : Int) then -1 else b2 - (on : Int)) = b3 := (if_neg h3).trans hb3
  have n3 : ¬ b3 < 0 := by omega
  have m3 : 0 ≤ b3 := by omega
  have k3 : b3 ≤ 1048576 := by omega
  have HB : Hid (1048576 - (a1 : Int) = b1 ∧ b1 - (a2 : Int) = b2 ∧ b2 - (on : Int) = b3) := ⟨hb1, hb2, hb3⟩
  clear hb1 hb2 hb3
  by_cases h4 : b3 - (g.size : Int) < 0
  · go_enter Tryz.func4, Tryz.ntmps4
    go_wp2_with (first
      | (go_at_call 11; refine (HR.out _ hlit.bel _ e1).mono ?_; rintro e w1 ⟨rfl, hbb⟩; have hS1 := hlit.step hbb; obtain ⟨y0, y1, y2, y3, y4, _, _⟩ := HC.out _ hS1)
      | (go_at_call 12; refine (HY.out _ m1 k1 _ hS1.bel _ e2).mono ?_; rintro e w2 ⟨rfl, hb2⟩; have hS2 := hS1.step hb2; obtain ⟨x0, x1, x2, x3, x4, _, _⟩ := HC.out _ hS2)
      | (go_at_call 13; refine (HO.out _ m2 k2 _ _ e3).mono ?_; rintro e w3 ⟨rfl, hw3⟩; obtain rfl := hw3.symm))
    go_ret
    exact ⟨ret_i64 (by rw [← HV.out, if_pos (by have := HB.out; omega)]), hS2.bel⟩
  · go_enter Tryz.func4, Tryz.ntmps4
    go_wp2_with (first
      | (go_at_call 11; refine (HR.out _ hlit.bel _ e1).mono ?_; rintro e w1 ⟨rfl, hbb⟩; have hS1 := hlit.step hbb; obtain ⟨y0, y1, y2, y3, y4, _, _⟩ := HC.out _ hS1)
      | (go_at_call 12; refine (HY.out _ m1 k1 _ hS1.bel _ e2).mono ?_; rintro e w2 ⟨rfl, hb2⟩; have hS2 := hS1.step hb2; obtain ⟨x0, x1, x2, x3, x4, _, _⟩ := HC.out _ hS2)
      | (go_at_call 13; refine (HO.out _ m2 k2 _ _ e3).mono ?_; rintro e w3 ⟨rfl, hw3⟩; obtain rfl := hw3.symm))
    go_ret
    exact ⟨ret_i64 (by rw [← HV.out, if_neg (by have := HB.out; omega)]; have := HB.out; omega), hS2.bel⟩
/-- The rows of a Shard of one's own. -/
def shR (h : Hv) (R : List Rc) (QL : List YQ) (O : List Int) : List Rw := rG kI (.slice h.o.p h.o.n h.o.c) O :: (trY (.slice h.y.p h.y.n h.y.c) QL [] ++ [rG kR (.slice h.r.p h.r.n h.r.c) R])
theorem Sg.setH0 {w W : World} {A Bs : List Rw} {g n : Nat} {a : Hv} (h : Sg w W (A ++ rG kSh (.slice (some ⟨g, 0, none⟩) 1 n) [a] :: Bs)) (u : Sv) : Sg w (W.setCell ⟨g, 0, none⟩ (.slice u.p u.n u.c)) (A ++ rG kSh (.slice (some ⟨g, 0, none⟩) 1 n) [⟨u, a.y, a.o, a.g, a.s⟩] :: Bs) := Sg.setRaw h 0 (.slice u.p u.n u.c)
theorem Sg.setH1 {w W : World} {A Bs : List Rw} {g n : Nat} {a : Hv} (h : Sg w W (A ++ rG kSh (.slice (some ⟨g, 0, none⟩) 1 n) [a] :: Bs)) (u : Sv) : Sg w (W.setCell ⟨g, 1, none⟩ (.slice u.p u.n u.c)) (A ++ rG kSh (.slice (some ⟨g, 0, none⟩) 1 n) [⟨a.r, u, a.o, a.g, a.s⟩] :: Bs) := Sg.setRaw h 1 (.slice u.p u.n u.c)
theorem Sg.setH2 {w W : World} {A Bs : List Rw} {g n : Nat} {a : Hv} (h : Sg w W (A ++ rG kSh (.slice (some ⟨g, 0, none⟩) 1 n) [a] :: Bs)) (u : Sv) : Sg w (W.setCell ⟨g, 2, none⟩ (.slice u.p u.n u.c)) (A ++ rG kSh (.slice (some ⟨g, 0, none⟩) 1 n) [⟨a.r, a.y, u, a.g, a.s⟩] :: Bs) := Sg.setRaw h 2 (.slice u.p u.n u.c)
theorem Sg.setH3 {w W : World} {A Bs : List Rw} {g n : Nat} {a : Hv} (h : Sg w W (A ++ rG kSh (.slice (some ⟨g, 0, none⟩) 1 n) [a] :: Bs)) (u : ByteArray) : Sg w (W.setCell ⟨g, 3, none⟩ (.string u)) (A ++ rG kSh (.slice (some ⟨g, 0, none⟩) 1 n) [⟨a.r, a.y, a.o, u, a.s⟩] :: Bs) := Sg.setRaw h 3 (.string u)
theorem Sg.setH4 {w W : World} {A Bs : List Rw} {g n : Nat} {a : Hv} (h : Sg w W (A ++ rG kSh (.slice (some ⟨g, 0, none⟩) 1 n) [a] :: Bs)) (u : Int) : Sg w (W.setCell ⟨g, 4, none⟩ (.int .i64 u)) (A ++ rG kSh (.slice (some ⟨g, 0, none⟩) 1 n) [⟨a.r, a.y, a.o, a.g, u⟩] :: Bs) := Sg.setRaw h 4 (.int .i64 u)
theorem Sg.setH {w W : World} {A Bs : List Rw} {g n : Nat} {a : Hv} (h : Sg w W (A ++ rG kSh (.slice (some ⟨g, 0, none⟩) 1 n) [a] :: Bs)) (q : Hv) : Sg w (((((W.setCell ⟨g, 0, none⟩ (.slice q.r.p q.r.n q.r.c)).setCell ⟨g, 1, none⟩ (.slice q.y.p q.y.n q.y.c)).setCell ⟨g, 2, none⟩ (.slice q.o.p q.o.n q.o.c)).setCell ⟨g, 3, none⟩ (.string q.g)).setCell ⟨g, 4, none⟩ (.int .i64 q.s)) (A ++ rG kSh (.slice (some ⟨g, 0, none⟩) 1 n) [q] :: Bs) :=
  Sg.setH4 (Sg.setH3 (Sg.setH2 (Sg.setH1 (Sg.setH0 h q.r) q.y) q.o) q.g) q.s
set_option maxRecDepth 100000 in
set_option maxHeartbeats 4000000 in
theorem toShard_any (h : Hv) (R : List Rc) (QL : List YQ) (O : List Int) (w : World) (H : RdLS w h R QL O) (hr : h.r.n ≤ 1048576) (hy : h.y.n ≤ 1048576) (ho : h.o.n ≤ 1048576) (hsm : ∀ q ∈ QL, q.2.n ≤ 1048576) :
    Calls Tryz.prog 6 #[h.v] w fun e w' => ∃ (g1 g2 g3 : Nat) (Q2 : List YQ), e = .returned (Hv.v ⟨⟨some ⟨g1, 0, none⟩, h.r.n, h.r.n⟩, ⟨some ⟨g2, 0, none⟩, h.y.n, h.y.n⟩, ⟨some ⟨g3, 0, none⟩, h.o.n, h.o.n⟩, h.g, h.s⟩) ∧ yds Q2 = yds QL ∧ (∀ q ∈ Q2, q.2.n ≤ 1048576 ∧ q.1.L.length = q.2.n) ∧ Sg w w' (shR ⟨⟨some ⟨g1, 0, none⟩, h.r.n, h.r.n⟩, ⟨some ⟨g2, 0, none⟩, h.y.n, h.y.n⟩, ⟨some ⟨g3, 0, none⟩, h.o.n, h.o.n⟩, h.g, h.s⟩ R Q2 O) := by
  have HR := Lib.hid (fun W (hb : Below w.heap.size w W) => toRecS_any h.r.p h.r.c R h.r.n H.rn W (H.r.step hb) hr)
  have HY := Lib.hid (fun W (hb : Below w.heap.size w W) => toReadyS_any h.y.p h.y.c QL h.y.n H.yn hy hsm W (H.y.step hb))
  have HO := Lib.hid (fun W (hb : Below w.heap.size w W) => toInt64S_any h.o.p h.o.c O h.o.n H.on ho W (H.o.step hb))
  clear H hsm
  obtain ⟨⟨rp, rn, rc⟩, ⟨yp, yn, yc⟩, ⟨op, on, oc⟩, g, s⟩ := h
  simp only at HR HY HO hr hy ho ⊢
  have hS1 := ((((Sg.nil w).lit kLSh [⟨⟨rp, rn, rc⟩, ⟨yp, yn, yc⟩, ⟨op, on, oc⟩, g, s⟩] 1 rfl (by decide) #[.slice rp rn rc, .slice yp yn yc, .slice op on oc, .string g, .int .i64 s] rfl).lit kSh [zhv] 1 rfl (by decide) #[.slice none 0 0, .slice none 0 0, .slice none 0 0, .string ByteArray.empty, .int .i64 0] rfl).lit kSh [zhv] 1 rfl (by decide) #[.slice none 0 0, .slice none 0 0, .slice none 0 0, .string ByteArray.empty, .int .i64 0] rfl)
  simp only [World.size_alloc] at hS1
  go_enter Tryz.func6, Tryz.ntmps6
  go_wp2_with (first
    | (go_at_call 16; refine (HR.out _ hS1.bel).mono ?_; rintro e w2 ⟨g1, rfl, hw2⟩; have hS2 := hS1.addL hw2; obtain ⟨t0, t1, t2, t3, t4, tf, tg⟩ := sh5 hS2 (K := kSh) (g := w.heap.size + 1 + 1) (n := 1) (q := zhv) (by simp) rfl; obtain ⟨x0, x1, x2, x3, x4, _, xg⟩ := sh5 hS2 (K := kLSh) (g := w.heap.size) (n := 1) (q := ⟨⟨rp, rn, rc⟩, ⟨yp, yn, yc⟩, ⟨op, on, oc⟩, g, s⟩) (by simp) rfl; simp only [zhv] at t0 t1 t2 t3 t4; have hS3 := Sg.setH0 (A := [rG kR (.slice (some ⟨g1, 0, none⟩) rn rn) R]) (a := zhv) hS2 ⟨some ⟨g1, 0, none⟩, rn, rn⟩)
    | (go_at_call 17; refine (HY.out _ hS3.bel).mono ?_; rintro e w4 ⟨g2, Q2, rfl, hQ1, hQ2, hw4⟩; have hS4 := hS3.addL hw4; clear t0 t1 t2 t3 t4 tf tg x0 x1 x2 x3 x4 xg; obtain ⟨t0, t1, t2, t3, t4, tf, tg⟩ := sh5 hS4 (K := kSh) (g := w.heap.size + 1 + 1) (n := 1) (q := ⟨⟨some ⟨g1, 0, none⟩, rn, rn⟩, ⟨none, 0, 0⟩, ⟨none, 0, 0⟩, ByteArray.empty, 0⟩) (by simp [trY, zhv]) rfl; obtain ⟨x0, x1, x2, x3, x4, _, xg⟩ := sh5 hS4 (K := kLSh) (g := w.heap.size) (n := 1) (q := ⟨⟨rp, rn, rc⟩, ⟨yp, yn, yc⟩, ⟨op, on, oc⟩, g, s⟩) (by simp [trY]) rfl; simp only at t0 t1 t2 t3 t4; have hS5 := Sg.setH1 (A := trY (.slice (some ⟨g2, 0, none⟩) yn yn) Q2 [] ++ [rG kR (.slice (some ⟨g1, 0, none⟩) rn rn) R]) (a := ⟨⟨some ⟨g1, 0, none⟩, rn, rn⟩, ⟨none, 0, 0⟩, ⟨none, 0, 0⟩, ByteArray.empty, 0⟩) (by rw [List.append_assoc]; exact hS4) ⟨some ⟨g2, 0, none⟩, yn, yn⟩)
    | (go_at_call 18; refine (HO.out _ hS5.bel).mono ?_; rintro e w6 ⟨g3, rfl, hw6⟩; have hS6 := hS5.addL hw6; clear t0 t1 t2 t3 t4 tf tg x0 x1 x2 x3 x4 xg; obtain ⟨t0, t1, t2, t3, t4, tf, tg⟩ := sh5 hS6 (K := kSh) (g := w.heap.size + 1 + 1) (n := 1) (q := ⟨⟨some ⟨g1, 0, none⟩, rn, rn⟩, ⟨some ⟨g2, 0, none⟩, yn, yn⟩, ⟨none, 0, 0⟩, ByteArray.empty, 0⟩) (by simp [trY]) rfl; obtain ⟨v0, v1, v2, v3, v4, vf, vg⟩ := sh5 hS6 (K := kSh) (g := w.heap.size + 1) (n := 1) (q := zhv) (by simp [trY]) rfl; obtain ⟨x0, x1, x2, x3, x4, _, xg⟩ := sh5 hS6 (K := kLSh) (g := w.heap.size) (n := 1) (q := ⟨⟨rp, rn, rc⟩, ⟨yp, yn, yc⟩, ⟨op, on, oc⟩, g, s⟩) (by simp [trY]) rfl; simp only [zhv] at v0 v1 v2 v3 v4))
  have hS7 := Sg.setH2 (A := shR ⟨⟨some ⟨g1, 0, none⟩, rn, rn⟩, ⟨some ⟨g2, 0, none⟩, yn, yn⟩, ⟨some ⟨g3, 0, none⟩, on, on⟩, g, s⟩ R Q2 O) (g := w.heap.size + 1 + 1) (n := 1) (a := ⟨⟨some ⟨g1, 0, none⟩, rn, rn⟩, ⟨some ⟨g2, 0, none⟩, yn, yn⟩, ⟨none, 0, 0⟩, ByteArray.empty, 0⟩) hS6 ⟨some ⟨g3, 0, none⟩, on, on⟩
  have hS8 := Sg.setH4 (Sg.setH3 hS7 g) s
  have hS9 := Sg.setH (A := shR ⟨⟨some ⟨g1, 0, none⟩, rn, rn⟩, ⟨some ⟨g2, 0, none⟩, yn, yn⟩, ⟨some ⟨g3, 0, none⟩, on, on⟩, g, s⟩ R Q2 O ++ [rG kSh (.slice (some ⟨w.heap.size + 1 + 1, 0, none⟩) 1 1) [⟨⟨some ⟨g1, 0, none⟩, rn, rn⟩, ⟨some ⟨g2, 0, none⟩, yn, yn⟩, ⟨some ⟨g3, 0, none⟩, on, on⟩, g, s⟩]]) (g := w.heap.size + 1) (n := 1) (a := zhv) (by rw [List.append_assoc]; exact hS8) ⟨⟨some ⟨g1, 0, none⟩, rn, rn⟩, ⟨some ⟨g2, 0, none⟩, yn, yn⟩, ⟨some ⟨g3, 0, none⟩, on, on⟩, g, s⟩
  refine bodyPost_ret (v := .agg #[.slice (some ⟨g1, 0, none⟩) rn rn, .slice (some ⟨g2, 0, none⟩) yn yn, .slice (some ⟨g3, 0, none⟩) on on, .string g, .int .i64 s]) (by simp [results, Tryz.results6, go_sem, v0, v1, v2, v3, v4]) rfl ⟨g1, g2, g3, Q2, rfl, hQ1, hQ2, ?_⟩
  refine hS9.sub ?_
  rw [List.append_assoc]
  exact List.sublist_append_left ..
/-- What the rows tell a reader. -/
theorem trY_rd {w W : World} {rs : List Rw} {p : Option Addr} {n c : Nat} {QL : List YQ} (h : Sg w W rs) (hm : ∀ r ∈ trY (.slice p n c) QL [], r ∈ rs) (hl : ∀ q ∈ QL, q.1.L.length = q.2.n) : RdY W p QL := by
  refine ⟨OwG.sl (h.mem (K := kY) (v := .slice p n c) (L := QL) (hm _ (by simp [trY]))), fun y hy => ⟨OwG.sl (h.mem (K := I.kR) (v := .slice y.2.p y.2.n y.2.c) (L := y.1.L) (hm _ ?_)), hl y hy⟩⟩
  unfold trY
  exact List.mem_cons_of_mem _ (List.mem_map.2 ⟨y, hy, rfl⟩)
theorem shR_rd {w W : World} {rs : List Rw} {h : Hv} {R : List Rc} {QL : List YQ} {O : List Int} (hS : Sg w W rs) (hm : ∀ r ∈ shR h R QL O, r ∈ rs) (hq : ∀ q ∈ QL, q.2.n ≤ 1048576 ∧ q.1.L.length = q.2.n) (ho : ∀ z ∈ O, i64B z) (hb : h.r.n ≤ 10000000 ∧ h.y.n ≤ 10000000 ∧ h.o.n ≤ 10000000 ∧ h.g.size ≤ 10000000) : RdS W h R QL O := by
  have h1 := hS.mem (K := kI) (v := .slice h.o.p h.o.n h.o.c) (L := O) (hm _ (by simp [shR]))
  have h2 := hS.mem (K := kR) (v := .slice h.r.p h.r.n h.r.c) (L := R) (hm _ (by simp [shR]))
  have h3 := hS.mem (K := kY) (v := .slice h.y.p h.y.n h.y.c) (L := QL) (hm _ (by simp [shR, trY]))
  refine ⟨OwG.sl h2, (OwG.len h2).symm, trY_rd (n := h.y.n) (c := h.y.c) hS (fun r hr => hm r (by unfold shR; exact List.mem_cons_of_mem _ (List.mem_append_left _ hr))) (fun q h => (hq q h).2), (OwG.len h3).symm, OwG.sl h1, (OwG.len h1).symm, ho, fun y hy => by have := (hq y hy).1; omega, hb⟩
set_option maxRecDepth 100000 in
set_option maxHeartbeats 4000000 in
theorem eqShard_same (a b : Hv) (R : List Rc) (A B : List YQ) (O : List Int) (w : World) (Ha : RdS w a R A O) (Hb : RdS w b R B O) (he : yds A = yds B) (hg : a.g = b.g) (hs : a.s = b.s) (hsm : ∀ y ∈ A, y.2.n ≤ 1048576) :
    Calls Tryz.prog 8 #[a.v, b.v] w fun e w' => e = .returned (.bool true) ∧ Below w.heap.size w w' := by
  have e1 : b.r.n = a.r.n := by rw [← Ha.rn, ← Hb.rn]
  have e2 : b.y.n = a.y.n := by rw [← Ha.yn, ← Hb.yn, ← yds_len, ← yds_len, he]
  have e3 : b.o.n = a.o.n := by rw [← Ha.on, ← Hb.on]
  have HR := Lib.hid (fun W (h : Below w.heap.size w W) => eqRecS_same a.r.p b.r.p a.r.c b.r.c R a.r.n Ha.rn W (Ha.r.step h) (Hb.r.step h) Ha.b.1)
  have HY := Lib.hid (fun W (h : Below w.heap.size w W) => eqReadyS_same a.y.p b.y.p a.y.c b.y.c A B a.y.n Ha.yn he hsm W (Ha.y.step h) (Hb.y.step h) Ha.b.2.1)
  have HO := Lib.hid (fun W (h : Below w.heap.size w W) => eqInt64S_same a.o.p b.o.p a.o.c b.o.c O a.o.n Ha.on W (Ha.o.step h) (Hb.o.step h) Ha.b.2.2.1)
  clear Ha Hb he hsm
  obtain ⟨⟨rp, rn, rc⟩, ⟨yp, yn, yc⟩, ⟨op, on, oc⟩, g, s⟩ := a
  obtain ⟨⟨rp2, rn2, rc2⟩, ⟨yp2, yn2, yc2⟩, ⟨op2, on2, oc2⟩, g2, s2⟩ := b
  simp only at e1 e2 e3 hg hs HR HY HO
  subst e1 e2 e3 hg hs
  have hS0 := ((Sg.nil w).lit kSh [⟨⟨rp, rn2, rc⟩, ⟨yp, yn2, yc⟩, ⟨op, on2, oc⟩, g, s⟩] 1 rfl (by decide) #[.slice rp rn2 rc, .slice yp yn2 yc, .slice op on2 oc, .string g, .int .i64 s] rfl).lit kSh [⟨⟨rp2, rn2, rc2⟩, ⟨yp2, yn2, yc2⟩, ⟨op2, on2, oc2⟩, g, s⟩] 1 rfl (by decide) #[.slice rp2 rn2 rc2, .slice yp2 yn2 yc2, .slice op2 on2 oc2, .string g, .int .i64 s] rfl
  simp only [World.size_alloc] at hS0
  change Sg w ((w.alloc (.cells #[.slice rp rn2 rc, .slice yp yn2 yc, .slice op on2 oc, .string g, .int .i64 s] 31)).alloc (.cells #[.slice rp2 rn2 rc2, .slice yp2 yn2 yc2, .slice op2 on2 oc2, .string g, .int .i64 s] 31)) _ at hS0
  have HC := Lib.hid (fun W (hb : Sg w W [rG kSh (.slice (some ⟨w.heap.size + 1, 0, none⟩) 1 1) [⟨⟨rp2, rn2, rc2⟩, ⟨yp2, yn2, yc2⟩, ⟨op2, on2, oc2⟩, g, s⟩], rG kSh (.slice (some ⟨w.heap.size, 0, none⟩) 1 1) [⟨⟨rp, rn2, rc⟩, ⟨yp, yn2, yc⟩, ⟨op, on2, oc⟩, g, s⟩]]) => (⟨sh5 hb (K := kSh) (g := w.heap.size) (n := 1) (q := ⟨⟨rp, rn2, rc⟩, ⟨yp, yn2, yc⟩, ⟨op, on2, oc⟩, g, s⟩) (by simp) rfl, sh5 hb (K := kSh) (g := w.heap.size + 1) (n := 1) (q := ⟨⟨rp2, rn2, rc2⟩, ⟨yp2, yn2, yc2⟩, ⟨op2, on2, oc2⟩, g, s⟩) (by simp) rfl⟩ : _ ∧ _))
  simp only at HC
  go_enter Tryz.func8, Tryz.ntmps8
  go_wp2_with (first
    | (go_at_call 21; refine (HR.out _ hS0.bel).mono ?_; rintro e w1 ⟨rfl, hb1⟩; have hS1 := hS0.step hb1; obtain ⟨⟨x0, x1, x2, x3, x4, _, _⟩, ⟨y0, y1, y2, y3, y4, _, _⟩⟩ := HC.out _ hS1)
    | (go_at_call 22; refine (HY.out _ hS1.bel).mono ?_; rintro e w2 ⟨rfl, hb2⟩; have hS2 := hS1.step hb2; clear x0 x1 x2 x3 x4 y0 y1 y2 y3 y4; obtain ⟨⟨x0, x1, x2, x3, x4, _, _⟩, ⟨y0, y1, y2, y3, y4, _, _⟩⟩ := HC.out _ hS2)
    | (go_at_call 23; refine (HO.out _ hS2.bel).mono ?_; rintro e w3 ⟨rfl, hb3⟩; have hS3 := hS2.step hb3; clear x0 x1 x2 x3 x4 y0 y1 y2 y3 y4; obtain ⟨⟨x0, x1, x2, x3, x4, _, _⟩, ⟨y0, y1, y2, y3, y4, _, _⟩⟩ := HC.out _ hS3))
  go_ret
  exact ⟨rfl, hS3.bel⟩
end Go.Proofs.YtppoafggiejdgaaGreat.K.Y
