/-
  A Deal in memory; the law's looks at it: how big, made the program's, alike.
-/
import Derived.Test.YtobbankkfplooaaGreatKY6
namespace Go.Proofs.YtobbankkfplooaaGreat.K.G
open Go.Shelf Go.RowKit Go.Joins Y
attribute [local go_sem] Oper.semAt_some

/-- A Deal's cells. -/
structure Gv where
  t : Int
  q : Int
  y : Sv
  o : Sv
  u : Sv
  s : Int
abbrev Gv.v (h : Gv) : Value := .agg #[.int .i64 h.t, .int .i64 h.q, .slice h.y.p h.y.n h.y.c, .slice h.o.p h.o.n h.o.c, .slice h.u.p h.u.n h.u.c, .int .i64 h.s]
def kG : Kd Gv := ⟨27, 6, fun h => [.int .i64 h.t, .int .i64 h.q, .slice h.y.p h.y.n h.y.c, .slice h.o.p h.o.n h.o.c, .slice h.u.p h.u.n h.u.c, .int .i64 h.s], fun _ => rfl⟩
def kLG : Kd Gv := ⟨43, 6, fun h => [.int .i64 h.t, .int .i64 h.q, .slice h.y.p h.y.n h.y.c, .slice h.o.p h.o.n h.o.c, .slice h.u.p h.u.n h.u.c, .int .i64 h.s], fun _ => rfl⟩
def zgv : Gv := ⟨0, 0, ⟨none, 0, 0⟩, ⟨none, 0, 0⟩, ⟨none, 0, 0⟩, 0⟩
theorem g6 {w W : World} {rs : List Rw} (h : Sg w W rs) {K : Kd Gv} {g n : Nat} {q : Gv} (hm : rG K (.slice (some ⟨g, 0, none⟩) 1 n) [q] ∈ rs) (hv : K.vs q = [.int .i64 q.t, .int .i64 q.q, .slice q.y.p q.y.n q.y.c, .slice q.o.p q.o.n q.o.c, .slice q.u.p q.u.n q.u.c, .int .i64 q.s]) :
    W.cell? ⟨g, 0, none⟩ = some (.int .i64 q.t) ∧ W.cell? ⟨g, 1, none⟩ = some (.int .i64 q.q) ∧ W.cell? ⟨g, 2, none⟩ = some (.slice q.y.p q.y.n q.y.c) ∧ W.cell? ⟨g, 3, none⟩ = some (.slice q.o.p q.o.n q.o.c) ∧ W.cell? ⟨g, 4, none⟩ = some (.slice q.u.p q.u.n q.u.c) ∧ W.cell? ⟨g, 5, none⟩ = some (.int .i64 q.s) ∧ (∀ o, W.frozen? ⟨g, o, none⟩ = false) ∧ g < W.heap.size := by
  have ho := h.mem hm
  have hC := OwG.cs ho
  have f := fun i u hu => hC.at (k := 0) (a := q) rfl (i := i) (u := u) hu
  simp only [Nat.zero_mul, Nat.zero_add, hv] at f
  exact ⟨f 0 _ rfl, f 1 _ rfl, f 2 _ rfl, f 3 _ rfl, f 4 _ rfl, f 5 _ rfl, OwG.fz ho, hC.1⟩
/-- A Deal as one reads it. -/
structure RdG (W : World) (h : Gv) (QL : List YQ) (O V : List Int) : Prop where
  y : RdY W h.y.p QL
  yn : QL.length = h.y.n
  o : SlG kI W h.o.p O
  on : O.length = h.o.n
  u : SlG kI W h.u.p V
  un : V.length = h.u.n
  ys : ∀ y ∈ QL, y.2.n ≤ 10000000
  b : h.y.n ≤ 10000000 ∧ h.o.n ≤ 10000000 ∧ h.u.n ≤ 10000000
theorem RdG.step {w w' : World} {h : Gv} {QL : List YQ} {O V : List Int} (H : RdG w h QL O V) (hb : Below w.heap.size w w') : RdG w' h QL O V :=
  ⟨H.y.step hb, H.yn, H.o.step hb, H.on, H.u.step hb, H.un, H.ys, H.b⟩
/-- The law's Deal as one reads it. -/
structure RdLG (W : World) (h : Gv) (QL : List YQ) (O V : List Int) : Prop where
  y : RdLY W h.y.p QL
  yn : QL.length = h.y.n
  o : SlG kI W h.o.p O
  on : O.length = h.o.n
  u : SlG kI W h.u.p V
  un : V.length = h.u.n
theorem RdLG.step {w w' : World} {h : Gv} {QL : List YQ} {O V : List Int} (H : RdLG w h QL O V) (hb : Below w.heap.size w w') : RdLG w' h QL O V :=
  ⟨H.y.step hb, H.yn, H.o.step hb, H.on, H.u.step hb, H.un⟩
/-- No list is longer than there is room. -/
structure SmG (h : Gv) (QL : List YQ) : Prop where
  y : h.y.n ≤ maxLen
  ys : SmY QL
  o : h.o.n ≤ maxLen
  u : h.u.n ≤ maxLen
def gsz (h : Gv) (QL : List YQ) : Nat := ysz QL + (h.o.n + h.u.n)
set_option maxRecDepth 100000 in
set_option maxHeartbeats 2000000 in
theorem szDeal_v {h : Gv} {QL : List YQ} {O V : List Int} {v : Int} (hv : (if 1048576 < gsz h QL then -1 else 1048576 - (gsz h QL : Int)) = v) (w : World) (H : RdLG w h QL O V) (hs : SmG h QL) :
    Calls Tryz.prog 23 #[h.v, .int .i64 1048576] w fun e w' => e = .returned (.int .i64 v) ∧ Below w.heap.size w w' := by
  have HY := Lib.hid (fun W (hb : Below w.heap.size w W) v hv => szReadyS_any h.y.p h.y.c QL h.y.n H.yn 1048576 W (H.y.step hb) (by decide) (by decide) hs.y hs.ys (v := v) hv)
  have HO := Lib.hid (fun a (h0 : 0 ≤ a) (h1 : a ≤ 1048576) W v hv => szInt64S_any h.o.p h.o.n h.o.c a W h0 h1 hs.o (v := v) hv)
  have HU := Lib.hid (fun a (h0 : 0 ≤ a) (h1 : a ≤ 1048576) W v hv => szInt64S_any h.u.p h.u.n h.u.c a W h0 h1 hs.u (v := v) hv)
  have ho := hs.o
  have hu := hs.u
  unfold maxLen at ho hu
  unfold gsz at hv
  have HV := Lib.hid hv
  clear H hs hv
  obtain ⟨t, q, ⟨yp, yn, yc⟩, ⟨op, on, oc⟩, ⟨up, un, uc⟩, s⟩ := h
  simp only at HY HO HU HV ho hu
  have hlit := (Sg.nil w).lit kLG [⟨t, q, ⟨yp, yn, yc⟩, ⟨op, on, oc⟩, ⟨up, un, uc⟩, s⟩] 1 rfl (by decide) #[.int .i64 t, .int .i64 q, .slice yp yn yc, .slice op on oc, .slice up un uc, .int .i64 s] rfl
  change Sg w (w.alloc (.cells #[.int .i64 t, .int .i64 q, .slice yp yn yc, .slice op on oc, .slice up un uc, .int .i64 s] 43)) _ at hlit
  have HC := Lib.hid (fun W (hb : Sg w W [rG kLG (.slice (some ⟨w.heap.size, 0, none⟩) 1 1) [⟨t, q, ⟨yp, yn, yc⟩, ⟨op, on, oc⟩, ⟨up, un, uc⟩, s⟩]]) => g6 hb (K := kLG) (g := w.heap.size) (n := 1) (q := ⟨t, q, ⟨yp, yn, yc⟩, ⟨op, on, oc⟩, ⟨up, un, uc⟩, s⟩) (by simp) rfl)
  simp only at HC
  generalize ysz QL = a1 at HY HV
  by_cases h1 : 1048576 < a1
  · have e1 : (if (1048576 : Int) < a1 then -1 else 1048576 - (a1 : Int)) = -1 := if_pos (by omega)
    go_enter Tryz.func23, Tryz.ntmps23
    go_wp2_with (go_at_call 54; refine (HY.out _ hlit.bel _ e1).mono ?_; rintro e w1 ⟨rfl, hbb⟩; have hS1 := hlit.step hbb; obtain ⟨y0, y1, y2, y3, y4, y5, _, _⟩ := HC.out _ hS1)
    go_ret
    exact ⟨ret_i64 (by rw [← HV.out, if_pos (by omega)]), hS1.bel⟩
  obtain ⟨b1, hb1⟩ : ∃ b : Int, 1048576 - (a1 : Int) = b := ⟨_, rfl⟩
  have e1 : (if (1048576 : Int) < a1 then -1 else 1048576 - (a1 : Int)) = b1 := (if_neg (by omega)).trans hb1
  have n1 : ¬ b1 < 0 := by omega
  have m1 : 0 ≤ b1 := by omega
  have k1 : b1 ≤ 1048576 := by omega
  have f1 : True := trivial
  by_cases h2 : b1 < on
  · have e2 : (if b1 < (on : Int) then -1 else b1 - (on : Int)) = -1 := if_pos h2
    have HB := Lib.hid hb1
    clear hb1
    go_enter Tryz.func23, Tryz.ntmps23
    go_wp2_with (first | (go_at_call 54; refine (HY.out _ hlit.bel _ e1).mono ?_; rintro e w1 ⟨rfl, hbb⟩; have hS1 := hlit.step hbb; obtain ⟨y0, y1, y2, y3, y4, y5, _, _⟩ := HC.out _ hS1) | (go_at_call 55; clear f1; refine (HO.out _ m1 k1 _ _ e2).mono ?_; rintro e w2 ⟨rfl, hw2⟩; obtain rfl := hw2.symm))
    go_ret
    exact ⟨ret_i64 (by rw [← HV.out, if_pos (by have := HB.out; omega)]), hS1.bel⟩
  obtain ⟨b2, hb2⟩ : ∃ b : Int, b1 - (on : Int) = b := ⟨_, rfl⟩
  have e2 : (if b1 < (on : Int) then -1 else b1 - (on : Int)) = b2 := (if_neg h2).trans hb2
  have n2 : ¬ b2 < 0 := by omega
  have m2 : 0 ≤ b2 := by omega
  have k2 : b2 ≤ 1048576 := by omega
  have HB : Hid (1048576 - (a1 : Int) = b1 ∧ b1 - (on : Int) = b2) := ⟨hb1, hb2⟩
  clear hb1 hb2
  by_cases h3 : b2 < un
  · have e3 : (if b2 < (un : Int) then -1 else b2 - (un : Int)) = -1 := if_pos h3
    go_enter Tryz.func23, Tryz.ntmps23
    go_wp2_with (first | (go_at_call 54; refine (HY.out _ hlit.bel _ e1).mono ?_; rintro e w1 ⟨rfl, hbb⟩; have hS1 := hlit.step hbb; obtain ⟨y0, y1, y2, y3, y4, y5, _, _⟩ := HC.out _ hS1) | (go_at_call 55; clear f1; refine (HO.out _ m1 k1 _ _ e2).mono ?_; rintro e w2 ⟨rfl, hw2⟩; obtain rfl := hw2.symm) | (go_at_call 55; refine (HU.out _ m2 k2 _ _ e3).mono ?_; rintro e w3 ⟨rfl, hw3⟩; obtain rfl := hw3.symm))
    go_ret
    exact ⟨ret_i64 (by rw [← HV.out, if_pos (by have := HB.out; omega)]), hS1.bel⟩
  · obtain ⟨b3, hb3⟩ : ∃ b : Int, b2 - (un : Int) = b := ⟨_, rfl⟩
    have e3 : (if b2 < (un : Int) then -1 else b2 - (un : Int)) = b3 := (if_neg h3).trans hb3
    have n3 : ¬ b3 < 0 := by omega
    have HB3 := Lib.hid hb3
    clear hb3
    go_enter Tryz.func23, Tryz.ntmps23
    go_wp2_with (first | (go_at_call 54; refine (HY.out _ hlit.bel _ e1).mono ?_; rintro e w1 ⟨rfl, hbb⟩; have hS1 := hlit.step hbb; obtain ⟨y0, y1, y2, y3, y4, y5, _, _⟩ := HC.out _ hS1) | (go_at_call 55; clear f1; refine (HO.out _ m1 k1 _ _ e2).mono ?_; rintro e w2 ⟨rfl, hw2⟩; obtain rfl := hw2.symm) | (go_at_call 55; refine (HU.out _ m2 k2 _ _ e3).mono ?_; rintro e w3 ⟨rfl, hw3⟩; obtain rfl := hw3.symm))
    go_ret
    exact ⟨ret_i64 (by rw [← HV.out, if_neg (by have := HB.out; omega)]; have := HB.out; have := HB3.out; omega), hS1.bel⟩
/-- The rows of a Deal of one's own. -/
def gR (h : Gv) (QL : List YQ) (O V : List Int) : List Rw := rG kI (.slice h.u.p h.u.n h.u.c) V :: (rG kI (.slice h.o.p h.o.n h.o.c) O :: trY (.slice h.y.p h.y.n h.y.c) QL [])
theorem Sg.setG0 {w W : World} {A Bs : List Rw} {g n : Nat} {a : Gv} (h : Sg w W (A ++ rG kG (.slice (some ⟨g, 0, none⟩) 1 n) [a] :: Bs)) (u : Int) : Sg w (W.setCell ⟨g, 0, none⟩ (.int .i64 u)) (A ++ rG kG (.slice (some ⟨g, 0, none⟩) 1 n) [⟨u, a.q, a.y, a.o, a.u, a.s⟩] :: Bs) := Sg.setRaw h 0 (.int .i64 u)
theorem Sg.setG1 {w W : World} {A Bs : List Rw} {g n : Nat} {a : Gv} (h : Sg w W (A ++ rG kG (.slice (some ⟨g, 0, none⟩) 1 n) [a] :: Bs)) (u : Int) : Sg w (W.setCell ⟨g, 1, none⟩ (.int .i64 u)) (A ++ rG kG (.slice (some ⟨g, 0, none⟩) 1 n) [⟨a.t, u, a.y, a.o, a.u, a.s⟩] :: Bs) := Sg.setRaw h 1 (.int .i64 u)
theorem Sg.setG2 {w W : World} {A Bs : List Rw} {g n : Nat} {a : Gv} (h : Sg w W (A ++ rG kG (.slice (some ⟨g, 0, none⟩) 1 n) [a] :: Bs)) (u : Sv) : Sg w (W.setCell ⟨g, 2, none⟩ (.slice u.p u.n u.c)) (A ++ rG kG (.slice (some ⟨g, 0, none⟩) 1 n) [⟨a.t, a.q, u, a.o, a.u, a.s⟩] :: Bs) := Sg.setRaw h 2 (.slice u.p u.n u.c)
theorem Sg.setG3 {w W : World} {A Bs : List Rw} {g n : Nat} {a : Gv} (h : Sg w W (A ++ rG kG (.slice (some ⟨g, 0, none⟩) 1 n) [a] :: Bs)) (u : Sv) : Sg w (W.setCell ⟨g, 3, none⟩ (.slice u.p u.n u.c)) (A ++ rG kG (.slice (some ⟨g, 0, none⟩) 1 n) [⟨a.t, a.q, a.y, u, a.u, a.s⟩] :: Bs) := Sg.setRaw h 3 (.slice u.p u.n u.c)
theorem Sg.setG4 {w W : World} {A Bs : List Rw} {g n : Nat} {a : Gv} (h : Sg w W (A ++ rG kG (.slice (some ⟨g, 0, none⟩) 1 n) [a] :: Bs)) (u : Sv) : Sg w (W.setCell ⟨g, 4, none⟩ (.slice u.p u.n u.c)) (A ++ rG kG (.slice (some ⟨g, 0, none⟩) 1 n) [⟨a.t, a.q, a.y, a.o, u, a.s⟩] :: Bs) := Sg.setRaw h 4 (.slice u.p u.n u.c)
theorem Sg.setG5 {w W : World} {A Bs : List Rw} {g n : Nat} {a : Gv} (h : Sg w W (A ++ rG kG (.slice (some ⟨g, 0, none⟩) 1 n) [a] :: Bs)) (u : Int) : Sg w (W.setCell ⟨g, 5, none⟩ (.int .i64 u)) (A ++ rG kG (.slice (some ⟨g, 0, none⟩) 1 n) [⟨a.t, a.q, a.y, a.o, a.u, u⟩] :: Bs) := Sg.setRaw h 5 (.int .i64 u)
theorem Sg.setG {w W : World} {A Bs : List Rw} {g n : Nat} {a : Gv} (h : Sg w W (A ++ rG kG (.slice (some ⟨g, 0, none⟩) 1 n) [a] :: Bs)) (q : Gv) : Sg w ((((((W.setCell ⟨g, 0, none⟩ (.int .i64 q.t)).setCell ⟨g, 1, none⟩ (.int .i64 q.q)).setCell ⟨g, 2, none⟩ (.slice q.y.p q.y.n q.y.c)).setCell ⟨g, 3, none⟩ (.slice q.o.p q.o.n q.o.c)).setCell ⟨g, 4, none⟩ (.slice q.u.p q.u.n q.u.c)).setCell ⟨g, 5, none⟩ (.int .i64 q.s)) (A ++ rG kG (.slice (some ⟨g, 0, none⟩) 1 n) [q] :: Bs) :=
  Sg.setG5 (Sg.setG4 (Sg.setG3 (Sg.setG2 (Sg.setG1 (Sg.setG0 h q.t) q.q) q.y) q.o) q.u) q.s
set_option maxRecDepth 100000 in
set_option maxHeartbeats 4000000 in
theorem toDeal_any (h : Gv) (QL : List YQ) (O V : List Int) (w : World) (H : RdLG w h QL O V) (hy : h.y.n ≤ 1048576) (ho : h.o.n ≤ 1048576) (hu : h.u.n ≤ 1048576) (hsm : ∀ q ∈ QL, q.2.n ≤ 1048576) :
    Calls Tryz.prog 24 #[h.v] w fun e w' => ∃ (g1 g2 g3 : Nat) (Q2 : List YQ), e = .returned (Gv.v ⟨h.t, h.q, ⟨some ⟨g1, 0, none⟩, h.y.n, h.y.n⟩, ⟨some ⟨g2, 0, none⟩, h.o.n, h.o.n⟩, ⟨some ⟨g3, 0, none⟩, h.u.n, h.u.n⟩, h.s⟩) ∧ yds Q2 = yds QL ∧ (∀ q ∈ Q2, q.2.n ≤ 1048576 ∧ q.1.L.length = q.2.n) ∧ Sg w w' (gR ⟨h.t, h.q, ⟨some ⟨g1, 0, none⟩, h.y.n, h.y.n⟩, ⟨some ⟨g2, 0, none⟩, h.o.n, h.o.n⟩, ⟨some ⟨g3, 0, none⟩, h.u.n, h.u.n⟩, h.s⟩ Q2 O V) := by
  have HY := Lib.hid (fun W (hb : Below w.heap.size w W) => toReadyS_any h.y.p h.y.c QL h.y.n H.yn hy hsm W (H.y.step hb))
  have HO := Lib.hid (fun W (hb : Below w.heap.size w W) => toInt64S_any h.o.p h.o.c O h.o.n H.on ho W (H.o.step hb))
  have HU := Lib.hid (fun W (hb : Below w.heap.size w W) => toInt64S_any h.u.p h.u.c V h.u.n H.un hu W (H.u.step hb))
  clear H hsm
  obtain ⟨t, q, ⟨yp, yn, yc⟩, ⟨op, on, oc⟩, ⟨up, un, uc⟩, s⟩ := h
  simp only at HY HO HU hy ho hu ⊢
  have hS1 := ((((Sg.nil w).lit kLG [⟨t, q, ⟨yp, yn, yc⟩, ⟨op, on, oc⟩, ⟨up, un, uc⟩, s⟩] 1 rfl (by decide) #[.int .i64 t, .int .i64 q, .slice yp yn yc, .slice op on oc, .slice up un uc, .int .i64 s] rfl).lit kG [zgv] 1 rfl (by decide) #[.int .i64 0, .int .i64 0, .slice none 0 0, .slice none 0 0, .slice none 0 0, .int .i64 0] rfl).lit kG [⟨t, q, ⟨none, 0, 0⟩, ⟨none, 0, 0⟩, ⟨none, 0, 0⟩, 0⟩] 1 rfl (by decide) #[.int .i64 t, .int .i64 q, .slice none 0 0, .slice none 0 0, .slice none 0 0, .int .i64 0] rfl)
  simp only [World.size_alloc] at hS1
  have f1 : True := trivial
  go_enter Tryz.func24, Tryz.ntmps24
  go_wp2_with (first
    | (go_at_call 56; refine (HY.out _ hS1.bel).mono ?_; rintro e w2 ⟨g1, Q2, rfl, hQ1, hQ2, hw2⟩; have hS2 := hS1.addL hw2; obtain ⟨t0, t1, t2, t3, t4, t5, tf, tg⟩ := g6 hS2 (K := kG) (g := w.heap.size + 1 + 1) (n := 1) (q := ⟨t, q, ⟨none, 0, 0⟩, ⟨none, 0, 0⟩, ⟨none, 0, 0⟩, 0⟩) (by simp [trY]) rfl; simp only at t0 t1 t2 t3 t4 t5; obtain ⟨x0, x1, x2, x3, x4, x5, _, xg⟩ := g6 hS2 (K := kLG) (g := w.heap.size) (n := 1) (q := ⟨t, q, ⟨yp, yn, yc⟩, ⟨op, on, oc⟩, ⟨up, un, uc⟩, s⟩) (by simp [trY]) rfl; have hS3 := Sg.setG2 (A := trY (.slice (some ⟨g1, 0, none⟩) yn yn) Q2 []) (a := ⟨t, q, ⟨none, 0, 0⟩, ⟨none, 0, 0⟩, ⟨none, 0, 0⟩, 0⟩) hS2 ⟨some ⟨g1, 0, none⟩, yn, yn⟩)
    | (go_at_call 57; clear f1; refine (HO.out _ hS3.bel).mono ?_; rintro e w4 ⟨g2, rfl, hw4⟩; have hS4 := hS3.addL hw4; clear t0 t1 t2 t3 t4 t5 tf tg x0 x1 x2 x3 x4 x5 xg; obtain ⟨t0, t1, t2, t3, t4, t5, tf, tg⟩ := g6 hS4 (K := kG) (g := w.heap.size + 1 + 1) (n := 1) (q := ⟨t, q, ⟨some ⟨g1, 0, none⟩, yn, yn⟩, ⟨none, 0, 0⟩, ⟨none, 0, 0⟩, 0⟩) (by simp [trY]) rfl; simp only at t0 t1 t2 t3 t4 t5; obtain ⟨x0, x1, x2, x3, x4, x5, _, xg⟩ := g6 hS4 (K := kLG) (g := w.heap.size) (n := 1) (q := ⟨t, q, ⟨yp, yn, yc⟩, ⟨op, on, oc⟩, ⟨up, un, uc⟩, s⟩) (by simp [trY]) rfl; have hS5 := Sg.setG3 (A := rG kI (.slice (some ⟨g2, 0, none⟩) on on) O :: trY (.slice (some ⟨g1, 0, none⟩) yn yn) Q2 []) (a := ⟨t, q, ⟨some ⟨g1, 0, none⟩, yn, yn⟩, ⟨none, 0, 0⟩, ⟨none, 0, 0⟩, 0⟩) hS4 ⟨some ⟨g2, 0, none⟩, on, on⟩)
    | (go_at_call 57; refine (HU.out _ hS5.bel).mono ?_; rintro e w6 ⟨g3, rfl, hw6⟩; have hS6 := hS5.addL hw6; clear t0 t1 t2 t3 t4 t5 tf tg x0 x1 x2 x3 x4 x5 xg; obtain ⟨t0, t1, t2, t3, t4, t5, tf, tg⟩ := g6 hS6 (K := kG) (g := w.heap.size + 1 + 1) (n := 1) (q := ⟨t, q, ⟨some ⟨g1, 0, none⟩, yn, yn⟩, ⟨some ⟨g2, 0, none⟩, on, on⟩, ⟨none, 0, 0⟩, 0⟩) (by simp [trY]) rfl; simp only at t0 t1 t2 t3 t4 t5; obtain ⟨x0, x1, x2, x3, x4, x5, _, xg⟩ := g6 hS6 (K := kLG) (g := w.heap.size) (n := 1) (q := ⟨t, q, ⟨yp, yn, yc⟩, ⟨op, on, oc⟩, ⟨up, un, uc⟩, s⟩) (by simp [trY]) rfl; obtain ⟨v0, v1, v2, v3, v4, v5, vf, vg⟩ := g6 hS6 (K := kG) (g := w.heap.size + 1) (n := 1) (q := zgv) (by simp [trY]) rfl; simp only [zgv] at v0 v1 v2 v3 v4 v5))
  have hS7 := Sg.setG4 (A := gR ⟨t, q, ⟨some ⟨g1, 0, none⟩, yn, yn⟩, ⟨some ⟨g2, 0, none⟩, on, on⟩, ⟨some ⟨g3, 0, none⟩, un, un⟩, s⟩ Q2 O V) (g := w.heap.size + 1 + 1) (n := 1) (a := ⟨t, q, ⟨some ⟨g1, 0, none⟩, yn, yn⟩, ⟨some ⟨g2, 0, none⟩, on, on⟩, ⟨none, 0, 0⟩, 0⟩) hS6 ⟨some ⟨g3, 0, none⟩, un, un⟩
  have hS8 := Sg.setG5 hS7 s
  have hS9 := Sg.setG (A := gR ⟨t, q, ⟨some ⟨g1, 0, none⟩, yn, yn⟩, ⟨some ⟨g2, 0, none⟩, on, on⟩, ⟨some ⟨g3, 0, none⟩, un, un⟩, s⟩ Q2 O V ++ [rG kG (.slice (some ⟨w.heap.size + 1 + 1, 0, none⟩) 1 1) [⟨t, q, ⟨some ⟨g1, 0, none⟩, yn, yn⟩, ⟨some ⟨g2, 0, none⟩, on, on⟩, ⟨some ⟨g3, 0, none⟩, un, un⟩, s⟩]]) (g := w.heap.size + 1) (n := 1) (a := zgv) (by rw [List.append_assoc]; exact hS8) ⟨t, q, ⟨some ⟨g1, 0, none⟩, yn, yn⟩, ⟨some ⟨g2, 0, none⟩, on, on⟩, ⟨some ⟨g3, 0, none⟩, un, un⟩, s⟩
  refine bodyPost_ret (v := .agg #[.int .i64 t, .int .i64 q, .slice (some ⟨g1, 0, none⟩) yn yn, .slice (some ⟨g2, 0, none⟩) on on, .slice (some ⟨g3, 0, none⟩) un un, .int .i64 s]) (by simp [results, Tryz.results24, go_sem, v0, v1, v2, v3, v4, v5]) rfl ⟨g1, g2, g3, Q2, rfl, hQ1, hQ2, ?_⟩
  refine hS9.sub ?_
  rw [List.append_assoc]
  exact List.sublist_append_left ..
/-- What the rows tell a reader. -/
theorem gR_rd {w W : World} {rs : List Rw} {h : Gv} {QL : List YQ} {O V : List Int} (hS : Sg w W rs) (hm : ∀ r ∈ gR h QL O V, r ∈ rs) (hq : ∀ q ∈ QL, q.2.n ≤ 1048576 ∧ q.1.L.length = q.2.n) (hb : h.y.n ≤ 10000000 ∧ h.o.n ≤ 10000000 ∧ h.u.n ≤ 10000000) : RdG W h QL O V := by
  have h1 := hS.mem (K := kI) (v := .slice h.o.p h.o.n h.o.c) (L := O) (hm _ (by simp [gR]))
  have h2 := hS.mem (K := kI) (v := .slice h.u.p h.u.n h.u.c) (L := V) (hm _ (by simp [gR]))
  have h3 := hS.mem (K := kY) (v := .slice h.y.p h.y.n h.y.c) (L := QL) (hm _ (by simp [gR, trY]))
  refine ⟨trY_rd (n := h.y.n) (c := h.y.c) hS (fun r hr => hm r (by unfold gR; exact List.mem_cons_of_mem _ (List.mem_cons_of_mem _ hr))) (fun q h => (hq q h).2), (OwG.len h3).symm, OwG.sl h1, (OwG.len h1).symm, OwG.sl h2, (OwG.len h2).symm, fun y hy => by have := (hq y hy).1; omega, hb⟩
set_option maxRecDepth 100000 in
set_option maxHeartbeats 4000000 in
theorem eqDeal_same (a b : Gv) (A B : List YQ) (O V : List Int) (w : World) (Ha : RdG w a A O V) (Hb : RdG w b B O V) (he : yds A = yds B) (ht : a.t = b.t) (hq : a.q = b.q) (hs : a.s = b.s) (hsm : ∀ y ∈ A, y.2.n ≤ 1048576) :
    Calls Tryz.prog 25 #[a.v, b.v] w fun e w' => e = .returned (.bool true) ∧ Below w.heap.size w w' := by
  have e2 : b.y.n = a.y.n := by rw [← Ha.yn, ← Hb.yn, ← yds_len, ← yds_len, he]
  have e3 : b.o.n = a.o.n := by rw [← Ha.on, ← Hb.on]
  have e4 : b.u.n = a.u.n := by rw [← Ha.un, ← Hb.un]
  have HY := Lib.hid (fun W (h : Below w.heap.size w W) => eqReadyS_same a.y.p b.y.p a.y.c b.y.c A B a.y.n Ha.yn he hsm W (Ha.y.step h) (Hb.y.step h) Ha.b.1)
  have HO := Lib.hid (fun W (h : Below w.heap.size w W) => eqInt64S_same a.o.p b.o.p a.o.c b.o.c O a.o.n Ha.on W (Ha.o.step h) (Hb.o.step h) Ha.b.2.1)
  have HU := Lib.hid (fun W (h : Below w.heap.size w W) => eqInt64S_same a.u.p b.u.p a.u.c b.u.c V a.u.n Ha.un W (Ha.u.step h) (Hb.u.step h) Ha.b.2.2)
  clear Ha Hb he hsm
  obtain ⟨t, q, ⟨yp, yn, yc⟩, ⟨op, on, oc⟩, ⟨up, un, uc⟩, s⟩ := a
  obtain ⟨t2, q2, ⟨yp2, yn2, yc2⟩, ⟨op2, on2, oc2⟩, ⟨up2, un2, uc2⟩, s2⟩ := b
  simp only at e2 e3 e4 ht hq hs HY HO HU
  subst e2 e3 e4 ht hq hs
  have hS0 := ((Sg.nil w).lit kG [⟨t, q, ⟨yp, yn2, yc⟩, ⟨op, on2, oc⟩, ⟨up, un2, uc⟩, s⟩] 1 rfl (by decide) #[.int .i64 t, .int .i64 q, .slice yp yn2 yc, .slice op on2 oc, .slice up un2 uc, .int .i64 s] rfl).lit kG [⟨t, q, ⟨yp2, yn2, yc2⟩, ⟨op2, on2, oc2⟩, ⟨up2, un2, uc2⟩, s⟩] 1 rfl (by decide) #[.int .i64 t, .int .i64 q, .slice yp2 yn2 yc2, .slice op2 on2 oc2, .slice up2 un2 uc2, .int .i64 s] rfl
  simp only [World.size_alloc] at hS0
  change Sg w ((w.alloc (.cells #[.int .i64 t, .int .i64 q, .slice yp yn2 yc, .slice op on2 oc, .slice up un2 uc, .int .i64 s] 27)).alloc (.cells #[.int .i64 t, .int .i64 q, .slice yp2 yn2 yc2, .slice op2 on2 oc2, .slice up2 un2 uc2, .int .i64 s] 27)) _ at hS0
  have HC := Lib.hid (fun W (hb : Sg w W [rG kG (.slice (some ⟨w.heap.size + 1, 0, none⟩) 1 1) [⟨t, q, ⟨yp2, yn2, yc2⟩, ⟨op2, on2, oc2⟩, ⟨up2, un2, uc2⟩, s⟩], rG kG (.slice (some ⟨w.heap.size, 0, none⟩) 1 1) [⟨t, q, ⟨yp, yn2, yc⟩, ⟨op, on2, oc⟩, ⟨up, un2, uc⟩, s⟩]]) => (⟨g6 hb (K := kG) (g := w.heap.size) (n := 1) (q := ⟨t, q, ⟨yp, yn2, yc⟩, ⟨op, on2, oc⟩, ⟨up, un2, uc⟩, s⟩) (by simp) rfl, g6 hb (K := kG) (g := w.heap.size + 1) (n := 1) (q := ⟨t, q, ⟨yp2, yn2, yc2⟩, ⟨op2, on2, oc2⟩, ⟨up2, un2, uc2⟩, s⟩) (by simp) rfl⟩ : _ ∧ _))
  simp only at HC
  have f1 : True := trivial
  go_enter Tryz.func25, Tryz.ntmps25
  go_wp2_with (first
    | (go_at_call 58; refine (HY.out _ hS0.bel).mono ?_; rintro e w1 ⟨rfl, hb1⟩; have hS1 := hS0.step hb1; obtain ⟨⟨x0, x1, x2, x3, x4, x5, _, _⟩, ⟨y0, y1, y2, y3, y4, y5, _, _⟩⟩ := HC.out _ hS1)
    | (go_at_call 59; clear f1; refine (HO.out _ hS1.bel).mono ?_; rintro e w2 ⟨rfl, hb2⟩; have hS2 := hS1.step hb2; clear x0 x1 x2 x3 x4 x5 y0 y1 y2 y3 y4 y5; obtain ⟨⟨x0, x1, x2, x3, x4, x5, _, _⟩, ⟨y0, y1, y2, y3, y4, y5, _, _⟩⟩ := HC.out _ hS2)
    | (go_at_call 59; refine (HU.out _ hS2.bel).mono ?_; rintro e w3 ⟨rfl, hb3⟩; have hS3 := hS2.step hb3; clear x0 x1 x2 x3 x4 x5 y0 y1 y2 y3 y4 y5; obtain ⟨⟨x0, x1, x2, x3, x4, x5, _, _⟩, ⟨y0, y1, y2, y3, y4, y5, _, _⟩⟩ := HC.out _ hS3))
  go_ret
  exact ⟨rfl, hS3.bel⟩
end Go.Proofs.YtobbankkfplooaaGreat.K.G
