/-
  A Deal copied: the program's.
-/
import Derived.Test.YtobbankkfplooaaGreatKY6
import Derived.Test.YtobbankkfplooaaGreatKCR
import Derived.Test.YtobbankkfplooaaGreatKCI
import Derived.Test.YtobbankkfplooaaGreatKCN
import Derived.Test.YtobbankkfplooaaGreatKG1
namespace Go.Proofs.YtobbankkfplooaaGreat.K.Y
open Go.Shelf Go.RowKit Go.Joins
attribute [local go_sem] Oper.semAt_some

/-- Each slice lies somewhere, or is nil. -/
def OkS (h : Hv) (QL : List YQ) : Prop := okv h.r ∧ okv h.y ∧ okv h.o ∧ ∀ y ∈ QL, okv y.2
set_option maxRecDepth 100000 in
set_option maxHeartbeats 2000000 in
theorem readyCopied_any (t q : Int) (s : Sv) (L : List Rc) (w : World) (hL : SlG I.kR w s.p L) (hl : L.length = s.n) (ho : okv s) (hb : s.n ≤ 1000000) :
    Calls Tryz.prog 69 #[I.batV t q s.p s.n s.c] w fun e w' => ∃ p c, e = .returned (I.batV t q p s.n c) ∧ Sg w w' [rG I.kR (.slice p s.n c) L] := by
  have HC := Lib.hid (fun W (h : Below w.heap.size w W) => I.copied_any s L W (hL.step h) hl ho hb)
  obtain ⟨sp, sn, sc⟩ := s
  simp only at HC hb ⊢
  have hS1 := (((Sg.nil w).lit I.kB [⟨t, q, ⟨sp, sn, sc⟩⟩] 1 rfl (by decide) #[.int .i64 t, .int .i64 q, .slice sp sn sc] rfl).lit I.kB [I.zbv] 1 rfl (by decide) #[.int .i64 0, .int .i64 0, .slice none 0 0] rfl)
  simp only [World.size_alloc] at hS1
  clear hL hl ho
  go_enter Tryz.func69, Tryz.ntmps69
  go_wp2_with (go_at_call 88; refine (HC.out _ hS1.bel).mono ?_; rintro e w2 ⟨p, c, rfl, hw2⟩; have hS3 := hS1.addL hw2; obtain ⟨t0, t1, t2, tf, tg⟩ := I.bat3 hS3 (K := I.kB) (g := w.heap.size) (n := 1) (q := ⟨t, q, ⟨sp, sn, sc⟩⟩) (by simp) rfl; obtain ⟨v0, v1, v2, vf, vg⟩ := I.bat3 hS3 (K := I.kB) (g := w.heap.size + 1) (n := 1) (q := I.zbv) (by simp) rfl)
  have hS4 := I.Sg.setB2 (A := [rG I.kR (.slice p sn c) L, rG I.kB (.slice (some ⟨w.heap.size + 1, 0, none⟩) 1 1) [I.zbv]]) (g := w.heap.size) (n := 1) (a := ⟨t, q, ⟨sp, sn, sc⟩⟩) hS3 ⟨p, sn, c⟩
  have hS5 := I.Sg.setB (A := [rG I.kR (.slice p sn c) L]) (g := w.heap.size + 1) (n := 1) (a := I.zbv) hS4 ⟨t, q, ⟨p, sn, c⟩⟩
  refine bodyPost_ret (v := .agg #[.int .i64 t, .int .i64 q, .slice p sn c]) (by simp [results, Tryz.results69, go_sem, v0, v1, v2]) rfl ⟨p, c, rfl, ?_⟩
  exact hS5.sub (by simp)
theorem appY : Ap kY 24 (.agg #[.int .i64 0, .int .i64 0, .slice none 0 0]) 40 := ⟨Tryz.underlying24, info67, rfl, by decide, by decide⟩
theorem oneYs (L : List YQ) : ∀ u ∈ kY.flat L, u.oneCell' = true := fun u hu => by
  unfold Kd.flat at hu
  obtain ⟨s, _, hs⟩ := List.mem_flatMap.mp hu
  simp [kY] at hs
  rcases hs with rfl | rfl | rfl <;> rfl
theorem trY_snoc {w W : World} {v : Value} {X : List YQ} {q : YQ} {Bs : List Rw} (h : Sg w W ([yR q] ++ rG kY v (X ++ [q]) :: (X.map yR ++ Bs))) : Sg w W (trY v (X ++ [q]) [] ++ Bs) := by
  unfold trY
  refine h.perm ?_
  rw [List.append_nil, List.map_append]
  simp only [List.map_cons, List.map_nil, List.cons_append, List.nil_append, List.append_assoc]
  refine (List.Perm.swap _ _ _).trans (List.Perm.cons _ ?_)
  exact (List.perm_append_comm (l₁ := [yR q]) (l₂ := X.map yR)).append_right Bs |>.trans (by simp)
theorem shB_parts {R : List Rc} {Y : List Yd} {O : List Int} {g : Nat} {s : Int} (h : shB R Y O g s = true) : R.length ≤ 400 ∧ Y.length ≤ 100 ∧ O.length ≤ 400 ∧ g ≤ 100000 ∧ ∀ y ∈ Y, y.L.length ≤ 6 := by
  unfold shB roomB recsB readyB at h
  simp only [Bool.and_eq_true, decide_eq_true_eq, List.all_eq_true] at h
  refine ⟨h.2.2.2.1.1, h.1.1, h.1.2.1, h.1.2.2, fun y hy => ?_⟩
  exact (yB_parts (h.2.2.2.2.1.1 y hy)).2.2.1.2
/-- What Synced answers. -/
structure SyR (b : Bool) (R R' : List Rc) (Y Y' : List Yd) (O O' : List Int) (g g' : ByteArray) (s' : Int) : Prop where
  t : b = true → R' = R ∧ Y' = Y ∧ O' = O ∧ g' = g ∧ s' = g.size
  f : b = false → R' = [] ∧ Y' = [] ∧ O' = [] ∧ g' = ByteArray.empty ∧ s' = 0
end Go.Proofs.YtobbankkfplooaaGreat.K.Y
namespace Go.Proofs.YtobbankkfplooaaGreat.K.G
open Go.Shelf Go.RowKit Go.Joins Y
attribute [local go_sem] Oper.semAt_some

/-- Each slice lies somewhere, or is nil. -/
def OkG (h : Gv) (QL : List YQ) : Prop := okv h.o ∧ okv h.u ∧ ∀ y ∈ QL, okv y.2
set_option maxRecDepth 100000 in
set_option maxHeartbeats 4000000 in
theorem dealCopied_any (h : Gv) (QL : List YQ) (O V : List Int) (w : World) (H : RdG w h QL O V) (hk : OkG h QL) (hy : h.y.n ≤ 1000) (ho : h.o.n ≤ 1000) (hu : h.u.n ≤ 1000) (hsm : ∀ q ∈ QL, q.2.n ≤ 1000) :
    Calls Tryz.prog 39 #[h.v] w fun e w' => ∃ (y o u : Sv) (Q2 : List YQ), e = .returned (Gv.v ⟨h.t, h.q, y, o, u, h.s⟩) ∧ yds Q2 = yds QL ∧ (∀ q ∈ Q2, q.2.n ≤ 1000 ∧ q.1.L.length = q.2.n) ∧ Sg w w' (gR ⟨h.t, h.q, y, o, u, h.s⟩ Q2 O V) := by
  have HO := Lib.hid (fun W (hb : Below w.heap.size w W) => N.copied_any h.o O W (H.o.step hb) H.on hk.1 (by omega))
  have HU := Lib.hid (fun W (hb : Below w.heap.size w W) => N.copied_any h.u V W (H.u.step hb) H.un hk.2.1 (by omega))
  have HY : Hid (QL.length = h.y.n ∧ RdY w h.y.p QL ∧ (∀ q ∈ QL, q.2.n ≤ 1000 ∧ okv q.2)) := ⟨H.yn, H.y, fun q hq => ⟨hsm q hq, hk.2.2 q hq⟩⟩
  clear H hk hsm
  obtain ⟨dt, dq, ⟨yp, yn, yc⟩, ⟨op, on, oc⟩, ⟨up, un, uc⟩, s⟩ := h
  simp only at HO HU HY hy ho hu ⊢
  have hS1 := (((Sg.nil w).lit kG [⟨dt, dq, ⟨yp, yn, yc⟩, ⟨op, on, oc⟩, ⟨up, un, uc⟩, s⟩] 1 rfl (by decide) #[.int .i64 dt, .int .i64 dq, .slice yp yn yc, .slice op on oc, .slice up un uc, .int .i64 s] rfl).lit kG [zgv] 1 rfl (by decide) #[.int .i64 0, .int .i64 0, .slice none 0 0, .slice none 0 0, .slice none 0 0, .int .i64 0] rfl)
  simp only [World.size_alloc] at hS1
  change Sg w ((w.alloc (.cells #[.int .i64 dt, .int .i64 dq, .slice yp yn yc, .slice op on oc, .slice up un uc, .int .i64 s] 27)).alloc (.cells #[.int .i64 0, .int .i64 0, .slice none 0 0, .slice none 0 0, .slice none 0 0, .int .i64 0] 27)) _ at hS1
  have hS2 : Sg w ((w.alloc (.cells #[.int .i64 dt, .int .i64 dq, .slice yp yn yc, .slice op on oc, .slice up un uc, .int .i64 s] 27)).alloc (.cells #[.int .i64 0, .int .i64 0, .slice none 0 0, .slice none 0 0, .slice none 0 0, .int .i64 0] 27)) (trY (.slice none 0 0) [] [] ++ [rG kG (.slice (some ⟨w.heap.size + 1, 0, none⟩) 1 1) [zgv], rG kG (.slice (some ⟨w.heap.size, 0, none⟩) 1 1) [⟨dt, dq, ⟨yp, yn, yc⟩, ⟨op, on, oc⟩, ⟨up, un, uc⟩, s⟩]]) :=
    hS1.add (r := rG kY (.slice none 0 0) []) ⟨rfl, .inl ⟨rfl, rfl⟩⟩ (Below.refl _ _)
  obtain ⟨y0, y1, y2, y3, y4, y5, yf, _⟩ := g6 hS1 (K := kG) (g := w.heap.size) (n := 1) (q := ⟨dt, dq, ⟨yp, yn, yc⟩, ⟨op, on, oc⟩, ⟨up, un, uc⟩, s⟩) (by simp) rfl; simp only at y0 y1 y2 y3 y4 y5
  clear hS1
  have f1 : True := trivial
  go_enter Tryz.func39, Tryz.ntmps39
  go_wp2
  go_loopw [3, 9] (fun rv i wr => ∃ (k : Nat) (X : List YQ), k ≤ yn ∧ i = .int .i64 k ∧ Hid (X.length = k ∧ yds X = (yds QL).take k ∧ ∀ q ∈ X, q.2.n ≤ 1000 ∧ q.1.L.length = q.2.n) ∧ Sg w wr (trY rv X [] ++ [rG kG (.slice (some ⟨w.heap.size + 1, 0, none⟩) 1 1) [zgv], rG kG (.slice (some ⟨w.heap.size, 0, none⟩) 1 1) [⟨dt, dq, ⟨yp, yn, yc⟩, ⟨op, on, oc⟩, ⟨up, un, uc⟩, s⟩]])) (fun _ i _ => yn - (intOf i).toNat)
  case atStart => exact ⟨0, [], by omega, rfl, ⟨rfl, rfl, by simp⟩, hS2⟩
  case round =>
    clear hS2 y0 y1 y2 y3 y4 y5 yf
    obtain ⟨k, X, hk, rfl, hK, hS⟩ := hrel
    by_cases hlt : k < yn
    · have hki : (k : Int) < yn := by omega
      have hkL : k < QL.length := by rw [HY.out.1]; exact hlt
      obtain ⟨g5, off, rfl, hC⟩ := (HY.out.2.1.1.step hS.bel).at hkL
      obtain ⟨c0, c1, c2⟩ := CsG.y3 hC (getY hkL)
      have hq := HY.out.2.1.2 _ (List.mem_of_getElem? (getY hkL))
      have hbd := HY.out.2.2 _ (List.mem_of_getElem? (getY hkL))
      have hct := yds_take hkL
      obtain ⟨⟨⟨t, q, L⟩, ⟨sp, sn, sc⟩⟩, hx⟩ : ∃ x : YQ, QL.getD k zyq = x := ⟨_, rfl⟩
      rw [hx] at c0 c1 c2 hq hbd hct
      simp only at c0 c1 c2 hct
      have HX : Hid (X.length = k ∧ yds X ++ [⟨t, q, L⟩] = (yds QL).take (k + 1) ∧ (∀ q ∈ X, q.2.n ≤ 1000 ∧ q.1.L.length = q.2.n) ∧ sn ≤ 1000 ∧ L.length = sn) := ⟨hK.out.1, by rw [hK.out.2.1, hct], hK.out.2.2, hbd.1, hq.2⟩
      have HT : Hid (∀ W, Below w.heap.size w W → Calls Tryz.prog 69 #[I.batV t q sp sn sc] W fun e w' => ∃ p c, e = .returned (I.batV t q p sn c) ∧ Sg W w' [rG I.kR (.slice p sn c) L]) := fun W h => readyCopied_any t q ⟨sp, sn, sc⟩ L W (hq.1.step h) hq.2 hbd.2 (by have := hbd.1; simp only at this; simp only; omega)
      have etr : trY u3 X [] = rG kY u3 X :: X.map yR := by simp [trY]
      rw [etr] at hS
      have hlit := hS.lit I.kB [⟨t, q, ⟨sp, sn, sc⟩⟩] 1 rfl (by decide) #[.int .i64 t, .int .i64 q, .slice sp sn sc] rfl
      clear hC hkL hq hbd hct hx hK
      go_wp2_with (first
        | (go_at_call 69; refine (HT.out _ hlit.bel).mono ?_; rintro ee w1 ⟨pn, cn, rfl, h1⟩; have hS1 : Sg w w1 ([yR (⟨t, q, L⟩, ⟨pn, sn, cn⟩)] ++ rG kY u3 X :: (X.map yR ++ [rG kG (.slice (some ⟨w.heap.size + 1, 0, none⟩) 1 1) [zgv], rG kG (.slice (some ⟨w.heap.size, 0, none⟩) 1 1) [⟨dt, dq, ⟨some ⟨g5, off, none⟩, yn, yc⟩, ⟨op, on, oc⟩, ⟨up, un, uc⟩, s⟩]])) := Sg.addL hlit.d0 h1)
        | (at_builtin; refine wpList_sgapp appY rfl _ _ rfl (A := [yR (⟨t, q, L⟩, ⟨pn, sn, cn⟩)]) (M := X) (B := [(⟨t, q, L⟩, ⟨pn, sn, cn⟩)]) (n := k) (m := 1) (Bs := X.map yR ++ [rG kG (.slice (some ⟨w.heap.size + 1, 0, none⟩) 1 1) [zgv], rG kG (.slice (some ⟨w.heap.size, 0, none⟩) 1 1) [⟨dt, dq, ⟨some ⟨g5, off, none⟩, yn, yc⟩, ⟨op, on, oc⟩, ⟨up, un, uc⟩, s⟩]]) hS1 (below_alloc1 _ _) HX.out.1 rfl rfl ⟨_, 0, none⟩ 1 rfl (fun j u hj => lit_src (xs := [.int .i64 t, .int .i64 q, .slice pn sn cn]) (t := 67) (by simp) j u hj) (oneYs _) (.inl (by decide)) (by omega) ?_; intro g6 cp6 w6 hS6 _ _))
      go_roundw
      case rel =>
        refine ⟨k + 1, X ++ [(⟨t, q, L⟩, ⟨pn, sn, cn⟩)], by omega, by go_num, ⟨by simp [HX.out.1], by rw [← HX.out.2.1]; simp [yds], fun q hq => ?_⟩, trY_snoc hS6⟩
        rcases List.mem_append.mp hq with hq | hq
        · exact HX.out.2.2.1 q hq
        · simp at hq; subst hq; exact HX.out.2.2.2
      case measure => simp [intOf]; omega
    · obtain rfl : k = yn := by omega
      have HF : Hid (yds X = yds QL ∧ ∀ q ∈ X, q.2.n ≤ 1000 ∧ q.1.L.length = q.2.n) := ⟨by rw [hK.out.2.1]; exact List.take_of_length_le (by rw [yds_len, HY.out.1]; exact Nat.le_refl _), hK.out.2.2⟩
      have hown := hS.mem (K := kY) (v := u3) (L := X) (by simp [trY])
      obtain ⟨p3, c3, e3, _⟩ := OwG.form hown
      rw [hK.out.1] at e3
      subst e3
      clear hK hown
      obtain ⟨y0, y1, y2, y3, y4, y5, yf, _⟩ := g6 hS (K := kG) (g := w.heap.size) (n := 1) (q := ⟨dt, dq, ⟨yp, k, yc⟩, ⟨op, on, oc⟩, ⟨up, un, uc⟩, s⟩) (by simp) rfl; simp only at y0 y1 y2 y3 y4 y5
      have hS4 := Sg.setG2 (A := trY (.slice p3 k c3) X [] ++ [rG kG (.slice (some ⟨w.heap.size + 1, 0, none⟩) 1 1) [zgv]]) (g := w.heap.size) (n := 1) (Bs := []) (a := ⟨dt, dq, ⟨yp, k, yc⟩, ⟨op, on, oc⟩, ⟨up, un, uc⟩, s⟩) (by simpa using hS) ⟨p3, k, c3⟩
      simp only at hS4
      go_wp2_with (first
        | (go_at_call 70; clear f1; refine (HO.out _ hS4.bel).mono ?_; rintro e w1 ⟨q1, c1, rfl, h1⟩; have hS5 := hS4.addL h1; clear y0 y1 y2 y3 y4 y5 yf; obtain ⟨y0, y1, y2, y3, y4, y5, yf, _⟩ := g6 hS5 (K := kG) (g := w.heap.size) (n := 1) (q := ⟨dt, dq, ⟨p3, k, c3⟩, ⟨op, on, oc⟩, ⟨up, un, uc⟩, s⟩) (by simp) rfl; simp only at y0 y1 y2 y3 y4 y5; have hS6 := Sg.setG3 (A := [rG kI (.slice q1 on c1) O] ++ (trY (.slice p3 k c3) X [] ++ [rG kG (.slice (some ⟨w.heap.size + 1, 0, none⟩) 1 1) [zgv]])) (Bs := []) (a := ⟨dt, dq, ⟨p3, k, c3⟩, ⟨op, on, oc⟩, ⟨up, un, uc⟩, s⟩) (by simpa using hS5) ⟨q1, on, c1⟩)
        | (go_at_call 70; refine (HU.out _ hS6.bel).mono ?_; rintro e w5 ⟨q2, c2, rfl, h5⟩; have hS7 := hS6.addL h5; clear y0 y1 y2 y3 y4 y5 yf; obtain ⟨y0, y1, y2, y3, y4, y5, yf, _⟩ := g6 hS7 (K := kG) (g := w.heap.size) (n := 1) (q := ⟨dt, dq, ⟨p3, k, c3⟩, ⟨q1, on, c1⟩, ⟨up, un, uc⟩, s⟩) (by simp) rfl; simp only at y0 y1 y2 y3 y4 y5; obtain ⟨v0, v1, v2, v3, v4, v5, vf, vg⟩ := g6 hS7 (K := kG) (g := w.heap.size + 1) (n := 1) (q := zgv) (by simp) rfl; simp only [zgv] at v0 v1 v2 v3 v4 v5))
      have hS8 := Sg.setG4 (A := [rG kI (.slice q2 un c2) V] ++ ([rG kI (.slice q1 on c1) O] ++ (trY (.slice p3 k c3) X [] ++ [rG kG (.slice (some ⟨w.heap.size + 1, 0, none⟩) 1 1) [zgv]]))) (Bs := []) (a := ⟨dt, dq, ⟨p3, k, c3⟩, ⟨q1, on, c1⟩, ⟨up, un, uc⟩, s⟩) (by simpa using hS7) ⟨q2, un, c2⟩
      have hS9 := Sg.setG (A := [rG kI (.slice q2 un c2) V] ++ ([rG kI (.slice q1 on c1) O] ++ trY (.slice p3 k c3) X [])) (g := w.heap.size + 1) (n := 1) (a := zgv) (by simpa using hS8) ⟨dt, dq, ⟨p3, k, c3⟩, ⟨q1, on, c1⟩, ⟨q2, un, c2⟩, s⟩
      refine bodyPost_ret (v := .agg #[.int .i64 dt, .int .i64 dq, .slice p3 k c3, .slice q1 on c1, .slice q2 un c2, .int .i64 s]) (by simp [results, Tryz.results39, go_sem, v0, v1, v2, v3, v4, v5]) rfl ⟨⟨p3, k, c3⟩, ⟨q1, on, c1⟩, ⟨q2, un, c2⟩, X, rfl, HF.out.1, HF.out.2, ?_⟩
      refine (hS9.sub (List.sublist_append_left ..))
end Go.Proofs.YtobbankkfplooaaGreat.K.G
