/-
  A Shard copied and Synced: the program's.
-/
import Derived.Test.YtppoafggiejdgaaGreatKY6
import Derived.Test.YtppoafggiejdgaaGreatKCR
import Derived.Test.YtppoafggiejdgaaGreatKCI
import Derived.Test.YtppoafggiejdgaaGreatKCN
namespace Go.Proofs.YtppoafggiejdgaaGreat.K.Y
open Go.Shelf Go.RowKit Go.Joins
attribute [local go_sem] Oper.semAt_some

/-- Each slice lies somewhere, or is nil. -/
def OkS (h : Hv) (QL : List YQ) : Prop := okv h.r ∧ okv h.y ∧ okv h.o ∧ ∀ y ∈ QL, okv y.2
theorem shR_ok {w W : World} {rs : List Rw} {h : Hv} {R : List Rc} {QL : List YQ} {O : List Int} (hS : Sg w W rs) (hm : ∀ r ∈ shR h R QL O, r ∈ rs) : OkS h QL := by
  have h1 := hS.mem (K := kI) (v := .slice h.o.p h.o.n h.o.c) (L := O) (hm _ (by simp [shR]))
  have h2 := hS.mem (K := kR) (v := .slice h.r.p h.r.n h.r.c) (L := R) (hm _ (by simp [shR]))
  have h3 := hS.mem (K := kY) (v := .slice h.y.p h.y.n h.y.c) (L := QL) (hm _ (by simp [shR, trY]))
  refine ⟨own_okv h2, own_okv h3, own_okv h1, fun y hy => own_okv (hS.mem (K := I.kR) (v := .slice y.2.p y.2.n y.2.c) (L := y.1.L) (hm _ ?_))⟩
  unfold shR trY
  exact List.mem_cons_of_mem _ (List.mem_append_left _ (List.mem_cons_of_mem _ (List.mem_map.2 ⟨y, hy, rfl⟩)))
/-- A Batch's cells (a Ready's lie as another type). -/
def kBb : Kd I.Bv := ⟨96, 3, fun q => [.int .i64 q.t, .int .i64 q.s, .slice q.v.p q.v.n q.v.c], fun _ => rfl⟩
theorem Sg.setBb2 {w W : World} {A Bs : List Rw} {g n : Nat} {a : I.Bv} (h : Sg w W (A ++ rG kBb (.slice (some ⟨g, 0, none⟩) 1 n) [a] :: Bs)) (u : Sv) :
    Sg w (W.setCell ⟨g, 2, none⟩ (.slice u.p u.n u.c)) (A ++ rG kBb (.slice (some ⟨g, 0, none⟩) 1 n) [⟨a.t, a.s, u⟩] :: Bs) := Sg.setRaw h 2 (.slice u.p u.n u.c)
theorem Sg.setBb {w W : World} {A Bs : List Rw} {g n : Nat} {a : I.Bv} (h : Sg w W (A ++ rG kBb (.slice (some ⟨g, 0, none⟩) 1 n) [a] :: Bs)) (q : I.Bv) :
    Sg w (((W.setCell ⟨g, 0, none⟩ (.int .i64 q.t)).setCell ⟨g, 1, none⟩ (.int .i64 q.s)).setCell ⟨g, 2, none⟩ (.slice q.v.p q.v.n q.v.c)) (A ++ rG kBb (.slice (some ⟨g, 0, none⟩) 1 n) [q] :: Bs) :=
  ((Sg.setRaw h 0 (.int .i64 q.t)).setRaw 1 (.int .i64 q.s)).setRaw 2 (.slice q.v.p q.v.n q.v.c)
set_option maxRecDepth 100000 in
set_option maxHeartbeats 2000000 in
theorem batchCopied_any (t q : Int) (s : Sv) (L : List Rc) (w : World) (hL : SlG I.kR w s.p L) (hl : L.length = s.n) (ho : okv s) (hb : s.n ≤ 1000000) :
    Calls Tryz.prog 69 #[I.batV t q s.p s.n s.c] w fun e w' => ∃ p c, e = .returned (I.batV t q p s.n c) ∧ Sg w w' [rG I.kR (.slice p s.n c) L] := by
  have HC := Lib.hid (fun W (h : Below w.heap.size w W) => I.copied_any s L W (hL.step h) hl ho hb)
  obtain ⟨sp, sn, sc⟩ := s
  simp only at HC hb ⊢
  have hS1 := (((Sg.nil w).lit kBb [⟨t, q, ⟨sp, sn, sc⟩⟩] 1 rfl (by decide) #[.int .i64 t, .int .i64 q, .slice sp sn sc] rfl).lit kBb [I.zbv] 1 rfl (by decide) #[.int .i64 0, .int .i64 0, .slice none 0 0] rfl)
  simp only [World.size_alloc] at hS1
  clear hL hl ho
  go_enter Tryz.func69, Tryz.ntmps69
  go_wp2_with (go_at_call 83; refine (HC.out _ hS1.bel).mono ?_; rintro e w2 ⟨p, c, rfl, hw2⟩; have hS3 := hS1.addL hw2; obtain ⟨t0, t1, t2, tf, tg⟩ := I.bat3 hS3 (K := kBb) (g := w.heap.size) (n := 1) (q := ⟨t, q, ⟨sp, sn, sc⟩⟩) (by simp) rfl; obtain ⟨v0, v1, v2, vf, vg⟩ := I.bat3 hS3 (K := kBb) (g := w.heap.size + 1) (n := 1) (q := I.zbv) (by simp) rfl)
  have hS4 := Sg.setBb2 (A := [rG I.kR (.slice p sn c) L, rG kBb (.slice (some ⟨w.heap.size + 1, 0, none⟩) 1 1) [I.zbv]]) (g := w.heap.size) (n := 1) (a := ⟨t, q, ⟨sp, sn, sc⟩⟩) hS3 ⟨p, sn, c⟩
  have hS5 := Sg.setBb (A := [rG I.kR (.slice p sn c) L]) (g := w.heap.size + 1) (n := 1) (a := I.zbv) hS4 ⟨t, q, ⟨p, sn, c⟩⟩
  refine bodyPost_ret (v := .agg #[.int .i64 t, .int .i64 q, .slice p sn c]) (by simp [results, Tryz.results69, go_sem, v0, v1, v2]) rfl ⟨p, c, rfl, ?_⟩
  exact hS5.sub (by simp)
set_option maxRecDepth 100000 in
set_option maxHeartbeats 2000000 in
theorem readyCopied_any (t q : Int) (s : Sv) (L : List Rc) (w : World) (hL : SlG I.kR w s.p L) (hl : L.length = s.n) (ho : okv s) (hb : s.n ≤ 1000000) :
    Calls Tryz.prog 44 #[I.batV t q s.p s.n s.c] w fun e w' => ∃ p c, e = .returned (I.batV t q p s.n c) ∧ Sg w w' [rG I.kR (.slice p s.n c) L] := by
  have HC := Lib.hid (fun W (h : Below w.heap.size w W) => batchCopied_any t q s L W (hL.step h) hl ho hb)
  obtain ⟨sp, sn, sc⟩ := s
  simp only at HC hb ⊢
  have hS1 := (((Sg.nil w).lit I.kB [⟨t, q, ⟨sp, sn, sc⟩⟩] 1 rfl (by decide) #[.int .i64 t, .int .i64 q, .slice sp sn sc] rfl).lit I.kB [I.zbv] 1 rfl (by decide) #[.int .i64 0, .int .i64 0, .slice none 0 0] rfl)
  simp only [World.size_alloc] at hS1
  clear hL hl ho
  go_enter Tryz.func44, Tryz.ntmps44
  go_wp2_with (go_at_call 69; refine (HC.out _ hS1.bel).mono ?_; rintro e w2 ⟨p, c, rfl, hw2⟩; have hS3 := hS1.addL hw2; obtain ⟨v0, v1, v2, vf, vg⟩ := I.bat3 hS3 (K := I.kB) (g := w.heap.size + 1) (n := 1) (q := I.zbv) (by simp) rfl; simp only [I.zbv] at v0 v1 v2)
  have hS5 := I.Sg.setB (A := [rG I.kR (.slice p sn c) L]) (g := w.heap.size + 1) (n := 1) (a := I.zbv) hS3 ⟨t, q, ⟨p, sn, c⟩⟩
  refine bodyPost_ret (v := .agg #[.int .i64 t, .int .i64 q, .slice p sn c]) (by simp [results, Tryz.results44, go_sem, v0, v1, v2]) rfl ⟨p, c, rfl, ?_⟩
  exact hS5.sub (by simp)
theorem appY : Ap kY 29 (.agg #[.int .i64 0, .int .i64 0, .slice none 0 0]) 40 := ⟨Tryz.underlying29, info65, rfl, by decide, by decide⟩
theorem oneYs (L : List YQ) : ∀ u ∈ kY.flat L, u.oneCell' = true := fun u hu => by
  unfold Kd.flat at hu
  obtain ⟨s, _, hs⟩ := List.mem_flatMap.mp hu
  simp [kY] at hs
  rcases hs with rfl | rfl | rfl <;> rfl
theorem trY_snoc {w W : World} {v : Value} {X : List YQ} {q : YQ} {Bs : List Rw} (h : Sg w W ([yR q] ++ rG kY v (X ++ [q]) :: (X.map yR ++ Bs))) : Sg w W (trY v (X ++ [q]) [] ++ Bs) := by
  unfold trY
  refine h.perm ?_
  rw [List.append_nil, List.map_append]
  simp only [List.map_cons, List.map_nil, List.cons_append, List.nil_append, List.append_assoc]
  refine (List.Perm.swap _ _ _).trans (List.Perm.cons _ ?_)
  exact (List.perm_append_comm (l₁ := [yR q]) (l₂ := X.map yR)).append_right Bs |>.trans (by simp)
set_option maxRecDepth 100000 in
set_option maxHeartbeats 4000000 in
theorem shardCopied_any (h : Hv) (R : List Rc) (QL : List YQ) (O : List Int) (w : World) (H : RdS w h R QL O) (hk : OkS h QL) (hr : h.r.n ≤ 1000) (hy : h.y.n ≤ 1000) (ho : h.o.n ≤ 1000) (hsm : ∀ q ∈ QL, q.2.n ≤ 1000) :
    Calls Tryz.prog 20 #[h.v] w fun e w' => ∃ (r y o : Sv) (Q2 : List YQ), e = .returned (Hv.v ⟨r, y, o, h.g, h.s⟩) ∧ yds Q2 = yds QL ∧ (∀ q ∈ Q2, q.2.n ≤ 1000 ∧ q.1.L.length = q.2.n) ∧ Sg w w' (shR ⟨r, y, o, h.g, h.s⟩ R Q2 O) := by
  have HR := Lib.hid (fun W (hb : Below w.heap.size w W) => copied_any h.r R W (H.r.step hb) H.rn hk.1 (by omega))
  have HO := Lib.hid (fun W (hb : Below w.heap.size w W) => N.copied_any h.o O W (H.o.step hb) H.on hk.2.2.1 (by omega))
  have HY : Hid (QL.length = h.y.n ∧ RdY w h.y.p QL ∧ (∀ q ∈ QL, q.2.n ≤ 1000 ∧ okv q.2)) := ⟨H.yn, H.y, fun q hq => ⟨hsm q hq, hk.2.2.2 q hq⟩⟩
  clear H hk hsm
  obtain ⟨⟨rp, rn, rc⟩, ⟨yp, yn, yc⟩, ⟨op, on, oc⟩, g, s⟩ := h
  simp only at HR HO HY hr hy ho ⊢
  have hS1 := (((Sg.nil w).lit kSh [⟨⟨rp, rn, rc⟩, ⟨yp, yn, yc⟩, ⟨op, on, oc⟩, g, s⟩] 1 rfl (by decide) #[.slice rp rn rc, .slice yp yn yc, .slice op on oc, .string g, .int .i64 s] rfl).lit kSh [zhv] 1 rfl (by decide) #[.slice none 0 0, .slice none 0 0, .slice none 0 0, .string ByteArray.empty, .int .i64 0] rfl)
  simp only [World.size_alloc] at hS1
  change Sg w ((w.alloc (.cells #[.slice rp rn rc, .slice yp yn yc, .slice op on oc, .string g, .int .i64 s] 31)).alloc (.cells #[.slice none 0 0, .slice none 0 0, .slice none 0 0, .string ByteArray.empty, .int .i64 0] 31)) _ at hS1
  have hS2 : Sg w ((w.alloc (.cells #[.slice rp rn rc, .slice yp yn yc, .slice op on oc, .string g, .int .i64 s] 31)).alloc (.cells #[.slice none 0 0, .slice none 0 0, .slice none 0 0, .string ByteArray.empty, .int .i64 0] 31)) (trY (.slice none 0 0) [] [] ++ [rG kSh (.slice (some ⟨w.heap.size + 1, 0, none⟩) 1 1) [zhv], rG kSh (.slice (some ⟨w.heap.size, 0, none⟩) 1 1) [⟨⟨rp, rn, rc⟩, ⟨yp, yn, yc⟩, ⟨op, on, oc⟩, g, s⟩]]) :=
    hS1.add (r := rG kY (.slice none 0 0) []) ⟨rfl, .inl ⟨rfl, rfl⟩⟩ (Below.refl _ _)
  obtain ⟨y0, y1, y2, y3, y4, _, _⟩ := sh5 hS1 (K := kSh) (g := w.heap.size) (n := 1) (q := ⟨⟨rp, rn, rc⟩, ⟨yp, yn, yc⟩, ⟨op, on, oc⟩, g, s⟩) (by simp) rfl
  simp only at y0 y1 y2 y3 y4
  clear hS1
  go_enter Tryz.func20, Tryz.ntmps20
  go_wp2
  go_loopw [3, 9] (fun rv i wr => ∃ (k : Nat) (X : List YQ), k ≤ yn ∧ i = .int .i64 k ∧ Hid (X.length = k ∧ yds X = (yds QL).take k ∧ ∀ q ∈ X, q.2.n ≤ 1000 ∧ q.1.L.length = q.2.n) ∧ Sg w wr (trY rv X [] ++ [rG kSh (.slice (some ⟨w.heap.size + 1, 0, none⟩) 1 1) [zhv], rG kSh (.slice (some ⟨w.heap.size, 0, none⟩) 1 1) [⟨⟨rp, rn, rc⟩, ⟨yp, yn, yc⟩, ⟨op, on, oc⟩, g, s⟩]])) (fun _ i _ => yn - (intOf i).toNat)
  case atStart => exact ⟨0, [], by omega, rfl, ⟨rfl, rfl, by simp⟩, hS2⟩
  case round =>
    clear hS2 y0 y1 y2 y3 y4
    obtain ⟨k, X, hk, rfl, hK, hS⟩ := hrel
    by_cases hlt : k < yn
    · have hki : (k : Int) < yn := by omega
      have hkL : k < QL.length := by rw [HY.out.1]; exact hlt
      obtain ⟨g5, off, rfl, hC⟩ := (HY.out.2.1.1.step hS.bel).at hkL
      obtain ⟨c0, c1, c2⟩ := CsG.y3 hC (getY hkL)
      have hq := HY.out.2.1.2 _ (List.mem_of_getElem? (getY hkL))
      have hbd := HY.out.2.2 _ (List.mem_of_getElem? (getY hkL))
      have hct := yds_take hkL
      obtain ⟨⟨⟨t, q, L⟩, ⟨sp, sn, sc⟩⟩, hx⟩ : ∃ x : YQ, QL.getD k zyq = x := ⟨_, rfl⟩
      rw [hx] at c0 c1 c2 hq hbd hct
      simp only at c0 c1 c2 hct
      have HX : Hid (X.length = k ∧ yds X ++ [⟨t, q, L⟩] = (yds QL).take (k + 1) ∧ (∀ q ∈ X, q.2.n ≤ 1000 ∧ q.1.L.length = q.2.n) ∧ sn ≤ 1000 ∧ L.length = sn) := ⟨hK.out.1, by rw [hK.out.2.1, hct], hK.out.2.2, hbd.1, hq.2⟩
      have HT : Hid (∀ W, Below w.heap.size w W → Calls Tryz.prog 44 #[I.batV t q sp sn sc] W fun e w' => ∃ p c, e = .returned (I.batV t q p sn c) ∧ Sg W w' [rG I.kR (.slice p sn c) L]) := fun W h => readyCopied_any t q ⟨sp, sn, sc⟩ L W (hq.1.step h) hq.2 hbd.2 (by have := hbd.1; simp only at this; simp only; omega)
      have etr : trY u3 X [] = rG kY u3 X :: X.map yR := by simp [trY]
      rw [etr] at hS
      have hlit := hS.lit I.kB [⟨t, q, ⟨sp, sn, sc⟩⟩] 1 rfl (by decide) #[.int .i64 t, .int .i64 q, .slice sp sn sc] rfl
      clear hC hkL hq hbd hct hx hK
      go_wp2_with (first
        | (go_at_call 44; refine (HT.out _ hlit.bel).mono ?_; rintro ee w1 ⟨pn, cn, rfl, h1⟩; have hS1 : Sg w w1 ([yR (⟨t, q, L⟩, ⟨pn, sn, cn⟩)] ++ rG kY u3 X :: (X.map yR ++ [rG kSh (.slice (some ⟨w.heap.size + 1, 0, none⟩) 1 1) [zhv], rG kSh (.slice (some ⟨w.heap.size, 0, none⟩) 1 1) [⟨⟨rp, rn, rc⟩, ⟨some ⟨g5, off, none⟩, yn, yc⟩, ⟨op, on, oc⟩, g, s⟩]])) := Sg.addL hlit.d0 h1)
        | (at_builtin; refine wpList_sgapp appY rfl _ _ rfl (A := [yR (⟨t, q, L⟩, ⟨pn, sn, cn⟩)]) (M := X) (B := [(⟨t, q, L⟩, ⟨pn, sn, cn⟩)]) (n := k) (m := 1) (Bs := X.map yR ++ [rG kSh (.slice (some ⟨w.heap.size + 1, 0, none⟩) 1 1) [zhv], rG kSh (.slice (some ⟨w.heap.size, 0, none⟩) 1 1) [⟨⟨rp, rn, rc⟩, ⟨some ⟨g5, off, none⟩, yn, yc⟩, ⟨op, on, oc⟩, g, s⟩]]) hS1 (below_alloc1 _ _) HX.out.1 rfl rfl ⟨_, 0, none⟩ 1 rfl (fun j u hj => lit_src (xs := [.int .i64 t, .int .i64 q, .slice pn sn cn]) (t := 65) (by simp) j u hj) (oneYs _) (.inl (by decide)) (by omega) ?_; intro g6 cp6 w6 hS6 _ _))
      go_roundw
      case rel =>
        refine ⟨k + 1, X ++ [(⟨t, q, L⟩, ⟨pn, sn, cn⟩)], by omega, by go_num, ⟨by simp [HX.out.1], by rw [← HX.out.2.1]; simp [yds], fun q hq => ?_⟩, trY_snoc hS6⟩
        rcases List.mem_append.mp hq with hq | hq
        · exact HX.out.2.2.1 q hq
        · simp at hq; subst hq; exact HX.out.2.2.2
      case measure => simp [intOf]; omega
    · obtain rfl : k = yn := by omega
      have HF : Hid (yds X = yds QL ∧ ∀ q ∈ X, q.2.n ≤ 1000 ∧ q.1.L.length = q.2.n) := ⟨by rw [hK.out.2.1]; exact List.take_of_length_le (by rw [yds_len, HY.out.1]; exact Nat.le_refl _), hK.out.2.2⟩
      have hown := hS.mem (K := kY) (v := u3) (L := X) (by simp [trY])
      obtain ⟨p3, c3, e3, _⟩ := OwG.form hown
      rw [hK.out.1] at e3
      subst e3
      clear hK hown
      obtain ⟨y0, y1, y2, y3, y4, yf, _⟩ := sh5 hS (K := kSh) (g := w.heap.size) (n := 1) (q := ⟨⟨rp, rn, rc⟩, ⟨yp, k, yc⟩, ⟨op, on, oc⟩, g, s⟩) (by simp) rfl
      simp only at y0 y1 y2 y3 y4
      go_wp2_with (first
        | (go_at_call 45; refine (HR.out _ hS.bel).mono ?_; rintro e w1 ⟨q1, c1, rfl, h1⟩; have hS3 := hS.addL h1; clear y0 y1 y2 y3 y4 yf; obtain ⟨y0, y1, y2, y3, y4, yf, _⟩ := sh5 hS3 (K := kSh) (g := w.heap.size) (n := 1) (q := ⟨⟨rp, rn, rc⟩, ⟨yp, k, yc⟩, ⟨op, on, oc⟩, g, s⟩) (by simp) rfl; simp only at y0 y1 y2 y3 y4; have hS4 := Sg.setH1 (Sg.setH0 (A := [rG kR (.slice q1 rn c1) R] ++ (trY (.slice p3 k c3) X [] ++ [rG kSh (.slice (some ⟨w.heap.size + 1, 0, none⟩) 1 1) [zhv]])) (Bs := []) (a := ⟨⟨rp, rn, rc⟩, ⟨yp, k, yc⟩, ⟨op, on, oc⟩, g, s⟩) (by simpa using hS3) ⟨q1, rn, c1⟩) ⟨p3, k, c3⟩)
        | (go_at_call 46; refine (HO.out _ hS4.bel).mono ?_; rintro e w5 ⟨q2, c2, rfl, h5⟩; have hS5 := hS4.addL h5; clear y0 y1 y2 y3 y4 yf; obtain ⟨y0, y1, y2, y3, y4, yf, _⟩ := sh5 hS5 (K := kSh) (g := w.heap.size) (n := 1) (q := ⟨⟨q1, rn, c1⟩, ⟨p3, k, c3⟩, ⟨op, on, oc⟩, g, s⟩) (by simp) rfl; obtain ⟨v0, v1, v2, v3, v4, vf, vg⟩ := sh5 hS5 (K := kSh) (g := w.heap.size + 1) (n := 1) (q := zhv) (by simp) rfl; simp only [zhv] at y0 y1 y2 y3 y4 v0 v1 v2 v3 v4))
      have hS6 := Sg.setH2 (A := [rG kI (.slice q2 on c2) O] ++ ([rG kR (.slice q1 rn c1) R] ++ (trY (.slice p3 k c3) X [] ++ [rG kSh (.slice (some ⟨w.heap.size + 1, 0, none⟩) 1 1) [zhv]]))) (Bs := []) (a := ⟨⟨q1, rn, c1⟩, ⟨p3, k, c3⟩, ⟨op, on, oc⟩, g, s⟩) (by simpa using hS5) ⟨q2, on, c2⟩
      have hS7 := Sg.setH (A := [rG kI (.slice q2 on c2) O] ++ ([rG kR (.slice q1 rn c1) R] ++ trY (.slice p3 k c3) X [])) (g := w.heap.size + 1) (n := 1) (a := zhv) (by simpa using hS6) ⟨⟨q1, rn, c1⟩, ⟨p3, k, c3⟩, ⟨q2, on, c2⟩, g, s⟩
      refine bodyPost_ret (v := .agg #[.slice q1 rn c1, .slice p3 k c3, .slice q2 on c2, .string g, .int .i64 s]) (by simp [results, Tryz.results20, go_sem, v0, v1, v2, v3, v4]) rfl ⟨⟨q1, rn, c1⟩, ⟨p3, k, c3⟩, ⟨q2, on, c2⟩, X, rfl, HF.out.1, HF.out.2, ?_⟩
      refine (hS7.sub (List.sublist_append_left ..)).perm ?_
      unfold shR
      simp only [List.cons_append, List.nil_append]
      exact List.Perm.cons _ (List.perm_append_comm (l₁ := [rG kR (.slice q1 rn c1) R]))
theorem shB_parts {R : List Rc} {Y : List Yd} {O : List Int} {g : Nat} {s : Int} (h : shB R Y O g s = true) : R.length ≤ 400 ∧ Y.length ≤ 100 ∧ O.length ≤ 400 ∧ g ≤ 100000 ∧ ∀ y ∈ Y, y.L.length ≤ 6 := by
  unfold shB roomB recsB readyB at h
  simp only [Bool.and_eq_true, decide_eq_true_eq, List.all_eq_true] at h
  refine ⟨h.2.2.2.1.1, h.1.1, h.1.2.1, h.1.2.2, fun y hy => ?_⟩
  exact (yB_parts (h.2.2.2.2.1.1 y hy)).2.2.1.2
/-- What Synced answers. -/
structure SyR (b : Bool) (R R' : List Rc) (Y Y' : List Yd) (O O' : List Int) (g g' : ByteArray) (s' : Int) : Prop where
  t : b = true → R' = R ∧ Y' = Y ∧ O' = O ∧ g' = g ∧ s' = g.size
  f : b = false → R' = [] ∧ Y' = [] ∧ O' = [] ∧ g' = ByteArray.empty ∧ s' = 0
theorem sg_zero {w W : World} (h : Below w.heap.size w W) : Sg w W (shR zhv [] [] []) := by
  refine ⟨h, fun r hr => ?_, ?_⟩
  · simp [shR, trY, zhv] at hr
    rcases hr with rfl | rfl | rfl <;> exact ⟨rfl, .inl ⟨rfl, rfl⟩⟩
  · simp [shR, trY, zhv, rG, Value.ownBlock]
set_option maxRecDepth 100000 in
set_option maxHeartbeats 4000000 in
theorem iSynced_v {h : Hv} {R R' : List Rc} {QL : List YQ} {Y' : List Yd} {O O' : List Int} {b : Bool} {g' : ByteArray} {s' : Int} (hv : shB R (yds QL) O h.g.size h.s = b) (hr : SyR b R R' (yds QL) Y' O O' h.g g' s') (w : World) (H : RdS w h R QL O) (hk : OkS h QL) :
    Calls Tryz.prog 7 #[h.v] w fun e w' => ∃ (r y o : Sv) (Q2 : List YQ), e = .returned (Hv.v ⟨r, y, o, g', s'⟩) ∧ yds Q2 = Y' ∧ (∀ q ∈ Q2, q.2.n ≤ 1000 ∧ q.1.L.length = q.2.n) ∧ Sg w w' (shR ⟨r, y, o, g', s'⟩ R' Q2 O') := by
  have HI := Lib.hid (fun W (hb : Below w.heap.size w W) => iShardOk_v hv W (H.step hb))
  cases b
  · obtain ⟨rfl, rfl, rfl, rfl, rfl⟩ := hr.f rfl
    obtain ⟨⟨rp, rn, rc⟩, ⟨yp, yn, yc⟩, ⟨op, on, oc⟩, g, s⟩ := h
    have hS1 := (((Sg.nil w).lit kSh [⟨⟨rp, rn, rc⟩, ⟨yp, yn, yc⟩, ⟨op, on, oc⟩, g, s⟩] 1 rfl (by decide) #[.slice rp rn rc, .slice yp yn yc, .slice op on oc, .string g, .int .i64 s] rfl).lit kSh [zhv] 1 rfl (by decide) #[.slice none 0 0, .slice none 0 0, .slice none 0 0, .string ByteArray.empty, .int .i64 0] rfl)
    simp only [World.size_alloc] at hS1
    clear H hk hv hr
    go_enter Tryz.func7, Tryz.ntmps7
    go_wp2_with (go_at_call 19; refine (HI.out _ hS1.bel).mono ?_; rintro e w1 ⟨rfl, hb1⟩; have hS2 := hS1.step hb1; obtain ⟨v0, v1, v2, v3, v4, vf, vg⟩ := sh5 hS2 (K := kSh) (g := w.heap.size + 1) (n := 1) (q := zhv) (by simp) rfl; simp only [zhv] at v0 v1 v2 v3 v4)
    have hS3 := Sg.setH (A := []) (g := w.heap.size + 1) (n := 1) (a := zhv) hS2 zhv
    refine bodyPost_ret (v := .agg #[.slice none 0 0, .slice none 0 0, .slice none 0 0, .string ByteArray.empty, .int .i64 0]) (by simp [results, Tryz.results7, go_sem, v0, v1, v2, v3, v4]; rfl) rfl ⟨⟨none, 0, 0⟩, ⟨none, 0, 0⟩, ⟨none, 0, 0⟩, [], rfl, rfl, by simp, ?_⟩
    exact sg_zero hS3.bel
  · obtain ⟨rfl, rfl, rfl, rfl, rfl⟩ := hr.t rfl
    obtain ⟨p1, p2, p3, p4, p5⟩ := shB_parts hv
    have q1 := H.rn
    have q2 := H.yn
    have q3 := H.on
    rw [yds_len] at p2
    have hsm : ∀ q ∈ QL, q.2.n ≤ 1000 := fun q hq => by
      have h1 := p5 q.1 (List.mem_map.2 ⟨q, hq, rfl⟩)
      have h2 := (H.y.2 q hq).2
      omega
    have HC := Lib.hid (fun W (hb : Below w.heap.size w W) => shardCopied_any ⟨h.r, h.y, h.o, h.g, h.g.size⟩ R' QL O' W ⟨H.r.step hb, H.rn, H.y.step hb, H.yn, H.o.step hb, H.on, H.oi, H.ys, H.b⟩ hk (by simp only; omega) (by simp only; omega) (by simp only; omega) hsm)
    obtain ⟨⟨rp, rn, rc⟩, ⟨yp, yn, yc⟩, ⟨op, on, oc⟩, g, s⟩ := h
    simp only at HI HC p4 ⊢
    have hS1 := (((Sg.nil w).lit kSh [⟨⟨rp, rn, rc⟩, ⟨yp, yn, yc⟩, ⟨op, on, oc⟩, g, s⟩] 1 rfl (by decide) #[.slice rp rn rc, .slice yp yn yc, .slice op on oc, .string g, .int .i64 s] rfl).lit kSh [zhv] 1 rfl (by decide) #[.slice none 0 0, .slice none 0 0, .slice none 0 0, .string ByteArray.empty, .int .i64 0] rfl)
    simp only [World.size_alloc] at hS1
    clear H hk hv hr hsm p5 q1 q2 q3
    go_enter Tryz.func7, Tryz.ntmps7
    go_wp2_with (first
      | (go_at_call 19; refine (HI.out _ hS1.bel).mono ?_; rintro e w1 ⟨rfl, hb1⟩; have hS2 := hS1.step hb1; obtain ⟨y0, y1, y2, y3, y4, yf, yg⟩ := sh5 hS2 (K := kSh) (g := w.heap.size) (n := 1) (q := ⟨⟨rp, rn, rc⟩, ⟨yp, yn, yc⟩, ⟨op, on, oc⟩, g, s⟩) (by simp) rfl; simp only at y0 y1 y2 y3 y4; have hS3 := Sg.setH4 (A := [rG kSh (.slice (some ⟨w.heap.size + 1, 0, none⟩) 1 1) [zhv]]) (g := w.heap.size) (n := 1) (a := ⟨⟨rp, rn, rc⟩, ⟨yp, yn, yc⟩, ⟨op, on, oc⟩, g, s⟩) hS2 (g.size : Int))
      | (go_at_call 20; refine (HC.out _ hS3.bel).mono ?_; rintro e w4 ⟨r, y, o, Q2, rfl, hq1, hq2, h4⟩; have hS4 := hS3.addL h4; obtain ⟨v0, v1, v2, v3, v4, vf, vg⟩ := sh5 hS4 (K := kSh) (g := w.heap.size + 1) (n := 1) (q := zhv) (by simp) rfl; simp only [zhv] at v0 v1 v2 v3 v4))
    have hS5 := Sg.setH (A := shR ⟨r, y, o, g, g.size⟩ R' Q2 O') (g := w.heap.size + 1) (n := 1) (a := zhv) hS4 ⟨r, y, o, g, g.size⟩
    refine bodyPost_ret (v := .agg #[.slice r.p r.n r.c, .slice y.p y.n y.c, .slice o.p o.n o.c, .string g, .int .i64 g.size]) (by simp [results, Tryz.results7, go_sem, v0, v1, v2, v3, v4]) rfl ⟨r, y, o, Q2, rfl, hq1, hq2, ?_⟩
    exact hS5.sub (List.sublist_append_left ..)
end Go.Proofs.YtppoafggiejdgaaGreat.K.Y
