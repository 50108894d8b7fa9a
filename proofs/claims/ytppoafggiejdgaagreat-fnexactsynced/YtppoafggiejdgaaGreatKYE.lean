/-
  The law of Synced walked.
-/
import Derived.Test.YtppoafggiejdgaaGreatKYB
import Derived.Test.YtppoafggiejdgaaGreatKYA
namespace Go.Proofs.YtppoafggiejdgaaGreat.K.Y
open Go.Shelf Go.RowKit Go.Joins
attribute [local go_sem] Oper.semAt_some

/-- What Synced answers is small. -/
structure Sml (R : List Rc) (Y : List Yd) (O : List Int) (g : ByteArray) : Prop where
  r : R.length ≤ 1000
  y : Y.length ≤ 1000
  o : O.length ≤ 1000
  g : g.size ≤ 1000000
  oi : ∀ z ∈ O, i64B z
  ys : ∀ y ∈ Y, y.L.length ≤ 1000
theorem syr_ex (b : Bool) (R : List Rc) (Y : List Yd) (O : List Int) (g : ByteArray) : ∃ R' Y' O' g' s', SyR b R R' Y Y' O O' g g' s' := by
  cases b
  · exact ⟨[], [], [], ByteArray.empty, 0, ⟨(fun h => by cases h), (fun _ => ⟨rfl, rfl, rfl, rfl, rfl⟩)⟩⟩
  · exact ⟨R, Y, O, g, g.size, ⟨(fun _ => ⟨rfl, rfl, rfl, rfl, rfl⟩), (fun h => by cases h)⟩⟩
theorem syr_small {b : Bool} {R R' : List Rc} {Y Y' : List Yd} {O O' : List Int} {g g' : ByteArray} {s s' : Int} (hv : shB R Y O g.size s = b) (hr : SyR b R R' Y Y' O O' g g' s') (ho : ∀ z ∈ O, i64B z) : Sml R' Y' O' g' := by
  cases b
  · obtain ⟨rfl, rfl, rfl, rfl, rfl⟩ := hr.f rfl
    exact ⟨by simp, by simp, by simp, by decide, by simp, by simp⟩
  · obtain ⟨rfl, rfl, rfl, rfl, rfl⟩ := hr.t rfl
    obtain ⟨p1, p2, p3, p4, p5⟩ := shB_parts hv
    exact ⟨by omega, by omega, by omega, by omega, ho, fun y hy => by have := p5 y hy; omega⟩
theorem ywS_small : ∀ {Y : List Yd}, (∀ y ∈ Y, y.L.length ≤ 1000) → ywS Y ≤ Y.length * 1001
  | [], _ => by simp [ywS]
  | a :: t, h => by
    have ih := ywS_small (Y := t) fun y hy => h y (List.mem_cons_of_mem _ hy)
    have h1 := h a (List.mem_cons_self ..)
    unfold ywS at ih ⊢
    simp only [List.map_cons, List.sum_cons, List.length_cons, Nat.add_mul]
    omega
theorem shR_len {w W : World} {rs : List Rw} {h : Hv} {R : List Rc} {QL : List YQ} {O : List Int} (hS : Sg w W rs) (hm : ∀ r ∈ shR h R QL O, r ∈ rs) : h.r.n = R.length ∧ h.y.n = QL.length ∧ h.o.n = O.length :=
  ⟨OwG.len (hS.mem (K := kR) (v := .slice h.r.p h.r.n h.r.c) (L := R) (hm _ (by simp [shR]))), OwG.len (hS.mem (K := kY) (v := .slice h.y.p h.y.n h.y.c) (L := QL) (hm _ (by simp [shR, trY]))), OwG.len (hS.mem (K := kI) (v := .slice h.o.p h.o.n h.o.c) (L := O) (hm _ (by simp [shR])))⟩
theorem ans_rd {w W : World} {rs : List Rw} {r y o : Sv} {g : ByteArray} {s : Int} {R : List Rc} {Y : List Yd} {Q : List YQ} {O : List Int} (hS : Sg w W rs) (hm : ∀ x ∈ shR ⟨r, y, o, g, s⟩ R Q O, x ∈ rs) (hq : ∀ q ∈ Q, q.2.n ≤ 1000 ∧ q.1.L.length = q.2.n) (he : yds Q = Y) (hs : Sml R Y O g) : RdS W ⟨r, y, o, g, s⟩ R Q O := by
  obtain ⟨l1, l2, l3⟩ := shR_len hS hm
  simp only at l1 l2 l3
  have h1 := hs.r
  have h2 := hs.y
  have h3 := hs.o
  have h4 := hs.g
  rw [← he, yds_len] at h2
  exact shR_rd hS hm (fun q hq' => ⟨by have := (hq q hq').1; omega, (hq q hq').2⟩) hs.oi ⟨by simp only; omega, by simp only; omega, by simp only; omega, by simp only; omega⟩
theorem k2_pos (n : Nat) (Q : List YQ) (o : Nat) : ¬ k2 n Q + o < 0 := by
  have h := mkE_ge Q (k1 n)
  have h1 : k1 n = 1 + 5 * (n : Int) := rfl
  unfold k2
  omega
theorem ans_mark {w W : World} {A Bs : List Rw} {r y o : Sv} {g : ByteArray} {s : Int} {R : List Rc} {Y : List Yd} {Q : List YQ} {O : List Int} (hS : Sg w W (A ++ (shR ⟨r, y, o, g, s⟩ R Q O ++ Bs))) (hq : ∀ q ∈ Q, q.2.n ≤ 1000 ∧ q.1.L.length = q.2.n) (he : yds Q = Y) (hs : Sml R Y O g) {v : Int} (hv : k2 r.n Q + o.n = v) :
    Calls Tryz.prog 9 #[Hv.v ⟨r, y, o, g, s⟩, .int .i64 1] W fun e w' => e = .returned (.int .i64 v) ∧ Sg w w' (A ++ (shR ⟨r, y, o, g, s⟩ (mkRs 1 r.n) (mkY (k1 r.n) Q) (mk1 (k2 r.n Q) o.n) ++ Bs)) := by
  obtain ⟨l1, l2, l3⟩ := shR_len hS (h := ⟨r, y, o, g, s⟩) (R := R) (QL := Q) (O := O) (fun x hx => by simp [hx])
  simp only at l1 l2 l3
  have h1 := hs.r
  have h2 := hs.y
  have h3 := hs.o
  have h4 := ywS_small hs.ys
  rw [← he, yds_len] at h2
  have h5 := ywt_eq fun q hq' => (hq q hq').2
  rw [he] at h5
  rw [← he, yds_len, he] at h4
  exact markShard_any ⟨r, y, o, g, s⟩ R Q O A Bs w W hS (by simp only; omega) (by simp only; omega) (by simp only; omega) (fun q hq' => by have := (hq q hq').1; omega) (by omega) hv
theorem ans_held {w W : World} {rs : List Rw} {r y o : Sv} {g : ByteArray} {s : Int} {R : List Rc} {Y : List Yd} {Q : List YQ} {O : List Int} (hS : Sg w W rs) (hm : ∀ x ∈ shR ⟨r, y, o, g, s⟩ (mkRs 1 r.n) (mkY (k1 r.n) Q) (mk1 (k2 r.n Q) o.n), x ∈ rs) (hb : r.n ≤ 1000 ∧ o.n ≤ 1000) (hq : ∀ q ∈ Q, q.2.n ≤ 1000 ∧ q.1.L.length = q.2.n) (he : yds Q = Y) (hs : Sml R Y O g) {v : Int} (hv : k2 r.n Q + o.n = v) :
    Calls Tryz.prog 10 #[Hv.v ⟨r, y, o, g, s⟩, .int .i64 1] W fun e w' => e = .returned (.int .i64 v) ∧ Below W.heap.size W w' := by
  obtain ⟨l1, l2, l3⟩ := shR_len hS hm
  simp only at l1 l2 l3
  rw [mkY_len] at l2
  have h2 := hs.y
  have h4 := ywS_small hs.ys
  rw [← he, yds_len] at h2
  have h5 := ywt_eq fun q hq' => (hq q hq').2
  rw [he] at h5
  rw [← he, yds_len, he] at h4
  refine heldShard_any ⟨r, y, o, g, s⟩ Q W ?_ ?_ ?_ l2.symm (by simp only; omega) (by simp only; omega) (by simp only; omega) (fun q hq' => by have := (hq q hq').1; omega) (by omega) hv
  · exact OwG.sl (hS.mem (K := kR) (v := .slice r.p r.n r.c) (L := mkRs 1 r.n) (hm _ (by simp [shR])))
  · refine trY_rd hS (n := y.n) (c := y.c) (fun x hx => hm x (by unfold shR; simp only [List.mem_cons, List.mem_append]; exact .inr (.inl hx))) (fun q hq' => (mkY_mem hq').1)
  · exact OwG.sl (hS.mem (K := kI) (v := .slice o.p o.n o.c) (L := mk1 (k2 r.n Q) o.n) (hm _ (by simp [shR])))
set_option maxRecDepth 100000 in
set_option maxHeartbeats 8000000 in
theorem exactSynced (h : Hv) (R : List Rc) (QL : List YQ) (O : List Int) (w : World) (H : RdLS w h R QL O) (hs : SmS h R QL) :
    Calls Tryz.prog 3 #[h.v] w fun e w' => e = .returned (.bool true) ∧ Below w.heap.size w w' := by
  by_cases hz : ssz h R QL ≤ 1048576
  · obtain ⟨p1, p2, p3, p4, p5⟩ := ssz_parts H hz
    obtain ⟨v, hv⟩ : ∃ v, (1048576 : Int) - (ssz h R QL : Int) = v := ⟨_, rfl⟩
    have hv0 : ¬ v < 0 := by omega
    have hyw : ywS (yds QL) ≤ 1048576 := by
      have h1 := ywS_ysz QL
      unfold ssz at hz
      omega
    have HZ := Lib.hid (fun W (hb : Below w.heap.size w W) => szShard_v (h := h) (R := R) (QL := QL) (O := O) (v := v) (by rw [if_neg (by omega)]; exact hv) W (H.step hb) hs)
    have HT := Lib.hid (fun W (hb : Below w.heap.size w W) => toShard_any h R QL O W (H.step hb) p1 p2 p3 p5)
    obtain ⟨b, hbb⟩ : ∃ b, shB R (yds QL) O h.g.size h.s = b := ⟨_, rfl⟩
    obtain ⟨R', Y', O', g', s', hr⟩ := syr_ex b R (yds QL) O h.g
    have hoi := H.oi
    have hsm := syr_small hbb hr hoi
    obtain ⟨⟨rp, rn, rc⟩, ⟨yp, yn, yc⟩, ⟨op, on, oc⟩, g, s⟩ := h
    dsimp only at HZ HT hbb hr p1 p2 p3 p4 p5
    have HRd : Hid (∀ (X W : World) (rs : List Rw) (g1 g2 g3 : Nat) (Q : List YQ), Sg X W rs → (∀ r ∈ shR ⟨⟨some ⟨g1, 0, none⟩, rn, rn⟩, ⟨some ⟨g2, 0, none⟩, yn, yn⟩, ⟨some ⟨g3, 0, none⟩, on, on⟩, g, s⟩ R Q O, r ∈ rs) → (∀ q ∈ Q, q.2.n ≤ 1048576 ∧ q.1.L.length = q.2.n) → RdS W ⟨⟨some ⟨g1, 0, none⟩, rn, rn⟩, ⟨some ⟨g2, 0, none⟩, yn, yn⟩, ⟨some ⟨g3, 0, none⟩, on, on⟩, g, s⟩ R Q O) := fun X W rs g1 g2 g3 Q hS hm hq => shR_rd hS hm hq hoi ⟨by simp only; omega, by simp only; omega, by simp only; omega, by simp only; omega⟩
    have HS : Hid (∀ (X W : World) (rs : List Rw) (g1 g2 g3 : Nat) (Q : List YQ), Sg X W rs → (∀ r ∈ shR ⟨⟨some ⟨g1, 0, none⟩, rn, rn⟩, ⟨some ⟨g2, 0, none⟩, yn, yn⟩, ⟨some ⟨g3, 0, none⟩, on, on⟩, g, s⟩ R Q O, r ∈ rs) → (∀ q ∈ Q, q.2.n ≤ 1048576 ∧ q.1.L.length = q.2.n) → yds Q = yds QL → Calls Tryz.prog 5 #[Hv.v ⟨⟨some ⟨g1, 0, none⟩, rn, rn⟩, ⟨some ⟨g2, 0, none⟩, yn, yn⟩, ⟨some ⟨g3, 0, none⟩, on, on⟩, g, s⟩] W fun e w' => ∃ (r y o : Sv) (Q2 : List YQ), e = .returned (Hv.v ⟨r, y, o, g', s'⟩) ∧ yds Q2 = Y' ∧ (∀ q ∈ Q2, q.2.n ≤ 1000 ∧ q.1.L.length = q.2.n) ∧ Sg W w' (shR ⟨r, y, o, g', s'⟩ R' Q2 O')) := fun X W rs g1 g2 g3 Q hS hm hq he => sSynced_of sCopy_any (b := b) (by rw [he]; exact hbb) (by rw [he]; exact hr) W (HRd X W rs g1 g2 g3 Q hS hm hq) (shR_ok hS hm)
    have HI : Hid (∀ (X W : World) (rs : List Rw) (g1 g2 g3 : Nat) (Q : List YQ), Sg X W rs → (∀ r ∈ shR ⟨⟨some ⟨g1, 0, none⟩, rn, rn⟩, ⟨some ⟨g2, 0, none⟩, yn, yn⟩, ⟨some ⟨g3, 0, none⟩, on, on⟩, g, s⟩ R Q O, r ∈ rs) → (∀ q ∈ Q, q.2.n ≤ 1048576 ∧ q.1.L.length = q.2.n) → yds Q = yds QL → Calls Tryz.prog 7 #[Hv.v ⟨⟨some ⟨g1, 0, none⟩, rn, rn⟩, ⟨some ⟨g2, 0, none⟩, yn, yn⟩, ⟨some ⟨g3, 0, none⟩, on, on⟩, g, s⟩] W fun e w' => ∃ (r y o : Sv) (Q2 : List YQ), e = .returned (Hv.v ⟨r, y, o, g', s'⟩) ∧ yds Q2 = Y' ∧ (∀ q ∈ Q2, q.2.n ≤ 1000 ∧ q.1.L.length = q.2.n) ∧ Sg W w' (shR ⟨r, y, o, g', s'⟩ R' Q2 O')) := fun X W rs g1 g2 g3 Q hS hm hq he => iSynced_v (b := b) (by rw [he]; exact hbb) (by rw [he]; exact hr) W (HRd X W rs g1 g2 g3 Q hS hm hq) (shR_ok hS hm)
    have HE : Hid (∀ W a1 a2 a3 b1 b2 b3 (A B : List YQ), RdS W ⟨⟨some ⟨a1, 0, none⟩, rn, rn⟩, ⟨some ⟨a2, 0, none⟩, yn, yn⟩, ⟨some ⟨a3, 0, none⟩, on, on⟩, g, s⟩ R A O → RdS W ⟨⟨some ⟨b1, 0, none⟩, rn, rn⟩, ⟨some ⟨b2, 0, none⟩, yn, yn⟩, ⟨some ⟨b3, 0, none⟩, on, on⟩, g, s⟩ R B O → yds A = yds QL → yds B = yds QL → (∀ q ∈ A, q.2.n ≤ 1048576 ∧ q.1.L.length = q.2.n) → Calls Tryz.prog 8 #[Hv.v ⟨⟨some ⟨a1, 0, none⟩, rn, rn⟩, ⟨some ⟨a2, 0, none⟩, yn, yn⟩, ⟨some ⟨a3, 0, none⟩, on, on⟩, g, s⟩, Hv.v ⟨⟨some ⟨b1, 0, none⟩, rn, rn⟩, ⟨some ⟨b2, 0, none⟩, yn, yn⟩, ⟨some ⟨b3, 0, none⟩, on, on⟩, g, s⟩] W fun e w' => e = .returned (.bool true) ∧ Below W.heap.size W w') := fun W a1 a2 a3 b1 b2 b3 A B ha hb e1 e2 hq => eqShard_same _ _ R A B O W ha hb (e1.trans e2.symm) rfl rfl (fun y hy => (hq y hy).1)
    have HE2 : Hid (∀ (X W : World) (rs : List Rw) (ar ay ao br by_ bo : Sv) (A B : List YQ), Sg X W rs → (∀ r ∈ shR ⟨ar, ay, ao, g', s'⟩ R' A O', r ∈ rs) → (∀ r ∈ shR ⟨br, by_, bo, g', s'⟩ R' B O', r ∈ rs) → (∀ q ∈ A, q.2.n ≤ 1000 ∧ q.1.L.length = q.2.n) → (∀ q ∈ B, q.2.n ≤ 1000 ∧ q.1.L.length = q.2.n) → yds A = Y' → yds B = Y' → Calls Tryz.prog 8 #[Hv.v ⟨ar, ay, ao, g', s'⟩, Hv.v ⟨br, by_, bo, g', s'⟩] W fun e w' => e = .returned (.bool true) ∧ Below W.heap.size W w') := fun X W rs ar ay ao br by_ bo A B hS ha hb qa qb ea eb => eqShard_same _ _ R' A B O' W (ans_rd hS ha qa ea hsm) (ans_rd hS hb qb eb hsm) (ea.trans eb.symm) rfl rfl (fun y hy => by have := (qa y hy).1; omega)
    have HM1 : Hid (∀ (X W : World) (A Bs : List Rw) (g1 g2 g3 : Nat) (Q : List YQ), Sg X W (A ++ (shR ⟨⟨some ⟨g1, 0, none⟩, rn, rn⟩, ⟨some ⟨g2, 0, none⟩, yn, yn⟩, ⟨some ⟨g3, 0, none⟩, on, on⟩, g, s⟩ R Q O ++ Bs)) → (∀ q ∈ Q, q.2.n ≤ 1048576 ∧ q.1.L.length = q.2.n) → yds Q = yds QL → Calls Tryz.prog 9 #[Hv.v ⟨⟨some ⟨g1, 0, none⟩, rn, rn⟩, ⟨some ⟨g2, 0, none⟩, yn, yn⟩, ⟨some ⟨g3, 0, none⟩, on, on⟩, g, s⟩, .int .i64 1] W fun e w' => ∃ v : Int, e = .returned (.int .i64 v) ∧ ¬ v < 0 ∧ Sg X w' (A ++ Bs)) := fun X W A Bs g1 g2 g3 Q hS hq he => by
      have h5 := ywt_eq fun q hq' => (hq q hq').2
      rw [he] at h5
      refine (markShard_any ⟨⟨some ⟨g1, 0, none⟩, rn, rn⟩, ⟨some ⟨g2, 0, none⟩, yn, yn⟩, ⟨some ⟨g3, 0, none⟩, on, on⟩, g, s⟩ R Q O A Bs X W hS p1 p2 p3 (fun q hq' => (hq q hq').1) (by omega) rfl).mono ?_
      rintro e w' ⟨rfl, h1⟩
      exact ⟨_, rfl, k2_pos _ _ _, h1.sub ((List.sublist_append_right _ _).append_left A)⟩
    have HM2 : Hid (∀ (X W : World) (A Bs : List Rw) (r y o : Sv) (Q : List YQ) (v : Int), Sg X W (A ++ (shR ⟨r, y, o, g', s'⟩ R' Q O' ++ Bs)) → (∀ q ∈ Q, q.2.n ≤ 1000 ∧ q.1.L.length = q.2.n) → yds Q = Y' → k2 r.n Q + o.n = v → Calls Tryz.prog 9 #[Hv.v ⟨r, y, o, g', s'⟩, .int .i64 1] W fun e w' => e = .returned (.int .i64 v) ∧ Sg X w' (A ++ (shR ⟨r, y, o, g', s'⟩ (mkRs 1 r.n) (mkY (k1 r.n) Q) (mk1 (k2 r.n Q) o.n) ++ Bs))) := fun X W A Bs r y o Q v hS hq he hv => ans_mark hS hq he hsm hv
    have HH : Hid (∀ (X W : World) (rs : List Rw) (r y o : Sv) (Q : List YQ) (v : Int), Sg X W rs → (∀ x ∈ shR ⟨r, y, o, g', s'⟩ (mkRs 1 r.n) (mkY (k1 r.n) Q) (mk1 (k2 r.n Q) o.n), x ∈ rs) → (r.n ≤ 1000 ∧ o.n ≤ 1000) → (∀ q ∈ Q, q.2.n ≤ 1000 ∧ q.1.L.length = q.2.n) → yds Q = Y' → k2 r.n Q + o.n = v → Calls Tryz.prog 10 #[Hv.v ⟨r, y, o, g', s'⟩, .int .i64 1] W fun e w' => e = .returned (.int .i64 v) ∧ Below W.heap.size W w') := fun X W rs r y o Q v hS hm hb hq he hv => ans_held hS hm hb hq he hsm hv
    have HB : Hid (R'.length ≤ 1000 ∧ O'.length ≤ 1000) := ⟨hsm.r, hsm.o⟩
    have h0 := sg_bel (below_alloc1 w (.cells #[.slice rp rn rc, .slice yp yn yc, .slice op on oc, .string g, .int .i64 s] 26))
    have hx := Sg.nil (w.alloc (.cells #[.slice rp rn rc, .slice yp yn yc, .slice op on oc, .string g, .int .i64 s] 26))
    obtain ⟨b0, b1, b2, b3, b4⟩ := bx5 hx.bel
    clear H hs hz hv hbb hr p1 p2 p3 p4 p5 hoi hsm hyw
    go_enter Tryz.func3, Tryz.ntmps3
    go_upto_region 5 with (go_at_call 4; refine (HZ.out _ (h0.addL hx).bel).mono ?_; rintro e w1 ⟨rfl, hb1⟩; replace hx := hx.step hb1; clear b0 b1 b2 b3 b4; obtain ⟨b0, b1, b2, b3, b4⟩ := bx5 hx.bel)
    go_upto_region 6 with (first
      | (go_at_call 6; refine (HT.out _ (h0.addL hx).bel).mono ?_; rintro e w2 ⟨a1, a2, a3, Q1, rfl, he1, hm1, hg1⟩; replace hx := hx.addL hg1; clear b0 b1 b2 b3 b4)
      | (go_at_call 5; refine (HS.out _ _ _ a1 a2 a3 Q1 hx (fun r hr => by simp [hr]) hm1 he1).mono ?_; rintro e w3 ⟨wr, wy, wo, Qw, rfl, hew, hqw, hg3⟩; replace hx : Sg (w.alloc (.cells #[.slice rp rn rc, .slice yp yn yc, .slice op on oc, .string g, .int .i64 s] 26)) w3 (shR ⟨wr, wy, wo, g', s'⟩ R' Qw O') := (hx.addL hg3).sub (List.sublist_append_left ..); obtain ⟨b0, b1, b2, b3, b4⟩ := bx5 hx.bel))
    replace hx : Sg (w.alloc (.cells #[.slice rp rn rc, .slice yp yn yc, .slice op on oc, .string g, .int .i64 s] 26)) (w3.alloc (.cells #[.slice wr.p wr.n wr.c, .slice wy.p wy.n wy.c, .slice wo.p wo.n wo.c, .string g', .int .i64 s'] 31)) (rG kSh (.slice (some ⟨w3.heap.size, 0, none⟩) 1 1) [⟨wr, wy, wo, g', s'⟩] :: shR ⟨wr, wy, wo, g', s'⟩ R' Qw O') := hx.lit kSh [⟨wr, wy, wo, g', s'⟩] 1 rfl (by decide) #[.slice wr.p wr.n wr.c, .slice wy.p wy.n wy.c, .slice wo.p wo.n wo.c, .string g', .int .i64 s'] rfl
    clear b0 b1 b2 b3 b4
    obtain ⟨b0, b1, b2, b3, b4⟩ := bx5 hx.bel
    go_upto_region 7 with (go_at_call 6; refine (HT.out _ (h0.addL hx).bel).mono ?_; rintro e w4 ⟨c1, c2, c3, Q2, rfl, he2, hm2, hg4⟩; replace hx := hx.addL hg4; clear b0 b1 b2 b3 b4; obtain ⟨b0, b1, b2, b3, b4⟩ := bx5 hx.bel)
    replace hx : Sg (w.alloc (.cells #[.slice rp rn rc, .slice yp yn yc, .slice op on oc, .string g, .int .i64 s] 26)) (w4.alloc (.cells #[.slice (some ⟨c1, 0, none⟩) rn rn, .slice (some ⟨c2, 0, none⟩) yn yn, .slice (some ⟨c3, 0, none⟩) on on, .string g, .int .i64 s] 31)) (rG kSh (.slice (some ⟨w4.heap.size, 0, none⟩) 1 1) [⟨⟨some ⟨c1, 0, none⟩, rn, rn⟩, ⟨some ⟨c2, 0, none⟩, yn, yn⟩, ⟨some ⟨c3, 0, none⟩, on, on⟩, g, s⟩] :: (shR ⟨⟨some ⟨c1, 0, none⟩, rn, rn⟩, ⟨some ⟨c2, 0, none⟩, yn, yn⟩, ⟨some ⟨c3, 0, none⟩, on, on⟩, g, s⟩ R Q2 O ++ (rG kSh (.slice (some ⟨w3.heap.size, 0, none⟩) 1 1) [⟨wr, wy, wo, g', s'⟩] :: shR ⟨wr, wy, wo, g', s'⟩ R' Qw O'))) := hx.lit kSh [⟨⟨some ⟨c1, 0, none⟩, rn, rn⟩, ⟨some ⟨c2, 0, none⟩, yn, yn⟩, ⟨some ⟨c3, 0, none⟩, on, on⟩, g, s⟩] 1 rfl (by decide) #[.slice (some ⟨c1, 0, none⟩) rn rn, .slice (some ⟨c2, 0, none⟩) yn yn, .slice (some ⟨c3, 0, none⟩) on on, .string g, .int .i64 s] rfl
    clear b0 b1 b2 b3 b4
    obtain ⟨x0, x1, x2, x3, x4, xf, xg⟩ := sh5 hx (K := kSh) (g := w4.heap.size) (n := 1) (q := ⟨⟨some ⟨c1, 0, none⟩, rn, rn⟩, ⟨some ⟨c2, 0, none⟩, yn, yn⟩, ⟨some ⟨c3, 0, none⟩, on, on⟩, g, s⟩) (by simp) rfl; dsimp only at x0 x1 x2 x3 x4
    go_upto_region 8 with (go_at_call 7; refine (HI.out _ _ _ c1 c2 c3 Q2 hx (fun r hr => by simp [hr]) hm2 he2).mono ?_; rintro e w5 ⟨gr, gy, go, Qg, rfl, heg, hqg, hg5⟩; replace hx := hx.addL hg5; clear x0 x1 x2 x3 x4)
    replace hx : Sg (w.alloc (.cells #[.slice rp rn rc, .slice yp yn yc, .slice op on oc, .string g, .int .i64 s] 26)) (w5.alloc (.cells #[.slice gr.p gr.n gr.c, .slice gy.p gy.n gy.c, .slice go.p go.n go.c, .string g', .int .i64 s'] 31)) (rG kSh (.slice (some ⟨w5.heap.size, 0, none⟩) 1 1) [⟨gr, gy, go, g', s'⟩] :: (shR ⟨gr, gy, go, g', s'⟩ R' Qg O' ++ (rG kSh (.slice (some ⟨w4.heap.size, 0, none⟩) 1 1) [⟨⟨some ⟨c1, 0, none⟩, rn, rn⟩, ⟨some ⟨c2, 0, none⟩, yn, yn⟩, ⟨some ⟨c3, 0, none⟩, on, on⟩, g, s⟩] :: (shR ⟨⟨some ⟨c1, 0, none⟩, rn, rn⟩, ⟨some ⟨c2, 0, none⟩, yn, yn⟩, ⟨some ⟨c3, 0, none⟩, on, on⟩, g, s⟩ R Q2 O ++ (rG kSh (.slice (some ⟨w3.heap.size, 0, none⟩) 1 1) [⟨wr, wy, wo, g', s'⟩] :: shR ⟨wr, wy, wo, g', s'⟩ R' Qw O'))))) := hx.lit kSh [⟨gr, gy, go, g', s'⟩] 1 rfl (by decide) #[.slice gr.p gr.n gr.c, .slice gy.p gy.n gy.c, .slice go.p go.n go.c, .string g', .int .i64 s'] rfl
    obtain ⟨y0, y1, y2, y3, y4, yf, yg⟩ := sh5 hx (K := kSh) (g := w5.heap.size) (n := 1) (q := ⟨gr, gy, go, g', s'⟩) (by simp) rfl; dsimp only at y0 y1 y2 y3 y4
    obtain ⟨z0, z1, z2, z3, z4, zf, zg⟩ := sh5 hx (K := kSh) (g := w3.heap.size) (n := 1) (q := ⟨wr, wy, wo, g', s'⟩) (by simp) rfl; dsimp only at z0 z1 z2 z3 z4
    go_upto_region 10 with (go_at_call 8; refine (HE2.out _ _ _ gr gy go wr wy wo Qg Qw hx (fun r hr => by simp [hr]) (fun r hr => by simp [hr]) hqg hqw heg hew).mono ?_; rintro e w6 ⟨rfl, hb6⟩; replace hx := hx.step hb6; clear y0 y1 y2 y3 y4 z0 z1 z2 z3 z4)
    clear xf xg yf yg zf zg
    generalize w3.heap.size = k4 at *
    generalize w4.heap.size = k5 at *
    generalize w5.heap.size = k6 at *
    have HK2 : Hid (∀ w' rs, Sg (w.alloc (.cells #[.slice rp rn rc, .slice yp yn yc, .slice op on oc, .string g, .int .i64 s] 26)) w' rs → rG kSh (.slice (some ⟨k5, 0, none⟩) 1 1) [⟨⟨some ⟨c1, 0, none⟩, rn, rn⟩, ⟨some ⟨c2, 0, none⟩, yn, yn⟩, ⟨some ⟨c3, 0, none⟩, on, on⟩, g, s⟩] ∈ rs → ((w'.cell? ⟨k5, 0, none⟩ = some (.slice (some ⟨c1, 0, none⟩) rn rn) ∧ w'.cell? ⟨k5, 1, none⟩ = some (.slice (some ⟨c2, 0, none⟩) yn yn) ∧ w'.cell? ⟨k5, 2, none⟩ = some (.slice (some ⟨c3, 0, none⟩) on on) ∧ w'.cell? ⟨k5, 3, none⟩ = some (.string g) ∧ w'.cell? ⟨k5, 4, none⟩ = some (.int .i64 s)) ∧ (w'.cell? ⟨w.heap.size, 0, none⟩ = some (.slice rp rn rc) ∧ w'.cell? ⟨w.heap.size, 1, none⟩ = some (.slice yp yn yc) ∧ w'.cell? ⟨w.heap.size, 2, none⟩ = some (.slice op on oc) ∧ w'.cell? ⟨w.heap.size, 3, none⟩ = some (.string g) ∧ w'.cell? ⟨w.heap.size, 4, none⟩ = some (.int .i64 s)))) := fun w' rs h m1 => by
      obtain ⟨y0, y1, y2, y3, y4, _, _⟩ := sh5 h (K := kSh) (g := k5) (n := 1) (q := ⟨⟨some ⟨c1, 0, none⟩, rn, rn⟩, ⟨some ⟨c2, 0, none⟩, yn, yn⟩, ⟨some ⟨c3, 0, none⟩, on, on⟩, g, s⟩) m1 rfl
      exact ⟨⟨y0, y1, y2, y3, y4⟩, bx5 h.bel⟩
    go_region_held3 (fun w' => ((w'.cell? ⟨k5, 0, none⟩ = some (.slice (some ⟨c1, 0, none⟩) rn rn) ∧ w'.cell? ⟨k5, 1, none⟩ = some (.slice (some ⟨c2, 0, none⟩) yn yn) ∧ w'.cell? ⟨k5, 2, none⟩ = some (.slice (some ⟨c3, 0, none⟩) on on) ∧ w'.cell? ⟨k5, 3, none⟩ = some (.string g) ∧ w'.cell? ⟨k5, 4, none⟩ = some (.int .i64 s)) ∧ (w'.cell? ⟨w.heap.size, 0, none⟩ = some (.slice rp rn rc) ∧ w'.cell? ⟨w.heap.size, 1, none⟩ = some (.slice yp yn yc) ∧ w'.cell? ⟨w.heap.size, 2, none⟩ = some (.slice op on oc) ∧ w'.cell? ⟨w.heap.size, 3, none⟩ = some (.string g) ∧ w'.cell? ⟨w.heap.size, 4, none⟩ = some (.int .i64 s))))
      (first
        | assumption
        | with_reducible exact HK2.out _ _ hx (by simp)
        | with_reducible exact HK2.out _ _ (Sg.dr hx) (by simp))
      (first
        | (go_at_call 6; refine (HT.out _ (by first | with_reducible exact (h0.addL hx).bel | with_reducible exact (h0.addL (Sg.dr hx)).bel)).mono ?_; rintro e w7 ⟨d1, d2, d3, Q3, rfl, he3, hm3, hg3⟩; (first | with_reducible (replace hx := hx.addL hg3) | with_reducible (replace hx := (Sg.dr hx).addL hg3)); clear hg3)
        | (go_at_call 8; refine (HE.out _ c1 c2 c3 d1 d2 d3 Q2 Q3 (HRd.out _ _ _ _ _ _ _ hx (fun r hr => by simp [hr]) hm2) (HRd.out _ _ _ _ _ _ _ hx (fun r hr => by simp [hr]) hm3) he2 he3 hm2).mono ?_; rintro e w8 ⟨rfl, hb8⟩; replace hx := hx.step hb8; clear hb8))
    replace hx : Sg (w.alloc (.cells #[.slice rp rn rc, .slice yp yn yc, .slice op on oc, .string g, .int .i64 s] 26)) w8 (rG kSh (.slice (some ⟨k6, 0, none⟩) 1 1) [⟨gr, gy, go, g', s'⟩] :: (shR ⟨gr, gy, go, g', s'⟩ R' Qg O' ++ (rG kSh (.slice (some ⟨k5, 0, none⟩) 1 1) [⟨⟨some ⟨c1, 0, none⟩, rn, rn⟩, ⟨some ⟨c2, 0, none⟩, yn, yn⟩, ⟨some ⟨c3, 0, none⟩, on, on⟩, g, s⟩] :: (shR ⟨⟨some ⟨c1, 0, none⟩, rn, rn⟩, ⟨some ⟨c2, 0, none⟩, yn, yn⟩, ⟨some ⟨c3, 0, none⟩, on, on⟩, g, s⟩ R Q2 O ++ (rG kSh (.slice (some ⟨k4, 0, none⟩) 1 1) [⟨wr, wy, wo, g', s'⟩] :: shR ⟨wr, wy, wo, g', s'⟩ R' Qw O'))))) := hx.sub (List.sublist_append_right ..)
    have hxm : Sg (w.alloc (.cells #[.slice rp rn rc, .slice yp yn yc, .slice op on oc, .string g, .int .i64 s] 26)) w8 ((rG kSh (.slice (some ⟨k6, 0, none⟩) 1 1) [⟨gr, gy, go, g', s'⟩] :: (shR ⟨gr, gy, go, g', s'⟩ R' Qg O' ++ [rG kSh (.slice (some ⟨k5, 0, none⟩) 1 1) [⟨⟨some ⟨c1, 0, none⟩, rn, rn⟩, ⟨some ⟨c2, 0, none⟩, yn, yn⟩, ⟨some ⟨c3, 0, none⟩, on, on⟩, g, s⟩]])) ++ (shR ⟨⟨some ⟨c1, 0, none⟩, rn, rn⟩, ⟨some ⟨c2, 0, none⟩, yn, yn⟩, ⟨some ⟨c3, 0, none⟩, on, on⟩, g, s⟩ R Q2 O ++ (rG kSh (.slice (some ⟨k4, 0, none⟩) 1 1) [⟨wr, wy, wo, g', s'⟩] :: shR ⟨wr, wy, wo, g', s'⟩ R' Qw O'))) := by simpa using hx
    go_upto_region 13 with (fail)
    obtain ⟨x0, x1, x2, x3, x4, xf, xg⟩ := sh5 hx (K := kSh) (g := k5) (n := 1) (q := ⟨⟨some ⟨c1, 0, none⟩, rn, rn⟩, ⟨some ⟨c2, 0, none⟩, yn, yn⟩, ⟨some ⟨c3, 0, none⟩, on, on⟩, g, s⟩) (by simp) rfl; dsimp only at x0 x1 x2 x3 x4
    clear hx
    go_upto_region 14 with (go_at_call 9; refine (HM1.out _ _ _ _ c1 c2 c3 Q2 hxm hm2 he2).mono ?_; rintro e w9 ⟨v9, rfl, hv9, hx9⟩; clear x0 x1 x2 x3 x4)
    clear hxm xf xg
    have hx : Sg (w.alloc (.cells #[.slice rp rn rc, .slice yp yn yc, .slice op on oc, .string g, .int .i64 s] 26)) w9 (rG kSh (.slice (some ⟨k6, 0, none⟩) 1 1) [⟨gr, gy, go, g', s'⟩] :: (shR ⟨gr, gy, go, g', s'⟩ R' Qg O' ++ (rG kSh (.slice (some ⟨k4, 0, none⟩) 1 1) [⟨wr, wy, wo, g', s'⟩] :: shR ⟨wr, wy, wo, g', s'⟩ R' Qw O'))) := (show Sg (w.alloc (.cells #[.slice rp rn rc, .slice yp yn yc, .slice op on oc, .string g, .int .i64 s] 26)) w9 (rG kSh (.slice (some ⟨k6, 0, none⟩) 1 1) [⟨gr, gy, go, g', s'⟩] :: (shR ⟨gr, gy, go, g', s'⟩ R' Qg O' ++ (rG kSh (.slice (some ⟨k5, 0, none⟩) 1 1) [⟨⟨some ⟨c1, 0, none⟩, rn, rn⟩, ⟨some ⟨c2, 0, none⟩, yn, yn⟩, ⟨some ⟨c3, 0, none⟩, on, on⟩, g, s⟩] :: (rG kSh (.slice (some ⟨k4, 0, none⟩) 1 1) [⟨wr, wy, wo, g', s'⟩] :: shR ⟨wr, wy, wo, g', s'⟩ R' Qw O')))) by simpa using hx9).sub (List.Sublist.cons_cons _ (List.Sublist.append_left (List.sublist_cons_self ..) _))
    clear hx9
    obtain ⟨y0, y1, y2, y3, y4, yf, yg⟩ := sh5 hx (K := kSh) (g := k6) (n := 1) (q := ⟨gr, gy, go, g', s'⟩) (by simp) rfl; dsimp only at y0 y1 y2 y3 y4
    obtain ⟨z0, z1, z2, z3, z4, zf, zg⟩ := sh5 hx (K := kSh) (g := k4) (n := 1) (q := ⟨wr, wy, wo, g', s'⟩) (by simp) rfl; dsimp only at z0 z1 z2 z3 z4
    go_upto_region 17 with (go_at_call 8; refine (HE2.out _ _ _ gr gy go wr wy wo Qg Qw hx (fun r hr => by simp [hr]) (fun r hr => by simp [hr]) hqg hqw heg hew).mono ?_; rintro e w10 ⟨rfl, hb10⟩; replace hx := hx.step hb10; clear y0 y1 y2 y3 y4 z0 z1 z2 z3 z4; clear yf yg zf zg; obtain ⟨y0, y1, y2, y3, y4, yf, yg⟩ := sh5 hx (K := kSh) (g := k6) (n := 1) (q := ⟨gr, gy, go, g', s'⟩) (by simp) rfl; dsimp only at y0 y1 y2 y3 y4)
    obtain ⟨vm, hvm⟩ : ∃ z : Int, k2 gr.n Qg + go.n = z := ⟨_, rfl⟩
    have hvp : ¬ vm < 0 := by rw [← hvm]; exact k2_pos _ _ _
    have hgl : gr.n ≤ 1000 ∧ go.n ≤ 1000 := by
      obtain ⟨l1, l2, l3⟩ := shR_len hx (h := ⟨gr, gy, go, g', s'⟩) (R := R') (QL := Qg) (O := O') (fun r hr => by simp [hr])
      have := HB.out
      simp only at l1 l3
      omega
    have hxm : Sg (w.alloc (.cells #[.slice rp rn rc, .slice yp yn yc, .slice op on oc, .string g, .int .i64 s] 26)) w10 ([rG kSh (.slice (some ⟨k6, 0, none⟩) 1 1) [⟨gr, gy, go, g', s'⟩]] ++ (shR ⟨gr, gy, go, g', s'⟩ R' Qg O' ++ (rG kSh (.slice (some ⟨k4, 0, none⟩) 1 1) [⟨wr, wy, wo, g', s'⟩] :: shR ⟨wr, wy, wo, g', s'⟩ R' Qw O'))) := hx
    clear hx
    go_upto_region 19 with (go_at_call 9; refine (HM2.out _ _ _ _ gr gy go Qg vm hxm hqg heg hvm).mono ?_; rintro e w11 ⟨rfl, hx11⟩; clear y0 y1 y2 y3 y4; clear yf yg)
    have hx : Sg (w.alloc (.cells #[.slice rp rn rc, .slice yp yn yc, .slice op on oc, .string g, .int .i64 s] 26)) w11 (rG kSh (.slice (some ⟨k6, 0, none⟩) 1 1) [⟨gr, gy, go, g', s'⟩] :: (shR ⟨gr, gy, go, g', s'⟩ (mkRs 1 gr.n) (mkY (k1 gr.n) Qg) (mk1 (k2 gr.n Qg) go.n) ++ (rG kSh (.slice (some ⟨k4, 0, none⟩) 1 1) [⟨wr, wy, wo, g', s'⟩] :: shR ⟨wr, wy, wo, g', s'⟩ R' Qw O'))) := hx11
    clear hxm hx11
    obtain ⟨y0, y1, y2, y3, y4, yf, yg⟩ := sh5 hx (K := kSh) (g := k6) (n := 1) (q := ⟨gr, gy, go, g', s'⟩) (by simp) rfl; dsimp only at y0 y1 y2 y3 y4
    go_upto_region 24 with (go_at_call 10; refine (HH.out _ _ _ gr gy go Qg vm hx (fun r hr => by simp [hr]) hgl hqg heg hvm).mono ?_; rintro e w12 ⟨rfl, hb12⟩; replace hx := hx.step hb12; clear y0 y1 y2 y3 y4; clear yf yg)
    obtain ⟨b0, b1, b2, b3, b4⟩ := bx5 hx.bel
    go_upto_region 25 with (first
      | (go_at_call 6; refine (HT.out _ (h0.addL hx).bel).mono ?_; rintro e w13 ⟨d1, d2, d3, Q4, rfl, he4, hm4, hg4⟩; replace hx := hx.addL hg4; clear hg4; clear b0 b1 b2 b3 b4)
      | (go_at_call 7; refine (HI.out _ _ _ d1 d2 d3 Q4 hx (fun r hr => by simp [hr]) hm4 he4).mono ?_; rintro e w14 ⟨hr_, hy_, ho_, Qh, rfl, heh, hqh, hg5⟩; replace hx := hx.addL hg5; clear hg5))
    replace hx : Sg (w.alloc (.cells #[.slice rp rn rc, .slice yp yn yc, .slice op on oc, .string g, .int .i64 s] 26)) (w14.alloc (.cells #[.slice hr_.p hr_.n hr_.c, .slice hy_.p hy_.n hy_.c, .slice ho_.p ho_.n ho_.c, .string g', .int .i64 s'] 31)) (rG kSh (.slice (some ⟨w14.heap.size, 0, none⟩) 1 1) [⟨hr_, hy_, ho_, g', s'⟩] :: (shR ⟨hr_, hy_, ho_, g', s'⟩ R' Qh O' ++ (shR ⟨⟨some ⟨d1, 0, none⟩, rn, rn⟩, ⟨some ⟨d2, 0, none⟩, yn, yn⟩, ⟨some ⟨d3, 0, none⟩, on, on⟩, g, s⟩ R Q4 O ++ (rG kSh (.slice (some ⟨k6, 0, none⟩) 1 1) [⟨gr, gy, go, g', s'⟩] :: (shR ⟨gr, gy, go, g', s'⟩ (mkRs 1 gr.n) (mkY (k1 gr.n) Qg) (mk1 (k2 gr.n Qg) go.n) ++ (rG kSh (.slice (some ⟨k4, 0, none⟩) 1 1) [⟨wr, wy, wo, g', s'⟩] :: shR ⟨wr, wy, wo, g', s'⟩ R' Qw O')))))) := hx.lit kSh [⟨hr_, hy_, ho_, g', s'⟩] 1 rfl (by decide) #[.slice hr_.p hr_.n hr_.c, .slice hy_.p hy_.n hy_.c, .slice ho_.p ho_.n ho_.c, .string g', .int .i64 s'] rfl
    obtain ⟨y0, y1, y2, y3, y4, yf, yg⟩ := sh5 hx (K := kSh) (g := w14.heap.size) (n := 1) (q := ⟨hr_, hy_, ho_, g', s'⟩) (by simp) rfl; dsimp only at y0 y1 y2 y3 y4
    obtain ⟨z0, z1, z2, z3, z4, zf, zg⟩ := sh5 hx (K := kSh) (g := k4) (n := 1) (q := ⟨wr, wy, wo, g', s'⟩) (by simp) rfl; dsimp only at z0 z1 z2 z3 z4
    go_upto_region 28 with (go_at_call 8; refine (HE2.out _ _ _ hr_ hy_ ho_ wr wy wo Qh Qw hx (fun r hr => by simp [hr]) (fun r hr => by simp [hr]) hqh hqw heh hew).mono ?_; rintro e w15 ⟨rfl, hb15⟩; replace hx := hx.step hb15; clear y0 y1 y2 y3 y4 z0 z1 z2 z3 z4; clear yf yg zf zg)
    obtain ⟨y0, y1, y2, y3, y4, yf, yg⟩ := sh5 hx (K := kSh) (g := k6) (n := 1) (q := ⟨gr, gy, go, g', s'⟩) (by simp) rfl; dsimp only at y0 y1 y2 y3 y4
    go_wp2_with (go_at_call 10; refine (HH.out _ _ _ gr gy go Qg vm hx (fun r hr => by simp [hr]) hgl hqg heg hvm).mono ?_; rintro e w16 ⟨rfl, hb16⟩; replace hx := hx.step hb16; clear y0 y1 y2 y3 y4; clear yf yg)
    go_ret
    exact ⟨rfl, (h0.addL hx).bel⟩
  · have HZ := Lib.hid (fun W (hb : Below w.heap.size w W) => szShard_v (h := h) (R := R) (QL := QL) (O := O) (v := -1) (by rw [if_pos (by omega)]) W (H.step hb) hs)
    obtain ⟨⟨rp, rn, rc⟩, ⟨yp, yn, yc⟩, ⟨op, on, oc⟩, g, s⟩ := h
    have h0 := sg_bel (below_alloc1 w (.cells #[.slice rp rn rc, .slice yp yn yc, .slice op on oc, .string g, .int .i64 s] 26))
    clear H hs hz
    go_enter Tryz.func3, Tryz.ntmps3
    go_wp2_with (go_at_call 4; refine (HZ.out _ h0.bel).mono ?_; rintro e w1 ⟨rfl, hb1⟩)
    go_ret
    exact ⟨rfl, (h0.step hb1).bel⟩
end Go.Proofs.YtppoafggiejdgaaGreat.K.Y
