/-
  The law's marks on a whole Shard, and whether they are held.
-/
import Derived.Test.YtppoafggiejdgaaGreatKY9
namespace Go.Proofs.YtppoafggiejdgaaGreat.K.Y
open Go.Shelf Go.RowKit Go.Joins
attribute [local go_sem] Oper.semAt_some

def ywS (Y : List Yd) : Nat := (Y.map fun y => 1 + y.L.length).sum
theorem ywt_eq : ∀ {QL : List YQ}, (∀ q ∈ QL, q.1.L.length = q.2.n) → ywt QL = ywS (yds QL)
  | [], _ => rfl
  | a :: t, h => by
    have ih := ywt_eq (QL := t) (fun q hq => h q (List.mem_cons_of_mem _ hq))
    have h1 := h a (List.mem_cons_self ..)
    have e1 : ywt (a :: t) = (1 + a.2.n) + ywt t := by simp [ywt]
    have e2 : ywS (yds (a :: t)) = (1 + a.1.L.length) + ywS (yds t) := by simp [ywS, yds]
    rw [e1, e2, ih, h1]
theorem ysm_all (QL : List YQ) : ysm QL QL.length = (QL.map fun y => rsz y.1.L).sum := by unfold ysm; rw [List.take_length]
theorem ywS_le : ∀ QL : List YQ, ywS (yds QL) ≤ QL.length + (QL.map fun y => rsz y.1.L).sum
  | [] => by simp [ywS, yds]
  | a :: t => by
    have ih := ywS_le t
    have e2 : ywS (yds (a :: t)) = (1 + a.1.L.length) + ywS (yds t) := by simp [ywS, yds]
    have e3 : ((a :: t).map fun y => rsz y.1.L).sum = rsz a.1.L + (t.map fun y => rsz y.1.L).sum := by simp
    have h1 : a.1.L.length ≤ rsz a.1.L := by unfold rsz; omega
    rw [e2, e3, List.length_cons]; omega
theorem ywS_ysz (QL : List YQ) : ywS (yds QL) ≤ ysz QL := by unfold ysz; rw [ysm_all]; exact ywS_le QL
/-- Where the marks of Readies begin, and those of numbers. -/
def k1 (n : Nat) : Int := 1 + 5 * n
def k2 (n : Nat) (QL : List YQ) : Int := mkE (k1 n) QL
set_option maxRecDepth 100000 in
set_option maxHeartbeats 4000000 in
theorem markShard_any (h : Hv) (R : List Rc) (QL : List YQ) (O : List Int) (A Bs : List Rw) (w W : World) (hS : Sg w W (A ++ (shR h R QL O ++ Bs))) (hr : h.r.n ≤ 1048576) (hy : h.y.n ≤ 1048576) (ho : h.o.n ≤ 1048576) (hq : ∀ y ∈ QL, y.2.n ≤ 1048576) (hw : ywt QL ≤ 1048576) {v : Int} (hv : k2 h.r.n QL + h.o.n = v) :
    Calls Tryz.prog 9 #[h.v, .int .i64 1] W fun e w' => e = .returned (.int .i64 v) ∧ Sg w w' (A ++ (shR h (mkRs 1 h.r.n) (mkY (k1 h.r.n) QL) (mk1 (k2 h.r.n QL) h.o.n) ++ Bs)) := by
  have hyl : QL.length = h.y.n := (OwG.len (hS.mem (K := kY) (v := .slice h.y.p h.y.n h.y.c) (L := QL) (by simp [shR, trY]))).symm
  have b1 : 1 ≤ k1 h.r.n ∧ k1 h.r.n ≤ 6000000 := by unfold k1; omega
  have b2 := mkE_le QL (k1 h.r.n)
  have b3 := mkE_ge QL (k1 h.r.n)
  obtain ⟨⟨rp, rn, rc⟩, ⟨yp, yn, yc⟩, ⟨op, on, oc⟩, g, s⟩ := h
  simp only at hr hy ho hyl b1 b2 b3 hv ⊢
  have hlit := hS.lit kSh [⟨⟨rp, rn, rc⟩, ⟨yp, yn, yc⟩, ⟨op, on, oc⟩, g, s⟩] 1 rfl (by decide) #[.slice rp rn rc, .slice yp yn yc, .slice op on oc, .string g, .int .i64 s] rfl
  have hS1 : Sg w (W.alloc (.cells #[.slice rp rn rc, .slice yp yn yc, .slice op on oc, .string g, .int .i64 s] 31)) ((rG kSh (.slice (some ⟨W.heap.size, 0, none⟩) 1 1) [⟨⟨rp, rn, rc⟩, ⟨yp, yn, yc⟩, ⟨op, on, oc⟩, g, s⟩] :: (A ++ rG kI (.slice op on oc) O :: trY (.slice yp yn yc) QL [])) ++ rG kR (.slice rp rn rc) R :: Bs) := by
    change Sg w (W.alloc (.cells #[.slice rp rn rc, .slice yp yn yc, .slice op on oc, .string g, .int .i64 s] 31)) _ at hlit
    simpa [shR] using hlit
  have HM1 := Lib.hid (markRecS_any rp rn rc 1 R _ Bs w _ hS1 hr (by decide) (by decide))
  obtain ⟨z1, hz1⟩ : ∃ z : Int, (1 : Int) + 5 * rn = z := ⟨_, rfl⟩
  have hk1 : k1 rn = z1 := hz1
  rw [hz1] at HM1
  rw [hk1] at b1 b2 b3
  obtain ⟨z2, hz2⟩ : ∃ z : Int, mkE z1 QL = z := ⟨_, rfl⟩
  have hk2 : k2 rn QL = z2 := by unfold k2; rw [hk1, hz2]
  rw [hz2] at b2 b3
  rw [hk2] at hv ⊢
  rw [hk1]
  have HQ : Hid (∀ W', Sg w W' ((rG kSh (.slice (some ⟨W.heap.size, 0, none⟩) 1 1) [⟨⟨rp, rn, rc⟩, ⟨yp, yn, yc⟩, ⟨op, on, oc⟩, g, s⟩] :: (A ++ rG kI (.slice op on oc) O :: trY (.slice yp yn yc) QL [])) ++ rG kR (.slice rp rn rc) (mkRs 1 rn) :: Bs) → Calls Tryz.prog 25 #[.slice yp yn yc, .int .i64 z1] W' fun e w' => e = .returned (.int .i64 z2) ∧ Sg w w' (((rG kSh (.slice (some ⟨W.heap.size, 0, none⟩) 1 1) [⟨⟨rp, rn, rc⟩, ⟨yp, yn, yc⟩, ⟨op, on, oc⟩, g, s⟩] :: A) ++ [rG kI (.slice op on oc) O]) ++ (trY (.slice yp yn yc) (mkY z1 QL) [] ++ rG kR (.slice rp rn rc) (mkRs 1 rn) :: Bs))) := fun W' h => by
    have := markReadyS_any yp yn yc z1 QL ((rG kSh (.slice (some ⟨W.heap.size, 0, none⟩) 1 1) [⟨⟨rp, rn, rc⟩, ⟨yp, yn, yc⟩, ⟨op, on, oc⟩, g, s⟩] :: A) ++ [rG kI (.slice op on oc) O]) (rG kR (.slice rp rn rc) (mkRs 1 rn) :: Bs) w W' (by simpa using h) hyl hy hq b1.1 (by omega)
    rw [hz2] at this
    exact this
  have HO : Hid (∀ W', Sg w W' (((rG kSh (.slice (some ⟨W.heap.size, 0, none⟩) 1 1) [⟨⟨rp, rn, rc⟩, ⟨yp, yn, yc⟩, ⟨op, on, oc⟩, g, s⟩] :: A) ++ [rG kI (.slice op on oc) O]) ++ (trY (.slice yp yn yc) (mkY z1 QL) [] ++ rG kR (.slice rp rn rc) (mkRs 1 rn) :: Bs)) → Calls Tryz.prog 26 #[.slice op on oc, .int .i64 z2] W' fun e w' => e = .returned (.int .i64 v) ∧ Sg w w' ((rG kSh (.slice (some ⟨W.heap.size, 0, none⟩) 1 1) [⟨⟨rp, rn, rc⟩, ⟨yp, yn, yc⟩, ⟨op, on, oc⟩, g, s⟩] :: A) ++ rG kI (.slice op on oc) (mk1 z2 on) :: (trY (.slice yp yn yc) (mkY z1 QL) [] ++ rG kR (.slice rp rn rc) (mkRs 1 rn) :: Bs))) := fun W' h => by
    have := markInt64S_any op on oc z2 O (rG kSh (.slice (some ⟨W.heap.size, 0, none⟩) 1 1) [⟨⟨rp, rn, rc⟩, ⟨yp, yn, yc⟩, ⟨op, on, oc⟩, g, s⟩] :: A) (trY (.slice yp yn yc) (mkY z1 QL) [] ++ rG kR (.slice rp rn rc) (mkRs 1 rn) :: Bs) w W' (by simpa using h) (by omega) (by omega) (by omega)
    rw [hv] at this
    exact this
  have HC := Lib.hid (fun (W' : World) (rs : List Rw) (hb : Sg w W' rs) (hm : rG kSh (.slice (some ⟨W.heap.size, 0, none⟩) 1 1) [⟨⟨rp, rn, rc⟩, ⟨yp, yn, yc⟩, ⟨op, on, oc⟩, g, s⟩] ∈ rs) => sh5 hb (K := kSh) (g := W.heap.size) (n := 1) (q := ⟨⟨rp, rn, rc⟩, ⟨yp, yn, yc⟩, ⟨op, on, oc⟩, g, s⟩) hm rfl)
  simp only at HC
  clear hS hlit hS1 b1 b2 b3 hz1 hz2 hk1 hk2 hv hq
  go_enter Tryz.func9, Tryz.ntmps9
  go_wp2_with (first
    | (go_at_call 24; refine HM1.out.mono ?_; rintro e w1 ⟨rfl, h1⟩; obtain ⟨y0, y1, y2, y3, y4, _, _⟩ := HC.out _ _ h1 (by simp))
    | (go_at_call 25; refine (HQ.out _ h1).mono ?_; rintro e w2 ⟨rfl, h2⟩; clear y0 y1 y2 y3 y4; obtain ⟨y0, y1, y2, y3, y4, _, _⟩ := HC.out _ _ h2 (by simp))
    | (go_at_call 26; refine (HO.out _ h2).mono ?_; rintro e w3 ⟨rfl, h3⟩))
  go_ret
  refine ⟨rfl, ?_⟩
  have h4 := Sg.d0 h3
  unfold shR
  simpa using h4
set_option maxRecDepth 100000 in
set_option maxHeartbeats 4000000 in
theorem heldShard_any (h : Hv) (QL : List YQ) (w : World) (h1 : SlG kR w h.r.p (mkRs 1 h.r.n)) (h2 : RdY w h.y.p (mkY (k1 h.r.n) QL)) (h3 : SlG kI w h.o.p (mk1 (k2 h.r.n QL) h.o.n)) (hyl : QL.length = h.y.n) (hr : h.r.n ≤ 1048576) (hy : h.y.n ≤ 1048576) (ho : h.o.n ≤ 1048576) (hq : ∀ y ∈ QL, y.2.n ≤ 1048576) (hw : ywt QL ≤ 1048576) {v : Int} (hv : k2 h.r.n QL + h.o.n = v) :
    Calls Tryz.prog 10 #[h.v, .int .i64 1] w fun e w' => e = .returned (.int .i64 v) ∧ Below w.heap.size w w' := by
  have b1 : 1 ≤ k1 h.r.n ∧ k1 h.r.n ≤ 6000000 := by unfold k1; omega
  have b2 := mkE_le QL (k1 h.r.n)
  have b3 := mkE_ge QL (k1 h.r.n)
  obtain ⟨⟨rp, rn, rc⟩, ⟨yp, yn, yc⟩, ⟨op, on, oc⟩, g, s⟩ := h
  simp only at h1 h2 h3 hr hy ho hyl b1 b2 b3 hv
  obtain ⟨z1, hz1⟩ : ∃ z : Int, (1 : Int) + 5 * rn = z := ⟨_, rfl⟩
  have hk1 : k1 rn = z1 := hz1
  obtain ⟨z2, hz2⟩ : ∃ z : Int, mkE z1 QL = z := ⟨_, rfl⟩
  have hk2 : k2 rn QL = z2 := by unfold k2; rw [hk1, hz2]
  rw [hk1] at b1 b2 b3 h2
  rw [hk2] at h3 hv
  rw [hz2] at b2 b3
  have HM1 := Lib.hid (fun W (hb : Below w.heap.size w W) => (hz1 ▸ heldRecS_any rp rc 1 rn W (h1.step hb) hr (by decide) (by decide) : Calls Tryz.prog 27 #[.slice rp rn rc, .int .i64 1] W fun e w' => e = .returned (.int .i64 z1) ∧ Below W.heap.size W w'))
  have HM2 := Lib.hid (fun W (hb : Below w.heap.size w W) => (hz2 ▸ heldReadyS_any yp yc z1 QL yn W (h2.step hb) hyl hy hq b1.1 (by omega) : Calls Tryz.prog 28 #[.slice yp yn yc, .int .i64 z1] W fun e w' => e = .returned (.int .i64 z2) ∧ Below W.heap.size W w'))
  have HM3 := Lib.hid (fun W (hb : Below w.heap.size w W) => (hv ▸ heldInt64S_any op oc z2 on W (h3.step hb) (by omega) (by omega) (by omega) : Calls Tryz.prog 29 #[.slice op on oc, .int .i64 z2] W fun e w' => e = .returned (.int .i64 v) ∧ w' = W))
  have n1 : ¬ z1 < 0 := by omega
  have n2 : ¬ z2 < 0 := by omega
  have n3 : ¬ v < 0 := by omega
  have hlit := (Sg.nil w).lit kSh [⟨⟨rp, rn, rc⟩, ⟨yp, yn, yc⟩, ⟨op, on, oc⟩, g, s⟩] 1 rfl (by decide) #[.slice rp rn rc, .slice yp yn yc, .slice op on oc, .string g, .int .i64 s] rfl
  change Sg w (w.alloc (.cells #[.slice rp rn rc, .slice yp yn yc, .slice op on oc, .string g, .int .i64 s] 31)) _ at hlit
  have HC := Lib.hid (fun W (hb : Sg w W [rG kSh (.slice (some ⟨w.heap.size, 0, none⟩) 1 1) [⟨⟨rp, rn, rc⟩, ⟨yp, yn, yc⟩, ⟨op, on, oc⟩, g, s⟩]]) => sh5 hb (K := kSh) (g := w.heap.size) (n := 1) (q := ⟨⟨rp, rn, rc⟩, ⟨yp, yn, yc⟩, ⟨op, on, oc⟩, g, s⟩) (by simp) rfl)
  simp only at HC
  clear h1 h2 h3 b1 b2 b3 hz1 hz2 hk1 hk2 hv hq
  go_enter Tryz.func10, Tryz.ntmps10
  go_wp2_with (first
    | (go_at_call 27; refine (HM1.out _ hlit.bel).mono ?_; rintro e w1 ⟨rfl, hb1⟩; have hS1 := hlit.step hb1; obtain ⟨y0, y1, y2, y3, y4, _, _⟩ := HC.out _ hS1)
    | (go_at_call 28; refine (HM2.out _ hS1.bel).mono ?_; rintro e w2 ⟨rfl, hb2⟩; have hS2 := hS1.step hb2; clear y0 y1 y2 y3 y4; obtain ⟨y0, y1, y2, y3, y4, _, _⟩ := HC.out _ hS2)
    | (go_at_call 29; refine (HM3.out _ hS2.bel).mono ?_; rintro e w3 ⟨rfl, hw3⟩; obtain rfl := hw3.symm))
  go_ret
  exact ⟨rfl, hS2.bel⟩
end Go.Proofs.YtppoafggiejdgaaGreat.K.Y
