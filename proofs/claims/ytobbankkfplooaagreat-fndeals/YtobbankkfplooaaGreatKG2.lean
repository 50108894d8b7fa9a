/-
  The law's marks on a Deal, and whether they are held.
-/
import Derived.Test.YtobbankkfplooaaGreatKG1
import Derived.Test.YtobbankkfplooaaGreatKY9
import Derived.Test.YtobbankkfplooaaGreatKCN
namespace Go.Proofs.YtobbankkfplooaaGreat.K.G
open Go.Shelf Go.RowKit Go.Joins Y
attribute [local go_sem] Oper.semAt_some

def ywS (Y : List Yd) : Nat := (Y.map fun y => 1 + y.L.length).sum
theorem ywt_eq : ∀ {QL : List YQ}, (∀ q ∈ QL, q.1.L.length = q.2.n) → ywt QL = ywS (yds QL)
  | [], _ => rfl
  | a :: t, h => by
    have ih := ywt_eq (QL := t) (fun q hq => h q (List.mem_cons_of_mem _ hq))
    have h1 := h a (List.mem_cons_self ..)
    have e1 : ywt (a :: t) = (1 + a.2.n) + ywt t := by simp [ywt]
    have e2 : ywS (yds (a :: t)) = (1 + a.1.L.length) + ywS (yds t) := by simp [ywS, yds]
    rw [e1, e2, ih, h1]
theorem ysm_all (QL : List YQ) : ysm QL QL.length = (QL.map fun y => rsz y.1.L).sum := by unfold ysm; rw [List.take_length]
theorem ywS_le : ∀ QL : List YQ, ywS (yds QL) ≤ QL.length + (QL.map fun y => rsz y.1.L).sum
  | [] => by simp [ywS, yds]
  | a :: t => by
    have ih := ywS_le t
    have e2 : ywS (yds (a :: t)) = (1 + a.1.L.length) + ywS (yds t) := by simp [ywS, yds]
    have e3 : ((a :: t).map fun y => rsz y.1.L).sum = rsz a.1.L + (t.map fun y => rsz y.1.L).sum := by simp
    have h1 : a.1.L.length ≤ rsz a.1.L := by unfold rsz; omega
    rw [e2, e3, List.length_cons]; omega
theorem ywS_ysz (QL : List YQ) : ywS (yds QL) ≤ ysz QL := by unfold ysz; rw [ysm_all]; exact ywS_le QL
set_option maxRecDepth 100000 in
set_option maxHeartbeats 4000000 in
theorem markDeal_any (h : Gv) (QL : List YQ) (O V : List Int) (A Bs : List Rw) (w W : World) (hS : Sg w W (A ++ (gR h QL O V ++ Bs))) (hy : h.y.n ≤ 1048576) (ho : h.o.n ≤ 1048576) (hu : h.u.n ≤ 1048576) (hq : ∀ y ∈ QL, y.2.n ≤ 1048576) (hw : ywt QL ≤ 1048576) {v : Int} (hv : mkE 1 QL + h.o.n + h.u.n = v) :
    Calls Tryz.prog 26 #[h.v, .int .i64 1] W fun e w' => e = .returned (.int .i64 v) ∧ Sg w w' (A ++ (gR h (mkY 1 QL) (mk1 (mkE 1 QL) h.o.n) (mk1 (mkE 1 QL + h.o.n) h.u.n) ++ Bs)) := by
  have hyl : QL.length = h.y.n := (OwG.len (hS.mem (K := kY) (v := .slice h.y.p h.y.n h.y.c) (L := QL) (by simp [gR, trY]))).symm
  have b2 := mkE_le QL 1
  have b3 := mkE_ge QL 1
  obtain ⟨t, q, ⟨yp, yn, yc⟩, ⟨op, on, oc⟩, ⟨up, un, uc⟩, s⟩ := h
  simp only at hy ho hu hyl hv ⊢
  have hlit := hS.lit kG [⟨t, q, ⟨yp, yn, yc⟩, ⟨op, on, oc⟩, ⟨up, un, uc⟩, s⟩] 1 rfl (by decide) #[.int .i64 t, .int .i64 q, .slice yp yn yc, .slice op on oc, .slice up un uc, .int .i64 s] rfl
  have hS1 : Sg w (W.alloc (.cells #[.int .i64 t, .int .i64 q, .slice yp yn yc, .slice op on oc, .slice up un uc, .int .i64 s] 27)) ((rG kG (.slice (some ⟨W.heap.size, 0, none⟩) 1 1) [⟨t, q, ⟨yp, yn, yc⟩, ⟨op, on, oc⟩, ⟨up, un, uc⟩, s⟩] :: (A ++ [rG kI (.slice up un uc) V, rG kI (.slice op on oc) O])) ++ (trY (.slice yp yn yc) QL [] ++ Bs)) := by
    change Sg w (W.alloc (.cells #[.int .i64 t, .int .i64 q, .slice yp yn yc, .slice op on oc, .slice up un uc, .int .i64 s] 27)) _ at hlit
    simpa [gR] using hlit
  obtain ⟨z1, hz1⟩ : ∃ z : Int, mkE 1 QL = z := ⟨_, rfl⟩
  obtain ⟨z2, hz2⟩ : ∃ z : Int, z1 + (on : Int) = z := ⟨_, rfl⟩
  rw [hz1] at b2 b3 hv ⊢
  rw [hz2] at hv ⊢
  have HQ : Hid (Calls Tryz.prog 60 #[.slice yp yn yc, .int .i64 1] (W.alloc (.cells #[.int .i64 t, .int .i64 q, .slice yp yn yc, .slice op on oc, .slice up un uc, .int .i64 s] 27)) fun e w' => e = .returned (.int .i64 z1) ∧ Sg w w' ((rG kG (.slice (some ⟨W.heap.size, 0, none⟩) 1 1) [⟨t, q, ⟨yp, yn, yc⟩, ⟨op, on, oc⟩, ⟨up, un, uc⟩, s⟩] :: (A ++ [rG kI (.slice up un uc) V])) ++ rG kI (.slice op on oc) O :: (trY (.slice yp yn yc) (mkY 1 QL) [] ++ Bs))) := by
    have := markReadyS_any yp yn yc 1 QL (rG kG (.slice (some ⟨W.heap.size, 0, none⟩) 1 1) [⟨t, q, ⟨yp, yn, yc⟩, ⟨op, on, oc⟩, ⟨up, un, uc⟩, s⟩] :: (A ++ [rG kI (.slice up un uc) V, rG kI (.slice op on oc) O])) Bs w _ hS1 hyl hy hq (by decide) (by omega)
    rw [hz1] at this
    refine Lib.hid (this.mono fun e w' hh => ⟨hh.1, by simpa using hh.2⟩)
  have HO : Hid (∀ W', Sg w W' ((rG kG (.slice (some ⟨W.heap.size, 0, none⟩) 1 1) [⟨t, q, ⟨yp, yn, yc⟩, ⟨op, on, oc⟩, ⟨up, un, uc⟩, s⟩] :: (A ++ [rG kI (.slice up un uc) V])) ++ rG kI (.slice op on oc) O :: (trY (.slice yp yn yc) (mkY 1 QL) [] ++ Bs)) → Calls Tryz.prog 61 #[.slice op on oc, .int .i64 z1] W' fun e w' => e = .returned (.int .i64 z2) ∧ Sg w w' ((rG kG (.slice (some ⟨W.heap.size, 0, none⟩) 1 1) [⟨t, q, ⟨yp, yn, yc⟩, ⟨op, on, oc⟩, ⟨up, un, uc⟩, s⟩] :: A) ++ rG kI (.slice up un uc) V :: (rG kI (.slice op on oc) (mk1 z1 on) :: (trY (.slice yp yn yc) (mkY 1 QL) [] ++ Bs)))) := fun W' h => by
    have := markInt64S_any op on oc z1 O (rG kG (.slice (some ⟨W.heap.size, 0, none⟩) 1 1) [⟨t, q, ⟨yp, yn, yc⟩, ⟨op, on, oc⟩, ⟨up, un, uc⟩, s⟩] :: (A ++ [rG kI (.slice up un uc) V])) (trY (.slice yp yn yc) (mkY 1 QL) [] ++ Bs) w W' h (by omega) (by omega) (by omega)
    rw [hz2] at this
    exact this.mono fun e w' hh => ⟨hh.1, by simpa using hh.2⟩
  have HU : Hid (∀ W', Sg w W' ((rG kG (.slice (some ⟨W.heap.size, 0, none⟩) 1 1) [⟨t, q, ⟨yp, yn, yc⟩, ⟨op, on, oc⟩, ⟨up, un, uc⟩, s⟩] :: A) ++ rG kI (.slice up un uc) V :: (rG kI (.slice op on oc) (mk1 z1 on) :: (trY (.slice yp yn yc) (mkY 1 QL) [] ++ Bs))) → Calls Tryz.prog 61 #[.slice up un uc, .int .i64 z2] W' fun e w' => e = .returned (.int .i64 v) ∧ Sg w w' ((rG kG (.slice (some ⟨W.heap.size, 0, none⟩) 1 1) [⟨t, q, ⟨yp, yn, yc⟩, ⟨op, on, oc⟩, ⟨up, un, uc⟩, s⟩] :: A) ++ rG kI (.slice up un uc) (mk1 z2 un) :: (rG kI (.slice op on oc) (mk1 z1 on) :: (trY (.slice yp yn yc) (mkY 1 QL) [] ++ Bs)))) := fun W' h => by
    have := markInt64S_any up un uc z2 V (rG kG (.slice (some ⟨W.heap.size, 0, none⟩) 1 1) [⟨t, q, ⟨yp, yn, yc⟩, ⟨op, on, oc⟩, ⟨up, un, uc⟩, s⟩] :: A) (rG kI (.slice op on oc) (mk1 z1 on) :: (trY (.slice yp yn yc) (mkY 1 QL) [] ++ Bs)) w W' h (by omega) (by omega) (by omega)
    rw [hv] at this
    exact this
  have HC := Lib.hid (fun (W' : World) (rs : List Rw) (hb : Sg w W' rs) (hm : rG kG (.slice (some ⟨W.heap.size, 0, none⟩) 1 1) [⟨t, q, ⟨yp, yn, yc⟩, ⟨op, on, oc⟩, ⟨up, un, uc⟩, s⟩] ∈ rs) => g6 hb (K := kG) (g := W.heap.size) (n := 1) (q := ⟨t, q, ⟨yp, yn, yc⟩, ⟨op, on, oc⟩, ⟨up, un, uc⟩, s⟩) hm rfl)
  simp only at HC
  have f1 : True := trivial
  clear hS hlit hS1 b2 b3 hz1 hz2 hv hq
  go_enter Tryz.func26, Tryz.ntmps26
  go_wp2_with (first
    | (go_at_call 60; refine HQ.out.mono ?_; rintro e w1 ⟨rfl, h1⟩; obtain ⟨y0, y1, y2, y3, y4, y5, _, _⟩ := HC.out _ _ h1 (by simp))
    | (go_at_call 61; clear f1; refine (HO.out _ h1).mono ?_; rintro e w2 ⟨rfl, h2⟩; clear y0 y1 y2 y3 y4 y5; obtain ⟨y0, y1, y2, y3, y4, y5, _, _⟩ := HC.out _ _ h2 (by simp))
    | (go_at_call 61; refine (HU.out _ h2).mono ?_; rintro e w3 ⟨rfl, h3⟩))
  go_ret
  refine ⟨rfl, ?_⟩
  have h4 := Sg.d0 h3
  unfold gR
  simpa using h4
set_option maxRecDepth 100000 in
set_option maxHeartbeats 4000000 in
theorem heldDeal_any (h : Gv) (QL : List YQ) (w : World) (h2 : RdY w h.y.p (mkY 1 QL)) (h3 : SlG kI w h.o.p (mk1 (mkE 1 QL) h.o.n)) (h4 : SlG kI w h.u.p (mk1 (mkE 1 QL + h.o.n) h.u.n)) (hyl : QL.length = h.y.n) (hy : h.y.n ≤ 1048576) (ho : h.o.n ≤ 1048576) (hu : h.u.n ≤ 1048576) (hq : ∀ y ∈ QL, y.2.n ≤ 1048576) (hw : ywt QL ≤ 1048576) {v : Int} (hv : mkE 1 QL + h.o.n + h.u.n = v) :
    Calls Tryz.prog 27 #[h.v, .int .i64 1] w fun e w' => e = .returned (.int .i64 v) ∧ Below w.heap.size w w' := by
  have b2 := mkE_le QL 1
  have b3 := mkE_ge QL 1
  obtain ⟨t, q, ⟨yp, yn, yc⟩, ⟨op, on, oc⟩, ⟨up, un, uc⟩, s⟩ := h
  simp only at h2 h3 h4 hy ho hu hyl hv
  obtain ⟨z1, hz1⟩ : ∃ z : Int, mkE 1 QL = z := ⟨_, rfl⟩
  obtain ⟨z2, hz2⟩ : ∃ z : Int, z1 + (on : Int) = z := ⟨_, rfl⟩
  rw [hz1] at b2 b3 hv h3 h4
  rw [hz2] at hv h4
  have HM2 := Lib.hid (fun W (hb : Below w.heap.size w W) => (hz1 ▸ heldReadyS_any yp yc 1 QL yn W (h2.step hb) hyl hy hq (by decide) (by omega) : Calls Tryz.prog 62 #[.slice yp yn yc, .int .i64 1] W fun e w' => e = .returned (.int .i64 z1) ∧ Below W.heap.size W w'))
  have HM3 := Lib.hid (fun W (hb : Below w.heap.size w W) => (hz2 ▸ heldInt64S_any op oc z1 on W (h3.step hb) (by omega) (by omega) (by omega) : Calls Tryz.prog 63 #[.slice op on oc, .int .i64 z1] W fun e w' => e = .returned (.int .i64 z2) ∧ w' = W))
  have HM4 := Lib.hid (fun W (hb : Below w.heap.size w W) => (hv ▸ heldInt64S_any up uc z2 un W (h4.step hb) (by omega) (by omega) (by omega) : Calls Tryz.prog 63 #[.slice up un uc, .int .i64 z2] W fun e w' => e = .returned (.int .i64 v) ∧ w' = W))
  have n1 : ¬ z1 < 0 := by omega
  have n2 : ¬ z2 < 0 := by omega
  have n3 : ¬ v < 0 := by omega
  have hlit := (Sg.nil w).lit kG [⟨t, q, ⟨yp, yn, yc⟩, ⟨op, on, oc⟩, ⟨up, un, uc⟩, s⟩] 1 rfl (by decide) #[.int .i64 t, .int .i64 q, .slice yp yn yc, .slice op on oc, .slice up un uc, .int .i64 s] rfl
  change Sg w (w.alloc (.cells #[.int .i64 t, .int .i64 q, .slice yp yn yc, .slice op on oc, .slice up un uc, .int .i64 s] 27)) _ at hlit
  have HC := Lib.hid (fun W (hb : Sg w W [rG kG (.slice (some ⟨w.heap.size, 0, none⟩) 1 1) [⟨t, q, ⟨yp, yn, yc⟩, ⟨op, on, oc⟩, ⟨up, un, uc⟩, s⟩]]) => g6 hb (K := kG) (g := w.heap.size) (n := 1) (q := ⟨t, q, ⟨yp, yn, yc⟩, ⟨op, on, oc⟩, ⟨up, un, uc⟩, s⟩) (by simp) rfl)
  simp only at HC
  have f1 : True := trivial
  clear h2 h3 h4 b2 b3 hz1 hz2 hv hq
  go_enter Tryz.func27, Tryz.ntmps27
  go_wp2_with (first
    | (go_at_call 62; refine (HM2.out _ hlit.bel).mono ?_; rintro e w1 ⟨rfl, hb1⟩; have hS1 := hlit.step hb1; obtain ⟨y0, y1, y2, y3, y4, y5, _, _⟩ := HC.out _ hS1)
    | (go_at_call 63; clear f1; refine (HM3.out _ hS1.bel).mono ?_; rintro e w2 ⟨rfl, hw2⟩; obtain rfl := hw2.symm)
    | (go_at_call 63; refine (HM4.out _ hS1.bel).mono ?_; rintro e w3 ⟨rfl, hw3⟩; obtain rfl := hw3.symm))
  go_ret
  exact ⟨rfl, hS1.bel⟩
end Go.Proofs.YtobbankkfplooaaGreat.K.G
