/-
  The law of Joined, walked: the program's list is the spec's, it is new memory, the list that was handed in reads as before, and a second call answers as the first.
-/
import Derived.Test.YthmpemamagjeeaaJ4
import Derived.Test.YthmpemamagjeeaaK5
namespace Go.Proofs.Ythmpemamagjeeaa
open Go.RowKit Go.Joins
attribute [local go_sem ↓] Go.wp_at_zero Go.wp_at_succ

theorem Sx.o0 {w W : World} {a : Value × List T3} {l : List (Value × List T3)} (h : Sx w W (a :: l)) : Ow W w.heap.size a.1 a.2 := h.own _ (by simp)
theorem Sx.o1 {w W : World} {a b : Value × List T3} {l : List (Value × List T3)} (h : Sx w W (a :: b :: l)) : Ow W w.heap.size b.1 b.2 := h.own _ (by simp)
theorem Sx.o2 {w W : World} {a b c : Value × List T3} {l : List (Value × List T3)} (h : Sx w W (a :: b :: c :: l)) : Ow W w.heap.size c.1 c.2 := h.own _ (by simp)
theorem Sx.o3 {w W : World} {a b c d : Value × List T3} {l : List (Value × List T3)} (h : Sx w W (a :: b :: c :: d :: l)) : Ow W w.heap.size d.1 d.2 := h.own _ (by simp)
theorem Sx.o4 {w W : World} {a b c d e : Value × List T3} {l : List (Value × List T3)} (h : Sx w W (a :: b :: c :: d :: e :: l)) : Ow W w.heap.size e.1 e.2 := h.own _ (by simp)
/-- The second of the lists, or the first, goes out of sight. -/
theorem Sx.d0 {w W : World} {a : Value × List T3} {l : List (Value × List T3)} (h : Sx w W (a :: l)) : Sx w W l := h.sub (List.sublist_cons_self ..)
theorem Sx.d1 {w W : World} {a b : Value × List T3} {l : List (Value × List T3)} (h : Sx w W (a :: b :: l)) : Sx w W (a :: l) := h.sub ((List.sublist_cons_self ..).cons_cons _)

set_option maxRecDepth 100000 in
set_option maxHeartbeats 4000000 in
theorem exactJoined (p : Option Addr) (cap : Nat) (L : List T3) (w : World) (hL : Sl w p L) (hm : L.length ≤ maxLen) :
    Calls Try.prog 7 #[.slice p L.length cap] w fun e w' => e = .returned (.bool true) ∧ Below w.heap.size w w' := by
  by_cases hn : L.length ≤ 1048576
  · have hni : (L.length : Int) ≤ 1048576 := by omega
    generalize hJ : joinL L = M
    have hM : M.length ≤ 65536 := by rw [← hJ]; exact joinL_len L
    have hMi : (0 : Int) ≤ 1 + 3 * M.length := by omega
    have hLi : (0 : Int) ≤ 1 + 3 * L.length := by omega
    have hx := Sx.nil w
    go_enter Try.func7, Try.ntmps7
    go_upto_region 6 with (first
      | (go_at_call 40; refine (szCellS_ok _ _ _ _ _ hni (by omega)).mono ?_; rintro e w1 ⟨rfl, rfl⟩)
      | (go_at_call 41; refine (toCellS_g p cap L _ (hL.step hx.bel) hn).mono ?_; rintro e w1 ⟨p1, cap1, rfl, hO, hb2⟩; replace hx := hx.add hO hb2)
      | (go_at_call 29; refine (sJoined_v hJ _ _ _ (Ow.sl hx.o0) hn).mono ?_; rintro e w1 ⟨p2, cap2, rfl, hO, hb2⟩; replace hx := (hx.add hO hb2).d1))
    go_upto_region 10 with (first
      | (go_at_call 41; refine (toCellS_g p cap L _ (hL.step hx.bel) hn).mono ?_; rintro e w1 ⟨p3, cap3, rfl, hO, hb2⟩; replace hx := hx.add hO hb2)
      | (go_at_call 25; refine (iJoined_v hJ _ _ _ (Ow.sl hx.o0) (Ow.pl hx.o0) hn).mono ?_; rintro e w1 ⟨p4, cap4, rfl, hO, hb2⟩; replace hx := hx.add hO hb2)
      | (go_at_call 37; refine (eqCellS_same _ _ _ _ M _ (Ow.sl hx.o0) (Ow.sl hx.o2) (by omega)).mono ?_; rintro e w1 ⟨rfl, hb2⟩; replace hx := hx.step hb2))
    go_upto_region 12 with (first
      | (go_at_call 41; refine (toCellS_g p cap L _ (hL.step hx.bel) hn).mono ?_; rintro e w1 ⟨p5, cap5, rfl, hO, hb2⟩; replace hx := hx.add hO hb2)
      | (go_at_call 37; refine (eqCellS_same _ _ _ _ L _ (Ow.sl hx.o2) (Ow.sl hx.o0) (by omega)).mono ?_; rintro e w1 ⟨rfl, hb2⟩; replace hx := (hx.step hb2).d0))
    go_upto_region 16 with (first
      | (go_at_call 38; refine (markCellS_x _ _ _ L _ hx.o1 (by omega)).mono ?_; rintro e w1 ⟨rfl, hO2, hg2⟩; replace hx := hx.put (A := [_]) hO2 hg2; simp only [List.cons_append, List.nil_append] at hx)
      | (go_at_call 37; refine (eqCellS_same _ _ _ _ M _ (Ow.sl hx.o0) (Ow.sl hx.o2) (by omega)).mono ?_; rintro e w1 ⟨rfl, hb2⟩; replace hx := hx.step hb2))
    go_upto_region 24 with (first
      | (go_at_call 38; refine (markCellS_x _ _ _ M _ hx.o0 (by omega)).mono ?_; rintro e w1 ⟨rfl, hO2, hg2⟩; replace hx := hx.put (A := []) hO2 hg2; simp only [List.nil_append] at hx)
      | (go_at_call 39; refine (heldCellS_any _ _ 1 M.length _ (Ow.sl hx.o0) (by omega) (by decide) (by decide)).mono ?_; rintro e w1 ⟨rfl, rfl⟩))
    go_wp2_with (first
      | (go_at_call 41; refine (toCellS_g p cap L _ (hL.step hx.bel) hn).mono ?_; rintro e w1 ⟨p6, cap6, rfl, hO, hb2⟩; replace hx := hx.add hO hb2)
      | (go_at_call 25; refine (iJoined_v hJ _ _ _ (Ow.sl hx.o0) (Ow.pl hx.o0) hn).mono ?_; rintro e w1 ⟨p7, cap7, rfl, hO, hb2⟩; replace hx := (hx.add hO hb2).d1)
      | (go_at_call 37; refine (eqCellS_same _ _ _ _ M _ (Ow.sl hx.o0) (Ow.sl hx.o3) (by omega)).mono ?_; rintro e w1 ⟨rfl, hb2⟩; replace hx := hx.step hb2)
      | (go_at_call 39; refine (heldCellS_any _ _ 1 M.length _ (Ow.sl hx.o1) (by omega) (by decide) (by decide)).mono ?_; rintro e w1 ⟨rfl, rfl⟩))
    go_ret
    exact ⟨rfl, hx.bel⟩
  · have hni : (1048576 : Int) < L.length := by omega
    go_enter Try.func7, Try.ntmps7
    go_wp2_with (go_at_call 40; refine (szCellS_no _ _ _ _ _ hni (by omega) hm).mono ?_; rintro e w1 ⟨rfl, rfl⟩)
    go_ret
    exact ⟨rfl, Below.refl _ _⟩
end Go.Proofs.Ythmpemamagjeeaa
