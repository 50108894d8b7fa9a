/-
  The law of Covers, walked: the program answers as the spec, and the lists that were handed in read as before.
-/
import Derived.Test.YthmpemamagjeeaaJ5
namespace Go.Proofs.Ythmpemamagjeeaa
open Go.RowKit Go.Joins
attribute [local go_sem ↓] Go.wp_at_zero Go.wp_at_succ

def covAll (L K : List T3) : Bool := K.all fun c => muF L c == 2
def covB (L K : List T3) : Bool := (okL L && okL K) && covAll L K
theorem dec_canon {L : List T3} (hok : ∀ c ∈ L, c.ok = true) : Canon (dec (muF L) 8 zro) ∧ ∀ n, cov (dec (muF L) 8 zro) n ↔ cov L n := by
  have hd := dec_of (muF_tells hok) 8 zro zro_ok (by decide)
  refine ⟨hd.canon, fun n => ⟨fun h => (hd.has n (hd.out h)).mpr h, ?_⟩⟩
  rintro ⟨c, hc, n1, n2⟩
  have := ok_in (hok c hc)
  exact (hd.has n ⟨by rw [zro_lo]; omega, by rw [zro_hi]; omega⟩).mp ⟨c, hc, n1, n2⟩
theorem have_dec {L : List T3} (hok : ∀ c ∈ L, c.ok = true) {c : T3} (hc : c.ok = true) : haveB (dec (muF L) 8 zro) c = (muF L c == 2) := by
  obtain ⟨h1, h2⟩ := dec_canon hok
  rw [Bool.eq_iff_iff, h1.have_iff hc, beq_iff_eq, (muF_tells hok).two c hc]
  exact ⟨fun h n hn => (h2 n).mp (h n hn), fun h n hn => (h2 n).mpr (h n hn)⟩

set_option maxRecDepth 100000 in
set_option maxHeartbeats 2000000 in
theorem iCovers_any (p q : Option Addr) (cap cap2 : Nat) (L K : List T3) (w : World) (hL : Sl w p L) (hp : Pl p) (hn : L.length ≤ 1048576) (hK : Sl w q K) (hk : K.length ≤ 1048576) :
    Calls Try.prog 28 #[.slice p L.length cap, .slice q K.length cap2] w fun e w' => e = .returned (.bool (covB L K)) ∧ Below w.heap.size w w' := by
  have hs := St.nil w
  cases hv : (okL L && okL K)
  · rw [covB, hv]
    go_enter Try.func28, Try.ntmps28
    go_wp2_with (go_at_call 51; refine (every_ll_v hv p q cap cap2 _ _ ?_ (hL.step (hs.push _ _).bel) hn (hK.step (hs.push _ _).bel) hk ?_ ?_).mono ?_; (focus (simp; done)); (focus (simp [go_sem]; done)); (focus (simp [go_sem]; done)); rintro e w1 ⟨rfl, hb2⟩; replace hs := (hs.push _ _).step hb2)
    go_ret
    exact ⟨rfl, hs.bel⟩
  · obtain ⟨hv1, hv2⟩ := (Bool.and_eq_true _ _).mp hv
    have hokL := okL_all hv1
    have hokK := okL_all hv2
    have h100 := okL_len hv1
    have hK100 := okL_len hv2
    rw [covB, hv, Bool.true_and]
    generalize hJ : dec (muF L) 8 zro = J
    have hJl : J.length ≤ 65536 := by rw [← hJ]; exact dec_len _ 8 _
    have hhave : ∀ c, c.ok = true → haveB J c = (muF L c == 2) := fun c hc => by rw [← hJ]; exact have_dec hokL hc
    go_enter Try.func28, Try.ntmps28
    go_wp2_with (first
      | (go_at_call 51; refine (every_ll_v hv p q cap cap2 _ _ ?_ (hL.step (hs.push _ _).bel) hn (hK.step (hs.push _ _).bel) hk ?_ ?_).mono ?_; (focus (simp; done)); (focus (simp [go_sem]; done)); (focus (simp [go_sem]; done)); rintro e w1 ⟨rfl, hb2⟩; replace hs := ((hs.push _ _).step hb2).sub (l' := []) (by simp))
      | (go_at_call 67; refine (joined_v hJ p cap _ (hL.step hs.bel) hp hokL (by omega)).mono ?_; rintro e w2 ⟨qj, capj, rfl, hO, hb3⟩; replace hs := hs.step hb3))
    have hsl := Ow.sl hO
    go_loopw [19] (fun i wr => ∃ k : Nat, k ≤ K.length ∧ i = .int .i64 k ∧ (K.take k).all (fun c => muF L c == 2) = true ∧ Below w2.heap.size w2 wr) (fun i _ => K.length - (intOf i).toNat)
    case atStart => exact ⟨0, by omega, rfl, rfl, Below.refl _ _⟩
    case round =>
      obtain ⟨k, hkk, rfl, hall, hb⟩ := hrel
      by_cases hlt : k < K.length
      · have hki : (k : Int) < K.length := by omega
        obtain ⟨g, off, rfl, hC⟩ := (hK.step (bstep hs.bel hb (Nat.le_refl _))).at hlt
        obtain ⟨c0, c1, c2⟩ := hC.2 k K[k] (List.getElem?_eq_getElem hlt)
        have hcell := hokK _ (List.getElem_mem hlt)
        have hst := ((St.nil wr).push [.int .i64 K[k].l, .int .i64 K[k].x, .int .i64 K[k].y] 38)
        cases hvv : (muF L K[k] == 2)
        · go_wp2_with (go_at_call 54; refine (have_v ((hhave _ hcell).trans hvv) qj capj _ ((hsl.step hb).step hst.bel) (by omega)).mono ?_; rintro e w3 ⟨rfl, hb4⟩; replace hst := hst.step hb4)
          go_ret
          exact ⟨ret_bool (by rw [covAll, all_no hlt hvv]), bstep hs.bel (bstep hb hst.bel (Nat.le_refl _)) (Nat.le_refl _)⟩
        · go_wp2_with (go_at_call 54; refine (have_v ((hhave _ hcell).trans hvv) qj capj _ ((hsl.step hb).step hst.bel) (by omega)).mono ?_; rintro e w3 ⟨rfl, hb4⟩; replace hst := hst.step hb4)
          go_roundw
          case rel => exact ⟨k + 1, by omega, by go_num, by rw [all_take hlt, hall, hvv]; rfl, bstep hb hst.bel (Nat.le_refl _)⟩
          case measure => simp [intOf]; omega
      · obtain rfl : k = K.length := by omega
        go_wp2
        go_ret
        rw [List.take_length] at hall
        exact ⟨ret_bool (by rw [covAll, hall]), bstep hs.bel hb (Nat.le_refl _)⟩

set_option maxRecDepth 100000 in
set_option maxHeartbeats 2000000 in
theorem sCovers_any (p q : Option Addr) (cap cap2 : Nat) (L K : List T3) (w : World) (hL : Sl w p L) (hn : L.length ≤ 1048576) (hK : Sl w q K) (hk : K.length ≤ 1048576) :
    Calls Try.prog 30 #[.slice p L.length cap, .slice q K.length cap2] w fun e w' => e = .returned (.bool (covB L K)) ∧ Below w.heap.size w w' := by
  cases hv1 : okL L
  · rw [covB, hv1]
    go_enter Try.func30, Try.ntmps30
    go_wp2_with (go_at_call 56; refine (l3Cells_v hv1 p cap _ hL (by omega)).mono ?_; rintro e w1 ⟨rfl, hb2⟩)
    go_ret
    exact ⟨rfl, hb2⟩
  cases hv2 : okL K
  · rw [covB, hv1, hv2]
    go_enter Try.func30, Try.ntmps30
    go_wp2_with (first
      | (go_at_call 56; refine (l3Cells_v hv2 q cap2 _ (hK.step hb2) (by omega)).mono ?_; rintro e w2 ⟨rfl, hb3⟩)
      | (go_at_call 56; refine (l3Cells_v hv1 p cap _ hL (by omega)).mono ?_; rintro e w1 ⟨rfl, hb2⟩))
    go_ret
    exact ⟨rfl, bstep hb2 hb3 (Nat.le_refl _)⟩
  · rw [covB, hv1, hv2, Bool.true_and, Bool.true_and]
    have hokL := okL_all hv1
    have hokK := okL_all hv2
    have hmu := fun n => l3Much_any hokL hn p cap n
    go_enter Try.func30, Try.ntmps30
    go_wp2_with (first
      | (go_at_call 56; refine (l3Cells_v hv2 q cap2 _ (hK.step hb2) (by omega)).mono ?_; rintro e w2 ⟨rfl, hb3⟩; replace hb3 := bstep hb2 hb3 (Nat.le_refl _))
      | (go_at_call 56; refine (l3Cells_v hv1 p cap _ hL (by omega)).mono ?_; rintro e w1 ⟨rfl, hb2⟩))
    go_loopw [5] (fun i wr => ∃ k : Nat, k ≤ K.length ∧ i = .int .i64 k ∧ (K.take k).all (fun c => muF L c == 2) = true ∧ Below w.heap.size w wr) (fun i _ => K.length - (intOf i).toNat)
    case atStart => exact ⟨0, by omega, rfl, rfl, hb3⟩
    case round =>
      obtain ⟨k, hkk, rfl, hall, hb⟩ := hrel
      by_cases hlt : k < K.length
      · have hki : (k : Int) < K.length := by omega
        obtain ⟨g, off, rfl, hC⟩ := (hK.step hb).at hlt
        obtain ⟨c0, c1, c2⟩ := hC.2 k K[k] (List.getElem?_eq_getElem hlt)
        have hcell := hokK _ (List.getElem_mem hlt)
        by_cases h2 : muF L K[k] = 2
        · go_wp2_with (go_at_call 72; refine (much_v (hmu _) hcell rfl h2 _ (hL.step hb)).mono ?_; rintro e w4 ⟨rfl, hb4⟩)
          go_roundw
          case rel => exact ⟨k + 1, by omega, by go_num, by rw [all_take hlt, hall]; simp [h2], bstep hb hb4 (Nat.le_refl _)⟩
          case measure => simp [intOf]; omega
        · have hm2 : muF L K[k] < 2 := by have := (much_le L (8 - K[k].l).toNat K[k]).2; unfold muF at h2 ⊢; omega
          generalize hmv : muF L K[k] = mv at h2 hm2
          go_wp2_with (go_at_call 72; refine (much_v (hmu _) hcell rfl hmv _ (hL.step hb)).mono ?_; rintro e w4 ⟨rfl, hb4⟩)
          go_ret
          exact ⟨ret_bool (by rw [covAll, all_no hlt (by simp [hmv, h2])]), bstep hb hb4 (Nat.le_refl _)⟩
      · obtain rfl : k = K.length := by omega
        go_wp2
        go_ret
        rw [List.take_length] at hall
        exact ⟨ret_bool (by rw [covAll, hall]), hb⟩
theorem iCovers_v {L K : List T3} {v : Bool} (h : covB L K = v) (p q : Option Addr) (cap cap2 : Nat) (w : World) (hL : Sl w p L) (hp : Pl p) (hn : L.length ≤ 1048576) (hK : Sl w q K) (hk : K.length ≤ 1048576) :
    Calls Try.prog 28 #[.slice p L.length cap, .slice q K.length cap2] w fun e w' => e = .returned (.bool v) ∧ Below w.heap.size w w' := by subst h; exact iCovers_any p q cap cap2 L K w hL hp hn hK hk
theorem sCovers_v {L K : List T3} {v : Bool} (h : covB L K = v) (p q : Option Addr) (cap cap2 : Nat) (w : World) (hL : Sl w p L) (hn : L.length ≤ 1048576) (hK : Sl w q K) (hk : K.length ≤ 1048576) :
    Calls Try.prog 30 #[.slice p L.length cap, .slice q K.length cap2] w fun e w' => e = .returned (.bool v) ∧ Below w.heap.size w w' := by subst h; exact sCovers_any p q cap cap2 L K w hL hn hK hk

set_option maxRecDepth 100000 in
set_option maxHeartbeats 4000000 in
theorem exactCovers (p : Option Addr) (cap : Nat) (L : List T3) (q : Option Addr) (cap2 : Nat) (K : List T3) (w : World) (hL : Sl w p L) (hm : L.length ≤ maxLen) (hK : Sl w q K) (hm2 : K.length ≤ maxLen) :
    Calls Try.prog 9 #[.slice p L.length cap, .slice q K.length cap2] w fun e w' => e = .returned (.bool true) ∧ Below w.heap.size w w' := by
  by_cases hn : L.length ≤ 1048576
  · have hni : (L.length : Int) ≤ 1048576 := by omega
    by_cases hk : K.length ≤ 1048576 - L.length
    · have hki : (K.length : Int) ≤ 1048576 - L.length := by omega
      have hk' : K.length ≤ 1048576 := by omega
      generalize hv : covB L K = v
      have hx := Sx.nil w
      go_enter Try.func9, Try.ntmps9
      go_upto_region 5 with (go_at_call 40; refine (szCellS_ok _ _ _ _ _ hni (by omega)).mono ?_; rintro e w1 ⟨rfl, rfl⟩)
      go_upto_region 8 with (go_at_call 40; refine (szCellS_ok _ _ _ _ _ hki (by omega)).mono ?_; rintro e w1 ⟨rfl, rfl⟩)
      go_upto_region 9 with (first
        | (have hO1 := hO; clear hO; go_at_call 41; refine (toCellS_g q cap2 K _ (hK.step hx.bel) hk').mono ?_; rintro e w1 ⟨p2, cap2', rfl, hO2, hb2⟩; replace hx := hx.add hO2 hb2)
        | (go_at_call 41; refine (toCellS_g p cap L _ (hL.step hx.bel) hn).mono ?_; rintro e w1 ⟨p1, cap1, rfl, hO, hb2⟩; replace hx := hx.add hO hb2)
        | (go_at_call 30; refine (sCovers_v hv _ _ _ _ _ (Ow.sl hx.o1) hn (Ow.sl hx.o0) hk').mono ?_; rintro e w1 ⟨rfl, hb2⟩; replace hx := hx.step hb2))
      replace hx := hx.d0.d0
      clear hO1 hO2
      go_upto_region 10 with (go_at_call 41; refine (toCellS_g p cap L _ (hL.step hx.bel) hn).mono ?_; rintro e w1 ⟨p3, cap3, rfl, hO3, hb2⟩; replace hx := hx.add hO3 hb2)
      go_upto_region 14 with (first
        | (go_at_call 41; refine (toCellS_g q cap2 K _ (hK.step hx.bel) hk').mono ?_; rintro e w1 ⟨p4, cap4, rfl, hO4, hb2⟩; replace hx := hx.add hO4 hb2)
        | (go_at_call 28; refine (iCovers_v hv _ _ _ _ _ (Ow.sl hx.o1) (Ow.pl hx.o1) hn (Ow.sl hx.o0) hk').mono ?_; rintro e w1 ⟨rfl, hb2⟩; replace hx := hx.step hb2))
      go_upto_region 16 with (first
        | (go_at_call 41; refine (toCellS_g p cap L _ (hL.step hx.bel) hn).mono ?_; rintro e w1 ⟨p5, cap5, rfl, hO5, hb2⟩; replace hx := hx.add hO5 hb2)
        | (go_at_call 37; refine (eqCellS_same _ _ _ _ L _ (Ow.sl hx.o2) (Ow.sl hx.o0) (by omega)).mono ?_; rintro e w1 ⟨rfl, hb2⟩; replace hx := (hx.step hb2).d0))
      go_wp2_with (first
        | (go_at_call 41; refine (toCellS_g q cap2 K _ (hK.step hx.bel) hk').mono ?_; rintro e w1 ⟨p6, cap6, rfl, hO6, hb2⟩; replace hx := hx.add hO6 hb2)
        | (go_at_call 37; refine (eqCellS_same _ _ _ _ K _ (Ow.sl hx.o1) (Ow.sl hx.o0) (by omega)).mono ?_; rintro e w1 ⟨rfl, hb2⟩; replace hx := (hx.step hb2).d0))
      go_ret
      exact ⟨rfl, hx.bel⟩
    · have hki : (1048576 : Int) - L.length < K.length := by omega
      go_enter Try.func9, Try.ntmps9
      go_upto_region 5 with (go_at_call 40; refine (szCellS_ok _ _ _ _ _ hni (by omega)).mono ?_; rintro e w1 ⟨rfl, rfl⟩)
      go_wp2_with (go_at_call 40; refine (szCellS_no _ _ _ _ _ hki (by omega) hm2).mono ?_; rintro e w1 ⟨rfl, rfl⟩)
      go_ret
      exact ⟨rfl, Below.refl _ _⟩
  · have hni : (1048576 : Int) < L.length := by omega
    go_enter Try.func9, Try.ntmps9
    go_wp2_with (go_at_call 40; refine (szCellS_no _ _ _ _ _ hni (by omega) hm).mono ?_; rintro e w1 ⟨rfl, rfl⟩)
    go_ret
    exact ⟨rfl, Below.refl _ _⟩
end Go.Proofs.Ythmpemamagjeeaa
