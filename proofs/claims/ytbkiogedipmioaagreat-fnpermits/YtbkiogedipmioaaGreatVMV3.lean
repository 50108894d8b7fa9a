/-
  The program's Common: each two of two joined lists.
-/
import Derived.Test.YtbkiogedipmioaaGreatVMV2
namespace Go.Proofs.YtbkiogedipmioaaGreat.V.M
open Go.RowKit Go.Joins
attribute [local go_sem ↓] Go.wp_at_zero Go.wp_at_succ

theorem fm_take {β : Type} {L : List T3} {f : T3 → List β} {k : Nat} (hk : k < L.length) : (L.take (k + 1)).flatMap f = (L.take k).flatMap f ++ f L[k] := by
  rw [List.take_succ_eq_append_getElem hk, List.flatMap_append]; simp
theorem pk_len (c o : T3) : (pk c o).length ≤ 1 := by unfold pk; split; (simp); split <;> simp
theorem fm_len {L : List T3} {f : T3 → List T3} {n : Nat} (h : ∀ c, (f c).length ≤ n) : (L.flatMap f).length ≤ L.length * n := by
  induction L with
  | nil => simp
  | cons a t ih => have := h a; simp only [List.flatMap_cons, List.length_append, List.length_cons, Nat.succ_mul]; omega
theorem len_all (A B : List T3) (k j : Nat) (hA : A.length ≤ 65536) (hB : B.length ≤ 65536) (hk : k ≤ A.length) (hj : j ≤ B.length) (c : T3) : ((A.take k).flatMap (comB B) ++ (B.take j).flatMap (pk c)).length ≤ 4295032832 := by
  have h1 : ((A.take k).flatMap (comB B)).length ≤ (A.take k).length * B.length := fm_len fun x => by have := fm_len (L := B) (pk_len x); unfold comB; omega
  have h2 : ((B.take j).flatMap (pk c)).length ≤ (B.take j).length * 1 := fm_len (pk_len c)
  have h3 : (A.take k).length * B.length ≤ 65536 * 65536 := Nat.mul_le_mul (by simp; omega) hB
  have h4 : (B.take j).length ≤ 65536 := by simp; omega
  rw [List.length_append]
  omega

set_option maxRecDepth 100000 in
set_option maxHeartbeats 8000000 in
theorem iCommon_any (p q : Option Addr) (cap cap2 : Nat) (L K : List T3) (w : World) (hL : Sl w p L) (hp : Pl p) (hn : L.length ≤ 1048576) (hK : Sl w q K) (hq : Pl q) (hk : K.length ≤ 1048576) :
    Calls Tryz.prog 84 #[.slice p L.length cap, .slice q K.length cap2] w fun e w' => ∃ v', e = .returned v' ∧ Ow w' w.heap.size v' (comS L K) ∧ Below w.heap.size w w' := by
  have hs := St.nil w
  cases hv : (okL L && okL K)
  · rw [comS, hv]
    go_enter Tryz.func84, Tryz.ntmps84
    go_wp2_with (go_at_call 47; refine (every_ll_v hv p q cap cap2 _ _ ?_ (hL.step (hs.push _ _).bel) hn (hK.step (hs.push _ _).bel) hk ?_ ?_).mono ?_; (focus (simp; done)); (focus (simp [go_sem]; done)); (focus (simp [go_sem]; done)); rintro e w1 ⟨rfl, hb2⟩; replace hs := (hs.push _ _).step hb2)
    go_ret
    exact ⟨_, rfl, Ow.nil _ _, hs.bel⟩
  · obtain ⟨hv1, hv2⟩ := (Bool.and_eq_true _ _).mp hv
    have hokL := okL_all hv1
    have hokK := okL_all hv2
    have h100 := okL_len hv1
    have hK100 := okL_len hv2
    obtain ⟨i0, hi, hz0, hz1, hz2⟩ := info_parts info89
    rw [comS, hv]
    obtain ⟨cA, vA⟩ := dec_canon hokL
    obtain ⟨cB, vB⟩ := dec_canon hokK
    have hres : comL (dec (muF L) 8 zro) (dec (muF K) 8 zro) = dec (cmF L K) 8 zro := com_is hokL hokK cA cB vA vB
    have hAl := dec_len (muF L) 8 zro
    have hBl := dec_len (muF K) 8 zro
    generalize hA : dec (muF L) 8 zro = A at cA hres hAl
    generalize hB : dec (muF K) 8 zro = B at cB hres hBl
    have HA : Hid (dec (muF L) 8 zro = A) := hA
    have HB : Hid (dec (muF K) 8 zro = B) := hB
    have Hres : Hid (comL A B = dec (cmF L K) 8 zro) := hres
    clear hA hB hres vA vB
    have hAl' : A.length ≤ 65536 := hAl
    have hBl' : B.length ≤ 65536 := hBl
    clear hAl hBl
    go_enter Tryz.func84, Tryz.ntmps84
    go_upto_region 5 with (first
      | (go_at_call 47; refine (every_ll_v hv p q cap cap2 _ _ ?_ (hL.step (hs.push _ _).bel) hn (hK.step (hs.push _ _).bel) hk ?_ ?_).mono ?_; (focus (simp; done)); (focus (simp [go_sem]; done)); (focus (simp [go_sem]; done)); rintro e w1 ⟨rfl, hb2⟩; replace hs := ((hs.push _ _).step hb2).sub (l' := []) (by simp))
      | (go_at_call 118; refine (joined_v HB.out q cap2 _ (hK.step hs.bel) hq hokK (by omega)).mono ?_; rintro e w2 ⟨qj, capj, rfl, hOB, hb3⟩; replace hs := hs.step hb3))
    clear hb2 hb3
    go_wp2_with (go_at_call 118; refine (joined_v HA.out p cap _ (hL.step hs.bel) hp hokL (by omega)).mono ?_; rintro e w3 ⟨qa, capa, rfl, hOA, hb4⟩; replace hs := hs.step hb4)
    have hslB : Slb w3.heap.size w3 qj B := ((Ow.sl hOB).slb (Nat.le_refl _)).step hb4 |>.elim .inl (fun ⟨g, off, h1, h2, h3⟩ => .inr ⟨g, off, h1, h3.1, h3⟩)
    have hslA : Slb w3.heap.size w3 qa A := (Ow.sl hOA).slb (Nat.le_refl _)
    clear hOA hOB hb4
    go_loopw [6, 23] (fun lv i wr => ∃ k : Nat, k ≤ A.length ∧ i = .int .i64 k ∧ Ow wr w3.heap.size lv ((A.take k).flatMap (comB B)) ∧ Below w3.heap.size w3 wr) (fun _ i _ => A.length - (intOf i).toNat)
    case atStart => exact ⟨0, by omega, rfl, Ow.nil _ _, Below.refl _ _⟩
    case round =>
      obtain ⟨k, hkk, rfl, hrow, hb⟩ := hrel
      by_cases hlt : k < A.length
      · have hki : (k : Int) < A.length := by omega
        obtain ⟨g, off, rfl, hC⟩ := (hslA.low hb).at hlt
        obtain ⟨c0, c1, c2⟩ := hC.2 k A[k] (List.getElem?_eq_getElem hlt)
        have hst := ((St.nil wr).push [.int .i64 A[k].l, .int .i64 A[k].x, .int .i64 A[k].y] 89)
        go_wp2
        have hbox := hst.has
        have hrow1 := own_of_below hrow hst.bel
        have hb1 := bstep hb hst.bel (Nat.le_refl _)
        have hwz : w3.heap.size ≤ wr.heap.size := hb.size
        have hd1 : ∀ pr ∈ ([(wr.heap.size, [.int .i64 A[k].l, .int .i64 A[k].x, .int .i64 A[k].y])] : List (Nat × List Value)), ∀ {lv : Value}, Ow wr w3.heap.size lv ((A.take k).flatMap (comB B)) → lv.ownBlock ≠ some pr.1 := by
          intro pr hpr lv ho e
          have := (ho.lt _ e).2
          simp at hpr; subst hpr; simp at this
        have hd2 := fun pr hpr => hd1 pr hpr hrow
        clear hst hd1
        have hz0' : w3.heap.size ≤ (wr.alloc (.cells #[.int .i64 A[k].l, .int .i64 A[k].x, .int .i64 A[k].y] 89)).heap.size := by simp; omega
        clear hC c0 c1 c2 hrow hb
        generalize wr.alloc _ = W0 at hbox hrow1 hb1 hz0' ⊢
        generalize wr.heap.size = cb at hbox hd2 hwz ⊢
        go_loopw [6, 29] (fun lv i wx => ∃ j : Nat, j ≤ B.length ∧ i = .int .i64 j ∧ Ow wx w3.heap.size lv ((A.take k).flatMap (comB B) ++ (B.take j).flatMap (pk A[k])) ∧ Below w3.heap.size w3 wx ∧ Has wx [(cb, [.int .i64 A[k].l, .int .i64 A[k].x, .int .i64 A[k].y])] ∧ ∀ pr ∈ ([(cb, [.int .i64 A[k].l, .int .i64 A[k].x, .int .i64 A[k].y])] : List (Nat × List Value)), lv.ownBlock ≠ some pr.1) (fun _ i _ => B.length - (intOf i).toNat)
        case atStart => exact ⟨0, by omega, rfl, by rw [List.take_zero, List.flatMap_nil, List.append_nil]; exact hrow1, hb1, hbox, hd2⟩
        case round =>
          clear hrow1 hb1 hbox hd2 hwz hz0'
          obtain ⟨j, hjj, rfl, hrowj, hbj, hH, hdj⟩ := hrel
          have hlen := len_all A B k j hAl' hBl' (by omega) hjj A[k]
          have hwj : w3.heap.size ≤ wr.heap.size := hbj.size
          by_cases hltj : j < B.length
          · have hji : (j : Int) < B.length := by omega
            obtain ⟨g2, off2, rfl, hC2⟩ := (hslB.low hbj).at hltj
            obtain ⟨d0, d1, d2⟩ := hC2.2 j B[j] (List.getElem?_eq_getElem hltj)
            have hst : St wr wr [(cb, [.int .i64 A[k].l, .int .i64 A[k].x, .int .i64 A[k].y])] := ⟨Below.refl _ _, hH⟩
            replace hst := hst.push [.int .i64 B[j].l, .int .i64 B[j].x, .int .i64 B[j].y] 89
            have hk1 := hH
            simp [Has, HasAt] at hk1
            cases hi1 : insT A[k] B[j]
            · cases hi2 : insT B[j] A[k]
              · have hpk : pk A[k] B[j] = [] := by simp [pk, hi1, hi2]
                go_wp2_with (first | (have h9 := hb5; clear h9; go_at_call 86; refine (iInside_v hi2 _).mono ?_; rintro e w5 ⟨rfl, hb6⟩; replace hst := hst.step hb6; clear hk1; have hk1 := hst.has; simp [Has, HasAt] at hk1) | (go_at_call 86; refine (iInside_v hi1 _).mono ?_; rintro e w5 ⟨rfl, hb5⟩; replace hst := hst.step hb5; clear hk1; have hk1 := hst.has; simp [Has, HasAt] at hk1))
                go_roundw
                case rel =>
                  refine ⟨j + 1, by omega, by go_num, ?_, bstep hbj hst.bel (Nat.le_refl _), hst.has.sub (by simp), hdj⟩
                  rw [fm_take hltj, hpk, List.append_nil]
                  exact own_of_below hrowj hst.bel
                case measure => simp [intOf]; omega
              · have hpk : pk A[k] B[j] = [B[j]] := by simp [pk, hi1, hi2]
                go_upto_region 14 with (first | (have h9 := hb5; clear h9; go_at_call 86; refine (iInside_v hi2 _).mono ?_; rintro e w5 ⟨rfl, hb6⟩; replace hst := hst.step hb6; clear hk1; have hk1 := hst.has; simp [Has, HasAt] at hk1) | (go_at_call 86; refine (iInside_v hi1 _).mono ?_; rintro e w5 ⟨rfl, hb5⟩; replace hst := hst.step hb5; clear hk1; have hk1 := hst.has; simp [Has, HasAt] at hk1))
                have hrow2 := own_of_below hrowj hst.bel
                have hsz2 : w3.heap.size ≤ w5.heap.size := by have := hst.size; omega
                have hk2 := hst.has
                simp [Has, HasAt] at hk2
                go_wp2_with (at_builtin; refine wpList_append_own_at _ rfl _ _ 41 rfl w3.heap.size 89 i0 (.agg #[.int .i64 0, .int .i64 0, .int .i64 0]) 3 24 Tryz.underlying41 hi hz0 hz1 hz2 rfl (by decide) _ _ _ rfl (hrow2.alloc _) ⟨w5.heap.size, 0, none⟩ 1 1 B[j].vs rfl rfl (cell_three_at rfl) (fun u hu => by simp [T3.vs] at hu; rcases hu with rfl | rfl | rfl <;> rfl) (by unfold maxLen; omega) (by omega) (by simp; omega) ?_; intro v' w6 hown' hgrow _ hat)
                have hE : Ext w3.heap.size (w5.alloc (.cells #[.int .i64 B[j].l, .int .i64 B[j].x, .int .i64 B[j].y] 89)) u6 w6 v' (((A.take k).flatMap (comB B) ++ (B.take j).flatMap (pk A[k])) ++ [B[j]]) := by
                  refine ⟨by unfold Ow; rw [List.length_append, flat_append]; exact hown', hgrow, fun g e => ?_⟩
                  rcases hat with e2 | e2
                  · exact .inl (e2.symm.trans e)
                  · rw [e2] at e; cases e; exact .inr (Nat.le_refl _)
                have hE' := Ext.ahead (hst.al _).bel hE
                have hfar := hE'.far hH hdj
                go_roundw
                case rel =>
                  refine ⟨j + 1, by omega, by go_num, ?_, below_of_ext hbj hrowj hE' (Nat.le_refl _), hfar.1, hfar.2⟩
                  rw [fm_take hltj, ← List.append_assoc, hpk]
                  exact hE'.own
                case measure => simp [intOf]; omega
            · have hpk : pk A[k] B[j] = [A[k]] := by simp [pk, hi1]
              go_upto_region 12 with (go_at_call 86; refine (iInside_v hi1 _).mono ?_; rintro e w5 ⟨rfl, hb5⟩; replace hst := hst.step hb5; clear hk1; have hk1 := hst.has; simp [Has, HasAt] at hk1)
              have hrow2 := own_of_below hrowj hst.bel
              have hsz2 : w3.heap.size ≤ w5.heap.size := by have := hst.size; omega
              have hk2 := hst.has
              simp [Has, HasAt] at hk2
              go_wp2_with (at_builtin; refine wpList_append_own_at _ rfl _ _ 41 rfl w3.heap.size 89 i0 (.agg #[.int .i64 0, .int .i64 0, .int .i64 0]) 3 24 Tryz.underlying41 hi hz0 hz1 hz2 rfl (by decide) _ _ _ rfl (hrow2.alloc _) ⟨w5.heap.size, 0, none⟩ 1 1 A[k].vs rfl rfl (cell_three_at rfl) (fun u hu => by simp [T3.vs] at hu; rcases hu with rfl | rfl | rfl <;> rfl) (by unfold maxLen; omega) (by omega) (by simp; omega) ?_; intro v' w6 hown' hgrow _ hat)
              have hE : Ext w3.heap.size (w5.alloc (.cells #[.int .i64 A[k].l, .int .i64 A[k].x, .int .i64 A[k].y] 89)) u6 w6 v' (((A.take k).flatMap (comB B) ++ (B.take j).flatMap (pk A[k])) ++ [A[k]]) := by
                refine ⟨by unfold Ow; rw [List.length_append, flat_append]; exact hown', hgrow, fun g e => ?_⟩
                rcases hat with e2 | e2
                · exact .inl (e2.symm.trans e)
                · rw [e2] at e; cases e; exact .inr (Nat.le_refl _)
              have hE' := Ext.ahead (hst.al _).bel hE
              have hfar := hE'.far hH hdj
              go_roundw
              case rel =>
                refine ⟨j + 1, by omega, by go_num, ?_, below_of_ext hbj hrowj hE' (Nat.le_refl _), hfar.1, hfar.2⟩
                rw [fm_take hltj, ← List.append_assoc, hpk]
                exact hE'.own
              case measure => simp [intOf]; omega
          · obtain rfl : j = B.length := by omega
            rw [List.take_length] at hrowj
            go_wp2
            go_roundw
            case rel => exact ⟨k + 1, by omega, by go_num, by rw [fm_take hlt]; exact hrowj, hbj⟩
            case measure => simp [intOf]; omega
      · obtain rfl : k = A.length := by omega
        go_wp2
        go_ret
        rw [List.take_length] at hrow
        refine ⟨_, rfl, ?_, bstep hs.bel hb (Nat.le_refl _)⟩
        have e1 : (if (True : Prop) then dec (cmF L K) 8 zro else []) = A.flatMap (comB B) := by rw [if_pos trivial, ← Hres.out]; rfl
        first | (rw [e1]; exact Ow.mono hrow hs.size) | (have e2 := Hres.out; unfold comL at e2; simp only; rw [← e2]; exact Ow.mono hrow hs.size)
end Go.Proofs.YtbkiogedipmioaaGreat.V.M
