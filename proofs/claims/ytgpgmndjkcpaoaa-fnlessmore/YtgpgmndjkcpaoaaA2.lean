/-
  The pieces between the cuts: the program's.
-/
import Derived.Test.YtgpgmndjkcpaoaaG1
import Derived.Test.YtgpgmndjkcpaoaaA1
import Derived.Test.YtgpgmndjkcpaoaaSG
namespace Go.Proofs.Ytgpgmndjkcpaoaa
open Go.RowKit Go.Joins
attribute [local go_sem] Oper.semAt_some

theorem cell2_at {w : World} {g : Nat} {a b : Value} {t : TypeId} (hg : g = w.heap.size) : ∀ j u, [a, b][j]? = some u → (w.alloc (.cells #[a, b] t)).cell? ((⟨g, 0, none⟩ : Addr).add j) = some u := by
  subst hg
  intro j u hj
  have ea : (⟨w.heap.size, 0, none⟩ : Addr).add j = ⟨w.heap.size, j, none⟩ := by unfold Addr.add; split <;> simp_all
  rw [ea, World.cell?_alloc_at _ _ _ _ rfl]
  simpa using hj
theorem field0 (a b : Int) (W : World) : (Instr.field 83 (.agg #[.int .i64 a, .int .i64 b]) 0).run Try.prog W = .ok (.int .i64 a) W := by kernel_rfl
theorem field1 (a b : Int) (W : World) : (Instr.field 83 (.agg #[.int .i64 a, .int .i64 b]) 1).run Try.prog W = .ok (.int .i64 b) W := by kernel_rfl
theorem xsy_len_xsL (L : List T4) : (xsL L).length ≤ 2 * L.length := xsL_len L
theorem xsy_len_ysL (L : List T4) : (ysL L).length ≤ 2 * L.length := ysL_len L
theorem bel_grown1 {B : Nat} {w W W' : World} {row : Option Nat} (h : Below B w W) (hg : W.grownBy W' row) (hr : ∀ r, row = some r → B ≤ r) (hB : B ≤ w.heap.size) : Below B w W' :=
  ⟨hg.os.trans h.os, hg.tape.trans h.tape, hg.output.trans h.output, Nat.le_trans h.size hg.size, fun k hk => (hg.block k (Nat.lt_of_lt_of_le hk (Nat.le_trans hB h.size)) (fun e => by have := hr k e.symm; omega)).trans (h.block k hk)⟩

set_option maxRecDepth 100000 in
set_option maxHeartbeats 4000000 in
theorem piecesUp_any (p : Option Addr) (cap : Nat) (L : List T4) (w : World) (hL : Sl4 w p L) (hok : okL L = true) :
    Calls Try.prog 63 #[.slice p L.length cap, .func (.func 64) #[] #[]] w fun e w' => ∃ p1 cap1, e = .returned (.slice p1 (pcs (ysL L)).length cap1) ∧ Ow w' w.heap.size (.slice p1 (pcs (ysL L)).length cap1) (pcs (ysL L)) ∧ Below w.heap.size w w' := by
  have h12 := okL_len hok
  have HOK : Hid (okL L = true) := hok
  have hE : ∀ args w, (callFunc 64 args).run Try.prog w = .ok (.enter 64 args) w := enters_of Try.func64 (by kernel_rfl) rfl
  obtain ⟨i0, hi0, hz0, hz1, hz2⟩ := info_parts info2
  obtain ⟨j0, hj0, hy0, hy1, hy2⟩ := info_parts info83
  have hb0 := Below.refl w.heap.size w
  have hfd0 := field0
  have hfd1 := field1
  clear hok
  go_enter Try.func63, Try.ntmps63
  go_wp2
  go_loopw [5, 12] (fun sv iv wr => ∃ (k : Nat) (q : Option Addr) (c : Nat), k ≤ L.length ∧ iv = .int .i64 k ∧ sv = .slice q (2 * k) c ∧ wr.ownsRow w.heap.size 2 1 (.slice q (2 * k) c) (2 * k) (flat1 (cutsY (L.take k))) ∧ Below w.heap.size w wr) (fun _ iv _ => L.length - (intOf iv).toNat)
  case atStart => exact ⟨0, none, 0, by omega, rfl, rfl, World.ownsRow_nil .., hb0⟩
  case round =>
    obtain ⟨k, q, c, hk, rfl, rfl, hO, hb⟩ := hrel
    by_cases hlt : k < L.length
    · have hki : (k : Int) < L.length := by omega
      obtain ⟨g, off, rfl, hC⟩ := (hL.step hb).at hlt
      obtain ⟨c0, c1, c2, c3⟩ := hC.2 k _ (get4 hlt)
      have hro := okL_all HOK.out (L.getD k zr4) (by rw [show L.getD k zr4 = L[k] by simp [List.getD, hlt]]; exact List.getElem_mem hlt)
      have hT : flat1 (cutsY (L.take k)) ++ [.int .i64 (L.getD k zr4).y, .int .i64 ((L.getD k zr4).y + (L.getD k zr4).h)] = flat1 (cutsY (L.take (k + 1))) := by
        rw [List.take_succ_eq_append_getElem hlt]
        unfold cutsY
        rw [List.flatMap_append, flat1_append]
        simp [flat1, List.getD, hlt]
      generalize L.getD k zr4 = r at c0 c1 c2 c3 hro hT
      have HT : Hid (flat1 (cutsY (L.take k)) ++ [.int .i64 r.y, .int .i64 (r.y + r.h)] = flat1 (cutsY (L.take (k + 1)))) := hT
      have hro' : okB r.x r.y r.w r.h = true := hro
      clear hT hro
      have hB := (hb.alloc hb.size (.cells #[.int .i64 r.x, .int .i64 r.y, .int .i64 r.w, .int .i64 r.h] 35)).drew
      have hO2 := World.ownsRow.drew (World.ownsRow.alloc hO (.cells #[.int .i64 r.x, .int .i64 r.y, .int .i64 r.w, .int .i64 r.h] 35))
      generalize hF : flat1 (cutsY (L.take k)) = F at hO hO2 HT
      clear hF
      go_wp2
      go_region_law (first
        | (refine step_append_lies _ (by rfl) _ _ 27 (by rfl) w.heap.size 2 i0 (.int .i64 0) 1 8 Try.underlying27 hi0 hz0 hz1 hz2 rfl (by decide) (.slice q (2 * k) c) (2 * k) F (by rfl) (World.ownsRow.alloc hO2 _) ⟨w1.heap.size, 0, none⟩ 2 2 [.int .i64 r.y, .int .i64 (r.y + r.h)] (by rfl) rfl (cell2_at rfl) (fun x hx => by simp at hx; rcases hx with rfl | rfl <;> rfl) (by decide) (by unfold maxLen; omega) (by omega) (by have := hB.size; simp; omega) _ rfl ?_; intro g' cap2 w4 hown1 hgrow hat hlt4)
        | (refine step_call1 (by rfl) _ _ _ (by rfl) 64 (.agg #[.int .i64 r.x, .int .i64 r.y, .int .i64 r.w, .int .i64 r.h]) (by rfl) (by rfl) hE (up_any _ _ _ _ _ hro') ?_; intro w1 hb1; replace hO2 := own_of_below hO2 hb1; replace hB := bstep hB hb1 (Nat.le_refl _); obtain ⟨hc, hf⟩ := bcell hb1))
      all_goals
        simp only [List.getElem_toArray, List.getElem_cons_succ, List.getElem_cons_zero, Act.put, List.setIfInBounds_toArray, List.set_cons_succ, List.set_cons_zero]
        go_wp2
        go_roundw
        case rel => exact ⟨k + 1, some ⟨g', 0, none⟩, cap2, by omega, by go_num, by rw [show 2 * (k + 1) = 2 * k + 2 by omega], by rw [← HT.out]; exact hown1, bel_grown1 (hB.alloc hB.size _) hgrow (fun r hr => (World.ownsRow.lt hO2 r hr).1) (Nat.le_refl _)⟩
        case measure => simp [intOf]; omega
    · obtain rfl : k = L.length := by omega
      rw [List.take_length] at hO
      have hcm := msI_cut (cutsY L)
      have hcl := xsy_len_ysL L
      obtain ⟨cs, hcs⟩ : ∃ cs, ysL L = cs := ⟨_, rfl⟩
      have hcm' : Lib.compact (msI (cutsY L)) = cs := by rw [hcm, ← hcs]; rfl
      rw [hcs] at hcl
      have HCS : Hid (ysL L = cs) := hcs
      clear hcm hcs
      have h24' : 2 * L.length ≤ 24 := by omega
      generalize 2 * L.length = n2 at hO hcl h24'
      have h24 : n2 ≤ 1048576 := by omega
      generalize cutsY L = zs at hO hcm'
      have HCM : Hid (Lib.compact (msI zs) = cs) := hcm'
      clear hcm'
      go_wp2_with (first
        | (go_at_call 74; refine (sort_any _ n2 _ _ zs _ hO h24).mono ?_; rintro e w1 ⟨rfl, hO1, hg1⟩)
        | (go_at_call 75; refine (compact_any _ n2 _ _ _ _ hO1 h24 HCM.out).mono ?_; rintro e w2 ⟨rfl, hO2, hg2⟩))
      have hb1 := bel_grown1 hb hg1 (fun r hr => (World.ownsRow.lt hO r hr).1) (Nat.le_refl _)
      have hb2 := bel_grown1 hb1 hg2 (fun r hr => (World.ownsRow.lt hO1 r hr).1) (Nat.le_refl _)
      have hS : Sg w w2 [⟨.slice none 0 0, 83, 2, 0, []⟩, r1 (.slice q cs.length c) cs] := ⟨hb2, by simp only [List.mem_cons, List.not_mem_nil, or_false]; rintro r (rfl | rfl); exact World.ownsRow_nil ..; exact hO2, .cons (fun _ _ => .inl rfl) (.cons (fun _ h => by cases h) .nil)⟩
      clear hO hO1 hO2 hg1 hg2 hb hb1 hb2
      go_loopw [8, 9] (fun sv iv wr => ∃ (k : Nat) (q2 : Option Addr) (c2 : Nat), (k + 1 ≤ cs.length ∨ k = 0) ∧ iv = .int .i64 (k + 1 : Nat) ∧ sv = .slice q2 k c2 ∧ Sg w wr [⟨.slice q2 k c2, 83, 2, k, flat ((pcs cs).take k)⟩, r1 (.slice q cs.length c) cs]) (fun _ iv _ => cs.length - (intOf iv).toNat)
      case atStart => exact ⟨0, none, 0, .inr rfl, rfl, rfl, hS⟩
      case round =>
        clear hS
        obtain ⟨k, q2, c2, hk, rfl, rfl, hS⟩ := hrel
        by_cases hlt : k + 1 < cs.length
        · have hki : (k : Int) + 1 < cs.length := by omega
          have hki2 : ((k + 1 : Nat) : Int) < cs.length := by omega
          obtain ⟨g, off, rfl, hC⟩ := (Ow1.sl (rw_i hS.o1)).at hlt
          have x0 := hC.2 k _ (by rw [List.getElem?_eq_getElem (show k < cs.length by omega)])
          have x1 := hC.2 (k + 1) _ (List.getElem?_eq_getElem hlt)
          have hT : flat ((pcs cs).take k) ++ [.int .i64 cs[k], .int .i64 cs[k + 1]] = flat ((pcs cs).take (k + 1)) := by
            rw [List.take_add_one, pcs_get hlt, flat_append]
            simp [flat, T2.vs, List.getD, hlt, show k < cs.length by omega]
          generalize cs[k] = za at x0 hT
          generalize cs[k + 1] = zb at x1 hT
          have HT : Hid (flat ((pcs cs).take k) ++ [.int .i64 za, .int .i64 zb] = flat ((pcs cs).take (k + 1))) := hT
          have hlc : (cs.length : Int) ≤ 1000 := by omega
          clear hT
          have hO3 : wr.drew.ownsRow w.heap.size 83 2 (.slice q2 k c2) k (flat ((pcs cs).take k)) := World.ownsRow.drew hS.o0
          have hS3 := hS.step ((Below.refl wr.heap.size wr).drew)
          have hS4 := hS3.step (below_alloc1 wr.drew (.cells #[.int .i64 za, .int .i64 zb] 83))
          have hkl : k < cs.length := by omega
          have hk0 : (0 : Int) ≤ (k : Int) + 1 := by omega
          have hkt : ((k : Int) + 1).toNat = k + 1 := by omega
          have hwk : IntKind.i64.wrap (k : Int) = k := by rw [IntKind.wrap_i64]; omega
          go_wp2
          go_region_law (refine step_append_lies _ (by rfl) _ _ 78 (by rfl) w.heap.size 83 j0 (.agg #[.int .i64 0, .int .i64 0]) 2 16 Try.underlying78 hj0 hy0 hy1 hy2 rfl (by decide) (.slice q2 k c2) k (flat ((pcs cs).take k)) (by rfl) (World.ownsRow.alloc hO3 _) ⟨wr.heap.size, 0, none⟩ 1 1 [.int .i64 za, .int .i64 zb] (by rfl) rfl (cell2_at rfl) (fun x hx => by simp at hx; rcases hx with rfl | rfl <;> rfl) (by decide) (by unfold maxLen; omega) (by omega) (by have := hS.bel.size; simp; omega) _ rfl ?_; intro g' cap2 w4 hown1 hgrow hat hlt4)
          all_goals
            simp only [List.getElem_toArray, List.getElem_cons_succ, List.getElem_cons_zero, Act.put, List.setIfInBounds_toArray, List.set_cons_succ, List.set_cons_zero]
            go_wp2
            go_roundw
            case rel =>
              refine ⟨k + 1, some ⟨g', 0, none⟩, cap2, .inl (by omega), by go_num, rfl, ?_⟩
              refine hS4.app (A := []) (r' := ⟨.slice (some ⟨g', 0, none⟩) (k + 1) cap2, 83, 2, k + 1, flat ((pcs cs).take (k + 1))⟩) (by rw [← HT.out]; exact hown1) hgrow (fun gg e => ?_)
              have e' : g' = gg := by injection e
              subst e'
              rcases hat with e2 | e2
              · exact .inl e2
              · exact .inr (by simp only [e2]; exact Nat.le_refl _)
            case measure => simp [intOf]; omega
        · have hki : ¬ (k : Int) + 1 < cs.length := by omega
          have hki2 : ¬ ((k + 1 : Nat) : Int) < cs.length := by omega
          have hpl := pcs_len cs
          have hkk : k = (pcs cs).length := by omega
          have hO := hS.o0
          have hO' : Ow wr w.heap.size (.slice q2 (pcs cs).length c2) (pcs cs) := by
            have : wr.ownsRow w.heap.size 83 2 (.slice q2 k c2) k (flat ((pcs cs).take k)) := hO
            rw [hkk, List.take_length] at this
            exact this
          have HK : Hid (k = (pcs cs).length) := hkk
          clear hkk hpl
          go_wp2
          go_ret
          rw [HCS.out]
          exact ⟨q2, c2, by rw [← HK.out]; rfl, hO', hS.bel⟩

set_option maxRecDepth 100000 in
set_option maxHeartbeats 4000000 in
theorem piecesAcross_any (p : Option Addr) (cap : Nat) (L : List T4) (w : World) (hL : Sl4 w p L) (hok : okL L = true) :
    Calls Try.prog 63 #[.slice p L.length cap, .func (.func 65) #[] #[]] w fun e w' => ∃ p1 cap1, e = .returned (.slice p1 (pcs (xsL L)).length cap1) ∧ Ow w' w.heap.size (.slice p1 (pcs (xsL L)).length cap1) (pcs (xsL L)) ∧ Below w.heap.size w w' := by
  have h12 := okL_len hok
  have HOK : Hid (okL L = true) := hok
  have hE : ∀ args w, (callFunc 65 args).run Try.prog w = .ok (.enter 65 args) w := enters_of Try.func65 (by kernel_rfl) rfl
  obtain ⟨i0, hi0, hz0, hz1, hz2⟩ := info_parts info2
  obtain ⟨j0, hj0, hy0, hy1, hy2⟩ := info_parts info83
  have hb0 := Below.refl w.heap.size w
  have hfd0 := field0
  have hfd1 := field1
  clear hok
  go_enter Try.func63, Try.ntmps63
  go_wp2
  go_loopw [5, 12] (fun sv iv wr => ∃ (k : Nat) (q : Option Addr) (c : Nat), k ≤ L.length ∧ iv = .int .i64 k ∧ sv = .slice q (2 * k) c ∧ wr.ownsRow w.heap.size 2 1 (.slice q (2 * k) c) (2 * k) (flat1 (cutsX (L.take k))) ∧ Below w.heap.size w wr) (fun _ iv _ => L.length - (intOf iv).toNat)
  case atStart => exact ⟨0, none, 0, by omega, rfl, rfl, World.ownsRow_nil .., hb0⟩
  case round =>
    obtain ⟨k, q, c, hk, rfl, rfl, hO, hb⟩ := hrel
    by_cases hlt : k < L.length
    · have hki : (k : Int) < L.length := by omega
      obtain ⟨g, off, rfl, hC⟩ := (hL.step hb).at hlt
      obtain ⟨c0, c1, c2, c3⟩ := hC.2 k _ (get4 hlt)
      have hro := okL_all HOK.out (L.getD k zr4) (by rw [show L.getD k zr4 = L[k] by simp [List.getD, hlt]]; exact List.getElem_mem hlt)
      have hT : flat1 (cutsX (L.take k)) ++ [.int .i64 (L.getD k zr4).x, .int .i64 ((L.getD k zr4).x + (L.getD k zr4).w)] = flat1 (cutsX (L.take (k + 1))) := by
        rw [List.take_succ_eq_append_getElem hlt]
        unfold cutsX
        rw [List.flatMap_append, flat1_append]
        simp [flat1, List.getD, hlt]
      generalize L.getD k zr4 = r at c0 c1 c2 c3 hro hT
      have HT : Hid (flat1 (cutsX (L.take k)) ++ [.int .i64 r.x, .int .i64 (r.x + r.w)] = flat1 (cutsX (L.take (k + 1)))) := hT
      have hro' : okB r.x r.y r.w r.h = true := hro
      clear hT hro
      have hB := (hb.alloc hb.size (.cells #[.int .i64 r.x, .int .i64 r.y, .int .i64 r.w, .int .i64 r.h] 35)).drew
      have hO2 := World.ownsRow.drew (World.ownsRow.alloc hO (.cells #[.int .i64 r.x, .int .i64 r.y, .int .i64 r.w, .int .i64 r.h] 35))
      generalize hF : flat1 (cutsX (L.take k)) = F at hO hO2 HT
      clear hF
      go_wp2
      go_region_law (first
        | (refine step_append_lies _ (by rfl) _ _ 27 (by rfl) w.heap.size 2 i0 (.int .i64 0) 1 8 Try.underlying27 hi0 hz0 hz1 hz2 rfl (by decide) (.slice q (2 * k) c) (2 * k) F (by rfl) (World.ownsRow.alloc hO2 _) ⟨w1.heap.size, 0, none⟩ 2 2 [.int .i64 r.x, .int .i64 (r.x + r.w)] (by rfl) rfl (cell2_at rfl) (fun x hx => by simp at hx; rcases hx with rfl | rfl <;> rfl) (by decide) (by unfold maxLen; omega) (by omega) (by have := hB.size; simp; omega) _ rfl ?_; intro g' cap2 w4 hown1 hgrow hat hlt4)
        | (refine step_call1 (by rfl) _ _ _ (by rfl) 65 (.agg #[.int .i64 r.x, .int .i64 r.y, .int .i64 r.w, .int .i64 r.h]) (by rfl) (by rfl) hE (across_any _ _ _ _ _ hro') ?_; intro w1 hb1; replace hO2 := own_of_below hO2 hb1; replace hB := bstep hB hb1 (Nat.le_refl _); obtain ⟨hc, hf⟩ := bcell hb1))
      all_goals
        simp only [List.getElem_toArray, List.getElem_cons_succ, List.getElem_cons_zero, Act.put, List.setIfInBounds_toArray, List.set_cons_succ, List.set_cons_zero]
        go_wp2
        go_roundw
        case rel => exact ⟨k + 1, some ⟨g', 0, none⟩, cap2, by omega, by go_num, by rw [show 2 * (k + 1) = 2 * k + 2 by omega], by rw [← HT.out]; exact hown1, bel_grown1 (hB.alloc hB.size _) hgrow (fun r hr => (World.ownsRow.lt hO2 r hr).1) (Nat.le_refl _)⟩
        case measure => simp [intOf]; omega
    · obtain rfl : k = L.length := by omega
      rw [List.take_length] at hO
      have hcm := msI_cut (cutsX L)
      have hcl := xsy_len_xsL L
      obtain ⟨cs, hcs⟩ : ∃ cs, xsL L = cs := ⟨_, rfl⟩
      have hcm' : Lib.compact (msI (cutsX L)) = cs := by rw [hcm, ← hcs]; rfl
      rw [hcs] at hcl
      have HCS : Hid (xsL L = cs) := hcs
      clear hcm hcs
      have h24' : 2 * L.length ≤ 24 := by omega
      generalize 2 * L.length = n2 at hO hcl h24'
      have h24 : n2 ≤ 1048576 := by omega
      generalize cutsX L = zs at hO hcm'
      have HCM : Hid (Lib.compact (msI zs) = cs) := hcm'
      clear hcm'
      go_wp2_with (first
        | (go_at_call 74; refine (sort_any _ n2 _ _ zs _ hO h24).mono ?_; rintro e w1 ⟨rfl, hO1, hg1⟩)
        | (go_at_call 75; refine (compact_any _ n2 _ _ _ _ hO1 h24 HCM.out).mono ?_; rintro e w2 ⟨rfl, hO2, hg2⟩))
      have hb1 := bel_grown1 hb hg1 (fun r hr => (World.ownsRow.lt hO r hr).1) (Nat.le_refl _)
      have hb2 := bel_grown1 hb1 hg2 (fun r hr => (World.ownsRow.lt hO1 r hr).1) (Nat.le_refl _)
      have hS : Sg w w2 [⟨.slice none 0 0, 83, 2, 0, []⟩, r1 (.slice q cs.length c) cs] := ⟨hb2, by simp only [List.mem_cons, List.not_mem_nil, or_false]; rintro r (rfl | rfl); exact World.ownsRow_nil ..; exact hO2, .cons (fun _ _ => .inl rfl) (.cons (fun _ h => by cases h) .nil)⟩
      clear hO hO1 hO2 hg1 hg2 hb hb1 hb2
      go_loopw [8, 9] (fun sv iv wr => ∃ (k : Nat) (q2 : Option Addr) (c2 : Nat), (k + 1 ≤ cs.length ∨ k = 0) ∧ iv = .int .i64 (k + 1 : Nat) ∧ sv = .slice q2 k c2 ∧ Sg w wr [⟨.slice q2 k c2, 83, 2, k, flat ((pcs cs).take k)⟩, r1 (.slice q cs.length c) cs]) (fun _ iv _ => cs.length - (intOf iv).toNat)
      case atStart => exact ⟨0, none, 0, .inr rfl, rfl, rfl, hS⟩
      case round =>
        clear hS
        obtain ⟨k, q2, c2, hk, rfl, rfl, hS⟩ := hrel
        by_cases hlt : k + 1 < cs.length
        · have hki : (k : Int) + 1 < cs.length := by omega
          have hki2 : ((k + 1 : Nat) : Int) < cs.length := by omega
          obtain ⟨g, off, rfl, hC⟩ := (Ow1.sl (rw_i hS.o1)).at hlt
          have x0 := hC.2 k _ (by rw [List.getElem?_eq_getElem (show k < cs.length by omega)])
          have x1 := hC.2 (k + 1) _ (List.getElem?_eq_getElem hlt)
          have hT : flat ((pcs cs).take k) ++ [.int .i64 cs[k], .int .i64 cs[k + 1]] = flat ((pcs cs).take (k + 1)) := by
            rw [List.take_add_one, pcs_get hlt, flat_append]
            simp [flat, T2.vs, List.getD, hlt, show k < cs.length by omega]
          generalize cs[k] = za at x0 hT
          generalize cs[k + 1] = zb at x1 hT
          have HT : Hid (flat ((pcs cs).take k) ++ [.int .i64 za, .int .i64 zb] = flat ((pcs cs).take (k + 1))) := hT
          have hlc : (cs.length : Int) ≤ 1000 := by omega
          clear hT
          have hO3 : wr.drew.ownsRow w.heap.size 83 2 (.slice q2 k c2) k (flat ((pcs cs).take k)) := World.ownsRow.drew hS.o0
          have hS3 := hS.step ((Below.refl wr.heap.size wr).drew)
          have hS4 := hS3.step (below_alloc1 wr.drew (.cells #[.int .i64 za, .int .i64 zb] 83))
          have hkl : k < cs.length := by omega
          have hk0 : (0 : Int) ≤ (k : Int) + 1 := by omega
          have hkt : ((k : Int) + 1).toNat = k + 1 := by omega
          have hwk : IntKind.i64.wrap (k : Int) = k := by rw [IntKind.wrap_i64]; omega
          go_wp2
          go_region_law (refine step_append_lies _ (by rfl) _ _ 78 (by rfl) w.heap.size 83 j0 (.agg #[.int .i64 0, .int .i64 0]) 2 16 Try.underlying78 hj0 hy0 hy1 hy2 rfl (by decide) (.slice q2 k c2) k (flat ((pcs cs).take k)) (by rfl) (World.ownsRow.alloc hO3 _) ⟨wr.heap.size, 0, none⟩ 1 1 [.int .i64 za, .int .i64 zb] (by rfl) rfl (cell2_at rfl) (fun x hx => by simp at hx; rcases hx with rfl | rfl <;> rfl) (by decide) (by unfold maxLen; omega) (by omega) (by have := hS.bel.size; simp; omega) _ rfl ?_; intro g' cap2 w4 hown1 hgrow hat hlt4)
          all_goals
            simp only [List.getElem_toArray, List.getElem_cons_succ, List.getElem_cons_zero, Act.put, List.setIfInBounds_toArray, List.set_cons_succ, List.set_cons_zero]
            go_wp2
            go_roundw
            case rel =>
              refine ⟨k + 1, some ⟨g', 0, none⟩, cap2, .inl (by omega), by go_num, rfl, ?_⟩
              refine hS4.app (A := []) (r' := ⟨.slice (some ⟨g', 0, none⟩) (k + 1) cap2, 83, 2, k + 1, flat ((pcs cs).take (k + 1))⟩) (by rw [← HT.out]; exact hown1) hgrow (fun gg e => ?_)
              have e' : g' = gg := by injection e
              subst e'
              rcases hat with e2 | e2
              · exact .inl e2
              · exact .inr (by simp only [e2]; exact Nat.le_refl _)
            case measure => simp [intOf]; omega
        · have hki : ¬ (k : Int) + 1 < cs.length := by omega
          have hki2 : ¬ ((k + 1 : Nat) : Int) < cs.length := by omega
          have hpl := pcs_len cs
          have hkk : k = (pcs cs).length := by omega
          have hO := hS.o0
          have hO' : Ow wr w.heap.size (.slice q2 (pcs cs).length c2) (pcs cs) := by
            have : wr.ownsRow w.heap.size 83 2 (.slice q2 k c2) k (flat ((pcs cs).take k)) := hO
            rw [hkk, List.take_length] at this
            exact this
          have HK : Hid (k = (pcs cs).length) := hkk
          clear hkk hpl
          go_wp2
          go_ret
          rw [HCS.out]
          exact ⟨q2, c2, by rw [← HK.out]; rfl, hO', hS.bel⟩
end Go.Proofs.Ytgpgmndjkcpaoaa
