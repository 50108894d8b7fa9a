/-
  How many Spots are in just so many Rects: the program's.
-/
import Derived.Test.YtgpgmndjkcpaoaaA3
import Derived.Test.YtgpgmndjkcpaoaaA5
namespace Go.Proofs.Ytgpgmndjkcpaoaa
open Go.RowKit Go.Joins
attribute [local go_sem] Oper.semAt_some

theorem own_ne_map {W : World} {base e s n b : Nat} {v : Value} {xs : List Value} {f : T2 → Int} (h : W.ownsRow base e s v n xs) (hm : Mp W b f) : v.ownBlock = none ∨ v.ownBlock ≠ some b := by
  rcases h.2 with ⟨rfl, _⟩ | ⟨g, cap, cur, rfl, _, hh, _⟩
  · exact .inl rfl
  · refine .inr fun e => ?_
    have e' : g = b := Option.some.inj e
    subst e'
    obtain ⟨E, clock, hb, _⟩ := hm
    rw [hh] at hb; cases hb
theorem Sg.far {w W W' : World} {rs : List Rw} {b : Nat} {f : T2 → Int} (h : Sg w W rs) (hm : Mp W b f) (hg : W.grownBy W' (some b)) (hb : w.heap.size ≤ b) : Sg w W' rs :=
  ⟨bel_grown1 h.bel hg (fun r hr => by cases hr; exact hb) (Nat.le_refl _), fun r hr => World.ownsRow.kept (h.own r hr) hg (own_ne_map (h.own r hr) hm), h.dis⟩
theorem apt_pcs {cs : List Int} (hs : cs.Pairwise (· < ·)) : Apt (pcs cs) := by
  intro i j c hi hj
  have li : i + 1 < cs.length := by have := (List.getElem?_eq_some_iff.1 hi).1; rw [pcs_len] at this; omega
  have lj : j + 1 < cs.length := by have := (List.getElem?_eq_some_iff.1 hj).1; rw [pcs_len] at this; omega
  rw [pcs_get li] at hi
  rw [pcs_get lj] at hj
  have e : cs.getD i 0 = cs.getD j 0 := by
    have := (Option.some.inj hi).trans (Option.some.inj hj).symm
    exact congrArg T2.x this
  by_cases c1 : i < j
  · have := srt_get hs c1 (by omega); omega
  · by_cases c2 : j < i
    · have := srt_get hs c2 (by omega); omega
    · omega
theorem box_cells {W : World} {base g : Nat} {s : T2} (h : W.ownsRow base 83 2 (.slice (some ⟨g, 0, none⟩) 1 1) 1 (flat [s])) : W.cell? ⟨g, 0, none⟩ = some (.int .i64 s.x) ∧ W.cell? ⟨g, 1, none⟩ = some (.int .i64 s.y) ∧ g < W.heap.size := by
  have hc := Ow.cs (W := W) (L := [s]) h
  have := hc.2 0 s rfl
  exact ⟨this.1, this.2, hc.1⟩
theorem box_own (W : World) (s : T2) : (W.alloc (.cells #[.int .i64 s.x, .int .i64 s.y] 83)).ownsRow W.heap.size 83 2 (.slice (some ⟨W.heap.size, 0, none⟩) 1 1) 1 (flat [s]) := by
  have := World.ownsRow_lit (base := W.heap.size) (e := 83) (size := 2) W #[.int .i64 s.x, .int .i64 s.y] 1 (Nat.le_refl _) (by unfold maxLen; omega) rfl
  simpa [flat, T2.vs] using this

set_option maxRecDepth 100000 in
set_option maxHeartbeats 8000000 in
theorem depths_any (p : Option Addr) (cap : Nat) (L : List T4) (w : World) (hL : Sl4 w p L) (hok : okL L = true) :
    Calls Try.prog 44 #[.slice p L.length cap] w fun e w' => ∃ g1 cap1, e = .returned (.slice (some ⟨g1, 0, none⟩) L.length cap1) ∧ w'.ownsRow w.heap.size 2 1 (.slice (some ⟨g1, 0, none⟩) L.length cap1) L.length (flat1 ((dpsL L).drop 1)) ∧ Below w.heap.size w w' := by
  have h12 := okL_len hok
  have HOK : Hid (okL L = true) := hok
  have HPU : Hid (∀ W, Sl4 W p L → Calls Try.prog 63 #[.slice p L.length cap, .func (.func 64) #[] #[]] W fun e w' => ∃ p1 cap1, e = .returned (.slice p1 (pcs (ysL L)).length cap1) ∧ Ow w' W.heap.size (.slice p1 (pcs (ysL L)).length cap1) (pcs (ysL L)) ∧ Below W.heap.size W w') := fun W h => piecesUp_any p cap L W h hok
  have HPA : Hid (∀ W, Sl4 W p L → Calls Try.prog 63 #[.slice p L.length cap, .func (.func 65) #[] #[]] W fun e w' => ∃ p1 cap1, e = .returned (.slice p1 (pcs (xsL L)).length cap1) ∧ Ow w' W.heap.size (.slice p1 (pcs (xsL L)).length cap1) (pcs (xsL L)) ∧ Below W.heap.size W w') := fun W h => piecesAcross_any p cap L W h hok
  have HLY : Hid (∀ (q : Option Addr) (capb b : Nat) (s : T2) (W : World), Sl4 W p L → Sl W q (pcs (ysL L)) → Mp W b (fun _ => 0) → Calls Try.prog 66 #[.slice p L.length cap, .agg #[.int .i64 s.x, .int .i64 s.y], .slice q (pcs (ysL L)).length capb, .map (some b)] W fun e w' => (∃ v, e = .returned v) ∧ (∃ f, Mp w' b f ∧ ∀ (i : Nat) (c : T2), (pcs (ysL L))[i]? = some c → f c = (dep L s c : Nat)) ∧ W.grownBy w' (some b)) := fun q capb b s W h1 h2 h3 => lay_any p q cap capb b L (pcs (ysL L)) s W h1 h2 hok (by rw [pcs_len]; have := ysL_len L; omega) (apt_pcs (cutL_srt _)) h3
  obtain ⟨N, hN⟩ : ∃ N, L.length = N := ⟨_, rfl⟩
  have HN : Hid (L.length = N) := hN
  simp only [hN] at h12 HPU HPA HLY ⊢
  clear hok hN
  obtain ⟨i0, hi, hz0, hz1, hz2⟩ := info_parts info2
  have hmk := run_make (P := Try.prog) w 27 2 i0 _ Try.underlying27 hi hz0 .i64 .i64 (N : Int) (N : Int) (by omega) (by omega) (by rw [hz2]; omega) (by omega)
  rw [hz1, Int.toNat_natCast, Nat.mul_one] at hmk
  have hmm := @run_makeMap Try.prog
  have hrow0 : (w.alloc (.cells (madeCells #[.int .i64 0] N) 2)).ownsRow w.heap.size 2 1 (.slice (some ⟨w.heap.size, 0, none⟩) N N) N (flat1 (List.replicate N 0)) := by
    have := World.ownsRow_lit (base := w.heap.size) (e := 2) (size := 1) w (madeCells #[.int .i64 0] N) N (Nat.le_refl _) (by unfold maxLen; omega) (by rw [size_madeCells, Nat.mul_one])
    rw [made_flat1] at this
    exact this
  have hX0 : Sg w _ [⟨.slice (some ⟨w.heap.size, 0, none⟩) N N, 2, 1, N, flat1 (List.replicate N 0)⟩] := (Sg.nil w).add (r := ⟨.slice (some ⟨w.heap.size, 0, none⟩) N N, 2, 1, N, flat1 (List.replicate N 0)⟩) hrow0 (below_alloc1 _ _)
  have hX1 := hX0.step (below_alloc1 _ (.map #[] 0))
  have hM1 := mp_made (w.alloc (.cells (madeCells #[.int .i64 0] N) 2))
  rw [World.size_alloc] at hM1
  have hmb : w.heap.size ≤ w.heap.size + 1 := Nat.le_succ _
  have hrep : List.replicate N (0 : Int) = (List.replicate (N + 1) (0 : Int)).drop 1 := by simp
  rw [hrep] at hX1
  clear hrow0 hX0 hrep
  go_enter Try.func44, Try.ntmps44
  have f1 : True := trivial
  go_wp2_with (first
    | (go_at_call 63; clear f1; refine (HPU.out _ (hL.step hX1.bel)).mono ?_; rintro e w1 ⟨pb, capb, rfl, hOb, hb2⟩; replace hX1 := hX1.add (r := r2 _ _) hOb hb2; replace hM1 := hM1.step hb2)
    | (go_at_call 63; refine (HPA.out _ (hL.step hX1.bel)).mono ?_; rintro e w2 ⟨ps, caps, rfl, hOs, hb3⟩; replace hX1 := hX1.add (r := r2 _ _) hOs hb3; replace hM1 := hM1.step hb3))
  clear hmk hmm hOb hOs hb2 hb3
  obtain ⟨SS, hSS⟩ : ∃ z, pcs (xsL L) = z := ⟨_, rfl⟩
  obtain ⟨BS, hBS⟩ : ∃ z, pcs (ysL L) = z := ⟨_, rfl⟩
  have hSl : SS.length ≤ 24 := by rw [← hSS, pcs_len]; have := xsL_len L; have := HN.out; omega
  have hBl : BS.length ≤ 24 := by rw [← hBS, pcs_len]; have := ysL_len L; have := HN.out; omega
  have HSB : Hid (pcs (xsL L) = SS ∧ pcs (ysL L) = BS) := ⟨hSS, hBS⟩
  simp only [hSS, hBS] at hX1 HLY ⊢
  clear hSS hBS HPU HPA
  generalize hbm : w.heap.size + 1 = bm at hM1 hmb ⊢
  go_loopw [20] (fun iv wr => ∃ (i : Nat) (f : T2 → Int), i ≤ SS.length ∧ iv = .int .i64 i ∧ Mp wr bm f ∧ Sg w wr [r2 (.slice ps SS.length caps) SS, r2 (.slice pb BS.length capb) BS, ⟨.slice (some ⟨w.heap.size, 0, none⟩) N N, 2, 1, N, flat1 ((accS L (SS.take i) BS (List.replicate (N + 1) 0)).drop 1)⟩]) (fun iv _ => SS.length - (intOf iv).toNat)
  case atStart => exact ⟨0, _, by omega, rfl, hM1, hX1⟩
  case round =>
    rename World => wo
    clear hX1 hM1
    obtain ⟨i, f, hi', rfl, hMf, hS⟩ := hrel
    by_cases hlt : i < SS.length
    · have hii : (i : Int) < SS.length := by omega
      obtain ⟨gs, os, rfl, hC⟩ := (Ow.sl (rw_s hS.o0)).at hlt
      obtain ⟨c0, c1⟩ := hC.2 i _ (get2 hlt)
      have hgi : SS[i]? = some (SS.getD i zro2) := get2 hlt
      have hmb2 := fun j => mid_bd (j := j) HOK.out (i := i) (by rw [HSB.out.1]; exact hgi)
      have hsb : 0 ≤ (SS.getD i zro2).x ∧ (SS.getD i zro2).x ≤ 256 ∧ 0 ≤ (SS.getD i zro2).y ∧ (SS.getD i zro2).y ≤ 256 := by
        have hm : SS.getD i zro2 ∈ pcs (xsL L) := by rw [HSB.out.1]; exact List.mem_of_getElem? hgi
        obtain ⟨_, h2, h3, _⟩ := pcs_gap (cutL_srt _) hm
        have a1 := xsL_in HOK.out h2
        have a2 := xsL_in HOK.out h3
        exact ⟨a1.1, a1.2, a2.1, a2.2⟩
      have hst := accS_take (L := L) (bs := BS) (o := List.replicate (N + 1) 0) hgi
      have hlO := accS_len L BS (SS.take i) (List.replicate (N + 1) 0)
      rw [List.length_replicate] at hlO
      rw [HN.out, HSB.out.1, HSB.out.2] at hmb2
      obtain ⟨Oi, hOi⟩ : ∃ o, accS L (SS.take i) BS (List.replicate (N + 1) 0) = o := ⟨_, rfl⟩
      obtain ⟨s, hs⟩ : ∃ s, SS.getD i zro2 = s := ⟨_, rfl⟩
      rw [hOi] at hst hlO hmb2 hS
      rw [hs] at c0 c1 hsb hst hmb2
      have HST : Hid (accS L (SS.take (i + 1)) BS (List.replicate (N + 1) 0) = accB L s BS Oi) := hst
      have HMB : Hid (∀ j : Nat, Bd 600 (accB L s (BS.take j) Oi)) := hmb2
      have HLO : Hid (Oi.length = N + 1) := hlO
      have HSM : Hid (s ∈ SS) := by show s ∈ SS; rw [← hs]; exact List.mem_of_getElem? hgi
      clear hst hmb2 hlO hOi hs hgi
      have hS2 := hS.add (r := ⟨.slice (some ⟨wo.heap.size, 0, none⟩) 1 1, 83, 2, 1, flat [s]⟩) (box_own wo s) (below_alloc1 _ _)
      have hM2 := hMf.step (below_alloc1 wo (.cells #[.int .i64 s.x, .int .i64 s.y] 83))
      clear hS hMf hC
      obtain ⟨w1, hcl0, hM3, hg3⟩ := mp_clear hM2
      have hcl := hcl0 0
      have hS3 := hS2.far hM2 hg3 hmb
      obtain ⟨kk0, kk1, kk2⟩ := box_cells hS3.o0
      clear hcl0
      go_wp2_with ((go_at_call 66; refine (HLY.out pb capb bm s _ (hL.step hS3.bel) (Ow.sl (rw_s hS3.o2)) hM3).mono ?_; rintro e w2 ⟨⟨v, rfl⟩, ⟨f2, hM4, hf2⟩, hg4⟩; have hS4 := hS3.far hM3 hg4 hmb))
      have HF : Hid (∀ (i : Nat) (c : T2), BS[i]? = some c → f2 c = (dep L s c : Nat)) := hf2
      clear hcl hS2 hM2 hM3 hS3 kk0 kk1 kk2 hg3 hg4 hf2
      go_loopw [32] (fun jv wr => ∃ j : Nat, j ≤ BS.length ∧ jv = .int .i64 j ∧ Mp wr bm f2 ∧ Sg w wr [⟨.slice (some ⟨wo.heap.size, 0, none⟩) 1 1, 83, 2, 1, flat [s]⟩, r2 (.slice (some ⟨gs, os, none⟩) SS.length caps) SS, r2 (.slice pb BS.length capb) BS, ⟨.slice (some ⟨w.heap.size, 0, none⟩) N N, 2, 1, N, flat1 ((accB L s (BS.take j) Oi).drop 1)⟩]) (fun jv _ => BS.length - (intOf jv).toNat)
      case atStart => exact ⟨0, by omega, rfl, hM4, hS4⟩
      case round =>
        clear hS4 hM4
        obtain ⟨j, hj, rfl, hM5, hS5⟩ := hrel
        by_cases hltj : j < BS.length
        · have hji : (j : Int) < BS.length := by omega
          obtain ⟨gb, ob, rfl, hCb⟩ := (Ow.sl (rw_s hS5.o2)).at hltj
          obtain ⟨d0, d1⟩ := hCb.2 j _ (get2 hltj)
          have hgj : BS[j]? = some (BS.getD j zro2) := get2 hltj
          have hcb : 0 ≤ (BS.getD j zro2).x ∧ (BS.getD j zro2).x ≤ 256 ∧ 0 ≤ (BS.getD j zro2).y ∧ (BS.getD j zro2).y ≤ 256 ∧ (BS.getD j zro2).x < (BS.getD j zro2).y := by
            have hm : BS.getD j zro2 ∈ pcs (ysL L) := by rw [HSB.out.2]; exact List.mem_of_getElem? hgj
            obtain ⟨h1, h2, h3, _⟩ := pcs_gap (cutL_srt _) hm
            have a1 := ysL_in HOK.out h2
            have a2 := ysL_in HOK.out h3
            exact ⟨a1.1, a1.2, a2.1, a2.2, h1⟩
          have hbt := accB_take (L := L) (s := s) (o := Oi) hgj
          have hfd := HF.out j _ hgj
          obtain ⟨c, hc⟩ : ∃ c, BS.getD j zro2 = c := ⟨_, rfl⟩
          obtain ⟨O, hO⟩ : ∃ o, accB L s (BS.take j) Oi = o := ⟨_, rfl⟩
          have hObd := HMB.out j
          have hOl := accB_len L s (BS.take j) Oi
          rw [HLO.out] at hOl
          have hdl := dep_le L s c
          rw [HN.out] at hdl
          rw [hc] at d0 d1 hcb hbt hfd
          rw [hO] at hbt hObd hOl hS5
          obtain ⟨kk0, kk1, kk2⟩ := box_cells hS5.o0
          have hlk := fun W (h : Mp W bm f2) => mp_look h c
          rw [hfd] at hlk
          have hdp := bump_drop O (dep L s c) (lenS s * lenS c)
          generalize dep L s c = d at hbt hfd hdl hlk hdp
          have hM6 := hM5.step (below_alloc1 wr (.cells #[.int .i64 c.x, .int .i64 c.y] 83))
          have hlk1 := hlk _ hM6
          rw [← hbt] at hdp
          by_cases hd0 : d = 0
          · subst hd0
            rw [if_neg (by decide)] at hdp
            have HDP : Hid ((accB L s (BS.take (j + 1)) Oi).drop 1 = O.drop 1) := hdp
            clear hdp hbt hfd hlk
            go_wp2
            go_roundw
            case rel => exact ⟨j + 1, by omega, by go_num, hM6, by rw [HDP.out]; exact hS5.step (below_alloc1 _ _)⟩
            case measure => simp [intOf]; omega
          · obtain ⟨e, rfl⟩ : ∃ e, d = e + 1 := ⟨d - 1, by omega⟩
            rw [if_pos (Nat.succ_pos e), Nat.add_sub_cancel] at hdp
            have hMl : (O.drop 1).length = N := by rw [List.length_drop, hOl]; omega
            have hMb := hObd.drop 1
            have heM : e < (O.drop 1).length := by rw [hMl]; omega
            have hov := hMb _ (getD_mem heM)
            have hOw : wr.ownsRow w.heap.size 2 1 (.slice (some ⟨w.heap.size, 0, none⟩) N N) N (flat1 (O.drop 1)) := hS5.o3
            have hoc := (own1_cs hOw).2 e _ (getI_some heM)
            have hgo := (own1_cs hOw).1
            have hfz := World.ownsRow.frozenAt hOw
            rw [Nat.zero_add] at hoc
            have hsx : s.x < s.y := by
              have hm : s ∈ pcs (xsL L) := by rw [HSB.out.1]; exact HSM.out
              exact (pcs_gap (cutL_srt _) hm).1
            have har := area_bd1 (s := s) (b := c) (by unfold lenS; omega) (by unfold lenS; omega)
            unfold lenS at har hdp
            unfold bump at hdp
            obtain ⟨ov, hove⟩ : ∃ z, (O.drop 1).getD e 0 = z := ⟨_, rfl⟩
            rw [hove] at hov hoc hdp
            obtain ⟨A, hA⟩ : ∃ z, (s.y - s.x) * (c.y - c.x) = z := ⟨_, rfl⟩
            rw [hA] at har hdp
            have HDP : Hid ((accB L s (BS.take (j + 1)) Oi).drop 1 = (O.drop 1).set e (ov + A)) := hdp
            have HML : Hid ((O.drop 1).length = N) := hMl
            have heN : (e : Int) < N := by omega
            have heN2 : e < N := by omega
            have hwe : IntKind.i64.wrap ((e : Int) + 1 - 1) = (e : Int) := by rw [IntKind.wrap_i64]; omega
            have hwe2 : IntKind.i64.wrap (e : Int) = (e : Int) := by rw [IntKind.wrap_i64]; omega
            have hw3 : IntKind.i64.wrap A = A := by rw [IntKind.wrap_i64]; omega
            have hw4 : IntKind.i64.wrap (ov + A) = ov + A := by rw [IntKind.wrap_i64]; omega
            have hepos : (0 : Int) < (e : Int) + 1 := by omega
            have hsb' : 0 ≤ s.x ∧ s.x ≤ 256 ∧ 0 ≤ s.y ∧ s.y ≤ 256 := hsb
            have hcb' : 0 ≤ c.x ∧ c.x ≤ 256 ∧ 0 ≤ c.y ∧ c.y ≤ 256 := by omega
            have hgo2 : w.heap.size < wr.heap.size + 1 := by omega
            have hkk3 : wo.heap.size < wr.heap.size + 1 := by omega
            have hS6 := (hS5.step (below_alloc1 wr (.cells #[.int .i64 c.x, .int .i64 c.y] 83))).step (Below.refl _ _).drew
            have hM7 := hM6.step (Below.refl _ _).drew
            rw [show ((e + 1 : Nat) : Int) = (e : Int) + 1 by omega] at hlk1
            clear hdp hMl hMb heM hove hOw hbt hfd hlk hObd hOl
            go_wp2
            go_region_with (first
              | (go_at_call 67; refine (length_any s.x s.y _ hsb').mono ?_; rintro e' w3 ⟨rfl, hb3⟩; replace hS6 := hS6.step hb3; replace hM7 := hM7.step hb3; obtain ⟨hc3, hf3⟩ := bcell hb3; have hz3 := hb3.size; simp at hz3; have hq1 : w.heap.size < w3.heap.size := (by omega); have hq2 : wo.heap.size < w3.heap.size := (by omega); have hq3 : wr.heap.size < w3.heap.size := (by omega))
              | (go_at_call 67; refine (length_any c.x c.y _ hcb').mono ?_; rintro e' w4 ⟨rfl, hb4⟩; replace hS6 := hS6.step hb4; replace hM7 := hM7.step hb4; obtain ⟨hc4, hf4⟩ := bcell hb4; have hz4 := hb4.size; have hq4 : w.heap.size < w4.heap.size := (by omega)))
            all_goals
              go_wp2
              go_roundw
              case rel =>
                have hO7 : w4.ownsRow w.heap.size 2 1 (.slice (some ⟨w.heap.size, 0, none⟩) N N) N (flat1 (O.drop 1)) := hS6.o3
                obtain ⟨s1, t1⟩ := Ow1.stored (W := w4) (base := w.heap.size) (g := w.heap.size) (n := N) (cap := N) (k := e) (L := O.drop 1) (by unfold Ow1; rw [HML.out]; exact hO7) (ov + A)
                refine ⟨j + 1, by omega, by go_num, hM7.kept t1 (by intro h; injection h with h; omega), ?_⟩
                rw [HDP.out]
                exact hS6.put (A := [_, _, _]) (B := []) (r' := ⟨.slice (some ⟨w.heap.size, 0, none⟩) N N, 2, 1, N, flat1 ((O.drop 1).set e (ov + A))⟩) rfl (by unfold Ow1 at s1; rw [List.length_set, HML.out] at s1; exact s1) t1
              case measure => simp [intOf]; omega
        · obtain rfl : j = BS.length := by omega
          rw [List.take_length] at hS5
          go_wp2
          refine ⟨⟨i + 1, f2, by omega, by go_num, hM5, by rw [HST.out]; exact hS5.d0⟩, by simp [intOf]; omega⟩
    · obtain rfl : i = SS.length := by omega
      have hD : dpsL L = accS L SS BS (List.replicate (N + 1) 0) := by unfold dpsL; rw [HSB.out.1, HSB.out.2, HN.out]
      rw [List.take_length] at hS
      have HD : Hid (dpsL L = accS L SS BS (List.replicate (N + 1) 0)) := hD
      clear hD
      go_wp2
      go_ret
      refine ⟨w.heap.size, N, rfl, ?_, hS.bel⟩
      rw [HD.out]
      exact hS.o2
end Go.Proofs.Ytgpgmndjkcpaoaa
