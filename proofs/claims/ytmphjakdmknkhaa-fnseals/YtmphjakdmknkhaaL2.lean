/-
  FnSeals walked.
-/
import Derived.Test.YtmphjakdmknkhaaL1
import Derived.Laws.BitsLemmas
namespace Go.Proofs.Ytmphjakdmknkhaa
open Go.RowKit Go.Joins
attribute [local go_sem] Oper.semAt_some

theorem wrp {b y : Int} (h0 : 0 ≤ b) (h1 : b ≤ 255) (h2 : 0 ≤ y) (h3 : y < 250) : IntKind.u8.wrap ((IntKind.i64.wrap (IntKind.i64.wrap (IntKind.i64.wrap b + 1) + y)).tmod 256) = (b + 1 + y) % 256 := by
  have e1 : IntKind.i64.wrap b = b := by rw [IntKind.wrap_i64]; omega
  have e2 : IntKind.i64.wrap (b + 1) = b + 1 := by rw [IntKind.wrap_i64]; omega
  have e3 : IntKind.i64.wrap (b + 1 + y) = b + 1 + y := by rw [IntKind.wrap_i64]; omega
  rw [e1, e2, e3, Int.tmod_eq_emod_of_nonneg (by omega), IntKind.wrap_u8]
  omega
set_option maxRecDepth 100000 in
set_option maxHeartbeats 4000000 in
theorem seals_small (a : Option Addr) (len cap : Nat) (zs : List Int) (g : Nat) (w : World) (hl : len ≤ 4096) (hr : Rd w g a len zs) :
    Calls Try.prog 3 #[.slice a len cap] w fun e w' => e = .returned (.bool true) ∧ Below w.heap.size w w' := by
  have hl' : decide (4096 < (len : Int)) = false := by simp; omega
  have HR : Hid (Rd w w.heap.size a len zs) := hr.up (Below.refl _ _) (Nat.le_refl _)
  clear hr
  have up : ∀ {W : World}, Below w.heap.size w W → Rd W W.heap.size a len zs := fun hb => HR.out.up hb hb.size
  go_enter Try.func3, Try.ntmps3
  go_upto_region 9 with (first
    | (go_at_call 7; refine (big_any _ _ _ _).mono ?_; rintro e w1 ⟨rfl, rfl⟩)
    | (go_at_call 8; refine (drawChain_any _ _ _ _ _ _ hl (up (Below.refl _ _))).mono ?_; rintro e w1 ⟨key, q, n, c, L, rfl, HL, hS1⟩; obtain ⟨vc, hvc⟩ : ∃ v, Hid (chI key L = v) := ⟨_, rfl⟩)
    | (go_at_call 9; refine (iChain_v hvc (OwG.sl (hS1.mem (K := kT) (v := .slice (some ⟨q, 0, none⟩) n c) (L := L) (by simp))) HL).mono ?_; rintro e w2 ⟨rfl, hb2⟩; have hS2 := hS1.step hb2)
    | (go_at_call 10; refine (drawLonger_any _ _ _ _ _ _ hl (up hS2.bel)).mono ?_; rintro e w3 ⟨tag, text, rfl, htx, hb3⟩; have hS3 := hS2.step hb3; obtain ⟨vl, hvl⟩ : ∃ v, Hid (lnI tag text = v) := ⟨_, rfl⟩)
    | (go_at_call 11; refine (iLonger_v hvl htx).mono ?_; rintro e w4 ⟨rfl, hb4⟩; have hS4 := hS3.step hb4)
    | (go_at_call 12; refine (drawSeal_any _ _ _ _ _ _ hl (up hS4.bel)).mono ?_; rintro e w5 ⟨ky, s, rfl, hs, hb5⟩; have hS5 := hS4.step hb5; obtain ⟨vs, hvs⟩ : ∃ v, Hid (slI ky s = v) := ⟨_, rfl⟩)
    | (go_at_call 13; refine (iSeal_v hvs hs).mono ?_; rintro e w6 ⟨rfl, hb6⟩; have hS6 := hS5.step hb6))
  clear hS1 hS2 hS3 hS4 hS5 hb2 hb3 hb4 hb5 hb6
  go_upto_region 11 with (first
    | (go_at_call 14; refine (sChain_v hvc (OwG.sl (hS6.mem (K := kT) (v := .slice (some ⟨q, 0, none⟩) n c) (L := L) (by simp))) HL).mono ?_; rintro e w7 ⟨rfl, hw7⟩; obtain rfl := hw7.symm)
    | (go_at_call 15; refine (sLonger_v hvl htx).mono ?_; rintro e w7 ⟨rfl, hw7⟩; obtain rfl := hw7.symm)
    | (go_at_call 16; refine (sSeal_v hvs hs).mono ?_; rintro e w7 ⟨rfl, hw7⟩; obtain rfl := hw7.symm))
  go_cut [84] from 59 (fun b wx => b = .bool false ∧ Below w.heap.size w wx)
  case first =>
    clear up HR
    have hb6 := hS6.bel
    by_cases h1 : 0 ≤ vc
    · by_cases h2 : (n : Int) < 10
      · by_cases h3 : (text.size : Int) ≤ 200
        · obtain ⟨v2, hv2⟩ : ∃ v, Hid (lnI vc text = v) := ⟨_, rfl⟩
          have hv3 : Hid (chI key (L ++ [text]) = v2) := by
            have h0 := hvc.out
            show _ = _
            rw [chI_more (by rw [h0]; exact h1) (by have := HL.out.1; omega), h0]; exact hv2.out
          have HL2 : Hid ((L ++ [text]).length = n + 1 ∧ n + 1 ≤ 11 ∧ ∀ s ∈ L ++ [text], s.size ≤ 201) := ⟨by rw [List.length_append, HL.out.1]; rfl, by omega, fun s hs => by
            rcases List.mem_append.mp hs with h | h
            · exact HL.out.2.2 s h
            · simp at h; subst h; exact htx⟩
          have HLn : Hid (L.length = n) := HL.out.1
          have hsm : Hid (n ≤ 11) := HL.out.2.1
          clear hvc hvl hvs hs HL
          go_wp2_with (first
            | (go_at_call 11; refine (iLonger_v hv2 htx).mono ?_; rintro e w7 ⟨rfl, hb7⟩; have hS7 := hS6.step hb7; have hS8 := hS7.lit kT [] 0 rfl (by decide) #[] rfl; have hm8 := (hS8.mem (K := kT) (v := .slice (some ⟨q, 0, none⟩) n c) (L := L) (by simp)); have hm0 : True := trivial)
            | (at_builtin; clear hm0; refine wpList_sgapp0W appT rfl _ _ rfl (A := []) hS8 (Below.refl _ _) HLn.out rfl ⟨q, 0, none⟩ c rfl (cs_src (OwG.cs hm8)) (oneT _) (.inr (by simp)) (by have := hsm.out; omega) ?_; intro g9 c9 w9 hS9 _ _; have hS10 := hS9.step (below_alloc1 w9 (.cells #[.string text] 9)); have hm1 : True := trivial)
            | (at_builtin; clear hm1; refine wpList_sgappW appT rfl _ _ rfl (A := []) (B := [text]) (m := 1) hS10 (Below.refl _ _) HLn.out rfl rfl ⟨w9.heap.size, 0, none⟩ 1 rfl (fun j u hj => cell1_at (a := .string text) rfl j u hj) (oneT _) (.inl (by decide)) (by have := hsm.out; omega) ?_; intro g11 c11 w11 hS11 _ _)
            | (go_at_call 9; refine (iChain_v hv3 (OwG.sl (hS11.mem (K := kT) (v := .slice (some ⟨g11, 0, none⟩) (n + 1) c11) (L := L ++ [text]) (by simp))) HL2).mono ?_; rintro e w12 ⟨rfl, hb12⟩))
          go_meet
          exact ⟨rfl, bstep hS11.bel hb12 (Nat.le_refl _)⟩
        · go_wp2
          go_meet
          exact ⟨rfl, hb6⟩
      · go_wp2
        go_meet
        exact ⟨rfl, hb6⟩
    · go_wp2
      go_meet
      exact ⟨rfl, hb6⟩
  case rest =>
    obtain ⟨rfl, hb7⟩ := hcut
    clear hS6 hvc hvl htx HL
    by_cases hneg : vs < 0
    · go_wp2
      go_ret
      exact ⟨rfl, hb7⟩
    by_cases hz0 : (s.size : Int) = 0
    · go_wp2
      go_ret
      exact ⟨rfl, hb7⟩
    have hz0' : ((s.size : Int) == 0) = false := beq_eq_false_iff_ne.mpr hz0
    have hspos : 0 < s.size := by omega
    go_upto_region 16 with (go_at_call 17; refine (pick_any _ _ _ _ _ _ _ _ hl (up hb7) (by decide) (by decide) (by omega)).mono ?_; rintro e w8 ⟨x8, rfl, hx80, hx81, rfl⟩)
    obtain ⟨m, rfl⟩ : ∃ m : Nat, x8 = m := ⟨x8.toNat, by omega⟩
    have hms : m < s.size := by omega
    have hcv := run_bytes_of_string (P := Try.prog) wc 9 22 5 s Try.underlying9 Try.underlying22 Try.underlying5
    generalize grownCap wc s.size 0 5 = cp at hcv
    have hcl : ∀ j, j < s.size → (wc.alloc (.cells (bytesRow s cp) 5 ((bytesRow s cp).size, (bytesRow s cp).size + 1))).drew.cell? ⟨wc.heap.size, j, none⟩ = some (.int .u8 (bt s j)) := fun j hj => by
      have e := World.cell?_alloc_mark wc (bytesRow s cp) 5 ((bytesRow s cp).size, (bytesRow s cp).size + 1) j
      rw [bytesRow_at s cp j hj] at e
      rw [bt_at hj, World.cell?_drew]; exact e
    have hfz : (wc.alloc (.cells (bytesRow s cp) 5 ((bytesRow s cp).size, (bytesRow s cp).size + 1))).drew.frozen? ⟨wc.heap.size, m, none⟩ = false := by
      have e := World.frozen?_alloc_mark wc (bytesRow s cp) 5 (bytesRow s cp).size ((bytesRow s cp).size + 1) m
      have hlt : m < (bytesRow s cp).size := by simp [bytesRow]; have h : m < s.data.size := hms; omega
      rw [show (decide ((bytesRow s cp).size ≤ m) && decide (m < (bytesRow s cp).size + 1)) = false by simp; omega] at e
      rw [World.frozen?_drew]; exact e
    have hb9 : Below w.heap.size w (wc.alloc (.cells (bytesRow s cp) 5 ((bytesRow s cp).size, (bytesRow s cp).size + 1))).drew := (hb7.alloc hb7.size _).drew
    go_upto_region 17 with fail
    clear hcv
    generalize (wc.alloc (.cells (bytesRow s cp) 5 ((bytesRow s cp).size, (bytesRow s cp).size + 1))).drew = W9 at hcl hfz hb9 ⊢
    have hgb : w.heap.size ≤ wc.heap.size := hb7.size
    generalize wc.heap.size = gb at hcl hfz hgb ⊢
    clear hb7
    go_cut [] from 98 (fun wx => Below w.heap.size w wx ∧ ∃ z : Int, 0 ≤ z ∧ z ≤ 255 ∧ z ≠ bt s m ∧ ∀ j, j < s.size → wx.cell? ⟨gb, j, none⟩ = some (.int .u8 (if j = m then z else bt s j)))
    case first =>
      have hc0 := hcl m hms
      have hbb := bt_bd s m
      have HCL : Hid (∀ j, j < s.size → W9.cell? ⟨gb, j, none⟩ = some (.int .u8 (bt s j))) := hcl
      clear hcl
      have hgoal : ∀ y : Int, 0 ≤ y → y < 250 → ∀ W, W.heap = W9.heap → Below w.heap.size w W → Below w.heap.size w (W.setCell ⟨gb, m, none⟩ (.int .u8 ((bt s m + 1 + y) % 256))) ∧ ∃ z : Int, 0 ≤ z ∧ z ≤ 255 ∧ z ≠ bt s m ∧ ∀ j, j < s.size → (W.setCell ⟨gb, m, none⟩ (.int .u8 ((bt s m + 1 + y) % 256))).cell? ⟨gb, j, none⟩ = some (.int .u8 (if j = m then z else bt s j)) := by
        intro y hy0 hy1 W hW hbW
        have hcW : ∀ j, j < s.size → W.cell? ⟨gb, j, none⟩ = some (.int .u8 (bt s j)) := fun j hj => by
          have e : W.cell? ⟨gb, j, none⟩ = W9.cell? ⟨gb, j, none⟩ := World.cell?_of_block (by rw [hW])
          rw [e]; exact HCL.out j hj
        refine ⟨hbW.setCell (p := ⟨gb, m, none⟩) hgb _, (bt s m + 1 + y) % 256, Int.emod_nonneg _ (by decide), Int.le_of_lt_add_one (Int.emod_lt_of_pos _ (by decide)), by omega, fun j hj => ?_⟩
        by_cases e : j = m
        · subst e
          rw [if_pos rfl]
          exact World.cell?_setCell_same _ _ _ (hcW j hj)
        · rw [if_neg e, World.cell?_setCell_other _ _ _ _ (fun h => e (by injection h with _ h; exact h.symm))]
          exact hcW j hj
      have HG : Hid (∀ y : Int, 0 ≤ y → y < 250 → ∀ W, W.heap = W9.heap → Below w.heap.size w W → Below w.heap.size w (W.setCell ⟨gb, m, none⟩ (.int .u8 ((bt s m + 1 + y) % 256))) ∧ ∃ z : Int, 0 ≤ z ∧ z ≤ 255 ∧ z ≠ bt s m ∧ ∀ j, j < s.size → (W.setCell ⟨gb, m, none⟩ (.int .u8 ((bt s m + 1 + y) % 256))).cell? ⟨gb, j, none⟩ = some (.int .u8 (if j = m then z else bt s j))) := hgoal
      clear hgoal HCL
      generalize hB : bt s m = b0 at hc0 hbb HG
      obtain ⟨hbb0, hbb1⟩ := hbb
      have HB : Hid (bt s m = b0) := hB
      clear hB
      go_region_with (go_at_call 17; refine (pick_any _ _ _ _ _ _ _ _ hl (up hb9.drew) (by decide) (by decide) (by omega)).mono ?_; rintro e w10 ⟨y, rfl, hy0, hy1, rfl⟩)
      all_goals
        go_wp2
        go_meet
        have hq := HG.out y hy0 hy1 W9 rfl hb9
        rw [wrp hbb0 hbb1 hy0 hy1]
        obtain ⟨z, z1, z2, z3, z4⟩ := hq.2
        exact ⟨hq.1.drew, z, z1, z2, by rw [HB.out]; exact z3, z4⟩
    case rest =>
      rename World => wc_1
      obtain ⟨hb10, z, hz0, hz1, hzne, hcz⟩ := hcut
      have hcv := run_convert_bytes_arg (P := Try.prog) wc_1 22 5 Try.underlying22 Try.underlying5 gb 0 s.size cp (ch s m z) (ch_len s m z) (fun i hi => by rw [Nat.zero_add, ch_get hi]; exact hcz i hi) 9 Try.underlying9
      have hne1 := ch_ne hvs (by omega) hms ⟨hz0, hz1⟩ hzne
      have ht : (strOfNums (ch s m z)).size ≤ 201 := by rw [strOfNums_size, ch_len]; exact hs
      have hin : 0 ≤ ky ∧ ky ≤ 2147483646 := by
        have h0 := hvs.out
        unfold slI at h0
        by_cases hv : inB ky = true
        · exact inB_t.mp hv
        · rw [if_neg hv] at h0; omega
      have hne2 : ky ≠ 2147483646 → ¬ slI (ky + 1) s = vs := fun h => by
        have h0 := hvs.out
        have := slI_next (a := ky) (s := s) (by rw [h0]; omega) h
        rwa [h0] at this
      obtain ⟨v1, hv1⟩ : ∃ v, Hid (slI ky (strOfNums (ch s m z)) = v) := ⟨_, rfl⟩
      have hne1'' : ¬ v1 = vs := by rw [← hv1.out]; exact hne1
      generalize strOfNums (ch s m z) = t at hcv ht hv1
      clear hne1 hcz hvs
      by_cases hk : ky = 2147483646
      · have hk' : (ky == 2147483646) = true := beq_iff_eq.mpr hk
        clear hk hne2
        go_wp2_with (go_at_call 13; refine (iSeal_v hv1 ht).mono ?_; rintro e w11 ⟨rfl, hb11⟩)
        go_ret
        exact ⟨ret_bool (by simp [hne1'']), bstep hb10 hb11 (Nat.le_refl _)⟩
      · have hk' : (ky == 2147483646) = false := beq_eq_false_iff_ne.mpr hk
        obtain ⟨v2, hv2⟩ : ∃ v, Hid (slI (ky + 1) s = v) := ⟨_, rfl⟩
        have hne2' : ¬ v2 = vs := by rw [← hv2.out]; exact hne2 hk
        clear hne2 hk
        have hm0 : True := trivial
        go_wp2_with (first
          | (go_at_call 13; clear hm0; refine (iSeal_v hv1 ht).mono ?_; rintro e w11 ⟨rfl, hb11⟩; have hm1 : True := trivial)
          | (go_at_call 13; clear hm1; refine (iSeal_v hv2 hs).mono ?_; rintro e w12 ⟨rfl, hb12⟩))
        go_ret
        exact ⟨ret_bool (by simp [hne1'', hne2']), bstep (bstep hb10 hb11 (Nat.le_refl _)) hb12 (Nat.le_refl _)⟩
end Go.Proofs.Ytmphjakdmknkhaa
