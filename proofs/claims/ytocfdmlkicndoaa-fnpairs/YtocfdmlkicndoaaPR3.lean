/-
  The law of pairs, walked.
-/
import Derived.Test.YtocfdmlkicndoaaPR1
import Derived.Test.YtocfdmlkicndoaaPR2
import Derived.Test.YtocfdmlkicndoaaSP4
import Derived.Test.YtocfdmlkicndoaaSP6
namespace Go.Proofs.Ytocfdmlkicndoaa
open Go.RowKit Go.Joins
attribute [local go_sem ↓] Go.wp_at_zero Go.wp_at_succ

theorem Sl1.cell {w : World} {g off k : Nat} {l : List Int} (h : Sl1 w (some ⟨g, off, none⟩) l) (hk : k < l.length) : w.cell? ⟨g, off + k, none⟩ = some (.int .i64 (l.getD k 0)) := by
  obtain ⟨g', off', e, hC⟩ := h.at hk
  injection e with e; injection e with e1 e2
  subst e1 e2
  exact hC.2 k _ (getI_some hk)
theorem Ow1.lt4 {W : World} {base g off n cap : Nat} {l : List Int} (h : Ow1 W base (.slice (some ⟨g, off, none⟩) n cap) l) : g < W.heap.size := (World.ownsRow.lt h g rfl).2
theorem iApart_v {x y : T2} {v : Int} (hv : apT x y = v) (w : World) : Calls Try.prog 20 #[.agg #[.int .i64 x.x, .int .i64 x.y], .agg #[.int .i64 y.x, .int .i64 y.y]] w fun e w' => e = .returned (.int .i64 v) ∧ Below w.heap.size w w' := by
  subst hv; exact iApart_any _ _ _ _ w
set_option maxRecDepth 100000 in
set_option maxHeartbeats 8000000 in
theorem pairs_small (a0 : Option Addr) (len cap : Nat) (zs : List Int) (w : World) (hl : len ≤ 4096) (hr : Rd w w.heap.size a0 len zs) :
    Calls Try.prog 3 #[.slice a0 len cap] w fun e w' => e = .returned (.bool true) ∧ Below w.heap.size w w' := by
  have hl' : decide (4096 < (len : Int)) = false := by simp; omega
  have hx := Sg.nil w
  go_enter Try.func3, Try.ntmps3
  go_upto_region 4 with (first
    | (go_at_call 8; refine (big_any _ _ _ _).mono ?_; rintro e w1 ⟨rfl, rfl⟩)
    | (go_at_call 9; refine (drawNearest_any a0 len cap zs _ hl hr).mono ?_; rintro e w1 ⟨q, cap', L, rfl, hO, hb, hLl⟩; replace hx := hx.add (r := rS _ L) hO hb; clear hO hb))
  obtain ⟨v, hv⟩ : ∃ v, neT L = v := ⟨_, rfl⟩
  obtain ⟨f, hf⟩ : ∃ f, faI L = f := ⟨_, rfl⟩
  obtain ⟨sp, hsp⟩ : ∃ sp, spL L = sp := ⟨_, rfl⟩
  have HV : Hid (neT L = v) := hv
  have HF : Hid (faI L = f) := hf
  have HSP : Hid (spL L = sp) := hsp
  have hspl : sp.length ≤ 40 := by rw [← hsp]; exact spL_len40 L
  clear hv hf hsp
  go_upto_region 8 with (first
    | (go_at_call 10; refine (iNearest_any _ _ _ _ (Ow.sl (rw_s hx.o0)) (Ow.cap (rw_s hx.o0)) (by omega) HV.out).mono ?_; rintro e w2 ⟨rfl, hb2⟩; replace hx := hx.step hb2; clear hb2)
    | (go_at_call 11; refine (iFarthest_any _ _ _ _ (Ow.sl (rw_s hx.o0)) (Ow.cap (rw_s hx.o0)) (by omega) HF.out).mono ?_; rintro e w2 ⟨rfl, hb2⟩; replace hx := hx.step hb2; clear hb2)
    | (go_at_call 12; refine (iSpread_any _ _ _ _ (Ow.sl (rw_s hx.o0)) (Ow.cap (rw_s hx.o0)) (by omega) HSP.out).mono ?_; rintro e w2 ⟨p4, cap4, rfl, hO, hb2⟩; replace hx := hx.add (r := r1 _ sp) hO hb2; clear hb2 hO)
    | (go_at_call 13; refine (drawClose_any a0 len cap zs _ hl (hr.up hx.bel hx.bel.size)).mono ?_; rintro e w2 ⟨qk, capk, K, mo, rfl, hO, hb2, hKl⟩; replace hx := hx.add (r := rS _ K) hO hb2; clear hb2 hO))
  obtain ⟨cv, hcv⟩ : ∃ cv, clI K mo = cv := ⟨_, rfl⟩
  have HCV : Hid (clI K mo = cv) := hcv
  clear hcv
  go_upto_region 12 with (first
    | (go_at_call 14; refine (iClose_any _ _ _ _ _ (Ow.sl (rw_s hx.o0)) (Ow.cap (rw_s hx.o0)) (by omega) HCV.out).mono ?_; rintro e w2 ⟨rfl, hb2⟩; replace hx := hx.step hb2; clear hb2)
    | (go_at_call 15; refine (sNearest_any _ _ _ _ (Ow.sl (rw_s hx.o2)) (by omega) HV.out).mono ?_; rintro e w2 ⟨rfl, hb2⟩; replace hx := hx.step hb2; clear hb2)
    | (go_at_call 16; refine (sFarthest_any _ _ _ _ (Ow.sl (rw_s hx.o2)) (by omega) HF.out).mono ?_; rintro e w2 ⟨rfl, hb2⟩; replace hx := hx.step hb2; clear hb2)
    | (go_at_call 18; refine (sSpread_any _ _ _ _ (Ow.sl (rw_s hx.o2)) (by omega) HSP.out).mono ?_; rintro e w2 ⟨p5, cap5, rfl, hO5, hb2⟩; replace hx := hx.step hb2; clear hb2)
    | (go_at_call 17; refine (likeInts_same _ _ _ _ sp _ (Ow1.sl (rw_i hx.o1)) (Ow1.sl hO5) (by omega)).mono ?_; rintro e w2 ⟨rfl, hb2⟩; replace hx := hx.step hb2; clear hb2 hO5)
    | (go_at_call 19; refine (sClose_any _ _ _ _ _ (Ow.sl (rw_s hx.o0)) (by omega) HCV.out).mono ?_; rintro e w2 ⟨rfl, hb2⟩; replace hx := hx.step hb2; clear hb2))
  replace hx := hx.d0
  cases hs : hpr L
  · have e1 : v = ⟨-1, 0, 0⟩ := by rw [← HV.out]; simp [neT, hs]
    have e2 : f = -1 := by rw [← HF.out]; simp [faI, hs]
    have e3 : sp = [] := by rw [← HSP.out]; simp [spL, hs]
    subst e1 e2 e3
    clear HV HF HSP
    go_wp2
    go_ret
    exact ⟨rfl, hx.bel⟩
  obtain ⟨hok, hl2⟩ := hpr_ok hs
  obtain ⟨a, b, hab, hbL, he⟩ := ne_is hs
  have hve : v = ⟨apT (L.getD a zro) (L.getD b zro), a, b⟩ := HV.out.symm.trans he
  have h40 := okS_len hok
  have hd0 := apNN_of hok a b (by omega) hbL
  have hdm := apBD_of hok (show a < L.length by omega) hbL
  have HDab : Hid (∀ d, v.a = d → apT (L.getD a zro) (L.getD b zro) = d) := fun d hd => by rw [hve] at hd; exact hd
  have HPL : Hid (∀ i k, i < L.length → k < L.length → i ≠ k → v.a ≤ apT (L.getD i zro) (L.getD k zro) ∧ apT (L.getD i zro) (L.getD k zro) ≤ f) := fun i k hi hk hne => by rw [← HV.out, ← HF.out]; exact pair_le hs hi hk hne
  have HSA : Hid (∀ i, i < L.length → ∀ k, k < L.length → k ≠ i → sp.getD i 0 ≤ apT (L.getD i zro) (L.getD k zro)) := fun i hi k hk hne => by rw [← HSP.out]; exact (sp_at hs hi).2 k hk hne
  have HSL : Hid (sp.length = L.length) := by unfold Hid; rw [← HSP.out]; exact spL_len2 hs
  have HLD : Hid (∀ m, LInv sp L.length m → m = v.a) := fun m hm => by rw [← HV.out]; rw [← HSP.out] at hm; exact LInv.done hs hm
  have HLN : Hid (∀ i m, i ≤ L.length → LInv sp i m → (m = -1 ∧ i = 0) ∨ (0 ≤ m ∧ i ≠ 0)) := fun i m hi hm => by rw [← HSP.out] at hm; exact LInv.nn hs hi hm
  have HCL : Hid (0 < v.a → clI L (v.a - 1) = 0) := fun hd => by rw [← HV.out] at hd ⊢; exact cl_less hs hd
  have HC1 : Hid (1 ≤ clI L v.a) := by unfold Hid; rw [← HV.out]; exact cl_one hs
  have HCA : Hid (clI L f = ((L.length : Int) * ((L.length : Int) - 1)).tdiv 2) := by unfold Hid; rw [← HF.out]; exact cl_all hs
  have HFH : Hid (((hulT L).length < 2 → f = 0) ∧ (2 ≤ (hulT L).length → faI (hulT L) = f)) := by unfold Hid; rw [← HF.out]; exact far_hull hs
  have hvi : v.i = (a : Int) := by rw [hve]
  have hvj : v.j = (b : Int) := by rw [hve]
  have hva0 : 0 ≤ v.a := by rw [hve]; exact hd0
  have hvam : v.a ≤ 130050 := by rw [hve]; exact hdm
  have hfm : f ≤ 130050 := by rw [← HF.out]; obtain ⟨i, k, hi, hk, e⟩ := fa_at hs; rw [e]; exact apBD_of hok (by omega) hk
  have hf0 : 0 ≤ f := by rw [← HF.out]; obtain ⟨i, k, hi, hk, e⟩ := fa_at hs; rw [e]; exact apNN_of hok i k (by omega) hk
  clear hve he hd0 hdm HV HF HSP
  obtain ⟨d, A, B⟩ := v
  simp only at hvi hvj hva0 hvam HDab HPL HLD HCL HC1 ⊢
  subst hvi hvj
  have hdn : ¬ d < 0 := by omega
  obtain ⟨g4, off4, rfl, _⟩ := (Ow1.sl (rw_i hx.o0)).at (k := 0) (by have := HSL.out; omega)
  go_wp2
  go_loopw [15, 16] (fun mv iv wr => ∃ (i : Nat) (m : Int), i ≤ L.length ∧ iv = .int .i64 i ∧ mv = .int .i64 m ∧ LInv sp i m ∧ Sg w wr [r1 (.slice (some ⟨g4, off4, none⟩) sp.length cap4) sp, rS (.slice (some ⟨q, 0, none⟩) L.length cap') L]) (fun _ iv _ => L.length - (intOf iv).toNat)
  case atStart => exact ⟨0, -1, by omega, rfl, rfl, LInv.start sp, hx⟩
  case round =>
    rename World => wo
    obtain ⟨i, m, hi, rfl, rfl, hI, hxo⟩ := hrel
    by_cases hlt : i < L.length
    · have hii : (i : Int) < L.length := by omega
      have hisp : (i : Int) < sp.length := by have := HSL.out; omega
      have ci := Sl1.cell (Ow1.sl (rw_i hxo.o0)) (k := i) (by omega)
      have hT := hI.take
      have hS := hI.skip
      have hnn := HLN.out i m hi hI
      obtain ⟨xi, hxi⟩ : ∃ xi, sp.getD i 0 = xi := ⟨_, rfl⟩
      rw [hxi] at ci hT hS
      have HX : Hid (sp.getD i 0 = xi) := hxi
      clear hxi hI
      obtain ⟨m', hm', hcase⟩ : ∃ m', Hid (LInv sp (i + 1) m') ∧ ((m = -1 ∧ m' = xi) ∨ (¬ m < 0 ∧ ((xi < m ∧ m' = xi) ∨ (¬ xi < m ∧ m' = m)))) := by
        rcases hnn with ⟨e1, e2⟩ | ⟨e1, e2⟩
        · exact ⟨xi, hT (.inl e2), .inl ⟨e1, rfl⟩⟩
        · by_cases hc : xi < m
          · exact ⟨xi, hT (.inr hc), .inr ⟨by omega, .inl ⟨hc, rfl⟩⟩⟩
          · exact ⟨m, hS e2 (by omega), .inr ⟨by omega, .inr ⟨hc, rfl⟩⟩⟩
      clear hT hS hnn
      rcases hcase with ⟨rfl, rfl⟩ | ⟨hm0, ⟨hc, rfl⟩ | ⟨hc, rfl⟩⟩
      all_goals
        go_wp2
        go_loopw [17] (fun jv wr => ∃ j : Nat, j ≤ i ∧ jv = .int .i64 j ∧ Sg w wr [r1 (.slice (some ⟨g4, off4, none⟩) sp.length cap4) sp, rS (.slice (some ⟨q, 0, none⟩) L.length cap') L]) (fun jv _ => i - (intOf jv).toNat)
        case atStart => exact ⟨0, by omega, rfl, hxo⟩
        case round =>
          obtain ⟨j, hj, rfl, hxr⟩ := hrel
          by_cases hlt2 : j < i
          · have hji : (j : Int) < i := by omega
            have hjL : (j : Int) < L.length := by omega
            have hjsp : (j : Int) < sp.length := by omega
            have hcs := Ow.cs (rw_s hxr.o1)
            obtain ⟨x0, x1⟩ := hcs.2 i _ (getS_some hlt)
            obtain ⟨y0, y1⟩ := hcs.2 j _ (getS_some (show j < L.length by omega))
            have hP := HPL.out i j hlt (by omega) (by omega)
            have s1 := HSA.out i hlt j (by omega) (by omega)
            have s2 := HSA.out j (by omega) i hlt (by omega)
            rw [apT_symm] at s2
            have cj := Sl1.cell (Ow1.sl (rw_i hxr.o0)) (k := j) (by omega)
            have ci2 := Sl1.cell (Ow1.sl (rw_i hxr.o0)) (k := i) (by omega)
            rw [HX.out] at s1 ci2
            generalize sp.getD j 0 = xj at s2 cj
            generalize hap : apT (L.getD i zro) (L.getD j zro) = ap at hP s1 s2
            generalize L.getD i zro = x at x0 x1 hap
            generalize L.getD j zro = y at y0 y1 hap
            simp only [Nat.zero_add] at x0 x1 y0 y1
            have HAP : Hid (apT x y = ap) := hap
            have n1 : ¬ ap < d := by omega
            have n2 : ¬ f < ap := by omega
            have n3 : ¬ ap < _ := Int.not_lt.mpr s1
            have n4 : ¬ ap < xj := by omega
            clear hap hP s1 s2 ci
            go_wp2
            go_region_with (go_at_call 20; refine (iApart_v HAP.out _).mono ?_; rintro e w2 ⟨rfl, hb3⟩; have ci3 := (hb3.cell (p := ⟨g4, off4 + i, none⟩) (Ow1.lt4 (rw_i hxr.o0))).trans ci2; have cj3 := (hb3.cell (p := ⟨g4, off4 + j, none⟩) (Ow1.lt4 (rw_i hxr.o0))).trans cj)
            all_goals
              go_wp2
              go_roundw
              case rel => exact ⟨j + 1, by omega, by go_num, (hxr.step (Below.refl _ _).drew).step hb3⟩
              case measure => simp [intOf]; omega
          · obtain rfl : j = i := by omega
            go_wp2
            refine ⟨⟨j + 1, _, by omega, by go_num, rfl, hm'.out, hxr⟩, by simp [intOf]; omega⟩
    · obtain rfl : i = L.length := by omega
      have hmd := (HLD.out m hI).symm
      subst hmd
      clear hI hx HPL HSA HLD HLN
      obtain ⟨H, hH⟩ : ∃ H, hulT L = H := ⟨_, rfl⟩
      have HH : Hid (hulT L = H) := hH
      have hHL : H.length ≤ 40 := by rw [← hH]; exact okS_len (hul_ok hok)
      clear hH
      go_upto_region 27 with (go_at_call 21; refine (iHull_v HH.out _ _ (by omega) _ (Ow.sl (rw_s hxo.o1))).mono ?_; rintro e w3 ⟨qh, caph, rfl, hOh, hbh⟩; have hx3 := hxo.add (r := rS _ H) hOh hbh; clear hOh hbh)
      clear hxo
      obtain ⟨xa, hxa⟩ : ∃ x, L.getD a zro = x := ⟨_, rfl⟩
      obtain ⟨xb, hxb⟩ : ∃ x, L.getD b zro = x := ⟨_, rfl⟩
      have HAB : Hid (apT xa xb = d) := by have := HDab.out d rfl; rw [hxa, hxb] at this; exact this
      have hS : ∀ w', Sg w w' [rS (.slice qh H.length caph) H, r1 (.slice (some ⟨g4, off4, none⟩) sp.length cap4) sp, rS (.slice (some ⟨q, 0, none⟩) L.length cap') L] → ((w'.cell? ⟨q, a * 2, none⟩ = some (.int .i64 xa.x) ∧ w'.cell? ⟨q, a * 2 + 1, none⟩ = some (.int .i64 xa.y)) ∧ (w'.cell? ⟨q, b * 2, none⟩ = some (.int .i64 xb.x) ∧ w'.cell? ⟨q, b * 2 + 1, none⟩ = some (.int .i64 xb.y))) := by
        intro w' h
        have hcs := Ow.cs (rw_s h.o2)
        have k1 := hcs.2 a _ (getS_some (show a < L.length by omega))
        have k2 := hcs.2 b _ (getS_some hbL)
        rw [hxa] at k1
        rw [hxb] at k2
        simp only [Nat.zero_add] at k1 k2
        exact ⟨k1, k2⟩
      clear hxa hxb HDab
      have hab1 : ¬ (b : Int) ≤ (a : Int) := by omega
      have haL : (a : Int) < L.length := by omega
      have ha0 : (0 : Int) ≤ (a : Int) := by omega
      have hbLi : (b : Int) < L.length := by omega
      have hb0 : (0 : Int) ≤ (b : Int) := by omega
      obtain ⟨c1, hc1e⟩ : ∃ c, clI L d = c := ⟨_, rfl⟩
      obtain ⟨c2, hc2e⟩ : ∃ c, clI L f = c := ⟨_, rfl⟩
      obtain ⟨n1, hn1⟩ : ∃ n, (L.length : Int) - 1 = n := ⟨_, rfl⟩
      obtain ⟨n2, hn2⟩ : ∃ n, (L.length : Int) * n1 = n := ⟨_, rfl⟩
      have hc1 : ¬ c1 < 1 := by have := HC1.out; rw [hc1e] at this; omega
      have h2e : n2.tdiv 2 = c2 := by rw [← hn2, ← hn1, ← hc2e]; exact HCA.out.symm
      have hn2b : 0 ≤ n2 ∧ n2 ≤ 1600 := by
        rw [← hn2]
        exact ⟨Int.mul_nonneg (by omega) (by omega), Int.le_trans (Int.mul_le_mul (show (L.length : Int) ≤ 40 by omega) (show n1 ≤ 40 by omega) (by omega) (by decide)) (by decide)⟩
      have hc2b : 0 ≤ c2 ∧ c2 ≤ 1600 := by rw [← h2e, Int.tdiv_eq_ediv_of_nonneg hn2b.1]; omega
      have hw1 : IntKind.i64.wrap ((L.length : Int) - 1) = n1 := by rw [IntKind.wrap_i64]; omega
      have hw2 : IntKind.i64.wrap ((L.length : Int) * n1) = n2 := by rw [hn2, IntKind.wrap_i64]; omega
      have hw3 : IntKind.i64.wrap c2 = c2 := by rw [IntKind.wrap_i64]; omega
      have hw4 := h2e
      have HC1' : Hid (clI L d = c1) := hc1e
      have HC2 : Hid (clI L f = c2) := hc2e
      clear hc1e hc2e hn1 hn2 h2e hn2b hc2b HCA HC1
      have HC1 := HC1'
      clear HC1'
      obtain ⟨d1, hd1e⟩ : ∃ d1, d - 1 = d1 := ⟨_, rfl⟩
      have hw0 : IntKind.i64.wrap (d - 1) = d1 := by rw [IntKind.wrap_i64]; omega
      have HC0 : Hid (0 < d → clI L d1 = 0) := by rw [hd1e] at HCL; exact HCL
      clear hd1e HCL
      by_cases hdp : 0 < d
      · have hd1 : decide (0 < d) = true := decide_eq_true hdp
        replace HC0 : Hid (clI L d1 = 0) := HC0.out hdp
        refine wp_region_quiet (C := fun w' => Sg w w' [rS (.slice qh H.length caph) H, r1 (.slice (some ⟨g4, off4, none⟩) sp.length cap4) sp, rS (.slice (some ⟨q, 0, none⟩) L.length cap') L]) (by kernel_rfl) (by kernel_rfl) (hx3.step (Below.refl _ _).drew) ?_
        refine q_intro (fun A hA => ?_)
        have hf : Fr 219 A [(3, Value.slice (some ⟨q, 0, none⟩) L.length cap'), (4, .int .i64 d), (5, .int .i64 (a : Int)), (6, .int .i64 (b : Int)), (7, .int .i64 f), (15, .int .i64 d)] := by subst hA; exact ⟨rfl, by simp⟩
        refine q_step hf (d := 150) (v := .int .i64 (a : Int)) rfl rfl (by decide) (by simp) (fun w' hw' => ?_) (fun A hA150 hf => ?_)
        · have f5 := hf.get (d := 5) (v := .int .i64 (a : Int)) (by simp)
          clear hf
          simp [Oper.quietAt, Oper.quietUpon, go_sem, f5]
        refine q_step hf (d := 151) (v := .int .i64 (b : Int)) rfl rfl (by decide) (by simp) (fun w' hw' => ?_) (fun A hA151 hf => ?_)
        · have f6 := hf.get (d := 6) (v := .int .i64 (b : Int)) (by simp)
          clear hf
          simp [Oper.quietAt, Oper.quietUpon, go_sem, f6]
        refine q_step hf (d := 152) (v := .bool false) rfl rfl (by decide) (by simp) (fun w' hw' => ?_) (fun A hA152 hf => ?_)
        · have f150 := hf.get (d := 150) (v := .int .i64 (a : Int)) (by simp)
          have f151 := hf.get (d := 151) (v := .int .i64 (b : Int)) (by simp)
          clear hf
          simp [Oper.quietAt, Oper.quietUpon, go_sem, f150, f151, hab1]
        refine q_step hf (d := 153) (v := .bool false) rfl rfl (by decide) (by simp) (fun w' hw' => ?_) (fun A hA153 hf => ?_)
        · have f152 := hf.get (d := 152) (v := .bool false) (by simp)
          clear hf
          simp [Oper.quietAt, Oper.quietUpon, go_sem, f152]
        refine q_want hf (d := 154) (v := Value.slice (some ⟨q, 0, none⟩) L.length cap') (e := 153) rfl rfl (by simp) rfl (by decide) (by simp) (fun w' hw' => ?_) (fun A hA154 hf => ?_)
        · have f3 := hf.get (d := 3) (v := Value.slice (some ⟨q, 0, none⟩) L.length cap') (by simp)
          clear hf
          simp [Oper.quietAt, Oper.quietUpon, go_sem, f3]
        refine q_want hf (d := 155) (v := .int .i64 (a : Int)) (e := 153) rfl rfl (by simp) rfl (by decide) (by simp) (fun w' hw' => ?_) (fun A hA155 hf => ?_)
        · have f5 := hf.get (d := 5) (v := .int .i64 (a : Int)) (by simp)
          clear hf
          simp [Oper.quietAt, Oper.quietUpon, go_sem, f5]
        refine q_want hf (d := 156) (v := .pointer (some ⟨q, a * 2, none⟩)) (e := 153) rfl rfl (by simp) rfl (by decide) (by simp) (fun w' hw' => ?_) (fun A hA156 hf => ?_)
        · have f154 := hf.get (d := 154) (v := Value.slice (some ⟨q, 0, none⟩) L.length cap') (by simp)
          have f155 := hf.get (d := 155) (v := .int .i64 (a : Int)) (by simp)
          clear hf
          simp [Oper.quietAt, Oper.quietUpon, go_sem, f154, f155, haL, ha0]
        refine q_want hf (d := 157) (v := .agg #[.int .i64 xa.x, .int .i64 xa.y]) (e := 153) rfl rfl (by simp) rfl (by decide) (by simp) (fun w' hw' => ?_) (fun A hA157 hf => ?_)
        · have hc := hS _ hw'
          have f156 := hf.get (d := 156) (v := .pointer (some ⟨q, a * 2, none⟩)) (by simp)
          clear hf
          simp [Oper.quietAt, Oper.quietUpon, go_sem, f156, hc]
        refine q_want hf (d := 158) (v := Value.slice (some ⟨q, 0, none⟩) L.length cap') (e := 153) rfl rfl (by simp) rfl (by decide) (by simp) (fun w' hw' => ?_) (fun A hA158 hf => ?_)
        · have f3 := hf.get (d := 3) (v := Value.slice (some ⟨q, 0, none⟩) L.length cap') (by simp)
          clear hf
          simp [Oper.quietAt, Oper.quietUpon, go_sem, f3]
        refine q_want hf (d := 159) (v := .int .i64 (b : Int)) (e := 153) rfl rfl (by simp) rfl (by decide) (by simp) (fun w' hw' => ?_) (fun A hA159 hf => ?_)
        · have f6 := hf.get (d := 6) (v := .int .i64 (b : Int)) (by simp)
          clear hf
          simp [Oper.quietAt, Oper.quietUpon, go_sem, f6]
        refine q_want hf (d := 160) (v := .pointer (some ⟨q, b * 2, none⟩)) (e := 153) rfl rfl (by simp) rfl (by decide) (by simp) (fun w' hw' => ?_) (fun A hA160 hf => ?_)
        · have f158 := hf.get (d := 158) (v := Value.slice (some ⟨q, 0, none⟩) L.length cap') (by simp)
          have f159 := hf.get (d := 159) (v := .int .i64 (b : Int)) (by simp)
          clear hf
          simp [Oper.quietAt, Oper.quietUpon, go_sem, f158, f159, hbLi, hb0]
        refine q_want hf (d := 161) (v := .agg #[.int .i64 xb.x, .int .i64 xb.y]) (e := 153) rfl rfl (by simp) rfl (by decide) (by simp) (fun w' hw' => ?_) (fun A hA161 hf => ?_)
        · have hc := hS _ hw'
          have f160 := hf.get (d := 160) (v := .pointer (some ⟨q, b * 2, none⟩)) (by simp)
          clear hf
          simp [Oper.quietAt, Oper.quietUpon, go_sem, f160, hc]
        refine q_want hf (d := 162) (v := .int .i64 d) (e := 153) rfl rfl (by simp) rfl (by decide) (by simp) (fun w' hw' => ?_) (fun A hA162 hf => ?_)
        · have f157 := hf.get (d := 157) (v := .agg #[.int .i64 xa.x, .int .i64 xa.y]) (by simp)
          have f161 := hf.get (d := 161) (v := .agg #[.int .i64 xb.x, .int .i64 xb.y]) (by simp)
          clear hf
          simp [Oper.quietAt, Oper.quietUpon, go_sem, f157, f161]
          exact (iApart_v HAB.out _).mono (fun e w'' hq => ⟨hq.1, hw'.step hq.2⟩)
        refine q_want hf (d := 163) (v := .int .i64 d) (e := 153) rfl rfl (by simp) rfl (by decide) (by simp) (fun w' hw' => ?_) (fun A hA163 hf => ?_)
        · have f4 := hf.get (d := 4) (v := .int .i64 d) (by simp)
          clear hf
          simp [Oper.quietAt, Oper.quietUpon, go_sem, f4]
        refine q_want hf (d := 164) (v := .bool false) (e := 153) rfl rfl (by simp) rfl (by decide) (by simp) (fun w' hw' => ?_) (fun A hA164 hf => ?_)
        · have f162 := hf.get (d := 162) (v := .int .i64 d) (by simp)
          have f163 := hf.get (d := 163) (v := .int .i64 d) (by simp)
          clear hf
          simp [Oper.quietAt, Oper.quietUpon, go_sem, f162, f163]
        refine q_step hf (d := 165) (v := .bool false) rfl rfl (by decide) (by simp) (fun w' hw' => ?_) (fun A hA165 hf => ?_)
        · have f153 := hf.get (d := 153) (v := .bool false) (by simp)
          have f164 := hf.get (d := 164) (v := .bool false) (by simp)
          clear hf
          simp [Oper.quietAt, Oper.quietUpon, go_sem, f153, f164]
        refine q_step hf (d := 166) (v := .bool false) rfl rfl (by decide) (by simp) (fun w' hw' => ?_) (fun A hA166 hf => ?_)
        · have f165 := hf.get (d := 165) (v := .bool false) (by simp)
          clear hf
          simp [Oper.quietAt, Oper.quietUpon, go_sem, f165]
        refine q_want hf (d := 167) (v := .int .i64 d) (e := 166) rfl rfl (by simp) rfl (by decide) (by simp) (fun w' hw' => ?_) (fun A hA167 hf => ?_)
        · have f15 := hf.get (d := 15) (v := .int .i64 d) (by simp)
          clear hf
          simp [Oper.quietAt, Oper.quietUpon, go_sem, f15]
        refine q_want hf (d := 168) (v := .int .i64 d) (e := 166) rfl rfl (by simp) rfl (by decide) (by simp) (fun w' hw' => ?_) (fun A hA168 hf => ?_)
        · have f4 := hf.get (d := 4) (v := .int .i64 d) (by simp)
          clear hf
          simp [Oper.quietAt, Oper.quietUpon, go_sem, f4]
        refine q_want hf (d := 169) (v := .bool false) (e := 166) rfl rfl (by simp) rfl (by decide) (by simp) (fun w' hw' => ?_) (fun A hA169 hf => ?_)
        · have f167 := hf.get (d := 167) (v := .int .i64 d) (by simp)
          have f168 := hf.get (d := 168) (v := .int .i64 d) (by simp)
          clear hf
          simp [Oper.quietAt, Oper.quietUpon, go_sem, f167, f168]
        refine q_step hf (d := 170) (v := .bool false) rfl rfl (by decide) (by simp) (fun w' hw' => ?_) (fun A hA170 hf => ?_)
        · have f166 := hf.get (d := 166) (v := .bool false) (by simp)
          have f169 := hf.get (d := 169) (v := .bool false) (by simp)
          clear hf
          simp [Oper.quietAt, Oper.quietUpon, go_sem, f166, f169]
        refine q_step hf (d := 171) (v := .bool false) rfl rfl (by decide) (by simp) (fun w' hw' => ?_) (fun A hA171 hf => ?_)
        · have f170 := hf.get (d := 170) (v := .bool false) (by simp)
          clear hf
          simp [Oper.quietAt, Oper.quietUpon, go_sem, f170]
        refine q_want hf (d := 172) (v := .int .i64 d) (e := 171) rfl rfl (by simp) rfl (by decide) (by simp) (fun w' hw' => ?_) (fun A hA172 hf => ?_)
        · have f4 := hf.get (d := 4) (v := .int .i64 d) (by simp)
          clear hf
          simp [Oper.quietAt, Oper.quietUpon, go_sem, f4]
        refine q_want hf (d := 173) (v := .bool true) (e := 171) rfl rfl (by simp) rfl (by decide) (by simp) (fun w' hw' => ?_) (fun A hA173 hf => ?_)
        · have f172 := hf.get (d := 172) (v := .int .i64 d) (by simp)
          clear hf
          simp [Oper.quietAt, Oper.quietUpon, go_sem, f172, hd1]
        refine q_want hf (d := 174) (v := .bool true) (e := 171) rfl rfl (by simp) rfl (by decide) (by simp) (fun w' hw' => ?_) (fun A hA174 hf => ?_)
        · have f173 := hf.get (d := 173) (v := .bool true) (by simp)
          clear hf
          simp [Oper.quietAt, Oper.quietUpon, go_sem, f173]
        refine q_want hf (d := 175) (v := Value.slice (some ⟨q, 0, none⟩) L.length cap') (e := 174) rfl rfl (by simp) rfl (by decide) (by simp) (fun w' hw' => ?_) (fun A hA175 hf => ?_)
        · have f3 := hf.get (d := 3) (v := Value.slice (some ⟨q, 0, none⟩) L.length cap') (by simp)
          clear hf
          simp [Oper.quietAt, Oper.quietUpon, go_sem, f3]
        refine q_want hf (d := 176) (v := .int .i64 d) (e := 174) rfl rfl (by simp) rfl (by decide) (by simp) (fun w' hw' => ?_) (fun A hA176 hf => ?_)
        · have f4 := hf.get (d := 4) (v := .int .i64 d) (by simp)
          clear hf
          simp [Oper.quietAt, Oper.quietUpon, go_sem, f4]
        refine q_want hf (d := 177) (v := .int .i64 d1) (e := 174) rfl rfl (by simp) rfl (by decide) (by simp) (fun w' hw' => ?_) (fun A hA177 hf => ?_)
        · have f176 := hf.get (d := 176) (v := .int .i64 d) (by simp)
          clear hf
          simp [Oper.quietAt, Oper.quietUpon, go_sem, f176, hw0]
        refine q_want hf (d := 178) (v := .int .i64 0) (e := 174) rfl rfl (by simp) rfl (by decide) (by simp) (fun w' hw' => ?_) (fun A hA178 hf => ?_)
        · have f175 := hf.get (d := 175) (v := Value.slice (some ⟨q, 0, none⟩) L.length cap') (by simp)
          have f177 := hf.get (d := 177) (v := .int .i64 d1) (by simp)
          clear hf
          simp [Oper.quietAt, Oper.quietUpon, go_sem, f175, f177]
          exact (iClose_any _ _ _ _ _ (Ow.sl (rw_s hw'.o2)) (Ow.cap (rw_s hw'.o2)) (by omega) HC0.out).mono (fun e w'' hq => ⟨hq.1, hw'.step hq.2⟩)
        refine q_want hf (d := 179) (v := .bool false) (e := 174) rfl rfl (by simp) rfl (by decide) (by simp) (fun w' hw' => ?_) (fun A hA179 hf => ?_)
        · have f178 := hf.get (d := 178) (v := .int .i64 0) (by simp)
          clear hf
          simp [Oper.quietAt, Oper.quietUpon, go_sem, f178]
        refine q_want hf (d := 180) (v := .bool false) (e := 171) rfl rfl (by simp) rfl (by decide) (by simp) (fun w' hw' => ?_) (fun A hA180 hf => ?_)
        · have f174 := hf.get (d := 174) (v := .bool true) (by simp)
          have f179 := hf.get (d := 179) (v := .bool false) (by simp)
          clear hf
          simp [Oper.quietAt, Oper.quietUpon, go_sem, f174, f179]
        refine q_step hf (d := 181) (v := .bool false) rfl rfl (by decide) (by simp) (fun w' hw' => ?_) (fun A hA181 hf => ?_)
        · have f171 := hf.get (d := 171) (v := .bool false) (by simp)
          have f180 := hf.get (d := 180) (v := .bool false) (by simp)
          clear hf
          simp [Oper.quietAt, Oper.quietUpon, go_sem, f171, f180]
        refine q_step hf (d := 182) (v := .bool false) rfl rfl (by decide) (by simp) (fun w' hw' => ?_) (fun A hA182 hf => ?_)
        · have f181 := hf.get (d := 181) (v := .bool false) (by simp)
          clear hf
          simp [Oper.quietAt, Oper.quietUpon, go_sem, f181]
        refine q_want hf (d := 183) (v := Value.slice (some ⟨q, 0, none⟩) L.length cap') (e := 182) rfl rfl (by simp) rfl (by decide) (by simp) (fun w' hw' => ?_) (fun A hA183 hf => ?_)
        · have f3 := hf.get (d := 3) (v := Value.slice (some ⟨q, 0, none⟩) L.length cap') (by simp)
          clear hf
          simp [Oper.quietAt, Oper.quietUpon, go_sem, f3]
        refine q_want hf (d := 184) (v := .int .i64 d) (e := 182) rfl rfl (by simp) rfl (by decide) (by simp) (fun w' hw' => ?_) (fun A hA184 hf => ?_)
        · have f4 := hf.get (d := 4) (v := .int .i64 d) (by simp)
          clear hf
          simp [Oper.quietAt, Oper.quietUpon, go_sem, f4]
        refine q_want hf (d := 185) (v := .int .i64 c1) (e := 182) rfl rfl (by simp) rfl (by decide) (by simp) (fun w' hw' => ?_) (fun A hA185 hf => ?_)
        · have f183 := hf.get (d := 183) (v := Value.slice (some ⟨q, 0, none⟩) L.length cap') (by simp)
          have f184 := hf.get (d := 184) (v := .int .i64 d) (by simp)
          clear hf
          simp [Oper.quietAt, Oper.quietUpon, go_sem, f183, f184]
          exact (iClose_any _ _ _ _ _ (Ow.sl (rw_s hw'.o2)) (Ow.cap (rw_s hw'.o2)) (by omega) HC1.out).mono (fun e w'' hq => ⟨hq.1, hw'.step hq.2⟩)
        refine q_want hf (d := 186) (v := .bool false) (e := 182) rfl rfl (by simp) rfl (by decide) (by simp) (fun w' hw' => ?_) (fun A hA186 hf => ?_)
        · have f185 := hf.get (d := 185) (v := .int .i64 c1) (by simp)
          clear hf
          simp [Oper.quietAt, Oper.quietUpon, go_sem, f185, hc1]
        refine q_step hf (d := 187) (v := .bool false) rfl rfl (by decide) (by simp) (fun w' hw' => ?_) (fun A hA187 hf => ?_)
        · have f182 := hf.get (d := 182) (v := .bool false) (by simp)
          have f186 := hf.get (d := 186) (v := .bool false) (by simp)
          clear hf
          simp [Oper.quietAt, Oper.quietUpon, go_sem, f182, f186]
        refine q_step hf (d := 188) (v := .bool false) rfl rfl (by decide) (by simp) (fun w' hw' => ?_) (fun A hA188 hf => ?_)
        · have f187 := hf.get (d := 187) (v := .bool false) (by simp)
          clear hf
          simp [Oper.quietAt, Oper.quietUpon, go_sem, f187]
        refine q_want hf (d := 189) (v := Value.slice (some ⟨q, 0, none⟩) L.length cap') (e := 188) rfl rfl (by simp) rfl (by decide) (by simp) (fun w' hw' => ?_) (fun A hA189 hf => ?_)
        · have f3 := hf.get (d := 3) (v := Value.slice (some ⟨q, 0, none⟩) L.length cap') (by simp)
          clear hf
          simp [Oper.quietAt, Oper.quietUpon, go_sem, f3]
        refine q_want hf (d := 190) (v := .int .i64 f) (e := 188) rfl rfl (by simp) rfl (by decide) (by simp) (fun w' hw' => ?_) (fun A hA190 hf => ?_)
        · have f7 := hf.get (d := 7) (v := .int .i64 f) (by simp)
          clear hf
          simp [Oper.quietAt, Oper.quietUpon, go_sem, f7]
        refine q_want hf (d := 191) (v := .int .i64 c2) (e := 188) rfl rfl (by simp) rfl (by decide) (by simp) (fun w' hw' => ?_) (fun A hA191 hf => ?_)
        · have f189 := hf.get (d := 189) (v := Value.slice (some ⟨q, 0, none⟩) L.length cap') (by simp)
          have f190 := hf.get (d := 190) (v := .int .i64 f) (by simp)
          clear hf
          simp [Oper.quietAt, Oper.quietUpon, go_sem, f189, f190]
          exact (iClose_any _ _ _ _ _ (Ow.sl (rw_s hw'.o2)) (Ow.cap (rw_s hw'.o2)) (by omega) HC2.out).mono (fun e w'' hq => ⟨hq.1, hw'.step hq.2⟩)
        refine q_want hf (d := 192) (v := Value.slice (some ⟨q, 0, none⟩) L.length cap') (e := 188) rfl rfl (by simp) rfl (by decide) (by simp) (fun w' hw' => ?_) (fun A hA192 hf => ?_)
        · have f3 := hf.get (d := 3) (v := Value.slice (some ⟨q, 0, none⟩) L.length cap') (by simp)
          clear hf
          simp [Oper.quietAt, Oper.quietUpon, go_sem, f3]
        refine q_want hf (d := 193) (v := .int .i64 L.length) (e := 188) rfl rfl (by simp) rfl (by decide) (by simp) (fun w' hw' => ?_) (fun A hA193 hf => ?_)
        · have f192 := hf.get (d := 192) (v := Value.slice (some ⟨q, 0, none⟩) L.length cap') (by simp)
          clear hf
          simp [Oper.quietAt, Oper.quietUpon, go_sem, f192]
        refine q_want hf (d := 194) (v := Value.slice (some ⟨q, 0, none⟩) L.length cap') (e := 188) rfl rfl (by simp) rfl (by decide) (by simp) (fun w' hw' => ?_) (fun A hA194 hf => ?_)
        · have f3 := hf.get (d := 3) (v := Value.slice (some ⟨q, 0, none⟩) L.length cap') (by simp)
          clear hf
          simp [Oper.quietAt, Oper.quietUpon, go_sem, f3]
        refine q_want hf (d := 195) (v := .int .i64 L.length) (e := 188) rfl rfl (by simp) rfl (by decide) (by simp) (fun w' hw' => ?_) (fun A hA195 hf => ?_)
        · have f194 := hf.get (d := 194) (v := Value.slice (some ⟨q, 0, none⟩) L.length cap') (by simp)
          clear hf
          simp [Oper.quietAt, Oper.quietUpon, go_sem, f194]
        refine q_want hf (d := 196) (v := .int .i64 n1) (e := 188) rfl rfl (by simp) rfl (by decide) (by simp) (fun w' hw' => ?_) (fun A hA196 hf => ?_)
        · have f195 := hf.get (d := 195) (v := .int .i64 L.length) (by simp)
          clear hf
          simp [Oper.quietAt, Oper.quietUpon, go_sem, f195, hw1]
        refine q_want hf (d := 197) (v := .int .i64 n2) (e := 188) rfl rfl (by simp) rfl (by decide) (by simp) (fun w' hw' => ?_) (fun A hA197 hf => ?_)
        · have f193 := hf.get (d := 193) (v := .int .i64 L.length) (by simp)
          have f196 := hf.get (d := 196) (v := .int .i64 n1) (by simp)
          clear hf
          simp [Oper.quietAt, Oper.quietUpon, go_sem, f193, f196, hw2]
        refine q_want hf (d := 198) (v := .int .i64 c2) (e := 188) rfl rfl (by simp) rfl (by decide) (by simp) (fun w' hw' => ?_) (fun A hA198 hf => ?_)
        · have f197 := hf.get (d := 197) (v := .int .i64 n2) (by simp)
          clear hf
          simp [Oper.quietAt, Oper.quietUpon, go_sem, f197, hw3, hw4]
        refine q_want hf (d := 199) (v := .bool false) (e := 188) rfl rfl (by simp) rfl (by decide) (by simp) (fun w' hw' => ?_) (fun A hA199 hf => ?_)
        · have f191 := hf.get (d := 191) (v := .int .i64 c2) (by simp)
          have f198 := hf.get (d := 198) (v := .int .i64 c2) (by simp)
          clear hf
          simp [Oper.quietAt, Oper.quietUpon, go_sem, f191, f198]
        refine q_step hf (d := 200) (v := .bool false) rfl rfl (by decide) (by simp) (fun w' hw' => ?_) (fun A hA200 hf => ?_)
        · have f188 := hf.get (d := 188) (v := .bool false) (by simp)
          have f199 := hf.get (d := 199) (v := .bool false) (by simp)
          clear hf
          simp [Oper.quietAt, Oper.quietUpon, go_sem, f188, f199]
        refine wpQuiet_nil (fun w' hw' => ?_)
        clear hf
        subst hA200 hA199 hA198 hA197 hA196 hA195 hA194 hA193 hA192 hA191 hA190 hA189 hA188 hA187 hA186 hA185 hA184 hA183 hA182 hA181 hA180 hA179 hA178 hA177 hA176 hA175 hA174 hA173 hA172 hA171 hA170 hA169 hA168 hA167 hA166 hA165 hA164 hA163 hA162 hA161 hA160 hA159 hA158 hA157 hA156 hA155 hA154 hA153 hA152 hA151 hA150 hA
        simp only [Act.put, List.setIfInBounds_toArray, List.set_cons_succ, List.set_cons_zero]
        clear HC0 HC1 HC2 hw0 hw1 hw2 hw3 hw4 hc1 hS HAB
        have hFH := HFH.out
        rw [HH.out] at hFH
        clear HFH HH hs
        by_cases hh2 : H.length < 2
        · have hf00 : f = 0 := hFH.1 hh2
          have hhi : (H.length : Int) < 2 := by omega
          subst hf00
          clear hFH
          go_wp2
          go_ret
          exact ⟨rfl, hw'.bel⟩
        · have hhi : ¬ (H.length : Int) < 2 := by omega
          have hhj : (2 : Int) ≤ H.length := by omega
          have HFf : Hid (faI H = f) := hFH.2 (by omega)
          clear hFH
          go_wp2_with (go_at_call 11; refine (iFarthest_any _ _ _ _ (Ow.sl (rw_s hw'.o0)) (Ow.cap (rw_s hw'.o0)) (by omega) HFf.out).mono ?_; rintro e w5 ⟨rfl, hb5⟩)
          go_ret
          exact ⟨by simp, bstep hw'.bel hb5 (Nat.le_refl _)⟩
      · have hd1 : decide (0 < d) = false := decide_eq_false hdp
        refine wp_region_quiet (C := fun w' => Sg w w' [rS (.slice qh H.length caph) H, r1 (.slice (some ⟨g4, off4, none⟩) sp.length cap4) sp, rS (.slice (some ⟨q, 0, none⟩) L.length cap') L]) (by kernel_rfl) (by kernel_rfl) (hx3.step (Below.refl _ _).drew) ?_
        refine q_intro (fun A hA => ?_)
        have hf : Fr 219 A [(3, Value.slice (some ⟨q, 0, none⟩) L.length cap'), (4, .int .i64 d), (5, .int .i64 (a : Int)), (6, .int .i64 (b : Int)), (7, .int .i64 f), (15, .int .i64 d)] := by subst hA; exact ⟨rfl, by simp⟩
        refine q_step hf (d := 150) (v := .int .i64 (a : Int)) rfl rfl (by decide) (by simp) (fun w' hw' => ?_) (fun A hA150 hf => ?_)
        · have f5 := hf.get (d := 5) (v := .int .i64 (a : Int)) (by simp)
          clear hf
          simp [Oper.quietAt, Oper.quietUpon, go_sem, f5]
        refine q_step hf (d := 151) (v := .int .i64 (b : Int)) rfl rfl (by decide) (by simp) (fun w' hw' => ?_) (fun A hA151 hf => ?_)
        · have f6 := hf.get (d := 6) (v := .int .i64 (b : Int)) (by simp)
          clear hf
          simp [Oper.quietAt, Oper.quietUpon, go_sem, f6]
        refine q_step hf (d := 152) (v := .bool false) rfl rfl (by decide) (by simp) (fun w' hw' => ?_) (fun A hA152 hf => ?_)
        · have f150 := hf.get (d := 150) (v := .int .i64 (a : Int)) (by simp)
          have f151 := hf.get (d := 151) (v := .int .i64 (b : Int)) (by simp)
          clear hf
          simp [Oper.quietAt, Oper.quietUpon, go_sem, f150, f151, hab1]
        refine q_step hf (d := 153) (v := .bool false) rfl rfl (by decide) (by simp) (fun w' hw' => ?_) (fun A hA153 hf => ?_)
        · have f152 := hf.get (d := 152) (v := .bool false) (by simp)
          clear hf
          simp [Oper.quietAt, Oper.quietUpon, go_sem, f152]
        refine q_want hf (d := 154) (v := Value.slice (some ⟨q, 0, none⟩) L.length cap') (e := 153) rfl rfl (by simp) rfl (by decide) (by simp) (fun w' hw' => ?_) (fun A hA154 hf => ?_)
        · have f3 := hf.get (d := 3) (v := Value.slice (some ⟨q, 0, none⟩) L.length cap') (by simp)
          clear hf
          simp [Oper.quietAt, Oper.quietUpon, go_sem, f3]
        refine q_want hf (d := 155) (v := .int .i64 (a : Int)) (e := 153) rfl rfl (by simp) rfl (by decide) (by simp) (fun w' hw' => ?_) (fun A hA155 hf => ?_)
        · have f5 := hf.get (d := 5) (v := .int .i64 (a : Int)) (by simp)
          clear hf
          simp [Oper.quietAt, Oper.quietUpon, go_sem, f5]
        refine q_want hf (d := 156) (v := .pointer (some ⟨q, a * 2, none⟩)) (e := 153) rfl rfl (by simp) rfl (by decide) (by simp) (fun w' hw' => ?_) (fun A hA156 hf => ?_)
        · have f154 := hf.get (d := 154) (v := Value.slice (some ⟨q, 0, none⟩) L.length cap') (by simp)
          have f155 := hf.get (d := 155) (v := .int .i64 (a : Int)) (by simp)
          clear hf
          simp [Oper.quietAt, Oper.quietUpon, go_sem, f154, f155, haL, ha0]
        refine q_want hf (d := 157) (v := .agg #[.int .i64 xa.x, .int .i64 xa.y]) (e := 153) rfl rfl (by simp) rfl (by decide) (by simp) (fun w' hw' => ?_) (fun A hA157 hf => ?_)
        · have hc := hS _ hw'
          have f156 := hf.get (d := 156) (v := .pointer (some ⟨q, a * 2, none⟩)) (by simp)
          clear hf
          simp [Oper.quietAt, Oper.quietUpon, go_sem, f156, hc]
        refine q_want hf (d := 158) (v := Value.slice (some ⟨q, 0, none⟩) L.length cap') (e := 153) rfl rfl (by simp) rfl (by decide) (by simp) (fun w' hw' => ?_) (fun A hA158 hf => ?_)
        · have f3 := hf.get (d := 3) (v := Value.slice (some ⟨q, 0, none⟩) L.length cap') (by simp)
          clear hf
          simp [Oper.quietAt, Oper.quietUpon, go_sem, f3]
        refine q_want hf (d := 159) (v := .int .i64 (b : Int)) (e := 153) rfl rfl (by simp) rfl (by decide) (by simp) (fun w' hw' => ?_) (fun A hA159 hf => ?_)
        · have f6 := hf.get (d := 6) (v := .int .i64 (b : Int)) (by simp)
          clear hf
          simp [Oper.quietAt, Oper.quietUpon, go_sem, f6]
        refine q_want hf (d := 160) (v := .pointer (some ⟨q, b * 2, none⟩)) (e := 153) rfl rfl (by simp) rfl (by decide) (by simp) (fun w' hw' => ?_) (fun A hA160 hf => ?_)
        · have f158 := hf.get (d := 158) (v := Value.slice (some ⟨q, 0, none⟩) L.length cap') (by simp)
          have f159 := hf.get (d := 159) (v := .int .i64 (b : Int)) (by simp)
          clear hf
          simp [Oper.quietAt, Oper.quietUpon, go_sem, f158, f159, hbLi, hb0]
        refine q_want hf (d := 161) (v := .agg #[.int .i64 xb.x, .int .i64 xb.y]) (e := 153) rfl rfl (by simp) rfl (by decide) (by simp) (fun w' hw' => ?_) (fun A hA161 hf => ?_)
        · have hc := hS _ hw'
          have f160 := hf.get (d := 160) (v := .pointer (some ⟨q, b * 2, none⟩)) (by simp)
          clear hf
          simp [Oper.quietAt, Oper.quietUpon, go_sem, f160, hc]
        refine q_want hf (d := 162) (v := .int .i64 d) (e := 153) rfl rfl (by simp) rfl (by decide) (by simp) (fun w' hw' => ?_) (fun A hA162 hf => ?_)
        · have f157 := hf.get (d := 157) (v := .agg #[.int .i64 xa.x, .int .i64 xa.y]) (by simp)
          have f161 := hf.get (d := 161) (v := .agg #[.int .i64 xb.x, .int .i64 xb.y]) (by simp)
          clear hf
          simp [Oper.quietAt, Oper.quietUpon, go_sem, f157, f161]
          exact (iApart_v HAB.out _).mono (fun e w'' hq => ⟨hq.1, hw'.step hq.2⟩)
        refine q_want hf (d := 163) (v := .int .i64 d) (e := 153) rfl rfl (by simp) rfl (by decide) (by simp) (fun w' hw' => ?_) (fun A hA163 hf => ?_)
        · have f4 := hf.get (d := 4) (v := .int .i64 d) (by simp)
          clear hf
          simp [Oper.quietAt, Oper.quietUpon, go_sem, f4]
        refine q_want hf (d := 164) (v := .bool false) (e := 153) rfl rfl (by simp) rfl (by decide) (by simp) (fun w' hw' => ?_) (fun A hA164 hf => ?_)
        · have f162 := hf.get (d := 162) (v := .int .i64 d) (by simp)
          have f163 := hf.get (d := 163) (v := .int .i64 d) (by simp)
          clear hf
          simp [Oper.quietAt, Oper.quietUpon, go_sem, f162, f163]
        refine q_step hf (d := 165) (v := .bool false) rfl rfl (by decide) (by simp) (fun w' hw' => ?_) (fun A hA165 hf => ?_)
        · have f153 := hf.get (d := 153) (v := .bool false) (by simp)
          have f164 := hf.get (d := 164) (v := .bool false) (by simp)
          clear hf
          simp [Oper.quietAt, Oper.quietUpon, go_sem, f153, f164]
        refine q_step hf (d := 166) (v := .bool false) rfl rfl (by decide) (by simp) (fun w' hw' => ?_) (fun A hA166 hf => ?_)
        · have f165 := hf.get (d := 165) (v := .bool false) (by simp)
          clear hf
          simp [Oper.quietAt, Oper.quietUpon, go_sem, f165]
        refine q_want hf (d := 167) (v := .int .i64 d) (e := 166) rfl rfl (by simp) rfl (by decide) (by simp) (fun w' hw' => ?_) (fun A hA167 hf => ?_)
        · have f15 := hf.get (d := 15) (v := .int .i64 d) (by simp)
          clear hf
          simp [Oper.quietAt, Oper.quietUpon, go_sem, f15]
        refine q_want hf (d := 168) (v := .int .i64 d) (e := 166) rfl rfl (by simp) rfl (by decide) (by simp) (fun w' hw' => ?_) (fun A hA168 hf => ?_)
        · have f4 := hf.get (d := 4) (v := .int .i64 d) (by simp)
          clear hf
          simp [Oper.quietAt, Oper.quietUpon, go_sem, f4]
        refine q_want hf (d := 169) (v := .bool false) (e := 166) rfl rfl (by simp) rfl (by decide) (by simp) (fun w' hw' => ?_) (fun A hA169 hf => ?_)
        · have f167 := hf.get (d := 167) (v := .int .i64 d) (by simp)
          have f168 := hf.get (d := 168) (v := .int .i64 d) (by simp)
          clear hf
          simp [Oper.quietAt, Oper.quietUpon, go_sem, f167, f168]
        refine q_step hf (d := 170) (v := .bool false) rfl rfl (by decide) (by simp) (fun w' hw' => ?_) (fun A hA170 hf => ?_)
        · have f166 := hf.get (d := 166) (v := .bool false) (by simp)
          have f169 := hf.get (d := 169) (v := .bool false) (by simp)
          clear hf
          simp [Oper.quietAt, Oper.quietUpon, go_sem, f166, f169]
        refine q_step hf (d := 171) (v := .bool false) rfl rfl (by decide) (by simp) (fun w' hw' => ?_) (fun A hA171 hf => ?_)
        · have f170 := hf.get (d := 170) (v := .bool false) (by simp)
          clear hf
          simp [Oper.quietAt, Oper.quietUpon, go_sem, f170]
        refine q_want hf (d := 172) (v := .int .i64 d) (e := 171) rfl rfl (by simp) rfl (by decide) (by simp) (fun w' hw' => ?_) (fun A hA172 hf => ?_)
        · have f4 := hf.get (d := 4) (v := .int .i64 d) (by simp)
          clear hf
          simp [Oper.quietAt, Oper.quietUpon, go_sem, f4]
        refine q_want hf (d := 173) (v := .bool false) (e := 171) rfl rfl (by simp) rfl (by decide) (by simp) (fun w' hw' => ?_) (fun A hA173 hf => ?_)
        · have f172 := hf.get (d := 172) (v := .int .i64 d) (by simp)
          clear hf
          simp [Oper.quietAt, Oper.quietUpon, go_sem, f172, hd1]
        refine q_want hf (d := 174) (v := .bool false) (e := 171) rfl rfl (by simp) rfl (by decide) (by simp) (fun w' hw' => ?_) (fun A hA174 hf => ?_)
        · have f173 := hf.get (d := 173) (v := .bool false) (by simp)
          clear hf
          simp [Oper.quietAt, Oper.quietUpon, go_sem, f173]
        refine q_skip hf (d := 175) (e := 174) (b := false) rfl rfl (by simp) rfl rfl (by decide) (by simp) (fun A hA175 hf => ?_)
        refine q_skip hf (d := 176) (e := 174) (b := false) rfl rfl (by simp) rfl rfl (by decide) (by simp) (fun A hA176 hf => ?_)
        refine q_skip hf (d := 177) (e := 174) (b := false) rfl rfl (by simp) rfl rfl (by decide) (by simp) (fun A hA177 hf => ?_)
        refine q_skip hf (d := 178) (e := 174) (b := false) rfl rfl (by simp) rfl rfl (by decide) (by simp) (fun A hA178 hf => ?_)
        refine q_skip hf (d := 179) (e := 174) (b := false) rfl rfl (by simp) rfl rfl (by decide) (by simp) (fun A hA179 hf => ?_)
        refine q_want hf (d := 180) (v := .bool false) (e := 171) rfl rfl (by simp) rfl (by decide) (by simp) (fun w' hw' => ?_) (fun A hA180 hf => ?_)
        · have f174 := hf.get (d := 174) (v := .bool false) (by simp)
          clear hf
          simp [Oper.quietAt, Oper.quietUpon, go_sem, f174]
        refine q_step hf (d := 181) (v := .bool false) rfl rfl (by decide) (by simp) (fun w' hw' => ?_) (fun A hA181 hf => ?_)
        · have f171 := hf.get (d := 171) (v := .bool false) (by simp)
          have f180 := hf.get (d := 180) (v := .bool false) (by simp)
          clear hf
          simp [Oper.quietAt, Oper.quietUpon, go_sem, f171, f180]
        refine q_step hf (d := 182) (v := .bool false) rfl rfl (by decide) (by simp) (fun w' hw' => ?_) (fun A hA182 hf => ?_)
        · have f181 := hf.get (d := 181) (v := .bool false) (by simp)
          clear hf
          simp [Oper.quietAt, Oper.quietUpon, go_sem, f181]
        refine q_want hf (d := 183) (v := Value.slice (some ⟨q, 0, none⟩) L.length cap') (e := 182) rfl rfl (by simp) rfl (by decide) (by simp) (fun w' hw' => ?_) (fun A hA183 hf => ?_)
        · have f3 := hf.get (d := 3) (v := Value.slice (some ⟨q, 0, none⟩) L.length cap') (by simp)
          clear hf
          simp [Oper.quietAt, Oper.quietUpon, go_sem, f3]
        refine q_want hf (d := 184) (v := .int .i64 d) (e := 182) rfl rfl (by simp) rfl (by decide) (by simp) (fun w' hw' => ?_) (fun A hA184 hf => ?_)
        · have f4 := hf.get (d := 4) (v := .int .i64 d) (by simp)
          clear hf
          simp [Oper.quietAt, Oper.quietUpon, go_sem, f4]
        refine q_want hf (d := 185) (v := .int .i64 c1) (e := 182) rfl rfl (by simp) rfl (by decide) (by simp) (fun w' hw' => ?_) (fun A hA185 hf => ?_)
        · have f183 := hf.get (d := 183) (v := Value.slice (some ⟨q, 0, none⟩) L.length cap') (by simp)
          have f184 := hf.get (d := 184) (v := .int .i64 d) (by simp)
          clear hf
          simp [Oper.quietAt, Oper.quietUpon, go_sem, f183, f184]
          exact (iClose_any _ _ _ _ _ (Ow.sl (rw_s hw'.o2)) (Ow.cap (rw_s hw'.o2)) (by omega) HC1.out).mono (fun e w'' hq => ⟨hq.1, hw'.step hq.2⟩)
        refine q_want hf (d := 186) (v := .bool false) (e := 182) rfl rfl (by simp) rfl (by decide) (by simp) (fun w' hw' => ?_) (fun A hA186 hf => ?_)
        · have f185 := hf.get (d := 185) (v := .int .i64 c1) (by simp)
          clear hf
          simp [Oper.quietAt, Oper.quietUpon, go_sem, f185, hc1]
        refine q_step hf (d := 187) (v := .bool false) rfl rfl (by decide) (by simp) (fun w' hw' => ?_) (fun A hA187 hf => ?_)
        · have f182 := hf.get (d := 182) (v := .bool false) (by simp)
          have f186 := hf.get (d := 186) (v := .bool false) (by simp)
          clear hf
          simp [Oper.quietAt, Oper.quietUpon, go_sem, f182, f186]
        refine q_step hf (d := 188) (v := .bool false) rfl rfl (by decide) (by simp) (fun w' hw' => ?_) (fun A hA188 hf => ?_)
        · have f187 := hf.get (d := 187) (v := .bool false) (by simp)
          clear hf
          simp [Oper.quietAt, Oper.quietUpon, go_sem, f187]
        refine q_want hf (d := 189) (v := Value.slice (some ⟨q, 0, none⟩) L.length cap') (e := 188) rfl rfl (by simp) rfl (by decide) (by simp) (fun w' hw' => ?_) (fun A hA189 hf => ?_)
        · have f3 := hf.get (d := 3) (v := Value.slice (some ⟨q, 0, none⟩) L.length cap') (by simp)
          clear hf
          simp [Oper.quietAt, Oper.quietUpon, go_sem, f3]
        refine q_want hf (d := 190) (v := .int .i64 f) (e := 188) rfl rfl (by simp) rfl (by decide) (by simp) (fun w' hw' => ?_) (fun A hA190 hf => ?_)
        · have f7 := hf.get (d := 7) (v := .int .i64 f) (by simp)
          clear hf
          simp [Oper.quietAt, Oper.quietUpon, go_sem, f7]
        refine q_want hf (d := 191) (v := .int .i64 c2) (e := 188) rfl rfl (by simp) rfl (by decide) (by simp) (fun w' hw' => ?_) (fun A hA191 hf => ?_)
        · have f189 := hf.get (d := 189) (v := Value.slice (some ⟨q, 0, none⟩) L.length cap') (by simp)
          have f190 := hf.get (d := 190) (v := .int .i64 f) (by simp)
          clear hf
          simp [Oper.quietAt, Oper.quietUpon, go_sem, f189, f190]
          exact (iClose_any _ _ _ _ _ (Ow.sl (rw_s hw'.o2)) (Ow.cap (rw_s hw'.o2)) (by omega) HC2.out).mono (fun e w'' hq => ⟨hq.1, hw'.step hq.2⟩)
        refine q_want hf (d := 192) (v := Value.slice (some ⟨q, 0, none⟩) L.length cap') (e := 188) rfl rfl (by simp) rfl (by decide) (by simp) (fun w' hw' => ?_) (fun A hA192 hf => ?_)
        · have f3 := hf.get (d := 3) (v := Value.slice (some ⟨q, 0, none⟩) L.length cap') (by simp)
          clear hf
          simp [Oper.quietAt, Oper.quietUpon, go_sem, f3]
        refine q_want hf (d := 193) (v := .int .i64 L.length) (e := 188) rfl rfl (by simp) rfl (by decide) (by simp) (fun w' hw' => ?_) (fun A hA193 hf => ?_)
        · have f192 := hf.get (d := 192) (v := Value.slice (some ⟨q, 0, none⟩) L.length cap') (by simp)
          clear hf
          simp [Oper.quietAt, Oper.quietUpon, go_sem, f192]
        refine q_want hf (d := 194) (v := Value.slice (some ⟨q, 0, none⟩) L.length cap') (e := 188) rfl rfl (by simp) rfl (by decide) (by simp) (fun w' hw' => ?_) (fun A hA194 hf => ?_)
        · have f3 := hf.get (d := 3) (v := Value.slice (some ⟨q, 0, none⟩) L.length cap') (by simp)
          clear hf
          simp [Oper.quietAt, Oper.quietUpon, go_sem, f3]
        refine q_want hf (d := 195) (v := .int .i64 L.length) (e := 188) rfl rfl (by simp) rfl (by decide) (by simp) (fun w' hw' => ?_) (fun A hA195 hf => ?_)
        · have f194 := hf.get (d := 194) (v := Value.slice (some ⟨q, 0, none⟩) L.length cap') (by simp)
          clear hf
          simp [Oper.quietAt, Oper.quietUpon, go_sem, f194]
        refine q_want hf (d := 196) (v := .int .i64 n1) (e := 188) rfl rfl (by simp) rfl (by decide) (by simp) (fun w' hw' => ?_) (fun A hA196 hf => ?_)
        · have f195 := hf.get (d := 195) (v := .int .i64 L.length) (by simp)
          clear hf
          simp [Oper.quietAt, Oper.quietUpon, go_sem, f195, hw1]
        refine q_want hf (d := 197) (v := .int .i64 n2) (e := 188) rfl rfl (by simp) rfl (by decide) (by simp) (fun w' hw' => ?_) (fun A hA197 hf => ?_)
        · have f193 := hf.get (d := 193) (v := .int .i64 L.length) (by simp)
          have f196 := hf.get (d := 196) (v := .int .i64 n1) (by simp)
          clear hf
          simp [Oper.quietAt, Oper.quietUpon, go_sem, f193, f196, hw2]
        refine q_want hf (d := 198) (v := .int .i64 c2) (e := 188) rfl rfl (by simp) rfl (by decide) (by simp) (fun w' hw' => ?_) (fun A hA198 hf => ?_)
        · have f197 := hf.get (d := 197) (v := .int .i64 n2) (by simp)
          clear hf
          simp [Oper.quietAt, Oper.quietUpon, go_sem, f197, hw3, hw4]
        refine q_want hf (d := 199) (v := .bool false) (e := 188) rfl rfl (by simp) rfl (by decide) (by simp) (fun w' hw' => ?_) (fun A hA199 hf => ?_)
        · have f191 := hf.get (d := 191) (v := .int .i64 c2) (by simp)
          have f198 := hf.get (d := 198) (v := .int .i64 c2) (by simp)
          clear hf
          simp [Oper.quietAt, Oper.quietUpon, go_sem, f191, f198]
        refine q_step hf (d := 200) (v := .bool false) rfl rfl (by decide) (by simp) (fun w' hw' => ?_) (fun A hA200 hf => ?_)
        · have f188 := hf.get (d := 188) (v := .bool false) (by simp)
          have f199 := hf.get (d := 199) (v := .bool false) (by simp)
          clear hf
          simp [Oper.quietAt, Oper.quietUpon, go_sem, f188, f199]
        refine wpQuiet_nil (fun w' hw' => ?_)
        clear hf
        subst hA200 hA199 hA198 hA197 hA196 hA195 hA194 hA193 hA192 hA191 hA190 hA189 hA188 hA187 hA186 hA185 hA184 hA183 hA182 hA181 hA180 hA179 hA178 hA177 hA176 hA175 hA174 hA173 hA172 hA171 hA170 hA169 hA168 hA167 hA166 hA165 hA164 hA163 hA162 hA161 hA160 hA159 hA158 hA157 hA156 hA155 hA154 hA153 hA152 hA151 hA150 hA
        simp only [Act.put, List.setIfInBounds_toArray, List.set_cons_succ, List.set_cons_zero]
        clear HC0 HC1 HC2 hw0 hw1 hw2 hw3 hw4 hc1 hS HAB
        have hFH := HFH.out
        rw [HH.out] at hFH
        clear HFH HH hs
        by_cases hh2 : H.length < 2
        · have hf00 : f = 0 := hFH.1 hh2
          have hhi : (H.length : Int) < 2 := by omega
          subst hf00
          clear hFH
          go_wp2
          go_ret
          exact ⟨rfl, hw'.bel⟩
        · have hhi : ¬ (H.length : Int) < 2 := by omega
          have hhj : (2 : Int) ≤ H.length := by omega
          have HFf : Hid (faI H = f) := hFH.2 (by omega)
          clear hFH
          go_wp2_with (go_at_call 11; refine (iFarthest_any _ _ _ _ (Ow.sl (rw_s hw'.o0)) (Ow.cap (rw_s hw'.o0)) (by omega) HFf.out).mono ?_; rintro e w5 ⟨rfl, hb5⟩)
          go_ret
          exact ⟨by simp, bstep hw'.bel hb5 (Nat.le_refl _)⟩
end Go.Proofs.Ytocfdmlkicndoaa
