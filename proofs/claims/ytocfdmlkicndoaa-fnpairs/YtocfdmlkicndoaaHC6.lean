/-
  Close: the program's and the spec's; its law, walked.
-/
import Derived.Test.YtocfdmlkicndoaaHC5
namespace Go.Proofs.Ytocfdmlkicndoaa
open Go.RowKit Go.Joins
attribute [local go_sem] Oper.semAt_some

def cnt (l : List P3) (m : Int) : Nat := l.countP fun q => decide (q.a ≤ m)
def clI (L : List T2) (m : Int) : Int := if okS L && decide (0 ≤ m) then (cnt (srtP L) m : Int) else -1
theorem cnt_le (l : List P3) (m : Int) : cnt l m ≤ l.length := List.countP_le_length
theorem cnt_at {s : List P3} {m : Int} {k : Nat} (hk : k ≤ s.length) (h1 : ∀ j, j < k → (s.getD j zp).a ≤ m) (h2 : ∀ j, k ≤ j → j < s.length → m < (s.getD j zp).a) : cnt s m = k := by
  unfold cnt
  rw [← List.take_append_drop k s, List.countP_append]
  have e1 : (s.take k).countP (fun q => decide (q.a ≤ m)) = k := by
    have hl : (s.take k).length = k := by rw [List.length_take]; omega
    rw [List.countP_eq_length.mpr, hl]
    intro q hq
    obtain ⟨i, hi, rfl⟩ := List.getElem_of_mem hq
    rw [List.length_take] at hi
    have := h1 i (by omega)
    simp only [List.getD_eq_getElem?_getD, List.getElem?_eq_getElem (show i < s.length by omega), Option.getD_some] at this
    simp [this]
  have e2 : (s.drop k).countP (fun q => decide (q.a ≤ m)) = 0 := by
    rw [List.countP_eq_zero]
    intro q hq
    obtain ⟨i, hi, rfl⟩ := List.getElem_of_mem hq
    rw [List.length_drop] at hi
    have := h2 (k + i) (by omega) (by omega)
    simp only [List.getD_eq_getElem?_getD, List.getElem?_eq_getElem (show k + i < s.length by omega), Option.getD_some] at this
    simp; omega
  omega
theorem cnt_all {s : List P3} {m : Int} (h1 : ∀ j, j < s.length → (s.getD j zp).a ≤ m) : cnt s m = s.length := cnt_at (Nat.le_refl _) h1 (fun j h k => by omega)
theorem cnt_stop {s : List P3} (hs : s.Pairwise leP) {m : Int} {k : Nat} (hk : k < s.length) (h1 : ∀ j, j < k → (s.getD j zp).a ≤ m) (h2 : m < (s.getD k zp).a) : cnt s m = k :=
  cnt_at (Nat.le_of_lt hk) h1 fun j hj hl => by
    have := sorted_le hs hj hl
    rw [leP_iff] at this
    omega
theorem cnt_perm {s t : List P3} (h : s.Perm t) (m : Int) : cnt s m = cnt t m := h.countP_eq _

def leK (s : List P3) (k : Nat) (m : Int) : Prop := ∀ j, j < k → (s.getD j zp).a ≤ m
def ltK (s : List P3) (k : Nat) (m : Int) : Prop := m < (s.getD k zp).a
theorem leK.next {s : List P3} {k : Nat} {m : Int} (h : leK s k m) (hk : (s.getD k zp).a ≤ m) : leK s (k + 1) m := fun j hj => by
  by_cases e : j = k
  · subst e; exact hk
  · exact h j (by omega)
set_option maxRecDepth 100000 in
set_option maxHeartbeats 2000000 in
theorem iClose_any (p : Option Addr) (cap : Nat) (L : List T2) (mo : Int) (w : World) (hL : Sl w p L) (hcap : L.length ≤ cap) (hn : L.length ≤ 1048576) {v : Int} (hv : clI L mo = v) :
    Calls Try.prog 14 #[.slice p L.length cap, .int .i64 mo] w fun e w' => e = .returned (.int .i64 v) ∧ Below w.heap.size w w' := by
  cases hs : okS L
  · have hv' : v = -1 := by rw [← hv]; simp [clI, hs]
    subst hv'
    clear hv
    go_enter Try.func14, Try.ntmps14
    go_wp2_with (go_at_call 37; refine (areRight_v hs _ _ _ (hL.step (below_alloc1 _ _)) hn).mono ?_; rintro e w1 ⟨rfl, hb2⟩)
    go_ret
    exact ⟨rfl, ba1 hb2⟩
  by_cases hm : 0 ≤ mo
  · have hv' : (cnt (srtP L) mo : Int) = v := by rw [← hv]; simp [clI, hs, hm]
    have h40 := okS_len hs
    have HV : Hid ((cnt (srtP L) mo : Int) = v) := hv'
    have hm' : ¬ mo < 0 := by omega
    clear hv hv'
    have hq0 := (St.nil w).push [.int .i64 mo] 2
    refine (callsIn_wide (n := 3)).1 ?_
    refine callsIn_of_wp_marks Try.func14 rfl trivial ?_ rfl
    simp only [Try.ntmps14, List.size_toArray, List.length_cons, List.length_nil, Nat.reduceAdd, Nat.reduceSub, Array.replicate_succ, Array.replicate_zero, List.push_toArray, List.append_toArray, List.nil_append, List.cons_append]
    gi_wp2_with (first
      | (refine ⟨trivial, ?_⟩; gi_at_call 37; refine (callsIn_wide.2 (areRight_v hs _ _ _ (hL.step (below_alloc1 _ _)) hn)).mono ?_; rintro e w1 ⟨rfl, hb2⟩; have hq1 := hq0.step hb2; have hk1 := hq1.has; simp [Has, HasAt] at hk1)
      | (refine ⟨trivial, ?_⟩; gi_at_call 34; refine (callsIn_wide.2 (nearestFirst_any _ _ _ _)).mono ?_; rintro e w2 ⟨rfl, rfl⟩))
    have hs0 := hq1.push [.int .i64 0] 2 |>.push [.slice p L.length cap] 24
    rw [World.size_alloc] at hs0
    have hb0 := hq1.size
    have hL0 := hL.step hs0.bel
    have hwq := hk1.1
    clear hb2 hq0 hq1 hk1
    generalize hbq : w1.heap.size = bq at hs0 hb0 hwq ⊢
    change St w ((w1.alloc (.cells #[.int .i64 0] 2)).alloc (.cells #[.slice p L.length cap] 24)) _ at hs0
    change Sl ((w1.alloc (.cells #[.int .i64 0] 2)).alloc (.cells #[.slice p L.length cap] 24)) _ _ at hL0
    generalize (w1.alloc (.cells #[.int .i64 0] 2)).alloc (.cells #[.slice p L.length cap] 24) = W0 at hs0 hL0 ⊢
    clear hbq
    have hk0 := hs0.has
    simp [Has, HasAt] at hk0
    have hz0 := hs0.size
    have hlt : bq < W0.heap.size := by omega
    have hlen : (srtP L).length ≤ 900000 := by rw [(srt_perm L).length_eq]; have := prs_len L L.length h40; omega
    refine range_up (gf := 56) (lb := #[.pointer (some ⟨bq + 1, 0, none⟩)]) rfl (enters_of Try.func56 (by kernel_rfl) rfl) (.exit 0) (cs := celP (srtP L)) (t := 53) (nearest_seq p cap L hcap h40 (bq + 1) W0 hk0.1.1 hL0 hk0.1.2.2)
      (fun k W => leK (srtP L) k mo ∧ St w W [(bq, [.int .i64 k]), (w.heap.size, [.int .i64 mo])])
      (fun k W => (leK (srtP L) k mo ∧ ltK (srtP L) k mo) ∧ St w W [(bq, [.int .i64 k]), (w.heap.size, [.int .i64 mo])])
      (fun k X Y hq hb => ⟨hq.1, hq.2.stab hb hz0 (by simp; omega)⟩)
      (fun k X Y hq hb => ⟨hq.1, hq.2.stab hb hz0 (by simp; omega)⟩)
      ⟨fun j hj => by omega, hs0.sub (by simp)⟩
      (fun k v => { defers := [], tmps := #[Value.slice p L.length cap, Value.int IntKind.i64 mo, undef,
          Value.pointer (some { block := w.heap.size, off := 0 }), Value.int IntKind.i64 0,
          Value.pointer (some { block := bq, off := 0 }), Value.pointer (some { block := v, off := 0 }), Value.slice p L.length cap, Value.bool true,
          Value.bool false, Value.bool false, Value.int IntKind.i64 mo, Value.bool (decide (mo < 0)),
          Value.bool (decide (mo < 0)), Value.slice p L.length cap,
          Value.func (Fn.func 56) #[] #[Value.pointer (some { block := bq + 1, off := 0 })], encP (srtP L) k, undef,
          undef, undef, undef, undef, undef, undef] }) ?assign ?body ?done ?stop
    case assign =>
      intro l1 k W K hK
      simp only [encP, celP] at hK ⊢
      gi_wp2
      exact hK
    case body =>
      rintro l1 k v W hkN ⟨hle, hst⟩ hv1 hv2 hv3 hz1
      have hk1 := hst.has
      simp [Has, HasAt] at hk1
      obtain ⟨m, hm⟩ : ∃ m, (srtP L).getD k zp = m := ⟨_, rfl⟩
      have v0 : W.cell? ⟨v, 0, none⟩ = some (.int .i64 m.a) := by unfold celP at hv3; rw [hm] at hv3; simp [World.cell?, hv3]
      have HM : Hid ((srtP L).getD k zp = m) := hm
      have HL : Hid (leK (srtP L) k mo) := hle
      have hkb : k ≤ 900000 := by omega
      clear hm hle hlen hkN
      by_cases hgt : mo < m.a
      · gi_wp2
        refine ⟨rfl, KeepF.refl _ _, ⟨HL.out, ?_⟩, hst⟩
        unfold ltK; rw [HM.out]; exact hgt
      · have hgt' : ¬ m.a > mo := by omega
        gi_wp2
        refine ⟨KeepF.setCell W 0 _ hlt, HL.out.next (by rw [HM.out]; omega), ?_⟩
        · have := hst.set1 (.int .i64 ((k : Int) + 1)) hb0 (by simp; omega)
          simpa using this
    case done =>
      rintro W ⟨hle, hst⟩ hD
      have hk1 := hst.has
      simp [Has, HasAt] at hk1
      have e := HV.out
      rw [cnt_all hle] at e
      generalize (srtP L).length = n at hst hk1 e
      subst e
      gi_wp2
      refine ⟨by simp, .inl ⟨_, _, rfl, run_takeDeferred hD, ?_⟩⟩
      refine ⟨.int .i64 n, by simp [results, Try.results14, go_sem], ?_, hst.bel.trans (below_putObj _ _ hz0)⟩
      rfl
    case stop =>
      rintro k W hkN ⟨⟨hle, hgt⟩, hst⟩ hD
      have hk1 := hst.has
      simp [Has, HasAt] at hk1
      have e := HV.out
      rw [cnt_stop (srt_pair L) hkN hle hgt] at e
      subst e
      clear hkN hle hgt
      gi_wp2
      refine ⟨by simp, .inl ⟨_, _, rfl, run_takeDeferred hD, ?_⟩⟩
      refine ⟨.int .i64 k, by simp [results, Try.results14, go_sem], ?_, hst.bel.trans (below_putObj _ _ hz0)⟩
      rfl
  · have hv' : v = -1 := by rw [← hv]; simp [clI, hm]
    subst hv'
    clear hv
    have hm' : mo < 0 := by omega
    have hq0 := (St.nil w).push [.int .i64 mo] 2
    go_enter Try.func14, Try.ntmps14
    go_wp2_with (go_at_call 37; refine (areRight_v hs _ _ _ (hL.step (below_alloc1 _ _)) hn).mono ?_; rintro e w1 ⟨rfl, hb2⟩; have hq1 := hq0.step hb2; have hk1 := hq1.has; simp [Has, HasAt] at hk1)
    go_ret
    exact ⟨rfl, ba1 hb2⟩

set_option maxRecDepth 100000 in
set_option maxHeartbeats 4000000 in
theorem sClose_any (p : Option Addr) (cap : Nat) (L : List T2) (mo : Int) (w : World) (hL : Sl w p L) (hn : L.length ≤ 1048576) {v : Int} (hv : clI L mo = v) :
    Calls Try.prog 19 #[.slice p L.length cap, .int .i64 mo] w fun e w' => e = .returned (.int .i64 v) ∧ Below w.heap.size w w' := by
  cases hs : okS L
  · have hv' : v = -1 := by rw [← hv]; simp [clI, hs]
    subst hv'
    clear hv
    go_enter Try.func19, Try.ntmps19
    go_wp2_with (go_at_call 38; refine (l5Spots_v hs _ _ _ hL hn).mono ?_; rintro e w1 ⟨rfl, hb2⟩)
    go_ret
    exact ⟨rfl, hb2⟩
  by_cases h2 : 0 ≤ mo
  · have hv' : (cnt (prs L L.length) mo : Int) = v := by rw [← hv, ← cnt_perm (srt_perm L)]; simp [clI, hs, h2]
    have H40 := okS_len hs
    have HV : Hid ((cnt (prs L L.length) mo : Int) = v) := hv'
    clear hv hv' hn
    obtain ⟨N, hN⟩ : ∃ N, L.length = N := ⟨_, rfl⟩
    have HN : Hid (L.length = N) := hN
    have hmi : ¬ mo < 0 := by omega
    rw [hN] at H40
    have hlc : Hid (∀ w, Sl w p L → Calls Try.prog 38 #[.slice p N cap] w fun e w' => e = .returned (.bool true) ∧ Below w.heap.size w w') := by
      intro w hw; have := l5Spots_v hs p cap w hw (by omega); rw [hN] at this; exact this
    rw [hN]
    clear hN hs
    go_enter Try.func19, Try.ntmps19
    go_wp2_with (go_at_call 38; refine (hlc.out _ hL).mono ?_; rintro e w1 ⟨rfl, hb2⟩)
    go_loopw [5, 6] (fun bv iv wr => ∃ (i c : Nat), i ≤ N ∧ iv = .int .i64 i ∧ bv = .int .i64 c ∧ c = cnt (prs L i) mo ∧ Below w.heap.size w wr) (fun _ iv _ => N - (intOf iv).toNat)
    case atStart => exact ⟨0, 0, by omega, rfl, rfl, rfl, hb2⟩
    case round =>
      rename World => wo
      obtain ⟨i, c, hi, rfl, rfl, hI, hb⟩ := hrel
      have HI : Hid (c = cnt (prs L i) mo) := hI
      clear hI
      by_cases hlt : i < N
      · have hii : (i : Int) < N := by omega
        go_wp2
        go_loopw [5, 7] (fun bv kv wr => ∃ (k c : Nat), k ≤ i ∧ kv = .int .i64 k ∧ bv = .int .i64 c ∧ c = cnt (prs L i ++ prK L i k) mo ∧ Below w.heap.size w wr) (fun _ kv _ => i - (intOf kv).toNat)
        case atStart => exact ⟨0, c, by omega, rfl, rfl, by rw [HI.out]; simp [prK], hb⟩
        case round =>
          clear HI hb
          obtain ⟨k, c, hk, rfl, rfl, hI, hb⟩ := hrel
          have hcb : c ≤ 100000 := by
            rw [hI]
            refine Nat.le_trans (cnt_le _ _) ?_
            rw [List.length_append, prK_len]
            have := prs_len L i (by omega)
            omega
          have HI : Hid (c = cnt (prs L i ++ prK L i k) mo) := hI
          clear hI
          by_cases hlt2 : k < i
          · have hki : (k : Int) < i := by omega
            have hkn : (k : Int) < N := by omega
            have hiL : i < L.length := by rw [HN.out]; exact hlt
            have hkL : k < L.length := by omega
            have hT : cnt (prs L i ++ prK L i (k + 1)) mo = c + (if apT (L.getD i zro) (L.getD k zro) ≤ mo then 1 else 0) := by
              rw [prK_succ, ← List.append_assoc, HI.out]
              unfold cnt
              rw [List.countP_append]
              congr 1
              rw [apT_symm]
              simp [prP, List.countP_cons]
            obtain ⟨g, off, rfl, hC⟩ := (hL.step hb).at hkL
            obtain ⟨x0, x1⟩ := hC.2 i _ (getS_some hiL)
            obtain ⟨y0, y1⟩ := hC.2 k _ (getS_some hkL)
            generalize hd : apT (L.getD i zro) (L.getD k zro) = d at hT
            generalize L.getD i zro = x at x0 x1 hd
            generalize L.getD k zro = y at y0 y1 hd
            have HD : Hid (apT x y = d) := hd
            have HT : Hid (cnt (prs L i ++ prK L i (k + 1)) mo = c + (if d ≤ mo then 1 else 0)) := hT
            clear hd hT
            by_cases hdm : d ≤ mo
            · go_wp2
              go_region_with (go_at_call 39; refine (sApart_v HD.out _).mono ?_; rintro e w2 ⟨rfl, hb3⟩)
              all_goals
                go_wp2
                go_roundw
                case rel => exact ⟨k + 1, c + 1, by omega, by go_num, by go_num, by rw [HT.out, if_pos hdm], bstep hb.drew hb3 (Nat.le_refl _)⟩
                case measure => simp [intOf]; omega
            · go_wp2
              go_region_with (go_at_call 39; refine (sApart_v HD.out _).mono ?_; rintro e w2 ⟨rfl, hb3⟩)
              all_goals
                go_wp2
                go_roundw
                case rel => exact ⟨k + 1, c, by omega, by go_num, rfl, by rw [HT.out, if_neg (by omega)]; rfl, bstep hb.drew hb3 (Nat.le_refl _)⟩
                case measure => simp [intOf]; omega
          · obtain rfl : k = i := by omega
            go_wp2
            refine ⟨⟨k + 1, c, by omega, by go_num, rfl, by rw [prs_succ]; exact HI.out, hb⟩, by simp [intOf]; omega⟩
      · obtain rfl : i = N := by omega
        have hD : (c : Int) = v := by have h := HI.out; rw [← HN.out] at h; rw [← HV.out, h]
        subst hD
        clear HV
        go_wp2
        go_ret
        exact ⟨rfl, hb⟩
  · have hv' : v = -1 := by rw [← hv]; simp [clI, h2]
    subst hv'
    clear hv
    have hmi : mo < 0 := by omega
    go_enter Try.func19, Try.ntmps19
    go_wp2_with (go_at_call 38; refine (l5Spots_v hs _ _ _ hL hn).mono ?_; rintro e w1 ⟨rfl, hb2⟩)
    go_ret
    exact ⟨rfl, hb2⟩

set_option maxHeartbeats 1000000 in
theorem exactClose (p : Option Addr) (cap : Nat) (L : List T2) (mo : Int) (w : World) (hL : Sl w p L) (hm : L.length ≤ maxLen) :
    Calls Try.prog 6 #[.slice p L.length cap, .int .i64 mo] w fun e w' => e = .returned (.bool true) ∧ Below w.heap.size w w' := by
  by_cases hn : L.length ≤ 1048576
  · have hni : (L.length : Int) ≤ 1048576 := by omega
    have hx := Sx.nil w
    obtain ⟨v, hv⟩ : ∃ v, clI L mo = v := ⟨_, rfl⟩
    have HV : Hid (clI L mo = v) := hv
    clear hv
    go_enter Try.func6, Try.ntmps6
    go_wp2_with (first
      | (go_at_call 22; refine (szSpotS_ok _ _ _ _ _ hni (by omega)).mono ?_; rintro e w1 ⟨rfl, rfl⟩)
      | (go_at_call 23; refine (toSpotS_any p cap L _ (hL.step hx.bel) hn).mono ?_; rintro e w1 ⟨p1, cap1, rfl, hO, hb2⟩; replace hx := hx.add hO hb2)
      | (go_at_call 19; refine (sClose_any _ _ _ _ _ (Ow.sl (hx.own _ (List.mem_cons_self ..))) hn HV.out).mono ?_; rintro e w1 ⟨rfl, hb2⟩; replace hx := hx.step hb2)
      | (go_at_call 14; refine (iClose_any _ _ _ _ _ (Ow.sl (hx.own _ (List.mem_cons_self ..))) (Ow.cap (hx.own _ (List.mem_cons_self ..))) hn HV.out).mono ?_; rintro e w1 ⟨rfl, hb2⟩; replace hx := hx.step hb2)
      | (go_at_call 24; refine (eqSpotS_same _ _ _ _ L _ (Ow.sl (hx.own _ (List.mem_cons_of_mem _ (List.mem_cons_self ..)))) (Ow.sl (hx.own _ (List.mem_cons_self ..))) (by omega)).mono ?_; rintro e w1 ⟨rfl, hb2⟩; replace hx := hx.step hb2))
    all_goals (go_ret; exact ⟨rfl, hx.bel⟩)
  · have hni : (1048576 : Int) < L.length := by omega
    go_enter Try.func6, Try.ntmps6
    go_wp2_with (go_at_call 22; refine (szSpotS_no _ _ _ _ _ hni (by omega) hm).mono ?_; rintro e w1 ⟨rfl, rfl⟩)
    go_ret
    exact ⟨rfl, Below.refl _ _⟩
end Go.Proofs.Ytocfdmlkicndoaa
