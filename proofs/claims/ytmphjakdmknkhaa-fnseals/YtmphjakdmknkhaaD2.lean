/-
  What FnSeals draws: a text, a key and a text.
-/
import Derived.Test.YtmphjakdmknkhaaD1
namespace Go.Proofs.Ytmphjakdmknkhaa
open Go.RowKit Go.Joins
attribute [local go_sem] Oper.semAt_some

/-- 'string(b)' of a row of one's own. -/
theorem conv_own {W : World} {base q n c : Nat} {M : List Int} (h : W.ownsRow base 5 1 (.slice (some ⟨q, 0, none⟩) n c) n (kU.flat M)) : (convert 22 9 (.slice (some ⟨q, 0, none⟩) n c)).run Try.prog W = .ok (.string (strOfNums M)) W ∧ M.length = n := by
  have hn : M.length = n := by have := h.1; rw [Kd.flat_len] at this; simp [kU] at this; omega
  subst hn
  have hC : CsG kU W q 0 M := OwG.cs (K := kU) h
  refine ⟨run_convert_bytes_arg (P := Try.prog) W 22 5 Try.underlying22 Try.underlying5 q 0 M.length c M rfl (fun i hi => ?_) 9 Try.underlying9, rfl⟩
  exact hC.u8 (by simp [List.getD, hi])
theorem getD_rep (n i : Nat) : (List.replicate n (0 : Int)).getD i 0 = 0 := by
  by_cases h : i < n
  · simp [List.getD, h]
  · simp [List.getD, h]
theorem conv_made {W : World} {g n : Nat} (hg : g = W.heap.size) : (convert 22 9 (.slice (some ⟨g, 0, none⟩) n n)).run Try.prog (W.alloc (.cells (madeCells #[.int .u8 0] (n * 1)) 5)) = .ok (.string (strOfNums (List.replicate n 0))) (W.alloc (.cells (madeCells #[.int .u8 0] (n * 1)) 5)) := by
  subst hg
  refine run_convert_bytes_arg (P := Try.prog) _ 22 5 Try.underlying22 Try.underlying5 W.heap.size 0 n n (List.replicate n 0) (by simp) (fun i hi => ?_) 9 Try.underlying9
  rw [World.cell?_alloc_at _ _ _ _ rfl, getD_rep]
  have : (0 + i) < n * 1 := by omega
  simp [madeCells, hi, Nat.mod_one]

set_option maxRecDepth 100000 in
set_option maxHeartbeats 2000000 in
theorem drawText_any (g : Nat) (a : Option Addr) (len cap : Nat) (zs : List Int) (w : World) (hcur : Cur w g a len cap zs) (hrd : Rd w g a len zs) :
    Calls Try.prog 24 #[.pointer (some ⟨g, 0, none⟩)] w fun e w' => ∃ s : ByteArray, e = .returned (.string s) ∧ s.size ≤ 201 ∧ Turn g w w' ∧ Cur w' g a len cap zs := by
  obtain ⟨i0, hi, hz0, hz1, hz2⟩ := info_parts info5
  have hg := hcur.hg
  have hd0 : Dr kU w (w.alloc (.cells #[] 5)) g a len cap zs (.slice (some ⟨w.heap.size, 0, none⟩) 0 0) 0 [] := ⟨Turn.of (below_alloc1 _ _), hcur.below (below_alloc1 _ _), World.ownsRow_made (base := w.heap.size) (e := 5) (size := 1) w #[] 0 (Nat.le_refl _) (by unfold maxLen; omega) rfl⟩
  have HRD : Hid (Rd w g a len zs) := hrd
  clear hrd hcur
  go_enter Try.func24, Try.ntmps24
  go_wp2_with (go_at_call 23; refine (below_any _ _ _ _ _ _ _ hd0.cur (by decide) (by decide)).mono ?_; rintro e w1 ⟨x, rfl, hx0, hx6, ht, hc⟩; have hd := hd0.call hg ht hc)
  go_loopw [3, 4] (fun lv nv wr => ∃ (k n q cap' : Nat) (M : List Int), nv = .int .i64 k ∧ lv = .slice (some ⟨q, 0, none⟩) n cap' ∧ Dr kU w wr g a len cap zs (.slice (some ⟨q, 0, none⟩) n cap') n M ∧ n + k ≤ 6) (fun _ nv _ => (intOf nv).toNat)
  case atStart => exact ⟨x.toNat, 0, _, _, [], by congr 1; omega, rfl, hd, by omega⟩
  case round =>
    clear hd0 hd ht hc
    obtain ⟨k, n, q, cap', M, rfl, rfl, hD, hml⟩ := hrel
    by_cases hlt : 0 < k
    · have hki : (0 : Int) < k := by omega
      go_wp2_with (first
        | (go_at_call 23; refine (below_any _ _ _ _ _ _ _ hD.cur (by decide) (by decide)).mono ?_; rintro e w2 ⟨y, rfl, hy0, hy3, ht2, hc2⟩; replace hD := hD.call hg ht2 hc2; clear ht2 hc2; have hsz := hD.turn.size; have hDA := hD.below (below_alloc1 w2 (.cells #[.int .u8 (97 + y)] 5)))
        | (at_builtin; refine wpList_append_lies _ rfl _ _ 22 rfl w.heap.size 5 i0 (.int .u8 0) 1 1 Try.underlying22 hi hz0 hz1 hz2 rfl (by decide) (.slice (some ⟨q, 0, none⟩) n cap') n (kU.flat M) rfl hDA.own ⟨w2.heap.size, 0, none⟩ 1 1 [.int .u8 (97 + y)] rfl rfl (cell1_at rfl) (fun x hx => by simp at hx; rcases hx with rfl; rfl) (by decide) (by unfold maxLen; omega) (by omega) (by simp; omega) _ rfl ?_; intro g' cap2 w5 hown1 hgrow hat hlt4))
      have hD4 := hDA.row (v' := .slice (some ⟨g', 0, none⟩) (n + 1) cap2) (n' := n + 1) (M' := M ++ [97 + y]) HRD.out hg hgrow (by rw [Kd.flat_append]; simpa [Kd.flat, kU] using hown1)
      go_roundw
      case rel => exact ⟨k - 1, n + 1, g', cap2, _, by congr 1; omega, rfl, hD4, by omega⟩
      case measure => simp [intOf]; omega
    · obtain rfl : k = 0 := by omega
      go_upto_if 20 with (go_at_call 25; refine (once_any _ _ _ _ _ _ _ hD.cur (by decide) (by decide)).mono ?_; rintro e w4 ⟨xb, rfl, ht3, hc3⟩; replace hD := hD.call hg ht3 hc3; clear ht3 hc3)
      cases xb
      · obtain ⟨hcv, hMn⟩ := conv_own hD.own
        have HM : Hid (M.length = n) := hMn
        clear hMn
        go_wp2
        go_ret
        exact ⟨_, rfl, by rw [strOfNums_size, HM.out]; omega, hD.turn, hD.cur⟩
      · go_wp2_with (go_at_call 23; refine (below_any _ _ _ _ _ _ _ hD.cur (by decide) (by decide)).mono ?_; rintro e w5 ⟨y, rfl, hy0, hy2, ht4, hc4⟩; obtain ⟨m, hm⟩ : ∃ m : Nat, (200 + y) = m := ⟨(200 + y).toNat, by omega⟩; have hmk := run_make (P := Try.prog) w5 22 5 i0 _ Try.underlying22 hi hz0 .i64 .i64 (m : Int) (m : Int) (by omega) (by omega) (by rw [hz2]; omega) (by omega); rw [hz1, Int.toNat_natCast] at hmk; have hcv := conv_made (W := w5) (n := m) rfl; have HM : Hid (m ≤ 201) := (by show m ≤ 201; omega); have hnm : (200 + y) = (m : Int) := hm; clear hm; simp only [Nat.mul_one] at hmk hcv)
        go_ret
        exact ⟨_, rfl, by rw [strOfNums_size]; simpa using HM.out, (hD.turn.trans ht4).alloc _, hc4.alloc _⟩

set_option maxHeartbeats 1000000 in
theorem drawSeal_any (a : Option Addr) (len cap : Nat) (zs : List Int) (g : Nat) (w : World) (hl : len ≤ 4096) (hr : Rd w g a len zs) :
    Calls Try.prog 12 #[.slice a len cap] w fun e w' => ∃ (x : Int) (s : ByteArray), e = .returned (.tuple #[.int .i64 x, .string s]) ∧ s.size ≤ 201 ∧ Below w.heap.size w w' := by
  have hr' : Rd w w.heap.size a len zs := hr.up (Below.refl _ _) (Nat.le_refl _)
  clear hr
  go_enter Try.func12, Try.ntmps12
  go_upto_region 2 with (go_at_call 21; refine (new_any a len cap zs _ hl hr').mono ?_; rintro e w1 ⟨h, rfl, rfl⟩)
  have hcur := Cur.fresh (cap := cap) (h := h) hl hr'
  have hb1 := below_alloc1 w (.cells #[.slice a len cap, .int .i64 0, .int .i64 h] 62)
  have hg : w.heap.size < (w.alloc (.cells #[.slice a len cap, .int .i64 0, .int .i64 h] 62)).heap.size := by simp
  generalize w.alloc _ = W1 at hcur hb1 hg ⊢
  have hrd := hcur.rd
  go_wp2_with (first
    | (go_at_call 22; refine (drawKey_any _ _ _ _ _ _ hcur).mono ?_; rintro e w2 ⟨x, rfl, ht2, hc2⟩)
    | (go_at_call 24; refine (drawText_any _ _ _ _ _ _ hc2 hc2.rd).mono ?_; rintro e w3 ⟨s, rfl, hs, ht3, hc3⟩))
  refine bodyPost_ret (v := .tuple #[.int .i64 x, .string s]) (by simp [results, Try.results12, go_sem]) rfl ?_
  exact ⟨_, _, rfl, hs, hb1.trans ((ht2.trans ht3).below (Nat.le_refl _) (Nat.le_of_lt hg))⟩
set_option maxHeartbeats 1000000 in
theorem drawLonger_any (a : Option Addr) (len cap : Nat) (zs : List Int) (g : Nat) (w : World) (hl : len ≤ 4096) (hr : Rd w g a len zs) :
    Calls Try.prog 10 #[.slice a len cap] w fun e w' => ∃ (x : Int) (s : ByteArray), e = .returned (.tuple #[.int .i64 x, .string s]) ∧ s.size ≤ 201 ∧ Below w.heap.size w w' := by
  go_enter Try.func10, Try.ntmps10
  go_wp2_with (go_at_call 12; refine (drawSeal_any _ _ _ _ _ _ hl hr).mono ?_; rintro e w2 ⟨x, s, rfl, hs, hb⟩)
  refine bodyPost_ret (v := .tuple #[.int .i64 x, .string s]) (by simp [results, Try.results10, go_sem]) rfl ?_
  exact ⟨_, _, rfl, hs, hb⟩

set_option maxRecDepth 100000 in
set_option maxHeartbeats 2000000 in
theorem drawChain_any (a : Option Addr) (len cap : Nat) (zs : List Int) (g : Nat) (w : World) (hl : len ≤ 4096) (hr : Rd w g a len zs) :
    Calls Try.prog 8 #[.slice a len cap] w fun e w' => ∃ (x : Int) (q n c : Nat) (L : List ByteArray), e = .returned (.tuple #[.int .i64 x, .slice (some ⟨q, 0, none⟩) n c]) ∧ Hid (L.length = n ∧ n ≤ 11 ∧ ∀ s ∈ L, s.size ≤ 201) ∧ Sg w w' [rG kT (.slice (some ⟨q, 0, none⟩) n c) L] := by
  obtain ⟨i0, hi, hz0, hz1, hz2⟩ := info_parts info9
  have hr' : Rd w w.heap.size a len zs := hr.up (Below.refl _ _) (Nat.le_refl _)
  clear hr
  go_enter Try.func8, Try.ntmps8
  go_upto_region 2 with (go_at_call 21; refine (new_any a len cap zs _ hl hr').mono ?_; rintro e w1 ⟨h, rfl, rfl⟩)
  have hcur := Cur.fresh (cap := cap) (h := h) hl hr'
  have hb1 := below_alloc1 w (.cells #[.slice a len cap, .int .i64 0, .int .i64 h] 62)
  have hgw : w.heap.size < (w.alloc (.cells #[.slice a len cap, .int .i64 0, .int .i64 h] 62)).heap.size := by simp
  generalize w.alloc _ = W1 at hcur hb1 hgw ⊢
  go_wp2_with (first
    | (go_at_call 22; refine (drawKey_any _ _ _ _ _ _ hcur).mono ?_; rintro e w2 ⟨key, rfl, ht2, hc2⟩; have hg : w.heap.size < w2.heap.size := Nat.lt_of_lt_of_le hgw ht2.size; have hd0 : Dr kT w2 (w2.alloc (.cells #[] 9)) w.heap.size a len cap zs (.slice (some ⟨w2.heap.size, 0, none⟩) 0 0) 0 [] := ⟨Turn.of (below_alloc1 _ _), hc2.below (below_alloc1 _ _), World.ownsRow_made (base := w2.heap.size) (e := 9) (size := 1) w2 #[] 0 (Nat.le_refl _) (by unfold maxLen; omega) rfl⟩)
    | (go_at_call 23; refine (below_any _ _ _ _ _ _ _ hd0.cur (by decide) (by decide)).mono ?_; rintro e w3 ⟨x, rfl, hx0, hx6, ht, hc⟩; have hd := hd0.call hg ht hc))
  have hb2 : Below w.heap.size w w2 := hb1.trans (ht2.below (Nat.le_refl _) (Nat.le_of_lt hgw))
  have HRD : Hid (Rd w2 w.heap.size a len zs) := hc2.rd
  clear hb1 ht2 hc2 hcur hgw
  go_loopw [6, 7] (fun lv nv wr => ∃ (k n q cap' : Nat) (M : List ByteArray), nv = .int .i64 k ∧ lv = .slice (some ⟨q, 0, none⟩) n cap' ∧ Dr kT w2 wr w.heap.size a len cap zs (.slice (some ⟨q, 0, none⟩) n cap') n M ∧ n + k ≤ 5 ∧ Hid (∀ s ∈ M, s.size ≤ 201)) (fun _ nv _ => (intOf nv).toNat)
  case atStart => exact ⟨x.toNat, 0, _, _, [], by congr 1; omega, rfl, hd, by omega, fun s hs => by cases hs⟩
  case round =>
    clear hd0 hd ht hc
    obtain ⟨k, n, q, cap', M, rfl, rfl, hD, hml, hMs⟩ := hrel
    by_cases hlt : 0 < k
    · have hki : (0 : Int) < k := by omega
      go_wp2_with (first
        | (go_at_call 24; refine (drawText_any _ _ _ _ _ _ hD.cur hD.cur.rd).mono ?_; rintro e w4 ⟨s, rfl, hs, ht2, hc2⟩; replace hD := hD.call hg ht2 hc2; clear ht2 hc2; have hsz := hD.turn.size; have hDA := hD.below (below_alloc1 w4 (.cells #[.string s] 9)))
        | (at_builtin; refine wpList_append_lies _ rfl _ _ 24 rfl w2.heap.size 9 i0 (.string ByteArray.empty) 1 16 Try.underlying24 hi hz0 hz1 hz2 rfl (by decide) (.slice (some ⟨q, 0, none⟩) n cap') n (kT.flat M) rfl hDA.own ⟨w4.heap.size, 0, none⟩ 1 1 [.string s] rfl rfl (cell1_at rfl) (fun x hx => by simp at hx; rcases hx with rfl; rfl) (by decide) (by unfold maxLen; omega) (by omega) (by simp; omega) _ rfl ?_; intro g' cap2 w5 hown1 hgrow hat hlt4))
      have hD4 := hDA.row (v' := .slice (some ⟨g', 0, none⟩) (n + 1) cap2) (n' := n + 1) (M' := M ++ [s]) HRD.out hg hgrow (by rw [Kd.flat_append]; simpa [Kd.flat, kT] using hown1)
      go_roundw
      case rel =>
        refine ⟨k - 1, n + 1, g', cap2, _, by congr 1; omega, rfl, hD4, by omega, fun t ht => ?_⟩
        rcases List.mem_append.mp ht with h | h
        · exact hMs.out t h
        · simp at h; subst h; exact hs
      case measure => simp [intOf]; omega
    · obtain rfl : k = 0 := by omega
      go_upto_if 25 with (go_at_call 25; refine (once_any _ _ _ _ _ _ _ hD.cur (by decide) (by decide)).mono ?_; rintro e w4 ⟨xb, rfl, ht3, hc3⟩; replace hD := hD.call hg ht3 hc3; clear ht3 hc3)
      cases xb
      · go_wp2
        refine bodyPost_ret (v := .tuple #[.int .i64 key, .slice (some ⟨q, 0, none⟩) n cap']) (by simp [results, Try.results8, go_sem]) rfl ?_
        have hMn : M.length = n := by have := hD.own.1; rw [Kd.flat_len] at this; simp [kT] at this; omega
        refine ⟨key, q, n, cap', M, rfl, ⟨hMn, by omega, hMs.out⟩, ⟨hb2.trans (hD.turn.below (Nat.le_refl _) (Nat.le_of_lt hg)), fun r hr => ?_, by simp⟩⟩
        simp at hr
        subst hr
        unfold Rw.own rG
        simp only [hMn]
        exact own_mono hD.own (Nat.le_of_lt hg)
      · go_wp2_with (go_at_call 23; refine (below_any _ _ _ _ _ _ _ hD.cur (by decide) (by decide)).mono ?_; rintro e w5 ⟨y, rfl, hy0, hy2, ht4, hc4⟩; obtain ⟨m, hm⟩ : ∃ m : Nat, (10 + y) = m := ⟨(10 + y).toNat, by omega⟩; have hmk := run_make (P := Try.prog) w5 24 9 i0 _ Try.underlying24 hi hz0 .i64 .i64 (m : Int) (m : Int) (by omega) (by omega) (by rw [hz2]; omega) (by omega); rw [hz1, Int.toNat_natCast] at hmk; have HM : Hid (m ≤ 11) := (by show m ≤ 11; omega); have hnm : (10 + y) = (m : Int) := hm; clear hm; simp only [Nat.mul_one] at hmk)
        refine bodyPost_ret (v := .tuple #[.int .i64 key, .slice (some ⟨w5.heap.size, 0, none⟩) m m]) (by simp [results, Try.results8, go_sem]) rfl ?_
        have hb5 : Below w.heap.size w w5 := hb2.trans ((hD.turn.trans ht4).below (Nat.le_refl _) (Nat.le_of_lt hg))
        have hown := World.ownsRow_lit (base := w.heap.size) (e := 9) (size := 1) w5 (madeCells #[.string ByteArray.empty] (m * 1)) m hb5.size (by have := HM.out; unfold maxLen; omega) (size_madeCells _ _)
        rw [made_flatT] at hown
        simp only [Nat.mul_one] at hown
        refine ⟨key, _, m, m, List.replicate m zT, rfl, ⟨by simp, HM.out, fun s hs => by rw [(List.mem_replicate.mp hs).2]; show (0 : Nat) ≤ 201; omega⟩, ⟨hb5.alloc hb5.size _, fun r hr => ?_, by simp⟩⟩
        simp at hr
        subst hr
        unfold Rw.own rG
        simp only [List.length_replicate]
        exact hown
end Go.Proofs.Ytmphjakdmknkhaa
