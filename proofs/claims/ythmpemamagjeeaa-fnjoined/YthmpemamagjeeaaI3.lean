/-
  The law of Joined, walked.
-/
import Derived.Test.YthmpemamagjeeaaE2
import Derived.Test.YthmpemamagjeeaaE4
import Derived.Laws.StructEq
namespace Go.Proofs.Ythmpemamagjeeaa
open Go.RowKit Go.Joins
attribute [local go_sem ↓] Go.wp_at_zero Go.wp_at_succ

set_option maxRecDepth 100000 in
set_option maxHeartbeats 2000000 in
theorem drawJoined_any (a : Option Addr) (len cap : Nat) (zs : List Int) (w : World) (hl : len ≤ 4096) (hr : Rd w w.heap.size a len zs) :
    Calls Try.prog 26 #[.slice a len cap] w fun e w' => ∃ p1 cap1 L, e = .returned (.slice p1 L.length cap1) ∧ Sx w w' [(.slice p1 L.length cap1, L)] ∧ L.length ≤ 101 := by
  obtain ⟨i0, hi, hz0, hz1, hz2⟩ := info_parts info38
  have hr0 : ∀ h : Int, Rd (w.alloc (.cells #[.slice a len cap, .int .i64 0, .int .i64 h] 97)) w.heap.size a len zs := fun h => hr.turn ((Turn.refl _ w).alloc _)
  go_enter Try.func26, Try.ntmps26
  go_upto_region 2 with (go_at_call 47; refine (new_any a len cap zs _ hl hr).mono ?_; rintro e w1 ⟨h, rfl, rfl⟩)
  have hcur := Cur.fresh (cap := cap) (h := h) hl hr
  have hrd := hr0 h
  have hbw := below_alloc1 w (.cells #[.slice a len cap, .int .i64 0, .int .i64 h] 97)
  have hsz : (w.alloc (.cells #[.slice a len cap, .int .i64 0, .int .i64 h] 97)).heap.size = w.heap.size + 1 := by simp
  generalize w.alloc _ = W at hcur hrd hbw hsz ⊢
  generalize hgg : w.heap.size = g at hcur hrd hsz ⊢
  have Hg : Hid (w.heap.size = g) := hgg
  clear hgg
  go_upto_if 7 with (go_at_call 68; refine (once_any _ _ _ _ _ _ _ hcur (by decide) (by decide)).mono ?_; rintro e w2 ⟨xb, rfl, ht2, hc2⟩)
  have hrd2 : Rd w2 g a len zs := hrd.turn ht2
  cases xb
  · go_wp2_with (go_at_call 48; refine (l3Draw_any g a len cap zs w2 hc2 hrd2).mono ?_; rintro e w3 ⟨v1, L, rfl, hD, hn⟩)
    go_ret
    obtain ⟨p1, cap1, hv1, _⟩ := Ow.form hD.own
    subst hv1
    have hgw := Hg.out
    have hz2' := ht2.size
    refine ⟨p1, cap1, L, rfl, ⟨hbw.trans ((ht2.trans hD.turn).below (by omega) (by omega)), ?_, by simp⟩, by omega⟩
    intro p hp
    simp at hp; subst hp
    exact Ow.mono hD.own (by omega)
  · go_upto_region 99 with (go_at_call 69; refine (below_any _ _ _ _ _ _ _ hc2 (by decide) (by decide)).mono ?_; rintro e w3 ⟨m, rfl, hm0, hm1, ht3, _⟩; have hmk := run_make (P := Try.prog) w3 27 38 i0 _ Try.underlying27 hi hz0 .i64 .i64 (100 + m) (100 + m) (by omega) (by omega) (by rw [hz2]; omega) (by omega); rw [hz1] at hmk)
    go_ret
    have hNn : (100 + m).toNat ≤ 101 := by omega
    generalize (100 + m).toNat = N at hNn
    have hrow0 : Ow (w3.alloc (.cells (madeCells #[.int .i64 0, .int .i64 0, .int .i64 0] (N * 3)) 38)) w3.heap.size (.slice (some ⟨w3.heap.size, 0, none⟩) N N) (List.replicate N zro) := by
      have := World.ownsRow_lit (base := w3.heap.size) (e := 38) (size := 3) w3 (madeCells #[.int .i64 0, .int .i64 0, .int .i64 0] (N * 3)) N (Nat.le_refl _) (by unfold maxLen; omega) (size_madeCells _ _)
      rw [made_flat] at this
      unfold Ow; rw [List.length_replicate]; exact this
    have hgw := Hg.out
    have hz2' := ht2.size
    have hz3' := ht3.size
    refine ⟨some ⟨w3.heap.size, 0, none⟩, N, List.replicate N zro, by rw [List.length_replicate]; rfl, ⟨(hbw.trans ((ht2.trans ht3).below (by omega) (by omega))).alloc (by omega) _, ?_, by simp⟩, by rw [List.length_replicate]; exact hNn⟩
    intro p hp
    rw [List.length_replicate] at hp
    simp at hp; subst hp
    exact Ow.mono hrow0 (by omega)

theorem sQuarters_a (c : T3) (w : World) :
    Calls Try.prog 70 #[.agg #[.int .i64 c.l, .int .i64 c.x, .int .i64 c.y]] w fun e w' => ∃ (g n cap : Nat) (Q : List T3), e = .returned (.slice (some ⟨g, 0, none⟩) n cap) ∧ n = Q.length ∧ Q.length ≤ 4 ∧ (∀ j u, (flat Q)[j]? = some u → w'.cell? ((⟨g, 0, none⟩ : Addr).add j) = some u) ∧ Below w.heap.size w w' := by
  cases hc : c.ok
  · exact (sQuarters_no (.inl hc) w).mono fun _ _ ⟨h1, h2⟩ => ⟨_, _, 0, [], h1, rfl, by simp, by simp [flat], h2⟩
  · exact sQuarters_g c hc w
set_option maxRecDepth 100000 in
set_option maxHeartbeats 4000000 in
theorem drawCovers_any (a : Option Addr) (len cap : Nat) (zs : List Int) (w : World) (hl : len ≤ 4096) (hr : Rd w w.heap.size a len zs) :
    Calls Try.prog 27 #[.slice a len cap] w fun e w' => ∃ p1 cap1 L1 p2 cap2 L2, e = .returned (.tuple #[.slice p1 L1.length cap1, .slice p2 L2.length cap2]) ∧ Sx w w' [(.slice p2 L2.length cap2, L2), (.slice p1 L1.length cap1, L1)] ∧ L1.length ≤ 30 ∧ L2.length ≤ 120 := by
  obtain ⟨i0, hi, hz0, hz1, hz2⟩ := info_parts info38
  have hr0 : ∀ h : Int, Rd (w.alloc (.cells #[.slice a len cap, .int .i64 0, .int .i64 h] 97)) w.heap.size a len zs := fun h => hr.turn ((Turn.refl _ w).alloc _)
  go_enter Try.func27, Try.ntmps27
  go_upto_region 2 with (go_at_call 47; refine (new_any a len cap zs _ hl hr).mono ?_; rintro e w1 ⟨h, rfl, rfl⟩)
  have hcur := Cur.fresh (cap := cap) (h := h) hl hr
  have hrd := hr0 h
  have hbw := below_alloc1 w (.cells #[.slice a len cap, .int .i64 0, .int .i64 h] 97)
  have hsz : (w.alloc (.cells #[.slice a len cap, .int .i64 0, .int .i64 h] 97)).heap.size = w.heap.size + 1 := by simp
  generalize w.alloc _ = W at hcur hrd hbw hsz ⊢
  generalize hgg : w.heap.size = g at hcur hrd hsz ⊢
  have Hg : Hid (w.heap.size = g) := hgg
  clear hgg
  go_upto_region 3 with (go_at_call 48; refine (l3Draw_any g a len cap zs W hcur hrd).mono ?_; rintro e w2 ⟨v1, L1, rfl, hD1, hn1⟩)
  obtain ⟨p1, cap1, hv1, _⟩ := Ow.form hD1.own
  subst hv1
  go_upto_if 13 with (go_at_call 68; refine (once_any _ _ _ _ _ _ _ hD1.cur (by decide) (by decide)).mono ?_; rintro e w3 ⟨xb, rfl, ht3, hc3⟩)
  have hgw := Hg.out
  replace hD1 := hD1.call (by omega) ht3 hc3
  clear ht3 hc3
  have hrd3 : Rd w3 g a len zs := hrd.turn hD1.turn
  have hz3 := hD1.turn.size
  have hgz : g < w3.heap.size := by omega
  cases xb
  · go_wp2_with (go_at_call 48; refine (l3Draw_any g a len cap zs w3 hD1.cur hrd3).mono ?_; rintro e w4 ⟨v2, L2, rfl, hD2, hn2⟩)
    obtain ⟨p2, cap2, hv2, _⟩ := Ow.form hD2.own
    subst hv2
    have o1 : Ow w4 W.heap.size (.slice p1 L1.length cap1) L1 := hD1.own.turn hD2.turn (by omega)
    have hb : Below w.heap.size w w4 := hbw.trans ((hD1.turn.trans hD2.turn).below (by omega) (by omega))
    refine bodyPost_ret (v := .tuple #[.slice p1 L1.length cap1, .slice p2 L2.length cap2]) (by simp [results, Try.results27, go_sem]) rfl ⟨p1, cap1, L1, p2, cap2, L2, rfl, ⟨hb, ?_, ?_⟩, hn1, by omega⟩
    · intro pr hpr
      simp at hpr
      rcases hpr with rfl | rfl
      · exact Ow.mono hD2.own (by omega)
      · exact Ow.mono o1 (by omega)
    · refine .cons (fun q hq => ?_) (.cons (by simp) .nil)
      simp at hq; subst hq
      cases hv : (Value.slice p2 L2.length cap2).ownBlock with
      | none => exact .inl rfl
      | some k =>
        refine .inr fun e => ?_
        have a1 := (hD2.own.lt k hv).1
        have a2 := (hD1.own.lt k e.symm).2
        omega
  · have hd0 : Dr w3 (w3.alloc (.cells #[] 38)) g a len cap zs (.slice (some ⟨w3.heap.size, 0, none⟩) 0 0) [] := ⟨Turn.of (below_alloc1 _ _), hD1.cur.below (below_alloc1 _ _), own_empty w3 _ (Nat.le_refl _)⟩
    have hsep : ∀ k, (Value.slice p1 L1.length cap1).ownBlock = some k → k < w3.heap.size := fun k e => (hD1.own.lt k e).2
    go_wp2_with fail
    go_loopw [6, 7] (fun lv i wr => ∃ (k : Nat) (M : List T3), k ≤ L1.length ∧ i = .int .i64 k ∧ Dr w3 wr g a len cap zs lv M ∧ Ow wr W.heap.size (.slice p1 L1.length cap1) L1 ∧ M.length ≤ 4 * k) (fun _ i _ => L1.length - (intOf i).toNat)
    case atStart => exact ⟨0, [], by omega, rfl, hd0, own_of_below hD1.own (below_alloc1 _ _), by simp⟩
    case round =>
      obtain ⟨k, M, hk, rfl, hD, hO1, hml⟩ := hrel
      by_cases hlt : k < L1.length
      · have hki : (k : Int) < L1.length := by omega
        go_upto_if 22 with (go_at_call 68; refine (once_any _ _ _ _ _ _ _ hD.cur (by decide) (by decide)).mono ?_; rintro e w5 ⟨xb, rfl, ht5, hc5⟩; replace hD := hD.call hgz ht5 hc5; replace hO1 := hO1.turn ht5 (by omega))
        cases xb
        · go_wp2
          go_roundw
          case rel => exact ⟨k + 1, M, by omega, by go_num, hD, hO1, by omega⟩
          case measure => simp [intOf]; omega
        · obtain ⟨gg, off, rfl, hC⟩ := (Ow.sl hO1).at hlt
          obtain ⟨c0, c1, c2⟩ := hC.2 k L1[k] (List.getElem?_eq_getElem hlt)
          go_wp2_with (first
            | (go_at_call 70; refine (sQuarters_a L1[k] _).mono ?_; rintro e w6 ⟨gq, nq, capq, Q, rfl, rfl, hQ4, hQn, hb6⟩; replace hD := hD.below hb6; replace hO1 := own_of_below hO1 hb6)
            | (at_builtin; refine wpList_append_own_at _ rfl _ _ 27 rfl w3.heap.size 38 i0 (.agg #[.int .i64 0, .int .i64 0, .int .i64 0]) 3 24 Try.underlying27 hi hz0 hz1 hz2 rfl (by decide) _ _ _ rfl hD.own ⟨gq, 0, none⟩ Q.length capq (flat Q) rfl (flat_len Q) hQn (flat_one Q) (by unfold maxLen; omega) (by omega) (by have := hD.turn.size; omega) ?_; intro v4 w7 hown4 hgrow4 _ hat4))
          go_roundw
          case rel =>
            refine ⟨k + 1, M ++ Q, by omega, by go_num, hD.row hrd3 hgz hgrow4 (own_more rfl hown4), hO1.kept hgrow4 ?_, by simp; omega⟩
            cases hv : (Value.slice (some ⟨gg, off, none⟩) L1.length cap1).ownBlock with
            | none => exact .inl rfl
            | some q =>
              refine .inr fun e => ?_
              have a1 := hsep q hv
              have a2 := (hD.own.lt q e.symm).1
              omega
          case measure => simp [intOf]; omega
      · obtain rfl : k = L1.length := by omega
        go_wp2
        obtain ⟨p2, cap2, hv2, _⟩ := Ow.form hD.own
        subst hv2
        have hz4 := hD.turn.size
        have hb := hbw.trans ((hD1.turn.trans hD.turn).below (B := w.heap.size) (by omega) (by omega))
        refine bodyPost_ret (v := .tuple #[.slice p1 L1.length cap1, .slice p2 M.length cap2]) (by simp [results, Try.results27, go_sem]) rfl ⟨p1, cap1, L1, p2, cap2, M, rfl, ⟨hb, ?_, ?_⟩, hn1, by omega⟩
        · intro pr hpr
          simp at hpr
          rcases hpr with rfl | rfl
          · exact Ow.mono hD.own (by omega)
          · exact Ow.mono hO1 (by omega)
        · refine .cons (fun q hq => ?_) (.cons (by simp) .nil)
          simp at hq; subst hq
          cases hv : (Value.slice p2 M.length cap2).ownBlock with
          | none => exact .inl rfl
          | some k =>
            refine .inr fun e => ?_
            have a1 := (hD.own.lt k hv).1
            have a2 := hsep k e.symm
            omega
end Go.Proofs.Ythmpemamagjeeaa
namespace Go.Proofs.Ythmpemamagjeeaa
open Go.RowKit Go.Joins

theorem join_canon {L : List T3} (hv : okL L = true) : Canon (joinL L) ∧ ∀ n, cov (joinL L) n ↔ cov L n := by
  unfold joinL; rw [hv, if_pos rfl]; exact dec_canon (okL_all hv)
theorem join_ok {L : List T3} (h : joinL L ≠ []) : okL L = true := by
  cases hv : okL L
  · unfold joinL at h; rw [hv] at h; simp at h
  · rfl
theorem srt_ne {J : List T3} (h : J.Pairwise fun a b => a.hi ≤ b.lo) {i n : Nat} (hi : i < J.length) (hn : n < J.length) (hne : n ≠ i) : J[i].hi ≤ J[n].lo ∨ J[n].hi ≤ J[i].lo := by
  rcases Nat.lt_or_gt_of_ne hne with h1 | h1
  · exact .inr (List.pairwise_iff_getElem.mp h n i hn hi h1)
  · exact .inl (List.pairwise_iff_getElem.mp h i n hi hn h1)
theorem apart_ins {J : List T3} (hJ : Canon J) {i n : Nat} (hi : i < J.length) (hn : n < J.length) (hne : n ≠ i) : insT J[i] J[n] = false := by
  rw [Bool.eq_false_iff]
  intro h
  obtain ⟨h1, h2⟩ := (ins_iff (hJ.ok _ (List.getElem_mem hi)) (hJ.ok _ (List.getElem_mem hn))).mp h
  have a := J[i].lt
  have b := J[n].lt
  rcases srt_ne hJ.srt hi hn hne with h | h <;> omega
theorem apart_ne {J : List T3} (hJ : Canon J) {i n : Nat} (hi : i < J.length) (hn : n < J.length) (hne : n ≠ i) : J[n] ≠ J[i] := by
  intro e
  have a := J[i].lt
  have := srt_ne hJ.srt hi hn hne
  rw [e] at this
  omega
/-- Which quarter of its way up a Cell is. -/
def T3.ix (c : T3) : Nat := (2 * (c.y % 2) + c.x % 2).toNat
theorem ix_lt (c : T3) : c.ix < 4 := by unfold T3.ix; omega
theorem is_q {c u : T3} (hl : 0 < c.l) (h : c.up = u) : c = u.q c.ix := by rw [← h]; exact (up_q hl).symm
/-- Whether n is one that the law counts beside i. -/
def sib (J : List T3) (i n : Nat) : Bool := decide (n ≠ i ∧ (J.getD n zro).l = (J.getD i zro).l ∧ (J.getD n zro).up.l = (J.getD i zro).up.l ∧ (J.getD n zro).up.x = (J.getD i zro).up.x ∧ (J.getD n zro).up.y = (J.getD i zro).up.y)
def sibs (J : List T3) (i : Nat) : Nat → Nat
  | 0 => 0
  | n + 1 => sibs J i n + (if sib J i n then 1 else 0)
theorem up_ext {a b : T3} (h1 : a.l = b.l) (h2 : a.x = b.x) (h3 : a.y = b.y) : a = b := by cases a; cases b; simp_all
theorem sibs_le {J : List T3} (hJ : Canon J) {i : Nat} (hi : i < J.length) (hl : 0 < J[i].l) : sibs J i J.length ≤ 2 := by
  have hok := hJ.ok _ (List.getElem_mem hi)
  have hup := up_ok' hok hl
  have hul : J[i].up.l < 8 := by have := (ok_iff.mp hok).2.1; show J[i].l - 1 < 8; omega
  obtain ⟨j0, hj0, hno⟩ : ∃ j, j < 4 ∧ J[i].up.q j ∉ J := by
    apply Classical.byContradiction
    intro h
    exact hJ.nof _ hup hul (fun j hj => Classical.byContradiction fun hn => h ⟨j, hj, hn⟩)
  have hqi := is_q hl (rfl : J[i].up = J[i].up)
  have hix := ix_lt J[i]
  have hne0 : J[i].ix ≠ j0 := fun e => hno (by rw [← e, ← hqi]; exact List.getElem_mem hi)
  obtain ⟨p, q, hp, hq, hall⟩ : ∃ p q : Nat, p < 4 ∧ q < 4 ∧ ∀ j, j < 4 → j ≠ J[i].ix → j ≠ j0 → j = p ∨ j = q := by
    generalize J[i].ix = a at hix hne0
    have h1 : a = 0 ∨ a = 1 ∨ a = 2 ∨ a = 3 := by omega
    have h2 : j0 = 0 ∨ j0 = 1 ∨ j0 = 2 ∨ j0 = 3 := by omega
    rcases h1 with rfl | rfl | rfl | rfl <;> rcases h2 with rfl | rfl | rfl | rfl
    all_goals first
      | exact absurd rfl hne0
      | exact ⟨2, 3, by omega, by omega, fun j h1 h2 h3 => by omega⟩
      | exact ⟨1, 3, by omega, by omega, fun j h1 h2 h3 => by omega⟩
      | exact ⟨1, 2, by omega, by omega, fun j h1 h2 h3 => by omega⟩
      | exact ⟨0, 3, by omega, by omega, fun j h1 h2 h3 => by omega⟩
      | exact ⟨0, 2, by omega, by omega, fun j h1 h2 h3 => by omega⟩
      | exact ⟨0, 1, by omega, by omega, fun j h1 h2 h3 => by omega⟩
  have key : ∀ n (hn : n < J.length), sib J i n = true → J[n] = J[i].up.q p ∨ J[n] = J[i].up.q q := by
    intro n hn hs
    have hs := of_decide_eq_true hs
    simp only [List.getD_eq_getElem?_getD, List.getElem?_eq_getElem hn, List.getElem?_eq_getElem hi, Option.getD_some] at hs
    obtain ⟨h1, h2, h3, h4, h5⟩ := hs
    have hu : J[n].up = J[i].up := up_ext h3 h4 h5
    have hqn := is_q (c := J[n]) (u := J[i].up) (by omega) hu
    have hxn := ix_lt J[n]
    have e1 : J[n].ix ≠ J[i].ix := fun e => apart_ne hJ hi hn h1 (by rw [hqn, e]; exact hqi.symm)
    have e2 : J[n].ix ≠ j0 := fun e => hno (by rw [← e, ← hqn]; exact List.getElem_mem hn)
    rcases hall _ hxn e1 e2 with e | e
    · left; rw [hqn, e]
    · right; rw [hqn, e]
  have inv : ∀ k, k ≤ J.length → ∃ x y : Nat, sibs J i k ≤ x + y ∧ x ≤ 1 ∧ y ≤ 1 ∧ (x = 1 → ∃ n, ∃ hn : n < J.length, n < k ∧ J[n] = J[i].up.q p) ∧ (y = 1 → ∃ n, ∃ hn : n < J.length, n < k ∧ J[n] = J[i].up.q q) := by
    intro k
    induction k with
    | zero => intro _; exact ⟨0, 0, by simp [sibs], by omega, by omega, by omega, by omega⟩
    | succ k ih =>
      intro hk
      obtain ⟨x, y, h1, h2, h3, h4, h5⟩ := ih (by omega)
      have h4' : x = 1 → ∃ n, ∃ hn : n < J.length, n < k + 1 ∧ J[n] = J[i].up.q p := fun e => by obtain ⟨n, hn, h, h'⟩ := h4 e; exact ⟨n, hn, by omega, h'⟩
      have h5' : y = 1 → ∃ n, ∃ hn : n < J.length, n < k + 1 ∧ J[n] = J[i].up.q q := fun e => by obtain ⟨n, hn, h, h'⟩ := h5 e; exact ⟨n, hn, by omega, h'⟩
      cases hs : sib J i k
      · exact ⟨x, y, by simp [sibs, hs]; exact h1, h2, h3, h4', h5'⟩
      · have hkl : k < J.length := by omega
        rcases key k hkl hs with e | e
        · have hx : x = 0 := by
            rcases Nat.lt_or_ge 0 x with h | h
            · obtain ⟨n, hn, hlt, h'⟩ := h4 (by omega)
              exact (apart_ne hJ hkl hn (by omega) (h'.trans e.symm)).elim
            · omega
          exact ⟨1, y, by simp [sibs, hs]; omega, by omega, h3, fun _ => ⟨k, hkl, by omega, e⟩, h5'⟩
        · have hy : y = 0 := by
            rcases Nat.lt_or_ge 0 y with h | h
            · obtain ⟨n, hn, hlt, h'⟩ := h5 (by omega)
              exact (apart_ne hJ hkl hn (by omega) (h'.trans e.symm)).elim
            · omega
          exact ⟨x, 1, by simp [sibs, hs]; omega, h2, by omega, h4', fun _ => ⟨k, hkl, by omega, e⟩⟩
  obtain ⟨x, y, h1, h2, h3, _, _⟩ := inv J.length (Nat.le_refl _)
  omega
theorem join_okL {L : List T3} (hv : okL L = true) (hn : (joinL L).length ≤ 100) : okL (joinL L) = true := by
  unfold okL; rw [decide_eq_true hn, Bool.true_and, List.all_eq_true]; exact (join_canon hv).1.ok
theorem cov_two {L K : List T3} (hL : okL L = true) (hK : okL K = true) (h : ∀ n, cov K n → cov L n) : covB L K = true := by
  unfold covB covAll
  rw [hL, hK, Bool.and_self, Bool.true_and, List.all_eq_true]
  intro c hc
  have hco := okL_all hK c hc
  rw [beq_iff_eq, (muF_tells (okL_all hL)).two c hco]
  exact fun n hn => h n ⟨c, hc, hn⟩
theorem join_covers {L : List T3} (hv : okL L = true) (hn : (joinL L).length ≤ 100) : covB (joinL L) L = true ∧ covB L (joinL L) = true :=
  ⟨cov_two (join_okL hv hn) hv (fun n h => ((join_canon hv).2 n).mpr h), cov_two hv (join_okL hv hn) (fun n h => ((join_canon hv).2 n).mp h)⟩
theorem join_reach {L : List T3} (hv : okL L = true) (hn : (joinL L).length ≤ 100) (s t : Int) : reachI (joinL L) s t = reachI L s t := by
  cases hs : spB s t
  · simp [reachI, hs]
  · rw [Bool.eq_iff_iff, reach_iff (join_okL hv hn) hs, reach_iff hv hs]
    exact (join_canon hv).2 _
end Go.Proofs.Ythmpemamagjeeaa
namespace Go.Proofs.Ythmpemamagjeeaa
open Go.RowKit Go.Joins
attribute [local go_sem ↓] Go.wp_at_zero Go.wp_at_succ

/-- A frame of 163 slots of which some are told. -/
structure Fj (A : Act) (l : List (Nat × Value)) : Prop where
  size : A.tmps.size = 163
  has : ∀ p ∈ l, A.tmps[p.1]? = some p.2
theorem Fj.get {A : Act} {l : List (Nat × Value)} (h : Fj A l) {d : Nat} {v : Value} (hm : (d, v) ∈ l) : A.tmps[d]? = some v := h.has _ hm
theorem Fj.put {A : Act} {l : List (Nat × Value)} (h : Fj A l) {d : Nat} {v : Value} (hd : d < 163) (hne : ∀ p ∈ l, p.1 ≠ d) : Fj (A.put (some d) v) ((d, v) :: l) := by
  refine ⟨by simp [Act.put, h.size], fun p hp => ?_⟩
  rcases List.mem_cons.mp hp with rfl | hp
  · show (A.tmps.setIfInBounds d v)[d]? = some v
    rw [Array.getElem?_setIfInBounds_self_of_lt (by rw [h.size]; exact hd)]
  · show (A.tmps.setIfInBounds d v)[p.1]? = some p.2
    rw [Array.getElem?_setIfInBounds_ne (Ne.symm (hne p hp))]
    exact h.has p hp
section
variable {ops : Array Oper} {C : World → Prop} {Q : Act → Prop} {A : Act} {o : Oper} {rest : List Oper} {l : List (Nat × Value)} {d e j : Nat} {v : Value} {want b : Bool}
theorem j_step (hf : Fj A l) (hw : o.guard = none) (hd : o.dst = some d) (hlt : d < 163) (hne : ∀ p ∈ l, p.1 ≠ d)
    (hq : ∀ w, C w → o.quietAt Try.prog A C w v) (k : ∀ A', A' = A.put (some d) v → Fj A' ((d, v) :: l) → wpQuiet Try.prog ops C Q rest A') : wpQuiet Try.prog ops C Q (o :: rest) A :=
  BigFrame.wpQuiet_want (by simp [Region.wanted, hw]) (fun K hK => ⟨v, hq, hK _ (by rw [hd]; exact k _ rfl (hf.put hlt hne))⟩)
theorem j_want (hf : Fj A l) (hg : o.guard = some (j, want)) (hj : (ops[j]?).bind (·.dst) = some e) (hv : (e, .bool want) ∈ l) (hd : o.dst = some d) (hlt : d < 163) (hne : ∀ p ∈ l, p.1 ≠ d)
    (hq : ∀ w, C w → o.quietAt Try.prog A C w v) (k : ∀ A', A' = A.put (some d) v → Fj A' ((d, v) :: l) → wpQuiet Try.prog ops C Q rest A') : wpQuiet Try.prog ops C Q (o :: rest) A :=
  BigFrame.wpQuiet_want (by rw [Region.wanted, hg]; simp [yielded, hj, hf.get hv]) (fun K hK => ⟨v, hq, hK _ (by rw [hd]; exact k _ rfl (hf.put hlt hne))⟩)
theorem j_skip (hf : Fj A l) (hg : o.guard = some (j, want)) (hj : (ops[j]?).bind (·.dst) = some e) (hv : (e, .bool b) ∈ l) (hb : (b == want) = false)
    (hd : o.dst = some d) (hlt : d < 163) (hne : ∀ p ∈ l, p.1 ≠ d) (k : ∀ A', A' = A.put (some d) undef → Fj A' ((d, undef) :: l) → wpQuiet Try.prog ops C Q rest A') : wpQuiet Try.prog ops C Q (o :: rest) A :=
  BigFrame.wpQuiet_skip (by rw [Region.wanted, hg]; simp [yielded, hj, hf.get hv]; simpa using hb) (by rw [hd]; exact k _ rfl (hf.put hlt hne))
theorem j_skipU (hf : Fj A l) (hg : o.guard = some (j, want)) (hj : (ops[j]?).bind (·.dst) = some e) (hv : (e, undef) ∈ l)
    (hd : o.dst = some d) (hlt : d < 163) (hne : ∀ p ∈ l, p.1 ≠ d) (k : ∀ A', A' = A.put (some d) undef → Fj A' ((d, undef) :: l) → wpQuiet Try.prog ops C Q rest A') : wpQuiet Try.prog ops C Q (o :: rest) A :=
  BigFrame.wpQuiet_skip (by rw [Region.wanted, hg]; simp [yielded, hj, hf.get hv, undef]) (by rw [hd]; exact k _ rfl (hf.put hlt hne))
end

theorem run_eqlT (a b : T3) (w : World) : (binOp .eql 38 (.agg #[.int .i64 a.l, .int .i64 a.x, .int .i64 a.y]) (.agg #[.int .i64 b.l, .int .i64 b.x, .int .i64 b.y])).run Try.prog w = .ok (.bool (eqT a b)) w := by
  rw [run_eql_struct, show (10000 : Nat) = 9998 + 1 + 1 from rfl, run_eq38]
  rfl
theorem sib_is {J : List T3} (hJ : Canon J) {i n : Nat} (hi : i < J.length) (hn : n < J.length) (hne : n ≠ i) : sib J i n = (J[n].l == J[i].l && eqT J[n].gup J[i].gup) := by
  have gi : J.getD i zro = J[i] := by simp [List.getD, hi]
  have gn : J.getD n zro = J[n] := by simp [List.getD, hn]
  have oi := hJ.ok _ (List.getElem_mem hi)
  have on := hJ.ok _ (List.getElem_mem hn)
  have ap := apart_ne hJ hi hn hne
  unfold sib
  rw [gi, gn]
  generalize J[i] = a at *
  generalize J[n] = b at *
  by_cases hl : b.l = a.l
  · have h0 : a.l ≠ 0 := by
      intro h0
      apply ap
      obtain ⟨_, _, a1, a2, a3, a4⟩ := ok_iff.mp oi
      obtain ⟨_, _, b1, b2, b3, b4⟩ := ok_iff.mp on
      rw [hl] at b2 b4
      rw [h0] at a2 a4 b2 b4
      refine up_ext hl ?_ ?_
      · simp at a2 b2; omega
      · simp at a4 b4; omega
    have ga : a.gup = a.up := by
      have h' : cellB a.l a.x a.y = true := oi
      simp [T3.gup, uL, uX, uY, h', h0, T3.up]
    have gb : b.gup = b.up := by
      have h' : cellB b.l b.x b.y = true := on
      simp [T3.gup, uL, uX, uY, h', show b.l ≠ 0 by omega, T3.up]
    rw [ga, gb]
    simp [hl, hne, eqT]
    rfl
  · simp [hl]

set_option maxRecDepth 100000 in
set_option maxHeartbeats 8000000 in
theorem joined_small (a0 : Option Addr) (len cap : Nat) (zs : List Int) (w : World) (hl : len ≤ 4096) (hr : Rd w w.heap.size a0 len zs) :
    Calls Try.prog 4 #[.slice a0 len cap] w fun e w' => e = .returned (.bool true) ∧ Below w.heap.size w w' := by
  have hl' : decide (4096 < (len : Int)) = false := by simp; omega
  have hrw : ∀ {W : World}, Below w.heap.size w W → Rd W (W.heap.size) a0 len zs := fun hb => hr.up hb hb.size
  go_enter Try.func4, Try.ntmps4
  go_upto_region 4 with (first
    | (go_at_call 11; refine (big_any _ _ _ _).mono ?_; rintro e w1 ⟨rfl, rfl⟩)
    | (go_at_call 26; refine (drawJoined_any a0 len cap zs _ hl hr).mono ?_; rintro e w1 ⟨p3, cap3, L, rfl, hx, hnL⟩))
  generalize hJd : joinL L = J
  have hJl : J.length ≤ 65536 := by rw [← hJd]; exact joinL_len L
  have HJ : Hid (joinL L = J) := hJd
  clear hJd
  go_upto_region 5 with (go_at_call 25; refine (iJoined_v HJ.out _ _ _ (Ow.sl hx.o0) (Ow.pl hx.o0) (by omega)).mono ?_; rintro e w2 ⟨p4, cap4, rfl, hO4, hb2⟩; replace hx := hx.add hO4 hb2)
  clear hO4 hb2
  go_upto_region 6 with (go_at_call 27; refine (drawCovers_any a0 len cap zs _ hl (hrw hx.bel)).mono ?_; rintro e w3 ⟨p5, cap5, A, p6, cap6, B, rfl, hx3, hnA, hnB⟩)
  have hxa := hx.bel.size
  have hy : Sx w w3 [(.slice p4 J.length cap4, J), (.slice p3 L.length cap3, L)] := hx.step hx3.bel
  generalize hv : covB A B = v
  have oA := Ow.sl hx3.o1
  have oB := Ow.sl hx3.o0
  have plA := Ow.pl hx3.o1
  go_upto_if 38 with (first
    | (go_at_call 28; refine (iCovers_v hv _ _ _ _ _ oA plA (by omega) oB (by omega)).mono ?_; rintro e w4 ⟨rfl, hb4⟩; replace hy := hy.step hb4; replace oA := oA.step hb4; replace oB := oB.step hb4)
    | (go_at_call 29; refine (sJoined_v HJ.out _ _ _ (Ow.sl hy.o1) (by omega)).mono ?_; rintro e w4 ⟨p7, cap7, rfl, hO7, hb7⟩; replace hy := hy.add hO7 hb7; replace oA := oA.step hb7; replace oB := oB.step hb7)
    | (go_at_call 15; refine (likeCells_same _ _ _ _ J _ (Ow.sl hy.o1) (Ow.sl hy.o0) (by omega)).mono ?_; rintro e w4 ⟨rfl, hb8⟩; replace hy := (hy.step hb8).d0; replace oA := oA.step hb8; replace oB := oB.step hb8)
    | (go_at_call 30; refine (sCovers_v hv _ _ _ _ _ oA (by omega) oB (by omega)).mono ?_; rintro e w4 ⟨rfl, hb9⟩; replace hy := hy.step hb9))
  clear oA oB plA hx hx3
  by_cases hne : J = []
  · subst hne
    go_wp2_with (go_at_call 29; refine (sJoined_v HJ.out _ _ _ (Ow.sl hy.o1) (by omega)).mono ?_; rintro e w4 ⟨p7, cap7, rfl, hO7, hb7⟩; replace hy := hy.add hO7 hb7)
    go_ret
    exact ⟨rfl, hy.bel⟩
  have hd0 : ((J.length : Int) == 0) = false := by simp [hne]
  have hvL := join_ok (L := L) (fun h => hne (HJ.out.symm.trans h))
  have hcan := (join_canon hvL).1
  have hcvs := join_covers hvL
  have hrch := join_reach hvL
  rw [HJ.out] at hcan hcvs hrch
  go_wp2_with fail
  go_loopw [8] (fun i wr => ∃ k : Nat, k ≤ J.length ∧ i = .int .i64 k ∧ Sx w wr [(.slice p4 J.length cap4, J), (.slice p3 L.length cap3, L)]) (fun i _ => J.length - (intOf i).toNat)
  case atStart => exact ⟨0, by omega, rfl, hy⟩
  case round =>
    clear hy
    obtain ⟨k, hk, rfl, hy⟩ := hrel
    by_cases hlt : k < J.length
    · have hki : (k : Int) < J.length := by omega
      go_wp2_with fail
      go_loopw [9, 10] (fun av nv wq => ∃ n : Nat, n ≤ J.length ∧ nv = .int .i64 n ∧ av = .int .i64 (sibs J k n : Int) ∧ sibs J k n ≤ n ∧ Sx w wq [(.slice p4 J.length cap4, J), (.slice p3 L.length cap3, L)]) (fun _ nv _ => J.length - (intOf nv).toNat)
      case atStart => exact ⟨0, by omega, rfl, rfl, by simp [sibs], hy⟩
      case round =>
        clear hy
        obtain ⟨n, hn, rfl, rfl, hsn, hy⟩ := hrel
        by_cases hltn : n < J.length
        · have hni : (n : Int) < J.length := by omega
          go_upto_region 18 with fail
          go_cut [97] from 58 to 96 (fun s97 wx => s97 = .bool (sib J k n) ∧ Sx w wx [(.slice p4 J.length cap4, J), (.slice p3 L.length cap3, L)])
          case first =>
            by_cases hnk : n = k
            · have hnb : ((n : Int) != (k : Int)) = false := by simp [hnk]
              have hsf : Value.bool (sib J k n) = Value.bool false := by simp [sib, hnk]
              clear hnk
              go_quiet (fail)
              go_wp2_with fail
              go_meet
              exact ⟨hsf.symm, hy.step (below_drewN _ _)⟩
            obtain ⟨g, off, rfl, hC⟩ := (Ow.sl hy.o0).at hlt
            have hS : ∀ w', Sx w w' [(.slice (some ⟨g, off, none⟩) J.length cap4, J), (.slice p3 L.length cap3, L)] → ((w'.cell? ⟨g, off + k * 3, none⟩ = some (.int .i64 J[k].l) ∧ w'.cell? ⟨g, off + k * 3 + 1, none⟩ = some (.int .i64 J[k].x) ∧ w'.cell? ⟨g, off + k * 3 + 2, none⟩ = some (.int .i64 J[k].y)) ∧ (w'.cell? ⟨g, off + n * 3, none⟩ = some (.int .i64 J[n].l) ∧ w'.cell? ⟨g, off + n * 3 + 1, none⟩ = some (.int .i64 J[n].x) ∧ w'.cell? ⟨g, off + n * 3 + 2, none⟩ = some (.int .i64 J[n].y))) := by
              intro w' h
              obtain ⟨g', off', e, hC'⟩ := (Ow.sl h.o0).at hlt
              injection e with e
              injection e with e1 e2
              subst e1 e2
              exact ⟨hC'.2 k J[k] (List.getElem?_eq_getElem hlt), hC'.2 n J[n] (List.getElem?_eq_getElem hltn)⟩
            have hcc := hS _ hy
            have hk0 : (0 : Int) ≤ (k : Int) := by omega
            have hn0 : (0 : Int) ≤ (n : Int) := by omega
            have hi1 := apart_ins hcan hlt hltn hnk
            have hsib := sib_is hcan hlt hltn hnk
            generalize J[k] = a at hi1 hsib hS hcc
            generalize J[n] = b at hi1 hsib hS hcc
            generalize hu1 : b.gup = u1 at hsib
            generalize hu2 : a.gup = u2 at hsib
            by_cases hll : b.l = a.l
            · have hlb : (b.l == a.l) = true := by simp [hll]
              rw [hlb, Bool.true_and] at hsib
              refine wp_region_quiet (C := fun w' => Sx w w' [(.slice (some ⟨g, off, none⟩) J.length cap4, J), (.slice p3 L.length cap3, L)]) (by kernel_rfl) (by kernel_rfl) (hy.step (Below.refl _ _).drew) ?_
              refine q_intro (fun A hA => ?_)
              have hf : Fj A [(4, .slice (some ⟨g, off, none⟩) J.length cap4), (8, .int .i64 (k : Int)), (10, .int .i64 (n : Int))] := by subst hA; exact ⟨rfl, by simp⟩
              refine j_step hf (d := 58) (v := .int .i64 (n : Int)) rfl rfl (by decide) (by simp) (fun w' hw' => ?_) (fun A hA58 hf => ?_)
              · have f10 := hf.get (d := 10) (v := .int .i64 (n : Int)) (by simp)
                clear hf
                simp [Oper.quietAt, Oper.quietUpon, go_sem, f10]
              refine j_step hf (d := 59) (v := .int .i64 (k : Int)) rfl rfl (by decide) (by simp) (fun w' hw' => ?_) (fun A hA59 hf => ?_)
              · have f8 := hf.get (d := 8) (v := .int .i64 (k : Int)) (by simp)
                clear hf
                simp [Oper.quietAt, Oper.quietUpon, go_sem, f8]
              refine j_step hf (d := 60) (v := .bool true) rfl rfl (by decide) (by simp) (fun w' hw' => ?_) (fun A hA60 hf => ?_)
              · have f58 := hf.get (d := 58) (v := .int .i64 (n : Int)) (by simp)
                have f59 := hf.get (d := 59) (v := .int .i64 (k : Int)) (by simp)
                clear hf
                simp [Oper.quietAt, Oper.quietUpon, go_sem, f58, f59]
                omega
              refine j_step hf (d := 61) (v := .bool true) rfl rfl (by decide) (by simp) (fun w' hw' => ?_) (fun A hA61 hf => ?_)
              · have f60 := hf.get (d := 60) (v := .bool true) (by simp)
                clear hf
                simp [Oper.quietAt, Oper.quietUpon, go_sem, f60]
              refine j_want hf (d := 62) (v := .slice (some ⟨g, off, none⟩) J.length cap4) (e := 61) rfl rfl (by simp) rfl (by decide) (by simp) (fun w' hw' => ?_) (fun A hA62 hf => ?_)
              · have f4 := hf.get (d := 4) (v := .slice (some ⟨g, off, none⟩) J.length cap4) (by simp)
                clear hf
                simp [Oper.quietAt, Oper.quietUpon, go_sem, f4]
              refine j_want hf (d := 63) (v := .int .i64 (k : Int)) (e := 61) rfl rfl (by simp) rfl (by decide) (by simp) (fun w' hw' => ?_) (fun A hA63 hf => ?_)
              · have f8 := hf.get (d := 8) (v := .int .i64 (k : Int)) (by simp)
                clear hf
                simp [Oper.quietAt, Oper.quietUpon, go_sem, f8]
              refine j_want hf (d := 64) (v := .pointer (some ⟨g, off + k * 3, none⟩)) (e := 61) rfl rfl (by simp) rfl (by decide) (by simp) (fun w' hw' => ?_) (fun A hA64 hf => ?_)
              · have f62 := hf.get (d := 62) (v := .slice (some ⟨g, off, none⟩) J.length cap4) (by simp)
                have f63 := hf.get (d := 63) (v := .int .i64 (k : Int)) (by simp)
                clear hf
                simp [Oper.quietAt, Oper.quietUpon, go_sem, f62, f63, hki]
              refine j_want hf (d := 65) (v := .agg #[.int .i64 a.l, .int .i64 a.x, .int .i64 a.y]) (e := 61) rfl rfl (by simp) rfl (by decide) (by simp) (fun w' hw' => ?_) (fun A hA65 hf => ?_)
              · have hc := hS _ hw'
                have f64 := hf.get (d := 64) (v := .pointer (some ⟨g, off + k * 3, none⟩)) (by simp)
                clear hf
                simp [Oper.quietAt, Oper.quietUpon, go_sem, f64, hc]
              refine j_want hf (d := 66) (v := .slice (some ⟨g, off, none⟩) J.length cap4) (e := 61) rfl rfl (by simp) rfl (by decide) (by simp) (fun w' hw' => ?_) (fun A hA66 hf => ?_)
              · have f4 := hf.get (d := 4) (v := .slice (some ⟨g, off, none⟩) J.length cap4) (by simp)
                clear hf
                simp [Oper.quietAt, Oper.quietUpon, go_sem, f4]
              refine j_want hf (d := 67) (v := .int .i64 (n : Int)) (e := 61) rfl rfl (by simp) rfl (by decide) (by simp) (fun w' hw' => ?_) (fun A hA67 hf => ?_)
              · have f10 := hf.get (d := 10) (v := .int .i64 (n : Int)) (by simp)
                clear hf
                simp [Oper.quietAt, Oper.quietUpon, go_sem, f10]
              refine j_want hf (d := 68) (v := .pointer (some ⟨g, off + n * 3, none⟩)) (e := 61) rfl rfl (by simp) rfl (by decide) (by simp) (fun w' hw' => ?_) (fun A hA68 hf => ?_)
              · have f66 := hf.get (d := 66) (v := .slice (some ⟨g, off, none⟩) J.length cap4) (by simp)
                have f67 := hf.get (d := 67) (v := .int .i64 (n : Int)) (by simp)
                clear hf
                simp [Oper.quietAt, Oper.quietUpon, go_sem, f66, f67, hni]
              refine j_want hf (d := 69) (v := .agg #[.int .i64 b.l, .int .i64 b.x, .int .i64 b.y]) (e := 61) rfl rfl (by simp) rfl (by decide) (by simp) (fun w' hw' => ?_) (fun A hA69 hf => ?_)
              · have hc := hS _ hw'
                have f68 := hf.get (d := 68) (v := .pointer (some ⟨g, off + n * 3, none⟩)) (by simp)
                clear hf
                simp [Oper.quietAt, Oper.quietUpon, go_sem, f68, hc]
              refine j_want hf (d := 70) (v := .bool false) (e := 61) rfl rfl (by simp) rfl (by decide) (by simp) (fun w' hw' => ?_) (fun A hA70 hf => ?_)
              · have f65 := hf.get (d := 65) (v := .agg #[.int .i64 a.l, .int .i64 a.x, .int .i64 a.y]) (by simp)
                have f69 := hf.get (d := 69) (v := .agg #[.int .i64 b.l, .int .i64 b.x, .int .i64 b.y]) (by simp)
                clear hf
                simp [Oper.quietAt, Oper.quietUpon, go_sem, f65, f69]
                exact (iInside_v hi1 _).mono (fun e w'' hq => ⟨hq.1, hw'.step hq.2⟩)
              refine j_want hf (d := 71) (v := .bool false) (e := 61) rfl rfl (by simp) rfl (by decide) (by simp) (fun w' hw' => ?_) (fun A hA71 hf => ?_)
              · have f70 := hf.get (d := 70) (v := .bool false) (by simp)
                clear hf
                simp [Oper.quietAt, Oper.quietUpon, go_sem, f70]
              refine j_want hf (d := 72) (v := .slice (some ⟨g, off, none⟩) J.length cap4) (e := 71) rfl rfl (by simp) rfl (by decide) (by simp) (fun w' hw' => ?_) (fun A hA72 hf => ?_)
              · have f4 := hf.get (d := 4) (v := .slice (some ⟨g, off, none⟩) J.length cap4) (by simp)
                clear hf
                simp [Oper.quietAt, Oper.quietUpon, go_sem, f4]
              refine j_want hf (d := 73) (v := .int .i64 (n : Int)) (e := 71) rfl rfl (by simp) rfl (by decide) (by simp) (fun w' hw' => ?_) (fun A hA73 hf => ?_)
              · have f10 := hf.get (d := 10) (v := .int .i64 (n : Int)) (by simp)
                clear hf
                simp [Oper.quietAt, Oper.quietUpon, go_sem, f10]
              refine j_want hf (d := 74) (v := .pointer (some ⟨g, off + n * 3, none⟩)) (e := 71) rfl rfl (by simp) rfl (by decide) (by simp) (fun w' hw' => ?_) (fun A hA74 hf => ?_)
              · have f72 := hf.get (d := 72) (v := .slice (some ⟨g, off, none⟩) J.length cap4) (by simp)
                have f73 := hf.get (d := 73) (v := .int .i64 (n : Int)) (by simp)
                clear hf
                simp [Oper.quietAt, Oper.quietUpon, go_sem, f72, f73, hni]
              refine j_want hf (d := 75) (v := .pointer (some ⟨g, off + n * 3, none⟩)) (e := 71) rfl rfl (by simp) rfl (by decide) (by simp) (fun w' hw' => ?_) (fun A hA75 hf => ?_)
              · have f74 := hf.get (d := 74) (v := .pointer (some ⟨g, off + n * 3, none⟩)) (by simp)
                clear hf
                simp [Oper.quietAt, Oper.quietUpon, go_sem, f74]
              refine j_want hf (d := 76) (v := .int .i64 b.l) (e := 71) rfl rfl (by simp) rfl (by decide) (by simp) (fun w' hw' => ?_) (fun A hA76 hf => ?_)
              · have hc := hS _ hw'
                have f75 := hf.get (d := 75) (v := .pointer (some ⟨g, off + n * 3, none⟩)) (by simp)
                clear hf
                simp [Oper.quietAt, Oper.quietUpon, go_sem, f75, hc]
              refine j_want hf (d := 77) (v := .slice (some ⟨g, off, none⟩) J.length cap4) (e := 71) rfl rfl (by simp) rfl (by decide) (by simp) (fun w' hw' => ?_) (fun A hA77 hf => ?_)
              · have f4 := hf.get (d := 4) (v := .slice (some ⟨g, off, none⟩) J.length cap4) (by simp)
                clear hf
                simp [Oper.quietAt, Oper.quietUpon, go_sem, f4]
              refine j_want hf (d := 78) (v := .int .i64 (k : Int)) (e := 71) rfl rfl (by simp) rfl (by decide) (by simp) (fun w' hw' => ?_) (fun A hA78 hf => ?_)
              · have f8 := hf.get (d := 8) (v := .int .i64 (k : Int)) (by simp)
                clear hf
                simp [Oper.quietAt, Oper.quietUpon, go_sem, f8]
              refine j_want hf (d := 79) (v := .pointer (some ⟨g, off + k * 3, none⟩)) (e := 71) rfl rfl (by simp) rfl (by decide) (by simp) (fun w' hw' => ?_) (fun A hA79 hf => ?_)
              · have f77 := hf.get (d := 77) (v := .slice (some ⟨g, off, none⟩) J.length cap4) (by simp)
                have f78 := hf.get (d := 78) (v := .int .i64 (k : Int)) (by simp)
                clear hf
                simp [Oper.quietAt, Oper.quietUpon, go_sem, f77, f78, hki]
              refine j_want hf (d := 80) (v := .pointer (some ⟨g, off + k * 3, none⟩)) (e := 71) rfl rfl (by simp) rfl (by decide) (by simp) (fun w' hw' => ?_) (fun A hA80 hf => ?_)
              · have f79 := hf.get (d := 79) (v := .pointer (some ⟨g, off + k * 3, none⟩)) (by simp)
                clear hf
                simp [Oper.quietAt, Oper.quietUpon, go_sem, f79]
              refine j_want hf (d := 81) (v := .int .i64 a.l) (e := 71) rfl rfl (by simp) rfl (by decide) (by simp) (fun w' hw' => ?_) (fun A hA81 hf => ?_)
              · have hc := hS _ hw'
                have f80 := hf.get (d := 80) (v := .pointer (some ⟨g, off + k * 3, none⟩)) (by simp)
                clear hf
                simp [Oper.quietAt, Oper.quietUpon, go_sem, f80, hc]
              refine j_want hf (d := 82) (v := .bool true) (e := 71) rfl rfl (by simp) rfl (by decide) (by simp) (fun w' hw' => ?_) (fun A hA82 hf => ?_)
              · have f76 := hf.get (d := 76) (v := .int .i64 b.l) (by simp)
                have f81 := hf.get (d := 81) (v := .int .i64 a.l) (by simp)
                clear hf
                simp [Oper.quietAt, Oper.quietUpon, go_sem, f76, f81, hll]
              refine j_want hf (d := 83) (v := .bool true) (e := 71) rfl rfl (by simp) rfl (by decide) (by simp) (fun w' hw' => ?_) (fun A hA83 hf => ?_)
              · have f82 := hf.get (d := 82) (v := .bool true) (by simp)
                clear hf
                simp [Oper.quietAt, Oper.quietUpon, go_sem, f82]
              refine j_want hf (d := 84) (v := .slice (some ⟨g, off, none⟩) J.length cap4) (e := 83) rfl rfl (by simp) rfl (by decide) (by simp) (fun w' hw' => ?_) (fun A hA84 hf => ?_)
              · have f4 := hf.get (d := 4) (v := .slice (some ⟨g, off, none⟩) J.length cap4) (by simp)
                clear hf
                simp [Oper.quietAt, Oper.quietUpon, go_sem, f4]
              refine j_want hf (d := 85) (v := .int .i64 (n : Int)) (e := 83) rfl rfl (by simp) rfl (by decide) (by simp) (fun w' hw' => ?_) (fun A hA85 hf => ?_)
              · have f10 := hf.get (d := 10) (v := .int .i64 (n : Int)) (by simp)
                clear hf
                simp [Oper.quietAt, Oper.quietUpon, go_sem, f10]
              refine j_want hf (d := 86) (v := .pointer (some ⟨g, off + n * 3, none⟩)) (e := 83) rfl rfl (by simp) rfl (by decide) (by simp) (fun w' hw' => ?_) (fun A hA86 hf => ?_)
              · have f84 := hf.get (d := 84) (v := .slice (some ⟨g, off, none⟩) J.length cap4) (by simp)
                have f85 := hf.get (d := 85) (v := .int .i64 (n : Int)) (by simp)
                clear hf
                simp [Oper.quietAt, Oper.quietUpon, go_sem, f84, f85, hni]
              refine j_want hf (d := 87) (v := .agg #[.int .i64 b.l, .int .i64 b.x, .int .i64 b.y]) (e := 83) rfl rfl (by simp) rfl (by decide) (by simp) (fun w' hw' => ?_) (fun A hA87 hf => ?_)
              · have hc := hS _ hw'
                have f86 := hf.get (d := 86) (v := .pointer (some ⟨g, off + n * 3, none⟩)) (by simp)
                clear hf
                simp [Oper.quietAt, Oper.quietUpon, go_sem, f86, hc]
              refine j_want hf (d := 88) (v := .agg #[.int .i64 u1.l, .int .i64 u1.x, .int .i64 u1.y]) (e := 83) rfl rfl (by simp) rfl (by decide) (by simp) (fun w' hw' => ?_) (fun A hA88 hf => ?_)
              · have f87 := hf.get (d := 87) (v := .agg #[.int .i64 b.l, .int .i64 b.x, .int .i64 b.y]) (by simp)
                clear hf
                simp [Oper.quietAt, Oper.quietUpon, go_sem, f87]
                rw [← hu1]
                exact (iUp_g _ _).mono (fun e w'' hq => ⟨hq.1, hw'.step hq.2⟩)
              refine j_want hf (d := 89) (v := .slice (some ⟨g, off, none⟩) J.length cap4) (e := 83) rfl rfl (by simp) rfl (by decide) (by simp) (fun w' hw' => ?_) (fun A hA89 hf => ?_)
              · have f4 := hf.get (d := 4) (v := .slice (some ⟨g, off, none⟩) J.length cap4) (by simp)
                clear hf
                simp [Oper.quietAt, Oper.quietUpon, go_sem, f4]
              refine j_want hf (d := 90) (v := .int .i64 (k : Int)) (e := 83) rfl rfl (by simp) rfl (by decide) (by simp) (fun w' hw' => ?_) (fun A hA90 hf => ?_)
              · have f8 := hf.get (d := 8) (v := .int .i64 (k : Int)) (by simp)
                clear hf
                simp [Oper.quietAt, Oper.quietUpon, go_sem, f8]
              refine j_want hf (d := 91) (v := .pointer (some ⟨g, off + k * 3, none⟩)) (e := 83) rfl rfl (by simp) rfl (by decide) (by simp) (fun w' hw' => ?_) (fun A hA91 hf => ?_)
              · have f89 := hf.get (d := 89) (v := .slice (some ⟨g, off, none⟩) J.length cap4) (by simp)
                have f90 := hf.get (d := 90) (v := .int .i64 (k : Int)) (by simp)
                clear hf
                simp [Oper.quietAt, Oper.quietUpon, go_sem, f89, f90, hki]
              refine j_want hf (d := 92) (v := .agg #[.int .i64 a.l, .int .i64 a.x, .int .i64 a.y]) (e := 83) rfl rfl (by simp) rfl (by decide) (by simp) (fun w' hw' => ?_) (fun A hA92 hf => ?_)
              · have hc := hS _ hw'
                have f91 := hf.get (d := 91) (v := .pointer (some ⟨g, off + k * 3, none⟩)) (by simp)
                clear hf
                simp [Oper.quietAt, Oper.quietUpon, go_sem, f91, hc]
              refine j_want hf (d := 93) (v := .agg #[.int .i64 u2.l, .int .i64 u2.x, .int .i64 u2.y]) (e := 83) rfl rfl (by simp) rfl (by decide) (by simp) (fun w' hw' => ?_) (fun A hA93 hf => ?_)
              · have f92 := hf.get (d := 92) (v := .agg #[.int .i64 a.l, .int .i64 a.x, .int .i64 a.y]) (by simp)
                clear hf
                simp [Oper.quietAt, Oper.quietUpon, go_sem, f92]
                rw [← hu2]
                exact (iUp_g _ _).mono (fun e w'' hq => ⟨hq.1, hw'.step hq.2⟩)
              refine j_want hf (d := 94) (v := .bool (eqT u1 u2)) (e := 83) rfl rfl (by simp) rfl (by decide) (by simp) (fun w' hw' => ?_) (fun A hA94 hf => ?_)
              · have f88 := hf.get (d := 88) (v := .agg #[.int .i64 u1.l, .int .i64 u1.x, .int .i64 u1.y]) (by simp)
                have f93 := hf.get (d := 93) (v := .agg #[.int .i64 u2.l, .int .i64 u2.x, .int .i64 u2.y]) (by simp)
                clear hf
                simp [Oper.quietAt, Oper.quietUpon, go_sem, f88, f93, run_eqlT]
              refine j_want hf (d := 95) (v := .bool (eqT u1 u2)) (e := 71) rfl rfl (by simp) rfl (by decide) (by simp) (fun w' hw' => ?_) (fun A hA95 hf => ?_)
              · have f83 := hf.get (d := 83) (v := .bool true) (by simp)
                have f94 := hf.get (d := 94) (v := .bool (eqT u1 u2)) (by simp)
                clear hf
                simp [Oper.quietAt, Oper.quietUpon, go_sem, f83, f94]
              refine j_want hf (d := 96) (v := .bool (eqT u1 u2)) (e := 61) rfl rfl (by simp) rfl (by decide) (by simp) (fun w' hw' => ?_) (fun A hA96 hf => ?_)
              · have f71 := hf.get (d := 71) (v := .bool false) (by simp)
                have f95 := hf.get (d := 95) (v := .bool (eqT u1 u2)) (by simp)
                clear hf
                simp [Oper.quietAt, Oper.quietUpon, go_sem, f71, f95]
              refine j_step hf (d := 97) (v := .bool (eqT u1 u2)) rfl rfl (by decide) (by simp) (fun w' hw' => ?_) (fun A hA97 hf => ?_)
              · have f61 := hf.get (d := 61) (v := .bool true) (by simp)
                have f96 := hf.get (d := 96) (v := .bool (eqT u1 u2)) (by simp)
                clear hf
                simp [Oper.quietAt, Oper.quietUpon, go_sem, f61, f96]
              refine wpQuiet_nil (fun w' hw' => ?_)
              clear hf
              subst hA97 hA96 hA95 hA94 hA93 hA92 hA91 hA90 hA89 hA88 hA87 hA86 hA85 hA84 hA83 hA82 hA81 hA80 hA79 hA78 hA77 hA76 hA75 hA74 hA73 hA72 hA71 hA70 hA69 hA68 hA67 hA66 hA65 hA64 hA63 hA62 hA61 hA60 hA59 hA58 hA
              simp only [Act.put, List.setIfInBounds_toArray, List.set_cons_succ, List.set_cons_zero]
              go_wp2_with fail
              go_meet
              exact ⟨by rw [hsib], hw'⟩
            · have hlb : (b.l == a.l) = false := by simp [hll]
              rw [hlb, Bool.false_and] at hsib
              refine wp_region_quiet (C := fun w' => Sx w w' [(.slice (some ⟨g, off, none⟩) J.length cap4, J), (.slice p3 L.length cap3, L)]) (by kernel_rfl) (by kernel_rfl) (hy.step (Below.refl _ _).drew) ?_
              refine q_intro (fun A hA => ?_)
              have hf : Fj A [(4, .slice (some ⟨g, off, none⟩) J.length cap4), (8, .int .i64 (k : Int)), (10, .int .i64 (n : Int))] := by subst hA; exact ⟨rfl, by simp⟩
              refine j_step hf (d := 58) (v := .int .i64 (n : Int)) rfl rfl (by decide) (by simp) (fun w' hw' => ?_) (fun A hA58 hf => ?_)
              · have f10 := hf.get (d := 10) (v := .int .i64 (n : Int)) (by simp)
                clear hf
                simp [Oper.quietAt, Oper.quietUpon, go_sem, f10]
              refine j_step hf (d := 59) (v := .int .i64 (k : Int)) rfl rfl (by decide) (by simp) (fun w' hw' => ?_) (fun A hA59 hf => ?_)
              · have f8 := hf.get (d := 8) (v := .int .i64 (k : Int)) (by simp)
                clear hf
                simp [Oper.quietAt, Oper.quietUpon, go_sem, f8]
              refine j_step hf (d := 60) (v := .bool true) rfl rfl (by decide) (by simp) (fun w' hw' => ?_) (fun A hA60 hf => ?_)
              · have f58 := hf.get (d := 58) (v := .int .i64 (n : Int)) (by simp)
                have f59 := hf.get (d := 59) (v := .int .i64 (k : Int)) (by simp)
                clear hf
                simp [Oper.quietAt, Oper.quietUpon, go_sem, f58, f59]
                omega
              refine j_step hf (d := 61) (v := .bool true) rfl rfl (by decide) (by simp) (fun w' hw' => ?_) (fun A hA61 hf => ?_)
              · have f60 := hf.get (d := 60) (v := .bool true) (by simp)
                clear hf
                simp [Oper.quietAt, Oper.quietUpon, go_sem, f60]
              refine j_want hf (d := 62) (v := .slice (some ⟨g, off, none⟩) J.length cap4) (e := 61) rfl rfl (by simp) rfl (by decide) (by simp) (fun w' hw' => ?_) (fun A hA62 hf => ?_)
              · have f4 := hf.get (d := 4) (v := .slice (some ⟨g, off, none⟩) J.length cap4) (by simp)
                clear hf
                simp [Oper.quietAt, Oper.quietUpon, go_sem, f4]
              refine j_want hf (d := 63) (v := .int .i64 (k : Int)) (e := 61) rfl rfl (by simp) rfl (by decide) (by simp) (fun w' hw' => ?_) (fun A hA63 hf => ?_)
              · have f8 := hf.get (d := 8) (v := .int .i64 (k : Int)) (by simp)
                clear hf
                simp [Oper.quietAt, Oper.quietUpon, go_sem, f8]
              refine j_want hf (d := 64) (v := .pointer (some ⟨g, off + k * 3, none⟩)) (e := 61) rfl rfl (by simp) rfl (by decide) (by simp) (fun w' hw' => ?_) (fun A hA64 hf => ?_)
              · have f62 := hf.get (d := 62) (v := .slice (some ⟨g, off, none⟩) J.length cap4) (by simp)
                have f63 := hf.get (d := 63) (v := .int .i64 (k : Int)) (by simp)
                clear hf
                simp [Oper.quietAt, Oper.quietUpon, go_sem, f62, f63, hki]
              refine j_want hf (d := 65) (v := .agg #[.int .i64 a.l, .int .i64 a.x, .int .i64 a.y]) (e := 61) rfl rfl (by simp) rfl (by decide) (by simp) (fun w' hw' => ?_) (fun A hA65 hf => ?_)
              · have hc := hS _ hw'
                have f64 := hf.get (d := 64) (v := .pointer (some ⟨g, off + k * 3, none⟩)) (by simp)
                clear hf
                simp [Oper.quietAt, Oper.quietUpon, go_sem, f64, hc]
              refine j_want hf (d := 66) (v := .slice (some ⟨g, off, none⟩) J.length cap4) (e := 61) rfl rfl (by simp) rfl (by decide) (by simp) (fun w' hw' => ?_) (fun A hA66 hf => ?_)
              · have f4 := hf.get (d := 4) (v := .slice (some ⟨g, off, none⟩) J.length cap4) (by simp)
                clear hf
                simp [Oper.quietAt, Oper.quietUpon, go_sem, f4]
              refine j_want hf (d := 67) (v := .int .i64 (n : Int)) (e := 61) rfl rfl (by simp) rfl (by decide) (by simp) (fun w' hw' => ?_) (fun A hA67 hf => ?_)
              · have f10 := hf.get (d := 10) (v := .int .i64 (n : Int)) (by simp)
                clear hf
                simp [Oper.quietAt, Oper.quietUpon, go_sem, f10]
              refine j_want hf (d := 68) (v := .pointer (some ⟨g, off + n * 3, none⟩)) (e := 61) rfl rfl (by simp) rfl (by decide) (by simp) (fun w' hw' => ?_) (fun A hA68 hf => ?_)
              · have f66 := hf.get (d := 66) (v := .slice (some ⟨g, off, none⟩) J.length cap4) (by simp)
                have f67 := hf.get (d := 67) (v := .int .i64 (n : Int)) (by simp)
                clear hf
                simp [Oper.quietAt, Oper.quietUpon, go_sem, f66, f67, hni]
              refine j_want hf (d := 69) (v := .agg #[.int .i64 b.l, .int .i64 b.x, .int .i64 b.y]) (e := 61) rfl rfl (by simp) rfl (by decide) (by simp) (fun w' hw' => ?_) (fun A hA69 hf => ?_)
              · have hc := hS _ hw'
                have f68 := hf.get (d := 68) (v := .pointer (some ⟨g, off + n * 3, none⟩)) (by simp)
                clear hf
                simp [Oper.quietAt, Oper.quietUpon, go_sem, f68, hc]
              refine j_want hf (d := 70) (v := .bool false) (e := 61) rfl rfl (by simp) rfl (by decide) (by simp) (fun w' hw' => ?_) (fun A hA70 hf => ?_)
              · have f65 := hf.get (d := 65) (v := .agg #[.int .i64 a.l, .int .i64 a.x, .int .i64 a.y]) (by simp)
                have f69 := hf.get (d := 69) (v := .agg #[.int .i64 b.l, .int .i64 b.x, .int .i64 b.y]) (by simp)
                clear hf
                simp [Oper.quietAt, Oper.quietUpon, go_sem, f65, f69]
                exact (iInside_v hi1 _).mono (fun e w'' hq => ⟨hq.1, hw'.step hq.2⟩)
              refine j_want hf (d := 71) (v := .bool false) (e := 61) rfl rfl (by simp) rfl (by decide) (by simp) (fun w' hw' => ?_) (fun A hA71 hf => ?_)
              · have f70 := hf.get (d := 70) (v := .bool false) (by simp)
                clear hf
                simp [Oper.quietAt, Oper.quietUpon, go_sem, f70]
              refine j_want hf (d := 72) (v := .slice (some ⟨g, off, none⟩) J.length cap4) (e := 71) rfl rfl (by simp) rfl (by decide) (by simp) (fun w' hw' => ?_) (fun A hA72 hf => ?_)
              · have f4 := hf.get (d := 4) (v := .slice (some ⟨g, off, none⟩) J.length cap4) (by simp)
                clear hf
                simp [Oper.quietAt, Oper.quietUpon, go_sem, f4]
              refine j_want hf (d := 73) (v := .int .i64 (n : Int)) (e := 71) rfl rfl (by simp) rfl (by decide) (by simp) (fun w' hw' => ?_) (fun A hA73 hf => ?_)
              · have f10 := hf.get (d := 10) (v := .int .i64 (n : Int)) (by simp)
                clear hf
                simp [Oper.quietAt, Oper.quietUpon, go_sem, f10]
              refine j_want hf (d := 74) (v := .pointer (some ⟨g, off + n * 3, none⟩)) (e := 71) rfl rfl (by simp) rfl (by decide) (by simp) (fun w' hw' => ?_) (fun A hA74 hf => ?_)
              · have f72 := hf.get (d := 72) (v := .slice (some ⟨g, off, none⟩) J.length cap4) (by simp)
                have f73 := hf.get (d := 73) (v := .int .i64 (n : Int)) (by simp)
                clear hf
                simp [Oper.quietAt, Oper.quietUpon, go_sem, f72, f73, hni]
              refine j_want hf (d := 75) (v := .pointer (some ⟨g, off + n * 3, none⟩)) (e := 71) rfl rfl (by simp) rfl (by decide) (by simp) (fun w' hw' => ?_) (fun A hA75 hf => ?_)
              · have f74 := hf.get (d := 74) (v := .pointer (some ⟨g, off + n * 3, none⟩)) (by simp)
                clear hf
                simp [Oper.quietAt, Oper.quietUpon, go_sem, f74]
              refine j_want hf (d := 76) (v := .int .i64 b.l) (e := 71) rfl rfl (by simp) rfl (by decide) (by simp) (fun w' hw' => ?_) (fun A hA76 hf => ?_)
              · have hc := hS _ hw'
                have f75 := hf.get (d := 75) (v := .pointer (some ⟨g, off + n * 3, none⟩)) (by simp)
                clear hf
                simp [Oper.quietAt, Oper.quietUpon, go_sem, f75, hc]
              refine j_want hf (d := 77) (v := .slice (some ⟨g, off, none⟩) J.length cap4) (e := 71) rfl rfl (by simp) rfl (by decide) (by simp) (fun w' hw' => ?_) (fun A hA77 hf => ?_)
              · have f4 := hf.get (d := 4) (v := .slice (some ⟨g, off, none⟩) J.length cap4) (by simp)
                clear hf
                simp [Oper.quietAt, Oper.quietUpon, go_sem, f4]
              refine j_want hf (d := 78) (v := .int .i64 (k : Int)) (e := 71) rfl rfl (by simp) rfl (by decide) (by simp) (fun w' hw' => ?_) (fun A hA78 hf => ?_)
              · have f8 := hf.get (d := 8) (v := .int .i64 (k : Int)) (by simp)
                clear hf
                simp [Oper.quietAt, Oper.quietUpon, go_sem, f8]
              refine j_want hf (d := 79) (v := .pointer (some ⟨g, off + k * 3, none⟩)) (e := 71) rfl rfl (by simp) rfl (by decide) (by simp) (fun w' hw' => ?_) (fun A hA79 hf => ?_)
              · have f77 := hf.get (d := 77) (v := .slice (some ⟨g, off, none⟩) J.length cap4) (by simp)
                have f78 := hf.get (d := 78) (v := .int .i64 (k : Int)) (by simp)
                clear hf
                simp [Oper.quietAt, Oper.quietUpon, go_sem, f77, f78, hki]
              refine j_want hf (d := 80) (v := .pointer (some ⟨g, off + k * 3, none⟩)) (e := 71) rfl rfl (by simp) rfl (by decide) (by simp) (fun w' hw' => ?_) (fun A hA80 hf => ?_)
              · have f79 := hf.get (d := 79) (v := .pointer (some ⟨g, off + k * 3, none⟩)) (by simp)
                clear hf
                simp [Oper.quietAt, Oper.quietUpon, go_sem, f79]
              refine j_want hf (d := 81) (v := .int .i64 a.l) (e := 71) rfl rfl (by simp) rfl (by decide) (by simp) (fun w' hw' => ?_) (fun A hA81 hf => ?_)
              · have hc := hS _ hw'
                have f80 := hf.get (d := 80) (v := .pointer (some ⟨g, off + k * 3, none⟩)) (by simp)
                clear hf
                simp [Oper.quietAt, Oper.quietUpon, go_sem, f80, hc]
              refine j_want hf (d := 82) (v := .bool false) (e := 71) rfl rfl (by simp) rfl (by decide) (by simp) (fun w' hw' => ?_) (fun A hA82 hf => ?_)
              · have f76 := hf.get (d := 76) (v := .int .i64 b.l) (by simp)
                have f81 := hf.get (d := 81) (v := .int .i64 a.l) (by simp)
                clear hf
                simp [Oper.quietAt, Oper.quietUpon, go_sem, f76, f81, hll]
              refine j_want hf (d := 83) (v := .bool false) (e := 71) rfl rfl (by simp) rfl (by decide) (by simp) (fun w' hw' => ?_) (fun A hA83 hf => ?_)
              · have f82 := hf.get (d := 82) (v := .bool false) (by simp)
                clear hf
                simp [Oper.quietAt, Oper.quietUpon, go_sem, f82]
              refine j_skip hf (d := 84) (e := 83) (b := false) rfl rfl (by simp) rfl rfl (by decide) (by simp) (fun A hA84 hf => ?_)
              refine j_skip hf (d := 85) (e := 83) (b := false) rfl rfl (by simp) rfl rfl (by decide) (by simp) (fun A hA85 hf => ?_)
              refine j_skip hf (d := 86) (e := 83) (b := false) rfl rfl (by simp) rfl rfl (by decide) (by simp) (fun A hA86 hf => ?_)
              refine j_skip hf (d := 87) (e := 83) (b := false) rfl rfl (by simp) rfl rfl (by decide) (by simp) (fun A hA87 hf => ?_)
              refine j_skip hf (d := 88) (e := 83) (b := false) rfl rfl (by simp) rfl rfl (by decide) (by simp) (fun A hA88 hf => ?_)
              refine j_skip hf (d := 89) (e := 83) (b := false) rfl rfl (by simp) rfl rfl (by decide) (by simp) (fun A hA89 hf => ?_)
              refine j_skip hf (d := 90) (e := 83) (b := false) rfl rfl (by simp) rfl rfl (by decide) (by simp) (fun A hA90 hf => ?_)
              refine j_skip hf (d := 91) (e := 83) (b := false) rfl rfl (by simp) rfl rfl (by decide) (by simp) (fun A hA91 hf => ?_)
              refine j_skip hf (d := 92) (e := 83) (b := false) rfl rfl (by simp) rfl rfl (by decide) (by simp) (fun A hA92 hf => ?_)
              refine j_skip hf (d := 93) (e := 83) (b := false) rfl rfl (by simp) rfl rfl (by decide) (by simp) (fun A hA93 hf => ?_)
              refine j_skip hf (d := 94) (e := 83) (b := false) rfl rfl (by simp) rfl rfl (by decide) (by simp) (fun A hA94 hf => ?_)
              refine j_want hf (d := 95) (v := .bool false) (e := 71) rfl rfl (by simp) rfl (by decide) (by simp) (fun w' hw' => ?_) (fun A hA95 hf => ?_)
              · have f83 := hf.get (d := 83) (v := .bool false) (by simp)
                clear hf
                simp [Oper.quietAt, Oper.quietUpon, go_sem, f83]
              refine j_want hf (d := 96) (v := .bool false) (e := 61) rfl rfl (by simp) rfl (by decide) (by simp) (fun w' hw' => ?_) (fun A hA96 hf => ?_)
              · have f71 := hf.get (d := 71) (v := .bool false) (by simp)
                have f95 := hf.get (d := 95) (v := .bool false) (by simp)
                clear hf
                simp [Oper.quietAt, Oper.quietUpon, go_sem, f71, f95]
              refine j_step hf (d := 97) (v := .bool false) rfl rfl (by decide) (by simp) (fun w' hw' => ?_) (fun A hA97 hf => ?_)
              · have f61 := hf.get (d := 61) (v := .bool true) (by simp)
                have f96 := hf.get (d := 96) (v := .bool false) (by simp)
                clear hf
                simp [Oper.quietAt, Oper.quietUpon, go_sem, f61, f96]
              refine wpQuiet_nil (fun w' hw' => ?_)
              clear hf
              subst hA97 hA96 hA95 hA94 hA93 hA92 hA91 hA90 hA89 hA88 hA87 hA86 hA85 hA84 hA83 hA82 hA81 hA80 hA79 hA78 hA77 hA76 hA75 hA74 hA73 hA72 hA71 hA70 hA69 hA68 hA67 hA66 hA65 hA64 hA63 hA62 hA61 hA60 hA59 hA58 hA
              simp only [Act.put, List.setIfInBounds_toArray, List.set_cons_succ, List.set_cons_zero]
              go_wp2_with fail
              go_meet
              exact ⟨by rw [hsib], hw'⟩
          case rest =>
          clear hy
          obtain ⟨rfl, hy⟩ := hcut
          have hs1 : sibs J k (n + 1) = sibs J k n + (if sib J k n then 1 else 0) := rfl
          have hsb : (sibs J k n : Int) ≤ 65536 := by omega
          generalize sibs J k n = m at hs1 hsn hsb ⊢
          cases hsi : sib J k n
          all_goals
            rw [hsi] at hs1
            go_upto_region 20 with fail
            go_cut [113] from 97 to 112 (fun s113 wx => s113 = .bool false ∧ Sx w wx [(.slice p4 J.length cap4, J), (.slice p3 L.length cap3, L)])
            case first =>
              by_cases hnk : n = k
              · have hnb : ((n : Int) != (k : Int)) = false := by simp [hnk]
                clear hnk
                go_quiet (fail)
                go_wp2_with fail
                go_meet
                exact ⟨rfl, hy.step (below_drewN _ _)⟩
              have hnb : ((n : Int) != (k : Int)) = true := by simp; omega
              obtain ⟨g, off, rfl, hC⟩ := (Ow.sl hy.o0).at hlt
              have hS : ∀ w', Sx w w' [(.slice (some ⟨g, off, none⟩) J.length cap4, J), (.slice p3 L.length cap3, L)] → ((w'.cell? ⟨g, off + k * 3, none⟩ = some (.int .i64 J[k].l) ∧ w'.cell? ⟨g, off + k * 3 + 1, none⟩ = some (.int .i64 J[k].x) ∧ w'.cell? ⟨g, off + k * 3 + 2, none⟩ = some (.int .i64 J[k].y)) ∧ (w'.cell? ⟨g, off + n * 3, none⟩ = some (.int .i64 J[n].l) ∧ w'.cell? ⟨g, off + n * 3 + 1, none⟩ = some (.int .i64 J[n].x) ∧ w'.cell? ⟨g, off + n * 3 + 2, none⟩ = some (.int .i64 J[n].y))) := by
                intro w' h
                obtain ⟨g', off', e, hC'⟩ := (Ow.sl h.o0).at hlt
                injection e with e
                injection e with e1 e2
                subst e1 e2
                exact ⟨hC'.2 k J[k] (List.getElem?_eq_getElem hlt), hC'.2 n J[n] (List.getElem?_eq_getElem hltn)⟩
              have hcc := hS _ hy
              have hk0 : (0 : Int) ≤ (k : Int) := by omega
              have hn0 : (0 : Int) ≤ (n : Int) := by omega
              have hi1 := apart_ins hcan hltn hlt (fun e => hnk e.symm)
              go_region_held3 (fun w' => Sx w w' [(.slice (some ⟨g, off, none⟩) J.length cap4, J), (.slice p3 L.length cap3, L)] ∧ ((w'.cell? ⟨g, off + k * 3, none⟩ = some (.int .i64 J[k].l) ∧ w'.cell? ⟨g, off + k * 3 + 1, none⟩ = some (.int .i64 J[k].x) ∧ w'.cell? ⟨g, off + k * 3 + 2, none⟩ = some (.int .i64 J[k].y)) ∧ (w'.cell? ⟨g, off + n * 3, none⟩ = some (.int .i64 J[n].l) ∧ w'.cell? ⟨g, off + n * 3 + 1, none⟩ = some (.int .i64 J[n].x) ∧ w'.cell? ⟨g, off + n * 3 + 2, none⟩ = some (.int .i64 J[n].y)))) (first | exact ‹Sx _ _ _ ∧ _› | exact keepS hS ((‹Sx _ _ _ ∧ _›).1.step hb2) | exact keepS hS (hy.step (Below.refl _ _).drew) | fail)
                (first
                  | (go_at_call 31; refine (iInside_v hi1 _).mono ?_; rintro e w7 ⟨rfl, hb2⟩))
              clear hy hcc
              obtain ⟨hy, hcc⟩ := ‹Sx _ _ _ ∧ _›
              go_wp2_with fail
              go_meet
              exact ⟨rfl, hy⟩
            case rest =>
            clear hy
            obtain ⟨rfl, hy⟩ := hcut
            go_wp2
            go_roundw
            case rel => exact ⟨n + 1, by omega, by go_num, by rw [hs1]; simp, by rw [hs1]; simp; omega, hy⟩
            case measure => simp [intOf]; omega
        · obtain rfl : n = J.length := by omega
          have hni : ¬ (J.length : Int) < J.length := by omega
          obtain ⟨g, off, rfl, hC⟩ := (Ow.sl hy.o0).at hlt
          obtain ⟨c0, c1, c2⟩ := hC.2 k J[k] (List.getElem?_eq_getElem hlt)
          by_cases hl0 : 0 < J[k].l
          · have hle := sibs_le hcan hlt hl0
            have hi2 : (sibs J k J.length : Int) ≤ 2 := by omega
            generalize sibs J k J.length = m at hi2 hsn ⊢
            go_wp2
            go_roundw
            case rel => exact ⟨k + 1, by omega, by go_num, hy⟩
            case measure => simp [intOf]; omega
          · go_wp2
            go_roundw
            case rel => exact ⟨k + 1, by omega, by go_num, hy⟩
            case measure => simp [intOf]; omega
    · obtain rfl : k = J.length := by omega
      have hki : ¬ (J.length : Int) < J.length := by omega
      go_upto_region 24 with fail
      go_cut [143] from 124 to 142 (fun s143 wx => s143 = .bool false ∧ Sx w wx [(.slice p4 J.length cap4, J), (.slice p3 L.length cap3, L)])
      case first =>
        have tok9 : True := trivial
        by_cases h100 : J.length ≤ 100
        · have hi100 : (J.length : Int) ≤ 100 := by omega
          obtain ⟨e1, e2⟩ := hcvs h100
          go_wp2_with (first
            | (go_at_call 28; clear tok9; refine (iCovers_v e1 _ _ _ _ _ (Ow.sl hy.o0) (Ow.pl hy.o0) (by omega) (Ow.sl hy.o1) (by omega)).mono ?_; rintro e w4 ⟨rfl, hb4⟩; replace hy := hy.step hb4)
            | (go_at_call 28; refine (iCovers_v e2 _ _ _ _ _ (Ow.sl hy.o1) (Ow.pl hy.o1) (by omega) (Ow.sl hy.o0) (by omega)).mono ?_; rintro e w4 ⟨rfl, hb4⟩; replace hy := hy.step hb4))
          go_meet
          exact ⟨rfl, hy⟩
        · have hi100 : ¬ (J.length : Int) ≤ 100 := by omega
          have hoJ : okL J = false := by unfold okL; rw [decide_eq_false h100]; rfl
          have e1 : covB J L = false := by unfold covB; rw [hoJ]; rfl
          have e2 : covB L J = false := by unfold covB; rw [hoJ, Bool.and_false]; rfl
          go_wp2_with (first
            | (go_at_call 28; clear tok9; refine (iCovers_v e1 _ _ _ _ _ (Ow.sl hy.o0) (Ow.pl hy.o0) (by omega) (Ow.sl hy.o1) (by omega)).mono ?_; rintro e w4 ⟨rfl, hb4⟩; replace hy := hy.step hb4)
            | (go_at_call 28; refine (iCovers_v e2 _ _ _ _ _ (Ow.sl hy.o1) (Ow.pl hy.o1) (by omega) (Ow.sl hy.o0) (by omega)).mono ?_; rintro e w4 ⟨rfl, hb4⟩; replace hy := hy.step hb4))
          go_meet
          exact ⟨by rw [decide_eq_false (show ¬ (J.length : Int) ≤ 100 by omega)], hy⟩
      case rest =>
      clear hy
      obtain ⟨rfl, hy⟩ := hcut
      go_wp2_with fail
      go_loopw [11] (fun i wr => ∃ k : Nat, k ≤ 10 ∧ i = .int .i64 k ∧ Sx w wr [(.slice p4 J.length cap4, J), (.slice p3 L.length cap3, L)]) (fun i _ => 10 - (intOf i).toNat)
      case atStart => exact ⟨0, by omega, rfl, hy⟩
      case round =>
        clear hy
        obtain ⟨k, hk, rfl, hy⟩ := hrel
        by_cases hlt : k < 10
        · have hki : (k : Int) < 10 := by omega
          go_upto_region 30 with (go_at_call 32; refine (spot_n a0 len cap zs _ _ _ _ hl (hrw hy.bel) (by omega) (by omega) (by decide)).mono ?_; rintro e w4 ⟨s, t, rfl, _, _, _, _, hb4⟩; replace hy := hy.step hb4)
          replace hy := hy.step (below_alloc1 w4 (.cells #[.int .i64 s, .int .i64 t] 30))
          have hB := ((St.nil w4).push [.int .i64 s, .int .i64 t] 30).has
          clear hb4
          generalize w4.alloc _ = W4 at hy hB ⊢
          generalize w4.heap.size = b12 at hB ⊢
          go_cut [162] from 151 to 161 (fun s162 wx => s162 = .bool false ∧ Sx w wx [(.slice p4 J.length cap4, J), (.slice p3 L.length cap3, L)])
          case first =>
            have hS : ∀ w', (Sx w w' [(.slice p4 J.length cap4, J), (.slice p3 L.length cap3, L)] ∧ Has w' [(b12, [.int .i64 s, .int .i64 t])]) → (w'.cell? ⟨b12, 0, none⟩ = some (.int .i64 s) ∧ w'.cell? ⟨b12, 1, none⟩ = some (.int .i64 t)) := fun w' h => by have := h.2; simp [Has, HasAt] at this; simp [this]
            have hK : ∀ {w' w'' : World}, ((Sx w w' [(.slice p4 J.length cap4, J), (.slice p3 L.length cap3, L)] ∧ Has w' [(b12, [.int .i64 s, .int .i64 t])]) ∧ (w'.cell? ⟨b12, 0, none⟩ = some (.int .i64 s) ∧ w'.cell? ⟨b12, 1, none⟩ = some (.int .i64 t))) → Below w'.heap.size w' w'' → ((Sx w w'' [(.slice p4 J.length cap4, J), (.slice p3 L.length cap3, L)] ∧ Has w'' [(b12, [.int .i64 s, .int .i64 t])]) ∧ (w''.cell? ⟨b12, 0, none⟩ = some (.int .i64 s) ∧ w''.cell? ⟨b12, 1, none⟩ = some (.int .i64 t))) := fun h hb => keepS hS ⟨h.1.1.step hb, h.1.2.step hb⟩
            have hcc := hS _ ⟨hy, hB⟩
            by_cases h100 : J.length ≤ 100
            · have hi100 : (J.length : Int) ≤ 100 := by omega
              have hd2 : decide ((J.length : Int) ≤ 100) = true := decide_eq_true hi100
              have hrr := hrch h100 s t
              generalize hr1 : reachI L s t = r at hrr
              go_region_held3 (fun w' => (Sx w w' [(.slice p4 J.length cap4, J), (.slice p3 L.length cap3, L)] ∧ Has w' [(b12, [.int .i64 s, .int .i64 t])]) ∧ (w'.cell? ⟨b12, 0, none⟩ = some (.int .i64 s) ∧ w'.cell? ⟨b12, 1, none⟩ = some (.int .i64 t))) (first | exact ‹(Sx _ _ _ ∧ _) ∧ _› | exact hK ‹(Sx _ _ _ ∧ _) ∧ _› hb7 | exact keepS hS ⟨hy.step (Below.refl _ _).drew, hB.step (Below.refl _ _).drew⟩ | fail)
                (first | (go_at_call 17; refine (iReaches_any _ _ _ s t _ ?_ ?_).mono ?_; (focus (first | exact Ow.sl (‹(Sx _ _ _ ∧ _) ∧ _›).1.1.o0 | exact Ow.sl (‹(Sx _ _ _ ∧ _) ∧ _›).1.1.o1)); (focus omega); (first | rw [hrr] | rw [hr1]); rintro e w7 ⟨rfl, hb7⟩))
              clear hy hB hcc
              obtain ⟨⟨hy, hB⟩, hcc⟩ := ‹(Sx _ _ _ ∧ _) ∧ _›
              go_wp2_with fail
              go_meet
              exact ⟨by simp, hy⟩
            · have hd2 : decide ((J.length : Int) ≤ 100) = false := decide_eq_false (by omega)
              go_quiet (fail)
              go_wp2_with fail
              go_meet
              exact ⟨rfl, hy.step (below_drewN _ _)⟩
          case rest =>
          clear hy hB
          obtain ⟨rfl, hy⟩ := hcut
          go_wp2
          go_roundw
          case rel => exact ⟨k + 1, by omega, by go_num, hy⟩
          case measure => simp [intOf]; omega
        · obtain rfl : k = 10 := by omega
          go_wp2
          go_ret
          exact ⟨rfl, hy.bel⟩
end Go.Proofs.Ythmpemamagjeeaa
