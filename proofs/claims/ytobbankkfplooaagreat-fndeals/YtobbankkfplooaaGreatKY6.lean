/-
  The law's looks at a Shard: how big, made the program's, alike.
-/
import Derived.Test.YtobbankkfplooaaGreatKY3
import Derived.Test.YtobbankkfplooaaGreatKIL3
namespace Go.Proofs.YtobbankkfplooaaGreat.K.Y
open Go.Shelf Go.RowKit Go.Joins
attribute [local go_sem] Oper.semAt_some

def ysm (QL : List YQ) (k : Nat) : Nat := ((QL.take k).map fun y => rsz y.1.L).sum
theorem ysm_succ {L : List YQ} {k : Nat} {y : YQ} (h : L[k]? = some y) : ysm L (k + 1) = ysm L k + rsz y.1.L := by
  unfold ysm
  rw [List.take_add_one, h]; simp
theorem ysm_le {L : List YQ} {k j : Nat} (h : k ≤ j) : ysm L k ≤ ysm L j := by
  induction j with
  | zero => obtain rfl : k = 0 := by omega
            exact Nat.le_refl _
  | succ j ih =>
    by_cases e : k = j + 1
    · rw [e]; exact Nat.le_refl _
    · have := ih (by omega)
      by_cases hj : j < L.length
      · rw [ysm_succ (List.getElem?_eq_getElem hj)]; omega
      · have : ysm L (j + 1) = ysm L j := by unfold ysm; rw [List.take_of_length_le (by omega), List.take_of_length_le (by omega)]
        omega
def ysz (QL : List YQ) : Nat := QL.length + ysm QL QL.length
theorem ysz_mem {QL : List YQ} {y : YQ} (h : y ∈ QL) : y.1.L.length ≤ ysz QL := by
  obtain ⟨k, hk⟩ := List.getElem?_of_mem h
  have h1 := ysm_succ hk
  have h2 := ysm_le (L := QL) (show k + 1 ≤ QL.length from (List.getElem?_eq_some_iff.1 hk).1)
  have h3 : y.1.L.length ≤ rsz y.1.L := by unfold rsz; omega
  unfold ysz; omega
/-- No list is longer than there is room, no text either. -/
def SmY (QL : List YQ) : Prop := ∀ y ∈ QL, y.2.n ≤ maxLen ∧ ∀ r ∈ y.1.L, r.s.size ≤ maxLen
set_option maxHeartbeats 2000000 in
theorem szReadyS_any (p : Option Addr) (cap : Nat) (QL : List YQ) (n : Nat) (hn : QL.length = n) (a : Int) (w : World) (hL : RdLY w p QL) (ha : 0 ≤ a) (ha2 : a ≤ 1048576) (hm : n ≤ maxLen) (hms : SmY QL) {v : Int} (hv : (if a < ysz QL then -1 else a - (ysz QL : Int)) = v) :
    Calls Tryz.prog 54 #[.slice p n cap, .int .i64 a] w fun e w' => e = .returned (.int .i64 v) ∧ Below w.heap.size w w' := by
  unfold maxLen at hm
  have HN : Hid (QL.length = n ∧ RdLY w p QL ∧ SmY QL) := ⟨hn, hL, hms⟩
  have hr : ysz QL = n + ysm QL n := by unfold ysz; rw [hn]
  rw [hr] at hv
  have HV : Hid ((if a < (n + ysm QL n : Nat) then -1 else a - ((n + ysm QL n : Nat) : Int)) = v) := hv
  clear hn hms hr hv hL
  by_cases h0 : a < n
  · have h2 : a - (n : Int) < 0 := by omega
    go_enter Tryz.func54, Tryz.ntmps54
    go_wp2
    go_ret
    exact ⟨ret_i64 (by rw [← HV.out, if_pos (by omega)]), Below.refl _ _⟩
  · have h2 : ¬ a - (n : Int) < 0 := by omega
    go_enter Tryz.func54, Tryz.ntmps54
    go_wp2
    go_loopw [1, 5] (fun lv i wr => ∃ (k : Nat) (b : Int), k ≤ n ∧ i = .int .i64 k ∧ lv = .int .i64 b ∧ 0 ≤ b ∧ b ≤ 1048576 ∧ Hid (b = a - n - (ysm QL k : Int)) ∧ Below w.heap.size w wr) (fun _ i _ => n - (intOf i).toNat)
    case atStart => exact ⟨0, a - n, by omega, rfl, rfl, by omega, by omega, (by simp [ysm] : a - n = a - n - (ysm QL 0 : Int)), Below.refl _ _⟩
    case round =>
      obtain ⟨k, b, hk, rfl, rfl, hb0, hb1, hbv, hb⟩ := hrel
      by_cases hlt : k < n
      · have hki : (k : Int) < n := by omega
        have hkL : k < QL.length := by rw [HN.out.1]; exact hlt
        obtain ⟨g, off, rfl, hC⟩ := (HN.out.2.1.1.step hb).at hkL
        have hg := getY hkL
        obtain ⟨⟨⟨t, q, L⟩, ⟨sp, sn, sc⟩⟩, hx⟩ : ∃ x : YQ, QL.getD k zyq = x := ⟨_, rfl⟩
        rw [hx] at hg
        obtain ⟨c0, c1, c2⟩ := CsG.ly3 hC hg
        have hrd := HN.out.2.1.2 _ (List.mem_of_getElem? hg)
        have hsm := HN.out.2.2 _ (List.mem_of_getElem? hg)
        have ht := ysm_succ hg
        have hl := ysm_le (L := QL) (show k + 1 ≤ n by omega)
        simp only at c0 c1 c2 ht hrd hsm
        have HT : Hid (ysm QL (k + 1) = ysm QL k + rsz L ∧ ysm QL (k + 1) ≤ ysm QL n) := ⟨ht, hl⟩
        have HZ : Hid (∀ W v, Below w.heap.size w W → (if b < rsz L then -1 else b - (rsz L : Int)) = v → Calls Tryz.prog 81 #[I.batV t q sp sn sc, .int .i64 b] W fun e w' => e = .returned (.int .i64 v) ∧ Below W.heap.size W w') := fun W v h hv => I.szBat_any t q sp sn sc L hrd.2 b W (hrd.1.step h) hb0 hb1 hsm.1 hsm.2 hv
        clear hg hC ht hl hrd hsm hx hkL
        by_cases hlt2 : b < rsz L
        · have hvv : (if b < rsz L then -1 else b - (rsz L : Int)) = -1 := if_pos hlt2
          go_wp2_with (go_at_call 81; refine (HZ.out _ _ hb hvv).mono ?_; rintro e w1 ⟨rfl, hb2⟩)
          go_ret
          exact ⟨ret_i64 (by rw [← HV.out, if_pos (by have := HT.out; have := hbv.out; omega)]), bstep hb hb2 (Nat.le_refl _)⟩
        · have hvv : (if b < rsz L then -1 else b - (rsz L : Int)) = b - rsz L := if_neg hlt2
          have hnn : ¬ b - (rsz L : Int) < 0 := by omega
          go_wp2_with (go_at_call 81; refine (HZ.out _ _ hb hvv).mono ?_; rintro e w1 ⟨rfl, hb2⟩)
          go_roundw
          case rel => exact ⟨k + 1, b - rsz L, by omega, by go_num, rfl, by omega, by omega, (by rw [HT.out.1, hbv.out]; omega : b - (rsz L : Int) = a - n - (ysm QL (k + 1) : Int)), bstep hb hb2 (Nat.le_refl _)⟩
          case measure => simp [intOf]; omega
      · obtain rfl : k = n := by omega
        go_wp2
        go_ret
        exact ⟨ret_i64 (by rw [← HV.out, if_neg (by have := hbv.out; omega), hbv.out]; omega), hb⟩
theorem szInt64S_any (p : Option Addr) (n c : Nat) (a : Int) (w : World) (ha : 0 ≤ a) (ha2 : a ≤ 1048576) (hm : n ≤ maxLen) {v : Int} (hv : (if a < n then -1 else a - (n : Int)) = v) :
    Calls Tryz.prog 55 #[.slice p n c, .int .i64 a] w fun e w' => e = .returned (.int .i64 v) ∧ w' = w := by
  unfold maxLen at hm
  by_cases h0 : a < n
  · have h2 : a - (n : Int) < 0 := by omega
    rw [if_pos h0] at hv
    subst hv
    go_enter Tryz.func55, Tryz.ntmps55
    go_wp2
    go_ret
    exact ⟨rfl, rfl⟩
  · have h2 : ¬ a - (n : Int) < 0 := by omega
    rw [if_neg h0] at hv
    subst hv
    go_enter Tryz.func55, Tryz.ntmps55
    go_wp2
    go_ret
    exact ⟨rfl, rfl⟩
/-- The rows of a list of Readies, of which X are made. -/
def yR (y : YQ) : Rw := rG I.kR (.slice y.2.p y.2.n y.2.c) y.1.L
def trY (v : Value) (X R : List YQ) : List Rw := rG kY v (X ++ R) :: X.map yR
theorem Sg.setYAt {w W : World} {A Bs : List Rw} {g n c : Nat} {X Y : List YQ} {p : YQ} (h : Sg w W (A ++ rG kY (.slice (some ⟨g, 0, none⟩) n c) (X ++ p :: Y) :: Bs)) (q : YQ) {o : Nat} (ho : o = X.length * 3) :
    Sg w (((W.setCell ⟨g, o, none⟩ (.int .i64 q.1.t)).setCell ⟨g, o + 1, none⟩ (.int .i64 q.1.q)).setCell ⟨g, o + 2, none⟩ (.slice q.2.p q.2.n q.2.c)) (A ++ rG kY (.slice (some ⟨g, 0, none⟩) n c) (X ++ q :: Y) :: Bs) := by
  have hn := OwG.len (h.mem (K := kY) (v := .slice (some ⟨g, 0, none⟩) n c) (L := X ++ p :: Y) (by simp))
  subst hn
  have h1 := ((Sg.setRaw h o (.int .i64 q.1.t)).setRaw (o + 1) (.int .i64 q.1.q)).setRaw (o + 2) (.slice q.2.p q.2.n q.2.c)
  have hl : (kY.flat X).length = o := by rw [Kd.flat_len, ho]; rfl
  have e : ∀ q : YQ, kY.flat (X ++ q :: Y) = kY.flat X ++ (kY.vs q ++ kY.flat Y) := fun q => by rw [Kd.flat_append, Kd.flat_cons]
  have e2 : rG kY (.slice (some ⟨g, 0, none⟩) (X ++ p :: Y).length c) (X ++ q :: Y) = ⟨.slice (some ⟨g, 0, none⟩) (X ++ p :: Y).length c, 67, 3, (X ++ p :: Y).length, (((kY.flat (X ++ p :: Y)).set o (.int .i64 q.1.t)).set (o + 1) (.int .i64 q.1.q)).set (o + 2) (.slice q.2.p q.2.n q.2.c)⟩ := by
    unfold rG
    rw [e, e]
    have s0 : ∀ (zs : List Value) (j : Nat) (u : Value), (kY.flat X ++ zs).set (o + j) u = kY.flat X ++ zs.set j u := fun zs j u => by
      rw [List.set_append_right _ _ (by omega), hl]; congr 2; omega
    have := s0 (kY.vs p ++ kY.flat Y) 0 (.int .i64 q.1.t)
    rw [Nat.add_zero] at this
    rw [this, s0, s0]
    simp [kY]
  rw [e2]; exact h1
theorem made_flatY (n : Nat) : (madeCells #[.int .i64 0, .int .i64 0, .slice none 0 0] (n * 3)).toList = kY.flat (List.replicate n zyq) := by
  refine List.ext_getElem? fun i => ?_
  have hl : (kY.flat (List.replicate n zyq)).length = n * 3 := by rw [Kd.flat_len]; simp [kY]
  by_cases hi : i < n * 3
  · have h6 : i / 3 < n := by omega
    have hk : (List.replicate n zyq)[i / 3]? = some zyq := by simp [h6]
    have hg := Kd.flat_get (K := kY) hk (i := i % 3) (Nat.mod_lt _ (by decide))
    have e3 : i / 3 * kY.n + i % 3 = i := by show i / 3 * 3 + i % 3 = i; omega
    rw [e3] at hg
    rw [hg]
    have hm : i % 3 = 0 ∨ i % 3 = 1 ∨ i % 3 = 2 := by omega
    rcases hm with hm | hm | hm <;> simp [madeCells, hi, hm, kY, zyq, zyd]
  · rw [List.getElem?_eq_none (by simp [madeCells]; omega), List.getElem?_eq_none (by omega)]
theorem tr_more {w W : World} {v : Value} {X R : List YQ} {q : YQ} (h : Sg w W ([yR q] ++ rG kY v (X ++ q :: R) :: X.map yR)) : Sg w W (trY v (X ++ [q]) R) := by
  unfold trY
  refine h.perm ?_
  rw [List.map_append, List.append_assoc]
  simp only [List.map_cons, List.map_nil, List.cons_append, List.nil_append]
  refine (List.Perm.swap _ _ _).trans ?_
  refine List.Perm.cons _ ?_
  exact (List.perm_append_comm (l₁ := [yR q]))
theorem info67 : (Tryz.prog.info? 67).map (fun i => (i.zero, i.size, i.bytes)) = some (some (.agg #[.int .i64 0, .int .i64 0, .slice none 0 0]), 3, 40) := by kernel_rfl
set_option maxRecDepth 100000 in
set_option maxHeartbeats 2000000 in
theorem toReadyS_any (p : Option Addr) (cap : Nat) (QL : List YQ) (n : Nat) (hn : QL.length = n) (hb : n ≤ 1048576) (hsm : ∀ q ∈ QL, q.2.n ≤ 1048576) (w : World) (hR : RdLY w p QL) :
    Calls Tryz.prog 56 #[.slice p n cap] w fun e w' => ∃ g QL', e = .returned (.slice (some ⟨g, 0, none⟩) n n) ∧ yds QL' = yds QL ∧ (∀ q ∈ QL', q.2.n ≤ 1048576 ∧ q.1.L.length = q.2.n) ∧ Sg w w' (trY (.slice (some ⟨g, 0, none⟩) n n) QL' []) := by
  obtain ⟨i0, hi, hz0, hz1, hz2⟩ := info_parts info67
  have hmk := run_make (P := Tryz.prog) w 24 67 i0 _ Tryz.underlying24 hi hz0 .i64 .i64 (n : Int) (n : Int) (by omega) (by omega) (by rw [hz2]; omega) (by omega)
  rw [hz1, Int.toNat_natCast] at hmk
  have hS0 : Sg w (w.alloc (.cells (madeCells #[.int .i64 0, .int .i64 0, .slice none 0 0] (n * 3)) 67)) (trY (.slice (some ⟨w.heap.size, 0, none⟩) n n) [] (List.replicate n zyq)) := by
    have h := World.ownsRow_lit (base := w.heap.size) (e := 67) (size := 3) w (madeCells #[.int .i64 0, .int .i64 0, .slice none 0 0] (n * 3)) n (Nat.le_refl _) (by unfold maxLen; omega) (size_madeCells _ _)
    rw [made_flatY] at h
    refine ⟨below_alloc1 _ _, fun r hr => ?_, by simp [trY]⟩
    simp [trY] at hr
    subst hr
    unfold Rw.own rG
    simp only [List.length_replicate]
    exact h
  have HN : Hid (QL.length = n ∧ RdLY w p QL ∧ ∀ q ∈ QL, q.2.n ≤ 1048576) := ⟨hn, hR, hsm⟩
  clear hn hR hsm
  go_enter Tryz.func56, Tryz.ntmps56
  go_wp2
  go_loopw [4] (fun iv wr => ∃ (k r : Nat) (X : List YQ), iv = .int .i64 k ∧ Hid (k + r = n ∧ X.length = k ∧ yds X = (yds QL).take k ∧ ∀ q ∈ X, q.2.n ≤ 1048576 ∧ q.1.L.length = q.2.n) ∧ Sg w wr (trY (.slice (some ⟨w.heap.size, 0, none⟩) n n) X (List.replicate r zyq))) (fun iv _ => n - (intOf iv).toNat)
  case atStart => exact ⟨0, n, [], rfl, ⟨by omega, rfl, rfl, by simp⟩, hS0⟩
  case round =>
    clear hS0 hmk
    obtain ⟨k, r, X, rfl, hK, hS⟩ := hrel
    by_cases hlt : k < n
    · have hki : (k : Int) < n := by omega
      have hkL : k < QL.length := by rw [HN.out.1]; exact hlt
      obtain ⟨r', rfl⟩ : ∃ r', r = r' + 1 := ⟨r - 1, by have := hK.out.1; omega⟩
      obtain ⟨g, off, rfl, hC⟩ := (HN.out.2.1.1.step hS.bel).at hkL
      obtain ⟨c0, c1, c2⟩ := CsG.ly3 hC (getY hkL)
      have hq := HN.out.2.1.2 _ (List.mem_of_getElem? (getY hkL))
      have hbd := HN.out.2.2 _ (List.mem_of_getElem? (getY hkL))
      have hct := yds_take hkL
      obtain ⟨⟨⟨t, q, L⟩, ⟨sp, sn, sc⟩⟩, hx⟩ : ∃ x : YQ, QL.getD k zyq = x := ⟨_, rfl⟩
      rw [hx] at c0 c1 c2 hq hbd hct
      simp only at c0 c1 c2 hq hbd hct
      have HX : Hid (X.length = k ∧ k + (r' + 1) = n ∧ yds X ++ [⟨t, q, L⟩] = (yds QL).take (k + 1) ∧ (∀ q ∈ X, q.2.n ≤ 1048576 ∧ q.1.L.length = q.2.n) ∧ sn ≤ 1048576 ∧ L.length = sn) := ⟨hK.out.2.1, hK.out.1, by rw [hK.out.2.2.1, hct], hK.out.2.2.2, hbd, hq.2⟩
      have HT : Hid (∀ W, Below w.heap.size w W → Calls Tryz.prog 82 #[I.batV t q sp sn sc] W fun e w' => ∃ g, e = .returned (I.batV t q (some ⟨g, 0, none⟩) sn sn) ∧ Sg W w' [rG I.kR (.slice (some ⟨g, 0, none⟩) sn sn) L]) := fun W h => I.toBat_any t q sp sn sc L hq.2 hbd W (hq.1.step h)
      clear hC hkL hq hbd hct hx hK
      go_wp2_with (go_at_call 82; refine (HT.out _ hS.bel).mono ?_; rintro ee w1 ⟨ga, rfl, h1⟩; have hS1 := hS.addL h1; have ho := hS1.mem (K := kY) (v := .slice (some ⟨w.heap.size, 0, none⟩) n n) (L := X ++ List.replicate (r' + 1) zyq) (by simp [trY]); have hf := OwG.fz ho; obtain ⟨d0, d1, d2⟩ := CsG.y3 (OwG.cs ho) (k := k) (y := zyq) (by rw [List.getElem?_append_right (by rw [HX.out.1]; exact Nat.le_refl _), HX.out.1]; simp); simp only [Nat.zero_add, zyq, zyd] at d0 d1 d2; clear ho)
      have hS2 := tr_more (q := (⟨t, q, L⟩, ⟨some ⟨ga, 0, none⟩, sn, sn⟩)) (Sg.setYAt (A := [yR (⟨t, q, L⟩, ⟨some ⟨ga, 0, none⟩, sn, sn⟩)]) (Y := List.replicate r' zyq) (p := zyq) hS1 (⟨t, q, L⟩, ⟨some ⟨ga, 0, none⟩, sn, sn⟩) (o := k * 3) (by rw [HX.out.1]))
      go_roundw
      case rel =>
        refine ⟨k + 1, r', X ++ [(⟨t, q, L⟩, ⟨some ⟨ga, 0, none⟩, sn, sn⟩)], by go_num, ⟨by have := HX.out.2.1; omega, by simp [HX.out.1], by rw [← HX.out.2.2.1]; simp [yds], fun q hq => ?_⟩, hS2⟩
        rcases List.mem_append.mp hq with hq | hq
        · exact HX.out.2.2.2.1 q hq
        · simp at hq; subst hq; exact HX.out.2.2.2.2
      case measure => simp [intOf]; omega
    · have hr0 : r = 0 ∧ k = n := by have := hK.out.1; omega
      obtain ⟨rfl, rfl⟩ := hr0
      have HF : Hid (yds X = yds QL ∧ ∀ q ∈ X, q.2.n ≤ 1048576 ∧ q.1.L.length = q.2.n) := ⟨by rw [hK.out.2.2.1]; exact List.take_of_length_le (by rw [yds_len, HN.out.1]; exact Nat.le_refl _), hK.out.2.2.2⟩
      clear hK
      go_wp2
      go_ret
      exact ⟨_, X, rfl, HF.out.1, HF.out.2, hS⟩
set_option maxRecDepth 100000 in
set_option maxHeartbeats 2000000 in
theorem toInt64S_any (p : Option Addr) (cap : Nat) (O : List Int) (n : Nat) (hn : O.length = n) (hb : n ≤ 1048576) (w : World) (hR : SlG kI w p O) :
    Calls Tryz.prog 57 #[.slice p n cap] w fun e w' => ∃ g, e = .returned (.slice (some ⟨g, 0, none⟩) n n) ∧ Sg w w' [rG kI (.slice (some ⟨g, 0, none⟩) n n) O] := by
  obtain ⟨i0, hi, hz0, hz1, hz2⟩ := info_parts info2
  have hmk := run_make (P := Tryz.prog) w 25 2 i0 _ Tryz.underlying25 hi hz0 .i64 .i64 (n : Int) (n : Int) (by omega) (by omega) (by rw [hz2]; omega) (by omega)
  rw [hz1, Int.toNat_natCast, Nat.mul_one] at hmk
  have hS0 : Sg w (w.alloc (.cells (madeCells #[.int .i64 0] n) 2)) ([] ++ rG kI (.slice (some ⟨w.heap.size, 0, none⟩) n n) (List.replicate n 0) :: []) := by
    have h := World.ownsRow_lit (base := w.heap.size) (e := 2) (size := 1) w (madeCells #[.int .i64 0] n) n (Nat.le_refl _) (by unfold maxLen; omega) (by rw [size_madeCells, Nat.mul_one])
    rw [N.madeI] at h
    refine ⟨below_alloc1 _ _, fun r hr => ?_, by simp⟩
    simp at hr
    subst hr
    unfold Rw.own rG
    simp only [List.length_replicate]
    exact h
  have HN : Hid (O.length = n ∧ SlG kI w p O) := ⟨hn, hR⟩
  clear hn hR
  go_enter Tryz.func57, Tryz.ntmps57
  go_wp2
  go_loopw [4] (fun iv wr => ∃ (k : Nat) (X : List Int), k ≤ n ∧ iv = .int .i64 k ∧ Hid (X.length = n ∧ ∀ j, j < k → X[j]? = O[j]?) ∧ Sg w wr ([] ++ rG kI (.slice (some ⟨w.heap.size, 0, none⟩) n n) X :: [])) (fun iv _ => n - (intOf iv).toNat)
  case atStart => exact ⟨0, _, by omega, rfl, ⟨by simp, by omega⟩, hS0⟩
  case round =>
    clear hS0 hmk
    obtain ⟨k, X, hk, rfl, hK, hS⟩ := hrel
    by_cases hlt : k < n
    · have hki : (k : Int) < n := by omega
      have hkL : k < O.length := by rw [HN.out.1]; exact hlt
      have hkX : k < X.length := by rw [hK.out.1]; exact hlt
      obtain ⟨g, off, rfl, hC⟩ := (HN.out.2.step hS.bel).at hkL
      have c0 := hC.int (getI hkL)
      have HG := Lib.hid (getI hkL)
      generalize O.getD k 0 = z at c0 HG
      have ho := hS.mem (K := kI) (v := .slice (some ⟨w.heap.size, 0, none⟩) n n) (L := X) (by simp)
      have hf := OwG.fz ho
      have d0 := (OwG.cs ho).int (getI hkX)
      simp only [Nat.zero_add] at d0
      have hS2 := Sg.setI hS hkX z
      have HX := Lib.hid hkX
      clear ho hC hkL hkX
      go_wp2
      go_roundw
      case rel =>
        refine ⟨k + 1, X.set k z, by omega, by go_num, ⟨by simp [hK.out.1], fun j hj => ?_⟩, hS2⟩
        by_cases e : k = j
        · subst e; rw [List.getElem?_set_self HX.out, HG.out]
        · rw [List.getElem?_set_ne e]; exact hK.out.2 j (by omega)
      case measure => simp [intOf]; omega
    · obtain rfl : n = k := by omega
      have e : X = O := List.ext_getElem? fun j => by
        by_cases hj : j < n
        · exact hK.out.2 j hj
        · rw [List.getElem?_eq_none (by rw [hK.out.1]; omega), List.getElem?_eq_none (by rw [HN.out.1]; omega)]
      subst e
      clear hK
      go_wp2
      go_ret
      exact ⟨_, rfl, hS⟩
set_option maxRecDepth 100000 in
set_option maxHeartbeats 2000000 in
theorem eqReadyS_same (p q : Option Addr) (cap cap' : Nat) (A B : List YQ) (n : Nat) (hn : A.length = n) (he : yds A = yds B) (hsm : ∀ y ∈ A, y.2.n ≤ 1048576) (w : World) (hp : RdY w p A) (hq : RdY w q B) (_hb : n ≤ 10000000) :
    Calls Tryz.prog 58 #[.slice p n cap, .slice q n cap'] w fun e w' => e = .returned (.bool true) ∧ Below w.heap.size w w' := by
  have hl : B.length = n := by rw [← yds_len, ← he, yds_len, hn]
  have HN : Hid (A.length = n ∧ B.length = n ∧ yds A = yds B ∧ (∀ y ∈ A, y.2.n ≤ 1048576) ∧ RdY w p A ∧ RdY w q B) := ⟨hn, hl, he, hsm, hp, hq⟩
  clear hn hl he hsm hp hq
  go_enter Tryz.func58, Tryz.ntmps58
  go_wp2
  go_loopw [5] (fun i wr => ∃ k : Nat, k ≤ n ∧ i = .int .i64 k ∧ Below w.heap.size w wr) (fun i _ => n - (intOf i).toNat)
  case atStart => exact ⟨0, by omega, rfl, Below.refl _ _⟩
  case round =>
    obtain ⟨k, hk, rfl, hb⟩ := hrel
    by_cases hlt : k < n
    · have hki : (k : Int) < n := by omega
      have hkA : k < A.length := by rw [HN.out.1]; exact hlt
      have hkB : k < B.length := by rw [HN.out.2.1]; exact hlt
      obtain ⟨g, off, rfl, hC⟩ := (HN.out.2.2.2.2.1.1.step hb).at hkA
      obtain ⟨g2, off2, rfl, hC2⟩ := (HN.out.2.2.2.2.2.1.step hb).at hkB
      obtain ⟨c0, c1, c2⟩ := CsG.y3 hC (getY hkA)
      obtain ⟨d0, d1, d2⟩ := CsG.y3 hC2 (getY hkB)
      have hr1 := HN.out.2.2.2.2.1.2 _ (List.mem_of_getElem? (getY hkA))
      have hr2 := HN.out.2.2.2.2.2.2 _ (List.mem_of_getElem? (getY hkB))
      have hbd := HN.out.2.2.2.1 _ (List.mem_of_getElem? (getY hkA))
      have hee : (A.getD k zyq).1 = (B.getD k zyq).1 := by
        have h1 := yds_get hkA
        rw [HN.out.2.2.1, yds_get hkB] at h1
        exact (Option.some.inj h1).symm
      obtain ⟨⟨⟨t, u, L⟩, ⟨sp, sn, sc⟩⟩, hx⟩ : ∃ x : YQ, A.getD k zyq = x := ⟨_, rfl⟩
      obtain ⟨⟨y2, ⟨sp2, sn2, sc2⟩⟩, hx2⟩ : ∃ x : YQ, B.getD k zyq = x := ⟨_, rfl⟩
      rw [hx] at c0 c1 c2 hr1 hbd hee
      rw [hx2] at d0 d1 d2 hr2 hee
      simp only at c0 c1 c2 d0 d1 d2 hbd hee
      subst hee
      obtain ⟨ra, la⟩ := hr1
      obtain ⟨rb, lb⟩ := hr2
      simp only at ra la rb lb
      obtain rfl : sn2 = sn := by rw [← la, ← lb]
      simp only at d0 d1 d2
      have HE := Lib.hid (fun W (h : Below w.heap.size w W) => I.eqBat_same t u sp sp2 sn2 sc sc2 L la hbd W (ra.step h) (rb.step h))
      clear hC hC2 hkA hkB hx hx2 ra la rb lb
      go_wp2
      go_region_with ((go_at_call 83; refine (HE.out _ hb.drew).mono ?_; rintro e w1 ⟨rfl, hb2⟩))
      all_goals
        go_wp2
        go_roundw
        case rel => exact ⟨k + 1, by omega, by go_num, bstep hb.drew hb2 (Nat.le_refl _)⟩
        case measure => simp [intOf]; omega
    · obtain rfl : k = n := by omega
      go_wp2
      go_ret
      exact ⟨rfl, hb⟩
end Go.Proofs.YtobbankkfplooaaGreat.K.Y
namespace Go.Proofs.YtobbankkfplooaaGreat.K.Y
open Go.Shelf Go.RowKit Go.Joins
attribute [local go_sem] Oper.semAt_some

/-- No list is longer than there is room. -/
structure SmS (h : Hv) (R : List Rc) (QL : List YQ) : Prop where
  r : h.r.n ≤ maxLen
  rs : ∀ r ∈ R, r.s.size ≤ maxLen
  y : h.y.n ≤ maxLen
  ys : SmY QL
  o : h.o.n ≤ maxLen
  g : h.g.size ≤ maxLen
def ssz (h : Hv) (R : List Rc) (QL : List YQ) : Nat := rsz R + (ysz QL + (h.o.n + h.g.size))
/-- What the rows tell a reader. -/
theorem trY_rd {w W : World} {rs : List Rw} {p : Option Addr} {n c : Nat} {QL : List YQ} (h : Sg w W rs) (hm : ∀ r ∈ trY (.slice p n c) QL [], r ∈ rs) (hl : ∀ q ∈ QL, q.1.L.length = q.2.n) : RdY W p QL := by
  refine ⟨OwG.sl (h.mem (K := kY) (v := .slice p n c) (L := QL) (hm _ (by simp [trY]))), fun y hy => ⟨OwG.sl (h.mem (K := I.kR) (v := .slice y.2.p y.2.n y.2.c) (L := y.1.L) (hm _ ?_)), hl y hy⟩⟩
  unfold trY
  exact List.mem_cons_of_mem _ (List.mem_map.2 ⟨y, hy, rfl⟩)
end Go.Proofs.YtobbankkfplooaaGreat.K.Y
