/-
  Readies in memory; whether they are right, the program's look; no number twice.
-/
import Derived.Test.YtppoafggiejdgaaGreatKY1
import Derived.Test.YtppoafggiejdgaaGreatKNG
import Derived.Test.YtppoafggiejdgaaGreatKID1
namespace Go.Proofs.YtppoafggiejdgaaGreat.K.Y
open Go.Shelf Go.RowKit Go.Joins
attribute [local go_sem] Oper.semAt_some

abbrev YQ := Yd × Sv
def zyq : YQ := (zyd, ⟨none, 0, 0⟩)
def kY : Kd YQ := ⟨65, 3, fun y => [.int .i64 y.1.t, .int .i64 y.1.q, .slice y.2.p y.2.n y.2.c], fun _ => rfl⟩
def kLY : Kd YQ := ⟨58, 3, fun y => [.int .i64 y.1.t, .int .i64 y.1.q, .slice y.2.p y.2.n y.2.c], fun _ => rfl⟩
theorem CsG.y3 {w : World} {g off : Nat} {L : List YQ} (h : CsG kY w g off L) {k : Nat} {y : YQ} (hk : L[k]? = some y) : w.cell? ⟨g, off + k * 3, none⟩ = some (.int .i64 y.1.t) ∧ w.cell? ⟨g, off + k * 3 + 1, none⟩ = some (.int .i64 y.1.q) ∧ w.cell? ⟨g, off + k * 3 + 2, none⟩ = some (.slice y.2.p y.2.n y.2.c) :=
  ⟨h.at hk (i := 0) rfl, h.at hk (i := 1) rfl, h.at hk (i := 2) rfl⟩
theorem CsG.ly3 {w : World} {g off : Nat} {L : List YQ} (h : CsG kLY w g off L) {k : Nat} {y : YQ} (hk : L[k]? = some y) : w.cell? ⟨g, off + k * 3, none⟩ = some (.int .i64 y.1.t) ∧ w.cell? ⟨g, off + k * 3 + 1, none⟩ = some (.int .i64 y.1.q) ∧ w.cell? ⟨g, off + k * 3 + 2, none⟩ = some (.slice y.2.p y.2.n y.2.c) :=
  ⟨h.at hk (i := 0) rfl, h.at hk (i := 1) rfl, h.at hk (i := 2) rfl⟩
theorem getY {L : List YQ} {k : Nat} (hk : k < L.length) : L[k]? = some (L.getD k zyq) := by simp [List.getD, hk]
/-- A Ready's Items as one reads them. -/
def RdI (K : Kd Rc) (W : World) (y : YQ) : Prop := SlG K W y.2.p y.1.L ∧ y.1.L.length = y.2.n
theorem RdI.step {K : Kd Rc} {w w' : World} {y : YQ} (h : RdI K w y) (hb : Below w.heap.size w w') : RdI K w' y := ⟨h.1.step hb, h.2⟩
/-- A list of Readies as one reads it: the program's, the law's. -/
def RdY (W : World) (p : Option Addr) (QL : List YQ) : Prop := SlG kY W p QL ∧ ∀ y ∈ QL, RdI I.kR W y
def RdLY (W : World) (p : Option Addr) (QL : List YQ) : Prop := SlG kLY W p QL ∧ ∀ y ∈ QL, RdI I.kL W y
theorem RdY.step {w w' : World} {p : Option Addr} {QL : List YQ} (h : RdY w p QL) (hb : Below w.heap.size w w') : RdY w' p QL := ⟨h.1.step hb, fun q hq => (h.2 q hq).step hb⟩
theorem RdLY.step {w w' : World} {p : Option Addr} {QL : List YQ} (h : RdLY w p QL) (hb : Below w.heap.size w w') : RdLY w' p QL := ⟨h.1.step hb, fun q hq => (h.2 q hq).step hb⟩
def yds (QL : List YQ) : List Yd := QL.map (·.1)
theorem yds_len (QL : List YQ) : (yds QL).length = QL.length := by simp [yds]
theorem yds_get {QL : List YQ} {k : Nat} (hk : k < QL.length) : (yds QL)[k]? = some (QL.getD k zyq).1 := by simp [yds, List.getD, hk]
theorem yds_take {QL : List YQ} {k : Nat} (hk : k < QL.length) : (yds QL).take (k + 1) = (yds QL).take k ++ [(QL.getD k zyq).1] := by
  rw [List.take_add_one, yds_get hk]; rfl

set_option maxHeartbeats 1000000 in
theorem areUnlike_v {L : List Int} {v : Bool} (hv : uniB L = v) (p : Option Addr) (c n : Nat) (hn : L.length = n) (w : World) (hL : SlG kI w p L) (hb0 : n ≤ 100000) :
    Calls Tryz.prog 64 #[.slice p n c] w fun e w' => e = .returned (.bool v) ∧ Below w.heap.size w w' := by
  have HS := Lib.hid (N.sorted_any p c L n hn w hL hb0)
  have HN := Lib.hid hn
  clear hL hn
  go_enter Tryz.func64, Tryz.ntmps64
  go_wp2_with (first
    | (go_at_call 81; refine HS.out.mono ?_; rintro e w1 ⟨q, cap', S, rfl, hp, hs, hS⟩; have HU := Lib.hid (risesN_any (some ⟨q, 0, none⟩) cap' S n (by rw [hp.length_eq, HN.out]) w1 (OwG.sl (hS.mem (K := kI) (v := .slice (some ⟨q, 0, none⟩) n cap') (L := S) (by simp))) (by omega) (fb := v) (by rw [rise_uni hp hs]; exact hv)); have hb := hS.bel)
    | (go_at_call 67; refine HU.out.mono ?_; rintro e w2 ⟨rfl, hb2⟩))
  go_ret
  exact ⟨rfl, bstep hb hb2 (Nat.le_refl _)⟩
theorem batB_yB (y : Yd) : I.batB y.t y.q y.L = yB y := rfl
theorem take_ids {L : List Rc} {t : Int} {k : Nat} (hk : k < L.length) : (L.take (k + 1)).map (fun r => numN t r.i) = (L.take k).map (fun r => numN t r.i) ++ [numN t (L.getD k zrc).i] := by
  rw [List.take_add_one, getR hk]; simp
theorem sg_nil2 (w : World) : Sg w w [rG kI (.slice none 0 0) [], rG kI (.slice none 0 0) []] := by
  refine ⟨Below.refl _ _, fun r hr => ?_, ?_⟩
  · simp at hr
    subst hr
    exact ⟨rfl, .inl ⟨rfl, rfl⟩⟩
  · simp [rG, Value.ownBlock]
theorem flat_len6 : ∀ {Y : List Yd}, Y.all yB = true → (Y.flatMap idsN).length ≤ 6 * Y.length
  | [], _ => by simp
  | y :: t, h => by
    rw [List.all_cons, Bool.and_eq_true] at h
    have h1 := flat_len6 h.2
    have h2 := (yB_parts h.1).2.2.1
    rw [List.flatMap_cons, List.length_append, List.length_cons]
    have : (idsN y).length = y.L.length := by simp [idsN]
    omega
set_option maxRecDepth 100000 in
set_option maxHeartbeats 4000000 in
theorem areReadies_v {QL : List YQ} {v : Bool} (hv : readyB (yds QL) = v) (p : Option Addr) (c n : Nat) (hn : QL.length = n) (hb0 : n ≤ 101) (hsm : ∀ y ∈ QL, y.2.n ≤ 10000000) (w : World) (hR : RdY w p QL) :
    Calls Tryz.prog 42 #[.slice p n c] w fun e w' => e = .returned (.bool v) ∧ Below w.heap.size w w' := by
  have HN : Hid (QL.length = n ∧ RdY w p QL ∧ ∀ y ∈ QL, y.2.n ≤ 10000000) := ⟨hn, hR, hsm⟩
  have HV := Lib.hid hv
  clear hn hR hsm hv
  have hS0 := sg_nil2 w
  go_enter Tryz.func42, Tryz.ntmps42
  go_wp2
  go_loopw [3, 4, 11] (fun iv sv i wr => ∃ (k : Nat), k ≤ n ∧ i = .int .i64 k ∧ Hid (((yds QL).take k).all yB = true) ∧ Sg w wr [rG kI iv (((yds QL).take k).flatMap idsN), rG kI sv (((yds QL).take k).map seqN)]) (fun _ _ i _ => n - (intOf i).toNat)
  case atStart => exact ⟨0, by omega, rfl, rfl, hS0⟩
  case round =>
    clear hS0
    rename World => wo
    obtain ⟨k, hk, rfl, hall, hS⟩ := hrel
    by_cases hlt : k < n
    · have hki : (k : Int) < n := by omega
      have hkL : k < QL.length := by rw [HN.out.1]; exact hlt
      obtain ⟨g, off, rfl, hC⟩ := (HN.out.2.1.1.step hS.bel).at hkL
      obtain ⟨c0, c1, c2⟩ := CsG.y3 hC (getY hkL)
      have hq := HN.out.2.1.2 _ (List.mem_of_getElem? (getY hkL))
      have hbd := HN.out.2.2 _ (List.mem_of_getElem? (getY hkL))
      have htk := yds_take hkL
      have hgt := yds_get hkL
      obtain ⟨⟨⟨t, q, L⟩, ⟨sp, sn, sc⟩⟩, hx⟩ : ∃ x : YQ, QL.getD k zyq = x := ⟨_, rfl⟩
      rw [hx] at c0 c1 c2 hq hbd htk hgt
      simp only at c0 c1 c2 hq hbd htk hgt
      have HQ : Hid (RdI I.kR w (⟨t, q, L⟩, ⟨sp, sn, sc⟩)) := hq
      have HB : Hid (∀ W v, Below w.heap.size w W → I.batB t q L = v → Calls Tryz.prog 62 #[I.batV t q sp sn sc] W fun e w' => e = .returned (.bool v) ∧ Below W.heap.size W w') := fun W v h h2 => I.iBat_v h2 sp sc sn hq.2 W (hq.1.step h) hbd
      have hlit := hS.lit I.kB [⟨t, q, ⟨sp, sn, sc⟩⟩] 1 rfl (by decide) #[.int .i64 t, .int .i64 q, .slice sp sn sc] rfl
      have HT : Hid ((yds QL).take (k + 1) = (yds QL).take k ++ [⟨t, q, L⟩] ∧ (yds QL)[k]? = some ⟨t, q, L⟩) := ⟨htk, hgt⟩
      clear hC hkL hq hbd htk hgt hx
      cases hb : I.batB t q L
      · go_wp2_with (go_at_call 62; refine (HB.out _ _ hlit.bel hb).mono ?_; rintro e w1 ⟨rfl, hb1⟩)
        go_ret
        refine ⟨ret_bool ?_, bstep hlit.bel hb1 (Nat.le_refl _)⟩
        rw [← HV.out, readyB, all_no (f := yB) HT.out.2 hb]; rfl
      · have hy := yB_parts (y := ⟨t, q, L⟩) hb
        simp only at hy
        have HY := Lib.hid hy
        have ht := hy.1
        have hqq := hy.2.1
        clear hy
        have hfl := flat_len6 hall.out
        have hfl2 : ((yds QL).take k).length ≤ k := by rw [List.length_take]; omega
        have HL : Hid ((((yds QL).take k).flatMap idsN).length ≤ 600 ∧ (((yds QL).take k).map seqN).length ≤ 100) := ⟨by omega, by rw [List.length_map]; omega⟩
        obtain ⟨ns, hns⟩ : ∃ ns, Hid ((((yds QL).take k).map seqN).length = ns) := ⟨_, rfl⟩
        clear hfl hfl2
        go_wp2_with (first
          | (go_at_call 62; refine (HB.out _ _ hlit.bel hb).mono ?_; rintro e w1 ⟨rfl, hb1⟩; have hS1 := hlit.step hb1; obtain ⟨y0, y1, y2, yf, yg⟩ := I.bat3 hS1 (K := I.kB) (g := wo.heap.size) (n := 1) (q := ⟨t, q, ⟨sp, sn, sc⟩⟩) (by simp) rfl; simp only at y0 y1 y2)
          | (go_at_call 63; refine (numberOf_any t q _ ht hqq).mono ?_; rintro e w2 ⟨rfl, hw2⟩; obtain rfl := hw2.symm)
          | (at_builtin; refine wpList_sgapp appI rfl _ _ rfl (A := [rG I.kB (.slice (some ⟨wo.heap.size, 0, none⟩) 1 1) [⟨t, q, ⟨sp, sn, sc⟩⟩], rG kI _ _]) (M := ((yds QL).take k).map seqN) (B := [numN t q]) (n := ns) (m := 1) hS1 (below_alloc1 _ _) hns.out rfl rfl ⟨_, 0, none⟩ 1 rfl (fun j u hj => lit_src (xs := [.int .i64 (numN t q)]) (t := 2) rfl j u hj) (N.oneIs _) (.inl (by decide)) (by have := HL.out.2; have := hns.out; omega) ?_; intro g4 cp4 w4 hS4 _ _; obtain ⟨z0, z1, z2, zf, zg⟩ := I.bat3 hS4 (K := I.kB) (g := wo.heap.size) (n := 1) (q := ⟨t, q, ⟨sp, sn, sc⟩⟩) (by simp) rfl; simp only at z0 z1 z2))
        clear hS1 y0 y1 y2 yf yg hb1 hlit HB c0 c1 c2 hS
        have hsn : sn ≤ 6 := Nat.le_trans (Nat.le_of_eq HQ.out.2.symm) HY.out.2.2.1.2
        go_loopw [3, 29] (fun iv i wq => ∃ (j : Nat), j ≤ sn ∧ i = .int .i64 j ∧ Sg w wq [rG I.kB (.slice (some ⟨wo.heap.size, 0, none⟩) 1 1) [⟨t, q, ⟨sp, sn, sc⟩⟩], rG kI iv (((yds QL).take k).flatMap idsN ++ (L.take j).map fun r => numN t r.i), rG kI (.slice (some ⟨g4, 0, none⟩) (ns + 1) cp4) (((yds QL).take k).map seqN ++ [numN t q])]) (fun _ i _ => sn - (intOf i).toNat)
        case atStart => exact ⟨0, by omega, rfl, by simpa using hS4⟩
        case round =>
          clear hS4 z0 z1 z2 zf zg
          obtain ⟨j, hj, rfl, hS⟩ := hrel
          by_cases hjt : j < sn
          · have hji : (j : Int) < sn := by omega
            have hjL : j < L.length := by rw [HQ.out.2]; exact hjt
            obtain ⟨g5, off5, rfl, hC⟩ := (HQ.out.1.step hS.bel).at hjL
            obtain ⟨c0, c1, c2, c3, c4⟩ := CsG.i5 hC (getR hjL)
            have HF := Lib.hid (take_ids (t := t) hjL)
            have hid := HY.out.2.2.2.1 _ (List.mem_of_getElem? (getR hjL))
            generalize L.getD j zrc = r at c0 c1 c2 c3 c4 HF hid
            have hlen0 : ((L.take j).map fun r => numN t r.i).length ≤ 6 := by rw [List.length_map, List.length_take]; have := HY.out.2.2.1.2; omega
            obtain ⟨ni, hni⟩ : ∃ ni, Hid ((((yds QL).take k).flatMap idsN ++ (L.take j).map fun r => numN t r.i).length = ni) := ⟨_, rfl⟩
            have hnl0 : ni ≤ 606 := by have h1 := hni.out; rw [List.length_append] at h1; have := HL.out.1; omega
            have hnl := Lib.hid hnl0
            clear hnl0 hlen0
            have hlit := hS.lit I.kR [r] 1 rfl (by decide) #[.int .i64 r.t, .int .i64 r.i, .int .i64 r.x, .int .i64 r.y, .string r.s] rfl
            change Sg w (wr.alloc (.cells #[.int .i64 r.t, .int .i64 r.i, .int .i64 r.x, .int .i64 r.y, .string r.s] 88)) _ at hlit
            obtain ⟨y0, y1, y2, yf, yg⟩ := I.bat3 hlit (K := I.kB) (g := wo.heap.size) (n := 1) (q := ⟨t, q, ⟨some ⟨g5, off5, none⟩, sn, sc⟩⟩) (by simp) rfl
            simp only at y0 y1 y2
            clear hC hjL
            go_wp2_with (first
              | (go_at_call 63; refine (numberOf_any t r.i _ ht hid).mono ?_; rintro e w2 ⟨rfl, hw2⟩; obtain rfl := hw2.symm)
              | (at_builtin; refine wpList_sgapp appI rfl _ _ rfl (A := [rG I.kR (.slice (some ⟨wr.heap.size, 0, none⟩) 1 1) [r], rG I.kB (.slice (some ⟨wo.heap.size, 0, none⟩) 1 1) [⟨t, q, ⟨some ⟨g5, off5, none⟩, sn, sc⟩⟩]]) (M := ((yds QL).take k).flatMap idsN ++ (L.take j).map fun r => numN t r.i) (B := [numN t r.i]) (n := ni) (m := 1) hlit (below_alloc1 _ _) hni.out rfl rfl ⟨_, 0, none⟩ 1 rfl (fun j u hj => lit_src (xs := [.int .i64 (numN t r.i)]) (t := 2) (by simp) j u hj) (N.oneIs _) (.inl (by decide)) (by have := hnl.out; omega) ?_; intro g6 cp6 w6 hS6 _ _))
            go_roundw
            case rel => exact ⟨j + 1, by omega, by go_num, by rw [HF.out, ← List.append_assoc]; exact hS6.d0⟩
            case measure => simp [intOf]; omega
          · obtain rfl : sn = j := by omega
            have HE : Hid (((yds QL).take (k + 1)).flatMap idsN = ((yds QL).take k).flatMap idsN ++ (L.take sn).map (fun r => numN t r.i) ∧ ((yds QL).take (k + 1)).map seqN = ((yds QL).take k).map seqN ++ [numN t q]) := by
              rw [HT.out.1, List.flatMap_append, List.map_append]
              refine ⟨?_, rfl⟩
              rw [List.take_of_length_le (show L.length ≤ sn from Nat.le_of_eq HQ.out.2)]
              simp [idsN]
            go_wp2
            go_roundw
            case rel => exact ⟨k + 1, by omega, by go_num, by show ((yds QL).take (k + 1)).all yB = true; rw [HT.out.1, List.all_append, hall.out]; simp; exact hb, by rw [HE.out.1, HE.out.2]; exact hS.d0⟩
            case measure => simp [intOf]; omega
    · obtain rfl : k = n := by omega
      have HE : Hid ((yds QL).take k = yds QL) := List.take_of_length_le (by rw [yds_len, HN.out.1]; exact Nat.le_refl _)
      rw [HE.out] at hall hS
      have HA := hall.out
      have hv := HV.out
      rw [readyB, HA, Bool.true_and] at hv
      have hfl := flat_len6 HA
      have hsl : ((yds QL).map seqN).length = k := by rw [List.length_map, yds_len, HN.out.1]
      have hyl : (yds QL).length = k := by rw [yds_len, HN.out.1]
      obtain ⟨pi, ci, e1, hi⟩ := OwG.form hS.o0
      obtain ⟨ps, cs, e2, hs⟩ := OwG.form hS.o1
      obtain ⟨ni, hni⟩ : ∃ ni, ((yds QL).flatMap idsN).length = ni := ⟨_, rfl⟩
      rw [hni] at e1 hfl
      rw [hsl] at e2
      subst e1 e2
      have HU1 := Lib.hid (fun v h => areUnlike_v (L := (yds QL).flatMap idsN) (v := v) h pi ci ni hni _ hi (by omega))
      have HU2 := Lib.hid (fun W (hb : Below _ _ W) v h => areUnlike_v (L := (yds QL).map seqN) (v := v) h ps cs k hsl W (hs.step hb) (by omega))
      clear hfl hsl hyl HE hall hi hs hni
      cases hu : uniB ((yds QL).flatMap idsN)
      · rw [hu, Bool.false_and] at hv
        subst hv
        go_wp2_with (go_at_call 64; refine (HU1.out _ hu).mono ?_; rintro e w1 ⟨rfl, hb1⟩)
        go_ret
        exact ⟨rfl, bstep hS.bel hb1 (Nat.le_refl _)⟩
      · rw [hu, Bool.true_and] at hv
        have f1 : True := trivial
        go_wp2_with (first
          | (go_at_call 64; clear f1; refine (HU1.out _ hu).mono ?_; rintro e w1 ⟨rfl, hb1⟩; have HU3 := Lib.hid (HU2.out _ hb1 _ hv); clear HU1 HU2)
          | (go_at_call 64; refine HU3.out.mono ?_; rintro e w2 ⟨rfl, hb2⟩))
        go_ret
        exact ⟨rfl, bstep (bstep hS.bel hb1 (Nat.le_refl _)) hb2 (Nat.le_refl _)⟩
end Go.Proofs.YtppoafggiejdgaaGreat.K.Y
