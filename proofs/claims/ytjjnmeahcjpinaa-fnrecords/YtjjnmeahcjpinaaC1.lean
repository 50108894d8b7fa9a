/-
  InCells, the program's and the spec's.
-/
import Derived.Test.YtjjnmeahcjpinaaS1
import Derived.Test.YtjjnmeahcjpinaaML6
namespace Go.Proofs.Ytjjnmeahcjpinaa
open Go.Shelf Go.RowKit Go.Joins
attribute [local go_sem] Oper.semAt_some

def reB (cs : List M.T3) (r : Rc) : Bool := M.reachI cs r.x r.y
/-- What InCells answers. -/
def inL (L : List Rc) (t : Int) (cs : List M.T3) : List Int := ((ofL L t).filter (reB cs)).map Rc.i
def kC : Kd M.T3 := ⟨95, 3, fun c => [.int .i64 c.l, .int .i64 c.x, .int .i64 c.y], fun _ => rfl⟩
theorem sl_of {w : World} {p : Option Addr} {L : List M.T3} (h : SlG kC w p L) : M.Sl w p L := by
  rcases h with h | ⟨g, off, h1, h2⟩
  · exact .inl h
  · exact .inr ⟨g, off, h1, h2.1, fun k c hk => ⟨h2.at hk (i := 0) rfl, h2.at hk (i := 1) rfl, h2.at hk (i := 2) rfl⟩⟩
theorem sg_nilI (w : World) : Sg w w [rG kI (.slice none 0 0) []] := by
  refine ⟨Below.refl _ _, fun r hr => ?_, List.pairwise_singleton _ _⟩
  obtain rfl := List.mem_singleton.mp hr
  exact ⟨rfl, .inl ⟨rfl, rfl⟩⟩
theorem fm_take {L : List Rc} {f : Rc → Bool} {k : Nat} {r : Rc} (hk : L[k]? = some r) : ((L.take (k + 1)).filter f).map Rc.i = ((L.take k).filter f).map Rc.i ++ if f r then [r.i] else [] := by
  rw [List.take_add_one, hk, List.filter_append, List.map_append]
  congr 1
  simp only [Option.toList, List.filter]
  cases f r <;> rfl
theorem lit_ci (W : World) (z : Int) : CsG kI (W.alloc (.cells #[.int .i64 z] 2)) W.heap.size 0 [z] :=
  OwG.cs (((Sg.nil W).lit kI [z] 1 rfl (by decide) #[.int .i64 z] rfl).mem (K := kI) (v := .slice (some ⟨W.heap.size, 0, none⟩) 1 1) (L := [z]) (by simp))
theorem ofL_le (L : List Rc) (t : Int) : (ofL L t).length ≤ 400 := by
  unfold ofL
  split
  · exact Nat.le_trans (List.length_filter_le ..) (ok_len ‹_›)
  · simp
abbrev rchI (cs : List M.T3) (x y : Int) : Bool := M.reachI cs x y
theorem iRch_v {L : List M.T3} {s t : Int} {v : Bool} (hv : rchI L s t = v) (p : Option Addr) (cap : Nat) (w : World) (hL : M.Sl w p L) (hn : L.length ≤ 1048576) :
    Calls Try.prog 56 #[.slice p L.length cap, .agg #[.int .i64 s, .int .i64 t]] w fun e w' => e = .returned (.bool v) ∧ Below w.heap.size w w' := M.iReaches_v hv p cap w hL hn
set_option maxRecDepth 100000 in
set_option maxHeartbeats 1000000 in
theorem iIn_any (p : Option Addr) (cap : Nat) (L : List Rc) (n : Nat) (hn : L.length = n) (w : World) (hL : SlG kR w p L) (hb0 : n ≤ 10000000) (t : Int) (cp : Option Addr) (cc : Nat) (cs : List M.T3) (cn : Nat) (hcn : cs.length = cn) (hcs : M.Sl w cp cs) (hcb : cn ≤ 1048576) {I : List Int} (hI : inL L t cs = I) :
    Calls Try.prog 18 #[.slice p n cap, .int .i64 t, .slice cp cn cc] w fun e w' => ∃ q m c, I.length = m ∧ e = .returned (.slice q m c) ∧ Sg w w' [rG kI (.slice q m c) I] := by
  obtain ⟨M, hM⟩ : ∃ M, ofL L t = M := ⟨_, rfl⟩
  have hml := ofL_le L t
  unfold inL at hI
  rw [hM] at hml hI
  have HF := Lib.hid (iOf_any p cap L n hn w hL hb0 t hM)
  have HR : Hid (∀ W x y v, Below w.heap.size w W → rchI cs x y = v → Calls Try.prog 56 #[.slice cp cn cc, .agg #[.int .i64 x, .int .i64 y]] W fun e w' => e = .returned (.bool v) ∧ Below W.heap.size W w') := fun W x y v h hv => by
    subst hcn; exact iRch_v hv cp cc W (hcs.step h) hcb
  clear hn hL hM hcn hcs
  go_enter Try.func18, Try.ntmps18
  go_upto_region 3 with (go_at_call 16; refine HF.out.mono ?_; rintro e w1 ⟨q, m, c, hm, rfl, h1⟩)
  have HM : Hid (M.length = m) := hm
  have hm4 : m ≤ 400 := by rw [← hm]; exact hml
  have hS0 : Sg w w1 [rG kI (.slice none 0 0) [], rG kR (.slice q m c) M] := h1.addL (sg_nilI w1)
  clear h1 hm hml
  go_loopw [7, 14] (fun s7 s14 wr => ∃ (k : Nat) (qa : Option Addr) (ma ca : Nat) (X : List Int), k ≤ m ∧ s14 = .int .i64 k ∧ s7 = .slice qa ma ca ∧ Hid (X = ((M.take k).filter (reB cs)).map Rc.i ∧ X.length = ma ∧ ma ≤ k) ∧ Sg w wr [rG kI (.slice qa ma ca) X, rG kR (.slice q m c) M]) (fun _ i _ => m - (intOf i).toNat)
  case atStart => exact ⟨0, none, 0, 0, [], by omega, rfl, rfl, ⟨rfl, rfl, Nat.le_refl _⟩, hS0⟩
  case round =>
    clear hS0
    obtain ⟨k, qa, ma, ca, X, hk, rfl, rfl, HX, hS⟩ := hrel
    by_cases hlt : k < m
    · have hki : (k : Int) < m := by omega
      have hkM : k < M.length := by rw [HM.out]; exact hlt
      obtain ⟨g, off, rfl, hC⟩ := (OwG.sl (hS.mem (K := kR) (v := .slice q m c) (L := M) (by simp))).at hkM
      have hgk := List.getElem?_eq_getElem hkM
      generalize M[k] = r at hgk
      obtain ⟨c0, c1, c2, c3, c4⟩ := hC.r5 hgk
      have hf := fm_take (f := reB cs) hgk
      have HFm : Hid (((M.take (k + 1)).filter (reB cs)).map Rc.i = ((M.take k).filter (reB cs)).map Rc.i ++ if reB cs r then [r.i] else []) := hf
      have hst := (St.nil wr).push [.int .i64 r.t, .int .i64 r.i, .int .i64 r.x, .int .i64 r.y, .string r.s] 28
      clear hC hgk hf
      cases hw : reB cs r
      · have HN : Hid (X = ((M.take (k + 1)).filter (reB cs)).map Rc.i) := (by rw [HFm.out, hw, HX.out.1]; simp : X = _)
        have hw' : rchI cs r.x r.y = false := hw
        go_wp2_with (go_at_call 56; refine (HR.out _ _ _ _ (hS.step hst.bel).bel hw').mono ?_; rintro e w2 ⟨rfl, hb2⟩)
        go_roundw
        case rel => exact ⟨k + 1, qa, ma, ca, X, by omega, by go_num, rfl, ⟨HN.out, HX.out.2.1, by have := HX.out.2.2; omega⟩, (hS.step hst.bel).step hb2⟩
        case measure => simp [intOf]; omega
      · have HN : Hid (X ++ [r.i] = ((M.take (k + 1)).filter (reB cs)).map Rc.i) := (by rw [HFm.out, hw, HX.out.1]; simp : X ++ [r.i] = _)
        have hw' : rchI cs r.x r.y = true := hw
        go_wp2_with (first
          | (go_at_call 56; refine (HR.out _ _ _ _ (hS.step hst.bel).bel hw').mono ?_; rintro e w2 ⟨rfl, hb2⟩; have hst2 := hst.step hb2; obtain ⟨x0, x1, x2, x3, x4⟩ := has5 hst2.has; have hS2 := (hS.step hst.bel).step hb2)
          | (at_builtin; refine wpList_ap appI oneIs rfl _ _ rfl (A := []) (M := X) (L := [r.i]) (m := ma) (s := ⟨some ⟨w2.heap.size, 0, none⟩, 1, 1⟩) hS2 (below_alloc1 _ _) (.inr ⟨_, 0, rfl, lit_ci w2 r.i⟩) HX.out.2.1 rfl (by have := HX.out.2.2; simp only; omega) (.inl ⟨_, rfl⟩) rfl rfl ?_; intro q2 cap2 w3 hS3 _ _ _))
        go_roundw
        case rel => exact ⟨k + 1, q2, ma + 1, cap2, X ++ [r.i], by omega, by go_num, rfl, ⟨HN.out, by simp [HX.out.2.1], by have := HX.out.2.2; omega⟩, hS3⟩
        case measure => simp [intOf]; omega
    · obtain rfl : k = m := by omega
      have e := HX.out
      rw [List.take_of_length_le (by rw [HM.out]; exact Nat.le_refl _), hI] at e
      have HE : Hid (X = I ∧ X.length = ma) := ⟨e.1, e.2.1⟩
      clear e
      go_wp2
      go_ret
      exact ⟨qa, ma, ca, by rw [← HE.out.1]; exact HE.out.2, rfl, by rw [← HE.out.1]; exact hS.sub (by simp)⟩
theorem anyC_eq {cs : List M.T3} {r : Rc} (h : M.okL cs = true) (hr : recB r = true) : (cs.any fun c => M.inC c r.x r.y) = reB cs r := by
  have hs : M.spB r.x r.y = true := by
    unfold recB spotB rgB at hr
    simp only [Bool.and_eq_true, decide_eq_true_eq] at hr
    exact M.spB_t.2 (by omega)
  unfold reB M.reachI
  rw [h, hs, M.any_ins8 h hs]; rfl
theorem reB_no {cs : List M.T3} (h : M.okL cs = false) (r : Rc) : reB cs r = false := by unfold reB M.reachI; rw [h]; rfl
theorem inL_no1 {L : List Rc} {t : Int} {cs : List M.T3} (h : recsB L = false) : inL L t cs = [] := by unfold inL ofL; rw [h]; rfl
theorem inL_no2 {L : List Rc} {t : Int} {cs : List M.T3} (h : M.okL cs = false) : inL L t cs = [] := by
  unfold inL
  rw [List.filter_eq_nil_iff.2 (fun r _ => by rw [reB_no h r]; simp)]; rfl
theorem inL_eq {L : List Rc} {t : Int} {cs : List M.T3} (h : recsB L = true) : inL L t cs = (L.filter (fun r => tenB t r && reB cs r)).map Rc.i := by
  unfold inL; rw [ofL_eq h, List.filter_filter]
  congr 1
  exact List.filter_congr (fun r _ => Bool.and_comm ..)
set_option maxRecDepth 100000 in
set_option maxHeartbeats 1000000 in
theorem sIn_any (p : Option Addr) (cap : Nat) (L : List Rc) (n : Nat) (hn : L.length = n) (w : World) (hL : SlG kR w p L) (hb0 : n ≤ 10000000) (t : Int) (cp : Option Addr) (cc : Nat) (cs : List M.T3) (cn : Nat) (hcn : cs.length = cn) (hcs : M.Sl w cp cs) (hcb : cn ≤ 1048576) {I : List Int} (hI : inL L t cs = I) :
    Calls Try.prog 26 #[.slice p n cap, .int .i64 t, .slice cp cn cc] w fun e w' => ∃ q m c, I.length = m ∧ e = .returned (.slice q m c) ∧ Sg w w' [rG kI (.slice q m c) I] := by
  have HO := Lib.hid (fun W b (h : Below w.heap.size w W) (hok : recsB L = b) => sOk_v hok p cap n hn W (hL.step h) hb0)
  have HC : Hid (∀ W b, Below w.heap.size w W → M.okL cs = b → Calls Try.prog 64 #[.slice cp cn cc] W fun e w' => e = .returned (.bool b) ∧ Below W.heap.size W w') := fun W b h hok => by
    subst hcn; exact M.l3Cells_v hok cp cc W (hcs.step h) (by omega)
  have hS0 : Sg w (w.alloc (.cells #[] 2)) [rG kI (.slice (some ⟨w.heap.size, 0, none⟩) 0 0) []] := (Sg.nil w).lit kI [] 0 rfl (by decide) #[] rfl
  cases hok : recsB L
  · rw [inL_no1 hok] at hI
    subst hI
    clear hn hL hcn hcs HC
    go_enter Try.func26, Try.ntmps26
    go_wp2_with (go_at_call 23; refine (HO.out _ _ hS0.bel hok).mono ?_; rintro e w1 ⟨rfl, hb1⟩)
    go_ret
    exact ⟨_, 0, 0, rfl, rfl, hS0.step hb1⟩
  · cases hoc : M.okL cs
    · rw [inL_no2 hoc] at hI
      subst hI
      clear hn hL hcn hcs
      go_enter Try.func26, Try.ntmps26
      go_wp2_with (first
        | (go_at_call 23; refine (HO.out _ _ hS0.bel hok).mono ?_; rintro e w1 ⟨rfl, hb1⟩; have hS1 := hS0.step hb1)
        | (go_at_call 64; refine (HC.out _ _ hS1.bel hoc).mono ?_; rintro e w2 ⟨rfl, hb2⟩))
      go_ret
      exact ⟨_, 0, 0, rfl, rfl, hS1.step hb2⟩
    · have hn4 := ok_len hok
      rw [hn] at hn4
      rw [inL_eq hok] at hI
      have HL := Lib.hid hL
      have HN := Lib.hid hn
      have HI := Lib.hid hI
      have HR : Hid (∀ W (r : Rc) v, Below w.heap.size w W → r ∈ L → reB cs r = v → Calls Try.prog 65 #[.slice cp cn cc, .agg #[.int .i64 r.x, .int .i64 r.y]] W fun e w' => e = .returned (.bool v) ∧ Below W.heap.size W w') := fun W r v h hr hv => by
        subst hcn
        exact M.l3Reaches_v ((anyC_eq hoc ((recs_mk.1 hok).2.1 r hr)).trans hv) cp cc W (hcs.step h) hcb (M.okL_all hoc)
      clear hn hL hcn hcs hI
      go_enter Try.func26, Try.ntmps26
      go_upto_region 5 with (first
        | (go_at_call 23; refine (HO.out _ _ hS0.bel hok).mono ?_; rintro e w1 ⟨rfl, hb1⟩; have hS1 := hS0.step hb1)
        | (go_at_call 64; refine (HC.out _ _ hS1.bel hoc).mono ?_; rintro e w2 ⟨rfl, hb2⟩; have hS2 := hS1.step hb2))
      clear hS0 hS1 HO HC
      go_loopw [7, 8] (fun s7 s8 wr => ∃ (k : Nat) (qa : Option Addr) (ma ca : Nat) (X : List Int), k ≤ n ∧ s8 = .int .i64 k ∧ s7 = .slice qa ma ca ∧ Hid (X = ((L.take k).filter (fun r => tenB t r && reB cs r)).map Rc.i ∧ X.length = ma ∧ ma ≤ k) ∧ Sg w wr [rG kI (.slice qa ma ca) X]) (fun _ i _ => n - (intOf i).toNat)
      case atStart => exact ⟨0, _, 0, 0, [], by omega, rfl, rfl, ⟨rfl, rfl, Nat.le_refl _⟩, hS2⟩
      case round =>
        clear hS2
        obtain ⟨k, qa, ma, ca, X, hk, rfl, rfl, HX, hS⟩ := hrel
        by_cases hlt : k < n
        · have hki : (k : Int) < n := by omega
          have hkL : k < L.length := by rw [HN.out]; exact hlt
          obtain ⟨g, off, rfl, hC⟩ := (HL.out.step hS.bel).at hkL
          have hgk := List.getElem?_eq_getElem hkL
          generalize L[k] = r at hgk
          obtain ⟨c0, c1, c2, c3, c4⟩ := hC.r5 hgk
          have hC0 := Lib.hid hC
          have hgk0 := Lib.hid hgk
          have hf := fm_take (f := fun r => tenB t r && reB cs r) hgk
          have HFm : Hid (((L.take (k + 1)).filter (fun r => tenB t r && reB cs r)).map Rc.i = ((L.take k).filter (fun r => tenB t r && reB cs r)).map Rc.i ++ if (tenB t r && reB cs r) then [r.i] else []) := hf
          have HRr := Lib.hid (fun W v h hv => HR.out W r v h (List.mem_of_getElem? hgk) hv)
          clear hC hgk hf
          by_cases ht : r.t = t
          · have hten : tenB t r = true := decide_eq_true ht
            have hd : decide (r.t = t) = true := hten
            have hd2 : (r.t == t) = true := by simp [ht]
            clear ht
            cases hw : reB cs r
            · have HN2 : Hid (X = ((L.take (k + 1)).filter (fun r => tenB t r && reB cs r)).map Rc.i) := (by rw [HFm.out, hten, hw, HX.out.1]; simp : X = _)
              go_wp2_with (go_at_call 65; refine (HRr.out _ _ hS.bel hw).mono ?_; rintro e w3 ⟨rfl, hb3⟩)
              go_roundw
              case rel => exact ⟨k + 1, qa, ma, ca, X, by omega, by go_num, rfl, ⟨HN2.out, HX.out.2.1, by have := HX.out.2.2; omega⟩, hS.step hb3⟩
              case measure => simp [intOf]; omega
            · have HN2 : Hid (X ++ [r.i] = ((L.take (k + 1)).filter (fun r => tenB t r && reB cs r)).map Rc.i) := (by rw [HFm.out, hten, hw, HX.out.1]; simp : X ++ [r.i] = _)
              go_wp2_with (first
                | (go_at_call 65; refine (HRr.out _ _ hS.bel hw).mono ?_; rintro e w3 ⟨rfl, hb3⟩; have hS3 := hS.step hb3; clear c0 c1 c2 c3 c4; obtain ⟨c0, c1, c2, c3, c4⟩ := (hC0.out.step hb3).r5 hgk0.out)
                | (at_builtin; refine wpList_ap appI oneIs rfl _ _ rfl (A := []) (M := X) (L := [r.i]) (m := ma) (s := ⟨some ⟨w3.heap.size, 0, none⟩, 1, 1⟩) hS3 (below_alloc1 _ _) (.inr ⟨_, 0, rfl, lit_ci w3 r.i⟩) HX.out.2.1 rfl (by have := HX.out.2.2; simp only; omega) (.inl ⟨_, rfl⟩) rfl rfl ?_; intro q2 cap2 w4 hS4 _ _ _))
              go_roundw
              case rel => exact ⟨k + 1, q2, ma + 1, cap2, X ++ [r.i], by omega, by go_num, rfl, ⟨HN2.out, by simp [HX.out.2.1], by have := HX.out.2.2; omega⟩, hS4⟩
              case measure => simp [intOf]; omega
          · have hten : tenB t r = false := decide_eq_false ht
            have hd : decide (r.t = t) = false := hten
            have hd2 : (r.t == t) = false := by simp [ht]
            have HN2 : Hid (X = ((L.take (k + 1)).filter (fun r => tenB t r && reB cs r)).map Rc.i) := (by rw [HFm.out, hten, HX.out.1]; simp : X = _)
            clear ht
            go_wp2
            go_roundw
            case rel => exact ⟨k + 1, qa, ma, ca, X, by omega, by go_num, rfl, ⟨HN2.out, HX.out.2.1, by have := HX.out.2.2; omega⟩, hS⟩
            case measure => simp [intOf]; omega
        · obtain rfl : k = n := by omega
          have e := HX.out
          rw [List.take_of_length_le (by rw [HN.out]; exact Nat.le_refl _), HI.out] at e
          have HE : Hid (X = I ∧ X.length = ma) := ⟨e.1, e.2.1⟩
          clear e
          go_wp2
          go_ret
          exact ⟨qa, ma, ca, by rw [← HE.out.1]; exact HE.out.2, rfl, by rw [← HE.out.1]; exact hS⟩
end Go.Proofs.Ytjjnmeahcjpinaa
