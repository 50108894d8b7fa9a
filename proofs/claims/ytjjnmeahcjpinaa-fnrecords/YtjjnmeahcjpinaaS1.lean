/-
  The spec's Of, and the look-up of one Record.
-/
import Derived.Test.YtjjnmeahcjpinaaB8
namespace Go.Proofs.Ytjjnmeahcjpinaa
open Go.Shelf Go.RowKit Go.Joins
attribute [local go_sem] Oper.semAt_some

theorem sg_lit0 {w W : World} (h : Below w.heap.size w W) : Sg w (W.alloc (.cells #[] 28)) [rG kR (.slice (some ⟨W.heap.size, 0, none⟩) 0 0) []] := (sg_bel h).lit kR [] 0 rfl (by decide) #[] rfl
set_option maxRecDepth 100000 in
set_option maxHeartbeats 1000000 in
theorem sOfL_any (p : Option Addr) (cap : Nat) (L : List Rc) (n : Nat) (hn : L.length = n) (w : World) (hL : SlG kR w p L) (hb0 : n ≤ 1000) (t : Int) :
    Calls Try.prog 63 #[.slice p n cap, .int .i64 t] w fun e w' => ∃ q m c, (L.filter (tenB t)).length = m ∧ e = .returned (.slice q m c) ∧ Sg w w' [rG kR (.slice q m c) (L.filter (tenB t))] := by
  subst hn
  have hS0 := sg_lit0 (Below.refl w.heap.size w)
  go_enter Try.func63, Try.ntmps63
  go_wp2
  go_loopw [5, 6] (fun s5 s10 wr => ∃ (k : Nat) (q : Option Addr) (m c : Nat) (M : List Rc), k ≤ L.length ∧ s10 = .int .i64 k ∧ s5 = .slice q m c ∧ Hid (M = (L.take k).filter (tenB t) ∧ M.length = m ∧ m ≤ k) ∧ Sg w wr [rG kR (.slice q m c) M]) (fun _ i _ => L.length - (intOf i).toNat)
  case atStart => exact ⟨0, _, 0, 0, [], by omega, rfl, rfl, ⟨rfl, rfl, Nat.le_refl _⟩, hS0⟩
  case round =>
    clear hS0
    obtain ⟨k, q, m, c, M, hk, rfl, rfl, HM, hS⟩ := hrel
    by_cases hlt : k < L.length
    · have hki : (k : Int) < L.length := by omega
      obtain ⟨g, off, rfl, hC⟩ := (hL.step hS.bel).at hlt
      have hgk := List.getElem?_eq_getElem hlt
      have hf := filter_take (f := tenB t) hlt
      generalize L[k] = r at hgk hf
      obtain ⟨c0, c1, c2, c3, c4⟩ := hC.r5 hgk
      have HF : Hid ((L.take (k + 1)).filter (tenB t) = (L.take k).filter (tenB t) ++ [r].filter (tenB t)) := hf
      clear hC hgk hf
      by_cases ht : r.t = t
      · have hw : tenB t r = true := decide_eq_true ht
        have hd2 : (r.t == t) = true := by simp [ht]
        have HN : Hid (M ++ [r] = (L.take (k + 1)).filter (tenB t)) := (by rw [HF.out, List.filter_cons_of_pos hw, HM.out.1]; rfl : M ++ [r] = _)
        have hd : decide (r.t = t) = true := hw
        clear ht hw
        go_wp2_with (at_builtin; refine wpList_ap appR oneRs rfl _ _ rfl (A := []) (M := M) (L := [r]) (m := m) (s := ⟨some ⟨wr.heap.size, 0, none⟩, 1, 1⟩) hS (below_alloc1 _ _) (.inr ⟨_, 0, rfl, lit_cs wr r⟩) HM.out.2.1 rfl (by have := HM.out.2.2; simp only; omega) (.inl ⟨_, rfl⟩) rfl rfl ?_; intro q2 cap2 w2 hS2 _ _ _)
        go_roundw
        case rel => exact ⟨k + 1, q2, m + 1, cap2, M ++ [r], by omega, by go_num, rfl, ⟨HN.out, by simp [HM.out.2.1], by have := HM.out.2.2; omega⟩, hS2⟩
        case measure => simp [intOf]; omega
      · have hw : tenB t r = false := decide_eq_false ht
        have hd2 : (r.t == t) = false := by simp [ht]
        have HN : Hid (M = (L.take (k + 1)).filter (tenB t)) := (HM.out.1.trans (by rw [HF.out, List.filter_cons_of_neg (by simp [hw])]; simp) : M = _)
        go_wp2
        go_roundw
        case rel => exact ⟨k + 1, q, m, c, M, by omega, by go_num, rfl, ⟨HN.out, HM.out.2.1, by have := HM.out.2.2; omega⟩, hS⟩
        case measure => simp [intOf]; omega
    · obtain rfl : k = L.length := by omega
      have e := HM.out
      rw [List.take_length] at e
      have HM2 : Hid (M = L.filter (tenB t) ∧ M.length = m) := ⟨e.1, e.2.1⟩
      clear e
      go_wp2
      go_ret
      exact ⟨q, m, c, by rw [← HM2.out.1]; exact HM2.out.2, rfl, by rw [← HM2.out.1]; exact hS⟩
set_option maxHeartbeats 1000000 in
theorem sOf_any (p : Option Addr) (cap : Nat) (L : List Rc) (n : Nat) (hn : L.length = n) (w : World) (hL : SlG kR w p L) (hb0 : n ≤ 10000000) (t : Int) {M : List Rc} (hM : ofL L t = M) :
    Calls Try.prog 24 #[.slice p n cap, .int .i64 t] w fun e w' => ∃ q m c, M.length = m ∧ e = .returned (.slice q m c) ∧ Sg w w' [rG kR (.slice q m c) M] := by
  cases hok : recsB L
  · have e : ofL L t = [] := by unfold ofL; rw [hok]; rfl
    rw [e] at hM
    subst hM
    have HOK := Lib.hid (sOk_v hok p cap n hn w hL hb0)
    clear hok hn hL
    go_enter Try.func24, Try.ntmps24
    go_wp2_with (go_at_call 23; refine HOK.out.mono ?_; rintro e w1 ⟨rfl, hb1⟩)
    go_ret
    exact ⟨_, 0, 0, rfl, rfl, sg_lit0 hb1⟩
  · have hn4 := ok_len hok
    rw [hn] at hn4
    have HOK := Lib.hid (sOk_v hok p cap n hn w hL hb0)
    have HT := Lib.hid (fun W h => sOfL_any p cap L n hn W (hL.step h) (by omega) t)
    rw [ofL_eq hok] at hM
    rw [hM] at HT
    clear hok hn hL hM
    go_enter Try.func24, Try.ntmps24
    go_wp2_with (first
      | (go_at_call 23; refine HOK.out.mono ?_; rintro e w1 ⟨rfl, hb1⟩)
      | (go_at_call 63; refine (HT.out _ hb1).mono ?_; rintro e w2 ⟨q, m, c, hm, rfl, h2⟩))
    go_ret
    exact ⟨q, m, c, hm, rfl, by simpa using (sg_bel hb1).addL h2⟩
theorem isAt_not {L : List Rc} {q : Rc} (h : ∀ a ∈ L, sameK a q = false) : isAt L q = false := by
  cases e : isAt L q
  · rfl
  · have hl := isAt_lt e
    rw [isAt_get (List.getElem?_eq_getElem hl)] at e
    rw [h _ (List.getElem_mem hl)] at e; cases e
/-- Where the first one with this Tenant and Id stands, or -1. -/
def atI (L : List Rc) (q : Rc) : Int := if isAt L q = true then (pos L q : Int) else -1
set_option maxRecDepth 100000 in
set_option maxHeartbeats 1000000 in
theorem sAt_any (p : Option Addr) (cap : Nat) (L : List Rc) (n : Nat) (hn : L.length = n) (w : World) (hL : SlG kR w p L) (hb0 : n ≤ 10000000) (q : Rc) (hr : riseB L = true) {v : Int} (hv : atI L q = v) :
    Calls Try.prog 89 #[.slice p n cap, .int .i64 q.t, .int .i64 q.i] w fun e w' => e = .returned (.int .i64 v) ∧ w' = w := by
  subst hn
  have HK := Lib.hid (fun (j : Nat) (a : Rc) (ha : L[j]? = some a) (hk : sameK a q = true) => key_at hr ha hk)
  have HV := Lib.hid hv
  have HL : Hid ((∀ a ∈ L, sameK a q = false) → isAt L q = false) := isAt_not
  obtain ⟨qt, qi, qx, qy, qs⟩ := q
  clear hr hv
  go_enter Try.func89, Try.ntmps89
  go_wp2
  go_loop [7] (fun i => ∃ k : Nat, k ≤ L.length ∧ i = .int .i64 k ∧ Hid (∀ j a, j < k → L[j]? = some a → sameK a ⟨qt, qi, qx, qy, qs⟩ = false)) (fun i => L.length - (intOf i).toNat)
  case atStart => exact ⟨0, by omega, rfl, fun j a h => by omega⟩
  case round =>
    obtain ⟨k, hk, rfl, hall⟩ := hrel
    by_cases hlt : k < L.length
    · have hki : (k : Int) < L.length := by omega
      obtain ⟨g, off, rfl, hC⟩ := hL.at hlt
      have hgk := List.getElem?_eq_getElem hlt
      generalize L[k] = r at hgk
      obtain ⟨c0, c1, c2, c3, c4⟩ := hC.r5 hgk
      have HG := Lib.hid hgk
      clear hC hgk
      have HR : sameK r ⟨qt, qi, qx, qy, qs⟩ = false → Hid (∀ j a, j < k + 1 → L[j]? = some a → sameK a ⟨qt, qi, qx, qy, qs⟩ = false) := fun h j a hj ha => by
        by_cases e : j = k
        · subst e; rw [HG.out] at ha; cases ha; exact h
        · exact hall.out j a (by omega) ha
      by_cases ht : r.t = qt
      · have hd1 : (r.t == qt) = true := by simp [ht]
        by_cases hi : r.i = qi
        · have hd2 : (r.i == qi) = true := by simp [hi]
          have hkk := HK.out k r HG.out (sameK_iff.2 ⟨ht, hi⟩)
          have HE : Hid ((k : Int) = v) := (by rw [← HV.out]; unfold atI; rw [if_pos hkk.2, ← hkk.1] : (k : Int) = v)
          clear hkk
          go_wp2
          go_ret
          exact ⟨ret_i64 HE.out, rfl⟩
        · have hd2 : (r.i == qi) = false := by simp [hi]
          have HN := HR (sameK_no.2 (fun h => hi h.2))
          clear HR
          go_wp2
          go_round
          case rel => exact ⟨k + 1, by omega, by go_num, HN⟩
          case measure => simp [intOf]; omega
      · have hd1 : (r.t == qt) = false := by simp [ht]
        have HN := HR (sameK_no.2 (fun h => ht h.1))
        clear HR
        go_wp2
        go_round
        case rel => exact ⟨k + 1, by omega, by go_num, HN⟩
        case measure => simp [intOf]; omega
    · obtain rfl : k = L.length := by omega
      have HE : Hid ((-1 : Int) = v) := (by
        rw [← HV.out]; unfold atI
        rw [if_neg]
        rw [HL.out (fun a ha => by obtain ⟨j, hj, rfl⟩ := List.getElem_of_mem ha; exact hall.out j _ hj (List.getElem?_eq_getElem hj))]
        simp : (-1 : Int) = v)
      go_wp2
      go_ret
      exact ⟨ret_i64 HE.out, rfl⟩
end Go.Proofs.Ytjjnmeahcjpinaa
