/-
  The program's Of and Same.
-/
import Derived.Test.YtjjnmeahcjpinaaB7
namespace Go.Proofs.Ytjjnmeahcjpinaa
open Go.Shelf Go.RowKit Go.Joins
attribute [local go_sem] Oper.semAt_some

def tenB (t : Int) (r : Rc) : Bool := decide (r.t = t)
theorem ofL_eq {L : List Rc} {t : Int} (h : recsB L = true) : ofL L t = L.filter (tenB t) := by unfold ofL; rw [if_pos h]; rfl
theorem wanted_any (r : Rc) (t : Int) (gb : Nat) (w : World) (h : w.cell? ⟨gb, 0, none⟩ = some (.int .i64 t)) (hg : gb < w.heap.size) :
    Calls Try.prog 54 #[r.v, .pointer (some ⟨gb, 0, none⟩)] w fun e w' => e = .returned (.bool (tenB t r)) ∧ Below w.heap.size w w' := by
  have h' : (w.alloc (.cells #[.int .i64 r.t, .int .i64 r.i, .int .i64 r.x, .int .i64 r.y, .string r.s] 28)).cell? ⟨gb, 0, none⟩ = some (.int .i64 t) := ((below_alloc1 w _).cell (p := ⟨gb, 0, none⟩) hg).trans h
  have hne : ¬ gb = w.heap.size := by omega
  unfold tenB
  by_cases ht : r.t = t
  · have hd : decide (r.t = t) = true := decide_eq_true ht
    have hd2 : (r.t == t) = true := by simp [ht]
    rw [hd]
    go_enter Try.func54, Try.ntmps54
    go_wp2
    go_ret
    exact ⟨by first | rfl | simp [ht], below_alloc1 _ _⟩
  · have hd : decide (r.t = t) = false := decide_eq_false ht
    have hd2 : (r.t == t) = false := by simp [ht]
    rw [hd]
    go_enter Try.func54, Try.ntmps54
    go_wp2
    go_ret
    exact ⟨by first | rfl | simp [ht], below_alloc1 _ _⟩
theorem wanted_v {r : Rc} {t : Int} {b : Bool} (hb : tenB t r = b) (gb : Nat) (w : World) (h : w.cell? ⟨gb, 0, none⟩ = some (.int .i64 t)) (hg : gb < w.heap.size) :
    Calls Try.prog 54 #[r.v, .pointer (some ⟨gb, 0, none⟩)] w fun e w' => e = .returned (.bool b) ∧ Below w.heap.size w w' := hb ▸ wanted_any r t gb w h hg
theorem filter_take {L : List Rc} {f : Rc → Bool} {k : Nat} (hk : k < L.length) : (L.take (k + 1)).filter f = (L.take k).filter f ++ [L[k]].filter f := by
  rw [List.take_succ_eq_append_getElem hk, List.filter_append]
set_option maxRecDepth 100000 in
set_option maxHeartbeats 1000000 in
theorem those_any (p : Option Addr) (cap : Nat) (L : List Rc) (n : Nat) (hn : L.length = n) (w : World) (hL : SlG kR w p L) (hb0 : n ≤ 1000) (t : Int) (gb : Nat) (h : w.cell? ⟨gb, 0, none⟩ = some (.int .i64 t)) (hg : gb < w.heap.size) :
    Calls Try.prog 53 #[.slice p n cap, .func (.func 54) #[] #[.pointer (some ⟨gb, 0, none⟩)]] w fun e w' => ∃ q m c, (L.filter (tenB t)).length = m ∧ e = .returned (.slice q m c) ∧ Sg w w' [rG kR (.slice q m c) (L.filter (tenB t))] := by
  subst hn
  go_enter Try.func53, Try.ntmps53
  go_wp2
  go_loopw [5, 10] (fun s5 s10 wr => ∃ (k : Nat) (q : Option Addr) (m c : Nat) (M : List Rc), k ≤ L.length ∧ s10 = .int .i64 k ∧ s5 = .slice q m c ∧ Hid (M = (L.take k).filter (tenB t) ∧ M.length = m ∧ m ≤ k) ∧ Sg w wr [rG kR (.slice q m c) M]) (fun _ i _ => L.length - (intOf i).toNat)
  case atStart => exact ⟨0, none, 0, 0, [], by omega, rfl, rfl, ⟨rfl, rfl, Nat.le_refl _⟩, sg_nilrow w⟩
  case round =>
    obtain ⟨k, q, m, c, M, hk, rfl, rfl, HM, hS⟩ := hrel
    by_cases hlt : k < L.length
    · have hki : (k : Int) < L.length := by omega
      obtain ⟨g, off, rfl, hC⟩ := (hL.step hS.bel).at hlt
      have hgk := List.getElem?_eq_getElem hlt
      have hf := filter_take (f := tenB t) hlt
      generalize L[k] = r at hgk hf
      obtain ⟨c0, c1, c2, c3, c4⟩ := hC.r5 hgk
      have HF : Hid ((L.take (k + 1)).filter (tenB t) = (L.take k).filter (tenB t) ++ [r].filter (tenB t)) := hf
      have hst := (St.nil wr).push [.int .i64 r.t, .int .i64 r.i, .int .i64 r.x, .int .i64 r.y, .string r.s] 28
      have hcb := ((hS.bel.trans (hst.bel.mono hS.bel.size)).cell (p := ⟨gb, 0, none⟩) hg).trans h
      have hgb2 : gb < (wr.alloc (.cells #[.int .i64 r.t, .int .i64 r.i, .int .i64 r.x, .int .i64 r.y, .string r.s] 28)).heap.size := by have := hS.bel.size; simp; omega
      have HW := Lib.hid (fun b (hb : tenB t r = b) => wanted_v hb gb _ hcb hgb2)
      clear hC hgk hf hcb hgb2
      cases hw : tenB t r
      · have HN : Hid (M = (L.take (k + 1)).filter (tenB t)) := (HM.out.1.trans (by rw [HF.out, List.filter_cons_of_neg (by simp [hw])]; simp) : M = _)
        go_wp2_with (go_at_call 54; refine (HW.out _ hw).mono ?_; rintro e w1 ⟨rfl, hb1⟩)
        go_roundw
        case rel => exact ⟨k + 1, q, m, c, M, by omega, by go_num, rfl, ⟨HN.out, HM.out.2.1, by have := HM.out.2.2; omega⟩, (hS.step hst.bel).step hb1⟩
        case measure => simp [intOf]; omega
      · have HN : Hid (M ++ [r] = (L.take (k + 1)).filter (tenB t)) := (by rw [HF.out, List.filter_cons_of_pos hw, HM.out.1]; rfl : M ++ [r] = _)
        go_wp2_with (first
          | (go_at_call 54; refine (HW.out _ hw).mono ?_; rintro e w1 ⟨rfl, hb1⟩; have hst1 := hst.step hb1; obtain ⟨x0, x1, x2, x3, x4⟩ := has5 hst1.has; have hS1 := (hS.step hst.bel).step hb1)
          | (at_builtin; refine wpList_ap appR2 oneRs rfl _ _ rfl (A := []) (M := M) (L := [r]) (m := m) (s := ⟨some ⟨w1.heap.size, 0, none⟩, 1, 1⟩) hS1 (below_alloc1 _ _) (.inr ⟨_, 0, rfl, lit_cs w1 r⟩) HM.out.2.1 rfl (by have := HM.out.2.2; simp only; omega) (.inl ⟨_, rfl⟩) rfl rfl ?_; intro q2 cap2 w2 hS2 _ _ _))
        go_roundw
        case rel => exact ⟨k + 1, q2, m + 1, cap2, M ++ [r], by omega, by go_num, rfl, ⟨HN.out, by simp [HM.out.2.1], by have := HM.out.2.2; omega⟩, hS2⟩
        case measure => simp [intOf]; omega
    · obtain rfl : k = L.length := by omega
      have e := HM.out
      rw [List.take_length] at e
      have HM2 : Hid (M = L.filter (tenB t) ∧ M.length = m) := ⟨e.1, e.2.1⟩
      clear e
      go_wp2
      go_ret
      exact ⟨q, m, c, by rw [← HM2.out.1]; exact HM2.out.2, rfl, by rw [← HM2.out.1]; exact hS⟩
set_option maxHeartbeats 1000000 in
theorem iOf_any (p : Option Addr) (cap : Nat) (L : List Rc) (n : Nat) (hn : L.length = n) (w : World) (hL : SlG kR w p L) (hb0 : n ≤ 10000000) (t : Int) {M : List Rc} (hM : ofL L t = M) :
    Calls Try.prog 16 #[.slice p n cap, .int .i64 t] w fun e w' => ∃ q m c, M.length = m ∧ e = .returned (.slice q m c) ∧ Sg w w' [rG kR (.slice q m c) M] := by
  have hst := (St.nil w).push [.int .i64 t] 2
  cases hok : recsB L
  · have e : ofL L t = [] := by unfold ofL; rw [hok]; rfl
    rw [e] at hM
    subst hM
    have HOK := Lib.hid (fun W h => iOk_v hok p cap n hn W (hL.step h) hb0)
    clear hok hn hL
    go_enter Try.func16, Try.ntmps16
    go_wp2_with (go_at_call 22; refine (HOK.out _ hst.bel).mono ?_; rintro e w1 ⟨rfl, hb1⟩)
    go_ret
    exact ⟨none, 0, 0, rfl, rfl, sg_nilB (hst.step hb1).bel⟩
  · have hn4 := ok_len hok
    rw [hn] at hn4
    have HOK := Lib.hid (fun W h => iOk_v hok p cap n hn W (hL.step h) hb0)
    have HT := Lib.hid (fun W h hc hg => those_any p cap L n hn W (hL.step h) (by omega) t w.heap.size hc hg)
    rw [ofL_eq hok] at hM
    rw [hM] at HT
    clear hok hn hL hM
    go_enter Try.func16, Try.ntmps16
    go_wp2_with (first
      | (go_at_call 22; refine (HOK.out _ hst.bel).mono ?_; rintro e w1 ⟨rfl, hb1⟩; have hst1 := hst.step hb1; have hk := hst1.has; have hk2 := hst1.size)
      | (go_at_call 53; refine (HT.out _ hst1.bel hk.1.2.2.1 hk.1.1).mono ?_; rintro e w2 ⟨q, m, c, hm, rfl, h2⟩))
    go_ret
    exact ⟨q, m, c, hm, rfl, by simpa using (sg_bel hst1.bel).addL h2⟩
end Go.Proofs.Ytjjnmeahcjpinaa
