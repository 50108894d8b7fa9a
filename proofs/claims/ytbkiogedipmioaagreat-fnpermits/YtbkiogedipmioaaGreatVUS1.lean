/-
  The spec's Of, and the look-up of one Record.
-/
import Derived.Test.YtbkiogedipmioaaGreatVUB6
namespace Go.Proofs.YtbkiogedipmioaaGreat.V.U
open Go.Shelf Go.RowKit Go.Joins
attribute [local go_sem] Oper.semAt_some

theorem sg_lit0 {w W : World} (h : Below w.heap.size w W) : Sg w (W.alloc (.cells #[] 79)) [rG kR (.slice (some ⟨W.heap.size, 0, none⟩) 0 0) []] := (sg_bel h).lit kR [] 0 rfl (by decide) #[] rfl
theorem isAt_not {L : List Rc} {q : Rc} (h : ∀ a ∈ L, sameK a q = false) : isAt L q = false := by
  cases e : isAt L q
  · rfl
  · have hl := isAt_lt e
    rw [isAt_get (List.getElem?_eq_getElem hl)] at e
    rw [h _ (List.getElem_mem hl)] at e; cases e
/-- Where the first one with this Tenant and Id stands, or -1. -/
def atI (L : List Rc) (q : Rc) : Int := if isAt L q = true then (pos L q : Int) else -1
set_option maxRecDepth 100000 in
set_option maxHeartbeats 1000000 in
theorem sAt_any (p : Option Addr) (cap : Nat) (L : List Rc) (n : Nat) (hn : L.length = n) (w : World) (hL : SlG kR w p L) (hb0 : n ≤ 10000000) (q : Rc) (hr : riseB L = true) {v : Int} (hv : atI L q = v) :
    Calls Tryz.prog 80 #[.slice p n cap, .int .i64 q.t, .int .i64 q.i] w fun e w' => e = .returned (.int .i64 v) ∧ w' = w := by
  subst hn
  have HK := Lib.hid (fun (j : Nat) (a : Rc) (ha : L[j]? = some a) (hk : sameK a q = true) => key_at hr ha hk)
  have HV := Lib.hid hv
  have HL : Hid ((∀ a ∈ L, sameK a q = false) → isAt L q = false) := isAt_not
  obtain ⟨qt, qi, qx, qy, qs⟩ := q
  clear hr hv
  go_enter Tryz.func80, Tryz.ntmps80
  go_wp2
  go_loop [7] (fun i => ∃ k : Nat, k ≤ L.length ∧ i = .int .i64 k ∧ Hid (∀ j a, j < k → L[j]? = some a → sameK a ⟨qt, qi, qx, qy, qs⟩ = false)) (fun i => L.length - (intOf i).toNat)
  case atStart => exact ⟨0, by omega, rfl, fun j a h => by omega⟩
  case round =>
    obtain ⟨k, hk, rfl, hall⟩ := hrel
    by_cases hlt : k < L.length
    · have hki : (k : Int) < L.length := by omega
      obtain ⟨g, off, rfl, hC⟩ := hL.at hlt
      have hgk := List.getElem?_eq_getElem hlt
      generalize L[k] = r at hgk
      obtain ⟨c0, c1, c2, c3, c4⟩ := hC.r5 hgk
      have HG := Lib.hid hgk
      clear hC hgk
      have HR : sameK r ⟨qt, qi, qx, qy, qs⟩ = false → Hid (∀ j a, j < k + 1 → L[j]? = some a → sameK a ⟨qt, qi, qx, qy, qs⟩ = false) := fun h j a hj ha => by
        by_cases e : j = k
        · subst e; rw [HG.out] at ha; cases ha; exact h
        · exact hall.out j a (by omega) ha
      by_cases ht : r.t = qt
      · have hd1 : (r.t == qt) = true := by simp [ht]
        by_cases hi : r.i = qi
        · have hd2 : (r.i == qi) = true := by simp [hi]
          have hkk := HK.out k r HG.out (sameK_iff.2 ⟨ht, hi⟩)
          have HE : Hid ((k : Int) = v) := (by rw [← HV.out]; unfold atI; rw [if_pos hkk.2, ← hkk.1] : (k : Int) = v)
          clear hkk
          go_wp2
          go_ret
          exact ⟨ret_i64 HE.out, rfl⟩
        · have hd2 : (r.i == qi) = false := by simp [hi]
          have HN := HR (sameK_no.2 (fun h => hi h.2))
          clear HR
          go_wp2
          go_round
          case rel => exact ⟨k + 1, by omega, by go_num, HN⟩
          case measure => simp [intOf]; omega
      · have hd1 : (r.t == qt) = false := by simp [ht]
        have HN := HR (sameK_no.2 (fun h => ht h.1))
        clear HR
        go_wp2
        go_round
        case rel => exact ⟨k + 1, by omega, by go_num, HN⟩
        case measure => simp [intOf]; omega
    · obtain rfl : k = L.length := by omega
      have HE : Hid ((-1 : Int) = v) := (by
        rw [← HV.out]; unfold atI
        rw [if_neg]
        rw [HL.out (fun a ha => by obtain ⟨j, hj, rfl⟩ := List.getElem_of_mem ha; exact hall.out j _ hj (List.getElem?_eq_getElem hj))]
        simp : (-1 : Int) = v)
      go_wp2
      go_ret
      exact ⟨ret_i64 HE.out, rfl⟩
end Go.Proofs.YtbkiogedipmioaaGreat.V.U
