/-
  Items: is one right, which comes first, are all right, do they rise.
-/
import Derived.Test.YtobbankkfplooaaGreatKIX
import Derived.Test.YtobbankkfplooaaGreatKIB0
import Derived.Laws.StructEq
namespace Go.Proofs.YtobbankkfplooaaGreat.K.I
open Go.Shelf Go.RowKit Go.Joins
attribute [local go_sem] Oper.semAt_some

theorem no_bytes : ByteArray.empty.toList = [] := by rw [ByteArray.toList_eq]; rfl
theorem toList_inj {a b : ByteArray} (h : a.toList = b.toList) : a = b := by
  rw [ByteArray.toList_eq, ByteArray.toList_eq] at h
  obtain ⟨⟨x⟩⟩ := a
  obtain ⟨⟨y⟩⟩ := b
  have h' : x = y := h
  rw [h']
theorem recB1 (i x y : Int) (s : ByteArray) : recB ⟨1, i, x, y, s⟩ = (rgB i 1 100000 && (spotB x y && szB s)) := by unfold recB; simp
theorem recB2 (i x y : Int) (s : ByteArray) : recB ⟨2, i, x, y, s⟩ = (rgB i 1 100000 && decide (x = 0 ∧ y = 0 ∧ s = ByteArray.empty)) := by unfold recB; simp
theorem recB3 {t i x y : Int} {s : ByteArray} (h1 : ¬ t = 1) (h2 : ¬ t = 2) : recB ⟨t, i, x, y, s⟩ = false := by unfold recB; simp [h1, h2]
set_option maxHeartbeats 1000000 in
theorem isRec_any (r : Rc) (w : World) : Calls Tryz.prog 109 #[r.v] w fun e w' => e = .returned (.bool (recB r)) ∧ Below w.heap.size w w' := by
  obtain ⟨t, i, x, y, s⟩ := r
  have hst := (St.nil w).push [.int .i64 t, .int .i64 i, .int .i64 x, .int .i64 y, .string s] 91
  by_cases h1 : t = 1
  · subst h1
    rw [recB1]
    cases h2 : rgB i 1 100000
    · go_enter Tryz.func109, Tryz.ntmps109
      go_wp2_with (go_at_call 102; refine (isId_v h2 _).mono ?_; rintro e w1 ⟨rfl, rfl⟩)
      go_ret
      exact ⟨ret_bool (by simp only [Bool.false_and]), hst.bel⟩
    cases h3 : spotB x y
    · go_enter Tryz.func109, Tryz.ntmps109
      go_wp2_with (first | (go_at_call 102; refine (isId_v h2 _).mono ?_; rintro e w1 ⟨rfl, rfl⟩) | (go_at_call 115; refine (isSpot_v h3 _).mono ?_; rintro e w1 ⟨rfl, hb1⟩; have hs1 := hst.step hb1))
      go_ret
      exact ⟨ret_bool (by simp only [Bool.true_and, Bool.false_and]), hs1.bel⟩
    obtain ⟨v, h4⟩ : ∃ v, szB s = v := ⟨_, rfl⟩
    have h5 := szB_i h4
    go_enter Tryz.func109, Tryz.ntmps109
    go_wp2_with (first | (go_at_call 102; refine (isId_v h2 _).mono ?_; rintro e w1 ⟨rfl, rfl⟩) | (go_at_call 115; refine (isSpot_v h3 _).mono ?_; rintro e w1 ⟨rfl, hb1⟩; have hs1 := hst.step hb1; have hk := hs1.has; simp [Has, HasAt] at hk))
    go_ret
    exact ⟨ret_bool (by simp only [h4, Bool.true_and]), hs1.bel⟩
  · by_cases h0 : t = 2
    · subst h0
      rw [recB2]
      cases h2 : rgB i 1 100000
      · go_enter Tryz.func109, Tryz.ntmps109
        go_wp2_with (go_at_call 102; refine (isId_v h2 _).mono ?_; rintro e w1 ⟨rfl, rfl⟩)
        go_ret
        exact ⟨ret_bool (by simp only [Bool.false_and]), hst.bel⟩
      by_cases e3 : x = 0
      · subst e3
        by_cases e4 : y = 0
        · subst e4
          by_cases e5 : s.toList = []
          · have es : s = ByteArray.empty := toList_inj (by rw [e5, no_bytes])
            subst es
            go_enter Tryz.func109, Tryz.ntmps109
            go_wp2_with (go_at_call 102; refine (isId_v h2 _).mono ?_; rintro e w1 ⟨rfl, rfl⟩)
            go_ret
            exact ⟨ret_bool (by simp), hst.bel⟩
          · have es : ¬ s = ByteArray.empty := fun h => e5 (by rw [h, no_bytes])
            go_enter Tryz.func109, Tryz.ntmps109
            go_wp2_with (go_at_call 102; refine (isId_v h2 _).mono ?_; rintro e w1 ⟨rfl, rfl⟩)
            go_ret
            exact ⟨ret_bool (by simp [es]), hst.bel⟩
        · go_enter Tryz.func109, Tryz.ntmps109
          go_wp2_with (go_at_call 102; refine (isId_v h2 _).mono ?_; rintro e w1 ⟨rfl, rfl⟩)
          go_ret
          exact ⟨ret_bool (by simp [e4]), hst.bel⟩
      · go_enter Tryz.func109, Tryz.ntmps109
        go_wp2_with (go_at_call 102; refine (isId_v h2 _).mono ?_; rintro e w1 ⟨rfl, rfl⟩)
        go_ret
        exact ⟨ret_bool (by simp [e3]), hst.bel⟩
    · rw [recB3 h1 h0]
      go_enter Tryz.func109, Tryz.ntmps109
      go_wp2
      go_ret
      exact ⟨rfl, hst.bel⟩
theorem isRec_v {r : Rc} {v : Bool} (hv : recB r = v) (w : World) : Calls Tryz.prog 109 #[r.v] w fun e w' => e = .returned (.bool v) ∧ Below w.heap.size w w' := hv ▸ isRec_any r w
set_option maxHeartbeats 1000000 in
theorem byOwner_any (a b : Rc) (w : World) : Calls Tryz.prog 111 #[a.v, b.v] w fun e w' => e = .returned (.int .i64 (cmpI a b)) ∧ Below w.heap.size w w' := by
  go_enter Tryz.func111, Tryz.ntmps111
  go_wp2_with (go_at_call 78; refine (compare_any _ _ _).mono ?_; rintro e w1 ⟨rfl, rfl⟩)
  go_ret
  exact ⟨rfl, below_alloc2 _ _ _⟩
theorem byOwner_v {a b : Rc} {v : Int} (hv : cmpI a b = v) (w : World) : Calls Tryz.prog 111 #[a.v, b.v] w fun e w' => e = .returned (.int .i64 v) ∧ Below w.heap.size w w' := hv ▸ byOwner_any a b w
set_option maxHeartbeats 1000000 in
theorem are_any (p : Option Addr) (cap : Nat) (L : List Rc) (n : Nat) (hn : L.length = n) (w : World) (hL : SlG kR w p L) (hb0 : n ≤ 10000000) {fb : Bool} (hv : L.all recB = fb) :
    Calls Tryz.prog 108 #[.slice p n cap, .func (.func 109) #[] #[]] w fun e w' => e = .returned (.bool fb) ∧ Below w.heap.size w w' := by
  subst hn
  go_enter Tryz.func108, Tryz.ntmps108
  go_wp2
  go_loopw [9] (fun i wr => ∃ k : Nat, k ≤ L.length ∧ i = .int .i64 k ∧ (L.take k).all recB = true ∧ Below w.heap.size w wr) (fun i _ => L.length - (intOf i).toNat)
  case atStart => exact ⟨0, by omega, rfl, rfl, Below.refl _ _⟩
  case round =>
    obtain ⟨k, hk, rfl, hall, hb⟩ := hrel
    by_cases hlt : k < L.length
    · have hki : (k : Int) < L.length := by omega
      obtain ⟨g, off, rfl, hC⟩ := (hL.step hb).at hlt
      have hg := List.getElem?_eq_getElem hlt
      have ht := all_take (f := recB) hlt
      generalize L[k] = r at hg ht
      obtain ⟨c0, c1, c2, c3, c4⟩ := hC.i5 hg
      cases hr : recB r
      · go_wp2_with (go_at_call 109; refine (isRec_v (r := r) hr _).mono ?_; rintro e w1 ⟨rfl, hb2⟩)
        go_ret
        exact ⟨ret_bool (by rw [← hv, all_no hg hr]), bstepA hb hb2 (Nat.le_refl _)⟩
      · go_wp2_with (go_at_call 109; refine (isRec_v (r := r) hr _).mono ?_; rintro e w1 ⟨rfl, hb2⟩)
        go_roundw
        case rel => exact ⟨k + 1, by omega, by go_num, by rw [ht, hall, hr]; rfl, bstepA hb hb2 (Nat.le_refl _)⟩
        case measure => simp [intOf]; omega
    · obtain rfl : k = L.length := by omega
      go_wp2
      go_ret
      rw [List.take_length] at hall
      exact ⟨ret_bool (by rw [← hv, hall]), hb⟩
set_option maxHeartbeats 1000000 in
theorem rises_any (p : Option Addr) (cap : Nat) (L : List Rc) (n : Nat) (hn : L.length = n) (w : World) (hL : SlG kR w p L) (hb0 : n ≤ 10000000) {fb : Bool} (hv : riseB L = fb) :
    Calls Tryz.prog 112 #[.slice p n cap, .func (.func 111) #[] #[]] w fun e w' => e = .returned (.bool fb) ∧ Below w.heap.size w w' := by
  subst hn
  go_enter Tryz.func112, Tryz.ntmps112
  go_wp2
  go_loopw [5] (fun i wr => ∃ k : Nat, i = .int .i64 ((k : Int) + 1) ∧ k ≤ L.length ∧ Hid (∀ j a b, j < k → L[j]? = some a → L[j + 1]? = some b → lessB a b = true) ∧ Below w.heap.size w wr) (fun i _ => L.length + 1 - (intOf i).toNat)
  case atStart => exact ⟨0, rfl, by omega, fun j a b hj => by omega, Below.refl _ _⟩
  case round =>
    obtain ⟨k, rfl, hk, hall, hb⟩ := hrel
    by_cases hlt : k + 1 < L.length
    · have hki : (k : Int) + 1 < L.length := by omega
      have hk0 : k < L.length := by omega
      obtain ⟨g, off, rfl, hC⟩ := (hL.step hb).at hlt
      have hg := List.getElem?_eq_getElem hlt
      have hg0 := List.getElem?_eq_getElem hk0
      generalize L[k + 1] = b at hg
      generalize L[k] = a at hg0
      obtain ⟨c0, c1, c2, c3, c4⟩ := hC.i5 hg
      obtain ⟨d0, d1, d2, d3, d4⟩ := hC.i5 hg0
      have HG : Hid (L[k]? = some a ∧ L[k + 1]? = some b) := ⟨hg0, hg⟩
      clear hC hg hg0
      obtain ⟨v, hc⟩ : ∃ v, cmpI a b = v := ⟨_, rfl⟩
      have hrn := @rise_no L k a b
      have hw : IntKind.i64.wrap (k : Int) = k := wrapI (by omega) (by omega)
      have hk1 : (k : Int) < L.length := by omega
      have hk2 : (0 : Int) ≤ k := by omega
      by_cases hv0 : v < 0
      · have hge : ¬ v ≥ 0 := by omega
        have hge' : ¬ 0 ≤ v := by omega
        go_wp2
        go_region_with ((go_at_call 111; refine (byOwner_v (a := a) (b := b) hc _).mono ?_; rintro e w1 ⟨rfl, hb2⟩))
        all_goals
          go_wp2
          go_roundw
          case rel => exact ⟨k + 1, by go_num, by omega, fun j a' b' hj h1 h2 => by
            by_cases e : j = k
            · subst e
              rw [HG.out.1] at h1; rw [HG.out.2] at h2
              cases h1; cases h2
              rw [← cmpI_neg, hc]; exact hv0
            · exact hall.out j a' b' (by omega) h1 h2, bstep hb.drew hb2 (Nat.le_refl _)⟩
          case measure => simp [intOf]; omega
      · have hge : 0 ≤ v := by omega
        go_wp2
        go_region_with ((go_at_call 111; refine (byOwner_v (a := a) (b := b) hc _).mono ?_; rintro e w1 ⟨rfl, hb2⟩))
        all_goals
          go_wp2
          go_ret
          exact ⟨ret_bool (by rw [← hv, hrn HG.out.1 HG.out.2 (by rw [← cmpI_ge, hc]; exact hge)]), bstep hb.drew hb2 (Nat.le_refl _)⟩
    · have hki : ¬ (k : Int) + 1 < L.length := by omega
      go_wp2
      go_ret
      refine ⟨ret_bool (by rw [← hv]; exact (rise_of fun j a b h1 h2 => hall.out j a b (by have := (List.getElem?_eq_some_iff.1 h2).1; omega) h1 h2).symm), hb⟩
end Go.Proofs.YtobbankkfplooaaGreat.K.I
