/-
  Records: which comes first, are all right, do they rise.
-/
import Derived.Test.YtppoafggiejdgaaGreatKB1
namespace Go.Proofs.YtppoafggiejdgaaGreat.K
open Go.RowKit Go.Joins
attribute [local go_sem] Oper.semAt_some

theorem keepS {P C : World → Prop} (hS : ∀ w', P w' → C w') {w' : World} (h : P w') : P w' ∧ C w' := ⟨h, hS _ h⟩
def orI (a b : Int) : Int := if a = 0 then b else a
theorem or_v {a b v : Int} (hv : orI a b = v) (g : Nat) (w : World) (h0 : w.cell? ⟨g, 0, none⟩ = some (.int .i64 a)) (h1 : w.cell? ⟨g, 1, none⟩ = some (.int .i64 b)) :
    Calls Tryz.prog 79 #[.slice (some ⟨g, 0, none⟩) 2 2] w fun e w' => e = .returned (.int .i64 v) ∧ w' = w := hv ▸ or_any g a b w h0 h1
theorem compare_v {a b v : Int} (h : cmpZ a b = v) (w : World) : Calls Tryz.prog 68 #[.int .i64 a, .int .i64 b] w fun e w' => e = .returned (.int .i64 v) ∧ w' = w := by subst h; exact compare_any a b w
set_option maxRecDepth 100000 in
set_option maxHeartbeats 4000000 in
theorem byOwner_any (a b : Rc) (w : World) : Calls Tryz.prog 61 #[a.v, b.v] w fun e w' => e = .returned (.int .i64 (cmpI a b)) ∧ Below w.heap.size w w' := by
  have hv0 := cmpZ_pair a b
  obtain ⟨t, i, x, y, s⟩ := a
  obtain ⟨t2, i2, x2, y2, s2⟩ := b
  obtain ⟨v, hv⟩ : ∃ v, cmpI ⟨t, i, x, y, s⟩ ⟨t2, i2, x2, y2, s2⟩ = v := ⟨_, rfl⟩
  rw [hv] at hv0 ⊢
  have hor : orI (cmpZ t t2) (cmpZ i i2) = v := hv0.symm
  clear hv hv0
  obtain ⟨c1, h1⟩ : ∃ c, cmpZ t t2 = c := ⟨_, rfl⟩
  obtain ⟨c2, h2⟩ : ∃ c, cmpZ i i2 = c := ⟨_, rfl⟩
  rw [h1, h2] at hor
  have hst := ((St.nil w).push [.int .i64 t, .int .i64 i, .int .i64 x, .int .i64 y, .string s] 70).push [.int .i64 t2, .int .i64 i2, .int .i64 x2, .int .i64 y2, .string s2] 70
  rw [World.size_alloc] at hst
  have hS : ∀ w', St w w' [(w.heap.size + 1, [.int .i64 t2, .int .i64 i2, .int .i64 x2, .int .i64 y2, .string s2]), (w.heap.size, [.int .i64 t, .int .i64 i, .int .i64 x, .int .i64 y, .string s])] → ((w'.cell? ⟨w.heap.size + 1, 0, none⟩ = some (.int .i64 t2) ∧ w'.cell? ⟨w.heap.size + 1, 1, none⟩ = some (.int .i64 i2)) ∧ (w'.cell? ⟨w.heap.size, 0, none⟩ = some (.int .i64 t) ∧ w'.cell? ⟨w.heap.size, 1, none⟩ = some (.int .i64 i))) :=
    fun w' h => by have := h.has; simp [Has, HasAt] at this; simp [this]
  have hcc := hS _ hst
  go_enter Tryz.func61, Tryz.ntmps61
  go_wp2
  go_region_held3 (fun w' => St w w' [(w.heap.size + 1, [.int .i64 t2, .int .i64 i2, .int .i64 x2, .int .i64 y2, .string s2]), (w.heap.size, [.int .i64 t, .int .i64 i, .int .i64 x, .int .i64 y, .string s])] ∧ ((w'.cell? ⟨w.heap.size + 1, 0, none⟩ = some (.int .i64 t2) ∧ w'.cell? ⟨w.heap.size + 1, 1, none⟩ = some (.int .i64 i2)) ∧ (w'.cell? ⟨w.heap.size, 0, none⟩ = some (.int .i64 t) ∧ w'.cell? ⟨w.heap.size, 1, none⟩ = some (.int .i64 i)))) (first | exact ‹St _ _ _ ∧ _› | exact keepS hS ((‹St _ _ _ ∧ _›).1.al _) | exact keepS hS hst.dr | fail)
    (first
      | (go_at_call 68; refine (compare_v (by assumption) _).mono ?_; rintro e w1 ⟨rfl, rfl⟩)
      | (go_at_call 79; refine (or_v hor _ _ ?_ ?_).mono ?_; (focus (simp [go_sem]; done)); (focus (simp [go_sem]; done)); rintro e w1 ⟨rfl, rfl⟩))
  clear hst hcc
  obtain ⟨hst, hcc⟩ := ‹St _ _ _ ∧ _›
  go_wp2
  go_ret
  exact ⟨rfl, hst.bel⟩
theorem byOwner_v {a b : Rc} {v : Int} (hv : cmpI a b = v) (w : World) : Calls Tryz.prog 61 #[a.v, b.v] w fun e w' => e = .returned (.int .i64 v) ∧ Below w.heap.size w w' := hv ▸ byOwner_any a b w
set_option maxHeartbeats 1000000 in
theorem are_any (p : Option Addr) (cap : Nat) (L : List Rc) (n : Nat) (hn : L.length = n) (w : World) (hL : SlG kR w p L) (hb0 : n ≤ 10000000) {fb : Bool} (hv : L.all recB = fb) :
    Calls Tryz.prog 58 #[.slice p n cap, .func (.func 59) #[] #[]] w fun e w' => e = .returned (.bool fb) ∧ Below w.heap.size w w' := by
  subst hn
  go_enter Tryz.func58, Tryz.ntmps58
  go_wp2
  go_loopw [9] (fun i wr => ∃ k : Nat, k ≤ L.length ∧ i = .int .i64 k ∧ (L.take k).all recB = true ∧ Below w.heap.size w wr) (fun i _ => L.length - (intOf i).toNat)
  case atStart => exact ⟨0, by omega, rfl, rfl, Below.refl _ _⟩
  case round =>
    obtain ⟨k, hk, rfl, hall, hb⟩ := hrel
    by_cases hlt : k < L.length
    · have hki : (k : Int) < L.length := by omega
      obtain ⟨g, off, rfl, hC⟩ := (hL.step hb).at hlt
      have hg := List.getElem?_eq_getElem hlt
      have ht := all_take (f := recB) hlt
      generalize L[k] = r at hg ht
      obtain ⟨c0, c1, c2, c3, c4⟩ := hC.r5 hg
      cases hr : recB r
      · go_wp2_with (go_at_call 59; refine (isRec_v (r := r) hr _).mono ?_; rintro e w1 ⟨rfl, hb2⟩)
        go_ret
        exact ⟨ret_bool (by rw [← hv, all_no hg hr]), bstepA hb hb2 (Nat.le_refl _)⟩
      · go_wp2_with (go_at_call 59; refine (isRec_v (r := r) hr _).mono ?_; rintro e w1 ⟨rfl, hb2⟩)
        go_roundw
        case rel => exact ⟨k + 1, by omega, by go_num, by rw [ht, hall, hr]; rfl, bstepA hb hb2 (Nat.le_refl _)⟩
        case measure => simp [intOf]; omega
    · obtain rfl : k = L.length := by omega
      go_wp2
      go_ret
      rw [List.take_length] at hall
      exact ⟨ret_bool (by rw [← hv, hall]), hb⟩
theorem wrapI {a : Int} (h0 : -1000000000 ≤ a) (h1 : a ≤ 1000000000) : IntKind.i64.wrap a = a := by rw [IntKind.wrap_i64]; omega
set_option maxHeartbeats 1000000 in
theorem rises_any (p : Option Addr) (cap : Nat) (L : List Rc) (n : Nat) (hn : L.length = n) (w : World) (hL : SlG kR w p L) (hb0 : n ≤ 10000000) {fb : Bool} (hv : riseB L = fb) :
    Calls Tryz.prog 60 #[.slice p n cap, .func (.func 61) #[] #[]] w fun e w' => e = .returned (.bool fb) ∧ Below w.heap.size w w' := by
  subst hn
  go_enter Tryz.func60, Tryz.ntmps60
  go_wp2
  go_loopw [5] (fun i wr => ∃ k : Nat, i = .int .i64 ((k : Int) + 1) ∧ k ≤ L.length ∧ Hid (∀ j a b, j < k → L[j]? = some a → L[j + 1]? = some b → lessB a b = true) ∧ Below w.heap.size w wr) (fun i _ => L.length + 1 - (intOf i).toNat)
  case atStart => exact ⟨0, rfl, by omega, fun j a b hj => by omega, Below.refl _ _⟩
  case round =>
    obtain ⟨k, rfl, hk, hall, hb⟩ := hrel
    by_cases hlt : k + 1 < L.length
    · have hki : (k : Int) + 1 < L.length := by omega
      have hk0 : k < L.length := by omega
      obtain ⟨g, off, rfl, hC⟩ := (hL.step hb).at hlt
      have hg := List.getElem?_eq_getElem hlt
      have hg0 := List.getElem?_eq_getElem hk0
      generalize L[k + 1] = b at hg
      generalize L[k] = a at hg0
      obtain ⟨c0, c1, c2, c3, c4⟩ := hC.r5 hg
      obtain ⟨d0, d1, d2, d3, d4⟩ := hC.r5 hg0
      have HG : Hid (L[k]? = some a ∧ L[k + 1]? = some b) := ⟨hg0, hg⟩
      clear hC hg hg0
      obtain ⟨v, hc⟩ : ∃ v, cmpI a b = v := ⟨_, rfl⟩
      have hrn := @rise_no L k a b
      have hw : IntKind.i64.wrap (k : Int) = k := wrapI (by omega) (by omega)
      have hk1 : (k : Int) < L.length := by omega
      have hk2 : (0 : Int) ≤ k := by omega
      by_cases hv0 : v < 0
      · have hge : ¬ v ≥ 0 := by omega
        have hge' : ¬ 0 ≤ v := by omega
        go_wp2
        go_region_with ((go_at_call 61; refine (byOwner_v (a := a) (b := b) hc _).mono ?_; rintro e w1 ⟨rfl, hb2⟩))
        all_goals
          go_wp2
          go_roundw
          case rel => exact ⟨k + 1, by go_num, by omega, fun j a' b' hj h1 h2 => by
            by_cases e : j = k
            · subst e
              rw [HG.out.1] at h1; rw [HG.out.2] at h2
              cases h1; cases h2
              rw [← cmpI_neg, hc]; exact hv0
            · exact hall.out j a' b' (by omega) h1 h2, bstep hb.drew hb2 (Nat.le_refl _)⟩
          case measure => simp [intOf]; omega
      · have hge : 0 ≤ v := by omega
        go_wp2
        go_region_with ((go_at_call 61; refine (byOwner_v (a := a) (b := b) hc _).mono ?_; rintro e w1 ⟨rfl, hb2⟩))
        all_goals
          go_wp2
          go_ret
          exact ⟨ret_bool (by rw [← hv, hrn HG.out.1 HG.out.2 (by rw [← cmpI_ge, hc]; exact hge)]), bstep hb.drew hb2 (Nat.le_refl _)⟩
    · have hki : ¬ (k : Int) + 1 < L.length := by omega
      go_wp2
      go_ret
      refine ⟨ret_bool (by rw [← hv]; exact (rise_of fun j a b h1 h2 => hall.out j a b (by have := (List.getElem?_eq_some_iff.1 h2).1; omega) h1 h2).symm), hb⟩
end Go.Proofs.YtppoafggiejdgaaGreat.K
