/-
  The law FnOrders, walked.
-/
import Derived.Test.YtdabkhlhejjnpaaO2
import Derived.Deep.CutBlock
namespace Go.Proofs.Ytdabkhlhejjnpaa
open Go.RowKit Go.Joins
attribute [local go_sem ↓] Go.wp_at_zero Go.wp_at_succ

set_option maxRecDepth 100000 in
set_option maxHeartbeats 4000000 in
theorem orders_small (a : Option Addr) (len cap : Nat) (zs : List Int) (g : Nat) (w : World) (hl : len ≤ 4096) (hr : Rd w g a len zs) :
    Calls Try.prog 4 #[.slice a len cap] w fun e w' => e = .returned (.bool true) ∧ Below w.heap.size w w' := by
  have hl' : decide (4096 < (len : Int)) = false := by simp; omega
  have HR : Hid (∀ wx, Below w.heap.size w wx → Rd wx (g + w.heap.size) a len zs) := fun wx hb => hr.up hb (by omega)
  clear hr
  go_enter Try.func4, Try.ntmps4
  go_upto_region 4 with (first | (go_at_call 12; refine (big_any _ _ _ _).mono ?_; rintro e w1 ⟨rfl, rfl⟩) | (go_at_call 33; refine (drawOrder_any a len cap zs (g + w.heap.size) _ hl (HR.out _ (Below.refl _ _))).mono ?_; rintro e w1 ⟨s, t, rfl, hb⟩))
  have hs := ((St.nil w).step hb).push [.int .i64 s, .int .i64 t] 30
  clear hb
  generalize w1.heap.size = g3 at hs ⊢
  generalize w1.alloc _ = W1 at hs ⊢
  have hk := hs.has
  simp [Has, HasAt] at hk
  cases h : spB s t
  · have e0 : ordI s t = -1 := by simp [ordI, h]
    clear h
    go_wp2_with (first | (go_at_call 34; refine (iOrder_any _ _ _).mono ?_; rintro e w1 ⟨rfl, hb2⟩; (first | replace hs := hs.step hb2 | replace hs := (hs.push _ _).step hb2 | replace hs := ((hs.push _ _).push _ _).step hb2); (try simp only [World.size_alloc] at hs); (try clear hk); have hk := hs.has; simp [Has, HasAt] at hk) | (go_at_call 31; refine (sOrder_any _ _ _).mono ?_; rintro e w1 ⟨rfl, hb2⟩; (first | replace hs := hs.step hb2 | replace hs := (hs.push _ _).step hb2 | replace hs := ((hs.push _ _).push _ _).step hb2); (try simp only [World.size_alloc] at hs); (try clear hk); have hk := hs.has; simp [Has, HasAt] at hk))
    go_ret
    exact ⟨rfl, hs.bel⟩
  · have e0 : ordI s t = zz s t 8 := by simp [ordI, h]
    have hz := zz_bd s t 8
    have hz8 : (4 : Int) ^ 8 = 65536 := by decide
    rw [hz8] at hz
    have z1 : ¬ zz s t 8 < 0 := by omega
    go_wp2_with (first | (go_at_call 34; refine (iOrder_any _ _ _).mono ?_; rintro e w1 ⟨rfl, hb2⟩; (first | replace hs := hs.step hb2 | replace hs := (hs.push _ _).step hb2 | replace hs := ((hs.push _ _).push _ _).step hb2); (try simp only [World.size_alloc] at hs); (try clear hk); have hk := hs.has; simp [Has, HasAt] at hk) | (go_at_call 31; refine (sOrder_any _ _ _).mono ?_; rintro e w1 ⟨rfl, hb2⟩; (first | replace hs := hs.step hb2 | replace hs := (hs.push _ _).step hb2 | replace hs := ((hs.push _ _).push _ _).step hb2); (try simp only [World.size_alloc] at hs); (try clear hk); have hk := hs.has; simp [Has, HasAt] at hk))
    go_loopw [5] (fun i wr => ∃ k : Nat, k ≤ 9 ∧ i = .int .i64 k ∧ St w wr [(g3, [.int .i64 s, .int .i64 t])]) (fun i _ => 9 - (intOf i).toNat)
    case atStart => exact ⟨0, by omega, rfl, hs⟩
    case round =>
      clear hs hk
      obtain ⟨k, hk9, rfl, hs⟩ := hrel
      have hk := hs.has
      simp [Has, HasAt] at hk
      by_cases hlt : k ≤ 8
      · have C17 := fun w => cellAt_k h hlt w
        have C26 := fun w => rectOf_k h hlt w
        have C30 := fun w => area_v h hlt w
        have C34 := fun w => order_lo h hlt w
        have D34 := fun w => order_hi h hlt w
        obtain ⟨b1, b2, b3, b4, b5⟩ := box_bd h hlt
        obtain ⟨o1, o2⟩ := ord_in (s := s) (t := t) (j := 8 - k) (by omega)
        have o3 := low_mod (s := s) (t := t) (j := 8 - k)
        have o4 := pow4 (8 - k)
        have o5 := pow4_le (k := 8 - k) (by omega)
        have o6 : 0 ≤ low s t (8 - k) := Int.mul_nonneg (by omega) (zz_bd _ _ _).1
        generalize half s (8 - k) * 2 ^ (8 - k) = X at *
        generalize half t (8 - k) * 2 ^ (8 - k) = Y at *
        generalize half s (8 - k) = p at *
        generalize half t (8 - k) = q at *
        generalize (2 : Int) ^ (8 - k) = D at *
        generalize (4 : Int) ^ (8 - k) = F at *
        generalize low s t (8 - k) = Lw at *
        generalize zz s t 8 = n at *
        have o7 : Lw.tmod F = 0 := by rw [Int.tmod_eq_emod_of_nonneg o6]; exact o3
        have q0 : ¬ F < 1 := by omega
        have q1 : ¬ n < Lw := by omega
        have q2 : ¬ Lw + F ≤ n := by omega
        have q3 : ¬ F = 0 := by omega
        have tok1 : True := trivial
        go_wp2_with (first | (go_at_call 17; refine (C17 _).mono ?_; rintro e w1 ⟨rfl, hb2⟩; (first | replace hs := hs.step hb2 | replace hs := (hs.push _ _).step hb2 | replace hs := ((hs.push _ _).push _ _).step hb2); (try simp only [World.size_alloc] at hs); (try clear hk); have hk := hs.has; simp [Has, HasAt] at hk) | (go_at_call 26; refine (C26 _).mono ?_; rintro e w1 ⟨rfl, hb2⟩; (first | replace hs := hs.step hb2 | replace hs := (hs.push _ _).step hb2 | replace hs := ((hs.push _ _).push _ _).step hb2); (try simp only [World.size_alloc] at hs); (try clear hk); have hk := hs.has; simp [Has, HasAt] at hk) | (go_at_call 30; refine (C30 _).mono ?_; rintro e w1 ⟨rfl, hb2⟩; (first | replace hs := hs.step hb2 | replace hs := (hs.push _ _).step hb2 | replace hs := ((hs.push _ _).push _ _).step hb2); (try simp only [World.size_alloc] at hs); (try clear hk); have hk := hs.has; simp [Has, HasAt] at hk) | (go_at_call 34; have _t := tok1; clear _t tok1; refine (C34 _).mono ?_; rintro e w1 ⟨rfl, hb2⟩; (first | replace hs := hs.step hb2 | replace hs := (hs.push _ _).step hb2 | replace hs := ((hs.push _ _).push _ _).step hb2); (try simp only [World.size_alloc] at hs); (try clear hk); have hk := hs.has; simp [Has, HasAt] at hk) | (go_at_call 34; refine (D34 _).mono ?_; rintro e w1 ⟨rfl, hb2⟩; (first | replace hs := hs.step hb2 | replace hs := (hs.push _ _).step hb2 | replace hs := ((hs.push _ _).push _ _).step hb2); (try simp only [World.size_alloc] at hs); (try clear hk); have hk := hs.has; simp [Has, HasAt] at hk))
        exact ⟨⟨k + 1, by omega, by go_num, hs.sub (by simp)⟩, by simp [intOf]; omega⟩
      · go_upto_region 21 with (go_at_call 35; refine (spot_any a len cap zs _ (g + w.heap.size) _ hl (HR.out _ hs.bel) ?_ ?_).mono ?_; (focus omega); (focus omega); rintro e w1 ⟨p, q, rfl, p0, p1, q0, q1, hb⟩)
        have hs2 := (hs.step hb).push [.int .i64 p, .int .i64 q] 30
        clear hb hk hs
        generalize w1.heap.size = g10 at hs2 ⊢
        generalize w1.alloc _ = W2 at hs2 ⊢
        have hS : ∀ w', St w w' [(g10, [.int .i64 p, .int .i64 q]), (g3, [.int .i64 s, .int .i64 t])] → (w'.cell? ⟨g3, 0, none⟩ = some (.int .i64 s) ∧ w'.cell? ⟨g3, 1, none⟩ = some (.int .i64 t) ∧ w'.cell? ⟨g10, 0, none⟩ = some (.int .i64 p) ∧ w'.cell? ⟨g10, 1, none⟩ = some (.int .i64 q)) := by
          intro w' h
          have hk := h.has
          simp [Has, HasAt] at hk
          exact ⟨hk.2.2.2.1, hk.2.2.2.2, hk.1.2.2.1, hk.1.2.2.2⟩
        obtain ⟨s0, s1, t0, t1⟩ := spB_t.mp h
        have hp : spB p q = true := spB_t.mpr (by omega)
        have ep : ordI p q = zz p q 8 := by simp [ordI, hp]
        have hcc := hS _ hs2
        by_cases h1 : p = s
        · subst h1
          by_cases h2 : q = t
          · subst h2
            go_region_held3 (fun w' => St w w' [(g10, [.int .i64 p, .int .i64 q]), (g3, [.int .i64 p, .int .i64 q])] ∧ w'.cell? ⟨g3, 0, none⟩ = some (.int .i64 p) ∧ w'.cell? ⟨g3, 1, none⟩ = some (.int .i64 q) ∧ w'.cell? ⟨g10, 0, none⟩ = some (.int .i64 p) ∧ w'.cell? ⟨g10, 1, none⟩ = some (.int .i64 q)) (first | exact ‹St _ _ _ ∧ _› | exact keepS hS ((‹St _ _ _ ∧ _›).1.step hb2) | exact keepS hS hs2.dr | fail) (first | (go_at_call 34; refine (iOrder_any _ _ _).mono ?_; rintro e w1 ⟨rfl, hb2⟩))
            clear hs2 hcc
            obtain ⟨hs2, hcc⟩ := ‹St _ _ _ ∧ _›
            go_wp2
            go_ret
            exact ⟨ret_bool (by simp), hs2.bel⟩
          · have hne : ¬ zz p q 8 = zz p t 8 := fun e => h2 (zz_inj 8 p q p t p0 p1 q0 q1 s0 (by omega) t0 (by omega) e).2
            go_region_held3 (fun w' => St w w' [(g10, [.int .i64 p, .int .i64 q]), (g3, [.int .i64 p, .int .i64 t])] ∧ w'.cell? ⟨g3, 0, none⟩ = some (.int .i64 p) ∧ w'.cell? ⟨g3, 1, none⟩ = some (.int .i64 t) ∧ w'.cell? ⟨g10, 0, none⟩ = some (.int .i64 p) ∧ w'.cell? ⟨g10, 1, none⟩ = some (.int .i64 q)) (first | exact ‹St _ _ _ ∧ _› | exact keepS hS ((‹St _ _ _ ∧ _›).1.step hb2) | exact keepS hS hs2.dr | fail) (first | (go_at_call 34; refine (iOrder_any _ _ _).mono ?_; rintro e w1 ⟨rfl, hb2⟩))
            clear hs2 hcc
            obtain ⟨hs2, hcc⟩ := ‹St _ _ _ ∧ _›
            go_wp2
            go_ret
            exact ⟨ret_bool (by simp [hne]), hs2.bel⟩
        · have hne : ¬ zz p q 8 = zz s t 8 := fun e => h1 (zz_inj 8 p q s t p0 p1 q0 q1 s0 (by omega) t0 (by omega) e).1
          go_region_held3 (fun w' => St w w' [(g10, [.int .i64 p, .int .i64 q]), (g3, [.int .i64 s, .int .i64 t])] ∧ w'.cell? ⟨g3, 0, none⟩ = some (.int .i64 s) ∧ w'.cell? ⟨g3, 1, none⟩ = some (.int .i64 t) ∧ w'.cell? ⟨g10, 0, none⟩ = some (.int .i64 p) ∧ w'.cell? ⟨g10, 1, none⟩ = some (.int .i64 q)) (first | exact ‹St _ _ _ ∧ _› | exact keepS hS ((‹St _ _ _ ∧ _›).1.step hb2) | exact keepS hS hs2.dr | fail) (first | (go_at_call 34; refine (iOrder_any _ _ _).mono ?_; rintro e w1 ⟨rfl, hb2⟩))
          clear hs2 hcc
          obtain ⟨hs2, hcc⟩ := ‹St _ _ _ ∧ _›
          go_wp2
          go_ret
          exact ⟨ret_bool (by simp [hne]), hs2.bel⟩
end Go.Proofs.Ytdabkhlhejjnpaa
