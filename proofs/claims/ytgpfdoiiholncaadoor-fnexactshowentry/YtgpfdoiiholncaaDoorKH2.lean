/-
  A Text's digits, the spec's.
-/
import Derived.Test.YtgpfdoiiholncaaDoorKH1
namespace Go.Proofs.YtgpfdoiiholncaaDoor.K
open Go.Shelf Go.RowKit Go.Joins
attribute [local go_sem] Oper.semAt_some

set_option maxRecDepth 100000 in
set_option maxHeartbeats 4000000 in
theorem sHex_any (s : ByteArray) (w : World) (hn : s.size ≤ 1000) (hne : s.toList.isEmpty = false) (h1 : 1 ≤ s.size) :
    Calls Tryd.prog 24 #[.string s] w fun e w' => e = .returned (.string ⟨(J.hexL s.data.toList).toArray⟩) ∧ Below w.heap.size w w' := by
  have hl : s.data.toList.length = s.size := rfl
  go_enter Tryd.func24, Tryd.ntmps24
  go_wp2
  go_loopw [3, 4] (fun bv iv wr => ∃ (k : Nat) (p : Option Addr) (cp : Nat) (Ls : List Int), k ≤ s.size ∧ iv = .int .i64 k ∧ bv = .slice p (2 * k) cp ∧ Hid (Ls = nsL (J.hexL (s.data.toList.take k)) ∧ Ls.length = 2 * k) ∧ Sg w wr [rG kU (.slice p (2 * k) cp) Ls]) (fun _ iv _ => s.size - (intOf iv).toNat)
  case atStart => exact ⟨0, _, _, [], by omega, rfl, rfl, ⟨rfl, rfl⟩, (Sg.nil w).lit kU [] 0 rfl (by decide) #[] rfl⟩
  case round =>
    obtain ⟨k, p, cp, Ls, hk, rfl, rfl, hLs, hS⟩ := hrel
    by_cases hlt : k < s.size
    · have hki : (k : Int) < s.size := by omega
      obtain ⟨b, hb⟩ : ∃ b : Nat, bt s k = b := ⟨(bt s k).toNat, by have := bt_bd s k; omega⟩
      have hix := fun w => idx hlt w
      have hbb := bt_bd s k
      rw [hb] at hix hbb
      have t1 : ((b : Int) / 16).toNat = b / 16 := by omega
      have t2 : ((b : Int) % 16).toNat = b % 16 := by omega
      have z1 : 0 ≤ (b : Int) / 16 ∧ (b : Int) / 16 < 16 := by omega
      have z2 : 0 ≤ (b : Int) % 16 ∧ (b : Int) % 16 < 16 := by omega
      obtain ⟨z3, z4⟩ := z1
      obtain ⟨z5, z6⟩ := z2
      have z7 : ¬ (b : Int) / 16 < 0 := by omega
      have z8 : ¬ (b : Int) % 16 < 0 := by omega
      have q1 : (b : Int).tdiv 16 = (b : Int) / 16 := by rw [Int.tdiv_eq_ediv_of_nonneg (by omega)]
      have q2 : (b : Int).tmod 16 = (b : Int) % 16 := by rw [Int.tmod_eq_emod_of_nonneg (by omega)]
      have q3 : IntKind.u8.wrap ((b : Int) / 16) = (b : Int) / 16 := by rw [IntKind.wrap_u8']; omega
      have q4 : IntKind.u8.wrap ((b : Int) % 16) = (b : Int) % 16 := by rw [IntKind.wrap_u8']; omega
      have q5 : IntKind.u8.wrap ((b : Int).tdiv 16) = (b : Int) / 16 := by rw [q1, q3]
      have q6 : IntKind.u8.wrap ((b : Int).tmod 16) = (b : Int) % 16 := by rw [q2, q4]
      have q7 : ((16 : Int) == 0) = false := rfl
      have HX : Hid (nsL (J.hexL (s.data.toList.take (k + 1))) = nsL (J.hexL (s.data.toList.take k)) ++ [((J.hx (b / 16)).toNat : Int), ((J.hx (b % 16)).toNat : Int)]) := by
        have hc : (s[k]'hlt).toNat = b := by have := bt_at hlt; omega
        rw [List.take_succ_eq_append_getElem (by omega), J.hex_snoc]
        have e : s.data.toList[k]'(by omega) = s[k]'hlt := rfl
        rw [e, hc]
        unfold nsL
        rw [List.map_append]; exact rfl
      go_wp2
      go_region_held3 (fun _ => True) (trivial)
        (first | (refine step_sgapp appU (by rfl) _ _ (by rfl) (A := []) (B := [_, _]) (n := 2 * k) (m := 2) hS ((below_alloc1 _ _).drew) hLs.out.2 rfl (by rfl) ⟨_, 0, none⟩ 2 (by rfl) (fun j u hj => lit_src (xs := [.int .u8 _, .int .u8 _]) (t := 5) rfl j u hj) (oneUs _) (.inl (by decide)) (by omega) ?_; intro g' cap' w4 hS4 _ _))
      all_goals
        go_wp2
        go_roundw
        case rel => exact ⟨k + 1, _, cap', _, by omega, by go_num, rfl, ⟨by rw [hLs.out.1, HX.out]; simp only [dg_at], by rw [List.length_append, hLs.out.2]; rfl⟩, hS4⟩
        case measure => simp [intOf]; omega
    · obtain rfl : k = s.size := by omega
      obtain ⟨g, rfl⟩ := own_some (hS.mem (K := kU) (v := .slice p (2 * s.size) cp) (L := Ls) (by simp)) (by omega)
      have HC := hcv (l := J.hexL s.data.toList) hS (g := g) (c := cp) (n := 2 * s.size) (by rw [hLs.out.1, List.take_of_length_le (by omega)]; simp) (by rw [J.hex_len, hl])
      have HB := hS.bel
      clear hS hLs
      go_wp2
      go_ret
      exact ⟨rfl, HB⟩
end Go.Proofs.YtgpfdoiiholncaaDoor.K
