/-
  A Text's digits: the program's and the spec's.
-/
import Derived.Test.YtgpfdoiiholncaaDoorKC0
import Derived.Test.YtgpfdoiiholncaaDoorKJN
import Derived.Test.YtgpfdoiiholncaaDoorKB6
import Derived.Deep.RegionHeld3
import Derived.Laws.IdiomStrings
import Derived.Laws.BitsAllLaws
namespace Go.Proofs.YtgpfdoiiholncaaDoor.K
open Go.Shelf Go.RowKit Go.Joins
attribute [local go_sem] Oper.semAt_some

theorem sg_nilU (w : World) : Sg w w [rG kU (.slice none 0 0) []] := by
  refine ⟨Below.refl _ _, fun r hr => ?_, List.pairwise_singleton _ _⟩
  obtain rfl := List.mem_singleton.mp hr
  exact ⟨rfl, .inl ⟨rfl, rfl⟩⟩
theorem own_some {α : Type} {K : Kd α} {W : World} {base n c : Nat} {p : Option Addr} {L : List α} (h : OwG K W base (.slice p n c) L) (hn : 0 < n) : ∃ g, p = some ⟨g, 0, none⟩ := by
  rcases h.2 with ⟨h1, _⟩ | ⟨g, _, _, h1, _⟩
  · injection h1 with _ h2 _; omega
  · injection h1 with h2 _ _; exact ⟨_, h2⟩
/-- Bytes as numbers. -/
def nsL (l : List UInt8) : List Int := l.map fun b => (b.toNat : Int)
theorem nsL_len (l : List UInt8) : (nsL l).length = l.length := by unfold nsL; rw [List.length_map]
theorem hcv {w W : World} {rs : List Rw} {g c n : Nat} {l : List UInt8} (hS : Sg w W rs) (hm : rG kU (.slice (some ⟨g, 0, none⟩) n c) (nsL l) ∈ rs) (hn : l.length = n) : (convert 62 9 (.slice (some ⟨g, 0, none⟩) n c)).run Tryd.prog W = .ok (.string ⟨l.toArray⟩) W := by
  have hC := OwG.cs (hS.mem (K := kU) hm)
  subst hn
  refine run_convert_bytes_back (P := Tryd.prog) W 62 9 5 ⟨g, 0, none⟩ c l Tryd.underlying62 Tryd.underlying5 Tryd.underlying9 fun j hj => ?_
  have ea : (⟨g, 0, none⟩ : Addr).add j = ⟨g, 0 + j, none⟩ := by unfold Addr.add; split <;> simp_all
  rw [ea]
  exact hC.u8 (k := j) (n := (l[j].toNat : Int)) (by unfold nsL; simp [hj])
theorem oneUs (L : List Int) : ∀ u ∈ kU.flat L, u.oneCell' = true := fun u hu => by
  unfold Kd.flat at hu
  obtain ⟨a, _, ha⟩ := List.mem_flatMap.1 hu
  have := List.mem_singleton.1 ha
  subst this; rfl
def dgts : ByteArray := ⟨#[48, 49, 50, 51, 52, 53, 54, 55, 56, 57, 97, 98, 99, 100, 101, 102]⟩
theorem hx_dg {d : Nat} (h : d < 16) : bt dgts d = ((J.hx d).toNat : Int) := by
  have : ∀ d : Fin 16, bt dgts d.val = ((J.hx d.val).toNat : Int) := by decide
  exact this ⟨d, h⟩
theorem dg_at {i : Nat} (h : i < (⟨#[48, 49, 50, 51, 52, 53, 54, 55, 56, 57, 97, 98, 99, 100, 101, 102]⟩ : ByteArray).size) : ((⟨#[48, 49, 50, 51, 52, 53, 54, 55, 56, 57, 97, 98, 99, 100, 101, 102]⟩ : ByteArray)[i]'h).toNat = (J.hx i).toNat := by
  have h1 := hx_dg (d := i) h
  have h2 := bt_at (s := dgts) h
  have e : ((⟨#[48, 49, 50, 51, 52, 53, 54, 55, 56, 57, 97, 98, 99, 100, 101, 102]⟩ : ByteArray)[i]'h).toNat = (dgts[i]'h).toNat := rfl
  omega
set_option maxRecDepth 100000 in
set_option maxHeartbeats 4000000 in
theorem iHex_any (s : ByteArray) (w : World) (hn : s.size ≤ 1000) (hne : s.toList.isEmpty = false) (h1 : 1 ≤ s.size) :
    Calls Tryd.prog 42 #[.string s] w fun e w' => e = .returned (.string ⟨(J.hexL s.data.toList).toArray⟩) ∧ Below w.heap.size w w' := by
  have hl : s.data.toList.length = s.size := rfl
  go_enter Tryd.func42, Tryd.ntmps42
  go_wp2
  go_loopw [3, 9] (fun bv iv wr => ∃ (k : Nat) (p : Option Addr) (cp : Nat) (Ls : List Int), k ≤ s.size ∧ iv = .int .i64 k ∧ bv = .slice p (2 * k) cp ∧ Hid (Ls = nsL (J.hexL (s.data.toList.take k)) ∧ Ls.length = 2 * k) ∧ Sg w wr [rG kU (.slice p (2 * k) cp) Ls]) (fun _ iv _ => s.size - (intOf iv).toNat)
  case atStart => exact ⟨0, _, _, [], by omega, rfl, rfl, ⟨rfl, rfl⟩, sg_nilU w⟩
  case round =>
    obtain ⟨k, p, cp, Ls, hk, rfl, rfl, hLs, hS⟩ := hrel
    by_cases hlt : k < s.size
    · have hki : (k : Int) < s.size := by omega
      obtain ⟨b, hb⟩ : ∃ b : Nat, bt s k = b := ⟨(bt s k).toNat, by have := bt_bd s k; omega⟩
      have hix := fun w => idx hlt w
      have hbb := bt_bd s k
      rw [hb] at hix hbb
      have t1 : ((b : Int) / 16).toNat = b / 16 := by omega
      have t2 : ((b : Int) % 16).toNat = b % 16 := by omega
      have d3 : bits .and .u8 (b : Int) 15 = ((b % 16 : Nat) : Int) := by
        have := Go.u8_and_nat b 15 (by omega) (by omega)
        rw [show b &&& 15 = b % 16 from Nat.and_two_pow_sub_one_eq_mod b 4] at this
        exact this
      have HX : Hid (nsL (J.hexL (s.data.toList.take (k + 1))) = nsL (J.hexL (s.data.toList.take k)) ++ [((J.hx (b / 16)).toNat : Int), ((J.hx (b % 16)).toNat : Int)]) := by
        have hc : (s[k]'hlt).toNat = b := by have := bt_at hlt; omega
        rw [List.take_succ_eq_append_getElem (by omega), J.hex_snoc]
        have e : s.data.toList[k]'(by omega) = s[k]'hlt := rfl
        rw [e, hc]
        unfold nsL
        rw [List.map_append]; exact rfl
      go_wp2
      go_region_held3 (fun _ => True) (trivial)
        (first | (refine step_sgapp appU (by rfl) _ _ (by rfl) (A := []) (B := [_, _]) (n := 2 * k) (m := 2) hS ((below_alloc1 _ _).drew) hLs.out.2 rfl (by rfl) ⟨_, 0, none⟩ 2 (by rfl) (fun j u hj => lit_src (xs := [.int .u8 _, .int .u8 _]) (t := 5) rfl j u hj) (oneUs _) (.inl (by decide)) (by omega) ?_; intro g' cap' w4 hS4 _ _))
      all_goals
        go_wp2
        go_roundw
        case rel => exact ⟨k + 1, _, cap', _, by omega, by go_num, rfl, ⟨by rw [hLs.out.1, HX.out]; simp only [dg_at], by rw [List.length_append, hLs.out.2]; rfl⟩, hS4⟩
        case measure => simp [intOf]; omega
    · obtain rfl : k = s.size := by omega
      obtain ⟨g, rfl⟩ := own_some (hS.mem (K := kU) (v := .slice p (2 * s.size) cp) (L := Ls) (by simp)) (by omega)
      have HC := hcv (l := J.hexL s.data.toList) hS (g := g) (c := cp) (n := 2 * s.size) (by rw [hLs.out.1, List.take_of_length_le (by omega)]; simp) (by rw [J.hex_len, hl])
      have HB := hS.bel
      clear hS hLs
      go_wp2
      go_ret
      exact ⟨rfl, HB⟩
end Go.Proofs.YtgpfdoiiholncaaDoor.K
