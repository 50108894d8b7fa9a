/-
  The shape of a Node.
-/
import Derived.Test.YtipfcmfcdfofmaaGreatX1
import Derived.Laws.Shifts
import Derived.Laws.ShiftsVarLaws
import Derived.Test.YtipfcmfcdfofmaaGreatX3
import Derived.Test.YtipfcmfcdfofmaaGreatSC
namespace Go.Proofs.YtipfcmfcdfofmaaGreat
open Go.Shelf Go.RowKit Go.Joins
attribute [local go_sem] Oper.semAt_some

set_option maxHeartbeats 1000000 in
theorem leafCmp_v {m : Mk} {id v : Int} (h : O.D.cmpI m.i id = v) (w : World) : Calls Tryz.prog 146 #[.agg #[.int .i64 m.i, .int .i64 m.x, .int .i64 m.y], .int .i64 id] w fun e w' => e = .returned (.int .i64 v) ∧ Below w.heap.size w w' := by
  go_enter Tryz.func146, Tryz.ntmps146
  go_wp2_with (go_at_call 74; refine (O.D.compare_v h _).mono ?_; rintro e w1 ⟨rfl, rfl⟩)
  go_ret
  exact ⟨rfl, below_alloc1 _ _⟩
theorem cmpI_lt {a b : Int} (h : a < b) : O.D.cmpI a b < 0 := by unfold O.D.cmpI; rw [if_pos h]; omega
theorem cmpI_ge {a b : Int} (h : b ≤ a) : ¬ O.D.cmpI a b < 0 := by unfold O.D.cmpI; rw [if_neg (by omega)]; split <;> omega
theorem id_lt {L : List Mk} (hL : L.Pairwise fun a b => a.i < b.i) {h k : Nat} (hk : k < L.length) (hlt : h < k) : (L.getD h zmk).i < (L.getD k zmk).i := by
  have h1 : h < L.length := by omega
  have := List.pairwise_iff_getElem.mp hL h k h1 hk hlt
  simpa [List.getD, h1, hk] using this
set_option maxRecDepth 100000 in
set_option maxHeartbeats 2000000 in
theorem bsearch_any (p : Option Addr) (n cap : Nat) (L : List Mk) (hn : L.length = n) (hb : n ≤ 1000) (hL2 : L.Pairwise fun a b => a.i < b.i) (k : Nat) (hk : k < n) (id : Int) (hid : (L.getD k zmk).i = id) (w : World) (hL : SlG kM w p L) :
    Calls Tryz.prog 145 #[.slice p n cap, .int .i64 id, .func (.func 146) #[] #[]] w fun e w' => ∃ b, e = .returned (.tuple #[.int .i64 k, .bool b]) ∧ Below w.heap.size w w' := by
  have HH : Hid (L.length = n ∧ (L.Pairwise fun a b => a.i < b.i) ∧ (L.getD k zmk).i = id ∧ SlG kM w p L) := ⟨hn, hL2, hid, hL⟩
  clear hn hL2 hid hL
  go_enter Tryz.func145, Tryz.ntmps145
  go_wp2
  go_loopw [9, 10] (fun iv jv wr => ∃ a b : Nat, iv = .int .i64 a ∧ jv = .int .i64 b ∧ a ≤ k ∧ k ≤ b ∧ b ≤ n ∧ Below w.heap.size w wr) (fun iv jv _ => (intOf jv - intOf iv).toNat)
  case atStart => exact ⟨0, n, rfl, rfl, by omega, by omega, by omega, Below.refl _ _⟩
  case round =>
    obtain ⟨a, b, rfl, rfl, ha, hkb, hbn, hbw⟩ := hrel
    by_cases hab : a < b
    · have habi : (a : Int) < b := by omega
      obtain ⟨h, hh⟩ : ∃ h, (a + b) / 2 = h := ⟨_, rfl⟩
      have hha : a ≤ h ∧ h < b := by omega
      have hhL : h < L.length := by rw [HH.out.1]; omega
      obtain ⟨g, off, rfl, hC⟩ := (HH.out.2.2.2.step hbw).at hhL
      obtain ⟨c0, c1, c2⟩ := hC.mk (getM hhL)
      have hcmp : (h < k → O.D.cmpI (L.getD h zmk).i id < 0) ∧ (¬ h < k → ¬ O.D.cmpI (L.getD h zmk).i id < 0) := by
        refine ⟨fun hlt => cmpI_lt ?_, fun hge => cmpI_ge ?_⟩
        · rw [← HH.out.2.2.1]; exact id_lt HH.out.2.1 (by rw [HH.out.1]; exact hk) hlt
        · rcases Nat.lt_or_ge k h with h1 | h1
          · rw [← HH.out.2.2.1]; exact Int.le_of_lt (id_lt HH.out.2.1 hhL h1)
          · have e : h = k := by omega
            rw [e, HH.out.2.2.1]; exact Int.le_refl _
      obtain ⟨v, hv⟩ : ∃ v, O.D.cmpI (L.getD h zmk).i id = v := ⟨_, rfl⟩
      rw [hv] at hcmp
      have hhi : (h : Int) < n := by omega
      clear hC
      generalize L.getD h zmk = m at c0 c1 c2 hv
      have hsh : ((a : Int) + b) / 2 = h := by omega
      by_cases hlt : h < k
      · have hv0 := hcmp.1 hlt
        clear hcmp
        go_wp2_with (go_at_call 146; refine (leafCmp_v hv _).mono ?_; rintro e w1 ⟨rfl, hb1⟩)
        go_roundw
        case rel => exact ⟨h + 1, b, by go_num, rfl, by omega, hkb, hbn, bstep hbw hb1 (Nat.le_refl _)⟩
        case measure => simp [intOf]; omega
      · have hv0 := hcmp.2 hlt
        clear hcmp
        go_wp2_with (go_at_call 146; refine (leafCmp_v hv _).mono ?_; rintro e w1 ⟨rfl, hb1⟩)
        go_roundw
        case rel => exact ⟨a, h, rfl, rfl, ha, by omega, by omega, bstep hbw hb1 (Nat.le_refl _)⟩
        case measure => simp [intOf]; omega
    · obtain rfl : a = k := by omega
      obtain rfl : a = b := by omega
      have hki : (a : Int) < n := by omega
      have hhL : a < L.length := by rw [HH.out.1]; omega
      obtain ⟨g, off, rfl, hC⟩ := (HH.out.2.2.2.step hbw).at hhL
      obtain ⟨c0, c1, c2⟩ := hC.mk (getM hhL)
      obtain ⟨v, hv⟩ : ∃ v, O.D.cmpI (L.getD a zmk).i id = v := ⟨_, rfl⟩
      clear hC
      generalize L.getD a zmk = m at c0 c1 c2 hv
      go_wp2_with (go_at_call 146; refine (leafCmp_v hv _).mono ?_; rintro e w1 ⟨rfl, hb1⟩)
      refine bodyPost_ret (v := .tuple #[.int .i64 (a : Int), .bool (v == 0)]) (by simp [results, Tryz.results145, go_sem]) rfl ?_
      exact ⟨_, rfl, bstep hbw hb1 (Nat.le_refl _)⟩
end Go.Proofs.YtipfcmfcdfofmaaGreat
namespace Go.Proofs.YtipfcmfcdfofmaaGreat
open Go.RowKit Go.Joins
attribute [local go_sem] Oper.semAt_some

theorem appL : Ap kM 147 (.agg #[.int .i64 0, .int .i64 0, .int .i64 0]) 24 := ⟨Tryz.underlying147, appM.inf, appM.zs, appM.pos, appM.small⟩
theorem mem_at {L : List Mk} {a : Mk} (h : a ∈ L) : ∃ k, k < L.length ∧ L.getD k zmk = a := by
  obtain ⟨k, hk, e⟩ := List.mem_iff_getElem.mp h
  exact ⟨k, hk, by simp [List.getD, hk, e]⟩
set_option maxRecDepth 100000 in
set_option maxHeartbeats 4000000 in
theorem leafOf_any (p q : Option Addr) (m n c d : Nat) (L : List Mk) (hm : L.length = m) (hmb : m ≤ 1000) (hL2 : L.Pairwise fun a b => a.i < b.i) (C : List Mk) (l : Nat) (hl : C.length = l) (hlb : l ≤ 1000) (hC : ∀ a ∈ C, a ∈ L) (pi : Option Addr) (ci : Nat) (w : World) (hL : SlG kM w p L) (hI : SlG kI w pi (C.map Mk.i)) :
    Calls Tryz.prog 128 #[.agg #[.slice p m c, .slice q n d], .slice pi l ci] w fun e w' => ∃ v c', e = .returned (.slice v l c') ∧ Sg w w' [rG kM (.slice v l c') C] := by
  have hS0 := ((Sg.nil w).lit kT [(⟨p, m, c⟩, ⟨q, n, d⟩)] 1 rfl (by decide) #[.slice p m c, .slice q n d] rfl).nilRow kM
  have HH : Hid (L.length = m ∧ (L.Pairwise fun a b => a.i < b.i) ∧ C.length = l ∧ (∀ a ∈ C, a ∈ L) ∧ SlG kM w p L ∧ SlG kI w pi (C.map Mk.i)) := ⟨hm, hL2, hl, hC, hL, hI⟩
  clear hm hL2 hl hC hL hI
  change Sg w (w.alloc (.cells #[.slice p m c, .slice q n d] 28)) [rG kM (.slice none 0 0) [], rG kT (.slice (some ⟨w.heap.size, 0, none⟩) 1 1) [(⟨p, m, c⟩, ⟨q, n, d⟩)]] at hS0
  go_enter Tryz.func128, Tryz.ntmps128
  go_wp2
  go_loopw [5, 12] (fun v iv wr => ∃ (k : Nat) (u : Option Addr) (e : Nat), k ≤ l ∧ iv = .int .i64 k ∧ v = .slice u k e ∧ Sg w wr [rG kM (.slice u k e) (C.take k), rG kT (.slice (some ⟨w.heap.size, 0, none⟩) 1 1) [(⟨p, m, c⟩, ⟨q, n, d⟩)]]) (fun _ iv _ => l - (intOf iv).toNat)
  case atStart => exact ⟨0, none, 0, by omega, rfl, rfl, hS0⟩
  case round =>
    clear hS0
    obtain ⟨k, u, e0, hk, rfl, rfl, hS⟩ := hrel
    by_cases hlt : k < l
    · have hki : (k : Int) < l := by omega
      have hkC : k < C.length := by rw [HH.out.2.2.1]; exact hlt
      have hgk := getM hkC
      obtain ⟨a, ha⟩ : ∃ a, C.getD k zmk = a := ⟨_, rfl⟩
      rw [ha] at hgk
      obtain ⟨h, hhL, hha⟩ := mem_at (HH.out.2.2.2.1 a (List.mem_of_getElem? hgk))
      obtain ⟨gi, oi, rfl, hCi⟩ := (HH.out.2.2.2.2.2.step hS.bel).at (k := k) (by simp; exact hkC)
      have i0 := hCi.int (k := k) (n := a.i) (by rw [List.getElem?_map, hgk]; rfl)
      obtain ⟨x0, x1, xf, xg⟩ := hS.two (K := kT) (g := w.heap.size) (c := 1) (p := (⟨p, m, c⟩, ⟨q, n, d⟩)) (by simp) rfl
      have HB : Hid (∀ W, Below w.heap.size w W → Calls Tryz.prog 145 #[.slice p m c, .int .i64 a.i, .func (.func 146) #[] #[]] W fun e w' => ∃ b, e = .returned (.tuple #[.int .i64 h, .bool b]) ∧ Below W.heap.size W w') := fun W hb => bsearch_any p m c L HH.out.1 hmb HH.out.2.1 h (by rw [← HH.out.1]; exact hhL) a.i (by rw [hha]) W (HH.out.2.2.2.2.1.step hb)
      obtain ⟨gl, ol, rfl, hCl⟩ := HH.out.2.2.2.2.1.at hhL
      have HM : Hid (∀ W, Below w.heap.size w W → (W.cell? ⟨gl, ol + h * 3, none⟩ = some (.int .i64 a.i) ∧ W.cell? ⟨gl, ol + h * 3 + 1, none⟩ = some (.int .i64 a.x) ∧ W.cell? ⟨gl, ol + h * 3 + 2, none⟩ = some (.int .i64 a.y))) := fun W hb => (hCl.step hb).mk (by rw [getM hhL, hha])
      have hhm : (h : Int) < m := by have := HH.out.1; omega
      have HT : Hid (C.take (k + 1) = C.take k ++ [a] ∧ (C.take k).length = k) := ⟨by rw [List.take_succ_eq_append_getElem hkC]; congr 2; simpa [List.getD, hkC] using ha, by simp; omega⟩
      clear hgk ha hha hCi hCl hkC hhL
      go_wp2_with (first
        | (go_at_call 145; refine (HB.out _ hS.bel).mono ?_; rintro e w1 ⟨bb, rfl, hb1⟩; have hS1 := hS.step hb1; clear x0 x1 xf xg; obtain ⟨x0, x1, xf, xg⟩ := hS1.two (K := kT) (g := w.heap.size) (c := 1) (p := (⟨some ⟨gl, ol, none⟩, m, c⟩, ⟨q, n, d⟩)) (by simp) rfl; obtain ⟨m0, m1, m2⟩ := HM.out _ hS1.bel)
        | (at_builtin; refine wpList_sgapp appL rfl _ _ rfl (A := []) (B := [a]) (n := k) (m := 1) hS1 (below_alloc1 _ _) HT.out.2 rfl rfl ⟨w1.heap.size, 0, none⟩ 1 rfl (lit_src (xs := [.int .i64 a.i, .int .i64 a.x, .int .i64 a.y]) rfl) (oneM _) (.inl (by decide)) (by omega) ?_; intro g4 c4 w4 hS4 _ _))
      go_roundw
      case rel => exact ⟨k + 1, _, _, by omega, by go_num, rfl, by rw [HT.out.1]; exact hS4⟩
      case measure => simp [intOf]; omega
    · obtain rfl : k = l := by omega
      have e : C.take k = C := List.take_of_length_le (by rw [HH.out.2.2.1]; exact Nat.le_refl _)
      rw [e] at hS
      go_wp2
      go_ret
      exact ⟨u, e0, rfl, hS.sub (by simp)⟩
end Go.Proofs.YtipfcmfcdfofmaaGreat
namespace Go.Proofs.YtipfcmfcdfofmaaGreat
open Go.RowKit Go.Joins
attribute [local go_sem] Oper.semAt_some

set_option maxRecDepth 100000 in
set_option maxHeartbeats 4000000 in
theorem shapeLeaf_any (p q : Option Addr) (m n c d : Nat) (L : List Mk) (hm : L.length = m) (hmb : m ≤ 1000) (hL2 : L.Pairwise fun a b => a.i < b.i) (C : List Mk) (l : Nat) (hl : C.length = l) (hlb : l ≤ 1000) (hC : ∀ a ∈ C, a ∈ L) (b : T4) (pi : Option Addr) (ci : Nat) (w : World) (hL : SlG kM w p L) (hI : SlG kI w pi (C.map Mk.i)) :
    Calls Tryz.prog 107 #[.agg #[.slice p m c, .slice q n d], .agg #[.int .i64 b.x, .int .i64 b.y, .int .i64 b.w, .int .i64 b.h, .bool true, .slice pi l ci]] w fun e w' => ∃ v c', e = .returned (.iface 147 (.slice v l c')) ∧ Sg w w' [rG kM (.slice v l c') C] := by
  have HB : Hid (∀ W, Below w.heap.size w W → Calls Tryz.prog 128 #[.agg #[.slice p m c, .slice q n d], .slice pi l ci] W fun e w' => ∃ v c', e = .returned (.slice v l c') ∧ Sg W w' [rG kM (.slice v l c') C]) := fun W hb => leafOf_any p q m n c d L hm hmb hL2 C l hl hlb hC pi ci W (hL.step hb) (hI.step hb)
  clear hm hL2 hl hC hL hI
  have hb0 := below_alloc2 w (.cells #[.slice p m c, .slice q n d] 28) (.cells #[.int .i64 b.x, .int .i64 b.y, .int .i64 b.w, .int .i64 b.h, .bool true, .slice pi l ci] 49)
  have hS0 : Sg w ((w.alloc (.cells #[.slice p m c, .slice q n d] 28)).alloc (.cells #[.int .i64 b.x, .int .i64 b.y, .int .i64 b.w, .int .i64 b.h, .bool true, .slice pi l ci] 49)) [] := (Sg.nil w).step hb0
  go_enter Tryz.func107, Tryz.ntmps107
  go_wp2_with (go_at_call 128; refine (HB.out _ hb0).mono ?_; rintro e w1 ⟨v, c', rfl, hS⟩)
  go_ret
  exact ⟨v, c', rfl, hS0.addL hS⟩
set_option maxRecDepth 100000 in
set_option maxHeartbeats 4000000 in
theorem shapeFork_any (p : Option Addr) (gq oq m n c d : Nat) (b : T4) (fr l : Nat) (hl1 : 1 ≤ l) (hfl : fr + l ≤ n) (hnb : n ≤ 1000) (hcap : n ≤ d) (pi : Option Addr) (ci : Nat) (w : World) (hI : SlG kI w pi ((List.range l).map fun k => ((fr + k : Nat) : Int))) :
    Calls Tryz.prog 107 #[.agg #[.slice p m c, .slice (some ⟨gq, oq, none⟩) n d], .agg #[.int .i64 b.x, .int .i64 b.y, .int .i64 b.w, .int .i64 b.h, .bool false, .slice pi l ci]] w fun e w' => ∃ c', e = .returned (.iface 152 (.agg #[.int .i64 (fr : Int), .slice (some ⟨gq, oq + fr * 6, none⟩) l c'])) ∧ Below w.heap.size w w' := by
  have hb0 := below_alloc2 w (.cells #[.slice p m c, .slice (some ⟨gq, oq, none⟩) n d] 28) (.cells #[.int .i64 b.x, .int .i64 b.y, .int .i64 b.w, .int .i64 b.h, .bool false, .slice pi l ci] 49)
  obtain ⟨gi, oi, rfl, hCi⟩ := (hI.step hb0).at (k := 0) (by simp; omega)
  have i0 := hCi.int (k := 0) (n := (fr : Int)) (by rw [List.getElem?_map, List.getElem?_range (by omega)]; simp)
  simp only [Nat.add_zero] at i0
  have h1 : (0 : Int) < l := by omega
  have h2 : (fr : Int) + l ≤ d := by omega
  have h3 : ¬ d = fr := by omega
  have h4 : ¬ l = 0 := by omega
  have h5 : (fr : Int) ≤ fr + l := by omega
  have h6 : ((fr : Int) + l).toNat - fr = l := by omega
  clear hI hCi
  go_enter Tryz.func107, Tryz.ntmps107
  go_wp2
  go_ret
  exact ⟨_, rfl, hb0⟩
end Go.Proofs.YtipfcmfcdfofmaaGreat
