/-
  Nodes made of shapes: each by its own way.
-/
import Derived.Test.YtipfcmfcdfofmaaGreatL8
namespace Go.Proofs.YtipfcmfcdfofmaaGreat
open Go.Shelf Go.RowKit Go.Joins
attribute [local go_sem] Oper.semAt_some

theorem m_leaf (r : Value) (w : World) : (method 322 147 r "loop.example/g00301/impl.node").run Tryz.prog w = .ok (171, r) w := by kernel_rfl
theorem m_fork (r : Value) (w : World) : (method 322 152 r "loop.example/g00301/impl.node").run Tryz.prog w = .ok (174, r) w := by kernel_rfl
/-- The rows of a list of Nodes: the Nodes', then each Node's Parts. -/
def trR (v : Value) (NL : List (Nd × Sv)) : List Rw := rG kN v NL :: NL.map fun p => rG kI p.2.v p.1.ps
theorem tr_nil {w W : World} (h : Sg w W []) : Sg w W (trR (.slice none 0 0) []) := h.nilRow kN
theorem tr_snoc {w W : World} {v : Value} {NL : List (Nd × Sv)} {nd : Nd} {s : Sv} (h : Sg w W ([rG kI s.v nd.ps] ++ rG kN v (NL ++ [(nd, s)]) :: NL.map fun p => rG kI p.2.v p.1.ps)) : Sg w W (trR v (NL ++ [(nd, s)])) := by
  refine h.perm ?_
  unfold trR
  rw [List.map_append]
  refine (List.Perm.swap _ _ _).trans (List.Perm.cons _ ?_)
  exact List.perm_append_comm (l₁ := [_])
theorem oneN (p : Nd × Sv) : ∀ u ∈ kN.flat [p], u.oneCell' = true := fun u hu => by
  simp [Kd.flat, kN] at hu
  rcases hu with rfl | rfl | rfl | rfl | rfl | rfl <;> rfl
theorem getV {L : List Value} {k : Nat} (hk : k < L.length) : L[k]? = some (L.getD k .nilIface) := by simp [List.getD, hk]
theorem getNd {L : List Nd} {k : Nat} (hk : k < L.length) : L[k]? = some (L.getD k znd) := by simp [List.getD, hk]
theorem take_getNd {L : List Nd} {k : Nat} (hk : k < L.length) : L.take (k + 1) = L.take k ++ [L.getD k znd] := by
  rw [List.take_succ_eq_append_getElem hk]; simp [List.getD, hk]

set_option maxRecDepth 100000 in
set_option maxHeartbeats 4000000 in
theorem madeL_any (p : Option Addr) (cap : Nat) (vs : List Value) (ns : List Nd) (n : Nat) (hn : vs.length = n) (hns : ns.length = n) (hb : n ≤ 1000) (rv : Nat → Value) (hrv : ∀ k, k < n → vs.getD k .nilIface = .iface 147 (rv k)) (w : World) (hV : SlG kV w p vs)
    (HC : ∀ k W, k < n → Below w.heap.size w W → Calls Tryz.prog 171 #[rv k] W fun e w' => ∃ q c, e = .returned (.agg #[.int .i64 (ns.getD k znd).b.x, .int .i64 (ns.getD k znd).b.y, .int .i64 (ns.getD k znd).b.w, .int .i64 (ns.getD k znd).b.h, .bool (ns.getD k znd).lf, .slice q (ns.getD k znd).ps.length c]) ∧ Sg W w' [rG kI (.slice q (ns.getD k znd).ps.length c) (ns.getD k znd).ps]) :
    Calls Tryz.prog 80 #[.slice p n cap] w fun e w' => ∃ q c NL, e = .returned (.slice q n c) ∧ NL.map Prod.fst = ns ∧ Sg w w' (trR (.slice q n c) NL) := by
  have HH : Hid (vs.length = n ∧ ns.length = n ∧ (∀ k, k < n → vs.getD k .nilIface = .iface 147 (rv k)) ∧ SlG kV w p vs ∧ (∀ k W, k < n → Below w.heap.size w W → Calls Tryz.prog 171 #[rv k] W fun e w' => ∃ q c, e = .returned (.agg #[.int .i64 (ns.getD k znd).b.x, .int .i64 (ns.getD k znd).b.y, .int .i64 (ns.getD k znd).b.w, .int .i64 (ns.getD k znd).b.h, .bool (ns.getD k znd).lf, .slice q (ns.getD k znd).ps.length c]) ∧ Sg W w' [rG kI (.slice q (ns.getD k znd).ps.length c) (ns.getD k znd).ps])) := ⟨hn, hns, hrv, hV, HC⟩
  have hS0 := tr_nil (Sg.nil w)
  clear hn hns hrv hV HC
  go_enter Tryz.func80, Tryz.ntmps80
  go_wp2
  go_loopw [3, 8] (fun v iv wr => ∃ (k : Nat) (q : Option Addr) (c : Nat) (NL : List (Nd × Sv)), k ≤ n ∧ iv = .int .i64 k ∧ v = .slice q k c ∧ Hid (NL.map Prod.fst = ns.take k ∧ NL.length = k) ∧ Sg w wr (trR (.slice q k c) NL)) (fun _ iv _ => n - (intOf iv).toNat)
  case atStart => exact ⟨0, none, 0, [], by omega, rfl, rfl, ⟨by simp, rfl⟩, hS0⟩
  case round =>
    clear hS0
    obtain ⟨k, q, c, NL, hk, rfl, rfl, hN, hS⟩ := hrel
    by_cases hlt : k < n
    · have hki : (k : Int) < n := by omega
      obtain ⟨a1, a2, a3, a4, a5⟩ := HH.out
      obtain ⟨g, off, rfl, hC⟩ := (a4.step hS.bel).at (k := k) (by omega)
      have c0 := hC.val (getV (k := k) (by omega))
      rw [a3 k hlt] at c0
      have HCK := a5 k wr hlt hS.bel
      have htk := take_getNd (L := ns) (k := k) (by omega)
      obtain ⟨nd, hnd⟩ : ∃ nd, ns.getD k znd = nd := ⟨_, rfl⟩
      rw [hnd] at HCK htk
      obtain ⟨r, hr⟩ : ∃ r, rv k = r := ⟨_, rfl⟩
      rw [hr] at HCK c0
      have HCA : Hid (Calls Tryz.prog 171 #[r] wr fun e w' => ∃ q c, e = .returned (.agg #[.int .i64 nd.b.x, .int .i64 nd.b.y, .int .i64 nd.b.w, .int .i64 nd.b.h, .bool nd.lf, .slice q nd.ps.length c]) ∧ Sg wr w' [rG kI (.slice q nd.ps.length c) nd.ps]) := HCK
      have HT : Hid (ns.take (k + 1) = ns.take k ++ [nd]) := htk
      have hml := m_leaf r wr
      have HNL : Hid (NL.length = k) := hN.out.2
      clear HCK htk hnd hr a1 a2 a3 a4 a5 hC
      go_wp2_with (first
        | (go_at_call 171; refine HCA.out.mono ?_; rintro e w1 ⟨q2, c2, rfl, hS2⟩; have hS1 : Sg w w1 ([rG kI (.slice q2 nd.ps.length c2) nd.ps] ++ rG kN (.slice q k c) NL :: NL.map fun p => rG kI p.2.v p.1.ps) := hS.addL hS2)
        | (at_builtin; refine wpList_sgapp appN rfl _ _ rfl (A := [rG kI (.slice q2 nd.ps.length c2) nd.ps]) (B := [(nd, ⟨q2, nd.ps.length, c2⟩)]) (n := k) (m := 1) hS1 (below_alloc1 _ _) HNL.out rfl rfl ⟨w1.heap.size, 0, none⟩ 1 rfl (lit_src (xs := [.int .i64 nd.b.x, .int .i64 nd.b.y, .int .i64 nd.b.w, .int .i64 nd.b.h, .bool nd.lf, .slice q2 nd.ps.length c2]) rfl) (oneN _) (.inl (by decide)) (by omega) ?_; intro g' cap' w4 hS4 _ _))
      have hS5 := tr_snoc (nd := nd) (s := ⟨q2, nd.ps.length, c2⟩) hS4
      go_roundw
      case rel => exact ⟨k + 1, some ⟨g', 0, none⟩, cap', NL ++ [(nd, ⟨q2, nd.ps.length, c2⟩)], by omega, by go_num, rfl, ⟨by rw [HT.out, List.map_append, hN.out.1]; rfl, by simp [HNL.out]⟩, hS5⟩
      case measure => simp [intOf]; omega
    · obtain rfl : k = n := by omega
      have HE : Hid (NL.map Prod.fst = ns) := (show _ = ns by rw [hN.out.1]; exact List.take_of_length_le (by rw [HH.out.2.1]; exact Nat.le_refl _))
      clear HH hN
      go_wp2
      go_ret
      exact ⟨q, c, NL, rfl, HE.out, hS⟩

set_option maxRecDepth 100000 in
set_option maxHeartbeats 4000000 in
theorem madeF_any (p : Option Addr) (cap : Nat) (vs : List Value) (ns : List Nd) (n : Nat) (hn : vs.length = n) (hns : ns.length = n) (hb : n ≤ 1000) (rv : Nat → Value) (hrv : ∀ k, k < n → vs.getD k .nilIface = .iface 152 (rv k)) (w : World) (hV : SlG kV w p vs)
    (HC : ∀ k W, k < n → Below w.heap.size w W → Calls Tryz.prog 174 #[rv k] W fun e w' => ∃ q c, e = .returned (.agg #[.int .i64 (ns.getD k znd).b.x, .int .i64 (ns.getD k znd).b.y, .int .i64 (ns.getD k znd).b.w, .int .i64 (ns.getD k znd).b.h, .bool (ns.getD k znd).lf, .slice q (ns.getD k znd).ps.length c]) ∧ Sg W w' [rG kI (.slice q (ns.getD k znd).ps.length c) (ns.getD k znd).ps]) :
    Calls Tryz.prog 80 #[.slice p n cap] w fun e w' => ∃ q c NL, e = .returned (.slice q n c) ∧ NL.map Prod.fst = ns ∧ Sg w w' (trR (.slice q n c) NL) := by
  have HH : Hid (vs.length = n ∧ ns.length = n ∧ (∀ k, k < n → vs.getD k .nilIface = .iface 152 (rv k)) ∧ SlG kV w p vs ∧ (∀ k W, k < n → Below w.heap.size w W → Calls Tryz.prog 174 #[rv k] W fun e w' => ∃ q c, e = .returned (.agg #[.int .i64 (ns.getD k znd).b.x, .int .i64 (ns.getD k znd).b.y, .int .i64 (ns.getD k znd).b.w, .int .i64 (ns.getD k znd).b.h, .bool (ns.getD k znd).lf, .slice q (ns.getD k znd).ps.length c]) ∧ Sg W w' [rG kI (.slice q (ns.getD k znd).ps.length c) (ns.getD k znd).ps])) := ⟨hn, hns, hrv, hV, HC⟩
  have hS0 := tr_nil (Sg.nil w)
  clear hn hns hrv hV HC
  go_enter Tryz.func80, Tryz.ntmps80
  go_wp2
  go_loopw [3, 8] (fun v iv wr => ∃ (k : Nat) (q : Option Addr) (c : Nat) (NL : List (Nd × Sv)), k ≤ n ∧ iv = .int .i64 k ∧ v = .slice q k c ∧ Hid (NL.map Prod.fst = ns.take k ∧ NL.length = k) ∧ Sg w wr (trR (.slice q k c) NL)) (fun _ iv _ => n - (intOf iv).toNat)
  case atStart => exact ⟨0, none, 0, [], by omega, rfl, rfl, ⟨by simp, rfl⟩, hS0⟩
  case round =>
    clear hS0
    obtain ⟨k, q, c, NL, hk, rfl, rfl, hN, hS⟩ := hrel
    by_cases hlt : k < n
    · have hki : (k : Int) < n := by omega
      obtain ⟨a1, a2, a3, a4, a5⟩ := HH.out
      obtain ⟨g, off, rfl, hC⟩ := (a4.step hS.bel).at (k := k) (by omega)
      have c0 := hC.val (getV (k := k) (by omega))
      rw [a3 k hlt] at c0
      have HCK := a5 k wr hlt hS.bel
      have htk := take_getNd (L := ns) (k := k) (by omega)
      obtain ⟨nd, hnd⟩ : ∃ nd, ns.getD k znd = nd := ⟨_, rfl⟩
      rw [hnd] at HCK htk
      obtain ⟨r, hr⟩ : ∃ r, rv k = r := ⟨_, rfl⟩
      rw [hr] at HCK c0
      have HCA : Hid (Calls Tryz.prog 174 #[r] wr fun e w' => ∃ q c, e = .returned (.agg #[.int .i64 nd.b.x, .int .i64 nd.b.y, .int .i64 nd.b.w, .int .i64 nd.b.h, .bool nd.lf, .slice q nd.ps.length c]) ∧ Sg wr w' [rG kI (.slice q nd.ps.length c) nd.ps]) := HCK
      have HT : Hid (ns.take (k + 1) = ns.take k ++ [nd]) := htk
      have hml := m_fork r wr
      have HNL : Hid (NL.length = k) := hN.out.2
      clear HCK htk hnd hr a1 a2 a3 a4 a5 hC
      go_wp2_with (first
        | (go_at_call 174; refine HCA.out.mono ?_; rintro e w1 ⟨q2, c2, rfl, hS2⟩; have hS1 : Sg w w1 ([rG kI (.slice q2 nd.ps.length c2) nd.ps] ++ rG kN (.slice q k c) NL :: NL.map fun p => rG kI p.2.v p.1.ps) := hS.addL hS2)
        | (at_builtin; refine wpList_sgapp appN rfl _ _ rfl (A := [rG kI (.slice q2 nd.ps.length c2) nd.ps]) (B := [(nd, ⟨q2, nd.ps.length, c2⟩)]) (n := k) (m := 1) hS1 (below_alloc1 _ _) HNL.out rfl rfl ⟨w1.heap.size, 0, none⟩ 1 rfl (lit_src (xs := [.int .i64 nd.b.x, .int .i64 nd.b.y, .int .i64 nd.b.w, .int .i64 nd.b.h, .bool nd.lf, .slice q2 nd.ps.length c2]) rfl) (oneN _) (.inl (by decide)) (by omega) ?_; intro g' cap' w4 hS4 _ _))
      have hS5 := tr_snoc (nd := nd) (s := ⟨q2, nd.ps.length, c2⟩) hS4
      go_roundw
      case rel => exact ⟨k + 1, some ⟨g', 0, none⟩, cap', NL ++ [(nd, ⟨q2, nd.ps.length, c2⟩)], by omega, by go_num, rfl, ⟨by rw [HT.out, List.map_append, hN.out.1]; rfl, by simp [HNL.out]⟩, hS5⟩
      case measure => simp [intOf]; omega
    · obtain rfl : k = n := by omega
      have HE : Hid (NL.map Prod.fst = ns) := (show _ = ns by rw [hN.out.1]; exact List.take_of_length_le (by rw [HH.out.2.1]; exact Nat.le_refl _))
      clear HH hN
      go_wp2
      go_ret
      exact ⟨q, c, NL, rfl, HE.out, hS⟩
end Go.Proofs.YtipfcmfcdfofmaaGreat
