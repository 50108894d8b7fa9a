/-
  A leaf's Node.
-/
import Derived.Test.YtipfcmfcdfofmaaGreatP4
namespace Go.Proofs.YtipfcmfcdfofmaaGreat
open Go.RowKit Go.Joins
attribute [local go_sem] Oper.semAt_some

def spS (m : Mk) : T2 := ⟨m.x, m.y⟩
theorem spS_uni (L : List Mk) : (L.map spS).map unS = L.map uni := by simp [Function.comp_def, spS, unS, uni]

set_option maxRecDepth 100000 in
set_option maxHeartbeats 4000000 in
theorem leafNode_any (p : Option Addr) (cap : Nat) (L : List Mk) (n : Nat) (hn : L.length = n) (h0 : 0 < n) (hb : n ≤ 1000) (w : World) (hL : SlG kM w p L) (hok : ∀ m ∈ L, spB m.x m.y = true) {b : T4} (hbx : boxL (L.map uni) = b) {V : List Int} (hV : L.map Mk.i = V) :
    Calls Tryz.prog 171 #[.slice p n cap] w fun e w' => ∃ q c, e = .returned (.agg #[.int .i64 b.x, .int .i64 b.y, .int .i64 b.w, .int .i64 b.h, .bool true, .slice q n c]) ∧ Sg w w' [rG kI (.slice q n c) V] := by
  have HN : Hid (L.length = n) := hn
  have HBX : Hid (∀ (W : World) (q : Option Addr) (c : Nat), SlG kS W q (L.map spS) → Calls Tryz.prog 172 #[.slice q n c] W fun e w' => e = .returned (.agg #[.int .i64 b.x, .int .i64 b.y, .int .i64 b.w, .int .i64 b.h]) ∧ Below W.heap.size W w') := fun W q c h => box_any q c (L.map spS) n (by rw [List.length_map]; exact hn) h0 W h hb (fun c hc => by
    obtain ⟨m, hm, rfl⟩ := List.mem_map.mp hc
    exact hok m hm) (by rw [spS_uni]; exact hbx)
  have HID : Hid (∀ W, Below w.heap.size w W → Calls Tryz.prog 76 #[.slice p n cap] W fun e w' => ∃ q c, e = .returned (.slice q n c) ∧ Sg W w' [rG kI (.slice q n c) V]) := fun W h => idsOf_any p cap L n hn W (hL.step h) hb hV
  have hS0 := ((Sg.nil w).lit kN [zn] 1 rfl (by decide) #[.int .i64 0, .int .i64 0, .int .i64 0, .int .i64 0, .bool false, .slice none 0 0] rfl).nilRow kS
  clear hn hok hbx hV
  go_enter Tryz.func171, Tryz.ntmps171
  go_wp2
  go_loopw [3, 8] (fun v iv wr => ∃ (k : Nat) (q : Option Addr) (c : Nat), k ≤ n ∧ iv = .int .i64 k ∧ v = .slice q k c ∧ Sg w wr [rG kS (.slice q k c) ((L.take k).map spS), rG kN (.slice (some ⟨w.heap.size, 0, none⟩) 1 1) [zn]]) (fun _ iv _ => n - (intOf iv).toNat)
  case atStart => exact ⟨0, none, 0, by omega, rfl, rfl, hS0⟩
  case round =>
    clear hS0
    obtain ⟨k, q, c, hk, rfl, rfl, hS⟩ := hrel
    by_cases hlt : k < n
    · have hki : (k : Int) < n := by omega
      have hkL : k < L.length := by rw [HN.out]; exact hlt
      obtain ⟨g, off, rfl, hC⟩ := (hL.step hS.bel).at hkL
      obtain ⟨c0, c1, c2⟩ := hC.mk (getM hkL)
      have htk := take_map spS (getM hkL)
      obtain ⟨m, hm⟩ : ∃ m, L.getD k zmk = m := ⟨_, rfl⟩
      rw [hm] at c0 c1 c2 htk
      have HT : Hid ((L.take (k + 1)).map spS = (L.take k).map spS ++ [spS m]) := htk
      have HML : Hid (((L.take k).map spS).length = k) := (show _ = k by simp; omega)
      clear htk hm hC
      go_wp2_with (at_builtin; refine wpList_sgapp appS rfl _ _ rfl (A := []) (B := [spS m]) (n := k) (m := 1) hS (below_alloc2 _ _ _) HML.out rfl rfl ⟨wr.heap.size + 1, 0, none⟩ 1 rfl (lit_src (xs := [.int .i64 m.x, .int .i64 m.y]) (by simp)) (oneS _) (.inl (by decide)) (by omega) ?_; intro g' cap' w4 hS4 _ _)
      go_roundw
      case rel => exact ⟨k + 1, _, _, by omega, by go_num, rfl, by rw [HT.out]; exact hS4⟩
      case measure => simp [intOf]; omega
    · obtain rfl : k = n := by omega
      have e : L.take k = L := List.take_of_length_le (by rw [HN.out]; exact Nat.le_refl _)
      rw [e] at hS
      have hq : SlG kS wr q (L.map spS) := OwG.sl (hS.mem (K := kS) (v := .slice q k c) (L := L.map spS) (by simp))
      clear e
      go_wp2_with (first
        | (go_at_call 172; refine (HBX.out _ q c hq).mono ?_; rintro e w1 ⟨rfl, hb2⟩; have hS1 := hS.step hb2)
        | (go_at_call 76; refine (HID.out _ hS1.bel).mono ?_; rintro e w2 ⟨q2, c2, rfl, hS2⟩; have hS3 := hS1.addL hS2; obtain ⟨⟨m0, m1, m2, m3, m4, m5⟩, mf, mg⟩ := hS3.nd1 (g := w.heap.size) (c := 1) (p := zn) (by simp); simp only [zn, znd, zt4] at m0 m1 m2 m3 m4 m5))
      have hS5 := Sg.setNd (A := [_, _]) hS3 (⟨b, true, []⟩, ⟨q2, k, c2⟩)
      refine bodyPost_ret (v := .agg #[.int .i64 b.x, .int .i64 b.y, .int .i64 b.w, .int .i64 b.h, .bool true, .slice q2 k c2]) (by simp [results, Tryz.results171, go_sem, m0, m1, m2, m3, m4, m5]) rfl ⟨q2, c2, rfl, ?_⟩
      exact hS5.sub (by simp)
end Go.Proofs.YtipfcmfcdfofmaaGreat
