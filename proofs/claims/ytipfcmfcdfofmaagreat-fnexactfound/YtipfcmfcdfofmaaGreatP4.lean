/-
  A fork's Node.
-/
import Derived.Test.YtipfcmfcdfofmaaGreatP3
import Derived.Test.YtipfcmfcdfofmaaGreatSB
namespace Go.Proofs.YtipfcmfcdfofmaaGreat
open Go.RowKit Go.Joins
attribute [local go_sem] Oper.semAt_some

def zn : Nd × Sv := (znd, ⟨none, 0, 0⟩)
theorem getN {L : List (Nd × Sv)} {k : Nat} (hk : k < L.length) : L[k]? = some (L.getD k zn) := by simp [List.getD, hk]
def upto (fr k : Nat) : List Int := (List.range k).map fun j : Nat => (fr : Int) + (j : Int)
theorem upto_succ (fr k : Nat) : upto fr (k + 1) = upto fr k ++ [(fr : Int) + (k : Int)] := by simp [upto, List.range_succ]
theorem upto_len (fr k : Nat) : (upto fr k).length = k := by simp [upto]

set_option maxRecDepth 100000 in
set_option maxHeartbeats 4000000 in
theorem forkNode_any (fr : Nat) (p : Option Addr) (cap : Nat) (C : List (Nd × Sv)) (n : Nat) (hn : C.length = n) (h0 : 0 < n) (hb : n ≤ 1000) (hfr : fr ≤ 100000) (w : World) (hC : SlG kN w p C) (hok : ∀ c ∈ C, c.1.b.ok = true) {b : T4} (hbx : boxL (C.map fun c => c.1.b) = b) :
    Calls Tryz.prog 174 #[.agg #[.int .i64 fr, .slice p n cap]] w fun e w' => ∃ q c, e = .returned (.agg #[.int .i64 b.x, .int .i64 b.y, .int .i64 b.w, .int .i64 b.h, .bool false, .slice q n c]) ∧ Sg w w' [rG kI (.slice q n c) (upto fr n)] := by
  have HN : Hid (C.length = n) := hn
  have h0L : 0 < C.length := by omega
  have hi0 : (0 : Int) < n := by omega
  obtain ⟨g, off, rfl, hC0⟩ := hC.at h0L
  obtain ⟨c0, c1, c2, c3, c4, c5⟩ := hC0.nd (getN h0L)
  simp only [Nat.zero_mul, Nat.add_zero] at c0 c1 c2 c3 c4 c5
  obtain ⟨s0, hs0⟩ : ∃ s, C.getD 0 zn = s := ⟨_, rfl⟩
  rw [hs0] at c0 c1 c2 c3 c4 c5
  have hb0 : (C.map fun c => c.1.b).getD 0 zt4 = s0.1.b := by rw [← hs0]; simp [List.getD, h0L]
  have h0k : s0.1.b.ok = true := by rw [← hs0]; exact hok _ (List.mem_of_getElem? (getN h0L))
  have HR : Hid (boxF s0.1.b (C.map fun c => c.1.b) = b) := (show _ = b by rw [← hbx, boxL, hb0])
  have HB : Hid (∀ k, (boxF s0.1.b ((C.map fun c => c.1.b).take k)).ok = true) := fun k => boxF_ok h0k fun t ht => by
    obtain ⟨c, hc, rfl⟩ := List.mem_map.mp (List.mem_of_mem_take ht)
    exact hok c hc
  have HK : Hid (∀ k, k < C.length → (C.getD k zn).1.b.ok = true) := fun k hk => hok _ (List.mem_of_getElem? (getN hk))
  have HC : Hid (CsG kN w g off C) := hC0
  have hS0 := ((((Sg.nil w).lit kF [((fr : Int), ⟨some ⟨g, off, none⟩, n, cap⟩)] 1 rfl (by decide) #[.int .i64 fr, .slice (some ⟨g, off, none⟩) n cap] rfl).lit kN [zn] 1 rfl (by decide) #[.int .i64 0, .int .i64 0, .int .i64 0, .int .i64 0, .bool false, .slice none 0 0] rfl).lit kN [(⟨s0.1.b, false, []⟩, ⟨none, 0, 0⟩)] 1 rfl (by decide) #[.int .i64 s0.1.b.x, .int .i64 s0.1.b.y, .int .i64 s0.1.b.w, .int .i64 s0.1.b.h, .bool false, .slice none 0 0] rfl).nilRow kI
  simp only [World.size_alloc] at hS0
  clear hn hbx hok hs0 hb0 h0L hC hC0 h0k
  have hg := HC.out.1
  go_enter Tryz.func174, Tryz.ntmps174
  go_wp2
  go_loopw [15] (fun iv wr => ∃ (k : Nat) (q : Option Addr) (c : Nat), k ≤ n ∧ iv = .int .i64 k ∧ Sg w wr [rG kI (.slice q k c) (upto fr k), rG kN (.slice (some ⟨w.heap.size + 1 + 1, 0, none⟩) 1 1) [(⟨boxF s0.1.b ((C.map fun c => c.1.b).take k), false, []⟩, ⟨q, k, c⟩)], rG kN (.slice (some ⟨w.heap.size + 1, 0, none⟩) 1 1) [zn], rG kF (.slice (some ⟨w.heap.size, 0, none⟩) 1 1) [((fr : Int), ⟨some ⟨g, off, none⟩, n, cap⟩)]]) (fun iv _ => n - (intOf iv).toNat)
  case atStart => exact ⟨0, none, 0, by omega, rfl, hS0⟩
  case round =>
    clear hS0 c0 c1 c2 c3 c4 c5
    obtain ⟨k, q, c, hk, rfl, hS⟩ := hrel
    by_cases hlt : k < n
    · have hki : (k : Int) < n := by omega
      have hkL : k < C.length := by rw [HN.out]; exact hlt
      obtain ⟨c0, c1, c2, c3, c4, c5⟩ := (HC.out.step hS.bel).nd (getN hkL)
      have kk := HK.out k hkL
      have hbt := boxF_take (b0 := s0.1.b) (L := C.map fun c => c.1.b) (k := k) (a := (C.getD k zn).1.b) (by rw [List.getElem?_map, getN hkL]; rfl)
      obtain ⟨s, hsv⟩ : ∃ s, C.getD k zn = s := ⟨_, rfl⟩
      rw [hsv] at c0 c1 c2 c3 c4 c5 kk hbt
      have hbk := HB.out k
      obtain ⟨bk, hbv⟩ : ∃ b, boxF s0.1.b ((C.map fun c => c.1.b).take k) = b := ⟨_, rfl⟩
      rw [hbv] at hbk hbt hS
      obtain ⟨b2, hbv2⟩ : ∃ b, aro bk s.1.b = b := ⟨_, rfl⟩
      rw [hbv2] at hbt
      have HA : Hid (∀ w, Calls Tryz.prog 173 #[.agg #[.int .i64 bk.x, .int .i64 bk.y, .int .i64 bk.w, .int .i64 bk.h], .agg #[.int .i64 s.1.b.x, .int .i64 s.1.b.y, .int .i64 s.1.b.w, .int .i64 s.1.b.h]] w fun e w' => e = .returned (.agg #[.int .i64 b2.x, .int .i64 b2.y, .int .i64 b2.w, .int .i64 b2.h]) ∧ Below w.heap.size w w') := fun w => around_t hbk kk hbv2 w
      have HBT : Hid (boxF s0.1.b ((C.map fun c => c.1.b).take (k + 1)) = b2) := hbt
      have HU : Hid (upto fr (k + 1) = upto fr k ++ [(fr : Int) + (k : Int)]) := upto_succ fr k
      have HUL : Hid ((upto fr k).length = k) := upto_len fr k
      obtain ⟨⟨n0, n1, n2, n3, n4, n5⟩, nf, ng⟩ := hS.nd1 (g := w.heap.size + 1 + 1) (c := 1) (p := (⟨bk, false, []⟩, ⟨q, k, c⟩)) (by simp)
      obtain ⟨f0, f1, _, fg⟩ := hS.two (K := kF) (g := w.heap.size) (c := 1) (p := ((fr : Int), ⟨some ⟨g, off, none⟩, n, cap⟩)) (a := .int .i64 fr) (b := .slice (some ⟨g, off, none⟩) n cap) (by simp) rfl
      simp only at n0 n1 n2 n3 n4 n5
      clear hbt hbv hbv2 hsv hbk kk
      go_wp2_with (first
        | (go_at_call 173; refine (HA.out _).mono ?_; rintro e w1 ⟨rfl, hb2⟩; have hS1 := hS.step (ba1 hb2); clear n0 n1 n2 n3 n4 n5 nf ng f0 f1 fg; obtain ⟨⟨n0, n1, n2, n3, n4, n5⟩, nf, ng⟩ := hS1.nd1 (g := w.heap.size + 1 + 1) (c := 1) (p := (⟨bk, false, []⟩, ⟨q, k, c⟩)) (by simp); obtain ⟨f0, f1, _, fg⟩ := hS1.two (K := kF) (g := w.heap.size) (c := 1) (p := ((fr : Int), ⟨some ⟨g, off, none⟩, n, cap⟩)) (a := .int .i64 fr) (b := .slice (some ⟨g, off, none⟩) n cap) (by simp) rfl; simp only at n0 n1 n2 n3 n4 n5; have hS2 := Sg.setBox (A := [_]) hS1 b2)
        | (at_builtin; refine wpList_sgapp appI rfl _ _ rfl (A := []) (B := [(fr : Int) + (k : Int)]) (n := k) (m := 1) hS2 (below_alloc1 _ _) HUL.out rfl rfl ⟨w1.heap.size, 0, none⟩ 1 rfl (lit_src (xs := [.int .i64 ((fr : Int) + (k : Int))]) (by simp)) (oneI _) (.inl (by decide)) (by omega) ?_; intro g' cap' w4 hS4 _ _; clear n0 n1 n2 n3 n4 n5 nf ng; obtain ⟨⟨n0, n1, n2, n3, n4, n5⟩, nf, ng⟩ := hS4.nd1 (g := w.heap.size + 1 + 1) (c := 1) (p := (⟨b2, false, []⟩, ⟨q, k, c⟩)) (by simp); simp only at n0 n1 n2 n3 n4 n5))
      have hS5 := Sg.setPart (A := [_]) hS4 ⟨some ⟨g', 0, none⟩, k + 1, cap'⟩
      go_roundw
      case rel => exact ⟨k + 1, some ⟨g', 0, none⟩, cap', by omega, by go_num, by rw [HU.out, HBT.out]; exact hS5⟩
      case measure => simp [intOf]; omega
    · obtain rfl : k = n := by omega
      have e : (C.map fun c => c.1.b).take k = C.map fun c => c.1.b := List.take_of_length_le (by rw [List.length_map, HN.out]; exact Nat.le_refl _)
      rw [e, HR.out] at hS
      obtain ⟨⟨n0, n1, n2, n3, n4, n5⟩, nf, ng⟩ := hS.nd1 (g := w.heap.size + 1 + 1) (c := 1) (p := (⟨b, false, []⟩, ⟨q, k, c⟩)) (by simp)
      obtain ⟨⟨m0, m1, m2, m3, m4, m5⟩, mf, mg⟩ := hS.nd1 (g := w.heap.size + 1) (c := 1) (p := zn) (by simp)
      simp only [zn, znd, zt4] at n0 n1 n2 n3 n4 n5 m0 m1 m2 m3 m4 m5
      clear e
      have hS5 := Sg.setNd (A := [_, _]) hS (⟨b, false, []⟩, ⟨q, k, c⟩)
      go_wp2
      refine bodyPost_ret (v := .agg #[.int .i64 b.x, .int .i64 b.y, .int .i64 b.w, .int .i64 b.h, .bool false, .slice q k c]) (by simp [results, Tryz.results174, go_sem, m0, m1, m2, m3, m4, m5]) rfl ⟨q, c, rfl, ?_⟩
      exact hS5.sub (by simp)
end Go.Proofs.YtipfcmfcdfofmaaGreat
