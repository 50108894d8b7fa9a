/-
  NewWorld where nothing is made; the law of NewWorld.
-/
import Derived.Test.YtmfbkbifoehoeaaKN4
namespace Go.Proofs.Ytmfbkbifoehoeaa.K.D
open Go.Shelf Go.RowKit Go.Joins
attribute [local go_sem] Oper.semAt_some

set_option maxRecDepth 100000 in
set_option maxHeartbeats 1000000 in
theorem iNew_no (key s : Int) (h : ¬ ((0 ≤ key ∧ key ≤ 2147483646) ∧ 1 ≤ s ∧ s ≤ 4)) (w : World) :
    Calls Try.prog 5 #[.int .i64 key, .int .i64 s] w fun ee w' => ee = .returned (.tuple #[Wv.v zwv, .bool false]) ∧ Below w.heap.size w w' := by
  have hx := (Sg.nil w).lit kW [zwv] 1 rfl (by decide) #[.int .i64 0, .int .i64 0, .int .i64 0, .slice none 0 0, .slice none 0 0, .slice none 0 0] rfl
  replace hx : Sg w (w.alloc (.cells #[.int .i64 0, .int .i64 0, .int .i64 0, .slice none 0 0, .slice none 0 0, .slice none 0 0] 28)) [rG kW (.slice (some ⟨w.heap.size, 0, none⟩) 1 1) [zwv]] := hx
  obtain ⟨z0, z1, z2, z3, z4, z5, zf, zg⟩ := w6 hx (g := w.heap.size) (n := 1) (q := zwv) (by simp)
  simp only [zwv] at z0 z1 z2 z3 z4 z5
  by_cases hs : 0 ≤ key ∧ key ≤ 2147483646
  · have hs2 : s < 1 ∨ 4 < s := by omega
    obtain ⟨k0, k1⟩ := hs
    clear h
    rcases hs2 with hs2 | hs2
    · go_enter Try.func5, Try.ntmps5
      go_wp2_with (go_at_call 11; refine (iSeal_yes k0 k1 _).mono ?_; rintro ee w1 ⟨rfl, rfl⟩)
      exact bodyPost_ret (v := .tuple #[.agg #[.int .i64 0, .int .i64 0, .int .i64 0, .slice none 0 0, .slice none 0 0, .slice none 0 0], .bool false]) (by simp [results, Try.results5, go_sem, z0, z1, z2, z3, z4, z5]) rfl ⟨rfl, hx.bel⟩
    · have hs3 : ¬ s < 1 := by omega
      have hs4 : s > 4 := by omega
      go_enter Try.func5, Try.ntmps5
      go_wp2_with (go_at_call 11; refine (iSeal_yes k0 k1 _).mono ?_; rintro ee w1 ⟨rfl, rfl⟩)
      exact bodyPost_ret (v := .tuple #[.agg #[.int .i64 0, .int .i64 0, .int .i64 0, .slice none 0 0, .slice none 0 0, .slice none 0 0], .bool false]) (by simp [results, Try.results5, go_sem, z0, z1, z2, z3, z4, z5]) rfl ⟨rfl, hx.bel⟩
  · clear h
    go_enter Try.func5, Try.ntmps5
    go_wp2_with (go_at_call 11; refine (iSeal_no hs _).mono ?_; rintro ee w1 ⟨rfl, rfl⟩)
    exact bodyPost_ret (v := .tuple #[.agg #[.int .i64 0, .int .i64 0, .int .i64 0, .slice none 0 0, .slice none 0 0, .slice none 0 0], .bool false]) (by simp [results, Try.results5, go_sem, z0, z1, z2, z3, z4, z5]) rfl ⟨rfl, hx.bel⟩
set_option maxRecDepth 100000 in
set_option maxHeartbeats 1000000 in
theorem sNew_no (key s : Int) (h : ¬ ((0 ≤ key ∧ key ≤ 2147483646) ∧ 1 ≤ s ∧ s ≤ 4)) (w : World) :
    Calls Try.prog 4 #[.int .i64 key, .int .i64 s] w fun ee w' => ee = .returned (.tuple #[Wv.v zwv, .bool false]) ∧ Below w.heap.size w w' := by
  have hx := (Sg.nil w).lit kW [zwv] 1 rfl (by decide) #[.int .i64 0, .int .i64 0, .int .i64 0, .slice none 0 0, .slice none 0 0, .slice none 0 0] rfl
  replace hx : Sg w (w.alloc (.cells #[.int .i64 0, .int .i64 0, .int .i64 0, .slice none 0 0, .slice none 0 0, .slice none 0 0] 28)) [rG kW (.slice (some ⟨w.heap.size, 0, none⟩) 1 1) [zwv]] := hx
  obtain ⟨z0, z1, z2, z3, z4, z5, zf, zg⟩ := w6 hx (g := w.heap.size) (n := 1) (q := zwv) (by simp)
  simp only [zwv] at z0 z1 z2 z3 z4 z5
  by_cases hs : 0 ≤ key ∧ key ≤ 2147483646
  · have hs2 : s < 1 ∨ 4 < s := by omega
    obtain ⟨k0, k1⟩ := hs
    clear h
    have HI1 := Lib.hid (fun W => M.l1In_v (x := key) (a := 0) (b := 2147483646) (v := true) (by unfold M.inB; simp; omega) W)
    have HI2 := Lib.hid (fun W => M.l1In_v (x := s) (a := 1) (b := 4) (v := false) (by unfold M.inB; simp; omega) W)
    have f1 : True := trivial
    clear hs2 k0 k1
    go_enter Try.func4, Try.ntmps4
    go_wp2_with (first
      | (go_at_call 9; clear f1; refine (HI1.out _).mono ?_; rintro ee w1 ⟨rfl, rfl⟩)
      | (go_at_call 9; refine (HI2.out _).mono ?_; rintro ee w2 ⟨rfl, rfl⟩))
    exact bodyPost_ret (v := .tuple #[.agg #[.int .i64 0, .int .i64 0, .int .i64 0, .slice none 0 0, .slice none 0 0, .slice none 0 0], .bool false]) (by simp [results, Try.results4, go_sem, z0, z1, z2, z3, z4, z5]) rfl ⟨rfl, hx.bel⟩
  · clear h
    have HI1 := Lib.hid (fun W => M.l1In_v (x := key) (a := 0) (b := 2147483646) (v := false) (by unfold M.inB; simp; omega) W)
    clear hs
    go_enter Try.func4, Try.ntmps4
    go_wp2_with (go_at_call 9; refine (HI1.out _).mono ?_; rintro ee w1 ⟨rfl, rfl⟩)
    exact bodyPost_ret (v := .tuple #[.agg #[.int .i64 0, .int .i64 0, .int .i64 0, .slice none 0 0, .slice none 0 0, .slice none 0 0], .bool false]) (by simp [results, Try.results4, go_sem, z0, z1, z2, z3, z4, z5]) rfl ⟨rfl, hx.bel⟩
set_option maxRecDepth 100000 in
set_option maxHeartbeats 4000000 in
theorem newLaw (key s kk ke : Int) (km kn : Nat) (kb : Bool) (L : List On) (hL : L.length = km) (hkm : km ≤ 4) (hkn : kn ≤ 4)
    (HI : ∀ W, Calls Try.prog 5 #[.int .i64 key, .int .i64 s] W fun ee w' => ∃ (p : Option Addr) (c : Nat) (q : Option Addr) (d : Nat), ee = .returned (.tuple #[Wv.v ⟨0, kk, ke, p, km, c, q, kn, d⟩, .bool kb]) ∧ Sg W w' [rG kO (.slice p km c) L, rG kZ (.slice q kn d) (List.replicate kn zzs)])
    (HS : ∀ W, Calls Try.prog 4 #[.int .i64 key, .int .i64 s] W fun ee w' => ∃ (p : Option Addr) (c : Nat) (q : Option Addr) (d : Nat), ee = .returned (.tuple #[Wv.v ⟨0, kk, ke, p, km, c, q, kn, d⟩, .bool kb]) ∧ Sg W w' [rG kO (.slice p km c) L, rG kZ (.slice q kn d) (List.replicate kn zzs)]) (w : World) :
    Calls Try.prog 3 #[.int .i64 key, .int .i64 s] w fun ee w' => ee = .returned (.bool true) ∧ Below w.heap.size w w' := by
  have hI := Lib.hid HI
  have hSp := Lib.hid HS
  have hLn : Hid (L.length = km ∧ km ≤ 4 ∧ kn ≤ 4) := ⟨hL, hkm, hkn⟩
  clear HI HS hL hkm hkn
  have hk : ¬ (1 : Int) + 4 * (km : Int) + 2 * (kn : Int) < 0 := by omega
  go_enter Try.func3, Try.ntmps3
  go_upto_region 2 with (go_at_call 4; refine (hSp.out _).mono ?_; rintro ee w1 ⟨p1, c1, q1, d1, rfl, hx⟩)
  replace hx : Sg w (w1.alloc (.cells #[.int .i64 0, .int .i64 kk, .int .i64 ke, .slice p1 km c1, .slice q1 kn d1, .slice none 0 0] 28)) [rG kW (.slice (some ⟨w1.heap.size, 0, none⟩) 1 1) [⟨0, kk, ke, p1, km, c1, q1, kn, d1⟩], rG kO (.slice p1 km c1) (L), rG kZ (.slice q1 kn d1) (List.replicate kn zzs)] := hx.lit kW [⟨0, kk, ke, p1, km, c1, q1, kn, d1⟩] 1 rfl (by decide) #[.int .i64 0, .int .i64 kk, .int .i64 ke, .slice p1 km c1, .slice q1 kn d1, .slice none 0 0] rfl
  generalize w1.heap.size = b5 at *
  generalize (w1.alloc (.cells #[.int .i64 0, .int .i64 kk, .int .i64 ke, .slice p1 km c1, .slice q1 kn d1, .slice none 0 0] 28)) = w2 at *
  go_upto_region 3 with (go_at_call 5; refine (hI.out _).mono ?_; rintro ee w3 ⟨p2, c2, q2, d2, rfl, hS⟩; replace hx := hx.addL hS; clear hS)
  replace hx : Sg w (w3.alloc (.cells #[.int .i64 0, .int .i64 kk, .int .i64 ke, .slice p2 km c2, .slice q2 kn d2, .slice none 0 0] 28)) [rG kW (.slice (some ⟨w3.heap.size, 0, none⟩) 1 1) [⟨0, kk, ke, p2, km, c2, q2, kn, d2⟩], rG kO (.slice p2 km c2) (L), rG kZ (.slice q2 kn d2) (List.replicate kn zzs), rG kW (.slice (some ⟨b5, 0, none⟩) 1 1) [⟨0, kk, ke, p1, km, c1, q1, kn, d1⟩], rG kO (.slice p1 km c1) (L), rG kZ (.slice q1 kn d1) (List.replicate kn zzs)] := hx.lit kW [⟨0, kk, ke, p2, km, c2, q2, kn, d2⟩] 1 rfl (by decide) #[.int .i64 0, .int .i64 kk, .int .i64 ke, .slice p2 km c2, .slice q2 kn d2, .slice none 0 0] rfl
  generalize w3.heap.size = b7 at *
  generalize (w3.alloc (.cells #[.int .i64 0, .int .i64 kk, .int .i64 ke, .slice p2 km c2, .slice q2 kn d2, .slice none 0 0] 28)) = w4 at *
  obtain ⟨y0, y1, y2, y3, y4, y5, _, _⟩ := w6 hx (g := b5) (n := 1) (q := ⟨0, kk, ke, p1, km, c1, q1, kn, d1⟩) (by simp)
  obtain ⟨z0, z1, z2, z3, z4, z5, _, _⟩ := w6 hx (g := b7) (n := 1) (q := ⟨0, kk, ke, p2, km, c2, q2, kn, d2⟩) (by simp)
  go_upto_region 5 with (go_at_call 6; refine (eqWorld_same 0 kk ke p2 p1 q2 q1 km c2 c1 kn d2 d1 L (List.replicate kn zzs) hLn.out.1 (by simp) _ (OwG.sl (hx.mem (K := kO) (v := .slice p2 km c2) (L := L) (by simp))) (OwG.sl (hx.mem (K := kO) (v := .slice p1 km c1) (L := L) (by simp))) (OwG.sl (hx.mem (K := kZ) (v := .slice q2 kn d2) (L := List.replicate kn zzs) (by simp))) (OwG.sl (hx.mem (K := kZ) (v := .slice q1 kn d1) (L := List.replicate kn zzs) (by simp))) (by have := hLn.out; omega) (by have := hLn.out; omega)).mono ?_; rintro ee w5 ⟨rfl, hb1⟩; replace hx := hx.step hb1; clear hb1)
  clear y0 y1 y2 y3 y4 y5 z0 z1 z2 z3 z4 z5
  obtain ⟨z0, z1, z2, z3, z4, z5, _, _⟩ := w6 hx (g := b7) (n := 1) (q := ⟨0, kk, ke, p2, km, c2, q2, kn, d2⟩) (by simp)
  go_upto_region 7 with (go_at_call 7; refine (markWorld_any 0 kk ke p2 q2 km c2 kn d2 L (List.replicate kn zzs) [rG kW (.slice (some ⟨b7, 0, none⟩) 1 1) [⟨0, kk, ke, p2, km, c2, q2, kn, d2⟩]] [rG kW (.slice (some ⟨b5, 0, none⟩) 1 1) [⟨0, kk, ke, p1, km, c1, q1, kn, d1⟩], rG kO (.slice p1 km c1) (L), rG kZ (.slice q1 kn d1) (List.replicate kn zzs)] w _ hx (by have := hLn.out; omega) (by have := hLn.out; omega)).mono ?_; rintro ee v6 ⟨rfl, hx2⟩; clear hx; have hx := hx2; clear hx2 z0 z1 z2 z3 z4 z5)
  replace hx : Sg w v6 [rG kW (.slice (some ⟨b7, 0, none⟩) 1 1) [⟨0, kk, ke, p2, km, c2, q2, kn, d2⟩], rG kO (.slice p2 km c2) (mkOs 1 km), rG kZ (.slice q2 kn d2) (mkZs (1 + 4 * km) kn), rG kW (.slice (some ⟨b5, 0, none⟩) 1 1) [⟨0, kk, ke, p1, km, c1, q1, kn, d1⟩], rG kO (.slice p1 km c1) (L), rG kZ (.slice q1 kn d1) (List.replicate kn zzs)] := hx
  obtain ⟨z0, z1, z2, z3, z4, z5, _, _⟩ := w6 hx (g := b7) (n := 1) (q := ⟨0, kk, ke, p2, km, c2, q2, kn, d2⟩) (by simp)
  go_upto_region 9 with (go_at_call 8; refine (heldWorld_any 0 kk ke p2 q2 km c2 kn d2 _ (OwG.sl (hx.mem (K := kO) (v := .slice p2 km c2) (L := mkOs 1 km) (by simp))) (OwG.sl (hx.mem (K := kZ) (v := .slice q2 kn d2) (L := mkZs (1 + 4 * km) kn) (by simp))) (by have := hLn.out; omega) (by have := hLn.out; omega)).mono ?_; rintro ee w7 ⟨rfl, hb1⟩; replace hx := hx.step hb1; clear hb1)
  clear z0 z1 z2 z3 z4 z5
  go_upto_region 14 with (go_at_call 5; refine (hI.out _).mono ?_; rintro ee w8 ⟨p3, c3, q3, d3, rfl, hS⟩; replace hx := hx.addL hS; clear hS)
  replace hx : Sg w (w8.alloc (.cells #[.int .i64 0, .int .i64 kk, .int .i64 ke, .slice p3 km c3, .slice q3 kn d3, .slice none 0 0] 28)) [rG kW (.slice (some ⟨w8.heap.size, 0, none⟩) 1 1) [⟨0, kk, ke, p3, km, c3, q3, kn, d3⟩], rG kO (.slice p3 km c3) (L), rG kZ (.slice q3 kn d3) (List.replicate kn zzs), rG kW (.slice (some ⟨b7, 0, none⟩) 1 1) [⟨0, kk, ke, p2, km, c2, q2, kn, d2⟩], rG kO (.slice p2 km c2) (mkOs 1 km), rG kZ (.slice q2 kn d2) (mkZs (1 + 4 * km) kn), rG kW (.slice (some ⟨b5, 0, none⟩) 1 1) [⟨0, kk, ke, p1, km, c1, q1, kn, d1⟩], rG kO (.slice p1 km c1) (L), rG kZ (.slice q1 kn d1) (List.replicate kn zzs)] := hx.lit kW [⟨0, kk, ke, p3, km, c3, q3, kn, d3⟩] 1 rfl (by decide) #[.int .i64 0, .int .i64 kk, .int .i64 ke, .slice p3 km c3, .slice q3 kn d3, .slice none 0 0] rfl
  generalize w8.heap.size = b11 at *
  generalize (w8.alloc (.cells #[.int .i64 0, .int .i64 kk, .int .i64 ke, .slice p3 km c3, .slice q3 kn d3, .slice none 0 0] 28)) = w9 at *
  obtain ⟨y0, y1, y2, y3, y4, y5, _, _⟩ := w6 hx (g := b5) (n := 1) (q := ⟨0, kk, ke, p1, km, c1, q1, kn, d1⟩) (by simp)
  obtain ⟨z0, z1, z2, z3, z4, z5, _, _⟩ := w6 hx (g := b11) (n := 1) (q := ⟨0, kk, ke, p3, km, c3, q3, kn, d3⟩) (by simp)
  go_upto_region 16 with (go_at_call 6; refine (eqWorld_same 0 kk ke p3 p1 q3 q1 km c3 c1 kn d3 d1 L (List.replicate kn zzs) hLn.out.1 (by simp) _ (OwG.sl (hx.mem (K := kO) (v := .slice p3 km c3) (L := L) (by simp))) (OwG.sl (hx.mem (K := kO) (v := .slice p1 km c1) (L := L) (by simp))) (OwG.sl (hx.mem (K := kZ) (v := .slice q3 kn d3) (L := List.replicate kn zzs) (by simp))) (OwG.sl (hx.mem (K := kZ) (v := .slice q1 kn d1) (L := List.replicate kn zzs) (by simp))) (by have := hLn.out; omega) (by have := hLn.out; omega)).mono ?_; rintro ee w10 ⟨rfl, hb1⟩; replace hx := hx.step hb1; clear hb1)
  clear y0 y1 y2 y3 y4 y5 z0 z1 z2 z3 z4 z5
  obtain ⟨z0, z1, z2, z3, z4, z5, _, _⟩ := w6 hx (g := b7) (n := 1) (q := ⟨0, kk, ke, p2, km, c2, q2, kn, d2⟩) (by simp)
  go_wp2_with (go_at_call 8; refine (heldWorld_any 0 kk ke p2 q2 km c2 kn d2 _ (OwG.sl (hx.mem (K := kO) (v := .slice p2 km c2) (L := mkOs 1 km) (by simp))) (OwG.sl (hx.mem (K := kZ) (v := .slice q2 kn d2) (L := mkZs (1 + 4 * km) kn) (by simp))) (by have := hLn.out; omega) (by have := hLn.out; omega)).mono ?_; rintro ee w11 ⟨rfl, hb1⟩; replace hx := hx.step hb1; clear hb1)
  go_ret
  exact ⟨rfl, hx.bel⟩
theorem sg_none2 {w w' : World} (hb : Below w.heap.size w w') : Sg w w' [rG kO (.slice none 0 0) [], rG kZ (.slice none 0 0) (List.replicate 0 zzs)] := by
  refine ⟨hb, fun r hr => ?_, ?_⟩
  · simp at hr
    rcases hr with rfl | rfl
    · exact ⟨rfl, .inl ⟨rfl, rfl⟩⟩
    · exact ⟨rfl, .inl ⟨rfl, rfl⟩⟩
  · simp [rG, Value.ownBlock]
theorem fnExactNewWorld (key s : Int) (w : World) : Calls Try.prog 3 #[.int .i64 key, .int .i64 s] w fun ee w' => ee = .returned (.bool true) ∧ Below w.heap.size w w' := by
  by_cases h : (0 ≤ key ∧ key ≤ 2147483646) ∧ 1 ≤ s ∧ s ≤ 4
  · obtain ⟨n, rfl⟩ : ∃ n : Nat, s = n := ⟨s.toNat, by omega⟩
    exact newLaw key n key 1 4 n true (owN n 4) (owN_len n 4) (by omega) (by omega)
      (fun W => (iNew_any key n (by omega) (by omega) h.1.1 h.1.2 W).mono fun _ _ ⟨p, c, g, h1, h2⟩ => ⟨p, c, _, n, h1, h2⟩)
      (fun W => (sNew_any key n (by omega) (by omega) h.1.1 h.1.2 W).mono fun _ _ ⟨p, c, g, h1, h2⟩ => ⟨p, c, _, n, h1, h2⟩) w
  · exact newLaw key s 0 0 0 0 false [] rfl (by omega) (by omega)
      (fun W => (iNew_no key s h W).mono fun _ _ ⟨h1, h2⟩ => ⟨none, 0, none, 0, h1, sg_none2 h2⟩)
      (fun W => (sNew_no key s h W).mono fun _ _ ⟨h1, h2⟩ => ⟨none, 0, none, 0, h1, sg_none2 h2⟩) w
end Go.Proofs.Ytmfbkbifoehoeaa.K.D
