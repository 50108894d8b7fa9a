/-
  The law FnDirectories walked.
-/
import Derived.Test.YtamnmakegdnblaaKDG
import Derived.Test.YtamnmakegdnblaaKFq
namespace Go.Proofs.Ytamnmakegdnblaa.K.D
open Go.Shelf Go.RowKit Go.Joins
attribute [local go_sem] Oper.semAt_some

theorem sp_len {e : Int} {L : List On} {l x y : Int} (h : splB e L l x y = true) : splE e L l x y = e + 1 ∧ (splL e L l x y).length = L.length + 3 := by
  have h2 := h
  unfold splB at h2
  simp only [Bool.and_eq_true, decide_eq_true_eq, Bool.not_eq_true', decide_eq_false_iff_not] at h2
  obtain ⟨hd, hp, -⟩ := h2
  unfold splE splL
  rw [hd, h]
  simp [quL_len]
  omega
theorem gi_len {e : Int} {L : List On} {l x y s : Int} (h : givB e L l x y s = true) : givE e L l x y s = e + 1 := by
  have h2 := h
  unfold givB at h2
  simp only [Bool.and_eq_true] at h2
  unfold givE
  rw [h2.1, h]; rfl
theorem wr_n {n : Nat} (h : n ≤ 64) : wrap64 ((n : Int) + 3) = n + 3 := by unfold wrap64; omega
theorem len_in3 {w : World} {f : Nat} {args : Array Value} {E E' : Int} {b b' : Bool} {L L' : List On} {m0 : Nat} (he : E = E') (hb : b = b') (hL : L = L') (hm : L'.length = m0) (h : Calls Try.prog f args w fun ee w' => ∃ q m c', ee = .returned (.tuple #[Dv.v ⟨E, q, m, c'⟩, .bool b]) ∧ Sg w w' [rG kO (.slice q m c') L]) : Calls Try.prog f args w fun ee w' => ∃ q c', ee = .returned (.tuple #[Dv.v ⟨E', q, m0, c'⟩, .bool b']) ∧ Sg w w' [rG kO (.slice q m0 c') L'] := by
  subst he hb hL hm
  exact len_in h
set_option maxRecDepth 100000 in
set_option maxHeartbeats 8000000 in
theorem fnDirectories (a : Option Addr) (len cap : Nat) (zs : List Int) (w : World) (hr : M.Rd w w.heap.size a len zs) :
    Calls Try.prog 3 #[.slice a len cap] w fun ee w' => ee = .returned (.bool true) ∧ Below w.heap.size w w' := by
  by_cases hbig : 4096 < len
  · have hbi : decide (4096 < (len : Int)) = true := decide_eq_true (by omega)
    have HB := Lib.hid (fun W => M.big_any a len cap W)
    rw [hbi] at HB
    clear hr hbi hbig
    go_enter Try.func3, Try.ntmps3
    go_wp2_with (go_at_call 9; refine (HB.out _).mono ?_; rintro ee w1 ⟨rfl, rfl⟩)
    go_ret
    exact ⟨rfl, Below.refl _ _⟩
  · have hl : len ≤ 4096 := by omega
    have hbi : decide (4096 < (len : Int)) = false := decide_eq_false (by omega)
    have HB := Lib.hid (fun W => M.big_any a len cap W)
    rw [hbi] at HB
    have HD1 := Lib.hid (fun W rs (h : Sg w W rs) => drawSplit_any (cap := cap) h hl hr)
    have HD2 := Lib.hid (fun W rs (h : Sg w W rs) => drawGiven_any (cap := cap) h hl hr)
    have HD3 := Lib.hid (fun W rs (h : Sg w W rs) => drawShardOf_any (cap := cap) h hl hr)
    have HRd := Lib.hid hr
    have HLen := Lib.hid hl
    have hx := Sg.nil w
    clear hr hl hbi hbig
    go_enter Try.func3, Try.ntmps3
    go_upto_region 4 with (first
      | (go_at_call 9; refine (HB.out _).mono ?_; rintro ee w0 ⟨rfl, rfl⟩)
      | (go_at_call 10; refine (HD1.out _ _ hx).mono ?_; rintro ee w1 ⟨e, q, n, c, L, r1, l, x, y, rfl, D1, hx1⟩))
    clear hx HD1 HB
    replace hx1 := (hx1.lit kD [⟨e, q, n, c⟩] 1 rfl (by decide) #[.int .i64 e, .slice q n c] rfl).lit kC [(l, x, y)] 1 rfl (by decide) #[.int .i64 l, .int .i64 x, .int .i64 y] rfl
    simp only [World.size_alloc] at hx1
    replace hx1 : Sg w ((w1.alloc (.cells #[.int .i64 e, .slice q n c] 26)).alloc (.cells #[.int .i64 l, .int .i64 x, .int .i64 y] 28)) [rG kC (.slice (some ⟨w1.heap.size + 1, 0, none⟩) 1 1) [(l, x, y)], rG kD (.slice (some ⟨w1.heap.size, 0, none⟩) 1 1) [⟨e, q, n, c⟩], r1] := hx1
    generalize hb3 : w1.heap.size = b3 at *
    generalize hb4 : b3 + 1 = b4 at *
    generalize ((w1.alloc (.cells #[.int .i64 e, .slice q n c] 26)).alloc (.cells #[.int .i64 l, .int .i64 x, .int .i64 y] 28)) = w2 at *
    clear hb3 hb4
    obtain ⟨L2, hL2⟩ : ∃ X, splL e L l x y = X := ⟨_, rfl⟩
    obtain ⟨E2, hE2⟩ : ∃ X, splE e L l x y = X := ⟨_, rfl⟩
    obtain ⟨sb, hsb⟩ : ∃ X, splB e L l x y = X := ⟨_, rfl⟩
    obtain ⟨N2, hN2⟩ : ∃ X, L2.length = X := ⟨_, rfl⟩
    have hN64 : N2 ≤ 64 := by rw [← hN2, ← hL2]; exact splL_len ..
    have HX : Hid (sb = true → dirB E2 L2 = true ∧ E2 = e + 1 ∧ N2 = n + 3 ∧ (1 ≤ e ∧ e ≤ 100000) ∧ ∀ s t, shO E2 L2 s t = shO e L s t) := fun h => by
      rw [← hsb] at h
      obtain ⟨p1, p2⟩ := sp_len h
      rw [hE2] at p1
      rw [hL2, hN2, D1.len] at p2
      have p3 := spl_dir h
      have p4 : ∀ s t, shO (splE e L l x y) (splL e L l x y) s t = shO e L s t := fun s t => split_shO h
      rw [hE2, hL2] at p3 p4
      refine ⟨p3, p1, p2, dir_e (L := L) ?_, p4⟩
      unfold splB at h
      exact (Bool.and_eq_true_iff.mp h).1
    have HSi : Hid (∀ W rs, Sg w W rs → r1 ∈ rs → Calls Try.prog 11 #[Dv.v ⟨e, q, n, c⟩, .agg #[.int .i64 l, .int .i64 x, .int .i64 y]] W fun ee w' => ∃ q' c', ee = .returned (.tuple #[Dv.v ⟨E2, q', N2, c'⟩, .bool sb]) ∧ Sg W w' [rG kO (.slice q' N2 c') L2]) := fun W rs h hm => len_in3 hE2 hsb hL2 hN2 (iSplit_any e q n c L D1.len l x y W (D1.rd _ _ _ h hm) D1.nc D1.ok (by have := D1.n64; omega))
    have HSs : Hid (∀ W rs, Sg w W rs → r1 ∈ rs → Calls Try.prog 15 #[Dv.v ⟨e, q, n, c⟩, .agg #[.int .i64 l, .int .i64 x, .int .i64 y]] W fun ee w' => ∃ q' c', ee = .returned (.tuple #[Dv.v ⟨E2, q', N2, c'⟩, .bool sb]) ∧ Sg W w' [rG kO (.slice q' N2 c') L2]) := fun W rs h hm => len_in3 hE2 hsb hL2 hN2 (sSplit_any e q n c L D1.len l x y W (D1.rd _ _ _ h hm) D1.nc D1.ok)
    have HE2 : Hid (∀ W q q' c c', SlG kO W q L2 → SlG kO W q' L2 → Calls Try.prog 16 #[Dv.v ⟨E2, q, N2, c⟩, Dv.v ⟨E2, q', N2, c'⟩] W fun ee w' => ee = .returned (.bool true) ∧ Below W.heap.size W w') := fun W q q' c c' h1 h2 => like_same E2 _ _ c c' L2 N2 hN2 W h1 h2 (by omega)
    have HOx : Hid (sb = true → ∀ W q c, SlG kO W q L2 → Calls Try.prog 17 #[Dv.v ⟨E2, q, N2, c⟩] W fun ee w' => ee = .returned (.bool true) ∧ Below W.heap.size W w') := fun h W q c hq => by
      have := iDirectoryOk_any E2 q N2 c L2 hN2 W hq (by omega)
      rwa [(HX.out h).1] at this
    have HSx : Hid (sb = true → ∀ W q c s t, SlG kO W q L2 → Calls Try.prog 19 #[Dv.v ⟨E2, q, N2, c⟩, .agg #[.int .i64 s, .int .i64 t]] W fun ee w' => ee = .returned (.int .i64 (shO e L s t)) ∧ Below W.heap.size W w') := fun h W q c s t hq => by
      have := iShardOf_any E2 q N2 c L2 hN2 s t W hq (by omega)
      rwa [(HX.out h).2.2.2.2 s t] at this
    obtain ⟨bd, hbd⟩ : ∃ X, dirB e L = X := ⟨_, rfl⟩
    have HOi : Hid (∀ W rs, Sg w W rs → r1 ∈ rs → Calls Try.prog 17 #[Dv.v ⟨e, q, n, c⟩] W fun ee w' => ee = .returned (.bool bd) ∧ Below W.heap.size W w') := fun W rs h hm => hbd ▸ iDirectoryOk_any e q n c L D1.len W (D1.rd _ _ _ h hm) (by have := D1.n64; omega)
    have HOs : Hid (∀ W rs, Sg w W rs → r1 ∈ rs → Calls Try.prog 18 #[Dv.v ⟨e, q, n, c⟩] W fun ee w' => ee = .returned (.bool bd) ∧ Below W.heap.size W w') := fun W rs h hm => hbd ▸ sDirectoryOk_any e q n c L D1.len W (D1.rd _ _ _ h hm) D1.nc
    have HSd : Hid (∀ W rs s t, Sg w W rs → r1 ∈ rs → Calls Try.prog 19 #[Dv.v ⟨e, q, n, c⟩, .agg #[.int .i64 s, .int .i64 t]] W fun ee w' => ee = .returned (.int .i64 (shO e L s t)) ∧ Below W.heap.size W w') := fun W rs s t h hm => iShardOf_any e q n c L D1.len s t W (D1.rd _ _ _ h hm) (by have := D1.n64; omega)
    have HD1n : Hid (L.length = n ∧ n ≤ 64) := ⟨D1.len, D1.n64⟩
    clear hL2 hE2 hsb hN2 hbd D1
    obtain ⟨y0, y1, _, _⟩ := dv2 hx1 (K := kD) (g := b3) (n := 1) (q := ⟨e, q, n, c⟩) (by simp) rfl
    obtain ⟨z0, z1, z2⟩ := c3 hx1 (g := b4) (n := 1) (a := (l, x, y)) (by simp)
    dsimp only at y0 y1 z0 z1 z2
    go_upto_region 5 with (go_at_call 11; refine (HSi.out _ _ hx1 (by simp)).mono ?_; rintro ee w3 ⟨q5, c5, rfl, hS⟩; replace hx1 := hx1.addL hS; clear hS y0 y1 z0 z1 z2)
    replace hx1 : Sg w (w3.alloc (.cells #[.int .i64 E2, .slice q5 N2 c5] 26)) [rG kD (.slice (some ⟨w3.heap.size, 0, none⟩) 1 1) [⟨E2, q5, N2, c5⟩], rG kO (.slice q5 N2 c5) L2, rG kC (.slice (some ⟨b4, 0, none⟩) 1 1) [(l, x, y)], rG kD (.slice (some ⟨b3, 0, none⟩) 1 1) [⟨e, q, n, c⟩], r1] := hx1.lit kD [⟨E2, q5, N2, c5⟩] 1 rfl (by decide) #[.int .i64 E2, .slice q5 N2 c5] rfl
    generalize w3.heap.size = b5 at *
    generalize (w3.alloc (.cells #[.int .i64 E2, .slice q5 N2 c5] 26)) = w4 at *
    go_upto_region 6 with (go_at_call 12; refine (HD2.out _ _ hx1).mono ?_; rintro ee w5 ⟨ge, gq, gn, gc, gL, r2, gl, gx, gy, gs, rfl, D2, hx5⟩; clear hx1)
    clear HD2
    replace hx5 := (hx5.lit kD [⟨ge, gq, gn, gc⟩] 1 rfl (by decide) #[.int .i64 ge, .slice gq gn gc] rfl).lit kC [(gl, gx, gy)] 1 rfl (by decide) #[.int .i64 gl, .int .i64 gx, .int .i64 gy] rfl
    simp only [World.size_alloc] at hx5
    replace hx5 : Sg w ((w5.alloc (.cells #[.int .i64 ge, .slice gq gn gc] 26)).alloc (.cells #[.int .i64 gl, .int .i64 gx, .int .i64 gy] 28)) [rG kC (.slice (some ⟨w5.heap.size + 1, 0, none⟩) 1 1) [(gl, gx, gy)], rG kD (.slice (some ⟨w5.heap.size, 0, none⟩) 1 1) [⟨ge, gq, gn, gc⟩], r2, rG kD (.slice (some ⟨b5, 0, none⟩) 1 1) [⟨E2, q5, N2, c5⟩], rG kO (.slice q5 N2 c5) L2, rG kC (.slice (some ⟨b4, 0, none⟩) 1 1) [(l, x, y)], rG kD (.slice (some ⟨b3, 0, none⟩) 1 1) [⟨e, q, n, c⟩], r1] := hx5
    generalize hb7 : w5.heap.size = b7 at *
    generalize hb8 : b7 + 1 = b8 at *
    generalize ((w5.alloc (.cells #[.int .i64 ge, .slice gq gn gc] 26)).alloc (.cells #[.int .i64 gl, .int .i64 gx, .int .i64 gy] 28)) = w6 at *
    clear hb7 hb8
    obtain ⟨K2, hK2⟩ : ∃ X, givL ge gL gl gx gy gs = X := ⟨_, rfl⟩
    obtain ⟨G2, hG2⟩ : ∃ X, givE ge gL gl gx gy gs = X := ⟨_, rfl⟩
    obtain ⟨gb, hgb⟩ : ∃ X, givB ge gL gl gx gy gs = X := ⟨_, rfl⟩
    obtain ⟨M2, hM2⟩ : ∃ X, K2.length = X := ⟨_, rfl⟩
    have hM64 : M2 ≤ 64 := by rw [← hM2, ← hK2]; exact givL_len ..
    have HG : Hid (gb = true → dirB G2 K2 = true ∧ G2 = ge + 1 ∧ (1 ≤ ge ∧ ge ≤ 100000) ∧ M.cellB gl gx gy = true ∧ ∀ s t, M.spB s t = true → shO G2 K2 s t = if holdO ⟨gl, gx, gy, 0⟩ s t then gs else shO ge gL s t) := fun h => by
      rw [← hgb] at h
      have p1 := gi_len h
      rw [hG2] at p1
      have p3 := giv_dir h
      have p4 : ∀ s t, M.spB s t = true → shO (givE ge gL gl gx gy gs) (givL ge gL gl gx gy gs) s t = if holdO ⟨gl, gx, gy, 0⟩ s t then gs else shO ge gL s t := fun s t hs => given_shO h hs
      rw [hG2, hK2] at p3 p4
      have h2 := h
      unfold givB at h2
      simp only [Bool.and_eq_true, decide_eq_true_eq] at h2
      obtain ⟨hd, hp, -⟩ := h2
      obtain ⟨u1, u2, u3⟩ := posO_eq gl gx gy gL hp
      have ho := onB_ok ((dir_on hd).2 _ (List.mem_of_getElem? (getO hp)))
      have hc : M.cellB (gL.getD (posO gl gx gy gL) zon).l (gL.getD (posO gl gx gy gL) zon).x (gL.getD (posO gl gx gy gL) zon).y = true := ho
      rw [u1, u2, u3] at hc
      exact ⟨p3, p1, dir_e hd, hc, p4⟩
    have HGi : Hid (∀ W rs, Sg w W rs → r2 ∈ rs → Calls Try.prog 13 #[Dv.v ⟨ge, gq, gn, gc⟩, .agg #[.int .i64 gl, .int .i64 gx, .int .i64 gy], .int .i64 gs] W fun ee w' => ∃ q' c', ee = .returned (.tuple #[Dv.v ⟨G2, q', M2, c'⟩, .bool gb]) ∧ Sg W w' [rG kO (.slice q' M2 c') K2]) := fun W rs h hm => len_in3 hG2 hgb hK2 hM2 (iGiven_any ge gq gn gc gL D2.len gl gx gy gs W (D2.rd _ _ _ h hm) D2.nc D2.ok (by have := D2.n64; omega))
    have HGs : Hid (∀ W rs, Sg w W rs → r2 ∈ rs → Calls Try.prog 23 #[Dv.v ⟨ge, gq, gn, gc⟩, .agg #[.int .i64 gl, .int .i64 gx, .int .i64 gy], .int .i64 gs] W fun ee w' => ∃ q' c', ee = .returned (.tuple #[Dv.v ⟨G2, q', M2, c'⟩, .bool gb]) ∧ Sg W w' [rG kO (.slice q' M2 c') K2]) := fun W rs h hm => len_in3 hG2 hgb hK2 hM2 (sGiven_any ge gq gn gc gL D2.len gl gx gy gs W (D2.rd _ _ _ h hm) D2.nc D2.ok)
    have HGE : Hid (∀ W q q' c c', SlG kO W q K2 → SlG kO W q' K2 → Calls Try.prog 16 #[Dv.v ⟨G2, q, M2, c⟩, Dv.v ⟨G2, q', M2, c'⟩] W fun ee w' => ee = .returned (.bool true) ∧ Below W.heap.size W w') := fun W q q' c c' h1 h2 => like_same G2 _ _ c c' K2 M2 hM2 W h1 h2 (by omega)
    have HGo : Hid (gb = true → ∀ W q c, SlG kO W q K2 → Calls Try.prog 17 #[Dv.v ⟨G2, q, M2, c⟩] W fun ee w' => ee = .returned (.bool true) ∧ Below W.heap.size W w') := fun h W q c hq => by
      have := iDirectoryOk_any G2 q M2 c K2 hM2 W hq (by omega)
      rwa [(HG.out h).1] at this
    have HGx : Hid (gb = true → ∀ W q c s t, M.spB s t = true → SlG kO W q K2 → Calls Try.prog 19 #[Dv.v ⟨G2, q, M2, c⟩, .agg #[.int .i64 s, .int .i64 t]] W fun ee w' => ee = .returned (.int .i64 (if holdO ⟨gl, gx, gy, 0⟩ s t then gs else shO ge gL s t)) ∧ Below W.heap.size W w') := fun h W q c s t hs hq => by
      have := iShardOf_any G2 q M2 c K2 hM2 s t W hq (by omega)
      rwa [(HG.out h).2.2.2.2 s t hs] at this
    have HGd : Hid (∀ W rs s t, Sg w W rs → r2 ∈ rs → Calls Try.prog 19 #[Dv.v ⟨ge, gq, gn, gc⟩, .agg #[.int .i64 s, .int .i64 t]] W fun ee w' => ee = .returned (.int .i64 (shO ge gL s t)) ∧ Below W.heap.size W w') := fun W rs s t h hm => iShardOf_any ge gq gn gc gL D2.len s t W (D2.rd _ _ _ h hm) (by have := D2.n64; omega)
    clear hK2 hG2 hgb hM2 D2
    obtain ⟨y0, y1, _, _⟩ := dv2 hx5 (K := kD) (g := b7) (n := 1) (q := ⟨ge, gq, gn, gc⟩) (by simp) rfl
    obtain ⟨z0, z1, z2⟩ := c3 hx5 (g := b8) (n := 1) (a := (gl, gx, gy)) (by simp)
    dsimp only at y0 y1 z0 z1 z2
    go_upto_region 7 with (go_at_call 13; refine (HGi.out _ _ hx5 (by simp)).mono ?_; rintro ee w7 ⟨q10, c10, rfl, hS⟩; replace hx5 := hx5.addL hS; clear hS y0 y1 z0 z1 z2)
    replace hx5 : Sg w (w7.alloc (.cells #[.int .i64 G2, .slice q10 M2 c10] 26)) [rG kD (.slice (some ⟨w7.heap.size, 0, none⟩) 1 1) [⟨G2, q10, M2, c10⟩], rG kO (.slice q10 M2 c10) K2, rG kC (.slice (some ⟨b8, 0, none⟩) 1 1) [(gl, gx, gy)], rG kD (.slice (some ⟨b7, 0, none⟩) 1 1) [⟨ge, gq, gn, gc⟩], r2, rG kD (.slice (some ⟨b5, 0, none⟩) 1 1) [⟨E2, q5, N2, c5⟩], rG kO (.slice q5 N2 c5) L2, rG kC (.slice (some ⟨b4, 0, none⟩) 1 1) [(l, x, y)], rG kD (.slice (some ⟨b3, 0, none⟩) 1 1) [⟨e, q, n, c⟩], r1] := hx5.lit kD [⟨G2, q10, M2, c10⟩] 1 rfl (by decide) #[.int .i64 G2, .slice q10 M2 c10] rfl
    generalize w7.heap.size = b10 at *
    generalize (w7.alloc (.cells #[.int .i64 G2, .slice q10 M2 c10] 26)) = w8 at *
    go_upto_region 8 with (go_at_call 14; refine (HD3.out _ _ hx5).mono ?_; rintro ee w9 ⟨oe, oq, on, oc, oL, r3, os, ot, rfl, D3, hx9⟩; clear hx5)
    clear HD3
    replace hx9 := (hx9.lit kD [⟨oe, oq, on, oc⟩] 1 rfl (by decide) #[.int .i64 oe, .slice oq on oc] rfl).lit kSp [(os, ot)] 1 rfl (by decide) #[.int .i64 os, .int .i64 ot] rfl
    simp only [World.size_alloc] at hx9
    replace hx9 : Sg w ((w9.alloc (.cells #[.int .i64 oe, .slice oq on oc] 26)).alloc (.cells #[.int .i64 os, .int .i64 ot] 37)) [rG kSp (.slice (some ⟨w9.heap.size + 1, 0, none⟩) 1 1) [(os, ot)], rG kD (.slice (some ⟨w9.heap.size, 0, none⟩) 1 1) [⟨oe, oq, on, oc⟩], r3, rG kD (.slice (some ⟨b10, 0, none⟩) 1 1) [⟨G2, q10, M2, c10⟩], rG kO (.slice q10 M2 c10) K2, rG kC (.slice (some ⟨b8, 0, none⟩) 1 1) [(gl, gx, gy)], rG kD (.slice (some ⟨b7, 0, none⟩) 1 1) [⟨ge, gq, gn, gc⟩], r2, rG kD (.slice (some ⟨b5, 0, none⟩) 1 1) [⟨E2, q5, N2, c5⟩], rG kO (.slice q5 N2 c5) L2, rG kC (.slice (some ⟨b4, 0, none⟩) 1 1) [(l, x, y)], rG kD (.slice (some ⟨b3, 0, none⟩) 1 1) [⟨e, q, n, c⟩], r1] := hx9
    generalize hb12 : w9.heap.size = b12 at *
    generalize hb13 : b12 + 1 = b13 at *
    generalize ((w9.alloc (.cells #[.int .i64 oe, .slice oq on oc] 26)).alloc (.cells #[.int .i64 os, .int .i64 ot] 37)) = w10 at *
    clear hb12 hb13
    obtain ⟨so, hso⟩ : ∃ X, shO oe oL os ot = X := ⟨_, rfl⟩
    have HOa : Hid (∀ W rs, Sg w W rs → r3 ∈ rs → Calls Try.prog 19 #[Dv.v ⟨oe, oq, on, oc⟩, .agg #[.int .i64 os, .int .i64 ot]] W fun ee w' => ee = .returned (.int .i64 so) ∧ Below W.heap.size W w') := fun W rs h hm => hso ▸ iShardOf_any oe oq on oc oL D3.len os ot W (D3.rd _ _ _ h hm) (by have := D3.n64; omega)
    have HOb : Hid (∀ W rs, Sg w W rs → r3 ∈ rs → Calls Try.prog 20 #[Dv.v ⟨oe, oq, on, oc⟩, .agg #[.int .i64 os, .int .i64 ot]] W fun ee w' => ee = .returned (.int .i64 so) ∧ Below W.heap.size W w') := fun W rs h hm => hso ▸ sShardOf_any oe oq on oc oL D3.len os ot W (D3.rd _ _ _ h hm) D3.nc
    obtain ⟨bo, hbo⟩ : ∃ X, dirB oe oL = X := ⟨_, rfl⟩
    have HOc : Hid (∀ W rs, Sg w W rs → r3 ∈ rs → Calls Try.prog 18 #[Dv.v ⟨oe, oq, on, oc⟩] W fun ee w' => ee = .returned (.bool bo) ∧ Below W.heap.size W w') := fun W rs h hm => hbo ▸ sDirectoryOk_any oe oq on oc oL D3.len W (D3.rd _ _ _ h hm) D3.nc
    have HOn : Hid (bo = true → M.spB os ot = true → 0 ≤ so) := fun h1 h2 => by rw [← hso]; exact shO_nn (by rw [hbo]; exact h1) h2
    clear hso hbo D3
    obtain ⟨y0, y1, _, _⟩ := dv2 hx9 (K := kD) (g := b3) (n := 1) (q := ⟨e, q, n, c⟩) (by simp) rfl
    obtain ⟨z0, z1, z2⟩ := c3 hx9 (g := b4) (n := 1) (a := (l, x, y)) (by simp)
    dsimp only at y0 y1 z0 z1 z2
    go_upto_region 9 with (go_at_call 15; refine (HSs.out _ _ hx9 (by simp)).mono ?_; rintro ee w11 ⟨q14, c14, rfl, hS⟩; replace hx9 := hx9.addL hS; clear hS y0 y1 z0 z1 z2)
    replace hx9 : Sg w (w11.alloc (.cells #[.int .i64 E2, .slice q14 N2 c14] 26)) [rG kD (.slice (some ⟨w11.heap.size, 0, none⟩) 1 1) [⟨E2, q14, N2, c14⟩], rG kO (.slice q14 N2 c14) L2, rG kSp (.slice (some ⟨b13, 0, none⟩) 1 1) [(os, ot)], rG kD (.slice (some ⟨b12, 0, none⟩) 1 1) [⟨oe, oq, on, oc⟩], r3, rG kD (.slice (some ⟨b10, 0, none⟩) 1 1) [⟨G2, q10, M2, c10⟩], rG kO (.slice q10 M2 c10) K2, rG kC (.slice (some ⟨b8, 0, none⟩) 1 1) [(gl, gx, gy)], rG kD (.slice (some ⟨b7, 0, none⟩) 1 1) [⟨ge, gq, gn, gc⟩], r2, rG kD (.slice (some ⟨b5, 0, none⟩) 1 1) [⟨E2, q5, N2, c5⟩], rG kO (.slice q5 N2 c5) L2, rG kC (.slice (some ⟨b4, 0, none⟩) 1 1) [(l, x, y)], rG kD (.slice (some ⟨b3, 0, none⟩) 1 1) [⟨e, q, n, c⟩], r1] := hx9.lit kD [⟨E2, q14, N2, c14⟩] 1 rfl (by decide) #[.int .i64 E2, .slice q14 N2 c14] rfl
    generalize w11.heap.size = b14 at *
    generalize (w11.alloc (.cells #[.int .i64 E2, .slice q14 N2 c14] 26)) = w12 at *
    have HK9 : Hid (∀ w' rs, Sg w w' rs → rG kD (.slice (some ⟨b3, 0, none⟩) 1 1) [⟨e, q, n, c⟩] ∈ rs → rG kD (.slice (some ⟨b5, 0, none⟩) 1 1) [⟨E2, q5, N2, c5⟩] ∈ rs → rG kD (.slice (some ⟨b14, 0, none⟩) 1 1) [⟨E2, q14, N2, c14⟩] ∈ rs → rG kD (.slice (some ⟨b12, 0, none⟩) 1 1) [⟨oe, oq, on, oc⟩] ∈ rs → rG kSp (.slice (some ⟨b13, 0, none⟩) 1 1) [(os, ot)] ∈ rs → (((w'.cell? ⟨b3, 0, none⟩ = some (.int .i64 e) ∧ w'.cell? ⟨b3, 1, none⟩ = some (.slice q n c)) ∧ (w'.cell? ⟨b5, 0, none⟩ = some (.int .i64 E2) ∧ w'.cell? ⟨b5, 1, none⟩ = some (.slice q5 N2 c5))) ∧ ((w'.cell? ⟨b14, 0, none⟩ = some (.int .i64 E2) ∧ w'.cell? ⟨b14, 1, none⟩ = some (.slice q14 N2 c14)) ∧ ((w'.cell? ⟨b12, 0, none⟩ = some (.int .i64 oe) ∧ w'.cell? ⟨b12, 1, none⟩ = some (.slice oq on oc)) ∧ (w'.cell? ⟨b13, 0, none⟩ = some (.int .i64 os) ∧ w'.cell? ⟨b13, 1, none⟩ = some (.int .i64 ot)))))) := fun w' rs h m1 m2 m3 m4 m5 => by
      obtain ⟨a0, a1, _, _⟩ := dv2 h m1 rfl
      obtain ⟨a2, a3, _, _⟩ := dv2 h m2 rfl
      obtain ⟨a4, a5, _, _⟩ := dv2 h m3 rfl
      obtain ⟨a6, a7, _, _⟩ := dv2 h m4 rfl
      obtain ⟨a8, a9, _, _⟩ := p2f h m5
      exact ⟨⟨⟨a0, a1⟩, a2, a3⟩, ⟨a4, a5⟩, ⟨a6, a7⟩, a8, a9⟩
    have hr := hx9
    clear hx9
    have f1 : True := trivial
    go_region_held3 (fun w' => (((w'.cell? ⟨b3, 0, none⟩ = some (.int .i64 e) ∧ w'.cell? ⟨b3, 1, none⟩ = some (.slice q n c)) ∧ (w'.cell? ⟨b5, 0, none⟩ = some (.int .i64 E2) ∧ w'.cell? ⟨b5, 1, none⟩ = some (.slice q5 N2 c5))) ∧ ((w'.cell? ⟨b14, 0, none⟩ = some (.int .i64 E2) ∧ w'.cell? ⟨b14, 1, none⟩ = some (.slice q14 N2 c14)) ∧ ((w'.cell? ⟨b12, 0, none⟩ = some (.int .i64 oe) ∧ w'.cell? ⟨b12, 1, none⟩ = some (.slice oq on oc)) ∧ (w'.cell? ⟨b13, 0, none⟩ = some (.int .i64 os) ∧ w'.cell? ⟨b13, 1, none⟩ = some (.int .i64 ot))))))
      (first
        | assumption
        | with_reducible exact HK9.out _ _ hr (by simp) (by simp) (by simp) (by simp) (by simp)
        | with_reducible exact HK9.out _ _ (Sg.dr hr) (by simp) (by simp) (by simp) (by simp) (by simp))
      (first
        | (go_at_call 16; clear f1; replace hr := Sg.dr hr; refine (HE2.out _ q5 q14 c5 c14 (OwG.sl (hr.mem (K := kO) (v := .slice q5 N2 c5) (L := L2) (by simp))) (OwG.sl (hr.mem (K := kO) (v := .slice q14 N2 c14) (L := L2) (by simp)))).mono ?_; rintro ee v1 ⟨rfl, hb1⟩; replace hr := hr.step hb1; clear hb1)
        | (go_at_call 17; refine (HOi.out _ _ hr (by simp)).mono ?_; rintro ee v2 ⟨rfl, hb1⟩; replace hr := hr.step hb1; clear hb1)
        | (go_at_call 18; refine (HOs.out _ _ hr (by simp)).mono ?_; rintro ee v3 ⟨rfl, hb1⟩; replace hr := hr.step hb1; clear hb1)
        | (go_at_call 19; refine (HOa.out _ _ hr (by simp)).mono ?_; rintro ee v4 ⟨rfl, hb1⟩; replace hr := hr.step hb1; clear hb1)
        | (go_at_call 20; refine (HOb.out _ _ hr (by simp)).mono ?_; rintro ee v5 ⟨rfl, hb1⟩; replace hr := hr.step hb1; clear hb1)
        | (go_at_call 21; refine (iNewDirectory_any _).mono ?_; rintro ee v6 ⟨m1, rfl, hS⟩; replace hr := hr.addL hS; clear hS)
        | (go_at_call 22; refine (sNewDirectory_any _).mono ?_; rintro ee v7 ⟨m2, rfl, hS⟩; replace hr := hr.addL hS; clear hS)
        | (go_at_call 16; refine (like_same 1 _ _ 1 1 [zon] 1 rfl _ (rdO (n := 1) (c := 1) hr (by simp)) (rdO (n := 1) (c := 1) hr (by simp)) (by decide)).mono ?_; rintro ee v8 ⟨rfl, hb1⟩; replace hr := hr.step hb1; clear hb1))
    go_upto_region 11 with (fail)
    have hx : Sg w v8 [rG kD (.slice (some ⟨b14, 0, none⟩) 1 1) [⟨E2, q14, N2, c14⟩], rG kO (.slice q14 N2 c14) L2, rG kSp (.slice (some ⟨b13, 0, none⟩) 1 1) [(os, ot)], rG kD (.slice (some ⟨b12, 0, none⟩) 1 1) [⟨oe, oq, on, oc⟩], r3, rG kD (.slice (some ⟨b10, 0, none⟩) 1 1) [⟨G2, q10, M2, c10⟩], rG kO (.slice q10 M2 c10) K2, rG kC (.slice (some ⟨b8, 0, none⟩) 1 1) [(gl, gx, gy)], rG kD (.slice (some ⟨b7, 0, none⟩) 1 1) [⟨ge, gq, gn, gc⟩], r2, rG kD (.slice (some ⟨b5, 0, none⟩) 1 1) [⟨E2, q5, N2, c5⟩], rG kO (.slice q5 N2 c5) L2, rG kC (.slice (some ⟨b4, 0, none⟩) 1 1) [(l, x, y)], rG kD (.slice (some ⟨b3, 0, none⟩) 1 1) [⟨e, q, n, c⟩], r1] := (hr.sub (List.sublist_append_right _ _)).sub (List.sublist_append_right _ _)
    clear hr HK9
    obtain ⟨y0, y1, _, _⟩ := dv2 hx (K := kD) (g := b7) (n := 1) (q := ⟨ge, gq, gn, gc⟩) (by simp) rfl
    obtain ⟨z0, z1, z2⟩ := c3 hx (g := b8) (n := 1) (a := (gl, gx, gy)) (by simp)
    dsimp only at y0 y1 z0 z1 z2
    go_upto_region 12 with (go_at_call 23; refine (HGs.out _ _ hx (by simp)).mono ?_; rintro ee w13 ⟨q16, c16, rfl, hS⟩; replace hx := hx.addL hS; clear hS y0 y1 z0 z1 z2)
    replace hx : Sg w (w13.alloc (.cells #[.int .i64 G2, .slice q16 M2 c16] 26)) [rG kD (.slice (some ⟨w13.heap.size, 0, none⟩) 1 1) [⟨G2, q16, M2, c16⟩], rG kO (.slice q16 M2 c16) K2, rG kD (.slice (some ⟨b14, 0, none⟩) 1 1) [⟨E2, q14, N2, c14⟩], rG kO (.slice q14 N2 c14) L2, rG kSp (.slice (some ⟨b13, 0, none⟩) 1 1) [(os, ot)], rG kD (.slice (some ⟨b12, 0, none⟩) 1 1) [⟨oe, oq, on, oc⟩], r3, rG kD (.slice (some ⟨b10, 0, none⟩) 1 1) [⟨G2, q10, M2, c10⟩], rG kO (.slice q10 M2 c10) K2, rG kC (.slice (some ⟨b8, 0, none⟩) 1 1) [(gl, gx, gy)], rG kD (.slice (some ⟨b7, 0, none⟩) 1 1) [⟨ge, gq, gn, gc⟩], r2, rG kD (.slice (some ⟨b5, 0, none⟩) 1 1) [⟨E2, q5, N2, c5⟩], rG kO (.slice q5 N2 c5) L2, rG kC (.slice (some ⟨b4, 0, none⟩) 1 1) [(l, x, y)], rG kD (.slice (some ⟨b3, 0, none⟩) 1 1) [⟨e, q, n, c⟩], r1] := hx.lit kD [⟨G2, q16, M2, c16⟩] 1 rfl (by decide) #[.int .i64 G2, .slice q16 M2 c16] rfl
    generalize w13.heap.size = b16 at *
    generalize (w13.alloc (.cells #[.int .i64 G2, .slice q16 M2 c16] 26)) = w14 at *
    obtain ⟨y0, y1, _, _⟩ := dv2 hx (K := kD) (g := b10) (n := 1) (q := ⟨G2, q10, M2, c10⟩) (by simp) rfl
    obtain ⟨z0, z1, _, _⟩ := dv2 hx (K := kD) (g := b16) (n := 1) (q := ⟨G2, q16, M2, c16⟩) (by simp) rfl
    dsimp only at y0 y1 z0 z1
    go_upto_region 14 with (go_at_call 16; refine (HGE.out _ q10 q16 c10 c16 (OwG.sl (hx.mem (K := kO) (v := .slice q10 M2 c10) (L := K2) (by simp))) (OwG.sl (hx.mem (K := kO) (v := .slice q16 M2 c16) (L := K2) (by simp)))).mono ?_; rintro ee w15 ⟨rfl, hb1⟩; replace hx := hx.step hb1; clear hb1 y0 y1 z0 z1)
    obtain ⟨y0, y1, _, _⟩ := dv2 hx (K := kD) (g := b10) (n := 1) (q := ⟨G2, q10, M2, c10⟩) (by simp) rfl
    obtain ⟨z0, z1, _, _⟩ := dv2 hx (K := kD) (g := b7) (n := 1) (q := ⟨ge, gq, gn, gc⟩) (by simp) rfl
    obtain ⟨x0, x1, _, _⟩ := dv2 hx (K := kD) (g := b5) (n := 1) (q := ⟨E2, q5, N2, c5⟩) (by simp) rfl
    obtain ⟨u0, u1, _, _⟩ := dv2 hx (K := kD) (g := b3) (n := 1) (q := ⟨e, q, n, c⟩) (by simp) rfl
    dsimp only at y0 y1 z0 z1 x0 x1 u0 u1
    go_cut [144] from 105 to 143 (fun v144 wx => v144 = .bool false ∧ Sg w wx [rG kD (.slice (some ⟨b16, 0, none⟩) 1 1) [⟨G2, q16, M2, c16⟩], rG kO (.slice q16 M2 c16) K2, rG kD (.slice (some ⟨b14, 0, none⟩) 1 1) [⟨E2, q14, N2, c14⟩], rG kO (.slice q14 N2 c14) L2, rG kSp (.slice (some ⟨b13, 0, none⟩) 1 1) [(os, ot)], rG kD (.slice (some ⟨b12, 0, none⟩) 1 1) [⟨oe, oq, on, oc⟩], r3, rG kD (.slice (some ⟨b10, 0, none⟩) 1 1) [⟨G2, q10, M2, c10⟩], rG kO (.slice q10 M2 c10) K2, rG kC (.slice (some ⟨b8, 0, none⟩) 1 1) [(gl, gx, gy)], rG kD (.slice (some ⟨b7, 0, none⟩) 1 1) [⟨ge, gq, gn, gc⟩], r2, rG kD (.slice (some ⟨b5, 0, none⟩) 1 1) [⟨E2, q5, N2, c5⟩], rG kO (.slice q5 N2 c5) L2, rG kC (.slice (some ⟨b4, 0, none⟩) 1 1) [(l, x, y)], rG kD (.slice (some ⟨b3, 0, none⟩) 1 1) [⟨e, q, n, c⟩], r1])
    case first =>
      cases sb
      · cases gb
        · go_wp2
          go_meet
          exact ⟨rfl, hx⟩
        · replace HGo := Lib.hid (HGo.out rfl)
          obtain ⟨-, hG, hb2, -, -⟩ := HG.out rfl
          subst hG
          obtain ⟨hg1, hg2⟩ := hb2
          go_wp2_with (first | (go_at_call 17; refine (HGo.out _ q10 c10 (OwG.sl (hx.mem (K := kO) (v := .slice q10 M2 c10) (L := K2) (by simp)))).mono ?_; rintro ee v2 ⟨rfl, hb1⟩; replace hx := hx.step hb1; clear hb1; clear y0 y1 z0 z1 x0 x1 u0 u1; obtain ⟨y0, y1, _, _⟩ := dv2 hx (K := kD) (g := b10) (n := 1) (q := ⟨ge + 1, q10, M2, c10⟩) (by simp) rfl; obtain ⟨z0, z1, _, _⟩ := dv2 hx (K := kD) (g := b7) (n := 1) (q := ⟨ge, gq, gn, gc⟩) (by simp) rfl; obtain ⟨x0, x1, _, _⟩ := dv2 hx (K := kD) (g := b5) (n := 1) (q := ⟨E2, q5, N2, c5⟩) (by simp) rfl; obtain ⟨u0, u1, _, _⟩ := dv2 hx (K := kD) (g := b3) (n := 1) (q := ⟨e, q, n, c⟩) (by simp) rfl; dsimp only at y0 y1 z0 z1 x0 x1 u0 u1))
          go_meet
          exact ⟨rfl, hx⟩
      · cases gb
        · have f14 : True := trivial
          replace HOx := Lib.hid (HOx.out rfl)
          obtain ⟨-, hE, hN, hb, -⟩ := HX.out rfl
          subst hE hN
          obtain ⟨he1, he2⟩ := hb
          have hn64 := HD1n.out.2
          go_wp2_with (first | (go_at_call 17; clear f14; refine (HOx.out _ q5 c5 (OwG.sl (hx.mem (K := kO) (v := .slice q5 (n + 3) c5) (L := L2) (by simp)))).mono ?_; rintro ee v1 ⟨rfl, hb1⟩; replace hx := hx.step hb1; clear hb1; clear y0 y1 z0 z1 x0 x1 u0 u1; obtain ⟨y0, y1, _, _⟩ := dv2 hx (K := kD) (g := b10) (n := 1) (q := ⟨G2, q10, M2, c10⟩) (by simp) rfl; obtain ⟨z0, z1, _, _⟩ := dv2 hx (K := kD) (g := b7) (n := 1) (q := ⟨ge, gq, gn, gc⟩) (by simp) rfl; obtain ⟨x0, x1, _, _⟩ := dv2 hx (K := kD) (g := b5) (n := 1) (q := ⟨e + 1, q5, n + 3, c5⟩) (by simp) rfl; obtain ⟨u0, u1, _, _⟩ := dv2 hx (K := kD) (g := b3) (n := 1) (q := ⟨e, q, n, c⟩) (by simp) rfl; dsimp only at y0 y1 z0 z1 x0 x1 u0 u1))
          go_meet
          exact ⟨rfl, hx⟩
        · have f14 : True := trivial
          replace HOx := Lib.hid (HOx.out rfl)
          obtain ⟨-, hE, hN, hb, -⟩ := HX.out rfl
          subst hE hN
          obtain ⟨he1, he2⟩ := hb
          have hn64 := HD1n.out.2
          replace HGo := Lib.hid (HGo.out rfl)
          obtain ⟨-, hG, hb2, -, -⟩ := HG.out rfl
          subst hG
          obtain ⟨hg1, hg2⟩ := hb2
          go_wp2_with (first | (go_at_call 17; clear f14; refine (HOx.out _ q5 c5 (OwG.sl (hx.mem (K := kO) (v := .slice q5 (n + 3) c5) (L := L2) (by simp)))).mono ?_; rintro ee v1 ⟨rfl, hb1⟩; replace hx := hx.step hb1; clear hb1; clear y0 y1 z0 z1 x0 x1 u0 u1; obtain ⟨y0, y1, _, _⟩ := dv2 hx (K := kD) (g := b10) (n := 1) (q := ⟨ge + 1, q10, M2, c10⟩) (by simp) rfl; obtain ⟨z0, z1, _, _⟩ := dv2 hx (K := kD) (g := b7) (n := 1) (q := ⟨ge, gq, gn, gc⟩) (by simp) rfl; obtain ⟨x0, x1, _, _⟩ := dv2 hx (K := kD) (g := b5) (n := 1) (q := ⟨e + 1, q5, n + 3, c5⟩) (by simp) rfl; obtain ⟨u0, u1, _, _⟩ := dv2 hx (K := kD) (g := b3) (n := 1) (q := ⟨e, q, n, c⟩) (by simp) rfl; dsimp only at y0 y1 z0 z1 x0 x1 u0 u1) | (go_at_call 17; refine (HGo.out _ q10 c10 (OwG.sl (hx.mem (K := kO) (v := .slice q10 M2 c10) (L := K2) (by simp)))).mono ?_; rintro ee v2 ⟨rfl, hb1⟩; replace hx := hx.step hb1; clear hb1; clear y0 y1 z0 z1 x0 x1 u0 u1; obtain ⟨y0, y1, _, _⟩ := dv2 hx (K := kD) (g := b10) (n := 1) (q := ⟨ge + 1, q10, M2, c10⟩) (by simp) rfl; obtain ⟨z0, z1, _, _⟩ := dv2 hx (K := kD) (g := b7) (n := 1) (q := ⟨ge, gq, gn, gc⟩) (by simp) rfl; obtain ⟨x0, x1, _, _⟩ := dv2 hx (K := kD) (g := b5) (n := 1) (q := ⟨e + 1, q5, n + 3, c5⟩) (by simp) rfl; obtain ⟨u0, u1, _, _⟩ := dv2 hx (K := kD) (g := b3) (n := 1) (q := ⟨e, q, n, c⟩) (by simp) rfl; dsimp only at y0 y1 z0 z1 x0 x1 u0 u1))
          go_meet
          exact ⟨rfl, hx⟩
    case rest =>
      clear hx y0 y1 z0 z1 x0 x1 u0 u1
      obtain ⟨rfl, hx⟩ := hcut
      go_wp2
      go_loopw [18] (fun iv wr => ∃ k : Nat, k ≤ 10 ∧ iv = .int .i64 k ∧ Sg w wr [rG kD (.slice (some ⟨b16, 0, none⟩) 1 1) [⟨G2, q16, M2, c16⟩], rG kO (.slice q16 M2 c16) K2, rG kD (.slice (some ⟨b14, 0, none⟩) 1 1) [⟨E2, q14, N2, c14⟩], rG kO (.slice q14 N2 c14) L2, rG kSp (.slice (some ⟨b13, 0, none⟩) 1 1) [(os, ot)], rG kD (.slice (some ⟨b12, 0, none⟩) 1 1) [⟨oe, oq, on, oc⟩], r3, rG kD (.slice (some ⟨b10, 0, none⟩) 1 1) [⟨G2, q10, M2, c10⟩], rG kO (.slice q10 M2 c10) K2, rG kC (.slice (some ⟨b8, 0, none⟩) 1 1) [(gl, gx, gy)], rG kD (.slice (some ⟨b7, 0, none⟩) 1 1) [⟨ge, gq, gn, gc⟩], r2, rG kD (.slice (some ⟨b5, 0, none⟩) 1 1) [⟨E2, q5, N2, c5⟩], rG kO (.slice q5 N2 c5) L2, rG kC (.slice (some ⟨b4, 0, none⟩) 1 1) [(l, x, y)], rG kD (.slice (some ⟨b3, 0, none⟩) 1 1) [⟨e, q, n, c⟩], r1]) (fun iv _ => 10 - (intOf iv).toNat)
      case atStart => exact ⟨0, by omega, rfl, hx⟩
      case round =>
        clear hx
        obtain ⟨k, hk, rfl, hx⟩ := hrel
        by_cases hlt : k < 10
        · have hki : (k : Int) < 10 := by omega
          go_upto_region 20 with (go_at_call 24; refine (M.spot_any a len cap zs k w.heap.size _ HLen.out (HRd.out.up hx.bel (Nat.le_refl _)) (by omega) (by omega)).mono ?_; rintro ee v1 ⟨px, py, rfl, px0, px1, py0, py1, hb1⟩; replace hx := hx.step hb1; clear hb1)
          replace hx : Sg w (v1.alloc (.cells #[.int .i64 px, .int .i64 py] 37)) (rG kSp (.slice (some ⟨v1.heap.size, 0, none⟩) 1 1) [(px, py)] :: [rG kD (.slice (some ⟨b16, 0, none⟩) 1 1) [⟨G2, q16, M2, c16⟩], rG kO (.slice q16 M2 c16) K2, rG kD (.slice (some ⟨b14, 0, none⟩) 1 1) [⟨E2, q14, N2, c14⟩], rG kO (.slice q14 N2 c14) L2, rG kSp (.slice (some ⟨b13, 0, none⟩) 1 1) [(os, ot)], rG kD (.slice (some ⟨b12, 0, none⟩) 1 1) [⟨oe, oq, on, oc⟩], r3, rG kD (.slice (some ⟨b10, 0, none⟩) 1 1) [⟨G2, q10, M2, c10⟩], rG kO (.slice q10 M2 c10) K2, rG kC (.slice (some ⟨b8, 0, none⟩) 1 1) [(gl, gx, gy)], rG kD (.slice (some ⟨b7, 0, none⟩) 1 1) [⟨ge, gq, gn, gc⟩], r2, rG kD (.slice (some ⟨b5, 0, none⟩) 1 1) [⟨E2, q5, N2, c5⟩], rG kO (.slice q5 N2 c5) L2, rG kC (.slice (some ⟨b4, 0, none⟩) 1 1) [(l, x, y)], rG kD (.slice (some ⟨b3, 0, none⟩) 1 1) [⟨e, q, n, c⟩], r1]) := hx.lit kSp [(px, py)] 1 rfl (by decide) #[.int .i64 px, .int .i64 py] rfl
          generalize v1.heap.size = b19 at *
          generalize (v1.alloc (.cells #[.int .i64 px, .int .i64 py] 37)) = v2 at *
          have hsp : M.spB px py = true := M.spB_t.mpr (by omega)
          obtain ⟨sd_, hsd⟩ : ∃ X, shO e L px py = X := ⟨_, rfl⟩
          obtain ⟨sg_, hsg⟩ : ∃ X, shO ge gL px py = X := ⟨_, rfl⟩
          obtain ⟨hb, hhb⟩ : ∃ X, holdO ⟨gl, gx, gy, 0⟩ px py = X := ⟨_, rfl⟩
          have hS : ∀ w', Sg w w' (rG kSp (.slice (some ⟨b19, 0, none⟩) 1 1) [(px, py)] :: [rG kD (.slice (some ⟨b16, 0, none⟩) 1 1) [⟨G2, q16, M2, c16⟩], rG kO (.slice q16 M2 c16) K2, rG kD (.slice (some ⟨b14, 0, none⟩) 1 1) [⟨E2, q14, N2, c14⟩], rG kO (.slice q14 N2 c14) L2, rG kSp (.slice (some ⟨b13, 0, none⟩) 1 1) [(os, ot)], rG kD (.slice (some ⟨b12, 0, none⟩) 1 1) [⟨oe, oq, on, oc⟩], r3, rG kD (.slice (some ⟨b10, 0, none⟩) 1 1) [⟨G2, q10, M2, c10⟩], rG kO (.slice q10 M2 c10) K2, rG kC (.slice (some ⟨b8, 0, none⟩) 1 1) [(gl, gx, gy)], rG kD (.slice (some ⟨b7, 0, none⟩) 1 1) [⟨ge, gq, gn, gc⟩], r2, rG kD (.slice (some ⟨b5, 0, none⟩) 1 1) [⟨E2, q5, N2, c5⟩], rG kO (.slice q5 N2 c5) L2, rG kC (.slice (some ⟨b4, 0, none⟩) 1 1) [(l, x, y)], rG kD (.slice (some ⟨b3, 0, none⟩) 1 1) [⟨e, q, n, c⟩], r1]) → ((w'.cell? ⟨b5, 0, none⟩ = some (.int .i64 E2) ∧ w'.cell? ⟨b5, 1, none⟩ = some (.slice q5 N2 c5)) ∧ (w'.cell? ⟨b3, 0, none⟩ = some (.int .i64 e) ∧ w'.cell? ⟨b3, 1, none⟩ = some (.slice q n c)) ∧ (w'.cell? ⟨b10, 0, none⟩ = some (.int .i64 G2) ∧ w'.cell? ⟨b10, 1, none⟩ = some (.slice q10 M2 c10)) ∧ (w'.cell? ⟨b7, 0, none⟩ = some (.int .i64 ge) ∧ w'.cell? ⟨b7, 1, none⟩ = some (.slice gq gn gc)) ∧ (w'.cell? ⟨b8, 0, none⟩ = some (.int .i64 gl) ∧ w'.cell? ⟨b8, 1, none⟩ = some (.int .i64 gx) ∧ w'.cell? ⟨b8, 2, none⟩ = some (.int .i64 gy)) ∧ (w'.cell? ⟨b19, 0, none⟩ = some (.int .i64 px) ∧ w'.cell? ⟨b19, 1, none⟩ = some (.int .i64 py))) := fun w' h => by
            obtain ⟨a0, a1, _, _⟩ := dv2 h (K := kD) (g := b5) (n := 1) (q := ⟨E2, q5, N2, c5⟩) (by simp) rfl
            obtain ⟨a2, a3, _, _⟩ := dv2 h (K := kD) (g := b3) (n := 1) (q := ⟨e, q, n, c⟩) (by simp) rfl
            obtain ⟨a4, a5, _, _⟩ := dv2 h (K := kD) (g := b10) (n := 1) (q := ⟨G2, q10, M2, c10⟩) (by simp) rfl
            obtain ⟨a6, a7, _, _⟩ := dv2 h (K := kD) (g := b7) (n := 1) (q := ⟨ge, gq, gn, gc⟩) (by simp) rfl
            obtain ⟨a8, a9, a10⟩ := c3 h (g := b8) (n := 1) (a := (gl, gx, gy)) (by simp)
            obtain ⟨a11, a12, _, _⟩ := p2f h (g := b19) (n := 1) (a := (px, py)) (by simp)
            exact ⟨⟨a0, a1⟩, ⟨a2, a3⟩, ⟨a4, a5⟩, ⟨a6, a7⟩, ⟨a8, a9, a10⟩, a11, a12⟩
          have HA1 : Hid (sb = true → ∀ w', Sg w w' (rG kSp (.slice (some ⟨b19, 0, none⟩) 1 1) [(px, py)] :: [rG kD (.slice (some ⟨b16, 0, none⟩) 1 1) [⟨G2, q16, M2, c16⟩], rG kO (.slice q16 M2 c16) K2, rG kD (.slice (some ⟨b14, 0, none⟩) 1 1) [⟨E2, q14, N2, c14⟩], rG kO (.slice q14 N2 c14) L2, rG kSp (.slice (some ⟨b13, 0, none⟩) 1 1) [(os, ot)], rG kD (.slice (some ⟨b12, 0, none⟩) 1 1) [⟨oe, oq, on, oc⟩], r3, rG kD (.slice (some ⟨b10, 0, none⟩) 1 1) [⟨G2, q10, M2, c10⟩], rG kO (.slice q10 M2 c10) K2, rG kC (.slice (some ⟨b8, 0, none⟩) 1 1) [(gl, gx, gy)], rG kD (.slice (some ⟨b7, 0, none⟩) 1 1) [⟨ge, gq, gn, gc⟩], r2, rG kD (.slice (some ⟨b5, 0, none⟩) 1 1) [⟨E2, q5, N2, c5⟩], rG kO (.slice q5 N2 c5) L2, rG kC (.slice (some ⟨b4, 0, none⟩) 1 1) [(l, x, y)], rG kD (.slice (some ⟨b3, 0, none⟩) 1 1) [⟨e, q, n, c⟩], r1]) → Calls Try.prog 19 #[.agg #[.int .i64 E2, .slice q5 N2 c5], .agg #[.int .i64 px, .int .i64 py]] w' fun ee w'' => ee = .returned (.int .i64 sd_) ∧ Sg w w'' (rG kSp (.slice (some ⟨b19, 0, none⟩) 1 1) [(px, py)] :: [rG kD (.slice (some ⟨b16, 0, none⟩) 1 1) [⟨G2, q16, M2, c16⟩], rG kO (.slice q16 M2 c16) K2, rG kD (.slice (some ⟨b14, 0, none⟩) 1 1) [⟨E2, q14, N2, c14⟩], rG kO (.slice q14 N2 c14) L2, rG kSp (.slice (some ⟨b13, 0, none⟩) 1 1) [(os, ot)], rG kD (.slice (some ⟨b12, 0, none⟩) 1 1) [⟨oe, oq, on, oc⟩], r3, rG kD (.slice (some ⟨b10, 0, none⟩) 1 1) [⟨G2, q10, M2, c10⟩], rG kO (.slice q10 M2 c10) K2, rG kC (.slice (some ⟨b8, 0, none⟩) 1 1) [(gl, gx, gy)], rG kD (.slice (some ⟨b7, 0, none⟩) 1 1) [⟨ge, gq, gn, gc⟩], r2, rG kD (.slice (some ⟨b5, 0, none⟩) 1 1) [⟨E2, q5, N2, c5⟩], rG kO (.slice q5 N2 c5) L2, rG kC (.slice (some ⟨b4, 0, none⟩) 1 1) [(l, x, y)], rG kD (.slice (some ⟨b3, 0, none⟩) 1 1) [⟨e, q, n, c⟩], r1])) := fun h w' hw' => (hsd ▸ HSx.out h w' q5 c5 px py (OwG.sl (hw'.mem (K := kO) (v := .slice q5 N2 c5) (L := L2) (by simp)))).mono fun _ _ hh => ⟨hh.1, hw'.step hh.2⟩
          have HA2 : Hid (∀ w', Sg w w' (rG kSp (.slice (some ⟨b19, 0, none⟩) 1 1) [(px, py)] :: [rG kD (.slice (some ⟨b16, 0, none⟩) 1 1) [⟨G2, q16, M2, c16⟩], rG kO (.slice q16 M2 c16) K2, rG kD (.slice (some ⟨b14, 0, none⟩) 1 1) [⟨E2, q14, N2, c14⟩], rG kO (.slice q14 N2 c14) L2, rG kSp (.slice (some ⟨b13, 0, none⟩) 1 1) [(os, ot)], rG kD (.slice (some ⟨b12, 0, none⟩) 1 1) [⟨oe, oq, on, oc⟩], r3, rG kD (.slice (some ⟨b10, 0, none⟩) 1 1) [⟨G2, q10, M2, c10⟩], rG kO (.slice q10 M2 c10) K2, rG kC (.slice (some ⟨b8, 0, none⟩) 1 1) [(gl, gx, gy)], rG kD (.slice (some ⟨b7, 0, none⟩) 1 1) [⟨ge, gq, gn, gc⟩], r2, rG kD (.slice (some ⟨b5, 0, none⟩) 1 1) [⟨E2, q5, N2, c5⟩], rG kO (.slice q5 N2 c5) L2, rG kC (.slice (some ⟨b4, 0, none⟩) 1 1) [(l, x, y)], rG kD (.slice (some ⟨b3, 0, none⟩) 1 1) [⟨e, q, n, c⟩], r1]) → Calls Try.prog 19 #[.agg #[.int .i64 e, .slice q n c], .agg #[.int .i64 px, .int .i64 py]] w' fun ee w'' => ee = .returned (.int .i64 sd_) ∧ Sg w w'' (rG kSp (.slice (some ⟨b19, 0, none⟩) 1 1) [(px, py)] :: [rG kD (.slice (some ⟨b16, 0, none⟩) 1 1) [⟨G2, q16, M2, c16⟩], rG kO (.slice q16 M2 c16) K2, rG kD (.slice (some ⟨b14, 0, none⟩) 1 1) [⟨E2, q14, N2, c14⟩], rG kO (.slice q14 N2 c14) L2, rG kSp (.slice (some ⟨b13, 0, none⟩) 1 1) [(os, ot)], rG kD (.slice (some ⟨b12, 0, none⟩) 1 1) [⟨oe, oq, on, oc⟩], r3, rG kD (.slice (some ⟨b10, 0, none⟩) 1 1) [⟨G2, q10, M2, c10⟩], rG kO (.slice q10 M2 c10) K2, rG kC (.slice (some ⟨b8, 0, none⟩) 1 1) [(gl, gx, gy)], rG kD (.slice (some ⟨b7, 0, none⟩) 1 1) [⟨ge, gq, gn, gc⟩], r2, rG kD (.slice (some ⟨b5, 0, none⟩) 1 1) [⟨E2, q5, N2, c5⟩], rG kO (.slice q5 N2 c5) L2, rG kC (.slice (some ⟨b4, 0, none⟩) 1 1) [(l, x, y)], rG kD (.slice (some ⟨b3, 0, none⟩) 1 1) [⟨e, q, n, c⟩], r1])) := fun w' hw' => (hsd ▸ HSd.out w' _ px py hw' (by simp)).mono fun _ _ hh => ⟨hh.1, hw'.step hh.2⟩
          have HA3 : Hid (gb = true → ∀ w', Sg w w' (rG kSp (.slice (some ⟨b19, 0, none⟩) 1 1) [(px, py)] :: [rG kD (.slice (some ⟨b16, 0, none⟩) 1 1) [⟨G2, q16, M2, c16⟩], rG kO (.slice q16 M2 c16) K2, rG kD (.slice (some ⟨b14, 0, none⟩) 1 1) [⟨E2, q14, N2, c14⟩], rG kO (.slice q14 N2 c14) L2, rG kSp (.slice (some ⟨b13, 0, none⟩) 1 1) [(os, ot)], rG kD (.slice (some ⟨b12, 0, none⟩) 1 1) [⟨oe, oq, on, oc⟩], r3, rG kD (.slice (some ⟨b10, 0, none⟩) 1 1) [⟨G2, q10, M2, c10⟩], rG kO (.slice q10 M2 c10) K2, rG kC (.slice (some ⟨b8, 0, none⟩) 1 1) [(gl, gx, gy)], rG kD (.slice (some ⟨b7, 0, none⟩) 1 1) [⟨ge, gq, gn, gc⟩], r2, rG kD (.slice (some ⟨b5, 0, none⟩) 1 1) [⟨E2, q5, N2, c5⟩], rG kO (.slice q5 N2 c5) L2, rG kC (.slice (some ⟨b4, 0, none⟩) 1 1) [(l, x, y)], rG kD (.slice (some ⟨b3, 0, none⟩) 1 1) [⟨e, q, n, c⟩], r1]) → Calls Try.prog 19 #[.agg #[.int .i64 G2, .slice q10 M2 c10], .agg #[.int .i64 px, .int .i64 py]] w' fun ee w'' => ee = .returned (.int .i64 (if hb then gs else sg_)) ∧ Sg w w'' (rG kSp (.slice (some ⟨b19, 0, none⟩) 1 1) [(px, py)] :: [rG kD (.slice (some ⟨b16, 0, none⟩) 1 1) [⟨G2, q16, M2, c16⟩], rG kO (.slice q16 M2 c16) K2, rG kD (.slice (some ⟨b14, 0, none⟩) 1 1) [⟨E2, q14, N2, c14⟩], rG kO (.slice q14 N2 c14) L2, rG kSp (.slice (some ⟨b13, 0, none⟩) 1 1) [(os, ot)], rG kD (.slice (some ⟨b12, 0, none⟩) 1 1) [⟨oe, oq, on, oc⟩], r3, rG kD (.slice (some ⟨b10, 0, none⟩) 1 1) [⟨G2, q10, M2, c10⟩], rG kO (.slice q10 M2 c10) K2, rG kC (.slice (some ⟨b8, 0, none⟩) 1 1) [(gl, gx, gy)], rG kD (.slice (some ⟨b7, 0, none⟩) 1 1) [⟨ge, gq, gn, gc⟩], r2, rG kD (.slice (some ⟨b5, 0, none⟩) 1 1) [⟨E2, q5, N2, c5⟩], rG kO (.slice q5 N2 c5) L2, rG kC (.slice (some ⟨b4, 0, none⟩) 1 1) [(l, x, y)], rG kD (.slice (some ⟨b3, 0, none⟩) 1 1) [⟨e, q, n, c⟩], r1])) := fun h w' hw' => (hhb ▸ hsg ▸ HGx.out h w' q10 c10 px py hsp (OwG.sl (hw'.mem (K := kO) (v := .slice q10 M2 c10) (L := K2) (by simp)))).mono fun _ _ hh => ⟨hh.1, hw'.step hh.2⟩
          have HA4 : Hid (∀ w', Sg w w' (rG kSp (.slice (some ⟨b19, 0, none⟩) 1 1) [(px, py)] :: [rG kD (.slice (some ⟨b16, 0, none⟩) 1 1) [⟨G2, q16, M2, c16⟩], rG kO (.slice q16 M2 c16) K2, rG kD (.slice (some ⟨b14, 0, none⟩) 1 1) [⟨E2, q14, N2, c14⟩], rG kO (.slice q14 N2 c14) L2, rG kSp (.slice (some ⟨b13, 0, none⟩) 1 1) [(os, ot)], rG kD (.slice (some ⟨b12, 0, none⟩) 1 1) [⟨oe, oq, on, oc⟩], r3, rG kD (.slice (some ⟨b10, 0, none⟩) 1 1) [⟨G2, q10, M2, c10⟩], rG kO (.slice q10 M2 c10) K2, rG kC (.slice (some ⟨b8, 0, none⟩) 1 1) [(gl, gx, gy)], rG kD (.slice (some ⟨b7, 0, none⟩) 1 1) [⟨ge, gq, gn, gc⟩], r2, rG kD (.slice (some ⟨b5, 0, none⟩) 1 1) [⟨E2, q5, N2, c5⟩], rG kO (.slice q5 N2 c5) L2, rG kC (.slice (some ⟨b4, 0, none⟩) 1 1) [(l, x, y)], rG kD (.slice (some ⟨b3, 0, none⟩) 1 1) [⟨e, q, n, c⟩], r1]) → Calls Try.prog 19 #[.agg #[.int .i64 ge, .slice gq gn gc], .agg #[.int .i64 px, .int .i64 py]] w' fun ee w'' => ee = .returned (.int .i64 sg_) ∧ Sg w w'' (rG kSp (.slice (some ⟨b19, 0, none⟩) 1 1) [(px, py)] :: [rG kD (.slice (some ⟨b16, 0, none⟩) 1 1) [⟨G2, q16, M2, c16⟩], rG kO (.slice q16 M2 c16) K2, rG kD (.slice (some ⟨b14, 0, none⟩) 1 1) [⟨E2, q14, N2, c14⟩], rG kO (.slice q14 N2 c14) L2, rG kSp (.slice (some ⟨b13, 0, none⟩) 1 1) [(os, ot)], rG kD (.slice (some ⟨b12, 0, none⟩) 1 1) [⟨oe, oq, on, oc⟩], r3, rG kD (.slice (some ⟨b10, 0, none⟩) 1 1) [⟨G2, q10, M2, c10⟩], rG kO (.slice q10 M2 c10) K2, rG kC (.slice (some ⟨b8, 0, none⟩) 1 1) [(gl, gx, gy)], rG kD (.slice (some ⟨b7, 0, none⟩) 1 1) [⟨ge, gq, gn, gc⟩], r2, rG kD (.slice (some ⟨b5, 0, none⟩) 1 1) [⟨E2, q5, N2, c5⟩], rG kO (.slice q5 N2 c5) L2, rG kC (.slice (some ⟨b4, 0, none⟩) 1 1) [(l, x, y)], rG kD (.slice (some ⟨b3, 0, none⟩) 1 1) [⟨e, q, n, c⟩], r1])) := fun w' hw' => (hsg ▸ HGd.out w' _ px py hw' (by simp)).mono fun _ _ hh => ⟨hh.1, hw'.step hh.2⟩
          go_cut [161] from 152 to 160 (fun v161 wx => v161 = .bool false ∧ Sg w wx (rG kSp (.slice (some ⟨b19, 0, none⟩) 1 1) [(px, py)] :: [rG kD (.slice (some ⟨b16, 0, none⟩) 1 1) [⟨G2, q16, M2, c16⟩], rG kO (.slice q16 M2 c16) K2, rG kD (.slice (some ⟨b14, 0, none⟩) 1 1) [⟨E2, q14, N2, c14⟩], rG kO (.slice q14 N2 c14) L2, rG kSp (.slice (some ⟨b13, 0, none⟩) 1 1) [(os, ot)], rG kD (.slice (some ⟨b12, 0, none⟩) 1 1) [⟨oe, oq, on, oc⟩], r3, rG kD (.slice (some ⟨b10, 0, none⟩) 1 1) [⟨G2, q10, M2, c10⟩], rG kO (.slice q10 M2 c10) K2, rG kC (.slice (some ⟨b8, 0, none⟩) 1 1) [(gl, gx, gy)], rG kD (.slice (some ⟨b7, 0, none⟩) 1 1) [⟨ge, gq, gn, gc⟩], r2, rG kD (.slice (some ⟨b5, 0, none⟩) 1 1) [⟨E2, q5, N2, c5⟩], rG kO (.slice q5 N2 c5) L2, rG kC (.slice (some ⟨b4, 0, none⟩) 1 1) [(l, x, y)], rG kD (.slice (some ⟨b3, 0, none⟩) 1 1) [⟨e, q, n, c⟩], r1]))
          case first =>
            cases sb
            · skip
              refine wp_region_quiet (C := fun w' => Sg w w' (rG kSp (.slice (some ⟨b19, 0, none⟩) 1 1) [(px, py)] :: [rG kD (.slice (some ⟨b16, 0, none⟩) 1 1) [⟨G2, q16, M2, c16⟩], rG kO (.slice q16 M2 c16) K2, rG kD (.slice (some ⟨b14, 0, none⟩) 1 1) [⟨E2, q14, N2, c14⟩], rG kO (.slice q14 N2 c14) L2, rG kSp (.slice (some ⟨b13, 0, none⟩) 1 1) [(os, ot)], rG kD (.slice (some ⟨b12, 0, none⟩) 1 1) [⟨oe, oq, on, oc⟩], r3, rG kD (.slice (some ⟨b10, 0, none⟩) 1 1) [⟨G2, q10, M2, c10⟩], rG kO (.slice q10 M2 c10) K2, rG kC (.slice (some ⟨b8, 0, none⟩) 1 1) [(gl, gx, gy)], rG kD (.slice (some ⟨b7, 0, none⟩) 1 1) [⟨ge, gq, gn, gc⟩], r2, rG kD (.slice (some ⟨b5, 0, none⟩) 1 1) [⟨E2, q5, N2, c5⟩], rG kO (.slice q5 N2 c5) L2, rG kC (.slice (some ⟨b4, 0, none⟩) 1 1) [(l, x, y)], rG kD (.slice (some ⟨b3, 0, none⟩) 1 1) [⟨e, q, n, c⟩], r1])) (by kernel_rfl) (by kernel_rfl) (Sg.dr hx) ?_
              refine q_intro (fun A hA => ?_)
              have hf : Fr 202 A [(6, .bool false)] := by subst hA; exact ⟨rfl, by simp⟩
              refine q_step hf (d := 152) (v := .bool false) rfl rfl (by decide) (by simp) (fun w' hw' => ?_) (fun A hA152 hf => ?_)
              · have f6 := hf.get (d := 6) (v := .bool false) (by simp)
                clear hf
                simp [Oper.quietAt, Oper.quietUpon, go_sem, f6]
              refine q_step hf (d := 153) (v := .bool false) rfl rfl (by decide) (by simp) (fun w' hw' => ?_) (fun A hA153 hf => ?_)
              · have f152 := hf.get (d := 152) (v := .bool false) (by simp)
                clear hf
                simp [Oper.quietAt, Oper.quietUpon, go_sem, f152]
              refine q_skip hf (d := 154) (e := 153) (b := false) rfl rfl (by simp) rfl rfl (by decide) (by simp) (fun A hA154 hf => ?_)
              refine q_skip hf (d := 155) (e := 153) (b := false) rfl rfl (by simp) rfl rfl (by decide) (by simp) (fun A hA155 hf => ?_)
              refine q_skip hf (d := 156) (e := 153) (b := false) rfl rfl (by simp) rfl rfl (by decide) (by simp) (fun A hA156 hf => ?_)
              refine q_skip hf (d := 157) (e := 153) (b := false) rfl rfl (by simp) rfl rfl (by decide) (by simp) (fun A hA157 hf => ?_)
              refine q_skip hf (d := 158) (e := 153) (b := false) rfl rfl (by simp) rfl rfl (by decide) (by simp) (fun A hA158 hf => ?_)
              refine q_skip hf (d := 159) (e := 153) (b := false) rfl rfl (by simp) rfl rfl (by decide) (by simp) (fun A hA159 hf => ?_)
              refine q_skip hf (d := 160) (e := 153) (b := false) rfl rfl (by simp) rfl rfl (by decide) (by simp) (fun A hA160 hf => ?_)
              refine q_step hf (d := 161) (v := .bool false) rfl rfl (by decide) (by simp) (fun w' hw' => ?_) (fun A hA161 hf => ?_)
              · have f153 := hf.get (d := 153) (v := .bool false) (by simp)
                have f160 := hf.get (d := 160) (v := undef) (by simp)
                clear hf
                simp [Oper.quietAt, Oper.quietUpon, go_sem, f153, f160]
              refine wpQuiet_nil (fun w' hw' => ?_)
              clear hf
              subst hA161 hA160 hA159 hA158 hA157 hA156 hA155 hA154 hA153 hA152 hA
              simp only [Act.put, List.setIfInBounds_toArray, List.set_cons_succ, List.set_cons_zero]
              go_wp2
              go_meet
              exact ⟨rfl, hw'⟩
            · have HB1 := HA1.out rfl
              refine wp_region_quiet (C := fun w' => Sg w w' (rG kSp (.slice (some ⟨b19, 0, none⟩) 1 1) [(px, py)] :: [rG kD (.slice (some ⟨b16, 0, none⟩) 1 1) [⟨G2, q16, M2, c16⟩], rG kO (.slice q16 M2 c16) K2, rG kD (.slice (some ⟨b14, 0, none⟩) 1 1) [⟨E2, q14, N2, c14⟩], rG kO (.slice q14 N2 c14) L2, rG kSp (.slice (some ⟨b13, 0, none⟩) 1 1) [(os, ot)], rG kD (.slice (some ⟨b12, 0, none⟩) 1 1) [⟨oe, oq, on, oc⟩], r3, rG kD (.slice (some ⟨b10, 0, none⟩) 1 1) [⟨G2, q10, M2, c10⟩], rG kO (.slice q10 M2 c10) K2, rG kC (.slice (some ⟨b8, 0, none⟩) 1 1) [(gl, gx, gy)], rG kD (.slice (some ⟨b7, 0, none⟩) 1 1) [⟨ge, gq, gn, gc⟩], r2, rG kD (.slice (some ⟨b5, 0, none⟩) 1 1) [⟨E2, q5, N2, c5⟩], rG kO (.slice q5 N2 c5) L2, rG kC (.slice (some ⟨b4, 0, none⟩) 1 1) [(l, x, y)], rG kD (.slice (some ⟨b3, 0, none⟩) 1 1) [⟨e, q, n, c⟩], r1])) (by kernel_rfl) (by kernel_rfl) (Sg.dr hx) ?_
              refine q_intro (fun A hA => ?_)
              have hf : Fr 202 A [(3, .pointer (some ⟨b3, 0, none⟩)), (5, .pointer (some ⟨b5, 0, none⟩)), (6, .bool true), (19, .pointer (some ⟨b19, 0, none⟩))] := by subst hA; exact ⟨rfl, by simp⟩
              refine q_step hf (d := 152) (v := .bool true) rfl rfl (by decide) (by simp) (fun w' hw' => ?_) (fun A hA152 hf => ?_)
              · have f6 := hf.get (d := 6) (v := .bool true) (by simp)
                clear hf
                simp [Oper.quietAt, Oper.quietUpon, go_sem, f6]
              refine q_step hf (d := 153) (v := .bool true) rfl rfl (by decide) (by simp) (fun w' hw' => ?_) (fun A hA153 hf => ?_)
              · have f152 := hf.get (d := 152) (v := .bool true) (by simp)
                clear hf
                simp [Oper.quietAt, Oper.quietUpon, go_sem, f152]
              refine q_want hf (d := 154) (v := .agg #[.int .i64 E2, .slice q5 N2 c5]) (e := 153) rfl rfl (by simp) rfl (by decide) (by simp) (fun w' hw' => ?_) (fun A hA154 hf => ?_)
              · have hc := hS _ hw'
                have f5 := hf.get (d := 5) (v := .pointer (some ⟨b5, 0, none⟩)) (by simp)
                clear hf
                simp [Oper.quietAt, Oper.quietUpon, go_sem, f5, hc]
              refine q_want hf (d := 155) (v := .agg #[.int .i64 px, .int .i64 py]) (e := 153) rfl rfl (by simp) rfl (by decide) (by simp) (fun w' hw' => ?_) (fun A hA155 hf => ?_)
              · have hc := hS _ hw'
                have f19 := hf.get (d := 19) (v := .pointer (some ⟨b19, 0, none⟩)) (by simp)
                clear hf
                simp [Oper.quietAt, Oper.quietUpon, go_sem, f19, hc]
              refine q_want hf (d := 156) (v := .int .i64 sd_) (e := 153) rfl rfl (by simp) rfl (by decide) (by simp) (fun w' hw' => ?_) (fun A hA156 hf => ?_)
              · have f154 := hf.get (d := 154) (v := .agg #[.int .i64 E2, .slice q5 N2 c5]) (by simp)
                have f155 := hf.get (d := 155) (v := .agg #[.int .i64 px, .int .i64 py]) (by simp)
                clear hf
                simp [Oper.quietAt, Oper.quietUpon, go_sem, f154, f155]
                exact HB1 _ hw'
              refine q_want hf (d := 157) (v := .agg #[.int .i64 e, .slice q n c]) (e := 153) rfl rfl (by simp) rfl (by decide) (by simp) (fun w' hw' => ?_) (fun A hA157 hf => ?_)
              · have hc := hS _ hw'
                have f3 := hf.get (d := 3) (v := .pointer (some ⟨b3, 0, none⟩)) (by simp)
                clear hf
                simp [Oper.quietAt, Oper.quietUpon, go_sem, f3, hc]
              refine q_want hf (d := 158) (v := .agg #[.int .i64 px, .int .i64 py]) (e := 153) rfl rfl (by simp) rfl (by decide) (by simp) (fun w' hw' => ?_) (fun A hA158 hf => ?_)
              · have hc := hS _ hw'
                have f19 := hf.get (d := 19) (v := .pointer (some ⟨b19, 0, none⟩)) (by simp)
                clear hf
                simp [Oper.quietAt, Oper.quietUpon, go_sem, f19, hc]
              refine q_want hf (d := 159) (v := .int .i64 sd_) (e := 153) rfl rfl (by simp) rfl (by decide) (by simp) (fun w' hw' => ?_) (fun A hA159 hf => ?_)
              · have f157 := hf.get (d := 157) (v := .agg #[.int .i64 e, .slice q n c]) (by simp)
                have f158 := hf.get (d := 158) (v := .agg #[.int .i64 px, .int .i64 py]) (by simp)
                clear hf
                simp [Oper.quietAt, Oper.quietUpon, go_sem, f157, f158]
                exact HA2.out _ hw'
              refine q_want hf (d := 160) (v := .bool false) (e := 153) rfl rfl (by simp) rfl (by decide) (by simp) (fun w' hw' => ?_) (fun A hA160 hf => ?_)
              · have f156 := hf.get (d := 156) (v := .int .i64 sd_) (by simp)
                have f159 := hf.get (d := 159) (v := .int .i64 sd_) (by simp)
                clear hf
                simp [Oper.quietAt, Oper.quietUpon, go_sem, f156, f159]
              refine q_step hf (d := 161) (v := .bool false) rfl rfl (by decide) (by simp) (fun w' hw' => ?_) (fun A hA161 hf => ?_)
              · have f153 := hf.get (d := 153) (v := .bool true) (by simp)
                have f160 := hf.get (d := 160) (v := .bool false) (by simp)
                clear hf
                simp [Oper.quietAt, Oper.quietUpon, go_sem, f153, f160]
              refine wpQuiet_nil (fun w' hw' => ?_)
              clear hf
              subst hA161 hA160 hA159 hA158 hA157 hA156 hA155 hA154 hA153 hA152 hA
              simp only [Act.put, List.setIfInBounds_toArray, List.set_cons_succ, List.set_cons_zero]
              go_wp2
              go_meet
              exact ⟨rfl, hw'⟩
          case rest =>
            clear hx
            obtain ⟨rfl, hx⟩ := hcut
            cases gb
            · go_wp2
              go_roundw
              case rel => exact ⟨k + 1, by omega, by go_num, hx.sub (List.sublist_cons_self ..)⟩
              case measure => simp [intOf]; omega
            · obtain ⟨-, -, -, hcell, -⟩ := HG.out rfl
              obtain ⟨ra, hra⟩ : ∃ z, gx * M.sd gl = z := ⟨_, rfl⟩
              obtain ⟨rb, hrb⟩ : ∃ z, gy * M.sd gl = z := ⟨_, rfl⟩
              obtain ⟨rd, hrd⟩ : ∃ z, M.sd gl = z := ⟨_, rfl⟩
              have hok := (cell_rect hcell).1
              rw [hra, hrb, hrd] at hok
              have hhol : M.holdsB ra rb rd rd px py = hb := by
                rw [← hhb]
                unfold M.holdsB holdO M.inR
                rw [hok, hsp, hra, hrb, hrd]; rfl
              have HR : ∀ w', Sg w w' (rG kSp (.slice (some ⟨b19, 0, none⟩) 1 1) [(px, py)] :: [rG kD (.slice (some ⟨b16, 0, none⟩) 1 1) [⟨G2, q16, M2, c16⟩], rG kO (.slice q16 M2 c16) K2, rG kD (.slice (some ⟨b14, 0, none⟩) 1 1) [⟨E2, q14, N2, c14⟩], rG kO (.slice q14 N2 c14) L2, rG kSp (.slice (some ⟨b13, 0, none⟩) 1 1) [(os, ot)], rG kD (.slice (some ⟨b12, 0, none⟩) 1 1) [⟨oe, oq, on, oc⟩], r3, rG kD (.slice (some ⟨b10, 0, none⟩) 1 1) [⟨G2, q10, M2, c10⟩], rG kO (.slice q10 M2 c10) K2, rG kC (.slice (some ⟨b8, 0, none⟩) 1 1) [(gl, gx, gy)], rG kD (.slice (some ⟨b7, 0, none⟩) 1 1) [⟨ge, gq, gn, gc⟩], r2, rG kD (.slice (some ⟨b5, 0, none⟩) 1 1) [⟨E2, q5, N2, c5⟩], rG kO (.slice q5 N2 c5) L2, rG kC (.slice (some ⟨b4, 0, none⟩) 1 1) [(l, x, y)], rG kD (.slice (some ⟨b3, 0, none⟩) 1 1) [⟨e, q, n, c⟩], r1]) → Calls Try.prog 26 #[.agg #[.int .i64 gl, .int .i64 gx, .int .i64 gy]] w' fun ee w'' => ee = .returned (.agg #[.int .i64 ra, .int .i64 rb, .int .i64 rd, .int .i64 rd]) ∧ Sg w w'' (rG kSp (.slice (some ⟨b19, 0, none⟩) 1 1) [(px, py)] :: [rG kD (.slice (some ⟨b16, 0, none⟩) 1 1) [⟨G2, q16, M2, c16⟩], rG kO (.slice q16 M2 c16) K2, rG kD (.slice (some ⟨b14, 0, none⟩) 1 1) [⟨E2, q14, N2, c14⟩], rG kO (.slice q14 N2 c14) L2, rG kSp (.slice (some ⟨b13, 0, none⟩) 1 1) [(os, ot)], rG kD (.slice (some ⟨b12, 0, none⟩) 1 1) [⟨oe, oq, on, oc⟩], r3, rG kD (.slice (some ⟨b10, 0, none⟩) 1 1) [⟨G2, q10, M2, c10⟩], rG kO (.slice q10 M2 c10) K2, rG kC (.slice (some ⟨b8, 0, none⟩) 1 1) [(gl, gx, gy)], rG kD (.slice (some ⟨b7, 0, none⟩) 1 1) [⟨ge, gq, gn, gc⟩], r2, rG kD (.slice (some ⟨b5, 0, none⟩) 1 1) [⟨E2, q5, N2, c5⟩], rG kO (.slice q5 N2 c5) L2, rG kC (.slice (some ⟨b4, 0, none⟩) 1 1) [(l, x, y)], rG kD (.slice (some ⟨b3, 0, none⟩) 1 1) [⟨e, q, n, c⟩], r1]) := fun w' hw' => (rect_v hcell hra hrb hrd w').mono fun _ _ hh => ⟨hh.1, hw'.step hh.2⟩
              have HHo : ∀ w', Sg w w' (rG kSp (.slice (some ⟨b19, 0, none⟩) 1 1) [(px, py)] :: [rG kD (.slice (some ⟨b16, 0, none⟩) 1 1) [⟨G2, q16, M2, c16⟩], rG kO (.slice q16 M2 c16) K2, rG kD (.slice (some ⟨b14, 0, none⟩) 1 1) [⟨E2, q14, N2, c14⟩], rG kO (.slice q14 N2 c14) L2, rG kSp (.slice (some ⟨b13, 0, none⟩) 1 1) [(os, ot)], rG kD (.slice (some ⟨b12, 0, none⟩) 1 1) [⟨oe, oq, on, oc⟩], r3, rG kD (.slice (some ⟨b10, 0, none⟩) 1 1) [⟨G2, q10, M2, c10⟩], rG kO (.slice q10 M2 c10) K2, rG kC (.slice (some ⟨b8, 0, none⟩) 1 1) [(gl, gx, gy)], rG kD (.slice (some ⟨b7, 0, none⟩) 1 1) [⟨ge, gq, gn, gc⟩], r2, rG kD (.slice (some ⟨b5, 0, none⟩) 1 1) [⟨E2, q5, N2, c5⟩], rG kO (.slice q5 N2 c5) L2, rG kC (.slice (some ⟨b4, 0, none⟩) 1 1) [(l, x, y)], rG kD (.slice (some ⟨b3, 0, none⟩) 1 1) [⟨e, q, n, c⟩], r1]) → Calls Try.prog 25 #[.agg #[.int .i64 ra, .int .i64 rb, .int .i64 rd, .int .i64 rd], .agg #[.int .i64 px, .int .i64 py]] w' fun ee w'' => ee = .returned (.bool hb) ∧ Sg w w'' (rG kSp (.slice (some ⟨b19, 0, none⟩) 1 1) [(px, py)] :: [rG kD (.slice (some ⟨b16, 0, none⟩) 1 1) [⟨G2, q16, M2, c16⟩], rG kO (.slice q16 M2 c16) K2, rG kD (.slice (some ⟨b14, 0, none⟩) 1 1) [⟨E2, q14, N2, c14⟩], rG kO (.slice q14 N2 c14) L2, rG kSp (.slice (some ⟨b13, 0, none⟩) 1 1) [(os, ot)], rG kD (.slice (some ⟨b12, 0, none⟩) 1 1) [⟨oe, oq, on, oc⟩], r3, rG kD (.slice (some ⟨b10, 0, none⟩) 1 1) [⟨G2, q10, M2, c10⟩], rG kO (.slice q10 M2 c10) K2, rG kC (.slice (some ⟨b8, 0, none⟩) 1 1) [(gl, gx, gy)], rG kD (.slice (some ⟨b7, 0, none⟩) 1 1) [⟨ge, gq, gn, gc⟩], r2, rG kD (.slice (some ⟨b5, 0, none⟩) 1 1) [⟨E2, q5, N2, c5⟩], rG kO (.slice q5 N2 c5) L2, rG kC (.slice (some ⟨b4, 0, none⟩) 1 1) [(l, x, y)], rG kD (.slice (some ⟨b3, 0, none⟩) 1 1) [⟨e, q, n, c⟩], r1]) := fun w' hw' => (hhol ▸ M.iHolds_any ra rb rd rd px py w').mono fun _ _ hh => ⟨hh.1, hw'.step hh.2⟩
              clear hok hhol hra hrb hrd hhb hcell
              go_upto_region 23 with (fail)
              refine wp_region_quiet (C := fun w' => Sg w w' (rG kSp (.slice (some ⟨b19, 0, none⟩) 1 1) [(px, py)] :: [rG kD (.slice (some ⟨b16, 0, none⟩) 1 1) [⟨G2, q16, M2, c16⟩], rG kO (.slice q16 M2 c16) K2, rG kD (.slice (some ⟨b14, 0, none⟩) 1 1) [⟨E2, q14, N2, c14⟩], rG kO (.slice q14 N2 c14) L2, rG kSp (.slice (some ⟨b13, 0, none⟩) 1 1) [(os, ot)], rG kD (.slice (some ⟨b12, 0, none⟩) 1 1) [⟨oe, oq, on, oc⟩], r3, rG kD (.slice (some ⟨b10, 0, none⟩) 1 1) [⟨G2, q10, M2, c10⟩], rG kO (.slice q10 M2 c10) K2, rG kC (.slice (some ⟨b8, 0, none⟩) 1 1) [(gl, gx, gy)], rG kD (.slice (some ⟨b7, 0, none⟩) 1 1) [⟨ge, gq, gn, gc⟩], r2, rG kD (.slice (some ⟨b5, 0, none⟩) 1 1) [⟨E2, q5, N2, c5⟩], rG kO (.slice q5 N2 c5) L2, rG kC (.slice (some ⟨b4, 0, none⟩) 1 1) [(l, x, y)], rG kD (.slice (some ⟨b3, 0, none⟩) 1 1) [⟨e, q, n, c⟩], r1])) (by kernel_rfl) (by kernel_rfl) (Sg.dr hx) ?_
              refine q_intro (fun A hA => ?_)
              have hf : Fr 202 A [(8, .pointer (some ⟨b8, 0, none⟩)), (19, .pointer (some ⟨b19, 0, none⟩))] := by subst hA; exact ⟨rfl, by simp⟩
              refine q_step hf (d := 163) (v := .agg #[.int .i64 gl, .int .i64 gx, .int .i64 gy]) rfl rfl (by decide) (by simp) (fun w' hw' => ?_) (fun A hA163 hf => ?_)
              · have hc := hS _ hw'
                have f8 := hf.get (d := 8) (v := .pointer (some ⟨b8, 0, none⟩)) (by simp)
                clear hf
                simp [Oper.quietAt, Oper.quietUpon, go_sem, f8, hc]
              refine q_step hf (d := 164) (v := .agg #[.int .i64 ra, .int .i64 rb, .int .i64 rd, .int .i64 rd]) rfl rfl (by decide) (by simp) (fun w' hw' => ?_) (fun A hA164 hf => ?_)
              · have f163 := hf.get (d := 163) (v := .agg #[.int .i64 gl, .int .i64 gx, .int .i64 gy]) (by simp)
                clear hf
                simp [Oper.quietAt, Oper.quietUpon, go_sem, f163]
                exact HR _ hw'
              refine q_step hf (d := 165) (v := .agg #[.int .i64 px, .int .i64 py]) rfl rfl (by decide) (by simp) (fun w' hw' => ?_) (fun A hA165 hf => ?_)
              · have hc := hS _ hw'
                have f19 := hf.get (d := 19) (v := .pointer (some ⟨b19, 0, none⟩)) (by simp)
                clear hf
                simp [Oper.quietAt, Oper.quietUpon, go_sem, f19, hc]
              refine q_step hf (d := 166) (v := .bool hb) rfl rfl (by decide) (by simp) (fun w' hw' => ?_) (fun A hA166 hf => ?_)
              · have f164 := hf.get (d := 164) (v := .agg #[.int .i64 ra, .int .i64 rb, .int .i64 rd, .int .i64 rd]) (by simp)
                have f165 := hf.get (d := 165) (v := .agg #[.int .i64 px, .int .i64 py]) (by simp)
                clear hf
                simp [Oper.quietAt, Oper.quietUpon, go_sem, f164, f165]
                exact HHo _ hw'
              refine q_step hf (d := 20) (v := .bool hb) rfl rfl (by decide) (by simp) (fun w' hw' => ?_) (fun A hA20 hf => ?_)
              · have f166 := hf.get (d := 166) (v := .bool hb) (by simp)
                clear hf
                simp [Oper.quietAt, Oper.quietUpon, go_sem, f166]
              refine wpQuiet_nil (fun w' hw' => ?_)
              clear hf
              subst hA20 hA166 hA165 hA164 hA163 hA
              simp only [Act.put, List.setIfInBounds_toArray, List.set_cons_succ, List.set_cons_zero]
              clear hx
              have hx := hw'
              clear hw'
              go_upto_region 24 with (fail)
              cases hb
              · have HB3 : ∀ w', Sg w w' (rG kSp (.slice (some ⟨b19, 0, none⟩) 1 1) [(px, py)] :: [rG kD (.slice (some ⟨b16, 0, none⟩) 1 1) [⟨G2, q16, M2, c16⟩], rG kO (.slice q16 M2 c16) K2, rG kD (.slice (some ⟨b14, 0, none⟩) 1 1) [⟨E2, q14, N2, c14⟩], rG kO (.slice q14 N2 c14) L2, rG kSp (.slice (some ⟨b13, 0, none⟩) 1 1) [(os, ot)], rG kD (.slice (some ⟨b12, 0, none⟩) 1 1) [⟨oe, oq, on, oc⟩], r3, rG kD (.slice (some ⟨b10, 0, none⟩) 1 1) [⟨G2, q10, M2, c10⟩], rG kO (.slice q10 M2 c10) K2, rG kC (.slice (some ⟨b8, 0, none⟩) 1 1) [(gl, gx, gy)], rG kD (.slice (some ⟨b7, 0, none⟩) 1 1) [⟨ge, gq, gn, gc⟩], r2, rG kD (.slice (some ⟨b5, 0, none⟩) 1 1) [⟨E2, q5, N2, c5⟩], rG kO (.slice q5 N2 c5) L2, rG kC (.slice (some ⟨b4, 0, none⟩) 1 1) [(l, x, y)], rG kD (.slice (some ⟨b3, 0, none⟩) 1 1) [⟨e, q, n, c⟩], r1]) → Calls Try.prog 19 #[.agg #[.int .i64 G2, .slice q10 M2 c10], .agg #[.int .i64 px, .int .i64 py]] w' fun ee w'' => ee = .returned (.int .i64 sg_) ∧ Sg w w'' (rG kSp (.slice (some ⟨b19, 0, none⟩) 1 1) [(px, py)] :: [rG kD (.slice (some ⟨b16, 0, none⟩) 1 1) [⟨G2, q16, M2, c16⟩], rG kO (.slice q16 M2 c16) K2, rG kD (.slice (some ⟨b14, 0, none⟩) 1 1) [⟨E2, q14, N2, c14⟩], rG kO (.slice q14 N2 c14) L2, rG kSp (.slice (some ⟨b13, 0, none⟩) 1 1) [(os, ot)], rG kD (.slice (some ⟨b12, 0, none⟩) 1 1) [⟨oe, oq, on, oc⟩], r3, rG kD (.slice (some ⟨b10, 0, none⟩) 1 1) [⟨G2, q10, M2, c10⟩], rG kO (.slice q10 M2 c10) K2, rG kC (.slice (some ⟨b8, 0, none⟩) 1 1) [(gl, gx, gy)], rG kD (.slice (some ⟨b7, 0, none⟩) 1 1) [⟨ge, gq, gn, gc⟩], r2, rG kD (.slice (some ⟨b5, 0, none⟩) 1 1) [⟨E2, q5, N2, c5⟩], rG kO (.slice q5 N2 c5) L2, rG kC (.slice (some ⟨b4, 0, none⟩) 1 1) [(l, x, y)], rG kD (.slice (some ⟨b3, 0, none⟩) 1 1) [⟨e, q, n, c⟩], r1]) := HA3.out rfl
                refine wp_region_quiet (C := fun w' => Sg w w' (rG kSp (.slice (some ⟨b19, 0, none⟩) 1 1) [(px, py)] :: [rG kD (.slice (some ⟨b16, 0, none⟩) 1 1) [⟨G2, q16, M2, c16⟩], rG kO (.slice q16 M2 c16) K2, rG kD (.slice (some ⟨b14, 0, none⟩) 1 1) [⟨E2, q14, N2, c14⟩], rG kO (.slice q14 N2 c14) L2, rG kSp (.slice (some ⟨b13, 0, none⟩) 1 1) [(os, ot)], rG kD (.slice (some ⟨b12, 0, none⟩) 1 1) [⟨oe, oq, on, oc⟩], r3, rG kD (.slice (some ⟨b10, 0, none⟩) 1 1) [⟨G2, q10, M2, c10⟩], rG kO (.slice q10 M2 c10) K2, rG kC (.slice (some ⟨b8, 0, none⟩) 1 1) [(gl, gx, gy)], rG kD (.slice (some ⟨b7, 0, none⟩) 1 1) [⟨ge, gq, gn, gc⟩], r2, rG kD (.slice (some ⟨b5, 0, none⟩) 1 1) [⟨E2, q5, N2, c5⟩], rG kO (.slice q5 N2 c5) L2, rG kC (.slice (some ⟨b4, 0, none⟩) 1 1) [(l, x, y)], rG kD (.slice (some ⟨b3, 0, none⟩) 1 1) [⟨e, q, n, c⟩], r1])) (by kernel_rfl) (by kernel_rfl) (Sg.dr hx) ?_
                refine q_intro (fun A hA => ?_)
                have hf : Fr 202 A [(20, .bool false), (9, .int .i64 gs), (10, .pointer (some ⟨b10, 0, none⟩)), (19, .pointer (some ⟨b19, 0, none⟩)), (7, .pointer (some ⟨b7, 0, none⟩))] := by subst hA; exact ⟨rfl, by simp⟩
                refine q_step hf (d := 167) (v := .bool false) rfl rfl (by decide) (by simp) (fun w' hw' => ?_) (fun A hA167 hf => ?_)
                · have f20 := hf.get (d := 20) (v := .bool false) (by simp)
                  clear hf
                  simp [Oper.quietAt, Oper.quietUpon, go_sem, f20]
                refine q_step hf (d := 168) (v := .bool false) rfl rfl (by decide) (by simp) (fun w' hw' => ?_) (fun A hA168 hf => ?_)
                · have f167 := hf.get (d := 167) (v := .bool false) (by simp)
                  clear hf
                  simp [Oper.quietAt, Oper.quietUpon, go_sem, f167]
                refine q_skip hf (d := 169) (e := 168) (b := false) rfl rfl (by simp) rfl rfl (by decide) (by simp) (fun A hA169 hf => ?_)
                refine q_skip hf (d := 170) (e := 168) (b := false) rfl rfl (by simp) rfl rfl (by decide) (by simp) (fun A hA170 hf => ?_)
                refine q_skip hf (d := 171) (e := 168) (b := false) rfl rfl (by simp) rfl rfl (by decide) (by simp) (fun A hA171 hf => ?_)
                refine q_skip hf (d := 172) (e := 168) (b := false) rfl rfl (by simp) rfl rfl (by decide) (by simp) (fun A hA172 hf => ?_)
                refine q_skip hf (d := 173) (e := 168) (b := false) rfl rfl (by simp) rfl rfl (by decide) (by simp) (fun A hA173 hf => ?_)
                refine q_step hf (d := 174) (v := .bool false) rfl rfl (by decide) (by simp) (fun w' hw' => ?_) (fun A hA174 hf => ?_)
                · have f168 := hf.get (d := 168) (v := .bool false) (by simp)
                  have f173 := hf.get (d := 173) (v := undef) (by simp)
                  clear hf
                  simp [Oper.quietAt, Oper.quietUpon, go_sem, f168, f173]
                refine q_step hf (d := 175) (v := .bool false) rfl rfl (by decide) (by simp) (fun w' hw' => ?_) (fun A hA175 hf => ?_)
                · have f174 := hf.get (d := 174) (v := .bool false) (by simp)
                  clear hf
                  simp [Oper.quietAt, Oper.quietUpon, go_sem, f174]
                refine q_want hf (d := 176) (v := .bool false) (e := 175) rfl rfl (by simp) rfl (by decide) (by simp) (fun w' hw' => ?_) (fun A hA176 hf => ?_)
                · have f20 := hf.get (d := 20) (v := .bool false) (by simp)
                  clear hf
                  simp [Oper.quietAt, Oper.quietUpon, go_sem, f20]
                refine q_want hf (d := 177) (v := .bool true) (e := 175) rfl rfl (by simp) rfl (by decide) (by simp) (fun w' hw' => ?_) (fun A hA177 hf => ?_)
                · have f176 := hf.get (d := 176) (v := .bool false) (by simp)
                  clear hf
                  simp [Oper.quietAt, Oper.quietUpon, go_sem, f176]
                refine q_want hf (d := 178) (v := .bool true) (e := 175) rfl rfl (by simp) rfl (by decide) (by simp) (fun w' hw' => ?_) (fun A hA178 hf => ?_)
                · have f177 := hf.get (d := 177) (v := .bool true) (by simp)
                  clear hf
                  simp [Oper.quietAt, Oper.quietUpon, go_sem, f177]
                refine q_want hf (d := 179) (v := .agg #[.int .i64 G2, .slice q10 M2 c10]) (e := 178) rfl rfl (by simp) rfl (by decide) (by simp) (fun w' hw' => ?_) (fun A hA179 hf => ?_)
                · have hc := hS _ hw'
                  have f10 := hf.get (d := 10) (v := .pointer (some ⟨b10, 0, none⟩)) (by simp)
                  clear hf
                  simp [Oper.quietAt, Oper.quietUpon, go_sem, f10, hc]
                refine q_want hf (d := 180) (v := .agg #[.int .i64 px, .int .i64 py]) (e := 178) rfl rfl (by simp) rfl (by decide) (by simp) (fun w' hw' => ?_) (fun A hA180 hf => ?_)
                · have hc := hS _ hw'
                  have f19 := hf.get (d := 19) (v := .pointer (some ⟨b19, 0, none⟩)) (by simp)
                  clear hf
                  simp [Oper.quietAt, Oper.quietUpon, go_sem, f19, hc]
                refine q_want hf (d := 181) (v := .int .i64 sg_) (e := 178) rfl rfl (by simp) rfl (by decide) (by simp) (fun w' hw' => ?_) (fun A hA181 hf => ?_)
                · have f179 := hf.get (d := 179) (v := .agg #[.int .i64 G2, .slice q10 M2 c10]) (by simp)
                  have f180 := hf.get (d := 180) (v := .agg #[.int .i64 px, .int .i64 py]) (by simp)
                  clear hf
                  simp [Oper.quietAt, Oper.quietUpon, go_sem, f179, f180]
                  exact HB3 _ hw'
                refine q_want hf (d := 182) (v := .agg #[.int .i64 ge, .slice gq gn gc]) (e := 178) rfl rfl (by simp) rfl (by decide) (by simp) (fun w' hw' => ?_) (fun A hA182 hf => ?_)
                · have hc := hS _ hw'
                  have f7 := hf.get (d := 7) (v := .pointer (some ⟨b7, 0, none⟩)) (by simp)
                  clear hf
                  simp [Oper.quietAt, Oper.quietUpon, go_sem, f7, hc]
                refine q_want hf (d := 183) (v := .agg #[.int .i64 px, .int .i64 py]) (e := 178) rfl rfl (by simp) rfl (by decide) (by simp) (fun w' hw' => ?_) (fun A hA183 hf => ?_)
                · have hc := hS _ hw'
                  have f19 := hf.get (d := 19) (v := .pointer (some ⟨b19, 0, none⟩)) (by simp)
                  clear hf
                  simp [Oper.quietAt, Oper.quietUpon, go_sem, f19, hc]
                refine q_want hf (d := 184) (v := .int .i64 sg_) (e := 178) rfl rfl (by simp) rfl (by decide) (by simp) (fun w' hw' => ?_) (fun A hA184 hf => ?_)
                · have f182 := hf.get (d := 182) (v := .agg #[.int .i64 ge, .slice gq gn gc]) (by simp)
                  have f183 := hf.get (d := 183) (v := .agg #[.int .i64 px, .int .i64 py]) (by simp)
                  clear hf
                  simp [Oper.quietAt, Oper.quietUpon, go_sem, f182, f183]
                  exact HA4.out _ hw'
                refine q_want hf (d := 185) (v := .bool false) (e := 178) rfl rfl (by simp) rfl (by decide) (by simp) (fun w' hw' => ?_) (fun A hA185 hf => ?_)
                · have f181 := hf.get (d := 181) (v := .int .i64 sg_) (by simp)
                  have f184 := hf.get (d := 184) (v := .int .i64 sg_) (by simp)
                  clear hf
                  simp [Oper.quietAt, Oper.quietUpon, go_sem, f181, f184]
                refine q_want hf (d := 186) (v := .bool false) (e := 175) rfl rfl (by simp) rfl (by decide) (by simp) (fun w' hw' => ?_) (fun A hA186 hf => ?_)
                · have f178 := hf.get (d := 178) (v := .bool true) (by simp)
                  have f185 := hf.get (d := 185) (v := .bool false) (by simp)
                  clear hf
                  simp [Oper.quietAt, Oper.quietUpon, go_sem, f178, f185]
                refine q_step hf (d := 187) (v := .bool false) rfl rfl (by decide) (by simp) (fun w' hw' => ?_) (fun A hA187 hf => ?_)
                · have f175 := hf.get (d := 175) (v := .bool false) (by simp)
                  have f186 := hf.get (d := 186) (v := .bool false) (by simp)
                  clear hf
                  simp [Oper.quietAt, Oper.quietUpon, go_sem, f175, f186]
                refine wpQuiet_nil (fun w' hw' => ?_)
                clear hf
                subst hA187 hA186 hA185 hA184 hA183 hA182 hA181 hA180 hA179 hA178 hA177 hA176 hA175 hA174 hA173 hA172 hA171 hA170 hA169 hA168 hA167 hA
                simp only [Act.put, List.setIfInBounds_toArray, List.set_cons_succ, List.set_cons_zero]
                go_wp2
                go_roundw
                case rel => exact ⟨k + 1, by omega, by go_num, hw'.sub (List.sublist_cons_self ..)⟩
                case measure => simp [intOf]; omega
              · have HB3 : ∀ w', Sg w w' (rG kSp (.slice (some ⟨b19, 0, none⟩) 1 1) [(px, py)] :: [rG kD (.slice (some ⟨b16, 0, none⟩) 1 1) [⟨G2, q16, M2, c16⟩], rG kO (.slice q16 M2 c16) K2, rG kD (.slice (some ⟨b14, 0, none⟩) 1 1) [⟨E2, q14, N2, c14⟩], rG kO (.slice q14 N2 c14) L2, rG kSp (.slice (some ⟨b13, 0, none⟩) 1 1) [(os, ot)], rG kD (.slice (some ⟨b12, 0, none⟩) 1 1) [⟨oe, oq, on, oc⟩], r3, rG kD (.slice (some ⟨b10, 0, none⟩) 1 1) [⟨G2, q10, M2, c10⟩], rG kO (.slice q10 M2 c10) K2, rG kC (.slice (some ⟨b8, 0, none⟩) 1 1) [(gl, gx, gy)], rG kD (.slice (some ⟨b7, 0, none⟩) 1 1) [⟨ge, gq, gn, gc⟩], r2, rG kD (.slice (some ⟨b5, 0, none⟩) 1 1) [⟨E2, q5, N2, c5⟩], rG kO (.slice q5 N2 c5) L2, rG kC (.slice (some ⟨b4, 0, none⟩) 1 1) [(l, x, y)], rG kD (.slice (some ⟨b3, 0, none⟩) 1 1) [⟨e, q, n, c⟩], r1]) → Calls Try.prog 19 #[.agg #[.int .i64 G2, .slice q10 M2 c10], .agg #[.int .i64 px, .int .i64 py]] w' fun ee w'' => ee = .returned (.int .i64 gs) ∧ Sg w w'' (rG kSp (.slice (some ⟨b19, 0, none⟩) 1 1) [(px, py)] :: [rG kD (.slice (some ⟨b16, 0, none⟩) 1 1) [⟨G2, q16, M2, c16⟩], rG kO (.slice q16 M2 c16) K2, rG kD (.slice (some ⟨b14, 0, none⟩) 1 1) [⟨E2, q14, N2, c14⟩], rG kO (.slice q14 N2 c14) L2, rG kSp (.slice (some ⟨b13, 0, none⟩) 1 1) [(os, ot)], rG kD (.slice (some ⟨b12, 0, none⟩) 1 1) [⟨oe, oq, on, oc⟩], r3, rG kD (.slice (some ⟨b10, 0, none⟩) 1 1) [⟨G2, q10, M2, c10⟩], rG kO (.slice q10 M2 c10) K2, rG kC (.slice (some ⟨b8, 0, none⟩) 1 1) [(gl, gx, gy)], rG kD (.slice (some ⟨b7, 0, none⟩) 1 1) [⟨ge, gq, gn, gc⟩], r2, rG kD (.slice (some ⟨b5, 0, none⟩) 1 1) [⟨E2, q5, N2, c5⟩], rG kO (.slice q5 N2 c5) L2, rG kC (.slice (some ⟨b4, 0, none⟩) 1 1) [(l, x, y)], rG kD (.slice (some ⟨b3, 0, none⟩) 1 1) [⟨e, q, n, c⟩], r1]) := HA3.out rfl
                refine wp_region_quiet (C := fun w' => Sg w w' (rG kSp (.slice (some ⟨b19, 0, none⟩) 1 1) [(px, py)] :: [rG kD (.slice (some ⟨b16, 0, none⟩) 1 1) [⟨G2, q16, M2, c16⟩], rG kO (.slice q16 M2 c16) K2, rG kD (.slice (some ⟨b14, 0, none⟩) 1 1) [⟨E2, q14, N2, c14⟩], rG kO (.slice q14 N2 c14) L2, rG kSp (.slice (some ⟨b13, 0, none⟩) 1 1) [(os, ot)], rG kD (.slice (some ⟨b12, 0, none⟩) 1 1) [⟨oe, oq, on, oc⟩], r3, rG kD (.slice (some ⟨b10, 0, none⟩) 1 1) [⟨G2, q10, M2, c10⟩], rG kO (.slice q10 M2 c10) K2, rG kC (.slice (some ⟨b8, 0, none⟩) 1 1) [(gl, gx, gy)], rG kD (.slice (some ⟨b7, 0, none⟩) 1 1) [⟨ge, gq, gn, gc⟩], r2, rG kD (.slice (some ⟨b5, 0, none⟩) 1 1) [⟨E2, q5, N2, c5⟩], rG kO (.slice q5 N2 c5) L2, rG kC (.slice (some ⟨b4, 0, none⟩) 1 1) [(l, x, y)], rG kD (.slice (some ⟨b3, 0, none⟩) 1 1) [⟨e, q, n, c⟩], r1])) (by kernel_rfl) (by kernel_rfl) (Sg.dr hx) ?_
                refine q_intro (fun A hA => ?_)
                have hf : Fr 202 A [(20, .bool true), (9, .int .i64 gs), (10, .pointer (some ⟨b10, 0, none⟩)), (19, .pointer (some ⟨b19, 0, none⟩)), (7, .pointer (some ⟨b7, 0, none⟩))] := by subst hA; exact ⟨rfl, by simp⟩
                refine q_step hf (d := 167) (v := .bool true) rfl rfl (by decide) (by simp) (fun w' hw' => ?_) (fun A hA167 hf => ?_)
                · have f20 := hf.get (d := 20) (v := .bool true) (by simp)
                  clear hf
                  simp [Oper.quietAt, Oper.quietUpon, go_sem, f20]
                refine q_step hf (d := 168) (v := .bool true) rfl rfl (by decide) (by simp) (fun w' hw' => ?_) (fun A hA168 hf => ?_)
                · have f167 := hf.get (d := 167) (v := .bool true) (by simp)
                  clear hf
                  simp [Oper.quietAt, Oper.quietUpon, go_sem, f167]
                refine q_want hf (d := 169) (v := .agg #[.int .i64 G2, .slice q10 M2 c10]) (e := 168) rfl rfl (by simp) rfl (by decide) (by simp) (fun w' hw' => ?_) (fun A hA169 hf => ?_)
                · have hc := hS _ hw'
                  have f10 := hf.get (d := 10) (v := .pointer (some ⟨b10, 0, none⟩)) (by simp)
                  clear hf
                  simp [Oper.quietAt, Oper.quietUpon, go_sem, f10, hc]
                refine q_want hf (d := 170) (v := .agg #[.int .i64 px, .int .i64 py]) (e := 168) rfl rfl (by simp) rfl (by decide) (by simp) (fun w' hw' => ?_) (fun A hA170 hf => ?_)
                · have hc := hS _ hw'
                  have f19 := hf.get (d := 19) (v := .pointer (some ⟨b19, 0, none⟩)) (by simp)
                  clear hf
                  simp [Oper.quietAt, Oper.quietUpon, go_sem, f19, hc]
                refine q_want hf (d := 171) (v := .int .i64 gs) (e := 168) rfl rfl (by simp) rfl (by decide) (by simp) (fun w' hw' => ?_) (fun A hA171 hf => ?_)
                · have f169 := hf.get (d := 169) (v := .agg #[.int .i64 G2, .slice q10 M2 c10]) (by simp)
                  have f170 := hf.get (d := 170) (v := .agg #[.int .i64 px, .int .i64 py]) (by simp)
                  clear hf
                  simp [Oper.quietAt, Oper.quietUpon, go_sem, f169, f170]
                  exact HB3 _ hw'
                refine q_want hf (d := 172) (v := .int .i64 gs) (e := 168) rfl rfl (by simp) rfl (by decide) (by simp) (fun w' hw' => ?_) (fun A hA172 hf => ?_)
                · have f9 := hf.get (d := 9) (v := .int .i64 gs) (by simp)
                  clear hf
                  simp [Oper.quietAt, Oper.quietUpon, go_sem, f9]
                refine q_want hf (d := 173) (v := .bool false) (e := 168) rfl rfl (by simp) rfl (by decide) (by simp) (fun w' hw' => ?_) (fun A hA173 hf => ?_)
                · have f171 := hf.get (d := 171) (v := .int .i64 gs) (by simp)
                  have f172 := hf.get (d := 172) (v := .int .i64 gs) (by simp)
                  clear hf
                  simp [Oper.quietAt, Oper.quietUpon, go_sem, f171, f172]
                refine q_step hf (d := 174) (v := .bool false) rfl rfl (by decide) (by simp) (fun w' hw' => ?_) (fun A hA174 hf => ?_)
                · have f168 := hf.get (d := 168) (v := .bool true) (by simp)
                  have f173 := hf.get (d := 173) (v := .bool false) (by simp)
                  clear hf
                  simp [Oper.quietAt, Oper.quietUpon, go_sem, f168, f173]
                refine q_step hf (d := 175) (v := .bool false) rfl rfl (by decide) (by simp) (fun w' hw' => ?_) (fun A hA175 hf => ?_)
                · have f174 := hf.get (d := 174) (v := .bool false) (by simp)
                  clear hf
                  simp [Oper.quietAt, Oper.quietUpon, go_sem, f174]
                refine q_want hf (d := 176) (v := .bool true) (e := 175) rfl rfl (by simp) rfl (by decide) (by simp) (fun w' hw' => ?_) (fun A hA176 hf => ?_)
                · have f20 := hf.get (d := 20) (v := .bool true) (by simp)
                  clear hf
                  simp [Oper.quietAt, Oper.quietUpon, go_sem, f20]
                refine q_want hf (d := 177) (v := .bool false) (e := 175) rfl rfl (by simp) rfl (by decide) (by simp) (fun w' hw' => ?_) (fun A hA177 hf => ?_)
                · have f176 := hf.get (d := 176) (v := .bool true) (by simp)
                  clear hf
                  simp [Oper.quietAt, Oper.quietUpon, go_sem, f176]
                refine q_want hf (d := 178) (v := .bool false) (e := 175) rfl rfl (by simp) rfl (by decide) (by simp) (fun w' hw' => ?_) (fun A hA178 hf => ?_)
                · have f177 := hf.get (d := 177) (v := .bool false) (by simp)
                  clear hf
                  simp [Oper.quietAt, Oper.quietUpon, go_sem, f177]
                refine q_skip hf (d := 179) (e := 178) (b := false) rfl rfl (by simp) rfl rfl (by decide) (by simp) (fun A hA179 hf => ?_)
                refine q_skip hf (d := 180) (e := 178) (b := false) rfl rfl (by simp) rfl rfl (by decide) (by simp) (fun A hA180 hf => ?_)
                refine q_skip hf (d := 181) (e := 178) (b := false) rfl rfl (by simp) rfl rfl (by decide) (by simp) (fun A hA181 hf => ?_)
                refine q_skip hf (d := 182) (e := 178) (b := false) rfl rfl (by simp) rfl rfl (by decide) (by simp) (fun A hA182 hf => ?_)
                refine q_skip hf (d := 183) (e := 178) (b := false) rfl rfl (by simp) rfl rfl (by decide) (by simp) (fun A hA183 hf => ?_)
                refine q_skip hf (d := 184) (e := 178) (b := false) rfl rfl (by simp) rfl rfl (by decide) (by simp) (fun A hA184 hf => ?_)
                refine q_skip hf (d := 185) (e := 178) (b := false) rfl rfl (by simp) rfl rfl (by decide) (by simp) (fun A hA185 hf => ?_)
                refine q_want hf (d := 186) (v := .bool false) (e := 175) rfl rfl (by simp) rfl (by decide) (by simp) (fun w' hw' => ?_) (fun A hA186 hf => ?_)
                · have f178 := hf.get (d := 178) (v := .bool false) (by simp)
                  have f185 := hf.get (d := 185) (v := undef) (by simp)
                  clear hf
                  simp [Oper.quietAt, Oper.quietUpon, go_sem, f178, f185]
                refine q_step hf (d := 187) (v := .bool false) rfl rfl (by decide) (by simp) (fun w' hw' => ?_) (fun A hA187 hf => ?_)
                · have f175 := hf.get (d := 175) (v := .bool false) (by simp)
                  have f186 := hf.get (d := 186) (v := .bool false) (by simp)
                  clear hf
                  simp [Oper.quietAt, Oper.quietUpon, go_sem, f175, f186]
                refine wpQuiet_nil (fun w' hw' => ?_)
                clear hf
                subst hA187 hA186 hA185 hA184 hA183 hA182 hA181 hA180 hA179 hA178 hA177 hA176 hA175 hA174 hA173 hA172 hA171 hA170 hA169 hA168 hA167 hA
                simp only [Act.put, List.setIfInBounds_toArray, List.set_cons_succ, List.set_cons_zero]
                go_wp2
                go_roundw
                case rel => exact ⟨k + 1, by omega, by go_num, hw'.sub (List.sublist_cons_self ..)⟩
                case measure => simp [intOf]; omega
        · obtain rfl : k = 10 := by omega
          obtain ⟨y0, y1, _, _⟩ := dv2 hx (K := kD) (g := b12) (n := 1) (q := ⟨oe, oq, on, oc⟩) (by simp) rfl
          obtain ⟨z0, z1, _, _⟩ := p2f hx (g := b13) (n := 1) (a := (os, ot)) (by simp)
          dsimp only at y0 y1 z0 z1
          cases bo
          · go_wp2_with (go_at_call 18; refine (HOc.out _ _ hx (by simp)).mono ?_; rintro ee v1 ⟨rfl, hb1⟩; replace hx := hx.step hb1)
            go_ret
            exact ⟨rfl, hx.bel⟩
          · obtain ⟨ov, hov⟩ : ∃ z, ordS os ot = z := ⟨_, rfl⟩
            have HOr := Lib.hid (fun W => hov ▸ sOrder_any os ot W)
            by_cases hsp : M.spB os ot = true
            · have hov0 : ¬ ov < 0 := by
                rw [← hov]; unfold ordS; rw [hsp]; have := M.zz_bd os ot 8; simp; omega
              have hso : 0 ≤ so := HOn.out rfl hsp
              clear hov hsp
              go_wp2_with (first
                | (go_at_call 18; refine (HOc.out _ _ hx (by simp)).mono ?_; rintro ee v1 ⟨rfl, hb1⟩; replace hx := hx.step hb1; clear hb1 y0 y1 z0 z1; obtain ⟨y0, y1, _, _⟩ := dv2 hx (K := kD) (g := b12) (n := 1) (q := ⟨oe, oq, on, oc⟩) (by simp) rfl; obtain ⟨z0, z1, _, _⟩ := p2f hx (g := b13) (n := 1) (a := (os, ot)) (by simp); dsimp only at y0 y1 z0 z1)
                | (go_at_call 27; refine (HOr.out _).mono ?_; rintro ee v2 ⟨rfl, hb1⟩; replace hx := hx.step hb1; clear hb1 y0 y1 z0 z1; obtain ⟨y0, y1, _, _⟩ := dv2 hx (K := kD) (g := b12) (n := 1) (q := ⟨oe, oq, on, oc⟩) (by simp) rfl; obtain ⟨z0, z1, _, _⟩ := p2f hx (g := b13) (n := 1) (a := (os, ot)) (by simp); dsimp only at y0 y1 z0 z1)
                | (go_at_call 19; refine (HOa.out _ _ hx (by simp)).mono ?_; rintro ee v3 ⟨rfl, hb1⟩; replace hx := hx.step hb1))
              go_ret
              exact ⟨rfl, hx.bel⟩
            · have hov0 : ov < 0 := by
                rw [← hov]; unfold ordS; rw [if_neg hsp]; decide
              clear hov hsp
              go_wp2_with (first
                | (go_at_call 18; refine (HOc.out _ _ hx (by simp)).mono ?_; rintro ee v1 ⟨rfl, hb1⟩; replace hx := hx.step hb1; clear hb1 y0 y1 z0 z1; obtain ⟨y0, y1, _, _⟩ := dv2 hx (K := kD) (g := b12) (n := 1) (q := ⟨oe, oq, on, oc⟩) (by simp) rfl; obtain ⟨z0, z1, _, _⟩ := p2f hx (g := b13) (n := 1) (a := (os, ot)) (by simp); dsimp only at y0 y1 z0 z1)
                | (go_at_call 27; refine (HOr.out _).mono ?_; rintro ee v2 ⟨rfl, hb1⟩; replace hx := hx.step hb1))
              go_ret
              exact ⟨rfl, hx.bel⟩
end Go.Proofs.Ytamnmakegdnblaa.K.D
