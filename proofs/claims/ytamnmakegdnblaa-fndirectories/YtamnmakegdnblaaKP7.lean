/-
  The program's change of a Directory walked: Split and Given.
-/
import Derived.Test.YtamnmakegdnblaaKP6
namespace Go.Proofs.Ytamnmakegdnblaa.K.D
open Go.Shelf Go.RowKit Go.Joins
attribute [local go_sem] Oper.semAt_some

theorem wr_k {k : Nat} (h : k ≤ 1000) : wrap64 ((k : Int) + 1) = k + 1 := by unfold wrap64; omega
theorem wr_k2 {k : Nat} (h : k ≤ 1000) : IntKind.i64.wrap ((k : Int) + 1) = k + 1 := by rw [IntKind.wrap_i64]; omega
theorem wr_k3 {e : Int} (h : 1 ≤ e ∧ e ≤ 100000) : wrap64 (e + 1) = e + 1 := by unfold wrap64; omega
theorem SlO_of {W : World} {base n c : Nat} {p : Option Addr} {L : List On} (h : OwG kO W base (.slice p n c) L) : SlG kO W p L := OwG.sl h
/-- What a change answers. -/
def Chd (w w' : World) (ee : Ending) (b : Bool) (e : Int) (L : List On) : Prop := ∃ q m c, ee = .returned (.tuple #[Dv.v ⟨e, q, m, c⟩, .bool b]) ∧ Sg w w' [rG kO (.slice q m c) L]
theorem split_le (o : On) : (splitO o).length ≤ 4 := by unfold splitO; split <;> simp [quL]
theorem given_le (s : Int) (o : On) : (givenO s o).length ≤ 4 := by unfold givenO; split <;> simp
set_option maxRecDepth 100000 in
set_option maxHeartbeats 1000000 in
theorem changed_split (e : Int) (p : Option Addr) (n c : Nat) (L : List On) (hn : L.length = n) (l x y : Int) (w : World) (hL : SlG kO w p L) (hnc : n ≤ c) (ho : okv ⟨p, n, c⟩) (hb0 : n ≤ 10000000)
    (HI : ∀ o W, onB o = true → Below w.heap.size w W → Calls Try.prog 39 #[o.v] W fun e w' => ∃ q n c, e = .returned (.slice q n c) ∧ Sg W w' [rG kO (.slice q n c) (splitO o)]) :
    Calls Try.prog 38 #[Dv.v ⟨e, p, n, c⟩, .agg #[.int .i64 l, .int .i64 x, .int .i64 y], .func (.func 39) #[] #[]] w fun ee w' => Chd w w' ee (chB splitO e L l x y) (chE splitO e L l x y) (chL splitO e L l x y) := by
  have hx := (((Sg.nil w).lit kD [⟨e, p, n, c⟩] 1 rfl (by decide) #[.int .i64 e, .slice p n c] rfl).lit kC [(l, x, y)] 1 rfl (by decide) #[.int .i64 l, .int .i64 x, .int .i64 y] rfl).lit kD [zdv] 1 rfl (by decide) #[.int .i64 0, .slice none 0 0] rfl
  simp only [World.size_alloc] at hx
  replace hx : Sg w (((w.alloc (.cells #[.int .i64 e, .slice p n c] 26)).alloc (.cells #[.int .i64 l, .int .i64 x, .int .i64 y] 28)).alloc (.cells #[.int .i64 0, .slice none 0 0] 26)) [rG kD (.slice (some ⟨w.heap.size + 1 + 1, 0, none⟩) 1 1) [zdv], rG kC (.slice (some ⟨w.heap.size + 1, 0, none⟩) 1 1) [(l, x, y)], rG kD (.slice (some ⟨w.heap.size, 0, none⟩) 1 1) [⟨e, p, n, c⟩]] := hx
  have HD := Lib.hid (fun W (h : Below w.heap.size w W) => iDirectoryOk_any e p n c L hn W (hL.step h) (by omega))
  obtain ⟨bd, hbd⟩ : ∃ b, dirB e L = b := ⟨_, rfl⟩
  rw [hbd] at HD
  have HCells : Hid (∀ W rs, Sg w W rs → rG kC (.slice (some ⟨w.heap.size + 1, 0, none⟩) 1 1) [(l, x, y)] ∈ rs → rG kD (.slice (some ⟨w.heap.size, 0, none⟩) 1 1) [⟨e, p, n, c⟩] ∈ rs → (W.cell? ⟨w.heap.size, 0, none⟩ = some (.int .i64 e) ∧ W.cell? ⟨w.heap.size, 1, none⟩ = some (.slice p n c)) ∧ (W.cell? ⟨w.heap.size + 1, 0, none⟩ = some (.int .i64 l) ∧ W.cell? ⟨w.heap.size + 1, 1, none⟩ = some (.int .i64 x) ∧ W.cell? ⟨w.heap.size + 1, 2, none⟩ = some (.int .i64 y))) := fun W rs h m1 m2 => by
    obtain ⟨a0, a1, -, -⟩ := dv2 h m2 rfl
    obtain ⟨d0, d1, d2⟩ := c3 h m1
    exact ⟨⟨a0, a1⟩, d0, d1, d2⟩
  have HZ : Hid (∀ W rs, Sg w W rs → rG kD (.slice (some ⟨w.heap.size + 1 + 1, 0, none⟩) 1 1) [zdv] ∈ rs → W.cell? ⟨w.heap.size + 1 + 1, 0, none⟩ = some (.int .i64 0) ∧ W.cell? ⟨w.heap.size + 1 + 1, 1, none⟩ = some (.slice none 0 0) ∧ ∀ o, W.frozen? ⟨w.heap.size + 1 + 1, o, none⟩ = false) := fun W rs h m1 => by
    obtain ⟨a0, a1, a2, -⟩ := dv2 h m1 rfl
    exact ⟨a0, a1, a2⟩
  obtain ⟨⟨c0, c1⟩, c2, c3, c4⟩ := HCells.out _ _ hx (by simp) (by simp)
  cases bd
  · have HV : Hid (chB splitO e L l x y = false ∧ chE splitO e L l x y = 0 ∧ chL splitO e L l x y = []) := by
      refine ⟨?_, ?_, ?_⟩
      · unfold chB; rw [hbd]; rfl
      · unfold chE; rw [hbd]; rfl
      · unfold chL; rw [hbd]; rfl
    clear hn hL ho hbd
    go_enter Try.func38, Try.ntmps38
    go_wp2_with (go_at_call 17; refine (HD.out _ hx.bel).mono ?_; rintro ee w1 ⟨rfl, hb1⟩; replace hx := hx.step hb1; obtain ⟨z0, z1, zf⟩ := HZ.out _ _ hx (by simp))
    have hx3 := Sg.setD (A := []) (g := w.heap.size + 1 + 1) (n := 1) (a := zdv) hx ⟨0, none, 0, 0⟩
    refine bodyPost_ret (v := .tuple #[.agg #[.int .i64 (0), .slice none 0 0], .bool false]) (by simp [results, Try.results38, go_sem, z0, z1]) rfl ⟨none, 0, 0, by rw [HV.out.1, HV.out.2.1], ?_⟩
    rw [HV.out.2.2]
    exact (sg_bel hx3.bel).addL (sg_nilrow _)
  · have HA := Lib.hid (fun W (h : Below w.heap.size w W) => at_of e p n c L hn l x y W (hL.step h) (by omega))
    have hn64 := (dir_on hbd).1
    have HCp := Lib.hid (fun W (h : Below w.heap.size w W) => dcopied_any e p n c L hn W (hL.step h) ho (by omega))
    have hel := dir_e hbd
    have hpp : (fun o => eqC o l x y) = fun o => eqC o l x y := rfl
    obtain ⟨k, hk⟩ : ∃ k, posO l x y L = k := ⟨_, rfl⟩
    by_cases hkl : k < L.length
    · have hat : atF (fun o => eqC o l x y) L = k := by unfold atF; rw [← posO_posF, hk, if_pos hkl]
      rw [hat] at HA
      have hkn : (k : Int) < n := by omega
      obtain ⟨g, off, rfl, hCs⟩ := hL.at hkl
      have hgo := getO hkl
      have honk : onB (L.getD k zon) = true := (dir_on hbd).2 _ (List.mem_of_getElem? hgo)
      obtain ⟨m, hm⟩ : ∃ m, L.getD k zon = m := ⟨_, rfl⟩
      rw [hm] at hgo honk
      have HIn := Lib.hid (fun W (h : Below w.heap.size w W) => HI m W honk h)
      obtain ⟨B, hB⟩ : ∃ B, splitO m = B := ⟨_, rfl⟩
      rw [hB] at HIn
      have HBl : Hid (B.length ≤ 4) := by rw [← hB]; exact split_le m
      have HSw : Hid (∀ W q nn cc (v : Value), Below w.heap.size w W → okv ⟨q, nn, cc⟩ → SlG kO W q B → B.length = nn → Calls Try.prog 77 #[.slice (some ⟨g, off, none⟩) n c, .int .i64 (k : Int), .int .i64 ((k : Int) + 1), .slice q nn cc] W fun ee w' => ∃ q2 c2, ee = .returned (.slice q2 (k + nn + (n - (k + 1))) c2) ∧ Sg W w' [rG kO (.slice q2 (k + nn + (n - (k + 1))) c2) (L.take k ++ B ++ L.drop (k + 1))]) := fun W q nn cc _ hW hok hq hl => by
        have := swapped_any g off c L n hn W (hCs.step hW) hnc (by omega) k (k + 1) (by omega) (by omega) ⟨q, nn, cc⟩ B hq hl hok (by have := HBl.out; simp only; omega)
        simpa using this
      obtain ⟨L2, hL2⟩ : ∃ X, L.take k ++ B ++ L.drop (k + 1) = X := ⟨_, rfl⟩
      obtain ⟨bm, hbm⟩ : ∃ b, dirB (e + 1) L2 = b := ⟨_, rfl⟩
      have hlen2 : L2.length = k + B.length + (n - (k + 1)) := by rw [← hL2]; simp; omega
      have HM : Hid (∀ W q mm cc, SlG kO W q L2 → L2.length = mm → Calls Try.prog 17 #[Dv.v ⟨e + 1, q, mm, cc⟩] W fun ee w' => ee = .returned (.bool bm) ∧ Below W.heap.size W w') := fun W q mm cc hq hl => hbm ▸ iDirectoryOk_any (e + 1) q mm cc L2 hl W hq (by have := HBl.out; omega)
      rw [hL2] at HSw
      have hchb : chB splitO e L l x y = bm := by
        unfold chB
        rw [hbd, hk, hm, hB, hL2, hbm, decide_eq_true hkl]; rfl
      have HV : Hid (chB splitO e L l x y = bm ∧ chE splitO e L l x y = (if bm then e + 1 else e) ∧ chL splitO e L l x y = (if bm then L2 else L)) := by
        refine ⟨hchb, ?_, ?_⟩
        · unfold chE; rw [hchb, hbd]; rfl
        · unfold chL; rw [hchb, hbd, hk, hm, hB, hL2]; rfl
      have HOw : Hid (∀ W, Below w.heap.size w W → W.cell? ⟨g, off + k * 4, none⟩ = some (.int .i64 m.l) ∧ W.cell? ⟨g, off + k * 4 + 1, none⟩ = some (.int .i64 m.x) ∧ W.cell? ⟨g, off + k * 4 + 2, none⟩ = some (.int .i64 m.y) ∧ W.cell? ⟨g, off + k * 4 + 3, none⟩ = some (.int .i64 m.s)) := fun W hW => CsG.o4 (hCs.step hW) hgo
      have hlm : Hid (L2.length = k + B.length + (n - (k + 1))) := hlen2
      have hk1000 : k ≤ 1000 := by omega
      have hkw := wr_k hk1000
      have hkw2 := wr_k2 hk1000
      have hew := wr_k3 hel
      obtain ⟨ml, mx, my, ms⟩ := m
      clear HI hn hL ho hbd hk hkl hat hCs hgo honk hm hB hL2 hbm hlen2 hchb hel hpp HBl
      have HT : Hid (∀ w' rs, Sg w w' rs → rG kC (.slice (some ⟨w.heap.size + 1, 0, none⟩) 1 1) [(l, x, y)] ∈ rs → rG kD (.slice (some ⟨w.heap.size, 0, none⟩) 1 1) [⟨e, some ⟨g, off, none⟩, n, c⟩] ∈ rs → ((w'.cell? ⟨w.heap.size, 0, none⟩ = some (.int .i64 e) ∧ w'.cell? ⟨w.heap.size, 1, none⟩ = some (.slice (some ⟨g, off, none⟩) n c)) ∧ (w'.cell? ⟨g, off + k * 4, none⟩ = some (.int .i64 ml) ∧ w'.cell? ⟨g, off + k * 4 + 1, none⟩ = some (.int .i64 mx) ∧ w'.cell? ⟨g, off + k * 4 + 2, none⟩ = some (.int .i64 my) ∧ w'.cell? ⟨g, off + k * 4 + 3, none⟩ = some (.int .i64 ms)))) := fun w' rs h m1 m2 => ⟨(HCells.out _ _ h m1 m2).1, HOw.out _ h.bel⟩
      go_enter Try.func38, Try.ntmps38
      go_upto_region 6 with (first
        | (go_at_call 17; refine (HD.out _ hx.bel).mono ?_; rintro ee w1 ⟨rfl, hb1⟩; replace hx := hx.step hb1; clear c0 c1 c2 c3 c4; obtain ⟨⟨c0, c1⟩, c2, c3, c4⟩ := HCells.out _ _ hx (by simp) (by simp))
        | (go_at_call 74; refine (HA.out _ hx.bel).mono ?_; rintro ee w2 ⟨rfl, hb2⟩; replace hx := hx.step hb2; clear c0 c1 c2 c3 c4))
      go_region_held3 (fun w' => ((w'.cell? ⟨w.heap.size, 0, none⟩ = some (.int .i64 e) ∧ w'.cell? ⟨w.heap.size, 1, none⟩ = some (.slice (some ⟨g, off, none⟩) n c)) ∧ (w'.cell? ⟨g, off + k * 4, none⟩ = some (.int .i64 ml) ∧ w'.cell? ⟨g, off + k * 4 + 1, none⟩ = some (.int .i64 mx) ∧ w'.cell? ⟨g, off + k * 4 + 2, none⟩ = some (.int .i64 my) ∧ w'.cell? ⟨g, off + k * 4 + 3, none⟩ = some (.int .i64 ms))))
        (first
          | assumption
          | with_reducible exact HT.out _ _ hx (by simp) (by simp)
          | with_reducible exact HT.out _ _ (Sg.dr hx) (by simp) (by simp))
        (first
          | (go_at_call 39; refine (HIn.out _ (by first | with_reducible exact hx.bel | with_reducible exact (Sg.dr hx).bel)).mono ?_; rintro ee w3 ⟨q3, n3, c3', rfl, hS3⟩; have hok3 := own_okv (hS3.mem (K := kO) (v := .slice q3 n3 c3') (L := B) (List.mem_cons_self ..)); have hl3 := Lib.hid (OwG.len (hS3.mem (K := kO) (v := .slice q3 n3 c3') (L := B) (List.mem_cons_self ..))); (first | with_reducible (replace hx := hx.addL hS3) | with_reducible (replace hx := (Sg.dr hx).addL hS3)); clear hS3)
          | (go_at_call 77; refine (HSw.out _ q3 n3 c3' undef hx.bel hok3 (OwG.sl (hx.mem (K := kO) (v := .slice q3 n3 c3') (L := B) (List.mem_cons_self ..))) hl3.out.symm).mono ?_; rintro ee w4 ⟨q4, c4', rfl, hS4⟩; replace hx := hx.addL hS4; clear hS4))
      have hl4 := Lib.hid (OwG.len (hx.mem (K := kO) (v := .slice q4 (k + n3 + (n - (k + 1))) c4') (L := L2) (by simp)))
      generalize k + n3 + (n - (k + 1)) = m4 at hx hl4 ⊢
      replace hx : Sg w _ [rG kO (.slice q4 m4 c4') L2, rG kO (.slice q3 n3 c3') B, rG kD (.slice (some ⟨w.heap.size + 1 + 1, 0, none⟩) 1 1) [zdv], rG kC (.slice (some ⟨w.heap.size + 1, 0, none⟩) 1 1) [(l, x, y)], rG kD (.slice (some ⟨w.heap.size, 0, none⟩) 1 1) [⟨e, some ⟨g, off, none⟩, n, c⟩]] := hx
      obtain ⟨⟨c0, c1⟩, c2, c3, c4⟩ := HCells.out _ _ hx (by simp) (by simp)
      go_upto_region 8 with (fail)
      clear c0 c1 c2 c3 c4
      replace hx : Sg w (w4.alloc (.cells #[.int .i64 (e + 1), .slice q4 m4 c4'] 26)) _ := hx.lit kD [⟨e + 1, q4, m4, c4'⟩] 1 rfl (by decide) #[.int .i64 (e + 1), .slice q4 m4 c4'] rfl
      obtain ⟨d0, d1, df, dg⟩ := dv2 hx (K := kD) (g := w4.heap.size) (n := 1) (q := ⟨e + 1, q4, m4, c4'⟩) (by simp) rfl
      dsimp only at d0 d1
      cases bm
      · go_upto_region 9 with (go_at_call 17; refine (HM.out _ q4 m4 c4' (OwG.sl (hx.mem (K := kO) (v := .slice q4 m4 c4') (L := L2) (by simp))) hl4.out.symm).mono ?_; rintro ee w5 ⟨rfl, hb5⟩; replace hx := hx.step hb5; clear d0 d1)
        obtain ⟨⟨c0, c1⟩, c2, c3, c4⟩ := HCells.out _ _ hx (by simp) (by simp)
        go_wp2_with (go_at_call 76; refine (HCp.out _ hx.bel).mono ?_; rintro ee w6 ⟨q6, c6, rfl, hS6⟩; replace hx := hx.addL hS6; obtain ⟨z0, z1, zf⟩ := HZ.out _ _ hx (by simp))
        have hx9 := Sg.setD (A := [rG kO (.slice q6 n c6) L, rG kD (.slice (some ⟨w4.heap.size, 0, none⟩) 1 1) [⟨e + 1, q4, m4, c4'⟩], rG kO (.slice q4 m4 c4') L2, rG kO (.slice q3 n3 c3') B]) (g := w.heap.size + 1 + 1) (n := 1) (a := zdv) hx ⟨e, q6, n, c6⟩
        refine bodyPost_ret (v := .tuple #[.agg #[.int .i64 (e), .slice q6 n c6], .bool false]) (by simp [results, Try.results38, go_sem, z0, z1]) rfl ⟨q6, n, c6, by rw [HV.out.1, HV.out.2.1]; rfl, ?_⟩
        rw [HV.out.2.2]
        exact hx9.sub (by simp)
      · go_upto_region 10 with (go_at_call 17; refine (HM.out _ q4 m4 c4' (OwG.sl (hx.mem (K := kO) (v := .slice q4 m4 c4') (L := L2) (by simp))) hl4.out.symm).mono ?_; rintro ee w5 ⟨rfl, hb5⟩; replace hx := hx.step hb5; clear d0 d1; obtain ⟨d0, d1, _, _⟩ := dv2 hx (K := kD) (g := w4.heap.size) (n := 1) (q := ⟨e + 1, q4, m4, c4'⟩) (by simp) rfl; dsimp only at d0 d1)
        obtain ⟨z0, z1, zf⟩ := HZ.out _ _ hx (by simp)
        go_wp2
        have hx9 := Sg.setD (A := [rG kD (.slice (some ⟨w4.heap.size, 0, none⟩) 1 1) [⟨e + 1, q4, m4, c4'⟩], rG kO (.slice q4 m4 c4') L2, rG kO (.slice q3 n3 c3') B]) (g := w.heap.size + 1 + 1) (n := 1) (a := zdv) hx ⟨e + 1, q4, m4, c4'⟩
        refine bodyPost_ret (v := .tuple #[.agg #[.int .i64 (e + 1), .slice q4 m4 c4'], .bool true]) (by simp [results, Try.results38, go_sem, z0, z1]) rfl ⟨q4, m4, c4', by rw [HV.out.1, HV.out.2.1]; rfl, ?_⟩
        rw [HV.out.2.2]
        exact hx9.sub (by simp)
    · have hat : atF (fun o => eqC o l x y) L = -1 := by unfold atF; rw [← posO_posF, hk, if_neg hkl]
      rw [hat] at HA
      have hchb : chB splitO e L l x y = false := by
        unfold chB
        rw [hbd, hk, decide_eq_false hkl]; rfl
      have HV : Hid (chB splitO e L l x y = false ∧ chE splitO e L l x y = e ∧ chL splitO e L l x y = L) := by
        refine ⟨hchb, ?_, ?_⟩
        · unfold chE; rw [hchb, hbd]; rfl
        · unfold chL; rw [hchb, hbd]; rfl
      clear HI hn hL ho hbd hk hkl hat hchb hel hpp
      go_enter Try.func38, Try.ntmps38
      go_upto_region 5 with (first
        | (go_at_call 17; refine (HD.out _ hx.bel).mono ?_; rintro ee w1 ⟨rfl, hb1⟩; replace hx := hx.step hb1; clear c0 c1 c2 c3 c4; obtain ⟨⟨c0, c1⟩, c2, c3, c4⟩ := HCells.out _ _ hx (by simp) (by simp))
        | (go_at_call 74; refine (HA.out _ hx.bel).mono ?_; rintro ee w2 ⟨rfl, hb2⟩; replace hx := hx.step hb2; clear c0 c1 c2 c3 c4; obtain ⟨⟨c0, c1⟩, c2, c3, c4⟩ := HCells.out _ _ hx (by simp) (by simp)))
      go_wp2_with (go_at_call 76; refine (HCp.out _ hx.bel).mono ?_; rintro ee w6 ⟨q6, c6, rfl, hS6⟩; replace hx := hx.addL hS6; obtain ⟨z0, z1, zf⟩ := HZ.out _ _ hx (by simp))
      have hx9 := Sg.setD (A := [rG kO (.slice q6 n c6) L]) (g := w.heap.size + 1 + 1) (n := 1) (a := zdv) hx ⟨e, q6, n, c6⟩
      refine bodyPost_ret (v := .tuple #[.agg #[.int .i64 (e), .slice q6 n c6], .bool false]) (by simp [results, Try.results38, go_sem, z0, z1]) rfl ⟨q6, n, c6, by rw [HV.out.1, HV.out.2.1], ?_⟩
      rw [HV.out.2.2]
      exact hx9.sub (by simp)
set_option maxRecDepth 100000 in
set_option maxHeartbeats 1000000 in
theorem changed_given (e : Int) (p : Option Addr) (n c : Nat) (L : List On) (hn : L.length = n) (l x y : Int) (s : Int) (ib : Nat) (w : World) (hL : SlG kO w p L) (hnc : n ≤ c) (ho : okv ⟨p, n, c⟩) (hb0 : n ≤ 10000000)
    (HI : ∀ o W, onB o = true → Below w.heap.size w W → Calls Try.prog 41 #[o.v, .pointer (some ⟨ib, 0, none⟩)] W fun e w' => ∃ q n c, e = .returned (.slice q n c) ∧ Sg W w' [rG kO (.slice q n c) (givenO s o)]) :
    Calls Try.prog 38 #[Dv.v ⟨e, p, n, c⟩, .agg #[.int .i64 l, .int .i64 x, .int .i64 y], .func (.func 41) #[] #[.pointer (some ⟨ib, 0, none⟩)]] w fun ee w' => Chd w w' ee (chB (givenO s) e L l x y) (chE (givenO s) e L l x y) (chL (givenO s) e L l x y) := by
  have hx := (((Sg.nil w).lit kD [⟨e, p, n, c⟩] 1 rfl (by decide) #[.int .i64 e, .slice p n c] rfl).lit kC [(l, x, y)] 1 rfl (by decide) #[.int .i64 l, .int .i64 x, .int .i64 y] rfl).lit kD [zdv] 1 rfl (by decide) #[.int .i64 0, .slice none 0 0] rfl
  simp only [World.size_alloc] at hx
  replace hx : Sg w (((w.alloc (.cells #[.int .i64 e, .slice p n c] 26)).alloc (.cells #[.int .i64 l, .int .i64 x, .int .i64 y] 28)).alloc (.cells #[.int .i64 0, .slice none 0 0] 26)) [rG kD (.slice (some ⟨w.heap.size + 1 + 1, 0, none⟩) 1 1) [zdv], rG kC (.slice (some ⟨w.heap.size + 1, 0, none⟩) 1 1) [(l, x, y)], rG kD (.slice (some ⟨w.heap.size, 0, none⟩) 1 1) [⟨e, p, n, c⟩]] := hx
  have HD := Lib.hid (fun W (h : Below w.heap.size w W) => iDirectoryOk_any e p n c L hn W (hL.step h) (by omega))
  obtain ⟨bd, hbd⟩ : ∃ b, dirB e L = b := ⟨_, rfl⟩
  rw [hbd] at HD
  have HCells : Hid (∀ W rs, Sg w W rs → rG kC (.slice (some ⟨w.heap.size + 1, 0, none⟩) 1 1) [(l, x, y)] ∈ rs → rG kD (.slice (some ⟨w.heap.size, 0, none⟩) 1 1) [⟨e, p, n, c⟩] ∈ rs → (W.cell? ⟨w.heap.size, 0, none⟩ = some (.int .i64 e) ∧ W.cell? ⟨w.heap.size, 1, none⟩ = some (.slice p n c)) ∧ (W.cell? ⟨w.heap.size + 1, 0, none⟩ = some (.int .i64 l) ∧ W.cell? ⟨w.heap.size + 1, 1, none⟩ = some (.int .i64 x) ∧ W.cell? ⟨w.heap.size + 1, 2, none⟩ = some (.int .i64 y))) := fun W rs h m1 m2 => by
    obtain ⟨a0, a1, -, -⟩ := dv2 h m2 rfl
    obtain ⟨d0, d1, d2⟩ := c3 h m1
    exact ⟨⟨a0, a1⟩, d0, d1, d2⟩
  have HZ : Hid (∀ W rs, Sg w W rs → rG kD (.slice (some ⟨w.heap.size + 1 + 1, 0, none⟩) 1 1) [zdv] ∈ rs → W.cell? ⟨w.heap.size + 1 + 1, 0, none⟩ = some (.int .i64 0) ∧ W.cell? ⟨w.heap.size + 1 + 1, 1, none⟩ = some (.slice none 0 0) ∧ ∀ o, W.frozen? ⟨w.heap.size + 1 + 1, o, none⟩ = false) := fun W rs h m1 => by
    obtain ⟨a0, a1, a2, -⟩ := dv2 h m1 rfl
    exact ⟨a0, a1, a2⟩
  obtain ⟨⟨c0, c1⟩, c2, c3, c4⟩ := HCells.out _ _ hx (by simp) (by simp)
  cases bd
  · have HV : Hid (chB (givenO s) e L l x y = false ∧ chE (givenO s) e L l x y = 0 ∧ chL (givenO s) e L l x y = []) := by
      refine ⟨?_, ?_, ?_⟩
      · unfold chB; rw [hbd]; rfl
      · unfold chE; rw [hbd]; rfl
      · unfold chL; rw [hbd]; rfl
    clear hn hL ho hbd
    go_enter Try.func38, Try.ntmps38
    go_wp2_with (go_at_call 17; refine (HD.out _ hx.bel).mono ?_; rintro ee w1 ⟨rfl, hb1⟩; replace hx := hx.step hb1; obtain ⟨z0, z1, zf⟩ := HZ.out _ _ hx (by simp))
    have hx3 := Sg.setD (A := []) (g := w.heap.size + 1 + 1) (n := 1) (a := zdv) hx ⟨0, none, 0, 0⟩
    refine bodyPost_ret (v := .tuple #[.agg #[.int .i64 (0), .slice none 0 0], .bool false]) (by simp [results, Try.results38, go_sem, z0, z1]) rfl ⟨none, 0, 0, by rw [HV.out.1, HV.out.2.1], ?_⟩
    rw [HV.out.2.2]
    exact (sg_bel hx3.bel).addL (sg_nilrow _)
  · have HA := Lib.hid (fun W (h : Below w.heap.size w W) => at_of e p n c L hn l x y W (hL.step h) (by omega))
    have hn64 := (dir_on hbd).1
    have HCp := Lib.hid (fun W (h : Below w.heap.size w W) => dcopied_any e p n c L hn W (hL.step h) ho (by omega))
    have hel := dir_e hbd
    have hpp : (fun o => eqC o l x y) = fun o => eqC o l x y := rfl
    obtain ⟨k, hk⟩ : ∃ k, posO l x y L = k := ⟨_, rfl⟩
    by_cases hkl : k < L.length
    · have hat : atF (fun o => eqC o l x y) L = k := by unfold atF; rw [← posO_posF, hk, if_pos hkl]
      rw [hat] at HA
      have hkn : (k : Int) < n := by omega
      obtain ⟨g, off, rfl, hCs⟩ := hL.at hkl
      have hgo := getO hkl
      have honk : onB (L.getD k zon) = true := (dir_on hbd).2 _ (List.mem_of_getElem? hgo)
      obtain ⟨m, hm⟩ : ∃ m, L.getD k zon = m := ⟨_, rfl⟩
      rw [hm] at hgo honk
      have HIn := Lib.hid (fun W (h : Below w.heap.size w W) => HI m W honk h)
      obtain ⟨B, hB⟩ : ∃ B, (givenO s) m = B := ⟨_, rfl⟩
      rw [hB] at HIn
      have HBl : Hid (B.length ≤ 4) := by rw [← hB]; exact given_le s m
      have HSw : Hid (∀ W q nn cc (v : Value), Below w.heap.size w W → okv ⟨q, nn, cc⟩ → SlG kO W q B → B.length = nn → Calls Try.prog 77 #[.slice (some ⟨g, off, none⟩) n c, .int .i64 (k : Int), .int .i64 ((k : Int) + 1), .slice q nn cc] W fun ee w' => ∃ q2 c2, ee = .returned (.slice q2 (k + nn + (n - (k + 1))) c2) ∧ Sg W w' [rG kO (.slice q2 (k + nn + (n - (k + 1))) c2) (L.take k ++ B ++ L.drop (k + 1))]) := fun W q nn cc _ hW hok hq hl => by
        have := swapped_any g off c L n hn W (hCs.step hW) hnc (by omega) k (k + 1) (by omega) (by omega) ⟨q, nn, cc⟩ B hq hl hok (by have := HBl.out; simp only; omega)
        simpa using this
      obtain ⟨L2, hL2⟩ : ∃ X, L.take k ++ B ++ L.drop (k + 1) = X := ⟨_, rfl⟩
      obtain ⟨bm, hbm⟩ : ∃ b, dirB (e + 1) L2 = b := ⟨_, rfl⟩
      have hlen2 : L2.length = k + B.length + (n - (k + 1)) := by rw [← hL2]; simp; omega
      have HM : Hid (∀ W q mm cc, SlG kO W q L2 → L2.length = mm → Calls Try.prog 17 #[Dv.v ⟨e + 1, q, mm, cc⟩] W fun ee w' => ee = .returned (.bool bm) ∧ Below W.heap.size W w') := fun W q mm cc hq hl => hbm ▸ iDirectoryOk_any (e + 1) q mm cc L2 hl W hq (by have := HBl.out; omega)
      rw [hL2] at HSw
      have hchb : chB (givenO s) e L l x y = bm := by
        unfold chB
        rw [hbd, hk, hm, hB, hL2, hbm, decide_eq_true hkl]; rfl
      have HV : Hid (chB (givenO s) e L l x y = bm ∧ chE (givenO s) e L l x y = (if bm then e + 1 else e) ∧ chL (givenO s) e L l x y = (if bm then L2 else L)) := by
        refine ⟨hchb, ?_, ?_⟩
        · unfold chE; rw [hchb, hbd]; rfl
        · unfold chL; rw [hchb, hbd, hk, hm, hB, hL2]; rfl
      have HOw : Hid (∀ W, Below w.heap.size w W → W.cell? ⟨g, off + k * 4, none⟩ = some (.int .i64 m.l) ∧ W.cell? ⟨g, off + k * 4 + 1, none⟩ = some (.int .i64 m.x) ∧ W.cell? ⟨g, off + k * 4 + 2, none⟩ = some (.int .i64 m.y) ∧ W.cell? ⟨g, off + k * 4 + 3, none⟩ = some (.int .i64 m.s)) := fun W hW => CsG.o4 (hCs.step hW) hgo
      have hlm : Hid (L2.length = k + B.length + (n - (k + 1))) := hlen2
      have hk1000 : k ≤ 1000 := by omega
      have hkw := wr_k hk1000
      have hkw2 := wr_k2 hk1000
      have hew := wr_k3 hel
      obtain ⟨ml, mx, my, ms⟩ := m
      clear HI hn hL ho hbd hk hkl hat hCs hgo honk hm hB hL2 hbm hlen2 hchb hel hpp HBl
      have HT : Hid (∀ w' rs, Sg w w' rs → rG kC (.slice (some ⟨w.heap.size + 1, 0, none⟩) 1 1) [(l, x, y)] ∈ rs → rG kD (.slice (some ⟨w.heap.size, 0, none⟩) 1 1) [⟨e, some ⟨g, off, none⟩, n, c⟩] ∈ rs → ((w'.cell? ⟨w.heap.size, 0, none⟩ = some (.int .i64 e) ∧ w'.cell? ⟨w.heap.size, 1, none⟩ = some (.slice (some ⟨g, off, none⟩) n c)) ∧ (w'.cell? ⟨g, off + k * 4, none⟩ = some (.int .i64 ml) ∧ w'.cell? ⟨g, off + k * 4 + 1, none⟩ = some (.int .i64 mx) ∧ w'.cell? ⟨g, off + k * 4 + 2, none⟩ = some (.int .i64 my) ∧ w'.cell? ⟨g, off + k * 4 + 3, none⟩ = some (.int .i64 ms)))) := fun w' rs h m1 m2 => ⟨(HCells.out _ _ h m1 m2).1, HOw.out _ h.bel⟩
      go_enter Try.func38, Try.ntmps38
      go_upto_region 6 with (first
        | (go_at_call 17; refine (HD.out _ hx.bel).mono ?_; rintro ee w1 ⟨rfl, hb1⟩; replace hx := hx.step hb1; clear c0 c1 c2 c3 c4; obtain ⟨⟨c0, c1⟩, c2, c3, c4⟩ := HCells.out _ _ hx (by simp) (by simp))
        | (go_at_call 74; refine (HA.out _ hx.bel).mono ?_; rintro ee w2 ⟨rfl, hb2⟩; replace hx := hx.step hb2; clear c0 c1 c2 c3 c4))
      go_region_held3 (fun w' => ((w'.cell? ⟨w.heap.size, 0, none⟩ = some (.int .i64 e) ∧ w'.cell? ⟨w.heap.size, 1, none⟩ = some (.slice (some ⟨g, off, none⟩) n c)) ∧ (w'.cell? ⟨g, off + k * 4, none⟩ = some (.int .i64 ml) ∧ w'.cell? ⟨g, off + k * 4 + 1, none⟩ = some (.int .i64 mx) ∧ w'.cell? ⟨g, off + k * 4 + 2, none⟩ = some (.int .i64 my) ∧ w'.cell? ⟨g, off + k * 4 + 3, none⟩ = some (.int .i64 ms))))
        (first
          | assumption
          | with_reducible exact HT.out _ _ hx (by simp) (by simp)
          | with_reducible exact HT.out _ _ (Sg.dr hx) (by simp) (by simp))
        (first
          | (go_at_call 41; refine (HIn.out _ (by first | with_reducible exact hx.bel | with_reducible exact (Sg.dr hx).bel)).mono ?_; rintro ee w3 ⟨q3, n3, c3', rfl, hS3⟩; have hok3 := own_okv (hS3.mem (K := kO) (v := .slice q3 n3 c3') (L := B) (List.mem_cons_self ..)); have hl3 := Lib.hid (OwG.len (hS3.mem (K := kO) (v := .slice q3 n3 c3') (L := B) (List.mem_cons_self ..))); (first | with_reducible (replace hx := hx.addL hS3) | with_reducible (replace hx := (Sg.dr hx).addL hS3)); clear hS3)
          | (go_at_call 77; refine (HSw.out _ q3 n3 c3' undef hx.bel hok3 (OwG.sl (hx.mem (K := kO) (v := .slice q3 n3 c3') (L := B) (List.mem_cons_self ..))) hl3.out.symm).mono ?_; rintro ee w4 ⟨q4, c4', rfl, hS4⟩; replace hx := hx.addL hS4; clear hS4))
      have hl4 := Lib.hid (OwG.len (hx.mem (K := kO) (v := .slice q4 (k + n3 + (n - (k + 1))) c4') (L := L2) (by simp)))
      generalize k + n3 + (n - (k + 1)) = m4 at hx hl4 ⊢
      replace hx : Sg w _ [rG kO (.slice q4 m4 c4') L2, rG kO (.slice q3 n3 c3') B, rG kD (.slice (some ⟨w.heap.size + 1 + 1, 0, none⟩) 1 1) [zdv], rG kC (.slice (some ⟨w.heap.size + 1, 0, none⟩) 1 1) [(l, x, y)], rG kD (.slice (some ⟨w.heap.size, 0, none⟩) 1 1) [⟨e, some ⟨g, off, none⟩, n, c⟩]] := hx
      obtain ⟨⟨c0, c1⟩, c2, c3, c4⟩ := HCells.out _ _ hx (by simp) (by simp)
      go_upto_region 8 with (fail)
      clear c0 c1 c2 c3 c4
      replace hx : Sg w (w4.alloc (.cells #[.int .i64 (e + 1), .slice q4 m4 c4'] 26)) _ := hx.lit kD [⟨e + 1, q4, m4, c4'⟩] 1 rfl (by decide) #[.int .i64 (e + 1), .slice q4 m4 c4'] rfl
      obtain ⟨d0, d1, df, dg⟩ := dv2 hx (K := kD) (g := w4.heap.size) (n := 1) (q := ⟨e + 1, q4, m4, c4'⟩) (by simp) rfl
      dsimp only at d0 d1
      cases bm
      · go_upto_region 9 with (go_at_call 17; refine (HM.out _ q4 m4 c4' (OwG.sl (hx.mem (K := kO) (v := .slice q4 m4 c4') (L := L2) (by simp))) hl4.out.symm).mono ?_; rintro ee w5 ⟨rfl, hb5⟩; replace hx := hx.step hb5; clear d0 d1)
        obtain ⟨⟨c0, c1⟩, c2, c3, c4⟩ := HCells.out _ _ hx (by simp) (by simp)
        go_wp2_with (go_at_call 76; refine (HCp.out _ hx.bel).mono ?_; rintro ee w6 ⟨q6, c6, rfl, hS6⟩; replace hx := hx.addL hS6; obtain ⟨z0, z1, zf⟩ := HZ.out _ _ hx (by simp))
        have hx9 := Sg.setD (A := [rG kO (.slice q6 n c6) L, rG kD (.slice (some ⟨w4.heap.size, 0, none⟩) 1 1) [⟨e + 1, q4, m4, c4'⟩], rG kO (.slice q4 m4 c4') L2, rG kO (.slice q3 n3 c3') B]) (g := w.heap.size + 1 + 1) (n := 1) (a := zdv) hx ⟨e, q6, n, c6⟩
        refine bodyPost_ret (v := .tuple #[.agg #[.int .i64 (e), .slice q6 n c6], .bool false]) (by simp [results, Try.results38, go_sem, z0, z1]) rfl ⟨q6, n, c6, by rw [HV.out.1, HV.out.2.1]; rfl, ?_⟩
        rw [HV.out.2.2]
        exact hx9.sub (by simp)
      · go_upto_region 10 with (go_at_call 17; refine (HM.out _ q4 m4 c4' (OwG.sl (hx.mem (K := kO) (v := .slice q4 m4 c4') (L := L2) (by simp))) hl4.out.symm).mono ?_; rintro ee w5 ⟨rfl, hb5⟩; replace hx := hx.step hb5; clear d0 d1; obtain ⟨d0, d1, _, _⟩ := dv2 hx (K := kD) (g := w4.heap.size) (n := 1) (q := ⟨e + 1, q4, m4, c4'⟩) (by simp) rfl; dsimp only at d0 d1)
        obtain ⟨z0, z1, zf⟩ := HZ.out _ _ hx (by simp)
        go_wp2
        have hx9 := Sg.setD (A := [rG kD (.slice (some ⟨w4.heap.size, 0, none⟩) 1 1) [⟨e + 1, q4, m4, c4'⟩], rG kO (.slice q4 m4 c4') L2, rG kO (.slice q3 n3 c3') B]) (g := w.heap.size + 1 + 1) (n := 1) (a := zdv) hx ⟨e + 1, q4, m4, c4'⟩
        refine bodyPost_ret (v := .tuple #[.agg #[.int .i64 (e + 1), .slice q4 m4 c4'], .bool true]) (by simp [results, Try.results38, go_sem, z0, z1]) rfl ⟨q4, m4, c4', by rw [HV.out.1, HV.out.2.1]; rfl, ?_⟩
        rw [HV.out.2.2]
        exact hx9.sub (by simp)
    · have hat : atF (fun o => eqC o l x y) L = -1 := by unfold atF; rw [← posO_posF, hk, if_neg hkl]
      rw [hat] at HA
      have hchb : chB (givenO s) e L l x y = false := by
        unfold chB
        rw [hbd, hk, decide_eq_false hkl]; rfl
      have HV : Hid (chB (givenO s) e L l x y = false ∧ chE (givenO s) e L l x y = e ∧ chL (givenO s) e L l x y = L) := by
        refine ⟨hchb, ?_, ?_⟩
        · unfold chE; rw [hchb, hbd]; rfl
        · unfold chL; rw [hchb, hbd]; rfl
      clear HI hn hL ho hbd hk hkl hat hchb hel hpp
      go_enter Try.func38, Try.ntmps38
      go_upto_region 5 with (first
        | (go_at_call 17; refine (HD.out _ hx.bel).mono ?_; rintro ee w1 ⟨rfl, hb1⟩; replace hx := hx.step hb1; clear c0 c1 c2 c3 c4; obtain ⟨⟨c0, c1⟩, c2, c3, c4⟩ := HCells.out _ _ hx (by simp) (by simp))
        | (go_at_call 74; refine (HA.out _ hx.bel).mono ?_; rintro ee w2 ⟨rfl, hb2⟩; replace hx := hx.step hb2; clear c0 c1 c2 c3 c4; obtain ⟨⟨c0, c1⟩, c2, c3, c4⟩ := HCells.out _ _ hx (by simp) (by simp)))
      go_wp2_with (go_at_call 76; refine (HCp.out _ hx.bel).mono ?_; rintro ee w6 ⟨q6, c6, rfl, hS6⟩; replace hx := hx.addL hS6; obtain ⟨z0, z1, zf⟩ := HZ.out _ _ hx (by simp))
      have hx9 := Sg.setD (A := [rG kO (.slice q6 n c6) L]) (g := w.heap.size + 1 + 1) (n := 1) (a := zdv) hx ⟨e, q6, n, c6⟩
      refine bodyPost_ret (v := .tuple #[.agg #[.int .i64 (e), .slice q6 n c6], .bool false]) (by simp [results, Try.results38, go_sem, z0, z1]) rfl ⟨q6, n, c6, by rw [HV.out.1, HV.out.2.1], ?_⟩
      rw [HV.out.2.2]
      exact hx9.sub (by simp)
end Go.Proofs.Ytamnmakegdnblaa.K.D
