/-
  TreeOk: the spec's.
-/
import Derived.Test.YtipfcmfcdfofmaaGreatTO3
import Derived.Test.YtipfcmfcdfofmaaGreatS4
namespace Go.Proofs.YtipfcmfcdfofmaaGreat
open Go.RowKit Go.Joins
attribute [local go_sem] Oper.semAt_some

set_option maxRecDepth 100000 in
set_option maxHeartbeats 8000000 in
theorem sTreeOk_any (ad : Addr) (q : Option Addr) (m n c d : Nat) (L : List Mk) (NL : List (Nd × Sv)) (hm : L.length = m) (hn : NL.length = n) (hmb : m ≤ 10000000) (hnb : n ≤ 10000000) (hps : ∀ x ∈ NL, x.1.ps.length ≤ 10000000) (w : World) (hL : SlG kM w (some ad) L) (hN : RdN w q NL) {v : Bool} (hv : tokB L (NL.map Prod.fst) = v) :
    Calls Tryz.prog 20 #[.agg #[.slice (some ad) m c, .slice q n d]] w fun e w' => e = .returned (.bool v) ∧ Below w.heap.size w w' := by
  have hb1 := below_alloc1 w (.cells #[.slice (some ad) m c, .slice q n d] 28)
  have hS0 := (Sg.nil w).lit kT [(⟨some ad, m, c⟩, ⟨q, n, d⟩)] 1 rfl (by decide) #[.slice (some ad) m c, .slice q n d] rfl
  cases hk : mksB L
  · have hv' : v = false := by rw [← hv, tokB, hk]; rfl
    subst hv'
    have H := l8Marks_v hk (some ad) c m hm _ (hL.step hb1) hmb
    clear hv hk hL hN hps hm hn
    go_enter Tryz.func20, Tryz.ntmps20
    go_wp2_with (go_at_call 48; refine H.mono ?_; rintro e w1 ⟨rfl, hb2⟩)
    go_ret
    exact ⟨rfl, ba1 hb2⟩
  · have h60 : m ≤ 60 := by have h := hk; simp [mksB] at h; omega
    obtain ⟨ts, hts⟩ : ∃ ts, plN L = ts := ⟨_, rfl⟩
    have hM : plM L = L := by simp [plM, hk]
    have hTb := plN_bdT L
    rw [hts] at hTb
    obtain ⟨nn, hnn⟩ : ∃ k, ts.length = k := ⟨_, rfl⟩
    rw [hnn] at hTb
    have hv2 : nsE ts (NL.map Prod.fst) = v := by rw [← hv, tokB, hk, hts]; rfl
    have HA : Hid (∀ W, Below w.heap.size w W → Calls Tryz.prog 48 #[.slice (some ad) m c] W fun e w' => e = .returned (.bool true) ∧ Below W.heap.size W w') := fun W h => l8Marks_v hk (some ad) c m hm W (hL.step h) hmb
    have HP : Hid (∀ W, Below w.heap.size w W → Calls Tryz.prog 15 #[.slice (some ad) m c] W fun e w' => ∃ q c q2 c2 NG, e = .returned (.agg #[.slice q m c, .slice q2 nn c2]) ∧ NG.map Prod.fst = ts ∧ Sg W w' (treeR (.slice q m c) (.slice q2 nn c2) L NG)) := fun W h => by
      have := sPlanted_any ad c L m hm hmb W (hL.step h) hM hts
      rw [hm, hnn] at this; exact this
    have HV : Hid (nsE ts (NL.map Prod.fst) = v ∧ ts.length = nn ∧ NL.length = n ∧ RdN w q NL ∧ (∀ x ∈ NL, x.1.ps.length ≤ 10000000) ∧ ∀ nd ∈ ts, nd.ps.length ≤ 4) := ⟨hv2, hnn, hn, hN, hps, hTb.2⟩
    have hnn30 := hTb.1
    clear hv hM hts hTb hnn hk hL hN hps hm hn hv2 hmb
    go_enter Tryz.func20, Tryz.ntmps20
    go_upto_region 4 with (first
      | (go_at_call 48; refine (HA.out _ hb1).mono ?_; rintro e w1 ⟨rfl, hb2⟩; have hS1 := hS0.step hb2; obtain ⟨u0, u1, _, ug⟩ := hS1.two (K := kT) (g := w.heap.size) (c := 1) (p := (⟨some ad, m, c⟩, ⟨q, n, d⟩)) (by simp) rfl)
      | (go_at_call 15; refine (HP.out _ hS1.bel).mono ?_; rintro e w2 ⟨q1, c1, q2, c2, NG, rfl, hNG, h2⟩; have hS2 : Sg w (w2.alloc (.cells #[.slice q1 m c1, .slice q2 nn c2] 28)) _ := (hS1.addL h2).lit kT [(⟨q1, m, c1⟩, ⟨q2, nn, c2⟩)] 1 rfl (by decide) #[.slice q1 m c1, .slice q2 nn c2] rfl))
    obtain ⟨b3, hb3⟩ : ∃ b, w2.heap.size = b := ⟨_, rfl⟩
    rw [hb3] at hS2 ⊢
    obtain ⟨W2, hW2⟩ : ∃ W, w2.alloc (.cells #[.slice q1 m c1, .slice q2 nn c2] 28) = W := ⟨_, rfl⟩
    rw [hW2] at hS2 ⊢
    obtain ⟨RS, hRS⟩ : ∃ RS, RS = rG kT (.slice (some ⟨b3, 0, none⟩) 1 1) [(⟨q1, m, c1⟩, ⟨q2, nn, c2⟩)] :: (treeR (.slice q1 m c1) (.slice q2 nn c2) L NG ++ [rG kT (.slice (some ⟨w.heap.size, 0, none⟩) 1 1) [(⟨some ad, m, c⟩, ⟨q, n, d⟩)]]) := ⟨_, rfl⟩
    have hS3 : Sg w W2 RS := by rw [hRS]; exact hS2
    have HR : Hid (∀ W rs, Sg w W (rs ++ RS) → (W.cell? ⟨w.heap.size, 0, none⟩ = some (.slice (some ad) m c) ∧ W.cell? ⟨w.heap.size, 1, none⟩ = some (.slice q n d) ∧ w.heap.size < W.heap.size) ∧ (W.cell? ⟨b3, 0, none⟩ = some (.slice q1 m c1) ∧ W.cell? ⟨b3, 1, none⟩ = some (.slice q2 nn c2) ∧ b3 < W.heap.size) ∧ RdN W q2 NG) := fun W rs h => by
      have a := h.two (K := kT) (g := w.heap.size) (c := 1) (p := (⟨some ad, m, c⟩, ⟨q, n, d⟩)) (by simp [hRS]) rfl
      have b := h.two (K := kT) (g := b3) (c := 1) (p := (⟨q1, m, c1⟩, ⟨q2, nn, c2⟩)) (by simp [hRS]) rfl
      exact ⟨⟨a.1, a.2.1, a.2.2.2⟩, ⟨b.1, b.2.1, b.2.2.2⟩, h.rdN (n := nn) (c := c2) (NL := NG) (fun r hr => by simp [hRS, treeR, hr])⟩
    have HNG : Hid (NG.map Prod.fst = ts ∧ NG.length = nn) := ⟨hNG, by rw [← HV.out.2.1, ← hNG]; simp⟩
    clear hS0 hS1 hS2 h2 hRS hW2 hb3 hNG u0 u1 ug HA HP hb1
    obtain ⟨⟨u0, u1, ug⟩, ⟨v0, v1, vg⟩, _⟩ := HR.out W2 [] hS3
    by_cases hl : nn = n
    · subst hl
      go_wp2
      go_loopw [4] (fun iv wr => ∃ k : Nat, k ≤ nn ∧ iv = .int .i64 k ∧ Hid (ts.take k = (NL.map Prod.fst).take k) ∧ Sg w wr RS) (fun iv _ => nn - (intOf iv).toNat)
      case atStart => exact ⟨0, by omega, rfl, (show _ = _ by simp), hS3⟩
      case round =>
        clear hS3 u0 u1 ug v0 v1 vg
        rename World => wo
        obtain ⟨k, hk, rfl, hT, hS⟩ := hrel
        obtain ⟨⟨u0, u1, ug⟩, ⟨v0, v1, vg⟩, hRX⟩ := HR.out wo [] hS
        by_cases hlt : k < nn
        · have hki : (k : Int) < nn := by omega
          have hRT := HV.out.2.2.2.1.step hS.bel
          have ga := getN (L := NG) (k := k) (by rw [HNG.out.2]; exact hlt)
          have gb := getN (L := NL) (k := k) (by rw [HV.out.2.2.1]; exact hlt)
          obtain ⟨g, off, hq2, hC⟩ := hRX.1.at (k := k) (by rw [HNG.out.2]; exact hlt)
          obtain ⟨g2, off2, hq, hC2⟩ := hRT.1.at (k := k) (by rw [HV.out.2.2.1]; exact hlt)
          subst hq2 hq
          have r1 := hRX.2 _ (List.mem_of_getElem? ga)
          have r2 := hRT.2 _ (List.mem_of_getElem? gb)
          have fa : ts[k]? = some (NG.getD k zn).1 := by rw [← HNG.out.1, List.getElem?_map, ga]; rfl
          have fb : (NL.map Prod.fst)[k]? = some (NL.getD k zn).1 := by rw [List.getElem?_map, gb]; rfl
          have l1 := HV.out.2.2.2.2.2 _ (List.mem_of_getElem? fa)
          have l2 := HV.out.2.2.2.2.1 _ (List.mem_of_getElem? gb)
          obtain ⟨c0, c1', c2', c3, c4, c5⟩ := hC.nd ga
          obtain ⟨d0, d1, d2, d3, d4, d5⟩ := hC2.nd gb
          obtain ⟨x, hx⟩ : ∃ x, NG.getD k zn = x := ⟨_, rfl⟩
          obtain ⟨y, hy⟩ : ∃ y, NL.getD k zn = y := ⟨_, rfl⟩
          rw [hx] at c0 c1' c2' c3 c4 c5 r1 fa l1
          rw [hy] at d0 d1 d2 d3 d4 d5 r2 fb l2
          obtain ⟨a, s⟩ := x
          obtain ⟨b, t⟩ := y
          simp only at c0 c1' c2' c3 c4 c5 r1 l1 fa d0 d1 d2 d3 d4 d5 r2 l2 fb
          obtain ⟨ea, hea⟩ : ∃ e, a.ps.length = e := ⟨_, rfl⟩
          obtain ⟨eb, heb⟩ : ∃ e, b.ps.length = e := ⟨_, rfl⟩
          rw [hea] at r1 l1
          rw [heb] at r2 l2
          rw [r1.2] at c5
          rw [r2.2] at d5
          have HF : Hid (ts[k]? = some a ∧ (NL.map Prod.fst)[k]? = some b ∧ a.ps.length = ea ∧ b.ps.length = eb ∧ SlG kI wo s.p a.ps ∧ SlG kI wo t.p b.ps) := ⟨fa, fb, hea, heb, r1.1, r2.1⟩
          have HNO : Hid (¬ a = b → v = false) := (fun hab => by
            rw [← HV.out.1]
            refine Bool.eq_false_iff.mpr fun h => hab ?_
            have h1 := nsE_t.mp h
            rw [h1, fb] at fa
            exact (Option.some.inj fa).symm)
          obtain ⟨la, hla⟩ : ∃ l, a.lf = l := ⟨_, rfl⟩
          obtain ⟨lb, hlb⟩ : ∃ l, b.lf = l := ⟨_, rfl⟩
          have hS5 : Sg w ((wo.alloc (.cells #[.int .i64 a.b.x, .int .i64 a.b.y, .int .i64 a.b.w, .int .i64 a.b.h, .bool la, .slice s.p ea s.c] 49)).alloc (.cells #[.int .i64 b.b.x, .int .i64 b.b.y, .int .i64 b.b.w, .int .i64 b.b.h, .bool lb, .slice t.p eb t.c] 49)) ([rG kN (.slice (some ⟨wo.heap.size + 1, 0, none⟩) 1 1) [(b, ⟨t.p, eb, t.c⟩)], rG kN (.slice (some ⟨wo.heap.size, 0, none⟩) 1 1) [(a, ⟨s.p, ea, s.c⟩)]] ++ RS) := by
            have := (hS.lit kN [(a, ⟨s.p, ea, s.c⟩)] 1 rfl (by decide) #[.int .i64 a.b.x, .int .i64 a.b.y, .int .i64 a.b.w, .int .i64 a.b.h, .bool a.lf, .slice s.p ea s.c] rfl).lit kN [(b, ⟨t.p, eb, t.c⟩)] 1 rfl (by decide) #[.int .i64 b.b.x, .int .i64 b.b.y, .int .i64 b.b.w, .int .i64 b.b.h, .bool b.lf, .slice t.p eb t.c] rfl
            simp only [World.size_alloc] at this
            rw [hla, hlb] at this
            exact this
          rw [hla] at c4
          rw [hlb] at d4
          have HLA : Hid (a.lf = la ∧ b.lf = lb) := ⟨hla, hlb⟩
          have hg1 := hC.1
          have hg2 := hC2.1
          have hql := fun W => run_neqR a.b b.b W
          clear hC hC2 ga gb r1 r2 fa fb hx hy hea heb hRX hRT hla hlb
          cases ht4 : t4E a.b b.b
          · rw [ht4] at hql
            have HVF : Hid (v = false) := HNO.out fun h => by rw [h] at ht4; have := t4E_t.mpr (rfl : b.b = b.b); rw [this] at ht4; cases ht4
            clear ht4
            go_wp2
            go_ret
            exact ⟨by rw [HVF.out]; rfl, hS5.bel⟩
          · rw [ht4] at hql
            cases la <;> cases lb
            · skip
              by_cases hel : ea = eb
              · subst hel
                have HBB : Hid (a.b = b.b ∧ a.lf = b.lf) := ⟨t4E_t.mp ht4, by rw [HLA.out.1, HLA.out.2]⟩
                clear ht4 hS
                go_wp2
                go_loopw [7] (fun jv wr => ∃ j : Nat, j ≤ ea ∧ jv = .int .i64 j ∧ Hid (a.ps.take j = b.ps.take j ∧ Below wo.heap.size wo wr) ∧ Sg w wr ([rG kN (.slice (some ⟨wo.heap.size + 1, 0, none⟩) 1 1) [(b, ⟨t.p, ea, t.c⟩)], rG kN (.slice (some ⟨wo.heap.size, 0, none⟩) 1 1) [(a, ⟨s.p, ea, s.c⟩)]] ++ RS)) (fun jv _ => ea - (intOf jv).toNat)
                case atStart => exact ⟨0, by omega, rfl, ⟨by simp, below_alloc2 _ _ _⟩, hS5⟩
                case round =>
                  clear hS5 u0 u1 v0 v1 c0 c1' c2' c3 c4 c5 d0 d1 d2 d3 d4 d5
                  obtain ⟨j, hj, rfl, hTJ, hSj⟩ := hrel
                  obtain ⟨⟨_, _, _, _, _, x5⟩, _, xg⟩ := hSj.nd1 (g := wo.heap.size) (c := 1) (p := (a, ⟨s.p, ea, s.c⟩)) (by simp)
                  obtain ⟨⟨_, _, _, _, _, y5⟩, _, yg⟩ := hSj.nd1 (g := wo.heap.size + 1) (c := 1) (p := (b, ⟨t.p, ea, t.c⟩)) (by simp)
                  simp only at x5 y5
                  by_cases hjl : j < ea
                  · have hji : (j : Int) < ea := by omega
                    have hja : j < a.ps.length := by rw [HF.out.2.2.1]; exact hjl
                    have hjb : j < b.ps.length := by rw [HF.out.2.2.2.1]; exact hjl
                    obtain ⟨h1, o1, hsp, hD1⟩ := (HF.out.2.2.2.2.1.step hTJ.out.2).at hja
                    obtain ⟨h2, o2, htp, hD2⟩ := (HF.out.2.2.2.2.2.step hTJ.out.2).at hjb
                    have ga := getI hja
                    have gb := getI hjb
                    have e0 := hD1.int ga
                    have f0 := hD2.int gb
                    rw [hsp] at x5
                    rw [htp] at y5
                    obtain ⟨za, hza⟩ : ∃ z, a.ps.getD j 0 = z := ⟨_, rfl⟩
                    obtain ⟨zb, hzb⟩ : ∃ z, b.ps.getD j 0 = z := ⟨_, rfl⟩
                    rw [hza] at ga e0
                    rw [hzb] at gb f0
                    have HGZ : Hid (a.ps[j]? = some za ∧ b.ps[j]? = some zb) := ⟨ga, gb⟩
                    clear hD1 hD2 ga gb hza hzb hja hjb hsp htp
                    by_cases hz : za = zb
                    · subst hz
                      go_wp2
                      go_region_with fail
                      all_goals
                        go_wp2
                        go_roundw
                        case rel => exact ⟨j + 1, by omega, by go_num, ⟨take_eqI hTJ.out.1 HGZ.out.1 HGZ.out.2, hTJ.out.2.drew⟩, hSj.step (Below.refl _ _).drew⟩
                        case measure => simp [intOf]; omega
                    · have HVF : Hid (v = false) := HNO.out fun h => hz (by have h1 := HGZ.out; rw [h] at h1; exact Option.some.inj (h1.1.symm.trans h1.2))
                      have hzn : (za != zb) = true := bne_iff_ne.mpr hz
                      go_wp2
                      go_region_with fail
                      all_goals
                        go_wp2
                        go_ret
                        exact ⟨by rw [HVF.out]; rfl, hSj.bel.drew⟩
                  · obtain rfl : j = ea := by omega
                    have hps : a.ps = b.ps := by
                      have h := hTJ.out.1
                      rwa [List.take_of_length_le (by rw [HF.out.2.2.1]; exact Nat.le_refl _), List.take_of_length_le (by rw [HF.out.2.2.2.1]; exact Nat.le_refl _)] at h
                    have hab : a = b := by
                      have h1 := HBB.out
                      cases a; cases b; simp only at h1 hps; rw [h1.1, h1.2, hps]
                    have HNX : Hid (ts.take (k + 1) = (NL.map Prod.fst).take (k + 1)) := nsE_take hT.out HF.out.1 (by rw [hab]; exact HF.out.2.1)
                    have hSn : Sg w wr RS := hSj.sub (List.sublist_append_right ..)
                    clear hab hps
                    go_wp2
                    refine ⟨⟨k + 1, by omega, by go_num, HNX.out, hSn⟩, by simp [intOf]; omega⟩
              · have HVF : Hid (v = false) := HNO.out fun h => by have h1 := HF.out; rw [h] at h1; omega
                have hel2 : ((ea : Int) != (eb : Int)) = true := bne_iff_ne.mpr (by omega)
                clear ht4
                go_wp2
                go_ret
                exact ⟨by rw [HVF.out]; rfl, hS5.bel⟩
            · skip
              have HVF : Hid (v = false) := HNO.out fun h => by have h1 := HLA.out; rw [h] at h1; exact absurd (h1.1.symm.trans h1.2) (by decide)
              clear ht4
              go_wp2
              go_ret
              exact ⟨by rw [HVF.out]; rfl, hS5.bel⟩
            · skip
              have HVF : Hid (v = false) := HNO.out fun h => by have h1 := HLA.out; rw [h] at h1; exact absurd (h1.1.symm.trans h1.2) (by decide)
              clear ht4
              go_wp2
              go_ret
              exact ⟨by rw [HVF.out]; rfl, hS5.bel⟩
            · skip
              by_cases hel : ea = eb
              · subst hel
                have HBB : Hid (a.b = b.b ∧ a.lf = b.lf) := ⟨t4E_t.mp ht4, by rw [HLA.out.1, HLA.out.2]⟩
                clear ht4 hS
                go_wp2
                go_loopw [7] (fun jv wr => ∃ j : Nat, j ≤ ea ∧ jv = .int .i64 j ∧ Hid (a.ps.take j = b.ps.take j ∧ Below wo.heap.size wo wr) ∧ Sg w wr ([rG kN (.slice (some ⟨wo.heap.size + 1, 0, none⟩) 1 1) [(b, ⟨t.p, ea, t.c⟩)], rG kN (.slice (some ⟨wo.heap.size, 0, none⟩) 1 1) [(a, ⟨s.p, ea, s.c⟩)]] ++ RS)) (fun jv _ => ea - (intOf jv).toNat)
                case atStart => exact ⟨0, by omega, rfl, ⟨by simp, below_alloc2 _ _ _⟩, hS5⟩
                case round =>
                  clear hS5 u0 u1 v0 v1 c0 c1' c2' c3 c4 c5 d0 d1 d2 d3 d4 d5
                  obtain ⟨j, hj, rfl, hTJ, hSj⟩ := hrel
                  obtain ⟨⟨_, _, _, _, _, x5⟩, _, xg⟩ := hSj.nd1 (g := wo.heap.size) (c := 1) (p := (a, ⟨s.p, ea, s.c⟩)) (by simp)
                  obtain ⟨⟨_, _, _, _, _, y5⟩, _, yg⟩ := hSj.nd1 (g := wo.heap.size + 1) (c := 1) (p := (b, ⟨t.p, ea, t.c⟩)) (by simp)
                  simp only at x5 y5
                  by_cases hjl : j < ea
                  · have hji : (j : Int) < ea := by omega
                    have hja : j < a.ps.length := by rw [HF.out.2.2.1]; exact hjl
                    have hjb : j < b.ps.length := by rw [HF.out.2.2.2.1]; exact hjl
                    obtain ⟨h1, o1, hsp, hD1⟩ := (HF.out.2.2.2.2.1.step hTJ.out.2).at hja
                    obtain ⟨h2, o2, htp, hD2⟩ := (HF.out.2.2.2.2.2.step hTJ.out.2).at hjb
                    have ga := getI hja
                    have gb := getI hjb
                    have e0 := hD1.int ga
                    have f0 := hD2.int gb
                    rw [hsp] at x5
                    rw [htp] at y5
                    obtain ⟨za, hza⟩ : ∃ z, a.ps.getD j 0 = z := ⟨_, rfl⟩
                    obtain ⟨zb, hzb⟩ : ∃ z, b.ps.getD j 0 = z := ⟨_, rfl⟩
                    rw [hza] at ga e0
                    rw [hzb] at gb f0
                    have HGZ : Hid (a.ps[j]? = some za ∧ b.ps[j]? = some zb) := ⟨ga, gb⟩
                    clear hD1 hD2 ga gb hza hzb hja hjb hsp htp
                    by_cases hz : za = zb
                    · subst hz
                      go_wp2
                      go_region_with fail
                      all_goals
                        go_wp2
                        go_roundw
                        case rel => exact ⟨j + 1, by omega, by go_num, ⟨take_eqI hTJ.out.1 HGZ.out.1 HGZ.out.2, hTJ.out.2.drew⟩, hSj.step (Below.refl _ _).drew⟩
                        case measure => simp [intOf]; omega
                    · have HVF : Hid (v = false) := HNO.out fun h => hz (by have h1 := HGZ.out; rw [h] at h1; exact Option.some.inj (h1.1.symm.trans h1.2))
                      have hzn : (za != zb) = true := bne_iff_ne.mpr hz
                      go_wp2
                      go_region_with fail
                      all_goals
                        go_wp2
                        go_ret
                        exact ⟨by rw [HVF.out]; rfl, hSj.bel.drew⟩
                  · obtain rfl : j = ea := by omega
                    have hps : a.ps = b.ps := by
                      have h := hTJ.out.1
                      rwa [List.take_of_length_le (by rw [HF.out.2.2.1]; exact Nat.le_refl _), List.take_of_length_le (by rw [HF.out.2.2.2.1]; exact Nat.le_refl _)] at h
                    have hab : a = b := by
                      have h1 := HBB.out
                      cases a; cases b; simp only at h1 hps; rw [h1.1, h1.2, hps]
                    have HNX : Hid (ts.take (k + 1) = (NL.map Prod.fst).take (k + 1)) := nsE_take hT.out HF.out.1 (by rw [hab]; exact HF.out.2.1)
                    have hSn : Sg w wr RS := hSj.sub (List.sublist_append_right ..)
                    clear hab hps
                    go_wp2
                    refine ⟨⟨k + 1, by omega, by go_num, HNX.out, hSn⟩, by simp [intOf]; omega⟩
              · have HVF : Hid (v = false) := HNO.out fun h => by have h1 := HF.out; rw [h] at h1; omega
                have hel2 : ((ea : Int) != (eb : Int)) = true := bne_iff_ne.mpr (by omega)
                clear ht4
                go_wp2
                go_ret
                exact ⟨by rw [HVF.out]; rfl, hS5.bel⟩
        · obtain rfl : k = nn := by omega
          have HVT : Hid (v = true) := (show v = true by
            rw [← HV.out.1]
            refine nsE_t.mpr ?_
            have h := hT.out
            rwa [List.take_of_length_le (by rw [HV.out.2.1]; exact Nat.le_refl _), List.take_of_length_le (by simp [HV.out.2.2.1])] at h)
          clear hT
          go_wp2
          go_ret
          exact ⟨by rw [HVT.out]; rfl, hS.bel⟩
    · have hli : ((nn : Int) != (n : Int)) = true := bne_iff_ne.mpr (by omega)
      have HVF : Hid (v = false) := (show v = false by
        rw [← HV.out.1]
        refine Bool.eq_false_iff.mpr fun h => hl ?_
        have := congrArg List.length (nsE_t.mp h)
        simp [HV.out.2.1, HV.out.2.2.1] at this; exact this)
      go_wp2
      go_ret
      exact ⟨by rw [HVF.out]; rfl, hS3.bel⟩
end Go.Proofs.YtipfcmfcdfofmaaGreat
