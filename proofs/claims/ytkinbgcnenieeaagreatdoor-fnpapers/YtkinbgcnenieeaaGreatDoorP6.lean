/-
  Papers: ClauseText, the spec's and the program's.
-/
import Derived.Test.YtkinbgcnenieeaaGreatDoorP5
namespace Go.Proofs.YtkinbgcnenieeaaGreatDoor
open Go.RowKit Go.Joins M
attribute [local go_sem] Oper.semAt_some

set_option maxHeartbeats 1000000 in
theorem sText_any {c : Cl} {s t : Sv} (w : World) (hR : RdQ w c s t) :
    Calls Tryz.prog 16 #[.agg #[.slice s.p s.n s.c, .slice t.p t.n t.c, .int .i64 c.un]] w fun e w' => e = .returned (.string (ctx c)) ∧ Below w.heap.size w w' := by
  have hst := (St.nil w).push [.slice s.p s.n s.c, .slice t.p t.n t.c, .int .i64 c.un] 29
  cases hv : clB c
  · go_enter Tryz.func16, Tryz.ntmps16
    go_wp2_with (go_at_call 36; refine (sClause_v hv _ (hR.step hst.bel)).mono ?_; rintro e w1 ⟨rfl, hb1⟩)
    go_ret
    exact ⟨by unfold ctx; rw [hv]; rfl, (hst.step hb1).bel⟩
  · go_enter Tryz.func16, Tryz.ntmps16
    go_wp2_with (first
      | (go_at_call 36; refine (sClause_v hv _ (hR.step hst.bel)).mono ?_; rintro e w1 ⟨rfl, hb1⟩; have hs1 := hst.step hb1; have hk := hs1.has; simp [Has, HasAt] at hk)
      | (go_at_call 40; refine (l10Text_any hv _ (hR.step hs1.bel)).mono ?_; rintro e w2 ⟨rfl, hb2⟩))
    go_ret
    exact ⟨by unfold ctx; rw [hv]; rfl, (hs1.step hb2).bel⟩

def wdL (L : List T3) : List ByteArray := (nL L).map dgS
theorem wd_take {L : List T3} {k : Nat} (hk : k < L.length) : ((L.take (k + 1)).flatMap n3).map dgS = ((L.take k).flatMap n3).map dgS ++ [dgS (L.getD k z3).l, dgS (L.getD k z3).x, dgS (L.getD k z3).y] := by
  rw [fm_take hk, List.map_append]; rfl
set_option maxRecDepth 100000 in
set_option maxHeartbeats 4000000 in
theorem words_any (p : Option Addr) (cap : Nat) (L : List T3) (n : Nat) (hn : L.length = n) (hb0 : n ≤ 8) (hz : ∀ c ∈ L, c.ok = true) (w : World) (hL : SlG kC w p L) (hT : TB w) :
    Calls Tryz.prog 45 #[.slice p n cap] w fun e w' => ∃ g cp, e = .returned (.slice (some ⟨g, 0, none⟩) (1 + 3 * n) cp) ∧ Sg w w' [rG kT (.slice (some ⟨g, 0, none⟩) (1 + 3 * n) cp) (wdL L)] := by
  have HN : Hid (L.length = n ∧ ∀ c ∈ L, c.ok = true) := ⟨hn, hz⟩
  clear hn hz
  go_enter Tryz.func45, Tryz.ntmps45
  go_wp2_with (go_at_call 44; refine (decimal_any (n : Int) (by omega) (by omega) _ hT).mono ?_; rintro e w1 ⟨rfl, hb1⟩; have hS0 := ((Sg.nil w).step hb1).lit kT [dgS n] 1 rfl (by decide) #[.string (dgS n)] rfl)
  go_loopw [3, 12] (fun nv iv wr => ∃ (k g cp : Nat) (Ls : List ByteArray), k ≤ n ∧ iv = .int .i64 k ∧ nv = .slice (some ⟨g, 0, none⟩) (1 + 3 * k) cp ∧ Hid (Ls = dgS n :: ((L.take k).flatMap n3).map dgS ∧ Ls.length = 1 + 3 * k) ∧ Sg w wr [rG kT (.slice (some ⟨g, 0, none⟩) (1 + 3 * k) cp) Ls]) (fun _ iv _ => n - (intOf iv).toNat)
  case atStart => exact ⟨0, _, _, _, by omega, rfl, rfl, ⟨rfl, rfl⟩, hS0⟩
  case round =>
    clear hS0 hb1
    obtain ⟨k, g, cp, Ls, hk, rfl, rfl, hLs, hS⟩ := hrel
    by_cases hlt : k < n
    · have hki : (k : Int) < n := by omega
      have hkL : k < L.length := by rw [HN.out.1]; exact hlt
      obtain ⟨gl, off, rfl, hC⟩ := (hL.step hS.bel).at hkL
      obtain ⟨c0, c1, c2⟩ := hC.c3 (getC hkL)
      have HF := Lib.hid (wd_take hkL)
      have hzb := t3_bd (HN.out.2 _ (List.mem_of_getElem? (getC hkL)))
      generalize L.getD k z3 = z at c0 c1 c2 HF hzb
      have hrow := hS.lit kC [z] 1 rfl (by decide) #[.int .i64 z.l, .int .i64 z.x, .int .i64 z.y] rfl
      have HK : Hid (∀ w', Sg w w' [rG kC (.slice (some ⟨wr.heap.size, 0, none⟩) 1 1) [z]] → ((w'.cell? ⟨wr.heap.size, 0, none⟩ = some (.int .i64 z.l) ∧ w'.cell? ⟨wr.heap.size, 1, none⟩ = some (.int .i64 z.x) ∧ w'.cell? ⟨wr.heap.size, 2, none⟩ = some (.int .i64 z.y)) ∧ TB w')) := fun w' h => by
        obtain ⟨y0, y1, y2, _, _⟩ := h.three (K := kC) (g := wr.heap.size) (n := 1) (p := z) (by simp) rfl
        exact ⟨⟨y0, y1, y2⟩, hT.step h.bel⟩
      clear hC hkL
      go_wp2
      go_region_held3 (fun w' => Sg w w' [rG kC (.slice (some ⟨wr.heap.size, 0, none⟩) 1 1) [z]] ∧ ((w'.cell? ⟨wr.heap.size, 0, none⟩ = some (.int .i64 z.l) ∧ w'.cell? ⟨wr.heap.size, 1, none⟩ = some (.int .i64 z.x) ∧ w'.cell? ⟨wr.heap.size, 2, none⟩ = some (.int .i64 z.y)) ∧ TB w'))
        (first | exact ‹Sg _ _ _ ∧ _› | exact keepG HK (hS4.sub (by simp)) | exact keepG HK (hrow.sub (by simp)) | exact keepG HK ((hrow.sub (by simp)).step ((below_alloc1 _ _))) | exact keepG HK ((hrow.sub (by simp)).step ((Below.refl _ _).drew)) | fail)
        (first
          | (go_at_call 44; refine (decimal_any _ (by omega) (by omega) _ (‹Sg _ _ _ ∧ _ ∧ _›).2.2).mono ?_; rintro e w2 ⟨rfl, hb2⟩; (first | (replace hrow := hrow.step hb2) | (replace hrow := (hrow.step (Below.refl _ _).drew).step hb2)))
          | (refine step_sgapp appT (by rfl) _ _ (by rfl) (A := [_]) (B := [dgS z.l, dgS z.x, dgS z.y]) (n := 1 + 3 * k) (m := 3) hrow (below_alloc1 _ _) hLs.out.2 rfl (by rfl) ⟨_, 0, none⟩ 3 (by rfl) (fun j u hj => lit_src (xs := [.string (dgS z.l), .string (dgS z.x), .string (dgS z.y)]) (t := 9) rfl j u hj) (oneTs _) (.inl (by decide)) (by omega) ?_; intro g' cap' w4 hS4 _ _))
      all_goals
        go_wp2
        go_roundw
        case rel =>
          refine ⟨k + 1, g', cap', Ls ++ [dgS z.l, dgS z.x, dgS z.y], by omega, by go_num, rfl, ⟨by rw [hLs.out.1, HF.out]; simp, by rw [List.length_append, hLs.out.2]; rfl⟩, Sg.d0 hS4⟩
        case measure => simp [intOf]; omega
    · obtain rfl : k = n := by omega
      have HE : Hid (Ls = wdL L) := by
        rw [hLs.out.1, List.take_of_length_le (by rw [HN.out.1]; exact Nat.le_refl _)]
        unfold wdL nL
        rw [HN.out.1]; exact rfl
      go_wp2
      go_ret
      exact ⟨g, cp, rfl, by rw [← HE.out]; exact hS⟩

theorem OwG.cap {α : Type} {K : Kd α} {W : World} {base g n c : Nat} {L : List α} (h : OwG K W base (.slice (some ⟨g, 0, none⟩) n c) L) : n ≤ c := by
  have hn := OwG.len h
  subst hn
  rcases h.2 with ⟨h1, _⟩ | ⟨_, _, _, h1, _, _, h2, _⟩
  · cases h1
  · injection h1 with _ _ h1; omega
theorem join_own {w W : World} {rs : List Rw} {g n c : Nat} {L : List ByteArray} {T : List UInt8} (hS : Sg w W rs) (hm : rG kT (.slice (some ⟨g, 0, none⟩) n c) L ∈ rs) (hl : Lib.join (L.map (·.data.toList)) (⟨#[32]⟩ : ByteArray).data.toList = T) (hn : n ≤ 1000) (ht : T.length ≤ 1000) :
    Calls Tryz.prog 46 #[.slice (some ⟨g, 0, none⟩) n c, .string ⟨#[32]⟩] W fun e w' => e = .returned (.string ⟨T.toArray⟩) ∧ Below W.heap.size W w' := by
  have ho := hS.mem (K := kT) hm
  have hlen := OwG.len ho
  have hcap := OwG.cap ho
  have hc := OwG.cs ho
  subst hl
  have := Tryz.strings_Join g 0 c L ⟨#[32]⟩ W (fun j x hj => hc.str hj) hc.1 (by omega) (by omega) (by omega)
  rw [← hlen] at this
  exact this
/-- All words of a Clause's text. -/
theorem join_words (c : Cl) : Lib.join ((dgS c.un :: (wdL c.rd ++ wdL c.wr)).map (·.data.toList)) (⟨#[32]⟩ : ByteArray).data.toList = txL (nums c) := by
  unfold txL nums wdL
  show Lib.join _ [32] = Lib.join _ [32]
  congr 1
  simp [dgS, Function.comp_def]
set_option maxRecDepth 100000 in
set_option maxHeartbeats 4000000 in
theorem iText_any {c : Cl} {s t : Sv} (w : World) (hR : RdQ w c s t) (hT : TB w) :
    Calls Tryz.prog 15 #[.agg #[.slice s.p s.n s.c, .slice t.p t.n t.c, .int .i64 c.un]] w fun e w' => e = .returned (.string (ctx c)) ∧ Below w.heap.size w w' := by
  have hS0 := (Sg.nil w).lit kQ [(c, s, t)] 1 rfl (by decide) #[.slice s.p s.n s.c, .slice t.p t.n t.c, .int .i64 c.un] rfl
  cases hv : clB c
  · go_enter Tryz.func15, Tryz.ntmps15
    go_wp2_with (go_at_call 27; refine (iClause_v hv _ (hR.step hS0.bel)).mono ?_; rintro e w1 ⟨rfl, hb1⟩)
    go_ret
    exact ⟨by unfold ctx; rw [hv]; rfl, (hS0.step hb1).bel⟩
  · obtain ⟨hu, h1, h2⟩ := clB_t hv
    unfold ofB at h1 h2
    rw [Bool.and_eq_true, decide_eq_true_iff] at h1 h2
    have hsn : s.n ≤ 8 := by rw [← hR.n1]; exact h1.1
    have htn : t.n ≤ 8 := by rw [← hR.n2]; exact h2.1
    have HW1 : Hid (∀ W, Below w.heap.size w W → Calls Tryz.prog 45 #[.slice s.p s.n s.c] W fun e w' => ∃ g cp, e = .returned (.slice (some ⟨g, 0, none⟩) (1 + 3 * s.n) cp) ∧ Sg W w' [rG kT (.slice (some ⟨g, 0, none⟩) (1 + 3 * s.n) cp) (wdL c.rd)]) := fun W h => words_any s.p s.c c.rd s.n hR.n1 hsn (okL_t h1.2) W (hR.r1.step h) (hT.step h)
    have HW2 : Hid (∀ W, Below w.heap.size w W → Calls Tryz.prog 45 #[.slice t.p t.n t.c] W fun e w' => ∃ g cp, e = .returned (.slice (some ⟨g, 0, none⟩) (1 + 3 * t.n) cp) ∧ Sg W w' [rG kT (.slice (some ⟨g, 0, none⟩) (1 + 3 * t.n) cp) (wdL c.wr)]) := fun W h => words_any t.p t.c c.wr t.n hR.n2 htn (okL_t h2.2) W (hR.r2.step h) (hT.step h)
    have HL : Hid ((wdL c.rd).length = 1 + 3 * s.n ∧ (wdL c.wr).length = 1 + 3 * t.n) := ⟨by unfold wdL; rw [List.length_map, nL_len, hR.n1], by unfold wdL; rw [List.length_map, nL_len, hR.n2]⟩
    have HTX : Hid ((txL (nums c)).length ≤ 170) := txL_len hv
    have hRR := Lib.hid hR
    clear hR h1 h2
    have f0 : True := trivial
    have g0 : True := trivial
    go_enter Tryz.func15, Tryz.ntmps15
    go_wp2_with (first
      | (go_at_call 27; refine (iClause_v hv _ (hRR.out.step hS0.bel)).mono ?_; rintro e w1 ⟨rfl, hb1⟩; have hS1 := hS0.step hb1; obtain ⟨x0, x1, x2, xf, xg⟩ := hS1.three (K := kQ) (g := w.heap.size) (n := 1) (p := (c, s, t)) (by simp) rfl)
      | (go_at_call 44; refine (decimal_any _ (by omega) (by omega) _ (hT.step hS1.bel)).mono ?_; rintro e w2 ⟨rfl, hb2⟩; clear x0 x1 x2 xf xg; have hS2a := hS1.step hb2; have hS2 := hS2a.lit kT [dgS c.un] 1 rfl (by decide) #[.string (dgS c.un)] rfl; change Sg w (w2.alloc (.cells #[.string (dgS c.un)] 9)) _ at hS2; obtain ⟨x0, x1, x2, xf, xg⟩ := hS2a.three (K := kQ) (g := w.heap.size) (n := 1) (p := (c, s, t)) (by simp) rfl)
      | (go_at_call 45; clear f0; refine (HW1.out _ hS2.bel).mono ?_; rintro e w3 ⟨g3, c3, rfl, hw3⟩; have hS3 := hS2.addL hw3)
      | (at_builtin; clear g0; refine wpList_sgapp appT rfl _ _ rfl (A := [rG kT (.slice (some ⟨g3, 0, none⟩) (1 + 3 * s.n) c3) (wdL c.rd)]) (M := [dgS c.un]) (B := wdL c.rd) (n := 1) (m := 1 + 3 * s.n) hS3 (Below.refl _ _) rfl HL.out.1 rfl ⟨g3, 0, none⟩ c3 rfl (cs_src (OwG.cs (hS3.mem (K := kT) (v := .slice (some ⟨g3, 0, none⟩) (1 + 3 * s.n) c3) (L := wdL c.rd) (by simp)))) (oneTs _) (.inl (by omega)) (by omega) ?_; intro g4 c4 w4 hS4 _ _; clear x0 x1 x2 xf xg; obtain ⟨x0, x1, x2, xf, xg⟩ := hS4.three (K := kQ) (g := w.heap.size) (n := 1) (p := (c, s, t)) (by simp) rfl)
      | (go_at_call 45; refine (HW2.out _ hS4.bel).mono ?_; rintro e w5 ⟨g5, c5, rfl, hw5⟩; have hS5 := hS4.addL hw5)
      | (at_builtin; refine wpList_sgapp appT rfl _ _ rfl (A := [rG kT (.slice (some ⟨g5, 0, none⟩) (1 + 3 * t.n) c5) (wdL c.wr), rG kT (.slice (some ⟨g3, 0, none⟩) (1 + 3 * s.n) c3) (wdL c.rd)]) (M := [dgS c.un] ++ wdL c.rd) (B := wdL c.wr) (n := 1 + (1 + 3 * s.n)) (m := 1 + 3 * t.n) hS5 (Below.refl _ _) (by rw [List.length_append, HL.out.1]; rfl) HL.out.2 rfl ⟨g5, 0, none⟩ c5 rfl (cs_src (OwG.cs (hS5.mem (K := kT) (v := .slice (some ⟨g5, 0, none⟩) (1 + 3 * t.n) c5) (L := wdL c.wr) (by simp)))) (oneTs _) (.inl (by omega)) (by omega) ?_; intro g6 c6 w6 hS6 _ _; refine Hid.out ?_))
    refine Lib.hid ?_
    have HJ := join_own (T := txL (nums c)) hS6 (g := g6) (n := 1 + (1 + 3 * s.n) + (1 + 3 * t.n)) (c := c6) (L := [dgS c.un] ++ wdL c.rd ++ wdL c.wr) (by simp) (by rw [← join_words]; simp) (by omega) (by have := HTX.out; omega)
    have HB := Lib.hid hS6.bel
    clear hS6 hS5 hS4 hS3 hS2 hS2a hS1 hS0
    go_wp2_with (go_at_call 46; refine HJ.mono ?_; rintro e w7 ⟨rfl, hb7⟩)
    go_ret
    exact ⟨by unfold ctx tx; rw [hv]; rfl, bstep HB.out hb7 (Nat.le_refl _)⟩
end Go.Proofs.YtkinbgcnenieeaaGreatDoor
