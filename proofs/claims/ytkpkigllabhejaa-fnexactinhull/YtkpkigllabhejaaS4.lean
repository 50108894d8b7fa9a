/-
  Spots by place, each once: the spec's.
-/
import Derived.Test.YtkpkigllabhejaaS3
namespace Go.Proofs.Ytkpkigllabhejaa
open Go.RowKit Go.Joins
attribute [local go_sem ↓] Go.wp_at_zero Go.wp_at_succ

theorem Ow.cap {W : World} {base g n cap : Nat} {M : List T2} (h : Ow W base (.slice (Option.some ⟨g, 0, none⟩) n cap) M) : M.length ≤ cap := by
  rcases h.2 with ⟨h1, _⟩ | ⟨_, _, _, h1, _, _, h2, _⟩
  · cases h1
  · injection h1 with _ _ h1
    subst h1; exact h2
theorem srt_take {L : List T2} {k : Nat} (hk : k < L.length) : srtT (L.take (k + 1)) = insT L[k] (srtT (L.take k)) := by
  rw [List.take_succ_eq_append_getElem hk, srt_snoc]
set_option maxRecDepth 100000 in
set_option maxHeartbeats 8000000 in
theorem l5Sorted_any (p : Option Addr) (cap : Nat) (L : List T2) (hn : L.length ≤ 40) (w : World) (hL : Sl w p L) :
    Calls Try.prog 52 #[.slice p L.length cap] w fun e w' => ∃ q cap', e = .returned (.slice (some ⟨q, 0, none⟩) (srtT L).length cap') ∧ Ow w' w.heap.size (.slice (some ⟨q, 0, none⟩) (srtT L).length cap') (srtT L) ∧ Below w.heap.size w w' := by
  have hx0 := (Sx.nil w).new
  go_enter Try.func52, Try.ntmps52
  go_wp2
  go_loopw [3, 4] (fun sv i wr => ∃ (k g cap' : Nat) (N : List T2), k ≤ L.length ∧ i = .int .i64 k ∧ sv = .slice (some ⟨g, 0, none⟩) N.length cap' ∧ N = srtT (L.take k) ∧ Sx w wr [(.slice (some ⟨g, 0, none⟩) N.length cap', N)]) (fun _ i _ => L.length - (intOf i).toNat)
  case atStart => exact ⟨0, _, _, [], by omega, rfl, rfl, rfl, hx0⟩
  case round =>
    clear hx0
    obtain ⟨k, g, cap', N, hk, rfl, rfl, hN, hx⟩ := hrel
    by_cases hlt : k < L.length
    · have hki : (k : Int) < L.length := by omega
      obtain ⟨gL, off, rfl, hC⟩ := hL.at hlt
      have hLk := List.getElem?_eq_getElem hlt
      have hst := srt_take hlt
      generalize L[k] = s at hLk hst
      rw [← hN] at hst
      have hNl : N.length ≤ 40 := by rw [hN]; have := srt_len (L.take k); rw [List.length_take] at this; omega
      have HT : Hid (srtT (L.take (k + 1)) = insT s N) := hst
      clear hst hN
      have hbx : ∀ {bS : Nat} {W : World}, Has W [(bS, [.int .i64 s.x, .int .i64 s.y])] → (W.cell? ⟨bS, 0, none⟩ = some (.int .i64 s.x) ∧ W.cell? ⟨bS, 1, none⟩ = some (.int .i64 s.y)) := fun h => by simp [Has, HasAt] at h; simp [h]
      obtain ⟨c0, c1⟩ := (hC.step hx.bel).2 k s hLk
      go_wp2
      have hB := ((St.nil wr).push [.int .i64 s.x, .int .i64 s.y] 38)
      have hxn := hx.step hB.bel
      have hHs := hB.has
      clear hx hB c0 c1
      generalize wr.alloc _ = W1 at hxn hHs ⊢
      generalize wr.heap.size = bS at hHs ⊢
      have hx := hxn
      clear hxn
      go_loopw [6] (fun kv wq => ∃ j : Nat, kv = .int .i64 j ∧ j ≤ pos s N ∧ Sx w wq [(.slice (some ⟨g, 0, none⟩) N.length cap', N)] ∧ Has wq [(bS, [.int .i64 s.x, .int .i64 s.y])]) (fun kv _ => N.length - (intOf kv).toNat)
      case atStart => exact ⟨0, rfl, by omega, hx, hHs⟩
      case round =>
        clear hx hHs
        obtain ⟨j, rfl, hjp, hx, hHs⟩ := hrel
        have hpl := pos_le s N
        obtain ⟨hsx, hsy⟩ := hbx hHs
        have hj0 : (0 : Int) ≤ (j : Int) := by omega
        by_cases hjn : j < N.length
        · have hji : (j : Int) < N.length := by omega
          have hjd : decide ((j : Int) < (N.length : Int)) = true := decide_eq_true hji
          have hcs := (Ow.cs hx.o0).2 j N[j] (List.getElem?_eq_getElem hjn)
          simp only [Nat.zero_add] at hcs
          obtain ⟨d0, d1⟩ := hcs
          by_cases hjl : j < pos s N
          · have hlt2 := ltB_t.mp (pos_lt s N j hjn hjl)
            generalize N[j] = c at d0 d1 hlt2
            by_cases hxl : c.x < s.x
            · have b1 : decide (c.x < s.x) = true := decide_eq_true hxl
              clear hlt2
              go_wp2_with fail
              go_quiet (fail)
              go_wp2_with fail
              go_roundw
              case rel => exact ⟨j + 1, by go_num, by omega, hx.step (below_drewN _ _), hHs.step (below_drewN _ _)⟩
              case measure => simp [intOf]; omega
            · have b1 : decide (c.x < s.x) = false := decide_eq_false hxl
              have hxe : c.x = s.x := by omega
              have hye : c.y < s.y := by omega
              have b2 : (c.x == s.x) = true := by simp [hxe]
              have b3 : decide (c.y < s.y) = true := decide_eq_true hye
              clear hlt2 hxe hxl
              go_wp2_with fail
              go_quiet (fail)
              go_wp2_with fail
              go_roundw
              case rel => exact ⟨j + 1, by go_num, by omega, hx.step (below_drewN _ _), hHs.step (below_drewN _ _)⟩
              case measure => simp [intOf]; omega
          · have hje : j = pos s N := by omega
            have hge : ltB N[j] s = false := by have := pos_at s N (by omega); simpa only [← hje] using this
            have hhas : hasP s N = eqB N[j] s := by unfold hasP; rw [← hje, List.getElem?_eq_getElem hjn]
            have hins : insT s N = if eqB N[j] s then N else N.take j ++ s :: N.drop j := by unfold insT; rw [hhas, ← hje]
            have HI : Hid (insT s N = if eqB N[j] s then N else N.take j ++ s :: N.drop j) := hins
            clear hins hhas hje hjl hjp hpl
            have hge' : ¬ (N[j].x < s.x ∨ N[j].x = s.x ∧ N[j].y < s.y) := by rw [← ltB_t]; simp [hge]
            clear hge
            generalize N[j] = c at d0 d1 hge' HI
            have b1 : decide (c.x < s.x) = false := decide_eq_false (by omega)
            have hql := fun W => run_eqlT c s W
            by_cases hxe : c.x = s.x
            · have b2 : (c.x == s.x) = true := by simp [hxe]
              have b3 : decide (c.y < s.y) = false := decide_eq_false (by omega)
              by_cases hye : c.y = s.y
              · have heq : eqB c s = true := by simp [eqB, hxe, hye]
                rw [heq] at HI hql
                clear hxe hye hge'
                go_wp2_with fail
                go_quiet (fail)
                go_wp2_with fail
                go_quiet (fail)
                go_wp2_with fail
                go_roundw
                case rel => exact ⟨k + 1, g, cap', N, by omega, by go_num, rfl, by rw [HT.out, HI.out]; simp, hx.step (below_drewN _ _)⟩
                case measure => simp [intOf]; omega
              · have heq : eqB c s = false := by simp [eqB, hye]
                rw [heq] at HI hql
                clear hxe hye hge'
                go_wp2_with fail
                go_quiet (fail)
                go_wp2_with fail
                go_quiet (fail)
                generalize hWe : World.drewN _ _ = W2
                replace hx : Sx w W2 [(.slice (some ⟨g, 0, none⟩) N.length cap', N)] := by rw [← hWe]; first | exact hx.step (below_drewN _ _) | exact (hx.step (below_drewN _ _)).step (below_drewN _ _)
                replace hHs : Has W2 [(bS, [.int .i64 s.x, .int .i64 s.y])] := by rw [← hWe]; first | exact hHs.step (below_drewN _ _) | exact (hHs.step (below_drewN _ _)).step (below_drewN _ _)
                clear hWe hsx hsy d0 d1 hql
                have hBl : (N.drop j).length = N.length - j := by simp
                have hck : ¬ cap' = j := by obtain ⟨_, _, _, _, h⟩ := Ow.some (M := N) hx.o0 (by omega); omega
                obtain ⟨hsx, hsy⟩ := hbx hHs
                have hjc : j ≤ cap' := by obtain ⟨_, _, _, _, h⟩ := Ow.some (M := N) hx.o0 (by omega); omega
                have hjI : (j : Int) ≤ (N.length : Int) := by omega
                have hj0 : (0 : Int) ≤ (j : Int) := by omega
                go_upto_region 11 with (at_builtin; refine wpList_app rfl _ _ rfl (base := w.heap.size) (M := ([] : List T2)) (B := N.drop j) rfl (hx).new.o0 _ _ (by rw [hBl]; rfl) (fun i u hi => by have h7 := cs_news (cs_drop (Ow.cs (hx).new.o1) j) i u hi; rw [Nat.zero_add] at h7; exact h7) (by simp; omega) (by have := (hx).bel.size; simp; omega) ?_; intro g1 cap1 w1 hO1 hg1 ha1; have hx1 := Sx.app (A := []) (hx).new hO1 hg1 ha1; simp only [List.nil_append] at hx1; have hH1 := ((hHs).step (below_alloc1 _ (.cells #[] 38))).grown hg1 (fun p hp => by simp at hp; subst hp; have := (hHs).1.1; simp; omega))
                clear hx hHs hO1 hg1 ha1
                generalize hM0 : N.drop j = M0 at hx1 ⊢
                have HM0 : Hid (N.drop j = M0) := hM0
                have hM0e : M0.length = N.length - j := by rw [← hM0, List.length_drop]
                have hM0l : M0.length ≤ 40 := by rw [hM0e]; omega
                clear hM0 hBl
                have tk1 : True := trivial
                have tk2 : True := trivial
                have hcc := hbx hH1
                have hjT : (N.take j).length = j := by rw [List.length_take]; omega
                have hbs1 := hH1.1.1
                go_wp2_with fail
                go_region_held3 (fun w' => Has w' [(bS, [.int .i64 s.x, .int .i64 s.y])] ∧ (w'.cell? ⟨bS, 0, none⟩ = some (.int .i64 s.x) ∧ w'.cell? ⟨bS, 1, none⟩ = some (.int .i64 s.y))) (first | exact ‹Has _ _ ∧ _› | exact ⟨hH4, hbx hH4⟩ | exact ⟨hH3, hbx hH3⟩ | exact ⟨hH2, hbx hH2⟩ | exact ⟨(hH2.step (below_alloc1 _ _)), hbx (hH2.step (below_alloc1 _ _))⟩ | exact ⟨(hH1.step (Below.refl _ _).drew), hbx (hH1.step (Below.refl _ _).drew)⟩ | exact ⟨(hH1.step (below_alloc1 _ _).drew), hbx (hH1.step (below_alloc1 _ _).drew)⟩ | exact ⟨(hH1.step (below_alloc2 _ _ _).drew), hbx (hH1.step (below_alloc2 _ _ _).drew)⟩ | fail)
                  (first
                    | (clear tk1; have hX := hx1.new.step (Below.refl _ _).drew; refine step_app rfl _ _ rfl (base := w.heap.size) (M := ([] : List T2)) (B := N.take j) rfl hX.o0 _ _ (by first | (rw [hjT]; done) | (rw [hjT]; rfl)) (fun i u hi => cs_news (cs_take (Ow.cs hX.o2) j) i u hi) (by first | omega | (simp; done) | (simp; omega)) (by have := hX.bel.size; omega) ?_; intro g2 cap2 w2 hO2 hg2 ha2; have hx2 := Sx.app (A := []) hX hO2 hg2 ha2; simp only [List.nil_append] at hx2; have hH2 := Has.grown hg2 (fun p hp => by simp at hp; subst hp; first | omega | (simp; done) | (simp; omega)) (hH1.step (below_alloc1 _ _).drew); have hge2 : bS < g2 := (by rcases ha2 with e | e <;> (rw [e]; first | omega | (simp; omega))); clear hO2 hg2 ha2; generalize hM1 : N.take j = M1 at hx2 ⊢; have HM1 : Hid (N.take j = M1) := hM1; have hM1l : M1.length ≤ 40 := (by rw [← hM1]; first | omega | (simp; done) | (simp; omega)); clear hM1)
                    | (clear tk1; have hX := hx1.new.step (below_alloc1 _ (.cells #[.int .i64 s.x, .int .i64 s.y] 38)).drew; have hN1 := (((St.nil (w1.alloc (.cells #[] 38))).push [.int .i64 s.x, .int .i64 s.y] 38).has).step (Below.refl _ _).drew; refine step_app rfl _ _ rfl (base := w.heap.size) (M := ([] : List T2)) (B := N.take j) rfl hX.o0 _ _ (by first | (rw [hjT]; done) | (rw [hjT]; rfl)) (fun i u hi => cs_news (cs_take (Ow.cs hX.o2) j) i u hi) (by first | omega | (simp; done) | (simp; omega)) (by have := hX.bel.size; omega) ?_; intro g2 cap2 w2 hO2 hg2 ha2; have hx2 := Sx.app (A := []) hX hO2 hg2 ha2; simp only [List.nil_append] at hx2; have hH2 := Has.grown hg2 (fun p hp => by simp at hp; subst hp; first | omega | (simp; done) | (simp; omega)) (hH1.step (below_alloc2 _ _ _).drew); have hN2 := hN1.grown hg2 (fun p hp => by simp at hp; subst hp; first | (simp; done) | omega | (simp; omega)); have hge2 : bS < g2 := (by rcases ha2 with e | e <;> (rw [e]; first | omega | (simp; omega))); clear hO2 hg2 ha2; generalize hM1 : N.take j = M1 at hx2 ⊢; have HM1 : Hid (N.take j = M1) := hM1; have hM1l : M1.length ≤ 40 := (by rw [← hM1]; first | omega | (simp; done) | (simp; omega)); clear hM1)
                    | (clear tk1; have hX := ((hx1.step (below_alloc1 _ (.cells #[.int .i64 s.x, .int .i64 s.y] 38))).new).step (Below.refl _ _).drew; simp only [World.size_alloc] at hX; have hN1 := (((St.nil w1).push [.int .i64 s.x, .int .i64 s.y] 38).has).step (below_alloc1 _ (.cells #[] 38)).drew; refine step_app rfl _ _ rfl (base := w.heap.size) (M := ([] : List T2)) (B := N.take j) rfl hX.o0 _ _ (by first | (rw [hjT]; done) | (rw [hjT]; rfl)) (fun i u hi => cs_news (cs_take (Ow.cs hX.o2) j) i u hi) (by first | omega | (simp; done) | (simp; omega)) (by have := hX.bel.size; omega) ?_; intro g2 cap2 w2 hO2 hg2 ha2; have hx2 := Sx.app (A := []) hX hO2 hg2 ha2; simp only [List.nil_append] at hx2; have hH2 := Has.grown hg2 (fun p hp => by simp at hp; subst hp; first | omega | (simp; done) | (simp; omega)) (hH1.step (below_alloc2 _ _ _).drew); have hN2 := hN1.grown hg2 (fun p hp => by simp at hp; subst hp; first | (simp; done) | omega | (simp; omega)); have hge2 : bS < g2 := (by rcases ha2 with e | e <;> (rw [e]; first | omega | (simp; omega))); clear hO2 hg2 ha2; generalize hM1 : N.take j = M1 at hx2 ⊢; have HM1 : Hid (N.take j = M1) := hM1; have hM1l : M1.length ≤ 40 := (by rw [← hM1]; first | omega | (simp; done) | (simp; omega)); clear hM1)
                    | (clear tk2; have hX := hx2; refine step_app rfl _ _ rfl (base := w.heap.size) (M := M1) (B := [s]) rfl hX.o0 _ _ rfl (fun i u hi => by rw [show flat [s] = s.vs by simp [flat]] at hi; have h7 := HasAt.get hN2.1.2.2 i u hi; rw [addr_add]; first | exact h7 | (simp only [World.size_alloc] at h7; exact h7) | (simp at h7 ⊢; exact h7)) (by first | omega | (simp; done) | (simp; omega)) (by have := hX.bel.size; omega) ?_; intro g3 cap3 w3 hO3 hg3 ha3; have hx3 := Sx.app (A := []) hX hO3 hg3 ha3; simp only [List.nil_append] at hx3; have hH3 := hH2.grown hg3 (fun p hp => by simp at hp; subst hp; omega); have hge3 : bS < g3 := (by rcases ha3 with e | e <;> (rw [e]; first | omega | (have := hH2.1.1; first | omega | (simp; omega)))); clear hO3 hg3 ha3; generalize hM2 : M1 ++ [s] = M2 at hx3 ⊢; have HM2 : Hid (M1 ++ [s] = M2) := hM2; have hM2l : M2.length ≤ 41 := (by rw [← hM2]; first | omega | (simp; done) | (simp; omega)); clear hM2)
                    | (clear tk2; have hX := hx2.step (below_alloc1 _ (.cells #[.int .i64 s.x, .int .i64 s.y] 38)); have hH2' := hH2.step (below_alloc1 _ (.cells #[.int .i64 s.x, .int .i64 s.y] 38)); refine step_app rfl _ _ rfl (base := w.heap.size) (M := M1) (B := [s]) rfl hX.o0 _ _ rfl (fun i u hi => by rw [show flat [s] = s.vs by simp [flat]] at hi; exact cell_two_at rfl i u hi) (by first | omega | (simp; done) | (simp; omega)) (by have := hX.bel.size; first | omega | (simp; done) | (simp; omega)) ?_; intro g3 cap3 w3 hO3 hg3 ha3; have hx3 := Sx.app (A := []) hX hO3 hg3 ha3; simp only [List.nil_append] at hx3; have hH3 := hH2'.grown hg3 (fun p hp => by simp at hp; subst hp; omega); have hge3 : bS < g3 := (by rcases ha3 with e | e <;> (rw [e]; first | omega | (have := hH2.1.1; first | omega | (simp; omega)))); clear hO3 hg3 ha3; generalize hM2 : M1 ++ [s] = M2 at hx3 ⊢; have HM2 : Hid (M1 ++ [s] = M2) := hM2; have hM2l : M2.length ≤ 41 := (by rw [← hM2]; first | omega | (simp; done) | (simp; omega)); clear hM2)
                    | (refine step_app rfl _ _ rfl (base := w.heap.size) (M := M2) (B := M0) rfl hx3.o0 _ _ (by first | (rw [hM0e]; done) | (rw [hM0e]; rfl)) (fun i u hi => by have h7 := cs_news (Ow.cs hx3.o1) i u hi; exact h7) (by omega) (by have := hx3.bel.size; omega) ?_; intro g4 cap4 w4 hO4 hg4 ha4; have hx4 := Sx.app (A := []) hx3 hO4 hg4 ha4; simp only [List.nil_append] at hx4; have hH4 := hH3.grown hg4 (fun p hp => by simp at hp; subst hp; omega); clear hO4 hg4 ha4; generalize hM3 : M2 ++ M0 = M3 at hx4 ⊢; have HM3 : Hid (M2 ++ M0 = M3) := hM3; clear hM3))
                all_goals
                  go_wp2_with fail
                  go_roundw
                  case rel => exact ⟨k + 1, g4, cap4, M3, by omega, by go_num, rfl, by rw [HT.out, HI.out, ← HM3.out, ← HM2.out, ← HM1.out, ← HM0.out]; simp, hx4.sub (by simp)⟩
                  case measure => simp [intOf]; omega
            · have b2 : (c.x == s.x) = false := by simp [hxe]
              have heq : eqB c s = false := by simp [eqB, hxe]
              rw [heq] at HI hql
              clear hxe hge'
              go_wp2_with fail
              go_quiet (fail)
              go_wp2_with fail
              go_quiet (fail)
              generalize hWe : World.drewN _ _ = W2
              replace hx : Sx w W2 [(.slice (some ⟨g, 0, none⟩) N.length cap', N)] := by rw [← hWe]; first | exact hx.step (below_drewN _ _) | exact (hx.step (below_drewN _ _)).step (below_drewN _ _)
              replace hHs : Has W2 [(bS, [.int .i64 s.x, .int .i64 s.y])] := by rw [← hWe]; first | exact hHs.step (below_drewN _ _) | exact (hHs.step (below_drewN _ _)).step (below_drewN _ _)
              clear hWe hsx hsy d0 d1 hql
              have hBl : (N.drop j).length = N.length - j := by simp
              have hck : ¬ cap' = j := by obtain ⟨_, _, _, _, h⟩ := Ow.some (M := N) hx.o0 (by omega); omega
              obtain ⟨hsx, hsy⟩ := hbx hHs
              have hjc : j ≤ cap' := by obtain ⟨_, _, _, _, h⟩ := Ow.some (M := N) hx.o0 (by omega); omega
              have hjI : (j : Int) ≤ (N.length : Int) := by omega
              have hj0 : (0 : Int) ≤ (j : Int) := by omega
              go_upto_region 11 with (at_builtin; refine wpList_app rfl _ _ rfl (base := w.heap.size) (M := ([] : List T2)) (B := N.drop j) rfl (hx).new.o0 _ _ (by rw [hBl]; rfl) (fun i u hi => by have h7 := cs_news (cs_drop (Ow.cs (hx).new.o1) j) i u hi; rw [Nat.zero_add] at h7; exact h7) (by simp; omega) (by have := (hx).bel.size; simp; omega) ?_; intro g1 cap1 w1 hO1 hg1 ha1; have hx1 := Sx.app (A := []) (hx).new hO1 hg1 ha1; simp only [List.nil_append] at hx1; have hH1 := ((hHs).step (below_alloc1 _ (.cells #[] 38))).grown hg1 (fun p hp => by simp at hp; subst hp; have := (hHs).1.1; simp; omega))
              clear hx hHs hO1 hg1 ha1
              generalize hM0 : N.drop j = M0 at hx1 ⊢
              have HM0 : Hid (N.drop j = M0) := hM0
              have hM0e : M0.length = N.length - j := by rw [← hM0, List.length_drop]
              have hM0l : M0.length ≤ 40 := by rw [hM0e]; omega
              clear hM0 hBl
              have tk1 : True := trivial
              have tk2 : True := trivial
              have hcc := hbx hH1
              have hjT : (N.take j).length = j := by rw [List.length_take]; omega
              have hbs1 := hH1.1.1
              go_wp2_with fail
              go_region_held3 (fun w' => Has w' [(bS, [.int .i64 s.x, .int .i64 s.y])] ∧ (w'.cell? ⟨bS, 0, none⟩ = some (.int .i64 s.x) ∧ w'.cell? ⟨bS, 1, none⟩ = some (.int .i64 s.y))) (first | exact ‹Has _ _ ∧ _› | exact ⟨hH4, hbx hH4⟩ | exact ⟨hH3, hbx hH3⟩ | exact ⟨hH2, hbx hH2⟩ | exact ⟨(hH2.step (below_alloc1 _ _)), hbx (hH2.step (below_alloc1 _ _))⟩ | exact ⟨(hH1.step (Below.refl _ _).drew), hbx (hH1.step (Below.refl _ _).drew)⟩ | exact ⟨(hH1.step (below_alloc1 _ _).drew), hbx (hH1.step (below_alloc1 _ _).drew)⟩ | exact ⟨(hH1.step (below_alloc2 _ _ _).drew), hbx (hH1.step (below_alloc2 _ _ _).drew)⟩ | fail)
                (first
                  | (clear tk1; have hX := hx1.new.step (Below.refl _ _).drew; refine step_app rfl _ _ rfl (base := w.heap.size) (M := ([] : List T2)) (B := N.take j) rfl hX.o0 _ _ (by first | (rw [hjT]; done) | (rw [hjT]; rfl)) (fun i u hi => cs_news (cs_take (Ow.cs hX.o2) j) i u hi) (by first | omega | (simp; done) | (simp; omega)) (by have := hX.bel.size; omega) ?_; intro g2 cap2 w2 hO2 hg2 ha2; have hx2 := Sx.app (A := []) hX hO2 hg2 ha2; simp only [List.nil_append] at hx2; have hH2 := Has.grown hg2 (fun p hp => by simp at hp; subst hp; first | omega | (simp; done) | (simp; omega)) (hH1.step (below_alloc1 _ _).drew); have hge2 : bS < g2 := (by rcases ha2 with e | e <;> (rw [e]; first | omega | (simp; omega))); clear hO2 hg2 ha2; generalize hM1 : N.take j = M1 at hx2 ⊢; have HM1 : Hid (N.take j = M1) := hM1; have hM1l : M1.length ≤ 40 := (by rw [← hM1]; first | omega | (simp; done) | (simp; omega)); clear hM1)
                  | (clear tk1; have hX := hx1.new.step (below_alloc1 _ (.cells #[.int .i64 s.x, .int .i64 s.y] 38)).drew; have hN1 := (((St.nil (w1.alloc (.cells #[] 38))).push [.int .i64 s.x, .int .i64 s.y] 38).has).step (Below.refl _ _).drew; refine step_app rfl _ _ rfl (base := w.heap.size) (M := ([] : List T2)) (B := N.take j) rfl hX.o0 _ _ (by first | (rw [hjT]; done) | (rw [hjT]; rfl)) (fun i u hi => cs_news (cs_take (Ow.cs hX.o2) j) i u hi) (by first | omega | (simp; done) | (simp; omega)) (by have := hX.bel.size; omega) ?_; intro g2 cap2 w2 hO2 hg2 ha2; have hx2 := Sx.app (A := []) hX hO2 hg2 ha2; simp only [List.nil_append] at hx2; have hH2 := Has.grown hg2 (fun p hp => by simp at hp; subst hp; first | omega | (simp; done) | (simp; omega)) (hH1.step (below_alloc2 _ _ _).drew); have hN2 := hN1.grown hg2 (fun p hp => by simp at hp; subst hp; first | (simp; done) | omega | (simp; omega)); have hge2 : bS < g2 := (by rcases ha2 with e | e <;> (rw [e]; first | omega | (simp; omega))); clear hO2 hg2 ha2; generalize hM1 : N.take j = M1 at hx2 ⊢; have HM1 : Hid (N.take j = M1) := hM1; have hM1l : M1.length ≤ 40 := (by rw [← hM1]; first | omega | (simp; done) | (simp; omega)); clear hM1)
                  | (clear tk1; have hX := ((hx1.step (below_alloc1 _ (.cells #[.int .i64 s.x, .int .i64 s.y] 38))).new).step (Below.refl _ _).drew; simp only [World.size_alloc] at hX; have hN1 := (((St.nil w1).push [.int .i64 s.x, .int .i64 s.y] 38).has).step (below_alloc1 _ (.cells #[] 38)).drew; refine step_app rfl _ _ rfl (base := w.heap.size) (M := ([] : List T2)) (B := N.take j) rfl hX.o0 _ _ (by first | (rw [hjT]; done) | (rw [hjT]; rfl)) (fun i u hi => cs_news (cs_take (Ow.cs hX.o2) j) i u hi) (by first | omega | (simp; done) | (simp; omega)) (by have := hX.bel.size; omega) ?_; intro g2 cap2 w2 hO2 hg2 ha2; have hx2 := Sx.app (A := []) hX hO2 hg2 ha2; simp only [List.nil_append] at hx2; have hH2 := Has.grown hg2 (fun p hp => by simp at hp; subst hp; first | omega | (simp; done) | (simp; omega)) (hH1.step (below_alloc2 _ _ _).drew); have hN2 := hN1.grown hg2 (fun p hp => by simp at hp; subst hp; first | (simp; done) | omega | (simp; omega)); have hge2 : bS < g2 := (by rcases ha2 with e | e <;> (rw [e]; first | omega | (simp; omega))); clear hO2 hg2 ha2; generalize hM1 : N.take j = M1 at hx2 ⊢; have HM1 : Hid (N.take j = M1) := hM1; have hM1l : M1.length ≤ 40 := (by rw [← hM1]; first | omega | (simp; done) | (simp; omega)); clear hM1)
                  | (clear tk2; have hX := hx2; refine step_app rfl _ _ rfl (base := w.heap.size) (M := M1) (B := [s]) rfl hX.o0 _ _ rfl (fun i u hi => by rw [show flat [s] = s.vs by simp [flat]] at hi; have h7 := HasAt.get hN2.1.2.2 i u hi; rw [addr_add]; first | exact h7 | (simp only [World.size_alloc] at h7; exact h7) | (simp at h7 ⊢; exact h7)) (by first | omega | (simp; done) | (simp; omega)) (by have := hX.bel.size; omega) ?_; intro g3 cap3 w3 hO3 hg3 ha3; have hx3 := Sx.app (A := []) hX hO3 hg3 ha3; simp only [List.nil_append] at hx3; have hH3 := hH2.grown hg3 (fun p hp => by simp at hp; subst hp; omega); have hge3 : bS < g3 := (by rcases ha3 with e | e <;> (rw [e]; first | omega | (have := hH2.1.1; first | omega | (simp; omega)))); clear hO3 hg3 ha3; generalize hM2 : M1 ++ [s] = M2 at hx3 ⊢; have HM2 : Hid (M1 ++ [s] = M2) := hM2; have hM2l : M2.length ≤ 41 := (by rw [← hM2]; first | omega | (simp; done) | (simp; omega)); clear hM2)
                  | (clear tk2; have hX := hx2.step (below_alloc1 _ (.cells #[.int .i64 s.x, .int .i64 s.y] 38)); have hH2' := hH2.step (below_alloc1 _ (.cells #[.int .i64 s.x, .int .i64 s.y] 38)); refine step_app rfl _ _ rfl (base := w.heap.size) (M := M1) (B := [s]) rfl hX.o0 _ _ rfl (fun i u hi => by rw [show flat [s] = s.vs by simp [flat]] at hi; exact cell_two_at rfl i u hi) (by first | omega | (simp; done) | (simp; omega)) (by have := hX.bel.size; first | omega | (simp; done) | (simp; omega)) ?_; intro g3 cap3 w3 hO3 hg3 ha3; have hx3 := Sx.app (A := []) hX hO3 hg3 ha3; simp only [List.nil_append] at hx3; have hH3 := hH2'.grown hg3 (fun p hp => by simp at hp; subst hp; omega); have hge3 : bS < g3 := (by rcases ha3 with e | e <;> (rw [e]; first | omega | (have := hH2.1.1; first | omega | (simp; omega)))); clear hO3 hg3 ha3; generalize hM2 : M1 ++ [s] = M2 at hx3 ⊢; have HM2 : Hid (M1 ++ [s] = M2) := hM2; have hM2l : M2.length ≤ 41 := (by rw [← hM2]; first | omega | (simp; done) | (simp; omega)); clear hM2)
                  | (refine step_app rfl _ _ rfl (base := w.heap.size) (M := M2) (B := M0) rfl hx3.o0 _ _ (by first | (rw [hM0e]; done) | (rw [hM0e]; rfl)) (fun i u hi => by have h7 := cs_news (Ow.cs hx3.o1) i u hi; exact h7) (by omega) (by have := hx3.bel.size; omega) ?_; intro g4 cap4 w4 hO4 hg4 ha4; have hx4 := Sx.app (A := []) hx3 hO4 hg4 ha4; simp only [List.nil_append] at hx4; have hH4 := hH3.grown hg4 (fun p hp => by simp at hp; subst hp; omega); clear hO4 hg4 ha4; generalize hM3 : M2 ++ M0 = M3 at hx4 ⊢; have HM3 : Hid (M2 ++ M0 = M3) := hM3; clear hM3))
              all_goals
                go_wp2_with fail
                go_roundw
                case rel => exact ⟨k + 1, g4, cap4, M3, by omega, by go_num, rfl, by rw [HT.out, HI.out, ← HM3.out, ← HM2.out, ← HM1.out, ← HM0.out]; simp, hx4.sub (by simp)⟩
                case measure => simp [intOf]; omega
        · have hjd : decide ((j : Int) < (N.length : Int)) = false := decide_eq_false (by omega)
          have hje : j = pos s N := by omega
          have hhas : hasP s N = false := by unfold hasP; rw [← hje, List.getElem?_eq_none (by omega)]
          have hins : insT s N = N.take j ++ s :: N.drop j := by unfold insT; rw [hhas, ← hje]; rfl
          have HI : Hid (insT s N = N.take j ++ s :: N.drop j) := hins
          have hD0 : N.drop j = [] := List.drop_eq_nil_of_le (by omega)
          have hjI : (j : Int) ≤ (N.length : Int) := by omega
          have hcp : N.length ≤ cap' := Ow.cap (M := N) hx.o0
          have hjle : j ≤ N.length := by omega
          have hjge : N.length ≤ j := by omega
          clear hins hhas hje hjp hpl
          have hBl0 : (N.drop j).length = 0 := by rw [hD0]; rfl
          have hjd2 : decide (j < N.length) = false := decide_eq_false hjn
          clear hjge hjn
          by_cases hck : j = cap'
          · subst hck
            go_wp2_with fail
            go_quiet (fail)
            go_wp2_with fail
            go_quiet (fail)
            generalize hWe : World.drewN _ _ = W2
            replace hx : Sx w W2 [(.slice (some ⟨g, 0, none⟩) N.length j, N)] := by rw [← hWe]; first | exact hx.step (below_drewN _ _) | exact (hx.step (below_drewN _ _)).step (below_drewN _ _)
            replace hHs : Has W2 [(bS, [.int .i64 s.x, .int .i64 s.y])] := by rw [← hWe]; first | exact hHs.step (below_drewN _ _) | exact (hHs.step (below_drewN _ _)).step (below_drewN _ _)
            clear hWe hsx hsy
            have hBl : (N.drop j).length = N.length - j := by simp
            obtain ⟨hsx, hsy⟩ := hbx hHs
            have hjc : j ≤ j := by omega
            have hj0 : (0 : Int) ≤ (j : Int) := by omega
            go_upto_region 11 with (at_builtin; refine wpList_app rfl _ _ rfl (base := w.heap.size) (M := ([] : List T2)) (B := N.drop j) rfl (hx).new.o0 _ _ (by first | (rw [hBl]; rfl) | (rw [hBl0]; done) | (rw [hBl0]; rfl)) (fun i u hi => by rw [hD0] at hi; simp [flat] at hi) (by simp; omega) (by have := (hx).bel.size; simp; omega) ?_; intro g1 cap1 w1 hO1 hg1 ha1; have hx1 := Sx.app (A := []) (hx).new hO1 hg1 ha1; simp only [List.nil_append] at hx1; have hH1 := ((hHs).step (below_alloc1 _ (.cells #[] 38))).grown hg1 (fun p hp => by simp at hp; subst hp; have := (hHs).1.1; simp; omega))
            clear hx hHs hO1 hg1 ha1
            generalize hM0 : N.drop j = M0 at hx1 ⊢
            have HM0 : Hid (N.drop j = M0) := hM0
            have hM0e : M0.length = N.length - j := by rw [← hM0, List.length_drop]
            have hM0l : M0.length ≤ 40 := by rw [hM0e]; omega
            have hM00 : M0.length = 0 := by rw [← hM0]; exact hBl0
            clear hM0 hBl
            have tk1 : True := trivial
            have tk2 : True := trivial
            have hcc := hbx hH1
            have hjT : (N.take j).length = j := by rw [List.length_take]; omega
            have hbs1 := hH1.1.1
            go_wp2_with fail
            go_region_held3 (fun w' => Has w' [(bS, [.int .i64 s.x, .int .i64 s.y])] ∧ (w'.cell? ⟨bS, 0, none⟩ = some (.int .i64 s.x) ∧ w'.cell? ⟨bS, 1, none⟩ = some (.int .i64 s.y))) (first | exact ‹Has _ _ ∧ _› | exact ⟨hH4, hbx hH4⟩ | exact ⟨hH3, hbx hH3⟩ | exact ⟨hH2, hbx hH2⟩ | exact ⟨(hH2.step (below_alloc1 _ _)), hbx (hH2.step (below_alloc1 _ _))⟩ | exact ⟨(hH1.step (Below.refl _ _).drew), hbx (hH1.step (Below.refl _ _).drew)⟩ | exact ⟨(hH1.step (below_alloc1 _ _).drew), hbx (hH1.step (below_alloc1 _ _).drew)⟩ | exact ⟨(hH1.step (below_alloc2 _ _ _).drew), hbx (hH1.step (below_alloc2 _ _ _).drew)⟩ | fail)
              (first
                | (clear tk1; have hX := hx1.new.step (Below.refl _ _).drew; refine step_app rfl _ _ rfl (base := w.heap.size) (M := ([] : List T2)) (B := N.take j) rfl hX.o0 _ _ (by first | (rw [hjT]; done) | (rw [hjT]; rfl)) (fun i u hi => cs_news (cs_take (Ow.cs hX.o2) j) i u hi) (by first | omega | (simp; done) | (simp; omega)) (by have := hX.bel.size; omega) ?_; intro g2 cap2 w2 hO2 hg2 ha2; have hx2 := Sx.app (A := []) hX hO2 hg2 ha2; simp only [List.nil_append] at hx2; have hH2 := Has.grown hg2 (fun p hp => by simp at hp; subst hp; first | omega | (simp; done) | (simp; omega)) (hH1.step (below_alloc1 _ _).drew); have hge2 : bS < g2 := (by rcases ha2 with e | e <;> (rw [e]; first | omega | (simp; omega))); clear hO2 hg2 ha2; generalize hM1 : N.take j = M1 at hx2 ⊢; have HM1 : Hid (N.take j = M1) := hM1; have hM1l : M1.length ≤ 40 := (by rw [← hM1]; first | omega | (simp; done) | (simp; omega)); clear hM1)
                | (clear tk1; have hX := hx1.new.step (below_alloc1 _ (.cells #[.int .i64 s.x, .int .i64 s.y] 38)).drew; have hN1 := (((St.nil (w1.alloc (.cells #[] 38))).push [.int .i64 s.x, .int .i64 s.y] 38).has).step (Below.refl _ _).drew; refine step_app rfl _ _ rfl (base := w.heap.size) (M := ([] : List T2)) (B := N.take j) rfl hX.o0 _ _ (by first | (rw [hjT]; done) | (rw [hjT]; rfl)) (fun i u hi => cs_news (cs_take (Ow.cs hX.o2) j) i u hi) (by first | omega | (simp; done) | (simp; omega)) (by have := hX.bel.size; omega) ?_; intro g2 cap2 w2 hO2 hg2 ha2; have hx2 := Sx.app (A := []) hX hO2 hg2 ha2; simp only [List.nil_append] at hx2; have hH2 := Has.grown hg2 (fun p hp => by simp at hp; subst hp; first | omega | (simp; done) | (simp; omega)) (hH1.step (below_alloc2 _ _ _).drew); have hN2 := hN1.grown hg2 (fun p hp => by simp at hp; subst hp; first | (simp; done) | omega | (simp; omega)); have hge2 : bS < g2 := (by rcases ha2 with e | e <;> (rw [e]; first | omega | (simp; omega))); clear hO2 hg2 ha2; generalize hM1 : N.take j = M1 at hx2 ⊢; have HM1 : Hid (N.take j = M1) := hM1; have hM1l : M1.length ≤ 40 := (by rw [← hM1]; first | omega | (simp; done) | (simp; omega)); clear hM1)
                | (clear tk1; have hX := ((hx1.step (below_alloc1 _ (.cells #[.int .i64 s.x, .int .i64 s.y] 38))).new).step (Below.refl _ _).drew; simp only [World.size_alloc] at hX; have hN1 := (((St.nil w1).push [.int .i64 s.x, .int .i64 s.y] 38).has).step (below_alloc1 _ (.cells #[] 38)).drew; refine step_app rfl _ _ rfl (base := w.heap.size) (M := ([] : List T2)) (B := N.take j) rfl hX.o0 _ _ (by first | (rw [hjT]; done) | (rw [hjT]; rfl)) (fun i u hi => cs_news (cs_take (Ow.cs hX.o2) j) i u hi) (by first | omega | (simp; done) | (simp; omega)) (by have := hX.bel.size; omega) ?_; intro g2 cap2 w2 hO2 hg2 ha2; have hx2 := Sx.app (A := []) hX hO2 hg2 ha2; simp only [List.nil_append] at hx2; have hH2 := Has.grown hg2 (fun p hp => by simp at hp; subst hp; first | omega | (simp; done) | (simp; omega)) (hH1.step (below_alloc2 _ _ _).drew); have hN2 := hN1.grown hg2 (fun p hp => by simp at hp; subst hp; first | (simp; done) | omega | (simp; omega)); have hge2 : bS < g2 := (by rcases ha2 with e | e <;> (rw [e]; first | omega | (simp; omega))); clear hO2 hg2 ha2; generalize hM1 : N.take j = M1 at hx2 ⊢; have HM1 : Hid (N.take j = M1) := hM1; have hM1l : M1.length ≤ 40 := (by rw [← hM1]; first | omega | (simp; done) | (simp; omega)); clear hM1)
                | (clear tk2; have hX := hx2; refine step_app rfl _ _ rfl (base := w.heap.size) (M := M1) (B := [s]) rfl hX.o0 _ _ rfl (fun i u hi => by rw [show flat [s] = s.vs by simp [flat]] at hi; have h7 := HasAt.get hN2.1.2.2 i u hi; rw [addr_add]; first | exact h7 | (simp only [World.size_alloc] at h7; exact h7) | (simp at h7 ⊢; exact h7)) (by first | omega | (simp; done) | (simp; omega)) (by have := hX.bel.size; omega) ?_; intro g3 cap3 w3 hO3 hg3 ha3; have hx3 := Sx.app (A := []) hX hO3 hg3 ha3; simp only [List.nil_append] at hx3; have hH3 := hH2.grown hg3 (fun p hp => by simp at hp; subst hp; omega); have hge3 : bS < g3 := (by rcases ha3 with e | e <;> (rw [e]; first | omega | (have := hH2.1.1; first | omega | (simp; omega)))); clear hO3 hg3 ha3; generalize hM2 : M1 ++ [s] = M2 at hx3 ⊢; have HM2 : Hid (M1 ++ [s] = M2) := hM2; have hM2l : M2.length ≤ 41 := (by rw [← hM2]; first | omega | (simp; done) | (simp; omega)); clear hM2)
                | (clear tk2; have hX := hx2.step (below_alloc1 _ (.cells #[.int .i64 s.x, .int .i64 s.y] 38)); have hH2' := hH2.step (below_alloc1 _ (.cells #[.int .i64 s.x, .int .i64 s.y] 38)); refine step_app rfl _ _ rfl (base := w.heap.size) (M := M1) (B := [s]) rfl hX.o0 _ _ rfl (fun i u hi => by rw [show flat [s] = s.vs by simp [flat]] at hi; exact cell_two_at rfl i u hi) (by first | omega | (simp; done) | (simp; omega)) (by have := hX.bel.size; first | omega | (simp; done) | (simp; omega)) ?_; intro g3 cap3 w3 hO3 hg3 ha3; have hx3 := Sx.app (A := []) hX hO3 hg3 ha3; simp only [List.nil_append] at hx3; have hH3 := hH2'.grown hg3 (fun p hp => by simp at hp; subst hp; omega); have hge3 : bS < g3 := (by rcases ha3 with e | e <;> (rw [e]; first | omega | (have := hH2.1.1; first | omega | (simp; omega)))); clear hO3 hg3 ha3; generalize hM2 : M1 ++ [s] = M2 at hx3 ⊢; have HM2 : Hid (M1 ++ [s] = M2) := hM2; have hM2l : M2.length ≤ 41 := (by rw [← hM2]; first | omega | (simp; done) | (simp; omega)); clear hM2)
                | (refine step_app rfl _ _ rfl (base := w.heap.size) (M := M2) (B := M0) rfl hx3.o0 _ _ (by first | (rw [hM0e]; done) | (rw [hM0e]; rfl) | (rw [hM00]; done) | (rw [hM00]; rfl)) (fun i u hi => by have h7 := cs_news (Ow.cs hx3.o1) i u hi; exact h7) (by omega) (by have := hx3.bel.size; omega) ?_; intro g4 cap4 w4 hO4 hg4 ha4; have hx4 := Sx.app (A := []) hx3 hO4 hg4 ha4; simp only [List.nil_append] at hx4; have hH4 := hH3.grown hg4 (fun p hp => by simp at hp; subst hp; omega); clear hO4 hg4 ha4; generalize hM3 : M2 ++ M0 = M3 at hx4 ⊢; have HM3 : Hid (M2 ++ M0 = M3) := hM3; clear hM3))
            all_goals
              go_wp2_with fail
              go_roundw
              case rel => exact ⟨k + 1, g4, cap4, M3, by omega, by go_num, rfl, by rw [HT.out, HI.out, ← HM3.out, ← HM2.out, ← HM1.out, ← HM0.out]; simp, hx4.sub (by simp)⟩
              case measure => simp [intOf]; omega
          · have hck2 : ¬ cap' = j := fun e => hck e.symm
            go_wp2_with fail
            go_quiet (fail)
            go_wp2_with fail
            go_quiet (fail)
            generalize hWe : World.drewN _ _ = W2
            replace hx : Sx w W2 [(.slice (some ⟨g, 0, none⟩) N.length cap', N)] := by rw [← hWe]; first | exact hx.step (below_drewN _ _) | exact (hx.step (below_drewN _ _)).step (below_drewN _ _)
            replace hHs : Has W2 [(bS, [.int .i64 s.x, .int .i64 s.y])] := by rw [← hWe]; first | exact hHs.step (below_drewN _ _) | exact (hHs.step (below_drewN _ _)).step (below_drewN _ _)
            clear hWe hsx hsy
            have hBl : (N.drop j).length = N.length - j := by simp
            obtain ⟨hsx, hsy⟩ := hbx hHs
            have hjc : j ≤ cap' := by omega
            have hj0 : (0 : Int) ≤ (j : Int) := by omega
            go_upto_region 11 with (at_builtin; refine wpList_app rfl _ _ rfl (base := w.heap.size) (M := ([] : List T2)) (B := N.drop j) rfl (hx).new.o0 _ _ (by first | (rw [hBl]; rfl) | (rw [hBl0]; done) | (rw [hBl0]; rfl)) (fun i u hi => by rw [hD0] at hi; simp [flat] at hi) (by simp; omega) (by have := (hx).bel.size; simp; omega) ?_; intro g1 cap1 w1 hO1 hg1 ha1; have hx1 := Sx.app (A := []) (hx).new hO1 hg1 ha1; simp only [List.nil_append] at hx1; have hH1 := ((hHs).step (below_alloc1 _ (.cells #[] 38))).grown hg1 (fun p hp => by simp at hp; subst hp; have := (hHs).1.1; simp; omega))
            clear hx hHs hO1 hg1 ha1
            generalize hM0 : N.drop j = M0 at hx1 ⊢
            have HM0 : Hid (N.drop j = M0) := hM0
            have hM0e : M0.length = N.length - j := by rw [← hM0, List.length_drop]
            have hM0l : M0.length ≤ 40 := by rw [hM0e]; omega
            have hM00 : M0.length = 0 := by rw [← hM0]; exact hBl0
            clear hM0 hBl
            have tk1 : True := trivial
            have tk2 : True := trivial
            have hcc := hbx hH1
            have hjT : (N.take j).length = j := by rw [List.length_take]; omega
            have hbs1 := hH1.1.1
            go_wp2_with fail
            go_region_held3 (fun w' => Has w' [(bS, [.int .i64 s.x, .int .i64 s.y])] ∧ (w'.cell? ⟨bS, 0, none⟩ = some (.int .i64 s.x) ∧ w'.cell? ⟨bS, 1, none⟩ = some (.int .i64 s.y))) (first | exact ‹Has _ _ ∧ _› | exact ⟨hH4, hbx hH4⟩ | exact ⟨hH3, hbx hH3⟩ | exact ⟨hH2, hbx hH2⟩ | exact ⟨(hH2.step (below_alloc1 _ _)), hbx (hH2.step (below_alloc1 _ _))⟩ | exact ⟨(hH1.step (Below.refl _ _).drew), hbx (hH1.step (Below.refl _ _).drew)⟩ | exact ⟨(hH1.step (below_alloc1 _ _).drew), hbx (hH1.step (below_alloc1 _ _).drew)⟩ | exact ⟨(hH1.step (below_alloc2 _ _ _).drew), hbx (hH1.step (below_alloc2 _ _ _).drew)⟩ | fail)
              (first
                | (clear tk1; have hX := hx1.new.step (Below.refl _ _).drew; refine step_app rfl _ _ rfl (base := w.heap.size) (M := ([] : List T2)) (B := N.take j) rfl hX.o0 _ _ (by first | (rw [hjT]; done) | (rw [hjT]; rfl)) (fun i u hi => cs_news (cs_take (Ow.cs hX.o2) j) i u hi) (by first | omega | (simp; done) | (simp; omega)) (by have := hX.bel.size; omega) ?_; intro g2 cap2 w2 hO2 hg2 ha2; have hx2 := Sx.app (A := []) hX hO2 hg2 ha2; simp only [List.nil_append] at hx2; have hH2 := Has.grown hg2 (fun p hp => by simp at hp; subst hp; first | omega | (simp; done) | (simp; omega)) (hH1.step (below_alloc1 _ _).drew); have hge2 : bS < g2 := (by rcases ha2 with e | e <;> (rw [e]; first | omega | (simp; omega))); clear hO2 hg2 ha2; generalize hM1 : N.take j = M1 at hx2 ⊢; have HM1 : Hid (N.take j = M1) := hM1; have hM1l : M1.length ≤ 40 := (by rw [← hM1]; first | omega | (simp; done) | (simp; omega)); clear hM1)
                | (clear tk1; have hX := hx1.new.step (below_alloc1 _ (.cells #[.int .i64 s.x, .int .i64 s.y] 38)).drew; have hN1 := (((St.nil (w1.alloc (.cells #[] 38))).push [.int .i64 s.x, .int .i64 s.y] 38).has).step (Below.refl _ _).drew; refine step_app rfl _ _ rfl (base := w.heap.size) (M := ([] : List T2)) (B := N.take j) rfl hX.o0 _ _ (by first | (rw [hjT]; done) | (rw [hjT]; rfl)) (fun i u hi => cs_news (cs_take (Ow.cs hX.o2) j) i u hi) (by first | omega | (simp; done) | (simp; omega)) (by have := hX.bel.size; omega) ?_; intro g2 cap2 w2 hO2 hg2 ha2; have hx2 := Sx.app (A := []) hX hO2 hg2 ha2; simp only [List.nil_append] at hx2; have hH2 := Has.grown hg2 (fun p hp => by simp at hp; subst hp; first | omega | (simp; done) | (simp; omega)) (hH1.step (below_alloc2 _ _ _).drew); have hN2 := hN1.grown hg2 (fun p hp => by simp at hp; subst hp; first | (simp; done) | omega | (simp; omega)); have hge2 : bS < g2 := (by rcases ha2 with e | e <;> (rw [e]; first | omega | (simp; omega))); clear hO2 hg2 ha2; generalize hM1 : N.take j = M1 at hx2 ⊢; have HM1 : Hid (N.take j = M1) := hM1; have hM1l : M1.length ≤ 40 := (by rw [← hM1]; first | omega | (simp; done) | (simp; omega)); clear hM1)
                | (clear tk1; have hX := ((hx1.step (below_alloc1 _ (.cells #[.int .i64 s.x, .int .i64 s.y] 38))).new).step (Below.refl _ _).drew; simp only [World.size_alloc] at hX; have hN1 := (((St.nil w1).push [.int .i64 s.x, .int .i64 s.y] 38).has).step (below_alloc1 _ (.cells #[] 38)).drew; refine step_app rfl _ _ rfl (base := w.heap.size) (M := ([] : List T2)) (B := N.take j) rfl hX.o0 _ _ (by first | (rw [hjT]; done) | (rw [hjT]; rfl)) (fun i u hi => cs_news (cs_take (Ow.cs hX.o2) j) i u hi) (by first | omega | (simp; done) | (simp; omega)) (by have := hX.bel.size; omega) ?_; intro g2 cap2 w2 hO2 hg2 ha2; have hx2 := Sx.app (A := []) hX hO2 hg2 ha2; simp only [List.nil_append] at hx2; have hH2 := Has.grown hg2 (fun p hp => by simp at hp; subst hp; first | omega | (simp; done) | (simp; omega)) (hH1.step (below_alloc2 _ _ _).drew); have hN2 := hN1.grown hg2 (fun p hp => by simp at hp; subst hp; first | (simp; done) | omega | (simp; omega)); have hge2 : bS < g2 := (by rcases ha2 with e | e <;> (rw [e]; first | omega | (simp; omega))); clear hO2 hg2 ha2; generalize hM1 : N.take j = M1 at hx2 ⊢; have HM1 : Hid (N.take j = M1) := hM1; have hM1l : M1.length ≤ 40 := (by rw [← hM1]; first | omega | (simp; done) | (simp; omega)); clear hM1)
                | (clear tk2; have hX := hx2; refine step_app rfl _ _ rfl (base := w.heap.size) (M := M1) (B := [s]) rfl hX.o0 _ _ rfl (fun i u hi => by rw [show flat [s] = s.vs by simp [flat]] at hi; have h7 := HasAt.get hN2.1.2.2 i u hi; rw [addr_add]; first | exact h7 | (simp only [World.size_alloc] at h7; exact h7) | (simp at h7 ⊢; exact h7)) (by first | omega | (simp; done) | (simp; omega)) (by have := hX.bel.size; omega) ?_; intro g3 cap3 w3 hO3 hg3 ha3; have hx3 := Sx.app (A := []) hX hO3 hg3 ha3; simp only [List.nil_append] at hx3; have hH3 := hH2.grown hg3 (fun p hp => by simp at hp; subst hp; omega); have hge3 : bS < g3 := (by rcases ha3 with e | e <;> (rw [e]; first | omega | (have := hH2.1.1; first | omega | (simp; omega)))); clear hO3 hg3 ha3; generalize hM2 : M1 ++ [s] = M2 at hx3 ⊢; have HM2 : Hid (M1 ++ [s] = M2) := hM2; have hM2l : M2.length ≤ 41 := (by rw [← hM2]; first | omega | (simp; done) | (simp; omega)); clear hM2)
                | (clear tk2; have hX := hx2.step (below_alloc1 _ (.cells #[.int .i64 s.x, .int .i64 s.y] 38)); have hH2' := hH2.step (below_alloc1 _ (.cells #[.int .i64 s.x, .int .i64 s.y] 38)); refine step_app rfl _ _ rfl (base := w.heap.size) (M := M1) (B := [s]) rfl hX.o0 _ _ rfl (fun i u hi => by rw [show flat [s] = s.vs by simp [flat]] at hi; exact cell_two_at rfl i u hi) (by first | omega | (simp; done) | (simp; omega)) (by have := hX.bel.size; first | omega | (simp; done) | (simp; omega)) ?_; intro g3 cap3 w3 hO3 hg3 ha3; have hx3 := Sx.app (A := []) hX hO3 hg3 ha3; simp only [List.nil_append] at hx3; have hH3 := hH2'.grown hg3 (fun p hp => by simp at hp; subst hp; omega); have hge3 : bS < g3 := (by rcases ha3 with e | e <;> (rw [e]; first | omega | (have := hH2.1.1; first | omega | (simp; omega)))); clear hO3 hg3 ha3; generalize hM2 : M1 ++ [s] = M2 at hx3 ⊢; have HM2 : Hid (M1 ++ [s] = M2) := hM2; have hM2l : M2.length ≤ 41 := (by rw [← hM2]; first | omega | (simp; done) | (simp; omega)); clear hM2)
                | (refine step_app rfl _ _ rfl (base := w.heap.size) (M := M2) (B := M0) rfl hx3.o0 _ _ (by first | (rw [hM0e]; done) | (rw [hM0e]; rfl) | (rw [hM00]; done) | (rw [hM00]; rfl)) (fun i u hi => by have h7 := cs_news (Ow.cs hx3.o1) i u hi; exact h7) (by omega) (by have := hx3.bel.size; omega) ?_; intro g4 cap4 w4 hO4 hg4 ha4; have hx4 := Sx.app (A := []) hx3 hO4 hg4 ha4; simp only [List.nil_append] at hx4; have hH4 := hH3.grown hg4 (fun p hp => by simp at hp; subst hp; omega); clear hO4 hg4 ha4; generalize hM3 : M2 ++ M0 = M3 at hx4 ⊢; have HM3 : Hid (M2 ++ M0 = M3) := hM3; clear hM3))
            all_goals
              go_wp2_with fail
              go_roundw
              case rel => exact ⟨k + 1, g4, cap4, M3, by omega, by go_num, rfl, by rw [HT.out, HI.out, ← HM3.out, ← HM2.out, ← HM1.out, ← HM0.out]; simp, hx4.sub (by simp)⟩
              case measure => simp [intOf]; omega
    · obtain rfl : k = L.length := by omega
      rw [List.take_length] at hN
      subst hN
      go_wp2
      go_ret
      exact ⟨g, cap', rfl, hx.o0, hx.bel⟩
end Go.Proofs.Ytkpkigllabhejaa
