/-
  Which two Rects touch: the program's and the spec's.
-/
import Derived.Test.YtgpgmndjkcpaoaaT1
import Derived.Test.YtgpgmndjkcpaoaaW6
import Derived.Test.YtgpgmndjkcpaoaaA1
import Derived.Deep.CutRange
namespace Go.Proofs.Ytgpgmndjkcpaoaa
open Go.RowKit Go.Joins
attribute [local go_sem] Oper.semAt_some

theorem Sg.perm {w W : World} {rs rs' : List Rw} (h : Sg w W rs) (hp : rs.Perm rs') : Sg w W rs' :=
  ⟨h.bel, fun r hr => h.own r (hp.mem_iff.2 hr), (hp.pairwise_iff (fun {a b} (hab : a.v.ownBlock = none ∨ a.v.ownBlock ≠ b.v.ownBlock) => by
    rcases hab with e | e
    · cases hb : b.v.ownBlock
      · exact .inl rfl
      · exact .inr (by rw [e]; simp)
    · exact .inr fun e' => e e'.symm)).1 h.dis⟩
theorem meet_v {a b : T4} {v : Bool} (ha : a.ok = true) (hb : b.ok = true) (hv : mtB a b = v) (w : World) :
    Calls Try.prog 30 #[.agg #[.int .i64 a.x, .int .i64 a.y, .int .i64 a.w, .int .i64 a.h], .agg #[.int .i64 b.x, .int .i64 b.y, .int .i64 b.w, .int .i64 b.h]] w fun e w' => ∃ m0 m1 m2 m3 : Int, e = .returned (.tuple #[.agg #[.int .i64 m0, .int .i64 m1, .int .i64 m2, .int .i64 m3], .bool v]) ∧ Below w.heap.size w w' := by
  refine (iMeet_any a.x a.y a.w a.h b.x b.y b.w b.h w).mono ?_
  rintro e w' ⟨rfl, hb'⟩
  have h1 : okB a.x a.y a.w a.h = true := ha
  have h2 : okB b.x b.y b.w b.h = true := hb
  have h3 : mB a.x a.y a.w a.h b.x b.y b.w b.h = v := hv
  cases v
  · exact ⟨_, _, _, _, by unfold meetV; rw [h1, h2, h3]; rfl, hb'⟩
  · exact ⟨_, _, _, _, by unfold meetV; rw [h1, h2, h3]; rfl, hb'⟩
theorem l1Meet_v {a b : T4} {v : Bool} (ha : a.ok = true) (hb : b.ok = true) (hv : mtB a b = v) (w : World) :
    Calls Try.prog 47 #[.agg #[.int .i64 a.x, .int .i64 a.y, .int .i64 a.w, .int .i64 a.h], .agg #[.int .i64 b.x, .int .i64 b.y, .int .i64 b.w, .int .i64 b.h]] w fun e w' => ∃ m0 m1 m2 m3 : Int, e = .returned (.tuple #[.agg #[.int .i64 m0, .int .i64 m1, .int .i64 m2, .int .i64 m3], .bool v]) ∧ Below w.heap.size w w' := by
  cases v
  · refine (sl1Meet_no a.x a.y a.w a.h b.x b.y b.w b.h w ha hb hv).mono ?_
    rintro e w' ⟨rfl, hb'⟩
    exact ⟨_, _, _, _, rfl, hb'⟩
  · refine (sl1Meet_yes a.x a.y a.w a.h b.x b.y b.w b.h w ha hb hv).mono ?_
    rintro e w' ⟨rfl, hb'⟩
    exact ⟨_, _, _, _, rfl, hb'⟩
def pI (l : List (Nat × Nat)) : List (Int × Int) := l.map fun p => ((p.1 : Int), (p.2 : Int))
theorem box4_own (W : World) (s : T4) : (W.alloc (.cells #[.int .i64 s.x, .int .i64 s.y, .int .i64 s.w, .int .i64 s.h] 35)).ownsRow W.heap.size 35 4 (.slice (some ⟨W.heap.size, 0, none⟩) 1 1) 1 (flat4 [s]) := by
  have := World.ownsRow_lit (base := W.heap.size) (e := 35) (size := 4) W #[.int .i64 s.x, .int .i64 s.y, .int .i64 s.w, .int .i64 s.h] 1 (Nat.le_refl _) (by unfold maxLen; omega) rfl
  simpa [flat4, T4.vs] using this
theorem box4_cells {W : World} {base g : Nat} {s : T4} (h : W.ownsRow base 35 4 (.slice (some ⟨g, 0, none⟩) 1 1) 1 (flat4 [s])) : W.cell? ⟨g, 0, none⟩ = some (.int .i64 s.x) ∧ W.cell? ⟨g, 1, none⟩ = some (.int .i64 s.y) ∧ W.cell? ⟨g, 2, none⟩ = some (.int .i64 s.w) ∧ W.cell? ⟨g, 3, none⟩ = some (.int .i64 s.h) ∧ g < W.heap.size := by
  have hc := Ow4.cs (W := W) (L := [s]) h
  have := hc.2 0 s rfl
  exact ⟨this.1, this.2.1, this.2.2.1, this.2.2.2, hc.1⟩
theorem pair_own (W : World) (x y : Int) : (W.alloc (.cells #[.int .i64 x, .int .i64 y] 2)).ownsRow W.heap.size 2 1 (sv W.heap.size) 2 (flat1 [x, y]) := by
  have := World.ownsRow_lit (base := W.heap.size) (e := 2) (size := 1) W #[.int .i64 x, .int .i64 y] 2 (Nat.le_refl _) (by unfold maxLen; omega) rfl
  simpa [flat1, sv] using this
/-- A pair is laid at a list's end. -/
theorem Sg.pair {w W w4 : World} {A B : List Rw} {v : Value} {gs : List Nat} {M : List (Int × Int)} {x y : Int} {g' n cap2 : Nat} (h : Sg w W (A ++ prR v gs M ++ B)) (hl : gs.length = M.length) (hn : gs.length = n)
    (ho : w4.ownsRow w.heap.size 27 1 (.slice (some ⟨g', 0, none⟩) (n + 1) cap2) (n + 1) (gs.map sv ++ [sv W.heap.size])) (hg : ((W.alloc (.cells #[.int .i64 x, .int .i64 y] 2)).alloc (.cells #[sv W.heap.size] 27)).grownBy w4 v.ownBlock) (hat : v.ownBlock = some g' ∨ g' = ((W.alloc (.cells #[.int .i64 x, .int .i64 y] 2)).alloc (.cells #[sv W.heap.size] 27)).heap.size) :
    Sg w w4 (A ++ prR (.slice (some ⟨g', 0, none⟩) (n + 1) cap2) (gs ++ [W.heap.size]) (M ++ [(x, y)]) ++ B) := by
  have h1 := (h.add (r := r1 (sv W.heap.size) [x, y]) (pair_own W x y) (below_alloc1 _ _)).step (below_alloc1 _ (.cells #[sv W.heap.size] 27))
  have e1 : r1 (sv W.heap.size) [x, y] :: (A ++ prR v gs M ++ B) = (r1 (sv W.heap.size) [x, y] :: A) ++ ⟨v, 27, 1, gs.length, gs.map sv⟩ :: (inR2 gs M ++ B) := by simp [prR]
  rw [e1] at h1
  have h2 := h1.app (r' := ⟨.slice (some ⟨g', 0, none⟩) (n + 1) cap2, 27, 1, n + 1, gs.map sv ++ [sv W.heap.size]⟩) ho hg (fun gg e => by
    have e' : g' = gg := Option.some.inj e
    subst e'
    rcases hat with h | h
    · exact .inl h
    · right; rw [h]; exact Nat.le_refl _)
  refine h2.perm ?_
  have e2 : prR (.slice (some ⟨g', 0, none⟩) (n + 1) cap2) (gs ++ [W.heap.size]) (M ++ [(x, y)]) = ⟨.slice (some ⟨g', 0, none⟩) (n + 1) cap2, 27, 1, n + 1, gs.map sv ++ [sv W.heap.size]⟩ :: (inR2 gs M ++ [r1 (sv W.heap.size) [x, y]]) := by
    unfold prR; rw [inR2_app hl]; simp [hn]
  rw [e2]
  generalize (⟨.slice (some ⟨g', 0, none⟩) (n + 1) cap2, 27, 1, n + 1, gs.map sv ++ [sv W.heap.size]⟩ : Rw) = O
  generalize r1 (sv W.heap.size) [x, y] = I
  generalize inR2 gs M = R
  have e3 : I :: A ++ O :: (R ++ B) = I :: ((A ++ O :: R) ++ B) := by simp
  have e4 : A ++ O :: (R ++ [I]) ++ B = (A ++ O :: R) ++ I :: B := by simp
  rw [e3, e4]
  exact List.perm_middle.symm

set_option maxRecDepth 100000 in
set_option maxHeartbeats 8000000 in
theorem iTouching_any (p : Option Addr) (cap : Nat) (L : List T4) (w : World) (hL : Sl4 w p L) (hn : L.length ≤ 1048576) {v : List (Int × Int)} (hv : pI (tcL L) = v) :
    Calls Try.prog 14 #[.slice p L.length cap] w fun e w' => ∃ p1 cap1 gs, e = .returned (.slice p1 v.length cap1) ∧ gs.length = v.length ∧ Sg w w' (prR (.slice p1 v.length cap1) gs v) := by
  cases hs : okL L
  · have hv' : v = [] := by rw [← hv]; simp [tcL, hs, pI]
    subst hv'
    clear hv
    go_enter Try.func14, Try.ntmps14
    go_wp2_with (go_at_call 43; refine (areRight_v hs _ _ _ hL hn).mono ?_; rintro e w1 ⟨rfl, hb2⟩)
    go_ret
    exact ⟨none, 0, [], rfl, rfl, ⟨hb2, fun r hr => by simp [prR, inR2] at hr; subst hr; exact World.ownsRow_nil .., by simp [prR, inR2]⟩⟩
  · have hvv : pI (tcO L L.length) = v := by rw [← hv]; simp [tcL, hs]
    have h12 := okL_len hs
    have HOK : Hid (okL L = true) := hs
    have HAR : Hid (∀ W, Sl4 W p L → Calls Try.prog 43 #[.slice p L.length cap] W fun e w' => e = .returned (.bool true) ∧ Below W.heap.size W w') := fun W h => areRight_v hs p cap W h hn
    obtain ⟨N, hN⟩ : ∃ N, L.length = N := ⟨_, rfl⟩
    have HN : Hid (L.length = N) := hN
    simp only [hN] at HAR h12 hvv ⊢
    have HVV : Hid (pI (tcO L N) = v) := hvv
    clear hv hs hn hN hvv
    obtain ⟨i0, hi0, hz0, hz1, hz2⟩ := info_parts info27
    go_enter Try.func14, Try.ntmps14
    go_wp2_with (go_at_call 43; refine (HAR.out _ hL).mono ?_; rintro e w1 ⟨rfl, hb2⟩)
    have hS0 : Sg w w1 (prR (.slice none 0 0) [] []) := ⟨hb2, fun r hr => by simp [prR, inR2] at hr; subst hr; exact World.ownsRow_nil .., by simp [prR, inR2]⟩
    clear hb2 HAR
    go_loopw [3, 14] (fun s3 iv wr => ∃ (i n c : Nat) (q : Option Addr) (gs : List Nat) (M : List (Int × Int)), i ≤ N ∧ n ≤ 12 * i ∧ iv = .int .i64 i ∧ s3 = .slice q n c ∧ Hid (M = pI (tcO L i) ∧ M.length = n ∧ gs.length = n) ∧ Sg w wr (prR (.slice q n c) gs M)) (fun _ iv _ => N - (intOf iv).toNat)
    case atStart => exact ⟨0, 0, 0, none, [], [], by omega, by omega, rfl, rfl, ⟨rfl, rfl, rfl⟩, hS0⟩
    case round =>
      rename World => wo
      clear hS0
      obtain ⟨i, n, c, q, gs, M, hi, hn12, rfl, rfl, hM, hS⟩ := hrel
      by_cases hlt : i < N
      · have hii : (i : Int) < N := by omega
        have hiL : i < L.length := by rw [HN.out]; exact hlt
        obtain ⟨g, off, rfl, hC⟩ := (hL.step hS.bel).at hiL
        obtain ⟨c0, c1, c2, c3⟩ := hC.2 i _ (get4 hiL)
        obtain ⟨a, ha⟩ : ∃ a, L.getD i zr4 = a := ⟨_, rfl⟩
        have hao : a.ok = true := by rw [← ha]; exact okL_all HOK.out (L.getD i zr4) (by rw [show L.getD i zr4 = L[i] by simp [List.getD, hiL]]; exact List.getElem_mem hiL)
        rw [ha] at c0 c1 c2 c3
        have HA : Hid (L.getD i zr4 = a ∧ a.ok = true) := ⟨ha, hao⟩
        clear ha hao hC
        have hS2 := hS.add (r := ⟨.slice (some ⟨wo.heap.size, 0, none⟩) 1 1, 35, 4, 1, flat4 [a]⟩) (box4_own wo a) (below_alloc1 _ _)
        have hM0 : Hid (M = pI (tcO L i ++ tcI L i (i + 1)) ∧ M.length = n ∧ gs.length = n) := ⟨by rw [tcI_start, List.append_nil]; exact hM.out.1, hM.out.2⟩
        clear hS hM
        go_wp2
        go_loopw [3, 6] (fun s3 kv wr => ∃ (k n c : Nat) (q : Option Addr) (gs : List Nat) (M : List (Int × Int)), i < k ∧ k ≤ N ∧ n ≤ 12 * i + k ∧ kv = .int .i64 k ∧ s3 = .slice q n c ∧ Hid (M = pI (tcO L i ++ tcI L i k) ∧ M.length = n ∧ gs.length = n) ∧ Sg w wr (⟨.slice (some ⟨wo.heap.size, 0, none⟩) 1 1, 35, 4, 1, flat4 [a]⟩ :: prR (.slice q n c) gs M)) (fun _ kv _ => N - (intOf kv).toNat)
        case atStart => exact ⟨i + 1, n, c, q, gs, M, by omega, by omega, by omega, by go_num, rfl, hM0, hS2⟩
        case round =>
          clear hM0 hS2 hn12
          obtain ⟨k, n, c, q, gs, M, hik, hk, hn12, rfl, rfl, hM, hS⟩ := hrel
          by_cases hltk : k < N
          · have hki : (k : Int) < N := by omega
            have hkL : k < L.length := by rw [HN.out]; exact hltk
            obtain ⟨g2, off2, e2, hC⟩ := (hL.step hS.bel).at hkL
            obtain ⟨rfl, rfl⟩ : g2 = g ∧ off2 = off := by injection e2 with e2; injection e2 with e2 e3; exact ⟨e2.symm, e3.symm⟩
            obtain ⟨d0, d1, d2, d3⟩ := hC.2 k _ (get4 hkL)
            obtain ⟨b, hbb⟩ : ∃ b, L.getD k zr4 = b := ⟨_, rfl⟩
            have hbo : b.ok = true := by rw [← hbb]; exact okL_all HOK.out (L.getD k zr4) (by rw [show L.getD k zr4 = L[k] by simp [List.getD, hkL]]; exact List.getElem_mem hkL)
            rw [hbb] at d0 d1 d2 d3
            have hst := tcI_step (L := L) hik
            rw [HA.out.1, hbb] at hst
            have HST : Hid (tcI L i (k + 1) = if mtB a b then tcI L i k ++ [(i, k)] else tcI L i k) := hst
            have hgl := hC.1
            clear hst hbb hC e2
            obtain ⟨k0, k1, k2, k3, k4⟩ := box4_cells hS.o0
            obtain ⟨m, hmv⟩ : ∃ m, mtB a b = m := ⟨_, rfl⟩
            have HMV : Hid (mtB a b = m) := hmv
            clear hmv
            go_wp2
            go_cut [7, 8] from 21 to 42 (fun s7 s8 wx => ∃ r : Nat, s7 = .pointer (some ⟨r, 0, none⟩) ∧ s8 = .bool m ∧ Below wr.heap.size wr wx)
            case first =>
              go_region_with ((go_at_call 30; refine (meet_v HA.out.2 hbo HMV.out _).mono ?_; rintro e w2 ⟨m0, m1, m2, m3, rfl, hb2⟩; obtain ⟨hc, hf⟩ := bcell hb2; have hz2 := hb2.size; simp at hz2))
              all_goals
                go_wp2
                go_meet
                case rel => first
                  | exact ⟨_, rfl, rfl, (bstep (Below.refl wr.heap.size wr).drew hb2 (Nat.le_refl _)).alloc (by omega) _⟩
                  | exact ⟨_, rfl, rfl, sc4 (bstep ((below_alloc1 wr _).drew) hb2 (Nat.le_refl _)) (Nat.le_refl _)⟩
            case rest =>
              obtain ⟨r, rfl, rfl, hbc⟩ := hcut
              have hSc := hS.step hbc
              clear hS k0 k1 k2 k3 k4 d0 d1 d2 d3
              cases m
              · have hMn : Hid (M = pI (tcO L i ++ tcI L i (k + 1)) ∧ M.length = n ∧ gs.length = n) := ⟨by rw [HST.out, HMV.out]; exact hM.out.1, hM.out.2⟩
                go_wp2
                go_roundw
                case rel => exact ⟨k + 1, n, c, q, gs, M, by omega, by omega, by omega, by go_num, rfl, hMn, hSc⟩
                case measure => simp [intOf]; omega
              · have hMn : Hid (M ++ [((i : Int), (k : Int))] = pI (tcO L i ++ tcI L i (k + 1)) ∧ M.length = n ∧ gs.length = n) := ⟨by rw [HST.out, HMV.out, hM.out.1]; simp [pI], hM.out.2⟩
                have hOo : wc.ownsRow w.heap.size 27 1 (.slice q n c) n (gs.map sv) := by
                  have := hSc.o1
                  unfold Rw.own at this
                  simp only at this
                  rw [hM.out.2.2] at this
                  exact this
                have hOo2 := own_of_below hOo ((below_alloc1 wc (.cells #[.int .i64 (i : Int), .int .i64 (k : Int)] 2)))
                have hOo3 := own_of_below hOo2 ((below_alloc1 (wc.alloc (.cells #[.int .i64 (i : Int), .int .i64 (k : Int)] 2)) (.cells #[sv wc.heap.size] 27)))
                have HSc : Hid (Sg w wc (⟨.slice (some ⟨wo.heap.size, 0, none⟩) 1 1, 35, 4, 1, flat4 [a]⟩ :: prR (.slice q n c) gs M)) := hSc
                have hwsz := hSc.bel.size
                have hsv : sv wc.heap.size = .slice (some ⟨wc.heap.size, 0, none⟩) 2 2 := rfl
                have HSV : Hid (sv wc.heap.size = .slice (some ⟨wc.heap.size, 0, none⟩) 2 2) := rfl
                rw [hsv] at hOo3
                clear hSc hOo hOo2 hsv
                go_wp2_with (at_builtin; refine wpList_append_lies _ rfl _ _ 29 rfl w.heap.size 27 i0 (.slice none 0 0) 1 24 Try.underlying29 hi0 hz0 hz1 hz2 rfl (by decide) (.slice q n c) n (gs.map sv) rfl hOo3 ⟨wc.heap.size + 1, 0, none⟩ 1 1 [.slice (some ⟨wc.heap.size, 0, none⟩) 2 2] rfl rfl (cell1_at (by simp)) (fun x hx => by simp at hx; rw [hx]; rfl) (by decide) (by unfold maxLen; omega) (by omega) (by simp; omega) _ rfl ?_; intro g' cap2 w4 hown1 hgrow hat hlt4)
                have hS4 := Sg.pair (A := [⟨.slice (some ⟨wo.heap.size, 0, none⟩) 1 1, 35, 4, 1, flat4 [a]⟩]) (B := []) (M := M) (gs := gs) (v := .slice q n c) (w := w) (W := wc) (by simpa using HSc.out) (x := i) (y := k) (g' := g') (n := n) (cap2 := cap2) (w4 := w4) (by rw [hMn.out.2.1, hMn.out.2.2]) hMn.out.2.2 hown1 hgrow hat
                refine ⟨⟨k + 1, n + 1, cap2, some ⟨g', 0, none⟩, gs ++ [wc.heap.size], M ++ [((i : Int), (k : Int))], by omega, by omega, by omega, by go_num, rfl, ⟨hMn.out.1, by simp [hMn.out.2.1], by simp [hMn.out.2.2]⟩, by simpa using hS4⟩, by simp [intOf]; omega⟩
          · obtain rfl : k = N := by omega
            have hki : ¬ (k : Int) < k := by omega
            go_wp2
            refine ⟨⟨i + 1, n, c, q, gs, M, by omega, by omega, by go_num, rfl, ⟨?_, hM.out.2⟩, hS.d0⟩, by simp [intOf]; omega⟩
            rw [tcO_step, HN.out]; exact hM.out.1
      · obtain rfl : i = N := by omega
        have hM2 : M = v := by rw [hM.out.1]; exact HVV.out
        have hvl : v.length = n := by rw [← hM2]; exact hM.out.2.1
        subst hM2
        have HL : Hid (M.length = n ∧ gs.length = n) := hM.out.2
        clear hM hvl
        go_wp2
        go_ret
        exact ⟨q, c, gs, by rw [HL.out.1]; rfl, by rw [HL.out.1, HL.out.2], by rw [HL.out.1]; exact hS⟩
end Go.Proofs.Ytgpgmndjkcpaoaa
