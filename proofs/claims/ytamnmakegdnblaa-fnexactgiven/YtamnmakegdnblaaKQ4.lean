/-
  The law of Given walked.
-/
import Derived.Test.YtamnmakegdnblaaKQ30
namespace Go.Proofs.Ytamnmakegdnblaa.K.D
open Go.Shelf Go.RowKit Go.Joins
attribute [local go_sem] Oper.semAt_some

set_option maxRecDepth 100000 in
set_option maxHeartbeats 4000000 in
theorem exactGiven (e : Int) (p : Option Addr) (n c : Nat) (L : List On) (hn : L.length = n) (l x y : Int) (s : Int) (w : World) (hL : SlG kLO w p L) (hm : n ≤ maxLen) :
    Calls Try.prog 8 #[Dv.v ⟨e, p, n, c⟩, .agg #[.int .i64 l, .int .i64 x, .int .i64 y], .int .i64 s] w fun ee w' => ee = .returned (.bool true) ∧ Below w.heap.size w w' := by
  have h0 := sg_bel (below_alloc2 w (.cells #[.int .i64 e, .slice p n c] 52) (.cells #[.int .i64 l, .int .i64 x, .int .i64 y] 61))
  by_cases hz : n ≤ 1048576
  · obtain ⟨v, hv⟩ : ∃ v, (1048576 : Int) - (n : Int) = v := ⟨_, rfl⟩
    have hv0 : ¬ v < 0 := by omega
    have HZ := Lib.hid (fun W => szDirectory_v (dlen (e := e) (p := p) (c := c) hz hv) W hm)
    have HT := Lib.hid (fun W (hb : Below w.heap.size w W) => toDirectory_any e p n c L hn W (hL.step hb) hz)
    have HP := Lib.hid (fun W => M.toCell_any l x y W)
    obtain ⟨L2, hL2⟩ : ∃ X, givL e L l x y s = X := ⟨_, rfl⟩
    obtain ⟨E2, hE2⟩ : ∃ X, givE e L l x y s = X := ⟨_, rfl⟩
    obtain ⟨b, hbb⟩ : ∃ X, givB e L l x y s = X := ⟨_, rfl⟩
    have hN64 : L2.length ≤ 64 := by rw [← hL2]; exact givL_len ..
    obtain ⟨N2, hN2⟩ : ∃ X, L2.length = X := ⟨_, rfl⟩
    rw [hN2] at hN64
    have HS : Hid (∀ W g, SlG kO W (some ⟨g, 0, none⟩) L → Calls Try.prog 23 #[Dv.v ⟨e, some ⟨g, 0, none⟩, n, n⟩, .agg #[.int .i64 l, .int .i64 x, .int .i64 y], .int .i64 s] W fun ee w' => ∃ q c', ee = .returned (.tuple #[Dv.v ⟨E2, q, N2, c'⟩, .bool b]) ∧ Sg W w' [rG kO (.slice q N2 c') L2]) := fun W g hr => by
      rw [← hL2, ← hE2, ← hbb, ← hN2, ← hL2]
      exact len_in (sGiven_any e _ n n L hn l x y s W hr (Nat.le_refl _) (.inl ⟨_, rfl⟩))
    have HI : Hid (∀ W g, SlG kO W (some ⟨g, 0, none⟩) L → Calls Try.prog 13 #[Dv.v ⟨e, some ⟨g, 0, none⟩, n, n⟩, .agg #[.int .i64 l, .int .i64 x, .int .i64 y], .int .i64 s] W fun ee w' => ∃ q c', ee = .returned (.tuple #[Dv.v ⟨E2, q, N2, c'⟩, .bool b]) ∧ Sg W w' [rG kO (.slice q N2 c') L2]) := fun W g hr => by
      rw [← hL2, ← hE2, ← hbb, ← hN2, ← hL2]
      exact len_in (iGiven_any e _ n n L hn l x y s W hr (Nat.le_refl _) (.inl ⟨_, rfl⟩) (by omega))
    have HE1 : Hid (∀ W g1 g2, SlG kO W (some ⟨g1, 0, none⟩) L → SlG kO W (some ⟨g2, 0, none⟩) L → Calls Try.prog 30 #[Dv.v ⟨e, some ⟨g1, 0, none⟩, n, n⟩, Dv.v ⟨e, some ⟨g2, 0, none⟩, n, n⟩] W fun ee w' => ee = .returned (.bool true) ∧ Below W.heap.size W w') := fun W g1 g2 h1 h2 => eqDirectory_same e _ _ n n L n hn W h1 h2 (by omega)
    have HE2 : Hid (∀ W q q' c c', SlG kO W q L2 → SlG kO W q' L2 → Calls Try.prog 30 #[Dv.v ⟨E2, q, N2, c⟩, Dv.v ⟨E2, q', N2, c'⟩] W fun ee w' => ee = .returned (.bool true) ∧ Below W.heap.size W w') := fun W q q' c c' h1 h2 => eqDirectory_same E2 _ _ c c' L2 N2 hN2 W h1 h2 (by omega)
    have HM1 : Hid (∀ W A Bs g, Sg ((w.alloc (.cells #[.int .i64 e, .slice p n c] 52)).alloc (.cells #[.int .i64 l, .int .i64 x, .int .i64 y] 61)) W (A ++ rG kO (.slice (some ⟨g, 0, none⟩) n n) L :: Bs) → Calls Try.prog 31 #[Dv.v ⟨e, some ⟨g, 0, none⟩, n, n⟩, .int .i64 1] W fun ee w' => ∃ v, ee = .returned (.int .i64 v) ∧ ¬ v < 0 ∧ Sg ((w.alloc (.cells #[.int .i64 e, .slice p n c] 52)).alloc (.cells #[.int .i64 l, .int .i64 x, .int .i64 y] 61)) w' (A ++ rG kO (.slice (some ⟨g, 0, none⟩) n n) (mkOs 1 n) :: Bs)) := fun W A Bs g h => (markDirectory_any e _ n n L A Bs _ W h hz).mono fun ee w' hh => ⟨_, hh.1, by omega, hh.2⟩
    obtain ⟨vm, hvm⟩ : ∃ X, (1 : Int) + 4 * (N2 : Int) = X := ⟨_, rfl⟩
    have hvp : ¬ vm < 0 := by omega
    have HM2 : Hid (∀ W A Bs q cq, Sg ((w.alloc (.cells #[.int .i64 e, .slice p n c] 52)).alloc (.cells #[.int .i64 l, .int .i64 x, .int .i64 y] 61)) W (A ++ rG kO (.slice q N2 cq) L2 :: Bs) → Calls Try.prog 31 #[Dv.v ⟨E2, q, N2, cq⟩, .int .i64 1] W fun ee w' => ee = .returned (.int .i64 vm) ∧ Sg ((w.alloc (.cells #[.int .i64 e, .slice p n c] 52)).alloc (.cells #[.int .i64 l, .int .i64 x, .int .i64 y] 61)) w' (A ++ rG kO (.slice q N2 cq) (mkOs 1 N2) :: Bs)) := fun W A Bs q cq h => hvm ▸ markDirectory_any E2 _ N2 cq L2 A Bs _ W h (by omega)
    have HH : Hid (∀ W q c, SlG kO W q (mkOs 1 N2) → Calls Try.prog 32 #[Dv.v ⟨E2, q, N2, c⟩, .int .i64 1] W fun ee w' => ee = .returned (.int .i64 vm) ∧ Below W.heap.size W w') := fun W q c h => hvm ▸ heldDirectory_any E2 q N2 c W h (by omega)
    have hx := Sg.nil ((w.alloc (.cells #[.int .i64 e, .slice p n c] 52)).alloc (.cells #[.int .i64 l, .int .i64 x, .int .i64 y] 61))
    have HB : Hid (∀ w', Below ((w.alloc (.cells #[.int .i64 e, .slice p n c] 52)).alloc (.cells #[.int .i64 l, .int .i64 x, .int .i64 y] 61)).heap.size ((w.alloc (.cells #[.int .i64 e, .slice p n c] 52)).alloc (.cells #[.int .i64 l, .int .i64 x, .int .i64 y] 61)) w' → ((w'.cell? ⟨w.heap.size, 0, none⟩ = some (.int .i64 e) ∧ w'.cell? ⟨w.heap.size, 1, none⟩ = some (.slice p n c)) ∧ (w'.cell? ⟨w.heap.size + 1, 0, none⟩ = some (.int .i64 l) ∧ w'.cell? ⟨w.heap.size + 1, 1, none⟩ = some (.int .i64 x) ∧ w'.cell? ⟨w.heap.size + 1, 2, none⟩ = some (.int .i64 y)))) := fun w' h => bx23 h
    obtain ⟨⟨b0, b1⟩, b2, b3, b4⟩ := HB.out _ hx.bel
    clear hn hL hm hz hv hbb hL2 hE2 hN2 hN64 hvm
    go_enter Try.func8, Try.ntmps8
    go_upto_region 5 with (go_at_call 28; refine (HZ.out _).mono ?_; rintro ee w1 ⟨rfl, hb1⟩; replace hx := hx.step hb1; clear b0 b1 b2 b3 b4)
    go_cut [8, 9] from 23 (fun v6 v7 wx => ∃ (b6 : Nat) (q : Option Addr) (cp : Nat), v6 = .pointer (some ⟨b6, 0, none⟩) ∧ v7 = .bool b ∧ Sg ((w.alloc (.cells #[.int .i64 e, .slice p n c] 52)).alloc (.cells #[.int .i64 l, .int .i64 x, .int .i64 y] 61)) wx [rG kD (.slice (some ⟨b6, 0, none⟩) 1 1) [⟨E2, q, N2, cp⟩], rG kO (.slice q N2 cp) L2])
    case first =>
      have hr := hx
      go_region_held3 (fun w' => ((w'.cell? ⟨w.heap.size, 0, none⟩ = some (.int .i64 e) ∧ w'.cell? ⟨w.heap.size, 1, none⟩ = some (.slice p n c)) ∧ (w'.cell? ⟨w.heap.size + 1, 0, none⟩ = some (.int .i64 l) ∧ w'.cell? ⟨w.heap.size + 1, 1, none⟩ = some (.int .i64 x) ∧ w'.cell? ⟨w.heap.size + 1, 2, none⟩ = some (.int .i64 y))))
        (first
          | assumption
          | with_reducible exact HB.out _ hr.bel
          | with_reducible exact HB.out _ (Sg.dr hr).bel
          | with_reducible exact HB.out _ (Sg.al hr _).bel
          | with_reducible exact HB.out _ (Sg.dr (Sg.al hr _)).bel
          | with_reducible exact HB.out _ (Sg.dr (Sg.al hr _)).bel
          | with_reducible exact HB.out _ h7.bel)
        (first
          | (go_at_call 29; refine (HT.out _ (by first | with_reducible exact (h0.addL hr).bel | with_reducible exact (h0.addL (Sg.dr hr)).bel | with_reducible exact (h0.addL (Sg.litZ hr)).bel | with_reducible exact (h0.addL (Sg.dr (Sg.litZ hr))).bel)).mono ?_; rintro ee v3 ⟨g3, rfl, hg3⟩; (first | with_reducible (replace hr := hr.addL hg3) | with_reducible (replace hr := (Sg.dr hr).addL hg3) | with_reducible (replace hr := (Sg.litZ hr).addL hg3) | with_reducible (replace hr := (Sg.dr (Sg.litZ hr)).addL hg3)); clear hg3)
          | (go_at_call 34; refine (HP.out _).mono ?_; rintro ee v4 ⟨rfl, hb4⟩; (first | with_reducible (replace hr := hr.step hb4) | with_reducible (replace hr := (Sg.litZ hr).step hb4)); clear hb4)
          | (go_at_call 23; (first | refine (HS.out _ g3 (rdO (n := n) (c := n) hr (by simp))).mono ?_ | refine (HS.out _ g3 (rdO (n := n) (c := n) (Sg.litZ hr) (by simp))).mono ?_); rintro ee v5 ⟨q5, c5, rfl, hS5⟩; (first | with_reducible (replace hr := hr.addL hS5) | with_reducible (replace hr := (Sg.litZ hr).addL hS5)); clear hS5; (first
            | (obtain ⟨u0, u1, uf, ug⟩ := dv2 hr (K := kD) (g := w1.heap.size) (n := 1) (q := zdv) (by simp) rfl; have h7 := Sg.setD (A := [rG kO (.slice q5 N2 c5) L2, rG kO (.slice (some ⟨g3, 0, none⟩) n n) L]) (g := w1.heap.size) (n := 1) (a := zdv) hr ⟨E2, q5, N2, c5⟩)
            | (obtain ⟨u0, u1, uf, ug⟩ := dv2 hr (K := kD) (g := v3.heap.size) (n := 1) (q := zdv) (by simp) rfl; have h7 := Sg.setD (A := [rG kO (.slice q5 N2 c5) L2]) (g := v3.heap.size) (n := 1) (a := zdv) hr ⟨E2, q5, N2, c5⟩)
            | (obtain ⟨u0, u1, uf, ug⟩ := dv2 hr (K := kD) (g := v4.heap.size) (n := 1) (q := zdv) (by simp) rfl; have h7 := Sg.setD (A := [rG kO (.slice q5 N2 c5) L2]) (g := v4.heap.size) (n := 1) (a := zdv) hr ⟨E2, q5, N2, c5⟩)
            | skip)))
      all_goals go_wp2
      all_goals go_meet
      all_goals first
        | (refine ⟨v5.heap.size, q5, c5, rfl, rfl, ?_⟩; have h9 := hr.lit kD [⟨E2, q5, N2, c5⟩] 1 rfl (by decide) #[.int .i64 E2, .slice q5 N2 c5] rfl; change Sg ((w.alloc (.cells #[.int .i64 e, .slice p n c] 52)).alloc (.cells #[.int .i64 l, .int .i64 x, .int .i64 y] 61)) (v5.alloc (.cells #[.int .i64 E2, .slice q5 N2 c5] 26)) _ at h9; exact h9.sub (pickA _ _ _ _))
        | (refine ⟨w1.heap.size, q5, c5, rfl, rfl, ?_⟩; exact (h7.perm (permA _ _ _ _)).sub (pickB _ _ _ _))
        | (refine ⟨v3.heap.size, q5, c5, rfl, rfl, ?_⟩; exact (h7.perm (permB _ _ _)).sub (pickC _ _ _ _))
        | (refine ⟨v4.heap.size, q5, c5, rfl, rfl, ?_⟩; exact (h7.perm (permB _ _ _)).sub (pickC _ _ _ _))
    case rest =>
      obtain ⟨b6, q6, c6, rfl, rfl, hx⟩ := hcut
      obtain ⟨⟨b0, b1⟩, b2, b3, b4⟩ := HB.out _ hx.bel
      go_upto_region 7 with (go_at_call 29; refine (HT.out _ (h0.addL hx).bel).mono ?_; rintro ee w4 ⟨g2, rfl, hg2⟩; replace hx := hx.addL hg2; clear b0 b1 b2 b3 b4 hg2)
      replace hx : Sg _ (w4.alloc (.cells #[.int .i64 e, .slice (some ⟨g2, 0, none⟩) n n] 26)) _ := hx.lit kD [⟨e, some ⟨g2, 0, none⟩, n, n⟩] 1 rfl (by decide) #[.int .i64 e, .slice (some ⟨g2, 0, none⟩) n n] rfl
      replace hx : Sg ((w.alloc (.cells #[.int .i64 e, .slice p n c] 52)).alloc (.cells #[.int .i64 l, .int .i64 x, .int .i64 y] 61)) (w4.alloc (.cells #[.int .i64 e, .slice (some ⟨g2, 0, none⟩) n n] 26)) [rG kD (.slice (some ⟨w4.heap.size, 0, none⟩) 1 1) [⟨e, some ⟨g2, 0, none⟩, n, n⟩], rG kO (.slice (some ⟨g2, 0, none⟩) n n) L, rG kD (.slice (some ⟨b6, 0, none⟩) 1 1) [⟨E2, q6, N2, c6⟩], rG kO (.slice q6 N2 c6) L2] := hx
      generalize w4.heap.size = k8 at *
      generalize (w4.alloc (.cells #[.int .i64 e, .slice (some ⟨g2, 0, none⟩) n n] 26)) = w5 at *
      have HK2 : Hid (∀ w' rs, Sg ((w.alloc (.cells #[.int .i64 e, .slice p n c] 52)).alloc (.cells #[.int .i64 l, .int .i64 x, .int .i64 y] 61)) w' rs → rG kD (.slice (some ⟨k8, 0, none⟩) 1 1) [⟨e, some ⟨g2, 0, none⟩, n, n⟩] ∈ rs → ((w'.cell? ⟨k8, 0, none⟩ = some (.int .i64 e) ∧ w'.cell? ⟨k8, 1, none⟩ = some (.slice (some ⟨g2, 0, none⟩) n n)) ∧ ((w'.cell? ⟨w.heap.size, 0, none⟩ = some (.int .i64 e) ∧ w'.cell? ⟨w.heap.size, 1, none⟩ = some (.slice p n c)) ∧ (w'.cell? ⟨w.heap.size + 1, 0, none⟩ = some (.int .i64 l) ∧ w'.cell? ⟨w.heap.size + 1, 1, none⟩ = some (.int .i64 x) ∧ w'.cell? ⟨w.heap.size + 1, 2, none⟩ = some (.int .i64 y))))) := fun w' rs h m1 => by
        obtain ⟨y0, y1, _, _⟩ := dv2 h (K := kD) (g := k8) (n := 1) (q := ⟨e, some ⟨g2, 0, none⟩, n, n⟩) m1 rfl
        exact ⟨⟨y0, y1⟩, HB.out _ h.bel⟩
      go_cut [11, 12] from 34 (fun v9 v10 wx => ∃ (b9 : Nat) (q : Option Addr) (cp : Nat), v9 = .pointer (some ⟨b9, 0, none⟩) ∧ v10 = .bool b ∧ Sg ((w.alloc (.cells #[.int .i64 e, .slice p n c] 52)).alloc (.cells #[.int .i64 l, .int .i64 x, .int .i64 y] 61)) wx [rG kD (.slice (some ⟨b9, 0, none⟩) 1 1) [⟨E2, q, N2, cp⟩], rG kO (.slice q N2 cp) L2, rG kD (.slice (some ⟨k8, 0, none⟩) 1 1) [⟨e, some ⟨g2, 0, none⟩, n, n⟩], rG kO (.slice (some ⟨g2, 0, none⟩) n n) L, rG kD (.slice (some ⟨b6, 0, none⟩) 1 1) [⟨E2, q6, N2, c6⟩], rG kO (.slice q6 N2 c6) L2])
      case first =>
        have hr := hx
        go_region_held3 (fun w' => ((w'.cell? ⟨k8, 0, none⟩ = some (.int .i64 e) ∧ w'.cell? ⟨k8, 1, none⟩ = some (.slice (some ⟨g2, 0, none⟩) n n)) ∧ ((w'.cell? ⟨w.heap.size, 0, none⟩ = some (.int .i64 e) ∧ w'.cell? ⟨w.heap.size, 1, none⟩ = some (.slice p n c)) ∧ (w'.cell? ⟨w.heap.size + 1, 0, none⟩ = some (.int .i64 l) ∧ w'.cell? ⟨w.heap.size + 1, 1, none⟩ = some (.int .i64 x) ∧ w'.cell? ⟨w.heap.size + 1, 2, none⟩ = some (.int .i64 y)))))
          (first
            | assumption
            | with_reducible exact HK2.out _ _ hr (by simp)
            | with_reducible exact HK2.out _ _ (Sg.dr hr) (by simp)
            | with_reducible exact HK2.out _ _ (Sg.al hr _) (by simp)
            | with_reducible exact HK2.out _ _ (Sg.dr (Sg.al hr _)) (by simp)
            | with_reducible exact HK2.out _ _ h7 (by simp))
          (first
            | (go_at_call 34; refine (HP.out _).mono ?_; rintro ee v4 ⟨rfl, hb4⟩; (first | with_reducible (replace hr := hr.step hb4) | with_reducible (replace hr := (Sg.dr hr).step hb4) | with_reducible (replace hr := (Sg.litZ hr).step hb4) | with_reducible (replace hr := (Sg.dr (Sg.litZ hr)).step hb4)); clear hb4)
            | (go_at_call 13; (first | refine (HI.out _ g2 (rdO (n := n) (c := n) hr (by simp))).mono ?_ | refine (HI.out _ g2 (rdO (n := n) (c := n) (Sg.litZ hr) (by simp))).mono ?_); rintro ee v5 ⟨q5, c5, rfl, hS5⟩; (first | with_reducible (replace hr := hr.addL hS5) | with_reducible (replace hr := (Sg.litZ hr).addL hS5)); clear hS5; (first
              | (obtain ⟨u0, u1, uf, ug⟩ := dv2 hr (K := kD) (g := w5.heap.size) (n := 1) (q := zdv) (by simp) rfl; have h7 := Sg.setD (A := [rG kO (.slice q5 N2 c5) L2]) (g := w5.heap.size) (n := 1) (a := zdv) hr ⟨E2, q5, N2, c5⟩)
              | (obtain ⟨u0, u1, uf, ug⟩ := dv2 hr (K := kD) (g := v4.heap.size) (n := 1) (q := zdv) (by simp) rfl; have h7 := Sg.setD (A := [rG kO (.slice q5 N2 c5) L2]) (g := v4.heap.size) (n := 1) (a := zdv) hr ⟨E2, q5, N2, c5⟩)
              | skip)))
        all_goals go_wp2
        all_goals go_meet
        all_goals first
          | (refine ⟨v5.heap.size, q5, c5, rfl, rfl, ?_⟩; have h9 := hr.lit kD [⟨E2, q5, N2, c5⟩] 1 rfl (by decide) #[.int .i64 E2, .slice q5 N2 c5] rfl; change Sg ((w.alloc (.cells #[.int .i64 e, .slice p n c] 52)).alloc (.cells #[.int .i64 l, .int .i64 x, .int .i64 y] 61)) (v5.alloc (.cells #[.int .i64 E2, .slice q5 N2 c5] 26)) _ at h9; exact h9)
          | (refine ⟨w5.heap.size, q5, c5, rfl, rfl, ?_⟩; exact h7.perm (permB _ _ _))
          | (refine ⟨v4.heap.size, q5, c5, rfl, rfl, ?_⟩; exact h7.perm (permB _ _ _))
      case rest =>
        obtain ⟨b9, q9, c9, rfl, rfl, hx⟩ := hcut
        obtain ⟨y0, y1, _, _⟩ := dv2 hx (K := kD) (g := b9) (n := 1) (q := ⟨E2, q9, N2, c9⟩) (by simp) rfl; dsimp only at y0 y1
        obtain ⟨z0, z1, _, _⟩ := dv2 hx (K := kD) (g := b6) (n := 1) (q := ⟨E2, q6, N2, c6⟩) (by simp) rfl; dsimp only at z0 z1
        go_upto_region 10 with (go_at_call 30; refine (HE2.out _ q9 q6 c9 c6 (OwG.sl (hx.mem (K := kO) (v := .slice q9 N2 c9) (L := L2) (by simp))) (OwG.sl (hx.mem (K := kO) (v := .slice q6 N2 c6) (L := L2) (by simp)))).mono ?_; rintro ee w6 ⟨rfl, hb6⟩; replace hx := hx.step hb6; clear y0 y1 z0 z1)
        have hr := hx
        clear hx
        go_region_held3 (fun w' => ((w'.cell? ⟨k8, 0, none⟩ = some (.int .i64 e) ∧ w'.cell? ⟨k8, 1, none⟩ = some (.slice (some ⟨g2, 0, none⟩) n n)) ∧ ((w'.cell? ⟨w.heap.size, 0, none⟩ = some (.int .i64 e) ∧ w'.cell? ⟨w.heap.size, 1, none⟩ = some (.slice p n c)) ∧ (w'.cell? ⟨w.heap.size + 1, 0, none⟩ = some (.int .i64 l) ∧ w'.cell? ⟨w.heap.size + 1, 1, none⟩ = some (.int .i64 x) ∧ w'.cell? ⟨w.heap.size + 1, 2, none⟩ = some (.int .i64 y)))))
          (first
            | assumption
            | with_reducible exact HK2.out _ _ hr (by simp)
            | with_reducible exact HK2.out _ _ (Sg.dr hr) (by simp))
          (first
            | (go_at_call 29; refine (HT.out _ (by first | with_reducible exact (h0.addL hr).bel | with_reducible exact (h0.addL (Sg.dr hr)).bel)).mono ?_; rintro ee w7 ⟨g3, rfl, hg3⟩; (first | with_reducible (replace hr := hr.addL hg3) | with_reducible (replace hr := (Sg.dr hr).addL hg3)); clear hg3)
            | (go_at_call 30; refine (HE1.out _ g2 g3 (rdO (n := n) (c := n) hr (by simp)) (rdO (n := n) (c := n) hr (by simp))).mono ?_; rintro ee w8 ⟨rfl, hb8⟩; replace hr := hr.step hb8; clear hb8))
        replace hr : Sg ((w.alloc (.cells #[.int .i64 e, .slice p n c] 52)).alloc (.cells #[.int .i64 l, .int .i64 x, .int .i64 y] 61)) w8 [rG kD (.slice (some ⟨b9, 0, none⟩) 1 1) [⟨E2, q9, N2, c9⟩], rG kO (.slice q9 N2 c9) L2, rG kD (.slice (some ⟨k8, 0, none⟩) 1 1) [⟨e, some ⟨g2, 0, none⟩, n, n⟩], rG kO (.slice (some ⟨g2, 0, none⟩) n n) L, rG kD (.slice (some ⟨b6, 0, none⟩) 1 1) [⟨E2, q6, N2, c6⟩], rG kO (.slice q6 N2 c6) L2] := hr.sub (List.sublist_append_right _ _)
        go_upto_region 13 with (fail)
        obtain ⟨x0, x1, _, _⟩ := dv2 hr (K := kD) (g := k8) (n := 1) (q := ⟨e, some ⟨g2, 0, none⟩, n, n⟩) (by simp) rfl; dsimp only at x0 x1
        go_upto_region 14 with (go_at_call 31; refine (HM1.out _ [rG kD (.slice (some ⟨b9, 0, none⟩) 1 1) [⟨E2, q9, N2, c9⟩], rG kO (.slice q9 N2 c9) L2, rG kD (.slice (some ⟨k8, 0, none⟩) 1 1) [⟨e, some ⟨g2, 0, none⟩, n, n⟩]] [rG kD (.slice (some ⟨b6, 0, none⟩) 1 1) [⟨E2, q6, N2, c6⟩], rG kO (.slice q6 N2 c6) L2] g2 hr).mono ?_; rintro ee w9 ⟨v9, rfl, hv9, hr9⟩; clear x0 x1 hr)
        have hx : Sg ((w.alloc (.cells #[.int .i64 e, .slice p n c] 52)).alloc (.cells #[.int .i64 l, .int .i64 x, .int .i64 y] 61)) w9 [rG kD (.slice (some ⟨b9, 0, none⟩) 1 1) [⟨E2, q9, N2, c9⟩], rG kO (.slice q9 N2 c9) L2, rG kD (.slice (some ⟨b6, 0, none⟩) 1 1) [⟨E2, q6, N2, c6⟩], rG kO (.slice q6 N2 c6) L2] := hr9.sub (pickD _ _ _ _ _ _)
        clear hr9
        obtain ⟨y0, y1, _, _⟩ := dv2 hx (K := kD) (g := b9) (n := 1) (q := ⟨E2, q9, N2, c9⟩) (by simp) rfl; dsimp only at y0 y1
        obtain ⟨z0, z1, _, _⟩ := dv2 hx (K := kD) (g := b6) (n := 1) (q := ⟨E2, q6, N2, c6⟩) (by simp) rfl; dsimp only at z0 z1
        go_upto_region 17 with (go_at_call 30; refine (HE2.out _ q9 q6 c9 c6 (OwG.sl (hx.mem (K := kO) (v := .slice q9 N2 c9) (L := L2) (by simp))) (OwG.sl (hx.mem (K := kO) (v := .slice q6 N2 c6) (L := L2) (by simp)))).mono ?_; rintro ee w10 ⟨rfl, hb10⟩; replace hx := hx.step hb10; clear y0 y1 z0 z1; obtain ⟨y0, y1, _, _⟩ := dv2 hx (K := kD) (g := b9) (n := 1) (q := ⟨E2, q9, N2, c9⟩) (by simp) rfl; dsimp only at y0 y1)
        go_upto_region 19 with (go_at_call 31; refine (HM2.out _ [rG kD (.slice (some ⟨b9, 0, none⟩) 1 1) [⟨E2, q9, N2, c9⟩]] [rG kD (.slice (some ⟨b6, 0, none⟩) 1 1) [⟨E2, q6, N2, c6⟩], rG kO (.slice q6 N2 c6) L2] q9 c9 hx).mono ?_; rintro ee w11 ⟨rfl, hx11⟩; clear y0 y1 hx)
        have hx : Sg ((w.alloc (.cells #[.int .i64 e, .slice p n c] 52)).alloc (.cells #[.int .i64 l, .int .i64 x, .int .i64 y] 61)) w11 [rG kD (.slice (some ⟨b9, 0, none⟩) 1 1) [⟨E2, q9, N2, c9⟩], rG kO (.slice q9 N2 c9) (mkOs 1 N2), rG kD (.slice (some ⟨b6, 0, none⟩) 1 1) [⟨E2, q6, N2, c6⟩], rG kO (.slice q6 N2 c6) L2] := hx11
        clear hx11
        obtain ⟨y0, y1, _, _⟩ := dv2 hx (K := kD) (g := b9) (n := 1) (q := ⟨E2, q9, N2, c9⟩) (by simp) rfl; dsimp only at y0 y1
        go_upto_region 24 with (go_at_call 32; refine (HH.out _ q9 c9 (OwG.sl (hx.mem (K := kO) (v := .slice q9 N2 c9) (L := mkOs 1 N2) (by simp)))).mono ?_; rintro ee w12 ⟨rfl, hb12⟩; replace hx := hx.step hb12; clear y0 y1)
        go_cut [16, 17] from 83 (fun v14 v15 wx => ∃ (b14 : Nat) (q : Option Addr) (cp : Nat), v14 = .pointer (some ⟨b14, 0, none⟩) ∧ v15 = .bool b ∧ Sg ((w.alloc (.cells #[.int .i64 e, .slice p n c] 52)).alloc (.cells #[.int .i64 l, .int .i64 x, .int .i64 y] 61)) wx [rG kD (.slice (some ⟨b14, 0, none⟩) 1 1) [⟨E2, q, N2, cp⟩], rG kO (.slice q N2 cp) L2, rG kD (.slice (some ⟨b9, 0, none⟩) 1 1) [⟨E2, q9, N2, c9⟩], rG kO (.slice q9 N2 c9) (mkOs 1 N2), rG kD (.slice (some ⟨b6, 0, none⟩) 1 1) [⟨E2, q6, N2, c6⟩], rG kO (.slice q6 N2 c6) L2])
        case first =>
          have hr := hx
          clear hx
          go_region_held3 (fun w' => ((w'.cell? ⟨w.heap.size, 0, none⟩ = some (.int .i64 e) ∧ w'.cell? ⟨w.heap.size, 1, none⟩ = some (.slice p n c)) ∧ (w'.cell? ⟨w.heap.size + 1, 0, none⟩ = some (.int .i64 l) ∧ w'.cell? ⟨w.heap.size + 1, 1, none⟩ = some (.int .i64 x) ∧ w'.cell? ⟨w.heap.size + 1, 2, none⟩ = some (.int .i64 y))))
            (first
              | assumption
              | with_reducible exact HB.out _ hr.bel
              | with_reducible exact HB.out _ (Sg.dr hr).bel
              | with_reducible exact HB.out _ (Sg.al hr _).bel
              | with_reducible exact HB.out _ (Sg.dr (Sg.al hr _)).bel
              | with_reducible exact HB.out _ (Sg.dr (Sg.al hr _)).bel
              | with_reducible exact HB.out _ h7.bel)
            (first
              | (go_at_call 29; refine (HT.out _ (by first | with_reducible exact (h0.addL hr).bel | with_reducible exact (h0.addL (Sg.dr hr)).bel | with_reducible exact (h0.addL (Sg.litZ hr)).bel | with_reducible exact (h0.addL (Sg.dr (Sg.litZ hr))).bel)).mono ?_; rintro ee v3 ⟨g3, rfl, hg3⟩; (first | with_reducible (replace hr := hr.addL hg3) | with_reducible (replace hr := (Sg.dr hr).addL hg3) | with_reducible (replace hr := (Sg.litZ hr).addL hg3) | with_reducible (replace hr := (Sg.dr (Sg.litZ hr)).addL hg3)); clear hg3)
              | (go_at_call 34; refine (HP.out _).mono ?_; rintro ee v4 ⟨rfl, hb4⟩; (first | with_reducible (replace hr := hr.step hb4) | with_reducible (replace hr := (Sg.litZ hr).step hb4)); clear hb4)
              | (go_at_call 13; (first | refine (HI.out _ g3 (rdO (n := n) (c := n) hr (by simp))).mono ?_ | refine (HI.out _ g3 (rdO (n := n) (c := n) (Sg.litZ hr) (by simp))).mono ?_); rintro ee v5 ⟨q5, c5, rfl, hS5⟩; (first | with_reducible (replace hr := hr.addL hS5) | with_reducible (replace hr := (Sg.litZ hr).addL hS5)); clear hS5; (first
                | (obtain ⟨u0, u1, uf, ug⟩ := dv2 hr (K := kD) (g := w12.heap.size) (n := 1) (q := zdv) (by simp) rfl; have h7 := Sg.setD (A := [rG kO (.slice q5 N2 c5) L2, rG kO (.slice (some ⟨g3, 0, none⟩) n n) L]) (g := w12.heap.size) (n := 1) (a := zdv) hr ⟨E2, q5, N2, c5⟩)
                | (obtain ⟨u0, u1, uf, ug⟩ := dv2 hr (K := kD) (g := v3.heap.size) (n := 1) (q := zdv) (by simp) rfl; have h7 := Sg.setD (A := [rG kO (.slice q5 N2 c5) L2]) (g := v3.heap.size) (n := 1) (a := zdv) hr ⟨E2, q5, N2, c5⟩)
                | (obtain ⟨u0, u1, uf, ug⟩ := dv2 hr (K := kD) (g := v4.heap.size) (n := 1) (q := zdv) (by simp) rfl; have h7 := Sg.setD (A := [rG kO (.slice q5 N2 c5) L2]) (g := v4.heap.size) (n := 1) (a := zdv) hr ⟨E2, q5, N2, c5⟩)
                | skip)))
          all_goals go_wp2
          all_goals go_meet
          all_goals first
            | (refine ⟨v5.heap.size, q5, c5, rfl, rfl, ?_⟩; have h9 := hr.lit kD [⟨E2, q5, N2, c5⟩] 1 rfl (by decide) #[.int .i64 E2, .slice q5 N2 c5] rfl; change Sg ((w.alloc (.cells #[.int .i64 e, .slice p n c] 52)).alloc (.cells #[.int .i64 l, .int .i64 x, .int .i64 y] 61)) (v5.alloc (.cells #[.int .i64 E2, .slice q5 N2 c5] 26)) _ at h9; exact h9.sub (pickA _ _ _ _))
            | (refine ⟨w12.heap.size, q5, c5, rfl, rfl, ?_⟩; exact (h7.perm (permA _ _ _ _)).sub (pickB _ _ _ _))
            | (refine ⟨v3.heap.size, q5, c5, rfl, rfl, ?_⟩; exact (h7.perm (permB _ _ _)).sub (pickC _ _ _ _))
            | (refine ⟨v4.heap.size, q5, c5, rfl, rfl, ?_⟩; exact (h7.perm (permB _ _ _)).sub (pickC _ _ _ _))
        case rest =>
          obtain ⟨b14, q14, c14, rfl, rfl, hx⟩ := hcut
          obtain ⟨y0, y1, _, _⟩ := dv2 hx (K := kD) (g := b14) (n := 1) (q := ⟨E2, q14, N2, c14⟩) (by simp) rfl; dsimp only at y0 y1
          obtain ⟨z0, z1, _, _⟩ := dv2 hx (K := kD) (g := b6) (n := 1) (q := ⟨E2, q6, N2, c6⟩) (by simp) rfl; dsimp only at z0 z1
          go_upto_region 28 with (go_at_call 30; refine (HE2.out _ q14 q6 c14 c6 (OwG.sl (hx.mem (K := kO) (v := .slice q14 N2 c14) (L := L2) (by simp))) (OwG.sl (hx.mem (K := kO) (v := .slice q6 N2 c6) (L := L2) (by simp)))).mono ?_; rintro ee w15 ⟨rfl, hb15⟩; replace hx := hx.step hb15; clear y0 y1 z0 z1)
          obtain ⟨y0, y1, _, _⟩ := dv2 hx (K := kD) (g := b9) (n := 1) (q := ⟨E2, q9, N2, c9⟩) (by simp) rfl; dsimp only at y0 y1
          go_wp2_with (go_at_call 32; refine (HH.out _ q9 c9 (OwG.sl (hx.mem (K := kO) (v := .slice q9 N2 c9) (L := mkOs 1 N2) (by simp)))).mono ?_; rintro ee w16 ⟨rfl, hb16⟩; replace hx := hx.step hb16)
          go_ret
          exact ⟨rfl, (h0.addL hx).bel⟩
  · have HZ := Lib.hid (fun W => szDirectory_v (d := ⟨e, p, n, c⟩) (v := -1) (by simp only; rw [if_pos (by omega)]) W hm)
    clear hn hL hm hz
    go_enter Try.func8, Try.ntmps8
    go_wp2_with (go_at_call 28; refine (HZ.out _).mono ?_; rintro ee w1 ⟨rfl, hb1⟩)
    go_ret
    exact ⟨rfl, (h0.step hb1).bel⟩
end Go.Proofs.Ytamnmakegdnblaa.K.D
