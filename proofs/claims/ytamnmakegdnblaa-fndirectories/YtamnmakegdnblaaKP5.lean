/-
  An Own split, an Own given; a Directory copied: the program's.
-/
import Derived.Test.YtamnmakegdnblaaKP1
import Derived.Test.YtamnmakegdnblaaKQ2
import Derived.Test.YtamnmakegdnblaaMA4
import Derived.Test.YtamnmakegdnblaaKDA
namespace Go.Proofs.Ytamnmakegdnblaa.K.D
open Go.Shelf Go.RowKit Go.Joins
attribute [local go_sem] Oper.semAt_some

theorem lit_csO {w : World} {g : Nat} (hg : g = w.heap.size) (o : On) : CsG kO (w.alloc (.cells #[.int .i64 o.l, .int .i64 o.x, .int .i64 o.y, .int .i64 o.s] 73)) g 0 [o] := by
  subst hg
  refine ⟨by simp, fun j u hj => ?_⟩
  have := lit_src (W := w) (xs := [.int .i64 o.l, .int .i64 o.x, .int .i64 o.y, .int .i64 o.s]) (t := 73) rfl j u (by simpa [Kd.flat, kO] using hj)
  rw [show (⟨w.heap.size, 0, none⟩ : Addr).add j = ⟨w.heap.size, 0 + j, none⟩ by unfold Addr.add; split <;> simp_all] at this
  exact this
def splitO (o : On) : List On := if o.l = 8 then [] else quL o.l o.x o.y o.s 4
def givenO (s : Int) (o : On) : List On := if o.s = s then [] else [givO o s]
set_option maxRecDepth 100000 in
set_option maxHeartbeats 2000000 in
theorem split_any (o : On) (ho : onB o = true) (w : World) : Calls Try.prog 39 #[o.v] w fun e w' => ∃ q n c, e = .returned (.slice q n c) ∧ Sg w w' [rG kO (.slice q n c) (splitO o)] := by
  obtain ⟨l, x, y, s⟩ := o
  have hc : M.cellB l x y = true := onB_ok ho
  by_cases h8 : l = 8
  · have HQ := Lib.hid (fun W => M.iQuarters_no (l := l) (x := x) (y := y) (.inr h8) W)
    have e : splitO ⟨l, x, y, s⟩ = [] := by unfold splitO; rw [if_pos h8]
    rw [e]
    have hst := (St.nil w).push [.int .i64 l, .int .i64 x, .int .i64 y, .int .i64 s] 73
    clear ho hc h8 e
    go_enter Try.func39, Try.ntmps39
    go_wp2_with (go_at_call 78; refine (HQ.out _).mono ?_; rintro e w1 ⟨rfl, hb1⟩)
    refine wp_loop_rounds 1 ?_
    rw [rounds_succ]
    go_wp2
    go_ret
    exact ⟨none, 0, 0, rfl, by simpa using ((sg_bel (hst.step hb1).bel).addL (sg_nilrow w1))⟩
  · have HQ := Lib.hid (fun W => M.iQuarters_yes hc h8 W)
    have e : splitO ⟨l, x, y, s⟩ = quL l x y s 4 := by unfold splitO; rw [if_neg h8]
    have hst := (St.nil w).push [.int .i64 l, .int .i64 x, .int .i64 y, .int .i64 s] 73
    rw [e]
    obtain ⟨L1, hL1⟩ : ∃ z, l + 1 = z := ⟨_, rfl⟩
    obtain ⟨X0, hX0⟩ : ∃ z, 2 * x = z := ⟨_, rfl⟩
    obtain ⟨X1, hX1⟩ : ∃ z, 2 * x + 1 = z := ⟨_, rfl⟩
    obtain ⟨Y0, hY0⟩ : ∃ z, 2 * y = z := ⟨_, rfl⟩
    obtain ⟨Y1, hY1⟩ : ∃ z, 2 * y + 1 = z := ⟨_, rfl⟩
    have HL : Hid (quL l x y s 4 = [⟨L1, X0, Y0, s⟩, ⟨L1, X1, Y0, s⟩, ⟨L1, X0, Y1, s⟩, ⟨L1, X1, Y1, s⟩]) := by
      show quL l x y s 4 = [⟨L1, X0, Y0, s⟩, ⟨L1, X1, Y0, s⟩, ⟨L1, X0, Y1, s⟩, ⟨L1, X1, Y1, s⟩]
      subst hL1 hX0 hX1 hY0 hY1
      simp [quL, quO, List.range_succ]
    have HC : Hid (∀ w0 w1 W g, M.St w0 w1 [(g, M.qs l x y 4)] → Below w1.heap.size w1 W → (W.cell? ⟨g, 0, none⟩ = some (.int .i64 L1) ∧ W.cell? ⟨g, 1, none⟩ = some (.int .i64 X0) ∧ W.cell? ⟨g, 2, none⟩ = some (.int .i64 Y0)) ∧ (W.cell? ⟨g, 3, none⟩ = some (.int .i64 L1) ∧ W.cell? ⟨g, 4, none⟩ = some (.int .i64 X1) ∧ W.cell? ⟨g, 5, none⟩ = some (.int .i64 Y0)) ∧ (W.cell? ⟨g, 6, none⟩ = some (.int .i64 L1) ∧ W.cell? ⟨g, 7, none⟩ = some (.int .i64 X0) ∧ W.cell? ⟨g, 8, none⟩ = some (.int .i64 Y1)) ∧ (W.cell? ⟨g, 9, none⟩ = some (.int .i64 L1) ∧ W.cell? ⟨g, 10, none⟩ = some (.int .i64 X1) ∧ W.cell? ⟨g, 11, none⟩ = some (.int .i64 Y1))) := fun w0 w1 W g h hb => by
      have := (h.step hb).has
      subst hL1 hX0 hX1 hY0 hY1
      simp [M.Has, M.HasAt, M.qs, M.qc] at this
      simp [this]
    clear ho hc h8 e hL1 hX0 hX1 hY0 hY1
    go_enter Try.func39, Try.ntmps39
    go_wp2_with (go_at_call 78; refine (HQ.out _).mono ?_; rintro e w1 ⟨g, cap, rfl, hg0, hcap, hq⟩)
    have hs1 := hst.step (hq.bel)
    clear hst
    have HS : Hid (∀ W, Below w1.heap.size w1 W → (W.cell? ⟨w.heap.size, 0, none⟩ = some (.int .i64 l) ∧ W.cell? ⟨w.heap.size, 1, none⟩ = some (.int .i64 x) ∧ W.cell? ⟨w.heap.size, 2, none⟩ = some (.int .i64 y) ∧ W.cell? ⟨w.heap.size, 3, none⟩ = some (.int .i64 s))) := fun W hb => by
      have := (hs1.step hb).has
      simp [Has, HasAt] at this
      simp [this]
    have HQ4 : Hid (∀ W, Below w1.heap.size w1 W → _) := fun W hb => HC.out _ w1 W g hq hb
    have i4 : (4 : Int) ≤ cap := by omega
    have hbw : Below w.heap.size w w1 := hs1.bel
    have hS0 := sg_nilrow w1
    clear hq hs1 HC
    refine wp_loop_rounds 5 ?_
    rw [rounds_succ]
    have hq0 := HQ4.out _ hS0.bel
    obtain ⟨-, -, -, o3⟩ := HS.out (w1.alloc (.cells #[.int .i64 L1, .int .i64 X0, .int .i64 Y0] 28)) (hS0.step (below_alloc1 _ _)).bel
    go_wp2_with (at_builtin; refine wpList_ap appO oneOs rfl _ _ rfl (A := []) (M := ([] : List On)) (L := [⟨L1, X0, Y0, s⟩]) (m := 0) (s := ⟨some ⟨w1.heap.size + 1, 0, none⟩, 1, 1⟩) hS0 (below_alloc2 _ _ _) (.inr ⟨_, 0, rfl, lit_csO (by simp) ⟨L1, X0, Y0, s⟩⟩) rfl rfl (by simp only; omega) (.inl ⟨_, rfl⟩) rfl rfl ?_; intro q1 cap1 v1 hS1 _ _ _)
    clear hS0 hq0 o3
    (try dsimp only at hS1)
    simp only [List.nil_append, Nat.reduceAdd] at hS1
    rw [rounds_succ]
    have hq1 := HQ4.out _ hS1.bel
    obtain ⟨-, -, -, o3⟩ := HS.out (v1.alloc (.cells #[.int .i64 L1, .int .i64 X1, .int .i64 Y0] 28)) (hS1.step (below_alloc1 _ _)).bel
    go_wp2_with (at_builtin; refine wpList_ap appO oneOs rfl _ _ rfl (A := []) (M := ([⟨L1, X0, Y0, s⟩] : List On)) (L := [⟨L1, X1, Y0, s⟩]) (m := 1) (s := ⟨some ⟨v1.heap.size + 1, 0, none⟩, 1, 1⟩) hS1 (below_alloc2 _ _ _) (.inr ⟨_, 0, rfl, lit_csO (by simp) ⟨L1, X1, Y0, s⟩⟩) rfl rfl (by simp only; omega) (.inl ⟨_, rfl⟩) rfl rfl ?_; intro q2 cap2 v2 hS2 _ _ _)
    clear hS1 hq1 o3
    (try dsimp only at hS2)
    simp only [List.nil_append, List.cons_append, Nat.reduceAdd] at hS2
    rw [rounds_succ]
    have hq2 := HQ4.out _ hS2.bel
    obtain ⟨-, -, -, o3⟩ := HS.out (v2.alloc (.cells #[.int .i64 L1, .int .i64 X0, .int .i64 Y1] 28)) (hS2.step (below_alloc1 _ _)).bel
    go_wp2_with (at_builtin; refine wpList_ap appO oneOs rfl _ _ rfl (A := []) (M := ([⟨L1, X0, Y0, s⟩, ⟨L1, X1, Y0, s⟩] : List On)) (L := [⟨L1, X0, Y1, s⟩]) (m := 2) (s := ⟨some ⟨v2.heap.size + 1, 0, none⟩, 1, 1⟩) hS2 (below_alloc2 _ _ _) (.inr ⟨_, 0, rfl, lit_csO (by simp) ⟨L1, X0, Y1, s⟩⟩) rfl rfl (by simp only; omega) (.inl ⟨_, rfl⟩) rfl rfl ?_; intro q3 cap3 v3 hS3 _ _ _)
    clear hS2 hq2 o3
    (try dsimp only at hS3)
    simp only [List.nil_append, List.cons_append, Nat.reduceAdd] at hS3
    rw [rounds_succ]
    have hq3 := HQ4.out _ hS3.bel
    obtain ⟨-, -, -, o3⟩ := HS.out (v3.alloc (.cells #[.int .i64 L1, .int .i64 X1, .int .i64 Y1] 28)) (hS3.step (below_alloc1 _ _)).bel
    go_wp2_with (at_builtin; refine wpList_ap appO oneOs rfl _ _ rfl (A := []) (M := ([⟨L1, X0, Y0, s⟩, ⟨L1, X1, Y0, s⟩, ⟨L1, X0, Y1, s⟩] : List On)) (L := [⟨L1, X1, Y1, s⟩]) (m := 3) (s := ⟨some ⟨v3.heap.size + 1, 0, none⟩, 1, 1⟩) hS3 (below_alloc2 _ _ _) (.inr ⟨_, 0, rfl, lit_csO (by simp) ⟨L1, X1, Y1, s⟩⟩) rfl rfl (by simp only; omega) (.inl ⟨_, rfl⟩) rfl rfl ?_; intro q4 cap4 v4 hS4 _ _ _)
    clear hS3 hq3 o3
    (try dsimp only at hS4)
    simp only [List.nil_append, List.cons_append, Nat.reduceAdd] at hS4
    rw [rounds_succ]
    go_wp2
    go_ret
    exact ⟨q4, 4, cap4, rfl, by rw [HL.out]; simpa using (sg_bel hbw).addL hS4⟩
set_option maxHeartbeats 1000000 in
theorem given_any (o : On) (s : Int) (w : World) : Calls Try.prog 42 #[o.v, .int .i64 s] w fun e w' => ∃ q n c, e = .returned (.slice q n c) ∧ Sg w w' [rG kO (.slice q n c) (givenO s o)] := by
  obtain ⟨l, x, y, z⟩ := o
  have hst := (St.nil w).push [.int .i64 l, .int .i64 x, .int .i64 y, .int .i64 z] 73
  by_cases h : z = s
  · subst h
    have e : givenO z ⟨l, x, y, z⟩ = [] := by unfold givenO; rw [if_pos rfl]
    rw [e]
    go_enter Try.func42, Try.ntmps42
    go_wp2
    go_ret
    exact ⟨none, 0, 0, rfl, by simpa using ((sg_bel hst.bel).addL (sg_nilrow _))⟩
  · have e : givenO s ⟨l, x, y, z⟩ = [⟨l, x, y, s⟩] := by unfold givenO; rw [if_neg h]; rfl
    rw [e]
    have h' : (z == s) = false := by simpa using h
    go_enter Try.func42, Try.ntmps42
    go_wp2
    go_ret
    have h1 := (sg_bel hst.bel).lit kO [⟨l, x, y, s⟩] 1 rfl (by decide) #[.int .i64 l, .int .i64 x, .int .i64 y, .int .i64 s] rfl
    simp only [World.size_alloc] at h1
    exact ⟨_, 1, 1, rfl, h1⟩
set_option maxHeartbeats 1000000 in
theorem given1_any (o : On) (s : Int) (b : Nat) (w : World) (hb : w.cell? ⟨b, 0, none⟩ = some (.int .i64 s)) (hbl : b < w.heap.size) : Calls Try.prog 41 #[o.v, .pointer (some ⟨b, 0, none⟩)] w fun e w' => ∃ q n c, e = .returned (.slice q n c) ∧ Sg w w' [rG kO (.slice q n c) (givenO s o)] := by
  have HG := Lib.hid (fun W => given_any o s W)
  obtain ⟨l, x, y, z⟩ := o
  have hst := (St.nil w).push [.int .i64 l, .int .i64 x, .int .i64 y, .int .i64 z] 73
  go_enter Try.func41, Try.ntmps41
  go_wp2_with (go_at_call 42; refine (HG.out _).mono ?_; rintro e w1 ⟨q, n, c, rfl, hS⟩)
  go_ret
  exact ⟨q, n, c, rfl, by simpa using (sg_bel hst.bel).addL hS⟩
set_option maxHeartbeats 1000000 in
theorem dcopied_any (e : Int) (p : Option Addr) (n c : Nat) (L : List On) (hn : L.length = n) (w : World) (hL : SlG kO w p L) (ho : okv ⟨p, n, c⟩) (hs : n ≤ 1000000) :
    Calls Try.prog 76 #[Dv.v ⟨e, p, n, c⟩] w fun ee w' => ∃ q c', ee = .returned (Dv.v ⟨e, q, n, c'⟩) ∧ Sg w w' [rG kO (.slice q n c') L] := by
  have HC := Lib.hid (fun W (h : Below w.heap.size w W) => copied_any ⟨p, n, c⟩ L W (hL.step h) hn ho hs)
  have hx := ((Sg.nil w).lit kD [⟨e, p, n, c⟩] 1 rfl (by decide) #[.int .i64 e, .slice p n c] rfl).lit kD [zdv] 1 rfl (by decide) #[.int .i64 0, .slice none 0 0] rfl
  simp only [World.size_alloc] at hx
  have hx0 : Sg w ((w.alloc (.cells #[.int .i64 e, .slice p n c] 26)).alloc (.cells #[.int .i64 0, .slice none 0 0] 26)) [rG kD (.slice (some ⟨w.heap.size + 1, 0, none⟩) 1 1) [zdv], rG kD (.slice (some ⟨w.heap.size, 0, none⟩) 1 1) [⟨e, p, n, c⟩]] := hx
  clear hx hn hL ho
  go_enter Try.func76, Try.ntmps76
  go_wp2_with (go_at_call 95; refine (HC.out _ hx0.bel).mono ?_; rintro ee w1 ⟨q, c', rfl, hS⟩; have hx1 := hx0.addL hS; obtain ⟨a0, a1, af, ag⟩ := dv2 hx1 (K := kD) (g := w.heap.size) (n := 1) (q := ⟨e, p, n, c⟩) (by simp) rfl; obtain ⟨z0, z1, zf, zg⟩ := dv2 hx1 (K := kD) (g := w.heap.size + 1) (n := 1) (q := zdv) (by simp) rfl; dsimp only at a0 a1 z0 z1; simp only [zdv] at z0 z1)
  have hx2 := Sg.setD1 (A := [rG kO (.slice q n c') L, rG kD (.slice (some ⟨w.heap.size + 1, 0, none⟩) 1 1) [zdv]]) (Bs := []) (g := w.heap.size) (n := 1) (a := ⟨e, p, n, c⟩) hx1 q n c'
  have hx3 := Sg.setD (A := [rG kO (.slice q n c') L]) (g := w.heap.size + 1) (n := 1) (a := zdv) hx2 ⟨e, q, n, c'⟩
  refine bodyPost_ret (v := .agg #[.int .i64 e, .slice q n c']) (by simp [results, Try.results76, go_sem, z0, z1]) rfl ⟨q, c', rfl, ?_⟩
  exact hx3.sub (by simp)
end Go.Proofs.Ytamnmakegdnblaa.K.D
