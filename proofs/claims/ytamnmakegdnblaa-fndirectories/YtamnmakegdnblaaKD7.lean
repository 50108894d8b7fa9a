/-
  A Directory copied: the specification's.
-/
import Derived.Test.YtamnmakegdnblaaKD6
import Derived.Test.YtamnmakegdnblaaKYI
namespace Go.Proofs.Ytamnmakegdnblaa.K.D
open Go.Shelf Go.RowKit Go.Joins
attribute [local go_sem] Oper.semAt_some

def A2 {α : Type} (K : Kd α) (L : List α) (n : Nat) (x : Value) (s : List Rw) : Prop := ∃ q c, x = .slice q n c ∧ s = [rG K (.slice q n c) L]
def C2 (w : World) (e : Int) (n : Nat) (x8 : Value) (s2 : List Rw) : Prop := ∃ q c, x8 = .slice q n c ∧ s2 = [rG kD (.slice (some ⟨w.heap.size + 1, 0, none⟩) 1 1) [⟨e, q, n, c⟩]]
def B9 (e : Int) (x8 x9 : Value) : Prop := x9 = .agg #[.int .i64 e, x8]
open Go.Proofs.Ytamnmakegdnblaa.K.Inv in
/-- What holds of l15Copy's region, whatever of it is done. -/
structure CQ (w : World) (L : List On) (e : Int) (p : Option Addr) (n c : Nat) (l : Array Bool) (x3 x4 x5 x6 x7 x8 x9 : Value) (s1 s2 : List Rw) : Prop where
  r5a : D l 5 = true → D l 2 = true
  r5b : D l 5 = true → D l 4 = true
  r6a : D l 6 = true → D l 1 = true
  r6b : D l 6 = true → D l 5 = true
  r7 : D l 7 = true → D l 6 = true
  a0 : D l 2 = false → s1 = []
  a1 : D l 2 = true → D l 5 = false → s1 = [rG kO x5 []]
  a2 : D l 5 = true → A2 kO L n x8 s1
  c0 : D l 7 = false → s2 = [rG kD (.slice (some ⟨w.heap.size + 1, 0, none⟩) 1 1) [zdv]]
  c1 : D l 7 = true → C2 w e n x8 s2
  l0 : D l 0 = true → x3 = .pointer (some ⟨w.heap.size, 0, none⟩)
  l1 : D l 1 = true → x4 = .int .i64 e
  l3 : D l 3 = true → x6 = .pointer (some ⟨w.heap.size, 1, none⟩)
  l4 : D l 4 = true → x7 = .slice p n c
  l6 : D l 6 = true → B9 e x8 x9
set_option maxRecDepth 100000 in
set_option maxHeartbeats 4000000 in
theorem l15Copy_any (e : Int) (p : Option Addr) (n c : Nat) (L : List On) (hn : L.length = n) (w : World) (hL : SlG kO w p L) (hnb : n ≤ 64) (ho : okv ⟨p, n, c⟩) :
    Calls Try.prog 46 #[Dv.v ⟨e, p, n, c⟩] w fun ee w' => ∃ q c', ee = .returned (Dv.v ⟨e, q, n, c'⟩) ∧ Sg w w' [rG kO (.slice q n c') L] := by
  have HN : Hid (L.length = n ∧ okv ⟨p, n, c⟩) := ⟨hn, ho⟩
  have HLL := Lib.hid (fun W (hb : Below w.heap.size w W) => hL.step hb)
  have hrow := ((Sg.nil w).lit kD [⟨e, p, n, c⟩] 1 rfl (by decide) #[.int .i64 e, .slice p n c] rfl).lit kD [zdv] 1 rfl (by decide) #[.int .i64 0, .slice none 0 0] rfl
  simp only [World.size_alloc] at hrow
  change Sg w ((w.alloc (.cells #[.int .i64 e, .slice p n c] 26)).alloc (.cells #[.int .i64 0, .slice none 0 0] 26)) _ at hrow
  clear hn hL ho
  go_enter Try.func46, Try.ntmps46
  go_upto_region 1 with (fail)
  refine Inv.wp_region_each (fun l a W => ∃ (x3 x4 x5 x6 x7 x8 x9 : Value) (s1 s2 : List Rw), a = ⟨#[Dv.v ⟨e, p, n, c⟩, .pointer (some ⟨w.heap.size, 0, none⟩), .pointer (some ⟨w.heap.size + 1, 0, none⟩), x3, x4, x5, x6, x7, x8, x9], []⟩ ∧ Sg w W (s1 ++ (s2 ++ [rG kD (.slice (some ⟨w.heap.size, 0, none⟩) 1 1) [⟨e, p, n, c⟩]])) ∧ CQ w L e p n c l x3 x4 x5 x6 x7 x8 x9 s1 s2) (by kernel_rfl) (by kernel_rfl) ?_ ?_ ?_
  · refine ⟨undef, undef, undef, undef, undef, undef, undef, [], [rG kD (.slice (some ⟨w.heap.size + 1, 0, none⟩) 1 1) [zdv]], rfl, hrow.step (Below.refl _ _).drew, ?_⟩
    constructor <;> simp [Inv.D]
  · rintro l a W hD ⟨x3, x4, x5, x6, x7, x8, x9, s1, s2, rfl, hS, hP⟩
    obtain ⟨q1, c1, e8, rfl⟩ := hP.c1 (hD 7 (by decide))
    obtain ⟨_, _, e8', rfl⟩ := hP.a2 (hD 5 (by decide))
    rw [e8] at e8'
    cases e8'
    clear hP hD
    obtain ⟨t0, t1, tf, tg⟩ := dv2 hS (K := kD) (g := w.heap.size + 1) (n := 1) (q := ⟨e, q1, n, c1⟩) (by simp) rfl
    dsimp only at t0 t1 ⊢
    go_wp2_with (fail)
    refine bodyPost_ret (v := .agg #[.int .i64 e, .slice q1 n c1]) (by simp [results, Try.results46, go_sem, t0, t1]) rfl ⟨q1, c1, rfl, hS.sub (by simp)⟩
  · refine ⟨?_, ?_, ?_, ?_, ?_, ?_, ?_, ?_, trivial⟩
    · rintro l a W hl hd ha ⟨x3, x4, x5, x6, x7, x8, x9, s1, s2, rfl, hS, hP⟩
      have hD : ∀ k, Inv.D (l.setIfInBounds 0 true) k = if k = 0 then true else Inv.D l k := fun k => Inv.D_set l 0 k (by rw [hl]; decide)
      simp [Inv.ahead, Region.binds] at ha
      refine Inv.wpOp_K rfl (fun K hK => ?_)
      go_simp
      refine hK _ _ ⟨_, x4, x5, x6, x7, x8, x9, s1, s2, rfl, ?_, ?_⟩
      · exact hS
      · constructor
        all_goals simp [hD]
        all_goals (first | exact hP.r5a | exact hP.r5b | exact hP.r6a | exact hP.r6b | exact hP.r7 | exact hP.a0 | exact hP.a1 | exact hP.a2 | exact hP.c0 | exact hP.c1 | exact hP.l0 | exact hP.l1 | exact hP.l3 | exact hP.l4 | exact hP.l6 | skip)
    · rintro l a W hl hd ha ⟨x3, x4, x5, x6, x7, x8, x9, s1, s2, rfl, hS, hP⟩
      have hD : ∀ k, Inv.D (l.setIfInBounds 1 true) k = if k = 1 then true else Inv.D l k := fun k => Inv.D_set l 1 k (by rw [hl]; decide)
      simp [Inv.ahead, Region.binds] at ha
      obtain rfl := hP.l0 ha
      obtain ⟨y0, y1, yf, yg⟩ := dv2 hS (K := kD) (g := w.heap.size) (n := 1) (q := ⟨e, p, n, c⟩) (by simp) rfl
      simp only at y0 y1
      refine Inv.wpOp_K rfl (fun K hK => ?_)
      go_simp
      refine hK _ _ ⟨_, _, x5, x6, x7, x8, x9, s1, s2, rfl, ?_, ?_⟩
      · exact hS
      · constructor
        all_goals simp [hD]
        all_goals (first | exact hP.r5a | exact hP.r5b | exact hP.r6a | exact hP.r6b | exact hP.r7 | exact hP.a0 | exact hP.a1 | exact hP.a2 | exact hP.c0 | exact hP.c1 | exact hP.l0 | exact hP.l1 | exact hP.l3 | exact hP.l4 | exact hP.l6 | skip)
    · rintro l a W hl hd ha ⟨x3, x4, x5, x6, x7, x8, x9, s1, s2, rfl, hS, hP⟩
      have hD : ∀ k, Inv.D (l.setIfInBounds 2 true) k = if k = 2 then true else Inv.D l k := fun k => Inv.D_set l 2 k (by rw [hl]; decide)
      simp [Inv.ahead, Region.binds] at ha
      obtain rfl := hP.a0 hd
      refine Inv.wpOp_K rfl (fun K hK => ?_)
      go_simp
      refine hK _ _ ⟨x3, x4, _, x6, x7, x8, x9, [rG kO (.slice (some ⟨W.heap.size, 0, none⟩) 0 0) []], s2, rfl, ?_, ?_⟩
      · exact hS.lit kO [] 0 rfl (by decide) #[] rfl
      · constructor
        all_goals simp [hD]
        all_goals (first | exact hP.r5a | exact hP.r5b | exact hP.r6a | exact hP.r6b | exact hP.r7 | exact hP.a0 | exact hP.a1 | exact hP.a2 | exact hP.c0 | exact hP.c1 | exact hP.l0 | exact hP.l1 | exact hP.l3 | exact hP.l4 | exact hP.l6 | skip)
        exact fun h => absurd (hP.r5a h) (by rw [hd]; decide)
    · rintro l a W hl hd ha ⟨x3, x4, x5, x6, x7, x8, x9, s1, s2, rfl, hS, hP⟩
      have hD : ∀ k, Inv.D (l.setIfInBounds 3 true) k = if k = 3 then true else Inv.D l k := fun k => Inv.D_set l 3 k (by rw [hl]; decide)
      simp [Inv.ahead, Region.binds] at ha
      refine Inv.wpOp_K rfl (fun K hK => ?_)
      go_simp
      refine hK _ _ ⟨x3, x4, x5, _, x7, x8, x9, s1, s2, rfl, ?_, ?_⟩
      · exact hS
      · constructor
        all_goals simp [hD]
        all_goals (first | exact hP.r5a | exact hP.r5b | exact hP.r6a | exact hP.r6b | exact hP.r7 | exact hP.a0 | exact hP.a1 | exact hP.a2 | exact hP.c0 | exact hP.c1 | exact hP.l0 | exact hP.l1 | exact hP.l3 | exact hP.l4 | exact hP.l6 | skip)
    · rintro l a W hl hd ha ⟨x3, x4, x5, x6, x7, x8, x9, s1, s2, rfl, hS, hP⟩
      have hD : ∀ k, Inv.D (l.setIfInBounds 4 true) k = if k = 4 then true else Inv.D l k := fun k => Inv.D_set l 4 k (by rw [hl]; decide)
      simp [Inv.ahead, Region.binds] at ha
      obtain rfl := hP.l3 ha
      obtain ⟨y0, y1, yf, yg⟩ := dv2 hS (K := kD) (g := w.heap.size) (n := 1) (q := ⟨e, p, n, c⟩) (by simp) rfl
      simp only at y0 y1
      refine Inv.wpOp_K rfl (fun K hK => ?_)
      go_simp
      refine hK _ _ ⟨x3, x4, x5, _, _, x8, x9, s1, s2, rfl, ?_, ?_⟩
      · exact hS
      · constructor
        all_goals simp [hD]
        all_goals (first | exact hP.r5a | exact hP.r5b | exact hP.r6a | exact hP.r6b | exact hP.r7 | exact hP.a0 | exact hP.a1 | exact hP.a2 | exact hP.c0 | exact hP.c1 | exact hP.l0 | exact hP.l1 | exact hP.l3 | exact hP.l4 | exact hP.l6 | skip)
    · rintro l a W hl hd ha ⟨x3, x4, x5, x6, x7, x8, x9, s1, s2, rfl, hS, hP⟩
      have hD : ∀ k, Inv.D (l.setIfInBounds 5 true) k = if k = 5 then true else Inv.D l k := fun k => Inv.D_set l 5 k (by rw [hl]; decide)
      simp [Inv.ahead, Region.binds] at ha
      obtain rfl := hP.a1 ha.1 hd
      obtain rfl := hP.l4 ha.2
      refine Inv.wpOp_K rfl (fun K hK => ?_)
      refine step_cp appO oneOs rfl (.tmp 5) (.tmp 7) rfl (A := []) (L := L) (s := ⟨p, n, c⟩) hS (Below.refl _ _) (HLL.out _ hS.bel) HN.out.1 (by simp only; omega) HN.out.2 rfl rfl (fun q cap w' h => hK _ _ ⟨x3, x4, x5, x6, _, _, x9, [rG kO (.slice q n cap) L], s2, rfl, h, ?_⟩)
      · constructor
        all_goals simp [hD]
        all_goals (first | exact hP.r5a | exact hP.r5b | exact hP.r6a | exact hP.r6b | exact hP.r7 | exact hP.a0 | exact hP.a1 | exact hP.a2 | exact hP.c0 | exact hP.c1 | exact hP.l0 | exact hP.l1 | exact hP.l3 | exact hP.l4 | exact hP.l6 | skip)
        · exact ha.1
        · exact ha.2
        · exact ha.1
        · exact ⟨q, cap, rfl, rfl⟩
        · exact fun h => absurd (hP.r6b (hP.r7 h)) (by rw [hd]; decide)
        · exact fun h => absurd (hP.r6b h) (by rw [hd]; decide)
    · rintro l a W hl hd ha ⟨x3, x4, x5, x6, x7, x8, x9, s1, s2, rfl, hS, hP⟩
      have hD : ∀ k, Inv.D (l.setIfInBounds 6 true) k = if k = 6 then true else Inv.D l k := fun k => Inv.D_set l 6 k (by rw [hl]; decide)
      simp [Inv.ahead, Region.binds] at ha
      obtain rfl := hP.l1 ha.1
      obtain ⟨q1, c1, rfl, rfl⟩ := hP.a2 ha.2
      refine Inv.wpOp_K rfl (fun K hK => ?_)
      go_simp
      refine hK _ _ ⟨x3, _, x5, x6, x7, _, _, [rG kO (.slice q1 n c1) L], s2, rfl, ?_, ?_⟩
      · exact hS
      · constructor
        all_goals simp [hD]
        all_goals (first | exact hP.r5a | exact hP.r5b | exact hP.r6a | exact hP.r6b | exact hP.r7 | exact hP.a0 | exact hP.a1 | exact hP.a2 | exact hP.c0 | exact hP.c1 | exact hP.l0 | exact hP.l1 | exact hP.l3 | exact hP.l4 | exact hP.l6 | skip)
        · exact ha.1
        · exact ha.2
        · exact hP.r5a ha.2
        · exact fun _ h => absurd ha.2 (by rw [h]; decide)
        · exact rfl
    · rintro l a W hl hd ha ⟨x3, x4, x5, x6, x7, x8, x9, s1, s2, rfl, hS, hP⟩
      have hD : ∀ k, Inv.D (l.setIfInBounds 7 true) k = if k = 7 then true else Inv.D l k := fun k => Inv.D_set l 7 k (by rw [hl]; decide)
      simp [Inv.ahead, Region.binds] at ha
      obtain ⟨q1, c1, rfl, rfl⟩ := hP.a2 (hP.r6b ha.1)
      obtain rfl := hP.l6 ha.1
      obtain rfl := hP.c0 hd
      obtain ⟨t0, t1, tf, tg⟩ := dv2 hS (K := kD) (g := w.heap.size + 1) (n := 1) (q := zdv) (by simp) rfl
      simp only [zdv] at t0 t1
      have hS2 := Sg.setD (A := [rG kO (.slice q1 n c1) L]) (g := w.heap.size + 1) (n := 1) (a := zdv) hS ⟨e, q1, n, c1⟩
      refine Inv.wpOp_K rfl (fun K hK => ?_)
      go_simp
      refine hK _ _ ⟨x3, x4, x5, x6, x7, _, _, [rG kO (.slice q1 n c1) L], [rG kD (.slice (some ⟨w.heap.size + 1, 0, none⟩) 1 1) [⟨e, q1, n, c1⟩]], rfl, ?_, ?_⟩
      · exact hS2
      · constructor
        all_goals simp [hD]
        all_goals (first | exact hP.r5a | exact hP.r5b | exact hP.r6a | exact hP.r6b | exact hP.r7 | exact hP.a0 | exact hP.a1 | exact hP.a2 | exact hP.c0 | exact hP.c1 | exact hP.l0 | exact hP.l1 | exact hP.l3 | exact hP.l4 | exact hP.l6 | skip)
        · exact ha.1
        · exact hP.r5a (hP.r6b ha.1)
        · exact fun _ h => absurd (hP.r6b ha.1) (by rw [h]; decide)
        · exact ⟨_, _, rfl, rfl⟩
end Go.Proofs.Ytamnmakegdnblaa.K.D
