/-
  What the law of less and more stands on: boxes of Rects, what two Rects share, the list of three.
-/
import Derived.Test.YtgpgmndjkcpaoaaA7S
import Derived.Test.YtgpgmndjkcpaoaaT3
import Derived.Test.YtgpgmndjkcpaoaaD7
import Derived.Test.YtgpgmndjkcpaoaaM9
import Derived.Test.YtgpgmndjkcpaoaaW11
import Derived.Test.YtgpgmndjkcpaoaaW6A
namespace Go.Proofs.Ytgpgmndjkcpaoaa
open Go.RowKit Go.Joins

/-- Boxes and lists of Rects that stand since w. -/
structure Rx (w W : World) (l : List (Nat × List T4)) : Prop where
  bel : Below w.heap.size w W
  has : ∀ p ∈ l, Cs4 W p.1 0 p.2
theorem Rx.nil (w : World) : Rx w w [] := ⟨Below.refl _ _, fun p hp => by cases hp⟩
theorem Rx.step {w W W' : World} {l : List (Nat × List T4)} (h : Rx w W l) (hb : Below W.heap.size W W') : Rx w W' l := ⟨bstep h.bel hb (Nat.le_refl _), fun p hp => (h.has p hp).step hb⟩
theorem Rx.dr {w W : World} {l : List (Nat × List T4)} (h : Rx w W l) : Rx w W.drew l := h.step (Below.refl _ _).drew
theorem Rx.al {w W : World} {l : List (Nat × List T4)} (h : Rx w W l) (o : Obj) : Rx w (W.alloc o) l := h.step (below_alloc1 W o)
theorem Rx.cons {w W : World} {l : List (Nat × List T4)} (h : Rx w W l) {g : Nat} {L : List T4} (hc : Cs4 W g 0 L) : Rx w W ((g, L) :: l) :=
  ⟨h.bel, fun p hp => by rcases List.mem_cons.1 hp with rfl | hp <;> first | exact hc | exact h.has p hp⟩
theorem Rx.push {w W : World} {l : List (Nat × List T4)} (h : Rx w W l) {g : Nat} (hg : g = W.heap.size) (r : T4) : Rx w (W.alloc (.cells #[.int .i64 r.x, .int .i64 r.y, .int .i64 r.w, .int .i64 r.h] 35)) ((g, [r]) :: l) := by
  subst hg; exact (h.al _).cons (Ow4.cs (L := [r]) (box4_own W r))
theorem Rx.push3 {w W : World} {l : List (Nat × List T4)} (h : Rx w W l) {g : Nat} (hg : g = W.heap.size) (a b c : T4) : Rx w (W.alloc (.cells #[.int .i64 a.x, .int .i64 a.y, .int .i64 a.w, .int .i64 a.h, .int .i64 b.x, .int .i64 b.y, .int .i64 b.w, .int .i64 b.h, .int .i64 c.x, .int .i64 c.y, .int .i64 c.w, .int .i64 c.h] 35)) ((g, [a, b, c]) :: l) := by
  subst hg
  refine (h.al _).cons (Ow4.cs (L := [a, b, c]) (base := W.heap.size) (n := 3) (cap := 3) ?_)
  have := World.ownsRow_lit (base := W.heap.size) (e := 35) (size := 4) W #[.int .i64 a.x, .int .i64 a.y, .int .i64 a.w, .int .i64 a.h, .int .i64 b.x, .int .i64 b.y, .int .i64 b.w, .int .i64 b.h, .int .i64 c.x, .int .i64 c.y, .int .i64 c.w, .int .i64 c.h] 3 (Nat.le_refl _) (by unfold maxLen; omega) rfl
  exact this
/-- A box made first and filled behind a call. -/
theorem Rx.late {w W w2 : World} {l : List (Nat × List T4)} (h : Rx w W l) (hb : Below (W.alloc (.cells #[.int .i64 0, .int .i64 0, .int .i64 0, .int .i64 0] 35)).drew.heap.size (W.alloc (.cells #[.int .i64 0, .int .i64 0, .int .i64 0, .int .i64 0] 35)).drew w2) (r : T4) :
    Rx w ((((w2.setCell ⟨W.heap.size, 0, none⟩ (.int .i64 r.x)).setCell ⟨W.heap.size, 1, none⟩ (.int .i64 r.y)).setCell ⟨W.heap.size, 2, none⟩ (.int .i64 r.w)).setCell ⟨W.heap.size, 3, none⟩ (.int .i64 r.h)) ((W.heap.size, [r]) :: l) := by
  have h1 := (((St.nil W).push [.int .i64 0, .int .i64 0, .int .i64 0, .int .i64 0] 35).dr.step hb).set4 (.int .i64 r.x) (.int .i64 r.y) (.int .i64 r.w) (.int .i64 r.h) (Nat.le_refl _) (fun p hp => by cases hp)
  refine (h.step h1.bel).cons ⟨(h1.has.mem (p := (W.heap.size, _)) (List.mem_cons_self ..)).1, fun k c hk => ?_⟩
  have hk0 := (h1.has.mem (p := (W.heap.size, _)) (List.mem_cons_self ..)).2.2
  simp only [HasAt] at hk0
  match k, hk with
  | 0, hk => simp at hk; subst hk; simpa using ⟨hk0.1, hk0.2.1, hk0.2.2.1, hk0.2.2.2.1⟩
theorem Rx.r4 {w W : World} {l : List (Nat × List T4)} (h : Rx w W l) {g : Nat} {r : T4} (hm : (g, [r]) ∈ l) : W.cell? ⟨g, 0, none⟩ = some (.int .i64 r.x) ∧ W.cell? ⟨g, 1, none⟩ = some (.int .i64 r.y) ∧ W.cell? ⟨g, 2, none⟩ = some (.int .i64 r.w) ∧ W.cell? ⟨g, 3, none⟩ = some (.int .i64 r.h) := by
  have := (h.has _ hm).2 0 r rfl
  simpa using this
theorem Rx.r12 {w W : World} {l : List (Nat × List T4)} (h : Rx w W l) {g : Nat} {a b c : T4} (hm : (g, [a, b, c]) ∈ l) : (W.cell? ⟨g, 0, none⟩ = some (.int .i64 a.x) ∧ W.cell? ⟨g, 1, none⟩ = some (.int .i64 a.y) ∧ W.cell? ⟨g, 2, none⟩ = some (.int .i64 a.w) ∧ W.cell? ⟨g, 3, none⟩ = some (.int .i64 a.h))
    ∧ (W.cell? ⟨g, 4, none⟩ = some (.int .i64 b.x) ∧ W.cell? ⟨g, 5, none⟩ = some (.int .i64 b.y) ∧ W.cell? ⟨g, 6, none⟩ = some (.int .i64 b.w) ∧ W.cell? ⟨g, 7, none⟩ = some (.int .i64 b.h))
    ∧ (W.cell? ⟨g, 8, none⟩ = some (.int .i64 c.x) ∧ W.cell? ⟨g, 9, none⟩ = some (.int .i64 c.y) ∧ W.cell? ⟨g, 10, none⟩ = some (.int .i64 c.w) ∧ W.cell? ⟨g, 11, none⟩ = some (.int .i64 c.h)) := by
  have h0 := (h.has _ hm).2 0 a rfl
  have h1 := (h.has _ hm).2 1 b rfl
  have h2 := (h.has _ hm).2 2 c rfl
  simp at h0 h1 h2
  exact ⟨h0, h1, h2⟩
theorem Rx.lt {w W : World} {l : List (Nat × List T4)} (h : Rx w W l) {g : Nat} {L : List T4} (hm : (g, L) ∈ l) : g < W.heap.size := (h.has _ hm).1
theorem Rx.sl {w W : World} {l : List (Nat × List T4)} (h : Rx w W l) {g : Nat} {L : List T4} (hm : (g, L) ∈ l) : Sl4 W (some ⟨g, 0, none⟩) L := .inr ⟨g, 0, rfl, h.has _ hm⟩
theorem keepR {w W : World} {l : List (Nat × List T4)} {Q : World → Prop} (hS : ∀ w', Rx w w' l → Q w') (h : Rx w W l) : Rx w W l ∧ Q W := ⟨h, hS _ h⟩

theorem meet_mt {a b m : T4} {f : Bool} (hm : mtG a b = m) (hf : mtF a b = f) (w : World) :
    Calls Try.prog 30 #[.agg #[.int .i64 a.x, .int .i64 a.y, .int .i64 a.w, .int .i64 a.h], .agg #[.int .i64 b.x, .int .i64 b.y, .int .i64 b.w, .int .i64 b.h]] w fun e w' => e = .returned (.tuple #[.agg #[.int .i64 m.x, .int .i64 m.y, .int .i64 m.w, .int .i64 m.h], .bool f]) ∧ Below w.heap.size w w' := by
  subst hm hf
  refine (iMeet_any a.x a.y a.w a.h b.x b.y b.w b.h w).mono ?_
  rintro e w' ⟨rfl, hb'⟩
  refine ⟨?_, hb'⟩
  unfold meetV mtG mtF
  cases (okB a.x a.y a.w a.h && okB b.x b.y b.w b.h && mB a.x a.y a.w a.h b.x b.y b.w b.h) <;> rfl
theorem tog3 {g cap : Nat} {L : List T4} {v : Int} {w : World} (h3 : L.length = 3) (hC : Sl4 w (some ⟨g, 0, none⟩) L) (hv : tgL L = v) :
    Calls Try.prog 11 #[.slice (some ⟨g, 0, none⟩) 3 cap] w fun e w' => e = .returned (.int .i64 v) ∧ Below w.heap.size w w' := by
  have := iTogether_any (some ⟨g, 0, none⟩) cap L w hC (by omega) hv
  rw [h3] at this; exact this
theorem stog3 {g cap : Nat} {L : List T4} {v : Int} {w : World} (h3 : L.length = 3) (hC : Sl4 w (some ⟨g, 0, none⟩) L) (hv : tgL L = v) :
    Calls Try.prog 15 #[.slice (some ⟨g, 0, none⟩) 3 cap] w fun e w' => e = .returned (.int .i64 v) ∧ Below w.heap.size w w' := by
  have := sTogether_any (some ⟨g, 0, none⟩) cap L w hC (by omega) hv
  rw [h3] at this; exact this
theorem tou3 {g cap n : Nat} {L : List T4} {w : World} (h3 : L.length = 3) (hC : Sl4 w (some ⟨g, 0, none⟩) L) (hn : (tcL L).length = n) :
    Calls Try.prog 14 #[.slice (some ⟨g, 0, none⟩) 3 cap] w fun e w' => ∃ (p1 : Option Addr) (cap1 : Nat), e = .returned (.slice p1 n cap1) ∧ Below w.heap.size w w' := by
  have := iTouching_any (some ⟨g, 0, none⟩) cap L w hC (by omega) (v := pI (tcL L)) rfl
  rw [h3] at this
  refine this.mono ?_
  rintro e w' ⟨p1, cap1, gs, rfl, _, hS⟩
  exact ⟨p1, cap1, by rw [show (pI (tcL L)).length = n by unfold pI; rw [List.length_map]; exact hn], hS.bel⟩
theorem okL3 (a b c : T4) : okL [a, b, c] = (a.ok && b.ok && c.ok) := by
  unfold okL; cases h1 : a.ok <;> cases h2 : b.ok <;> cases h3 : c.ok <;> simp [h1, h2, h3]
theorem tgL_no {L : List T4} (h : okL L = false) : tgL L = -1 := by simp [tgL, h]

set_option maxHeartbeats 1000000 in
theorem drawAround_any (a : Option Addr) (len cap : Nat) (zs : List Int) (g : Nat) (w : World) (hl : len ≤ 4096) (hr : Rd w g a len zs) :
    Calls Try.prog 25 #[.slice a len cap] w fun e w' => ∃ x1 y1 c1 d1 x2 y2 c2 d2 : Int, e = .returned (.tuple #[.agg #[.int .i64 x1, .int .i64 y1, .int .i64 c1, .int .i64 d1], .agg #[.int .i64 x2, .int .i64 y2, .int .i64 c2, .int .i64 d2]]) ∧ Below w.heap.size w w' := by
  have HR : Hid (Rd ((w.alloc (.cells #[.int .i64 0, .int .i64 0, .int .i64 0, .int .i64 0] 35)).alloc (.cells #[.int .i64 0, .int .i64 0, .int .i64 0, .int .i64 0] 35)) (g + w.heap.size) a len zs) := hr.up (below_alloc2 _ _ _) (by omega)
  clear hr
  go_enter Try.func25, Try.ntmps25
  go_wp2_with (go_at_call 24; refine (drawMeet_any a len cap zs _ _ hl HR.out).mono ?_; rintro e w1 ⟨x1, y1, c1, d1, x2, y2, c2, d2, rfl, hb⟩; obtain ⟨hc, hf⟩ := bcell hb; have z00 : w1.cell? ⟨w.heap.size, 0, none⟩ = some (.int .i64 0) := (by rw [hc _ _ (by simp <;> omega)]; simp [go_sem]); have z01 : w1.cell? ⟨w.heap.size, 1, none⟩ = some (.int .i64 0) := (by rw [hc _ _ (by simp <;> omega)]; simp [go_sem]); have z02 : w1.cell? ⟨w.heap.size, 2, none⟩ = some (.int .i64 0) := (by rw [hc _ _ (by simp <;> omega)]; simp [go_sem]); have z03 : w1.cell? ⟨w.heap.size, 3, none⟩ = some (.int .i64 0) := (by rw [hc _ _ (by simp <;> omega)]; simp [go_sem]); have z10 : w1.cell? ⟨w.heap.size + 1, 0, none⟩ = some (.int .i64 0) := (by rw [hc _ _ (by simp <;> omega)]; simp [go_sem]); have z11 : w1.cell? ⟨w.heap.size + 1, 1, none⟩ = some (.int .i64 0) := (by rw [hc _ _ (by simp <;> omega)]; simp [go_sem]); have z12 : w1.cell? ⟨w.heap.size + 1, 2, none⟩ = some (.int .i64 0) := (by rw [hc _ _ (by simp <;> omega)]; simp [go_sem]); have z13 : w1.cell? ⟨w.heap.size + 1, 3, none⟩ = some (.int .i64 0) := (by rw [hc _ _ (by simp <;> omega)]; simp [go_sem]); have f0 : ∀ o, w1.frozen? ⟨w.heap.size, o, none⟩ = false := (fun o => by rw [hf _ _ (by simp <;> omega)]; simp [go_sem]); have f1 : ∀ o, w1.frozen? ⟨w.heap.size + 1, o, none⟩ = false := (fun o => by rw [hf _ _ (by simp <;> omega)]; simp [go_sem]))
  refine bodyPost_ret (v := .tuple #[.agg #[.int .i64 x1, .int .i64 y1, .int .i64 c1, .int .i64 d1], .agg #[.int .i64 x2, .int .i64 y2, .int .i64 c2, .int .i64 d2]]) (by simp [results, Try.results25, go_sem, z00, z01, z02, z03, z10, z11, z12, z13]) rfl ⟨_, _, _, _, _, _, _, _, rfl, ?_⟩
  exact sc4 (sc4 (ba2 hb) (Nat.le_refl _)) (by omega)
end Go.Proofs.Ytgpgmndjkcpaoaa
