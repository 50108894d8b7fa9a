/-
  The draws of Split, Given and ShardOf.
-/
import Derived.Test.YtamnmakegdnblaaKDE
namespace Go.Proofs.Ytamnmakegdnblaa.K.D
open Go.Shelf Go.RowKit Go.Joins M
attribute [local go_sem] Oper.semAt_some

theorem Sg.lit_lt {w W : World} {rs : List Rw} {l x y : Int} {row d : Rw} {b n : Nat} (h : Sg w (W.alloc (.cells #[.int .i64 l, .int .i64 x, .int .i64 y] 28)) (rG kC (.slice (some ⟨W.heap.size, 0, none⟩) 1 1) [(l, x, y)] :: row :: d :: rG kC (.slice (some ⟨b, 0, none⟩) 1 n) [(0, 0, 0)] :: rs)) : b < W.heap.size := by
  have h1 := (OwG.cs (h.mem (K := kC) (v := .slice (some ⟨b, 0, none⟩) 1 n) (L := [(0, 0, 0)]) (by simp))).1
  have h2 := (List.pairwise_cons.mp h.dis).1 (rG kC (.slice (some ⟨b, 0, none⟩) 1 n) [(0, 0, 0)]) (by simp)
  simp only [World.size_alloc] at h1
  rcases h2 with e | e
  · simp [rG, Value.ownBlock] at e
  · simp only [rG, Value.ownBlock, ne_eq, Option.some.injEq] at e
    omega
/-- What the draw of Split gives. -/
def DrS (w w' : World) (rs : List Rw) (ee : Ending) : Prop := ∃ (e : Int) (q : Option Addr) (n c : Nat) (L : List On) (row : Rw) (l x y : Int), ee = .returned (.tuple #[Dv.v ⟨e, q, n, c⟩, .agg #[.int .i64 l, .int .i64 x, .int .i64 y]]) ∧ DrD q n c L row ∧ Sg w w' (row :: rs)
set_option maxRecDepth 100000 in
set_option maxHeartbeats 4000000 in
theorem drawSplit_any {w W : World} {rs : List Rw} {a : Option Addr} {len cap : Nat} {zs : List Int} {g : Nat} (hS : Sg w W rs) (hl : len ≤ 4096) (hr : Rd w g a len zs) :
    Calls Try.prog 10 #[.slice a len cap] W fun ee w' => DrS w w' rs ee := by
  have h2 := (hS.lit kD [zdv] 1 rfl (by decide) #[.int .i64 0, .slice none 0 0] rfl).lit kC [(0, 0, 0)] 1 rfl (by decide) #[.int .i64 0, .int .i64 0, .int .i64 0] rfl
  simp only [World.size_alloc] at h2
  replace h2 : Sg w ((W.alloc (.cells #[.int .i64 0, .slice none 0 0] 26)).alloc (.cells #[.int .i64 0, .int .i64 0, .int .i64 0] 28)) (rG kC (.slice (some ⟨W.heap.size + 1, 0, none⟩) 1 1) [(0, 0, 0)] :: rG kD (.slice (some ⟨W.heap.size, 0, none⟩) 1 1) [zdv] :: rs) := h2
  have HN := Lib.hid (fun W' rs' (h : Sg w W' rs') => newC (cap := cap) h hl hr)
  have hsz : W.heap.size + 1 < ((W.alloc (.cells #[.int .i64 0, .slice none 0 0] 26)).alloc (.cells #[.int .i64 0, .int .i64 0, .int .i64 0] 28)).heap.size := by simp
  clear hS hl hr
  go_enter Try.func10, Try.ntmps10
  go_upto_region 3 with (first
    | (go_at_call 35; refine (HN.out _ _ h2).mono ?_; rintro ee w1 ⟨C, rfl, hx⟩)
    | (go_at_call 36; refine (dirC hx).mono ?_; rintro ee w2 ⟨e, q, n, c, L, row, rfl, hD, hx2⟩; clear hx))
  clear h2 HN
  have hgw : W.heap.size + 1 < w2.heap.size := by
    have := (c3f hx2.sg (g := W.heap.size + 1) (n := 1) (a := (0, 0, 0)) (by simp)).2.2.2.2
    exact this
  have hr := (Sc.litD hx2 ⟨e, q, n, c⟩).perm (List.Perm.swap _ _ _)
  clear hx2
  obtain ⟨y0, y1, yf, yg⟩ := dv2 hr.sg (K := kD) (g := w2.heap.size) (n := 1) (q := ⟨e, q, n, c⟩) (by simp) rfl
  dsimp only at y0 y1
  have ne1 : ¬ w2.heap.size = W.heap.size := by omega
  have ne2 : ¬ w2.heap.size = W.heap.size + 1 := by omega
  have ne3 : ¬ W.heap.size = w2.heap.size := by omega
  have ne4 : ¬ W.heap.size + 1 = w2.heap.size := by omega
  go_region_with ((go_at_call 37; refine (dcellC (by first | with_reducible exact hr | with_reducible exact Sc.dr hr) hD).mono ?_; rintro ee w3 ⟨cl, cx, cy, rfl, hx3⟩; clear y0 y1 yf yg; obtain ⟨y0, y1, yf, yg⟩ := dv2 hx3.sg (K := kD) (g := w2.heap.size) (n := 1) (q := ⟨e, q, n, c⟩) (by simp) rfl; dsimp only at y0 y1; obtain ⟨z0, z1, zf, zg⟩ := dv2 hx3.sg (K := kD) (g := W.heap.size) (n := 1) (q := zdv) (by simp) rfl; simp only [zdv] at z0 z1; obtain ⟨u0, u1, u2, uf, ug⟩ := c3f hx3.sg (g := W.heap.size + 1) (n := 1) (a := (0, 0, 0)) (by simp); dsimp only at u0 u1 u2))
  all_goals
    go_wp2
    have h7 := Sc.setD (A := [row, rG kD (.slice (some ⟨w2.heap.size, 0, none⟩) 1 1) [⟨e, q, n, c⟩], rG kC (.slice (some ⟨W.heap.size + 1, 0, none⟩) 1 1) [(0, 0, 0)]]) (g := W.heap.size) (n := 1) (a := zdv) hx3 ⟨e, q, n, c⟩
    have h8 := Sc.setC (A := [row, rG kD (.slice (some ⟨w2.heap.size, 0, none⟩) 1 1) [⟨e, q, n, c⟩]]) (g := W.heap.size + 1) (c := 1) (a := (0, 0, 0)) h7 cl cx cy
    refine bodyPost_ret (v := .tuple #[.agg #[.int .i64 e, .slice q n c], .agg #[.int .i64 cl, .int .i64 cx, .int .i64 cy]]) (by simp [results, Try.results10, go_sem, z0, z1, u0, u1, u2]) rfl ⟨e, q, n, c, L, row, cl, cx, cy, rfl, hD, h8.sg.sub (.cons_cons _ (.cons _ (.cons _ (.cons _ (List.Sublist.refl _)))))⟩
/-- What the draw of Given gives. -/
def DrG (w w' : World) (rs : List Rw) (ee : Ending) : Prop := ∃ (e : Int) (q : Option Addr) (n c : Nat) (L : List On) (row : Rw) (l x y s : Int), ee = .returned (.tuple #[Dv.v ⟨e, q, n, c⟩, .agg #[.int .i64 l, .int .i64 x, .int .i64 y], .int .i64 s]) ∧ DrD q n c L row ∧ Sg w w' (row :: rs)
set_option maxRecDepth 100000 in
set_option maxHeartbeats 1000000 in
theorem fromC {w W : World} {C : Cu} {rs : List Rw} (h : Sc w W C rs) :
    Calls Try.prog 40 #[.pointer (some ⟨C.g, 0, none⟩), .int .i64 (-1), .int .i64 6] W fun ee w' => ∃ z : Int, ee = .returned (.int .i64 z) ∧ Sc w w' C rs := by
  go_enter Try.func40, Try.ntmps40
  go_wp2_with (go_at_call 44; refine (belowC h 8 (by decide) (by decide)).mono ?_; rintro ee w1 ⟨z, rfl, h0, h1, hx⟩)
  go_ret
  exact ⟨_, rfl, hx⟩
set_option maxRecDepth 100000 in
set_option maxHeartbeats 4000000 in
theorem drawGiven_any {w W : World} {rs : List Rw} {a : Option Addr} {len cap : Nat} {zs : List Int} {g : Nat} (hS : Sg w W rs) (hl : len ≤ 4096) (hr : Rd w g a len zs) :
    Calls Try.prog 12 #[.slice a len cap] W fun ee w' => DrG w w' rs ee := by
  have h2 := (hS.lit kD [zdv] 1 rfl (by decide) #[.int .i64 0, .slice none 0 0] rfl).lit kC [(0, 0, 0)] 1 rfl (by decide) #[.int .i64 0, .int .i64 0, .int .i64 0] rfl
  simp only [World.size_alloc] at h2
  replace h2 : Sg w ((W.alloc (.cells #[.int .i64 0, .slice none 0 0] 26)).alloc (.cells #[.int .i64 0, .int .i64 0, .int .i64 0] 28)) (rG kC (.slice (some ⟨W.heap.size + 1, 0, none⟩) 1 1) [(0, 0, 0)] :: rG kD (.slice (some ⟨W.heap.size, 0, none⟩) 1 1) [zdv] :: rs) := h2
  have HN := Lib.hid (fun W' rs' (h : Sg w W' rs') => newC (cap := cap) h hl hr)
  clear hS hl hr
  go_enter Try.func12, Try.ntmps12
  go_upto_region 3 with (first
    | (go_at_call 35; refine (HN.out _ _ h2).mono ?_; rintro ee w1 ⟨C, rfl, hx⟩)
    | (go_at_call 36; refine (dirC hx).mono ?_; rintro ee w2 ⟨e, q, n, c, L, row, rfl, hD, hx2⟩; clear hx))
  clear h2 HN
  have hgw : W.heap.size + 1 < w2.heap.size := (c3f hx2.sg (g := W.heap.size + 1) (n := 1) (a := (0, 0, 0)) (by simp)).2.2.2.2
  have hr := (Sc.litD hx2 ⟨e, q, n, c⟩).perm (List.Perm.swap _ _ _)
  clear hx2
  obtain ⟨y0, y1, yf, yg⟩ := dv2 hr.sg (K := kD) (g := w2.heap.size) (n := 1) (q := ⟨e, q, n, c⟩) (by simp) rfl
  dsimp only at y0 y1
  have ne1 : ¬ w2.heap.size = W.heap.size := by omega
  have ne2 : ¬ w2.heap.size = W.heap.size + 1 := by omega
  have ne3 : ¬ W.heap.size = w2.heap.size := by omega
  have ne4 : ¬ W.heap.size + 1 = w2.heap.size := by omega
  generalize w2.heap.size = b6 at *
  generalize w2.alloc (.cells #[.int .i64 e, .slice q n c] 26) = w3 at *
  go_upto_region 4 with (go_at_call 37; refine (dcellC hr hD).mono ?_; rintro ee w4 ⟨l, x, y, rfl, hx4⟩)
  clear hr y0 y1 yf yg
  have hr := Sc.litC hx4 l x y
  clear hx4
  obtain ⟨y0, y1, yf, yg⟩ := dv2 hr.sg (K := kD) (g := b6) (n := 1) (q := ⟨e, q, n, c⟩) (by simp) rfl
  dsimp only at y0 y1
  obtain ⟨x0, x1, x2, xf, xg⟩ := c3f hr.sg (g := w4.heap.size) (n := 1) (a := (l, x, y)) (by simp)
  dsimp only at x0 x1 x2
  have hb6 : b6 < (w4.alloc (.cells #[.int .i64 l, .int .i64 x, .int .i64 y] 28)).heap.size := yg
  have hg4 : W.heap.size + 1 < w4.heap.size := by
    have h1 := Sg.lit_lt hr.sg
    exact h1
  have ne5 : ¬ w4.heap.size = W.heap.size := by omega
  have ne6 : ¬ w4.heap.size = W.heap.size + 1 := by omega
  have ne7 : ¬ W.heap.size = w4.heap.size := by omega
  have ne8 : ¬ W.heap.size + 1 = w4.heap.size := by omega
  generalize w4.heap.size = b7 at *
  generalize w4.alloc (.cells #[.int .i64 l, .int .i64 x, .int .i64 y] 28) = w5 at *
  go_region_with ((go_at_call 40; refine (fromC (by first | with_reducible exact hr | with_reducible exact Sc.dr hr)).mono ?_; rintro ee w6 ⟨s, rfl, hx3⟩; clear y0 y1 yf yg x0 x1 x2 xf xg; obtain ⟨y0, y1, yf, yg⟩ := dv2 hx3.sg (K := kD) (g := b6) (n := 1) (q := ⟨e, q, n, c⟩) (by simp) rfl; dsimp only at y0 y1; obtain ⟨x0, x1, x2, xf, xg⟩ := c3f hx3.sg (g := b7) (n := 1) (a := (l, x, y)) (by simp); dsimp only at x0 x1 x2; obtain ⟨z0, z1, zf, zg⟩ := dv2 hx3.sg (K := kD) (g := W.heap.size) (n := 1) (q := zdv) (by simp) rfl; simp only [zdv] at z0 z1; obtain ⟨u0, u1, u2, uf, ug⟩ := c3f hx3.sg (g := W.heap.size + 1) (n := 1) (a := (0, 0, 0)) (by simp); dsimp only at u0 u1 u2))
  all_goals
    go_wp2
    have h7 := Sc.setD (A := [rG kC (.slice (some ⟨b7, 0, none⟩) 1 1) [(l, x, y)], row, rG kD (.slice (some ⟨b6, 0, none⟩) 1 1) [⟨e, q, n, c⟩], rG kC (.slice (some ⟨W.heap.size + 1, 0, none⟩) 1 1) [(0, 0, 0)]]) (g := W.heap.size) (n := 1) (a := zdv) hx3 ⟨e, q, n, c⟩
    have h8 := Sc.setC (A := [rG kC (.slice (some ⟨b7, 0, none⟩) 1 1) [(l, x, y)], row, rG kD (.slice (some ⟨b6, 0, none⟩) 1 1) [⟨e, q, n, c⟩]]) (g := W.heap.size + 1) (c := 1) (a := (0, 0, 0)) h7 l x y
    refine bodyPost_ret (v := .tuple #[.agg #[.int .i64 e, .slice q n c], .agg #[.int .i64 l, .int .i64 x, .int .i64 y], .int .i64 s]) (by simp [results, Try.results12, go_sem, z0, z1, u0, u1, u2]) rfl ⟨e, q, n, c, L, row, l, x, y, s, rfl, hD, h8.sg.sub (.cons _ (.cons_cons _ (.cons _ (.cons _ (.cons _ (List.Sublist.refl _))))))⟩
/-- Spots in memory. -/
def kSp : Kd (Int × Int) := ⟨37, 2, fun a => [.int .i64 a.1, .int .i64 a.2], fun _ => rfl⟩
theorem Sc.setP {w W : World} {C : Cu} {A Bs : List Rw} {g c : Nat} {a : Int × Int} (h : Sc w W C (A ++ rG kSp (.slice (some ⟨g, 0, none⟩) 1 c) [a] :: Bs)) (x y : Int) :
    Sc w ((W.setCell ⟨g, 0, none⟩ (.int .i64 x)).setCell ⟨g, 1, none⟩ (.int .i64 y)) C (A ++ rG kSp (.slice (some ⟨g, 0, none⟩) 1 c) [(x, y)] :: Bs) := by
  have h1 := Sc.raw h (L' := [(x, a.2)]) 0 (.int .i64 x) (Sg.setRaw h.sg 0 (.int .i64 x))
  exact Sc.raw h1 (L' := [(x, y)]) 1 (.int .i64 y) (Sg.setRaw h1.sg 1 (.int .i64 y))
theorem p2f {w W : World} {rs : List Rw} (h : Sg w W rs) {g n : Nat} {a : Int × Int} (hm : rG kSp (.slice (some ⟨g, 0, none⟩) 1 n) [a] ∈ rs) :
    W.cell? ⟨g, 0, none⟩ = some (.int .i64 a.1) ∧ W.cell? ⟨g, 1, none⟩ = some (.int .i64 a.2) ∧ (∀ o, W.frozen? ⟨g, o, none⟩ = false) ∧ g < W.heap.size := by
  have ho := h.mem hm
  have hC := OwG.cs ho
  have f := fun i u hu => hC.at (k := 0) (a := a) rfl (i := i) (u := u) hu
  simp only [Nat.zero_mul, Nat.zero_add] at f
  exact ⟨f 0 _ rfl, f 1 _ rfl, OwG.fz ho, hC.1⟩
/-- What the draw of ShardOf gives. -/
def DrO (w w' : World) (rs : List Rw) (ee : Ending) : Prop := ∃ (e : Int) (q : Option Addr) (n c : Nat) (L : List On) (row : Rw) (x y : Int), ee = .returned (.tuple #[Dv.v ⟨e, q, n, c⟩, .agg #[.int .i64 x, .int .i64 y]]) ∧ DrD q n c L row ∧ Sg w w' (row :: rs)
set_option maxRecDepth 100000 in
set_option maxHeartbeats 4000000 in
theorem drawShardOf_any {w W : World} {rs : List Rw} {a : Option Addr} {len cap : Nat} {zs : List Int} {g : Nat} (hS : Sg w W rs) (hl : len ≤ 4096) (hr : Rd w g a len zs) :
    Calls Try.prog 14 #[.slice a len cap] W fun ee w' => DrO w w' rs ee := by
  have h2 := (hS.lit kD [zdv] 1 rfl (by decide) #[.int .i64 0, .slice none 0 0] rfl).lit kSp [(0, 0)] 1 rfl (by decide) #[.int .i64 0, .int .i64 0] rfl
  simp only [World.size_alloc] at h2
  replace h2 : Sg w ((W.alloc (.cells #[.int .i64 0, .slice none 0 0] 26)).alloc (.cells #[.int .i64 0, .int .i64 0] 37)) (rG kSp (.slice (some ⟨W.heap.size + 1, 0, none⟩) 1 1) [(0, 0)] :: rG kD (.slice (some ⟨W.heap.size, 0, none⟩) 1 1) [zdv] :: rs) := h2
  have HN := Lib.hid (fun W' rs' (h : Sg w W' rs') => newC (cap := cap) h hl hr)
  clear hS hl hr
  go_enter Try.func14, Try.ntmps14
  go_upto_region 3 with (first
    | (go_at_call 35; refine (HN.out _ _ h2).mono ?_; rintro ee w1 ⟨C, rfl, hx⟩)
    | (go_at_call 36; refine (dirC hx).mono ?_; rintro ee w2 ⟨e, q, n, c, L, row, rfl, hD, hx2⟩; clear hx))
  clear h2 HN
  have hgw : W.heap.size + 1 < w2.heap.size := (p2f hx2.sg (g := W.heap.size + 1) (n := 1) (a := (0, 0)) (by simp)).2.2.2
  have hr := (Sc.litD hx2 ⟨e, q, n, c⟩).perm (List.Perm.swap _ _ _)
  clear hx2
  have ne1 : ¬ w2.heap.size = W.heap.size := by omega
  have ne2 : ¬ w2.heap.size = W.heap.size + 1 := by omega
  have ne3 : ¬ W.heap.size = w2.heap.size := by omega
  have ne4 : ¬ W.heap.size + 1 = w2.heap.size := by omega
  generalize w2.heap.size = b6 at *
  generalize w2.alloc (.cells #[.int .i64 e, .slice q n c] 26) = w3 at *
  go_upto_if 11 with (go_at_call 43; refine (onceC hr 2 (by decide) (by decide)).mono ?_; rintro ee w4 ⟨yb, rfl, hr4⟩)
  clear hr
  have hr := hr4
  clear hr4
  obtain ⟨y0, y1, yf, yg⟩ := dv2 hr.sg (K := kD) (g := b6) (n := 1) (q := ⟨e, q, n, c⟩) (by simp) rfl
  dsimp only at y0 y1
  cases yb
  · go_upto_region 5 with (fail)
    go_region_with ((go_at_call 45; refine (spotC (by first | with_reducible exact hr | with_reducible exact Sc.dr hr)).mono ?_; rintro ee w6 ⟨sx, sy, rfl, hx3⟩; clear y0 y1 yf yg; obtain ⟨y0, y1, yf, yg⟩ := dv2 hx3.sg (K := kD) (g := b6) (n := 1) (q := ⟨e, q, n, c⟩) (by simp) rfl; dsimp only at y0 y1; obtain ⟨z0, z1, zf, zg⟩ := dv2 hx3.sg (K := kD) (g := W.heap.size) (n := 1) (q := zdv) (by simp) rfl; simp only [zdv] at z0 z1; obtain ⟨u0, u1, uf, ug⟩ := p2f hx3.sg (g := W.heap.size + 1) (n := 1) (a := (0, 0)) (by simp); dsimp only at u0 u1))
    all_goals
      go_wp2
      have h7 := Sc.setD (A := [row, rG kD (.slice (some ⟨b6, 0, none⟩) 1 1) [⟨e, q, n, c⟩], rG kSp (.slice (some ⟨W.heap.size + 1, 0, none⟩) 1 1) [(0, 0)]]) (g := W.heap.size) (n := 1) (a := zdv) hx3 ⟨e, q, n, c⟩
      have h8 := Sc.setP (A := [row, rG kD (.slice (some ⟨b6, 0, none⟩) 1 1) [⟨e, q, n, c⟩]]) (g := W.heap.size + 1) (c := 1) (a := (0, 0)) h7 sx sy
      refine bodyPost_ret (v := .tuple #[.agg #[.int .i64 e, .slice q n c], .agg #[.int .i64 sx, .int .i64 sy]]) (by simp [results, Try.results14, go_sem, z0, z1, u0, u1]) rfl ⟨e, q, n, c, L, row, sx, sy, rfl, hD, h8.sg.sub (.cons_cons _ (.cons _ (.cons _ (.cons _ (List.Sublist.refl _)))))⟩
  · have f1 : True := trivial
    go_upto_region 4 with (fail)
    go_region_with (first
      | (go_at_call 44; clear f1; refine (belowC (by first | with_reducible exact hr | with_reducible exact Sc.dr hr) 256 (by decide) (by decide)).mono ?_; rintro ee w5 ⟨sx, rfl, sx0, sx1, hx5⟩; have f2 : True := trivial; clear y0 y1 yf yg; obtain ⟨y0, y1, yf, yg⟩ := dv2 hx5.sg (K := kD) (g := b6) (n := 1) (q := ⟨e, q, n, c⟩) (by simp) rfl; dsimp only at y0 y1)
      | (go_at_call 44; clear f2; refine (belowC hx5 256 (by decide) (by decide)).mono ?_; rintro ee w6 ⟨sy, rfl, sy0, sy1, hx3⟩; clear y0 y1 yf yg; obtain ⟨y0, y1, yf, yg⟩ := dv2 hx3.sg (K := kD) (g := b6) (n := 1) (q := ⟨e, q, n, c⟩) (by simp) rfl; dsimp only at y0 y1; obtain ⟨z0, z1, zf, zg⟩ := dv2 hx3.sg (K := kD) (g := W.heap.size) (n := 1) (q := zdv) (by simp) rfl; simp only [zdv] at z0 z1; obtain ⟨u0, u1, uf, ug⟩ := p2f hx3.sg (g := W.heap.size + 1) (n := 1) (a := (0, 0)) (by simp); dsimp only at u0 u1))
    all_goals
      go_wp2
      have h7 := Sc.setD (A := [row, rG kD (.slice (some ⟨b6, 0, none⟩) 1 1) [⟨e, q, n, c⟩], rG kSp (.slice (some ⟨W.heap.size + 1, 0, none⟩) 1 1) [(0, 0)]]) (g := W.heap.size) (n := 1) (a := zdv) hx3 ⟨e, q, n, c⟩
      have h8 := Sc.setP (A := [row, rG kD (.slice (some ⟨b6, 0, none⟩) 1 1) [⟨e, q, n, c⟩]]) (g := W.heap.size + 1) (c := 1) (a := (0, 0)) h7 sx sy
      refine bodyPost_ret (v := .tuple #[.agg #[.int .i64 e, .slice q n c], .agg #[.int .i64 sx, .int .i64 sy]]) (by simp [results, Try.results14, go_sem, z0, z1, u0, u1]) rfl ⟨e, q, n, c, L, row, sx, sy, rfl, hD, h8.sg.sub (.cons_cons _ (.cons _ (.cons _ (.cons _ (List.Sublist.refl _)))))⟩
end Go.Proofs.Ytamnmakegdnblaa.K.D
