/-
  A Cell drawn of a Directory; the draws of Split, Given and ShardOf.
-/
import Derived.Test.YtamnmakegdnblaaKDD
namespace Go.Proofs.Ytamnmakegdnblaa.K.D
open Go.Shelf Go.RowKit Go.Joins
attribute [local go_sem] Oper.semAt_some

theorem Sc.setC {w W : World} {C : Cu} {A Bs : List Rw} {g c : Nat} {a : Int × Int × Int} (h : Sc w W C (A ++ rG kC (.slice (some ⟨g, 0, none⟩) 1 c) [a] :: Bs)) (l x y : Int) :
    Sc w (((W.setCell ⟨g, 0, none⟩ (.int .i64 l)).setCell ⟨g, 1, none⟩ (.int .i64 x)).setCell ⟨g, 2, none⟩ (.int .i64 y)) C (A ++ rG kC (.slice (some ⟨g, 0, none⟩) 1 c) [(l, x, y)] :: Bs) := by
  have h1 := Sc.raw h (L' := [(l, a.2.1, a.2.2)]) 0 (.int .i64 l) (Sg.setRaw h.sg 0 (.int .i64 l))
  have h2 := Sc.raw h1 (L' := [(l, x, a.2.2)]) 1 (.int .i64 x) (Sg.setRaw h1.sg 1 (.int .i64 x))
  exact Sc.raw h2 (L' := [(l, x, y)]) 2 (.int .i64 y) (Sg.setRaw h2.sg 2 (.int .i64 y))
theorem Sc.litC {w W : World} {C : Cu} {rs : List Rw} (h : Sc w W C rs) (l x y : Int) : Sc w (W.alloc (.cells #[.int .i64 l, .int .i64 x, .int .i64 y] 28)) C (rG kC (.slice (some ⟨W.heap.size, 0, none⟩) 1 1) [(l, x, y)] :: rs) := h.lit kC [(l, x, y)] 1 rfl (by decide) #[.int .i64 l, .int .i64 x, .int .i64 y] rfl
theorem c3f {w W : World} {rs : List Rw} (h : Sg w W rs) {g n : Nat} {a : Int × Int × Int} (hm : rG kC (.slice (some ⟨g, 0, none⟩) 1 n) [a] ∈ rs) :
    W.cell? ⟨g, 0, none⟩ = some (.int .i64 a.1) ∧ W.cell? ⟨g, 1, none⟩ = some (.int .i64 a.2.1) ∧ W.cell? ⟨g, 2, none⟩ = some (.int .i64 a.2.2) ∧ (∀ o, W.frozen? ⟨g, o, none⟩ = false) ∧ g < W.heap.size := by
  obtain ⟨c0, c1, c2⟩ := c3 h hm
  exact ⟨c0, c1, c2, OwG.fz (h.mem hm), (OwG.cs (h.mem hm)).1⟩
set_option maxRecDepth 100000 in
set_option maxHeartbeats 4000000 in
theorem dcellC {w W : World} {C : Cu} {rs : List Rw} {e : Int} {q : Option Addr} {n c : Nat} {L : List On} {row : Rw} (h : Sc w W C (row :: rs)) (hd : DrD q n c L row) :
    Calls Try.prog 37 #[.pointer (some ⟨C.g, 0, none⟩), Dv.v ⟨e, q, n, c⟩] W fun ee w' => ∃ l x y : Int, ee = .returned (.agg #[.int .i64 l, .int .i64 x, .int .i64 y]) ∧ Sc w w' C (row :: rs) := by
  have hx := Sc.litC (Sc.litD h ⟨e, q, n, c⟩) 0 0 0
  simp only [World.size_alloc] at hx
  replace hx : Sc w ((W.alloc (.cells #[.int .i64 e, .slice q n c] 26)).alloc (.cells #[.int .i64 0, .int .i64 0, .int .i64 0] 28)) C (rG kC (.slice (some ⟨W.heap.size + 1, 0, none⟩) 1 1) [(0, 0, 0)] :: rG kD (.slice (some ⟨W.heap.size, 0, none⟩) 1 1) [⟨e, q, n, c⟩] :: row :: rs) := hx
  generalize hb3 : W.heap.size = b3 at hx
  have hlen := hd.len
  have h64 := hd.n64
  have HRd := Lib.hid hd.rd
  have HN : Hid (L.length = n) := hd.len
  have FIN : ∀ (X : World) (l x y : Int), Sc w X C (rG kC (.slice (some ⟨b3 + 1, 0, none⟩) 1 1) [(0, 0, 0)] :: rG kD (.slice (some ⟨b3, 0, none⟩) 1 1) [⟨e, q, n, c⟩] :: row :: rs) → Sc w (((X.setCell ⟨b3 + 1, 0, none⟩ (.int .i64 l)).setCell ⟨b3 + 1, 1, none⟩ (.int .i64 x)).setCell ⟨b3 + 1, 2, none⟩ (.int .i64 y)) C (row :: rs) := fun X l x y hX => (Sc.setC (A := []) hX l x y).sub (.cons _ (.cons _ (List.Sublist.refl _)))
  have HF := Lib.hid FIN
  clear FIN hlen h hd
  subst hb3
  by_cases h0 : 0 < n
  · have hni : (0 : Int) < n := by omega
    have hn1 : (1 : Int) ≤ n := by omega
    have hn2 : (n : Int) ≤ 256 := by omega
    obtain ⟨g, off, rfl, _⟩ := (HRd.out _ _ _ hx.sg (by simp)).at (k := 0) (by rw [HN.out]; exact h0)
    have HS : Hid (∀ w' rs', Sg w w' rs' → rG kD (.slice (some ⟨W.heap.size, 0, none⟩) 1 1) [⟨e, some ⟨g, off, none⟩, n, c⟩] ∈ rs' → row ∈ rs' → ((w'.cell? ⟨W.heap.size, 0, none⟩ = some (.int .i64 e) ∧ w'.cell? ⟨W.heap.size, 1, none⟩ = some (.slice (some ⟨g, off, none⟩) n c)) ∧ (∀ j, j < n → (w'.cell? ⟨g, off + j * 4, none⟩ = some (.int .i64 (L.getD j zon).l) ∧ w'.cell? ⟨g, off + j * 4 + 1, none⟩ = some (.int .i64 (L.getD j zon).x) ∧ w'.cell? ⟨g, off + j * 4 + 2, none⟩ = some (.int .i64 (L.getD j zon).y))))) := fun w' rs' h m1 m2 => by
      obtain ⟨y0, y1, _, _⟩ := dv2 h (K := kD) (g := W.heap.size) (n := 1) (q := ⟨e, some ⟨g, off, none⟩, n, c⟩) m1 rfl
      refine ⟨⟨y0, y1⟩, fun j hj => ?_⟩
      obtain ⟨g', off', e', hC⟩ := (HRd.out _ _ _ h m2).at (k := j) (by rw [HN.out]; exact hj)
      injection e' with e'
      injection e' with e1 e2
      subst e1 e2
      obtain ⟨c0, c1, c2, _⟩ := CsG.o4 hC (getO (show j < L.length by rw [HN.out]; exact hj))
      exact ⟨c0, c1, c2⟩
    obtain ⟨⟨y0, y1⟩, _⟩ := HS.out _ _ hx.sg (by simp) (by simp)
    go_enter Try.func37, Try.ntmps37
    go_upto_if 15 with (go_at_call 43; refine (onceC hx 5 (by decide) (by decide)).mono ?_; rintro ee w5 ⟨yb, rfl, hx5⟩)
    clear hx y0 y1
    cases yb
    · go_upto_region 3 with (fail)
      have hr := hx5
      clear hx5
      go_region_held3 (fun w' => ((w'.cell? ⟨W.heap.size, 0, none⟩ = some (.int .i64 e) ∧ w'.cell? ⟨W.heap.size, 1, none⟩ = some (.slice (some ⟨g, off, none⟩) n c)) ∧ (∀ j, j < n → (w'.cell? ⟨g, off + j * 4, none⟩ = some (.int .i64 (L.getD j zon).l) ∧ w'.cell? ⟨g, off + j * 4 + 1, none⟩ = some (.int .i64 (L.getD j zon).x) ∧ w'.cell? ⟨g, off + j * 4 + 2, none⟩ = some (.int .i64 (L.getD j zon).y)))))
        (first
          | assumption
          | with_reducible exact HS.out _ _ hr.sg (by simp) (by simp)
          | with_reducible exact HS.out _ _ (Sc.dr hr).sg (by simp) (by simp)
          | with_reducible exact HS.out _ _ h7.sg (by simp) (by simp))
        (first | (go_at_call 44; refine (belowC (by first | with_reducible exact hr | with_reducible exact Sc.dr hr) n hn1 hn2).mono ?_; rintro ee w4 ⟨z, rfl, hz0, hz1, hx4⟩; obtain ⟨j, rfl⟩ := Int.eq_ofNat_of_zero_le hz0; have hj : j < n := (by omega); clear hr; have hr := hx4; obtain ⟨u0, u1, u2, uf, ug⟩ := c3f hr.sg (g := W.heap.size + 1) (n := 1) (a := (0, 0, 0)) (List.mem_cons_self ..); dsimp only at u0 u1 u2; have h7 := Sc.setC (A := []) hr (L[j]?.getD zon).l (L[j]?.getD zon).x (L[j]?.getD zon).y))
      go_wp2
      refine bodyPost_ret (v := .agg #[.int .i64 (L[j]?.getD zon).l, .int .i64 (L[j]?.getD zon).x, .int .i64 (L[j]?.getD zon).y]) (by simp [results, Try.results37, go_sem, u0, u1, u2]) rfl ⟨_, _, _, rfl, HF.out _ _ _ _ hx4⟩
    · go_wp2_with (go_at_call 73; refine (cellC hx5).mono ?_; rintro ee w6 ⟨cl, cx, cy, rfl, hx6⟩; obtain ⟨u0, u1, u2, uf, ug⟩ := c3f hx6.sg (g := W.heap.size + 1) (n := 1) (a := (0, 0, 0)) (List.mem_cons_self ..); dsimp only at u0 u1 u2)
      refine bodyPost_ret (v := .agg #[.int .i64 cl, .int .i64 cx, .int .i64 cy]) (by simp [results, Try.results37, go_sem, u0, u1, u2]) rfl ⟨_, _, _, rfl, HF.out _ _ _ _ hx6⟩
  · obtain rfl : n = 0 := by omega
    obtain ⟨y0, y1, _, _⟩ := dv2 hx.sg (K := kD) (g := W.heap.size) (n := 1) (q := ⟨e, q, 0, c⟩) (by simp) rfl
    dsimp only at y0 y1
    go_enter Try.func37, Try.ntmps37
    go_wp2_with (go_at_call 73; refine (cellC hx).mono ?_; rintro ee w6 ⟨cl, cx, cy, rfl, hx6⟩; obtain ⟨u0, u1, u2, uf, ug⟩ := c3f hx6.sg (g := W.heap.size + 1) (n := 1) (a := (0, 0, 0)) (List.mem_cons_self ..); dsimp only at u0 u1 u2)
    refine bodyPost_ret (v := .agg #[.int .i64 cl, .int .i64 cx, .int .i64 cy]) (by simp [results, Try.results37, go_sem, u0, u1, u2]) rfl ⟨_, _, _, rfl, HF.out _ _ _ _ hx6⟩
end Go.Proofs.Ytamnmakegdnblaa.K.D
