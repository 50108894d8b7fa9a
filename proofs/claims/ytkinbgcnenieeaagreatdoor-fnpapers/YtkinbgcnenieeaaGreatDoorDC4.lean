/-
  Draws: what the laws draw of Papers.
-/
import Derived.Test.YtkinbgcnenieeaaGreatDoorDC3
namespace Go.Proofs.YtkinbgcnenieeaaGreatDoor
open Go.RowKit Go.Joins M
attribute [local go_sem] Oper.semAt_some

theorem Sc.start {w W : World} {rs : List Rw} {a : Option Addr} {len cap : Nat} {zs : List Int} {g : Nat} {h : Int} (hS : Sg w W rs) (hl : len ≤ 4096) (hr : Rd w g a len zs) : Sc w (W.alloc (.cells #[.slice a len cap, .int .i64 0, .int .i64 h] 79)) ⟨W.heap.size, a, len, cap, zs⟩ rs :=
  ⟨hS.al _, Cur.fresh hl (hr.up hS.bel hS.bel.size), hS.bel.size, fun r hr' e => by
    have h1 := World.ownsRow.lt (hS.own r hr') _ e
    have h2 : (⟨W.heap.size, a, len, cap, zs⟩ : Cu).g = W.heap.size := rfl
    omega, hr.up (Below.refl _ _) hS.bel.size⟩
theorem newC {w W : World} {rs : List Rw} {a : Option Addr} {len cap : Nat} {zs : List Int} {g : Nat} (hS : Sg w W rs) (hl : len ≤ 4096) (hr : Rd w g a len zs) :
    Calls Tryz.prog 19 #[.slice a len cap] W fun e w' => ∃ C : Cu, e = .returned (.pointer (some ⟨C.g, 0, none⟩)) ∧ Sc w w' C rs :=
  (new_any a len cap zs W hl (hr.up hS.bel hS.bel.size)).mono fun _ _ ⟨h, h1, h2⟩ => ⟨⟨W.heap.size, a, len, cap, zs⟩, h1, by subst h2; exact Sc.start hS hl (hr.up (Below.refl _ _) (Nat.le_refl _))⟩
set_option maxRecDepth 100000 in
set_option maxHeartbeats 2000000 in
theorem drawMinted_any (a : Option Addr) (len cap : Nat) (zs : List Int) (g : Nat) (w : World) (hl : len ≤ 4096) (hr : Rd w g a len zs) :
    Calls Tryz.prog 7 #[.slice a len cap] w fun e w' => ∃ (key tn : Int) (c : Cl) (s t : Sv), e = .returned (.tuple #[.int .i64 key, .int .i64 tn, .agg #[.slice s.p s.n s.c, .slice t.p t.n t.c, .int .i64 c.un]]) ∧ Hid (s.n ≤ 10 ∧ t.n ≤ 10) ∧ Sg w w' (clR c s t) := by
  have hS0 := (Sg.nil w).lit kQ [zq] 1 rfl (by decide) #[.slice none 0 0, .slice none 0 0, .int .i64 0] rfl
  change Sg w (w.alloc (.cells #[.slice none 0 0, .slice none 0 0, .int .i64 0] 29)) _ at hS0
  go_enter Tryz.func7, Tryz.ntmps7
  go_upto_region 3 with (first
    | (go_at_call 19; refine (newC hS0 hl hr).mono ?_; rintro e w1 ⟨C, rfl, hS1⟩)
    | (go_at_call 31; refine (keyC hS1).mono ?_; rintro e w2 ⟨key, rfl, hS2⟩))
  have hS3 := hS2.lit kI [0, 1, 7, 99, 100] 5 rfl (by decide) #[.int .i64 0, .int .i64 1, .int .i64 7, .int .i64 99, .int .i64 100] rfl
  change Sc w (w2.alloc (.cells #[.int .i64 0, .int .i64 1, .int .i64 7, .int .i64 99, .int .i64 100] 2)) _ _ at hS3
  have hw2 := hS2.cur.hg
  go_wp2_with (first
    | (go_at_call 32; refine (below_any _ _ _ _ _ 5 _ hS3.cur (by decide) (by decide)).mono ?_; rintro e w4 ⟨x4, rfl, x40, x41, ht4, hc4⟩; have hS4 := hS3.call ht4 hc4; have hcell := (ht4.cell (b := w2.heap.size) (o := x4.toNat) (by simp) (by omega)).trans (cell5_at x4 x40 x41))
    | (go_at_call 22; refine (clauseC hS4).mono ?_; rintro e w5 ⟨c, s, t, rfl, hb5, hS5⟩; obtain ⟨z0, z1, z2, zf, zg⟩ := hS5.sg.three (K := kQ) (g := w.heap.size) (n := 1) (p := zq) (by simp) rfl))
  have hS6 := Sc.setQ (A := clR c s t ++ [rG kI (.slice (some ⟨w2.heap.size, 0, none⟩) 5 5) [0, 1, 7, 99, 100]]) (by simpa [List.append_assoc] using hS5) c s t
  obtain ⟨u0, u1, u2, uf, ug⟩ := hS6.sg.three (K := kQ) (g := w.heap.size) (n := 1) (p := (c, s, t)) (by simp) rfl
  refine bodyPost_ret (v := .tuple #[.int .i64 key, .int .i64 (sel x4 [0, 1, 7, 99, 100]), .agg #[.slice s.p s.n s.c, .slice t.p t.n t.c, .int .i64 c.un]]) (by simp [results, Tryz.results7, go_sem, u0, u1, u2]) rfl ⟨key, _, c, s, t, rfl, hb5, ?_⟩
  exact hS6.sg.sub (by rw [List.append_assoc]; exact List.sublist_append_left _ _)
set_option maxRecDepth 100000 in
set_option maxHeartbeats 2000000 in
theorem drawGenuine_any (a : Option Addr) (len cap : Nat) (zs : List Int) (g : Nat) (w : World) (hl : len ≤ 4096) (hr : Rd w g a len zs) :
    Calls Tryz.prog 9 #[.slice a len cap] w fun e w' => ∃ (key tn tag : Int) (q : Option Addr) (n cp : Nat) (X : List CQ), e = .returned (.tuple #[.int .i64 key, .agg #[.int .i64 tn, .slice q n cp, .int .i64 tag]]) ∧ Hid (pOk X n) ∧ Sg w w' (trX (.slice q n cp) X []) := by
  have hS0 := (Sg.nil w).lit kP [zpv] 1 rfl (by decide) #[.int .i64 0, .slice none 0 0, .int .i64 0] rfl
  change Sg w (w.alloc (.cells #[.int .i64 0, .slice none 0 0, .int .i64 0] 26)) _ at hS0
  go_enter Tryz.func9, Tryz.ntmps9
  go_upto_if 15 with (first
    | (go_at_call 19; refine (newC hS0 hl hr).mono ?_; rintro e w1 ⟨C, rfl, hS1⟩)
    | (go_at_call 20; refine (paperC hS1).mono ?_; rintro e w2 ⟨key, tn, tag, q, n, cp, X, rfl, hX, hS2⟩; have hS3 := hS2.lit kP [⟨tn, ⟨q, n, cp⟩, tag⟩] 1 rfl (by decide) #[.int .i64 tn, .slice q n cp, .int .i64 tag] rfl; change Sc w (w2.alloc (.cells #[.int .i64 tn, .slice q n cp, .int .i64 tag] 26)) _ _ at hS3)
    | (go_at_call 21; refine (onceC hS3 5 (by decide) (by decide)).mono ?_; rintro e w4 ⟨b4, rfl, hS4⟩))
  clear hS0 hS1 hS2 hS3
  generalize w2.heap.size = b6 at *
  go_cut [5] from 7 (fun v5 wx => ∃ key' : Int, v5 = .int .i64 key' ∧ Sc w wx C (rG kP (.slice (some ⟨b6, 0, none⟩) 1 1) [⟨tn, ⟨q, n, cp⟩, tag⟩] :: (trX (.slice q n cp) X [] ++ [rG kP (.slice (some ⟨w.heap.size, 0, none⟩) 1 1) [zpv]])))
  case first =>
    cases b4
    all_goals
      go_wp2
      go_meet
      exact ⟨_, rfl, hS4⟩
  case rest =>
    clear hS4
    obtain ⟨key', rfl, hS5⟩ := hcut
    obtain ⟨y0, y1, y2, yf, yg⟩ := hS5.sg.three (K := kP) (g := b6) (n := 1) (p := ⟨tn, ⟨q, n, cp⟩, tag⟩) (by simp) rfl
    obtain ⟨z0, z1, z2, zf, zg⟩ := hS5.sg.three (K := kP) (g := w.heap.size) (n := 1) (p := zpv) (by simp) rfl
    have hS6 := Sc.setP (A := rG kP (.slice (some ⟨b6, 0, none⟩) 1 1) [⟨tn, ⟨q, n, cp⟩, tag⟩] :: trX (.slice q n cp) X []) (g := w.heap.size) (n := 1) hS5 ⟨tn, ⟨q, n, cp⟩, tag⟩
    have hS7 := hS6.dr
    obtain ⟨u0, u1, u2, uf, ug⟩ := hS6.sg.three (K := kP) (g := w.heap.size) (n := 1) (p := ⟨tn, ⟨q, n, cp⟩, tag⟩) (by simp) rfl
    go_wp2
    go_region_with fail
    all_goals
      go_wp2
      refine bodyPost_ret (v := .tuple #[.int .i64 key', .agg #[.int .i64 tn, .slice q n cp, .int .i64 tag]]) (by simp [results, Tryz.results9, go_sem, u0, u1, u2]) rfl ⟨key', tn, tag, q, n, cp, X, rfl, hX, ?_⟩
      first
        | exact hS6.sg.sub (.cons _ (List.sublist_append_left _ _))
        | exact hS7.sg.sub (.cons _ (List.sublist_append_left _ _))
end Go.Proofs.YtkinbgcnenieeaaGreatDoor
