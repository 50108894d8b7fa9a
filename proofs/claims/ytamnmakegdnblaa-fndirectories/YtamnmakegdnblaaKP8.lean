/-
  Split, Given and NewDirectory: the program's.
-/
import Derived.Test.YtamnmakegdnblaaKP7
import Derived.Test.YtamnmakegdnblaaKD9
namespace Go.Proofs.Ytamnmakegdnblaa.K.D
open Go.Shelf Go.RowKit Go.Joins
attribute [local go_sem] Oper.semAt_some

set_option maxRecDepth 100000 in
set_option maxHeartbeats 1000000 in
theorem iSplit_any (e : Int) (p : Option Addr) (n c : Nat) (L : List On) (hn : L.length = n) (l x y : Int) (w : World) (hL : SlG kO w p L) (hnc : n ≤ c) (ho : okv ⟨p, n, c⟩) (hb0 : n ≤ 10000000) :
    Calls Try.prog 11 #[Dv.v ⟨e, p, n, c⟩, .agg #[.int .i64 l, .int .i64 x, .int .i64 y]] w fun ee w' => ∃ q m c', ee = .returned (.tuple #[Dv.v ⟨splE e L l x y, q, m, c'⟩, .bool (splB e L l x y)]) ∧ Sg w w' [rG kO (.slice q m c') (splL e L l x y)] := by
  have hx := (((Sg.nil w).lit kD [⟨e, p, n, c⟩] 1 rfl (by decide) #[.int .i64 e, .slice p n c] rfl).lit kC [(l, x, y)] 1 rfl (by decide) #[.int .i64 l, .int .i64 x, .int .i64 y] rfl).lit kD [zdv] 1 rfl (by decide) #[.int .i64 0, .slice none 0 0] rfl
  simp only [World.size_alloc] at hx
  replace hx : Sg w (((w.alloc (.cells #[.int .i64 e, .slice p n c] 26)).alloc (.cells #[.int .i64 l, .int .i64 x, .int .i64 y] 28)).alloc (.cells #[.int .i64 0, .slice none 0 0] 26)) [rG kD (.slice (some ⟨w.heap.size + 1 + 1, 0, none⟩) 1 1) [zdv], rG kC (.slice (some ⟨w.heap.size + 1, 0, none⟩) 1 1) [(l, x, y)], rG kD (.slice (some ⟨w.heap.size, 0, none⟩) 1 1) [⟨e, p, n, c⟩]] := hx
  rw [← split_ch, ← split_chE, ← split_chL]
  have HCh : Hid (∀ W, Sg w W [rG kD (.slice (some ⟨w.heap.size + 1 + 1, 0, none⟩) 1 1) [zdv], rG kC (.slice (some ⟨w.heap.size + 1, 0, none⟩) 1 1) [(l, x, y)], rG kD (.slice (some ⟨w.heap.size, 0, none⟩) 1 1) [⟨e, p, n, c⟩]] → Calls Try.prog 38 #[Dv.v ⟨e, p, n, c⟩, .agg #[.int .i64 l, .int .i64 x, .int .i64 y], .func (.func 39) #[] #[]] W fun ee w' => Chd W w' ee (chB splitO e L l x y) (chE splitO e L l x y) (chL splitO e L l x y)) := fun W hW => changed_split e p n c L hn l x y  W (hL.step hW.bel) hnc ho hb0 (fun o X ho hX => split_any o ho X)
  generalize chB splitO e L l x y = b at *
  generalize chE splitO e L l x y = e2 at *
  generalize chL splitO e L l x y = L2 at *
  clear hn hL hnc ho hb0
  go_enter Try.func11, Try.ntmps11
  go_wp2_with (go_at_call 38; refine (HCh.out _ hx).mono ?_; rintro ee w1 ⟨q, m, c', rfl, hS⟩; replace hx := hx.addL hS; obtain ⟨z0, z1, zf, zg⟩ := dv2 hx (K := kD) (g := w.heap.size + 1 + 1) (n := 1) (q := zdv) (by simp) rfl; simp only [zdv] at z0 z1)
  have hx9 := Sg.setD (A := [rG kO (.slice q m c') L2]) (g := w.heap.size + 1 + 1) (n := 1) (a := zdv) hx ⟨e2, q, m, c'⟩
  refine bodyPost_ret (v := .tuple #[.agg #[.int .i64 e2, .slice q m c'], .bool b]) (by simp [results, Try.results11, go_sem, z0, z1]) rfl ⟨q, m, c', rfl, ?_⟩
  exact hx9.sub (by simp)
set_option maxRecDepth 100000 in
set_option maxHeartbeats 1000000 in
theorem iGiven_any (e : Int) (p : Option Addr) (n c : Nat) (L : List On) (hn : L.length = n) (l x y : Int) (s : Int) (w : World) (hL : SlG kO w p L) (hnc : n ≤ c) (ho : okv ⟨p, n, c⟩) (hb0 : n ≤ 10000000) :
    Calls Try.prog 13 #[Dv.v ⟨e, p, n, c⟩, .agg #[.int .i64 l, .int .i64 x, .int .i64 y], .int .i64 s] w fun ee w' => ∃ q m c', ee = .returned (.tuple #[Dv.v ⟨givE e L l x y s, q, m, c'⟩, .bool (givB e L l x y s)]) ∧ Sg w w' [rG kO (.slice q m c') (givL e L l x y s)] := by
  have hx := ((((Sg.nil w).lit kD [⟨e, p, n, c⟩] 1 rfl (by decide) #[.int .i64 e, .slice p n c] rfl).lit kC [(l, x, y)] 1 rfl (by decide) #[.int .i64 l, .int .i64 x, .int .i64 y] rfl).lit kI [s] 1 rfl (by decide) #[.int .i64 s] rfl).lit kD [zdv] 1 rfl (by decide) #[.int .i64 0, .slice none 0 0] rfl
  simp only [World.size_alloc] at hx
  replace hx : Sg w ((((w.alloc (.cells #[.int .i64 e, .slice p n c] 26)).alloc (.cells #[.int .i64 l, .int .i64 x, .int .i64 y] 28)).alloc (.cells #[.int .i64 s] 2)).alloc (.cells #[.int .i64 0, .slice none 0 0] 26)) [rG kD (.slice (some ⟨w.heap.size + 1 + 1 + 1, 0, none⟩) 1 1) [zdv], rG kI (.slice (some ⟨w.heap.size + 1 + 1, 0, none⟩) 1 1) [s], rG kC (.slice (some ⟨w.heap.size + 1, 0, none⟩) 1 1) [(l, x, y)], rG kD (.slice (some ⟨w.heap.size, 0, none⟩) 1 1) [⟨e, p, n, c⟩]] := hx
  rw [← given_ch, ← given_chE, ← given_chL]
  have HCh : Hid (∀ W, Sg w W [rG kD (.slice (some ⟨w.heap.size + 1 + 1 + 1, 0, none⟩) 1 1) [zdv], rG kI (.slice (some ⟨w.heap.size + 1 + 1, 0, none⟩) 1 1) [s], rG kC (.slice (some ⟨w.heap.size + 1, 0, none⟩) 1 1) [(l, x, y)], rG kD (.slice (some ⟨w.heap.size, 0, none⟩) 1 1) [⟨e, p, n, c⟩]] → Calls Try.prog 38 #[Dv.v ⟨e, p, n, c⟩, .agg #[.int .i64 l, .int .i64 x, .int .i64 y], .func (.func 41) #[] #[.pointer (some ⟨w.heap.size + 1 + 1, 0, none⟩)]] W fun ee w' => Chd W w' ee (chB (givenO s) e L l x y) (chE (givenO s) e L l x y) (chL (givenO s) e L l x y)) := fun W hW => changed_given e p n c L hn l x y s (w.heap.size + 1 + 1) W (hL.step hW.bel) hnc ho hb0 (fun o X ho hX => given1_any o s (w.heap.size + 1 + 1) X ((hX.cell (by have := (OwG.cs (hW.mem (K := kI) (v := .slice (some ⟨w.heap.size + 1 + 1, 0, none⟩) 1 1) (L := [s]) (by simp))).1; exact this)).trans (CsG.int (k := 0) (OwG.cs (hW.mem (K := kI) (v := .slice (some ⟨w.heap.size + 1 + 1, 0, none⟩) 1 1) (L := [s]) (by simp))) rfl)) (Nat.lt_of_lt_of_le (OwG.cs (hW.mem (K := kI) (v := .slice (some ⟨w.heap.size + 1 + 1, 0, none⟩) 1 1) (L := [s]) (by simp))).1 hX.size))
  generalize chB (givenO s) e L l x y = b at *
  generalize chE (givenO s) e L l x y = e2 at *
  generalize chL (givenO s) e L l x y = L2 at *
  clear hn hL hnc ho hb0
  go_enter Try.func13, Try.ntmps13
  go_wp2_with (go_at_call 38; refine (HCh.out _ hx).mono ?_; rintro ee w1 ⟨q, m, c', rfl, hS⟩; replace hx := hx.addL hS; obtain ⟨z0, z1, zf, zg⟩ := dv2 hx (K := kD) (g := w.heap.size + 1 + 1 + 1) (n := 1) (q := zdv) (by simp) rfl; simp only [zdv] at z0 z1)
  have hx9 := Sg.setD (A := [rG kO (.slice q m c') L2]) (g := w.heap.size + 1 + 1 + 1) (n := 1) (a := zdv) hx ⟨e2, q, m, c'⟩
  refine bodyPost_ret (v := .tuple #[.agg #[.int .i64 e2, .slice q m c'], .bool b]) (by simp [results, Try.results13, go_sem, z0, z1]) rfl ⟨q, m, c', rfl, ?_⟩
  exact hx9.sub (by simp)
set_option maxHeartbeats 1000000 in
theorem iNewDirectory_any (w : World) :
    Calls Try.prog 21 #[] w fun ee w' => ∃ g, ee = .returned (Dv.v ⟨1, some ⟨g, 0, none⟩, 1, 1⟩) ∧ Sg w w' [rG kO (.slice (some ⟨g, 0, none⟩) 1 1) [zon]] := by
  have hx := ((Sg.nil w).lit kD [⟨1, some ⟨w.heap.size + 1, 0, none⟩, 1, 1⟩] 1 rfl (by decide) #[.int .i64 1, .slice (some ⟨w.heap.size + 1, 0, none⟩) 1 1] rfl).lit kO [zon] 1 rfl (by decide) #[.int .i64 0, .int .i64 0, .int .i64 0, .int .i64 0] rfl
  simp only [World.size_alloc] at hx
  go_enter Try.func21, Try.ntmps21
  go_wp2
  refine bodyPost_ret (v := .agg #[.int .i64 1, .slice (some ⟨w.heap.size + 1, 0, none⟩) 1 1]) (by simp [results, Try.results21, go_sem]) rfl ⟨w.heap.size + 1, rfl, ?_⟩
  exact hx.sub (List.Sublist.cons_cons _ (List.nil_sublist _))
end Go.Proofs.Ytamnmakegdnblaa.K.D
