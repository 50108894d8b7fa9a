/-
  Votes put in an array; Repeat; all yes; a Deal's standing, whether it is right.
-/
import Derived.Test.YtobbankkfplooaaGreatKP1
import Derived.Laws.BitsAll
import Derived.Laws.Shifts
import Derived.Deep.RegionWith
import Derived.Deep.RegionHeld3
namespace Go.Proofs.YtobbankkfplooaaGreat.K.G
open Go.Shelf Go.RowKit Go.Joins Y
attribute [local go_sem] Oper.semAt_some

theorem copy_q4 {w W : World} {rs : List Rw} {g n c : Nat} {V : List Int} {p : Option Addr} (hS : Sg w W (rG kV (.slice (some ⟨g, 0, none⟩) 1 1) [q0] :: rs)) (hL : SlG kI W p V) (hn : V.length = n) (h4 : n ≤ 4) :
    ∃ W', (∀ ty, (Builtin.copy_ #[25, 25] ty #[.slice (some ⟨g, 0, none⟩) 4 4, .slice p n c]).run Tryz.prog W = .ok (goInt n) W') ∧ Sg w W' (rG kV (.slice (some ⟨g, 0, none⟩) 1 1) [q4 V] :: rs) := by
  obtain ⟨c0, c1, c2, c3, cf, cg⟩ := v4 hS (g := g) (n := 1) (q := q0) (List.mem_cons_self ..)
  obtain ⟨W', hcp, hS3⟩ := run_copyV (A := []) (o := 0) (d := 4) (dc := 4) (m := n) (c := c) (V := V) (p := p) hS hL (by rw [← hn]; exact Nat.min_eq_left (by omega))
    (fun j hj => by
      rcases (show j = 0 ∨ j = 1 ∨ j = 2 ∨ j = 3 by omega) with rfl | rfl | rfl | rfl
      · exact Option.isSome_iff_exists.2 ⟨_, c0⟩
      · exact Option.isSome_iff_exists.2 ⟨_, c1⟩
      · exact Option.isSome_iff_exists.2 ⟨_, c2⟩
      · exact Option.isSome_iff_exists.2 ⟨_, c3⟩) cf
  have e : setMany (kV.flat [q0]) 0 (kI.flat V) = kV.flat [q4 V] := vt_many (by omega)
  rw [hn] at hcp
  refine ⟨W', hcp, ?_⟩
  have h := hS3
  rw [show setMany _ 0 (kI.flat V) = kV.flat [q4 V] from e] at h
  exact h
theorem Sg.setV {w W : World} {A Bs : List Rw} {g n : Nat} {a : Q4} (h : Sg w W (A ++ rG kV (.slice (some ⟨g, 0, none⟩) 1 n) [a] :: Bs)) (q : Q4) : Sg w ((((W.setCell ⟨g, 0, none⟩ (.int .i64 q.a)).setCell ⟨g, 1, none⟩ (.int .i64 q.b)).setCell ⟨g, 2, none⟩ (.int .i64 q.c)).setCell ⟨g, 3, none⟩ (.int .i64 q.d)) (A ++ rG kV (.slice (some ⟨g, 0, none⟩) 1 n) [q] :: Bs) :=
  Sg.setRaw (Sg.setRaw (Sg.setRaw (Sg.setRaw h 0 (.int .i64 q.a)) 1 (.int .i64 q.b)) 2 (.int .i64 q.c)) 3 (.int .i64 q.d)
theorem Sg.setD {w W : World} {A Bs : List Rw} {g n : Nat} {a : Sd} (h : Sg w W (A ++ rG kD (.slice (some ⟨g, 0, none⟩) 1 n) [a] :: Bs)) (q : Sd) : Sg w (((((W.setCell ⟨g, 0, none⟩ (.int .i64 q.q.a)).setCell ⟨g, 1, none⟩ (.int .i64 q.q.b)).setCell ⟨g, 2, none⟩ (.int .i64 q.q.c)).setCell ⟨g, 3, none⟩ (.int .i64 q.q.d)).setCell ⟨g, 4, none⟩ (.int .i64 q.s)) (A ++ rG kD (.slice (some ⟨g, 0, none⟩) 1 n) [q] :: Bs) :=
  Sg.setRaw (Sg.setRaw (Sg.setRaw (Sg.setRaw (Sg.setRaw h 0 (.int .i64 q.q.a)) 1 (.int .i64 q.q.b)) 2 (.int .i64 q.q.c)) 3 (.int .i64 q.q.d)) 4 (.int .i64 q.s)
set_option maxHeartbeats 1000000 in
theorem votingOf_any {V : List Int} {n c : Nat} (p : Option Addr) (hn : V.length = n) (h4 : n ≤ 4) (w : World) (hL : SlG kI w p V) :
    Calls Tryz.prog 65 #[.slice p n c] w fun e w' => e = .returned (q4 V).v ∧ Below w.heap.size w w' := by
  have hS1 := (Sg.nil w).lit kV [q0] 1 rfl (by decide) #[.int .i64 0, .int .i64 0, .int .i64 0, .int .i64 0] rfl
  have hS2 := hS1.lit kV [q0] 1 rfl (by decide) #[.int .i64 0, .int .i64 0, .int .i64 0, .int .i64 0] rfl
  change Sg w ((w.alloc (.cells #[.int .i64 0, .int .i64 0, .int .i64 0, .int .i64 0] 57)).alloc (.cells #[.int .i64 0, .int .i64 0, .int .i64 0, .int .i64 0] 57)) _ at hS2
  rw [World.size_alloc] at hS2
  obtain ⟨W', hcp, hS4⟩ := copy_q4 (c := c) hS2 (hL.step hS2.bel) hn h4
  obtain ⟨a0, a1, a2, a3, af, ag⟩ := v4 hS4 (g := w.heap.size + 1) (n := 1) (q := q4 V) (List.mem_cons_self ..)
  obtain ⟨b0, b1, b2, b3, bf, bg⟩ := v4 hS4 (g := w.heap.size) (n := 1) (q := q0) (List.mem_cons_of_mem _ (List.mem_cons_self ..))
  generalize q4 V = q at a0 a1 a2 a3 hS4
  obtain ⟨x0, x1, x2, x3⟩ := q
  simp only at a0 a1 a2 a3 b0 b1 b2 b3
  clear hS2 hL hS1
  go_enter Tryz.func65, Tryz.ntmps65
  go_wp2
  have hS5 := Sg.setV (A := [rG kV (.slice (some ⟨w.heap.size + 1, 0, none⟩) 1 1) [⟨x0, x1, x2, x3⟩]]) (g := w.heap.size) (n := 1) (a := q0) hS4 ⟨x0, x1, x2, x3⟩
  refine bodyPost_ret (v := .agg #[.int .i64 x0, .int .i64 x1, .int .i64 x2, .int .i64 x3]) (by simp [results, Tryz.results65, go_sem, b0, b1, b2, b3]) rfl ⟨rfl, hS5.bel⟩
theorem and_mask : ∀ n : Nat, n ≤ 40 → bits .and .u64 (n : Int) 4294967295 = n := by
  have : ∀ n : Fin 41, bits .and .u64 ((n.val : Nat) : Int) 4294967295 = (n.val : Nat) := by decide
  intro n hn
  exact this ⟨n, by omega⟩
set_option maxHeartbeats 1000000 in
theorem mul64_one (n : Nat) (hn : n ≤ 40) (w : World) :
    Calls Tryz.prog 98 #[.int .u64 1, .int .u64 n] w fun e w' => e = .returned (.tuple #[.int .u64 0, .int .u64 n]) ∧ w' = w := by
  have e1 := and_mask n hn
  have e2 : bits .and .u64 1 4294967295 = 1 := by decide
  have e3 : (n : Int) / 4294967296 = 0 := by omega
  have e4 : bits .and .u64 0 4294967295 = 0 := by decide
  go_enter Tryz.func98, Tryz.ntmps98
  go_wp2
  exact bodyPost_ret (v := .tuple #[.int .u64 0, .int .u64 n]) (by simp [results, Tryz.results98, go_sem]) rfl ⟨rfl, rfl⟩
set_option maxHeartbeats 1000000 in
theorem mul_one (n : Nat) (hn : n ≤ 40) (w : World) :
    Calls Tryz.prog 87 #[.int .u64 1, .int .u64 n] w fun e w' => e = .returned (.tuple #[.int .u64 0, .int .u64 n]) ∧ w' = w := by
  go_enter Tryz.func87, Tryz.ntmps87
  go_wp2_with (go_at_call 98; refine (mul64_one n hn _).mono ?_; rintro e w1 ⟨rfl, rfl⟩)
  exact bodyPost_ret (v := .tuple #[.int .u64 0, .int .u64 n]) (by simp [results, Tryz.results87, go_sem]) rfl ⟨rfl, rfl⟩
theorem rowI {g n c : Nat} {L : List Int} (h : L.length = n) : rG kI (.slice (some ⟨g, 0, none⟩) n c) L = ⟨.slice (some ⟨g, 0, none⟩) n c, 2, 1, n, kI.flat L⟩ := by
  subst h; rfl
theorem rep_many {N m j : Nat} (h : m + j ≤ N) : setMany (kI.flat (List.replicate m 1 ++ List.replicate (N - m) 0)) m (kI.flat (List.replicate j 1)) = kI.flat (List.replicate (m + j) 1 ++ List.replicate (N - (m + j)) 0) := by
  have hl : ∀ L : List Int, (kI.flat L).length = L.length := fun L => by rw [Kd.flat_len]; exact Nat.mul_one _
  rw [setMany_eq _ _ _ (by simp only [hl, List.length_append, List.length_replicate]; omega)]
  simp only [flatI0, List.map_append, List.map_replicate]
  rw [List.take_left' (by simp), List.drop_append, List.drop_eq_nil_of_le (by simp), List.nil_append, List.drop_replicate, ← List.append_assoc, List.replicate_append_replicate]
  simp only [List.length_replicate]
  rw [show N - m - (m + j - m) = N - (m + j) by omega]
set_option maxRecDepth 100000 in
set_option maxHeartbeats 4000000 in
theorem repeat_any (g n : Nat) (w : World) (hg : g < w.heap.size) (hc : w.cell? ⟨g, 0, none⟩ = some (.int .i64 1)) (h1 : 1 ≤ n) (hn : n ≤ 40) :
    Calls Tryz.prog 68 #[.slice (some ⟨g, 0, none⟩) 1 1, .int .i64 n] w fun e w' => ∃ g', e = .returned (.slice (some ⟨g', 0, none⟩) n n) ∧ Sg w w' [rG kI (.slice (some ⟨g', 0, none⟩) n n) (List.replicate n 1)] := by
  obtain ⟨i0, hi, hz0, hz1, hz2⟩ := info_parts info2
  have hmk := run_make (P := Tryz.prog) w 25 2 i0 _ Tryz.underlying25 hi hz0 .i64 .i64 (n : Int) (n : Int) (by omega) (by omega) (by rw [hz2]; omega) (by omega)
  rw [hz1, Int.toNat_natCast, Nat.mul_one] at hmk
  have hrow0 := (Sg.nil w).lit kI (List.replicate n 0) n (by simp) (by omega) (madeCells #[.int .i64 0] n) (madeI0 n)
  change Sg w (w.alloc (.cells (madeCells #[.int .i64 0] n) 2)) _ at hrow0
  have hsrc : SlG kI (w.alloc (.cells (madeCells #[.int .i64 0] n) 2)) (some ⟨g, 0, none⟩) [1] := by
    refine SlG.step (w := w) (.inr ⟨g, 0, rfl, hg, fun j u hj => ?_⟩) hrow0.bel
    have h0 : j = 0 := by have := (List.getElem?_eq_some_iff.1 hj).1; simp [Kd.flat, kI] at this; omega
    subst h0
    have hu : u = .int .i64 1 := by simpa [Kd.flat, kI] using hj.symm
    subst hu
    exact hc
  have hcell : ∀ {W : World} {L : List Int} {c : Nat}, Sg w W [rG kI (.slice (some ⟨w.heap.size, 0, none⟩) n c) L] → L.length = n → ∀ j, j < n → (W.cell? ⟨w.heap.size, j, none⟩).isSome = true := by
    intro W L c h hl j hj
    have ho := h.mem (List.mem_cons_self ..)
    have hC := OwG.cs (K := kI) (hl ▸ ho)
    have := hC.int (k := j) (List.getElem?_eq_getElem (by omega))
    rw [Nat.zero_add] at this
    rw [this]; rfl
  have hfz : ∀ {W : World} {L : List Int} {c : Nat}, Sg w W [rG kI (.slice (some ⟨w.heap.size, 0, none⟩) n c) L] → L.length = n → ∀ o, W.frozen? ⟨w.heap.size, o, none⟩ = false := by
    intro W L c h hl o
    exact OwG.fz (K := kI) (h.mem (List.mem_cons_self ..)) o
  obtain ⟨W1, hcp, hO1⟩ := run_copyV (A := []) (o := 0) (d := n) (dc := n) (m := 1) (c := 1) (V := [1]) (W := w.alloc (.cells (madeCells #[.int .i64 0] n) 2)) (Bs := []) (by rw [rowI (by simp)] at hrow0; exact hrow0) hsrc (Nat.min_eq_left h1) (fun j hj => by rw [Nat.zero_add]; exact hcell hrow0 (by simp) j (by simp at hj; omega)) (hfz hrow0 (by simp))
  have hO1' : Sg w W1 [rG kI (.slice (some ⟨w.heap.size, 0, none⟩) n n) (List.replicate 1 1 ++ List.replicate (n - 1) 0)] := by
    have e := rep_many (N := n) (m := 0) (j := 1) (by omega)
    simp only [List.replicate_zero, List.nil_append, Nat.sub_zero, Nat.zero_add] at e
    rw [rowI (by simp; omega), ← e]
    exact hO1
  simp only [List.length_singleton] at hcp
  clear hsrc hrow0 hO1
  have hn0 : ¬ (n : Int) < 0 := by omega
  have hbig : ¬ (9223372036854775807 : Int) < n := by omega
  go_enter Tryz.func68, Tryz.ntmps68
  go_wp2_with (go_at_call 87; refine (mul_one n hn _).mono ?_; rintro e w1 ⟨rfl, hw1⟩; obtain rfl := hw1.symm)
  clear hcp hmk
  go_loopw [8] (fun mv wr => ∃ m : Nat, 1 ≤ m ∧ m ≤ n ∧ mv = .int .i64 m ∧ Sg w wr [rG kI (.slice (some ⟨w.heap.size, 0, none⟩) n n) (List.replicate m 1 ++ List.replicate (n - m) 0)]) (fun mv _ => n - (intOf mv).toNat)
  case atStart => exact ⟨1, by omega, h1, rfl, hO1'⟩
  case round =>
    clear hO1'
    obtain ⟨m, hm1, hm2, rfl, hO⟩ := hrel
    by_cases hlt : m < n
    · have hmi : (m : Int) < n := by omega
      have hmn : ¬ n = m := by omega
      obtain ⟨j, hj⟩ : ∃ j, Nat.min m (n - m) = j := ⟨_, rfl⟩
      have hj0 : 0 < j := by rw [← hj]; exact Nat.lt_min.mpr ⟨by omega, by omega⟩
      have hj1 : j ≤ m := by rw [← hj]; exact Nat.min_le_left _ _
      have hj2 : j ≤ n - m := by rw [← hj]; exact Nat.min_le_right _ _
      have hO' := hO.step (Below.refl _ _).drew
      have hsrc : SlG kI wr.drew (some ⟨w.heap.size, 0, none⟩) (List.replicate j 1) := by
        have hC := OwG.cs (K := kI) (hO'.mem (List.mem_cons_self ..))
        have := hC.take j
        rw [List.take_append_of_le_length (by simpa using hj1), List.take_replicate, Nat.min_eq_left hj1] at this
        exact .inr ⟨_, _, rfl, this⟩
      have hlen : (List.replicate m (1 : Int) ++ List.replicate (n - m) 0).length = n := by simp; omega
      obtain ⟨W2, hcp, hO2⟩ := run_copyV (A := []) (o := m) (d := n - m) (dc := n - m) (m := m) (c := n) (V := List.replicate j 1) (W := wr.drew) (Bs := []) (by rw [rowI hlen] at hO'; exact hO') hsrc (by rw [hj]; simp) (fun i hi => hcell hO' hlen (m + i) (by simp at hi; omega)) (hfz hO' hlen)
      have hO3 : Sg w W2 [rG kI (.slice (some ⟨w.heap.size, 0, none⟩) n n) (List.replicate (m + j) 1 ++ List.replicate (n - (m + j)) 0)] := by
        have e := rep_many (N := n) (m := m) (j := j) (by omega)
        rw [rowI (by simp; omega), ← e]
        exact hO2
      simp only [List.length_replicate] at hcp
      have HJ : Hid (0 < j ∧ j ≤ m ∧ j ≤ n - m) := ⟨hj0, hj1, hj2⟩
      have hjb : j ≤ 40 := by omega
      have hw : IntKind.i64.wrap ((m : Int) + (j : Int)) = ((m + j : Nat) : Int) := by rw [IntKind.wrap_i64]; omega
      clear hsrc hj hj0 hj1 hj2 hO hO' hO2 hlen
      go_wp2
      go_region_law (refine step_copy (vd := .slice (some ⟨w.heap.size, m, none⟩) (n - m) (n - m)) (vx := .slice (some ⟨w.heap.size, 0, none⟩) m n) (by rfl) _ _ (by rfl) (by rfl) (by rfl) hcp ?_)
      all_goals
        have := HJ.out
        clear hw
        simp only [List.getElem_toArray, List.getElem_cons_succ, List.getElem_cons_zero, Act.put, List.setIfInBounds_toArray, List.set_cons_succ, List.set_cons_zero]
        go_wp2
        go_roundw
        case rel => exact ⟨m + j, by omega, by omega, by go_num, hO3⟩
        case measure => simp [intOf]; omega
    · obtain rfl : m = n := by omega
      rw [Nat.sub_self] at hO
      go_wp2
      go_ret
      exact ⟨w.heap.size, rfl, by simpa using hO⟩
end Go.Proofs.YtobbankkfplooaaGreat.K.G
