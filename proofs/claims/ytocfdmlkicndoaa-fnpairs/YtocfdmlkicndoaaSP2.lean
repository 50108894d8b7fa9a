/-
  slices.Repeat of one number.
-/
import Derived.Test.YtocfdmlkicndoaaSP1
import Derived.Laws.BitsAll
import Derived.Laws.Shifts
namespace Go.Proofs.Ytocfdmlkicndoaa
open Go.RowKit Go.Joins
attribute [local go_sem] Oper.semAt_some

theorem bel_g {w W W' : World} (h : Below w.heap.size w W) (hg : W.grownBy W' (some w.heap.size)) : Below w.heap.size w W' :=
  ⟨hg.os.trans h.os, hg.tape.trans h.tape, hg.output.trans h.output, Nat.le_trans h.size hg.size, fun k hk => (hg.block k (Nat.lt_of_lt_of_le hk h.size) (fun e => by injection e with e; omega)).trans (h.block k hk)⟩
theorem and_mask : ∀ n : Nat, n ≤ 40 → bits .and .u64 (n : Int) 4294967295 = n := by
  have : ∀ n : Fin 41, bits .and .u64 ((n.val : Nat) : Int) 4294967295 = (n.val : Nat) := by decide
  intro n hn
  exact this ⟨n, by omega⟩
set_option maxHeartbeats 1000000 in
theorem mul64_one (n : Nat) (hn : n ≤ 40) (w : World) :
    Calls Try.prog 69 #[.int .u64 1, .int .u64 n] w fun e w' => e = .returned (.tuple #[.int .u64 0, .int .u64 n]) ∧ w' = w := by
  have e1 := and_mask n hn
  have e2 : bits .and .u64 1 4294967295 = 1 := by decide
  have e3 : (n : Int) / 4294967296 = 0 := by omega
  have e4 : bits .and .u64 0 4294967295 = 0 := by decide
  go_enter Try.func69, Try.ntmps69
  go_wp2
  exact bodyPost_ret (v := .tuple #[.int .u64 0, .int .u64 n]) (by simp [results, Try.results69, go_sem]) rfl ⟨rfl, rfl⟩
set_option maxHeartbeats 1000000 in
theorem mul_one (n : Nat) (hn : n ≤ 40) (w : World) :
    Calls Try.prog 58 #[.int .u64 1, .int .u64 n] w fun e w' => e = .returned (.tuple #[.int .u64 0, .int .u64 n]) ∧ w' = w := by
  go_enter Try.func58, Try.ntmps58
  go_wp2_with (go_at_call 69; refine (mul64_one n hn _).mono ?_; rintro e w1 ⟨rfl, rfl⟩)
  exact bodyPost_ret (v := .tuple #[.int .u64 0, .int .u64 n]) (by simp [results, Try.results58, go_sem]) rfl ⟨rfl, rfl⟩

theorem rep_next {N m : Nat} {z : Int} : let j := Nat.min m (N - m); (List.replicate m z ++ List.replicate (N - m) 0).take m ++ List.replicate j z ++ (List.replicate m z ++ List.replicate (N - m) (0 : Int)).drop (m + (List.replicate j z).length) = List.replicate (m + j) z ++ List.replicate (N - (m + j)) 0 := by
  intro j
  have hj : j ≤ N - m := Nat.min_le_right _ _
  rw [List.take_left' (by simp), List.replicate_append_replicate]
  congr 1
  rw [List.drop_append, List.drop_eq_nil_of_le (by simp), List.nil_append, List.drop_replicate]
  congr 1
  simp; omega
set_option maxRecDepth 100000 in
set_option maxHeartbeats 4000000 in
theorem repeat_any (g n : Nat) (z : Int) (w : World) (hg : g < w.heap.size) (hc : w.cell? ⟨g, 0, none⟩ = some (.int .i64 z)) (h1 : 1 ≤ n) (hn : n ≤ 40) :
    Calls Try.prog 35 #[.slice (some ⟨g, 0, none⟩) 1 1, .int .i64 n] w fun e w' => ∃ g', e = .returned (.slice (some ⟨g', 0, none⟩) n n) ∧ Ow1 w' w.heap.size (.slice (some ⟨g', 0, none⟩) n n) (List.replicate n z) ∧ Below w.heap.size w w' := by
  obtain ⟨i0, hi, hz0, hz1, hz2⟩ := info_parts info2
  have hmk := run_make (P := Try.prog) w 29 2 i0 _ Try.underlying29 hi hz0 .i64 .i64 (n : Int) (n : Int) (by omega) (by omega) (by rw [hz2]; omega) (by omega)
  rw [hz1, Int.toNat_natCast, Nat.mul_one] at hmk
  have hrow0 : Ow1 (w.alloc (.cells (madeCells #[.int .i64 0] n) 2)) w.heap.size (.slice (some ⟨w.heap.size, 0, none⟩) n n) (List.replicate n 0) := by
    have := World.ownsRow_lit (base := w.heap.size) (e := 2) (size := 1) w (madeCells #[.int .i64 0] n) n (Nat.le_refl _) (by unfold maxLen; omega) (by rw [size_madeCells, Nat.mul_one])
    rw [made_flat1] at this
    unfold Ow1; rw [List.length_replicate]; exact this
  have hb0 := below_alloc1 w (.cells (madeCells #[.int .i64 0] n) 2)
  have hsrc : ∀ j u, (flat1 [z])[j]? = some u → (w.alloc (.cells (madeCells #[.int .i64 0] n) 2)).cell? ((⟨g, 0, none⟩ : Addr).add j) = some u := by
    intro j u hj
    have h0 : j = 0 := by have := (List.getElem?_eq_some_iff.1 hj).1; simp [flat1] at this; omega
    subst h0
    have hu : u = .int .i64 z := by simpa [flat1] using hj.symm
    subst hu
    have ea : (⟨g, 0, none⟩ : Addr).add 0 = ⟨g, 0, none⟩ := by unfold Addr.add; split <;> simp_all
    rw [ea]
    exact (hb0.cell (p := ⟨g, 0, none⟩) hg).trans hc
  obtain ⟨W1, hcp, hO1, hg1⟩ := run_copy1 (B := [z]) (k := 0) (m := n) (c := 1) (c2 := n) (l := 1) hrow0 (by simp) (by simpa using h1) hsrc (Nat.min_eq_left h1)
  have hO1' : Ow1 W1 w.heap.size (.slice (some ⟨w.heap.size, 0, none⟩) n n) (List.replicate 1 z ++ List.replicate (n - 1) 0) := by
    have e : (List.replicate n (0 : Int)).take 0 ++ [z] ++ (List.replicate n 0).drop (0 + [z].length) = List.replicate 1 z ++ List.replicate (n - 1) 0 := by simp
    rw [e] at hO1; exact hO1
  have hb1 : Below w.heap.size w W1 := bel_g hb0 hg1
  simp only [List.length_singleton] at hcp
  clear hsrc hrow0 hb0 hO1
  have hn0 : ¬ (n : Int) < 0 := by omega
  have hbig : ¬ (9223372036854775807 : Int) < n := by omega
  go_enter Try.func35, Try.ntmps35
  go_wp2_with (go_at_call 58; refine (mul_one n hn _).mono ?_; rintro e w1 ⟨rfl, rfl⟩)
  clear hcp hmk hg1
  go_loopw [8] (fun mv wr => ∃ m : Nat, 1 ≤ m ∧ m ≤ n ∧ mv = .int .i64 m ∧ Ow1 wr w1.heap.size (.slice (some ⟨w1.heap.size, 0, none⟩) n n) (List.replicate m z ++ List.replicate (n - m) 0) ∧ Below w1.heap.size w1 wr) (fun mv _ => n - (intOf mv).toNat)
  case atStart => exact ⟨1, by omega, h1, rfl, hO1', hb1⟩
  case round =>
    obtain ⟨m, hm1, hm2, rfl, hO, hb⟩ := hrel
    by_cases hlt : m < n
    · have hmi : (m : Int) < n := by omega
      have hmn : ¬ n = m := by omega
      obtain ⟨j, hj⟩ : ∃ j, Nat.min m (n - m) = j := ⟨_, rfl⟩
      have hj0 : 0 < j := by rw [← hj]; exact Nat.lt_min.mpr ⟨by omega, by omega⟩
      have hj1 : j ≤ m := by rw [← hj]; exact Nat.min_le_left _ _
      have hj2 : j ≤ n - m := by rw [← hj]; exact Nat.min_le_right _ _
      have hcs := (Ow1.cs hO).2
      have hsrc : ∀ i u, (flat1 (List.replicate j z))[i]? = some u → wr.drew.cell? ((⟨w1.heap.size, 0, none⟩ : Addr).add i) = some u := by
        intro i u hu
        have hlt : i < j := by have := (List.getElem?_eq_some_iff.1 hu).1; simp [flat1] at this; omega
        have hu' : u = .int .i64 z := by simp [flat1, hlt] at hu; exact hu.symm
        subst hu'
        have ea : (⟨w1.heap.size, 0, none⟩ : Addr).add i = ⟨w1.heap.size, 0 + i, none⟩ := by unfold Addr.add; split <;> simp_all
        rw [ea]
        have hl : i < (List.replicate m z).length := by rw [List.length_replicate]; omega
        exact hcs i z (by rw [List.getElem?_append_left hl, List.getElem?_replicate, if_pos (by omega)])
      have hdl : m + (n - m) = (List.replicate m z ++ List.replicate (n - m) (0 : Int)).length := by simp
      obtain ⟨W2, hcp, hO2, hg2⟩ := run_copy1 (W := wr.drew) (B := List.replicate j z) (k := m) (m := n - m) (c := n) (c2 := n - m) (l := m) (World.ownsRow.drew hO) hdl (by simpa using hj2) hsrc (by rw [hj]; simp)
      have e2 := rep_next (N := n) (m := m) (z := z)
      simp only [hj] at e2
      rw [e2] at hO2
      simp only [List.length_replicate] at hcp
      have hb2 : Below w1.heap.size w1 W2 := bel_g hb.drew hg2
      have HJ : Hid (0 < j ∧ j ≤ m ∧ j ≤ n - m) := ⟨hj0, hj1, hj2⟩
      have hjb : j ≤ 40 := by omega
      have hw : IntKind.i64.wrap ((m : Int) + (j : Int)) = ((m + j : Nat) : Int) := by rw [IntKind.wrap_i64]; omega
      clear hsrc hdl hcs hj e2 hg2 hj0 hj1 hj2 hO hb
      go_wp2
      go_region_law (refine step_copy (vd := .slice (some ⟨w1.heap.size, m, none⟩) (n - m) (n - m)) (vx := .slice (some ⟨w1.heap.size, 0, none⟩) m n) (by rfl) _ _ (by rfl) (by rfl) (by rfl) hcp ?_)
      all_goals
        have := HJ.out
        clear hw
        simp only [List.getElem_toArray, List.getElem_cons_succ, List.getElem_cons_zero, Act.put, List.setIfInBounds_toArray, List.set_cons_succ, List.set_cons_zero]
        go_wp2
        go_roundw
        case rel => exact ⟨m + j, by omega, by omega, by go_num, hO2, hb2⟩
        case measure => simp [intOf]; omega
    · obtain rfl : m = n := by omega
      rw [Nat.sub_self] at hO
      go_wp2
      go_ret
      exact ⟨w1.heap.size, rfl, by simpa using hO, hb⟩
end Go.Proofs.Ytocfdmlkicndoaa
