/-
  The law's looks at Items and lists of Items: made the program's.
-/
import Derived.Test.YtobbankkfplooaaGreatKIB0
import Derived.Test.YtobbankkfplooaaGreatKL1
namespace Go.Proofs.YtobbankkfplooaaGreat.K.I
open Go.Shelf Go.RowKit Go.Joins
attribute [local go_sem] Oper.semAt_some

theorem Sg.setR {w W : World} {A Bs : List Rw} {g n c : Nat} {M : List Rc} (h : Sg w W (A ++ rG kR (.slice (some ⟨g, 0, none⟩) n c) M :: Bs)) {k : Nat} (hk : k < M.length) (m : Rc) :
    Sg w (((((W.setCell ⟨g, k * 5, none⟩ (.int .i64 m.t)).setCell ⟨g, k * 5 + 1, none⟩ (.int .i64 m.i)).setCell ⟨g, k * 5 + 2, none⟩ (.int .i64 m.x)).setCell ⟨g, k * 5 + 3, none⟩ (.int .i64 m.y)).setCell ⟨g, k * 5 + 4, none⟩ (.string m.s)) (A ++ rG kR (.slice (some ⟨g, 0, none⟩) n c) (M.set k m) :: Bs) := by
  have ho : OwG kR W w.heap.size (.slice (some ⟨g, 0, none⟩) n c) M := h.mem (by simp)
  have hn := OwG.len ho
  subst hn
  have h1 := ((((Sg.setRaw h (k * 5) (.int .i64 m.t)).setRaw (k * 5 + 1) (.int .i64 m.i)).setRaw (k * 5 + 2) (.int .i64 m.x)).setRaw (k * 5 + 3) (.int .i64 m.y)).setRaw (k * 5 + 4) (.string m.s)
  have hl := Kd.flat_len (K := kR) M
  have e : kR.flat (M.set k m) = (((((kR.flat M).set (k * 5) (.int .i64 m.t)).set (k * 5 + 1) (.int .i64 m.i)).set (k * 5 + 2) (.int .i64 m.x)).set (k * 5 + 3) (.int .i64 m.y)).set (k * 5 + 4) (.string m.s) := by
    rw [set5 (by rw [hl]; show k * 5 + 5 ≤ M.length * 5; omega), Kd.flat_set m hk]; rfl
  have e2 : rG kR (.slice (some ⟨g, 0, none⟩) M.length c) (M.set k m) = ⟨.slice (some ⟨g, 0, none⟩) M.length c, 91, 5, M.length, (((((kR.flat M).set (k * 5) (.int .i64 m.t)).set (k * 5 + 1) (.int .i64 m.i)).set (k * 5 + 2) (.int .i64 m.x)).set (k * 5 + 3) (.int .i64 m.y)).set (k * 5 + 4) (.string m.s)⟩ := by
    unfold rG; rw [e, List.length_set]; rfl
  rw [e2]; exact h1
set_option maxHeartbeats 1000000 in
theorem toRec_any (r : Rc) (w : World) : Calls Tryz.prog 105 #[r.v] w fun e w' => e = .returned r.v ∧ Below w.heap.size w w' := by
  obtain ⟨t, i, x, y, s⟩ := r
  have hst := (((St.nil w).push [.int .i64 t, .int .i64 i, .int .i64 x, .int .i64 y, .string s] 138).push [.int .i64 0, .int .i64 0, .int .i64 0, .int .i64 0, .string ByteArray.empty] 91).push [.int .i64 t, .int .i64 i, .int .i64 0, .int .i64 0, .string ByteArray.empty] 91
  simp only [World.size_alloc] at hst
  go_enter Tryz.func105, Tryz.ntmps105
  go_wp2_with (go_at_call 113; refine (toSpot_any _ _ _).mono ?_; rintro e w1 ⟨rfl, hb2⟩; have hs1 := hst.step hb2; have hk := hs1.has; simp [Has, HasAt] at hk)
  refine bodyPost_ret (v := .agg #[.int .i64 t, .int .i64 i, .int .i64 x, .int .i64 y, .string s]) (by simp [results, Tryz.results105, go_sem, hk]) rfl ⟨rfl, ?_⟩
  have b2 : w.heap.size ≤ w.heap.size + 1 + 1 := by omega
  have b1 : w.heap.size ≤ w.heap.size + 1 := by omega
  exact (((((((hs1.bel.setCell (p := ⟨w.heap.size + 1 + 1, 2, none⟩) b2 _).setCell (p := ⟨w.heap.size + 1 + 1, 3, none⟩) b2 _).setCell (p := ⟨w.heap.size + 1 + 1, 4, none⟩) b2 _).setCell (p := ⟨w.heap.size + 1, 0, none⟩) b1 _).setCell (p := ⟨w.heap.size + 1, 1, none⟩) b1 _).setCell (p := ⟨w.heap.size + 1, 2, none⟩) b1 _).setCell (p := ⟨w.heap.size + 1, 3, none⟩) b1 _).setCell (p := ⟨w.heap.size + 1, 4, none⟩) b1 _
theorem made_flatR (n : Nat) : (madeCells #[.int .i64 0, .int .i64 0, .int .i64 0, .int .i64 0, .string ByteArray.empty] (n * 5)).toList = kR.flat (List.replicate n zrc) := by
  refine List.ext_getElem? fun i => ?_
  have hl : (kR.flat (List.replicate n zrc)).length = n * 5 := by rw [Kd.flat_len]; simp [kR]
  by_cases hi : i < n * 5
  · have h6 : i / 5 < n := by omega
    have hk : (List.replicate n zrc)[i / 5]? = some zrc := by simp [h6]
    have hg := Kd.flat_get (K := kR) hk (i := i % 5) (Nat.mod_lt _ (by decide))
    have e3 : i / 5 * kR.n + i % 5 = i := by show i / 5 * 5 + i % 5 = i; omega
    rw [e3] at hg
    rw [hg]
    have hm : i % 5 = 0 ∨ i % 5 = 1 ∨ i % 5 = 2 ∨ i % 5 = 3 ∨ i % 5 = 4 := by omega
    rcases hm with hm | hm | hm | hm | hm <;> simp [madeCells, hi, hm, kR, zrc]
  · rw [List.getElem?_eq_none (by simp [madeCells]; omega), List.getElem?_eq_none (by omega)]
set_option maxRecDepth 100000 in
set_option maxHeartbeats 2000000 in
theorem toRecS_any (p : Option Addr) (cap : Nat) (L : List Rc) (n : Nat) (hn : L.length = n) (w : World) (hL : SlG kL w p L) (hb : n ≤ 1048576) :
    Calls Tryz.prog 94 #[.slice p n cap] w fun e w' => ∃ g, e = .returned (.slice (some ⟨g, 0, none⟩) n n) ∧ Sg w w' [rG kR (.slice (some ⟨g, 0, none⟩) n n) L] := by
  obtain ⟨i0, hi, hz0, hz1, hz2⟩ := info_parts info91
  have hmk := run_make (P := Tryz.prog) w 65 91 i0 _ Tryz.underlying65 hi hz0 .i64 .i64 (n : Int) (n : Int) (by omega) (by omega) (by rw [hz2]; omega) (by omega)
  rw [hz1, Int.toNat_natCast] at hmk
  have hS0 : Sg w (w.alloc (.cells (madeCells #[.int .i64 0, .int .i64 0, .int .i64 0, .int .i64 0, .string ByteArray.empty] (n * 5)) 91)) [rG kR (.slice (some ⟨w.heap.size, 0, none⟩) n n) (List.replicate n zrc)] := by
    have h := World.ownsRow_lit (base := w.heap.size) (e := 91) (size := 5) w (madeCells #[.int .i64 0, .int .i64 0, .int .i64 0, .int .i64 0, .string ByteArray.empty] (n * 5)) n (Nat.le_refl _) (by unfold maxLen; omega) (size_madeCells _ _)
    rw [made_flatR] at h
    refine ⟨below_alloc1 _ _, fun r hr => ?_, by simp⟩
    simp at hr
    subst hr
    unfold Rw.own rG
    simp only [List.length_replicate]
    exact h
  have HN : Hid (L.length = n) := hn
  clear hn
  go_enter Tryz.func94, Tryz.ntmps94
  go_wp2
  go_loopw [4] (fun iv wr => ∃ (k : Nat) (M : List Rc), k ≤ n ∧ iv = .int .i64 k ∧ Hid (M.length = n ∧ ∀ j, j < k → M[j]? = L[j]?) ∧ Sg w wr [rG kR (.slice (some ⟨w.heap.size, 0, none⟩) n n) M]) (fun iv _ => n - (intOf iv).toNat)
  case atStart => exact ⟨0, _, by omega, rfl, ⟨by simp, fun j hj => by omega⟩, hS0⟩
  case round =>
    clear hS0
    obtain ⟨k, M, hk, rfl, hM, hS⟩ := hrel
    by_cases hlt : k < n
    · have hki : (k : Int) < n := by omega
      have hkL : k < L.length := by rw [HN.out]; exact hlt
      have hkM : k < M.length := by rw [hM.out.1]; exact hlt
      obtain ⟨g, off, rfl, hC⟩ := (hL.step hS.bel).at hkL
      obtain ⟨c0, c1, c2, c3, c4⟩ := hC.j5 (getR hkL)
      have hgk := getR hkL
      obtain ⟨m, hm⟩ : ∃ m, L.getD k zrc = m := ⟨_, rfl⟩
      rw [hm] at c0 c1 c2 c3 c4 hgk
      have HGK : Hid (L[k]? = some m ∧ k < M.length) := ⟨hgk, hkM⟩
      clear hgk hm hC
      go_wp2_with (go_at_call 105; refine (toRec_any m _).mono ?_; rintro e w1 ⟨rfl, hb2⟩; have hS1 := hS.step hb2; have ho := hS1.mem (K := kR) (v := .slice (some ⟨w.heap.size, 0, none⟩) n n) (L := M) (by simp); have hf := OwG.fz ho; obtain ⟨d0, d1, d2, d3, d4⟩ := (OwG.cs ho).i5 (getR HGK.out.2); simp only [Nat.zero_add] at d0 d1 d2 d3 d4; clear ho)
      have hS2 := Sg.setR (A := []) hS1 HGK.out.2 m
      go_roundw
      case rel =>
        refine ⟨k + 1, M.set k m, by omega, by go_num, ⟨by simp [hM.out.1], fun j hj => ?_⟩, hS2⟩
        by_cases e : k = j
        · subst e; rw [List.getElem?_set_self HGK.out.2, HGK.out.1]
        · rw [List.getElem?_set_ne e]; exact hM.out.2 j (by omega)
      case measure => simp [intOf]; omega
    · obtain rfl : k = n := by omega
      have e : M = L := List.ext_getElem? fun j => by
        by_cases hj : j < k
        · exact hM.out.2 j hj
        · rw [List.getElem?_eq_none (by rw [hM.out.1]; omega), List.getElem?_eq_none (by rw [HN.out]; omega)]
      subst e
      go_wp2
      go_ret
      exact ⟨_, rfl, hS⟩
end Go.Proofs.YtobbankkfplooaaGreat.K.I
