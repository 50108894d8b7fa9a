/-
  The law's looks at lists of Marks.
-/
import Derived.Test.YtipfcmfcdfofmaaGreatG4
namespace Go.Proofs.YtipfcmfcdfofmaaGreat
open Go.Shelf Go.RowKit Go.Joins
attribute [local go_sem] Oper.semAt_some

def kL : Kd Mk := ⟨134, 3, fun m => [.int .i64 m.i, .int .i64 m.x, .int .i64 m.y], fun _ => rfl⟩
theorem CsG.mkL {w : World} {g off : Nat} {L : List Mk} (h : CsG kL w g off L) {k : Nat} {m : Mk} (hk : L[k]? = some m) : w.cell? ⟨g, off + k * 3, none⟩ = some (.int .i64 m.i) ∧ w.cell? ⟨g, off + k * 3 + 1, none⟩ = some (.int .i64 m.x) ∧ w.cell? ⟨g, off + k * 3 + 2, none⟩ = some (.int .i64 m.y) :=
  ⟨h.at hk (i := 0) rfl, h.at hk (i := 1) rfl, h.at hk (i := 2) rfl⟩
theorem set3 {xs : List Value} {i : Nat} (h : i + 3 ≤ xs.length) (a b c : Value) : ((xs.set i a).set (i + 1) b).set (i + 2) c = xs.take i ++ [a, b, c] ++ xs.drop (i + 3) := by
  refine List.ext_getElem? fun j => ?_
  simp only [List.getElem?_append, List.length_append, List.length_take, List.length_cons, List.length_nil, List.getElem?_drop]
  have hmin : min i xs.length = i := by omega
  rw [hmin]
  by_cases h1 : j < i
  · rw [if_pos (by omega), if_pos h1, List.getElem?_set_ne (by omega), List.getElem?_set_ne (by omega), List.getElem?_set_ne (by omega), List.getElem?_take_of_lt h1]
  · by_cases h2 : j < i + 3
    · rw [if_pos (by omega), if_neg h1]
      have : j = i ∨ j = i + 1 ∨ j = i + 2 := by omega
      rcases this with rfl | rfl | rfl
      · rw [List.getElem?_set_ne (by omega), List.getElem?_set_ne (by omega), List.getElem?_set_self (by omega)]; simp
      · rw [List.getElem?_set_ne (by omega), List.getElem?_set_self (by simp; omega)]; simp
      · rw [List.getElem?_set_self (by simp; omega)]; simp
    · rw [if_neg (by omega), List.getElem?_set_ne (by omega), List.getElem?_set_ne (by omega), List.getElem?_set_ne (by omega)]
      congr 1; omega
theorem Sg.setM {w W : World} {A Bs : List Rw} {g n c : Nat} {M : List Mk} (h : Sg w W (A ++ rG kM (.slice (some ⟨g, 0, none⟩) n c) M :: Bs)) {k : Nat} (hk : k < M.length) (m : Mk) :
    Sg w (((W.setCell ⟨g, k * 3, none⟩ (.int .i64 m.i)).setCell ⟨g, k * 3 + 1, none⟩ (.int .i64 m.x)).setCell ⟨g, k * 3 + 2, none⟩ (.int .i64 m.y)) (A ++ rG kM (.slice (some ⟨g, 0, none⟩) n c) (M.set k m) :: Bs) := by
  have ho : OwG kM W w.heap.size (.slice (some ⟨g, 0, none⟩) n c) M := h.mem (by simp)
  have hn := OwG.len ho
  subst hn
  have h1 := ((Sg.setRaw h (k * 3) (.int .i64 m.i)).setRaw (k * 3 + 1) (.int .i64 m.x)).setRaw (k * 3 + 2) (.int .i64 m.y)
  have hl := Kd.flat_len (K := kM) M
  have e : kM.flat (M.set k m) = (((kM.flat M).set (k * 3) (.int .i64 m.i)).set (k * 3 + 1) (.int .i64 m.x)).set (k * 3 + 2) (.int .i64 m.y) := by
    rw [set3 (by rw [hl]; show k * 3 + 3 ≤ M.length * 3; omega), Kd.flat_set m hk]; rfl
  have e2 : rG kM (.slice (some ⟨g, 0, none⟩) M.length c) (M.set k m) = ⟨.slice (some ⟨g, 0, none⟩) M.length c, 45, 3, M.length, (((kM.flat M).set (k * 3) (.int .i64 m.i)).set (k * 3 + 1) (.int .i64 m.x)).set (k * 3 + 2) (.int .i64 m.y)⟩ := by
    unfold rG; rw [e, List.length_set]; rfl
  rw [e2]; exact h1
theorem toSpot_any (x y : Int) (w : World) : Calls Tryz.prog 34 #[.agg #[.int .i64 x, .int .i64 y]] w fun e w' => e = .returned (.agg #[.int .i64 x, .int .i64 y]) ∧ Below w.heap.size w w' := by
  go_enter Tryz.func34, Tryz.ntmps34
  go_wp2
  refine bodyPost_ret (v := .agg #[.int .i64 x, .int .i64 y]) (by simp [results, Tryz.results34, go_sem]) rfl ⟨rfl, ?_⟩
  exact below_alloc3 _ _ _ _
set_option maxHeartbeats 1000000 in
theorem toMark_any (m : Mk) (w : World) : Calls Tryz.prog 95 #[.agg #[.int .i64 m.i, .int .i64 m.x, .int .i64 m.y]] w fun e w' => e = .returned (.agg #[.int .i64 m.i, .int .i64 m.x, .int .i64 m.y]) ∧ Below w.heap.size w w' := by
  have hst := (((St.nil w).push [.int .i64 m.i, .int .i64 m.x, .int .i64 m.y] 134).push [.int .i64 0, .int .i64 0, .int .i64 0] 45).push [.int .i64 m.i, .int .i64 0, .int .i64 0] 45
  simp only [World.size_alloc] at hst
  go_enter Tryz.func95, Tryz.ntmps95
  go_wp2_with (go_at_call 34; refine (toSpot_any _ _ _).mono ?_; rintro e w1 ⟨rfl, hb2⟩; have hs1 := hst.step hb2; have hk := hs1.has; simp [Has, HasAt] at hk)
  refine bodyPost_ret (v := .agg #[.int .i64 m.i, .int .i64 m.x, .int .i64 m.y]) (by simp [results, Tryz.results95, go_sem, hk]) rfl ⟨rfl, ?_⟩
  exact ((((hs1.bel.setCell (p := ⟨w.heap.size + 1 + 1, 1, none⟩) (by show w.heap.size ≤ w.heap.size + 1 + 1; omega) _).setCell (p := ⟨w.heap.size + 1 + 1, 2, none⟩) (by show w.heap.size ≤ w.heap.size + 1 + 1; omega) _).setCell (p := ⟨w.heap.size + 1, 0, none⟩) (by show w.heap.size ≤ w.heap.size + 1; omega) _).setCell (p := ⟨w.heap.size + 1, 1, none⟩) (by show w.heap.size ≤ w.heap.size + 1; omega) _).setCell (p := ⟨w.heap.size + 1, 2, none⟩) (by show w.heap.size ≤ w.heap.size + 1; omega) _

set_option maxRecDepth 100000 in
set_option maxHeartbeats 2000000 in
theorem toMarkS_any (p : Option Addr) (cap : Nat) (L : List Mk) (n : Nat) (hn : L.length = n) (w : World) (hL : SlG kL w p L) (hb : n ≤ 10000000) :
    Calls Tryz.prog 62 #[.slice p n cap] w fun e w' => ∃ g, e = .returned (.slice (some ⟨g, 0, none⟩) n n) ∧ Sg w w' [rG kM (.slice (some ⟨g, 0, none⟩) n n) L] := by
  obtain ⟨i0, hi, hz0, hz1, hz2⟩ := info_parts info45
  have hmk := run_make (P := Tryz.prog) w 24 45 i0 _ Tryz.underlying24 hi hz0 .i64 .i64 (n : Int) (n : Int) (by omega) (by omega) (by rw [hz2]; omega) (by omega)
  rw [hz1, Int.toNat_natCast] at hmk
  have hS0 : Sg w (w.alloc (.cells (madeCells #[.int .i64 0, .int .i64 0, .int .i64 0] (n * 3)) 45)) [rG kM (.slice (some ⟨w.heap.size, 0, none⟩) n n) (List.replicate n zmk)] := by
    have h := World.ownsRow_lit (base := w.heap.size) (e := 45) (size := 3) w (madeCells #[.int .i64 0, .int .i64 0, .int .i64 0] (n * 3)) n (Nat.le_refl _) (by unfold maxLen; omega) (size_madeCells _ _)
    rw [made_flatM] at h
    refine ⟨below_alloc1 _ _, fun r hr => ?_, by simp⟩
    simp at hr
    subst hr
    unfold Rw.own rG
    simp only [List.length_replicate]
    exact h
  have HN : Hid (L.length = n) := hn
  clear hn
  go_enter Tryz.func62, Tryz.ntmps62
  go_wp2
  go_loopw [4] (fun iv wr => ∃ (k : Nat) (M : List Mk), k ≤ n ∧ iv = .int .i64 k ∧ Hid (M.length = n ∧ ∀ j, j < k → M[j]? = L[j]?) ∧ Sg w wr [rG kM (.slice (some ⟨w.heap.size, 0, none⟩) n n) M]) (fun iv _ => n - (intOf iv).toNat)
  case atStart => exact ⟨0, _, by omega, rfl, ⟨by simp, fun j hj => by omega⟩, hS0⟩
  case round =>
    clear hS0
    obtain ⟨k, M, hk, rfl, hM, hS⟩ := hrel
    by_cases hlt : k < n
    · have hki : (k : Int) < n := by omega
      have hkL : k < L.length := by rw [HN.out]; exact hlt
      have hkM : k < M.length := by rw [hM.out.1]; exact hlt
      obtain ⟨g, off, rfl, hC⟩ := (hL.step hS.bel).at hkL
      obtain ⟨c0, c1, c2⟩ := hC.mkL (getM hkL)
      have hgk := getM hkL
      obtain ⟨m, hm⟩ : ∃ m, L.getD k zmk = m := ⟨_, rfl⟩
      rw [hm] at c0 c1 c2 hgk
      have HGK : Hid (L[k]? = some m ∧ k < M.length) := ⟨hgk, hkM⟩
      clear hgk hm hC
      go_wp2_with (go_at_call 95; refine (toMark_any m _).mono ?_; rintro e w1 ⟨rfl, hb2⟩; have hS1 := hS.step hb2; have ho := hS1.mem (K := kM) (v := .slice (some ⟨w.heap.size, 0, none⟩) n n) (L := M) (by simp); have hf := OwG.fz ho; obtain ⟨d0, d1, d2⟩ := (OwG.cs ho).mk (getM HGK.out.2); simp only [Nat.zero_add] at d0 d1 d2; clear ho)
      have hS2 := Sg.setM (A := []) hS1 HGK.out.2 m
      go_roundw
      case rel =>
        refine ⟨k + 1, M.set k m, by omega, by go_num, ⟨by simp [hM.out.1], fun j hj => ?_⟩, hS2⟩
        by_cases e : k = j
        · subst e; rw [List.getElem?_set_self HGK.out.2, HGK.out.1]
        · rw [List.getElem?_set_ne e]; exact hM.out.2 j (by omega)
      case measure => simp [intOf]; omega
    · obtain rfl : k = n := by omega
      have e : M = L := List.ext_getElem? fun j => by
        by_cases hj : j < k
        · exact hM.out.2 j hj
        · rw [List.getElem?_eq_none (by rw [hM.out.1]; omega), List.getElem?_eq_none (by rw [HN.out]; omega)]
      subst e
      go_wp2
      go_ret
      exact ⟨_, rfl, hS⟩
theorem eqMark_same (m : Mk) (w : World) : Calls Tryz.prog 97 #[.agg #[.int .i64 m.i, .int .i64 m.x, .int .i64 m.y], .agg #[.int .i64 m.i, .int .i64 m.x, .int .i64 m.y]] w fun e w' => e = .returned (.bool true) ∧ Below w.heap.size w w' := by
  have hE : ∀ w, Calls Tryz.prog 122 #[.agg #[.int .i64 m.x, .int .i64 m.y], .agg #[.int .i64 m.x, .int .i64 m.y]] w fun e w' => e = .returned (.bool true) ∧ Below w.heap.size w w' := fun w => by
    go_enter Tryz.func122, Tryz.ntmps122
    go_wp2
    go_ret
    exact ⟨rfl, below_alloc2 _ _ _⟩
  go_enter Tryz.func97, Tryz.ntmps97
  go_wp2_with (go_at_call 122; refine (hE _).mono ?_; rintro e w1 ⟨rfl, hb2⟩)
  go_ret
  exact ⟨rfl, ba2 hb2⟩
set_option maxHeartbeats 1000000 in
theorem eqMarkS_same (p q : Option Addr) (cap cap' : Nat) (L : List Mk) (n : Nat) (hn : L.length = n) (w : World) (hp : SlG kM w p L) (hq : SlG kM w q L) (_hb : n ≤ 10000000) :
    Calls Tryz.prog 64 #[.slice p n cap, .slice q n cap'] w fun e w' => e = .returned (.bool true) ∧ Below w.heap.size w w' := by
  have HN : Hid (L.length = n) := hn
  clear hn
  go_enter Tryz.func64, Tryz.ntmps64
  go_wp2
  go_loopw [5] (fun i wr => ∃ k : Nat, k ≤ n ∧ i = .int .i64 k ∧ Below w.heap.size w wr) (fun i _ => n - (intOf i).toNat)
  case atStart => exact ⟨0, by omega, rfl, Below.refl _ _⟩
  case round =>
    obtain ⟨k, hk, rfl, hb⟩ := hrel
    by_cases hlt : k < n
    · have hki : (k : Int) < n := by omega
      have hkL : k < L.length := by rw [HN.out]; exact hlt
      obtain ⟨g, off, rfl, hC⟩ := (hp.step hb).at hkL
      obtain ⟨g2, off2, rfl, hC2⟩ := (hq.step hb).at hkL
      obtain ⟨c0, c1, c2⟩ := hC.mk (getM hkL)
      obtain ⟨d0, d1, d2⟩ := hC2.mk (getM hkL)
      generalize L.getD k zmk = m at c0 c1 c2 d0 d1 d2
      clear hC hC2
      go_wp2
      go_region_with ((go_at_call 97; refine (eqMark_same m _).mono ?_; rintro e w1 ⟨rfl, hb2⟩))
      all_goals
        go_wp2
        go_roundw
        case rel => exact ⟨k + 1, by omega, by go_num, bstep hb.drew hb2 (Nat.le_refl _)⟩
        case measure => simp [intOf]; omega
    · obtain rfl : k = n := by omega
      go_wp2
      go_ret
      exact ⟨rfl, hb⟩
end Go.Proofs.YtipfcmfcdfofmaaGreat
