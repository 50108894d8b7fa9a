/-
  The laws' looks at lists of texts: how much there is of them, a copy, whether two are alike; the laws of Seal and Longer walked, and that of Chain.
-/
import Derived.Test.YtmphjakdmknkhaaA4
import Derived.Deep.RegionWith
namespace Go.Proofs.Ytmphjakdmknkhaa
open Go.RowKit Go.Joins
attribute [local go_sem] Oper.semAt_some

set_option maxHeartbeats 1000000 in
theorem exactSeal_walk (key : Int) (s : ByteArray) (w : World) (hm : s.size ≤ maxLen) :
    Calls Try.prog 4 #[.int .i64 key, .string s] w fun e w' => e = .returned (.bool true) ∧ Below w.heap.size w w' := by
  unfold maxLen at hm
  by_cases h : s.size ≤ 1048576
  · have h' : ¬ (1048576 : Int) < s.size := by omega
    have hn : s.size ≤ 10000000 := by omega
    go_enter Try.func4, Try.ntmps4
    go_wp2_with (first | (go_at_call 16; refine (sSeal_any _ _ _ hn).mono ?_; rintro e w1 ⟨rfl, hw1⟩; obtain rfl := hw1.symm) | (go_at_call 13; refine (iSeal_any _ _ _ hn).mono ?_; rintro e w1 ⟨rfl, hb⟩))
    go_ret
    exact ⟨rfl, hb⟩
  · have h' : (1048576 : Int) < s.size := by omega
    go_enter Try.func4, Try.ntmps4
    go_wp2
    go_ret
    exact ⟨rfl, Below.refl _ _⟩

set_option maxHeartbeats 1000000 in
theorem exactLonger_walk (key : Int) (s : ByteArray) (w : World) (hm : s.size ≤ maxLen) :
    Calls Try.prog 6 #[.int .i64 key, .string s] w fun e w' => e = .returned (.bool true) ∧ Below w.heap.size w w' := by
  unfold maxLen at hm
  by_cases h : s.size ≤ 1048576
  · have h' : ¬ (1048576 : Int) < s.size := by omega
    have hn : s.size ≤ 10000000 := by omega
    go_enter Try.func6, Try.ntmps6
    go_wp2_with (first | (go_at_call 15; refine (sLonger_any _ _ _ hn).mono ?_; rintro e w1 ⟨rfl, hw1⟩; obtain rfl := hw1.symm) | (go_at_call 11; refine (iLonger_any _ _ _ hn).mono ?_; rintro e w1 ⟨rfl, hb⟩))
    go_ret
    exact ⟨rfl, hb⟩
  · have h' : (1048576 : Int) < s.size := by omega
    go_enter Try.func6, Try.ntmps6
    go_wp2
    go_ret
    exact ⟨rfl, Below.refl _ _⟩

/-- What is there, all in all, of the first texts. -/
def szL (L : List ByteArray) : Nat := (L.map ByteArray.size).foldr (· + ·) 0
theorem szL_nil : szL [] = 0 := rfl
theorem szL_cons (s : ByteArray) (L : List ByteArray) : szL (s :: L) = s.size + szL L := rfl
theorem szL_app : ∀ A B : List ByteArray, szL (A ++ B) = szL A + szL B
  | [], B => by simp [szL_nil]
  | a :: A, B => by rw [List.cons_append, szL_cons, szL_cons, szL_app A B]; omega
theorem szL_take {L : List ByteArray} {k : Nat} (hk : k < L.length) : szL (L.take (k + 1)) = szL (L.take k) + (L.getD k zT).size := by
  rw [List.take_add_one, szL_app, getT hk]; rfl
theorem szL_le (L : List ByteArray) (k : Nat) : szL (L.take k) ≤ szL L := by
  have e : szL L = szL (L.take k) + szL (L.drop k) := by rw [← szL_app, List.take_append_drop]
  omega
theorem szL_mem {L : List ByteArray} {s : ByteArray} (h : s ∈ L) : s.size ≤ szL L := by
  induction L with
  | nil => cases h
  | cons a t ih =>
    rw [szL_cons]
    rcases List.mem_cons.mp h with rfl | h
    · omega
    · have := ih h; omega

def smallL (n : Nat) (L : List ByteArray) : Prop := n ≤ 1048576 ∧ szL L ≤ 1048576
set_option maxHeartbeats 1000000 in
theorem sz_any (p : Option Addr) (n cap : Nat) (L : List ByteArray) (hn : L.length = n) (w : World) (hL : SlG kT w p L) (hz : Hid (∀ s ∈ L, s.size ≤ maxLen)) (hb0 : n ≤ maxLen) :
    Calls Try.prog 18 #[.slice p n cap, .int .i64 1048576] w fun e w' => (∃ r : Int, e = .returned (.int .i64 r) ∧ (0 ≤ r → smallL n L)) ∧ w' = w := by
  have HN : Hid (L.length = n) := hn
  clear hn
  unfold maxLen at hb0
  by_cases hbig : n ≤ 1048576
  · have hb1 : ¬ (1048576 : Int) < n := by omega
    have hb2 : ¬ (1048576 : Int) - n < 0 := by omega
    go_enter Try.func18, Try.ntmps18
    go_wp2
    go_loop [1, 5] (fun t i => ∃ (k : Nat) (x : Int), k ≤ n ∧ i = .int .i64 k ∧ t = .int .i64 x ∧ 0 ≤ x ∧ x ≤ 1048576 ∧ Hid (x = 1048576 - n - szL (L.take k))) (fun _ i => n - (intOf i).toNat)
    case atStart => exact ⟨0, _, by omega, rfl, rfl, by omega, by omega, by show _ = _; simp [szL_nil]⟩
    case round =>
      obtain ⟨k, x, hk, rfl, rfl, hx0, hx1, hx⟩ := hrel
      by_cases hlt : k < n
      · have hki : (k : Int) < n := by omega
        have hkL : k < L.length := by rw [HN.out]; exact hlt
        obtain ⟨g, off, rfl, hC⟩ := hL.at hkL
        have c0 := hC.str (getT hkL)
        have e1 := szL_take hkL
        have e2 := szL_le L (k + 1)
        have hsz : (L.getD k zT).size ≤ maxLen := hz.out _ (by simp [List.getD, hkL])
        unfold maxLen at hsz
        have HE : Hid (szL (L.take (k + 1)) = szL (L.take k) + (L.getD k zT).size ∧ szL (L.take (k + 1)) ≤ szL L) := ⟨e1, e2⟩
        clear e1 e2 hC hkL
        generalize L.getD k zT = s at c0 HE hsz
        by_cases hlt2 : x - s.size < 0
        · go_wp2
          go_ret
          exact ⟨⟨_, rfl, fun h => by omega⟩, rfl⟩
        · go_wp2
          go_round
          case rel => exact ⟨k + 1, _, by omega, by go_num, rfl, by omega, by omega, by have h1 := HE.out.1; have h2 := hx.out; show _ = _; omega⟩
          case measure => simp [intOf]; omega
      · obtain rfl : k = n := by omega
        go_wp2
        go_ret
        refine ⟨⟨_, rfl, fun _ => ⟨hbig, ?_⟩⟩, rfl⟩
        have h := hx.out
        rw [← HN.out, List.take_length] at h
        omega
  · have hb2 : (1048576 : Int) - n < 0 := by omega
    go_enter Try.func18, Try.ntmps18
    go_wp2
    go_ret
    exact ⟨⟨_, rfl, fun h => by omega⟩, rfl⟩
theorem made_flatT (n : Nat) : (madeCells #[.string ByteArray.empty] (n * 1)).toList = kT.flat (List.replicate n zT) := by
  have hr : kT.flat (List.replicate n zT) = List.replicate (n * 1) (.string ByteArray.empty) := by
    induction n with
    | zero => rfl
    | succ n ih => rw [List.replicate_succ, Kd.flat_cons, ih, show (n + 1) * 1 = n * 1 + 1 by omega]; simp [kT, zT, List.replicate_succ]
  rw [hr]
  refine List.ext_getElem? fun i => ?_
  by_cases hi : i < n * 1
  · simp at hi; simp [madeCells, hi, Nat.mod_one]
  · simp at hi; simp [madeCells, hi]
theorem Sg.setS {w W : World} {A Bs : List Rw} {g n c : Nat} {M : List ByteArray} (h : Sg w W (A ++ rG kT (.slice (some ⟨g, 0, none⟩) n c) M :: Bs)) {k : Nat} (hk : k < M.length) (z : ByteArray) :
    Sg w (W.setCell ⟨g, k, none⟩ (.string z)) (A ++ rG kT (.slice (some ⟨g, 0, none⟩) n c) (M.set k z) :: Bs) := by
  refine Sg.set h k (.string z) (by simp) ?_
  have hl := Kd.flat_len (K := kT) M
  rw [Kd.flat_set z hk]
  show (kT.flat M).take (k * 1) ++ [.string z] ++ (kT.flat M).drop (k * 1 + 1) = _
  rw [List.set_eq_take_append_cons_drop, if_pos (by rw [hl]; show k < M.length * 1; omega), Nat.mul_one]; simp
set_option maxRecDepth 100000 in
set_option maxHeartbeats 2000000 in
theorem toStringS_any (p : Option Addr) (n cap : Nat) (L : List ByteArray) (hn : L.length = n) (w : World) (hL : SlG kT w p L) (hb : n ≤ 10000000) :
    Calls Try.prog 19 #[.slice p n cap] w fun e w' => ∃ g, e = .returned (.slice (some ⟨g, 0, none⟩) n n) ∧ Sg w w' [rG kT (.slice (some ⟨g, 0, none⟩) n n) L] := by
  obtain ⟨i0, hi, hz0, hz1, hz2⟩ := info_parts info9
  have hmk := run_make (P := Try.prog) w 24 9 i0 _ Try.underlying24 hi hz0 .i64 .i64 (n : Int) (n : Int) (by omega) (by omega) (by rw [hz2]; omega) (by omega)
  rw [hz1, Int.toNat_natCast] at hmk
  have hS0 : Sg w (w.alloc (.cells (madeCells #[.string ByteArray.empty] (n * 1)) 9)) [rG kT (.slice (some ⟨w.heap.size, 0, none⟩) n n) (List.replicate n zT)] := by
    have h := World.ownsRow_lit (base := w.heap.size) (e := 9) (size := 1) w (madeCells #[.string ByteArray.empty] (n * 1)) n (Nat.le_refl _) (by unfold maxLen; omega) (size_madeCells _ _)
    rw [made_flatT] at h
    refine ⟨below_alloc1 _ _, fun r hr => ?_, by simp⟩
    simp at hr
    subst hr
    unfold Rw.own rG
    simp only [List.length_replicate]
    exact h
  simp only [Nat.mul_one] at hmk hS0
  have HN : Hid (L.length = n) := hn
  clear hn
  go_enter Try.func19, Try.ntmps19
  go_wp2
  go_loopw [4] (fun iv wr => ∃ (k : Nat) (M : List ByteArray), k ≤ n ∧ iv = .int .i64 k ∧ Hid (M.length = n ∧ ∀ j, j < k → M[j]? = L[j]?) ∧ Sg w wr [rG kT (.slice (some ⟨w.heap.size, 0, none⟩) n n) M]) (fun iv _ => n - (intOf iv).toNat)
  case atStart => exact ⟨0, _, by omega, rfl, ⟨by simp, fun j hj => by omega⟩, hS0⟩
  case round =>
    clear hS0 hmk
    obtain ⟨k, M, hk, rfl, hM, hS⟩ := hrel
    by_cases hlt : k < n
    · have hki : (k : Int) < n := by omega
      have hkL : k < L.length := by rw [HN.out]; exact hlt
      have hkM : k < M.length := by rw [hM.out.1]; exact hlt
      obtain ⟨g, off, rfl, hC⟩ := (hL.step hS.bel).at hkL
      have c0 := hC.str (getT hkL)
      have hgk := getT hkL
      obtain ⟨m, hm⟩ : ∃ m, L.getD k zT = m := ⟨_, rfl⟩
      rw [hm] at c0 hgk
      have HGK : Hid (L[k]? = some m ∧ k < M.length) := ⟨hgk, hkM⟩
      have ho := hS.mem (K := kT) (v := .slice (some ⟨w.heap.size, 0, none⟩) n n) (L := M) (by simp)
      have hf := OwG.fz ho
      have d0 := (OwG.cs ho).str (getT hkM)
      simp only [Nat.zero_add] at d0
      clear ho hgk hm hC hkL hkM
      have hS2 := Sg.setS (A := []) hS HGK.out.2 m
      go_wp2
      go_roundw
      case rel =>
        refine ⟨k + 1, M.set k m, by omega, by go_num, ⟨by simp [hM.out.1], fun j hj => ?_⟩, hS2⟩
        by_cases e : k = j
        · subst e; rw [List.getElem?_set_self HGK.out.2, HGK.out.1]
        · rw [List.getElem?_set_ne e]; exact hM.out.2 j (by omega)
      case measure => simp [intOf]; omega
    · obtain rfl : k = n := by omega
      have e : M = L := List.ext_getElem? fun j => by
        by_cases hj : j < k
        · exact hM.out.2 j hj
        · rw [List.getElem?_eq_none (by rw [hM.out.1]; omega), List.getElem?_eq_none (by rw [HN.out]; omega)]
      subst e
      go_wp2
      go_ret
      exact ⟨_, rfl, hS⟩
set_option maxHeartbeats 1000000 in
theorem eqStringS_same (p q : Option Addr) (cap cap' : Nat) (L : List ByteArray) (n : Nat) (hn : L.length = n) (w : World) (hp : SlG kT w p L) (hq : SlG kT w q L) (_hb : n ≤ 10000000) :
    Calls Try.prog 20 #[.slice p n cap, .slice q n cap'] w fun e w' => e = .returned (.bool true) ∧ Below w.heap.size w w' := by
  have HN : Hid (L.length = n) := hn
  clear hn
  go_enter Try.func20, Try.ntmps20
  go_wp2
  go_loopw [5] (fun i wr => ∃ k : Nat, k ≤ n ∧ i = .int .i64 k ∧ Below w.heap.size w wr) (fun i _ => n - (intOf i).toNat)
  case atStart => exact ⟨0, by omega, rfl, Below.refl _ _⟩
  case round =>
    obtain ⟨k, hk, rfl, hb⟩ := hrel
    by_cases hlt : k < n
    · have hki : (k : Int) < n := by omega
      have hkL : k < L.length := by rw [HN.out]; exact hlt
      obtain ⟨g, off, rfl, hC⟩ := (hp.step hb).at hkL
      obtain ⟨g2, off2, rfl, hC2⟩ := (hq.step hb).at hkL
      have c0 := hC.str (getT hkL)
      have d0 := hC2.str (getT hkL)
      clear hC hC2 hkL
      generalize L.getD k zT = s at c0 d0
      go_wp2
      go_region_with fail
      all_goals
        go_wp2
        go_roundw
        case rel => exact ⟨k + 1, by omega, by go_num, hb.drew⟩
        case measure => simp [intOf]; omega
    · obtain rfl : k = n := by omega
      go_wp2
      go_ret
      exact ⟨rfl, hb⟩

set_option maxRecDepth 100000 in
set_option maxHeartbeats 2000000 in
theorem exactChain_walk (key : Int) (p : Option Addr) (cap : Nat) (L : List ByteArray) (w : World) (hL : SlG kT w p L) (hz : Hid (∀ s ∈ L, s.size ≤ maxLen)) (hb0 : L.length ≤ maxLen) :
    Calls Try.prog 5 #[.int .i64 key, .slice p L.length cap] w fun e w' => e = .returned (.bool true) ∧ Below w.heap.size w w' := by
  obtain ⟨n, hn⟩ : ∃ n, L.length = n := ⟨_, rfl⟩
  rw [hn]
  have hb0' : n ≤ maxLen := hn ▸ hb0
  clear hb0
  have HN : Hid (L.length = n) := hn
  clear hn
  obtain ⟨x, hx⟩ : ∃ x, chI key L = x := ⟨_, rfl⟩
  go_enter Try.func5, Try.ntmps5
  go_wp2_with (go_at_call 18; refine (sz_any p n cap L HN.out _ hL hz hb0').mono ?_; rintro e w1 ⟨⟨r, rfl, hr⟩, hw1⟩; obtain rfl := hw1.symm; have HR : Hid (0 ≤ r → smallL n L) := hr; clear hr; by_cases hr0 : r < 0)
  · go_wp2
    go_ret
    exact ⟨rfl, Below.refl _ _⟩
  · obtain ⟨hn1, hn2⟩ := HR.out (by omega)
    have HZ : Hid (∀ s ∈ L, s.size ≤ 10000000) := fun s hs => by have := szL_mem hs; omega
    have hn3 : n ≤ 10000000 := by omega
    clear HR hn2 hz hb0'
    have h0 : True := trivial
    go_wp2_with (first
      | (go_at_call 19; clear h0; refine (toStringS_any p n cap L HN.out _ hL hn3).mono ?_; rintro e w1 ⟨g1, rfl, hS1⟩; have h1 : True := trivial)
      | (go_at_call 14; refine (sChain_any key _ n n L HN.out _ (OwG.sl (hS1.mem (K := kT) (v := .slice (some ⟨g1, 0, none⟩) n n) (L := L) (by simp))) hn3).mono ?_; rintro e w2 ⟨rfl, hw2⟩; obtain rfl := hw2.symm)
      | (go_at_call 19; clear h1; refine (toStringS_any p n cap L HN.out _ (hL.step hS1.bel) hn3).mono ?_; rintro e w3 ⟨g3, rfl, hS3⟩; have h2 : True := trivial)
      | (go_at_call 9; refine (iChain_any key _ n n L HN.out _ (OwG.sl (hS3.mem (K := kT) (v := .slice (some ⟨g3, 0, none⟩) n n) (L := L) (by simp))) HZ hn3).mono ?_; rintro e w4 ⟨rfl, hb4⟩; have hS4 := hS3.step hb4)
      | (go_at_call 19; clear h2; refine (toStringS_any p n cap L HN.out _ ((hL.step hS1.bel).step hS4.bel) hn3).mono ?_; rintro e w5 ⟨g5, rfl, hS5⟩)
      | (go_at_call 20; refine (eqStringS_same _ _ n n L n HN.out _ ((OwG.sl (hS4.mem (K := kT) (v := .slice (some ⟨g3, 0, none⟩) n n) (L := L) (by simp))).step hS5.bel) (OwG.sl (hS5.mem (K := kT) (v := .slice (some ⟨g5, 0, none⟩) n n) (L := L) (by simp))) hn3).mono ?_; rintro e w6 ⟨rfl, hb6⟩))
    go_ret
    exact ⟨rfl, bstep (bstep (bstep hS1.bel hS4.bel (Nat.le_refl _)) hS5.bel (Nat.le_refl _)) hb6 (Nat.le_refl _)⟩
end Go.Proofs.Ytmphjakdmknkhaa
