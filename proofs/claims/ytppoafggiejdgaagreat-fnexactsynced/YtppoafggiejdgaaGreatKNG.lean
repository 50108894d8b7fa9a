/-
  Lists of numbers: a sorted copy, whether they rise, whether all are right; made the program's.
-/
import Derived.Test.YtppoafggiejdgaaGreatKNSh
import Derived.Test.YtppoafggiejdgaaGreatKIG4
import Derived.Test.YtppoafggiejdgaaGreatKL4
namespace Go.Proofs.YtppoafggiejdgaaGreat.K.N
open Go.Shelf Go.RowKit Go.Joins
attribute [local go_sem] Oper.semAt_some

def encN (n : Int) : Value := .int .i64 n
theorem oneN : OneCell encN := fun _ => rfl
theorem flatI : ∀ L : List Int, kI.flat L = L.map encN
  | [] => rfl
  | a :: t => by rw [Kd.flat_cons, flatI t]; rfl
theorem oneIs (L : List Int) : ∀ u ∈ kI.flat L, u.oneCell' = true := fun u hu => by rw [flatI, List.mem_map] at hu; obtain ⟨n, _, rfl⟩ := hu; rfl
theorem madeI (n : Nat) : (madeCells #[.int .i64 0] n).toList = kI.flat (List.replicate n 0) := by
  rw [flatI]
  refine List.ext_getElem? fun i => ?_
  by_cases hi : i < n
  · simp [madeCells, hi, encN, Nat.mod_one]
  · rw [List.getElem?_eq_none (by simp [madeCells]; omega), List.getElem?_eq_none (by simp; omega)]

theorem sorted_own {w : World} {base g cap n m : Nat} {os : Array Obj} {L : List Int} {d' : Array Int} (h : w.ownsRow base 2 1 (.slice (some ⟨g, 0, none⟩) m cap) m (kI.flat L)) (hl : d'.size = m) :
    (sortWorld encN w g 0 n d' os).ownsRow base 2 1 (.slice (some ⟨g, 0, none⟩) m cap) m (kI.flat d'.toList) := by
  obtain ⟨h0, ⟨h1, _⟩ | ⟨g', cap', cur, e, hg, hh, hc, hm', hs, ht⟩⟩ := h
  · cases h1
  · injection e with e1 e2 e3
    injection e1 with e1
    injection e1 with e1
    subst e1 e3
    refine ⟨by rw [Kd.flat_len]; simp [hl, kI], .inr ⟨g, cap, Go.Sort.putCells encN 0 d' cur, rfl, hg, ?_, hc, hm', by simp [Go.Sort.putCells, hs], ?_⟩⟩
    · have hlt := (Array.getElem?_eq_some_iff.1 hh).1
      unfold sortWorld Go.Sort.putRow
      rw [Go.Sort.heap_grow_old _ _ (by simpa [Go.Sort.mapBlock, Go.Sort.ahead] using hlt)]
      simp [Go.Sort.mapBlock, Go.Sort.ahead, Array.getElem?_modify, hh, Go.Sort.onCells]
    · rw [flatI]
      refine List.ext_getElem? fun j => ?_
      by_cases hj : j < m * 1
      · rw [List.getElem?_take_of_lt hj, Array.getElem?_toList]
        have hjc : j < cur.size := by rw [hs]; omega
        have hjd : j < d'.size := by omega
        simp [Go.Sort.putCells, hjc, hjd]
      · rw [List.getElem?_take_eq_none (by omega), List.getElem?_eq_none (by simp; omega)]
theorem sorted_grown {w : World} {g n : Nat} {os : Array Obj} {d' : Array Int} : w.grownBy (sortWorld encN w g 0 n d' os) (some g) := by
  unfold sortWorld Go.Sort.putRow
  refine ⟨rfl, rfl, rfl, by simp [Go.Sort.mapBlock, Go.Sort.ahead, Go.Sort.grow], fun k hk hne => ?_⟩
  rw [Go.Sort.heap_grow_old _ _ (by simpa [Go.Sort.mapBlock, Go.Sort.ahead] using hk)]
  have : g ≠ k := fun e => hne (by rw [e])
  simp [Go.Sort.mapBlock, Go.Sort.ahead, Array.getElem?_modify, this]
theorem own_holds {w : World} {base g cap m : Nat} {L : List Int} (hm : L.length = m) (h : w.ownsRow base 2 1 (.slice (some ⟨g, 0, none⟩) m cap) m (kI.flat L)) : Go.Sort.Holds encN w g 0 L.toArray := by
  intro j hj
  have hj' : j < m * 1 := by simp at hj; omega
  rw [Nat.zero_add]
  refine ⟨?_, h.frozenAt j⟩
  rw [h.cellAt j hj', flatI, getElem!_pos _ j hj]
  simp at hj
  simp [hj]

def cfN (a b : Int) : Int := cmpZ a b
theorem cmpZ_neg {a b : Int} : cmpZ a b < 0 ↔ a < b := by unfold cmpZ; split <;> (try split) <;> omega
theorem ltN (a b : Int) : ltOf cfN a b = decide (a < b) := decide_eq_decide.mpr cmpZ_neg
theorem swoN : Go.Sort.SWO (ltOf cfN) where
  irrefl x := by rw [ltN]; simp
  trans x y z h1 h2 := by rw [ltN] at *; simp at *; omega
  ntrans x y z h1 h2 := by rw [ltN] at *; simp at *; omega
theorem cmpLaysN (blk off size : Nat) (w : World) : CmpLays1 Tryz.prog 68 #[] encN cfN blk off size w :=
  fun _ _ _ _ x y => (compare_any x y _).mono fun _ _ ⟨he, hw⟩ => ⟨he, 0, #[], by rw [hw, Go.Sort.grow_empty]; rfl⟩
theorem egN : ∀ args w, (callFunc 68 args).run Tryz.prog w = .ok (.enter 68 args) w := enters_of Tryz.func68 (by kernel_rfl) rfl

set_option maxRecDepth 100000 in
set_option maxHeartbeats 2000000 in
theorem sortFunc_any (base g cap : Nat) (L : List Int) (m : Nat) (hm : L.length = m) (w : World) (h : w.ownsRow base 2 1 (.slice (some ⟨g, 0, none⟩) m cap) m (kI.flat L)) (hn : m ≤ 100000) :
    Calls Tryz.prog 92 #[.slice (some ⟨g, 0, none⟩) m cap, .func (.func 68) #[] #[]] w fun e w' => e = .returned (.tuple #[]) ∧ ∃ S : List Int, S.Perm L ∧ S.Pairwise (fun a b => a ≤ b) ∧ w'.ownsRow base 2 1 (.slice (some ⟨g, 0, none⟩) m cap) m (kI.flat S) ∧ w.grownBy w' (some g) := by
  have hH := own_holds hm h
  have hsz : L.toArray.size = m := by simp [hm]
  have hblk := (h.lt g rfl).2
  generalize hd : L.toArray = d at hH hsz
  have hlim : Lib.bitLen d.size < 4611686018427387904 := Nat.lt_of_le_of_lt (Lib.bitLen_le d.size 62 (by omega) (by omega)) (by omega)
  have hp := Any.pdqsortCmpFunc_all Tryz.pdqN encN cfN 68 #[] swoN g 0 cap d w egN (cmpLaysN _ _ _ _) ⟨oneN, hH, hblk⟩ (d.size + 1) 0 d.size (Lib.bitLen d.size) d w (by omega) rfl (SW.start hH) (Nat.zero_le _) (Nat.le_refl _) (by omega) hlim (Or.inl rfl)
  have hsort := Go.Sort.pdq_sorts (ltOf cfN) swoN d 0 d.size (Lib.bitLen d.size) true true (Nat.zero_le _) (Nat.le_refl _) (Or.inl rfl)
  have hl : Calls Tryz.prog 96 #[.int .u64 (d.size : Int)] w fun e w' => e = .returned (.int .i64 (Lib.bitLen d.size : Nat)) ∧ w' = w := by
    have h := Any.bits_Len (SlLaysF0.n15.bits Tryz.lenI) (d.size : Int) w (by omega) (by omega)
    rw [Int.toNat_natCast] at h
    exact h
  change Calls Tryz.prog 95 _ _ _ at hp
  rw [hsz] at hp hl hsort
  generalize Go.Sort.pdq (ltOf cfN) d 0 m (Lib.bitLen m) true true = d' at hp hsort
  generalize Lib.bitLen m = bl at hp hl
  clear hH hlim
  go_enter Tryz.func92, Tryz.ntmps92
  go_wp2_with (first | (go_at_call 96; refine hl.mono ?_; rintro e w1 ⟨rfl, rfl⟩) | (go_at_call 95; refine hp.mono ?_; rintro e w1 ⟨rfl, n, os, rfl⟩))
  go_end0
  obtain ⟨⟨hs1, _, hperm⟩, hso⟩ := hsort
  have hds : d'.size = m := by omega
  have e1 : (d'.extract 0 m).toList = d'.toList := by rw [← hds]; simp
  have e2 : (d.extract 0 m).toList = d.toList := by rw [← hsz]; simp
  rw [e1, e2] at hperm
  have hdl : d.toList = L := by rw [← hd]
  refine ⟨rfl, d'.toList, ?_, ?_, sorted_own h hds, sorted_grown⟩
  · rw [← hdl]; exact hperm
  · rw [List.pairwise_iff_getElem]
    intro i j hi hj hij
    have := hso i j (Nat.zero_le _) hij (by simpa [hds] using hj)
    rw [getElem!_pos d' j (by simpa using hj), getElem!_pos d' i (by simpa using hi), ltN] at this
    have := of_decide_eq_false this
    simp
    omega

theorem run_copyN {W : World} {base g cap m : Nat} {M L : List Int} {a : Addr} {c : Nat} (hM : M.length = m) (h : W.ownsRow base 2 1 (.slice (some ⟨g, 0, none⟩) m cap) m (kI.flat M)) (hl : L.length = m) (hsrc : ∀ j u, (kI.flat L)[j]? = some u → W.cell? (a.add j) = some u) :
    ∃ W', (∀ ty, (Builtin.copy_ #[78, 78] ty #[.slice (some ⟨g, 0, none⟩) m cap, .slice (some a) m c]).run Tryz.prog W = .ok (goInt m) W') ∧ W'.ownsRow base 2 1 (.slice (some ⟨g, 0, none⟩) m cap) m (kI.flat L) ∧ W.grownBy W' (some g) := by
  obtain ⟨i0, hi, hz0, hz1, hz2⟩ := info_parts info2
  subst hM
  obtain ⟨W', h1, h2, h3⟩ := I.own_putG (K := kI) (B := L) h hl (oneIs L)
  have hld := run_loadCells_list (P := Tryz.prog) W a (kI.flat L) hsrc
  rw [Kd.flat_len, hl] at hld
  refine ⟨W', fun ty => ?_, by unfold OwG at h2; rw [hl] at h2; exact h2, h3⟩
  have hmin : Nat.min M.length M.length = M.length := Nat.min_self _
  have h3' : kI.n = 1 := rfl
  rw [h3', Nat.mul_one] at hld
  simp [Builtin.copy_, run_underlying Tryz.underlying78, Builtin.lenOf, Builtin.firstCells, sizeOf, typeInfo, hi, hz1, hmin, hld, h1]
set_option maxRecDepth 100000 in
set_option maxHeartbeats 2000000 in
theorem sorted_any (p : Option Addr) (cap : Nat) (L : List Int) (m : Nat) (hm : L.length = m) (w : World) (hL : SlG kI w p L) (hn : m ≤ 100000) :
    Calls Tryz.prog 81 #[.slice p m cap, .func (.func 68) #[] #[]] w fun e w' => ∃ q cap' S, e = .returned (.slice (some ⟨q, 0, none⟩) m cap') ∧ S.Perm L ∧ S.Pairwise (fun a b => a ≤ b) ∧ Sg w w' [rG kI (.slice (some ⟨q, 0, none⟩) m cap') S] := by
  obtain ⟨i0, hi, hz0, hz1, hz2⟩ := info_parts info2
  have hmk := run_make (P := Tryz.prog) w 78 2 i0 _ Tryz.underlying78 hi hz0 .i64 .i64 (m : Int) (m : Int) (by omega) (by omega) (by rw [hz2]; omega) (by omega)
  rw [hz1, Int.toNat_natCast, Nat.mul_one] at hmk
  have hrow0 : (w.alloc (.cells (madeCells #[.int .i64 0] m) 2)).ownsRow w.heap.size 2 1 (.slice (some ⟨w.heap.size, 0, none⟩) m m) m (kI.flat (List.replicate m 0)) := by
    have := World.ownsRow_lit (base := w.heap.size) (e := 2) (size := 1) w (madeCells #[.int .i64 0] m) m (Nat.le_refl _) (by unfold maxLen; omega) (by rw [size_madeCells, Nat.mul_one])
    rw [madeI] at this
    exact this
  have hb0 := below_alloc1 w (.cells (madeCells #[.int .i64 0] m) 2)
  have hcp : ∃ W1, (∀ ty, (Builtin.copy_ #[78, 78] ty #[.slice (some ⟨w.heap.size, 0, none⟩) m m, .slice p m cap]).run Tryz.prog (w.alloc (.cells (madeCells #[.int .i64 0] m) 2)) = .ok (goInt m) W1) ∧ W1.ownsRow w.heap.size 2 1 (.slice (some ⟨w.heap.size, 0, none⟩) m m) m (kI.flat L) ∧ (w.alloc (.cells (madeCells #[.int .i64 0] m) 2)).grownBy W1 (some w.heap.size) := by
    rcases hL with h | ⟨g, off, h, hC⟩
    · subst h
      simp at hm
      subst hm
      cases p with
      | none => exact ⟨_, fun ty => by simp [Builtin.copy_, run_underlying Tryz.underlying78, Builtin.lenOf, Builtin.firstCells, sizeOf, typeInfo, hi]; rfl, hrow0, ⟨rfl, rfl, rfl, Nat.le_refl _, fun _ _ _ => rfl⟩⟩
      | some ad => exact run_copyN (M := []) (L := []) rfl hrow0 rfl (fun j u hj => by simp [Kd.flat] at hj)
    · subst h
      exact run_copyN (M := List.replicate m 0) (L := L) (by simp) hrow0 hm (cs_src (hC.step hb0))
  obtain ⟨W1, hcp, hO1, hg1⟩ := hcp
  have hb1 : Below w.heap.size w W1 := ⟨hg1.os.trans hb0.os, hg1.tape.trans hb0.tape, hg1.output.trans hb0.output, Nat.le_trans hb0.size hg1.size, fun k hk => (hg1.block k (by simp; omega) (by simp; omega)).trans (hb0.block k hk)⟩
  have HS := sortFunc_any w.heap.size w.heap.size m L m hm W1 hO1 hn
  clear hrow0 hb0 hL
  go_enter Tryz.func81, Tryz.ntmps81
  go_wp2_with (go_at_call 92; refine HS.mono ?_; rintro e w2 ⟨rfl, S, hS1, hS2, hS3, hS4⟩)
  go_ret
  have hSl := hS1.length_eq
  refine ⟨w.heap.size, m, S, rfl, hS1, hS2, ⟨⟨hS4.os.trans hb1.os, hS4.tape.trans hb1.tape, hS4.output.trans hb1.output, Nat.le_trans hb1.size hS4.size, fun k hk => (hS4.block k (Nat.lt_of_lt_of_le hk hb1.size) (by simp; omega)).trans (hb1.block k hk)⟩, fun r hr => ?_, by simp⟩⟩
  simp at hr
  subst hr
  unfold Rw.own rG
  simp only [hSl, hm]
  exact hS3
end Go.Proofs.YtppoafggiejdgaaGreat.K.N
