/-
  A sorted copy of a list of Items.
-/
import Derived.Shelf.SlSortCmp.WholeK
import Derived.Shelf.SlGeneric
import Derived.Ground.SlsfProg
import Derived.Test.YtobbankkfplooaaGreatRows
import Derived.Test.YtobbankkfplooaaGreatKIB1
import Derived.Test.YtobbankkfplooaaGreatKIL1
import Derived.Sort.OwnSorted
import Derived.Deep.Cut
import Derived.Deep.CutBlock
namespace Go.Proofs
open Go.Shelf
def Tryz.pdqI_ren : Go.Shelf.Ren := ⟨fun | 14 => 117 | 20 => 119 | 21 => 120 | 22 => 121 | 23 => 122 | 24 => 123 | 25 => 124 | 26 => 125 | 27 => 126 | 46 => 129 | 47 => 130 | 48 => 131 | 49 => 132 | 50 => 133 | 15 => 118 | 57 => 134 | 28 => 127 | 29 => 128 | n => n, fun | 24 => 91 | 22 => 65 | 3 => 3 | 25 => 146 | 4 => 4 | 0 => 0 | 46 => 155 | 45 => 154 | 50 => 159 | 66 => 163 | 39 => 116 | 55 => 129 | 70 => 167 | 76 => 169 | 77 => 170 | 53 => 126 | 5 => 5 | 9 => 9 | n => n, fun | n => n⟩
theorem Tryz.pdqI : Go.Proofs.SlLaysF0.n14 Tryz.prog Tryz.pdqI_ren := {
  mixed := by kernel_rfl
  f14 := ⟨Tryz.f117.name, by decide, Tryz.func117.trans (congrArg some (by kernel_rfl))⟩
  f15 := Tryz.func118.trans (congrArg some (by kernel_rfl))
  f20 := ⟨Tryz.f119.name, by decide, Tryz.func119.trans (congrArg some (by kernel_rfl))⟩
  f21 := ⟨Tryz.f120.name, by decide, Tryz.func120.trans (congrArg some (by kernel_rfl))⟩
  f22 := ⟨Tryz.f121.name, by decide, Tryz.func121.trans (congrArg some (by kernel_rfl))⟩
  f23 := ⟨Tryz.f122.name, by decide, Tryz.func122.trans (congrArg some (by kernel_rfl))⟩
  f24 := ⟨Tryz.f123.name, by decide, Tryz.func123.trans (congrArg some (by kernel_rfl))⟩
  f25 := ⟨Tryz.f124.name, by decide, Tryz.func124.trans (congrArg some (by kernel_rfl))⟩
  f26 := ⟨Tryz.f125.name, by decide, Tryz.func125.trans (congrArg some (by kernel_rfl))⟩
  f27 := ⟨Tryz.f126.name, by decide, Tryz.func126.trans (congrArg some (by kernel_rfl))⟩
  f28 := Tryz.func127.trans (congrArg some (by kernel_rfl))
  f29 := Tryz.func128.trans (congrArg some (by kernel_rfl))
  f46 := ⟨Tryz.f129.name, by decide, Tryz.func129.trans (congrArg some (by kernel_rfl))⟩
  f47 := Tryz.func130.trans (congrArg some (by kernel_rfl))
  f48 := Tryz.func131.trans (congrArg some (by kernel_rfl))
  f49 := ⟨Tryz.f132.name, by decide, Tryz.func132.trans (congrArg some (by kernel_rfl))⟩
  f50 := ⟨Tryz.f133.name, by decide, Tryz.func133.trans (congrArg some (by kernel_rfl))⟩
  f57 := ⟨Tryz.f134.name, by decide, Tryz.func134.trans (congrArg some (by kernel_rfl))⟩
  t0 := Tryz.underlying0
  a0 := Tryz.isAgg0
  z0 := Tryz.sizeOf0
  v0 := Tryz.zeroValue0
  t3 := Tryz.underlying3
  a3 := Tryz.isAgg3
  z3 := Tryz.sizeOf3
  v3 := Tryz.zeroValue3
  t4 := Tryz.underlying4
  a4 := Tryz.isAgg4
  z4 := Tryz.sizeOf4
  v4 := Tryz.zeroValue4
  t5 := Tryz.underlying5
  a5 := Tryz.isAgg5
  z5 := Tryz.sizeOf5
  v5 := Tryz.zeroValue5
  t9 := Tryz.underlying9
  a9 := Tryz.isAgg9
  z9 := Tryz.sizeOf9
  v9 := Tryz.zeroValue9
  t22 := Tryz.underlying65
  a22 := Tryz.isAgg65
  z22 := Tryz.sizeOf65
  v22 := Tryz.zeroValue65
  t25 := Tryz.underlying146
  a25 := Tryz.isAgg146
  z25 := Tryz.sizeOf146
  v25 := Tryz.zeroValue146
  t39 := Tryz.underlying116
  a39 := Tryz.isAgg116
  z39 := Tryz.sizeOf116
  v39 := Tryz.zeroValue116
  t45 := Tryz.underlying154
  a45 := Tryz.isAgg154
  z45 := Tryz.sizeOf154
  v45 := Tryz.zeroValue154
  t46 := Tryz.underlying155
  a46 := Tryz.isAgg155
  z46 := Tryz.sizeOf155
  v46 := Tryz.zeroValue155
  t50 := Tryz.underlying159
  a50 := Tryz.isAgg159
  z50 := Tryz.sizeOf159
  v50 := Tryz.zeroValue159
  t53 := Tryz.underlying126
  a53 := Tryz.isAgg126
  z53 := Tryz.sizeOf126
  v53 := Tryz.zeroValue126
  t55 := Tryz.underlying129
  a55 := Tryz.isAgg129
  z55 := Tryz.sizeOf129
  v55 := Tryz.zeroValue129
  t66 := Tryz.underlying163
  a66 := Tryz.isAgg163
  z66 := Tryz.sizeOf163
  v66 := Tryz.zeroValue163
  t70 := Tryz.underlying167
  a70 := Tryz.isAgg167
  z70 := Tryz.sizeOf167
  v70 := Tryz.zeroValue167
  t76 := Tryz.underlying169
  a76 := Tryz.isAgg169
  z76 := Tryz.sizeOf169
  v76 := Tryz.zeroValue169
  t77 := Tryz.underlying170
  a77 := Tryz.isAgg170
  z77 := Tryz.sizeOf170
  v77 := Tryz.zeroValue170 }
def Tryz.lenI_ren : Go.Shelf.Ren := ⟨fun | 15 => 118 | 28 => 127 | 29 => 128 | n => n, fun | 39 => 116 | 3 => 3 | 53 => 126 | 55 => 129 | 4 => 4 | 5 => 5 | 9 => 9 | n => n, fun | n => n⟩
theorem Tryz.lenI : Go.Proofs.SlLaysF0.n15 Tryz.prog Tryz.lenI_ren := {
  mixed := by kernel_rfl
  f15 := Tryz.func118.trans (congrArg some (by kernel_rfl))
  f28 := Tryz.func127.trans (congrArg some (by kernel_rfl))
  f29 := Tryz.func128.trans (congrArg some (by kernel_rfl))
  t3 := Tryz.underlying3
  a3 := Tryz.isAgg3
  z3 := Tryz.sizeOf3
  v3 := Tryz.zeroValue3
  t4 := Tryz.underlying4
  a4 := Tryz.isAgg4
  z4 := Tryz.sizeOf4
  v4 := Tryz.zeroValue4
  t5 := Tryz.underlying5
  a5 := Tryz.isAgg5
  z5 := Tryz.sizeOf5
  v5 := Tryz.zeroValue5
  t9 := Tryz.underlying9
  a9 := Tryz.isAgg9
  z9 := Tryz.sizeOf9
  v9 := Tryz.zeroValue9
  t39 := Tryz.underlying116
  a39 := Tryz.isAgg116
  z39 := Tryz.sizeOf116
  v39 := Tryz.zeroValue116
  t53 := Tryz.underlying126
  a53 := Tryz.isAgg126
  z53 := Tryz.sizeOf126
  v53 := Tryz.zeroValue126
  t55 := Tryz.underlying129
  a55 := Tryz.isAgg129
  z55 := Tryz.sizeOf129
  v55 := Tryz.zeroValue129 }
end Go.Proofs
namespace Go.Proofs.YtobbankkfplooaaGreat.K.I
open Go.Shelf Go.RowKit Go.Joins
attribute [local go_sem] Oper.semAt_some

def tri (p : Int × Int × Int × Int × ByteArray) : Rc := ⟨p.1, p.2.1, p.2.2.1, p.2.2.2.1, p.2.2.2.2⟩
def pk (c : Rc) : Int × Int × Int × Int × ByteArray := (c.t, c.i, c.x, c.y, c.s)
def encP (p : Int × Int × Int × Int × ByteArray) : List Value := kR.vs (tri p)
theorem tri_p (c : Rc) : tri (pk c) = c := rfl
theorem encP_len (p : Int × Int × Int × Int × ByteArray) : (encP p).length = 5 := rfl
theorem encP_one (p : Int × Int × Int × Int × ByteArray) : ∀ v ∈ encP p, v.oneCell' = true := fun v hv => by simp [encP, kR] at hv; rcases hv with rfl | rfl | rfl | rfl | rfl <;> rfl

theorem flatK_flat (d : Array (Int × Int × Int × Int × ByteArray)) : (Go.Sort.flatK encP 5 d).toList = kR.flat (d.toList.map tri) := by
  refine List.ext_getElem? fun t => ?_
  have hl : (kR.flat (d.toList.map tri)).length = d.size * 5 := by rw [Kd.flat_len]; simp [kR]
  by_cases ht : t < d.size * 5
  · have hk : t / 5 < d.size := by omega
    have hg : (d.toList.map tri)[t / 5]? = some (tri d[t / 5]) := by simp [hk]
    have f0 := Kd.flat_get (K := kR) hg (i := t % 5) (Nat.mod_lt _ (by decide))
    have e3 : t / 5 * kR.n + t % 5 = t := by show t / 5 * 5 + t % 5 = t; omega
    rw [e3] at f0
    have e1 : (Go.Sort.flatK encP 5 d).toList[t]? = some ((encP d[t / 5]!)[t % 5]!) := by
      rw [List.getElem?_eq_getElem (by simp; omega)]
      congr 1
      have := Go.Sort.get_flatK encP 5 d t ht
      rw [getElem!_pos _ t (by simp; omega)] at this
      simpa using this
    rw [e1, getElem!_pos d (t / 5) hk, f0]
    have hlt : t % 5 < (encP d[t / 5]).length := by rw [encP_len]; exact Nat.mod_lt _ (by decide)
    rw [getElem!_pos (encP d[t / 5]) (t % 5) hlt]
    exact (List.getElem?_eq_getElem hlt).symm
  · rw [List.getElem?_eq_none (by simp; omega), List.getElem?_eq_none (by omega)]

theorem sorted_own {w : World} {base g cap n m : Nat} {os : Array Obj} {L : List Rc} {d' : Array (Int × Int × Int × Int × ByteArray)} (h : w.ownsRow base 91 5 (.slice (some ⟨g, 0, none⟩) m cap) m (kR.flat L)) (hl : d'.size = m) :
    (sortWorldK encP 5 w g 0 n d' os).ownsRow base 91 5 (.slice (some ⟨g, 0, none⟩) m cap) m (kR.flat (d'.toList.map tri)) := by
  obtain ⟨h0, ⟨h1, _⟩ | ⟨g', cap', cur, e, hg, hh, hc, hm', hs, ht⟩⟩ := h
  · cases h1
  · injection e with e1 e2 e3
    injection e1 with e1
    injection e1 with e1
    subst e1 e3
    have hlen : (d'.toList.map tri).length = m := by simp [hl]
    refine ⟨by rw [Kd.flat_len, hlen]; rfl, .inr ⟨g, cap, Go.Sort.putCells id 0 (Go.Sort.flatK encP 5 d') cur, rfl, hg, ?_, hc, hm', by simp [Go.Sort.putCells, hs], ?_⟩⟩
    · have hlt := (Array.getElem?_eq_some_iff.1 hh).1
      unfold sortWorldK Go.Sort.putRowK Go.Sort.putRow
      rw [Go.Sort.heap_grow_old _ _ (by simpa [Go.Sort.mapBlock, Go.Sort.ahead] using hlt)]
      simp [Go.Sort.mapBlock, Go.Sort.ahead, Array.getElem?_modify, hh, Go.Sort.onCells]
    · rw [← flatK_flat]
      refine List.ext_getElem? fun j => ?_
      have hfs : (Go.Sort.flatK encP 5 d').size = m * 5 := by simp [hl]
      by_cases hj : j < m * 5
      · rw [List.getElem?_take_of_lt hj, Array.getElem?_toList]
        have hjc : j < cur.size := by rw [hs]; have := Nat.mul_le_mul_right 5 hc; omega
        simp [Go.Sort.putCells, hjc, hj, hl]
      · rw [List.getElem?_take_eq_none (by omega), List.getElem?_eq_none (by simp; omega)]
theorem sorted_grown {w : World} {g n : Nat} {os : Array Obj} {d' : Array (Int × Int × Int × Int × ByteArray)} : w.grownBy (sortWorldK encP 5 w g 0 n d' os) (some g) := by
  unfold sortWorldK Go.Sort.putRowK Go.Sort.putRow
  refine ⟨rfl, rfl, rfl, by simp [Go.Sort.mapBlock, Go.Sort.ahead, Go.Sort.grow], fun k hk hne => ?_⟩
  rw [Go.Sort.heap_grow_old _ _ (by simpa [Go.Sort.mapBlock, Go.Sort.ahead] using hk)]
  have : g ≠ k := fun e => hne (by rw [e])
  simp [Go.Sort.mapBlock, Go.Sort.ahead, Array.getElem?_modify, this]
theorem own_holds {w : World} {base g cap m : Nat} {L : List Rc} (hm : L.length = m) (h : w.ownsRow base 91 5 (.slice (some ⟨g, 0, none⟩) m cap) m (kR.flat L)) : Go.Sort.HoldsK encP 5 w g 0 (L.map pk).toArray := by
  intro j hj
  have hs : (Go.Sort.flatK encP 5 (L.map pk).toArray).size = m * 5 := by simp [hm]
  have hj' : j < m * 5 := by omega
  have hfl := flatK_flat (L.map pk).toArray
  have hmm : ((L.map pk).toArray.toList.map tri) = L := by simp [Function.comp_def, tri_p]
  rw [hmm] at hfl
  rw [Nat.zero_add]
  refine ⟨?_, h.frozenAt j⟩
  rw [h.cellAt j hj', ← hfl, getElem!_pos _ j hj]
  simp

/-- Which comes first: by Id. -/
def cfI (p q : Int × Int × Int × Int × ByteArray) : Int := cmpI (tri p) (tri q)
theorem ltP (p q : Int × Int × Int × Int × ByteArray) : ltOf cfI p q = decide (p.2.1 < q.2.1) := decide_eq_decide.mpr (cmpI_neg.trans lessB_iff)
theorem swoP : Go.Sort.SWO (ltOf cfI) where
  irrefl x := by rw [ltP]; simp
  trans x y z h1 h2 := by rw [ltP] at *; simp at *; omega
  ntrans x y z h1 h2 := by rw [ltP] at *; simp at *; omega
set_option maxHeartbeats 1000000 in
theorem byId_grown (a b : Rc) (w : World) : Calls Tryz.prog 111 #[a.v, b.v] w fun e w' => e = .returned (.int .i64 (cmpI a b)) ∧ ∃ q os', w' = Go.Sort.grow (w.drewN q) os' := by
  go_enter Tryz.func111, Tryz.ntmps111
  go_wp2_with (go_at_call 78; refine (compare_any _ _ _).mono ?_; rintro e w1 ⟨rfl, rfl⟩)
  go_ret
  exact ⟨rfl, 0, _, by rw [Go.Sort.alloc_eq_grow, Go.Sort.alloc_eq_grow, Go.Sort.grow_grow]; rfl⟩
theorem cmpLaysP (blk off size : Nat) (w : World) : CmpLays Tryz.prog 111 #[] encP 5 cfI blk off size w :=
  fun _ _ _ _ x y => byId_grown (tri x) (tri y) _
theorem egP : ∀ args w, (callFunc 111 args).run Tryz.prog w = .ok (.enter 111 args) w := enters_of Tryz.func111 (by kernel_rfl) rfl

set_option maxRecDepth 100000 in
set_option maxHeartbeats 2000000 in
theorem sortFunc_any (base g cap : Nat) (L : List Rc) (m : Nat) (hm : L.length = m) (w : World) (h : w.ownsRow base 91 5 (.slice (some ⟨g, 0, none⟩) m cap) m (kR.flat L)) (hn : m ≤ 1000) :
    Calls Tryz.prog 116 #[.slice (some ⟨g, 0, none⟩) m cap, .func (.func 111) #[] #[]] w fun e w' => e = .returned (.tuple #[]) ∧ ∃ S : List Rc, S.Perm L ∧ S.Pairwise (fun a b => ¬ lessB b a = true) ∧ w'.ownsRow base 91 5 (.slice (some ⟨g, 0, none⟩) m cap) m (kR.flat S) ∧ w.grownBy w' (some g) := by
  have hH := own_holds hm h
  have hsz : (L.map pk).toArray.size = m := by simp [hm]
  have hblk := (h.lt g rfl).2
  generalize hd : (L.map pk).toArray = d at hH hsz
  have hlim : Lib.bitLen d.size < 4611686018427387904 := Nat.lt_of_le_of_lt (Lib.bitLen_le d.size 62 (by omega) (by omega)) (by omega)
  have hp := AnyQ.pdqsortCmpFunc_all Tryz.pdqI 5 Tryz.isAgg91 Tryz.sizeOf91 encP cfI 111 #[] swoP g 0 cap d w egP (cmpLaysP _ _ _ _) ⟨encP_len, encP_one, hH, hblk⟩ (d.size + 1) 0 d.size (Lib.bitLen d.size) d w (by omega) rfl (SWK.start hH) (Nat.zero_le _) (Nat.le_refl _) (by omega) hlim (Or.inl rfl)
  have hsort := Go.Sort.pdq_sorts (ltOf cfI) swoP d 0 d.size (Lib.bitLen d.size) true true (Nat.zero_le _) (Nat.le_refl _) (Or.inl rfl)
  have hl : Calls Tryz.prog 118 #[.int .u64 (d.size : Int)] w fun e w' => e = .returned (.int .i64 (Lib.bitLen d.size : Nat)) ∧ w' = w := by
    have h := Any.bits_Len (SlLaysF0.n15.bits Tryz.lenI) (d.size : Int) w (by omega) (by omega)
    rw [Int.toNat_natCast] at h
    exact h
  change Calls Tryz.prog 117 _ _ _ at hp
  rw [hsz] at hp hl hsort
  generalize Go.Sort.pdq (ltOf cfI) d 0 m (Lib.bitLen m) true true = d' at hp hsort
  generalize Lib.bitLen m = bl at hp hl
  clear hH hlim
  go_enter Tryz.func116, Tryz.ntmps116
  go_wp2_with (first | (go_at_call 118; refine hl.mono ?_; rintro e w1 ⟨rfl, rfl⟩) | (go_at_call 117; refine hp.mono ?_; rintro e w1 ⟨rfl, n, os, rfl⟩))
  go_end0
  obtain ⟨⟨hs1, _, hperm⟩, hso⟩ := hsort
  have hds : d'.size = m := by omega
  have e1 : (d'.extract 0 m).toList = d'.toList := by rw [← hds]; simp
  have e2 : (d.extract 0 m).toList = d.toList := by rw [← hsz]; simp
  rw [e1, e2] at hperm
  have hdl : d.toList.map tri = L := by rw [← hd]; simp [Function.comp_def, tri_p]
  refine ⟨rfl, d'.toList.map tri, ?_, ?_, sorted_own h hds, sorted_grown⟩
  · rw [← hdl]; exact hperm.map tri
  · rw [List.pairwise_map, List.pairwise_iff_getElem]
    intro i j hi hj hij
    have := hso i j (Nat.zero_le _) hij (by simpa [hds] using hj)
    rw [getElem!_pos d' j (by simpa using hj), getElem!_pos d' i (by simpa using hi)] at this
    intro h2
    exact (of_decide_eq_false this) (cmpI_neg.mpr h2)
end Go.Proofs.YtobbankkfplooaaGreat.K.I
namespace Go.Proofs.YtobbankkfplooaaGreat.K.I
open Go.Shelf Go.RowKit Go.Joins
attribute [local go_sem] Oper.semAt_some

theorem own_putG {α : Type} {K : Kd α} {W : World} {base g n cap : Nat} {M B : List α} (h : OwG K W base (.slice (some ⟨g, 0, none⟩) n cap) M) (hl : B.length = M.length) (h1 : ∀ u ∈ K.flat B, u.oneCell' = true) :
    ∃ W', (storeCells ⟨g, 0, none⟩ (K.flat B) 0).run Tryz.prog W = .ok () W' ∧ OwG K W' base (.slice (some ⟨g, 0, none⟩) n cap) B ∧ W.grownBy W' (some g) := by
  obtain ⟨h0, ⟨h1, _⟩ | ⟨g', cap', cur, e, hg, hh, hc, hm, hs, ht⟩⟩ := h
  · cases h1
  · injection e with e1 e2 e3
    injection e1 with e1
    injection e1 with e1
    subst e1 e2 e3
    have hfl := Kd.flat_len (K := K) B
    have hc2 := Nat.mul_le_mul_right K.n hc
    have hst := run_storeCells_at Tryz.prog g 0 K.t (K.flat B) 0 cur W hh (by rw [hfl, hs, hl]; omega) h1
    refine ⟨_, hst, ?_, ⟨rfl, rfl, rfl, by simp, fun j _ hj => setRow_other W g j _ (fun e => hj (by simp [e]))⟩⟩
    unfold OwG
    rw [hl]
    refine ⟨by rw [hfl, hl], .inr ⟨g, cap, _, rfl, hg, setRow_heap W g cur _ K.t _ hh, hc, hm, ?_, ?_⟩⟩
    · simp only [List.size_toArray, List.length_append, List.length_take, List.length_drop, Array.length_toList, hfl, hl]
      omega
    · have e0 : (K.flat B).length = M.length * K.n := by rw [hfl, hl]
      simp only [Nat.add_zero, List.take_zero, List.nil_append]
      rw [List.take_append_of_le_length (by omega), List.take_of_length_le (by omega)]
theorem run_copyI {W : World} {base g cap m : Nat} {M L : List Rc} {a : Addr} {c : Nat} (hM : M.length = m) (h : W.ownsRow base 91 5 (.slice (some ⟨g, 0, none⟩) m cap) m (kR.flat M)) (hl : L.length = m) (hsrc : ∀ j u, (kR.flat L)[j]? = some u → W.cell? (a.add j) = some u) :
    ∃ W', (∀ ty, (Builtin.copy_ #[119, 119] ty #[.slice (some ⟨g, 0, none⟩) m cap, .slice (some a) m c]).run Tryz.prog W = .ok (goInt m) W') ∧ W'.ownsRow base 91 5 (.slice (some ⟨g, 0, none⟩) m cap) m (kR.flat L) ∧ W.grownBy W' (some g) := by
  obtain ⟨i0, hi, hz0, hz1, hz2⟩ := info_parts info91
  subst hM
  obtain ⟨W', h1, h2, h3⟩ := own_putG (K := kR) (B := L) h hl (oneRs L)
  have hld := run_loadCells_list (P := Tryz.prog) W a (kR.flat L) hsrc
  rw [Kd.flat_len, hl] at hld
  refine ⟨W', fun ty => ?_, by unfold OwG at h2; rw [hl] at h2; exact h2, h3⟩
  have hmin : Nat.min M.length M.length = M.length := Nat.min_self _
  have h3' : kR.n = 5 := rfl
  rw [h3'] at hld
  simp [Builtin.copy_, run_underlying Tryz.underlying119, Builtin.lenOf, Builtin.firstCells, sizeOf, typeInfo, hi, hz1, hmin, hld, h1]
set_option maxRecDepth 100000 in
set_option maxHeartbeats 2000000 in
theorem sorted_any (p : Option Addr) (cap : Nat) (L : List Rc) (m : Nat) (hm : L.length = m) (w : World) (hL : SlG kR w p L) (hn : m ≤ 1000) :
    Calls Tryz.prog 110 #[.slice p m cap, .func (.func 111) #[] #[]] w fun e w' => ∃ q cap' S, e = .returned (.slice (some ⟨q, 0, none⟩) m cap') ∧ S.Perm L ∧ S.Pairwise (fun a b => ¬ lessB b a = true) ∧ Sg w w' [rG kR (.slice (some ⟨q, 0, none⟩) m cap') S] := by
  obtain ⟨i0, hi, hz0, hz1, hz2⟩ := info_parts info91
  have hmk := run_make (P := Tryz.prog) w 119 91 i0 _ Tryz.underlying119 hi hz0 .i64 .i64 (m : Int) (m : Int) (by omega) (by omega) (by rw [hz2]; omega) (by omega)
  rw [hz1, Int.toNat_natCast] at hmk
  have hrow0 : (w.alloc (.cells (madeCells #[.int .i64 0, .int .i64 0, .int .i64 0, .int .i64 0, .string ByteArray.empty] (m * 5)) 91)).ownsRow w.heap.size 91 5 (.slice (some ⟨w.heap.size, 0, none⟩) m m) m (kR.flat (List.replicate m zrc)) := by
    have := World.ownsRow_lit (base := w.heap.size) (e := 91) (size := 5) w (madeCells #[.int .i64 0, .int .i64 0, .int .i64 0, .int .i64 0, .string ByteArray.empty] (m * 5)) m (Nat.le_refl _) (by unfold maxLen; omega) (size_madeCells _ _)
    rw [made_flatR] at this
    exact this
  have hb0 := below_alloc1 w (.cells (madeCells #[.int .i64 0, .int .i64 0, .int .i64 0, .int .i64 0, .string ByteArray.empty] (m * 5)) 91)
  have hcp : ∃ W1, (∀ ty, (Builtin.copy_ #[119, 119] ty #[.slice (some ⟨w.heap.size, 0, none⟩) m m, .slice p m cap]).run Tryz.prog (w.alloc (.cells (madeCells #[.int .i64 0, .int .i64 0, .int .i64 0, .int .i64 0, .string ByteArray.empty] (m * 5)) 91)) = .ok (goInt m) W1) ∧ W1.ownsRow w.heap.size 91 5 (.slice (some ⟨w.heap.size, 0, none⟩) m m) m (kR.flat L) ∧ (w.alloc (.cells (madeCells #[.int .i64 0, .int .i64 0, .int .i64 0, .int .i64 0, .string ByteArray.empty] (m * 5)) 91)).grownBy W1 (some w.heap.size) := by
    rcases hL with h | ⟨g, off, h, hC⟩
    · subst h
      simp at hm
      subst hm
      cases p with
      | none => exact ⟨_, fun ty => by simp [Builtin.copy_, run_underlying Tryz.underlying119, Builtin.lenOf, Builtin.firstCells, sizeOf, typeInfo, hi]; rfl, hrow0, ⟨rfl, rfl, rfl, Nat.le_refl _, fun _ _ _ => rfl⟩⟩
      | some ad => exact run_copyI (M := []) (L := []) rfl hrow0 rfl (fun j u hj => by simp [Kd.flat] at hj)
    · subst h
      exact run_copyI (M := List.replicate m zrc) (L := L) (by simp) hrow0 hm (cs_src (hC.step hb0))
  obtain ⟨W1, hcp, hO1, hg1⟩ := hcp
  have hb1 : Below w.heap.size w W1 := ⟨hg1.os.trans hb0.os, hg1.tape.trans hb0.tape, hg1.output.trans hb0.output, Nat.le_trans hb0.size hg1.size, fun k hk => (hg1.block k (by simp; omega) (by simp; omega)).trans (hb0.block k hk)⟩
  have HS := sortFunc_any w.heap.size w.heap.size m L m hm W1 hO1 hn
  clear hrow0 hb0 hL
  go_enter Tryz.func110, Tryz.ntmps110
  go_wp2_with (go_at_call 116; refine HS.mono ?_; rintro e w2 ⟨rfl, S, hS1, hS2, hS3, hS4⟩)
  go_ret
  have hSl := hS1.length_eq
  refine ⟨w.heap.size, m, S, rfl, hS1, hS2, ⟨⟨hS4.os.trans hb1.os, hS4.tape.trans hb1.tape, hS4.output.trans hb1.output, Nat.le_trans hb1.size hS4.size, fun k hk => (hS4.block k (Nat.lt_of_lt_of_le hk hb1.size) (by simp; omega)).trans (hb1.block k hk)⟩, fun r hr => ?_, by simp⟩⟩
  simp at hr
  subst hr
  unfold Rw.own rG
  simp only [hSl, hm]
  exact hS3
end Go.Proofs.YtobbankkfplooaaGreat.K.I
