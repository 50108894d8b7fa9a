/-
  Found: the program's and the spec's.
-/
import Derived.Shelf.SortG.AssemblyIn
import Derived.Shelf.SlGeneric
import Derived.Ground.SlgnProg
import Derived.Shelf.SortG.SortNone
import Derived.Sort.EveryDepth
import Derived.Sort.OwnSorted
import Derived.Test.YtipfcmfcdfofmaaGreatSB
import Derived.Test.YtipfcmfcdfofmaaGreatLH
import Derived.Deep.RegionWith
import Derived.Deep.CutRange
namespace Go.Proofs
open Go.Shelf
def Tryz.sortL_ren : Go.Shelf.Ren := ⟨fun | 53 => 47 | 64 => 88 | 63 => 87 | 78 => 118 | 79 => 119 | 70 => 109 | 71 => 110 | 72 => 111 | 73 => 112 | 74 => 113 | 75 => 114 | 59 => 115 | 76 => 116 | 77 => 117 | 88 => 129 | 89 => 130 | 90 => 131 | 91 => 132 | 92 => 133 | 68 => 101 | 96 => 147 | n => n, fun | 22 => 34 | 23 => 2 | 3 => 3 | 51 => 125 | 0 => 0 | 67 => 166 | 69 => 168 | 4 => 4 | 61 => 158 | 60 => 157 | 44 => 163 | 5 => 5 | 9 => 9 | 75 => 176 | 79 => 180 | 83 => 195 | 84 => 196 | n => n, fun | n => n⟩
theorem Tryz.sortL : Go.Proofs.SlLaysN.n53 Tryz.prog Tryz.sortL_ren := {
  mixed := by kernel_rfl
  f53 := ⟨Tryz.f47.name, by decide, Tryz.func47.trans (congrArg some (by kernel_rfl))⟩
  f59 := ⟨Tryz.f115.name, by decide, Tryz.func115.trans (congrArg some (by kernel_rfl))⟩
  f63 := ⟨Tryz.f87.name, by decide, Tryz.func87.trans (congrArg some (by kernel_rfl))⟩
  f64 := Tryz.func88.trans (congrArg some (by kernel_rfl))
  f68 := ⟨Tryz.f101.name, by decide, Tryz.func101.trans (congrArg some (by kernel_rfl))⟩
  f70 := ⟨Tryz.f109.name, by decide, Tryz.func109.trans (congrArg some (by kernel_rfl))⟩
  f71 := ⟨Tryz.f110.name, by decide, Tryz.func110.trans (congrArg some (by kernel_rfl))⟩
  f72 := ⟨Tryz.f111.name, by decide, Tryz.func111.trans (congrArg some (by kernel_rfl))⟩
  f73 := ⟨Tryz.f112.name, by decide, Tryz.func112.trans (congrArg some (by kernel_rfl))⟩
  f74 := ⟨Tryz.f113.name, by decide, Tryz.func113.trans (congrArg some (by kernel_rfl))⟩
  f75 := ⟨Tryz.f114.name, by decide, Tryz.func114.trans (congrArg some (by kernel_rfl))⟩
  f76 := ⟨Tryz.f116.name, by decide, Tryz.func116.trans (congrArg some (by kernel_rfl))⟩
  f77 := ⟨Tryz.f117.name, by decide, Tryz.func117.trans (congrArg some (by kernel_rfl))⟩
  f78 := Tryz.func118.trans (congrArg some (by kernel_rfl))
  f79 := Tryz.func119.trans (congrArg some (by kernel_rfl))
  f88 := ⟨Tryz.f129.name, by decide, Tryz.func129.trans (congrArg some (by kernel_rfl))⟩
  f89 := Tryz.func130.trans (congrArg some (by kernel_rfl))
  f90 := Tryz.func131.trans (congrArg some (by kernel_rfl))
  f91 := ⟨Tryz.f132.name, by decide, Tryz.func132.trans (congrArg some (by kernel_rfl))⟩
  f92 := ⟨Tryz.f133.name, by decide, Tryz.func133.trans (congrArg some (by kernel_rfl))⟩
  f96 := ⟨Tryz.f147.name, by decide, Tryz.func147.trans (congrArg some (by kernel_rfl))⟩
  t0 := Tryz.underlying0
  a0 := Tryz.isAgg0
  z0 := Tryz.sizeOf0
  v0 := Tryz.zeroValue0
  t3 := Tryz.underlying3
  a3 := Tryz.isAgg3
  z3 := Tryz.sizeOf3
  v3 := Tryz.zeroValue3
  t4 := Tryz.underlying4
  a4 := Tryz.isAgg4
  z4 := Tryz.sizeOf4
  v4 := Tryz.zeroValue4
  t5 := Tryz.underlying5
  a5 := Tryz.isAgg5
  z5 := Tryz.sizeOf5
  v5 := Tryz.zeroValue5
  t9 := Tryz.underlying9
  a9 := Tryz.isAgg9
  z9 := Tryz.sizeOf9
  v9 := Tryz.zeroValue9
  t22 := Tryz.underlying34
  a22 := Tryz.isAgg34
  z22 := Tryz.sizeOf34
  v22 := Tryz.zeroValue34
  t23 := Tryz.underlying2
  a23 := Tryz.isAgg2
  z23 := Tryz.sizeOf2
  v23 := Tryz.zeroValue2
  t44 := Tryz.underlying163
  a44 := Tryz.isAgg163
  z44 := Tryz.sizeOf163
  v44 := Tryz.zeroValue163
  t51 := Tryz.underlying125
  a51 := Tryz.isAgg125
  z51 := Tryz.sizeOf125
  v51 := Tryz.zeroValue125
  t60 := Tryz.underlying157
  a60 := Tryz.isAgg157
  z60 := Tryz.sizeOf157
  v60 := Tryz.zeroValue157
  t61 := Tryz.underlying158
  a61 := Tryz.isAgg158
  z61 := Tryz.sizeOf158
  v61 := Tryz.zeroValue158
  t67 := Tryz.underlying166
  a67 := Tryz.isAgg166
  z67 := Tryz.sizeOf166
  v67 := Tryz.zeroValue166
  t69 := Tryz.underlying168
  a69 := Tryz.isAgg168
  z69 := Tryz.sizeOf168
  v69 := Tryz.zeroValue168
  t75 := Tryz.underlying176
  a75 := Tryz.isAgg176
  z75 := Tryz.sizeOf176
  v75 := Tryz.zeroValue176
  t79 := Tryz.underlying180
  a79 := Tryz.isAgg180
  z79 := Tryz.sizeOf180
  v79 := Tryz.zeroValue180
  t83 := Tryz.underlying195
  a83 := Tryz.isAgg195
  z83 := Tryz.sizeOf195
  v83 := Tryz.zeroValue195
  t84 := Tryz.underlying196
  a84 := Tryz.isAgg196
  z84 := Tryz.sizeOf196
  v84 := Tryz.zeroValue196 }
end Go.Proofs
namespace Go.Proofs.YtipfcmfcdfofmaaGreat.Q
open Go.Shelf Go.RowKit Go.Joins
def flat1 (L : List Int) : List Value := L.map fun z => .int .i64 z
theorem flat1_len (L : List Int) : (flat1 L).length = L.length := by simp [flat1]
theorem flat1_get {L : List Int} {k : Nat} {z : Int} (h : L[k]? = some z) : (flat1 L)[k]? = some (.int .i64 z) := by simp [flat1, h]
abbrev Ow1 (W : World) (base : Nat) (v : Value) (L : List Int) : Prop := W.ownsRow base 2 1 v L.length (flat1 L)
theorem own1_holds {w : World} {base g cap : Nat} {L : List Int} (h : Ow1 w base (.slice (some ⟨g, 0, none⟩) L.length cap) L) : Go.Sort.Holds (Value.int .i64) w g 0 L.toArray := by
  intro j hj
  have hj' : j < L.length := by simpa using hj
  rw [Nat.zero_add]
  refine ⟨?_, World.ownsRow.frozenAt h j⟩
  have := (World.ownsRow.cellAt h j (by omega)).trans (flat1_get (List.getElem?_eq_getElem hj'))
  rw [this, getElem!_pos L.toArray j hj]
  simp
theorem put_own1 {w : World} {base g cap n : Nat} {os : Array Obj} {L : List Int} {d : Array Int} (h : Ow1 w base (.slice (some ⟨g, 0, none⟩) L.length cap) L) (hl : d.size = L.length) :
    Ow1 (Go.Sort.grow (Go.Sort.putRow (Value.int .i64) (Go.Sort.ahead w n) g 0 d) os) base (.slice (some ⟨g, 0, none⟩) L.length cap) d.toList := by
  obtain ⟨h0, ⟨h1, _⟩ | ⟨g', cap', cur, e, hg, hh, hc, hm, hs, ht⟩⟩ := h
  · cases h1
  · injection e with e1 e2 e3
    injection e1 with e1
    injection e1 with e1
    subst e1 e3
    have hlen : d.toList.length = L.length := by simpa using hl
    unfold Ow1
    rw [hlen]
    refine ⟨by rw [flat1_len, hlen, Nat.mul_one], .inr ⟨g, cap, Go.Sort.putCells (Value.int .i64) 0 d cur, rfl, hg, ?_, hc, hm, by simp [Go.Sort.putCells, hs], ?_⟩⟩
    · have hlt := (Array.getElem?_eq_some_iff.1 hh).1
      unfold Go.Sort.putRow
      rw [Go.Sort.heap_grow_old _ _ (by simpa [Go.Sort.mapBlock, Go.Sort.ahead] using hlt)]
      simp [Go.Sort.mapBlock, Go.Sort.ahead, Array.getElem?_modify, hh, Go.Sort.onCells]
    · refine List.ext_getElem? fun j => ?_
      by_cases hj : j < L.length * 1
      · rw [List.getElem?_take_of_lt hj, Array.getElem?_toList]
        have hjc : j < cur.size := by rw [hs]; have := Nat.mul_le_mul_right 1 hc; omega
        have hjd : j < d.size := by omega
        have : (flat1 d.toList)[j]? = some (.int .i64 d[j]) := flat1_get (by simp [hjd])
        rw [this]
        simp [Go.Sort.putCells, hjc, hjd]
      · rw [List.getElem?_take_eq_none (by omega), List.getElem?_eq_none (by rw [flat1_len]; omega)]
theorem put_grown1 {w : World} {g n : Nat} {os : Array Obj} {d : Array Int} : w.grownBy (Go.Sort.grow (Go.Sort.putRow (Value.int .i64) (Go.Sort.ahead w n) g 0 d) os) (some g) := by
  unfold Go.Sort.putRow
  refine ⟨rfl, rfl, rfl, by simp [Go.Sort.mapBlock, Go.Sort.ahead, Go.Sort.grow], fun k hk hne => ?_⟩
  rw [Go.Sort.heap_grow_old _ _ (by simpa [Go.Sort.mapBlock, Go.Sort.ahead] using hk)]
  have : g ≠ k := fun e => hne (by rw [e])
  simp [Go.Sort.mapBlock, Go.Sort.ahead, Array.getElem?_modify, this]
def msI (L : List Int) : List Int := L.mergeSort fun x y => decide (x ≤ y)
theorem msI_len (L : List Int) : (msI L).length = L.length := by simp [msI]
theorem sort_some (base g cap : Nat) (L : List Int) (w : World) (h : Ow1 w base (.slice (some ⟨g, 0, none⟩) L.length cap) L) (hn : L.length ≤ 1048576) :
    Calls Tryz.prog 47 #[.slice (some ⟨g, 0, none⟩) L.length cap] w fun e w' => e = .returned (.tuple #[]) ∧ Ow1 w' base (.slice (some ⟨g, 0, none⟩) L.length cap) (msI L) ∧ w.grownBy w' (some g) := by
  have hc : Calls Tryz.prog 47 #[.slice (some ⟨g, 0, none⟩) L.length cap] w _ := calls_of_every_depth fun D => AnySG.slices_Sort_int_in Tryz.sortL D g 0 cap L w (own1_holds h) (World.ownsRow.lt h g rfl).2 (by omega)
  refine hc.mono ?_
  rintro e w' ⟨rfl, n, os, rfl⟩
  have hl : (L.mergeSort fun x y => decide (x ≤ y)).toArray.size = L.length := by simp
  exact ⟨rfl, put_own1 h hl, put_grown1⟩
theorem sort_none (p : Option Addr) (cap : Nat) (w : World) : Calls Tryz.prog 47 #[.slice p 0 cap] w fun e w' => e = .returned (.tuple #[]) ∧ w' = w := AnyG.slices_Sort_int_none Tryz.sortL p cap w
theorem own1_nil {W : World} {base : Nat} {q : Option Addr} {c : Nat} {L : List Int} (h : W.ownsRow base 2 1 (.slice q 0 c) 0 (flat1 L)) : L = [] := by
  have := h.1; rw [flat1_len] at this; exact List.eq_nil_of_length_eq_zero (by omega)
theorem own1_len {W : World} {base n : Nat} {v : Value} {L : List Int} (h : W.ownsRow base 2 1 v n (flat1 L)) : L.length = n := by
  have := h.1; rw [flat1_len] at this; omega
theorem own1_some {W : World} {base n c : Nat} {q : Option Addr} {L : List Int} (h : W.ownsRow base 2 1 (.slice q n c) n (flat1 L)) (hn : 0 < n) : ∃ g, q = some ⟨g, 0, none⟩ := by
  rcases h.2 with ⟨_, h1⟩ | ⟨g, _, _, h1, _⟩
  · omega
  · injection h1 with h1; exact ⟨g, h1⟩
theorem sort_any (base n : Nat) (q : Option Addr) (c : Nat) (L : List Int) (w : World) (h : w.ownsRow base 2 1 (.slice q n c) n (flat1 L)) (hn : n ≤ 1048576) :
    Calls Tryz.prog 47 #[.slice q n c] w fun e w' => e = .returned (.tuple #[]) ∧ w'.ownsRow base 2 1 (.slice q n c) n (flat1 (msI L)) ∧ w.grownBy w' (Value.slice q n c).ownBlock := by
  have hl := own1_len h
  by_cases h0 : n = 0
  · subst h0
    have := own1_nil h
    subst this
    refine (sort_none q c w).mono ?_
    rintro e w' ⟨rfl, rfl⟩
    exact ⟨rfl, by rw [show msI [] = [] by simp [msI]]; exact h, ⟨rfl, rfl, rfl, Nat.le_refl _, fun _ _ _ => rfl⟩⟩
  · obtain ⟨g, rfl⟩ := own1_some h (by omega)
    subst hl
    refine (sort_some base g c L w h hn).mono ?_
    rintro e w' ⟨rfl, h1, h2⟩
    refine ⟨rfl, ?_, h2⟩
    unfold Ow1 at h1
    rw [msI_len] at h1
    exact h1
end Go.Proofs.YtipfcmfcdfofmaaGreat.Q
namespace Go.Proofs.YtipfcmfcdfofmaaGreat
open Go.RowKit Go.Joins

def inT (t : T4) (x y : Int) : Prop := t.x ≤ x ∧ x < t.x + t.w ∧ t.y ≤ y ∧ y < t.y + t.h
theorem aro_l {a b : T4} {x y : Int} (h : inT a x y) : inT (aro a b) x y := by
  unfold inT at *
  simp only [aro, uW]
  omega
theorem aro_r {a b : T4} {x y : Int} (h : inT b x y) : inT (aro a b) x y := by
  unfold inT at *
  simp only [aro, uW]
  omega
theorem in_boxF {x y : Int} : ∀ {l : List T4} {b : T4}, (inT b x y ∨ ∃ t ∈ l, inT t x y) → inT (boxF b l) x y
  | [], b, h => by
    rcases h with h | ⟨t, ht, _⟩
    · exact h
    · cases ht
  | c :: l, b, h => by
    show inT (boxF (aro b c) l) x y
    refine in_boxF ?_
    rcases h with h | ⟨t, ht, h⟩
    · exact .inl (aro_l h)
    · rcases List.mem_cons.mp ht with rfl | ht
      · exact .inl (aro_r h)
      · exact .inr ⟨t, ht, h⟩
theorem in_boxL {x y : Int} {l : List T4} {t : T4} (ht : t ∈ l) (h : inT t x y) : inT (boxL l) x y := in_boxF (.inr ⟨t, ht, h⟩)
theorem il_box {S : List Mk} {ns : List Nd} (h : Wf S ns) : ∀ i, i < ns.length → ∀ f, i < f → ∀ id ∈ il ns f i, ∃ m ∈ S, m.i = id ∧ inT (ns.getD i znd).b m.x m.y := by
  intro i
  induction i using Nat.strongRecOn with
  | _ i ih =>
    intro hi f hf id hid
    obtain ⟨a, rfl⟩ : ∃ a, f = a + 1 := ⟨f - 1, by omega⟩
    rw [il_succ] at hid
    rcases h i _ (getD_some hi) with ⟨c, e1, _, _, e4⟩ | ⟨fr, c, e1, e2, e3, e4, e5⟩
    · rw [e1] at hid ⊢
      have hid' : id ∈ c.map Mk.i := hid
      obtain ⟨m, hm, rfl⟩ := List.mem_map.mp hid'
      refine ⟨m, e4 m hm, rfl, ?_⟩
      show inT (boxL (c.map uni)) m.x m.y
      refine in_boxL (List.mem_map_of_mem hm) ?_
      unfold inT uni; simp; omega
    · rw [e1] at hid ⊢
      have hid' : id ∈ (forkN fr c).ps.flatMap fun x => il ns a x.toNat := hid
      obtain ⟨x, hx, hx2⟩ := List.mem_flatMap.mp hid'
      rw [fork_ps] at hx
      obtain ⟨k, hk, rfl⟩ := List.mem_map.mp hx
      have hk := List.mem_range.mp hk
      rw [Int.toNat_natCast] at hx2
      obtain ⟨m, hm, h1, h2⟩ := ih (fr + k) (by omega) (by omega) a (by omega) id hx2
      refine ⟨m, hm, h1, ?_⟩
      have h5 := e5 k hk
      have h6 : ns.getD (fr + k) znd = c[k] := by simp [List.getD, h5, hk]
      rw [h6] at h2
      show inT (boxL (c.map Nd.b)) m.x m.y
      exact in_boxL (List.mem_map_of_mem (List.getElem_mem hk)) h2
theorem mt_of {r b : T4} {m : Mk} (hb : b.ok = true) (h1 : inT b m.x m.y) (h2 : hdM r m = true) : mtT r b = true := by
  unfold hdM M.holdsB at h2
  simp only [Bool.and_eq_true] at h2
  obtain ⟨⟨h3, _⟩, h5⟩ := h2
  unfold mtT
  have h6 : M.okB b.x b.y b.w b.h = true := hb
  rw [h6, h3, Bool.true_and, Bool.true_and]
  unfold M.inR at h5
  have h5 := of_decide_eq_true h5
  unfold M.mB
  refine decide_eq_true ?_
  unfold inT at h1
  unfold M.mW
  omega
theorem fl_il {S L : List Mk} {ns : List Nd} {r : T4} (h : Wf S ns) (hbok : ∀ i, i < ns.length → (ns.getD i znd).b.ok = true) (hL : L.Pairwise fun a b => a.i < b.i) (hSL : ∀ a ∈ S, a ∈ L) : ∀ f i, i < f → i < ns.length → fl ns (mtT r) (tkI L r) f i = (il ns f i).filter (tkI L r)
  | 0, i, hi, _ => by omega
  | f + 1, i, hif, hin => by
    have hfl : fl ns (mtT r) (tkI L r) (f + 1) i = if mtT r (ns.getD i znd).b then (if (ns.getD i znd).lf then (ns.getD i znd).ps.filter (tkI L r) else (ns.getD i znd).ps.flatMap fun c => fl ns (mtT r) (tkI L r) f c.toNat) else [] := rfl
    cases hm : mtT r (ns.getD i znd).b
    · rw [hfl, hm]
      simp only [Bool.false_eq_true, if_false]
      refine (List.filter_eq_nil_iff.mpr fun id hid htk => ?_).symm
      obtain ⟨m, hmS, h1, h2⟩ := il_box h i hin (f + 1) hif id hid
      subst h1
      rw [tkI_of hL (hSL m hmS)] at htk
      have := mt_of (hbok i hin) h2 htk
      rw [this] at hm; cases hm
    · rw [hfl, hm, il_succ]
      simp only [if_true]
      rcases h i _ (getD_some hin) with ⟨c, e1, _⟩ | ⟨fr, c, e1, e2, e3, e4, _⟩
      · rw [e1]; rfl
      · rw [e1]
        show (forkN fr c).ps.flatMap _ = ((forkN fr c).ps.flatMap _).filter _
        rw [List.filter_flatMap]
        refine flatMap_congr' fun x hx => ?_
        rw [fork_ps] at hx
        obtain ⟨k, hk, rfl⟩ := List.mem_map.mp hx
        have hk := List.mem_range.mp hk
        rw [Int.toNat_natCast]
        exact fl_il h hbok hL hSL f (fr + k) (by omega) (by omega)
theorem ms_sorted (l : List Int) : (Q.msI l).Pairwise (· ≤ ·) := by
  have := List.pairwise_mergeSort (le := fun (x y : Int) => decide (x ≤ y)) (by intro a b c; simp; omega) (by intro a b; simp; omega) l
  unfold Q.msI
  simpa using this
theorem ms_eq {l k : List Int} (hp : l.Perm k) (hk : k.Pairwise (· < ·)) : Q.msI l = k := by
  refine List.Perm.eq_of_pairwise (le := fun (a b : Int) => a ≤ b) (fun a b _ _ h1 h2 => Int.le_antisymm h1 h2) (ms_sorted l) (hk.imp Int.le_of_lt) ?_
  unfold Q.msI
  exact (List.mergeSort_perm ..).trans hp
theorem found_all {L : List Mk} {r : T4} (hL : L.Pairwise fun a b => a.i < b.i) {l : List Int} (hl : l = ((srtM fO L).map Mk.i).filter (tkI L r)) : Q.msI l = (L.filter (hdM r)).map Mk.i := by
  refine ms_eq ?_ ?_
  · rw [hl, ← tk_filter hL (fun a ha => ha)]
    exact ((srtM_perm L).map Mk.i).filter _
  · rw [List.pairwise_map]
    exact (hL.sublist List.filter_sublist).imp fun h => h
end Go.Proofs.YtipfcmfcdfofmaaGreat
namespace Go.Proofs.YtipfcmfcdfofmaaGreat
open Go.RowKit Go.Joins
attribute [local go_sem] Oper.semAt_some

/-- What is found. -/
def fdL (L : List Mk) (ns : List Nd) (r : T4) : List Int := if tokB L ns && r.ok then (L.filter (hdM r)).map Mk.i else []
theorem fdL_len (L : List Mk) (ns : List Nd) (r : T4) : (fdL L ns r).length ≤ 1000 := by
  unfold fdL
  split
  · rename_i h
    simp only [tokB, mksB, Bool.and_eq_true, decide_eq_true_eq] at h
    have := List.length_filter_le (hdM r) L
    rw [List.length_map]; omega
  · simp
theorem kI_flat1 (l : List Int) : kI.flat l = Q.flat1 l := by
  unfold Kd.flat Q.flat1 kI
  simp only
  rw [List.map_eq_flatMap]
theorem l1Holds_v {r : T4} {m : Mk} {v : Bool} (hr : r.ok = true) (hm : spB m.x m.y = true) (hv : hdM r m = v) (w : World) : Calls Tryz.prog 52 #[.agg #[.int .i64 r.x, .int .i64 r.y, .int .i64 r.w, .int .i64 r.h], .agg #[.int .i64 m.x, .int .i64 m.y]] w fun e w' => e = .returned (.bool v) ∧ Below w.heap.size w w' := by
  have h1 : M.okB r.x r.y r.w r.h = true := hr
  have h2 : M.spB m.x m.y = true := hm
  unfold hdM M.holdsB at hv
  rw [h1, h2, Bool.true_and, Bool.true_and] at hv
  rw [← hv]
  exact M.sl1Holds_any r.x r.y r.w r.h m.x m.y h1 w
set_option maxRecDepth 100000 in
set_option maxHeartbeats 8000000 in
theorem iFound_any (p q : Option Addr) (m n c d : Nat) (L : List Mk) (NL : List (Nd × Sv)) (hm : L.length = m) (hn : NL.length = n) (hmb : m ≤ 10000000) (hnb : n ≤ 10000000) (hps : ∀ x ∈ NL, x.1.ps.length ≤ 10000000) (hcap : n ≤ d) (r : T4) (w : World) (hL : SlG kM w p L) (hN : RdN w q NL) :
    Calls Tryz.prog 11 #[.agg #[.slice p m c, .slice q n d], .agg #[.int .i64 r.x, .int .i64 r.y, .int .i64 r.w, .int .i64 r.h]] w fun e w' => ∃ q n c, e = .returned (.slice q n c) ∧ Sg w w' [rG kI (.slice q n c) (fdL L (NL.map Prod.fst) r)] := by
  have hS0 := ((Sg.nil w).lit kT [(⟨p, m, c⟩, ⟨q, n, d⟩)] 1 rfl (by decide) #[.slice p m c, .slice q n d] rfl).lit kR [r] 1 rfl (by decide) #[.int .i64 r.x, .int .i64 r.y, .int .i64 r.w, .int .i64 r.h] rfl
  simp only [World.size_alloc] at hS0
  obtain ⟨v1, hv1⟩ : ∃ v, tokB L (NL.map Prod.fst) = v := ⟨_, rfl⟩
  have HT : Hid (∀ W, Below w.heap.size w W → Calls Tryz.prog 44 #[.agg #[.slice p m c, .slice q n d]] W fun e w' => e = .returned (.bool v1) ∧ Below W.heap.size W w') := fun W h => isRight_any p q m n c d L NL hm hn hmb hnb hps W (hL.step h) (hN.step h) hv1
  obtain ⟨v, hv⟩ : ∃ v, (v1 && r.ok) = v := ⟨_, rfl⟩
  have HE : Hid (∀ W, Below w.heap.size w W → ∀ g, g < W.heap.size → W.cell? ⟨g, 0, none⟩ = some (.func (Fn.func 44) #[.agg #[.slice p m c, .slice q n d]] #[]) → W.cell? ⟨g, 1, none⟩ = some (.func (Fn.func 45) #[.agg #[.int .i64 r.x, .int .i64 r.y, .int .i64 r.w, .int .i64 r.h]] #[]) → Calls Tryz.prog 43 #[.slice (some ⟨g, 0, none⟩) 2 2] W fun e w' => e = .returned (.bool v) ∧ Below W.heap.size W w') := fun W h g hg h0 h1 => by
    rw [← hv]; exact every_tr _ v1 r.x r.y r.w r.h g W hg (fun W' h' => HT.out W' (bstep h h' (Nat.le_refl _))) h0 h1
  have hfd : fdL L (NL.map Prod.fst) r = if v = true then (L.filter (hdM r)).map Mk.i else [] := by
    unfold fdL; rw [hv1, hv]
  rw [hfd]
  cases v
  · clear hfd hv hv1 hm hn hps hL hN HT
    go_enter Tryz.func11, Tryz.ntmps11
    go_wp2_with (go_at_call 43; refine (HE.out _ (hS0.bel.alloc hS0.bel.size _) _ ?_ ?_ ?_).mono ?_; (focus (simp; done)); (focus (simp [go_sem]; done)); (focus (simp [go_sem]; done)); rintro e w1 ⟨rfl, hb2⟩; have hS1 := hS0.step (bstepA (Below.refl _ _) hb2 (Nat.le_refl _)))
    go_ret
    exact ⟨_, _, _, rfl, (hS1.sub (List.nil_sublist _)).nilRow kI⟩
  · have ht : tokB L (NL.map Prod.fst) = true := by
      cases v1
      · simp at hv
      · exact hv1
    have hL2 : L.Pairwise fun a b => a.i < b.i := by
      have h := ht
      simp only [tokB, mksB, Bool.and_eq_true, decide_eq_true_eq] at h
      exact (mkR_all h.1.2).2
    have hm60 : m ≤ 60 := by
      have h := ht
      simp only [tokB, mksB, Bool.and_eq_true, decide_eq_true_eq] at h
      omega
    have HLO : Hid (∀ W, Below w.heap.size w W → Calls Tryz.prog 46 #[.agg #[.slice p m c, .slice q n d], .agg #[.int .i64 r.x, .int .i64 r.y, .int .i64 r.w, .int .i64 r.h]] W fun e w' => ∃ (fv : Sv) (z : Int) (l : List Int), e = .returned (.agg #[.slice p m c, .slice q n d, .int .i64 r.x, .int .i64 r.y, .int .i64 r.w, .int .i64 r.h, .int .i64 z, .slice fv.p fv.n fv.c]) ∧ Hid (Q.msI l = (L.filter (hdM r)).map Mk.i ∧ l.length ≤ 1000) ∧ Sg W w' [rG kI (.slice fv.p fv.n fv.c) l]) := fun W hb => by
      rcases Nat.eq_zero_or_pos n with h0 | h0
      · subst h0
        have hns : NL = [] := List.eq_nil_of_length_eq_zero hn
        have hLn : L = [] := by
          have h := ht
          rw [hns] at h
          simp only [tokB, Bool.and_eq_true] at h
          have e := nsE_t.mp h.2
          have e2 : nodesOf (srtM fO L) = [] := by
            have : plN L = nodesOf (srtM fO L) := by unfold plN; rw [if_pos h.1]
            rw [← this]; simpa using e
          rcases Nat.eq_zero_or_pos (srtM fO L).length with h5 | h5
          · rw [srtM_len] at h5; exact List.eq_nil_of_length_eq_zero h5
          · have := (il_root h5).1
            rw [e2] at this; simp at this
        refine (lookOver_none W p q m c d r).mono ?_
        rintro e w' ⟨rfl, h⟩
        refine ⟨⟨none, 0, 0⟩, 0, [], rfl, ⟨?_, by simp⟩, ((Sg.nil W).step h).nilRow kI⟩
        rw [hLn]; simp [Q.msI]
      · obtain ⟨gq, oq, rfl, hT2, hil, hm60⟩ := tre_of ht hm hn (hL.step hb) (hN.step hb) hcap h0
        refine (lookOver_some W p gq oq m n c d L _ NL _ r hT2 h0 (by rw [hil, List.length_map, srtM_len, hm]; omega)).mono ?_
        rintro e w' ⟨fv, rfl, h⟩
        have hfi := fl_il (r := r) hT2.wf (fun i hi => hT2.bok i (by rw [hT2.len] at hi; exact hi)) hL2 hT2.hSL n (n - 1) (by omega) (by rw [hT2.len]; omega)
        rw [hil] at hfi
        refine ⟨fv, _, _, rfl, ⟨found_all hL2 hfi, ?_⟩, h⟩
        rw [hfi]
        have := List.length_filter_le (tkI L r) ((srtM fO L).map Mk.i)
        rw [List.length_map, srtM_len, hm] at this
        omega
    simp only [if_true]
    have hf3 := fld3
    clear hfd hv hv1 hm hn hps hL hN HT ht hL2
    go_enter Tryz.func11, Tryz.ntmps11
    go_upto_region 4 with (first
      | (go_at_call 43; refine (HE.out _ (hS0.bel.alloc hS0.bel.size _) _ ?_ ?_ ?_).mono ?_; (focus (simp; done)); (focus (simp [go_sem]; done)); (focus (simp [go_sem]; done)); rintro e w1 ⟨rfl, hb2⟩; have hS1 := hS0.step (bstepA (Below.refl _ _) hb2 (Nat.le_refl _)); obtain ⟨x0, x1, xf, xg⟩ := hS1.two (K := kT) (g := w.heap.size) (c := 1) (p := (⟨p, m, c⟩, ⟨q, n, d⟩)) (by simp) rfl; obtain ⟨s0, s1, s2, s3, sf, sg⟩ := hS1.four (K := kR) (g := w.heap.size + 1) (c := 1) (p := r) (by simp) rfl)
      | (go_at_call 46; refine (HLO.out _ hS1.bel).mono ?_; rintro e w2 ⟨fv, z, l, rfl, HLL, hT3⟩; have hS2 := (hS1.addL hT3).sub (rs' := [rG kI (.slice fv.p fv.n fv.c) l]) (by simp)))
    have hown := hS2.mem (K := kI) (v := .slice fv.p fv.n fv.c) (L := l) (by simp)
    have hln := OwG.len hown
    have HSO := Q.sort_any w.heap.size fv.n fv.p fv.c l w2 (by
      have h := hown
      unfold OwG at h
      rw [← hln, kI_flat1] at h
      exact h) (by have := HLL.out.2; omega)
    have HFIN : Hid (∀ w', w'.ownsRow w.heap.size 2 1 (.slice fv.p fv.n fv.c) fv.n (Q.flat1 (Q.msI l)) → w2.grownBy w' (Value.slice fv.p fv.n fv.c).ownBlock → Sg w w' [rG kI (.slice fv.p fv.n fv.c) ((L.filter (hdM r)).map Mk.i)]) := fun w' h1 h2 => by
      have hl2 : ((L.filter (hdM r)).map Mk.i).length = fv.n := by rw [← HLL.out.1, Q.msI_len]; exact hln.symm
      refine Sg.put (A := []) (B := []) hS2 (r' := rG kI (.slice fv.p fv.n fv.c) ((L.filter (hdM r)).map Mk.i)) rfl ?_ h2
      unfold Rw.own rG
      simp only [hl2]
      rw [← HLL.out.1, kI_flat1]
      exact h1
    clear hown hln
    go_wp2_with (go_at_call 47; refine HSO.mono ?_; rintro e w3 ⟨rfl, hO3, hg3⟩)
    go_ret
    exact ⟨_, _, _, rfl, HFIN.out _ hO3 hg3⟩
theorem filt_takeI {C : List Mk} {k : Nat} {h : Mk → Bool} (hk : k < C.length) : (((C.take (k + 1)).filter h).map Mk.i) = ((C.take k).filter h).map Mk.i ++ (if h (C.getD k zmk) then [(C.getD k zmk).i] else []) := filt_take hk
set_option maxRecDepth 100000 in
set_option maxHeartbeats 8000000 in
theorem sFound_any (ad : Addr) (q : Option Addr) (m n c d : Nat) (L : List Mk) (NL : List (Nd × Sv)) (hm : L.length = m) (hn : NL.length = n) (hmb : m ≤ 10000000) (hnb : n ≤ 10000000) (hps : ∀ x ∈ NL, x.1.ps.length ≤ 10000000) (r : T4) (w : World) (hL : SlG kM w (some ad) L) (hN : RdN w q NL) :
    Calls Tryz.prog 17 #[.agg #[.slice (some ad) m c, .slice q n d], .agg #[.int .i64 r.x, .int .i64 r.y, .int .i64 r.w, .int .i64 r.h]] w fun e w' => ∃ q n c, e = .returned (.slice q n c) ∧ Sg w w' [rG kI (.slice q n c) (fdL L (NL.map Prod.fst) r)] := by
  have hS0 := (((Sg.nil w).lit kT [(⟨some ad, m, c⟩, ⟨q, n, d⟩)] 1 rfl (by decide) #[.slice (some ad) m c, .slice q n d] rfl).lit kR [r] 1 rfl (by decide) #[.int .i64 r.x, .int .i64 r.y, .int .i64 r.w, .int .i64 r.h] rfl).lit kI [] 0 rfl (by decide) #[] rfl
  simp only [World.size_alloc] at hS0
  obtain ⟨v1, hv1⟩ : ∃ v, tokB L (NL.map Prod.fst) = v := ⟨_, rfl⟩
  have H20 : Hid (∀ W, Below w.heap.size w W → Calls Tryz.prog 20 #[.agg #[.slice (some ad) m c, .slice q n d]] W fun e w' => e = .returned (.bool v1) ∧ Below W.heap.size W w') := fun W h => sTreeOk_any ad q m n c d L NL hm hn hmb hnb hps W (hL.step h) (hN.step h) hv1
  obtain ⟨v2, hv2⟩ : ∃ v, r.ok = v := ⟨_, rfl⟩
  have H51 : Hid (∀ W, Calls Tryz.prog 51 #[.agg #[.int .i64 r.x, .int .i64 r.y, .int .i64 r.w, .int .i64 r.h]] W fun e w' => e = .returned (.bool v2) ∧ Below W.heap.size W w') := fun W => by rw [← hv2]; exact M.sOk_any r.x r.y r.w r.h W
  have hfd : fdL L (NL.map Prod.fst) r = if (v1 && v2) = true then (L.filter (hdM r)).map Mk.i else [] := by
    unfold fdL; rw [hv1, hv2]
  rw [hfd]
  cases v1
  · clear hfd hm hn hps hL hN hv1
    go_enter Tryz.func17, Tryz.ntmps17
    go_wp2_with (go_at_call 20; refine (H20.out _ hS0.bel).mono ?_; rintro e w1 ⟨rfl, hb1⟩; have hS := hS0.step hb1)
    go_ret
    exact ⟨_, _, _, rfl, hS.sub (by simp)⟩
  cases v2
  · clear hfd hm hn hps hL hN hv1
    go_enter Tryz.func17, Tryz.ntmps17
    go_wp2_with (first
      | (go_at_call 20; refine (H20.out _ hS0.bel).mono ?_; rintro e w1 ⟨rfl, hb1⟩; have hS := hS0.step hb1; obtain ⟨x0, x1, xf, xg⟩ := hS.two (K := kT) (g := w.heap.size) (c := 1) (p := (⟨some ad, m, c⟩, ⟨q, n, d⟩)) (by simp) rfl; obtain ⟨s0, s1, s2, s3, sf, sg⟩ := hS.four (K := kR) (g := w.heap.size + 1) (c := 1) (p := r) (by simp) rfl)
      | (go_at_call 51; refine (H51.out _).mono ?_; rintro e w2 ⟨rfl, hb2⟩; replace hS := hS.step hb2))
    go_ret
    exact ⟨_, _, _, rfl, hS.sub (by simp)⟩
  simp only [Bool.and_self, if_true]
  have hmk : mksB L = true := by
    simp only [tokB, Bool.and_eq_true] at hv1; exact hv1.1
  simp only [mksB, Bool.and_eq_true, decide_eq_true_eq] at hmk
  have HSP : Hid (∀ a ∈ L, spB a.x a.y = true) := fun a ha => ((mkR_all hmk.2).1 a ha).2.2
  have hm60 : m ≤ 60 := by omega
  have HH : Hid (L.length = m ∧ SlG kM w (some ad) L) := ⟨hm, hL⟩
  clear hfd hm hn hps hL hN hv1 hmk
  go_enter Tryz.func17, Tryz.ntmps17
  go_wp2_with (first
    | (go_at_call 20; refine (H20.out _ hS0.bel).mono ?_; rintro e w1 ⟨rfl, hb1⟩; have hS := hS0.step hb1; obtain ⟨x0, x1, xf, xg⟩ := hS.two (K := kT) (g := w.heap.size) (c := 1) (p := (⟨some ad, m, c⟩, ⟨q, n, d⟩)) (by simp) rfl; obtain ⟨s0, s1, s2, s3, sf, sg⟩ := hS.four (K := kR) (g := w.heap.size + 1) (c := 1) (p := r) (by simp) rfl)
    | (go_at_call 51; refine (H51.out _).mono ?_; rintro e w2 ⟨rfl, hb2⟩; replace hS := hS.step hb2; clear x0 x1 xf xg s0 s1 s2 s3 sf sg))
  go_loopw [5, 6] (fun lv iv wr => ∃ (k gu nn cu : Nat), k ≤ m ∧ nn ≤ k ∧ iv = .int .i64 k ∧ lv = .slice (some ⟨gu, 0, none⟩) nn cu ∧ Sg w wr [rG kI (.slice (some ⟨gu, 0, none⟩) nn cu) (((L.take k).filter (hdM r)).map Mk.i), rG kR (.slice (some ⟨w.heap.size + 1, 0, none⟩) 1 1) [r], rG kT (.slice (some ⟨w.heap.size, 0, none⟩) 1 1) [(⟨some ad, m, c⟩, ⟨q, n, d⟩)]]) (fun _ iv _ => m - (intOf iv).toNat)
  case atStart => exact ⟨0, _, 0, 0, by omega, by omega, rfl, rfl, hS⟩
  case round =>
    clear hS
    rename World => wr
    obtain ⟨k, gu, nn, cu, hk, hnk, rfl, rfl, hS⟩ := hrel
    obtain ⟨x0, x1, xf, xg⟩ := hS.two (K := kT) (g := w.heap.size) (c := 1) (p := (⟨some ad, m, c⟩, ⟨q, n, d⟩)) (by simp) rfl
    obtain ⟨s0, s1, s2, s3, sf, sg⟩ := hS.four (K := kR) (g := w.heap.size + 1) (c := 1) (p := r) (by simp) rfl
    by_cases hlt : k < m
    · have hki : (k : Int) < m := by omega
      have hkL : k < L.length := by rw [HH.out.1]; exact hlt
      have hga := getM hkL
      have hft := filt_takeI (h := hdM r) hkL
      obtain ⟨a, ha⟩ : ∃ a, L.getD k zmk = a := ⟨_, rfl⟩
      rw [ha] at hga hft
      have hsp := HSP.out a (List.mem_of_getElem? hga)
      obtain ⟨gl, ol, hadd, hCl⟩ := HH.out.2.at hkL
      injection hadd with hadd
      subst hadd
      have HM : Hid (∀ W, Below w.heap.size w W → (W.cell? ⟨gl, ol + k * 3, none⟩ = some (.int .i64 a.i) ∧ W.cell? ⟨gl, ol + k * 3 + 1, none⟩ = some (.int .i64 a.x) ∧ W.cell? ⟨gl, ol + k * 3 + 2, none⟩ = some (.int .i64 a.y))) := fun W hb => (hCl.step hb).mk hga
      obtain ⟨hv, hhv⟩ : ∃ hv, hdM r a = hv := ⟨_, rfl⟩
      rw [hhv] at hft
      have HFT : Hid (((L.take (k + 1)).filter (hdM r)).map Mk.i = ((L.take k).filter (hdM r)).map Mk.i ++ (if hv = true then [a.i] else [])) := hft
      obtain ⟨F1, hF1⟩ : ∃ F, ((L.take k).filter (hdM r)).map Mk.i = F := ⟨_, rfl⟩
      rw [hF1] at hS
      have HF1 : Hid (((L.take k).filter (hdM r)).map Mk.i = F1) := hF1
      clear hft hF1 ha hga hCl hkL
      go_upto_region 7 with fail
      clear x0 x1 xf xg s0 s1 s2 s3 sf sg
      go_cut [31] from 17 to 40 (fun bv wx => bv = .bool hv ∧ Sg w wx [rG kI (.slice (some ⟨gu, 0, none⟩) nn cu) F1, rG kR (.slice (some ⟨w.heap.size + 1, 0, none⟩) 1 1) [r], rG kT (.slice (some ⟨w.heap.size, 0, none⟩) 1 1) [(⟨some ⟨gl, ol, none⟩, m, c⟩, ⟨q, n, d⟩)]])
      case first =>
        replace hS := hS.step (Below.refl _ _).drew
        obtain ⟨x0, x1, xf, xg⟩ := hS.two (K := kT) (g := w.heap.size) (c := 1) (p := (⟨some ⟨gl, ol, none⟩, m, c⟩, ⟨q, n, d⟩)) (by simp) rfl
        obtain ⟨s0, s1, s2, s3, sf, sg⟩ := hS.four (K := kR) (g := w.heap.size + 1) (c := 1) (p := r) (by simp) rfl
        obtain ⟨m0, m1, m2⟩ := HM.out _ hS.bel
        go_region_with (go_at_call 52; refine (l1Holds_v hv2 hsp hhv _).mono ?_; rintro e wt ⟨rfl, hbt⟩; replace hS := hS.step hbt)
        all_goals
          go_wp2
          go_meet
          exact ⟨rfl, hS⟩
      case rest =>
      clear hS
      obtain ⟨rfl, hS⟩ := hcut
      rename World => w2
      obtain ⟨x0, x1, xf, xg⟩ := hS.two (K := kT) (g := w.heap.size) (c := 1) (p := (⟨some ⟨gl, ol, none⟩, m, c⟩, ⟨q, n, d⟩)) (by simp) rfl
      obtain ⟨m0, m1, m2⟩ := HM.out _ hS.bel
      have HFn : Hid (F1.length = nn) := (OwG.len (hS.mem (K := kI) (v := .slice (some ⟨gu, 0, none⟩) nn cu) (L := F1) (by simp))).symm
      cases hv
      · go_wp2
        go_roundw
        case rel => exact ⟨k + 1, gu, nn, cu, by omega, by omega, by go_num, rfl, by rw [HFT.out]; simp only [Bool.false_eq_true, if_false, List.append_nil]; rw [HF1.out]; exact hS⟩
        case measure => simp [intOf]; omega
      · go_wp2_with (at_builtin; refine wpList_sgapp appI rfl _ _ rfl (A := []) (B := [a.i]) (n := nn) (m := 1) hS (below_alloc1 _ _) HFn.out rfl rfl ⟨w2.heap.size, 0, none⟩ 1 rfl (lit_src (xs := [.int .i64 a.i]) rfl) (oneI _) (.inl (by decide)) (by omega) ?_; intro g4 c4 w4 hS4 _ _)
        go_roundw
        case rel => exact ⟨k + 1, g4, nn + 1, c4, by omega, by omega, by go_num, rfl, by rw [HFT.out]; simp only [if_true]; rw [HF1.out]; exact hS4⟩
        case measure => simp [intOf]; omega
    · obtain rfl : k = m := by omega
      rw [List.take_of_length_le (by rw [HH.out.1]; exact Nat.le_refl _)] at hS
      go_wp2
      go_ret
      exact ⟨_, _, _, rfl, hS.sub (by simp)⟩
end Go.Proofs.YtipfcmfcdfofmaaGreat
