/-
  The program's sort of Cells: what comes out has the same Cells, in order.
-/
import Derived.Test.YtbkiogedipmioaaGreatVMG0
import Derived.Deep.RegionHeld3
import Derived.Test.YtbkiogedipmioaaGreatVMSh
import Derived.Test.YtbkiogedipmioaaGreatVML4
import Derived.Sort.OwnSorted
import Derived.Deep.Cut
import Derived.Deep.CutBlock
namespace Go.Proofs.YtbkiogedipmioaaGreat.V.M.D
open Go.RowKit Go.Joins

def firstI (c : T3) : Int := ordI (rX c.l c.x c.y) (rY c.l c.x c.y)
def cmpI (a b : Int) : Int := if a < b then -1 else if b < a then 1 else 0
def orI (a b : Int) : Int := if a ≠ 0 then a else b
def cmpT (a b : T3) : Int := orI (cmpI (firstI a) (firstI b)) (cmpI a.l b.l)

set_option maxHeartbeats 1000000 in
theorem first_any (c : T3) (w : World) :
    Calls Tryz.prog 142 #[.agg #[.int .i64 c.l, .int .i64 c.x, .int .i64 c.y]] w fun e w' => e = .returned (.int .i64 (firstI c)) ∧ Below w.heap.size w w' := by
  have hs := St.nil w
  go_enter Tryz.func142, Tryz.ntmps142
  go_wp2_with (first
    | (go_at_call 156; refine (iRectOf_any _ _ _ _).mono ?_; rintro e w1 ⟨rfl, hb2⟩; replace hs := (hs.push _ _).step hb2; have hk := hs.has; simp [Has, HasAt] at hk)
    | (go_at_call 157; refine (iOrder_any _ _ _).mono ?_; rintro e w1 ⟨rfl, hb2⟩; replace hs := (hs.push _ _).step hb2))
  go_ret
  exact ⟨rfl, hs.bel⟩
theorem first_v {c : T3} {v : Int} (h : firstI c = v) (w : World) :
    Calls Tryz.prog 142 #[.agg #[.int .i64 c.l, .int .i64 c.x, .int .i64 c.y]] w fun e w' => e = .returned (.int .i64 v) ∧ Below w.heap.size w w' := by subst h; exact first_any c w
theorem isNaN_any (a : Int) (w : World) : Calls Tryz.prog 126 #[.int .i64 a] w fun e w' => e = .returned (.bool false) ∧ w' = w := by
  go_enter Tryz.func126, Tryz.ntmps126
  go_wp2
  go_ret
  exact ⟨rfl, rfl⟩
theorem compare_any (a b : Int) (w : World) : Calls Tryz.prog 106 #[.int .i64 a, .int .i64 b] w fun e w' => e = .returned (.int .i64 (cmpI a b)) ∧ w' = w := by
  go_enter Tryz.func106, Tryz.ntmps106
  go_wp2_with (go_at_call 126; refine (isNaN_any _ _).mono ?_; rintro e w1 ⟨rfl, rfl⟩)
  all_goals (go_ret; exact ⟨ret_i64 (by unfold cmpI; split <;> (try split) <;> omega), rfl⟩)
theorem compare_v {a b v : Int} (h : cmpI a b = v) (w : World) : Calls Tryz.prog 106 #[.int .i64 a, .int .i64 b] w fun e w' => e = .returned (.int .i64 v) ∧ w' = w := by subst h; exact compare_any a b w

set_option maxHeartbeats 1000000 in
theorem or_any (a b : Int) (g : Nat) (w : World) (h0 : w.cell? ⟨g, 0, none⟩ = some (.int .i64 a)) (h1 : w.cell? ⟨g, 1, none⟩ = some (.int .i64 b)) :
    Calls Tryz.prog 105 #[.slice (some ⟨g, 0, none⟩) 2 2] w fun e w' => e = .returned (.int .i64 (orI a b)) ∧ w' = w := by
  by_cases ha : a = 0
  · subst ha
    by_cases hb : b = 0
    · subst hb
      go_enter Tryz.func105, Tryz.ntmps105
      go_wp2
      refine wp_loop_rounds 3 ?_
      rw [rounds_succ]
      go_wp2
      rw [rounds_succ]
      go_wp2
      rw [rounds_succ]
      go_wp2
      go_ret
      exact ⟨by simp [orI], rfl⟩
    · go_enter Tryz.func105, Tryz.ntmps105
      go_wp2
      refine wp_loop_rounds 3 ?_
      rw [rounds_succ]
      go_wp2
      rw [rounds_succ]
      go_wp2
      go_ret
      exact ⟨by simp [orI], rfl⟩
  · go_enter Tryz.func105, Tryz.ntmps105
    go_wp2
    refine wp_loop_rounds 3 ?_
    rw [rounds_succ]
    go_wp2
    go_ret
    exact ⟨by simp [orI, ha], rfl⟩

set_option maxRecDepth 100000 in
set_option maxHeartbeats 4000000 in
theorem cmp_any (a b : T3) (w : World) :
    Calls Tryz.prog 141 #[.agg #[.int .i64 a.l, .int .i64 a.x, .int .i64 a.y], .agg #[.int .i64 b.l, .int .i64 b.x, .int .i64 b.y]] w fun e w' => e = .returned (.int .i64 (cmpT a b)) ∧ Below w.heap.size w w' := by
  have hst := ((St.nil w).push [.int .i64 a.l, .int .i64 a.x, .int .i64 a.y] 89).push [.int .i64 b.l, .int .i64 b.x, .int .i64 b.y] 89
  rw [World.size_alloc] at hst
  have hS : ∀ w', St w w' [(w.heap.size + 1, [.int .i64 b.l, .int .i64 b.x, .int .i64 b.y]), (w.heap.size, [.int .i64 a.l, .int .i64 a.x, .int .i64 a.y])] → ((w'.cell? ⟨w.heap.size + 1, 0, none⟩ = some (.int .i64 b.l) ∧ w'.cell? ⟨w.heap.size + 1, 1, none⟩ = some (.int .i64 b.x) ∧ w'.cell? ⟨w.heap.size + 1, 2, none⟩ = some (.int .i64 b.y)) ∧ (w'.cell? ⟨w.heap.size, 0, none⟩ = some (.int .i64 a.l) ∧ w'.cell? ⟨w.heap.size, 1, none⟩ = some (.int .i64 a.x) ∧ w'.cell? ⟨w.heap.size, 2, none⟩ = some (.int .i64 a.y))) :=
    fun w' h => by have := h.has; simp [Has, HasAt] at this; simp [this]
  have hcc := hS _ hst
  unfold cmpT
  go_enter Tryz.func141, Tryz.ntmps141
  go_wp2
  go_region_held3 (fun w' => St w w' [(w.heap.size + 1, [.int .i64 b.l, .int .i64 b.x, .int .i64 b.y]), (w.heap.size, [.int .i64 a.l, .int .i64 a.x, .int .i64 a.y])] ∧ ((w'.cell? ⟨w.heap.size + 1, 0, none⟩ = some (.int .i64 b.l) ∧ w'.cell? ⟨w.heap.size + 1, 1, none⟩ = some (.int .i64 b.x) ∧ w'.cell? ⟨w.heap.size + 1, 2, none⟩ = some (.int .i64 b.y)) ∧ (w'.cell? ⟨w.heap.size, 0, none⟩ = some (.int .i64 a.l) ∧ w'.cell? ⟨w.heap.size, 1, none⟩ = some (.int .i64 a.x) ∧ w'.cell? ⟨w.heap.size, 2, none⟩ = some (.int .i64 a.y)))) (first | exact ‹St _ _ _ ∧ _› | exact keepS hS ((‹St _ _ _ ∧ _›).1.step hb2) | exact keepS hS ((‹St _ _ _ ∧ _›).1.al _) | exact keepS hS hst.dr | fail)
    (first
      | (go_at_call 142; refine (first_any _ _).mono ?_; rintro e w1 ⟨rfl, hb2⟩)
      | (go_at_call 106; refine (compare_any _ _ _).mono ?_; rintro e w1 ⟨rfl, rfl⟩)
      | (go_at_call 105; refine (or_any (cmpI (firstI a) (firstI b)) (cmpI a.l b.l) _ _ ?_ ?_).mono ?_; (focus (simp [go_sem]; done)); (focus (simp [go_sem]; done)); rintro e w1 ⟨rfl, rfl⟩))
  clear hst hcc
  obtain ⟨hst, hcc⟩ := ‹St _ _ _ ∧ _›
  go_wp2
  go_ret
  exact ⟨rfl, hst.bel⟩
end Go.Proofs.YtbkiogedipmioaaGreat.V.M.D
namespace Go.Proofs.YtbkiogedipmioaaGreat.V.M
open Go.Shelf Go.RowKit Go.Joins

def tri (p : Int × Int × Int) : T3 := ⟨p.1, p.2.1, p.2.2⟩
def T3.p (c : T3) : Int × Int × Int := (c.l, c.x, c.y)
def encP (p : Int × Int × Int) : List Value := (tri p).vs
def cfP (p q : Int × Int × Int) : Int := D.cmpT (tri p) (tri q)
theorem tri_p (c : T3) : tri c.p = c := rfl
theorem encP_len (p : Int × Int × Int) : (encP p).length = 3 := rfl
theorem encP_one (p : Int × Int × Int) : ∀ v ∈ encP p, v.oneCell' = true := fun v hv => by simp [encP, T3.vs] at hv; rcases hv with rfl | rfl | rfl <;> rfl
theorem cmpT_lt (a b : T3) : D.cmpT a b < 0 ↔ (D.firstI a < D.firstI b ∨ D.firstI a = D.firstI b ∧ a.l < b.l) := by
  unfold D.cmpT D.orI D.cmpI
  split <;> (try split) <;> (try split) <;> (try split) <;> (try split) <;> omega
theorem ltP (p q : Int × Int × Int) : ltOf cfP p q = decide (D.firstI (tri p) < D.firstI (tri q) ∨ D.firstI (tri p) = D.firstI (tri q) ∧ (tri p).l < (tri q).l) := decide_eq_decide.mpr (cmpT_lt _ _)
theorem swoP : Go.Sort.SWO (ltOf cfP) where
  irrefl x := by rw [ltP]; simp
  trans x y z h1 h2 := by rw [ltP] at *; simp at *; omega
  ntrans x y z h1 h2 := by rw [ltP] at *; simp at *; omega
theorem cmpLaysP (blk off size : Nat) (w : World) : CmpLays Tryz.prog 141 #[] encP 3 cfP blk off size w :=
  fun _ _ _ _ x y => (D.cmp_any (tri x) (tri y) _).mono fun _ _ ⟨he, hb⟩ => ⟨he, hb.grown⟩

theorem flatK_flat (d : Array (Int × Int × Int)) : (Go.Sort.flatK encP 3 d).toList = flat (d.toList.map tri) := by
  refine List.ext_getElem? fun t => ?_
  have hl : (flat (d.toList.map tri)).length = d.size * 3 := by rw [flat_len]; simp
  by_cases ht : t < d.size * 3
  · have hk : t / 3 < d.size := by omega
    have hg : (d.toList.map tri)[t / 3]? = some (tri d[t / 3]) := by simp [hk]
    obtain ⟨f0, f1, f2⟩ := flat_get hg
    have e1 : (Go.Sort.flatK encP 3 d).toList[t]? = some ((encP d[t / 3]!)[t % 3]!) := by
      rw [List.getElem?_eq_getElem (by simp; omega)]
      congr 1
      have := Go.Sort.get_flatK encP 3 d t ht
      rw [getElem!_pos _ t (by simp; omega)] at this
      simpa using this
    rw [e1, getElem!_pos d (t / 3) hk]
    have hm : t % 3 = 0 ∨ t % 3 = 1 ∨ t % 3 = 2 := by omega
    rcases hm with h | h | h
    · have : (flat (d.toList.map tri))[t]? = (flat (d.toList.map tri))[t / 3 * 3]? := by congr 1; omega
      rw [this, h, f0]; rfl
    · have : (flat (d.toList.map tri))[t]? = (flat (d.toList.map tri))[t / 3 * 3 + 1]? := by congr 1; omega
      rw [this, h, f1]; rfl
    · have : (flat (d.toList.map tri))[t]? = (flat (d.toList.map tri))[t / 3 * 3 + 2]? := by congr 1; omega
      rw [this, h, f2]; rfl
  · rw [List.getElem?_eq_none (by simp; omega), List.getElem?_eq_none (by omega)]

theorem sorted_own {w : World} {base g cap n : Nat} {os : Array Obj} {L : List T3} {d' : Array (Int × Int × Int)} (h : Ow w base (.slice (some ⟨g, 0, none⟩) L.length cap) L) (hl : d'.size = L.length) :
    Ow (sortWorldK encP 3 w g 0 n d' os) base (.slice (some ⟨g, 0, none⟩) L.length cap) (d'.toList.map tri) := by
  obtain ⟨h0, ⟨h1, _⟩ | ⟨g', cap', cur, e, hg, hh, hc, hm, hs, ht⟩⟩ := h
  · cases h1
  · injection e with e1 e2 e3
    injection e1 with e1
    injection e1 with e1
    subst e1 e3
    have hlen : (d'.toList.map tri).length = L.length := by simp [hl]
    unfold Ow
    rw [hlen]
    refine ⟨by rw [flat_len, hlen], .inr ⟨g, cap, Go.Sort.putCells id 0 (Go.Sort.flatK encP 3 d') cur, rfl, hg, ?_, hc, hm, by simp [Go.Sort.putCells, hs], ?_⟩⟩
    · have hlt := (Array.getElem?_eq_some_iff.1 hh).1
      unfold sortWorldK Go.Sort.putRowK Go.Sort.putRow
      rw [Go.Sort.heap_grow_old _ _ (by simpa [Go.Sort.mapBlock, Go.Sort.ahead] using hlt)]
      simp [Go.Sort.mapBlock, Go.Sort.ahead, Array.getElem?_modify, hh, Go.Sort.onCells]
    · rw [← flatK_flat]
      refine List.ext_getElem? fun j => ?_
      have hfs : (Go.Sort.flatK encP 3 d').size = L.length * 3 := by simp [hl]
      by_cases hj : j < L.length * 3
      · rw [List.getElem?_take_of_lt hj, Array.getElem?_toList]
        have hjc : j < cur.size := by rw [hs]; have := Nat.mul_le_mul_right 3 hc; omega
        simp [Go.Sort.putCells, hjc, hj, hl]
      · rw [List.getElem?_take_eq_none (by omega), List.getElem?_eq_none (by simp; omega)]
theorem sorted_grown {w : World} {g n : Nat} {os : Array Obj} {d' : Array (Int × Int × Int)} : w.grownBy (sortWorldK encP 3 w g 0 n d' os) (some g) := by
  unfold sortWorldK Go.Sort.putRowK Go.Sort.putRow
  refine ⟨rfl, rfl, rfl, by simp [Go.Sort.mapBlock, Go.Sort.ahead, Go.Sort.grow], fun k hk hne => ?_⟩
  rw [Go.Sort.heap_grow_old _ _ (by simpa [Go.Sort.mapBlock, Go.Sort.ahead] using hk)]
  have : g ≠ k := fun e => hne (by rw [e])
  simp [Go.Sort.mapBlock, Go.Sort.ahead, Array.getElem?_modify, this]
theorem own_holds {w : World} {base g cap : Nat} {L : List T3} (h : Ow w base (.slice (some ⟨g, 0, none⟩) L.length cap) L) : Go.Sort.HoldsK encP 3 w g 0 (L.map T3.p).toArray := by
  intro j hj
  have hs : (Go.Sort.flatK encP 3 (L.map T3.p).toArray).size = L.length * 3 := by simp
  have hj' : j < L.length * 3 := by omega
  have hfl := flatK_flat (L.map T3.p).toArray
  have hmm : ((L.map T3.p).toArray.toList.map tri) = L := by simp [Function.comp_def, tri_p]
  rw [hmm] at hfl
  rw [Nat.zero_add]
  refine ⟨?_, h.frozenAt j⟩
  rw [h.cellAt j hj', ← hfl, getElem!_pos _ j hj]
  simp

set_option maxRecDepth 100000 in
set_option maxHeartbeats 2000000 in
theorem sortFunc_any (base g cap : Nat) (L : List T3) (w : World) (h : Ow w base (.slice (some ⟨g, 0, none⟩) L.length cap) L) (hn : L.length ≤ 1048576) :
    Calls Tryz.prog 140 #[.slice (some ⟨g, 0, none⟩) L.length cap, .func (.func 141) #[] #[]] w fun e w' => e = .returned (.tuple #[]) ∧ ∃ S : List T3, S.Perm L ∧ S.Pairwise (fun a b => 0 ≤ D.cmpT b a) ∧ Ow w' base (.slice (some ⟨g, 0, none⟩) L.length cap) S ∧ w.grownBy w' (some g) := by
  have eg : ∀ args w, (callFunc 141 args).run Tryz.prog w = .ok (.enter 141 args) w := enters_of Tryz.func141 (by kernel_rfl) rfl
  have hH := own_holds h
  have hsz : (L.map T3.p).toArray.size = L.length := by simp
  have hblk := (h.lt g rfl).2
  generalize hd : (L.map T3.p).toArray = d at hH hsz
  have hlim : Lib.bitLen d.size < 4611686018427387904 := Nat.lt_of_le_of_lt (Lib.bitLen_le d.size 62 (by omega) (by omega)) (by omega)
  have hp := AnyQ.pdqsortCmpFunc_all Tryz.pdqC 3 Tryz.isAgg89 Tryz.sizeOf89 encP cfP 141 #[] swoP g 0 cap d w eg (cmpLaysP g 0 d.size w) ⟨encP_len, encP_one, hH, hblk⟩ (d.size + 1) 0 d.size (Lib.bitLen d.size) d w (by omega) rfl (SWK.start hH) (Nat.zero_le _) (Nat.le_refl _) (by omega) hlim (Or.inl rfl)
  have hsort := Go.Sort.pdq_sorts (ltOf cfP) swoP d 0 d.size (Lib.bitLen d.size) true true (Nat.zero_le _) (Nat.le_refl _) (Or.inl rfl)
  have hl : Calls Tryz.prog 138 #[.int .u64 (d.size : Int)] w fun e w' => e = .returned (.int .i64 (Lib.bitLen d.size : Nat)) ∧ w' = w := by
    have h := Any.bits_Len (SlLaysF0.n15.bits Tryz.lenC) (d.size : Int) w (by omega) (by omega)
    rw [Int.toNat_natCast] at h
    exact h
  change Calls Tryz.prog 155 _ _ _ at hp
  rw [hsz] at hp hl hsort
  generalize Go.Sort.pdq (ltOf cfP) d 0 L.length (Lib.bitLen L.length) true true = d' at hp hsort
  generalize Lib.bitLen L.length = bl at hp hl
  clear hH hlim
  go_enter Tryz.func140, Tryz.ntmps140
  go_wp2_with (first | (go_at_call 138; refine hl.mono ?_; rintro e w1 ⟨rfl, rfl⟩) | (go_at_call 155; refine hp.mono ?_; rintro e w1 ⟨rfl, n, os, rfl⟩))
  go_end0
  obtain ⟨⟨hs1, _, hperm⟩, hso⟩ := hsort
  have hds : d'.size = L.length := by omega
  have e1 : (d'.extract 0 L.length).toList = d'.toList := by rw [← hds]; simp
  have e2 : (d.extract 0 L.length).toList = d.toList := by rw [← hsz]; simp
  rw [e1, e2] at hperm
  have hdl : d.toList.map tri = L := by rw [← hd]; simp [Function.comp_def, tri_p]
  refine ⟨rfl, d'.toList.map tri, ?_, ?_, sorted_own h hds, sorted_grown⟩
  · rw [← hdl]; exact hperm.map tri
  · rw [List.pairwise_map, List.pairwise_iff_getElem]
    intro i j hi hj hij
    have := hso i j (Nat.zero_le _) hij (by simpa [hds] using hj)
    rw [getElem!_pos d' j (by simpa using hj), getElem!_pos d' i (by simpa using hi)] at this
    exact Int.not_lt.mp (of_decide_eq_false this)

set_option maxHeartbeats 1000000 in
theorem pdq_nil (l : Int) (w : World) :
    Calls Tryz.prog 155 #[.slice none 0 0, .int .i64 0, .int .i64 0, .int .i64 l, .func (.func 141) #[] #[]] w fun e w' => e = .returned (.tuple #[]) ∧ w' = w := by
  have h104 : ∀ w, Calls Tryz.prog 164 #[.slice none 0 0, .int .i64 0, .int .i64 0, .func (.func 141) #[] #[]] w fun e w' => e = .returned (.tuple #[]) ∧ w' = w := by
    intro w
    go_enter Tryz.func164, Tryz.ntmps164
    go_wp2
    refine wp_loop_rounds 1 ?_
    rw [rounds_succ]
    go_wp2
    go_end0
    exact ⟨rfl, rfl⟩
  go_enter Tryz.func155, Tryz.ntmps155
  go_wp2
  refine wp_loop_rounds 1 ?_
  rw [rounds_succ]
  go_wp2_with (go_at_call 164; refine (h104 _).mono ?_; rintro e w1 ⟨rfl, rfl⟩)
  refine bodyPost_ret (results_none rfl _ _ _) rfl ?_
  exact ⟨rfl, rfl⟩
set_option maxHeartbeats 1000000 in
theorem sortFunc_nil (w : World) :
    Calls Tryz.prog 140 #[.slice none 0 0, .func (.func 141) #[] #[]] w fun e w' => e = .returned (.tuple #[]) ∧ w' = w := by
  have hl : ∀ w, Calls Tryz.prog 138 #[.int .u64 0] w fun e w' => e = .returned (.int .i64 (Lib.bitLen 0 : Nat)) ∧ w' = w := fun w => by
    have h := Any.bits_Len (SlLaysF0.n15.bits Tryz.lenC) 0 w (by omega) (by omega)
    exact h
  generalize Lib.bitLen 0 = bl at hl
  go_enter Tryz.func140, Tryz.ntmps140
  go_wp2_with (first | (go_at_call 138; refine (hl _).mono ?_; rintro e w1 ⟨rfl, rfl⟩) | (go_at_call 155; refine (pdq_nil _ _).mono ?_; rintro e w1 ⟨rfl, rfl⟩))
  go_end0
  exact ⟨rfl, rfl⟩

def Pl (p : Option Addr) : Prop := p = none ∨ ∃ g off, p = some ⟨g, off, none⟩
theorem Ow.pl {W : World} {base : Nat} {p : Option Addr} {n cap : Nat} {L : List T3} (h : Ow W base (.slice p n cap) L) : Pl p := by
  rcases h.2 with ⟨h1, _⟩ | ⟨g, cap, cur, h1, _⟩
  · injection h1 with h1; exact .inl h1
  · injection h1 with h1; exact .inr ⟨g, 0, h1⟩
set_option maxRecDepth 100000 in
theorem clone_any (p : Option Addr) (cap : Nat) (L : List T3) (w : World) (hL : Sl w p L) (hp : Pl p) (hn : L.length ≤ 1048576) :
    Calls Tryz.prog 139 #[.slice p L.length cap] w fun e w' => ∃ q cap', e = .returned (.slice q L.length cap') ∧ Ow w' w.heap.size (.slice q L.length cap') L ∧ Below w.heap.size w w' := by
  rcases hp with rfl | ⟨g, off, rfl⟩
  · have hl : L = [] := by
      rcases hL with h | ⟨_, _, h, _⟩
      · exact h
      · cases h
    subst hl
    have h : Calls Tryz.prog 139 #[.slice none 0 cap] w fun e w' => e = .returned (.slice none 0 0) ∧ w' = w := AnyE.slices_Clone_nil Tryz.cloneC 0 cap w
    exact h.mono fun _ _ ⟨he, hw⟩ => by subst hw; exact ⟨none, 0, he, Ow.nil _ _, Below.refl _ _⟩
  · obtain ⟨i0, hi, hz0, hz1, hz2⟩ := info_parts info89
    have h : Calls Tryz.prog 139 #[.slice (some ⟨g, off, none⟩) L.length cap] w fun e w' => ∃ v', e = .returned v' ∧ w'.ownsRow w.heap.size 89 3 v' L.length (flat L) ∧ v' ≠ .slice none 0 0 ∧ Below w.heap.size w w' := by
      refine AnyE.slices_Clone Tryz.cloneC i0 (.agg #[.int .i64 0, .int .i64 0, .int .i64 0]) 3 24 hi hz0 hz1 hz2 rfl (by decide) Tryz.sizeOf89 g off L.length cap (flat L) w (flat_len L) (by unfold maxLen; omega) (by omega) (fun j u hj => ?_) (fun u hu => ?_)
      · have hlt : j < L.length * 3 := by have := (List.getElem?_eq_some_iff.1 hj).1; rw [flat_len] at this; exact this
        obtain ⟨g', off', e, hC⟩ := hL.at (k := j / 3) (by omega)
        injection e with e
        injection e with e1 e2
        subst e1 e2
        have hk : j / 3 < L.length := by omega
        obtain ⟨c0, c1, c2⟩ := hC.2 (j / 3) L[j / 3] (List.getElem?_eq_getElem hk)
        obtain ⟨f0, f1, f2⟩ := flat_get (List.getElem?_eq_getElem hk)
        have hm : j = j / 3 * 3 ∨ j = j / 3 * 3 + 1 ∨ j = j / 3 * 3 + 2 := by omega
        rcases hm with h | h | h
        · rw [h] at hj ⊢; rw [f0] at hj; cases hj; exact c0
        · rw [h] at hj ⊢; rw [f1] at hj; cases hj; rw [← Nat.add_assoc]; exact c1
        · rw [h] at hj ⊢; rw [f2] at hj; cases hj; rw [← Nat.add_assoc]; exact c2
      · unfold flat at hu
        obtain ⟨c, _, hu⟩ := List.mem_flatMap.mp hu
        simp [T3.vs] at hu
        rcases hu with rfl | rfl | rfl <;> rfl
    exact h.mono fun _ _ ⟨v', he, ho, _, hb⟩ => by
      obtain ⟨q, cap', rfl, _⟩ := Ow.form ho
      exact ⟨q, cap', he, ho, hb⟩

set_option maxRecDepth 100000 in
set_option maxHeartbeats 1000000 in
theorem inOrder_any (p : Option Addr) (cap : Nat) (L : List T3) (w : World) (hL : Sl w p L) (hp : Pl p) (hn : L.length ≤ 1048576) :
    Calls Tryz.prog 130 #[.slice p L.length cap] w fun e w' => ∃ q cap' S, e = .returned (.slice q L.length cap') ∧ S.Perm L ∧ S.Pairwise (fun a b => 0 ≤ D.cmpT b a) ∧ Ow w' w.heap.size (.slice q L.length cap') S ∧ Below w.heap.size w w' := by
  go_enter Tryz.func130, Tryz.ntmps130
  go_upto_region 2 with (go_at_call 139; refine (clone_any p cap L _ hL hp hn).mono ?_; rintro e w1 ⟨q, cap', rfl, hO, hb⟩)
  have hO' := hO
  rcases hO.2 with ⟨h1, h0⟩ | ⟨g, cap2, cur, h1, _⟩
  · injection h1 with h1 h2 h3
    subst h1 h3
    have hl : L = [] := List.eq_nil_of_length_eq_zero h0
    subst hl
    go_wp2_with (go_at_call 140; refine (sortFunc_nil _).mono ?_; rintro e w2 ⟨rfl, rfl⟩)
    go_ret
    exact ⟨none, 0, [], rfl, .nil, .nil, Ow.nil _ _, hb⟩
  · injection h1 with h1 h2 h3
    subst h1
    clear h2 h3
    go_wp2_with (go_at_call 140; refine (sortFunc_any w.heap.size g cap' L _ hO' hn).mono ?_; rintro e w2 ⟨rfl, S, hS1, hS2, hS3, hS4⟩)
    go_ret
    refine ⟨_, _, S, rfl, hS1, hS2, by unfold Ow; rw [hS1.length_eq]; unfold Ow at hS3; rw [hS1.length_eq] at hS3; exact hS3, ⟨hS4.os.trans hb.os, hS4.tape.trans hb.tape, hS4.output.trans hb.output, Nat.le_trans hb.size hS4.size, fun k hk => ?_⟩⟩
    refine (hS4.block k (Nat.lt_of_lt_of_le hk hb.size) (fun e => ?_)).trans (hb.block k hk)
    injection e with e
    have := (hO'.lt g rfl).1
    omega
end Go.Proofs.YtbkiogedipmioaaGreat.V.M
