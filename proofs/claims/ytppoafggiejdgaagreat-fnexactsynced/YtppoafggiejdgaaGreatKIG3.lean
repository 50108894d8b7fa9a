/-
  The program's sort of Items: what comes out has the same Items, in order.
-/
import Derived.Test.YtppoafggiejdgaaGreatKIB1
import Derived.Test.YtppoafggiejdgaaGreatKISh
import Derived.Test.YtppoafggiejdgaaGreatKIL1
import Derived.Sort.OwnSorted
import Derived.Deep.Cut
import Derived.Deep.CutBlock
namespace Go.Proofs.YtppoafggiejdgaaGreat.K.I
open Go.Shelf Go.RowKit Go.Joins
attribute [local go_sem] Oper.semAt_some

def tri (p : Int × Int × Int × Int × ByteArray) : Rc := ⟨p.1, p.2.1, p.2.2.1, p.2.2.2.1, p.2.2.2.2⟩
def pk (c : Rc) : Int × Int × Int × Int × ByteArray := (c.t, c.i, c.x, c.y, c.s)
def encP (p : Int × Int × Int × Int × ByteArray) : List Value := kR.vs (tri p)
theorem tri_p (c : Rc) : tri (pk c) = c := rfl
theorem encP_len (p : Int × Int × Int × Int × ByteArray) : (encP p).length = 5 := rfl
theorem encP_one (p : Int × Int × Int × Int × ByteArray) : ∀ v ∈ encP p, v.oneCell' = true := fun v hv => by simp [encP, kR] at hv; rcases hv with rfl | rfl | rfl | rfl | rfl <;> rfl

theorem flatK_flat (d : Array (Int × Int × Int × Int × ByteArray)) : (Go.Sort.flatK encP 5 d).toList = kR.flat (d.toList.map tri) := by
  refine List.ext_getElem? fun t => ?_
  have hl : (kR.flat (d.toList.map tri)).length = d.size * 5 := by rw [Kd.flat_len]; simp [kR]
  by_cases ht : t < d.size * 5
  · have hk : t / 5 < d.size := by omega
    have hg : (d.toList.map tri)[t / 5]? = some (tri d[t / 5]) := by simp [hk]
    have f0 := Kd.flat_get (K := kR) hg (i := t % 5) (Nat.mod_lt _ (by decide))
    have e3 : t / 5 * kR.n + t % 5 = t := by show t / 5 * 5 + t % 5 = t; omega
    rw [e3] at f0
    have e1 : (Go.Sort.flatK encP 5 d).toList[t]? = some ((encP d[t / 5]!)[t % 5]!) := by
      rw [List.getElem?_eq_getElem (by simp; omega)]
      congr 1
      have := Go.Sort.get_flatK encP 5 d t ht
      rw [getElem!_pos _ t (by simp; omega)] at this
      simpa using this
    rw [e1, getElem!_pos d (t / 5) hk, f0]
    have hlt : t % 5 < (encP d[t / 5]).length := by rw [encP_len]; exact Nat.mod_lt _ (by decide)
    rw [getElem!_pos (encP d[t / 5]) (t % 5) hlt]
    exact (List.getElem?_eq_getElem hlt).symm
  · rw [List.getElem?_eq_none (by simp; omega), List.getElem?_eq_none (by omega)]

theorem sorted_own {w : World} {base g cap n m : Nat} {os : Array Obj} {L : List Rc} {d' : Array (Int × Int × Int × Int × ByteArray)} (h : w.ownsRow base 88 5 (.slice (some ⟨g, 0, none⟩) m cap) m (kR.flat L)) (hl : d'.size = m) :
    (sortWorldK encP 5 w g 0 n d' os).ownsRow base 88 5 (.slice (some ⟨g, 0, none⟩) m cap) m (kR.flat (d'.toList.map tri)) := by
  obtain ⟨h0, ⟨h1, _⟩ | ⟨g', cap', cur, e, hg, hh, hc, hm', hs, ht⟩⟩ := h
  · cases h1
  · injection e with e1 e2 e3
    injection e1 with e1
    injection e1 with e1
    subst e1 e3
    have hlen : (d'.toList.map tri).length = m := by simp [hl]
    refine ⟨by rw [Kd.flat_len, hlen]; rfl, .inr ⟨g, cap, Go.Sort.putCells id 0 (Go.Sort.flatK encP 5 d') cur, rfl, hg, ?_, hc, hm', by simp [Go.Sort.putCells, hs], ?_⟩⟩
    · have hlt := (Array.getElem?_eq_some_iff.1 hh).1
      unfold sortWorldK Go.Sort.putRowK Go.Sort.putRow
      rw [Go.Sort.heap_grow_old _ _ (by simpa [Go.Sort.mapBlock, Go.Sort.ahead] using hlt)]
      simp [Go.Sort.mapBlock, Go.Sort.ahead, Array.getElem?_modify, hh, Go.Sort.onCells]
    · rw [← flatK_flat]
      refine List.ext_getElem? fun j => ?_
      have hfs : (Go.Sort.flatK encP 5 d').size = m * 5 := by simp [hl]
      by_cases hj : j < m * 5
      · rw [List.getElem?_take_of_lt hj, Array.getElem?_toList]
        have hjc : j < cur.size := by rw [hs]; have := Nat.mul_le_mul_right 5 hc; omega
        simp [Go.Sort.putCells, hjc, hj, hl]
      · rw [List.getElem?_take_eq_none (by omega), List.getElem?_eq_none (by simp; omega)]
theorem sorted_grown {w : World} {g n : Nat} {os : Array Obj} {d' : Array (Int × Int × Int × Int × ByteArray)} : w.grownBy (sortWorldK encP 5 w g 0 n d' os) (some g) := by
  unfold sortWorldK Go.Sort.putRowK Go.Sort.putRow
  refine ⟨rfl, rfl, rfl, by simp [Go.Sort.mapBlock, Go.Sort.ahead, Go.Sort.grow], fun k hk hne => ?_⟩
  rw [Go.Sort.heap_grow_old _ _ (by simpa [Go.Sort.mapBlock, Go.Sort.ahead] using hk)]
  have : g ≠ k := fun e => hne (by rw [e])
  simp [Go.Sort.mapBlock, Go.Sort.ahead, Array.getElem?_modify, this]
theorem own_holds {w : World} {base g cap m : Nat} {L : List Rc} (hm : L.length = m) (h : w.ownsRow base 88 5 (.slice (some ⟨g, 0, none⟩) m cap) m (kR.flat L)) : Go.Sort.HoldsK encP 5 w g 0 (L.map pk).toArray := by
  intro j hj
  have hs : (Go.Sort.flatK encP 5 (L.map pk).toArray).size = m * 5 := by simp [hm]
  have hj' : j < m * 5 := by omega
  have hfl := flatK_flat (L.map pk).toArray
  have hmm : ((L.map pk).toArray.toList.map tri) = L := by simp [Function.comp_def, tri_p]
  rw [hmm] at hfl
  rw [Nat.zero_add]
  refine ⟨?_, h.frozenAt j⟩
  rw [h.cellAt j hj', ← hfl, getElem!_pos _ j hj]
  simp

/-- Which comes first: by Id. -/
def cfI (p q : Int × Int × Int × Int × ByteArray) : Int := cmpI (tri p) (tri q)
theorem ltP (p q : Int × Int × Int × Int × ByteArray) : ltOf cfI p q = decide (p.2.1 < q.2.1) := decide_eq_decide.mpr (cmpI_neg.trans lessB_iff)
theorem swoP : Go.Sort.SWO (ltOf cfI) where
  irrefl x := by rw [ltP]; simp
  trans x y z h1 h2 := by rw [ltP] at *; simp at *; omega
  ntrans x y z h1 h2 := by rw [ltP] at *; simp at *; omega
set_option maxHeartbeats 1000000 in
theorem byId_grown (a b : Rc) (w : World) : Calls Tryz.prog 90 #[a.v, b.v] w fun e w' => e = .returned (.int .i64 (cmpI a b)) ∧ ∃ q os', w' = Go.Sort.grow (w.drewN q) os' := by
  go_enter Tryz.func90, Tryz.ntmps90
  go_wp2_with (go_at_call 68; refine (compare_any _ _ _).mono ?_; rintro e w1 ⟨rfl, rfl⟩)
  go_ret
  exact ⟨rfl, 0, _, by rw [Go.Sort.alloc_eq_grow, Go.Sort.alloc_eq_grow, Go.Sort.grow_grow]; rfl⟩
theorem cmpLaysP (blk off size : Nat) (w : World) : CmpLays Tryz.prog 90 #[] encP 5 cfI blk off size w :=
  fun _ _ _ _ x y => byId_grown (tri x) (tri y) _
theorem egP : ∀ args w, (callFunc 90 args).run Tryz.prog w = .ok (.enter 90 args) w := enters_of Tryz.func90 (by kernel_rfl) rfl

set_option maxRecDepth 100000 in
set_option maxHeartbeats 2000000 in
theorem sortFunc_any (base g cap : Nat) (L : List Rc) (m : Nat) (hm : L.length = m) (w : World) (h : w.ownsRow base 88 5 (.slice (some ⟨g, 0, none⟩) m cap) m (kR.flat L)) (hn : m ≤ 1000) :
    Calls Tryz.prog 94 #[.slice (some ⟨g, 0, none⟩) m cap, .func (.func 90) #[] #[]] w fun e w' => e = .returned (.tuple #[]) ∧ ∃ S : List Rc, S.Perm L ∧ S.Pairwise (fun a b => ¬ lessB b a = true) ∧ w'.ownsRow base 88 5 (.slice (some ⟨g, 0, none⟩) m cap) m (kR.flat S) ∧ w.grownBy w' (some g) := by
  have hH := own_holds hm h
  have hsz : (L.map pk).toArray.size = m := by simp [hm]
  have hblk := (h.lt g rfl).2
  generalize hd : (L.map pk).toArray = d at hH hsz
  have hlim : Lib.bitLen d.size < 4611686018427387904 := Nat.lt_of_le_of_lt (Lib.bitLen_le d.size 62 (by omega) (by omega)) (by omega)
  have hp := AnyQ.pdqsortCmpFunc_all Tryz.pdqI 5 Tryz.isAgg88 Tryz.sizeOf88 encP cfI 90 #[] swoP g 0 cap d w egP (cmpLaysP _ _ _ _) ⟨encP_len, encP_one, hH, hblk⟩ (d.size + 1) 0 d.size (Lib.bitLen d.size) d w (by omega) rfl (SWK.start hH) (Nat.zero_le _) (Nat.le_refl _) (by omega) hlim (Or.inl rfl)
  have hsort := Go.Sort.pdq_sorts (ltOf cfI) swoP d 0 d.size (Lib.bitLen d.size) true true (Nat.zero_le _) (Nat.le_refl _) (Or.inl rfl)
  have hl : Calls Tryz.prog 96 #[.int .u64 (d.size : Int)] w fun e w' => e = .returned (.int .i64 (Lib.bitLen d.size : Nat)) ∧ w' = w := by
    have h := Any.bits_Len (SlLaysF0.n15.bits Tryz.lenI) (d.size : Int) w (by omega) (by omega)
    rw [Int.toNat_natCast] at h
    exact h
  change Calls Tryz.prog 98 _ _ _ at hp
  rw [hsz] at hp hl hsort
  generalize Go.Sort.pdq (ltOf cfI) d 0 m (Lib.bitLen m) true true = d' at hp hsort
  generalize Lib.bitLen m = bl at hp hl
  clear hH hlim
  go_enter Tryz.func94, Tryz.ntmps94
  go_wp2_with (first | (go_at_call 96; refine hl.mono ?_; rintro e w1 ⟨rfl, rfl⟩) | (go_at_call 98; refine hp.mono ?_; rintro e w1 ⟨rfl, n, os, rfl⟩))
  go_end0
  obtain ⟨⟨hs1, _, hperm⟩, hso⟩ := hsort
  have hds : d'.size = m := by omega
  have e1 : (d'.extract 0 m).toList = d'.toList := by rw [← hds]; simp
  have e2 : (d.extract 0 m).toList = d.toList := by rw [← hsz]; simp
  rw [e1, e2] at hperm
  have hdl : d.toList.map tri = L := by rw [← hd]; simp [Function.comp_def, tri_p]
  refine ⟨rfl, d'.toList.map tri, ?_, ?_, sorted_own h hds, sorted_grown⟩
  · rw [← hdl]; exact hperm.map tri
  · rw [List.pairwise_map, List.pairwise_iff_getElem]
    intro i j hi hj hij
    have := hso i j (Nat.zero_le _) hij (by simpa [hds] using hj)
    rw [getElem!_pos d' j (by simpa using hj), getElem!_pos d' i (by simpa using hi)] at this
    intro h2
    exact (of_decide_eq_false this) (cmpI_neg.mpr h2)
end Go.Proofs.YtppoafggiejdgaaGreat.K.I
