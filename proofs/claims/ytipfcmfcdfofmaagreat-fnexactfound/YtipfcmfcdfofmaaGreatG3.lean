/-
  The program's sort of Marks, by whatever comparison: what comes out has the same Marks, in order.
-/
import Derived.Test.YtipfcmfcdfofmaaGreatG1
import Derived.Test.YtipfcmfcdfofmaaGreatSh
import Derived.Test.YtipfcmfcdfofmaaGreatSB
import Derived.Sort.OwnSorted
import Derived.Deep.Cut
import Derived.Deep.CutBlock
namespace Go.Proofs.YtipfcmfcdfofmaaGreat
open Go.Shelf Go.RowKit Go.Joins

def tri (p : Int × Int × Int) : Mk := ⟨p.1, p.2.1, p.2.2⟩
def Mk.p (c : Mk) : Int × Int × Int := (c.i, c.x, c.y)
def encP (p : Int × Int × Int) : List Value := kM.vs (tri p)
theorem tri_p (c : Mk) : tri c.p = c := rfl
theorem encP_len (p : Int × Int × Int) : (encP p).length = 3 := rfl
theorem encP_one (p : Int × Int × Int) : ∀ v ∈ encP p, v.oneCell' = true := fun v hv => by simp [encP, kM] at hv; rcases hv with rfl | rfl | rfl <;> rfl

theorem flatK_flat (d : Array (Int × Int × Int)) : (Go.Sort.flatK encP 3 d).toList = kM.flat (d.toList.map tri) := by
  refine List.ext_getElem? fun t => ?_
  have hl : (kM.flat (d.toList.map tri)).length = d.size * 3 := by rw [Kd.flat_len]; simp [kM]
  by_cases ht : t < d.size * 3
  · have hk : t / 3 < d.size := by omega
    have hg : (d.toList.map tri)[t / 3]? = some (tri d[t / 3]) := by simp [hk]
    have f0 := Kd.flat_get (K := kM) hg (i := t % 3) (Nat.mod_lt _ (by decide))
    have e3 : t / 3 * kM.n + t % 3 = t := by show t / 3 * 3 + t % 3 = t; omega
    rw [e3] at f0
    have e1 : (Go.Sort.flatK encP 3 d).toList[t]? = some ((encP d[t / 3]!)[t % 3]!) := by
      rw [List.getElem?_eq_getElem (by simp; omega)]
      congr 1
      have := Go.Sort.get_flatK encP 3 d t ht
      rw [getElem!_pos _ t (by simp; omega)] at this
      simpa using this
    rw [e1, getElem!_pos d (t / 3) hk, f0]
    have hlt : t % 3 < (encP d[t / 3]).length := by rw [encP_len]; exact Nat.mod_lt _ (by decide)
    rw [getElem!_pos (encP d[t / 3]) (t % 3) hlt]
    exact (List.getElem?_eq_getElem hlt).symm
  · rw [List.getElem?_eq_none (by simp; omega), List.getElem?_eq_none (by omega)]

theorem sorted_own {w : World} {base g cap n m : Nat} {os : Array Obj} {L : List Mk} {d' : Array (Int × Int × Int)} (h : w.ownsRow base 45 3 (.slice (some ⟨g, 0, none⟩) m cap) m (kM.flat L)) (hl : d'.size = m) :
    (sortWorldK encP 3 w g 0 n d' os).ownsRow base 45 3 (.slice (some ⟨g, 0, none⟩) m cap) m (kM.flat (d'.toList.map tri)) := by
  obtain ⟨h0, ⟨h1, _⟩ | ⟨g', cap', cur, e, hg, hh, hc, hm', hs, ht⟩⟩ := h
  · cases h1
  · injection e with e1 e2 e3
    injection e1 with e1
    injection e1 with e1
    subst e1 e3
    have hlen : (d'.toList.map tri).length = m := by simp [hl]
    refine ⟨by rw [Kd.flat_len, hlen]; rfl, .inr ⟨g, cap, Go.Sort.putCells id 0 (Go.Sort.flatK encP 3 d') cur, rfl, hg, ?_, hc, hm', by simp [Go.Sort.putCells, hs], ?_⟩⟩
    · have hlt := (Array.getElem?_eq_some_iff.1 hh).1
      unfold sortWorldK Go.Sort.putRowK Go.Sort.putRow
      rw [Go.Sort.heap_grow_old _ _ (by simpa [Go.Sort.mapBlock, Go.Sort.ahead] using hlt)]
      simp [Go.Sort.mapBlock, Go.Sort.ahead, Array.getElem?_modify, hh, Go.Sort.onCells]
    · rw [← flatK_flat]
      refine List.ext_getElem? fun j => ?_
      have hfs : (Go.Sort.flatK encP 3 d').size = m * 3 := by simp [hl]
      by_cases hj : j < m * 3
      · rw [List.getElem?_take_of_lt hj, Array.getElem?_toList]
        have hjc : j < cur.size := by rw [hs]; have := Nat.mul_le_mul_right 3 hc; omega
        simp [Go.Sort.putCells, hjc, hj, hl]
      · rw [List.getElem?_take_eq_none (by omega), List.getElem?_eq_none (by simp; omega)]
theorem sorted_grown {w : World} {g n : Nat} {os : Array Obj} {d' : Array (Int × Int × Int)} : w.grownBy (sortWorldK encP 3 w g 0 n d' os) (some g) := by
  unfold sortWorldK Go.Sort.putRowK Go.Sort.putRow
  refine ⟨rfl, rfl, rfl, by simp [Go.Sort.mapBlock, Go.Sort.ahead, Go.Sort.grow], fun k hk hne => ?_⟩
  rw [Go.Sort.heap_grow_old _ _ (by simpa [Go.Sort.mapBlock, Go.Sort.ahead] using hk)]
  have : g ≠ k := fun e => hne (by rw [e])
  simp [Go.Sort.mapBlock, Go.Sort.ahead, Array.getElem?_modify, this]
theorem own_holds {w : World} {base g cap m : Nat} {L : List Mk} (hm : L.length = m) (h : w.ownsRow base 45 3 (.slice (some ⟨g, 0, none⟩) m cap) m (kM.flat L)) : Go.Sort.HoldsK encP 3 w g 0 (L.map Mk.p).toArray := by
  intro j hj
  have hs : (Go.Sort.flatK encP 3 (L.map Mk.p).toArray).size = m * 3 := by simp [hm]
  have hj' : j < m * 3 := by omega
  have hfl := flatK_flat (L.map Mk.p).toArray
  have hmm : ((L.map Mk.p).toArray.toList.map tri) = L := by simp [Function.comp_def, tri_p]
  rw [hmm] at hfl
  rw [Nat.zero_add]
  refine ⟨?_, h.frozenAt j⟩
  rw [h.cellAt j hj', ← hfl, getElem!_pos _ j hj]
  simp

/-- What a comparison is: by f, of alike ones by number. -/
def cfM (f : Mk → Int) (p q : Int × Int × Int) : Int := O.D.orI (O.D.cmpI (f (tri p)) (f (tri q))) (O.D.cmpI p.1 q.1)
theorem cfM_lt (f : Mk → Int) (p q : Int × Int × Int) : cfM f p q < 0 ↔ ltM f (tri p) (tri q) := by
  unfold cfM O.D.orI O.D.cmpI ltM
  show _ ↔ (f (tri p) < f (tri q) ∨ f (tri p) = f (tri q) ∧ p.1 < q.1)
  split <;> (try split) <;> (try split) <;> (try split) <;> (try split) <;> omega
theorem ltP (f : Mk → Int) (p q : Int × Int × Int) : ltOf (cfM f) p q = decide (f (tri p) < f (tri q) ∨ f (tri p) = f (tri q) ∧ p.1 < q.1) := decide_eq_decide.mpr (cfM_lt f p q)
theorem swoP (f : Mk → Int) : Go.Sort.SWO (ltOf (cfM f)) where
  irrefl x := by rw [ltP]; simp
  trans x y z h1 h2 := by rw [ltP] at *; simp at *; omega
  ntrans x y z h1 h2 := by rw [ltP] at *; simp at *; omega

set_option maxRecDepth 100000 in
set_option maxHeartbeats 2000000 in
theorem sortFunc_any (f : Mk → Int) (fn : Nat) (lb : Array Value) (eg : ∀ args w, (callFunc fn args).run Tryz.prog w = .ok (.enter fn args) w) (base g cap : Nat) (L : List Mk) (m : Nat) (hm : L.length = m) (w : World) (hcl : CmpLays Tryz.prog fn lb encP 3 (cfM f) g 0 m w) (h : w.ownsRow base 45 3 (.slice (some ⟨g, 0, none⟩) m cap) m (kM.flat L)) (hn : m ≤ 1000) :
    Calls Tryz.prog 100 #[.slice (some ⟨g, 0, none⟩) m cap, .func (.func fn) #[] lb] w fun e w' => e = .returned (.tuple #[]) ∧ ∃ S : List Mk, S.Perm L ∧ S.Pairwise (fun a b => ¬ ltM f b a) ∧ w'.ownsRow base 45 3 (.slice (some ⟨g, 0, none⟩) m cap) m (kM.flat S) ∧ w.grownBy w' (some g) := by
  have hH := own_holds hm h
  have hsz : (L.map Mk.p).toArray.size = m := by simp [hm]
  have hblk := (h.lt g rfl).2
  generalize hd : (L.map Mk.p).toArray = d at hH hsz
  have hlim : Lib.bitLen d.size < 4611686018427387904 := Nat.lt_of_le_of_lt (Lib.bitLen_le d.size 62 (by omega) (by omega)) (by omega)
  have hp := AnyQ.pdqsortCmpFunc_all Tryz.pdqC 3 Tryz.isAgg45 Tryz.sizeOf45 encP (cfM f) fn lb (swoP f) g 0 cap d w eg (by rw [hsz]; exact hcl) ⟨encP_len, encP_one, hH, hblk⟩ (d.size + 1) 0 d.size (Lib.bitLen d.size) d w (by omega) rfl (SWK.start hH) (Nat.zero_le _) (Nat.le_refl _) (by omega) hlim (Or.inl rfl)
  have hsort := Go.Sort.pdq_sorts (ltOf (cfM f)) (swoP f) d 0 d.size (Lib.bitLen d.size) true true (Nat.zero_le _) (Nat.le_refl _) (Or.inl rfl)
  have hl : Calls Tryz.prog 88 #[.int .u64 (d.size : Int)] w fun e w' => e = .returned (.int .i64 (Lib.bitLen d.size : Nat)) ∧ w' = w := by
    have h := Any.bits_Len (SlLaysF0.n15.bits Tryz.lenC) (d.size : Int) w (by omega) (by omega)
    rw [Int.toNat_natCast] at h
    exact h
  change Calls Tryz.prog 124 _ _ _ at hp
  rw [hsz] at hp hl hsort
  generalize Go.Sort.pdq (ltOf (cfM f)) d 0 m (Lib.bitLen m) true true = d' at hp hsort
  generalize Lib.bitLen m = bl at hp hl
  clear hH hlim hcl
  go_enter Tryz.func100, Tryz.ntmps100
  go_wp2_with (first | (go_at_call 88; refine hl.mono ?_; rintro e w1 ⟨rfl, rfl⟩) | (go_at_call 124; refine hp.mono ?_; rintro e w1 ⟨rfl, n, os, rfl⟩))
  go_end0
  obtain ⟨⟨hs1, _, hperm⟩, hso⟩ := hsort
  have hds : d'.size = m := by omega
  have e1 : (d'.extract 0 m).toList = d'.toList := by rw [← hds]; simp
  have e2 : (d.extract 0 m).toList = d.toList := by rw [← hsz]; simp
  rw [e1, e2] at hperm
  have hdl : d.toList.map tri = L := by rw [← hd]; simp [Function.comp_def, tri_p]
  refine ⟨rfl, d'.toList.map tri, ?_, ?_, sorted_own h hds, sorted_grown⟩
  · rw [← hdl]; exact hperm.map tri
  · rw [List.pairwise_map, List.pairwise_iff_getElem]
    intro i j hi hj hij
    have := hso i j (Nat.zero_le _) hij (by simpa [hds] using hj)
    rw [getElem!_pos d' j (by simpa using hj), getElem!_pos d' i (by simpa using hi)] at this
    intro h2
    exact (of_decide_eq_false this) ((cfM_lt f _ _).mpr h2)
end Go.Proofs.YtipfcmfcdfofmaaGreat
