/-
  The program's sort of Spots: what comes out has the same Spots, in order.
-/
import Derived.Test.YtocfdmlkicndoaaG1
import Derived.Test.YtocfdmlkicndoaaSh
import Derived.Test.YtocfdmlkicndoaaC0
import Derived.Sort.OwnSorted
import Derived.Deep.Cut
import Derived.Deep.CutBlock
namespace Go.Proofs.Ytocfdmlkicndoaa
open Go.Shelf Go.RowKit Go.Joins

def tri (p : Int × Int) : T2 := ⟨p.1, p.2⟩
def T2.p (c : T2) : Int × Int := (c.x, c.y)
def encQ (p : Int × Int) : List Value := (tri p).vs
def cfP (p q : Int × Int) : Int := D.cmpT (tri p) (tri q)
theorem tri_p (c : T2) : tri c.p = c := rfl
theorem encQ_len (p : Int × Int) : (encQ p).length = 2 := rfl
theorem encQ_one (p : Int × Int) : ∀ v ∈ encQ p, v.oneCell' = true := fun v hv => by simp [encQ, T2.vs] at hv; rcases hv with rfl | rfl <;> rfl
theorem cmpT_lt (a b : T2) : D.cmpT a b < 0 ↔ (a.x < b.x ∨ a.x = b.x ∧ a.y < b.y) := by
  unfold D.cmpT D.orI D.cmpI
  split <;> (try split) <;> (try split) <;> (try split) <;> (try split) <;> omega
theorem ltQ (p q : Int × Int) : ltOf cfP p q = decide ((tri p).x < (tri q).x ∨ (tri p).x = (tri q).x ∧ (tri p).y < (tri q).y) := decide_eq_decide.mpr (cmpT_lt _ _)
theorem swoP : Go.Sort.SWO (ltOf cfP) where
  irrefl x := by rw [ltQ]; simp
  trans x y z h1 h2 := by rw [ltQ] at *; simp at *; omega
  ntrans x y z h1 h2 := by rw [ltQ] at *; simp at *; omega
theorem cmpLaysP (blk off size : Nat) (w : World) : CmpLays Try.prog 45 #[] encQ 2 cfP blk off size w :=
  fun _ _ _ _ x y => (D.cmp_any (tri x) (tri y) _).mono fun _ _ ⟨he, hb⟩ => ⟨he, hb.grown⟩

theorem flatK_flat (d : Array (Int × Int)) : (Go.Sort.flatK encQ 2 d).toList = flat (d.toList.map tri) := by
  refine List.ext_getElem? fun t => ?_
  have hl : (flat (d.toList.map tri)).length = d.size * 2 := by rw [flat_len]; simp
  by_cases ht : t < d.size * 2
  · have hk : t / 2 < d.size := by omega
    have hg : (d.toList.map tri)[t / 2]? = some (tri d[t / 2]) := by simp [hk]
    obtain ⟨f0, f1⟩ := flat_get hg
    have e1 : (Go.Sort.flatK encQ 2 d).toList[t]? = some ((encQ d[t / 2]!)[t % 2]!) := by
      rw [List.getElem?_eq_getElem (by simp; omega)]
      congr 1
      have := Go.Sort.get_flatK encQ 2 d t ht
      rw [getElem!_pos _ t (by simp; omega)] at this
      simpa using this
    rw [e1, getElem!_pos d (t / 2) hk]
    have hm : t % 2 = 0 ∨ t % 2 = 1 := by omega
    rcases hm with h | h
    · have : (flat (d.toList.map tri))[t]? = (flat (d.toList.map tri))[t / 2 * 2]? := by congr 1; omega
      rw [this, h, f0]; rfl
    · have : (flat (d.toList.map tri))[t]? = (flat (d.toList.map tri))[t / 2 * 2 + 1]? := by congr 1; omega
      rw [this, h, f1]; rfl
  · rw [List.getElem?_eq_none (by simp; omega), List.getElem?_eq_none (by omega)]

theorem sorted_own {w : World} {base g cap n : Nat} {os : Array Obj} {L : List T2} {d' : Array (Int × Int)} (h : Ow w base (.slice (some ⟨g, 0, none⟩) L.length cap) L) (hl : d'.size = L.length) :
    Ow (sortWorldK encQ 2 w g 0 n d' os) base (.slice (some ⟨g, 0, none⟩) L.length cap) (d'.toList.map tri) := by
  obtain ⟨h0, ⟨h1, _⟩ | ⟨g', cap', cur, e, hg, hh, hc, hm, hs, ht⟩⟩ := h
  · cases h1
  · injection e with e1 e2 e3
    injection e1 with e1
    injection e1 with e1
    subst e1 e3
    have hlen : (d'.toList.map tri).length = L.length := by simp [hl]
    unfold Ow
    rw [hlen]
    refine ⟨by rw [flat_len, hlen], .inr ⟨g, cap, Go.Sort.putCells id 0 (Go.Sort.flatK encQ 2 d') cur, rfl, hg, ?_, hc, hm, by simp [Go.Sort.putCells, hs], ?_⟩⟩
    · have hlt := (Array.getElem?_eq_some_iff.1 hh).1
      unfold sortWorldK Go.Sort.putRowK Go.Sort.putRow
      rw [Go.Sort.heap_grow_old _ _ (by simpa [Go.Sort.mapBlock, Go.Sort.ahead] using hlt)]
      simp [Go.Sort.mapBlock, Go.Sort.ahead, Array.getElem?_modify, hh, Go.Sort.onCells]
    · rw [← flatK_flat]
      refine List.ext_getElem? fun j => ?_
      have hfs : (Go.Sort.flatK encQ 2 d').size = L.length * 2 := by simp [hl]
      by_cases hj : j < L.length * 2
      · rw [List.getElem?_take_of_lt hj, Array.getElem?_toList]
        have hjc : j < cur.size := by rw [hs]; have := Nat.mul_le_mul_right 3 hc; omega
        simp [Go.Sort.putCells, hjc, hj, hl]
      · rw [List.getElem?_take_eq_none (by omega), List.getElem?_eq_none (by simp; omega)]
theorem sorted_grown {w : World} {g n : Nat} {os : Array Obj} {d' : Array (Int × Int)} : w.grownBy (sortWorldK encQ 2 w g 0 n d' os) (some g) := by
  unfold sortWorldK Go.Sort.putRowK Go.Sort.putRow
  refine ⟨rfl, rfl, rfl, by simp [Go.Sort.mapBlock, Go.Sort.ahead, Go.Sort.grow], fun k hk hne => ?_⟩
  rw [Go.Sort.heap_grow_old _ _ (by simpa [Go.Sort.mapBlock, Go.Sort.ahead] using hk)]
  have : g ≠ k := fun e => hne (by rw [e])
  simp [Go.Sort.mapBlock, Go.Sort.ahead, Array.getElem?_modify, this]
theorem own_holds {w : World} {base g cap : Nat} {L : List T2} (h : Ow w base (.slice (some ⟨g, 0, none⟩) L.length cap) L) : Go.Sort.HoldsK encQ 2 w g 0 (L.map T2.p).toArray := by
  intro j hj
  have hs : (Go.Sort.flatK encQ 2 (L.map T2.p).toArray).size = L.length * 2 := by simp
  have hj' : j < L.length * 2 := by omega
  have hfl := flatK_flat (L.map T2.p).toArray
  have hmm : ((L.map T2.p).toArray.toList.map tri) = L := by simp [Function.comp_def, tri_p]
  rw [hmm] at hfl
  rw [Nat.zero_add]
  refine ⟨?_, h.frozenAt j⟩
  rw [h.cellAt j hj', ← hfl, getElem!_pos _ j hj]
  simp

set_option maxRecDepth 100000 in
set_option maxHeartbeats 2000000 in
theorem sortFunc_any (base g cap : Nat) (L : List T2) (w : World) (h : Ow w base (.slice (some ⟨g, 0, none⟩) L.length cap) L) (hn : L.length ≤ 1048576) :
    Calls Try.prog 60 #[.slice (some ⟨g, 0, none⟩) L.length cap, .func (.func 45) #[] #[]] w fun e w' => e = .returned (.tuple #[]) ∧ ∃ S : List T2, S.Perm L ∧ S.Pairwise (fun a b => 0 ≤ D.cmpT b a) ∧ Ow w' base (.slice (some ⟨g, 0, none⟩) L.length cap) S ∧ w.grownBy w' (some g) := by
  have eg : ∀ args w, (callFunc 45 args).run Try.prog w = .ok (.enter 45 args) w := enters_of Try.func45 (by kernel_rfl) rfl
  have hH := own_holds h
  have hsz : (L.map T2.p).toArray.size = L.length := by simp
  have hblk := (h.lt g rfl).2
  generalize hd : (L.map T2.p).toArray = d at hH hsz
  have hlim : Lib.bitLen d.size < 4611686018427387904 := Nat.lt_of_le_of_lt (Lib.bitLen_le d.size 62 (by omega) (by omega)) (by omega)
  have hp := AnyQ.pdqsortCmpFunc_all Try.pdqC 2 Try.isAgg37 Try.sizeOf37 encQ cfP 45 #[] swoP g 0 cap d w eg (cmpLaysP g 0 d.size w) ⟨encQ_len, encQ_one, hH, hblk⟩ (d.size + 1) 0 d.size (Lib.bitLen d.size) d w (by omega) rfl (SWK.start hH) (Nat.zero_le _) (Nat.le_refl _) (by omega) hlim (Or.inl rfl)
  have hsort := Go.Sort.pdq_sorts (ltOf cfP) swoP d 0 d.size (Lib.bitLen d.size) true true (Nat.zero_le _) (Nat.le_refl _) (Or.inl rfl)
  have hl : Calls Try.prog 72 #[.int .u64 (d.size : Int)] w fun e w' => e = .returned (.int .i64 (Lib.bitLen d.size : Nat)) ∧ w' = w := by
    have h := Any.bits_Len (SlLaysF0.n15.bits Try.lenC) (d.size : Int) w (by omega) (by omega)
    rw [Int.toNat_natCast] at h
    exact h
  change Calls Try.prog 71 _ _ _ at hp
  rw [hsz] at hp hl hsort
  generalize Go.Sort.pdq (ltOf cfP) d 0 L.length (Lib.bitLen L.length) true true = d' at hp hsort
  generalize Lib.bitLen L.length = bl at hp hl
  clear hH hlim
  go_enter Try.func60, Try.ntmps60
  go_wp2_with (first | (go_at_call 72; refine hl.mono ?_; rintro e w1 ⟨rfl, rfl⟩) | (go_at_call 71; refine hp.mono ?_; rintro e w1 ⟨rfl, n, os, rfl⟩))
  go_end0
  obtain ⟨⟨hs1, _, hperm⟩, hso⟩ := hsort
  have hds : d'.size = L.length := by omega
  have e1 : (d'.extract 0 L.length).toList = d'.toList := by rw [← hds]; simp
  have e2 : (d.extract 0 L.length).toList = d.toList := by rw [← hsz]; simp
  rw [e1, e2] at hperm
  have hdl : d.toList.map tri = L := by rw [← hd]; simp [Function.comp_def, tri_p]
  refine ⟨rfl, d'.toList.map tri, ?_, ?_, sorted_own h hds, sorted_grown⟩
  · rw [← hdl]; exact hperm.map tri
  · rw [List.pairwise_map, List.pairwise_iff_getElem]
    intro i j hi hj hij
    have := hso i j (Nat.zero_le _) hij (by simpa [hds] using hj)
    rw [getElem!_pos d' j (by simpa using hj), getElem!_pos d' i (by simpa using hi)] at this
    exact Int.not_lt.mp (of_decide_eq_false this)


set_option maxRecDepth 100000 in
set_option maxHeartbeats 2000000 in
theorem sorted_any (g off cap : Nat) (L : List T2) (w : World) (hL : Cs w g off L) (hn : L.length ≤ 1048576) :
    Calls Try.prog 44 #[.slice (some ⟨g, off, none⟩) L.length cap, .func (.func 45) #[] #[]] w fun e w' => ∃ q cap' S, e = .returned (.slice (some ⟨q, 0, none⟩) S.length cap') ∧ S.Perm L ∧ S.Pairwise (fun a b => ltB b a = false) ∧ Ow w' w.heap.size (.slice (some ⟨q, 0, none⟩) S.length cap') S ∧ Below w.heap.size w w' := by
  obtain ⟨i0, hi, hz0, hz1, hz2⟩ := info_parts info37
  have hmk := run_make (P := Try.prog) w 66 37 i0 _ Try.underlying66 hi hz0 .i64 .i64 (L.length : Int) (L.length : Int) (by omega) (by omega) (by rw [hz2]; omega) (by omega)
  rw [hz1, Int.toNat_natCast] at hmk
  have hrow0 : Ow (w.alloc (.cells (madeCells #[.int .i64 0, .int .i64 0] (L.length * 2)) 37)) w.heap.size (.slice (some ⟨w.heap.size, 0, none⟩) L.length L.length) (List.replicate L.length zro) := by
    have := World.ownsRow_lit (base := w.heap.size) (e := 37) (size := 2) w (madeCells #[.int .i64 0, .int .i64 0] (L.length * 2)) L.length (Nat.le_refl _) (by unfold maxLen; omega) (size_madeCells _ _)
    rw [made_flat] at this
    unfold Ow; rw [List.length_replicate]; exact this
  have hb0 := below_alloc1 w (.cells (madeCells #[.int .i64 0, .int .i64 0] (L.length * 2)) 37)
  have hsrc : ∀ j u, (flat L)[j]? = some u → (w.alloc (.cells (madeCells #[.int .i64 0, .int .i64 0] (L.length * 2)) 37)).cell? ((⟨g, off, none⟩ : Addr).add j) = some u := cs_news (hL.step hb0)
  obtain ⟨W1, hcp, hO1, hg1⟩ := run_copyT (M := List.replicate L.length zro) (L := L) (c := cap) (by rw [List.length_replicate]; exact hrow0) (by simp) hsrc
  rw [List.length_replicate] at hcp hO1
  have hb1 : Below w.heap.size w W1 := bel_grown hb0 hg1 (fun r hr => by injection hr with hr; omega) (Nat.le_refl _)
  clear hsrc hrow0 hb0
  go_enter Try.func44, Try.ntmps44
  go_wp2_with (go_at_call 60; refine (sortFunc_any w.heap.size w.heap.size L.length L _ hO1 hn).mono ?_; rintro e w2 ⟨rfl, S, hS1, hS2, hS3, hS4⟩)
  go_ret
  have hSl := hS1.length_eq
  refine ⟨w.heap.size, L.length, S, by rw [hSl]; rfl, hS1, ?_, by unfold Ow; rw [hSl]; unfold Ow at hS3; rw [hSl] at hS3; exact hS3, bel_grown hb1 hS4 (fun r hr => by injection hr with hr; omega) (Nat.le_refl _)⟩
  refine hS2.imp fun {a b} h => ?_
  refine Bool.eq_false_iff.mpr fun h2 => ?_
  have := (cmpT_lt b a).mpr (ltB_t.mp h2)
  omega
end Go.Proofs.Ytocfdmlkicndoaa
