/-
  The program's sort of Items: what comes out has the same Items, in order.
-/
import Derived.Test.YtbkiogedipmioaaGreatVUIB0
import Derived.Test.YtbkiogedipmioaaGreatVUL1
import Derived.Shelf.SlSortCmp.WholeK
import Derived.Shelf.SlGeneric
import Derived.Ground.SlsfProg
import Derived.Test.YtbkiogedipmioaaGreatRows
import Derived.Test.YtbkiogedipmioaaGreatVUIB1
import Derived.Sort.OwnSorted
import Derived.Deep.Cut
import Derived.Deep.CutBlock
namespace Go.Proofs.YtbkiogedipmioaaGreat.V.U.I
open Go.Shelf Go.RowKit Go.Joins
attribute [local go_sem] Oper.semAt_some

theorem Sg.setR {w W : World} {A Bs : List Rw} {g n c : Nat} {M : List Rc} (h : Sg w W (A ++ rG kR (.slice (some ⟨g, 0, none⟩) n c) M :: Bs)) {k : Nat} (hk : k < M.length) (m : Rc) :
    Sg w (((((W.setCell ⟨g, k * 5, none⟩ (.int .i64 m.t)).setCell ⟨g, k * 5 + 1, none⟩ (.int .i64 m.i)).setCell ⟨g, k * 5 + 2, none⟩ (.int .i64 m.x)).setCell ⟨g, k * 5 + 3, none⟩ (.int .i64 m.y)).setCell ⟨g, k * 5 + 4, none⟩ (.string m.s)) (A ++ rG kR (.slice (some ⟨g, 0, none⟩) n c) (M.set k m) :: Bs) := by
  have ho : OwG kR W w.heap.size (.slice (some ⟨g, 0, none⟩) n c) M := h.mem (by simp)
  have hn := OwG.len ho
  subst hn
  have h1 := ((((Sg.setRaw h (k * 5) (.int .i64 m.t)).setRaw (k * 5 + 1) (.int .i64 m.i)).setRaw (k * 5 + 2) (.int .i64 m.x)).setRaw (k * 5 + 3) (.int .i64 m.y)).setRaw (k * 5 + 4) (.string m.s)
  have hl := Kd.flat_len (K := kR) M
  have e : kR.flat (M.set k m) = (((((kR.flat M).set (k * 5) (.int .i64 m.t)).set (k * 5 + 1) (.int .i64 m.i)).set (k * 5 + 2) (.int .i64 m.x)).set (k * 5 + 3) (.int .i64 m.y)).set (k * 5 + 4) (.string m.s) := by
    rw [set5 (by rw [hl]; show k * 5 + 5 ≤ M.length * 5; omega), Kd.flat_set m hk]; rfl
  have e2 : rG kR (.slice (some ⟨g, 0, none⟩) M.length c) (M.set k m) = ⟨.slice (some ⟨g, 0, none⟩) M.length c, 117, 5, M.length, (((((kR.flat M).set (k * 5) (.int .i64 m.t)).set (k * 5 + 1) (.int .i64 m.i)).set (k * 5 + 2) (.int .i64 m.x)).set (k * 5 + 3) (.int .i64 m.y)).set (k * 5 + 4) (.string m.s)⟩ := by
    unfold rG; rw [e, List.length_set]; rfl
  rw [e2]; exact h1
set_option maxHeartbeats 1000000 in
theorem toRec_any (r : Rc) (w : World) : Calls Tryz.prog 92 #[r.v] w fun e w' => e = .returned r.v ∧ Below w.heap.size w w' := by
  obtain ⟨t, i, x, y, s⟩ := r
  have hst := (((St.nil w).push [.int .i64 t, .int .i64 i, .int .i64 x, .int .i64 y, .string s] 135).push [.int .i64 0, .int .i64 0, .int .i64 0, .int .i64 0, .string ByteArray.empty] 117).push [.int .i64 t, .int .i64 i, .int .i64 0, .int .i64 0, .string ByteArray.empty] 117
  simp only [World.size_alloc] at hst
  go_enter Tryz.func92, Tryz.ntmps92
  go_wp2_with (go_at_call 91; refine (toSpot_any _ _ _).mono ?_; rintro e w1 ⟨rfl, hb2⟩; have hs1 := hst.step hb2; have hk := hs1.has; simp [Has, HasAt] at hk)
  refine bodyPost_ret (v := .agg #[.int .i64 t, .int .i64 i, .int .i64 x, .int .i64 y, .string s]) (by simp [results, Tryz.results92, go_sem, hk]) rfl ⟨rfl, ?_⟩
  have b2 : w.heap.size ≤ w.heap.size + 1 + 1 := by omega
  have b1 : w.heap.size ≤ w.heap.size + 1 := by omega
  exact (((((((hs1.bel.setCell (p := ⟨w.heap.size + 1 + 1, 2, none⟩) b2 _).setCell (p := ⟨w.heap.size + 1 + 1, 3, none⟩) b2 _).setCell (p := ⟨w.heap.size + 1 + 1, 4, none⟩) b2 _).setCell (p := ⟨w.heap.size + 1, 0, none⟩) b1 _).setCell (p := ⟨w.heap.size + 1, 1, none⟩) b1 _).setCell (p := ⟨w.heap.size + 1, 2, none⟩) b1 _).setCell (p := ⟨w.heap.size + 1, 3, none⟩) b1 _).setCell (p := ⟨w.heap.size + 1, 4, none⟩) b1 _
theorem made_flatR (n : Nat) : (madeCells #[.int .i64 0, .int .i64 0, .int .i64 0, .int .i64 0, .string ByteArray.empty] (n * 5)).toList = kR.flat (List.replicate n zrc) := by
  refine List.ext_getElem? fun i => ?_
  have hl : (kR.flat (List.replicate n zrc)).length = n * 5 := by rw [Kd.flat_len]; simp [kR]
  by_cases hi : i < n * 5
  · have h6 : i / 5 < n := by omega
    have hk : (List.replicate n zrc)[i / 5]? = some zrc := by simp [h6]
    have hg := Kd.flat_get (K := kR) hk (i := i % 5) (Nat.mod_lt _ (by decide))
    have e3 : i / 5 * kR.n + i % 5 = i := by show i / 5 * 5 + i % 5 = i; omega
    rw [e3] at hg
    rw [hg]
    have hm : i % 5 = 0 ∨ i % 5 = 1 ∨ i % 5 = 2 ∨ i % 5 = 3 ∨ i % 5 = 4 := by omega
    rcases hm with hm | hm | hm | hm | hm <;> simp [madeCells, hi, hm, kR, zrc]
  · rw [List.getElem?_eq_none (by simp [madeCells]; omega), List.getElem?_eq_none (by omega)]
set_option maxRecDepth 100000 in
set_option maxHeartbeats 2000000 in
theorem toRecS_any (p : Option Addr) (cap : Nat) (L : List Rc) (n : Nat) (hn : L.length = n) (w : World) (hL : SlG kL w p L) (hb : n ≤ 1048576) :
    Calls Tryz.prog 57 #[.slice p n cap] w fun e w' => ∃ g, e = .returned (.slice (some ⟨g, 0, none⟩) n n) ∧ Sg w w' [rG kR (.slice (some ⟨g, 0, none⟩) n n) L] := by
  obtain ⟨i0, hi, hz0, hz1, hz2⟩ := info_parts info117
  have hmk := run_make (P := Tryz.prog) w 28 117 i0 _ Tryz.underlying28 hi hz0 .i64 .i64 (n : Int) (n : Int) (by omega) (by omega) (by rw [hz2]; omega) (by omega)
  rw [hz1, Int.toNat_natCast] at hmk
  have hS0 : Sg w (w.alloc (.cells (madeCells #[.int .i64 0, .int .i64 0, .int .i64 0, .int .i64 0, .string ByteArray.empty] (n * 5)) 117)) [rG kR (.slice (some ⟨w.heap.size, 0, none⟩) n n) (List.replicate n zrc)] := by
    have h := World.ownsRow_lit (base := w.heap.size) (e := 117) (size := 5) w (madeCells #[.int .i64 0, .int .i64 0, .int .i64 0, .int .i64 0, .string ByteArray.empty] (n * 5)) n (Nat.le_refl _) (by unfold maxLen; omega) (size_madeCells _ _)
    rw [made_flatR] at h
    refine ⟨below_alloc1 _ _, fun r hr => ?_, by simp⟩
    simp at hr
    subst hr
    unfold Rw.own rG
    simp only [List.length_replicate]
    exact h
  have HN : Hid (L.length = n) := hn
  clear hn
  go_enter Tryz.func57, Tryz.ntmps57
  go_wp2
  go_loopw [4] (fun iv wr => ∃ (k : Nat) (M : List Rc), k ≤ n ∧ iv = .int .i64 k ∧ Hid (M.length = n ∧ ∀ j, j < k → M[j]? = L[j]?) ∧ Sg w wr [rG kR (.slice (some ⟨w.heap.size, 0, none⟩) n n) M]) (fun iv _ => n - (intOf iv).toNat)
  case atStart => exact ⟨0, _, by omega, rfl, ⟨by simp, fun j hj => by omega⟩, hS0⟩
  case round =>
    clear hS0
    obtain ⟨k, M, hk, rfl, hM, hS⟩ := hrel
    by_cases hlt : k < n
    · have hki : (k : Int) < n := by omega
      have hkL : k < L.length := by rw [HN.out]; exact hlt
      have hkM : k < M.length := by rw [hM.out.1]; exact hlt
      obtain ⟨g, off, rfl, hC⟩ := (hL.step hS.bel).at hkL
      obtain ⟨c0, c1, c2, c3, c4⟩ := hC.j5 (getR hkL)
      have hgk := getR hkL
      obtain ⟨m, hm⟩ : ∃ m, L.getD k zrc = m := ⟨_, rfl⟩
      rw [hm] at c0 c1 c2 c3 c4 hgk
      have HGK : Hid (L[k]? = some m ∧ k < M.length) := ⟨hgk, hkM⟩
      clear hgk hm hC
      go_wp2_with (go_at_call 92; refine (toRec_any m _).mono ?_; rintro e w1 ⟨rfl, hb2⟩; have hS1 := hS.step hb2; have ho := hS1.mem (K := kR) (v := .slice (some ⟨w.heap.size, 0, none⟩) n n) (L := M) (by simp); have hf := OwG.fz ho; obtain ⟨d0, d1, d2, d3, d4⟩ := (OwG.cs ho).i5 (getR HGK.out.2); simp only [Nat.zero_add] at d0 d1 d2 d3 d4; clear ho)
      have hS2 := Sg.setR (A := []) hS1 HGK.out.2 m
      go_roundw
      case rel =>
        refine ⟨k + 1, M.set k m, by omega, by go_num, ⟨by simp [hM.out.1], fun j hj => ?_⟩, hS2⟩
        by_cases e : k = j
        · subst e; rw [List.getElem?_set_self HGK.out.2, HGK.out.1]
        · rw [List.getElem?_set_ne e]; exact hM.out.2 j (by omega)
      case measure => simp [intOf]; omega
    · obtain rfl : k = n := by omega
      have e : M = L := List.ext_getElem? fun j => by
        by_cases hj : j < k
        · exact hM.out.2 j hj
        · rw [List.getElem?_eq_none (by rw [hM.out.1]; omega), List.getElem?_eq_none (by rw [HN.out]; omega)]
      subst e
      go_wp2
      go_ret
      exact ⟨_, rfl, hS⟩
end Go.Proofs.YtbkiogedipmioaaGreat.V.U.I
namespace Go.Proofs
open Go.Shelf
def Tryz.pdqI_ren : Go.Shelf.Ren := ⟨fun | 14 => 137 | 20 => 145 | 21 => 146 | 22 => 147 | 23 => 148 | 24 => 149 | 25 => 150 | 26 => 151 | 27 => 152 | 46 => 159 | 47 => 160 | 48 => 161 | 49 => 162 | 50 => 163 | 15 => 138 | 57 => 174 | 28 => 153 | 29 => 154 | n => n, fun | 24 => 117 | 22 => 28 | 3 => 3 | 25 => 158 | 4 => 4 | 0 => 0 | 46 => 197 | 45 => 196 | 50 => 180 | 66 => 208 | 39 => 176 | 55 => 205 | 70 => 212 | 76 => 219 | 77 => 160 | 53 => 203 | 5 => 5 | 9 => 9 | n => n, fun | n => n⟩
theorem Tryz.pdqI : Go.Proofs.SlLaysF0.n14 Tryz.prog Tryz.pdqI_ren := {
  mixed := by kernel_rfl
  f14 := ⟨Tryz.f137.name, by decide, Tryz.func137.trans (congrArg some (by kernel_rfl))⟩
  f15 := Tryz.func138.trans (congrArg some (by kernel_rfl))
  f20 := ⟨Tryz.f145.name, by decide, Tryz.func145.trans (congrArg some (by kernel_rfl))⟩
  f21 := ⟨Tryz.f146.name, by decide, Tryz.func146.trans (congrArg some (by kernel_rfl))⟩
  f22 := ⟨Tryz.f147.name, by decide, Tryz.func147.trans (congrArg some (by kernel_rfl))⟩
  f23 := ⟨Tryz.f148.name, by decide, Tryz.func148.trans (congrArg some (by kernel_rfl))⟩
  f24 := ⟨Tryz.f149.name, by decide, Tryz.func149.trans (congrArg some (by kernel_rfl))⟩
  f25 := ⟨Tryz.f150.name, by decide, Tryz.func150.trans (congrArg some (by kernel_rfl))⟩
  f26 := ⟨Tryz.f151.name, by decide, Tryz.func151.trans (congrArg some (by kernel_rfl))⟩
  f27 := ⟨Tryz.f152.name, by decide, Tryz.func152.trans (congrArg some (by kernel_rfl))⟩
  f28 := Tryz.func153.trans (congrArg some (by kernel_rfl))
  f29 := Tryz.func154.trans (congrArg some (by kernel_rfl))
  f46 := ⟨Tryz.f159.name, by decide, Tryz.func159.trans (congrArg some (by kernel_rfl))⟩
  f47 := Tryz.func160.trans (congrArg some (by kernel_rfl))
  f48 := Tryz.func161.trans (congrArg some (by kernel_rfl))
  f49 := ⟨Tryz.f162.name, by decide, Tryz.func162.trans (congrArg some (by kernel_rfl))⟩
  f50 := ⟨Tryz.f163.name, by decide, Tryz.func163.trans (congrArg some (by kernel_rfl))⟩
  f57 := ⟨Tryz.f174.name, by decide, Tryz.func174.trans (congrArg some (by kernel_rfl))⟩
  t0 := Tryz.underlying0
  a0 := Tryz.isAgg0
  z0 := Tryz.sizeOf0
  v0 := Tryz.zeroValue0
  t3 := Tryz.underlying3
  a3 := Tryz.isAgg3
  z3 := Tryz.sizeOf3
  v3 := Tryz.zeroValue3
  t4 := Tryz.underlying4
  a4 := Tryz.isAgg4
  z4 := Tryz.sizeOf4
  v4 := Tryz.zeroValue4
  t5 := Tryz.underlying5
  a5 := Tryz.isAgg5
  z5 := Tryz.sizeOf5
  v5 := Tryz.zeroValue5
  t9 := Tryz.underlying9
  a9 := Tryz.isAgg9
  z9 := Tryz.sizeOf9
  v9 := Tryz.zeroValue9
  t22 := Tryz.underlying28
  a22 := Tryz.isAgg28
  z22 := Tryz.sizeOf28
  v22 := Tryz.zeroValue28
  t25 := Tryz.underlying158
  a25 := Tryz.isAgg158
  z25 := Tryz.sizeOf158
  v25 := Tryz.zeroValue158
  t39 := Tryz.underlying176
  a39 := Tryz.isAgg176
  z39 := Tryz.sizeOf176
  v39 := Tryz.zeroValue176
  t45 := Tryz.underlying196
  a45 := Tryz.isAgg196
  z45 := Tryz.sizeOf196
  v45 := Tryz.zeroValue196
  t46 := Tryz.underlying197
  a46 := Tryz.isAgg197
  z46 := Tryz.sizeOf197
  v46 := Tryz.zeroValue197
  t50 := Tryz.underlying180
  a50 := Tryz.isAgg180
  z50 := Tryz.sizeOf180
  v50 := Tryz.zeroValue180
  t53 := Tryz.underlying203
  a53 := Tryz.isAgg203
  z53 := Tryz.sizeOf203
  v53 := Tryz.zeroValue203
  t55 := Tryz.underlying205
  a55 := Tryz.isAgg205
  z55 := Tryz.sizeOf205
  v55 := Tryz.zeroValue205
  t66 := Tryz.underlying208
  a66 := Tryz.isAgg208
  z66 := Tryz.sizeOf208
  v66 := Tryz.zeroValue208
  t70 := Tryz.underlying212
  a70 := Tryz.isAgg212
  z70 := Tryz.sizeOf212
  v70 := Tryz.zeroValue212
  t76 := Tryz.underlying219
  a76 := Tryz.isAgg219
  z76 := Tryz.sizeOf219
  v76 := Tryz.zeroValue219
  t77 := Tryz.underlying160
  a77 := Tryz.isAgg160
  z77 := Tryz.sizeOf160
  v77 := Tryz.zeroValue160 }
def Tryz.lenI_ren : Go.Shelf.Ren := ⟨fun | 15 => 138 | 28 => 153 | 29 => 154 | n => n, fun | 39 => 176 | 3 => 3 | 53 => 203 | 55 => 205 | 4 => 4 | 5 => 5 | 9 => 9 | n => n, fun | n => n⟩
theorem Tryz.lenI : Go.Proofs.SlLaysF0.n15 Tryz.prog Tryz.lenI_ren := {
  mixed := by kernel_rfl
  f15 := Tryz.func138.trans (congrArg some (by kernel_rfl))
  f28 := Tryz.func153.trans (congrArg some (by kernel_rfl))
  f29 := Tryz.func154.trans (congrArg some (by kernel_rfl))
  t3 := Tryz.underlying3
  a3 := Tryz.isAgg3
  z3 := Tryz.sizeOf3
  v3 := Tryz.zeroValue3
  t4 := Tryz.underlying4
  a4 := Tryz.isAgg4
  z4 := Tryz.sizeOf4
  v4 := Tryz.zeroValue4
  t5 := Tryz.underlying5
  a5 := Tryz.isAgg5
  z5 := Tryz.sizeOf5
  v5 := Tryz.zeroValue5
  t9 := Tryz.underlying9
  a9 := Tryz.isAgg9
  z9 := Tryz.sizeOf9
  v9 := Tryz.zeroValue9
  t39 := Tryz.underlying176
  a39 := Tryz.isAgg176
  z39 := Tryz.sizeOf176
  v39 := Tryz.zeroValue176
  t53 := Tryz.underlying203
  a53 := Tryz.isAgg203
  z53 := Tryz.sizeOf203
  v53 := Tryz.zeroValue203
  t55 := Tryz.underlying205
  a55 := Tryz.isAgg205
  z55 := Tryz.sizeOf205
  v55 := Tryz.zeroValue205 }
end Go.Proofs
namespace Go.Proofs.YtbkiogedipmioaaGreat.V.U.I
open Go.Shelf Go.RowKit Go.Joins
attribute [local go_sem] Oper.semAt_some

def tri (p : Int × Int × Int × Int × ByteArray) : Rc := ⟨p.1, p.2.1, p.2.2.1, p.2.2.2.1, p.2.2.2.2⟩
def pk (c : Rc) : Int × Int × Int × Int × ByteArray := (c.t, c.i, c.x, c.y, c.s)
def encP (p : Int × Int × Int × Int × ByteArray) : List Value := kR.vs (tri p)
theorem tri_p (c : Rc) : tri (pk c) = c := rfl
theorem encP_len (p : Int × Int × Int × Int × ByteArray) : (encP p).length = 5 := rfl
theorem encP_one (p : Int × Int × Int × Int × ByteArray) : ∀ v ∈ encP p, v.oneCell' = true := fun v hv => by simp [encP, kR] at hv; rcases hv with rfl | rfl | rfl | rfl | rfl <;> rfl

theorem flatK_flat (d : Array (Int × Int × Int × Int × ByteArray)) : (Go.Sort.flatK encP 5 d).toList = kR.flat (d.toList.map tri) := by
  refine List.ext_getElem? fun t => ?_
  have hl : (kR.flat (d.toList.map tri)).length = d.size * 5 := by rw [Kd.flat_len]; simp [kR]
  by_cases ht : t < d.size * 5
  · have hk : t / 5 < d.size := by omega
    have hg : (d.toList.map tri)[t / 5]? = some (tri d[t / 5]) := by simp [hk]
    have f0 := Kd.flat_get (K := kR) hg (i := t % 5) (Nat.mod_lt _ (by decide))
    have e3 : t / 5 * kR.n + t % 5 = t := by show t / 5 * 5 + t % 5 = t; omega
    rw [e3] at f0
    have e1 : (Go.Sort.flatK encP 5 d).toList[t]? = some ((encP d[t / 5]!)[t % 5]!) := by
      rw [List.getElem?_eq_getElem (by simp; omega)]
      congr 1
      have := Go.Sort.get_flatK encP 5 d t ht
      rw [getElem!_pos _ t (by simp; omega)] at this
      simpa using this
    rw [e1, getElem!_pos d (t / 5) hk, f0]
    have hlt : t % 5 < (encP d[t / 5]).length := by rw [encP_len]; exact Nat.mod_lt _ (by decide)
    rw [getElem!_pos (encP d[t / 5]) (t % 5) hlt]
    exact (List.getElem?_eq_getElem hlt).symm
  · rw [List.getElem?_eq_none (by simp; omega), List.getElem?_eq_none (by omega)]

theorem sorted_own {w : World} {base g cap n m : Nat} {os : Array Obj} {L : List Rc} {d' : Array (Int × Int × Int × Int × ByteArray)} (h : w.ownsRow base 117 5 (.slice (some ⟨g, 0, none⟩) m cap) m (kR.flat L)) (hl : d'.size = m) :
    (sortWorldK encP 5 w g 0 n d' os).ownsRow base 117 5 (.slice (some ⟨g, 0, none⟩) m cap) m (kR.flat (d'.toList.map tri)) := by
  obtain ⟨h0, ⟨h1, _⟩ | ⟨g', cap', cur, e, hg, hh, hc, hm', hs, ht⟩⟩ := h
  · cases h1
  · injection e with e1 e2 e3
    injection e1 with e1
    injection e1 with e1
    subst e1 e3
    have hlen : (d'.toList.map tri).length = m := by simp [hl]
    refine ⟨by rw [Kd.flat_len, hlen]; rfl, .inr ⟨g, cap, Go.Sort.putCells id 0 (Go.Sort.flatK encP 5 d') cur, rfl, hg, ?_, hc, hm', by simp [Go.Sort.putCells, hs], ?_⟩⟩
    · have hlt := (Array.getElem?_eq_some_iff.1 hh).1
      unfold sortWorldK Go.Sort.putRowK Go.Sort.putRow
      rw [Go.Sort.heap_grow_old _ _ (by simpa [Go.Sort.mapBlock, Go.Sort.ahead] using hlt)]
      simp [Go.Sort.mapBlock, Go.Sort.ahead, Array.getElem?_modify, hh, Go.Sort.onCells]
    · rw [← flatK_flat]
      refine List.ext_getElem? fun j => ?_
      have hfs : (Go.Sort.flatK encP 5 d').size = m * 5 := by simp [hl]
      by_cases hj : j < m * 5
      · rw [List.getElem?_take_of_lt hj, Array.getElem?_toList]
        have hjc : j < cur.size := by rw [hs]; have := Nat.mul_le_mul_right 5 hc; omega
        simp [Go.Sort.putCells, hjc, hj, hl]
      · rw [List.getElem?_take_eq_none (by omega), List.getElem?_eq_none (by simp; omega)]
theorem sorted_grown {w : World} {g n : Nat} {os : Array Obj} {d' : Array (Int × Int × Int × Int × ByteArray)} : w.grownBy (sortWorldK encP 5 w g 0 n d' os) (some g) := by
  unfold sortWorldK Go.Sort.putRowK Go.Sort.putRow
  refine ⟨rfl, rfl, rfl, by simp [Go.Sort.mapBlock, Go.Sort.ahead, Go.Sort.grow], fun k hk hne => ?_⟩
  rw [Go.Sort.heap_grow_old _ _ (by simpa [Go.Sort.mapBlock, Go.Sort.ahead] using hk)]
  have : g ≠ k := fun e => hne (by rw [e])
  simp [Go.Sort.mapBlock, Go.Sort.ahead, Array.getElem?_modify, this]
theorem own_holds {w : World} {base g cap m : Nat} {L : List Rc} (hm : L.length = m) (h : w.ownsRow base 117 5 (.slice (some ⟨g, 0, none⟩) m cap) m (kR.flat L)) : Go.Sort.HoldsK encP 5 w g 0 (L.map pk).toArray := by
  intro j hj
  have hs : (Go.Sort.flatK encP 5 (L.map pk).toArray).size = m * 5 := by simp [hm]
  have hj' : j < m * 5 := by omega
  have hfl := flatK_flat (L.map pk).toArray
  have hmm : ((L.map pk).toArray.toList.map tri) = L := by simp [Function.comp_def, tri_p]
  rw [hmm] at hfl
  rw [Nat.zero_add]
  refine ⟨?_, h.frozenAt j⟩
  rw [h.cellAt j hj', ← hfl, getElem!_pos _ j hj]
  simp

/-- Which comes first: by Id. -/
def cfI (p q : Int × Int × Int × Int × ByteArray) : Int := cmpI (tri p) (tri q)
theorem ltP (p q : Int × Int × Int × Int × ByteArray) : ltOf cfI p q = decide (p.2.1 < q.2.1) := decide_eq_decide.mpr (cmpI_neg.trans lessB_iff)
theorem swoP : Go.Sort.SWO (ltOf cfI) where
  irrefl x := by rw [ltP]; simp
  trans x y z h1 h2 := by rw [ltP] at *; simp at *; omega
  ntrans x y z h1 h2 := by rw [ltP] at *; simp at *; omega
set_option maxHeartbeats 1000000 in
theorem byId_grown (a b : Rc) (w : World) : Calls Tryz.prog 110 #[a.v, b.v] w fun e w' => e = .returned (.int .i64 (cmpI a b)) ∧ ∃ q os', w' = Go.Sort.grow (w.drewN q) os' := by
  go_enter Tryz.func110, Tryz.ntmps110
  go_wp2_with (go_at_call 106; refine (compare_any _ _ _).mono ?_; rintro e w1 ⟨rfl, rfl⟩)
  go_ret
  exact ⟨rfl, 0, _, by rw [Go.Sort.alloc_eq_grow, Go.Sort.alloc_eq_grow, Go.Sort.grow_grow]; rfl⟩
theorem cmpLaysP (blk off size : Nat) (w : World) : CmpLays Tryz.prog 110 #[] encP 5 cfI blk off size w :=
  fun _ _ _ _ x y => byId_grown (tri x) (tri y) _
theorem egP : ∀ args w, (callFunc 110 args).run Tryz.prog w = .ok (.enter 110 args) w := enters_of Tryz.func110 (by kernel_rfl) rfl

set_option maxRecDepth 100000 in
set_option maxHeartbeats 2000000 in
theorem sortFunc_any (base g cap : Nat) (L : List Rc) (m : Nat) (hm : L.length = m) (w : World) (h : w.ownsRow base 117 5 (.slice (some ⟨g, 0, none⟩) m cap) m (kR.flat L)) (hn : m ≤ 1000) :
    Calls Tryz.prog 127 #[.slice (some ⟨g, 0, none⟩) m cap, .func (.func 110) #[] #[]] w fun e w' => e = .returned (.tuple #[]) ∧ ∃ S : List Rc, S.Perm L ∧ S.Pairwise (fun a b => ¬ lessB b a = true) ∧ w'.ownsRow base 117 5 (.slice (some ⟨g, 0, none⟩) m cap) m (kR.flat S) ∧ w.grownBy w' (some g) := by
  have hH := own_holds hm h
  have hsz : (L.map pk).toArray.size = m := by simp [hm]
  have hblk := (h.lt g rfl).2
  generalize hd : (L.map pk).toArray = d at hH hsz
  have hlim : Lib.bitLen d.size < 4611686018427387904 := Nat.lt_of_le_of_lt (Lib.bitLen_le d.size 62 (by omega) (by omega)) (by omega)
  have hp := AnyQ.pdqsortCmpFunc_all Tryz.pdqI 5 Tryz.isAgg117 Tryz.sizeOf117 encP cfI 110 #[] swoP g 0 cap d w egP (cmpLaysP _ _ _ _) ⟨encP_len, encP_one, hH, hblk⟩ (d.size + 1) 0 d.size (Lib.bitLen d.size) d w (by omega) rfl (SWK.start hH) (Nat.zero_le _) (Nat.le_refl _) (by omega) hlim (Or.inl rfl)
  have hsort := Go.Sort.pdq_sorts (ltOf cfI) swoP d 0 d.size (Lib.bitLen d.size) true true (Nat.zero_le _) (Nat.le_refl _) (Or.inl rfl)
  have hl : Calls Tryz.prog 138 #[.int .u64 (d.size : Int)] w fun e w' => e = .returned (.int .i64 (Lib.bitLen d.size : Nat)) ∧ w' = w := by
    have h := Any.bits_Len (SlLaysF0.n15.bits Tryz.lenI) (d.size : Int) w (by omega) (by omega)
    rw [Int.toNat_natCast] at h
    exact h
  change Calls Tryz.prog 137 _ _ _ at hp
  rw [hsz] at hp hl hsort
  generalize Go.Sort.pdq (ltOf cfI) d 0 m (Lib.bitLen m) true true = d' at hp hsort
  generalize Lib.bitLen m = bl at hp hl
  clear hH hlim
  go_enter Tryz.func127, Tryz.ntmps127
  go_wp2_with (first | (go_at_call 138; refine hl.mono ?_; rintro e w1 ⟨rfl, rfl⟩) | (go_at_call 137; refine hp.mono ?_; rintro e w1 ⟨rfl, n, os, rfl⟩))
  go_end0
  obtain ⟨⟨hs1, _, hperm⟩, hso⟩ := hsort
  have hds : d'.size = m := by omega
  have e1 : (d'.extract 0 m).toList = d'.toList := by rw [← hds]; simp
  have e2 : (d.extract 0 m).toList = d.toList := by rw [← hsz]; simp
  rw [e1, e2] at hperm
  have hdl : d.toList.map tri = L := by rw [← hd]; simp [Function.comp_def, tri_p]
  refine ⟨rfl, d'.toList.map tri, ?_, ?_, sorted_own h hds, sorted_grown⟩
  · rw [← hdl]; exact hperm.map tri
  · rw [List.pairwise_map, List.pairwise_iff_getElem]
    intro i j hi hj hij
    have := hso i j (Nat.zero_le _) hij (by simpa [hds] using hj)
    rw [getElem!_pos d' j (by simpa using hj), getElem!_pos d' i (by simpa using hi)] at this
    intro h2
    exact (of_decide_eq_false this) (cmpI_neg.mpr h2)
end Go.Proofs.YtbkiogedipmioaaGreat.V.U.I
