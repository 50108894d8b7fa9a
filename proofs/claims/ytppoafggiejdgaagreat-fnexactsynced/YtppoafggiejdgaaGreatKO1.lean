/-
  A list of Records, and a Record, as an argument's reading tells them.
-/
import Derived.Test.YtppoafggiejdgaaGreatKB1
import Derived.OpenShut
import Derived.Deep.Slices
import Derived.ProofKit
namespace Go.Proofs.YtppoafggiejdgaaGreat.K
open Go.RowKit Go.Joins Go.WideShapes Go.ChangeShapes

theorem cells54 : Tryz.prog.cellsOf 54 = 5 := by kernel_rfl
theorem addr_ad (b off j : Nat) : (⟨b, off, none⟩ : Addr).add j = ⟨b, off + j, none⟩ := by unfold Addr.add; split <;> simp_all
set_option maxRecDepth 100000 in
theorem open_r5 {H : Type} {enc : TypeId × Value → H} {w : World} {base : Nat} {spare : Nat → Bool} {held : Bool} {fuel : Nat} {x : DataW H × List MemPlace} {cs : List Value} (hlen : cs.length = 5)
    (h2 : DataW.trod enc Tryz.prog w base spare held fuel 54 cs = some x) : ∃ r : Rc, cs = [.int .i64 r.t, .int .i64 r.i, .int .i64 r.x, .int .i64 r.y, .string r.s] ∧ r.s.size ≤ maxLen := by
  obtain ⟨xs, k, hk, hxy, _, hxl, hf⟩ := DataW.trod_struct Tryz.underlying54 h2
  match xs, hxl, cs, hlen with
  | [y0, y1, y2, y3], _, [v0, v1, v2, v3, v4], _ =>
    have g0 := hf 0 _ rfl
    have g1 := hf 1 _ rfl
    have g2 := hf 2 _ rfl
    have g3 := hf 3 _ rfl
    have c2 : Tryz.prog.cellsOf 2 = 1 := by kernel_rfl
    have c9 : Tryz.prog.cellsOf 9 = 1 := by kernel_rfl
    have c53 : Tryz.prog.cellsOf 52 = 2 := by kernel_rfl
    simp [c2, c9, c53] at g0 g1 g2 g3
    obtain ⟨a0, e0, _, _⟩ := DataW.trod_int Tryz.underlying2 g0
    obtain ⟨a1, e1, _, _⟩ := DataW.trod_int Tryz.underlying2 g1
    obtain ⟨s, e4, _, hs⟩ := DataW.trod_string Tryz.underlying9 g3
    obtain ⟨xs2, k2, hk2, hxy2, _, hxl2, hf2⟩ := DataW.trod_struct Tryz.underlying52 g2
    match xs2, hxl2 with
    | [z0, z1], _ =>
      have f0 := hf2 0 _ rfl
      have f1 := hf2 1 _ rfl
      simp [c2] at f0 f1
      obtain ⟨a2, e2, _, _⟩ := DataW.trod_int Tryz.underlying2 f0
      obtain ⟨a3, e3, _, _⟩ := DataW.trod_int Tryz.underlying2 f1
      simp at e0 e1 e2 e3 e4
      subst e0 e1 e2 e3 e4
      exact ⟨⟨a0, a1, a2, a3, s⟩, rfl, hs⟩
set_option maxRecDepth 100000 in
theorem open_R {H : Type} {enc : TypeId × Value → H} {w : World} {base : Nat} {spare : Nat → Bool} {held : Bool} {fuel : Nat} {x : DataW H × List MemPlace} {p : Option Addr} {len cap : Nat}
    (h : DataW.trod enc Tryz.prog w base spare held fuel 22 [.slice p len cap] = some x) : ∃ L : List Rc, L.length = len ∧ SlG kL w p L ∧ len ≤ maxLen ∧ ∀ r ∈ L, r.s.size ≤ maxLen := by
  rcases Go.Deep.open_slice Tryz.underlying22 h with ⟨hcs, _⟩ | ⟨a, len', cap', m, n, D, Pl, hcs, _, hl, hm, hmm, _, hx⟩
  · simp at hcs
    obtain ⟨_, rfl, _⟩ := hcs
    exact ⟨[], rfl, .inl rfl, by omega, by simp⟩
  · simp at hcs
    obtain ⟨rfl, rfl, rfl⟩ := hcs
    have hlm : len ≤ m := by rw [hmm]; split <;> omega
    have each : ∀ i, i < len → ∃ c : Rc, (w.cell? (a.add (i * 5)) = some (.int .i64 c.t) ∧ w.cell? (a.add (i * 5 + 1)) = some (.int .i64 c.i) ∧ w.cell? (a.add (i * 5 + 2)) = some (.int .i64 c.x) ∧ w.cell? (a.add (i * 5 + 3)) = some (.int .i64 c.y) ∧ w.cell? (a.add (i * 5 + 4)) = some (.string c.s)) ∧ c.s.size ≤ maxLen := by
      intro i hi
      obtain ⟨cs', h1, h2⟩ := hx i (by omega)
      rw [cells54] at h1
      obtain ⟨_, hlen, hcell⟩ := World.cells?_some h1
      obtain ⟨r, rfl, hs⟩ := open_r5 hlen h2
      have d0 := hcell 0 (by omega)
      have d1 := hcell 1 (by omega)
      have d2 := hcell 2 (by omega)
      have d3 := hcell 3 (by omega)
      have d4 := hcell 4 (by omega)
      rw [Go.Deep.add_add] at d0 d1 d2 d3 d4
      exact ⟨r, ⟨by simpa using d0, by simpa using d1, by simpa using d2, by simpa using d3, by simpa using d4⟩, hs⟩
    by_cases h0 : len = 0
    · subst h0; exact ⟨[], rfl, .inl rfl, by omega, by simp⟩
    obtain ⟨q, hq⟩ : ∃ q : Nat → Rc, ∀ i, i < len → (w.cell? (a.add (i * 5)) = some (.int .i64 (q i).t) ∧ w.cell? (a.add (i * 5 + 1)) = some (.int .i64 (q i).i) ∧ w.cell? (a.add (i * 5 + 2)) = some (.int .i64 (q i).x) ∧ w.cell? (a.add (i * 5 + 3)) = some (.int .i64 (q i).y) ∧ w.cell? (a.add (i * 5 + 4)) = some (.string (q i).s)) ∧ (q i).s.size ≤ maxLen := by
      haveI : Inhabited Rc := ⟨zrc⟩
      exact Go.Deep.choose_lt each
    refine ⟨(List.range len).map q, by simp, .inr ?_, by omega, fun r hr => ?_⟩
    rotate_left
    · simp at hr
      obtain ⟨i, hi, rfl⟩ := hr
      exact (hq i hi).2
    obtain ⟨b, off, spot⟩ := a
    have hc0 := (hq 0 (by omega)).1.1
    have hspot : spot = none := by simpa [Addr.add] using World.cell?_spot hc0
    subst hspot
    have hb := World.block_lt_of_cell? w _ hc0
    simp [Addr.add] at hb
    refine ⟨b, off, rfl, hb, fun j u hj => ?_⟩
    have hl := Kd.flat_len (K := kL) ((List.range len).map q)
    have hjl : j < len * 5 := by
      have := (List.getElem?_eq_some_iff.1 hj).1
      rw [hl] at this
      have e : ((List.range len).map q).length * kL.n = len * 5 := by simp [kL]
      omega
    have hj3 : j / 5 < len := by omega
    have hk : ((List.range len).map q)[j / 5]? = some (q (j / 5)) := by simp [hj3]
    have hg := Kd.flat_get (K := kL) hk (i := j % 5) (Nat.mod_lt _ (by decide))
    have e3 : j / 5 * kL.n + j % 5 = j := by show j / 5 * 5 + j % 5 = j; omega
    rw [e3, hj] at hg
    obtain ⟨⟨r0, r1, r2, r3, r4⟩, _⟩ := hq (j / 5) (by omega)
    rw [addr_ad] at r0 r1 r2 r3 r4
    have hm3 : j % 5 = 0 ∨ j % 5 = 1 ∨ j % 5 = 2 ∨ j % 5 = 3 ∨ j % 5 = 4 := by omega
    rcases hm3 with e | e | e | e | e
    · rw [e] at hg; simp [kL] at hg; subst hg; rw [show off + j = off + j / 5 * 5 by omega]; exact r0
    · rw [e] at hg; simp [kL] at hg; subst hg; rw [show off + j = off + (j / 5 * 5 + 1) by omega]; exact r1
    · rw [e] at hg; simp [kL] at hg; subst hg; rw [show off + j = off + (j / 5 * 5 + 2) by omega]; exact r2
    · rw [e] at hg; simp [kL] at hg; subst hg; rw [show off + j = off + (j / 5 * 5 + 3) by omega]; exact r3
    · rw [e] at hg; simp [kL] at hg; subst hg; rw [show off + j = off + (j / 5 * 5 + 4) by omega]; exact r4
end Go.Proofs.YtppoafggiejdgaaGreat.K
