/-
  The law of TreeOk, walked.
-/
import Derived.Test.YtipfcmfcdfofmaaGreatX1
import Derived.OpenShut
import Derived.Deep.Slices
import Derived.ProofKit
import Derived.Test.YtipfcmfcdfofmaaGreatX3
import Derived.Deep.Cut
import Derived.Test.YtipfcmfcdfofmaaGreatTO4
namespace Go.Proofs.YtipfcmfcdfofmaaGreat
open Go.RowKit Go.Joins Go.WideShapes Go.ChangeShapes

theorem cells134 : Tryz.prog.cellsOf 134 = 3 := by kernel_rfl
theorem addr_ad (b off j : Nat) : (⟨b, off, none⟩ : Addr).add j = ⟨b, off + j, none⟩ := by unfold Addr.add; split <;> simp_all
set_option maxRecDepth 100000 in
theorem open_M {H : Type} {enc : TypeId × Value → H} {w : World} {base : Nat} {spare : Nat → Bool} {held : Bool} {fuel : Nat} {x : DataW H × List MemPlace} {p : Option Addr} {len cap : Nat}
    (h : DataW.trod enc Tryz.prog w base spare held fuel 52 [.slice p len cap] = some x) : ∃ L : List Mk, L.length = len ∧ SlG kL w p L ∧ len ≤ maxLen := by
  rcases Go.Deep.open_slice Tryz.underlying52 h with ⟨hcs, _⟩ | ⟨a, len', cap', m, n, D, Pl, hcs, _, hl, hm, hmm, _, hx⟩
  · simp at hcs
    obtain ⟨_, rfl, _⟩ := hcs
    exact ⟨[], rfl, .inl rfl, by omega⟩
  · simp at hcs
    obtain ⟨rfl, rfl, rfl⟩ := hcs
    have hlm : len ≤ m := by rw [hmm]; split <;> omega
    have each : ∀ i, i < len → ∃ c : Mk, w.cell? (a.add (i * 3)) = some (.int .i64 c.i) ∧ w.cell? (a.add (i * 3 + 1)) = some (.int .i64 c.x) ∧ w.cell? (a.add (i * 3 + 2)) = some (.int .i64 c.y) := by
      intro i hi
      obtain ⟨cs', h1, h2⟩ := hx i (by omega)
      rw [cells134] at h1
      obtain ⟨_, hlen, hcell⟩ := World.cells?_some h1
      obtain ⟨xs, k, hk, hxy, _, hxl, hf⟩ := DataW.trod_struct Tryz.underlying134 h2
      match xs, hxl, cs', hlen with
      | [y0, y1], _, [v0, v1, v2], _ =>
        have g0 := hf 0 _ rfl
        have g1 := hf 1 _ rfl
        have c2 : Tryz.prog.cellsOf 2 = 1 := by kernel_rfl
        have c79 : Tryz.prog.cellsOf 63 = 2 := by kernel_rfl
        simp [c2, c79] at g0 g1
        obtain ⟨a0, e0, _, _⟩ := DataW.trod_int Tryz.underlying2 g0
        obtain ⟨xs2, k2, hk2, hxy2, _, hxl2, hf2⟩ := DataW.trod_struct Tryz.underlying63 g1
        match xs2, hxl2 with
        | [z0, z1], _ =>
          have f0 := hf2 0 _ rfl
          have f1 := hf2 1 _ rfl
          simp [c2] at f0 f1
          obtain ⟨a1, e1, _, _⟩ := DataW.trod_int Tryz.underlying2 f0
          obtain ⟨a2, e2, _, _⟩ := DataW.trod_int Tryz.underlying2 f1
          simp at e0 e1 e2
          subst e0 e1 e2
          have d0 := hcell 0 (by omega)
          have d1 := hcell 1 (by omega)
          have d2 := hcell 2 (by omega)
          rw [Go.Deep.add_add] at d0 d1 d2
          exact ⟨⟨a0, a1, a2⟩, by simpa using d0, by simpa using d1, by simpa using d2⟩
    by_cases h0 : len = 0
    · subst h0; exact ⟨[], rfl, .inl rfl, by omega⟩
    obtain ⟨q, hq⟩ : ∃ q : Nat → Mk, ∀ i, i < len → w.cell? (a.add (i * 3)) = some (.int .i64 (q i).i) ∧ w.cell? (a.add (i * 3 + 1)) = some (.int .i64 (q i).x) ∧ w.cell? (a.add (i * 3 + 2)) = some (.int .i64 (q i).y) := by
      haveI : Inhabited Mk := ⟨zmk⟩
      exact Go.Deep.choose_lt each
    refine ⟨(List.range len).map q, by simp, .inr ?_, by omega⟩
    obtain ⟨b, off, spot⟩ := a
    have hc0 := (hq 0 (by omega)).1
    have hspot : spot = none := by simpa [Addr.add] using World.cell?_spot hc0
    subst hspot
    have hb := World.block_lt_of_cell? w _ hc0
    simp [Addr.add] at hb
    refine ⟨b, off, rfl, hb, fun j u hj => ?_⟩
    have hl := Kd.flat_len (K := kL) ((List.range len).map q)
    have hjl : j < len * 3 := by
      have := (List.getElem?_eq_some_iff.1 hj).1
      rw [hl] at this
      have e : ((List.range len).map q).length * kL.n = len * 3 := by simp [kL]
      omega
    have hj3 : j / 3 < len := by omega
    have hk : ((List.range len).map q)[j / 3]? = some (q (j / 3)) := by simp [hj3]
    have hg := Kd.flat_get (K := kL) hk (i := j % 3) (Nat.mod_lt _ (by decide))
    have e3 : j / 3 * kL.n + j % 3 = j := by show j / 3 * 3 + j % 3 = j; omega
    rw [e3, hj] at hg
    obtain ⟨r0, r1, r2⟩ := hq (j / 3) (by omega)
    rw [addr_ad] at r0 r1 r2
    have hm3 : j % 3 = 0 ∨ j % 3 = 1 ∨ j % 3 = 2 := by omega
    rcases hm3 with e | e | e
    · rw [e] at hg; simp [kL] at hg; subst hg; rw [show off + j = off + j / 3 * 3 by omega]; exact r0
    · rw [e] at hg; simp [kL] at hg; subst hg; rw [show off + j = off + (j / 3 * 3 + 1) by omega]; exact r1
    · rw [e] at hg; simp [kL] at hg; subst hg; rw [show off + j = off + (j / 3 * 3 + 2) by omega]; exact r2
end Go.Proofs.YtipfcmfcdfofmaaGreat
namespace Go.Proofs.YtipfcmfcdfofmaaGreat
open Go.RowKit Go.Joins Go.WideShapes Go.ChangeShapes

def kLN : Kd (Nd × Sv) := ⟨131, 6, fun p => [.int .i64 p.1.b.x, .int .i64 p.1.b.y, .int .i64 p.1.b.w, .int .i64 p.1.b.h, .bool p.1.lf, .slice p.2.p p.2.n p.2.c], fun _ => rfl⟩
theorem CsG.ndL {w : World} {g off : Nat} {L : List (Nd × Sv)} (h : CsG kLN w g off L) {k : Nat} {p : Nd × Sv} (hk : L[k]? = some p) :
    w.cell? ⟨g, off + k * 6, none⟩ = some (.int .i64 p.1.b.x) ∧ w.cell? ⟨g, off + k * 6 + 1, none⟩ = some (.int .i64 p.1.b.y) ∧ w.cell? ⟨g, off + k * 6 + 2, none⟩ = some (.int .i64 p.1.b.w) ∧ w.cell? ⟨g, off + k * 6 + 3, none⟩ = some (.int .i64 p.1.b.h) ∧ w.cell? ⟨g, off + k * 6 + 4, none⟩ = some (.bool p.1.lf) ∧ w.cell? ⟨g, off + k * 6 + 5, none⟩ = some (.slice p.2.p p.2.n p.2.c) :=
  ⟨h.at hk (i := 0) rfl, h.at hk (i := 1) rfl, h.at hk (i := 2) rfl, h.at hk (i := 3) rfl, h.at hk (i := 4) rfl, h.at hk (i := 5) rfl⟩
theorem cells131 : Tryz.prog.cellsOf 131 = 6 := by kernel_rfl
theorem cs_of {α : Type} {K : Kd α} (hp : 0 < K.n) {w : World} {b off len : Nat} {q : Nat → α} (hb : b < w.heap.size) (hq : ∀ i, i < len → ∀ j u, (K.vs (q i))[j]? = some u → w.cell? ⟨b, off + (i * K.n + j), none⟩ = some u) : CsG K w b off ((List.range len).map q) := by
  refine ⟨hb, fun j u hj => ?_⟩
  have hl := Kd.flat_len (K := K) ((List.range len).map q)
  have hjl : j < len * K.n := by
    have := (List.getElem?_eq_some_iff.1 hj).1
    rw [hl] at this; simpa using this
  have hi : j / K.n < len := (Nat.div_lt_iff_lt_mul hp).mpr hjl
  have hk : ((List.range len).map q)[j / K.n]? = some (q (j / K.n)) := by simp [hi]
  have hg := Kd.flat_get (K := K) hk (i := j % K.n) (Nat.mod_lt _ hp)
  have e3 : j / K.n * K.n + j % K.n = j := by rw [Nat.mul_comm]; exact Nat.div_add_mod j K.n
  rw [e3, hj] at hg
  have := hq (j / K.n) hi (j % K.n) u hg.symm
  rwa [e3] at this
theorem open_I {H : Type} {enc : TypeId × Value → H} {w : World} {base : Nat} {spare : Nat → Bool} {held : Bool} {fuel : Nat} {x : DataW H × List MemPlace} {cs : List Value}
    (h : DataW.trod enc Tryz.prog w base spare held fuel 34 cs = some x) : ∃ (s : Sv) (L : List Int), cs = [.slice s.p s.n s.c] ∧ L.length = s.n ∧ SlG kI w s.p L ∧ s.n ≤ maxLen := by
  rcases Go.Deep.open_slice1 Tryz.underlying34 (by kernel_rfl) h with ⟨hcs, _⟩ | ⟨a, len, cap, m, n, V, D, Pl, hcs, _, hl, hm, hmm, _, hx⟩
  · exact ⟨⟨none, 0, 0⟩, [], hcs, rfl, .inl rfl, Nat.zero_le _⟩
  · have hlm : len ≤ m := by rw [hmm]; split <;> omega
    have each : ∀ i, i < len → ∃ z : Int, w.cell? (a.add i) = some (.int .i64 z) := fun i hi => by
      obtain ⟨h1, h2⟩ := hx i (by omega)
      obtain ⟨z, e0, _, _⟩ := DataW.trod_int Tryz.underlying2 h2
      simp at e0
      exact ⟨z, by rw [h1, e0]⟩
    by_cases h0 : len = 0
    · subst h0; exact ⟨⟨some a, 0, cap⟩, [], hcs, rfl, .inl rfl, Nat.zero_le _⟩
    obtain ⟨q, hq⟩ : ∃ q : Nat → Int, ∀ i, i < len → w.cell? (a.add i) = some (.int .i64 (q i)) := Go.Deep.choose_lt each
    obtain ⟨b, off, spot⟩ := a
    have hc0 := hq 0 (by omega)
    have hspot : spot = none := by simpa [Addr.add] using World.cell?_spot hc0
    subst hspot
    have hb := World.block_lt_of_cell? w _ hc0
    simp [Addr.add] at hb
    refine ⟨⟨some ⟨b, off, none⟩, len, cap⟩, (List.range len).map q, hcs, by simp, .inr ⟨b, off, rfl, cs_of (by decide) hb fun i hi j u hu => ?_⟩, by show len ≤ maxLen; omega⟩
    have hj : j = 0 ∧ u = .int .i64 (q i) := by
      cases j with
      | zero => simp [kI] at hu; exact ⟨rfl, hu.symm⟩
      | succ j => simp [kI] at hu
    obtain ⟨rfl, rfl⟩ := hj
    have := hq i hi
    rw [addr_ad] at this
    simpa [kI] using this
set_option maxRecDepth 100000 in
theorem open_N {H : Type} {enc : TypeId × Value → H} {w : World} {base : Nat} {spare : Nat → Bool} {held : Bool} {fuel : Nat} {x : DataW H × List MemPlace} {cs : List Value}
    (h : DataW.trod enc Tryz.prog w base spare held fuel 53 cs = some x) : ∃ (s : Sv) (NL : List (Nd × Sv)), cs = [.slice s.p s.n s.c] ∧ NL.length = s.n ∧ SlG kLN w s.p NL ∧ (∀ y ∈ NL, SlG kI w y.2.p y.1.ps ∧ y.2.n = y.1.ps.length ∧ y.1.ps.length ≤ maxLen) ∧ s.n ≤ maxLen := by
  rcases Go.Deep.open_slice Tryz.underlying53 h with ⟨hcs, _⟩ | ⟨a, len, cap, m, n, D, Pl, hcs, _, hl, hm, hmm, _, hx⟩
  · exact ⟨⟨none, 0, 0⟩, [], hcs, rfl, .inl rfl, by simp, Nat.zero_le _⟩
  · have hlm : len ≤ m := by rw [hmm]; split <;> omega
    have each : ∀ i, i < len → ∃ c : Nd × Sv, (∀ j u, (kLN.vs c)[j]? = some u → w.cell? (a.add (i * 6 + j)) = some u) ∧ SlG kI w c.2.p c.1.ps ∧ c.2.n = c.1.ps.length ∧ c.1.ps.length ≤ maxLen := by
      intro i hi
      obtain ⟨cs', h1, h2⟩ := hx i (by omega)
      rw [cells131] at h1
      obtain ⟨_, hlen, hcell⟩ := World.cells?_some h1
      obtain ⟨xs, k, hk, hxy, _, hxl, hf⟩ := DataW.trod_struct Tryz.underlying131 h2
      match xs, hxl, cs', hlen with
      | [y0, y1, y2], _, [v0, v1, v2, v3, v4, v5], _ =>
        have g0 := hf 0 _ rfl
        have g1 := hf 1 _ rfl
        have g2 := hf 2 _ rfl
        have c2 : Tryz.prog.cellsOf 2 = 1 := by kernel_rfl
        have c4 : Tryz.prog.cellsOf 4 = 1 := by kernel_rfl
        have c32 : Tryz.prog.cellsOf 34 = 1 := by kernel_rfl
        have c111 : Tryz.prog.cellsOf 56 = 4 := by kernel_rfl
        simp [c4, c32, c111] at g0 g1 g2
        obtain ⟨bb, e4, _⟩ := DataW.trod_bool Tryz.underlying4 g1
        obtain ⟨s, L, e5, l1, l2, l3⟩ := open_I g2
        obtain ⟨xs2, k2, hk2, hxy2, _, hxl2, hf2⟩ := DataW.trod_struct Tryz.underlying56 g0
        match xs2, hxl2 with
        | [z0, z1, z2, z3], _ =>
          have f0 := hf2 0 _ rfl
          have f1 := hf2 1 _ rfl
          have f2 := hf2 2 _ rfl
          have f3 := hf2 3 _ rfl
          simp [c2] at f0 f1 f2 f3
          obtain ⟨a0, e0, _, _⟩ := DataW.trod_int Tryz.underlying2 f0
          obtain ⟨a1, e1, _, _⟩ := DataW.trod_int Tryz.underlying2 f1
          obtain ⟨a2, e2, _, _⟩ := DataW.trod_int Tryz.underlying2 f2
          obtain ⟨a3, e3, _, _⟩ := DataW.trod_int Tryz.underlying2 f3
          simp at e0 e1 e2 e3 e4 e5
          subst e0 e1 e2 e3 e4 e5
          refine ⟨(⟨⟨a0, a1, a2, a3⟩, bb, L⟩, s), fun j u hu => ?_, l2, l1.symm, by show L.length ≤ maxLen; omega⟩
          have hj6 : j < 6 := (List.getElem?_eq_some_iff.1 hu).1
          have dj := hcell j (by omega)
          rw [Go.Deep.add_add] at dj
          have : j = 0 ∨ j = 1 ∨ j = 2 ∨ j = 3 ∨ j = 4 ∨ j = 5 := by omega
          rcases this with rfl | rfl | rfl | rfl | rfl | rfl <;> (simp [kLN] at hu; subst hu; simpa using dj)
    by_cases h0 : len = 0
    · subst h0; exact ⟨⟨some a, 0, cap⟩, [], hcs, rfl, .inl rfl, by simp, Nat.zero_le _⟩
    obtain ⟨q, hq⟩ : ∃ q : Nat → Nd × Sv, ∀ i, i < len → (∀ j u, (kLN.vs (q i))[j]? = some u → w.cell? (a.add (i * 6 + j)) = some u) ∧ SlG kI w (q i).2.p (q i).1.ps ∧ (q i).2.n = (q i).1.ps.length ∧ (q i).1.ps.length ≤ maxLen := by
      haveI : Inhabited (Nd × Sv) := ⟨zn⟩
      exact Go.Deep.choose_lt each
    obtain ⟨b, off, spot⟩ := a
    have hc0 := (hq 0 (by omega)).1 0 _ rfl
    have hspot : spot = none := by simpa [Addr.add] using World.cell?_spot hc0
    subst hspot
    have hb := World.block_lt_of_cell? w _ hc0
    simp [Addr.add] at hb
    refine ⟨⟨some ⟨b, off, none⟩, len, cap⟩, (List.range len).map q, hcs, by simp, .inr ⟨b, off, rfl, cs_of (by decide) hb fun i hi j u hu => ?_⟩, fun y hy => ?_, by show len ≤ maxLen; omega⟩
    · have := (hq i hi).1 j u hu
      rw [addr_ad] at this
      exact this
    · simp only [List.mem_map, List.mem_range] at hy
      obtain ⟨i, hi, rfl⟩ := hy
      exact (hq i hi).2
end Go.Proofs.YtipfcmfcdfofmaaGreat
namespace Go.Proofs.YtipfcmfcdfofmaaGreat
open Go.RowKit Go.Joins
attribute [local go_sem] Oper.semAt_some

theorem tr_splitT {v : Value} {X Y : List (Nd × Sv)} {p : Nd × Sv} : trR v (X ++ p :: Y) = rG kN v (X ++ p :: Y) :: ((X.map fun p => rG kI p.2.v p.1.ps) ++ rG kI p.2.v p.1.ps :: (Y.map fun p => rG kI p.2.v p.1.ps)) := by unfold trR; simp

theorem eqNode_big (nd : Nd) (s t : Sv) (hs : s.n = nd.ps.length) (ht : t.n = nd.ps.length) (hb : nd.ps.length ≤ 10000000) (w : World) (h1 : SlG kI w s.p nd.ps) (h2 : SlG kI w t.p nd.ps) :
    Calls Tryz.prog 98 #[.agg #[.int .i64 nd.b.x, .int .i64 nd.b.y, .int .i64 nd.b.w, .int .i64 nd.b.h, .bool nd.lf, .slice s.p s.n s.c], .agg #[.int .i64 nd.b.x, .int .i64 nd.b.y, .int .i64 nd.b.w, .int .i64 nd.b.h, .bool nd.lf, .slice t.p t.n t.c]] w fun e w' => e = .returned (.bool true) ∧ Below w.heap.size w w' := by
  have HE : Hid (∀ W, Below w.heap.size w W → Calls Tryz.prog 28 #[.slice s.p s.n s.c, .slice t.p t.n t.c] W fun e w' => e = .returned (.bool true) ∧ Below W.heap.size W w') := fun W h => by
    rw [hs, ht]; exact eqInt64S_same s.p t.p s.c t.c nd.ps _ rfl W (h1.step h) (h2.step h) (by omega)
  have hst := ((St.nil w).push [.int .i64 nd.b.x, .int .i64 nd.b.y, .int .i64 nd.b.w, .int .i64 nd.b.h, .bool nd.lf, .slice s.p s.n s.c] 49).push [.int .i64 nd.b.x, .int .i64 nd.b.y, .int .i64 nd.b.w, .int .i64 nd.b.h, .bool nd.lf, .slice t.p t.n t.c] 49
  simp only [World.size_alloc] at hst
  clear hs ht hb h1 h2
  go_enter Tryz.func98, Tryz.ntmps98
  go_wp2_with (first
    | (go_at_call 123; refine (eqRect_any _ _ _ _ _).mono ?_; rintro e w1 ⟨rfl, hb2⟩; have hs1 := hst.step hb2; have hk := hs1.has; simp [Has, HasAt] at hk)
    | (go_at_call 28; refine (HE.out _ hs1.bel).mono ?_; rintro e w2 ⟨rfl, hb3⟩))
  go_ret
  exact ⟨rfl, bstep hs1.bel hb3 (Nat.le_refl _)⟩
set_option maxRecDepth 100000 in
set_option maxHeartbeats 2000000 in
theorem eqNodeS_big (p q : Option Addr) (cap cap' : Nat) (A B : List (Nd × Sv)) (n : Nat) (hn : A.length = n) (he : A.map Prod.fst = B.map Prod.fst) (hb : n ≤ 10000000) (hps : ∀ x ∈ A, x.1.ps.length ≤ 10000000) (w : World) (hp : RdN w p A) (hq : RdN w q B) :
    Calls Tryz.prog 65 #[.slice p n cap, .slice q n cap'] w fun e w' => e = .returned (.bool true) ∧ Below w.heap.size w w' := by
  have hBl : B.length = n := by have := congrArg List.length he; simp at this; omega
  have HH : Hid (A.length = n ∧ B.length = n ∧ A.map Prod.fst = B.map Prod.fst ∧ RdN w p A ∧ RdN w q B ∧ ∀ x ∈ A, x.1.ps.length ≤ 10000000) := ⟨hn, hBl, he, hp, hq, hps⟩
  clear hn hBl he hp hq hps
  go_enter Tryz.func65, Tryz.ntmps65
  go_wp2
  go_loopw [5] (fun i wr => ∃ k : Nat, k ≤ n ∧ i = .int .i64 k ∧ Below w.heap.size w wr) (fun i _ => n - (intOf i).toNat)
  case atStart => exact ⟨0, by omega, rfl, Below.refl _ _⟩
  case round =>
    obtain ⟨k, hk, rfl, hb1⟩ := hrel
    by_cases hlt : k < n
    · have hki : (k : Int) < n := by omega
      obtain ⟨a1, a2, a3, a4, a5, a6⟩ := HH.out
      obtain ⟨g, off, rfl, hC⟩ := (a4.1.step hb1).at (k := k) (by omega)
      obtain ⟨g2, off2, rfl, hC2⟩ := (a5.1.step hb1).at (k := k) (by omega)
      have ga := getN (L := A) (k := k) (by omega)
      have gb := getN (L := B) (k := k) (by omega)
      have hab : (A.getD k zn).1 = (B.getD k zn).1 := by
        have h1 : (A.map Prod.fst)[k]? = (B.map Prod.fst)[k]? := by rw [a3]
        rw [List.getElem?_map, List.getElem?_map, ga, gb] at h1
        exact Option.some.inj h1
      have r1 := a4.2 _ (List.mem_of_getElem? ga)
      have r2 := a5.2 _ (List.mem_of_getElem? gb)
      have hl := a6 _ (List.mem_of_getElem? ga)
      obtain ⟨c0, c1, c2, c3, c4, c5⟩ := hC.nd ga
      obtain ⟨d0, d1, d2, d3, d4, d5⟩ := hC2.nd gb
      rw [← hab] at d0 d1 d2 d3 d4 r2
      obtain ⟨nd, hnd⟩ : ∃ nd, (A.getD k zn).1 = nd := ⟨_, rfl⟩
      obtain ⟨s, hsv⟩ : ∃ s, (A.getD k zn).2 = s := ⟨_, rfl⟩
      obtain ⟨t, htv⟩ : ∃ t, (B.getD k zn).2 = t := ⟨_, rfl⟩
      rw [hnd] at c0 c1 c2 c3 c4 d0 d1 d2 d3 d4 r1 r2 hl
      rw [hsv] at c5 r1
      rw [htv] at d5 r2
      have HE : Hid (∀ W, Below w.heap.size w W → Calls Tryz.prog 98 #[.agg #[.int .i64 nd.b.x, .int .i64 nd.b.y, .int .i64 nd.b.w, .int .i64 nd.b.h, .bool nd.lf, .slice s.p s.n s.c], .agg #[.int .i64 nd.b.x, .int .i64 nd.b.y, .int .i64 nd.b.w, .int .i64 nd.b.h, .bool nd.lf, .slice t.p t.n t.c]] W fun e w' => e = .returned (.bool true) ∧ Below W.heap.size W w') := fun W h => eqNode_big nd s t r1.2 r2.2 hl W (r1.1.step h) (r2.1.step h)
      clear hC hC2 ga gb hab r1 r2 hl hnd hsv htv a1 a2 a3 a4 a5 a6
      go_wp2
      go_region_with ((go_at_call 98; refine (HE.out _ hb1.drew).mono ?_; rintro e w1 ⟨rfl, hb2⟩))
      all_goals
        go_wp2
        go_roundw
        case rel => exact ⟨k + 1, by omega, by go_num, bstep hb1.drew hb2 (Nat.le_refl _)⟩
        case measure => simp [intOf]; omega
    · obtain rfl : k = n := by omega
      go_wp2
      go_ret
      exact ⟨rfl, hb1⟩
set_option maxHeartbeats 1000000 in
theorem eqTree_big (p1 p2 q1 q2 : Option Addr) (c1 c2 d1 d2 : Nat) (M : List Mk) (m : Nat) (hm : M.length = m) (A B : List (Nd × Sv)) (n : Nat) (hn : A.length = n) (he : A.map Prod.fst = B.map Prod.fst) (hmb : m ≤ 10000000) (hb : n ≤ 10000000) (hps : ∀ x ∈ A, x.1.ps.length ≤ 10000000) (w : World) (hp1 : SlG kM w p1 M) (hp2 : SlG kM w p2 M) (hq1 : RdN w q1 A) (hq2 : RdN w q2 B) :
    Calls Tryz.prog 29 #[.agg #[.slice p1 m c1, .slice q1 n d1], .agg #[.slice p2 m c2, .slice q2 n d2]] w fun e w' => e = .returned (.bool true) ∧ Below w.heap.size w w' := by
  have HE1 : Hid (∀ W, Below w.heap.size w W → Calls Tryz.prog 64 #[.slice p1 m c1, .slice p2 m c2] W fun e w' => e = .returned (.bool true) ∧ Below W.heap.size W w') := fun W h => eqMarkS_same p1 p2 c1 c2 M m hm W (hp1.step h) (hp2.step h) (by omega)
  have HE2 : Hid (∀ W, Below w.heap.size w W → Calls Tryz.prog 65 #[.slice q1 n d1, .slice q2 n d2] W fun e w' => e = .returned (.bool true) ∧ Below W.heap.size W w') := fun W h => eqNodeS_big q1 q2 d1 d2 A B n hn he hb hps W (hq1.step h) (hq2.step h)
  have hst := ((St.nil w).push [.slice p1 m c1, .slice q1 n d1] 28).push [.slice p2 m c2, .slice q2 n d2] 28
  simp only [World.size_alloc] at hst
  clear hm hn he hps hp1 hp2 hq1 hq2
  go_enter Tryz.func29, Tryz.ntmps29
  go_wp2_with (first
    | (go_at_call 64; refine (HE1.out _ hst.bel).mono ?_; rintro e w1 ⟨rfl, hb2⟩; have hs1 := hst.step hb2; have hk := hs1.has; simp [Has, HasAt] at hk)
    | (go_at_call 65; refine (HE2.out _ hs1.bel).mono ?_; rintro e w2 ⟨rfl, hb3⟩))
  go_ret
  exact ⟨rfl, bstep hs1.bel hb3 (Nat.le_refl _)⟩
end Go.Proofs.YtipfcmfcdfofmaaGreat
namespace Go.Proofs.YtipfcmfcdfofmaaGreat
open Go.Shelf Go.RowKit Go.Joins
attribute [local go_sem] Oper.semAt_some

/-- What a size leaves: -1, or the rest. -/
def szR (z : Int) (n : Nat) (r : Int) : Prop := (r = -1 ∧ z < n) ∨ (r = z - n ∧ (n : Int) ≤ z)
theorem szI_any (p : Option Addr) (n cap : Nat) (z : Int) (h0 : 0 ≤ z) (h1 : z ≤ 1048576) (hm : n ≤ maxLen) (w : World) : Calls Tryz.prog 120 #[.slice p n cap, .int .i64 z] w fun e w' => ∃ r, e = .returned (.int .i64 r) ∧ szR z n r ∧ w' = w := by
  unfold maxLen at hm
  by_cases h : z < n
  · have h2 : z - (n : Int) < 0 := by omega
    go_enter Tryz.func120, Tryz.ntmps120
    go_wp2
    go_ret
    exact ⟨-1, rfl, .inl ⟨rfl, h⟩, rfl⟩
  · have h2 : ¬ z - (n : Int) < 0 := by omega
    go_enter Tryz.func120, Tryz.ntmps120
    go_wp2
    go_ret
    exact ⟨z - n, rfl, .inr ⟨rfl, by omega⟩, rfl⟩
theorem szM_any (p : Option Addr) (n cap : Nat) (z : Int) (h0 : 0 ≤ z) (h1 : z ≤ 1048576) (hm : n ≤ maxLen) (w : World) : Calls Tryz.prog 60 #[.slice p n cap, .int .i64 z] w fun e w' => ∃ r, e = .returned (.int .i64 r) ∧ szR z n r ∧ w' = w := by
  unfold maxLen at hm
  by_cases h : z < n
  · have h2 : z - (n : Int) < 0 := by omega
    go_enter Tryz.func60, Tryz.ntmps60
    go_wp2
    go_ret
    exact ⟨-1, rfl, .inl ⟨rfl, h⟩, rfl⟩
  · have h2 : ¬ z - (n : Int) < 0 := by omega
    go_enter Tryz.func60, Tryz.ntmps60
    go_wp2
    go_ret
    exact ⟨z - n, rfl, .inr ⟨rfl, by omega⟩, rfl⟩
theorem szNode_any (b : T4) (lf : Bool) (p : Option Addr) (n cap : Nat) (z : Int) (h0 : 0 ≤ z) (h1 : z ≤ 1048576) (hm : n ≤ maxLen) (w : World) : Calls Tryz.prog 94 #[.agg #[.int .i64 b.x, .int .i64 b.y, .int .i64 b.w, .int .i64 b.h, .bool lf, .slice p n cap], .int .i64 z] w fun e w' => ∃ r, e = .returned (.int .i64 r) ∧ szR z n r ∧ Below w.heap.size w w' := by
  have hm' := hm
  have H : Hid (∀ W, Calls Tryz.prog 120 #[.slice p n cap, .int .i64 z] W fun e w' => ∃ r, e = .returned (.int .i64 r) ∧ szR z n r ∧ w' = W) := fun W => szI_any p n cap z h0 h1 hm' W
  clear hm'
  by_cases h : z < n
  · go_enter Tryz.func94, Tryz.ntmps94
    go_wp2_with (go_at_call 120; refine (H.out _).mono ?_; rintro e w1 ⟨r, rfl, hr, rfl⟩; obtain rfl : r = -1 := by (rcases hr with hr | hr; exact hr.1; omega))
    go_ret
    exact ⟨-1, rfl, .inl ⟨rfl, h⟩, below_alloc1 _ _⟩
  · have h2 : ¬ z - (n : Int) < 0 := by omega
    go_enter Tryz.func94, Tryz.ntmps94
    go_wp2_with (go_at_call 120; refine (H.out _).mono ?_; rintro e w1 ⟨r, rfl, hr, rfl⟩; obtain rfl : r = z - n := by (rcases hr with hr | hr; omega; exact hr.1))
    go_ret
    exact ⟨z - n, rfl, .inr ⟨rfl, by omega⟩, below_alloc1 _ _⟩
set_option maxRecDepth 100000 in
set_option maxHeartbeats 2000000 in
theorem szNodeS_any (p : Option Addr) (n cap : Nat) (NL : List (Nd × Sv)) (hn : NL.length = n) (hm : n ≤ maxLen) (z : Int) (h0 : 0 ≤ z) (h1 : z ≤ 1048576) (w : World) (hN : SlG kLN w p NL) (hp : ∀ y ∈ NL, y.2.n = y.1.ps.length ∧ y.1.ps.length ≤ maxLen) :
    Calls Tryz.prog 61 #[.slice p n cap, .int .i64 z] w fun e w' => ∃ r, e = .returned (.int .i64 r) ∧ (r = -1 ∨ (0 ≤ r ∧ n ≤ 1048576 ∧ ∀ y ∈ NL, y.1.ps.length ≤ 1048576)) ∧ Below w.heap.size w w' := by
  have hm' := hm
  unfold maxLen at hm'
  by_cases hzn : z < n
  · have h2 : z - (n : Int) < 0 := by omega
    clear hm
    go_enter Tryz.func61, Tryz.ntmps61
    go_wp2
    go_ret
    exact ⟨-1, rfl, .inl rfl, Below.refl _ _⟩
  · have h2 : ¬ z - (n : Int) < 0 := by omega
    have hn1 : n ≤ 1048576 := by omega
    have HH : Hid (NL.length = n ∧ SlG kLN w p NL ∧ ∀ y ∈ NL, y.2.n = y.1.ps.length ∧ y.1.ps.length ≤ maxLen) := ⟨hn, hN, hp⟩
    clear hn hN hp hm hm'
    go_enter Tryz.func61, Tryz.ntmps61
    go_wp2
    go_loopw [1, 5] (fun zv iv wr => ∃ (k : Nat) (y : Int), k ≤ n ∧ iv = .int .i64 k ∧ zv = .int .i64 y ∧ 0 ≤ y ∧ y ≤ 1048576 ∧ Hid (∀ j q, j < k → NL[j]? = some q → q.1.ps.length ≤ 1048576) ∧ Below w.heap.size w wr) (fun _ iv _ => n - (intOf iv).toNat)
    case atStart => exact ⟨0, z - n, by omega, rfl, rfl, by omega, by omega, (fun j q hj => by omega), Below.refl _ _⟩
    case round =>
      obtain ⟨k, y, hk, rfl, rfl, hy0, hy1, hA, hb⟩ := hrel
      by_cases hlt : k < n
      · have hki : (k : Int) < n := by omega
        have hkN : k < NL.length := by rw [HH.out.1]; exact hlt
        obtain ⟨g, off, rfl, hC⟩ := (HH.out.2.1.step hb).at hkN
        have ga := getN hkN
        obtain ⟨c0, c1, c2, c3, c4, c5⟩ := hC.ndL ga
        obtain ⟨p1, p2⟩ := HH.out.2.2 _ (List.mem_of_getElem? ga)
        obtain ⟨x, hx⟩ : ∃ x, NL.getD k zn = x := ⟨_, rfl⟩
        rw [hx] at c0 c1 c2 c3 c4 c5 p1 p2 ga
        obtain ⟨e, he⟩ : ∃ e, x.1.ps.length = e := ⟨_, rfl⟩
        rw [he] at p1 p2
        rw [p1] at c5
        have HS : Hid (∀ W, Calls Tryz.prog 94 #[.agg #[.int .i64 x.1.b.x, .int .i64 x.1.b.y, .int .i64 x.1.b.w, .int .i64 x.1.b.h, .bool x.1.lf, .slice x.2.p e x.2.c], .int .i64 y] W fun e' w' => ∃ r, e' = .returned (.int .i64 r) ∧ szR y e r ∧ Below W.heap.size W w') := fun W => szNode_any x.1.b x.1.lf x.2.p e x.2.c y hy0 hy1 p2 W
        have HG : Hid (NL[k]? = some x ∧ x.1.ps.length = e) := ⟨ga, he⟩
        clear hC ga hx he p1 p2
        by_cases hye : y < e
        · go_wp2_with (go_at_call 94; refine (HS.out _).mono ?_; rintro ee w1 ⟨r, rfl, hr, hb2⟩; obtain rfl : r = -1 := by (rcases hr with hr | hr; exact hr.1; omega))
          go_ret
          exact ⟨-1, rfl, .inl rfl, bstep hb hb2 (Nat.le_refl _)⟩
        · have h3 : ¬ y - (e : Int) < 0 := by omega
          go_wp2_with (go_at_call 94; refine (HS.out _).mono ?_; rintro ee w1 ⟨r, rfl, hr, hb2⟩; obtain rfl : r = y - e := by (rcases hr with hr | hr; omega; exact hr.1))
          go_roundw
          case rel =>
            refine ⟨k + 1, y - e, by omega, by go_num, rfl, by omega, by omega, (fun j q hj hq => ?_), bstep hb hb2 (Nat.le_refl _)⟩
            rcases Nat.lt_or_ge j k with h | h
            · exact hA.out j q h hq
            · obtain rfl : j = k := by omega
              rw [HG.out.1] at hq
              injection hq with hq
              subst hq
              rw [HG.out.2]; omega
          case measure => simp [intOf]; omega
      · obtain rfl : k = n := by omega
        go_wp2
        go_ret
        refine ⟨y, rfl, .inr ⟨hy0, hn1, fun q hq => ?_⟩, hb⟩
        obtain ⟨j, hj⟩ := List.getElem?_of_mem hq
        exact hA.out j q (by have := (List.getElem?_eq_some_iff.1 hj).1; rw [HH.out.1] at this; exact this) hj
set_option maxHeartbeats 2000000 in
theorem szTree_any (p q : Option Addr) (m n c d : Nat) (NL : List (Nd × Sv)) (hn : NL.length = n) (hmm : m ≤ maxLen) (hm : n ≤ maxLen) (w : World) (hN : SlG kLN w q NL) (hp : ∀ y ∈ NL, y.2.n = y.1.ps.length ∧ y.1.ps.length ≤ maxLen) :
    Calls Tryz.prog 25 #[.agg #[.slice p m c, .slice q n d], .int .i64 1048576] w fun e w' => ∃ r, e = .returned (.int .i64 r) ∧ (r = -1 ∨ (0 ≤ r ∧ m ≤ 1048576 ∧ n ≤ 1048576 ∧ ∀ y ∈ NL, y.1.ps.length ≤ 1048576)) ∧ Below w.heap.size w w' := by
  have hb1 := below_alloc1 w (.cells #[.slice p m c, .slice q n d] 55)
  have HM : Hid (∀ W, Calls Tryz.prog 60 #[.slice p m c, .int .i64 1048576] W fun e w' => ∃ r, e = .returned (.int .i64 r) ∧ szR 1048576 m r ∧ w' = W) := fun W => szM_any p m c 1048576 (by omega) (by omega) hmm W
  have HS : Hid (∀ z, 0 ≤ z → z ≤ 1048576 → Calls Tryz.prog 61 #[.slice q n d, .int .i64 z] (w.alloc (.cells #[.slice p m c, .slice q n d] 55)) fun e w' => ∃ r, e = .returned (.int .i64 r) ∧ (r = -1 ∨ (0 ≤ r ∧ n ≤ 1048576 ∧ ∀ y ∈ NL, y.1.ps.length ≤ 1048576)) ∧ Below (w.alloc (.cells #[.slice p m c, .slice q n d] 55)).heap.size (w.alloc (.cells #[.slice p m c, .slice q n d] 55)) w') := fun z h0 h1 => szNodeS_any q n d NL hn hm z h0 h1 _ (hN.step hb1) hp
  clear hn hmm hm hN hp
  by_cases hlt : (1048576 : Int) < m
  · go_enter Tryz.func25, Tryz.ntmps25
    go_wp2_with (go_at_call 60; refine (HM.out _).mono ?_; rintro e w1 ⟨r, rfl, hr, rfl⟩; obtain rfl : r = -1 := by (rcases hr with hr | hr; exact hr.1; omega))
    go_ret
    exact ⟨-1, rfl, .inl rfl, hb1⟩
  · have h2 : ¬ (1048576 : Int) - m < 0 := by omega
    obtain ⟨z, hz⟩ : ∃ z, (1048576 : Int) - m = z := ⟨_, rfl⟩
    have hz0 : ¬ z < 0 := by omega
    have HZ := HS.out z (by omega) (by omega)
    have HMM : Hid (m ≤ 1048576) := (show m ≤ 1048576 by omega)
    have HM2 : Hid (∀ W, Calls Tryz.prog 60 #[.slice p m c, .int .i64 1048576] W fun e w' => e = .returned (.int .i64 z) ∧ w' = W) := fun W => (HM.out W).mono (by
      rintro e w1 ⟨r, rfl, hr, rfl⟩
      refine ⟨?_, rfl⟩
      rcases hr with hr | hr
      · omega
      · rw [hr.1, hz])
    clear hz h2 hlt HM HS
    go_enter Tryz.func25, Tryz.ntmps25
    go_upto_region 5 with (first
      | (go_at_call 60; refine (HM2.out _).mono ?_; rintro e w1 ⟨rfl, rfl⟩)
      | (go_at_call 61; refine HZ.mono ?_; rintro e w2 ⟨r, rfl, hr, hb2⟩))
    rcases hr with rfl | hr
    · go_wp2
      go_ret
      exact ⟨-1, rfl, .inl rfl, ba1 hb2⟩
    · have hr0 : ¬ r < 0 := by omega
      have HRR : Hid (0 ≤ r ∧ n ≤ 1048576 ∧ ∀ y ∈ NL, y.1.ps.length ≤ 1048576) := hr
      clear hr
      go_wp2
      go_ret
      refine ⟨r, rfl, .inr ⟨HRR.out.1, HMM.out, ?_⟩, ba1 hb2⟩
      first | exact HRR.out.2 | (refine ⟨HRR.out.2.1, fun a b h => HRR.out.2.2 (a, b) h⟩)
end Go.Proofs.YtipfcmfcdfofmaaGreat
namespace Go.Proofs.YtipfcmfcdfofmaaGreat
open Go.Shelf Go.RowKit Go.Joins
attribute [local go_sem] Oper.semAt_some

theorem made_flatI (n : Nat) : (madeCells #[.int .i64 0] (n * 1)).toList = kI.flat (List.replicate n 0) := by
  have hr : kI.flat (List.replicate n 0) = List.replicate (n * 1) (.int .i64 0) := by
    induction n with
    | zero => rfl
    | succ n ih => rw [List.replicate_succ, Kd.flat_cons, ih, show (n + 1) * 1 = n * 1 + 1 by omega]; simp [kI, List.replicate_succ]
  rw [hr]
  refine List.ext_getElem? fun i => ?_
  by_cases hi : i < n * 1
  · simp at hi; simp [madeCells, hi, Nat.mod_one]
  · simp at hi; simp [madeCells, hi]
theorem made_flatN (n : Nat) : (madeCells #[.int .i64 0, .int .i64 0, .int .i64 0, .int .i64 0, .bool false, .slice none 0 0] (n * 6)).toList = kN.flat (List.replicate n zn) := by
  refine List.ext_getElem? fun i => ?_
  have hl : (kN.flat (List.replicate n zn)).length = n * 6 := by rw [Kd.flat_len]; simp [kN]
  by_cases hi : i < n * 6
  · have h6 : i / 6 < n := by omega
    have hk : (List.replicate n zn)[i / 6]? = some zn := by simp [h6]
    have hg := Kd.flat_get (K := kN) hk (i := i % 6) (Nat.mod_lt _ (by decide))
    have e3 : i / 6 * kN.n + i % 6 = i := by show i / 6 * 6 + i % 6 = i; omega
    rw [e3] at hg
    rw [hg]
    have hm : i % 6 = 0 ∨ i % 6 = 1 ∨ i % 6 = 2 ∨ i % 6 = 3 ∨ i % 6 = 4 ∨ i % 6 = 5 := by omega
    rcases hm with hm | hm | hm | hm | hm | hm <;> simp [madeCells, hi, hm, kN, zn, znd, zt4]
  · rw [List.getElem?_eq_none (by simp [madeCells]; omega), List.getElem?_eq_none (by omega)]
set_option maxRecDepth 100000 in
set_option maxHeartbeats 2000000 in
theorem toInt64S_any (p : Option Addr) (cap : Nat) (L : List Int) (n : Nat) (hn : L.length = n) (w : World) (hL : SlG kI w p L) (hb : n ≤ 10000000) :
    Calls Tryz.prog 121 #[.slice p n cap] w fun e w' => ∃ g, e = .returned (.slice (some ⟨g, 0, none⟩) n n) ∧ Sg w w' [rG kI (.slice (some ⟨g, 0, none⟩) n n) L] := by
  obtain ⟨i0, hi, hz0, hz1, hz2⟩ := info_parts info2
  have hmk := run_make (P := Tryz.prog) w 34 2 i0 _ Tryz.underlying34 hi hz0 .i64 .i64 (n : Int) (n : Int) (by omega) (by omega) (by rw [hz2]; omega) (by omega)
  rw [hz1, Int.toNat_natCast] at hmk
  have hS0 : Sg w (w.alloc (.cells (madeCells #[.int .i64 0] (n * 1)) 2)) [rG kI (.slice (some ⟨w.heap.size, 0, none⟩) n n) (List.replicate n 0)] := by
    have h := World.ownsRow_lit (base := w.heap.size) (e := 2) (size := 1) w (madeCells #[.int .i64 0] (n * 1)) n (Nat.le_refl _) (by unfold maxLen; omega) (size_madeCells _ _)
    rw [made_flatI] at h
    refine ⟨below_alloc1 _ _, fun r hr => ?_, by simp⟩
    simp at hr
    subst hr
    unfold Rw.own rG
    simp only [List.length_replicate]
    exact h
  have HN : Hid (L.length = n) := hn
  clear hn
  rw [Nat.mul_one] at hmk hS0
  go_enter Tryz.func121, Tryz.ntmps121
  go_wp2
  go_loopw [4] (fun iv wr => ∃ (k : Nat) (M : List Int), k ≤ n ∧ iv = .int .i64 k ∧ Hid (M.length = n ∧ ∀ j, j < k → M[j]? = L[j]?) ∧ Sg w wr [rG kI (.slice (some ⟨w.heap.size, 0, none⟩) n n) M]) (fun iv _ => n - (intOf iv).toNat)
  case atStart => exact ⟨0, _, by omega, rfl, ⟨by simp, fun j hj => by omega⟩, hS0⟩
  case round =>
    clear hS0
    obtain ⟨k, M, hk, rfl, hM, hS⟩ := hrel
    by_cases hlt : k < n
    · have hki : (k : Int) < n := by omega
      have hkL : k < L.length := by rw [HN.out]; exact hlt
      have hkM : k < M.length := by rw [hM.out.1]; exact hlt
      obtain ⟨g, off, rfl, hC⟩ := (hL.step hS.bel).at hkL
      have c0 := hC.int (getI hkL)
      have hgk := getI hkL
      obtain ⟨z, hz⟩ : ∃ z, L.getD k 0 = z := ⟨_, rfl⟩
      rw [hz] at c0 hgk
      have ho := hS.mem (K := kI) (v := .slice (some ⟨w.heap.size, 0, none⟩) n n) (L := M) (by simp)
      have hf := OwG.fz ho
      have d0 := (OwG.cs ho).int (getI hkM)
      simp only [Nat.zero_add] at d0
      have HGK : Hid (L[k]? = some z ∧ k < M.length) := ⟨hgk, hkM⟩
      have hS2 := Sg.setI (A := []) hS hkM z
      clear hgk hz hC ho hkM
      go_wp2
      go_roundw
      case rel =>
        refine ⟨k + 1, M.set k z, by omega, by go_num, ⟨by simp [hM.out.1], fun j hj => ?_⟩, hS2⟩
        by_cases e : k = j
        · subst e; rw [List.getElem?_set_self HGK.out.2, HGK.out.1]
        · rw [List.getElem?_set_ne e]; exact hM.out.2 j (by omega)
      case measure => simp [intOf]; omega
    · obtain rfl : k = n := by omega
      have e : M = L := List.ext_getElem? fun j => by
        by_cases hj : j < k
        · exact hM.out.2 j hj
        · rw [List.getElem?_eq_none (by rw [hM.out.1]; omega), List.getElem?_eq_none (by rw [HN.out]; omega)]
      subst e
      go_wp2
      go_ret
      exact ⟨_, rfl, hS⟩
set_option maxRecDepth 100000 in
set_option maxHeartbeats 2000000 in
theorem toNode_any (nd : Nd) (s : Sv) (e : Nat) (he : nd.ps.length = e) (hb : e ≤ 10000000) (w : World) (hs : SlG kI w s.p nd.ps) :
    Calls Tryz.prog 96 #[.agg #[.int .i64 nd.b.x, .int .i64 nd.b.y, .int .i64 nd.b.w, .int .i64 nd.b.h, .bool nd.lf, .slice s.p e s.c]] w fun e' w' => ∃ g, e' = .returned (.agg #[.int .i64 nd.b.x, .int .i64 nd.b.y, .int .i64 nd.b.w, .int .i64 nd.b.h, .bool nd.lf, .slice (some ⟨g, 0, none⟩) e e]) ∧ Sg w w' [rG kI (.slice (some ⟨g, 0, none⟩) e e) nd.ps] := by
  have hS0 := (((Sg.nil w).lit kLN [(nd, ⟨s.p, e, s.c⟩)] 1 rfl (by decide) #[.int .i64 nd.b.x, .int .i64 nd.b.y, .int .i64 nd.b.w, .int .i64 nd.b.h, .bool nd.lf, .slice s.p e s.c] rfl).lit kN [zn] 1 rfl (by decide) #[.int .i64 0, .int .i64 0, .int .i64 0, .int .i64 0, .bool false, .slice none 0 0] rfl).lit kN [zn] 1 rfl (by decide) #[.int .i64 0, .int .i64 0, .int .i64 0, .int .i64 0, .bool false, .slice none 0 0] rfl
  simp only [World.size_alloc] at hS0
  have HI : Hid (∀ W, Below w.heap.size w W → Calls Tryz.prog 121 #[.slice s.p e s.c] W fun e' w' => ∃ g, e' = .returned (.slice (some ⟨g, 0, none⟩) e e) ∧ Sg W w' [rG kI (.slice (some ⟨g, 0, none⟩) e e) nd.ps]) := fun W h => toInt64S_any s.p s.c nd.ps e he W (hs.step h) hb
  have HL : Hid (∀ W rs, Sg w W rs → rG kLN (.slice (some ⟨w.heap.size, 0, none⟩) 1 1) [(nd, ⟨s.p, e, s.c⟩)] ∈ rs → W.cell? ⟨w.heap.size, 4, none⟩ = some (.bool nd.lf) ∧ W.cell? ⟨w.heap.size, 5, none⟩ = some (.slice s.p e s.c) ∧ w.heap.size < W.heap.size) := fun W rs h hm => by
    have hC := OwG.cs (h.mem (K := kLN) hm)
    have := hC.ndL (k := 0) (p := (nd, ⟨s.p, e, s.c⟩)) rfl
    simp only [Nat.zero_mul, Nat.zero_add] at this
    exact ⟨this.2.2.2.2.1, this.2.2.2.2.2, hC.1⟩
  clear he hs
  go_enter Tryz.func96, Tryz.ntmps96
  go_wp2_with (first
    | (go_at_call 27; refine (toRect_any _ _ _ _ _).mono ?_; rintro ee w1 ⟨rfl, hb2⟩; have hS1 := hS0.step hb2; obtain ⟨x4, x5, xg⟩ := HL.out _ _ hS1 (by simp); obtain ⟨⟨n0, n1, n2, n3, n4, n5⟩, nf, ng⟩ := hS1.nd1 (g := w.heap.size + 1 + 1) (c := 1) (p := zn) (by simp); simp only [zn, znd, zt4] at n0 n1 n2 n3 n4 n5)
    | (go_at_call 121; have hS2 : Sg w (((((w1.setCell ⟨w.heap.size + 1 + 1, 0, none⟩ (.int .i64 nd.b.x)).setCell ⟨w.heap.size + 1 + 1, 1, none⟩ (.int .i64 nd.b.y)).setCell ⟨w.heap.size + 1 + 1, 2, none⟩ (.int .i64 nd.b.w)).setCell ⟨w.heap.size + 1 + 1, 3, none⟩ (.int .i64 nd.b.h)).setCell ⟨w.heap.size + 1 + 1, 4, none⟩ (.bool nd.lf)) (rG kN (.slice (some ⟨w.heap.size + 1 + 1, 0, none⟩) 1 1) [(⟨nd.b, nd.lf, []⟩, ⟨none, 0, 0⟩)] :: [rG kN (.slice (some ⟨w.heap.size + 1, 0, none⟩) 1 1) [zn], rG kLN (.slice (some ⟨w.heap.size, 0, none⟩) 1 1) [(nd, ⟨s.p, e, s.c⟩)]]) := ((((Sg.setRaw (A := []) hS1 0 (.int .i64 nd.b.x)).setRaw (A := []) 1 (.int .i64 nd.b.y)).setRaw (A := []) 2 (.int .i64 nd.b.w)).setRaw (A := []) 3 (.int .i64 nd.b.h)).setRaw (A := []) 4 (.bool nd.lf); refine (HI.out _ hS2.bel).mono ?_; rintro ee w2 ⟨g, rfl, h2⟩; have hS3 := hS2.addL h2; clear n0 n1 n2 n3 n4 n5 nf ng; obtain ⟨⟨n0, n1, n2, n3, n4, n5⟩, nf, ng⟩ := hS3.nd1 (g := w.heap.size + 1 + 1) (c := 1) (p := (⟨nd.b, nd.lf, []⟩, ⟨none, 0, 0⟩)) (by simp); obtain ⟨⟨m0, m1, m2, m3, m4, m5⟩, mf, mg⟩ := hS3.nd1 (g := w.heap.size + 1) (c := 1) (p := zn) (by simp); simp only [zn, znd, zt4] at n0 n1 n2 n3 n4 n5 m0 m1 m2 m3 m4 m5))
  have hS4 := Sg.setPart (A := [_]) hS3 ⟨some ⟨g, 0, none⟩, e, e⟩
  have hS5 := Sg.setNd (A := [_, _]) hS4 (nd, ⟨some ⟨g, 0, none⟩, e, e⟩)
  refine bodyPost_ret (v := .agg #[.int .i64 nd.b.x, .int .i64 nd.b.y, .int .i64 nd.b.w, .int .i64 nd.b.h, .bool nd.lf, .slice (some ⟨g, 0, none⟩) e e]) (by simp [results, Tryz.results96, go_sem, m0, m1, m2, m3, m4, m5]) rfl ⟨g, rfl, ?_⟩
  exact hS5.sub (by simp)
theorem Sg.setNd6 {w W : World} {A Bs : List Rw} {g n c : Nat} {X Y : List (Nd × Sv)} {p : Nd × Sv} (h : Sg w W (A ++ rG kN (.slice (some ⟨g, 0, none⟩) n c) (X ++ p :: Y) :: Bs)) (q : Nd × Sv) {o : Nat} (ho : o = X.length * 6) :
    Sg w ((((((W.setCell ⟨g, o, none⟩ (.int .i64 q.1.b.x)).setCell ⟨g, o + 1, none⟩ (.int .i64 q.1.b.y)).setCell ⟨g, o + 2, none⟩ (.int .i64 q.1.b.w)).setCell ⟨g, o + 3, none⟩ (.int .i64 q.1.b.h)).setCell ⟨g, o + 4, none⟩ (.bool q.1.lf)).setCell ⟨g, o + 5, none⟩ (.slice q.2.p q.2.n q.2.c)) (A ++ rG kN (.slice (some ⟨g, 0, none⟩) n c) (X ++ q :: Y) :: Bs) := by
  have hn := OwG.len (h.mem (K := kN) (v := .slice (some ⟨g, 0, none⟩) n c) (L := X ++ p :: Y) (by simp))
  subst hn
  have h1 := (((((Sg.setRaw h o (.int .i64 q.1.b.x)).setRaw (o + 1) (.int .i64 q.1.b.y)).setRaw (o + 2) (.int .i64 q.1.b.w)).setRaw (o + 3) (.int .i64 q.1.b.h)).setRaw (o + 4) (.bool q.1.lf)).setRaw (o + 5) (.slice q.2.p q.2.n q.2.c)
  have hl : (kN.flat X).length = o := by rw [Kd.flat_len, ho]; rfl
  have e : ∀ q : Nd × Sv, kN.flat (X ++ q :: Y) = kN.flat X ++ (kN.vs q ++ kN.flat Y) := fun q => by rw [Kd.flat_append, Kd.flat_cons]
  have e2 : rG kN (.slice (some ⟨g, 0, none⟩) (X ++ p :: Y).length c) (X ++ q :: Y) = ⟨.slice (some ⟨g, 0, none⟩) (X ++ p :: Y).length c, 49, 6, (X ++ p :: Y).length, ((((((kN.flat (X ++ p :: Y)).set o (.int .i64 q.1.b.x)).set (o + 1) (.int .i64 q.1.b.y)).set (o + 2) (.int .i64 q.1.b.w)).set (o + 3) (.int .i64 q.1.b.h)).set (o + 4) (.bool q.1.lf)).set (o + 5) (.slice q.2.p q.2.n q.2.c)⟩ := by
    unfold rG
    rw [e, e]
    have s0 : ∀ (zs : List Value) (j : Nat) (u : Value), (kN.flat X ++ zs).set (o + j) u = kN.flat X ++ zs.set j u := fun zs j u => by
      rw [List.set_append_right _ _ (by omega), hl]; congr 2; omega
    have := s0 (kN.vs p ++ kN.flat Y) 0 (.int .i64 q.1.b.x)
    rw [Nat.add_zero] at this
    rw [this, s0, s0, s0, s0, s0]
    simp [kN]
  rw [e2]; exact h1
theorem tr_put {w W : World} {v : Value} {X Y : List (Nd × Sv)} {p q : Nd × Sv} (h : Sg w W ([rG kI q.2.v q.1.ps] ++ rG kN v (X ++ q :: Y) :: ((X.map fun p => rG kI p.2.v p.1.ps) ++ rG kI p.2.v p.1.ps :: (Y.map fun p => rG kI p.2.v p.1.ps)))) : Sg w W (trR v (X ++ q :: Y)) := by
  have h1 := h.sub (rs' := [rG kI q.2.v q.1.ps] ++ rG kN v (X ++ q :: Y) :: ((X.map fun p => rG kI p.2.v p.1.ps) ++ (Y.map fun p => rG kI p.2.v p.1.ps))) (by simp)
  refine h1.perm ?_
  unfold trR
  rw [List.map_append, List.map_cons]
  refine (List.Perm.swap _ _ _).trans (List.Perm.cons _ ?_)
  exact List.perm_middle.symm
theorem rows_zero {w W : World} {v : Value} (n : Nat) (h : Sg w W [rG kN v (List.replicate n zn)]) : Sg w W (trR v (List.replicate n zn)) := by
  have e : trR v (List.replicate n zn) = rG kN v (List.replicate n zn) :: List.replicate n (rG kI (.slice none 0 0) []) := by unfold trR; rw [List.map_replicate]; rfl
  rw [e]
  have key : ∀ (k : Nat), Sg w W (List.replicate k (rG kI (.slice none 0 0) []) ++ [rG kN v (List.replicate n zn)]) := fun k => by
    induction k with
    | zero => exact h
    | succ k ih => rw [List.replicate_succ]; exact ih.nilRow kI
  exact (key n).perm List.perm_append_comm
set_option maxRecDepth 100000 in
set_option maxHeartbeats 4000000 in
theorem toNodeS_any (p : Option Addr) (cap : Nat) (NL : List (Nd × Sv)) (n : Nat) (hn : NL.length = n) (hb : n ≤ 1048576) (w : World) (hL : SlG kLN w p NL) (hP : ∀ y ∈ NL, SlG kI w y.2.p y.1.ps ∧ y.2.n = y.1.ps.length ∧ y.1.ps.length ≤ 1048576) :
    Calls Tryz.prog 63 #[.slice p n cap] w fun e w' => ∃ g NL', e = .returned (.slice (some ⟨g, 0, none⟩) n n) ∧ NL'.map Prod.fst = NL.map Prod.fst ∧ Sg w w' (trR (.slice (some ⟨g, 0, none⟩) n n) NL') := by
  obtain ⟨i0, hi, hz0, hz1, hz2⟩ := info_parts info49
  have hmk := run_make (P := Tryz.prog) w 26 49 i0 _ Tryz.underlying26 hi hz0 .i64 .i64 (n : Int) (n : Int) (by omega) (by omega) (by rw [hz2]; omega) (by omega)
  rw [hz1, Int.toNat_natCast] at hmk
  have hS0 : Sg w (w.alloc (.cells (madeCells #[.int .i64 0, .int .i64 0, .int .i64 0, .int .i64 0, .bool false, .slice none 0 0] (n * 6)) 49)) (trR (.slice (some ⟨w.heap.size, 0, none⟩) n n) (List.replicate n zn)) := by
    have h := World.ownsRow_lit (base := w.heap.size) (e := 49) (size := 6) w (madeCells #[.int .i64 0, .int .i64 0, .int .i64 0, .int .i64 0, .bool false, .slice none 0 0] (n * 6)) n (Nat.le_refl _) (by unfold maxLen; omega) (size_madeCells _ _)
    rw [made_flatN] at h
    refine rows_zero n ⟨below_alloc1 _ _, fun r hr => ?_, by simp⟩
    simp at hr
    subst hr
    unfold Rw.own rG
    simp only [List.length_replicate]
    exact h
  have HH : Hid (NL.length = n ∧ SlG kLN w p NL ∧ ∀ y ∈ NL, SlG kI w y.2.p y.1.ps ∧ y.2.n = y.1.ps.length ∧ y.1.ps.length ≤ 1048576) := ⟨hn, hL, hP⟩
  clear hn hL hP
  go_enter Tryz.func63, Tryz.ntmps63
  go_wp2
  go_loopw [4] (fun iv wr => ∃ (k r : Nat) (X : List (Nd × Sv)), iv = .int .i64 k ∧ Hid (k + r = n ∧ X.length = k ∧ X.map Prod.fst = (NL.map Prod.fst).take k) ∧ Sg w wr (trR (.slice (some ⟨w.heap.size, 0, none⟩) n n) (X ++ List.replicate r zn))) (fun iv _ => n - (intOf iv).toNat)
  case atStart => exact ⟨0, n, [], rfl, ⟨by omega, rfl, by simp⟩, by simpa using hS0⟩
  case round =>
    clear hS0
    obtain ⟨k, r, X, rfl, hK, hS⟩ := hrel
    by_cases hlt : k < n
    · have hki : (k : Int) < n := by omega
      obtain ⟨r', hr'⟩ : ∃ r', r = r' + 1 := ⟨r - 1, by have := hK.out.1; omega⟩
      subst hr'
      rw [List.replicate_succ] at hS
      have hkN : k < NL.length := by rw [HH.out.1]; exact hlt
      obtain ⟨g, off, rfl, hC⟩ := (HH.out.2.1.step hS.bel).at hkN
      have ga := getN hkN
      obtain ⟨c0, c1, c2, c3, c4, c5⟩ := hC.ndL ga
      obtain ⟨p1, p2, p3⟩ := HH.out.2.2 _ (List.mem_of_getElem? ga)
      have htk := take_map Prod.fst ga
      obtain ⟨x, hx⟩ : ∃ x, NL.getD k zn = x := ⟨_, rfl⟩
      rw [hx] at c0 c1 c2 c3 c4 c5 p1 p2 p3 htk
      obtain ⟨nd, s⟩ := x
      simp only at c0 c1 c2 c3 c4 c5 p1 p2 p3 htk
      obtain ⟨e, he⟩ : ∃ e, nd.ps.length = e := ⟨_, rfl⟩
      rw [he] at p2 p3
      rw [p2] at c5
      have HT : Hid (∀ W, Below w.heap.size w W → Calls Tryz.prog 96 #[.agg #[.int .i64 nd.b.x, .int .i64 nd.b.y, .int .i64 nd.b.w, .int .i64 nd.b.h, .bool nd.lf, .slice s.p e s.c]] W fun e' w' => ∃ g, e' = .returned (.agg #[.int .i64 nd.b.x, .int .i64 nd.b.y, .int .i64 nd.b.w, .int .i64 nd.b.h, .bool nd.lf, .slice (some ⟨g, 0, none⟩) e e]) ∧ Sg W w' [rG kI (.slice (some ⟨g, 0, none⟩) e e) nd.ps]) := fun W h => toNode_any nd s e he (by omega) W (p1.step h)
      have HX : Hid (X.length = k ∧ k + (r' + 1) = n ∧ (X.map Prod.fst ++ [nd] = (NL.map Prod.fst).take (k + 1))) := ⟨hK.out.2.1, hK.out.1, by rw [hK.out.2.2, ← List.map_take, ← List.map_take, htk]⟩
      clear hC ga hx he p1 p2 p3 htk hkN hK
      go_wp2_with (go_at_call 96; refine (HT.out _ hS.bel).mono ?_; rintro ee w1 ⟨gp, rfl, h1⟩; have hS1 := hS.addL h1; rw [tr_splitT] at hS1; have ho := hS1.mem (K := kN) (v := .slice (some ⟨w.heap.size, 0, none⟩) n n) (L := X ++ zn :: List.replicate r' zn) (by simp); have hf := OwG.fz ho; obtain ⟨d0, d1, d2, d3, d4, d5⟩ := (OwG.cs ho).nd (k := k) (p := zn) (by rw [List.getElem?_append_right (by rw [HX.out.1]; exact Nat.le_refl _), HX.out.1]; simp); simp only [Nat.zero_add, zn, znd, zt4] at d0 d1 d2 d3 d4 d5; clear ho)
      have hS2 := tr_put (q := (nd, ⟨some ⟨gp, 0, none⟩, e, e⟩)) (Sg.setNd6 (A := [_]) hS1 (nd, ⟨some ⟨gp, 0, none⟩, e, e⟩) (o := k * 6) (by rw [HX.out.1]))
      go_roundw
      case rel =>
        refine ⟨k + 1, r', X ++ [(nd, ⟨some ⟨gp, 0, none⟩, e, e⟩)], by go_num, ⟨by have := HX.out.2.1; omega, by simp [HX.out.1], by rw [List.map_append]; exact HX.out.2.2⟩, ?_⟩
        rw [List.append_assoc]; exact hS2
      case measure => simp [intOf]; omega
    · have hr0 : r = 0 ∧ k = n := by have := hK.out.1; omega
      obtain ⟨rfl, rfl⟩ := hr0
      have HF : Hid (X.map Prod.fst = NL.map Prod.fst) := (show _ = _ by rw [hK.out.2.2]; exact List.take_of_length_le (by simp [HH.out.1]))
      rw [List.replicate_zero, List.append_nil] at hS
      clear hK
      go_wp2
      go_ret
      exact ⟨_, X, rfl, HF.out, hS⟩
end Go.Proofs.YtipfcmfcdfofmaaGreat
namespace Go.Proofs.YtipfcmfcdfofmaaGreat
open Go.RowKit Go.Joins
attribute [local go_sem] Oper.semAt_some

def kT5 : Kd (Sv × Sv) := ⟨55, 2, fun p => [.slice p.1.p p.1.n p.1.c, .slice p.2.p p.2.n p.2.c], fun _ => rfl⟩
theorem Sg.setT0 {w W : World} {A Bs : List Rw} {g c : Nat} {a b : Sv} (h : Sg w W (A ++ rG kT (.slice (some ⟨g, 0, none⟩) 1 c) [(a, b)] :: Bs)) (u : Sv) :
    Sg w (W.setCell ⟨g, 0, none⟩ (.slice u.p u.n u.c)) (A ++ rG kT (.slice (some ⟨g, 0, none⟩) 1 c) [(u, b)] :: Bs) := Sg.setRaw h 0 (.slice u.p u.n u.c)
set_option maxRecDepth 100000 in
set_option maxHeartbeats 4000000 in
theorem toTree_any (p q : Option Addr) (m n c d : Nat) (L : List Mk) (NL : List (Nd × Sv)) (hm : L.length = m) (hn : NL.length = n) (hmb : m ≤ 1048576) (hnb : n ≤ 1048576) (w : World) (hL : SlG kL w p L) (hN : SlG kLN w q NL) (hP : ∀ y ∈ NL, SlG kI w y.2.p y.1.ps ∧ y.2.n = y.1.ps.length ∧ y.1.ps.length ≤ 1048576) :
    Calls Tryz.prog 26 #[.agg #[.slice p m c, .slice q n d]] w fun e w' => ∃ g h NL', e = .returned (.agg #[.slice (some ⟨g, 0, none⟩) m m, .slice (some ⟨h, 0, none⟩) n n]) ∧ NL'.map Prod.fst = NL.map Prod.fst ∧ Sg w w' (treeR (.slice (some ⟨g, 0, none⟩) m m) (.slice (some ⟨h, 0, none⟩) n n) L NL') := by
  have hS0 := (((Sg.nil w).lit kT5 [(⟨p, m, c⟩, ⟨q, n, d⟩)] 1 rfl (by decide) #[.slice p m c, .slice q n d] rfl).lit kT [(⟨none, 0, 0⟩, ⟨none, 0, 0⟩)] 1 rfl (by decide) #[.slice none 0 0, .slice none 0 0] rfl).lit kT [(⟨none, 0, 0⟩, ⟨none, 0, 0⟩)] 1 rfl (by decide) #[.slice none 0 0, .slice none 0 0] rfl
  simp only [World.size_alloc] at hS0
  have HM : Hid (∀ W, Below w.heap.size w W → Calls Tryz.prog 62 #[.slice p m c] W fun e w' => ∃ g, e = .returned (.slice (some ⟨g, 0, none⟩) m m) ∧ Sg W w' [rG kM (.slice (some ⟨g, 0, none⟩) m m) L]) := fun W h => toMarkS_any p c L m hm W (hL.step h) (by omega)
  have HN : Hid (∀ W, Below w.heap.size w W → Calls Tryz.prog 63 #[.slice q n d] W fun e w' => ∃ g NL', e = .returned (.slice (some ⟨g, 0, none⟩) n n) ∧ NL'.map Prod.fst = NL.map Prod.fst ∧ Sg W w' (trR (.slice (some ⟨g, 0, none⟩) n n) NL')) := fun W h => toNodeS_any q d NL n hn hnb W (hN.step h) fun y hy => ⟨(hP y hy).1.step h, (hP y hy).2⟩
  clear hm hn hL hN hP
  go_enter Tryz.func26, Tryz.ntmps26
  go_wp2_with (first
    | (go_at_call 62; refine (HM.out _ hS0.bel).mono ?_; rintro e w1 ⟨g, rfl, h1⟩; have hS1 := hS0.addL h1; obtain ⟨t0, t1, tf, tg⟩ := hS1.two (K := kT) (g := w.heap.size + 1 + 1) (c := 1) (p := (⟨none, 0, 0⟩, ⟨none, 0, 0⟩)) (by simp) rfl; obtain ⟨x0, x1, _, xg⟩ := hS1.two (K := kT5) (g := w.heap.size) (c := 1) (p := (⟨p, m, c⟩, ⟨q, n, d⟩)) (by simp) rfl; have hS2 := Sg.setT0 (A := [_]) hS1 ⟨some ⟨g, 0, none⟩, m, m⟩)
    | (go_at_call 63; refine (HN.out _ hS2.bel).mono ?_; rintro e w2 ⟨h, NL', rfl, hNL, h2⟩; have hS3 := hS2.addL h2; clear t0 t1 tf tg; obtain ⟨t0, t1, tf, tg⟩ := hS3.two (K := kT) (g := w.heap.size + 1 + 1) (c := 1) (p := (⟨some ⟨g, 0, none⟩, m, m⟩, ⟨none, 0, 0⟩)) (by simp) rfl; obtain ⟨v0, v1, vf, vg⟩ := hS3.two (K := kT) (g := w.heap.size + 1) (c := 1) (p := (⟨none, 0, 0⟩, ⟨none, 0, 0⟩)) (by simp) rfl))
  have hS4 : Sg w w2 ((trR (.slice (some ⟨h, 0, none⟩) n n) NL' ++ [rG kM (.slice (some ⟨g, 0, none⟩) m m) L]) ++ rG kT (.slice (some ⟨w.heap.size + 1 + 1, 0, none⟩) 1 1) [(⟨some ⟨g, 0, none⟩, m, m⟩, ⟨none, 0, 0⟩)] :: [rG kT (.slice (some ⟨w.heap.size + 1, 0, none⟩) 1 1) [(⟨none, 0, 0⟩, ⟨none, 0, 0⟩)], rG kT5 (.slice (some ⟨w.heap.size, 0, none⟩) 1 1) [(⟨p, m, c⟩, ⟨q, n, d⟩)]]) := by simpa using hS3
  have hS5 := Sg.setT1 hS4 ⟨some ⟨h, 0, none⟩, n, n⟩
  have hS6 := Sg.setT (A := (trR (.slice (some ⟨h, 0, none⟩) n n) NL' ++ [rG kM (.slice (some ⟨g, 0, none⟩) m m) L]) ++ [rG kT (.slice (some ⟨w.heap.size + 1 + 1, 0, none⟩) 1 1) [(⟨some ⟨g, 0, none⟩, m, m⟩, ⟨some ⟨h, 0, none⟩, n, n⟩)]]) (by simpa using hS5) (⟨some ⟨g, 0, none⟩, m, m⟩, ⟨some ⟨h, 0, none⟩, n, n⟩)
  refine bodyPost_ret (v := .agg #[.slice (some ⟨g, 0, none⟩) m m, .slice (some ⟨h, 0, none⟩) n n]) (by simp [results, Tryz.results26, go_sem, v0, v1]) rfl ⟨g, h, NL', rfl, hNL, ?_⟩
  exact (hS6.sub (rs' := trR (.slice (some ⟨h, 0, none⟩) n n) NL' ++ [rG kM (.slice (some ⟨g, 0, none⟩) m m) L]) (by simp)).perm (List.perm_append_comm (l₂ := [_]))
end Go.Proofs.YtipfcmfcdfofmaaGreat
namespace Go.Proofs.YtipfcmfcdfofmaaGreat
open Go.RowKit Go.Joins
attribute [local go_sem] Oper.semAt_some

end Go.Proofs.YtipfcmfcdfofmaaGreat
