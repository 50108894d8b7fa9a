/-
  The law of Papers, walked.
-/
import Derived.Test.YtkinbgcnenieeaaGreatDoorLK
namespace Go.Proofs.YtkinbgcnenieeaaGreatDoor
open Go.RowKit Go.Joins M
attribute [local go_sem] Oper.semAt_some

/-- A Spot. -/
def kSp : Kd (Int × Int) := ⟨43, 2, fun q => [.int .i64 q.1, .int .i64 q.2], fun _ => rfl⟩
theorem Sg.two {α : Type} {K : Kd α} {w W : World} {rs : List Rw} {g n : Nat} {p : α} {a b : Value} (h : Sg w W rs) (hm : rG K (.slice (some ⟨g, 0, none⟩) 1 n) [p] ∈ rs) (hv : K.vs p = [a, b]) :
    W.cell? ⟨g, 0, none⟩ = some a ∧ W.cell? ⟨g, 1, none⟩ = some b ∧ (∀ j, W.frozen? ⟨g, j, none⟩ = false) ∧ g < W.heap.size := by
  have ho := h.mem hm
  have h0 := (OwG.cs ho).at (k := 0) (a := p) rfl (i := 0) (u := a) (by rw [hv]; rfl)
  have h1 := (OwG.cs ho).at (k := 0) (a := p) rfl (i := 1) (u := b) (by rw [hv]; rfl)
  simp only [Nat.zero_mul, Nat.zero_add] at h0 h1
  exact ⟨h0, h1, OwG.fz ho, (OwG.cs ho).1⟩
/-- A Paper's lists read these Clauses. -/
def LvP (X : List CQ) (cs : List Cl) (N : Nat) : Prop := cls X = cs ∧ sm6 X ∧ X.length = N ∧ N ≤ 7
theorem pOk.lv {X : List CQ} {n : Nat} (h : pOk X n) : LvP X (cls X) n := ⟨rfl, h.2.2, h.1, h.2.1⟩
/-- This Paper and a flag are answered, in memory of their own. -/
def PapV (W : World) (tn : Int) (cs : List Cl) (tag : Int) (N : Nat) (b : Bool) (e : Ending) (w' : World) : Prop := ∃ q cp X, e = .returned (.tuple #[.agg #[.int .i64 tn, .slice q N cp, .int .i64 tag], .bool b]) ∧ Hid (LvP X cs N) ∧ Sg W w' (trX (.slice q N cp) X [])
theorem PapO.v {W : World} {P : Pp} {b : Bool} {e : Ending} {w' : World} {tn tag : Int} {cs : List Cl} {N : Nat} (hP : P = ⟨tn, cs, tag⟩) (hN : cs.length = N) (h7 : N ≤ 7) (h : PapO W P b e w') : PapV W tn cs tag N b e w' := by
  obtain ⟨q, n, cp, X, he, hn, hx, h6, _, hS⟩ := h
  subst hP
  simp only at he hn hx
  rw [hN] at hn
  subst hn
  exact ⟨q, cp, X, he, ⟨hx, h6, by rw [← cls_len, hx, hN], h7⟩, hS⟩
section
variable {w W : World} {rs : List Rw} {q q' : Option Addr} {n cp cp' N : Nat} {X X' : List CQ} {L ncs : List Cl} {c : Cl} {s t : Sv} {tn tag ntn ntag key : Int} {b : Bool}
theorem iNarV (hP : narP tn L tag c = ⟨ntn, ncs, ntag⟩) (hB : narB tn L tag c = b) (hN : ncs.length = N) (h7 : N ≤ 7) (hT : TB w) (hS : Sg w W rs) (hX : Hid (LvP X L n)) (hb : Hid (s.n ≤ 10 ∧ t.n ≤ 10)) (hm : ∀ r ∈ clR c s t, r ∈ rs) (hmX : ∀ r ∈ trX (.slice q n cp) X [], r ∈ rs) :
    Calls Tryz.prog 6 #[.agg #[.int .i64 tn, .slice q n cp, .int .i64 tag], .agg #[.slice s.p s.n s.c, .slice t.p t.n t.c, .int .i64 c.un]] W (PapV W ntn ncs ntag N b) := by
  have h1 := hb.out
  have ho := hS.okC hm
  obtain ⟨x1, x2, x3, x4⟩ := hX.out
  subst x1 hB
  exact (iNarrowed_any tn tag q cp n X x3 (by omega) x2 (hS.okQ hmX) c s t (by omega) (by omega) ho.1 ho.2 W (hS.rdS x2.q hmX) (hS.rdQ hm (by omega) (by omega)) (hT.step hS.bel)).mono fun _ _ h => h.v hP hN h7
theorem sNarV (hP : narP tn L tag c = ⟨ntn, ncs, ntag⟩) (hB : narB tn L tag c = b) (hN : ncs.length = N) (h7 : N ≤ 7) (hS : Sg w W rs) (hX : Hid (LvP X L n)) (hb : Hid (s.n ≤ 10 ∧ t.n ≤ 10)) (hm : ∀ r ∈ clR c s t, r ∈ rs) (hmX : ∀ r ∈ trX (.slice q n cp) X [], r ∈ rs) :
    Calls Tryz.prog 10 #[.agg #[.int .i64 tn, .slice q n cp, .int .i64 tag], .agg #[.slice s.p s.n s.c, .slice t.p t.n t.c, .int .i64 c.un]] W (PapV W ntn ncs ntag N b) := by
  have h1 := hb.out
  have ho := hS.okC hm
  obtain ⟨x1, x2, x3, x4⟩ := hX.out
  subst x1 hB
  exact (sNarrowed_any tn tag q cp n X x3 (by omega) x2 (hS.okQ hmX) c s t (by omega) (by omega) ho.1 ho.2 W (hS.rdS x2.q hmX) (hS.rdQ hm (by omega) (by omega))).mono fun _ _ h => h.v hP hN h7
theorem iMintV (hP : mintP key tn c = ⟨ntn, ncs, ntag⟩) (hB : mintB key tn c = b) (hN : ncs.length = N) (h7 : N ≤ 7) (hT : TB w) (hS : Sg w W rs) (hb : Hid (s.n ≤ 10 ∧ t.n ≤ 10)) (hm : ∀ r ∈ clR c s t, r ∈ rs) :
    Calls Tryz.prog 8 #[.int .i64 key, .int .i64 tn, .agg #[.slice s.p s.n s.c, .slice t.p t.n t.c, .int .i64 c.un]] W (PapV W ntn ncs ntag N b) := by
  have h1 := hb.out
  have ho := hS.okC hm
  subst hB
  exact (iMinted_any key tn c s t (by omega) (by omega) ho.1 ho.2 W (hS.rdQ hm (by omega) (by omega)) (hT.step hS.bel)).mono fun _ _ h => h.v hP hN h7
theorem sMintV (hP : mintP key tn c = ⟨ntn, ncs, ntag⟩) (hB : mintB key tn c = b) (hN : ncs.length = N) (h7 : N ≤ 7) (hS : Sg w W rs) (hb : Hid (s.n ≤ 10 ∧ t.n ≤ 10)) (hm : ∀ r ∈ clR c s t, r ∈ rs) :
    Calls Tryz.prog 12 #[.int .i64 key, .int .i64 tn, .agg #[.slice s.p s.n s.c, .slice t.p t.n t.c, .int .i64 c.un]] W (PapV W ntn ncs ntag N b) := by
  have h1 := hb.out
  have ho := hS.okC hm
  subst hB
  exact (sMinted_any key tn c s t (by omega) (by omega) ho.1 ho.2 W (hS.rdQ hm (by omega) (by omega))).mono fun _ _ h => h.v hP hN h7
theorem likeV (hS : Sg w W rs) (hX : Hid (LvP X L N)) (hX' : Hid (LvP X' L N)) (hm : ∀ r ∈ trX (.slice q N cp) X [], r ∈ rs) (hm' : ∀ r ∈ trX (.slice q' N cp') X' [], r ∈ rs) :
    Calls Tryz.prog 11 #[.agg #[.int .i64 tn, .slice q N cp, .int .i64 tag], .agg #[.int .i64 tn, .slice q' N cp', .int .i64 tag]] W fun e w' => e = .returned (.bool true) ∧ Below W.heap.size W w' := by
  obtain ⟨x1, x2, x3, x4⟩ := hX.out
  obtain ⟨y1, y2, y3, y4⟩ := hX'.out
  exact likePaper_same tn tag q q' cp cp' N X X' x3 (x1.trans y1.symm) (by omega) W (hS.rdS x2.q hm) (hS.rdS y2.q hm')
theorem iGenV {v : Bool} (hv : genB key tn L tag = v) (hT : TB w) (hS : Sg w W rs) (hX : Hid (LvP X L n)) (hm : ∀ r ∈ trX (.slice q n cp) X [], r ∈ rs) :
    Calls Tryz.prog 13 #[.int .i64 key, .agg #[.int .i64 tn, .slice q n cp, .int .i64 tag]] W fun e w' => e = .returned (.bool v) ∧ Below W.heap.size W w' := by
  obtain ⟨x1, x2, x3, x4⟩ := hX.out
  subst x1 hv
  exact iGenuine_any key tn tag q cp n X x3 (by omega) W (hS.rdS x2.q hm) (hT.step hS.bel)
theorem sGenV {v : Bool} (hv : genB key tn L tag = v) (hS : Sg w W rs) (hX : Hid (LvP X L n)) (hm : ∀ r ∈ trX (.slice q n cp) X [], r ∈ rs) :
    Calls Tryz.prog 14 #[.int .i64 key, .agg #[.int .i64 tn, .slice q n cp, .int .i64 tag]] W fun e w' => e = .returned (.bool v) ∧ Below W.heap.size W w' := by
  obtain ⟨x1, x2, x3, x4⟩ := hX.out
  subst x1 hv
  exact sGenuine_any key tn tag q cp n X x3 (by omega) W (hS.rdS x2.q hm)
theorem iAllV {x y now : Int} {wr v : Bool} (hv : alB tn L tag x y wr now = v) (hS : Sg w W rs) (hX : Hid (LvP X L n)) (hm : ∀ r ∈ trX (.slice q n cp) X [], r ∈ rs) :
    Calls Tryz.prog 18 #[.agg #[.int .i64 tn, .slice q n cp, .int .i64 tag], .agg #[.int .i64 x, .int .i64 y], .bool wr, .int .i64 now] W fun e w' => e = .returned (.bool v) ∧ Below W.heap.size W w' := by
  obtain ⟨x1, x2, x3, x4⟩ := hX.out
  subst x1
  exact iAllows_v hv x3 (by omega) W (hS.rdS x2.q hm)
theorem iTxtV {v : ByteArray} (hv : ctx c = v) (hT : TB w) (hS : Sg w W rs) (hb : Hid (s.n ≤ 10 ∧ t.n ≤ 10)) (hm : ∀ r ∈ clR c s t, r ∈ rs) :
    Calls Tryz.prog 15 #[.agg #[.slice s.p s.n s.c, .slice t.p t.n t.c, .int .i64 c.un]] W fun e w' => e = .returned (.string v) ∧ Below W.heap.size W w' := by
  have h1 := hb.out
  subst hv
  exact iText_any W (hS.rdQ hm (by omega) (by omega)) (hT.step hS.bel)
theorem sTxtV {v : ByteArray} (hv : ctx c = v) (hS : Sg w W rs) (hb : Hid (s.n ≤ 10 ∧ t.n ≤ 10)) (hm : ∀ r ∈ clR c s t, r ∈ rs) :
    Calls Tryz.prog 16 #[.agg #[.slice s.p s.n s.c, .slice t.p t.n t.c, .int .i64 c.un]] W fun e w' => e = .returned (.string v) ∧ Below W.heap.size W w' := by
  have h1 := hb.out
  subst hv
  exact sText_any W (hS.rdQ hm (by omega) (by omega))
end
theorem mintP_of {key tn : Int} {c : Cl} {ntn ntag : Int} {ncs : List Cl} (hP : mintP key tn c = ⟨ntn, ncs, ntag⟩) (hB : mintB key tn c = true) : genB key ntn ncs ntag = true := by
  unfold mintP at hP
  rw [if_pos hB] at hP
  injection hP with e1 e2 e3
  subst e1 e2 e3
  exact genB_mint hB
theorem narP_of {tn tag : Int} {L : List Cl} {c : Cl} {ntn ntag : Int} {ncs : List Cl} (hP : narP tn L tag c = ⟨ntn, ncs, ntag⟩) (hB : narB tn L tag c = true) : ntn = tn ∧ ncs = L ++ [c] ∧ ntag = hsF tag (tx c) := by
  unfold narP at hP
  rw [if_pos hB] at hP
  injection hP with e1 e2 e3
  exact ⟨e1.symm, e2.symm, e3.symm⟩
theorem narP_no {tn tag : Int} {L : List Cl} {c : Cl} {ntn ntag : Int} {ncs : List Cl} (hP : narP tn L tag c = ⟨ntn, ncs, ntag⟩) (hB : narB tn L tag c = false) : ntn = 0 ∧ ncs = [] ∧ ntag = 0 := by
  unfold narP at hP
  rw [if_neg (by rw [hB]; decide)] at hP
  injection hP with e1 e2 e3
  exact ⟨e1.symm, e2.symm, e3.symm⟩
set_option maxRecDepth 100000 in
set_option maxHeartbeats 16000000 in
theorem papers_small (a : Option Addr) (len cap : Nat) (zs : List Int) (g : Nat) (w : World) (hl : len ≤ 4096) (hr : Rd w g a len zs) (hT : TB w) :
    Calls Tryz.prog 3 #[.slice a len cap] w fun e w' => e = .returned (.bool true) ∧ Below w.heap.size w w' := by
  have hli : ¬ (4096 : Int) < len := by omega
  have HR : Hid (∀ W, Below w.heap.size w W → Rd W (g + W.heap.size) a len zs) := fun W h => hr.up h (by have := h.size; omega)
  have HT : Hid (TB w) := hT
  have H5 : Hid (∀ W, Below w.heap.size w W → Calls Tryz.prog 5 #[.slice a len cap] W fun e w' => ∃ (tn tag : Int) (q : Option Addr) (n cp : Nat) (X : List CQ) (c : Cl) (s t : Sv), e = .returned (.tuple #[.agg #[.int .i64 tn, .slice q n cp, .int .i64 tag], .agg #[.slice s.p s.n s.c, .slice t.p t.n t.c, .int .i64 c.un]]) ∧ Hid (pOk X n ∧ s.n ≤ 10 ∧ t.n ≤ 10) ∧ Sg W w' (clR c s t ++ trX (.slice q n cp) X [])) := fun W h => drawNarrowed_any a len cap zs _ W hl (HR.out W h)
  have H7 : Hid (∀ W, Below w.heap.size w W → Calls Tryz.prog 7 #[.slice a len cap] W fun e w' => ∃ (key tn : Int) (c : Cl) (s t : Sv), e = .returned (.tuple #[.int .i64 key, .int .i64 tn, .agg #[.slice s.p s.n s.c, .slice t.p t.n t.c, .int .i64 c.un]]) ∧ Hid (s.n ≤ 10 ∧ t.n ≤ 10) ∧ Sg W w' (clR c s t)) := fun W h => drawMinted_any a len cap zs _ W hl (HR.out W h)
  have H9 : Hid (∀ W, Below w.heap.size w W → Calls Tryz.prog 9 #[.slice a len cap] W fun e w' => ∃ (key tn tag : Int) (q : Option Addr) (n cp : Nat) (X : List CQ), e = .returned (.tuple #[.int .i64 key, .agg #[.int .i64 tn, .slice q n cp, .int .i64 tag]]) ∧ Hid (pOk X n) ∧ Sg W w' (trX (.slice q n cp) X [])) := fun W h => drawGenuine_any a len cap zs _ W hl (HR.out W h)
  have H17 : Hid (∀ W (seed m : Int), 0 ≤ seed → seed ≤ 100 → 1 ≤ m → Below w.heap.size w W → Calls Tryz.prog 17 #[.slice a len cap, .int .i64 seed, .int .i64 m] W fun e w' => ∃ x y : Int, e = .returned (.agg #[.int .i64 x, .int .i64 y]) ∧ Below W.heap.size W w') := fun W seed m h1 h2 h3 h => spotN a len cap zs seed m _ W hl (HR.out W h) h1 h2 h3
  have hS0 := Sg.nil w
  clear hr hT
  go_enter Tryz.func3, Tryz.ntmps3
  go_upto_region 4 with (first
    | (go_at_call 4; refine (big_any a len cap _).mono ?_; rintro e w1 ⟨rfl, hw1⟩; obtain rfl := hw1)
    | (go_at_call 5; refine (H5.out _ hS0.bel).mono ?_; rintro e w1 ⟨tn, tag, q, n, cp, X, c, s, t, rfl, hXb, hS1⟩))
  have hX : Hid (LvP X (cls X) n) := hXb.out.1.lv
  have hb : Hid (s.n ≤ 10 ∧ t.n ≤ 10) := hXb.out.2
  clear hXb hS0
  have hS2 := (hS1.lit kP [⟨tn, ⟨q, n, cp⟩, tag⟩] 1 rfl (by decide) #[.int .i64 tn, .slice q n cp, .int .i64 tag] rfl).lit kQ [(c, s, t)] 1 rfl (by decide) #[.slice s.p s.n s.c, .slice t.p t.n t.c, .int .i64 c.un] rfl
  simp only [World.size_alloc] at hS2
  change Sg w ((w1.alloc (.cells #[.int .i64 tn, .slice q n cp, .int .i64 tag] 26)).alloc (.cells #[.slice s.p s.n s.c, .slice t.p t.n t.c, .int .i64 c.un] 29)) _ at hS2
  clear hS1
  obtain ⟨L, hL⟩ : ∃ L, cls X = L := ⟨_, rfl⟩
  rw [hL] at hX
  clear hL
  obtain ⟨⟨ntn, ncs, ntag⟩, hNP⟩ : ∃ P, narP tn L tag c = P := ⟨_, rfl⟩
  obtain ⟨nb, hNB⟩ : ∃ b, narB tn L tag c = b := ⟨_, rfl⟩
  obtain ⟨N, hN⟩ : ∃ N, ncs.length = N := ⟨_, rfl⟩
  have hN7 : N ≤ 7 := by have := narP_len tn L tag c; rw [hNP] at this; simp only at this; omega
  have HN : Hid (narP tn L tag c = ⟨ntn, ncs, ntag⟩ ∧ narB tn L tag c = nb ∧ ncs.length = N ∧ N ≤ 7) := ⟨hNP, hNB, hN, hN7⟩
  clear hNP hNB hN hN7
  generalize w1.heap.size + 1 = b4 at *
  generalize w1.heap.size = b3 at *
  generalize (w1.alloc _).alloc _ = W2 at *
  obtain ⟨x0, x1, x2, xf, xg⟩ := hS2.three (K := kP) (g := b3) (n := 1) (p := ⟨tn, ⟨q, n, cp⟩, tag⟩) (by simp) rfl
  obtain ⟨y0, y1, y2, yf, yg⟩ := hS2.three (K := kQ) (g := b4) (n := 1) (p := (c, s, t)) (by simp) rfl
  go_upto_region 5 with (go_at_call 6; refine (iNarV HN.out.1 HN.out.2.1 HN.out.2.2.1 HN.out.2.2.2 HT.out hS2 hX hb (fun r hr => by simp [hr]) (fun r hr => by simp [hr])).mono ?_; rintro e w3 ⟨q5, cp5, X5, rfl, hX5, hw3⟩; have hS3a := hS2.addL hw3; have hS3 := hS3a.lit kP [⟨ntn, ⟨q5, N, cp5⟩, ntag⟩] 1 rfl (by decide) #[.int .i64 ntn, .slice q5 N cp5, .int .i64 ntag] rfl; change Sg w (w3.alloc (.cells #[.int .i64 ntn, .slice q5 N cp5, .int .i64 ntag] 26)) _ at hS3)
  clear x0 x1 x2 xf xg; clear y0 y1 y2 yf yg
  clear hS2 hS3a hw3
  generalize w3.heap.size = b5 at *
  generalize w3.alloc _ = W3 at *
  go_upto_region 6 with (go_at_call 7; refine (H7.out _ hS3.bel).mono ?_; rintro e w4 ⟨mk, mtn0, mc, ms, mt, rfl, hmb, hw4⟩; have hS4a := hS3.addL hw4; have hS4 := hS4a.lit kQ [(mc, ms, mt)] 1 rfl (by decide) #[.slice ms.p ms.n ms.c, .slice mt.p mt.n mt.c, .int .i64 mc.un] rfl; change Sg w (w4.alloc (.cells #[.slice ms.p ms.n ms.c, .slice mt.p mt.n mt.c, .int .i64 mc.un] 29)) _ at hS4)
  clear hS3 hS4a hw4 H7
  generalize w4.heap.size = b9 at *
  generalize w4.alloc _ = W4 at *
  obtain ⟨⟨mtn, mcs, mtag⟩, hMP⟩ : ∃ P, mintP mk mtn0 mc = P := ⟨_, rfl⟩
  obtain ⟨mb, hMB⟩ : ∃ b, mintB mk mtn0 mc = b := ⟨_, rfl⟩
  obtain ⟨M, hM⟩ : ∃ N, mcs.length = N := ⟨_, rfl⟩
  have hM7 : M ≤ 7 := by have := mintP_len mk mtn0 mc; rw [hMP] at this; simp only at this; omega
  have HM : Hid (mintP mk mtn0 mc = ⟨mtn, mcs, mtag⟩ ∧ mintB mk mtn0 mc = mb ∧ mcs.length = M ∧ M ≤ 7) := ⟨hMP, hMB, hM, hM7⟩
  clear hMP hMB hM hM7
  obtain ⟨x0, x1, x2, xf, xg⟩ := hS4.three (K := kQ) (g := b9) (n := 1) (p := (mc, ms, mt)) (by simp) rfl
  go_upto_region 7 with (go_at_call 8; refine (iMintV HM.out.1 HM.out.2.1 HM.out.2.2.1 HM.out.2.2.2 HT.out hS4 hmb (fun r hr => by simp [hr])).mono ?_; rintro e w5 ⟨q10, cp10, X10, rfl, hX10, hw5⟩; have hS5a := hS4.addL hw5; have hS5 := hS5a.lit kP [⟨mtn, ⟨q10, M, cp10⟩, mtag⟩] 1 rfl (by decide) #[.int .i64 mtn, .slice q10 M cp10, .int .i64 mtag] rfl; change Sg w (w5.alloc (.cells #[.int .i64 mtn, .slice q10 M cp10, .int .i64 mtag] 26)) _ at hS5)
  clear x0 x1 x2 xf xg
  clear hS4 hS5a hw5
  generalize w5.heap.size = b10 at *
  generalize w5.alloc _ = W5 at *
  go_upto_region 8 with (go_at_call 9; refine (H9.out _ hS5.bel).mono ?_; rintro e w6 ⟨gkey, gtn, gtag, gq, gn, gcp, GX, rfl, hGX0, hw6⟩; have hS6a := hS5.addL hw6; have hS6 := hS6a.lit kP [⟨gtn, ⟨gq, gn, gcp⟩, gtag⟩] 1 rfl (by decide) #[.int .i64 gtn, .slice gq gn gcp, .int .i64 gtag] rfl; change Sg w (w6.alloc (.cells #[.int .i64 gtn, .slice gq gn gcp, .int .i64 gtag] 26)) _ at hS6)
  have hGX : Hid (LvP GX (cls GX) gn) := hGX0.out.lv
  obtain ⟨GL, hGL⟩ : ∃ L, cls GX = L := ⟨_, rfl⟩
  rw [hGL] at hGX
  clear hS5 hS6a hw6 H9 hGX0 hGL
  generalize w6.heap.size = b13 at *
  generalize w6.alloc _ = W6 at *
  obtain ⟨x0, x1, x2, xf, xg⟩ := hS6.three (K := kP) (g := b3) (n := 1) (p := ⟨tn, ⟨q, n, cp⟩, tag⟩) (by simp) rfl
  obtain ⟨y0, y1, y2, yf, yg⟩ := hS6.three (K := kQ) (g := b4) (n := 1) (p := (c, s, t)) (by simp) rfl
  go_upto_region 9 with (go_at_call 10; refine (sNarV HN.out.1 HN.out.2.1 HN.out.2.2.1 HN.out.2.2.2 hS6 hX hb (fun r hr => by simp [hr]) (fun r hr => by simp [hr])).mono ?_; rintro e w7 ⟨q14, cp14, X14, rfl, hX14, hw7⟩; have hS7a := hS6.addL hw7; have hS7 := hS7a.lit kP [⟨ntn, ⟨q14, N, cp14⟩, ntag⟩] 1 rfl (by decide) #[.int .i64 ntn, .slice q14 N cp14, .int .i64 ntag] rfl; change Sg w (w7.alloc (.cells #[.int .i64 ntn, .slice q14 N cp14, .int .i64 ntag] 26)) _ at hS7)
  clear x0 x1 x2 xf xg; clear y0 y1 y2 yf yg
  clear hS6 hS7a hw7
  generalize w7.heap.size = b14 at *
  generalize w7.alloc _ = W7 at *
  obtain ⟨x0, x1, x2, xf, xg⟩ := hS7.three (K := kP) (g := b5) (n := 1) (p := ⟨ntn, ⟨q5, N, cp5⟩, ntag⟩) (by simp) rfl
  obtain ⟨y0, y1, y2, yf, yg⟩ := hS7.three (K := kP) (g := b14) (n := 1) (p := ⟨ntn, ⟨q14, N, cp14⟩, ntag⟩) (by simp) rfl
  go_upto_region 11 with (go_at_call 11; refine (likeV hS7 hX5 hX14 (fun r hr => by simp [hr]) (fun r hr => by simp [hr])).mono ?_; rintro e w8 ⟨rfl, hb8⟩; have hS8 := hS7.step hb8)
  clear x0 x1 x2 xf xg; clear y0 y1 y2 yf yg
  clear hS7 hb8
  obtain ⟨x0, x1, x2, xf, xg⟩ := hS8.three (K := kQ) (g := b9) (n := 1) (p := (mc, ms, mt)) (by simp) rfl
  go_upto_region 12 with (go_at_call 12; refine (sMintV HM.out.1 HM.out.2.1 HM.out.2.2.1 HM.out.2.2.2 hS8 hmb (fun r hr => by simp [hr])).mono ?_; rintro e w9 ⟨q16, cp16, X16, rfl, hX16, hw9⟩; have hS9a := hS8.addL hw9; have hS9 := hS9a.lit kP [⟨mtn, ⟨q16, M, cp16⟩, mtag⟩] 1 rfl (by decide) #[.int .i64 mtn, .slice q16 M cp16, .int .i64 mtag] rfl; change Sg w (w9.alloc (.cells #[.int .i64 mtn, .slice q16 M cp16, .int .i64 mtag] 26)) _ at hS9)
  clear x0 x1 x2 xf xg
  clear hS8 hS9a hw9
  generalize w9.heap.size = b16 at *
  generalize w9.alloc _ = W9 at *
  obtain ⟨gv, hgv⟩ : ∃ v, genB gkey gtn GL gtag = v := ⟨_, rfl⟩
  obtain ⟨tv, htv⟩ : ∃ v, ctx c = v := ⟨_, rfl⟩
  have HK : Hid (∀ w' rs, Sg w w' rs → rG kP (.slice (some ⟨b10, 0, none⟩) 1 1) [⟨mtn, ⟨q10, M, cp10⟩, mtag⟩] ∈ rs → rG kP (.slice (some ⟨b16, 0, none⟩) 1 1) [⟨mtn, ⟨q16, M, cp16⟩, mtag⟩] ∈ rs → rG kP (.slice (some ⟨b13, 0, none⟩) 1 1) [⟨gtn, ⟨gq, gn, gcp⟩, gtag⟩] ∈ rs → rG kQ (.slice (some ⟨b4, 0, none⟩) 1 1) [(c, s, t)] ∈ rs → (w'.cell? ⟨b10, 0, none⟩ = some (.int .i64 mtn) ∧ w'.cell? ⟨b10, 1, none⟩ = some (.slice q10 M cp10) ∧ w'.cell? ⟨b10, 2, none⟩ = some (.int .i64 mtag) ∧ w'.cell? ⟨b16, 0, none⟩ = some (.int .i64 mtn) ∧ w'.cell? ⟨b16, 1, none⟩ = some (.slice q16 M cp16) ∧ w'.cell? ⟨b16, 2, none⟩ = some (.int .i64 mtag) ∧ w'.cell? ⟨b13, 0, none⟩ = some (.int .i64 gtn) ∧ w'.cell? ⟨b13, 1, none⟩ = some (.slice gq gn gcp) ∧ w'.cell? ⟨b13, 2, none⟩ = some (.int .i64 gtag) ∧ w'.cell? ⟨b4, 0, none⟩ = some (.slice s.p s.n s.c) ∧ w'.cell? ⟨b4, 1, none⟩ = some (.slice t.p t.n t.c) ∧ w'.cell? ⟨b4, 2, none⟩ = some (.int .i64 c.un))) := fun w' rs h m0 m1 m2 m3 => by
    obtain ⟨a00, a01, a02, _, _⟩ := h.three (K := kP) (g := b10) (n := 1) (p := ⟨mtn, ⟨q10, M, cp10⟩, mtag⟩) m0 rfl
    obtain ⟨a10, a11, a12, _, _⟩ := h.three (K := kP) (g := b16) (n := 1) (p := ⟨mtn, ⟨q16, M, cp16⟩, mtag⟩) m1 rfl
    obtain ⟨a20, a21, a22, _, _⟩ := h.three (K := kP) (g := b13) (n := 1) (p := ⟨gtn, ⟨gq, gn, gcp⟩, gtag⟩) m2 rfl
    obtain ⟨a30, a31, a32, _, _⟩ := h.three (K := kQ) (g := b4) (n := 1) (p := (c, s, t)) m3 rfl
    exact ⟨a00, a01, a02, a10, a11, a12, a20, a21, a22, a30, a31, a32⟩
  have hrow := hS9
  clear hS9
  go_region_held3 (fun w' => w'.cell? ⟨b10, 0, none⟩ = some (.int .i64 mtn) ∧ w'.cell? ⟨b10, 1, none⟩ = some (.slice q10 M cp10) ∧ w'.cell? ⟨b10, 2, none⟩ = some (.int .i64 mtag) ∧ w'.cell? ⟨b16, 0, none⟩ = some (.int .i64 mtn) ∧ w'.cell? ⟨b16, 1, none⟩ = some (.slice q16 M cp16) ∧ w'.cell? ⟨b16, 2, none⟩ = some (.int .i64 mtag) ∧ w'.cell? ⟨b13, 0, none⟩ = some (.int .i64 gtn) ∧ w'.cell? ⟨b13, 1, none⟩ = some (.slice gq gn gcp) ∧ w'.cell? ⟨b13, 2, none⟩ = some (.int .i64 gtag) ∧ w'.cell? ⟨b4, 0, none⟩ = some (.slice s.p s.n s.c) ∧ w'.cell? ⟨b4, 1, none⟩ = some (.slice t.p t.n t.c) ∧ w'.cell? ⟨b4, 2, none⟩ = some (.int .i64 c.un))
    (first
      | assumption
      | with_reducible exact HK.out _ _ hrow (by simp) (by simp) (by simp) (by simp)
      | with_reducible exact HK.out _ _ hrow.dr (by simp) (by simp) (by simp) (by simp))
    (first
      | (go_at_call 11; refine (likeV hrow.dr hX10 hX16 (fun r hr => by simp [hr]) (fun r hr => by simp [hr])).mono ?_; rintro e u1 ⟨rfl, hc1⟩; replace hrow := hrow.dr.step hc1; clear hc1)
      | (go_at_call 13; refine (iGenV hgv HT.out hrow hGX (fun r hr => by simp [hr])).mono ?_; rintro e u2 ⟨rfl, hc1⟩; replace hrow := hrow.step hc1; clear hc1)
      | (go_at_call 14; refine (sGenV hgv hrow hGX (fun r hr => by simp [hr])).mono ?_; rintro e u3 ⟨rfl, hc1⟩; replace hrow := hrow.step hc1; clear hc1)
      | (go_at_call 15; refine (iTxtV htv HT.out hrow hb (fun r hr => by simp [hr])).mono ?_; rintro e u4 ⟨rfl, hc1⟩; replace hrow := hrow.step hc1; clear hc1)
      | (go_at_call 16; refine (sTxtV htv hrow hb (fun r hr => by simp [hr])).mono ?_; rintro e u5 ⟨rfl, hc1⟩; replace hrow := hrow.step hc1; clear hc1))
  rename_i hHeld
  clear hHeld HK hgv htv
  have hS10 : Sg w u5 (rG kP (.slice (some ⟨b10, 0, none⟩) 1 1) [⟨mtn, ⟨q10, M, cp10⟩, mtag⟩] :: (trX (.slice q10 M cp10) X10 [] ++ (rG kP (.slice (some ⟨b5, 0, none⟩) 1 1) [⟨ntn, ⟨q5, N, cp5⟩, ntag⟩] :: (trX (.slice q5 N cp5) X5 [] ++ (rG kQ (.slice (some ⟨b4, 0, none⟩) 1 1) [(c, s, t)] :: (rG kP (.slice (some ⟨b3, 0, none⟩) 1 1) [⟨tn, ⟨q, n, cp⟩, tag⟩] :: (clR c s t ++ trX (.slice q n cp) X []))))))) := by
    refine hrow.sub (List.Sublist.trans ?_ (List.IsSuffix.sublist ⟨[rG kP (.slice (some ⟨b16, 0, none⟩) 1 1) [⟨mtn, ⟨q16, M, cp16⟩, mtag⟩]] ++ trX (.slice q16 M cp16) X16 [] ++ [rG kP (.slice (some ⟨b14, 0, none⟩) 1 1) [⟨ntn, ⟨q14, N, cp14⟩, ntag⟩]] ++ trX (.slice q14 N cp14) X14 [] ++ [rG kP (.slice (some ⟨b13, 0, none⟩) 1 1) [⟨gtn, ⟨gq, gn, gcp⟩, gtag⟩]] ++ trX (.slice gq gn gcp) GX [], by simp; rfl⟩))
    exact .cons_cons _ (List.Sublist.append (List.Sublist.refl _) (.cons _ (List.sublist_append_right _ _)))
  clear hrow hX14 hX16 hGX hmb
  go_upto_if 102 with (fail)
  go_cut [] from 18 (fun wx => Sg w wx (rG kP (.slice (some ⟨b5, 0, none⟩) 1 1) [⟨ntn, ⟨q5, N, cp5⟩, ntag⟩] :: (trX (.slice q5 N cp5) X5 [] ++ (rG kQ (.slice (some ⟨b4, 0, none⟩) 1 1) [(c, s, t)] :: (rG kP (.slice (some ⟨b3, 0, none⟩) 1 1) [⟨tn, ⟨q, n, cp⟩, tag⟩] :: (clR c s t ++ trX (.slice q n cp) X []))))))
  case first =>
    cases mb
    · go_wp2
      go_meet
      exact hS10.sub (.cons _ (List.sublist_append_right _ _))
    · have hgx : genB mk mtn mcs mtag = true := mintP_of HM.out.1 HM.out.2.1
      have hin := inB_t.mp (ppB_t (show ppB mtn mcs mtag = true by unfold genB at hgx; rw [Bool.and_eq_true] at hgx; exact hgx.1)).2.2.2
      have hS11 := hS10.lit kP [⟨mtn, ⟨q10, M, cp10⟩, mtag⟩] 1 rfl (by decide) #[.int .i64 mtn, .slice q10 M cp10, .int .i64 mtag] rfl
      change Sg w (u5.alloc (.cells #[.int .i64 mtn, .slice q10 M cp10, .int .i64 mtag] 26)) _ at hS11
      obtain ⟨x0, x1, x2, xf, xg⟩ := hS10.three (K := kP) (g := b10) (n := 1) (p := ⟨mtn, ⟨q10, M, cp10⟩, mtag⟩) (by simp) rfl
      go_upto_region 16 with (fail)
      clear x0 x1 x2 xf xg
      generalize u5.heap.size = b18 at *
      generalize u5.alloc _ = W11 at *
      obtain ⟨x0, x1, x2, xf, xg⟩ := hS11.three (K := kP) (g := b10) (n := 1) (p := ⟨mtn, ⟨q10, M, cp10⟩, mtag⟩) (by simp) rfl
      obtain ⟨y0, y1, y2, yf, yg⟩ := hS11.three (K := kP) (g := b18) (n := 1) (p := ⟨mtn, ⟨q10, M, cp10⟩, mtag⟩) (by simp) rfl
      go_upto_region 17 with (fail)
      have hS12 := Sg.setP2 (A := []) hS11 ((mtag + 1) % 2147483646)
      clear x0 x1 x2 xf xg; clear y0 y1 y2 yf yg
      generalize (mtag + 1) % 2147483646 = ytag at *
      generalize W11.setCell _ _ = W12 at *
      clear hS10 hS11
      have hS12' : Sg w W12 (rG kP (.slice (some ⟨b18, 0, none⟩) 1 1) [⟨mtn, ⟨q10, M, cp10⟩, ytag⟩] :: (rG kP (.slice (some ⟨b10, 0, none⟩) 1 1) [⟨mtn, ⟨q10, M, cp10⟩, mtag⟩] :: (trX (.slice q10 M cp10) X10 [] ++ (rG kP (.slice (some ⟨b5, 0, none⟩) 1 1) [⟨ntn, ⟨q5, N, cp5⟩, ntag⟩] :: (trX (.slice q5 N cp5) X5 [] ++ (rG kQ (.slice (some ⟨b4, 0, none⟩) 1 1) [(c, s, t)] :: (rG kP (.slice (some ⟨b3, 0, none⟩) 1 1) [⟨tn, ⟨q, n, cp⟩, tag⟩] :: (clR c s t ++ trX (.slice q n cp) X [])))))))) := hS12
      clear hS12
      obtain ⟨x0, x1, x2, xf, xg⟩ := hS12'.three (K := kP) (g := b10) (n := 1) (p := ⟨mtn, ⟨q10, M, cp10⟩, mtag⟩) (by simp) rfl
      obtain ⟨y0, y1, y2, yf, yg⟩ := hS12'.three (K := kP) (g := b18) (n := 1) (p := ⟨mtn, ⟨q10, M, cp10⟩, ytag⟩) (by simp) rfl
      by_cases hy : ytag = mtag
      · subst hy
        go_upto_region 19 with (go_at_call 13; refine (iGenV hgx HT.out hS12' hX10 (fun r hr => by simp [hr])).mono ?_; rintro e u6 ⟨rfl, hc6⟩; have hS13 := hS12'.step hc6; clear x0 x1 x2 xf xg; clear y0 y1 y2 yf yg; obtain ⟨x0, x1, x2, xf, xg⟩ := hS13.three (K := kP) (g := b10) (n := 1) (p := ⟨mtn, ⟨q10, M, cp10⟩, ytag⟩) (by simp) rfl; obtain ⟨y0, y1, y2, yf, yg⟩ := hS13.three (K := kP) (g := b18) (n := 1) (p := ⟨mtn, ⟨q10, M, cp10⟩, ytag⟩) (by simp) rfl)
        clear y0 y1 y2 yf yg
        obtain ⟨y0, y1, y2, yf, yg⟩ := hS13.three (K := kQ) (g := b4) (n := 1) (p := (c, s, t)) (by simp) rfl
        obtain ⟨⟨ztn, zcs, ztag⟩, hZP⟩ : ∃ P, narP mtn mcs ytag c = P := ⟨_, rfl⟩
        obtain ⟨zb, hZB⟩ : ∃ b, narB mtn mcs ytag c = b := ⟨_, rfl⟩
        obtain ⟨ZN, hZN⟩ : ∃ N, zcs.length = N := ⟨_, rfl⟩
        have hZ7 : ZN ≤ 7 := by have := narP_len mtn mcs ytag c; rw [hZP] at this; simp only at this; omega
        have HZ : Hid (narP mtn mcs ytag c = ⟨ztn, zcs, ztag⟩ ∧ narB mtn mcs ytag c = zb ∧ zcs.length = ZN ∧ ZN ≤ 7) := ⟨hZP, hZB, hZN, hZ7⟩
        have HGZ : Hid (zb = true → genB mk ztn zcs ztag = true) := fun hz => by
          obtain ⟨e1, e2, e3⟩ := narP_of hZP (hZB.trans hz)
          subst e1 e2 e3
          exact genB_nar hgx (hZB.trans hz)
        clear hZP hZB hZN hZ7
        go_upto_region 20 with (go_at_call 6; refine (iNarV HZ.out.1 HZ.out.2.1 HZ.out.2.2.1 HZ.out.2.2.2 HT.out hS13 hX10 hb (fun r hr => by simp [hr]) (fun r hr => by simp [hr])).mono ?_; rintro e u9 ⟨q19, cp19, X19, rfl, hX19, hv9⟩; have hS19a := hS13.addL hv9; have hS19 := hS19a.lit kP [⟨ztn, ⟨q19, ZN, cp19⟩, ztag⟩] 1 rfl (by decide) #[.int .i64 ztn, .slice q19 ZN cp19, .int .i64 ztag] rfl; change Sg w (u9.alloc (.cells #[.int .i64 ztn, .slice q19 ZN cp19, .int .i64 ztag] 26)) _ at hS19)
        generalize u9.heap.size = b19 at *
        generalize u9.alloc _ = W19 at *
        obtain ⟨v0, v1, v2, vf, vg⟩ := hS19.three (K := kP) (g := b19) (n := 1) (p := ⟨ztn, ⟨q19, ZN, cp19⟩, ztag⟩) (by simp) rfl
        cases zb
        · go_wp2
          go_meet
          exact hS19.sub (.cons _ (List.Sublist.trans (.cons _ (.cons _ (List.sublist_append_right _ _))) (List.sublist_append_right _ _)))
        · have hgz := HGZ.out rfl
          go_wp2_with (go_at_call 13; refine (iGenV hgz HT.out hS19 hX19 (fun r hr => by simp [hr])).mono ?_; rintro e u10 ⟨rfl, hc10⟩; have hS20 := hS19.step hc10)
          go_meet
          exact hS20.sub (.cons _ (List.Sublist.trans (.cons _ (.cons _ (List.sublist_append_right _ _))) (List.sublist_append_right _ _)))
      · have hgy : genB mk mtn mcs ytag = false := genB_uniq hgx hy
        have f0 : True := trivial
        go_upto_region 19 with (first
          | (go_at_call 13; clear f0; refine (iGenV hgx HT.out hS12' hX10 (fun r hr => by simp [hr])).mono ?_; rintro e u6 ⟨rfl, hc6⟩; have hS13 := hS12'.step hc6; clear x0 x1 x2 xf xg; clear y0 y1 y2 yf yg; obtain ⟨x0, x1, x2, xf, xg⟩ := hS13.three (K := kP) (g := b10) (n := 1) (p := ⟨mtn, ⟨q10, M, cp10⟩, mtag⟩) (by simp) rfl; obtain ⟨y0, y1, y2, yf, yg⟩ := hS13.three (K := kP) (g := b18) (n := 1) (p := ⟨mtn, ⟨q10, M, cp10⟩, ytag⟩) (by simp) rfl)
          | (go_at_call 13; refine (iGenV hgy HT.out hS13 hX10 (fun r hr => by simp [hr])).mono ?_; rintro e u7 ⟨rfl, hc7⟩; have hS14 := hS13.step hc7; clear x0 x1 x2 xf xg; clear y0 y1 y2 yf yg; obtain ⟨x0, x1, x2, xf, xg⟩ := hS14.three (K := kP) (g := b10) (n := 1) (p := ⟨mtn, ⟨q10, M, cp10⟩, mtag⟩) (by simp) rfl))
        obtain ⟨y0, y1, y2, yf, yg⟩ := hS14.three (K := kQ) (g := b4) (n := 1) (p := (c, s, t)) (by simp) rfl
        obtain ⟨⟨ztn, zcs, ztag⟩, hZP⟩ : ∃ P, narP mtn mcs mtag c = P := ⟨_, rfl⟩
        obtain ⟨zb, hZB⟩ : ∃ b, narB mtn mcs mtag c = b := ⟨_, rfl⟩
        obtain ⟨ZN, hZN⟩ : ∃ N, zcs.length = N := ⟨_, rfl⟩
        have hZ7 : ZN ≤ 7 := by have := narP_len mtn mcs mtag c; rw [hZP] at this; simp only at this; omega
        have HZ : Hid (narP mtn mcs mtag c = ⟨ztn, zcs, ztag⟩ ∧ narB mtn mcs mtag c = zb ∧ zcs.length = ZN ∧ ZN ≤ 7) := ⟨hZP, hZB, hZN, hZ7⟩
        have HGZ : Hid (zb = true → genB mk ztn zcs ztag = true) := fun hz => by
          obtain ⟨e1, e2, e3⟩ := narP_of hZP (hZB.trans hz)
          subst e1 e2 e3
          exact genB_nar hgx (hZB.trans hz)
        clear hZP hZB hZN hZ7
        go_upto_region 20 with (go_at_call 6; refine (iNarV HZ.out.1 HZ.out.2.1 HZ.out.2.2.1 HZ.out.2.2.2 HT.out hS14 hX10 hb (fun r hr => by simp [hr]) (fun r hr => by simp [hr])).mono ?_; rintro e u9 ⟨q19, cp19, X19, rfl, hX19, hv9⟩; have hS19a := hS14.addL hv9; have hS19 := hS19a.lit kP [⟨ztn, ⟨q19, ZN, cp19⟩, ztag⟩] 1 rfl (by decide) #[.int .i64 ztn, .slice q19 ZN cp19, .int .i64 ztag] rfl; change Sg w (u9.alloc (.cells #[.int .i64 ztn, .slice q19 ZN cp19, .int .i64 ztag] 26)) _ at hS19)
        generalize u9.heap.size = b19 at *
        generalize u9.alloc _ = W19 at *
        obtain ⟨v0, v1, v2, vf, vg⟩ := hS19.three (K := kP) (g := b19) (n := 1) (p := ⟨ztn, ⟨q19, ZN, cp19⟩, ztag⟩) (by simp) rfl
        cases zb
        · go_wp2
          go_meet
          exact hS19.sub (.cons _ (List.Sublist.trans (.cons _ (.cons _ (List.sublist_append_right _ _))) (List.sublist_append_right _ _)))
        · have hgz := HGZ.out rfl
          go_wp2_with (go_at_call 13; refine (iGenV hgz HT.out hS19 hX19 (fun r hr => by simp [hr])).mono ?_; rintro e u10 ⟨rfl, hc10⟩; have hS20 := hS19.step hc10)
          go_meet
          exact hS20.sub (.cons _ (List.Sublist.trans (.cons _ (.cons _ (List.sublist_append_right _ _))) (List.sublist_append_right _ _)))
  case rest =>
  clear hS10 hX10 HM
  have hS20 := hcut
  clear hcut
  obtain ⟨x0, x1, x2, xf, xg⟩ := hS20.three (K := kP) (g := b5) (n := 1) (p := ⟨ntn, ⟨q5, N, cp5⟩, ntag⟩) (by simp) rfl
  cases nb
  · obtain ⟨e1, e2, e3⟩ := narP_no HN.out.1 HN.out.2.1
    have hN0 : N = 0 := by have := HN.out.2.2.1; rw [e2] at this; simpa using this.symm
    clear HN
    subst e1 e2 e3 hN0
    obtain ⟨h51, h52, h53, _⟩ := hX5.out
    have HL : Hid (Calls Tryz.prog 11 #[.agg #[.int .i64 0, .slice q5 0 cp5, .int .i64 0], .agg #[.int .i64 0, .slice none 0 0, .int .i64 0]] wc fun e w' => e = .returned (.bool true) ∧ Below wc.heap.size wc w') := likePaper_same 0 0 q5 none cp5 0 0 X5 [] h53 h51 (by decide) _ (hS20.rdS (n := 0) (c := cp5) h52.q (fun r hr => by simp [hr])) ⟨.inl rfl, by simp⟩
    clear h51 h52 h53
    go_wp2_with (go_at_call 11; refine (HL.out).mono ?_; rintro e u11 ⟨rfl, hc11⟩)
    go_ret
    exact ⟨rfl, (hS20.step hc11).bel⟩
  · obtain ⟨e1, e2, e3⟩ := narP_of HN.out.1 HN.out.2.1
    have hNB := HN.out.2.1
    have hNn : (N : Int) = n + 1 := by
      have h1 := HN.out.2.2.1
      have h2 := hX.out
      rw [e2, List.length_append] at h1
      have h3 : L.length = n := by rw [← h2.1, cls_len]; exact h2.2.2.1
      simp at h1
      omega
    clear HN
    subst e1 e2
    clear e3
    clear x0 x1 x2 xf xg
    have HAL : Hid (∀ (x y : Int) (wb : Bool) (k : Int), alB ntn (L ++ [c]) ntag x y wb k = true → alB ntn L tag x y wb k = true) := fun x y wb k h => alB_nar hNB h
    clear hNB
    go_wp2
    go_loopw [21, 22, 23] (fun i _ _ wr => ∃ k : Nat, k ≤ 10 ∧ i = .int .i64 k ∧ Sg w wr (rG kP (.slice (some ⟨b5, 0, none⟩) 1 1) [⟨ntn, ⟨q5, N, cp5⟩, ntag⟩] :: (trX (.slice q5 N cp5) X5 [] ++ (rG kQ (.slice (some ⟨b4, 0, none⟩) 1 1) [(c, s, t)] :: (rG kP (.slice (some ⟨b3, 0, none⟩) 1 1) [⟨ntn, ⟨q, n, cp⟩, tag⟩] :: (clR c s t ++ trX (.slice q n cp) X [])))))) (fun i _ _ _ => 10 - (intOf i).toNat)
    case atStart => exact ⟨0, by omega, rfl, hS20⟩
    case round =>
      clear hS20
      obtain ⟨k, hk, rfl, hS⟩ := hrel
      by_cases hlt : k < 10
      · have hki : (k : Int) < 10 := by omega
        go_upto_if 151 with (go_at_call 17; refine (H17.out _ _ _ (by omega) (by omega) (by omega) hS.bel).mono ?_; rintro e u12 ⟨x0, y0, rfl, hc12⟩; have hS21a := hS.step hc12; have hS21 := hS21a.lit kSp [(x0, y0)] 1 rfl (by decide) #[.int .i64 x0, .int .i64 y0] rfl; change Sg w (u12.alloc (.cells #[.int .i64 x0, .int .i64 y0] 43)) _ at hS21)
        clear hS hS21a hc12
        generalize u12.heap.size = b22 at *
        generalize u12.alloc _ = W21 at *
        go_cut [] from 150 to 154 (fun wx => ∃ x y : Int, Sg w wx (rG kSp (.slice (some ⟨b22, 0, none⟩) 1 1) [(x, y)] :: (rG kP (.slice (some ⟨b5, 0, none⟩) 1 1) [⟨ntn, ⟨q5, N, cp5⟩, ntag⟩] :: (trX (.slice q5 N cp5) X5 [] ++ (rG kQ (.slice (some ⟨b4, 0, none⟩) 1 1) [(c, s, t)] :: (rG kP (.slice (some ⟨b3, 0, none⟩) 1 1) [⟨ntn, ⟨q, n, cp⟩, tag⟩] :: (clR c s t ++ trX (.slice q n cp) X [])))))))
        case first =>
          obtain ⟨a0, a1, af, ag⟩ := hS21.two (K := kSp) (g := b22) (n := 1) (p := (x0, y0)) (by simp) rfl
          by_cases h5 : (5 : Int) < k
          · go_wp2_with (go_at_call 17; refine (H17.out _ _ _ (by omega) (by omega) (by omega) hS21.bel).mono ?_; rintro e u13 ⟨x1, y1, rfl, hc13⟩; have hS22 := hS21.step hc13; clear a0 a1 af ag; obtain ⟨a0, a1, af, ag⟩ := hS22.two (K := kSp) (g := b22) (n := 1) (p := (x0, y0)) (by simp) rfl)
            go_meet
            exact ⟨x1, y1, Sg.setRaw (A := []) (Sg.setRaw (A := []) (xs := [.int .i64 x0, .int .i64 y0]) hS22 0 (.int .i64 x1)) 1 (.int .i64 y1)⟩
          · go_wp2
            go_meet
            exact ⟨x0, y0, hS21⟩
        case rest =>
        clear hS21
        obtain ⟨x, y, hS22⟩ := hcut
        go_upto_region 30 with (fail)
        go_cut [23] from 155 to 157 (fun v23 wx => ∃ wb : Bool, v23 = .bool wb ∧ Sg w wx (rG kSp (.slice (some ⟨b22, 0, none⟩) 1 1) [(x, y)] :: (rG kP (.slice (some ⟨b5, 0, none⟩) 1 1) [⟨ntn, ⟨q5, N, cp5⟩, ntag⟩] :: (trX (.slice q5 N cp5) X5 [] ++ (rG kQ (.slice (some ⟨b4, 0, none⟩) 1 1) [(c, s, t)] :: (rG kP (.slice (some ⟨b3, 0, none⟩) 1 1) [⟨ntn, ⟨q, n, cp⟩, tag⟩] :: (clR c s t ++ trX (.slice q n cp) X [])))))))
        case first =>
          go_wp2
          go_meet
          exact ⟨_, rfl, hS22⟩
        case rest =>
        clear hS22
        obtain ⟨wb, rfl, hS23⟩ := hcut
        obtain ⟨v0, v1, v2, vf, vg⟩ := hS23.three (K := kP) (g := b5) (n := 1) (p := ⟨ntn, ⟨q5, N, cp5⟩, ntag⟩) (by simp) rfl
        obtain ⟨a0, a1, af, ag⟩ := hS23.two (K := kSp) (g := b22) (n := 1) (p := (x, y)) (by simp) rfl
        cases hv1 : alB ntn (L ++ [c]) ntag x y wb k
        · go_wp2_with (go_at_call 18; refine (iAllV hv1 hS23 hX5 (fun r hr => by simp [hr])).mono ?_; rintro e u14 ⟨rfl, hc14⟩; have hS24 := hS23.step hc14)
          go_roundw
          case rel => exact ⟨k + 1, by omega, by go_num, hS24.sub (List.sublist_cons_self ..)⟩
          case measure => simp [intOf]; omega
        · have hv2 := HAL.out x y wb k hv1
          have f0 : True := trivial
          go_wp2_with (first
            | (go_at_call 18; clear f0; refine (iAllV hv1 hS23 hX5 (fun r hr => by simp [hr])).mono ?_; rintro e u14 ⟨rfl, hc14⟩; have hS24 := hS23.step hc14; clear v0 v1 v2 vf vg; clear a0 a1 af ag; obtain ⟨v0, v1, v2, vf, vg⟩ := hS24.three (K := kP) (g := b3) (n := 1) (p := ⟨ntn, ⟨q, n, cp⟩, tag⟩) (by simp) rfl; obtain ⟨a0, a1, af, ag⟩ := hS24.two (K := kSp) (g := b22) (n := 1) (p := (x, y)) (by simp) rfl)
            | (go_at_call 18; refine (iAllV hv2 hS24 hX (fun r hr => by simp [hr])).mono ?_; rintro e u15 ⟨rfl, hc15⟩; have hS25 := hS24.step hc15))
          go_roundw
          case rel => exact ⟨k + 1, by omega, by go_num, hS25.sub (List.sublist_cons_self ..)⟩
          case measure => simp [intOf]; omega
      · obtain rfl : k = 10 := by omega
        obtain ⟨v0, v1, v2, vf, vg⟩ := hS.three (K := kP) (g := b5) (n := 1) (p := ⟨ntn, ⟨q5, N, cp5⟩, ntag⟩) (by simp) rfl
        obtain ⟨u0, u1, u2, uf, ug⟩ := hS.three (K := kP) (g := b3) (n := 1) (p := ⟨ntn, ⟨q, n, cp⟩, tag⟩) (by simp) rfl
        have hn7 : n ≤ 7 := hX.out.2.2.2
        obtain rfl : N = n + 1 := by omega
        clear hNn hX hX5 HAL H17 H5 HR HT
        go_wp2
        go_ret
        exact ⟨rfl, hS.bel⟩
end Go.Proofs.YtkinbgcnenieeaaGreatDoor
