/-
  The law's Clause made the program's; the law of ClauseText.
-/
import Derived.Test.YtbkiogedipmioaaGreatY1
namespace Go.Proofs.YtbkiogedipmioaaGreat
open Go.Shelf Go.RowKit Go.Joins M
attribute [local go_sem] Oper.semAt_some

theorem Sg.setQ0 {w W : World} {A Bs : List Rw} {g n : Nat} {c : Cl} {a b : Sv} (h : Sg w W (A ++ rG kQ (.slice (some ⟨g, 0, none⟩) 1 n) [(c, a, b)] :: Bs)) (u : Sv) :
    Sg w (W.setCell ⟨g, 0, none⟩ (.slice u.p u.n u.c)) (A ++ rG kQ (.slice (some ⟨g, 0, none⟩) 1 n) [(c, u, b)] :: Bs) := Sg.setRaw h 0 (.slice u.p u.n u.c)
theorem Sg.setQ1 {w W : World} {A Bs : List Rw} {g n : Nat} {c : Cl} {a b : Sv} (h : Sg w W (A ++ rG kQ (.slice (some ⟨g, 0, none⟩) 1 n) [(c, a, b)] :: Bs)) (u : Sv) :
    Sg w (W.setCell ⟨g, 1, none⟩ (.slice u.p u.n u.c)) (A ++ rG kQ (.slice (some ⟨g, 0, none⟩) 1 n) [(c, a, u)] :: Bs) := Sg.setRaw h 1 (.slice u.p u.n u.c)
theorem Sg.setQ2 {w W : World} {A Bs : List Rw} {g n : Nat} {c : Cl} {a b : Sv} (h : Sg w W (A ++ rG kQ (.slice (some ⟨g, 0, none⟩) 1 n) [(c, a, b)] :: Bs)) (d : Cl) :
    Sg w (W.setCell ⟨g, 2, none⟩ (.int .i64 d.un)) (A ++ rG kQ (.slice (some ⟨g, 0, none⟩) 1 n) [(d, a, b)] :: Bs) := Sg.setRaw h 2 (.int .i64 d.un)
theorem Sg.setQ {w W : World} {A Bs : List Rw} {g n : Nat} {p : Cl × Sv × Sv} (h : Sg w W (A ++ rG kQ (.slice (some ⟨g, 0, none⟩) 1 n) [p] :: Bs)) (q : Cl × Sv × Sv) :
    Sg w (((W.setCell ⟨g, 0, none⟩ (.slice q.2.1.p q.2.1.n q.2.1.c)).setCell ⟨g, 1, none⟩ (.slice q.2.2.p q.2.2.n q.2.2.c)).setCell ⟨g, 2, none⟩ (.int .i64 q.1.un)) (A ++ rG kQ (.slice (some ⟨g, 0, none⟩) 1 n) [q] :: Bs) :=
  ((Sg.setRaw h 0 (.slice q.2.1.p q.2.1.n q.2.1.c)).setRaw 1 (.slice q.2.2.p q.2.2.n q.2.2.c)).setRaw 2 (.int .i64 q.1.un)
/-- The law's Clause as one reads it. -/
structure RdL (W : World) (c : Cl) (s t : Sv) : Prop where
  r1 : SlG kL W s.p c.rd
  n1 : c.rd.length = s.n
  r2 : SlG kL W t.p c.wr
  n2 : c.wr.length = t.n
theorem RdL.step {w w' : World} {c : Cl} {s t : Sv} (h : RdL w c s t) (hb : Below w.heap.size w w') : RdL w' c s t := ⟨h.r1.step hb, h.n1, h.r2.step hb, h.n2⟩
/-- The rows of a Clause. -/
def clR (c : Cl) (s t : Sv) : List Rw := [rG kC s.v c.rd, rG kC t.v c.wr]
theorem Sg.rdQ {w W : World} {rs : List Rw} {c : Cl} {s t : Sv} (h : Sg w W rs) (hm : ∀ r ∈ clR c s t, r ∈ rs) (b1 : s.n ≤ 10000000) (b2 : t.n ≤ 10000000) : RdQ W c s t := by
  have o1 := h.mem (K := kC) (v := .slice s.p s.n s.c) (L := c.rd) (hm _ (by simp [clR, Sv.v]))
  have o2 := h.mem (K := kC) (v := .slice t.p t.n t.c) (L := c.wr) (hm _ (by simp [clR, Sv.v]))
  exact ⟨OwG.sl o1, (OwG.len o1).symm, OwG.sl o2, (OwG.len o2).symm, b1, b2⟩

set_option maxRecDepth 100000 in
set_option maxHeartbeats 4000000 in
theorem toClause_any (c : Cl) (s t : Sv) (h1 : s.n ≤ 10000000) (h2 : t.n ≤ 10000000) (w : World) (hR : RdL w c s t) :
    Calls Tryz.prog 90 #[.agg #[.slice s.p s.n s.c, .slice t.p t.n t.c, .int .i64 c.un]] w fun e w' => ∃ g h, e = .returned (.agg #[.slice (some ⟨g, 0, none⟩) s.n s.n, .slice (some ⟨h, 0, none⟩) t.n t.n, .int .i64 c.un]) ∧ Sg w w' (clR c ⟨some ⟨g, 0, none⟩, s.n, s.n⟩ ⟨some ⟨h, 0, none⟩, t.n, t.n⟩) := by
  have hS0 := (((Sg.nil w).lit kLQ [(c, s, t)] 1 rfl (by decide) #[.slice s.p s.n s.c, .slice t.p t.n t.c, .int .i64 c.un] rfl).lit kQ [zq] 1 rfl (by decide) #[.slice none 0 0, .slice none 0 0, .int .i64 0] rfl).lit kQ [zq] 1 rfl (by decide) #[.slice none 0 0, .slice none 0 0, .int .i64 0] rfl
  simp only [World.size_alloc] at hS0
  have H1 : Hid (∀ W, Below w.heap.size w W → Calls Tryz.prog 121 #[.slice s.p s.n s.c] W fun e w' => ∃ g, e = .returned (.slice (some ⟨g, 0, none⟩) s.n s.n) ∧ Sg W w' [rG kC (.slice (some ⟨g, 0, none⟩) s.n s.n) c.rd]) := fun W h => toCellS_any s.p s.c c.rd s.n hR.n1 W (hR.r1.step h) h1
  have H2 : Hid (∀ W, Below w.heap.size w W → Calls Tryz.prog 121 #[.slice t.p t.n t.c] W fun e w' => ∃ g, e = .returned (.slice (some ⟨g, 0, none⟩) t.n t.n) ∧ Sg W w' [rG kC (.slice (some ⟨g, 0, none⟩) t.n t.n) c.wr]) := fun W h => toCellS_any t.p t.c c.wr t.n hR.n2 W (hR.r2.step h) h2
  clear hR
  have f0 : True := trivial
  go_enter Tryz.func90, Tryz.ntmps90
  go_wp2_with (first
    | (go_at_call 121; clear f0; refine (H1.out _ hS0.bel).mono ?_; rintro e w1 ⟨g, rfl, hw1⟩; have hS1 := hS0.addL hw1; obtain ⟨t0, t1, t2, tf, tg⟩ := hS1.three (K := kQ) (g := w.heap.size + 1 + 1) (n := 1) (p := zq) (by simp) rfl; obtain ⟨x0, x1, x2, _, xg⟩ := hS1.three (K := kLQ) (g := w.heap.size) (n := 1) (p := (c, s, t)) (by simp) rfl; have hS2 := Sg.setQ0 (A := [_]) hS1 ⟨some ⟨g, 0, none⟩, s.n, s.n⟩)
    | (go_at_call 121; refine (H2.out _ hS2.bel).mono ?_; rintro e w2 ⟨h, rfl, hw2⟩; have hS3 := hS2.addL hw2; clear t0 t1 t2 tf tg x0 x1 x2 xg; obtain ⟨t0, t1, t2, tf, tg⟩ := hS3.three (K := kQ) (g := w.heap.size + 1 + 1) (n := 1) (p := (zcl, ⟨some ⟨g, 0, none⟩, s.n, s.n⟩, zsv)) (by simp) rfl; obtain ⟨v0, v1, v2, vf, vg⟩ := hS3.three (K := kQ) (g := w.heap.size + 1) (n := 1) (p := zq) (by simp) rfl; obtain ⟨x0, x1, x2, _, xg⟩ := hS3.three (K := kLQ) (g := w.heap.size) (n := 1) (p := (c, s, t)) (by simp) rfl))
  have hS4 := Sg.setQ2 (Sg.setQ1 (A := [rG kC (.slice (some ⟨h, 0, none⟩) t.n t.n) c.wr, rG kC (.slice (some ⟨g, 0, none⟩) s.n s.n) c.rd]) (g := w.heap.size + 1 + 1) (n := 1) (c := zcl) (a := ⟨some ⟨g, 0, none⟩, s.n, s.n⟩) (b := zsv) hS3 ⟨some ⟨h, 0, none⟩, t.n, t.n⟩) c
  have hS5 := Sg.setQ (A := [rG kC (.slice (some ⟨h, 0, none⟩) t.n t.n) c.wr, rG kC (.slice (some ⟨g, 0, none⟩) s.n s.n) c.rd, rG kQ (.slice (some ⟨w.heap.size + 1 + 1, 0, none⟩) 1 1) [(c, ⟨some ⟨g, 0, none⟩, s.n, s.n⟩, ⟨some ⟨h, 0, none⟩, t.n, t.n⟩)]]) (g := w.heap.size + 1) (n := 1) hS4 (c, ⟨some ⟨g, 0, none⟩, s.n, s.n⟩, ⟨some ⟨h, 0, none⟩, t.n, t.n⟩)
  refine bodyPost_ret (v := .agg #[.slice (some ⟨g, 0, none⟩) s.n s.n, .slice (some ⟨h, 0, none⟩) t.n t.n, .int .i64 c.un]) (by simp [results, Tryz.results90, go_sem, v0, v1, v2]) rfl ⟨g, h, rfl, ?_⟩
  exact (hS5.sub (rs' := [rG kC (.slice (some ⟨h, 0, none⟩) t.n t.n) c.wr, rG kC (.slice (some ⟨g, 0, none⟩) s.n s.n) c.rd]) (by simp)).perm (List.Perm.swap _ _ _)
end Go.Proofs.YtbkiogedipmioaaGreat
