/-
  A Shard copied and Synced: the program's.
-/
import Derived.Test.YtobbankkfplooaaKY6
import Derived.Test.YtobbankkfplooaaKCR
import Derived.Test.YtobbankkfplooaaKCI
import Derived.Test.YtobbankkfplooaaKCN
namespace Go.Proofs.Ytobbankkfplooaa.K.Y
open Go.Shelf Go.RowKit Go.Joins
attribute [local go_sem] Oper.semAt_some

/-- Each slice lies somewhere, or is nil. -/
def OkS (h : Hv) (QL : List YQ) : Prop := okv h.r ∧ okv h.y ∧ okv h.o ∧ ∀ y ∈ QL, okv y.2
set_option maxRecDepth 100000 in
set_option maxHeartbeats 2000000 in
theorem readyCopied_any (t q : Int) (s : Sv) (L : List Rc) (w : World) (hL : SlG I.kR w s.p L) (hl : L.length = s.n) (ho : okv s) (hb : s.n ≤ 1000000) :
    Calls Try.prog 52 #[I.batV t q s.p s.n s.c] w fun e w' => ∃ p c, e = .returned (I.batV t q p s.n c) ∧ Sg w w' [rG I.kR (.slice p s.n c) L] := by
  have HC := Lib.hid (fun W (h : Below w.heap.size w W) => I.copied_any s L W (hL.step h) hl ho hb)
  obtain ⟨sp, sn, sc⟩ := s
  simp only at HC hb ⊢
  have hS1 := (((Sg.nil w).lit I.kB [⟨t, q, ⟨sp, sn, sc⟩⟩] 1 rfl (by decide) #[.int .i64 t, .int .i64 q, .slice sp sn sc] rfl).lit I.kB [I.zbv] 1 rfl (by decide) #[.int .i64 0, .int .i64 0, .slice none 0 0] rfl)
  simp only [World.size_alloc] at hS1
  clear hL hl ho
  go_enter Try.func52, Try.ntmps52
  go_wp2_with (go_at_call 63; refine (HC.out _ hS1.bel).mono ?_; rintro e w2 ⟨p, c, rfl, hw2⟩; have hS3 := hS1.addL hw2; obtain ⟨t0, t1, t2, tf, tg⟩ := I.bat3 hS3 (K := I.kB) (g := w.heap.size) (n := 1) (q := ⟨t, q, ⟨sp, sn, sc⟩⟩) (by simp) rfl; obtain ⟨v0, v1, v2, vf, vg⟩ := I.bat3 hS3 (K := I.kB) (g := w.heap.size + 1) (n := 1) (q := I.zbv) (by simp) rfl)
  have hS4 := I.Sg.setB2 (A := [rG I.kR (.slice p sn c) L, rG I.kB (.slice (some ⟨w.heap.size + 1, 0, none⟩) 1 1) [I.zbv]]) (g := w.heap.size) (n := 1) (a := ⟨t, q, ⟨sp, sn, sc⟩⟩) hS3 ⟨p, sn, c⟩
  have hS5 := I.Sg.setB (A := [rG I.kR (.slice p sn c) L]) (g := w.heap.size + 1) (n := 1) (a := I.zbv) hS4 ⟨t, q, ⟨p, sn, c⟩⟩
  refine bodyPost_ret (v := .agg #[.int .i64 t, .int .i64 q, .slice p sn c]) (by simp [results, Try.results52, go_sem, v0, v1, v2]) rfl ⟨p, c, rfl, ?_⟩
  exact hS5.sub (by simp)
theorem appY : Ap kY 28 (.agg #[.int .i64 0, .int .i64 0, .slice none 0 0]) 40 := ⟨Try.underlying28, info51, rfl, by decide, by decide⟩
theorem oneYs (L : List YQ) : ∀ u ∈ kY.flat L, u.oneCell' = true := fun u hu => by
  unfold Kd.flat at hu
  obtain ⟨s, _, hs⟩ := List.mem_flatMap.mp hu
  simp [kY] at hs
  rcases hs with rfl | rfl | rfl <;> rfl
theorem trY_snoc {w W : World} {v : Value} {X : List YQ} {q : YQ} {Bs : List Rw} (h : Sg w W ([yR q] ++ rG kY v (X ++ [q]) :: (X.map yR ++ Bs))) : Sg w W (trY v (X ++ [q]) [] ++ Bs) := by
  unfold trY
  refine h.perm ?_
  rw [List.append_nil, List.map_append]
  simp only [List.map_cons, List.map_nil, List.cons_append, List.nil_append, List.append_assoc]
  refine (List.Perm.swap _ _ _).trans (List.Perm.cons _ ?_)
  exact (List.perm_append_comm (l₁ := [yR q]) (l₂ := X.map yR)).append_right Bs |>.trans (by simp)
theorem shB_parts {R : List Rc} {Y : List Yd} {O : List Int} {g : Nat} {s : Int} (h : shB R Y O g s = true) : R.length ≤ 400 ∧ Y.length ≤ 100 ∧ O.length ≤ 400 ∧ g ≤ 100000 ∧ ∀ y ∈ Y, y.L.length ≤ 6 := by
  unfold shB roomB recsB readyB at h
  simp only [Bool.and_eq_true, decide_eq_true_eq, List.all_eq_true] at h
  refine ⟨h.2.2.2.1.1, h.1.1, h.1.2.1, h.1.2.2, fun y hy => ?_⟩
  exact (yB_parts (h.2.2.2.2.1.1 y hy)).2.2.1.2
/-- What Synced answers. -/
structure SyR (b : Bool) (R R' : List Rc) (Y Y' : List Yd) (O O' : List Int) (g g' : ByteArray) (s' : Int) : Prop where
  t : b = true → R' = R ∧ Y' = Y ∧ O' = O ∧ g' = g ∧ s' = g.size
  f : b = false → R' = [] ∧ Y' = [] ∧ O' = [] ∧ g' = ByteArray.empty ∧ s' = 0
end Go.Proofs.Ytobbankkfplooaa.K.Y
