/-
  An Entry: the laws' looks at it; EntryOk, the program's and the spec's.
-/
import Derived.Test.YtgpfdoiiholncaaDoorKIB2
import Derived.Test.YtgpfdoiiholncaaDoorKIB3
import Derived.Test.YtgpfdoiiholncaaDoorKIL2
import Derived.Test.YtgpfdoiiholncaaDoorKB6
import Derived.Test.YtgpfdoiiholncaaDoorKJM
namespace Go.Proofs.YtgpfdoiiholncaaDoor.K.I
open Go.Shelf Go.RowKit Go.Joins
attribute [local go_sem] Oper.semAt_some

theorem rsz_len4 {L : List Rc} {n : Nat} (hn : L.length = n) (h : rsz L ≤ 1048576) : n ≤ 1048576 := by unfold rsz at h; omega
theorem bx4 {w W : World} {v0 v1 v2 v3 : Value} {ty : TypeId} (h : Below (w.alloc (.cells #[v0, v1, v2, v3] ty)).heap.size (w.alloc (.cells #[v0, v1, v2, v3] ty)) W) : W.cell? ⟨w.heap.size, 0, none⟩ = some v0 ∧ W.cell? ⟨w.heap.size, 1, none⟩ = some v1 ∧ W.cell? ⟨w.heap.size, 2, none⟩ = some v2 ∧ W.cell? ⟨w.heap.size, 3, none⟩ = some v3 := by
  have := (((St.nil w).push [v0, v1, v2, v3] ty).step h).has
  simp [Has, HasAt] at this
  simp [this]
structure Ev where
  k : Int
  t : Int
  s : Int
  v : Sv
def zev : Ev := ⟨0, 0, 0, ⟨none, 0, 0⟩⟩
def kE : Kd Ev := ⟨29, 4, fun q => [.int .i64 q.k, .int .i64 q.t, .int .i64 q.s, .slice q.v.p q.v.n q.v.c], fun _ => rfl⟩
def kLE : Kd Ev := ⟨24, 4, fun q => [.int .i64 q.k, .int .i64 q.t, .int .i64 q.s, .slice q.v.p q.v.n q.v.c], fun _ => rfl⟩
/-- An Entry as a value. -/
abbrev entV (k t s : Int) (p : Option Addr) (n c : Nat) : Value := .agg #[.int .i64 k, .int .i64 t, .int .i64 s, .slice p n c]
theorem ent4 {w W : World} {rs : List Rw} (h : Sg w W rs) {K : Kd Ev} {g n : Nat} {q : Ev} (hm : rG K (.slice (some ⟨g, 0, none⟩) 1 n) [q] ∈ rs) (hv : K.vs q = [.int .i64 q.k, .int .i64 q.t, .int .i64 q.s, .slice q.v.p q.v.n q.v.c]) :
    W.cell? ⟨g, 0, none⟩ = some (.int .i64 q.k) ∧ W.cell? ⟨g, 1, none⟩ = some (.int .i64 q.t) ∧ W.cell? ⟨g, 2, none⟩ = some (.int .i64 q.s) ∧ W.cell? ⟨g, 3, none⟩ = some (.slice q.v.p q.v.n q.v.c) ∧ (∀ o, W.frozen? ⟨g, o, none⟩ = false) ∧ g < W.heap.size := by
  have ho := h.mem hm
  have hC := OwG.cs ho
  have f := fun i u hu => hC.at (k := 0) (a := q) rfl (i := i) (u := u) hu
  simp only [Nat.zero_mul, Nat.zero_add, hv] at f
  exact ⟨f 0 _ rfl, f 1 _ rfl, f 2 _ rfl, f 3 _ rfl, OwG.fz ho, hC.1⟩
theorem Sg.setE3 {w W : World} {A Bs : List Rw} {g n : Nat} {a : Ev} (h : Sg w W (A ++ rG kE (.slice (some ⟨g, 0, none⟩) 1 n) [a] :: Bs)) (u : Sv) :
    Sg w (W.setCell ⟨g, 3, none⟩ (.slice u.p u.n u.c)) (A ++ rG kE (.slice (some ⟨g, 0, none⟩) 1 n) [⟨a.k, a.t, a.s, u⟩] :: Bs) := Sg.setRaw h 3 (.slice u.p u.n u.c)
theorem Sg.setE {w W : World} {A Bs : List Rw} {g n : Nat} {a : Ev} (h : Sg w W (A ++ rG kE (.slice (some ⟨g, 0, none⟩) 1 n) [a] :: Bs)) (q : Ev) :
    Sg w ((((W.setCell ⟨g, 0, none⟩ (.int .i64 q.k)).setCell ⟨g, 1, none⟩ (.int .i64 q.t)).setCell ⟨g, 2, none⟩ (.int .i64 q.s)).setCell ⟨g, 3, none⟩ (.slice q.v.p q.v.n q.v.c)) (A ++ rG kE (.slice (some ⟨g, 0, none⟩) 1 n) [q] :: Bs) :=
  (((Sg.setRaw h 0 (.int .i64 q.k)).setRaw 1 (.int .i64 q.t)).setRaw 2 (.int .i64 q.s)).setRaw 3 (.slice q.v.p q.v.n q.v.c)
set_option maxRecDepth 100000 in
set_option maxHeartbeats 4000000 in
theorem toEnt_any (k t s : Int) (p : Option Addr) (n c : Nat) (L : List Rc) (hn : L.length = n) (hb : n ≤ 1048576) (w : World) (hL : SlG kL w p L) :
    Calls Tryd.prog 6 #[entV k t s p n c] w fun e w' => ∃ g, e = .returned (entV k t s (some ⟨g, 0, none⟩) n n) ∧ Sg w w' [rG kR (.slice (some ⟨g, 0, none⟩) n n) L] := by
  have HC := Lib.hid (fun W (h : Below w.heap.size w W) => toRecS_any p c L n hn W (hL.step h) hb)
  have hS1 := ((((Sg.nil w).lit kLE [⟨k, t, s, ⟨p, n, c⟩⟩] 1 rfl (by decide) #[.int .i64 k, .int .i64 t, .int .i64 s, .slice p n c] rfl).lit kE [zev] 1 rfl (by decide) #[.int .i64 0, .int .i64 0, .int .i64 0, .slice none 0 0] rfl).lit kE [⟨k, t, s, ⟨none, 0, 0⟩⟩] 1 rfl (by decide) #[.int .i64 k, .int .i64 t, .int .i64 s, .slice none 0 0] rfl)
  simp only [World.size_alloc] at hS1
  clear hn hL
  go_enter Tryd.func6, Tryd.ntmps6
  go_wp2_with (go_at_call 12; refine (HC.out _ hS1.bel).mono ?_; rintro e w2 ⟨h, rfl, hw2⟩; have hS3 := hS1.addL hw2; obtain ⟨t0, t1, t2, t3, tf, tg⟩ := ent4 hS3 (K := kE) (g := w.heap.size + 1 + 1) (n := 1) (q := ⟨k, t, s, ⟨none, 0, 0⟩⟩) (by simp) rfl; obtain ⟨v0, v1, v2, v3, vf, vg⟩ := ent4 hS3 (K := kE) (g := w.heap.size + 1) (n := 1) (q := zev) (by simp) rfl; obtain ⟨x0, x1, x2, x3, _, xg⟩ := ent4 hS3 (K := kLE) (g := w.heap.size) (n := 1) (q := ⟨k, t, s, ⟨p, n, c⟩⟩) (by simp) rfl)
  have hS4 := Sg.setE3 (A := [rG kR (.slice (some ⟨h, 0, none⟩) n n) L]) (g := w.heap.size + 1 + 1) (n := 1) (a := ⟨k, t, s, ⟨none, 0, 0⟩⟩) hS3 ⟨some ⟨h, 0, none⟩, n, n⟩
  have hS5 := Sg.setE (A := [rG kR (.slice (some ⟨h, 0, none⟩) n n) L, rG kE (.slice (some ⟨w.heap.size + 1 + 1, 0, none⟩) 1 1) [⟨k, t, s, ⟨some ⟨h, 0, none⟩, n, n⟩⟩]]) (g := w.heap.size + 1) (n := 1) (a := zev) hS4 ⟨k, t, s, ⟨some ⟨h, 0, none⟩, n, n⟩⟩
  refine bodyPost_ret (v := .agg #[.int .i64 k, .int .i64 t, .int .i64 s, .slice (some ⟨h, 0, none⟩) n n]) (by simp [results, Tryd.results6, go_sem, v0, v1, v2, v3]) rfl ⟨h, rfl, ?_⟩
  exact hS5.sub (by simp)
set_option maxHeartbeats 1000000 in
theorem szEnt_any (k t s : Int) (p : Option Addr) (n c : Nat) (L : List Rc) (hn : L.length = n) (a : Int) (w : World) (hL : SlG kL w p L) (ha : 0 ≤ a) (ha2 : a ≤ 1048576) (hm : n ≤ maxLen) (hms : ∀ r ∈ L, r.s.size ≤ maxLen) {v : Int} (hv : (if a < rsz L then -1 else a - (rsz L : Int)) = v) :
    Calls Tryd.prog 4 #[entV k t s p n c, .int .i64 a] w fun e w' => e = .returned (.int .i64 v) ∧ Below w.heap.size w w' := by
  have HZ := Lib.hid (fun W (h : Below w.heap.size w W) => szRecS_any p c L n hn a W (hL.step h) ha ha2 hm hms hv)
  have hb00 := bx4 (Below.refl (w.alloc (.cells #[.int .i64 k, .int .i64 t, .int .i64 s, .slice p n c] 24)).heap.size (w.alloc (.cells #[.int .i64 k, .int .i64 t, .int .i64 s, .slice p n c] 24)))
  have h0 := below_alloc1 w (.cells #[.int .i64 k, .int .i64 t, .int .i64 s, .slice p n c] 24)
  have hv2 : v = -1 ∨ 0 ≤ v := by rw [← hv]; split <;> omega
  clear hn hL hm hms hv
  rcases hv2 with rfl | hv2
  · go_enter Tryd.func4, Tryd.ntmps4
    go_wp2_with (go_at_call 9; refine (HZ.out _ h0).mono ?_; rintro e w1 ⟨rfl, hb1⟩)
    go_ret
    exact ⟨rfl, ba1 hb1⟩
  · have hv3 : ¬ v < 0 := by omega
    go_enter Tryd.func4, Tryd.ntmps4
    go_wp2_with (go_at_call 9; refine (HZ.out _ h0).mono ?_; rintro e w1 ⟨rfl, hb1⟩)
    go_ret
    exact ⟨rfl, ba1 hb1⟩
set_option maxHeartbeats 1000000 in
theorem eqEnt_same (k t s : Int) (p q : Option Addr) (n c c' : Nat) (L : List Rc) (hn : L.length = n) (hb : n ≤ 1048576) (w : World) (hp : SlG kR w p L) (hq : SlG kR w q L) :
    Calls Tryd.prog 8 #[entV k t s p n c, entV k t s q n c'] w fun e w' => e = .returned (.bool true) ∧ Below w.heap.size w w' := by
  have HE := Lib.hid (fun W (h : Below w.heap.size w W) => eqRecS_same p q c c' L n hn W (hp.step h) (hq.step h) (by omega))
  have h0 := below_alloc2 w (.cells #[.int .i64 k, .int .i64 t, .int .i64 s, .slice p n c] 29) (.cells #[.int .i64 k, .int .i64 t, .int .i64 s, .slice q n c'] 29)
  clear hn hp hq
  go_enter Tryd.func8, Tryd.ntmps8
  go_wp2_with (go_at_call 18; refine (HE.out _ h0).mono ?_; rintro e w1 ⟨rfl, hb1⟩)
  go_ret
  exact ⟨rfl, ba2 hb1⟩
/-- Is it a right Entry. -/
def entB (k t s : Int) (L : List Rc) : Bool := (rgB t 1 99 && rgB s 1 100000) && (if k = 1 then itsB L else (decide (k = 2 ∨ k = 3) && decide (L.length = 0)))
theorem entB_eq (k t s : Int) (L : List Rc) : entB k t s L = J.enB ⟨k, t, s, L⟩ := rfl
theorem ent_no {k t s : Int} {L : List Rc} (h : (rgB t 1 99 && rgB s 1 100000) = false) : entB k t s L = false := by unfold entB; rw [h, Bool.false_and]
theorem ent_one {t s : Int} {L : List Rc} : entB 1 t s L = batB t s L := by unfold entB batB; rw [if_pos rfl]
theorem ent_its {t s : Int} {L : List Rc} (h : (rgB t 1 99 && rgB s 1 100000) = true) : entB 1 t s L = itsB L := by unfold entB; rw [h, Bool.true_and, if_pos rfl]
theorem ent_two {k t s : Int} {L : List Rc} (hk : ¬ k = 1) : entB k t s L = ((rgB t 1 99 && rgB s 1 100000) && (rgB k 2 3 && decide (L.length = 0))) := by
  unfold entB
  have e2 : rgB k 2 3 = decide (k = 2 ∨ k = 3) := by unfold rgB; exact decide_eq_decide.mpr (by omega)
  rw [if_neg hk, e2]
set_option maxHeartbeats 1000000 in
theorem sEnt_v {k t s : Int} {L : List Rc} {v : Bool} (hv : entB k t s L = v) (p : Option Addr) (c n : Nat) (hn : L.length = n) (w : World) (hL : SlG kR w p L) (hb0 : n ≤ 10000000) :
    Calls Tryd.prog 10 #[entV k t s p n c] w fun e w' => e = .returned (.bool v) ∧ Below w.heap.size w w' := by
  have hst := (St.nil w).push [.int .i64 k, .int .i64 t, .int .i64 s, .slice p n c] 29
  have HI : Hid (∀ W v, Below w.heap.size w W → itsB L = v → Calls Tryd.prog 21 #[.slice p n c] W fun e w' => e = .returned (.bool v) ∧ Below W.heap.size W w') := fun W v hb h => sIts_v h p c n hn W (hL.step hb) hb0
  cases h1 : (rgB t 1 99 && rgB s 1 100000)
  · rw [ent_no h1] at hv
    subst hv
    clear hn hL
    go_enter Tryd.func10, Tryd.ntmps10
    go_wp2_with (go_at_call 20; refine (sNum_v h1 _).mono ?_; rintro e w1 ⟨rfl, rfl⟩)
    go_ret
    exact ⟨rfl, hst.bel⟩
  by_cases hk : k = 1
  · subst hk
    rw [ent_its h1] at hv
    clear hn hL
    go_enter Tryd.func10, Tryd.ntmps10
    go_wp2_with (first | (go_at_call 20; refine (sNum_v h1 _).mono ?_; rintro e w1 ⟨rfl, rfl⟩) | (go_at_call 21; refine (HI.out _ _ hst.bel hv).mono ?_; rintro e w1 ⟨rfl, hb1⟩))
    go_ret
    exact ⟨rfl, (hst.step hb1).bel⟩
  · rw [ent_two hk, h1, Bool.true_and, hn] at hv
    have hk' : (k == 1) = false := by simpa using hk
    clear hn hL
    cases h2 : rgB k 2 3
    · rw [h2, Bool.false_and] at hv
      subst hv
      go_enter Tryd.func10, Tryd.ntmps10
      go_wp2_with (first | (go_at_call 20; refine (sNum_v h1 _).mono ?_; rintro e w1 ⟨rfl, rfl⟩) | (go_at_call 22; refine (l1In_v h2 _).mono ?_; rintro e w1 ⟨rfl, rfl⟩))
      go_ret
      exact ⟨rfl, hst.bel⟩
    · rw [h2, Bool.true_and] at hv
      by_cases h0 : n = 0
      · subst h0
        subst hv
        go_enter Tryd.func10, Tryd.ntmps10
        go_wp2_with (first | (go_at_call 20; refine (sNum_v h1 _).mono ?_; rintro e w1 ⟨rfl, rfl⟩) | (go_at_call 22; refine (l1In_v h2 _).mono ?_; rintro e w1 ⟨rfl, rfl⟩))
        go_ret
        exact ⟨rfl, hst.bel⟩
      · rw [decide_eq_false h0] at hv
        subst hv
        have h0' : ¬ (n : Int) = 0 := by omega
        have h0'' : ((n : Int) == 0) = false := by simpa using h0
        go_enter Tryd.func10, Tryd.ntmps10
        go_wp2_with (first | (go_at_call 20; refine (sNum_v h1 _).mono ?_; rintro e w1 ⟨rfl, rfl⟩) | (go_at_call 22; refine (l1In_v h2 _).mono ?_; rintro e w1 ⟨rfl, rfl⟩))
        go_ret
        exact ⟨ret_bool (by simp), hst.bel⟩
set_option maxHeartbeats 1000000 in
theorem iEnt_v {k t s : Int} {L : List Rc} {v : Bool} (hv : entB k t s L = v) (p : Option Addr) (c n : Nat) (hn : L.length = n) (w : World) (hL : SlG kR w p L) (hb0 : n ≤ 10000000) :
    Calls Tryd.prog 13 #[entV k t s p n c] w fun e w' => e = .returned (.bool v) ∧ Below w.heap.size w w' := by
  have hst := (St.nil w).push [.int .i64 k, .int .i64 t, .int .i64 s, .slice p n c] 29
  have HB : Hid (∀ W v, Below w.heap.size w W → batB t s L = v → Calls Tryd.prog 28 #[batV t s p n c] W fun e w' => e = .returned (.bool v) ∧ Below W.heap.size W w') := fun W v hb h => iBat_v h p c n hn W (hL.step hb) hb0
  by_cases hk : k = 1
  · subst hk
    rw [ent_one] at hv
    clear hn hL
    go_enter Tryd.func13, Tryd.ntmps13
    go_wp2_with (go_at_call 28; refine (HB.out _ _ hst.bel hv).mono ?_; rintro e w1 ⟨rfl, hb1⟩)
    go_ret
    exact ⟨rfl, (hst.step hb1).bel⟩
  · rw [ent_two hk, hn] at hv
    have hk' : (k == 1) = false := by simpa using hk
    clear hn hL
    cases h2 : rgB k 2 3
    · rw [h2, Bool.false_and, Bool.and_false] at hv
      subst hv
      have hk2 : ¬ k = 2 := by unfold rgB at h2; have := of_decide_eq_false h2; omega
      have hk3 : ¬ k = 3 := by unfold rgB at h2; have := of_decide_eq_false h2; omega
      have hk2' : (k == 2) = false := by simpa using hk2
      have hk3' : (k == 3) = false := by simpa using hk3
      go_enter Tryd.func13, Tryd.ntmps13
      go_wp2
      go_ret
      exact ⟨rfl, hst.bel⟩
    · rw [h2, Bool.true_and] at hv
      have h23 : k = 2 ∨ k = 3 := by unfold rgB at h2; have := of_decide_eq_true h2; omega
      clear h2
      rcases h23 with rfl | rfl
      all_goals
        cases h3 : rgB t 1 99
        · rw [h3, Bool.false_and, Bool.false_and] at hv
          subst hv
          go_enter Tryd.func13, Tryd.ntmps13
          go_wp2_with (go_at_call 29; refine (isTenant_v h3 _).mono ?_; rintro e w1 ⟨rfl, rfl⟩)
          go_ret
          exact ⟨rfl, hst.bel⟩
        cases h4 : rgB s 1 100000
        · rw [h4, Bool.and_false, Bool.false_and] at hv
          subst hv
          go_enter Tryd.func13, Tryd.ntmps13
          go_wp2_with (first | (go_at_call 29; refine (isTenant_v h3 _).mono ?_; rintro e w1 ⟨rfl, rfl⟩) | (go_at_call 30; refine (isId_v h4 _).mono ?_; rintro e w1 ⟨rfl, rfl⟩))
          go_ret
          exact ⟨rfl, hst.bel⟩
        rw [h3, h4, Bool.true_and, Bool.true_and] at hv
        by_cases h0 : n = 0
        · subst h0
          subst hv
          go_enter Tryd.func13, Tryd.ntmps13
          go_wp2_with (first | (go_at_call 29; refine (isTenant_v h3 _).mono ?_; rintro e w1 ⟨rfl, rfl⟩) | (go_at_call 30; refine (isId_v h4 _).mono ?_; rintro e w1 ⟨rfl, rfl⟩))
          go_ret
          exact ⟨rfl, hst.bel⟩
        · rw [decide_eq_false h0] at hv
          subst hv
          have h0' : ¬ (n : Int) = 0 := by omega
          have h0'' : ((n : Int) == 0) = false := by simpa using h0
          go_enter Tryd.func13, Tryd.ntmps13
          go_wp2_with (first | (go_at_call 29; refine (isTenant_v h3 _).mono ?_; rintro e w1 ⟨rfl, rfl⟩) | (go_at_call 30; refine (isId_v h4 _).mono ?_; rintro e w1 ⟨rfl, rfl⟩))
          go_ret
          exact ⟨ret_bool (by simp), hst.bel⟩
end Go.Proofs.YtgpfdoiiholncaaDoor.K.I
