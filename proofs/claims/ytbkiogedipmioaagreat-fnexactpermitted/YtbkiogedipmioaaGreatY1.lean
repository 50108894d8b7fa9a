/-
  The law's looks at lists of Cells and at Clauses.
-/
import Derived.Test.YtbkiogedipmioaaGreatP7
namespace Go.Proofs.YtbkiogedipmioaaGreat
open Go.Shelf Go.RowKit Go.Joins M
attribute [local go_sem] Oper.semAt_some

def kL : Kd T3 := ⟨184, 3, fun c => [.int .i64 c.l, .int .i64 c.x, .int .i64 c.y], fun _ => rfl⟩
def kLQ : Kd (Cl × Sv × Sv) := ⟨132, 3, fun q => [.slice q.2.1.p q.2.1.n q.2.1.c, .slice q.2.2.p q.2.2.n q.2.2.c, .int .i64 q.1.un], fun _ => rfl⟩
theorem CsG.cL {w : World} {g off : Nat} {L : List T3} (h : CsG kL w g off L) {k : Nat} {c : T3} (hk : L[k]? = some c) : w.cell? ⟨g, off + k * 3, none⟩ = some (.int .i64 c.l) ∧ w.cell? ⟨g, off + k * 3 + 1, none⟩ = some (.int .i64 c.x) ∧ w.cell? ⟨g, off + k * 3 + 2, none⟩ = some (.int .i64 c.y) :=
  ⟨h.at hk (i := 0) rfl, h.at hk (i := 1) rfl, h.at hk (i := 2) rfl⟩
theorem toC_any (m : T3) (w : World) : Calls Tryz.prog 134 #[.agg #[.int .i64 m.l, .int .i64 m.x, .int .i64 m.y]] w fun e w' => e = .returned (.agg #[.int .i64 m.l, .int .i64 m.x, .int .i64 m.y]) ∧ Below w.heap.size w w' := M.toCell_any m.l m.x m.y w
theorem set3 {xs : List Value} {i : Nat} (h : i + 3 ≤ xs.length) (a b c : Value) : ((xs.set i a).set (i + 1) b).set (i + 2) c = xs.take i ++ [a, b, c] ++ xs.drop (i + 3) := by
  refine List.ext_getElem? fun j => ?_
  simp only [List.getElem?_append, List.length_append, List.length_take, List.length_cons, List.length_nil, List.getElem?_drop]
  have hmin : min i xs.length = i := by omega
  rw [hmin]
  by_cases h1 : j < i
  · rw [if_pos (by omega), if_pos h1, List.getElem?_set_ne (by omega), List.getElem?_set_ne (by omega), List.getElem?_set_ne (by omega), List.getElem?_take_of_lt h1]
  · by_cases h2 : j < i + 3
    · rw [if_pos (by omega), if_neg h1]
      have : j = i ∨ j = i + 1 ∨ j = i + 2 := by omega
      rcases this with rfl | rfl | rfl
      · rw [List.getElem?_set_ne (by omega), List.getElem?_set_ne (by omega), List.getElem?_set_self (by omega)]; simp
      · rw [List.getElem?_set_ne (by omega), List.getElem?_set_self (by simp; omega)]; simp
      · rw [List.getElem?_set_self (by simp; omega)]; simp
    · rw [if_neg (by omega), List.getElem?_set_ne (by omega), List.getElem?_set_ne (by omega), List.getElem?_set_ne (by omega)]
      congr 1; omega
theorem Sg.setC {w W : World} {A Bs : List Rw} {g n c : Nat} {M : List T3} (h : Sg w W (A ++ rG kC (.slice (some ⟨g, 0, none⟩) n c) M :: Bs)) {k : Nat} (hk : k < M.length) (m : T3) :
    Sg w (((W.setCell ⟨g, k * 3, none⟩ (.int .i64 m.l)).setCell ⟨g, k * 3 + 1, none⟩ (.int .i64 m.x)).setCell ⟨g, k * 3 + 2, none⟩ (.int .i64 m.y)) (A ++ rG kC (.slice (some ⟨g, 0, none⟩) n c) (M.set k m) :: Bs) := by
  have ho : OwG kC W w.heap.size (.slice (some ⟨g, 0, none⟩) n c) M := h.mem (by simp)
  have hn := OwG.len ho
  subst hn
  have h1 := ((Sg.setRaw h (k * 3) (.int .i64 m.l)).setRaw (k * 3 + 1) (.int .i64 m.x)).setRaw (k * 3 + 2) (.int .i64 m.y)
  have hl := Kd.flat_len (K := kC) M
  have e : kC.flat (M.set k m) = (((kC.flat M).set (k * 3) (.int .i64 m.l)).set (k * 3 + 1) (.int .i64 m.x)).set (k * 3 + 2) (.int .i64 m.y) := by
    rw [set3 (by rw [hl]; show k * 3 + 3 ≤ M.length * 3; omega), Kd.flat_set m hk]; rfl
  have e2 : rG kC (.slice (some ⟨g, 0, none⟩) M.length c) (M.set k m) = ⟨.slice (some ⟨g, 0, none⟩) M.length c, 89, 3, M.length, (((kC.flat M).set (k * 3) (.int .i64 m.l)).set (k * 3 + 1) (.int .i64 m.x)).set (k * 3 + 2) (.int .i64 m.y)⟩ := by
    unfold rG; rw [e, List.length_set]; rfl
  rw [e2]; exact h1
theorem made_flatC (n : Nat) : (madeCells #[.int .i64 0, .int .i64 0, .int .i64 0] (n * 3)).toList = kC.flat (List.replicate n z3) := by
  refine List.ext_getElem? fun i => ?_
  have hl : (kC.flat (List.replicate n z3)).length = n * 3 := by rw [Kd.flat_len]; simp [kC]
  by_cases hi : i < n * 3
  · have h6 : i / 3 < n := by omega
    have hk : (List.replicate n z3)[i / 3]? = some z3 := by simp [h6]
    have hg := Kd.flat_get (K := kC) hk (i := i % 3) (Nat.mod_lt _ (by decide))
    have e3 : i / 3 * kC.n + i % 3 = i := by show i / 3 * 3 + i % 3 = i; omega
    rw [e3] at hg
    rw [hg]
    have hm : i % 3 = 0 ∨ i % 3 = 1 ∨ i % 3 = 2 := by omega
    rcases hm with hm | hm | hm <;> simp [madeCells, hi, hm, kC, z3]
  · rw [List.getElem?_eq_none (by simp [madeCells]; omega), List.getElem?_eq_none (by omega)]
set_option maxRecDepth 100000 in
set_option maxHeartbeats 2000000 in
theorem toCellS_any (p : Option Addr) (cap : Nat) (L : List T3) (n : Nat) (hn : L.length = n) (w : World) (hL : SlG kL w p L) (hb : n ≤ 10000000) :
    Calls Tryz.prog 121 #[.slice p n cap] w fun e w' => ∃ g, e = .returned (.slice (some ⟨g, 0, none⟩) n n) ∧ Sg w w' [rG kC (.slice (some ⟨g, 0, none⟩) n n) L] := by
  obtain ⟨i0, hi, hz0, hz1, hz2⟩ := info_parts info89
  have hmk := run_make (P := Tryz.prog) w 41 89 i0 _ Tryz.underlying41 hi hz0 .i64 .i64 (n : Int) (n : Int) (by omega) (by omega) (by rw [hz2]; omega) (by omega)
  rw [hz1, Int.toNat_natCast] at hmk
  have hS0 : Sg w (w.alloc (.cells (madeCells #[.int .i64 0, .int .i64 0, .int .i64 0] (n * 3)) 89)) [rG kC (.slice (some ⟨w.heap.size, 0, none⟩) n n) (List.replicate n z3)] := by
    have h := World.ownsRow_lit (base := w.heap.size) (e := 89) (size := 3) w (madeCells #[.int .i64 0, .int .i64 0, .int .i64 0] (n * 3)) n (Nat.le_refl _) (by unfold maxLen; omega) (size_madeCells _ _)
    rw [made_flatC] at h
    refine ⟨below_alloc1 _ _, fun r hr => ?_, by simp⟩
    simp at hr
    subst hr
    unfold Rw.own rG
    simp only [List.length_replicate]
    exact h
  have HN : Hid (L.length = n) := hn
  clear hn
  go_enter Tryz.func121, Tryz.ntmps121
  go_wp2
  go_loopw [4] (fun iv wr => ∃ (k : Nat) (M : List T3), k ≤ n ∧ iv = .int .i64 k ∧ Hid (M.length = n ∧ ∀ j, j < k → M[j]? = L[j]?) ∧ Sg w wr [rG kC (.slice (some ⟨w.heap.size, 0, none⟩) n n) M]) (fun iv _ => n - (intOf iv).toNat)
  case atStart => exact ⟨0, _, by omega, rfl, ⟨by simp, fun j hj => by omega⟩, hS0⟩
  case round =>
    clear hS0
    obtain ⟨k, M, hk, rfl, hM, hS⟩ := hrel
    by_cases hlt : k < n
    · have hki : (k : Int) < n := by omega
      have hkL : k < L.length := by rw [HN.out]; exact hlt
      have hkC : k < M.length := by rw [hM.out.1]; exact hlt
      obtain ⟨g, off, rfl, hC⟩ := (hL.step hS.bel).at hkL
      obtain ⟨c0, c1, c2⟩ := hC.cL (getC hkL)
      have hgk := getC hkL
      obtain ⟨m, hm⟩ : ∃ m, L.getD k z3 = m := ⟨_, rfl⟩
      rw [hm] at c0 c1 c2 hgk
      have HGK : Hid (L[k]? = some m ∧ k < M.length) := ⟨hgk, hkC⟩
      clear hgk hm hC
      go_wp2_with (go_at_call 134; refine (toC_any m _).mono ?_; rintro e w1 ⟨rfl, hb2⟩; have hS1 := hS.step hb2; have ho := hS1.mem (K := kC) (v := .slice (some ⟨w.heap.size, 0, none⟩) n n) (L := M) (by simp); have hf := OwG.fz ho; obtain ⟨d0, d1, d2⟩ := (OwG.cs ho).c3 (getC HGK.out.2); simp only [Nat.zero_add] at d0 d1 d2; clear ho)
      have hS2 := Sg.setC (A := []) hS1 HGK.out.2 m
      go_roundw
      case rel =>
        refine ⟨k + 1, M.set k m, by omega, by go_num, ⟨by simp [hM.out.1], fun j hj => ?_⟩, hS2⟩
        by_cases e : k = j
        · subst e; rw [List.getElem?_set_self HGK.out.2, HGK.out.1]
        · rw [List.getElem?_set_ne e]; exact hM.out.2 j (by omega)
      case measure => simp [intOf]; omega
    · obtain rfl : k = n := by omega
      have e : M = L := List.ext_getElem? fun j => by
        by_cases hj : j < k
        · exact hM.out.2 j hj
        · rw [List.getElem?_eq_none (by rw [hM.out.1]; omega), List.getElem?_eq_none (by rw [HN.out]; omega)]
      subst e
      go_wp2
      go_ret
      exact ⟨_, rfl, hS⟩
theorem eqCell_same (m : T3) (w : World) : Calls Tryz.prog 135 #[.agg #[.int .i64 m.l, .int .i64 m.x, .int .i64 m.y], .agg #[.int .i64 m.l, .int .i64 m.x, .int .i64 m.y]] w fun e w' => e = .returned (.bool true) ∧ Below w.heap.size w w' := by
  go_enter Tryz.func135, Tryz.ntmps135
  go_wp2
  go_ret
  exact ⟨rfl, below_alloc2 _ _ _⟩
set_option maxHeartbeats 1000000 in
theorem eqCellS_same (p q : Option Addr) (cap cap' : Nat) (L : List T3) (n : Nat) (hn : L.length = n) (w : World) (hp : SlG kC w p L) (hq : SlG kC w q L) (_hb : n ≤ 10000000) :
    Calls Tryz.prog 122 #[.slice p n cap, .slice q n cap'] w fun e w' => e = .returned (.bool true) ∧ Below w.heap.size w w' := by
  have HN : Hid (L.length = n) := hn
  clear hn
  go_enter Tryz.func122, Tryz.ntmps122
  go_wp2
  go_loopw [5] (fun i wr => ∃ k : Nat, k ≤ n ∧ i = .int .i64 k ∧ Below w.heap.size w wr) (fun i _ => n - (intOf i).toNat)
  case atStart => exact ⟨0, by omega, rfl, Below.refl _ _⟩
  case round =>
    obtain ⟨k, hk, rfl, hb⟩ := hrel
    by_cases hlt : k < n
    · have hki : (k : Int) < n := by omega
      have hkL : k < L.length := by rw [HN.out]; exact hlt
      obtain ⟨g, off, rfl, hC⟩ := (hp.step hb).at hkL
      obtain ⟨g2, off2, rfl, hC2⟩ := (hq.step hb).at hkL
      obtain ⟨c0, c1, c2⟩ := hC.c3 (getC hkL)
      obtain ⟨d0, d1, d2⟩ := hC2.c3 (getC hkL)
      generalize L.getD k z3 = m at c0 c1 c2 d0 d1 d2
      clear hC hC2
      go_wp2
      go_region_with ((go_at_call 135; refine (eqCell_same m _).mono ?_; rintro e w1 ⟨rfl, hb2⟩))
      all_goals
        go_wp2
        go_roundw
        case rel => exact ⟨k + 1, by omega, by go_num, bstep hb.drew hb2 (Nat.le_refl _)⟩
        case measure => simp [intOf]; omega
    · obtain rfl : k = n := by omega
      go_wp2
      go_ret
      exact ⟨rfl, hb⟩

/-- What a size leaves: -1, or the rest. -/
def szR (z : Int) (n : Nat) (r : Int) : Prop := (r = -1 ∧ z < n) ∨ (r = z - n ∧ (n : Int) ≤ z)
theorem szC_any (p : Option Addr) (n cap : Nat) (z : Int) (h0 : 0 ≤ z) (h1 : z ≤ 1048576) (hm : n ≤ maxLen) (w : World) : Calls Tryz.prog 120 #[.slice p n cap, .int .i64 z] w fun e w' => ∃ r, e = .returned (.int .i64 r) ∧ szR z n r ∧ w' = w := by
  unfold maxLen at hm
  by_cases h : z < n
  · have h2 : z - (n : Int) < 0 := by omega
    go_enter Tryz.func120, Tryz.ntmps120
    go_wp2
    go_ret
    exact ⟨-1, rfl, .inl ⟨rfl, h⟩, rfl⟩
  · have h2 : ¬ z - (n : Int) < 0 := by omega
    go_enter Tryz.func120, Tryz.ntmps120
    go_wp2
    go_ret
    exact ⟨z - n, rfl, .inr ⟨rfl, by omega⟩, rfl⟩
set_option maxHeartbeats 1000000 in
theorem szClause_any (s t : Sv) (u : Int) (z : Int) (h0 : 0 ≤ z) (h1 : z ≤ 1048576) (hs : s.n ≤ maxLen) (ht : t.n ≤ maxLen) (w : World) :
    Calls Tryz.prog 88 #[.agg #[.slice s.p s.n s.c, .slice t.p t.n t.c, .int .i64 u], .int .i64 z] w fun e w' => ∃ r, e = .returned (.int .i64 r) ∧ szR z (s.n + t.n) r ∧ Below w.heap.size w w' := by
  have hb1 := below_alloc1 w (.cells #[.slice s.p s.n s.c, .slice t.p t.n t.c, .int .i64 u] 132)
  have H1 : Hid (∀ W, Calls Tryz.prog 120 #[.slice s.p s.n s.c, .int .i64 z] W fun e w' => ∃ r, e = .returned (.int .i64 r) ∧ szR z s.n r ∧ w' = W) := fun W => szC_any _ _ _ z h0 h1 hs W
  have H2 : Hid (∀ y W, 0 ≤ y → y ≤ 1048576 → Calls Tryz.prog 120 #[.slice t.p t.n t.c, .int .i64 y] W fun e w' => ∃ r, e = .returned (.int .i64 r) ∧ szR y t.n r ∧ w' = W) := fun y W a b => szC_any _ _ _ y a b ht W
  clear hs ht
  by_cases h : z < s.n
  · go_enter Tryz.func88, Tryz.ntmps88
    go_wp2_with (go_at_call 120; refine (H1.out _).mono ?_; rintro e w1 ⟨r, rfl, hr, rfl⟩; obtain rfl : r = -1 := by (rcases hr with hr | hr; exact hr.1; omega))
    go_ret
    exact ⟨-1, rfl, .inl ⟨rfl, by omega⟩, hb1⟩
  · have h2 : ¬ z - (s.n : Int) < 0 := by omega
    have f0 : True := trivial
    by_cases h3 : z - s.n < t.n
    · go_enter Tryz.func88, Tryz.ntmps88
      go_wp2_with (first
        | (go_at_call 120; clear f0; refine (H1.out _).mono ?_; rintro e w1 ⟨r, rfl, hr, rfl⟩; obtain rfl : r = z - s.n := by (rcases hr with hr | hr; omega; exact hr.1))
        | (go_at_call 120; refine (H2.out _ _ (by omega) (by omega)).mono ?_; rintro e w1 ⟨r, rfl, hr, rfl⟩; obtain rfl : r = -1 := by (rcases hr with hr | hr; exact hr.1; omega)))
      go_ret
      exact ⟨-1, rfl, .inl ⟨rfl, by omega⟩, hb1⟩
    · have h4 : ¬ z - (s.n : Int) - t.n < 0 := by omega
      go_enter Tryz.func88, Tryz.ntmps88
      go_wp2_with (first
        | (go_at_call 120; clear f0; refine (H1.out _).mono ?_; rintro e w1 ⟨r, rfl, hr, rfl⟩; obtain rfl : r = z - s.n := by (rcases hr with hr | hr; omega; exact hr.1))
        | (go_at_call 120; refine (H2.out _ _ (by omega) (by omega)).mono ?_; rintro e w1 ⟨r, rfl, hr, rfl⟩; obtain rfl : r = z - s.n - t.n := by (rcases hr with hr | hr; omega; exact hr.1)))
      go_ret
      exact ⟨z - s.n - t.n, rfl, .inr ⟨by omega, by omega⟩, hb1⟩
set_option maxHeartbeats 1000000 in
theorem eqClause_same (c : Cl) (s t s' t' : Sv) (w : World) (hR : RdQ w c s t) (hR' : RdQ w c s' t') :
    Calls Tryz.prog 93 #[.agg #[.slice s.p s.n s.c, .slice t.p t.n t.c, .int .i64 c.un], .agg #[.slice s'.p s'.n s'.c, .slice t'.p t'.n t'.c, .int .i64 c.un]] w fun e w' => e = .returned (.bool true) ∧ Below w.heap.size w w' := by
  have H1 : Hid (∀ W, Below w.heap.size w W → Calls Tryz.prog 122 #[.slice s.p s.n s.c, .slice s'.p s'.n s'.c] W fun e w' => e = .returned (.bool true) ∧ Below W.heap.size W w') := fun W h => by
    have e1 := hR.n1; have e2 := hR'.n1; have := hR.b1
    rw [← e2, e1]; exact eqCellS_same s.p s'.p s.c s'.c c.rd s.n e1 W (hR.r1.step h) (hR'.r1.step h) this
  have H2 : Hid (∀ W, Below w.heap.size w W → Calls Tryz.prog 122 #[.slice t.p t.n t.c, .slice t'.p t'.n t'.c] W fun e w' => e = .returned (.bool true) ∧ Below W.heap.size W w') := fun W h => by
    have e1 := hR.n2; have e2 := hR'.n2; have := hR.b2
    rw [← e2, e1]; exact eqCellS_same t.p t'.p t.c t'.c c.wr t.n e1 W (hR.r2.step h) (hR'.r2.step h) this
  have hst := ((St.nil w).push [.slice s.p s.n s.c, .slice t.p t.n t.c, .int .i64 c.un] 110).push [.slice s'.p s'.n s'.c, .slice t'.p t'.n t'.c, .int .i64 c.un] 110
  simp only [World.size_alloc] at hst
  clear hR hR'
  have f0 : True := trivial
  go_enter Tryz.func93, Tryz.ntmps93
  go_wp2_with (first
    | (go_at_call 122; clear f0; refine (H1.out _ hst.bel).mono ?_; rintro e w1 ⟨rfl, hb2⟩; have hs1 := hst.step hb2; have hk := hs1.has; simp [Has, HasAt] at hk)
    | (go_at_call 122; refine (H2.out _ hs1.bel).mono ?_; rintro e w2 ⟨rfl, hb3⟩; have hs2 := hs1.step hb3; clear hk; have hk := hs2.has; simp [Has, HasAt] at hk))
  go_ret
  exact ⟨rfl, hs2.bel⟩
end Go.Proofs.YtbkiogedipmioaaGreat
