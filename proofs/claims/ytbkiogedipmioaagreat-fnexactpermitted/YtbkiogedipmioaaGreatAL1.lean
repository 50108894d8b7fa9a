/-
  Allows: the Cells that are asked for, which Clauses last, which reach: the program's.
-/
import Derived.Test.YtbkiogedipmioaaGreatPA
namespace Go.Proofs.YtbkiogedipmioaaGreat
open Go.RowKit Go.Joins M
attribute [local go_sem] Oper.semAt_some

theorem SlG.ms {w : World} {p : Option Addr} {L : List T3} (h : SlG kC w p L) : Sl w p L := by
  rcases h with h | ⟨g, off, h1, h2⟩
  · exact .inl h
  · exact .inr ⟨g, off, h1, h2.1, fun k c hk => h2.c3 hk⟩
/-- The list for reading or for writing. -/
def sdV (b : Bool) (s t : Sv) : Sv := bif b then t else s
def sdL (b : Bool) (c : Cl) : List T3 := bif b then c.wr else c.rd
theorem RdQ.sd {W : World} {c : Cl} {s t : Sv} (h : RdQ W c s t) (b : Bool) : SlG kC W (sdV b s t).p (sdL b c) ∧ (sdL b c).length = (sdV b s t).n ∧ (sdV b s t).n ≤ 10000000 := by
  cases b
  · exact ⟨h.r1, h.n1, h.b1⟩
  · exact ⟨h.r2, h.n2, h.b2⟩
theorem sdL_ok {c : Cl} (h : clB c = true) (b : Bool) : (sdL b c).length ≤ 8 ∧ okL (sdL b c) = true := by
  obtain ⟨_, h2, h3⟩ := clB_t h
  unfold ofB at h2 h3
  rw [Bool.and_eq_true, decide_eq_true_iff] at h2 h3
  cases b
  · exact h2
  · exact h3
theorem cellsTo_any (s t : Sv) (u : Int) (b : Bool) (w : World) :
    Calls Tryz.prog 83 #[.agg #[.slice s.p s.n s.c, .slice t.p t.n t.c, .int .i64 u], .bool b] w fun e w' => e = .returned (.slice (sdV b s t).p (sdV b s t).n (sdV b s t).c) ∧ Below w.heap.size w w' := by
  have hst := (St.nil w).push [.slice s.p s.n s.c, .slice t.p t.n t.c, .int .i64 u] 110
  cases b
  all_goals
    go_enter Tryz.func83, Tryz.ntmps83
    go_wp2
    go_ret
    exact ⟨rfl, hst.bel⟩
/-- Do a Clause's Cells reach the Spot? -/
def reB (b : Bool) (x y : Int) (c : Cl) : Bool := reachI (sdL b c) x y
theorem iReach_v {c : Cl} {s t : Sv} {b : Bool} {x y : Int} {v : Bool} (hv : reB b x y c = v) (hc : clB c = true) (w : World) (hR : RdQ w c s t) :
    Calls Tryz.prog 14 #[.slice (sdV b s t).p (sdV b s t).n (sdV b s t).c, .agg #[.int .i64 x, .int .i64 y]] w fun e w' => e = .returned (.bool v) ∧ Below w.heap.size w w' := by
  obtain ⟨h1, h2, _⟩ := hR.sd b
  have h8 := (sdL_ok hc b).1
  have := M.iReaches_v hv (sdV b s t).p (sdV b s t).c w h1.ms (by omega)
  rw [h2] at this
  exact this
theorem all_takeF {f : Cl → Bool} {QL : List CQ} {k : Nat} (hk : k < QL.length) : ((cls QL).take (k + 1)).all f = (((cls QL).take k).all f && f (QL.getD k zq).1) := by
  rw [List.take_add_one, cls_get hk, List.all_append]; simp
theorem all_noF {f : Cl → Bool} {QL : List CQ} {k : Nat} (hk : k < QL.length) (h : f (QL.getD k zq).1 = false) : (cls QL).all f = false := by
  rw [Bool.eq_false_iff]; intro h2; rw [List.all_eq_true] at h2; have := h2 _ (List.mem_of_getElem? (cls_get hk)); rw [h] at this; cases this
set_option maxRecDepth 100000 in
set_option maxHeartbeats 2000000 in
theorem reach_any (x y : Int) (b : Bool) (p : Option Addr) (cap n : Nat) (QL : List CQ) (hn : QL.length = n) (hb0 : n ≤ 10000000) (hcl : (cls QL).all clB = true) (w : World) (hR : RdS w p QL) :
    Calls Tryz.prog 45 #[.slice p n cap, .agg #[.int .i64 x, .int .i64 y], .bool b] w fun e w' => e = .returned (.bool ((cls QL).all (reB b x y))) ∧ Below w.heap.size w w' := by
  have hs0 := (St.nil w).push [.int .i64 x, .int .i64 y] 40
  have HN : Hid (QL.length = n ∧ RdS w p QL ∧ (cls QL).all clB = true) := ⟨hn, hR, hcl⟩
  clear hn hR hcl
  go_enter Tryz.func45, Tryz.ntmps45
  go_wp2
  go_loopw [11] (fun i wr => ∃ k : Nat, k ≤ n ∧ i = .int .i64 k ∧ Hid (((cls QL).take k).all (reB b x y) = true) ∧ St w wr [(w.heap.size, [.int .i64 x, .int .i64 y])]) (fun i _ => n - (intOf i).toNat)
  case atStart => exact ⟨0, by omega, rfl, rfl, hs0⟩
  case round =>
    clear hs0
    obtain ⟨k, hk, rfl, hall, hst⟩ := hrel
    by_cases hlt : k < n
    · have hki : (k : Int) < n := by omega
      have hkL : k < QL.length := by rw [HN.out.1]; exact hlt
      obtain ⟨g, off, rfl, hC⟩ := (HN.out.2.1.1.step hst.bel).at hkL
      obtain ⟨c0, c1, c2⟩ := hC.q3 (getQ hkL)
      have hq := HN.out.2.1.2 _ (List.mem_of_getElem? (getQ hkL))
      have hcl : clB (QL.getD k zq).1 = true := List.all_eq_true.mp HN.out.2.2 _ (List.mem_of_getElem? (cls_get hkL))
      have hat := all_takeF (f := reB b x y) hkL
      have hno := all_noF (f := reB b x y) hkL
      obtain ⟨⟨c, s, t⟩, hx⟩ : ∃ x : CQ, QL.getD k zq = x := ⟨_, rfl⟩
      rw [hx] at c0 c1 c2 hq hat hno hcl
      simp only at c0 c1 c2 hq hat hno hcl
      have HAT := Lib.hid hat
      have HNO := Lib.hid hno
      have HV : Hid (∀ v W, reB b x y c = v → Below w.heap.size w W → Calls Tryz.prog 14 #[.slice (sdV b s t).p (sdV b s t).n (sdV b s t).c, .agg #[.int .i64 x, .int .i64 y]] W fun e w' => e = .returned (.bool v) ∧ Below W.heap.size W w') := fun v W hv h => iReach_v hv hcl W (hq.step h)
      have hs1 := hst.push [.slice s.p s.n s.c, .slice t.p t.n t.c, .int .i64 c.un] 110
      have hS : ∀ bb, wr.heap.size = bb → ∀ w', St w w' [(bb, [.slice s.p s.n s.c, .slice t.p t.n t.c, .int .i64 c.un]), (w.heap.size, [.int .i64 x, .int .i64 y])] → (Below w.heap.size w w' ∧ (w'.cell? ⟨bb, 0, none⟩ = some (.slice s.p s.n s.c) ∧ w'.cell? ⟨bb, 1, none⟩ = some (.slice t.p t.n t.c) ∧ w'.cell? ⟨bb, 2, none⟩ = some (.int .i64 c.un)) ∧ w'.cell? ⟨w.heap.size, 0, none⟩ = some (.int .i64 x) ∧ w'.cell? ⟨w.heap.size, 1, none⟩ = some (.int .i64 y)) :=
        fun bb _ w' h => ⟨h.bel, ⟨h.has.1.2.2.1, h.has.1.2.2.2.1, h.has.1.2.2.2.2.1⟩, h.has.2.1.2.2.1, h.has.2.1.2.2.2.1⟩
      have HS := Lib.hid (hS _ rfl)
      clear hC hkL hq hat hno hx hcl hS
      cases hv : reB b x y c
      all_goals
        go_wp2
        generalize hbb : wr.heap.size = bb at *
        go_region_held3 (fun w' => St w w' [(bb, [.slice s.p s.n s.c, .slice t.p t.n t.c, .int .i64 c.un]), (w.heap.size, [.int .i64 x, .int .i64 y])] ∧ (Below w.heap.size w w' ∧ (w'.cell? ⟨bb, 0, none⟩ = some (.slice s.p s.n s.c) ∧ w'.cell? ⟨bb, 1, none⟩ = some (.slice t.p t.n t.c) ∧ w'.cell? ⟨bb, 2, none⟩ = some (.int .i64 c.un)) ∧ w'.cell? ⟨w.heap.size, 0, none⟩ = some (.int .i64 x) ∧ w'.cell? ⟨w.heap.size, 1, none⟩ = some (.int .i64 y)))
          (first | exact ‹St _ _ _ ∧ _› | exact keepS HS.out ((‹St _ _ _ ∧ _›).1.step hb2) | exact keepS HS.out hs1.dr | fail)
          (first
            | (go_at_call 83; refine (cellsTo_any s t c.un b _).mono ?_; rintro e w1 ⟨rfl, hb2⟩)
            | (go_at_call 14; refine (HV.out _ _ hv (‹St _ _ _ ∧ _ ∧ _›).2.1).mono ?_; rintro e w1 ⟨rfl, hb2⟩))
        have hz := (‹St _ _ _ ∧ _ ∧ _›).1
        go_wp2
      · go_ret
        exact ⟨ret_bool (HNO.out hv).symm, hz.bel⟩
      · go_roundw
        case rel => exact ⟨k + 1, by omega, by go_num, by rw [HAT.out, hall.out, hv]; exact rfl, hz.sub (by simp)⟩
        case measure => simp [intOf]; omega
    · obtain rfl : k = n := by omega
      have HF : Hid ((cls QL).all (reB b x y) = true) := by
        have h := hall.out
        rw [List.take_of_length_le (by rw [cls_len, HN.out.1]; exact Nat.le_refl _)] at h
        exact h
      go_wp2
      go_ret
      exact ⟨ret_bool HF.out.symm, hst.bel⟩
def laB (now : Int) (c : Cl) : Bool := decide (now < c.un)
set_option maxHeartbeats 2000000 in
theorem last_any (now : Int) (p : Option Addr) (cap n : Nat) (QL : List CQ) (hn : QL.length = n) (hb0 : n ≤ 10000000) (w : World) (hR : RdS w p QL) :
    Calls Tryz.prog 44 #[.slice p n cap, .int .i64 now] w fun e w' => e = .returned (.bool ((cls QL).all (laB now))) ∧ Below w.heap.size w w' := by
  have HN : Hid (QL.length = n ∧ RdS w p QL) := ⟨hn, hR⟩
  clear hn hR
  go_enter Tryz.func44, Tryz.ntmps44
  go_wp2
  go_loopw [9] (fun i wr => ∃ k : Nat, k ≤ n ∧ i = .int .i64 k ∧ Hid (((cls QL).take k).all (laB now) = true) ∧ Below w.heap.size w wr) (fun i _ => n - (intOf i).toNat)
  case atStart => exact ⟨0, by omega, rfl, rfl, Below.refl _ _⟩
  case round =>
    obtain ⟨k, hk, rfl, hall, hb⟩ := hrel
    by_cases hlt : k < n
    · have hki : (k : Int) < n := by omega
      have hkL : k < QL.length := by rw [HN.out.1]; exact hlt
      obtain ⟨g, off, rfl, hC⟩ := (HN.out.2.1.step hb).at hkL
      obtain ⟨c0, c1, c2⟩ := hC.q3 (getQ hkL)
      have hat := all_takeF (f := laB now) hkL
      have hno := all_noF (f := laB now) hkL
      obtain ⟨⟨c, s, t⟩, hx⟩ : ∃ x : CQ, QL.getD k zq = x := ⟨_, rfl⟩
      rw [hx] at c0 c1 c2 hat hno
      simp only at c0 c1 c2 hat hno
      have HAT := Lib.hid hat
      have HNO := Lib.hid hno
      clear hC hkL hat hno hx
      by_cases hu : c.un ≤ now
      · go_wp2
        go_ret
        exact ⟨ret_bool (HNO.out (decide_eq_false (by omega))).symm, hb.alloc hb.size _⟩
      · go_wp2
        go_roundw
        case rel => exact ⟨k + 1, by omega, by go_num, by rw [HAT.out, hall.out, laB, decide_eq_true (by omega)]; exact rfl, hb.alloc hb.size _⟩
        case measure => simp [intOf]; omega
    · obtain rfl : k = n := by omega
      have HF : Hid ((cls QL).all (laB now) = true) := by
        have h := hall.out
        rw [List.take_of_length_le (by rw [cls_len, HN.out.1]; exact Nat.le_refl _)] at h
        exact h
      go_wp2
      go_ret
      exact ⟨ret_bool HF.out.symm, hb⟩
end Go.Proofs.YtbkiogedipmioaaGreat
