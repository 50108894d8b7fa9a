/-
  Allows: the program's and the spec's.
-/
import Derived.Test.YtbkiogedipmioaaGreatVPA
namespace Go.Proofs.YtbkiogedipmioaaGreat.V
open Go.RowKit Go.Joins M
attribute [local go_sem] Oper.semAt_some

theorem SlG.ms {w : World} {p : Option Addr} {L : List T3} (h : SlG kC w p L) : Sl w p L := by
  rcases h with h | ⟨g, off, h1, h2⟩
  · exact .inl h
  · exact .inr ⟨g, off, h1, h2.1, fun k c hk => h2.c3 hk⟩
/-- The list for reading or for writing. -/
def sdV (b : Bool) (s t : Sv) : Sv := bif b then t else s
def sdL (b : Bool) (c : Cl) : List T3 := bif b then c.wr else c.rd
theorem RdQ.sd {W : World} {c : Cl} {s t : Sv} (h : RdQ W c s t) (b : Bool) : SlG kC W (sdV b s t).p (sdL b c) ∧ (sdL b c).length = (sdV b s t).n ∧ (sdV b s t).n ≤ 10000000 := by
  cases b
  · exact ⟨h.r1, h.n1, h.b1⟩
  · exact ⟨h.r2, h.n2, h.b2⟩
theorem sdL_ok {c : Cl} (h : clB c = true) (b : Bool) : (sdL b c).length ≤ 8 ∧ okL (sdL b c) = true := by
  obtain ⟨_, h2, h3⟩ := clB_t h
  unfold ofB at h2 h3
  rw [Bool.and_eq_true, decide_eq_true_iff] at h2 h3
  cases b
  · exact h2
  · exact h3
theorem cellsTo_any (s t : Sv) (u : Int) (b : Bool) (w : World) :
    Calls Tryz.prog 83 #[.agg #[.slice s.p s.n s.c, .slice t.p t.n t.c, .int .i64 u], .bool b] w fun e w' => e = .returned (.slice (sdV b s t).p (sdV b s t).n (sdV b s t).c) ∧ Below w.heap.size w w' := by
  have hst := (St.nil w).push [.slice s.p s.n s.c, .slice t.p t.n t.c, .int .i64 u] 110
  cases b
  all_goals
    go_enter Tryz.func83, Tryz.ntmps83
    go_wp2
    go_ret
    exact ⟨rfl, hst.bel⟩
/-- Do a Clause's Cells reach the Spot? -/
def reB (b : Bool) (x y : Int) (c : Cl) : Bool := reachI (sdL b c) x y
theorem iReach_v {c : Cl} {s t : Sv} {b : Bool} {x y : Int} {v : Bool} (hv : reB b x y c = v) (hc : clB c = true) (w : World) (hR : RdQ w c s t) :
    Calls Tryz.prog 14 #[.slice (sdV b s t).p (sdV b s t).n (sdV b s t).c, .agg #[.int .i64 x, .int .i64 y]] w fun e w' => e = .returned (.bool v) ∧ Below w.heap.size w w' := by
  obtain ⟨h1, h2, _⟩ := hR.sd b
  have h8 := (sdL_ok hc b).1
  have := M.iReaches_v hv (sdV b s t).p (sdV b s t).c w h1.ms (by omega)
  rw [h2] at this
  exact this
theorem all_takeF {f : Cl → Bool} {QL : List CQ} {k : Nat} (hk : k < QL.length) : ((cls QL).take (k + 1)).all f = (((cls QL).take k).all f && f (QL.getD k zq).1) := by
  rw [List.take_add_one, cls_get hk, List.all_append]; simp
theorem all_noF {f : Cl → Bool} {QL : List CQ} {k : Nat} (hk : k < QL.length) (h : f (QL.getD k zq).1 = false) : (cls QL).all f = false := by
  rw [Bool.eq_false_iff]; intro h2; rw [List.all_eq_true] at h2; have := h2 _ (List.mem_of_getElem? (cls_get hk)); rw [h] at this; cases this
set_option maxRecDepth 100000 in
set_option maxHeartbeats 2000000 in
theorem reach_any (x y : Int) (b : Bool) (p : Option Addr) (cap n : Nat) (QL : List CQ) (hn : QL.length = n) (hb0 : n ≤ 10000000) (hcl : (cls QL).all clB = true) (w : World) (hR : RdS w p QL) :
    Calls Tryz.prog 45 #[.slice p n cap, .agg #[.int .i64 x, .int .i64 y], .bool b] w fun e w' => e = .returned (.bool ((cls QL).all (reB b x y))) ∧ Below w.heap.size w w' := by
  have hs0 := (St.nil w).push [.int .i64 x, .int .i64 y] 40
  have HN : Hid (QL.length = n ∧ RdS w p QL ∧ (cls QL).all clB = true) := ⟨hn, hR, hcl⟩
  clear hn hR hcl
  go_enter Tryz.func45, Tryz.ntmps45
  go_wp2
  go_loopw [11] (fun i wr => ∃ k : Nat, k ≤ n ∧ i = .int .i64 k ∧ Hid (((cls QL).take k).all (reB b x y) = true) ∧ St w wr [(w.heap.size, [.int .i64 x, .int .i64 y])]) (fun i _ => n - (intOf i).toNat)
  case atStart => exact ⟨0, by omega, rfl, rfl, hs0⟩
  case round =>
    clear hs0
    obtain ⟨k, hk, rfl, hall, hst⟩ := hrel
    by_cases hlt : k < n
    · have hki : (k : Int) < n := by omega
      have hkL : k < QL.length := by rw [HN.out.1]; exact hlt
      obtain ⟨g, off, rfl, hC⟩ := (HN.out.2.1.1.step hst.bel).at hkL
      obtain ⟨c0, c1, c2⟩ := hC.q3 (getQ hkL)
      have hq := HN.out.2.1.2 _ (List.mem_of_getElem? (getQ hkL))
      have hcl : clB (QL.getD k zq).1 = true := List.all_eq_true.mp HN.out.2.2 _ (List.mem_of_getElem? (cls_get hkL))
      have hat := all_takeF (f := reB b x y) hkL
      have hno := all_noF (f := reB b x y) hkL
      obtain ⟨⟨c, s, t⟩, hx⟩ : ∃ x : CQ, QL.getD k zq = x := ⟨_, rfl⟩
      rw [hx] at c0 c1 c2 hq hat hno hcl
      simp only at c0 c1 c2 hq hat hno hcl
      have HAT := Lib.hid hat
      have HNO := Lib.hid hno
      have HV : Hid (∀ v W, reB b x y c = v → Below w.heap.size w W → Calls Tryz.prog 14 #[.slice (sdV b s t).p (sdV b s t).n (sdV b s t).c, .agg #[.int .i64 x, .int .i64 y]] W fun e w' => e = .returned (.bool v) ∧ Below W.heap.size W w') := fun v W hv h => iReach_v hv hcl W (hq.step h)
      have hs1 := hst.push [.slice s.p s.n s.c, .slice t.p t.n t.c, .int .i64 c.un] 110
      have hS : ∀ bb, wr.heap.size = bb → ∀ w', St w w' [(bb, [.slice s.p s.n s.c, .slice t.p t.n t.c, .int .i64 c.un]), (w.heap.size, [.int .i64 x, .int .i64 y])] → (Below w.heap.size w w' ∧ (w'.cell? ⟨bb, 0, none⟩ = some (.slice s.p s.n s.c) ∧ w'.cell? ⟨bb, 1, none⟩ = some (.slice t.p t.n t.c) ∧ w'.cell? ⟨bb, 2, none⟩ = some (.int .i64 c.un)) ∧ w'.cell? ⟨w.heap.size, 0, none⟩ = some (.int .i64 x) ∧ w'.cell? ⟨w.heap.size, 1, none⟩ = some (.int .i64 y)) :=
        fun bb _ w' h => ⟨h.bel, ⟨h.has.1.2.2.1, h.has.1.2.2.2.1, h.has.1.2.2.2.2.1⟩, h.has.2.1.2.2.1, h.has.2.1.2.2.2.1⟩
      have HS := Lib.hid (hS _ rfl)
      clear hC hkL hq hat hno hx hcl hS
      cases hv : reB b x y c
      all_goals
        go_wp2
        generalize hbb : wr.heap.size = bb at *
        go_region_held3 (fun w' => St w w' [(bb, [.slice s.p s.n s.c, .slice t.p t.n t.c, .int .i64 c.un]), (w.heap.size, [.int .i64 x, .int .i64 y])] ∧ (Below w.heap.size w w' ∧ (w'.cell? ⟨bb, 0, none⟩ = some (.slice s.p s.n s.c) ∧ w'.cell? ⟨bb, 1, none⟩ = some (.slice t.p t.n t.c) ∧ w'.cell? ⟨bb, 2, none⟩ = some (.int .i64 c.un)) ∧ w'.cell? ⟨w.heap.size, 0, none⟩ = some (.int .i64 x) ∧ w'.cell? ⟨w.heap.size, 1, none⟩ = some (.int .i64 y)))
          (first | exact ‹St _ _ _ ∧ _› | exact keepS HS.out ((‹St _ _ _ ∧ _›).1.step hb2) | exact keepS HS.out hs1.dr | fail)
          (first
            | (go_at_call 83; refine (cellsTo_any s t c.un b _).mono ?_; rintro e w1 ⟨rfl, hb2⟩)
            | (go_at_call 14; refine (HV.out _ _ hv (‹St _ _ _ ∧ _ ∧ _›).2.1).mono ?_; rintro e w1 ⟨rfl, hb2⟩))
        have hz := (‹St _ _ _ ∧ _ ∧ _›).1
        go_wp2
      · go_ret
        exact ⟨ret_bool (HNO.out hv).symm, hz.bel⟩
      · go_roundw
        case rel => exact ⟨k + 1, by omega, by go_num, by rw [HAT.out, hall.out, hv]; exact rfl, hz.sub (by simp)⟩
        case measure => simp [intOf]; omega
    · obtain rfl : k = n := by omega
      have HF : Hid ((cls QL).all (reB b x y) = true) := by
        have h := hall.out
        rw [List.take_of_length_le (by rw [cls_len, HN.out.1]; exact Nat.le_refl _)] at h
        exact h
      go_wp2
      go_ret
      exact ⟨ret_bool HF.out.symm, hst.bel⟩
def laB (now : Int) (c : Cl) : Bool := decide (now < c.un)
set_option maxHeartbeats 2000000 in
theorem last_any (now : Int) (p : Option Addr) (cap n : Nat) (QL : List CQ) (hn : QL.length = n) (hb0 : n ≤ 10000000) (w : World) (hR : RdS w p QL) :
    Calls Tryz.prog 44 #[.slice p n cap, .int .i64 now] w fun e w' => e = .returned (.bool ((cls QL).all (laB now))) ∧ Below w.heap.size w w' := by
  have HN : Hid (QL.length = n ∧ RdS w p QL) := ⟨hn, hR⟩
  clear hn hR
  go_enter Tryz.func44, Tryz.ntmps44
  go_wp2
  go_loopw [9] (fun i wr => ∃ k : Nat, k ≤ n ∧ i = .int .i64 k ∧ Hid (((cls QL).take k).all (laB now) = true) ∧ Below w.heap.size w wr) (fun i _ => n - (intOf i).toNat)
  case atStart => exact ⟨0, by omega, rfl, rfl, Below.refl _ _⟩
  case round =>
    obtain ⟨k, hk, rfl, hall, hb⟩ := hrel
    by_cases hlt : k < n
    · have hki : (k : Int) < n := by omega
      have hkL : k < QL.length := by rw [HN.out.1]; exact hlt
      obtain ⟨g, off, rfl, hC⟩ := (HN.out.2.1.step hb).at hkL
      obtain ⟨c0, c1, c2⟩ := hC.q3 (getQ hkL)
      have hat := all_takeF (f := laB now) hkL
      have hno := all_noF (f := laB now) hkL
      obtain ⟨⟨c, s, t⟩, hx⟩ : ∃ x : CQ, QL.getD k zq = x := ⟨_, rfl⟩
      rw [hx] at c0 c1 c2 hat hno
      simp only at c0 c1 c2 hat hno
      have HAT := Lib.hid hat
      have HNO := Lib.hid hno
      clear hC hkL hat hno hx
      by_cases hu : c.un ≤ now
      · go_wp2
        go_ret
        exact ⟨ret_bool (HNO.out (decide_eq_false (by omega))).symm, hb.alloc hb.size _⟩
      · go_wp2
        go_roundw
        case rel => exact ⟨k + 1, by omega, by go_num, by rw [HAT.out, hall.out, laB, decide_eq_true (by omega)]; exact rfl, hb.alloc hb.size _⟩
        case measure => simp [intOf]; omega
    · obtain rfl : k = n := by omega
      have HF : Hid ((cls QL).all (laB now) = true) := by
        have h := hall.out
        rw [List.take_of_length_le (by rw [cls_len, HN.out.1]; exact Nat.le_refl _)] at h
        exact h
      go_wp2
      go_ret
      exact ⟨ret_bool HF.out.symm, hb⟩
end Go.Proofs.YtbkiogedipmioaaGreat.V
namespace Go.Proofs.YtbkiogedipmioaaGreat.V
open Go.RowKit Go.Joins M
attribute [local go_sem] Oper.semAt_some

/-- What a Paper allows. -/
def alB (tn : Int) (L : List Cl) (tag x y : Int) (b : Bool) (now : Int) : Bool := ppB tn L tag && (timeB now && (L.all (laB now) && L.all (reB b x y)))
set_option maxRecDepth 100000 in
set_option maxHeartbeats 2000000 in
theorem iAllows_v {tn tag x y now : Int} {b v : Bool} {p : Option Addr} {cap n : Nat} {QL : List CQ} (hv : alB tn (cls QL) tag x y b now = v) (hn : QL.length = n) (hb0 : n ≤ 10000000) (w : World) (hR : RdS w p QL) :
    Calls Tryz.prog 12 #[.agg #[.int .i64 tn, .slice p n cap, .int .i64 tag], .agg #[.int .i64 x, .int .i64 y], .bool b, .int .i64 now] w fun e w' => e = .returned (.bool v) ∧ Below w.heap.size w w' := by
  have hst := ((St.nil w).push [.int .i64 tn, .slice p n cap, .int .i64 tag] 26).push [.int .i64 x, .int .i64 y] 40
  simp only [World.size_alloc] at hst
  have H1 : Hid (∀ W v, ppB tn (cls QL) tag = v → Below w.heap.size w W → Calls Tryz.prog 33 #[.agg #[.slice p n cap, .int .i64 tn, .int .i64 tag]] W fun e w' => e = .returned (.bool v) ∧ Below W.heap.size W w') := fun W v hv h => iPaper_v hv hn hb0 W (hR.step h)
  have H2 : Hid (∀ W v, (cls QL).all (laB now) = v → Below w.heap.size w W → Calls Tryz.prog 44 #[.slice p n cap, .int .i64 now] W fun e w' => e = .returned (.bool v) ∧ Below W.heap.size W w') := fun W v hv h => hv ▸ last_any now p cap n QL hn hb0 W (hR.step h)
  have H3 : Hid (∀ W v, (cls QL).all clB = true → (cls QL).all (reB b x y) = v → Below w.heap.size w W → Calls Tryz.prog 45 #[.slice p n cap, .agg #[.int .i64 x, .int .i64 y], .bool b] W fun e w' => e = .returned (.bool v) ∧ Below W.heap.size W w') := fun W v hc hv h => hv ▸ reach_any x y b p cap n QL hn hb0 hc W (hR.step h)
  clear hn hR
  unfold alB at hv
  have f0 : True := trivial
  cases h1 : ppB tn (cls QL) tag
  · rw [h1, Bool.false_and] at hv
    subst hv
    go_enter Tryz.func12, Tryz.ntmps12
    go_wp2_with (first
      | (go_at_call 32; refine (heldAs_any tn tag p n cap _).mono ?_; rintro e w1 ⟨rfl, hb1⟩; have hs1 := hst.step hb1; have hs2 := hs1.push [.slice p n cap, .int .i64 tn, .int .i64 tag] 71)
      | (go_at_call 33; refine (H1.out _ _ h1 hs2.bel).mono ?_; rintro e w2 ⟨rfl, hb2⟩))
    go_ret
    exact ⟨rfl, (hs2.step hb2).bel⟩
  have hcl : (cls QL).all clB = true := (ppB_t h1).2.2.1
  rw [h1, Bool.true_and] at hv
  cases h2 : timeB now
  · rw [h2, Bool.false_and] at hv
    subst hv
    go_enter Tryz.func12, Tryz.ntmps12
    go_wp2_with (first
      | (go_at_call 32; refine (heldAs_any tn tag p n cap _).mono ?_; rintro e w1 ⟨rfl, hb1⟩; have hs1 := hst.step hb1; have hs2 := hs1.push [.slice p n cap, .int .i64 tn, .int .i64 tag] 71)
      | (go_at_call 33; refine (H1.out _ _ h1 hs2.bel).mono ?_; rintro e w2 ⟨rfl, hb2⟩; have hs3 := hs2.step hb2; have hk := hs3.has; simp [Has, HasAt] at hk)
      | (go_at_call 34; refine (isTime_v h2 _).mono ?_; rintro e w3 ⟨rfl, hw3⟩; obtain rfl := hw3.symm))
    go_ret
    exact ⟨rfl, hs3.bel⟩
  rw [h2, Bool.true_and] at hv
  cases h3 : (cls QL).all (laB now)
  · rw [h3, Bool.false_and] at hv
    subst hv
    go_enter Tryz.func12, Tryz.ntmps12
    go_wp2_with (first
      | (go_at_call 32; refine (heldAs_any tn tag p n cap _).mono ?_; rintro e w1 ⟨rfl, hb1⟩; have hs1 := hst.step hb1; have hs2 := hs1.push [.slice p n cap, .int .i64 tn, .int .i64 tag] 71)
      | (go_at_call 33; refine (H1.out _ _ h1 hs2.bel).mono ?_; rintro e w2 ⟨rfl, hb2⟩; have hs3 := hs2.step hb2; have hk := hs3.has; simp [Has, HasAt] at hk)
      | (go_at_call 34; refine (isTime_v h2 _).mono ?_; rintro e w3 ⟨rfl, hw3⟩; obtain rfl := hw3.symm)
      | (go_at_call 44; refine (H2.out _ _ h3 hs3.bel).mono ?_; rintro e w4 ⟨rfl, hb4⟩; have hs4 := hs3.step hb4; clear hk; have hk := hs4.has; simp [Has, HasAt] at hk))
    go_ret
    exact ⟨rfl, hs4.bel⟩
  rw [h3, Bool.true_and] at hv
  go_enter Tryz.func12, Tryz.ntmps12
  go_wp2_with (first
    | (go_at_call 32; refine (heldAs_any tn tag p n cap _).mono ?_; rintro e w1 ⟨rfl, hb1⟩; have hs1 := hst.step hb1; have hs2 := hs1.push [.slice p n cap, .int .i64 tn, .int .i64 tag] 71)
    | (go_at_call 33; refine (H1.out _ _ h1 hs2.bel).mono ?_; rintro e w2 ⟨rfl, hb2⟩; have hs3 := hs2.step hb2; have hk := hs3.has; simp [Has, HasAt] at hk)
    | (go_at_call 34; refine (isTime_v h2 _).mono ?_; rintro e w3 ⟨rfl, hw3⟩; obtain rfl := hw3.symm)
    | (go_at_call 44; refine (H2.out _ _ h3 hs3.bel).mono ?_; rintro e w4 ⟨rfl, hb4⟩; have hs4 := hs3.step hb4; clear hk; have hk := hs4.has; simp [Has, HasAt] at hk)
    | (go_at_call 45; refine (H3.out _ _ hcl hv hs4.bel).mono ?_; rintro e w5 ⟨rfl, hb5⟩; have hs5 := hs4.step hb5))
  go_ret
  exact ⟨rfl, hs5.bel⟩

theorem reB_inC {c : Cl} {b : Bool} {x y : Int} (hc : clB c = true) (hs : spB x y = true) : reB b x y c = (sdL b c).any fun d => inC d x y := by
  unfold reB reachI
  have h := (sdL_ok hc b).2
  rw [h, hs, Bool.true_and, Bool.true_and]
  exact any_ins8 h hs
theorem alB_no {tn : Int} {L : List Cl} {tag x y now : Int} {b : Bool} (hs : spB x y = false) : alB tn L tag x y b now = false := by
  unfold alB
  cases h1 : ppB tn L tag
  · rfl
  · obtain ⟨_, h2, _, _⟩ := ppB_t h1
    match L, h2 with
    | c :: t, _ =>
      have : reB b x y c = false := by unfold reB reachI; rw [hs, Bool.and_false, Bool.false_and]
      simp [this]
theorem all_both {L : List Cl} {f g : Cl → Bool} : (L.all f && L.all g) = L.all fun c => f c && g c := by
  induction L with
  | nil => rfl
  | cons a t ih => simp only [List.all_cons, ← ih]; cases f a <;> cases g a <;> simp
theorem sReach_v {c : Cl} {s t : Sv} {b : Bool} {x y : Int} {v : Bool} (hv : reB b x y c = v) (hc : clB c = true) (hs : spB x y = true) (w : World) (hR : RdQ w c s t) :
    Calls Tryz.prog 82 #[.slice (sdV b s t).p (sdV b s t).n (sdV b s t).c, .agg #[.int .i64 x, .int .i64 y]] w fun e w' => e = .returned (.bool v) ∧ Below w.heap.size w w' := by
  obtain ⟨h1, h2, _⟩ := hR.sd b
  have h8 := (sdL_ok hc b).1
  rw [reB_inC hc hs] at hv
  have := M.l3Reaches_v hv (sdV b s t).p (sdV b s t).c w h1.ms (by omega) (okL_t (sdL_ok hc b).2)
  rw [h2] at this
  exact this
theorem sIn100_v {n : Int} {v : Bool} (hv : timeB n = v) (w : World) : Calls Tryz.prog 37 #[.int .i64 n, .int .i64 0, .int .i64 100000] w fun e w' => e = .returned (.bool v) ∧ w' = w := sTime_v hv w
set_option maxRecDepth 100000 in
set_option maxHeartbeats 4000000 in
theorem sAllows_v {tn tag x y now : Int} {b v : Bool} {p : Option Addr} {cap n : Nat} {QL : List CQ} (hv : alB tn (cls QL) tag x y b now = v) (hn : QL.length = n) (hb0 : n ≤ 10000000) (w : World) (hR : RdS w p QL) :
    Calls Tryz.prog 39 #[.agg #[.int .i64 tn, .slice p n cap, .int .i64 tag], .agg #[.int .i64 x, .int .i64 y], .bool b, .int .i64 now] w fun e w' => e = .returned (.bool v) ∧ Below w.heap.size w w' := by
  have hst := ((St.nil w).push [.int .i64 tn, .slice p n cap, .int .i64 tag] 26).push [.int .i64 x, .int .i64 y] 40
  simp only [World.size_alloc] at hst
  have H1 : Hid (∀ W v, ppB tn (cls QL) tag = v → Below w.heap.size w W → Calls Tryz.prog 36 #[.agg #[.int .i64 tn, .slice p n cap, .int .i64 tag]] W fun e w' => e = .returned (.bool v) ∧ Below W.heap.size W w') := fun W v hv h => sPaper_v hv hn hb0 W (hR.step h)
  have HN : Hid (QL.length = n ∧ RdS w p QL) := ⟨hn, hR⟩
  clear hn hR
  cases h1 : ppB tn (cls QL) tag
  · obtain rfl : v = false := by rw [← hv]; unfold alB; rw [h1, Bool.false_and]
    clear hv
    go_enter Tryz.func39, Tryz.ntmps39
    go_wp2_with (go_at_call 36; refine (H1.out _ _ h1 hst.bel).mono ?_; rintro e w2 ⟨rfl, hb2⟩)
    go_ret
    exact ⟨rfl, (hst.step hb2).bel⟩
  have hcl : (cls QL).all clB = true := (ppB_t h1).2.2.1
  cases h2 : spB x y
  · obtain rfl : v = false := by rw [← hv]; exact alB_no h2
    clear hv
    go_enter Tryz.func39, Tryz.ntmps39
    go_wp2_with (first
      | (go_at_call 36; refine (H1.out _ _ h1 hst.bel).mono ?_; rintro e w2 ⟨rfl, hb2⟩; have hs2 := hst.step hb2; have hk := hs2.has; simp [Has, HasAt] at hk)
      | (go_at_call 81; refine (M.sSpot_v h2 _).mono ?_; rintro e w3 ⟨rfl, hb3⟩))
    go_ret
    exact ⟨rfl, (hs2.step hb3).bel⟩
  cases h3 : timeB now
  · obtain rfl : v = false := by rw [← hv]; unfold alB; rw [h3, Bool.false_and, Bool.and_false]
    clear hv
    go_enter Tryz.func39, Tryz.ntmps39
    go_wp2_with (first
      | (go_at_call 36; refine (H1.out _ _ h1 hst.bel).mono ?_; rintro e w2 ⟨rfl, hb2⟩; have hs2 := hst.step hb2; have hk := hs2.has; simp [Has, HasAt] at hk)
      | (go_at_call 81; refine (M.sSpot_v h2 _).mono ?_; rintro e w3 ⟨rfl, hb3⟩; have hs3 := hs2.step hb3)
      | (go_at_call 37; refine (sIn100_v h3 _).mono ?_; rintro e w4 ⟨rfl, hw4⟩; obtain rfl := hw4.symm))
    go_ret
    exact ⟨rfl, hs3.bel⟩
  have HE : Hid (v = (cls QL).all fun c => laB now c && reB b x y c) := by
    rw [← hv]; unfold alB; rw [h1, h3, Bool.true_and, Bool.true_and]; exact all_both
  have HC : Hid ((cls QL).all clB = true) := hcl
  clear hv hcl
  go_enter Tryz.func39, Tryz.ntmps39
  go_wp2_with (first
    | (go_at_call 36; refine (H1.out _ _ h1 hst.bel).mono ?_; rintro e w2 ⟨rfl, hb2⟩; have hs2 := hst.step hb2; have hk := hs2.has; simp [Has, HasAt] at hk)
    | (go_at_call 81; refine (M.sSpot_v h2 _).mono ?_; rintro e w3 ⟨rfl, hb3⟩; have hs3 := hs2.step hb3)
    | (go_at_call 37; refine (sIn100_v h3 _).mono ?_; rintro e w4 ⟨rfl, hw4⟩; obtain rfl := hw4.symm))
  go_loopw [9, 10] (fun i _ wr => ∃ k : Nat, k ≤ n ∧ i = .int .i64 k ∧ Hid (((cls QL).take k).all (fun c => laB now c && reB b x y c) = true) ∧ St w wr [(w.heap.size + 1, [.int .i64 x, .int .i64 y]), (w.heap.size, [.int .i64 tn, .slice p n cap, .int .i64 tag])]) (fun i _ _ => n - (intOf i).toNat)
  case atStart => exact ⟨0, by omega, rfl, rfl, hs3⟩
  case round =>
    clear hs2 hs3 hk hst
    obtain ⟨k, hkn, rfl, hall, hs⟩ := hrel
    have hk := hs.has
    simp [Has, HasAt] at hk
    have hb := hs.bel
    by_cases hlt : k < n
    · have hki : (k : Int) < n := by omega
      have hkL : k < QL.length := by rw [HN.out.1]; exact hlt
      obtain ⟨g, off, rfl, hC⟩ := (HN.out.2.1.step hb).at hkL
      obtain ⟨c0, c1, c2⟩ := hC.q3 (getQ hkL)
      have hq := HN.out.2.2 _ (List.mem_of_getElem? (getQ hkL))
      have hcl : clB (QL.getD k zq).1 = true := List.all_eq_true.mp HC.out _ (List.mem_of_getElem? (cls_get hkL))
      have hat := all_takeF (f := fun c => laB now c && reB b x y c) hkL
      have hno := all_noF (f := fun c => laB now c && reB b x y c) hkL
      obtain ⟨⟨c, s, t⟩, hx⟩ : ∃ x : CQ, QL.getD k zq = x := ⟨_, rfl⟩
      rw [hx] at c0 c1 c2 hq hat hno hcl
      simp only at c0 c1 c2 hq hat hno hcl
      have HAT := Lib.hid hat
      have HNO := Lib.hid hno
      have HR : Hid (∀ W r, reB b x y c = r → Below w.heap.size w W → Calls Tryz.prog 82 #[.slice (sdV b s t).p (sdV b s t).n (sdV b s t).c, .agg #[.int .i64 x, .int .i64 y]] W fun e w' => e = .returned (.bool r) ∧ Below W.heap.size W w') := fun W r hr h => sReach_v hr hcl h2 W (hq.step h)
      clear hC hkL hq hat hno hx hcl
      by_cases hu : c.un ≤ now
      · have hl : laB now c = false := decide_eq_false (by omega)
        cases b
        all_goals
          go_wp2
          go_ret
          exact ⟨ret_bool (by rw [HE.out, HNO.out (by rw [hl]; rfl)]), hb⟩
      · have hl : laB now c = true := decide_eq_true (by omega)
        cases hr : reB b x y c
        · cases b
          all_goals
            go_wp2_with (go_at_call 82; refine (HR.out _ _ hr hb).mono ?_; rintro e w5 ⟨rfl, hb5⟩)
            go_ret
            exact ⟨ret_bool (by rw [HE.out, HNO.out (by rw [hl, hr]; rfl)]), (hs.step hb5).bel⟩
        · cases b
          all_goals
            go_wp2_with (go_at_call 82; refine (HR.out _ _ hr hb).mono ?_; rintro e w5 ⟨rfl, hb5⟩)
            go_roundw
            case rel => exact ⟨k + 1, by omega, by go_num, by rw [HAT.out, hall.out, hl, hr]; exact rfl, hs.step hb5⟩
            case measure => simp [intOf]; omega
    · obtain rfl : k = n := by omega
      have HF : Hid (v = true) := by
        have h := hall.out
        rw [List.take_of_length_le (by rw [cls_len, HN.out.1]; exact Nat.le_refl _)] at h
        rw [HE.out]; exact h
      go_wp2
      go_ret
      exact ⟨ret_bool HF.out.symm, hb⟩
end Go.Proofs.YtbkiogedipmioaaGreat.V
