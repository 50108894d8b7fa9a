/-
  Allows: the program's and the spec's.
-/
import Derived.Test.YtkinbgcnenieeaaGreatDoorAL1
namespace Go.Proofs.YtkinbgcnenieeaaGreatDoor
open Go.RowKit Go.Joins M
attribute [local go_sem] Oper.semAt_some

/-- What a Paper allows. -/
def alB (tn : Int) (L : List Cl) (tag x y : Int) (b : Bool) (now : Int) : Bool := ppB tn L tag && (timeB now && (L.all (laB now) && L.all (reB b x y)))
set_option maxRecDepth 100000 in
set_option maxHeartbeats 2000000 in
theorem iAllows_v {tn tag x y now : Int} {b v : Bool} {p : Option Addr} {cap n : Nat} {QL : List CQ} (hv : alB tn (cls QL) tag x y b now = v) (hn : QL.length = n) (hb0 : n ≤ 10000000) (w : World) (hR : RdS w p QL) :
    Calls Tryz.prog 18 #[.agg #[.int .i64 tn, .slice p n cap, .int .i64 tag], .agg #[.int .i64 x, .int .i64 y], .bool b, .int .i64 now] w fun e w' => e = .returned (.bool v) ∧ Below w.heap.size w w' := by
  have hst := ((St.nil w).push [.int .i64 tn, .slice p n cap, .int .i64 tag] 26).push [.int .i64 x, .int .i64 y] 43
  simp only [World.size_alloc] at hst
  have H1 : Hid (∀ W v, ppB tn (cls QL) tag = v → Below w.heap.size w W → Calls Tryz.prog 25 #[.agg #[.slice p n cap, .int .i64 tn, .int .i64 tag]] W fun e w' => e = .returned (.bool v) ∧ Below W.heap.size W w') := fun W v hv h => iPaper_v hv hn hb0 W (hR.step h)
  have H2 : Hid (∀ W v, (cls QL).all (laB now) = v → Below w.heap.size w W → Calls Tryz.prog 49 #[.slice p n cap, .int .i64 now] W fun e w' => e = .returned (.bool v) ∧ Below W.heap.size W w') := fun W v hv h => hv ▸ last_any now p cap n QL hn hb0 W (hR.step h)
  have H3 : Hid (∀ W v, (cls QL).all clB = true → (cls QL).all (reB b x y) = v → Below w.heap.size w W → Calls Tryz.prog 50 #[.slice p n cap, .agg #[.int .i64 x, .int .i64 y], .bool b] W fun e w' => e = .returned (.bool v) ∧ Below W.heap.size W w') := fun W v hc hv h => hv ▸ reach_any x y b p cap n QL hn hb0 hc W (hR.step h)
  clear hn hR
  unfold alB at hv
  have f0 : True := trivial
  cases h1 : ppB tn (cls QL) tag
  · rw [h1, Bool.false_and] at hv
    subst hv
    go_enter Tryz.func18, Tryz.ntmps18
    go_wp2_with (first
      | (go_at_call 23; refine (heldAs_any tn tag p n cap _).mono ?_; rintro e w1 ⟨rfl, hb1⟩; have hs1 := hst.step hb1; have hs2 := hs1.push [.slice p n cap, .int .i64 tn, .int .i64 tag] 53)
      | (go_at_call 25; refine (H1.out _ _ h1 hs2.bel).mono ?_; rintro e w2 ⟨rfl, hb2⟩))
    go_ret
    exact ⟨rfl, (hs2.step hb2).bel⟩
  have hcl : (cls QL).all clB = true := (ppB_t h1).2.2.1
  rw [h1, Bool.true_and] at hv
  cases h2 : timeB now
  · rw [h2, Bool.false_and] at hv
    subst hv
    go_enter Tryz.func18, Tryz.ntmps18
    go_wp2_with (first
      | (go_at_call 23; refine (heldAs_any tn tag p n cap _).mono ?_; rintro e w1 ⟨rfl, hb1⟩; have hs1 := hst.step hb1; have hs2 := hs1.push [.slice p n cap, .int .i64 tn, .int .i64 tag] 53)
      | (go_at_call 25; refine (H1.out _ _ h1 hs2.bel).mono ?_; rintro e w2 ⟨rfl, hb2⟩; have hs3 := hs2.step hb2; have hk := hs3.has; simp [Has, HasAt] at hk)
      | (go_at_call 48; refine (isTime_v h2 _).mono ?_; rintro e w3 ⟨rfl, hw3⟩; obtain rfl := hw3.symm))
    go_ret
    exact ⟨rfl, hs3.bel⟩
  rw [h2, Bool.true_and] at hv
  cases h3 : (cls QL).all (laB now)
  · rw [h3, Bool.false_and] at hv
    subst hv
    go_enter Tryz.func18, Tryz.ntmps18
    go_wp2_with (first
      | (go_at_call 23; refine (heldAs_any tn tag p n cap _).mono ?_; rintro e w1 ⟨rfl, hb1⟩; have hs1 := hst.step hb1; have hs2 := hs1.push [.slice p n cap, .int .i64 tn, .int .i64 tag] 53)
      | (go_at_call 25; refine (H1.out _ _ h1 hs2.bel).mono ?_; rintro e w2 ⟨rfl, hb2⟩; have hs3 := hs2.step hb2; have hk := hs3.has; simp [Has, HasAt] at hk)
      | (go_at_call 48; refine (isTime_v h2 _).mono ?_; rintro e w3 ⟨rfl, hw3⟩; obtain rfl := hw3.symm)
      | (go_at_call 49; refine (H2.out _ _ h3 hs3.bel).mono ?_; rintro e w4 ⟨rfl, hb4⟩; have hs4 := hs3.step hb4; clear hk; have hk := hs4.has; simp [Has, HasAt] at hk))
    go_ret
    exact ⟨rfl, hs4.bel⟩
  rw [h3, Bool.true_and] at hv
  go_enter Tryz.func18, Tryz.ntmps18
  go_wp2_with (first
    | (go_at_call 23; refine (heldAs_any tn tag p n cap _).mono ?_; rintro e w1 ⟨rfl, hb1⟩; have hs1 := hst.step hb1; have hs2 := hs1.push [.slice p n cap, .int .i64 tn, .int .i64 tag] 53)
    | (go_at_call 25; refine (H1.out _ _ h1 hs2.bel).mono ?_; rintro e w2 ⟨rfl, hb2⟩; have hs3 := hs2.step hb2; have hk := hs3.has; simp [Has, HasAt] at hk)
    | (go_at_call 48; refine (isTime_v h2 _).mono ?_; rintro e w3 ⟨rfl, hw3⟩; obtain rfl := hw3.symm)
    | (go_at_call 49; refine (H2.out _ _ h3 hs3.bel).mono ?_; rintro e w4 ⟨rfl, hb4⟩; have hs4 := hs3.step hb4; clear hk; have hk := hs4.has; simp [Has, HasAt] at hk)
    | (go_at_call 50; refine (H3.out _ _ hcl hv hs4.bel).mono ?_; rintro e w5 ⟨rfl, hb5⟩; have hs5 := hs4.step hb5))
  go_ret
  exact ⟨rfl, hs5.bel⟩

theorem reB_inC {c : Cl} {b : Bool} {x y : Int} (hc : clB c = true) (hs : spB x y = true) : reB b x y c = (sdL b c).any fun d => inC d x y := by
  unfold reB reachI
  have h := (sdL_ok hc b).2
  rw [h, hs, Bool.true_and, Bool.true_and]
  exact any_ins8 h hs
theorem alB_no {tn : Int} {L : List Cl} {tag x y now : Int} {b : Bool} (hs : spB x y = false) : alB tn L tag x y b now = false := by
  unfold alB
  cases h1 : ppB tn L tag
  · rfl
  · obtain ⟨_, h2, _, _⟩ := ppB_t h1
    match L, h2 with
    | c :: t, _ =>
      have : reB b x y c = false := by unfold reB reachI; rw [hs, Bool.and_false, Bool.false_and]
      simp [this]
theorem all_both {L : List Cl} {f g : Cl → Bool} : (L.all f && L.all g) = L.all fun c => f c && g c := by
  induction L with
  | nil => rfl
  | cons a t ih => simp only [List.all_cons, ← ih]; cases f a <;> cases g a <;> simp
theorem sIn100_v {n : Int} {v : Bool} (hv : timeB n = v) (w : World) : Calls Tryz.prog 42 #[.int .i64 n, .int .i64 0, .int .i64 100000] w fun e w' => e = .returned (.bool v) ∧ w' = w := sTime_v hv w
end Go.Proofs.YtkinbgcnenieeaaGreatDoor
