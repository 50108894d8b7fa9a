/-
  Whether a Deal is right: the program's look, its parts put together.
-/
import Derived.Test.YtobbankkfplooaaGreatKP2
import Derived.Test.YtobbankkfplooaaGreatKG1
import Derived.Test.YtobbankkfplooaaGreatKIB3
namespace Go.Proofs.YtobbankkfplooaaGreat.K.G
open Go.Shelf Go.RowKit Go.Joins Y
attribute [local go_sem] Oper.semAt_some

def eq4 (a b : Q4) : Bool := a.a == b.a && (a.b == b.b && (a.c == b.c && a.d == b.d))
theorem eq4_l {a b : Q4} : eq4 a b = decide (a.l = b.l) := by
  obtain ⟨a0, a1, a2, a3⟩ := a
  obtain ⟨b0, b1, b2, b3⟩ := b
  rw [Bool.eq_iff_iff]
  simp [eq4, Q4.l]
theorem part_Q4 (q : Q4) (w : World) :
    (part 2 #[.int .i64 q.a, .int .i64 q.b, .int .i64 q.c, .int .i64 q.d] (0 * 1)).run Tryz.prog w = .ok (.int .i64 q.a) w ∧ (part 2 #[.int .i64 q.a, .int .i64 q.b, .int .i64 q.c, .int .i64 q.d] (1 * 1)).run Tryz.prog w = .ok (.int .i64 q.b) w ∧ (part 2 #[.int .i64 q.a, .int .i64 q.b, .int .i64 q.c, .int .i64 q.d] (2 * 1)).run Tryz.prog w = .ok (.int .i64 q.c) w ∧ (part 2 #[.int .i64 q.a, .int .i64 q.b, .int .i64 q.c, .int .i64 q.d] (3 * 1)).run Tryz.prog w = .ok (.int .i64 q.d) w := by
  have a2 := Tryz.isAgg2
  have z2 := Tryz.sizeOf2
  refine ⟨?_, ?_, ?_, ?_⟩ <;> simp [part, a2, z2]
theorem run_eq57 (n : Nat) (a b : Q4) (w : World) : (Op.equalIn (n + 1 + 1) 57 (.agg #[.int .i64 a.a, .int .i64 a.b, .int .i64 a.c, .int .i64 a.d]) (.agg #[.int .i64 b.a, .int .i64 b.b, .int .i64 b.c, .int .i64 b.d])).run Tryz.prog w = .ok (eq4 a b) w := by
  have z2 := Tryz.sizeOf2
  obtain ⟨p0, p1, p2, p3⟩ := part_Q4 a w
  obtain ⟨q0, q1, q2, q3⟩ := part_Q4 b w
  have e := fun x y => run_equalIn_int (P := Tryz.prog) w n 2 .i64 .i64 x y Tryz.underlying2
  rw [Op.equalIn]
  simp only [Sem.run_bind, run_underlying Tryz.underlying57, Result.andThen_ok, z2]
  have hr : ∀ {β : Type} (b : β) (f : Nat → β → Sem (ForInStep β)), forIn [:4] b f = forIn [0, 1, 2, 3] b f := by
    intro β b f
    simp [Std.Legacy.Range.forIn_eq_forIn_range', List.range']
  rw [hr]
  unfold eq4
  cases h0 : a.a == b.a
  · simp [List.forIn_cons, p0, q0, e, h0]
  cases h1 : a.b == b.b
  · simp [List.forIn_cons, p0, q0, p1, q1, e, h0, h1]
  cases h2 : a.c == b.c
  · simp [List.forIn_cons, p0, q0, p1, q1, p2, q2, e, h0, h1, h2]
  cases h3 : a.d == b.d
  · simp [List.forIn_cons, p0, q0, p1, q1, p2, q2, p3, q3, e, h0, h1, h2, h3]
  · simp [List.forIn_cons, p0, q0, p1, q1, p2, q2, p3, q3, e, h0, h1, h2, h3]
theorem run_eql57 (a b : Q4) (w : World) : (binOp .eql 57 (.agg #[.int .i64 a.a, .int .i64 a.b, .int .i64 a.c, .int .i64 a.d]) (.agg #[.int .i64 b.a, .int .i64 b.b, .int .i64 b.c, .int .i64 b.d])).run Tryz.prog w = .ok (.bool (eq4 a b)) w := by
  rw [run_eql_struct, show (10000 : Nat) = 9998 + 1 + 1 from rfl, run_eq57]
  rfl
theorem run_neq59 (a b : Sd) (w : World) : (binOp .neq 59 (.agg #[.int .i64 a.q.a, .int .i64 a.q.b, .int .i64 a.q.c, .int .i64 a.q.d, .int .i64 a.s]) (.agg #[.int .i64 b.q.a, .int .i64 b.q.b, .int .i64 b.q.c, .int .i64 b.q.d, .int .i64 b.s])).run Tryz.prog w = .ok (.bool (!(eq4 a.q b.q && a.s == b.s))) w := by
  have hS : Tryz.prog.underlying 59 = some (.struct (Tryz.prog.fieldsOf 59)) := by kernel_rfl
  have hp : Tryz.prog.stoodInHeld 59 = false := by kernel_rfl
  have a57 := Tryz.isAgg57
  have z57 := Tryz.sizeOf57
  have a2 := Tryz.isAgg2
  have z2 := Tryz.sizeOf2
  rw [run_neq_struct, show (10000 : Nat) = 9997 + 1 + 1 + 1 from rfl, run_equalIn_agg w (9997 + 1 + 1) 59 _ _ hS hp]
  have e1 := run_eq57 9997 a.q b.q w
  have e2 := run_equalIn_int (P := Tryz.prog) w (9997 + 1) 2 .i64 .i64 a.s b.s Tryz.underlying2
  simp only [Program.fieldsOf, Tryz.underlying59]
  cases h0 : eq4 a.q b.q
  · simp [Op.eqFields, part, a57, z57, a2, z2, e1, h0]
  · generalize (a.s == b.s) = z at e2 ⊢
    cases z
    · simp [Op.eqFields, part, a57, z57, a2, z2, e1, e2, h0]
    · simp [Op.eqFields, part, a57, z57, a2, z2, e1, e2, h0]
set_option maxHeartbeats 1000000 in
theorem isRight_v {q al : Q4} {s : Int} {v : Bool} (hv : stB s q.l al.l = v) (w : World) :
    Calls Tryz.prog 47 #[(Sd.mk q s).v, al.v] w fun e w' => e = .returned (.bool v) ∧ Below w.heap.size w w' := by
  have hS1 := (Sg.nil w).lit kD [⟨q, s⟩] 1 rfl (by decide) #[.int .i64 q.a, .int .i64 q.b, .int .i64 q.c, .int .i64 q.d, .int .i64 s] rfl
  have hS2 := hS1.lit kV [al] 1 rfl (by decide) #[.int .i64 al.a, .int .i64 al.b, .int .i64 al.c, .int .i64 al.d] rfl
  change Sg w ((w.alloc (.cells #[.int .i64 q.a, .int .i64 q.b, .int .i64 q.c, .int .i64 q.d, .int .i64 s] 59)).alloc (.cells #[.int .i64 al.a, .int .i64 al.b, .int .i64 al.c, .int .i64 al.d] 57)) _ at hS2
  have hEq := run_eql57 q al
  rw [eq4_l] at hEq
  unfold stB at hv
  obtain ⟨d, hd⟩ : ∃ d, decide (q.l = al.l) = d := ⟨_, rfl⟩
  rw [hd] at hv hEq
  clear hd
  obtain ⟨qa, qb, qc, qd⟩ := q
  obtain ⟨la, lb, lc, ld⟩ := al
  simp only at hS2 hEq hv
  by_cases h0 : s = 0
  · subst h0
    obtain rfl : true = v := by rw [← hv]; rfl
    go_enter Tryz.func47, Tryz.ntmps47
    go_wp2
    go_ret
    exact ⟨rfl, hS2.bel⟩
  by_cases h2 : s = 2
  · subst h2
    obtain rfl : true = v := by rw [← hv]; rfl
    go_enter Tryz.func47, Tryz.ntmps47
    go_wp2
    go_ret
    exact ⟨rfl, hS2.bel⟩
  have h0' : (s == 0) = false := by simpa using h0
  have h2' : (s == 2) = false := by simpa using h2
  rw [decide_eq_false h0, decide_eq_false h2, Bool.false_or, Bool.false_or] at hv
  by_cases h1 : s = 1
  · subst h1
    obtain rfl : d = v := by rw [← hv]; rfl
    go_enter Tryz.func47, Tryz.ntmps47
    go_wp2
    go_ret
    exact ⟨rfl, hS2.bel⟩
  · have h1' : (s == 1) = false := by simpa using h1
    rw [decide_eq_false h1, Bool.false_and] at hv
    subst hv
    go_enter Tryz.func47, Tryz.ntmps47
    go_wp2
    go_ret
    exact ⟨rfl, hS2.bel⟩
end Go.Proofs.YtobbankkfplooaaGreat.K.G
namespace Go.Proofs.YtobbankkfplooaaGreat.K.G
open Go.Shelf Go.RowKit Go.Joins Y
attribute [local go_sem] Oper.semAt_some

set_option maxHeartbeats 1000000 in
/-- Whether a Batch is of the Deal. -/
theorem isPart_v (h : Gv) (t q : Int) (L : List Rc) (sv : Sv) {v : Bool} (hv : partB h.t h.q ⟨t, q, L⟩ = v) (w : World) (hL : SlG I.kR w sv.p L) (hl : L.length = sv.n) (hb0 : sv.n ≤ 10000000) :
    Calls Tryz.prog 74 #[h.v, I.batV t q sv.p sv.n sv.c] w fun e w' => e = .returned (.bool v) ∧ Below w.heap.size w w' := by
  have HB : Hid (∀ W v, Below w.heap.size w W → I.batB t q L = v → Calls Tryz.prog 90 #[I.batV t q sv.p sv.n sv.c] W fun e w' => e = .returned (.bool v) ∧ Below W.heap.size W w') := fun W v h h2 => I.iBat_v h2 sv.p sv.c sv.n hl W (hL.step h) hb0
  unfold partB at hv
  change (I.batB t q L && (decide (t = h.t) && decide (q = h.q))) = v at hv
  generalize I.batB t q L = b0 at hv HB
  clear hL hl hb0
  obtain ⟨sp, sn, sc⟩ := sv
  obtain ⟨dt, dq, ⟨yp, yn, yc⟩, ⟨op, on, oc⟩, ⟨up, un, uc⟩, ds⟩ := h
  simp only at HB hv
  have hst := ((St.nil w).push [.int .i64 dt, .int .i64 dq, .slice yp yn yc, .slice op on oc, .slice up un uc, .int .i64 ds] 27).push [.int .i64 t, .int .i64 q, .slice sp sn sc] 67
  cases b0
  · rw [Bool.false_and] at hv
    subst hv
    go_enter Tryz.func74, Tryz.ntmps74
    go_wp2_with (go_at_call 90; refine (HB.out _ _ hst.bel rfl).mono ?_; rintro e w1 ⟨rfl, hb1⟩)
    go_ret
    exact ⟨rfl, (hst.step hb1).bel⟩
  rw [Bool.true_and] at hv
  by_cases h1 : t = dt
  · rw [decide_eq_true h1, Bool.true_and] at hv
    subst h1
    by_cases h2 : q = dq
    · rw [decide_eq_true h2] at hv
      subst h2 hv
      go_enter Tryz.func74, Tryz.ntmps74
      go_wp2_with (go_at_call 90; refine (HB.out _ _ hst.bel rfl).mono ?_; rintro e w1 ⟨rfl, hb1⟩; have hs := (hst.step hb1); have hk := hs.has; simp [Has, HasAt] at hk)
      go_ret
      exact ⟨rfl, (hst.step hb1).bel⟩
    · rw [decide_eq_false h2] at hv
      have h2' : (q == dq) = false := by simpa using h2
      subst hv
      go_enter Tryz.func74, Tryz.ntmps74
      go_wp2_with (go_at_call 90; refine (HB.out _ _ hst.bel rfl).mono ?_; rintro e w1 ⟨rfl, hb1⟩; have hs := (hst.step hb1); have hk := hs.has; simp [Has, HasAt] at hk)
      go_ret
      exact ⟨rfl, (hst.step hb1).bel⟩
  · rw [decide_eq_false h1, Bool.false_and] at hv
    have h1' : (t == dt) = false := by simpa using h1
    subst hv
    go_enter Tryz.func74, Tryz.ntmps74
    go_wp2_with (go_at_call 90; refine (HB.out _ _ hst.bel rfl).mono ?_; rintro e w1 ⟨rfl, hb1⟩; have hs := (hst.step hb1); have hk := hs.has; simp [Has, HasAt] at hk)
    go_ret
    exact ⟨rfl, (hst.step hb1).bel⟩
set_option maxHeartbeats 1000000 in
theorem areB_any (h : Gv) (QL : List YQ) (p : Option Addr) (cap n : Nat) (hn : QL.length = n) (hb0 : n ≤ 10000000) (hsm : ∀ y ∈ QL, y.2.n ≤ 10000000) (w : World) (hR : RdY w p QL) {fb : Bool} (hv : (yds QL).all (partB h.t h.q) = fb) :
    Calls Tryz.prog 73 #[.slice p n cap, .func (.func 74) #[h.v] #[]] w fun e w' => e = .returned (.bool fb) ∧ Below w.heap.size w w' := by
  have HN : Hid (QL.length = n ∧ RdY w p QL ∧ ∀ y ∈ QL, y.2.n ≤ 10000000) := ⟨hn, hR, hsm⟩
  have HV := Lib.hid hv
  have HP := Lib.hid (fun t q L sv v hv W hL hl hb0 => isPart_v h t q L sv (v := v) hv W hL hl hb0)
  generalize partB h.t h.q = f at HV HP
  generalize h.v = hvv at HP
  clear hn hR hsm hv h
  go_enter Tryz.func73, Tryz.ntmps73
  go_wp2
  go_loopw [9] (fun i wr => ∃ k : Nat, k ≤ n ∧ i = .int .i64 k ∧ Hid (((yds QL).take k).all f = true) ∧ Below w.heap.size w wr) (fun i _ => n - (intOf i).toNat)
  case atStart => exact ⟨0, by omega, rfl, rfl, Below.refl _ _⟩
  case round =>
    obtain ⟨k, hk, rfl, hall, hb⟩ := hrel
    by_cases hlt : k < n
    · have hki : (k : Int) < n := by omega
      have hkL : k < QL.length := by rw [HN.out.1]; exact hlt
      obtain ⟨g, off, rfl, hC⟩ := (HN.out.2.1.1.step hb).at hkL
      obtain ⟨c0, c1, c2⟩ := CsG.y3 hC (getY hkL)
      have hq := HN.out.2.1.2 _ (List.mem_of_getElem? (getY hkL))
      have hbd := HN.out.2.2 _ (List.mem_of_getElem? (getY hkL))
      have htk := yds_take hkL
      have hgt := yds_get hkL
      obtain ⟨⟨⟨t, q, L⟩, ⟨sp, sn, sc⟩⟩, hx⟩ : ∃ x : YQ, QL.getD k zyq = x := ⟨_, rfl⟩
      rw [hx] at c0 c1 c2 hq hbd htk hgt
      simp only at c0 c1 c2 hq hbd htk hgt
      have HB : Hid (∀ W v, Below w.heap.size w W → f ⟨t, q, L⟩ = v → Calls Tryz.prog 74 #[hvv, I.batV t q sp sn sc] W fun e w' => e = .returned (.bool v) ∧ Below W.heap.size W w') := fun W v h h2 => HP.out t q L ⟨sp, sn, sc⟩ v h2 W (hq.1.step h) hq.2 hbd
      have HT : Hid ((yds QL).take (k + 1) = (yds QL).take k ++ [⟨t, q, L⟩] ∧ (yds QL)[k]? = some ⟨t, q, L⟩) := ⟨htk, hgt⟩
      have hal := hb.alloc hb.size (.cells #[.int .i64 t, .int .i64 q, .slice sp sn sc] 67)
      clear hC hkL hq hbd htk hgt hx
      cases hr : f ⟨t, q, L⟩
      · go_wp2_with (go_at_call 74; refine (HB.out _ _ hal hr).mono ?_; rintro e w1 ⟨rfl, hb1⟩)
        go_ret
        refine ⟨ret_bool ?_, bstep hal hb1 (Nat.le_refl _)⟩
        rw [← HV.out, all_no (f := f) HT.out.2 hr]
      · go_wp2_with (go_at_call 74; refine (HB.out _ _ hal hr).mono ?_; rintro e w1 ⟨rfl, hb1⟩)
        go_roundw
        case rel => exact ⟨k + 1, by omega, by go_num, Lib.hid (by rw [HT.out.1, List.all_append, hall.out]; simp [hr]), bstep hal hb1 (Nat.le_refl _)⟩
        case measure => simp [intOf]; omega
    · obtain rfl : k = n := by omega
      go_wp2
      go_ret
      refine ⟨ret_bool ?_, hb⟩
      have h2 := hall.out
      rw [List.take_of_length_le (by rw [yds_len, HN.out.1]; exact Nat.le_refl _)] at h2
      rw [← HV.out, h2]
end Go.Proofs.YtobbankkfplooaaGreat.K.G
namespace Go.Proofs.YtobbankkfplooaaGreat.K.G
open Go.Shelf Go.RowKit Go.Joins Y
attribute [local go_sem] Oper.semAt_some

set_option maxHeartbeats 2000000 in
theorem hasParts_v {h : Gv} {QL : List YQ} {v : Bool} (hv : partsB h.t h.q (yds QL) h.y.n = v) (w : World) (hY : RdY w h.y.p QL) (hn : QL.length = h.y.n) (hsm : ∀ y ∈ QL, y.2.n ≤ 10000000) :
    Calls Tryz.prog 44 #[h.v] w fun e w' => e = .returned (.bool v) ∧ Below w.heap.size w w' := by
  have HA := Lib.hid (fun W (hb : Below w.heap.size w W) (h4 : h.y.n ≤ 4) v hv => areB_any h QL h.y.p h.y.c h.y.n hn (by omega) hsm W (hY.step hb) (fb := v) hv)
  unfold partsB at hv
  generalize (yds QL).all (partB h.t h.q) = b0 at hv HA
  clear hY hn hsm
  obtain ⟨t, q, ⟨yp, yn, yc⟩, ⟨op, on, oc⟩, ⟨up, un, uc⟩, s⟩ := h
  simp only at HA hv
  have hlit := (Sg.nil w).lit kG [⟨t, q, ⟨yp, yn, yc⟩, ⟨op, on, oc⟩, ⟨up, un, uc⟩, s⟩] 1 rfl (by decide) #[.int .i64 t, .int .i64 q, .slice yp yn yc, .slice op on oc, .slice up un uc, .int .i64 s] rfl
  change Sg w (w.alloc (.cells #[.int .i64 t, .int .i64 q, .slice yp yn yc, .slice op on oc, .slice up un uc, .int .i64 s] 27)) _ at hlit
  by_cases h1 : 1 ≤ yn
  case neg =>
    rw [decide_eq_false h1, Bool.false_and] at hv
    subst hv
    have h1' : ¬ (1 : Int) ≤ yn := by omega
    go_enter Tryz.func44, Tryz.ntmps44
    go_wp2
    go_ret
    exact ⟨rfl, hlit.bel⟩
  have h1' : (1 : Int) ≤ yn := by omega
  rw [decide_eq_true h1, Bool.true_and] at hv
  by_cases h4 : yn ≤ 4
  case neg =>
    rw [decide_eq_false h4, Bool.false_and] at hv
    subst hv
    have h4' : ¬ (yn : Int) ≤ 4 := by omega
    go_enter Tryz.func44, Tryz.ntmps44
    go_wp2
    go_ret
    exact ⟨rfl, hlit.bel⟩
  have h4' : (yn : Int) ≤ 4 := by omega
  rw [decide_eq_true h4, Bool.true_and] at hv
  subst hv
  go_enter Tryz.func44, Tryz.ntmps44
  go_wp2_with (go_at_call 73; refine (HA.out _ hlit.bel h4 _ rfl).mono ?_; rintro e w1 ⟨rfl, hb1⟩)
  go_ret
  exact ⟨rfl, (hlit.step hb1).bel⟩
set_option maxHeartbeats 2000000 in
theorem hasShards_v {h : Gv} {O : List Int} {v : Bool} (hv : shardsB h.y.n h.o.n O = v) (w : World) (hO : SlG kI w h.o.p O) (hn : O.length = h.o.n) (hy : h.y.n ≤ 4) :
    Calls Tryz.prog 45 #[h.v] w fun e w' => e = .returned (.bool v) ∧ Below w.heap.size w w' := by
  have HA := Lib.hid (fun W (hb : Below w.heap.size w W) (h4 : h.o.n ≤ 4) v hv => areS_any h.o.p h.o.c O h.o.n hn W (hO.step hb) (by omega) (fb := v) hv)
  have HR := Lib.hid (fun W (hb : Below w.heap.size w W) (h4 : h.o.n ≤ 4) v hv => risesN_any h.o.p h.o.c O h.o.n hn W (hO.step hb) (by omega) (fb := v) hv)
  unfold shardsB at hv
  generalize O.all shN = b0 at hv HA
  generalize riseN O = b1 at hv HR
  clear hO hn
  obtain ⟨t, q, ⟨yp, yn, yc⟩, ⟨op, on, oc⟩, ⟨up, un, uc⟩, s⟩ := h
  simp only at HA HR hv hy
  have hlit := (Sg.nil w).lit kG [⟨t, q, ⟨yp, yn, yc⟩, ⟨op, on, oc⟩, ⟨up, un, uc⟩, s⟩] 1 rfl (by decide) #[.int .i64 t, .int .i64 q, .slice yp yn yc, .slice op on oc, .slice up un uc, .int .i64 s] rfl
  change Sg w (w.alloc (.cells #[.int .i64 t, .int .i64 q, .slice yp yn yc, .slice op on oc, .slice up un uc, .int .i64 s] 27)) _ at hlit
  by_cases h1 : on = yn
  case neg =>
    rw [decide_eq_false h1, Bool.false_and] at hv
    subst hv
    have h1' : ((on : Int) == yn) = false := by simp; omega
    go_enter Tryz.func45, Tryz.ntmps45
    go_wp2
    go_ret
    exact ⟨rfl, hlit.bel⟩
  subst h1
  rw [decide_eq_true rfl, Bool.true_and] at hv
  have h1' : ((on : Int) == on) = true := by simp
  cases b0
  · rw [Bool.false_and] at hv
    subst hv
    go_enter Tryz.func45, Tryz.ntmps45
    go_wp2_with (go_at_call 75; refine (HA.out _ hlit.bel hy _ rfl).mono ?_; rintro e w1 ⟨rfl, hw1⟩; obtain rfl := hw1.symm)
    go_ret
    exact ⟨rfl, hlit.bel⟩
  · rw [Bool.true_and] at hv
    subst hv
    go_enter Tryz.func45, Tryz.ntmps45
    go_wp2_with (first
      | (go_at_call 75; refine (HA.out _ hlit.bel hy _ rfl).mono ?_; rintro e w1 ⟨rfl, hw1⟩; obtain rfl := hw1.symm)
      | (go_at_call 77; refine (HR.out _ hlit.bel hy _ rfl).mono ?_; rintro e w2 ⟨rfl, hb2⟩))
    go_ret
    exact ⟨rfl, (hlit.step hb2).bel⟩
set_option maxHeartbeats 2000000 in
theorem hasVotes_v {h : Gv} {V : List Int} {v : Bool} (hv : votesB h.y.n h.u.n V = v) (w : World) (hU : SlG kI w h.u.p V) (hn : V.length = h.u.n) (hy : h.y.n ≤ 4) :
    Calls Tryz.prog 46 #[h.v] w fun e w' => e = .returned (.bool v) ∧ Below w.heap.size w w' := by
  have HA := Lib.hid (fun W (hb : Below w.heap.size w W) (h4 : h.u.n ≤ 4) v hv => areU_any h.u.p h.u.c V h.u.n hn W (hU.step hb) (by omega) (fb := v) hv)
  unfold votesB at hv
  generalize V.all voN = b0 at hv HA
  clear hU hn
  obtain ⟨t, q, ⟨yp, yn, yc⟩, ⟨op, on, oc⟩, ⟨up, un, uc⟩, s⟩ := h
  simp only at HA hv hy
  have hlit := (Sg.nil w).lit kG [⟨t, q, ⟨yp, yn, yc⟩, ⟨op, on, oc⟩, ⟨up, un, uc⟩, s⟩] 1 rfl (by decide) #[.int .i64 t, .int .i64 q, .slice yp yn yc, .slice op on oc, .slice up un uc, .int .i64 s] rfl
  change Sg w (w.alloc (.cells #[.int .i64 t, .int .i64 q, .slice yp yn yc, .slice op on oc, .slice up un uc, .int .i64 s] 27)) _ at hlit
  by_cases h1 : un = yn
  case neg =>
    rw [decide_eq_false h1, Bool.false_and] at hv
    subst hv
    have h1' : ((un : Int) == yn) = false := by simp; omega
    go_enter Tryz.func46, Tryz.ntmps46
    go_wp2
    go_ret
    exact ⟨rfl, hlit.bel⟩
  subst h1
  rw [decide_eq_true rfl, Bool.true_and] at hv
  subst hv
  have h1' : ((un : Int) == un) = true := by simp
  go_enter Tryz.func46, Tryz.ntmps46
  go_wp2_with (go_at_call 75; refine (HA.out _ hlit.bel hy _ rfl).mono ?_; rintro e w1 ⟨rfl, hw1⟩; obtain rfl := hw1.symm)
  go_ret
  exact ⟨rfl, hlit.bel⟩
set_option maxHeartbeats 2000000 in
theorem allYes_any (h : Gv) (w : World) (h1 : 1 ≤ h.y.n) (h4 : h.y.n ≤ 4) :
    Calls Tryz.prog 37 #[h.v] w fun e w' => e = .returned (q4 (List.replicate h.y.n 1)).v ∧ Below w.heap.size w w' := by
  obtain ⟨t, q, ⟨yp, yn, yc⟩, ⟨op, on, oc⟩, ⟨up, un, uc⟩, s⟩ := h
  simp only at h1 h4 ⊢
  have hlit := (Sg.nil w).lit kG [⟨t, q, ⟨yp, yn, yc⟩, ⟨op, on, oc⟩, ⟨up, un, uc⟩, s⟩] 1 rfl (by decide) #[.int .i64 t, .int .i64 q, .slice yp yn yc, .slice op on oc, .slice up un uc, .int .i64 s] rfl
  change Sg w (w.alloc (.cells #[.int .i64 t, .int .i64 q, .slice yp yn yc, .slice op on oc, .slice up un uc, .int .i64 s] 27)) _ at hlit
  have hS1 := hlit.lit kV [q0] 1 rfl (by decide) #[.int .i64 0, .int .i64 0, .int .i64 0, .int .i64 0] rfl
  have hS2 := hS1.lit kI [1] 1 rfl (by decide) #[.int .i64 1] rfl
  change Sg w (((w.alloc (.cells #[.int .i64 t, .int .i64 q, .slice yp yn yc, .slice op on oc, .slice up un uc, .int .i64 s] 27)).alloc (.cells #[.int .i64 0, .int .i64 0, .int .i64 0, .int .i64 0] 57)).alloc (.cells #[.int .i64 1] 2)) _ at hS2
  simp only [World.size_alloc] at hS2
  have hc := (OwG.cs (K := kI) (hS2.mem (List.mem_cons_self ..))).int (k := 0) (n := 1) rfl
  have hg := (OwG.cs (K := kI) (hS2.mem (List.mem_cons_self ..))).1
  have HR := Lib.hid (repeat_any (w.heap.size + 1 + 1) yn _ hg hc h1 (by omega))
  clear hlit hS1
  go_enter Tryz.func37, Tryz.ntmps37
  go_wp2_with (first
    | (go_at_call 68; refine HR.out.mono ?_; rintro e w1 ⟨g', rfl, hw1⟩; have hS3 := hS2.addL hw1; have hV := OwG.sl (K := kI) (hw1.mem (List.mem_cons_self ..)))
    | (go_at_call 65; refine (votingOf_any _ (by simp) h4 _ hV).mono ?_; rintro e w2 ⟨rfl, hb2⟩; have hS4 := hS3.step hb2; obtain ⟨b0, b1, b2, b3, bf, bg⟩ := v4 hS4 (g := w.heap.size + 1) (n := 1) (q := q0) (by simp)))
  have hS5 := Sg.setV (A := [rG kI (.slice (some ⟨g', 0, none⟩) yn yn) (List.replicate yn 1), rG kI (.slice (some ⟨w.heap.size + 1 + 1, 0, none⟩) 1 1) [1]]) (g := w.heap.size + 1) (n := 1) (a := q0) hS4 (q4 (List.replicate yn 1))
  generalize q4 (List.replicate yn 1) = q at hS5 ⊢
  refine bodyPost_ret (v := .agg #[.int .i64 q.a, .int .i64 q.b, .int .i64 q.c, .int .i64 q.d]) (by simp [results, Tryz.results37, go_sem, b0, b1, b2, b3]) rfl ⟨rfl, hS5.bel⟩
set_option maxHeartbeats 4000000 in
theorem standing_any (h : Gv) (V : List Int) (w : World) (hU : SlG kI w h.u.p V) (hn : V.length = h.u.n) (h4 : h.u.n ≤ 4) :
    Calls Tryz.prog 33 #[h.v] w fun e w' => e = .returned (Sd.mk (q4 V) h.s).v ∧ Below w.heap.size w w' := by
  have HV := Lib.hid (fun W (hb : Below w.heap.size w W) => votingOf_any (c := h.u.c) h.u.p hn h4 W (hU.step hb))
  clear hU hn h4
  obtain ⟨t, q, ⟨yp, yn, yc⟩, ⟨op, on, oc⟩, ⟨up, un, uc⟩, s⟩ := h
  simp only at HV ⊢
  generalize q4 V = qq at HV ⊢
  have hS0 := ((Sg.nil w).lit kG [⟨t, q, ⟨yp, yn, yc⟩, ⟨op, on, oc⟩, ⟨up, un, uc⟩, s⟩] 1 rfl (by decide) #[.int .i64 t, .int .i64 q, .slice yp yn yc, .slice op on oc, .slice up un uc, .int .i64 s] rfl).lit kD [⟨q0, 0⟩] 1 rfl (by decide) #[.int .i64 0, .int .i64 0, .int .i64 0, .int .i64 0, .int .i64 0] rfl
  change Sg w ((w.alloc (.cells #[.int .i64 t, .int .i64 q, .slice yp yn yc, .slice op on oc, .slice up un uc, .int .i64 s] 27)).alloc (.cells #[.int .i64 0, .int .i64 0, .int .i64 0, .int .i64 0, .int .i64 0] 59)) _ at hS0
  rw [World.size_alloc] at hS0
  have HE := Lib.hid (fun W (hS : Sg w W [rG kD (.slice (some ⟨w.heap.size + 1, 0, none⟩) 1 1) [⟨q0, 0⟩], rG kG (.slice (some ⟨w.heap.size, 0, none⟩) 1 1) [⟨t, q, ⟨yp, yn, yc⟩, ⟨op, on, oc⟩, ⟨up, un, uc⟩, s⟩]]) => (⟨g6 hS (K := kG) (g := w.heap.size) (n := 1) (q := ⟨t, q, ⟨yp, yn, yc⟩, ⟨op, on, oc⟩, ⟨up, un, uc⟩, s⟩) (by simp) rfl, d5 hS (g := w.heap.size + 1) (n := 1) (q := ⟨q0, 0⟩) (by simp)⟩ : _ ∧ _))
  simp only at HE
  have hS0d := hS0.step (Below.refl _ _).drew
  go_enter Tryz.func33, Tryz.ntmps33
  go_wp2
  go_region_with ((go_at_call 65; refine (HV.out _ hS0d.bel).mono ?_; rintro e w2 ⟨rfl, hb2⟩; have hS1 := hS0d.step hb2; obtain ⟨⟨y0, y1, y2, y3, y4, y5, yf, yg⟩, ⟨b0, b1, b2, b3, b4, bf, bg⟩⟩ := HE.out _ hS1))
  all_goals
    have hS2 := Sg.setD (A := []) (g := w.heap.size + 1) (n := 1) (a := ⟨q0, 0⟩) hS1 ⟨qq, s⟩
    go_wp2
    refine bodyPost_ret (v := .agg #[.int .i64 qq.a, .int .i64 qq.b, .int .i64 qq.c, .int .i64 qq.d, .int .i64 s]) (by simp [results, Tryz.results33, go_sem, b0, b1, b2, b3, b4]) rfl ⟨rfl, hS2.bel⟩
end Go.Proofs.YtobbankkfplooaaGreat.K.G
