/-
  Shards and votes one by one; four votes in an array; the program's looks at lists of numbers.
-/
import Derived.Test.YtobbankkfplooaaGreatKGM
import Derived.Test.YtobbankkfplooaaGreatKY1
import Derived.Laws.IdiomCopy
import Derived.Laws.StructEq
namespace Go.Proofs.YtobbankkfplooaaGreat.K.G
open Go.Shelf Go.RowKit Go.Joins Y
attribute [local go_sem] Oper.semAt_some

theorem isShard_v {n : Int} {v : Bool} (hv : shN n = v) (w : World) : Calls Tryz.prog 76 #[.int .i64 n] w fun e w' => e = .returned (.bool v) ∧ w' = w := by
  unfold shN at hv
  by_cases h1 : 0 ≤ n
  · by_cases h2 : n ≤ 3
    · rw [decide_eq_true h1, decide_eq_true h2] at hv
      subst hv
      go_enter Tryz.func76, Tryz.ntmps76
      go_wp2
      go_ret
      exact ⟨rfl, rfl⟩
    · rw [decide_eq_true h1, decide_eq_false h2] at hv
      subst hv
      go_enter Tryz.func76, Tryz.ntmps76
      go_wp2
      go_ret
      exact ⟨rfl, rfl⟩
  · rw [decide_eq_false h1, Bool.false_and] at hv
    subst hv
    go_enter Tryz.func76, Tryz.ntmps76
    go_wp2
    go_ret
    exact ⟨rfl, rfl⟩
theorem isVote_v {n : Int} {v : Bool} (hv : voN n = v) (w : World) : Calls Tryz.prog 79 #[.int .i64 n] w fun e w' => e = .returned (.bool v) ∧ w' = w := by
  unfold voN at hv
  by_cases h1 : n = 0
  · subst h1
    obtain rfl : true = v := hv
    go_enter Tryz.func79, Tryz.ntmps79
    go_wp2
    go_ret
    exact ⟨rfl, rfl⟩
  by_cases h2 : n = 1
  · subst h2
    obtain rfl : true = v := hv
    go_enter Tryz.func79, Tryz.ntmps79
    go_wp2
    go_ret
    exact ⟨rfl, rfl⟩
  have h1' : (n == 0) = false := by simpa using h1
  have h2' : (n == 1) = false := by simpa using h2
  by_cases h3 : n = 2
  · subst h3
    obtain rfl : true = v := hv
    go_enter Tryz.func79, Tryz.ntmps79
    go_wp2
    go_ret
    exact ⟨rfl, rfl⟩
  have h3' : (n == 2) = false := by simpa using h3
  rw [decide_eq_false h1, decide_eq_false h2, decide_eq_false h3] at hv
  subst hv
  go_enter Tryz.func79, Tryz.ntmps79
  go_wp2
  go_ret
  exact ⟨rfl, rfl⟩
set_option maxHeartbeats 1000000 in
theorem areS_any (p : Option Addr) (cap : Nat) (L : List Int) (n : Nat) (hn : L.length = n) (w : World) (hL : SlG kI w p L) (hb0 : n ≤ 10000000) {fb : Bool} (hv : L.all shN = fb) :
    Calls Tryz.prog 75 #[.slice p n cap, .func (.func 76) #[] #[]] w fun e w' => e = .returned (.bool fb) ∧ w' = w := by
  subst hn
  go_enter Tryz.func75, Tryz.ntmps75
  go_wp2
  go_loop [9] (fun i => ∃ k : Nat, k ≤ L.length ∧ i = .int .i64 k ∧ (L.take k).all shN = true) (fun i => L.length - (intOf i).toNat)
  case atStart => exact ⟨0, by omega, rfl, rfl⟩
  case round =>
    obtain ⟨k, hk, rfl, hall⟩ := hrel
    by_cases hlt : k < L.length
    · have hki : (k : Int) < L.length := by omega
      obtain ⟨g, off, rfl, hC⟩ := hL.at hlt
      have hg := List.getElem?_eq_getElem hlt
      have ht := all_take (f := shN) hlt
      generalize L[k] = r at hg ht
      have c0 := hC.int hg
      cases hr : shN r
      · go_wp2_with (go_at_call 76; refine (isShard_v hr _).mono ?_; rintro e w1 ⟨rfl, rfl⟩)
        go_ret
        exact ⟨ret_bool (by rw [← hv, all_no hg hr]), rfl⟩
      · go_wp2_with (go_at_call 76; refine (isShard_v hr _).mono ?_; rintro e w1 ⟨rfl, rfl⟩)
        go_round
        case rel => exact ⟨k + 1, by omega, by go_num, by rw [ht, hall, hr]; rfl⟩
        case measure => simp [intOf]; omega
    · obtain rfl : k = L.length := by omega
      go_wp2
      go_ret
      rw [List.take_length] at hall
      exact ⟨ret_bool (by rw [← hv, hall]), rfl⟩
set_option maxHeartbeats 1000000 in
theorem areU_any (p : Option Addr) (cap : Nat) (L : List Int) (n : Nat) (hn : L.length = n) (w : World) (hL : SlG kI w p L) (hb0 : n ≤ 10000000) {fb : Bool} (hv : L.all voN = fb) :
    Calls Tryz.prog 75 #[.slice p n cap, .func (.func 79) #[] #[]] w fun e w' => e = .returned (.bool fb) ∧ w' = w := by
  subst hn
  go_enter Tryz.func75, Tryz.ntmps75
  go_wp2
  go_loop [9] (fun i => ∃ k : Nat, k ≤ L.length ∧ i = .int .i64 k ∧ (L.take k).all voN = true) (fun i => L.length - (intOf i).toNat)
  case atStart => exact ⟨0, by omega, rfl, rfl⟩
  case round =>
    obtain ⟨k, hk, rfl, hall⟩ := hrel
    by_cases hlt : k < L.length
    · have hki : (k : Int) < L.length := by omega
      obtain ⟨g, off, rfl, hC⟩ := hL.at hlt
      have hg := List.getElem?_eq_getElem hlt
      have ht := all_take (f := voN) hlt
      generalize L[k] = r at hg ht
      have c0 := hC.int hg
      cases hr : voN r
      · go_wp2_with (go_at_call 79; refine (isVote_v hr _).mono ?_; rintro e w1 ⟨rfl, rfl⟩)
        go_ret
        exact ⟨ret_bool (by rw [← hv, all_no hg hr]), rfl⟩
      · go_wp2_with (go_at_call 79; refine (isVote_v hr _).mono ?_; rintro e w1 ⟨rfl, rfl⟩)
        go_round
        case rel => exact ⟨k + 1, by omega, by go_num, by rw [ht, hall, hr]; rfl⟩
        case measure => simp [intOf]; omega
    · obtain rfl : k = L.length := by omega
      go_wp2
      go_ret
      rw [List.take_length] at hall
      exact ⟨ret_bool (by rw [← hv, hall]), rfl⟩
/-- Four votes. -/
structure Q4 where
  a : Int
  b : Int
  c : Int
  d : Int
abbrev Q4.v (q : Q4) : Value := .agg #[.int .i64 q.a, .int .i64 q.b, .int .i64 q.c, .int .i64 q.d]
def Q4.l (q : Q4) : List Int := [q.a, q.b, q.c, q.d]
def q4 (V : List Int) : Q4 := ⟨V.getD 0 0, V.getD 1 0, V.getD 2 0, V.getD 3 0⟩
theorem q4_l (V : List Int) : (q4 V).l = vt V := rfl
def q0 : Q4 := ⟨0, 0, 0, 0⟩
def kV : Kd Q4 := ⟨57, 4, fun q => [.int .i64 q.a, .int .i64 q.b, .int .i64 q.c, .int .i64 q.d], fun _ => rfl⟩
/-- Four votes and a state. -/
structure Sd where
  q : Q4
  s : Int
abbrev Sd.v (h : Sd) : Value := .agg #[.int .i64 h.q.a, .int .i64 h.q.b, .int .i64 h.q.c, .int .i64 h.q.d, .int .i64 h.s]
def kD : Kd Sd := ⟨59, 5, fun h => [.int .i64 h.q.a, .int .i64 h.q.b, .int .i64 h.q.c, .int .i64 h.q.d, .int .i64 h.s], fun _ => rfl⟩
theorem v4 {w W : World} {rs : List Rw} (h : Sg w W rs) {g n : Nat} {q : Q4} (hm : rG kV (.slice (some ⟨g, 0, none⟩) 1 n) [q] ∈ rs) :
    W.cell? ⟨g, 0, none⟩ = some (.int .i64 q.a) ∧ W.cell? ⟨g, 1, none⟩ = some (.int .i64 q.b) ∧ W.cell? ⟨g, 2, none⟩ = some (.int .i64 q.c) ∧ W.cell? ⟨g, 3, none⟩ = some (.int .i64 q.d) ∧ (∀ o, W.frozen? ⟨g, o, none⟩ = false) ∧ g < W.heap.size := by
  have ho := h.mem hm
  have hC := OwG.cs ho
  have f := fun i u hu => hC.at (k := 0) (a := q) rfl (i := i) (u := u) hu
  simp only [Nat.zero_mul, Nat.zero_add] at f
  exact ⟨f 0 _ rfl, f 1 _ rfl, f 2 _ rfl, f 3 _ rfl, OwG.fz ho, hC.1⟩
theorem d5 {w W : World} {rs : List Rw} (h : Sg w W rs) {g n : Nat} {q : Sd} (hm : rG kD (.slice (some ⟨g, 0, none⟩) 1 n) [q] ∈ rs) :
    W.cell? ⟨g, 0, none⟩ = some (.int .i64 q.q.a) ∧ W.cell? ⟨g, 1, none⟩ = some (.int .i64 q.q.b) ∧ W.cell? ⟨g, 2, none⟩ = some (.int .i64 q.q.c) ∧ W.cell? ⟨g, 3, none⟩ = some (.int .i64 q.q.d) ∧ W.cell? ⟨g, 4, none⟩ = some (.int .i64 q.s) ∧ (∀ o, W.frozen? ⟨g, o, none⟩ = false) ∧ g < W.heap.size := by
  have ho := h.mem hm
  have hC := OwG.cs ho
  have f := fun i u hu => hC.at (k := 0) (a := q) rfl (i := i) (u := u) hu
  simp only [Nat.zero_mul, Nat.zero_add] at f
  exact ⟨f 0 _ rfl, f 1 _ rfl, f 2 _ rfl, f 3 _ rfl, f 4 _ rfl, OwG.fz ho, hC.1⟩
/-- The cells of a row from o on become others. -/
def setMany (xs : List Value) : Nat → List Value → List Value
  | _, [] => xs
  | o, u :: r => setMany (xs.set o u) (o + 1) r
theorem Sg.setCells {w : World} {A Bs : List Rw} {g n c s : Nat} {e : TypeId} : ∀ (us : List Value) (o : Nat) {W : World} {xs : List Value}, Sg w W (A ++ ⟨.slice (some ⟨g, 0, none⟩) n c, e, s, n, xs⟩ :: Bs) → Sg w (W.setCells g o us) (A ++ ⟨.slice (some ⟨g, 0, none⟩) n c, e, s, n, setMany xs o us⟩ :: Bs)
  | [], _, _, _, h => h
  | u :: r, o, _, _, h => Sg.setCells r (o + 1) (Sg.setRaw h o u)
theorem vt_many {V : List Int} (h : V.length ≤ 4) : setMany (kV.flat [q0]) 0 (kI.flat V) = kV.flat [q4 V] := by
  match V, h with
  | [], _ => rfl
  | [a], _ => rfl
  | [a, b], _ => rfl
  | [a, b, c], _ => rfl
  | [a, b, c, d], _ => rfl
  | a :: b :: c :: d :: e :: t, h => simp at h
theorem oneI4 (V : List Int) : ∀ u ∈ kI.flat V, u.oneCell' = true := by
  intro u hu
  simp only [Kd.flat, List.mem_flatMap, kI, List.mem_singleton] at hu
  obtain ⟨a, _, rfl⟩ := hu
  rfl
theorem setMany_mid : ∀ (us A X B : List Value), X.length = us.length → setMany (A ++ (X ++ B)) A.length us = A ++ (us ++ B)
  | [], A, X, B, h => by
    obtain rfl : X = [] := List.length_eq_zero_iff.1 h
    rfl
  | u :: r, A, x :: X, B, h => by
    have e : (A ++ (x :: X ++ B)).set A.length u = (A ++ [u]) ++ (X ++ B) := by
      rw [List.set_append_right _ _ (Nat.le_refl _), Nat.sub_self]; simp
    have ih := setMany_mid r (A ++ [u]) X B (by simpa using h)
    rw [List.length_append, List.length_singleton] at ih
    rw [setMany, e, ih]
    simp
theorem setMany_eq (us : List Value) (o : Nat) (xs : List Value) (h : o + us.length ≤ xs.length) : setMany xs o us = xs.take o ++ (us ++ xs.drop (o + us.length)) := by
  have h2 := setMany_mid us (xs.take o) ((xs.drop o).take us.length) ((xs.drop o).drop us.length) (by rw [List.length_take, List.length_drop]; omega)
  rw [List.take_append_drop, List.take_append_drop, List.length_take, Nat.min_eq_left (by omega), List.drop_drop] at h2
  exact h2
def encI (n : Int) : Value := .int .i64 n
theorem flatI0 : ∀ L : List Int, kI.flat L = L.map encI
  | [] => rfl
  | a :: t => by rw [Kd.flat_cons, flatI0 t]; rfl
theorem madeI0 (n : Nat) : (madeCells #[.int .i64 0] n).toList = kI.flat (List.replicate n 0) := by
  rw [flatI0]
  refine List.ext_getElem? fun i => ?_
  by_cases hi : i < n
  · simp [madeCells, hi, encI, Nat.mod_one]
  · rw [List.getElem?_eq_none (by simp [madeCells]; omega), List.getElem?_eq_none (by simp; omega)]
/-- Numbers are copied over cells of one's own. -/
theorem run_copyV {w W : World} {A Bs : List Rw} {g n d o k m c : Nat} {e : TypeId} {s : Nat} {xs : List Value} {V : List Int} {p : Option Addr} (hS : Sg w W (A ++ ⟨.slice (some ⟨g, 0, none⟩) n k, e, s, n, xs⟩ :: Bs)) (hV : SlG kI W p V) (hm : Nat.min m d = V.length)
    (hc : ∀ j, j < V.length → (W.cell? ⟨g, o + j, none⟩).isSome = true) (hf : ∀ o, W.frozen? ⟨g, o, none⟩ = false) {dc : Nat} :
    ∃ W', (∀ ty, (Builtin.copy_ #[25, 25] ty #[.slice (some ⟨g, o, none⟩) d dc, .slice p m c]).run Tryz.prog W = .ok (goInt V.length) W') ∧ Sg w W' (A ++ ⟨.slice (some ⟨g, 0, none⟩) n k, e, s, n, setMany xs o (kI.flat V)⟩ :: Bs) := by
  obtain ⟨i0, hi, hz0, hz1, hz2⟩ := info_parts info2
  have hl1 : (kI.flat V).length = V.length := by rw [Kd.flat_len]; exact Nat.mul_one _
  cases p with
  | none =>
    have hV0 : V = [] := by
      rcases hV with h | ⟨g', off, h, _⟩
      · exact h
      · cases h
    subst hV0
    have hmd : Nat.min m d = 0 := hm
    refine ⟨W, fun ty => ?_, hS⟩
    simp [Builtin.copy_, run_underlying Tryz.underlying25, Builtin.lenOf, Builtin.firstCells, sizeOf, typeInfo, hi, hmd]
    rfl
  | some a =>
    have hsrc : ∀ j u, (kI.flat V)[j]? = some u → W.cell? (a.add j) = some u := by
      intro j u hj
      rcases hV with h | ⟨g', off, h, hC⟩
      · subst h; simp [Kd.flat] at hj
      · cases h
        have ea : (⟨g', off, none⟩ : Addr).add j = ⟨g', off + j, none⟩ := by unfold Addr.add; split <;> simp_all
        rw [ea]; exact hC.2 j u hj
    have hr := fun ty => run_copy_cells (P := Tryz.prog) W 25 25 ty 2 g o d dc a m c (kI.flat V) Tryz.underlying25 (by rw [hi]; simp [hz1]) (by rw [hl1, hm]) hsrc (by rw [hl1]; exact hc) (fun j _ => hf _) (oneI4 V)
    rw [hl1] at hr
    exact ⟨_, hr, Sg.setCells (kI.flat V) o hS⟩
theorem step_copy {W W' : World} {ops : Array Oper} {o : Oper} {a : Act} {K : Act → World → Prop} {Q : Exit → Act → World → Prop} {E : Prop} (hgd : o.guard = none) (d x : Operand) (ho : o.op = .call { callee := .builtin .copy, args := #[d, x], argTypes := #[25, 25] }) {vd vx r : Value} (hs : a.eval d = vd) (hx : a.eval x = vx) (hr : ∀ ty, (Builtin.copy_ #[25, 25] ty #[vd, vx]).run Tryz.prog W = .ok r W')
    (h : K (a.put o.dst r) W') : if Region.wanted o (yielded ops a.tmps) = true then Oper.wp Tryz.prog o a W K Q else E := by
  have hw : Region.wanted o (yielded ops a.tmps) = true := by simp [Region.wanted, hgd]
  rw [if_pos hw]
  unfold Oper.wp execOp
  simp only [ho, resolve, invoke, builtin, Sem.run_bind, Sem.run_pure, Result.andThen_ok, List.map_toArray, List.map_cons, List.map_nil, hs, hx, hr]
  exact h
end Go.Proofs.YtobbankkfplooaaGreat.K.G
