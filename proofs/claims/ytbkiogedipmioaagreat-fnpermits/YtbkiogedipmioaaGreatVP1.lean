/-
  Papers: kinds of elements; the looks whether Cells, lists of Cells and Clauses are right, the program's and the spec's.
-/
import Derived.Lib.ItoaNum
import Derived.Lib.ItoaMem
import Derived.Lib.Join
import Derived.Test.YtbkiogedipmioaaGreatVML6
import Derived.Test.YtbkiogedipmioaaGreatVA1
import Derived.Tactics
import Derived.Tactics2
import Derived.Defers
import Derived.Laws.Pointers
import Derived.Laws.LoneSync
import Derived.RegionTactic
import Derived.RegionCalls
import Derived.ChangeAlike
import Derived.Test.YtbkiogedipmioaaGreatVSA
namespace Go.Proofs.YtbkiogedipmioaaGreat.V
open Go.RowKit Go.Joins M

theorem t3_bd {c : T3} (h : c.ok = true) : 0 ≤ c.l ∧ c.l ≤ 8 ∧ 0 ≤ c.x ∧ c.x ≤ 255 ∧ 0 ≤ c.y ∧ c.y ≤ 255 := by
  obtain ⟨h0, h8, hx, hx1, hy, hy1⟩ := M.cellB_t.mp h
  have := (M.pw h0 h8).2
  omega

structure Cl where
  rd : List T3
  wr : List T3
  un : Int
def timeB (n : Int) : Bool := decide (0 ≤ n ∧ n ≤ 100000)
theorem timeB_t {n : Int} : timeB n = true ↔ (0 ≤ n ∧ n ≤ 100000) := by unfold timeB; exact decide_eq_true_iff
def ofB (L : List T3) : Bool := decide (L.length ≤ 8) && okL L
/-- Is it a right Clause? -/
def clB (c : Cl) : Bool := timeB c.un && (ofB c.rd && ofB c.wr)
def n3 (c : T3) : List Int := [c.l, c.x, c.y]
def nL (L : List T3) : List Int := (L.length : Int) :: L.flatMap n3
/-- The numbers that a Clause's text tells. -/
def nums (c : Cl) : List Int := c.un :: (nL c.rd ++ nL c.wr)
/-- A number's text. -/
def dgS (n : Int) : ByteArray := ⟨(Lib.itoa n).toArray⟩
def blank : List UInt8 := [32]
/-- Numbers with blanks between. -/
def txL (ns : List Int) : List UInt8 := Lib.join (ns.map Lib.itoa) blank
def tx (c : Cl) : ByteArray := ⟨(txL (nums c)).toArray⟩
def ctx (c : Cl) : ByteArray := if clB c = true then tx c else ByteArray.empty

theorem itoa_len {n : Int} {k : Nat} (h0 : 0 ≤ n) (h : n < ((10 ^ k : Nat) : Int)) (hk : 1 ≤ k) : (Lib.itoa n).length ≤ k := by
  obtain ⟨u, rfl⟩ : ∃ u : Nat, n = u := ⟨n.toNat, by omega⟩
  rw [Lib.itoa_nonneg, Lib.decDigits_length]
  have hu : u < 10 ^ k := by omega
  clear h0 h
  induction k generalizing u with
  | zero => omega
  | succ k ih =>
    by_cases h10 : u < 10
    · rw [Lib.nDigits_small h10]; omega
    · rw [Lib.nDigits_big h10]
      have hk1 : 1 ≤ k := by
        rcases Nat.eq_zero_or_pos k with rfl | h
        · simp at hu; omega
        · exact h
      have := ih hk1 (u / 10) (by rw [Nat.pow_succ] at hu; omega)
      omega
theorem lens_append (A B : List (List UInt8)) : Lib.lens (A ++ B) = Lib.lens A + Lib.lens B := by simp [Lib.lens]
theorem okL_t {L : List T3} (h : okL L = true) : ∀ c ∈ L, c.ok = true := by
  unfold okL at h
  rw [Bool.and_eq_true] at h
  exact List.all_eq_true.mp h.2
theorem lens_cells : ∀ {L : List T3}, (∀ c ∈ L, c.ok = true) → Lib.lens ((L.flatMap n3).map Lib.itoa) ≤ 7 * L.length
  | [], _ => by simp [Lib.lens]
  | c :: t, h => by
    have ih := lens_cells (L := t) fun x hx => h x (List.mem_cons_of_mem _ hx)
    have hc := t3_bd (h c (List.mem_cons_self ..))
    have l1 := itoa_len (n := c.l) (k := 1) hc.1 (by have := hc.2.1; omega) (by omega)
    have l2 := itoa_len (n := c.x) (k := 3) hc.2.2.1 (by have := hc.2.2.2.1; omega) (by omega)
    have l3 := itoa_len (n := c.y) (k := 3) hc.2.2.2.2.1 (by have := hc.2.2.2.2.2; omega) (by omega)
    rw [List.flatMap_cons, List.map_append, lens_append]
    simp only [n3, List.map_cons, List.map_nil, Lib.lens, List.sum_cons, List.sum_nil, List.length_cons] at *
    omega
theorem nL_len (L : List T3) : (nL L).length = 1 + 3 * L.length := by
  unfold nL
  rw [List.length_cons, List.length_flatMap]
  have : L.map (fun a => (n3 a).length) = List.replicate L.length 3 := by
    rw [List.eq_replicate_iff]; simp [n3]
  rw [this]; simp; omega
theorem lens_nL {L : List T3} (h : ofB L = true) : Lib.lens ((nL L).map Lib.itoa) ≤ 57 ∧ (nL L).length ≤ 25 := by
  unfold ofB at h
  rw [Bool.and_eq_true, decide_eq_true_iff] at h
  have h1 := lens_cells (okL_t h.2)
  have l1 := itoa_len (n := (L.length : Int)) (k := 1) (by omega) (by omega) (by omega)
  refine ⟨?_, by rw [nL_len]; omega⟩
  unfold nL
  rw [List.map_cons]
  simp only [Lib.lens, List.map_cons, List.sum_cons] at *
  omega
theorem clB_t {c : Cl} (h : clB c = true) : (0 ≤ c.un ∧ c.un ≤ 100000) ∧ ofB c.rd = true ∧ ofB c.wr = true := by
  unfold clB at h
  rw [Bool.and_eq_true, Bool.and_eq_true] at h
  exact ⟨timeB_t.mp h.1, h.2⟩
theorem txL_len {c : Cl} (h : clB c = true) : (txL (nums c)).length ≤ 170 := by
  obtain ⟨h1, h2, h3⟩ := clB_t h
  have a := lens_nL h2
  have b := lens_nL h3
  have l1 := itoa_len (n := c.un) (k := 6) h1.1 (by have := h1.2; omega) (by omega)
  unfold txL nums
  rw [List.map_cons, Lib.join_length, List.length_map, List.length_append]
  have e : Lib.lens (Lib.itoa c.un :: (nL c.rd ++ nL c.wr).map Lib.itoa) = (Lib.itoa c.un).length + (Lib.lens ((nL c.rd).map Lib.itoa) + Lib.lens ((nL c.wr).map Lib.itoa)) := by
    rw [List.map_append, ← lens_append]; simp [Lib.lens]
  rw [e]
  show 1 * _ + _ ≤ 170
  omega
theorem tx_size {c : Cl} (h : clB c = true) : (tx c).size ≤ 170 := by
  have := txL_len h
  unfold tx
  show (txL (nums c)).toArray.size ≤ 170
  simpa using this
theorem ctx_size (c : Cl) : (ctx c).size ≤ 170 := by
  unfold ctx
  split
  · rename_i h; exact tx_size h
  · decide

/-- A Paper. -/
structure Pp where
  tn : Int
  cs : List Cl
  tag : Int
def tenB (n : Int) : Bool := decide (1 ≤ n ∧ n ≤ 99)
def clsB (L : List Cl) : Bool := decide (1 ≤ L.length ∧ L.length ≤ 6) && L.all clB
theorem txL_one (n : Int) : txL [n] = Lib.itoa n := by unfold txL; exact Lib.join_one ..
theorem txL_snoc {A : List Int} (h : A ≠ []) (n : Int) : txL (A ++ [n]) = txL A ++ [32] ++ Lib.itoa n := by
  obtain ⟨a, r, rfl⟩ : ∃ a r, A = a :: r := by
    cases A with
    | nil => exact absurd rfl h
    | cons a r => exact ⟨a, r, rfl⟩
  unfold txL
  rw [List.cons_append, List.map_cons, Lib.join_cons, List.map_cons, Lib.join_cons, List.map_append]
  simp [Lib.joinTail, blank]
/-- The digits of a number, none of 0. -/
def dd (m : Nat) : List UInt8 := if m = 0 then [] else Lib.decDigits m
theorem dd_step {m : Nat} (h : m ≠ 0) : dd m = dd (m / 10) ++ [UInt8.ofNat (48 + m % 10)] := by
  unfold dd
  rw [if_neg h]
  by_cases h10 : m < 10
  · rw [if_pos (by omega), Lib.decDigits_one h10, Nat.mod_eq_of_lt h10]; rfl
  · rw [if_neg (by omega), Lib.decDigits, dif_neg h10]
theorem dec_step (m : Nat) : Lib.decDigits m = dd (m / 10) ++ [UInt8.ofNat (48 + m % 10)] := by
  by_cases h : m = 0
  · subst h; rw [Lib.decDigits_one (by omega)]; rfl
  · rw [← dd_step h, dd, if_neg h]
theorem txL_take {ns : List Int} {k : Nat} (hk : k < ns.length) (h0 : k ≠ 0) : txL (ns.take (k + 1)) = txL (ns.take k) ++ [32] ++ Lib.itoa (ns.getD k 0) := by
  have e : ns.take (k + 1) = ns.take k ++ [ns.getD k 0] := by rw [List.take_succ_eq_append_getElem hk]; simp [List.getD, hk]
  rw [e, txL_snoc]
  intro h
  have h2 := congrArg List.length h
  rw [List.length_take, List.length_nil] at h2
  omega
end Go.Proofs.YtbkiogedipmioaaGreat.V
namespace Go.Proofs.YtbkiogedipmioaaGreat.V
open Go.RowKit Go.Joins

set_option maxHeartbeats 400000 in
theorem isSeal_any (h : Int) (w : World) :
    Calls Tryz.prog 77 #[.int .i64 h] w fun e w' => e = .returned (.bool (inB h)) ∧ w' = w := by
  go_enter Tryz.func77, Tryz.ntmps77
  go_wp2
  all_goals (go_ret; exact ⟨ret_bool (by unfold inB; first | exact (decide_eq_true (by omega)).symm | exact (decide_eq_false (by omega)).symm | exact decide_eq_decide.mpr (by omega)), rfl⟩)
theorem isSeal_v {h : Int} {v : Bool} (hv : inB h = v) (w : World) : Calls Tryz.prog 77 #[.int .i64 h] w fun e w' => e = .returned (.bool v) ∧ w' = w := hv ▸ isSeal_any h w

theorem idx {s : ByteArray} {k : Nat} (h : k < s.size) (w : World) : (Instr.index 9 (.string s) (.int .i64 (k : Int))).run Tryz.prog w = .ok (.int .u8 (bt s k)) w := by
  rw [run_index_string w 9 s .i64 (k : Int) Tryz.underlying9, dif_pos ⟨by omega, by omega⟩, bt_at h]
  rfl
end Go.Proofs.YtbkiogedipmioaaGreat.V
namespace Go.Proofs.YtbkiogedipmioaaGreat.V
open Go.RowKit Go.Joins

def in3 (x a b : Int) : Bool := decide (a ≤ x ∧ x ≤ b)
set_option maxHeartbeats 400000 in
theorem l1In_any (x a b : Int) (w : World) : Calls Tryz.prog 37 #[.int .i64 x, .int .i64 a, .int .i64 b] w fun e w' => e = .returned (.bool (in3 x a b)) ∧ w' = w := by
  go_enter Tryz.func37, Tryz.ntmps37
  go_wp2
  all_goals (go_ret; exact ⟨ret_bool (by unfold in3; first | exact (decide_eq_true (by omega)).symm | exact (decide_eq_false (by omega)).symm | exact decide_eq_decide.mpr (by omega)), rfl⟩)
theorem sIn_v {h : Int} {v : Bool} (hv : inB h = v) (w : World) : Calls Tryz.prog 37 #[.int .i64 h, .int .i64 0, .int .i64 2147483646] w fun e w' => e = .returned (.bool v) ∧ w' = w := hv ▸ l1In_any h 0 2147483646 w

set_option maxHeartbeats 1000000 in
theorem l9Seal_any (key : Int) (s : ByteArray) (w : World) (hn : s.size ≤ 10000000) (hkb : 0 ≤ key ∧ key ≤ 2147483646) :
    Calls Tryz.prog 97 #[.int .i64 key, .string s] w fun e w' => e = .returned (.int .i64 (hs s key (s.size + 7))) ∧ w' = w := by
  go_enter Tryz.func97, Tryz.ntmps97
  go_wp2
  go_loop [5, 6] (fun h i => ∃ k : Nat, k ≤ s.size + 7 ∧ i = .int .i64 k ∧ h = .int .i64 (hs s key k)) (fun _ i => s.size + 7 - (intOf i).toNat)
  case atStart => exact ⟨0, by omega, rfl, rfl⟩
  case round =>
    obtain ⟨k, hk, rfl, rfl⟩ := hrel
    have hbd := hs_bd (s := s) hkb k
    by_cases hlt : k < s.size + 7
    · by_cases hlt2 : k < s.size
      · have hki : (k : Int) < s.size := by omega
        have hki2 : (k : Int) < s.size + 7 := by omega
        have hix := fun w => idx hlt2 w
        have hbb := bt_bd s k
        have e1 : hs s key (k + 1) = (hs s key k * 1000003 + bt s k + 1) % 2147483647 := rfl
        generalize hs s key k = h at hbd e1
        generalize bt s k = b at hbb e1 hix
        go_wp2
        go_round
        case rel => exact ⟨k + 1, by omega, by go_num, by rw [e1]⟩
        case measure => simp [intOf]; omega
      · have hki : ¬ (k : Int) < s.size := by omega
        have hki2 : (k : Int) < s.size + 7 := by omega
        have e1 : hs s key (k + 1) = (hs s key k * 1000003 + 0 + 1) % 2147483647 := by show st _ (bt s k) = _; rw [bt_end (by omega)]; rfl
        generalize hs s key k = h at hbd e1
        go_wp2
        go_round
        case rel => exact ⟨k + 1, by omega, by go_num, by rw [e1]; simp⟩
        case measure => simp [intOf]; omega
    · obtain rfl : k = s.size + 7 := by omega
      go_wp2
      go_ret
      exact ⟨rfl, rfl⟩
/-- One text more. -/
def lnI (tag : Int) (s : ByteArray) : Int := if s.size ≤ 200 then slI tag s else -1
theorem lnI_bd (tag : Int) (s : ByteArray) : -1 ≤ lnI tag s ∧ lnI tag s ≤ 2147483646 := by
  unfold lnI
  split
  · exact slI_bd _ _
  · omega
theorem lnI_no (s : ByteArray) : lnI (-1) s = -1 := by
  unfold lnI slI
  have : inB (-1) = false := rfl
  rw [this]
  split <;> rfl
theorem fold_no : ∀ L : List ByteArray, L.foldl lnI (-1) = -1
  | [] => rfl
  | s :: t => by rw [List.foldl_cons, lnI_no, fold_no t]
def chI (key : Int) (L : List ByteArray) : Int := if inB key = true ∧ L.length ≤ 10 then L.foldl lnI key else -1

end Go.Proofs.YtbkiogedipmioaaGreat.V
namespace Go.Proofs.YtbkiogedipmioaaGreat.V
open Go.RowKit Go.Joins
attribute [local go_sem] Oper.semAt_some

def zT : ByteArray := ByteArray.empty
theorem getT {L : List ByteArray} {k : Nat} (hk : k < L.length) : L[k]? = some (L.getD k zT) := by simp [List.getD, hk]
theorem fold_take {L : List ByteArray} {k : Nat} {key : Int} (hk : k < L.length) : (L.take (k + 1)).foldl lnI key = lnI ((L.take k).foldl lnI key) (L.getD k zT) := by
  rw [List.take_add_one, List.foldl_append, getT hk]; rfl
theorem lnI_in {tag : Int} {s : ByteArray} (ht : inB tag = true) (h : s.size ≤ 200) : lnI tag s = hs s tag (s.size + 7) ∧ inB (lnI tag s) = true := by
  have e : lnI tag s = hs s tag (s.size + 7) := by unfold lnI slI; rw [if_pos h, if_pos ht]
  exact ⟨e, by rw [e]; exact inB_t.mpr (hs_bd (inB_t.mp ht) _)⟩
theorem fold_long {L : List ByteArray} {k : Nat} {key : Int} (hk : k < L.length) (h : 200 < (L.getD k zT).size) : L.foldl lnI key = -1 := by
  have e : L = L.take (k + 1) ++ L.drop (k + 1) := (List.take_append_drop ..).symm
  rw [e, List.foldl_append, fold_take hk]
  have : lnI ((L.take k).foldl lnI key) (L.getD k zT) = -1 := by unfold lnI; rw [if_neg (by omega)]
  rw [this, fold_no]

end Go.Proofs.YtbkiogedipmioaaGreat.V
namespace Go.Proofs.YtbkiogedipmioaaGreat.V
open Go.RowKit Go.Joins M
attribute [local go_sem] Oper.semAt_some

/-- A slice, as it lies in a cell. -/
structure Sv where
  p : Option Addr
  n : Nat
  c : Nat
def Sv.v (s : Sv) : Value := .slice s.p s.n s.c
def kC : Kd T3 := ⟨89, 3, fun c => [.int .i64 c.l, .int .i64 c.x, .int .i64 c.y], fun _ => rfl⟩
def kQ : Kd (Cl × Sv × Sv) := ⟨110, 3, fun q => [.slice q.2.1.p q.2.1.n q.2.1.c, .slice q.2.2.p q.2.2.n q.2.2.c, .int .i64 q.1.un], fun _ => rfl⟩
theorem info89 : (Tryz.prog.info? 89).map (fun i => (i.zero, i.size, i.bytes)) = some (some (.agg #[.int .i64 0, .int .i64 0, .int .i64 0]), 3, 24) := by kernel_rfl
theorem info110 : (Tryz.prog.info? 110).map (fun i => (i.zero, i.size, i.bytes)) = some (some (.agg #[.slice none 0 0, .slice none 0 0, .int .i64 0]), 3, 56) := by kernel_rfl
theorem CsG.c3 {w : World} {g off : Nat} {L : List T3} (h : CsG kC w g off L) {k : Nat} {c : T3} (hk : L[k]? = some c) : w.cell? ⟨g, off + k * 3, none⟩ = some (.int .i64 c.l) ∧ w.cell? ⟨g, off + k * 3 + 1, none⟩ = some (.int .i64 c.x) ∧ w.cell? ⟨g, off + k * 3 + 2, none⟩ = some (.int .i64 c.y) :=
  ⟨h.at hk (i := 0) rfl, h.at hk (i := 1) rfl, h.at hk (i := 2) rfl⟩
theorem CsG.q3 {w : World} {g off : Nat} {L : List (Cl × Sv × Sv)} (h : CsG kQ w g off L) {k : Nat} {q : Cl × Sv × Sv} (hk : L[k]? = some q) : w.cell? ⟨g, off + k * 3, none⟩ = some (.slice q.2.1.p q.2.1.n q.2.1.c) ∧ w.cell? ⟨g, off + k * 3 + 1, none⟩ = some (.slice q.2.2.p q.2.2.n q.2.2.c) ∧ w.cell? ⟨g, off + k * 3 + 2, none⟩ = some (.int .i64 q.1.un) :=
  ⟨h.at hk (i := 0) rfl, h.at hk (i := 1) rfl, h.at hk (i := 2) rfl⟩
def z3 : T3 := ⟨0, 0, 0⟩
theorem getC {L : List T3} {k : Nat} (hk : k < L.length) : L[k]? = some (L.getD k z3) := by simp [List.getD, hk]
theorem all_take {α : Type} {L : List α} {f : α → Bool} {k : Nat} (hk : k < L.length) : (L.take (k + 1)).all f = ((L.take k).all f && f L[k]) := by
  rw [List.take_succ_eq_append_getElem hk, List.all_append]; simp
theorem all_no {α : Type} {L : List α} {f : α → Bool} {k : Nat} (hk : k < L.length) (h : f L[k] = false) : L.all f = false := by
  rw [Bool.eq_false_iff]; intro h2; rw [List.all_eq_true] at h2; have := h2 L[k] (List.getElem_mem hk); rw [h] at this; cases this
theorem iCell_v {l x y : Int} {v : Bool} (hv : M.cellB l x y = v) (w : World) :
    Calls Tryz.prog 85 #[.agg #[.int .i64 l, .int .i64 x, .int .i64 y]] w fun e w' => e = .returned (.bool v) ∧ Below w.heap.size w w' := by subst hv; exact M.isRight_any l x y w
theorem sCell_v {l x y : Int} {v : Bool} (hv : M.cellB l x y = v) (w : World) :
    Calls Tryz.prog 125 #[.agg #[.int .i64 l, .int .i64 x, .int .i64 y]] w fun e w' => e = .returned (.bool v) ∧ Below w.heap.size w w' := by subst hv; exact M.sCellOk_any l x y w
theorem below_drewN {B : Nat} {a w : World} (h : Below B a w) (n : Nat) : Below B a (w.drewN n) := h.trans ⟨rfl, rfl, rfl, Nat.le_refl _, fun _ _ => rfl⟩
theorem bstepA {B : Nat} {W w1 w2 : World} {o : Obj} (h : Below B W w1) (hb : Below (w1.alloc o).heap.size (w1.alloc o) w2) (hB : B ≤ W.heap.size) : Below B W w2 :=
  bstep (h.alloc (Nat.le_trans hB h.size) o) hb hB
theorem ba1 {w w1 : World} {o : Obj} (hb : Below (w.alloc o).heap.size (w.alloc o) w1) : Below w.heap.size w w1 := (below_alloc1 w o).trans (hb.mono (by simp))

set_option maxHeartbeats 1000000 in
theorem areRight_any (p : Option Addr) (cap : Nat) (L : List T3) (n : Nat) (hn : L.length = n) (w : World) (hL : SlG kC w p L) (hb0 : n ≤ 10000000) :
    Calls Tryz.prog 48 #[.slice p n cap] w fun e w' => e = .returned (.bool (okL L)) ∧ Below w.heap.size w w' := by
  subst hn
  by_cases h100 : L.length ≤ 100
  · have hi : (L.length : Int) ≤ 100 := by omega
    go_enter Tryz.func48, Tryz.ntmps48
    go_wp2
    go_loopw [10] (fun i wr => ∃ k : Nat, k ≤ L.length ∧ i = .int .i64 k ∧ (L.take k).all T3.ok = true ∧ Below w.heap.size w wr) (fun i _ => L.length - (intOf i).toNat)
    case atStart => exact ⟨0, by omega, rfl, rfl, Below.refl _ _⟩
    case round =>
      obtain ⟨k, hk, rfl, hall, hb⟩ := hrel
      by_cases hlt : k < L.length
      · have hki : (k : Int) < L.length := by omega
        obtain ⟨g, off, rfl, hC⟩ := (hL.step hb).at hlt
        obtain ⟨c0, c1, c2⟩ := hC.c3 (List.getElem?_eq_getElem hlt)
        cases hv : T3.ok L[k]
        · go_wp2_with (go_at_call 85; refine (iCell_v hv _).mono ?_; rintro e w1 ⟨rfl, hb2⟩)
          go_ret
          exact ⟨ret_bool (by rw [okL, all_no hlt hv, Bool.and_false]), bstepA hb hb2 (Nat.le_refl _)⟩
        · go_wp2_with (go_at_call 85; refine (iCell_v hv _).mono ?_; rintro e w1 ⟨rfl, hb2⟩)
          go_roundw
          case rel => exact ⟨k + 1, by omega, by go_num, by rw [all_take hlt, hall, hv]; rfl, bstepA hb hb2 (Nat.le_refl _)⟩
          case measure => simp [intOf]; omega
      · obtain rfl : k = L.length := by omega
        go_wp2
        go_ret
        rw [List.take_length] at hall
        exact ⟨ret_bool (by rw [okL, hall, decide_eq_true h100]; rfl), hb⟩
  · have hi : ¬ (L.length : Int) ≤ 100 := by omega
    go_enter Tryz.func48, Tryz.ntmps48
    go_wp2
    go_ret
    exact ⟨ret_bool (by rw [okL, decide_eq_false h100]; rfl), Below.refl _ _⟩
set_option maxHeartbeats 1000000 in
theorem l3Cells_any (p : Option Addr) (cap : Nat) (L : List T3) (n : Nat) (hn : L.length = n) (w : World) (hL : SlG kC w p L) (hb0 : n ≤ 10000000) :
    Calls Tryz.prog 115 #[.slice p n cap] w fun e w' => e = .returned (.bool (okL L)) ∧ Below w.heap.size w w' := by
  subst hn
  go_enter Tryz.func115, Tryz.ntmps115
  go_wp2
  go_loopw [3] (fun i wr => ∃ k : Nat, k ≤ L.length ∧ i = .int .i64 k ∧ (L.take k).all T3.ok = true ∧ Below w.heap.size w wr) (fun i _ => L.length - (intOf i).toNat)
  case atStart => exact ⟨0, by omega, rfl, rfl, Below.refl _ _⟩
  case round =>
    obtain ⟨k, hk, rfl, hall, hb⟩ := hrel
    by_cases hlt : k < L.length
    · have hki : (k : Int) < L.length := by omega
      obtain ⟨g, off, rfl, hC⟩ := (hL.step hb).at hlt
      obtain ⟨c0, c1, c2⟩ := hC.c3 (List.getElem?_eq_getElem hlt)
      cases hv : T3.ok L[k]
      · go_wp2_with (go_at_call 125; refine (sCell_v hv _).mono ?_; rintro e w1 ⟨rfl, hb2⟩)
        go_ret
        exact ⟨ret_bool (by rw [okL, all_no hlt hv, Bool.and_false]), bstep hb hb2 (Nat.le_refl _)⟩
      · go_wp2_with (go_at_call 125; refine (sCell_v hv _).mono ?_; rintro e w1 ⟨rfl, hb2⟩)
        go_roundw
        case rel => exact ⟨k + 1, by omega, by go_num, by rw [all_take hlt, hall, hv]; rfl, bstep hb hb2 (Nat.le_refl _)⟩
        case measure => simp [intOf]; omega
    · obtain rfl : k = L.length := by omega
      go_wp2
      go_ret
      rw [List.take_length] at hall
      exact ⟨ret_bool (by rw [okL, hall, Bool.and_true]; exact decide_eq_decide.mpr (by omega)), hb⟩
theorem isTime_any (n : Int) (w : World) : Calls Tryz.prog 34 #[.int .i64 n] w fun e w' => e = .returned (.bool (timeB n)) ∧ w' = w := by
  go_enter Tryz.func34, Tryz.ntmps34
  go_wp2
  all_goals (go_ret; exact ⟨ret_bool (by unfold timeB; first | exact (decide_eq_true (by omega)).symm | exact (decide_eq_false (by omega)).symm | exact decide_eq_decide.mpr (by omega)), rfl⟩)
theorem isTime_v {n : Int} {v : Bool} (hv : timeB n = v) (w : World) : Calls Tryz.prog 34 #[.int .i64 n] w fun e w' => e = .returned (.bool v) ∧ w' = w := hv ▸ isTime_any n w
theorem areRight_v {L : List T3} {v : Bool} (hv : okL L = v) (p : Option Addr) (cap n : Nat) (hn : L.length = n) (w : World) (hL : SlG kC w p L) (hb0 : n ≤ 10000000) :
    Calls Tryz.prog 48 #[.slice p n cap] w fun e w' => e = .returned (.bool v) ∧ Below w.heap.size w w' := hv ▸ areRight_any p cap L n hn w hL hb0
theorem l3Cells_v {L : List T3} {v : Bool} (hv : okL L = v) (p : Option Addr) (cap n : Nat) (hn : L.length = n) (w : World) (hL : SlG kC w p L) (hb0 : n ≤ 10000000) :
    Calls Tryz.prog 115 #[.slice p n cap] w fun e w' => e = .returned (.bool v) ∧ Below w.heap.size w w' := hv ▸ l3Cells_any p cap L n hn w hL hb0
theorem ofB_eq {L : List T3} {n : Nat} (hn : L.length = n) : ofB L = (decide (n ≤ 8) && okL L) := by unfold ofB; rw [hn]
theorem isOfClause_v {L : List T3} {v : Bool} (hv : ofB L = v) (p : Option Addr) (cap n : Nat) (hn : L.length = n) (w : World) (hL : SlG kC w p L) (hb0 : n ≤ 10000000) :
    Calls Tryz.prog 128 #[.slice p n cap] w fun e w' => e = .returned (.bool v) ∧ Below w.heap.size w w' := by
  rw [ofB_eq hn] at hv
  have HC : Hid (∀ v, okL L = v → Calls Tryz.prog 48 #[.slice p n cap] w fun e w' => e = .returned (.bool v) ∧ Below w.heap.size w w') := fun v h => areRight_v h p cap n hn w hL hb0
  clear hn
  by_cases h8 : n ≤ 8
  · have h8' : (n : Int) ≤ 8 := by omega
    rw [decide_eq_true h8, Bool.true_and] at hv
    go_enter Tryz.func128, Tryz.ntmps128
    go_wp2_with (go_at_call 48; refine (HC.out v hv).mono ?_; rintro e w1 ⟨rfl, hb2⟩)
    all_goals (go_ret; exact ⟨rfl, hb2⟩)
  · have h8' : ¬ (n : Int) ≤ 8 := by omega
    rw [decide_eq_false h8, Bool.false_and] at hv
    subst hv
    go_enter Tryz.func128, Tryz.ntmps128
    go_wp2
    go_ret
    exact ⟨rfl, Below.refl _ _⟩
end Go.Proofs.YtbkiogedipmioaaGreat.V
