/-
  Records: which comes first, are all right, do they rise.
-/
import Derived.Test.YtobbankkfplooaaGreatKRG
import Derived.Deep.AppendLies
import Derived.Test.YtobbankkfplooaaGreatKRX
import Derived.Deep.RegionHeld3
import Derived.Lib.Hide
namespace Go.Proofs.YtobbankkfplooaaGreat.K
open Go.RowKit Go.Joins

def kI : Kd Int := ⟨2, 1, fun n => [.int .i64 n], fun _ => rfl⟩
def kU : Kd Int := ⟨5, 1, fun n => [.int .u8 n], fun _ => rfl⟩
def kT : Kd ByteArray := ⟨9, 1, fun s => [.string s], fun _ => rfl⟩
theorem info2 : (Tryz.prog.info? 2).map (fun i => (i.zero, i.size, i.bytes)) = some (some (.int .i64 0), 1, 8) := by kernel_rfl
theorem info5 : (Tryz.prog.info? 5).map (fun i => (i.zero, i.size, i.bytes)) = some (some (.int .u8 0), 1, 1) := by kernel_rfl
theorem info9 : (Tryz.prog.info? 9).map (fun i => (i.zero, i.size, i.bytes)) = some (some (.string ByteArray.empty), 1, 16) := by kernel_rfl
theorem CsG.int {w : World} {g off : Nat} {L : List Int} (h : CsG kI w g off L) {k : Nat} {n : Int} (hk : L[k]? = some n) : w.cell? ⟨g, off + k, none⟩ = some (.int .i64 n) := by
  have := h.at hk (i := 0) (u := .int .i64 n) rfl
  simpa [kI] using this
theorem CsG.u8 {w : World} {g off : Nat} {L : List Int} (h : CsG kU w g off L) {k : Nat} {n : Int} (hk : L[k]? = some n) : w.cell? ⟨g, off + k, none⟩ = some (.int .u8 n) := by
  have := h.at hk (i := 0) (u := .int .u8 n) rfl
  simpa [kU] using this
theorem CsG.str {w : World} {g off : Nat} {L : List ByteArray} (h : CsG kT w g off L) {k : Nat} {s : ByteArray} (hk : L[k]? = some s) : w.cell? ⟨g, off + k, none⟩ = some (.string s) := by
  have := h.at hk (i := 0) (u := .string s) rfl
  simpa [kT] using this
/-- A cell of a row of one's own is written. -/
theorem own_set {W : World} {base size n g cap : Nat} {e : TypeId} {xs : List Value} (h : W.ownsRow base e size (.slice (some ⟨g, 0, none⟩) n cap) n xs) (j : Nat) (u : Value) :
    (W.setCell ⟨g, j, none⟩ u).ownsRow base e size (.slice (some ⟨g, 0, none⟩) n cap) n (xs.set j u) ∧ W.grownBy (W.setCell ⟨g, j, none⟩ u) (some g) := World.ownsRow.stored h j u
theorem own_lit (W : World) (cs : Array Value) (e : TypeId) (size n : Nat) (hs : cs.size = n * size) (hm : n ≤ 1000000) : (W.alloc (.cells cs e)).ownsRow W.heap.size e size (.slice (some ⟨W.heap.size, 0, none⟩) n n) n cs.toList := by
  exact World.ownsRow_lit (base := W.heap.size) (e := e) (size := size) W cs n (Nat.le_refl _) (by unfold maxLen; omega) hs

/-- What an append has to know of a kind of element. -/
structure Ap {α : Type} (K : Kd α) (ts : TypeId) (z : Value) (bytes : Nat) : Prop where
  und : Tryz.prog.underlying ts = some (.slice K.t)
  inf : (Tryz.prog.info? K.t).map (fun i => (i.zero, i.size, i.bytes)) = some (some z, K.n, bytes)
  zs : z.cells.size = K.n
  pos : 0 < K.n
  small : bytes ≤ 64
theorem appI : Ap kI 25 (.int .i64 0) 8 := ⟨Tryz.underlying25, info2, rfl, by decide, by decide⟩
theorem appU : Ap kU 22 (.int .u8 0) 1 := ⟨Tryz.underlying22, info5, rfl, by decide, by decide⟩
section
variable {α : Type} {K : Kd α} {ts : TypeId} {z : Value} {bytes : Nat}
theorem sg_app (hA : Ap K ts z bytes) {w W0 W : World} {A Bs : List Rw} {v : Value} {M B : List α} {n m : Nat} (hS : Sg w W0 (A ++ rG K v M :: Bs)) (hb : Below W0.heap.size W0 W) (hn : M.length = n) (hm : B.length = m) (ad : Addr) (c : Nat)
    (hsrc : ∀ j u, (K.flat B)[j]? = some u → W.cell? (ad.add j) = some u) (h1 : ∀ u ∈ K.flat B, u.oneCell' = true) (hne : 0 < m ∨ ¬ v = .slice none 0 0) (hl : n + m ≤ 1000000) (ty : TypeId) :
    ∃ g cap w', (Builtin.append_ #[ts, ts] ty #[v, .slice (some ad) m c]).run Tryz.prog W = .ok (.slice (some ⟨g, 0, none⟩) (n + m) cap) w' ∧ Sg w w' (A ++ rG K (.slice (some ⟨g, 0, none⟩) (n + m) cap) (M ++ B) :: Bs) ∧ W.grownBy w' v.ownBlock ∧ (v.ownBlock = some g ∨ g = W.heap.size) := by
  obtain ⟨i0, hi, hz0, hz1, hz2⟩ := info_parts hA.inf
  have hS1 := hS.step hb
  have hown : OwG K W w.heap.size v M := hS1.own (rG K v M) (by simp)
  have hsm := hA.small
  obtain ⟨v', w', r1, r2, r3, r4, r5⟩ := run_append_own_at (P := Tryz.prog) W w.heap.size ts ty K.t i0 z K.n bytes hA.und hi hz0 hz1 hz2 hA.zs hA.pos v M.length (K.flat M) hown ad m c (K.flat B) (by rw [Kd.flat_len, hm]) hsrc h1 (by unfold maxLen; omega) (by
    have : (M.length + m) * bytes ≤ 1000000 * 64 := Nat.mul_le_mul (by omega) hsm
    omega) hS1.bel.size
  have hv' : ¬ v' = .slice none 0 0 := fun e => by
    rcases hne with h | h
    · have := (r4.mp e); omega
    · exact h (r4.mp e).1
  rcases r2.2 with ⟨e, _⟩ | ⟨g, cap, cur, e, _⟩
  · exact absurd e hv'
  · subst e
    have hat : v.ownBlock = some g ∨ g = W.heap.size := by
      rcases r5 with h | h
      · exact .inl (by rw [← h]; rfl)
      · right; simpa [Value.ownBlock] using h
    subst hn
    refine ⟨g, cap, w', r1, ?_, r3, hat⟩
    refine hS1.app (r' := rG K (.slice (some ⟨g, 0, none⟩) (M.length + m) cap) (M ++ B)) ?_ r3 (fun gg e => ?_)
    · unfold Rw.own rG
      simp only [List.length_append, Kd.flat_append, hm]
      exact r2
    · have e' : g = gg := Option.some.inj e
      subst e'
      rcases hat with h | h
      · exact .inl h
      · right; rw [h]; exact Nat.le_refl _
theorem wp_sgapp (hA : Ap K ts z bytes) {o : Oper} {a : Act} {KK : Act → World → Prop} {Q : Exit → Act → World → Prop} (s x : Operand) (ho : o.op = .call { callee := .builtin .append, args := #[s, x], argTypes := #[ts, ts] })
    {w W0 W : World} {A Bs : List Rw} {v : Value} {M B : List α} {n m : Nat} (hS : Sg w W0 (A ++ rG K v M :: Bs)) (hb : Below W0.heap.size W0 W) (hn : M.length = n) (hm : B.length = m) (hs : a.eval s = v) (ad : Addr) (c : Nat) (hx : a.eval x = .slice (some ad) m c)
    (hsrc : ∀ j u, (K.flat B)[j]? = some u → W.cell? (ad.add j) = some u) (h1 : ∀ u ∈ K.flat B, u.oneCell' = true) (hne : 0 < m ∨ ¬ v = .slice none 0 0) (hl : n + m ≤ 1000000)
    (h : ∀ g cap w', Sg w w' (A ++ rG K (.slice (some ⟨g, 0, none⟩) (n + m) cap) (M ++ B) :: Bs) → W.grownBy w' v.ownBlock → (v.ownBlock = some g ∨ g = W.heap.size) → KK (a.put o.dst (.slice (some ⟨g, 0, none⟩) (n + m) cap)) w') : o.wp Tryz.prog a W KK Q := by
  obtain ⟨g, cap, w', hr, h2, h3, h4⟩ := sg_app hA hS hb hn hm ad c hsrc h1 hne hl o.type
  unfold Oper.wp execOp
  simp only [ho, resolve, invoke, builtin, Sem.run_bind, Sem.run_pure, Result.andThen_ok, List.map_toArray, List.map_cons, List.map_nil, hs, hx, hr]
  exact h g cap w' h2 h3 h4
theorem wpList_sgapp (hA : Ap K ts z bytes) {ops : Array Oper} {rest : List Oper} {o : Oper} {a : Act} {Q : Exit → Act → World → Prop} (hgd : o.guard = none) (s x : Operand) (ho : o.op = .call { callee := .builtin .append, args := #[s, x], argTypes := #[ts, ts] })
    {w W0 W : World} {A Bs : List Rw} {v : Value} {M B : List α} {n m : Nat} (hS : Sg w W0 (A ++ rG K v M :: Bs)) (hb : Below W0.heap.size W0 W) (hn : M.length = n) (hm : B.length = m) (hs : a.eval s = v) (ad : Addr) (c : Nat) (hx : a.eval x = .slice (some ad) m c)
    (hsrc : ∀ j u, (K.flat B)[j]? = some u → W.cell? (ad.add j) = some u) (h1 : ∀ u ∈ K.flat B, u.oneCell' = true) (hne : 0 < m ∨ ¬ v = .slice none 0 0) (hl : n + m ≤ 1000000)
    (h : ∀ g cap w', Sg w w' (A ++ rG K (.slice (some ⟨g, 0, none⟩) (n + m) cap) (M ++ B) :: Bs) → W.grownBy w' v.ownBlock → (v.ownBlock = some g ∨ g = W.heap.size) → wpList Tryz.prog ops Q rest (a.put o.dst (.slice (some ⟨g, 0, none⟩) (n + m) cap)) w') : wpList Tryz.prog ops Q (o :: rest) a W :=
  wpList_plain hgd fun _ hK => wp_sgapp hA s x ho hS hb hn hm hs ad c hx hsrc h1 hne hl fun g cap w' h2 h3 h4 => hK _ _ (h g cap w' h2 h3 h4)
theorem step_sgapp (hA : Ap K ts z bytes) {ops : Array Oper} {o : Oper} {a : Act} {KK : Act → World → Prop} {Q : Exit → Act → World → Prop} {E : Prop} (hgd : o.guard = none) (s x : Operand) (ho : o.op = .call { callee := .builtin .append, args := #[s, x], argTypes := #[ts, ts] })
    {w W0 W : World} {A Bs : List Rw} {v : Value} {M B : List α} {n m : Nat} (hS : Sg w W0 (A ++ rG K v M :: Bs)) (hb : Below W0.heap.size W0 W) (hn : M.length = n) (hm : B.length = m) (hs : a.eval s = v) (ad : Addr) (c : Nat) (hx : a.eval x = .slice (some ad) m c)
    (hsrc : ∀ j u, (K.flat B)[j]? = some u → W.cell? (ad.add j) = some u) (h1 : ∀ u ∈ K.flat B, u.oneCell' = true) (hne : 0 < m ∨ ¬ v = .slice none 0 0) (hl : n + m ≤ 1000000)
    (h : ∀ g cap w', Sg w w' (A ++ rG K (.slice (some ⟨g, 0, none⟩) (n + m) cap) (M ++ B) :: Bs) → W.grownBy w' v.ownBlock → (v.ownBlock = some g ∨ g = W.heap.size) → KK (a.put o.dst (.slice (some ⟨g, 0, none⟩) (n + m) cap)) w') :
    if Region.wanted o (yielded ops a.tmps) = true then Oper.wp Tryz.prog o a W KK Q else E := by
  have hw : Region.wanted o (yielded ops a.tmps) = true := by simp [Region.wanted, hgd]
  rw [if_pos hw]
  exact wp_sgapp hA s x ho hS hb hn hm hs ad c hx hsrc h1 hne hl h
/-- A literal of one element. -/
theorem lit_src {W : World} {xs : List Value} {t : TypeId} {g : Nat} (hg : g = W.heap.size) : ∀ j u, xs[j]? = some u → (W.alloc (.cells xs.toArray t)).cell? ((⟨g, 0, none⟩ : Addr).add j) = some u := by
  subst hg
  intro j u hj
  have ea : (⟨W.heap.size, 0, none⟩ : Addr).add j = ⟨W.heap.size, j, none⟩ := by unfold Addr.add; split <;> simp_all
  rw [ea, World.cell?_alloc_at _ _ _ _ rfl]
  simpa using hj
theorem cs_src {w : World} {g off : Nat} {L : List α} (h : CsG K w g off L) : ∀ j u, (K.flat L)[j]? = some u → w.cell? ((⟨g, off, none⟩ : Addr).add j) = some u := fun j u hj => by
  have ea : (⟨g, off, none⟩ : Addr).add j = ⟨g, off + j, none⟩ := by unfold Addr.add; split <;> simp_all
  rw [ea]; exact h.2 j u hj
theorem Sg.lit {w W : World} {rs : List Rw} (h : Sg w W rs) (K : Kd α) (L : List α) (n : Nat) (hn : L.length = n) (hm : n ≤ 1000000) (cs : Array Value) (hc : cs.toList = K.flat L) : Sg w (W.alloc (.cells cs K.t)) (rG K (.slice (some ⟨W.heap.size, 0, none⟩) n n) L :: rs) := by
  refine h.add (r := rG K (.slice (some ⟨W.heap.size, 0, none⟩) n n) L) ?_ (below_alloc1 _ _)
  unfold Rw.own rG
  simp only [hn, ← hc]
  refine own_lit W cs K.t K.n n ?_ hm
  have : cs.toList.length = n * K.n := by rw [hc, Kd.flat_len, hn]
  simpa using this
theorem Sg.set {w W : World} {A Bs : List Rw} {g n cap : Nat} {L L' : List α} (h : Sg w W (A ++ rG K (.slice (some ⟨g, 0, none⟩) n cap) L :: Bs)) (j : Nat) (u : Value) (hl : L'.length = L.length) (hf : K.flat L' = (K.flat L).set j u) : Sg w (W.setCell ⟨g, j, none⟩ u) (A ++ rG K (.slice (some ⟨g, 0, none⟩) n cap) L' :: Bs) := by
  have ho : OwG K W w.heap.size (.slice (some ⟨g, 0, none⟩) n cap) L := h.own (rG K (.slice (some ⟨g, 0, none⟩) n cap) L) (by simp)
  have hn := OwG.len ho
  subst hn
  obtain ⟨h1, h2⟩ := own_set ho j u
  refine h.put (r' := rG K (.slice (some ⟨g, 0, none⟩) L.length cap) L') rfl ?_ h2
  unfold Rw.own rG
  simp only [hl, hf]
  exact h1
end
theorem Sg.setRaw {w W : World} {A Bs : List Rw} {g n c s : Nat} {e : TypeId} {xs : List Value} (h : Sg w W (A ++ ⟨.slice (some ⟨g, 0, none⟩) n c, e, s, n, xs⟩ :: Bs)) (j : Nat) (u : Value) : Sg w (W.setCell ⟨g, j, none⟩ u) (A ++ ⟨.slice (some ⟨g, 0, none⟩) n c, e, s, n, xs.set j u⟩ :: Bs) := by
  have ho : W.ownsRow w.heap.size e s (.slice (some ⟨g, 0, none⟩) n c) n xs := h.own ⟨.slice (some ⟨g, 0, none⟩) n c, e, s, n, xs⟩ (by simp)
  obtain ⟨h1, h2⟩ := own_set ho j u
  exact h.put (r' := ⟨.slice (some ⟨g, 0, none⟩) n c, e, s, n, xs.set j u⟩) rfl h1 h2
theorem OwG.fz {α : Type} {K : Kd α} {W : World} {base g n c : Nat} {L : List α} (h : OwG K W base (.slice (some ⟨g, 0, none⟩) n c) L) : ∀ j, W.frozen? ⟨g, j, none⟩ = false := by
  have hn := OwG.len h
  subst hn
  exact h.frozenAt

section
variable {α : Type} {K : Kd α} {ts : TypeId} {z : Value} {bytes : Nat}
theorem wpList_sgapp0 (hA : Ap K ts z bytes) {ops : Array Oper} {rest : List Oper} {o : Oper} {a : Act} {Q : Exit → Act → World → Prop} (hgd : o.guard = none) (s x : Operand) (ho : o.op = .call { callee := .builtin .append, args := #[s, x], argTypes := #[ts, ts] })
    {w W0 W : World} {A Bs : List Rw} {v : Value} {B : List α} {m : Nat} (hS : Sg w W0 (A ++ rG K v [] :: Bs)) (hb : Below W0.heap.size W0 W) (hm : B.length = m) (hs : a.eval s = v) (ad : Addr) (c : Nat) (hx : a.eval x = .slice (some ad) m c)
    (hsrc : ∀ j u, (K.flat B)[j]? = some u → W.cell? (ad.add j) = some u) (h1 : ∀ u ∈ K.flat B, u.oneCell' = true) (hne : 0 < m ∨ ¬ v = .slice none 0 0) (hl : m ≤ 1000000)
    (h : ∀ g cap w', Sg w w' (A ++ rG K (.slice (some ⟨g, 0, none⟩) m cap) B :: Bs) → W.grownBy w' v.ownBlock → (v.ownBlock = some g ∨ g = W.heap.size) → wpList Tryz.prog ops Q rest (a.put o.dst (.slice (some ⟨g, 0, none⟩) m cap)) w') : wpList Tryz.prog ops Q (o :: rest) a W :=
  wpList_sgapp hA hgd s x ho (M := []) (n := 0) hS hb rfl hm hs ad c hx hsrc h1 hne (by omega) fun g cap w' h2 h3 h4 => by
    rw [Nat.zero_add] at h2 ⊢
    exact h g cap w' (by simpa using h2) h3 h4
theorem step_sgapp0 (hA : Ap K ts z bytes) {ops : Array Oper} {o : Oper} {a : Act} {KK : Act → World → Prop} {Q : Exit → Act → World → Prop} {E : Prop} (hgd : o.guard = none) (s x : Operand) (ho : o.op = .call { callee := .builtin .append, args := #[s, x], argTypes := #[ts, ts] })
    {w W0 W : World} {A Bs : List Rw} {v : Value} {B : List α} {m : Nat} (hS : Sg w W0 (A ++ rG K v [] :: Bs)) (hb : Below W0.heap.size W0 W) (hm : B.length = m) (hs : a.eval s = v) (ad : Addr) (c : Nat) (hx : a.eval x = .slice (some ad) m c)
    (hsrc : ∀ j u, (K.flat B)[j]? = some u → W.cell? (ad.add j) = some u) (h1 : ∀ u ∈ K.flat B, u.oneCell' = true) (hne : 0 < m ∨ ¬ v = .slice none 0 0) (hl : m ≤ 1000000)
    (h : ∀ g cap w', Sg w w' (A ++ rG K (.slice (some ⟨g, 0, none⟩) m cap) B :: Bs) → W.grownBy w' v.ownBlock → (v.ownBlock = some g ∨ g = W.heap.size) → KK (a.put o.dst (.slice (some ⟨g, 0, none⟩) m cap)) w') :
    if Region.wanted o (yielded ops a.tmps) = true then Oper.wp Tryz.prog o a W KK Q else E :=
  step_sgapp hA hgd s x ho (M := []) (n := 0) hS hb rfl hm hs ad c hx hsrc h1 hne (by omega) fun g cap w' h2 h3 h4 => by
    rw [Nat.zero_add] at h2 ⊢
    exact h g cap w' (by simpa using h2) h3 h4
end
end Go.Proofs.YtobbankkfplooaaGreat.K
namespace Go.Proofs.YtobbankkfplooaaGreat.K
open Go.RowKit Go.Joins
attribute [local go_sem] Oper.semAt_some

/-- A Record as a value. -/
abbrev Rc.v (r : Rc) : Value := .agg #[.int .i64 r.t, .int .i64 r.i, .int .i64 r.x, .int .i64 r.y, .string r.s]
theorem getR {L : List Rc} {k : Nat} (hk : k < L.length) : L[k]? = some (L.getD k zrc) := by simp [List.getD, hk]
theorem all_take {α : Type} {L : List α} {f : α → Bool} {k : Nat} (hk : k < L.length) : (L.take (k + 1)).all f = ((L.take k).all f && f L[k]) := by
  rw [List.take_succ_eq_append_getElem hk, List.all_append]; simp
theorem all_no {α : Type} {L : List α} {f : α → Bool} {k : Nat} {a : α} (hk : L[k]? = some a) (h : f a = false) : L.all f = false := by
  rw [Bool.eq_false_iff]; intro h2; rw [List.all_eq_true] at h2; have := h2 a (List.mem_of_getElem? hk); rw [h] at this; cases this
theorem bstepA {B : Nat} {W w1 w2 : World} {o : Obj} (h : Below B W w1) (hb : Below (w1.alloc o).heap.size (w1.alloc o) w2) (hB : B ≤ W.heap.size) : Below B W w2 :=
  bstep (h.alloc (Nat.le_trans hB h.size) o) hb hB
theorem ba1 {w w1 : World} {o : Obj} (hb : Below (w.alloc o).heap.size (w.alloc o) w1) : Below w.heap.size w w1 := (below_alloc1 w o).trans (hb.mono (by simp))

theorem isTenant_any (n : Int) (w : World) : Calls Tryz.prog 101 #[.int .i64 n] w fun e w' => e = .returned (.bool (rgB n 1 99)) ∧ w' = w := by
  go_enter Tryz.func101, Tryz.ntmps101
  go_wp2
  all_goals (go_ret; exact ⟨ret_bool (by unfold rgB; first | exact (decide_eq_true (by omega)).symm | exact (decide_eq_false (by omega)).symm | exact decide_eq_decide.mpr (by omega)), rfl⟩)
theorem isId_any (n : Int) (w : World) : Calls Tryz.prog 102 #[.int .i64 n] w fun e w' => e = .returned (.bool (rgB n 1 100000)) ∧ w' = w := by
  go_enter Tryz.func102, Tryz.ntmps102
  go_wp2
  all_goals (go_ret; exact ⟨ret_bool (by unfold rgB; first | exact (decide_eq_true (by omega)).symm | exact (decide_eq_false (by omega)).symm | exact decide_eq_decide.mpr (by omega)), rfl⟩)
theorem l1In_any (n a b : Int) (w : World) : Calls Tryz.prog 49 #[.int .i64 n, .int .i64 a, .int .i64 b] w fun e w' => e = .returned (.bool (rgB n a b)) ∧ w' = w := by
  go_enter Tryz.func49, Tryz.ntmps49
  go_wp2
  all_goals (go_ret; exact ⟨ret_bool (by unfold rgB; first | exact (decide_eq_true (by omega)).symm | exact (decide_eq_false (by omega)).symm | exact decide_eq_decide.mpr (by omega)), rfl⟩)
theorem isTenant_v {n : Int} {v : Bool} (hv : rgB n 1 99 = v) (w : World) : Calls Tryz.prog 101 #[.int .i64 n] w fun e w' => e = .returned (.bool v) ∧ w' = w := hv ▸ isTenant_any n w
theorem isId_v {n : Int} {v : Bool} (hv : rgB n 1 100000 = v) (w : World) : Calls Tryz.prog 102 #[.int .i64 n] w fun e w' => e = .returned (.bool v) ∧ w' = w := hv ▸ isId_any n w
theorem l1In_v {n a b : Int} {v : Bool} (hv : rgB n a b = v) (w : World) : Calls Tryz.prog 49 #[.int .i64 n, .int .i64 a, .int .i64 b] w fun e w' => e = .returned (.bool v) ∧ w' = w := hv ▸ l1In_any n a b w
theorem spotB_eq (x y : Int) : spotB x y = decide (0 ≤ x ∧ x ≤ 255 ∧ 0 ≤ y ∧ y ≤ 255) := by unfold spotB rgB; rw [← Bool.decide_and]; exact decide_eq_decide.mpr (by omega)
theorem isSpot_any (x y : Int) (w : World) : Calls Tryz.prog 115 #[.agg #[.int .i64 x, .int .i64 y]] w fun e w' => e = .returned (.bool (spotB x y)) ∧ Below w.heap.size w w' := by
  go_enter Tryz.func115, Tryz.ntmps115
  go_wp2
  all_goals (go_ret; exact ⟨ret_bool (by rw [spotB_eq]; first | exact (decide_eq_true (by omega)).symm | exact (decide_eq_false (by omega)).symm | exact decide_eq_decide.mpr (by omega)), below_alloc1 _ _⟩)
theorem l1Spot_any (x y : Int) (w : World) : Calls Tryz.prog 92 #[.agg #[.int .i64 x, .int .i64 y]] w fun e w' => e = .returned (.bool (spotB x y)) ∧ Below w.heap.size w w' := by
  cases h1 : rgB x 0 255 <;> cases h2 : rgB y 0 255
  all_goals
    go_enter Tryz.func92, Tryz.ntmps92
    go_wp2_with (go_at_call 49; refine (l1In_v (by assumption) _).mono ?_; rintro e w1 ⟨rfl, rfl⟩)
    go_ret
    exact ⟨ret_bool (by rw [spotB, h1, h2]; rfl), below_alloc1 _ _⟩
theorem isSpot_v {x y : Int} {v : Bool} (hv : spotB x y = v) (w : World) : Calls Tryz.prog 115 #[.agg #[.int .i64 x, .int .i64 y]] w fun e w' => e = .returned (.bool v) ∧ Below w.heap.size w w' := hv ▸ isSpot_any x y w
theorem l1Spot_v {x y : Int} {v : Bool} (hv : spotB x y = v) (w : World) : Calls Tryz.prog 92 #[.agg #[.int .i64 x, .int .i64 y]] w fun e w' => e = .returned (.bool v) ∧ Below w.heap.size w w' := hv ▸ l1Spot_any x y w
theorem szB_i {s : ByteArray} {v : Bool} (h : szB s = v) : decide ((s.size : Int) ≤ 20) = v := by rw [← h]; unfold szB; exact decide_eq_decide.mpr (by omega)
theorem isNaN_any (x : Int) (w : World) : Calls Tryz.prog 91 #[.int .i64 x] w fun e w' => e = .returned (.bool false) ∧ w' = w := by
  go_enter Tryz.func91, Tryz.ntmps91
  go_wp2
  go_ret
  exact ⟨rfl, rfl⟩
def cmpZ (a b : Int) : Int := if a < b then -1 else if b < a then 1 else 0
theorem compare_any (a b : Int) (w : World) : Calls Tryz.prog 78 #[.int .i64 a, .int .i64 b] w fun e w' => e = .returned (.int .i64 (cmpZ a b)) ∧ w' = w := by
  unfold cmpZ
  by_cases h1 : a < b
  · go_enter Tryz.func78, Tryz.ntmps78
    go_wp2_with (go_at_call 91; refine (isNaN_any _ _).mono ?_; rintro e w1 ⟨rfl, rfl⟩)
    go_ret
    exact ⟨by first | rfl | simp, rfl⟩
  · by_cases h2 : b < a
    · go_enter Tryz.func78, Tryz.ntmps78
      go_wp2_with (go_at_call 91; refine (isNaN_any _ _).mono ?_; rintro e w1 ⟨rfl, rfl⟩)
      go_ret
      exact ⟨by first | rfl | simp, rfl⟩
    · go_enter Tryz.func78, Tryz.ntmps78
      go_wp2_with (go_at_call 91; refine (isNaN_any _ _).mono ?_; rintro e w1 ⟨rfl, rfl⟩)
      go_ret
      exact ⟨by first | rfl | simp, rfl⟩
theorem cmpZ_pair (a b : Rc) : cmpI a b = if cmpZ a.t b.t = 0 then cmpZ a.i b.i else cmpZ a.t b.t := by
  unfold cmpI cmpZ
  repeat' split
  all_goals omega
end Go.Proofs.YtobbankkfplooaaGreat.K
namespace Go.Proofs.YtobbankkfplooaaGreat.K
open Go.RowKit Go.Joins
attribute [local go_sem] Oper.semAt_some

theorem keepS {P C : World → Prop} (hS : ∀ w', P w' → C w') {w' : World} (h : P w') : P w' ∧ C w' := ⟨h, hS _ h⟩
def orI (a b : Int) : Int := if a = 0 then b else a
theorem compare_v {a b v : Int} (h : cmpZ a b = v) (w : World) : Calls Tryz.prog 78 #[.int .i64 a, .int .i64 b] w fun e w' => e = .returned (.int .i64 v) ∧ w' = w := by subst h; exact compare_any a b w
theorem wrapI {a : Int} (h0 : -1000000000 ≤ a) (h1 : a ≤ 1000000000) : IntKind.i64.wrap a = a := by rw [IntKind.wrap_i64]; omega
end Go.Proofs.YtobbankkfplooaaGreat.K
