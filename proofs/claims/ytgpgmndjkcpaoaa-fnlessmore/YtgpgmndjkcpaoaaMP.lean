/-
  A map whose keys are stretches: what it holds, key by key; looked up, raised at a key, cleared.
-/
import Derived.Test.YtgpgmndjkcpaoaaN2
import Derived.Laws.StructEq
import Derived.WideKeyEntry
import Derived.Carry
namespace Go.Proofs.Ytgpgmndjkcpaoaa
open Go.RowKit Go.Joins Go.MapKept

def eqS (a b : T2) : Bool := decide (a.x = b.x ∧ a.y = b.y)
theorem eqS_t {a b : T2} : eqS a b = true ↔ a = b := by
  unfold eqS
  rw [decide_eq_true_iff]
  constructor
  · obtain ⟨a1, a2⟩ := a; obtain ⟨b1, b2⟩ := b; rintro ⟨h1, h2⟩; simp at h1 h2; rw [h1, h2]
  · rintro rfl; exact ⟨rfl, rfl⟩
structure En where
  s : T2
  c : Int
  st : Nat
def En.e (n : En) : MapEntry := ⟨.agg #[.int .i64 n.s.x, .int .i64 n.s.y], .int .i64 n.c, n.st⟩
def look : List En → T2 → Int
  | [], _ => 0
  | n :: t, s => if eqS s n.s then n.c else look t s
/-- Block b is a map that holds f s at each s (0 where there is no entry). -/
def Mp (w : World) (b : Nat) (f : T2 → Int) : Prop := ∃ (E : List En) (clock : Nat), w.heap[b]? = some (.map (E.map En.e).toArray clock) ∧ (∀ n ∈ E, n.st < clock) ∧ (E.map En.st).Nodup ∧ (E.map En.s).Nodup ∧ ∀ s, f s = look E s

theorem run_equalS (a b : T2) (w : World) : (Op.equal 83 (.agg #[.int .i64 a.x, .int .i64 a.y]) (.agg #[.int .i64 b.x, .int .i64 b.y])).run Try.prog w = .ok (eqS a b) w := by
  have u2 := Try.underlying2
  have a2 := Try.isAgg2
  have z2 := Try.sizeOf2
  have hS : Try.prog.underlying 83 = some (.struct (Try.prog.fieldsOf 83)) := by kernel_rfl
  have hp : Try.prog.stoodInHeld 83 = false := by kernel_rfl
  unfold Op.equal
  rw [show Op.maxDepth = 9998 + 1 + 1 from rfl, run_equalIn_agg w (9998 + 1) 83 _ _ hS hp]
  simp only [Program.fieldsOf, Try.underlying83]
  unfold eqS
  go_simp
  by_cases h1 : a.x = b.x <;> by_cases h2 : a.y = b.y <;> simp [h1, h2]
theorem run_check (em : Bool) (a : T2) (w : World) : (Instr.checkKey em 10000 83 (.agg #[.int .i64 a.x, .int .i64 a.y])).run Try.prog w = .ok () w := by kernel_rfl
theorem same_agg (n : Nat) (a b : Int) : Instr.sameBits (n + 2) (.agg #[.int .i64 a, .int .i64 b]) (.agg #[.int .i64 a, .int .i64 b]) = true := by
  simp [Instr.sameBits]
theorem run_stays (v : Value) (h : Instr.sameBits 10000 v v = true) (w : World) : (Instr.keyThatStays v v).run Try.prog w = .ok v w := by
  unfold Instr.keyThatStays
  rw [if_pos h]; rfl
def fnd (s : T2) : List En → Nat → Option (Nat × Value)
  | [], _ => none
  | n :: t, i => if eqS s n.s then some (i, .int .i64 n.c) else fnd s t (i + 1)
theorem run_asking (s : T2) (w : World) : ∀ (E : List En) (i : Nat), (Instr.findAsking 83 (.agg #[.int .i64 s.x, .int .i64 s.y]) (E.map En.e) i).run Try.prog w = .ok (fnd s E i) w
  | [], i => rfl
  | n :: t, i => by
    have ih := run_asking s w t (i + 1)
    have h := run_equalS s n.s w
    simp only [List.map_cons, Instr.findAsking, En.e, Sem.run_bind, h, Result.andThen_ok, fnd]
    cases eqS s n.s
    · simpa using ih
    · rfl
theorem run_find (s : T2) (w : World) (E : List En) : (Instr.findKey 83 (.agg #[.int .i64 s.x, .int .i64 s.y]) (E.map En.e)).run Try.prog w = .ok (fnd s E 0) w := by
  have h := run_asking s w E 0
  unfold Instr.findKey
  simp only [Sem.run_bind, run_underlying Try.underlying83, Result.andThen_ok]
  cases E with
  | nil => rfl
  | cons n t => exact h
theorem fnd_none {s : T2} : ∀ {E : List En} {i : Nat}, fnd s E i = none → (∀ n ∈ E, eqS s n.s = false) ∧ look E s = 0
  | [], _, _ => ⟨by simp, rfl⟩
  | n :: t, i, h => by
    unfold fnd at h
    cases e : eqS s n.s
    · rw [e] at h
      obtain ⟨h1, h2⟩ := fnd_none (E := t) (i := i + 1) (by simpa using h)
      refine ⟨fun m hm => ?_, by unfold look; rw [e]; simpa using h2⟩
      rcases List.mem_cons.1 hm with rfl | hm
      · exact e
      · exact h1 m hm
    · rw [e] at h; cases h
theorem fnd_some {s : T2} : ∀ {E : List En} {i j : Nat} {v : Value}, fnd s E i = some (j, v) → ∃ n, i ≤ j ∧ E[j - i]? = some n ∧ n.s = s ∧ v = .int .i64 n.c ∧ look E s = n.c
  | [], _, _, _, h => by cases h
  | n :: t, i, j, v, h => by
    unfold fnd at h
    cases e : eqS s n.s
    · rw [e] at h
      obtain ⟨m, h1, h2, h3, h4, h5⟩ := fnd_some (E := t) (i := i + 1) (by simpa using h)
      refine ⟨m, by omega, ?_, h3, h4, by unfold look; rw [e]; simpa using h5⟩
      rw [show j - i = (j - (i + 1)) + 1 by omega]
      simpa using h2
    · rw [e] at h
      simp only [if_true, Option.some.injEq, Prod.mk.injEq] at h
      obtain ⟨rfl, rfl⟩ := h
      exact ⟨n, Nat.le_refl _, by simp, (eqS_t.1 e).symm, rfl, by unfold look; rw [e]; rfl⟩
theorem mp_look {w : World} {b : Nat} {f : T2 → Int} (h : Mp w b f) (s : T2) : (Instr.lookup 77 (.map (some b)) (.agg #[.int .i64 s.x, .int .i64 s.y]) false).run Try.prog w = .ok (.int .i64 (f s)) w := by
  obtain ⟨E, clock, hb, h1, h2, h3, h4⟩ := h
  have hf := run_find s w E
  have hc := run_check (E.map En.e).toArray.isEmpty s w
  unfold Instr.lookup
  rw [h4 s]
  have hz := Try.zeroValue2
  cases hr : fnd s E 0 with
  | none =>
    rw [hr] at hf
    have := (fnd_none hr).2
    rw [this]
    simp only [Sem.run_bind, run_underlying Try.underlying77, Result.andThen_ok, Go.MapKept.run_getObj_map hb, Sem.run_pure, hc, hf, hz]
    rfl
  | some p =>
    obtain ⟨j, v⟩ := p
    rw [hr] at hf
    obtain ⟨n, _, _, _, rfl, e⟩ := fnd_some hr
    rw [e]
    simp only [Sem.run_bind, run_underlying Try.underlying77, Result.andThen_ok, Go.MapKept.run_getObj_map hb, Sem.run_pure, hc, hf]
    rfl
def putO (w : World) (b : Nat) (o : Obj) : World := { w with heap := w.heap.setIfInBounds b o }
theorem putO_at {w : World} {b : Nat} {o o' : Obj} (hb : w.heap[b]? = some o) : (putO w b o').heap[b]? = some o' := (heap_set (o' := o') hb).1
theorem putO_grown (w : World) (b : Nat) (o : Obj) : w.grownBy (putO w b o) (some b) := by
  refine ⟨rfl, rfl, rfl, by simp [putO], fun k _ hk => ?_⟩
  have : b ≠ k := fun e => hk (by rw [e])
  simp [putO, this]
theorem putO_putO (w : World) (b : Nat) (o o' : Obj) : putO (putO w b o) b o' = putO w b o' := by
  simp [putO]
theorem look_app {s : T2} {m : En} : ∀ {E : List En}, (∀ n ∈ E, eqS m.s n.s = false) → look (E ++ [m]) s = if eqS s m.s then m.c else look E s
  | [], _ => rfl
  | n :: t, h => by
    have ih := look_app (s := s) (E := t) (fun x hx => h x (by simp [hx]))
    simp only [List.cons_append, look, ih]
    cases e : eqS s n.s
    · simp
    · cases e2 : eqS s m.s
      · simp
      · have h1 := eqS_t.1 e
        have h2 := eqS_t.1 e2
        have := h n (by simp)
        rw [← h2, h1] at this
        have e3 := eqS_t.2 (rfl : n.s = n.s)
        rw [this] at e3; cases e3
theorem look_set {s : T2} {m : En} {z : Int} : ∀ {E : List En} {j : Nat}, E[j]? = some m → (E.map En.s).Nodup → look (E.set j ⟨m.s, z, m.st⟩) s = if eqS s m.s then z else look E s
  | [], j, h, _ => by simp at h
  | n :: t, 0, h, hn => by
    simp at h; subst h
    simp only [List.set_cons_zero, look]
    cases eqS s n.s <;> simp
  | n :: t, j + 1, h, hn => by
    simp only [List.map_cons, List.nodup_cons] at hn
    have hj : t[j]? = some m := by simpa using h
    have ih := look_set (s := s) (z := z) hj hn.2
    simp only [List.set_cons_succ, look, ih]
    cases e : eqS s n.s
    · simp
    · cases e2 : eqS s m.s
      · simp
      · have h1 := eqS_t.1 e
        have h2 := eqS_t.1 e2
        exact absurd (List.mem_map.2 ⟨m, List.mem_of_getElem? hj, by rw [← h2, h1]⟩) hn.1
theorem map_set_s {m : En} {z : Int} : ∀ {E : List En} {j : Nat}, E[j]? = some m → (E.set j ⟨m.s, z, m.st⟩).map En.s = E.map En.s ∧ (E.set j ⟨m.s, z, m.st⟩).map En.st = E.map En.st
  | [], j, h => by simp at h
  | n :: t, 0, h => by simp at h; subst h; simp
  | n :: t, j + 1, h => by
    obtain ⟨h1, h2⟩ := map_set_s (z := z) (E := t) (j := j) (by simpa using h)
    simp [h1, h2]
theorem map_set_e {m : En} {z : Int} {E : List En} {j : Nat} : (E.set j ⟨m.s, z, m.st⟩).map En.e = (E.map En.e).set j ⟨.agg #[.int .i64 m.s.x, .int .i64 m.s.y], .int .i64 z, m.st⟩ := by
  rw [List.map_set]; rfl
/-- What 'm[s]++' does, whichever of the two comes first, the look or the entry. -/
theorem mp_raise {w : World} {b : Nat} {f : T2 → Int} (h : Mp w b f) (s : T2) :
    ∃ (v0 : Value) (st : Nat) (W1 : World), (Instr.mapEntry 77 (.map (some b)) (.agg #[.int .i64 s.x, .int .i64 s.y])).run Try.prog w = .ok (.tuple #[v0, .int .i64 st]) W1 ∧
      (Instr.lookup 77 (.map (some b)) (.agg #[.int .i64 s.x, .int .i64 s.y]) false).run Try.prog W1 = .ok (.int .i64 (f s)) W1 ∧ w.grownBy W1 (some b) ∧
      ∀ z : Int, ∃ W2, (Instr.entryStore 77 (.map (some b)) (.int .i64 st) (.int .i64 z)).run Try.prog W1 = .ok () W2 ∧ Mp W2 b (fun t => if eqS t s then z else f t) ∧ w.grownBy W2 (some b) := by
  obtain ⟨E, clock, hb, h1, h2, h3, h4⟩ := h
  have hf := run_find s w E
  have hc := run_check false s w
  have hz := Try.zeroValue2
  cases hr : fnd s E 0 with
  | none =>
    rw [hr] at hf
    obtain ⟨hno, hl0⟩ := fnd_none hr
    have hb1 : (putO w b (.map ((E ++ [En.mk s 0 clock]).map En.e).toArray (clock + 1))).heap[b]? = some (.map ((E ++ [En.mk s 0 clock]).map En.e).toArray (clock + 1)) := putO_at hb
    have nd : ((E ++ [En.mk s 0 clock]).map En.st).Nodup := by
      simp only [List.map_append, List.map_cons, List.map_nil]
      refine List.nodup_append.2 ⟨h2, by simp, fun a ha c hc e1 => ?_⟩
      simp only [List.mem_singleton] at hc
      obtain ⟨x, hx, rfl⟩ := List.mem_map.1 ha
      have := h1 x hx
      omega
    have ns : ((E ++ [En.mk s 0 clock]).map En.s).Nodup := by
      simp only [List.map_append, List.map_cons, List.map_nil]
      refine List.nodup_append.2 ⟨h3, by simp, fun a ha c hc e1 => ?_⟩
      simp only [List.mem_singleton] at hc
      obtain ⟨x, hx, rfl⟩ := List.mem_map.1 ha
      have := hno x hx
      rw [eqS_t.2 (hc.symm.trans e1.symm)] at this; cases this
    have M1 : Mp (putO w b (.map ((E ++ [En.mk s 0 clock]).map En.e).toArray (clock + 1))) b f := by
      refine ⟨_, _, hb1, fun n hn => ?_, nd, ns, fun t => ?_⟩
      · rcases List.mem_append.1 hn with hn | hn
        · have := h1 n hn; omega
        · simp only [List.mem_singleton] at hn; rw [hn]; exact Nat.lt_succ_self _
      · rw [look_app hno, h4 t]
        cases e : eqS t s
        · simp
        · rw [eqS_t.1 e]; simpa using hl0
    refine ⟨.int .i64 0, clock, _, ?_, mp_look M1 s, putO_grown _ _ _, fun z => ⟨putO w b (.map ((E ++ [En.mk s z clock]).map En.e).toArray (clock + 1)), ?_, ?_, putO_grown _ _ _⟩⟩
    · unfold Instr.mapEntry
      simp only [Sem.run_bind, run_underlying Try.underlying77, Result.andThen_ok, Go.MapKept.run_getObj_map hb, hc, hf, hz, Go.MapKept.run_setObj_map _ hb, Sem.run_pure, putO, List.map_append, List.map_cons, List.map_nil, List.push_toArray]
      rfl
    · have hidx : ((E ++ [En.mk s 0 clock]).map En.e).toArray.findIdx? (fun e => ((e.born : Nat) : Int) == ((clock : Nat) : Int)) = some E.length := by
        rw [Go.WideElems.findIdx_arr]
        have := Go.WideElems.findIdx_born (l := (E ++ [En.mk s 0 clock]).map En.e) (j := E.length) (e0 := En.e (En.mk s 0 clock)) (by rw [List.map_map]; exact nd) (by simp)
        exact this
      have hmod : ((E ++ [En.mk s 0 clock]).map En.e).toArray.modify E.length (fun e => { e with val := .int .i64 z }) = ((E ++ [En.mk s z clock]).map En.e).toArray := by
        apply Array.ext'
        have := Go.WideElems.modify_last (fun e : MapEntry => { e with val := .int .i64 z }) (En.e (En.mk s 0 clock)) (E.map En.e)
        rw [List.length_map] at this
        simp only [Array.toList_modify, List.map_append, List.map_cons, List.map_nil]
        exact this
      unfold Instr.entryStore
      simp only [Sem.run_bind, Go.MapKept.run_getObj_map hb1, Result.andThen_ok, asInt, asIntOf, Sem.run_pure, hidx, hmod, Go.MapKept.run_setObj_map _ hb1]
      exact congrArg (Result.ok ()) (putO_putO w b _ _)
    · refine ⟨_, _, putO_at hb, fun n hn => ?_, ?_, ?_, fun t => ?_⟩
      · rcases List.mem_append.1 hn with hn | hn
        · have := h1 n hn; omega
        · simp only [List.mem_singleton] at hn; rw [hn]; exact Nat.lt_succ_self _
      · simpa using nd
      · simpa using ns
      · show (if eqS t s then z else f t) = _
        rw [look_app (m := ⟨s, z, clock⟩) hno, h4 t]
  | some p =>
    obtain ⟨j, v⟩ := p
    rw [hr] at hf
    obtain ⟨n, _, hj, hns, rfl, hl⟩ := fnd_some hr
    rw [Nat.sub_zero] at hj
    have hje : (E.map En.e).toArray[j]? = some n.e := by simp [hj]
    have hkey : (Value.agg #[.int .i64 s.x, .int .i64 s.y]) = n.e.key := by rw [← hns]; rfl
    have hst : (Instr.keyThatStays n.e.key (.agg #[.int .i64 s.x, .int .i64 s.y])).run Try.prog w = .ok (.agg #[.int .i64 s.x, .int .i64 s.y]) w := by
      rw [← hkey]
      exact run_stays _ (same_agg 9998 _ _) w
    have hsame : (E.map En.e).toArray.modify j (fun e => { e with key := .agg #[.int .i64 s.x, .int .i64 s.y] }) = (E.map En.e).toArray := by
      apply Array.ext'
      have h2' : (E.map En.e)[j]? = some n.e := by simp [hj]
      rw [Array.toList_modify, Go.ChangeMaps.modify_eq_set _ _ _ _ h2']
      have : ({ n.e with key := .agg #[.int .i64 s.x, .int .i64 s.y] } : MapEntry) = n.e := by rw [hkey]
      rw [this]
      exact Go.WideElems.set_self _ _ _ h2'
    have hw1 : putO w b (.map (E.map En.e).toArray clock) = w := by
      have hh : w.heap.setIfInBounds b (.map (E.map En.e).toArray clock) = w.heap := by
        apply Array.ext_getElem?
        intro k
        rw [Array.getElem?_setIfInBounds]
        split
        · rename_i e; subst e; split
          · exact hb.symm
          · rename_i h; rw [Array.getElem?_eq_none (by omega)]
        · rfl
      unfold putO
      rw [hh]
    refine ⟨.int .i64 n.c, n.st, w, ?_, mp_look ⟨E, clock, hb, h1, h2, h3, h4⟩ s, ⟨rfl, rfl, rfl, Nat.le_refl _, fun _ _ _ => rfl⟩, fun z => ⟨putO w b (.map ((E.set j (En.mk n.s z n.st)).map En.e).toArray clock), ?_, ?_, putO_grown _ _ _⟩⟩
    · unfold Instr.mapEntry
      simp only [Sem.run_bind, run_underlying Try.underlying77, Result.andThen_ok, Go.MapKept.run_getObj_map hb, hc, hf, hje, Option.map_some, Option.getD_some, hst, hsame, Go.MapKept.run_setObj_map _ hb, Sem.run_pure]
      exact congrArg (Result.ok _) hw1
    · have hidx : (E.map En.e).toArray.findIdx? (fun e => ((e.born : Nat) : Int) == ((n.st : Nat) : Int)) = some j := by
        rw [Go.WideElems.findIdx_arr]
        exact Go.WideElems.findIdx_born (l := E.map En.e) (j := j) (e0 := n.e) (by rw [List.map_map]; exact h2) (by simp [hj])
      have hmod : (E.map En.e).toArray.modify j (fun e => { e with val := .int .i64 z }) = ((E.set j (En.mk n.s z n.st)).map En.e).toArray := by
        apply Array.ext'
        have h2' : (E.map En.e)[j]? = some n.e := by simp [hj]
        rw [Array.toList_modify, Go.ChangeMaps.modify_eq_set _ _ _ _ h2', map_set_e]
        rfl
      unfold Instr.entryStore
      simp only [Sem.run_bind, Go.MapKept.run_getObj_map hb, Result.andThen_ok, asInt, asIntOf, Sem.run_pure, hidx, hmod, Go.MapKept.run_setObj_map _ hb]
      rfl
    · obtain ⟨q1, q2⟩ := map_set_s (z := z) hj
      refine ⟨_, _, putO_at hb, fun m hm => ?_, by rw [q2]; exact h2, by rw [q1]; exact h3, fun t => ?_⟩
      · rcases List.mem_or_eq_of_mem_set hm with e | e
        · exact h1 m e
        · rw [e]; exact h1 n (List.mem_of_getElem? hj)
      · show (if eqS t s then z else f t) = _
        rw [look_set hj h3, h4 t, ← hns]
theorem mp_made (w : World) : Mp (w.alloc (.map #[] 0)) w.heap.size (fun _ => 0) :=
  ⟨[], 0, (heap_alloc w _).1, by simp, by simp, by simp, fun _ => rfl⟩
theorem mp_clear {w : World} {b : Nat} {f : T2 → Int} (h : Mp w b f) : ∃ W, (∀ ty, (Builtin.clear_ #[77] ty #[.map (some b)]).run Try.prog w = .ok (.tuple #[]) W) ∧ Mp W b (fun _ => 0) ∧ w.grownBy W (some b) := by
  obtain ⟨E, clock, hb, h1, h2, h3, h4⟩ := h
  refine ⟨putO w b (.map #[] clock), fun ty => ?_, ⟨[], clock, putO_at hb, by simp, by simp, by simp, fun _ => rfl⟩, putO_grown _ _ _⟩
  simp [Builtin.clear_, run_underlying Try.underlying77, Go.MapKept.run_getObj_map hb, Go.MapKept.run_setObj_map _ hb, Result.andThen, putO]
theorem Mp.kept {w w' : World} {b : Nat} {f : T2 → Int} {row : Option Nat} (h : Mp w b f) (hg : w.grownBy w' row) (hne : some b ≠ row) : Mp w' b f := by
  obtain ⟨E, clock, hb, r⟩ := h
  exact ⟨E, clock, (hg.block b (Array.getElem?_eq_some_iff.1 hb).1 hne).trans hb, r⟩
theorem Mp.lt {w : World} {b : Nat} {f : T2 → Int} (h : Mp w b f) : b < w.heap.size := by
  obtain ⟨E, clock, hb, r⟩ := h
  exact (Array.getElem?_eq_some_iff.1 hb).1
theorem Mp.step {w w' : World} {b : Nat} {f : T2 → Int} (h : Mp w b f) (hb : Below w.heap.size w w') : Mp w' b f :=
  h.kept (row := none) ⟨hb.os, hb.tape, hb.output, hb.size, fun k hk _ => hb.block k hk⟩ (by simp)
theorem Mp.congr {w : World} {b : Nat} {f g : T2 → Int} (h : Mp w b f) (he : ∀ s, g s = f s) : Mp w b g := by
  obtain ⟨E, clock, hb, a, b, c, d⟩ := h
  exact ⟨E, clock, hb, a, b, c, fun s => (he s).trans (d s)⟩
end Go.Proofs.Ytgpgmndjkcpaoaa
