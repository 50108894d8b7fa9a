/-
  The spec's Inside, and the law of Inside, walked.
-/
import Derived.Test.YtamnmakegdnblaaMC3
import Derived.Laws.EntriesVeiled
import Derived.Deep.RegionHeld3
namespace Go.Proofs.Ytamnmakegdnblaa.M
open Go.RowKit Go.Joins
attribute [local go_sem] Oper.semAt_some

def half (x : Int) : Nat → Int
  | 0 => x
  | k + 1 => half x k / 2
def encU (l x y : Int) (k : Nat) : Value := .agg #[.int .i64 (l - k), .int .i64 (half x k), .int .i64 (half y k)]
def cellsU (l x y : Int) (k : Nat) : Array Value := #[.int .i64 (l - k), .int .i64 (half x k), .int .i64 (half y k)]
theorem up_ok {l x y : Int} (h : cellB l x y = true) (h0 : l ≠ 0) : cellB (l - 1) (x / 2) (y / 2) = true := by
  obtain ⟨a, b, c, d, e, f⟩ := cellB_t.mp h
  have hp : (2 : Int) ^ l.toNat = 2 * 2 ^ (l - 1).toNat := by
    rw [show l.toNat = (l - 1).toNat + 1 by omega, Int.pow_succ]; omega
  exact cellB_t.mpr (by omega)
theorem anc_ok {l x y : Int} (h : cellB l x y = true) : ∀ {k : Nat}, k ≤ l.toNat → cellB (l - k) (half x k) (half y k) = true
  | 0, _ => by simpa [half] using h
  | k + 1, hk => by
    have hl := cell_lev h
    have := up_ok (anc_ok h (k := k) (by omega)) (by omega)
    rw [show l - ((k + 1 : Nat) : Int) = l - k - 1 by omega]
    exact this
def intAt : Option Value → Int
  | some (.int _ n) => n
  | _ => 0
theorem keepF_cell {B g i : Nat} {W W' : World} (h : KeepF B W W') (hB : B ≤ g) (hg : g < W.heap.size) : W'.cell? ⟨g, i, none⟩ = W.cell? ⟨g, i, none⟩ := World.cell?_of_block (h.same g hB hg)
theorem keepF_frozen {B g i : Nat} {W W' : World} (h : KeepF B W W') (hB : B ≤ g) (hg : g < W.heap.size) : W'.frozen? ⟨g, i, none⟩ = W.frozen? ⟨g, i, none⟩ := World.frozen?_of_block (h.same g hB hg)

set_option maxRecDepth 100000 in
set_option maxHeartbeats 2000000 in
theorem up_seq {l x y : Int} (h : cellB l x y = true) (b : Nat) (w : World) (hb : b < w.heap.size)
    (c0 : w.cell? ⟨b, 0, none⟩ = some (.int .i64 l)) (c1 : w.cell? ⟨b, 1, none⟩ = some (.int .i64 x)) (c2 : w.cell? ⟨b, 2, none⟩ = some (.int .i64 y)) :
    UpSeq Try.prog 106 #[.pointer (some ⟨b, 0, none⟩)] (encU l x y) (l.toNat + 1) w.heap.size w := by
  intro lp J Jx W hW hB hJ hJx hY h0
  have d0 := (hW.cell (p := ⟨b, 0, none⟩) hb).trans c0
  have d1 := (hW.cell (p := ⟨b, 1, none⟩) hb).trans c1
  have d2 := (hW.cell (p := ⟨b, 2, none⟩) hb).trans c2
  obtain ⟨hl0, hl8⟩ := cell_lev h
  refine callsIn_of_wp Try.func106 rfl trivial ?_ rfl
  simp only [Try.ntmps106, List.size_toArray, List.length_cons, List.length_nil, Nat.reduceAdd, Nat.reduceSub, Array.replicate_succ, Array.replicate_zero, List.push_toArray, List.append_toArray, List.nil_append, List.cons_append]
  gi_wp2
  gi_loopw [] (fun wr => ∃ k : Nat, k ≤ l.toNat ∧ J k wr ∧ W.heap.size < wr.heap.size ∧ wr.cell? ⟨W.heap.size, 0, none⟩ = some (.int .i64 (l - k)) ∧ wr.cell? ⟨W.heap.size, 1, none⟩ = some (.int .i64 (half x k)) ∧ wr.cell? ⟨W.heap.size, 2, none⟩ = some (.int .i64 (half y k)) ∧ ∀ o, wr.frozen? ⟨W.heap.size, o, none⟩ = false)
    (fun wr => (intAt (wr.cell? ⟨W.heap.size, 0, none⟩)).toNat)
  case atStart =>
    refine ⟨0, by omega, hJ _ _ _ h0 (below_alloc1 _ _), by simp, ?_, ?_, ?_, ?_⟩
    · simp [go_sem]
    · simp [go_sem, half]
    · simp [go_sem, half]
    · intro o; exact World.frozen?_alloc_at _ _ _ _ rfl
  case round =>
    obtain ⟨k, hk, hj, hlt, e0, e1, e2, hf⟩ := hrel
    obtain ⟨fn, tmps, assign, body, hy, hR⟩ := hY k wr (by omega) hj
    dsimp only [encU] at hy
    gi_wp2
    refine hR.mono ?_
    rintro e W3 (⟨rfl, hJ3, hk3⟩ | ⟨rfl, hJx3⟩)
    · have hz3 := hk3.size
      have f0 := (keepF_cell (i := 0) hk3 hB hlt).trans e0
      have f1 := (keepF_cell (i := 1) hk3 hB hlt).trans e1
      have f2 := (keepF_cell (i := 2) hk3 hB hlt).trans e2
      have ff : ∀ o, W3.frozen? ⟨W.heap.size, o, none⟩ = false := fun o => (keepF_frozen hk3 hB hlt).trans (hf o)
      have hok := anc_ok h hk
      by_cases hz : 0 < l - (k : Int)
      · have hlu : uL (l - k) (half x k) (half y k) = l - ((k + 1 : Nat) : Int) := by simp only [uL, hok, if_true]; rw [if_neg (by omega)]; omega
        have hxu : uX (l - k) (half x k) (half y k) = half x (k + 1) := by simp only [uX, hok, if_true]; rw [if_neg (by omega)]; rfl
        have hyu : uY (l - k) (half x k) (half y k) = half y (k + 1) := by simp only [uY, hok, if_true]; rw [if_neg (by omega)]; rfl
        gi_wp2_with (refine ⟨trivial, ?_⟩; gi_at_call 107; refine (callsIn_wide.2 (iUp_any _ _ _ _)).mono ?_; rw [hlu, hxu, hyu]; rintro e w4 ⟨rfl, hb4⟩; have hz4 := hb4.size; have g0 := (hb4.cell (p := ⟨W.heap.size, 0, none⟩) (by show W.heap.size < W3.heap.size; omega)).trans f0; have g1 := (hb4.cell (p := ⟨W.heap.size, 1, none⟩) (by show W.heap.size < W3.heap.size; omega)).trans f1; have g2 := (hb4.cell (p := ⟨W.heap.size, 2, none⟩) (by show W.heap.size < W3.heap.size; omega)).trans f2; have gf : ∀ o, w4.frozen? ⟨W.heap.size, o, none⟩ = false := fun o => (hb4.frozen (p := ⟨W.heap.size, o, none⟩) (by show W.heap.size < W3.heap.size; omega)).trans (ff o))
        go_roundw
        case rel =>
          refine ⟨k + 1, by omega, hJ _ _ _ hJ3 (sc3 (hb4.mono (by omega)) (Nat.le_refl _)), by simp; omega, ?_, ?_, ?_, ?_⟩
          · go_simp
          · go_simp
          · go_simp
          · intro o; go_simp
        case measure =>
          have q : ∀ v, v = some (Value.int .i64 (l - ((k : Int) + 1))) → (intAt v).toNat < (intAt (some (.int .i64 (l - (k : Int))))).toNat := by rintro _ rfl; simp only [intAt]; omega
          rw [e0]
          exact q _ (by go_simp)
      · gi_wp2
        go_end0
        exact ⟨⟨_, rfl⟩, .inl (by rw [show l.toNat = k by omega]; exact hJ3)⟩
    · gi_wp2
      go_end0
      exact ⟨⟨_, rfl⟩, .inr ⟨k, by omega, hJx3⟩⟩

set_option maxHeartbeats 1000000 in
theorem upward_any (l x y : Int) (w : World) :
    Calls Try.prog 104 #[.agg #[.int .i64 l, .int .i64 x, .int .i64 y]] w fun e w' => e = .returned (.func (.func 106) #[] #[.pointer (some ⟨w.heap.size, 0, none⟩)]) ∧ w' = w.alloc (.cells #[.int .i64 l, .int .i64 x, .int .i64 y] 28) := by
  refine (callsIn_wide (n := 3)).1 ?_
  refine callsIn_of_wp Try.func104 rfl trivial ?_ rfl
  simp only [Try.ntmps104, List.size_toArray, List.length_cons, List.length_nil, Nat.reduceAdd, Nat.reduceSub, Array.replicate_succ, Array.replicate_zero, List.push_toArray, List.append_toArray, List.nil_append, List.cons_append]
  gi_wp2
  go_ret
  exact ⟨rfl, rfl⟩

/-- Whether the Cell (m, p, q) is the k-th around (l, x, y), k below N. -/
def isUp (l x y m p q : Int) : Nat → Bool
  | 0 => false
  | k + 1 => isUp l x y m p q k || (l - k == m && half x k == p && half y k == q)
end Go.Proofs.Ytamnmakegdnblaa.M
namespace Go.Proofs.Ytamnmakegdnblaa.M
open Go.RowKit Go.Joins
attribute [local go_sem] Oper.semAt_some

set_option maxHeartbeats 1000000 in
theorem every_cc (x1 y1 a1 x2 y2 a2 : Int) (g : Nat) (w : World) (hg : g < w.heap.size)
    (h0 : w.cell? ⟨g, 0, none⟩ = some (.func (Fn.func 66) #[.agg #[.int .i64 x1, .int .i64 y1, .int .i64 a1]] #[])) (h1 : w.cell? ⟨g, 1, none⟩ = some (.func (Fn.func 66) #[.agg #[.int .i64 x2, .int .i64 y2, .int .i64 a2]] #[])) :
    Calls Try.prog 63 #[.slice (some ⟨g, 0, none⟩) 2 2] w fun e w' => e = .returned (.bool (cellB x1 y1 a1 && cellB x2 y2 a2)) ∧ Below w.heap.size w w' := by
  cases k1 : cellB x1 y1 a1
  · go_enter Try.func63, Try.ntmps63
    go_wp2
    refine wp_loop_rounds 3 ?_
    rw [rounds_succ]
    go_wp2_with ((go_at_call 66; refine (isRight_any x1 y1 a1 _).mono ?_; rintro e w1 ⟨rfl, hb2⟩; (first | replace hb := bstep hb hb2 (Nat.le_refl _) | replace hb := bstepA hb hb2 (Nat.le_refl _) | have hb := hb2); (try clear hc hf); obtain ⟨hc, hf⟩ := bcell hb))
    go_ret
    exact ⟨rfl, hb⟩
  cases k2 : cellB x2 y2 a2
  · go_enter Try.func63, Try.ntmps63
    go_wp2
    refine wp_loop_rounds 3 ?_
    rw [rounds_succ]
    go_wp2_with ((go_at_call 66; refine (isRight_any x1 y1 a1 _).mono ?_; rintro e w1 ⟨rfl, hb2⟩; (first | replace hb := bstep hb hb2 (Nat.le_refl _) | replace hb := bstepA hb hb2 (Nat.le_refl _) | have hb := hb2); (try clear hc hf); obtain ⟨hc, hf⟩ := bcell hb))
    rw [rounds_succ]
    go_wp2_with ((go_at_call 66; refine (isRight_any x2 y2 a2 _).mono ?_; rintro e w1 ⟨rfl, hb2⟩; (first | replace hb := bstep hb hb2 (Nat.le_refl _) | replace hb := bstepA hb hb2 (Nat.le_refl _) | have hb := hb2); (try clear hc hf); obtain ⟨hc, hf⟩ := bcell hb))
    go_ret
    exact ⟨rfl, hb⟩
  · go_enter Try.func63, Try.ntmps63
    go_wp2
    refine wp_loop_rounds 3 ?_
    rw [rounds_succ]
    go_wp2_with ((go_at_call 66; refine (isRight_any x1 y1 a1 _).mono ?_; rintro e w1 ⟨rfl, hb2⟩; (first | replace hb := bstep hb hb2 (Nat.le_refl _) | replace hb := bstepA hb hb2 (Nat.le_refl _) | have hb := hb2); (try clear hc hf); obtain ⟨hc, hf⟩ := bcell hb))
    rw [rounds_succ]
    go_wp2_with ((go_at_call 66; refine (isRight_any x2 y2 a2 _).mono ?_; rintro e w1 ⟨rfl, hb2⟩; (first | replace hb := bstep hb hb2 (Nat.le_refl _) | replace hb := bstepA hb hb2 (Nat.le_refl _) | have hb := hb2); (try clear hc hf); obtain ⟨hc, hf⟩ := bcell hb))
    rw [rounds_succ]
    go_wp2
    go_ret
    exact ⟨rfl, hb⟩


theorem every_cc_v (x1 y1 a1 x2 y2 a2 : Int) (v : Bool) (g : Nat) (w : World) (hv : (cellB x1 y1 a1 && cellB x2 y2 a2) = v) (hg : g < w.heap.size)
    (h0 : w.cell? ⟨g, 0, none⟩ = some (.func (Fn.func 66) #[.agg #[.int .i64 x1, .int .i64 y1, .int .i64 a1]] #[])) (h1 : w.cell? ⟨g, 1, none⟩ = some (.func (Fn.func 66) #[.agg #[.int .i64 x2, .int .i64 y2, .int .i64 a2]] #[])) :
    Calls Try.prog 63 #[.slice (some ⟨g, 0, none⟩) 2 2] w fun e w' => e = .returned (.bool v) ∧ Below w.heap.size w w' := by
  subst hv; exact every_cc x1 y1 a1 x2 y2 a2 g w hg h0 h1

theorem St.stab {B : Nat} {w X Y : World} {l : List (Nat × List Value)} (h : St w X l) (hb : Below B X Y) (hB : w.heap.size ≤ B) (hl : ∀ p ∈ l, p.1 < B) : St w Y l := by
  refine ⟨h.bel.trans (hb.mono hB), ?_⟩
  have hh := h.has
  clear h
  induction l with
  | nil => trivial
  | cons p t ih =>
    obtain ⟨⟨h1, h2, h3⟩, h4⟩ := hh
    have hp := hl p (List.mem_cons_self ..)
    refine ⟨⟨Nat.lt_of_lt_of_le h1 hb.size, fun o => (hb.frozen (p := ⟨p.1, o, none⟩) hp).trans (h2 o), ?_⟩, ih (fun q hq => hl q (List.mem_cons_of_mem _ hq)) h4⟩
    have : ∀ (i : Nat) (vs : List Value), HasAt X p.1 i vs → HasAt Y p.1 i vs := by
      intro i vs
      induction vs generalizing i with
      | nil => intro _; trivial
      | cons v vs ihv => intro hv; exact ⟨(hb.cell (p := ⟨p.1, i, none⟩) hp).trans hv.1, ihv _ hv.2⟩
    exact this _ _ h3
theorem HasAt.far {W : World} {b g i : Nat} {v : Value} (hne : b ≠ g) : ∀ {j : Nat} {vs : List Value}, HasAt W g j vs → HasAt (W.setCell ⟨b, i, none⟩ v) g j vs
  | _, [], _ => trivial
  | j, _ :: _, ⟨h, t⟩ => ⟨(World.cell?_of_block (Below.heap_setCell W ⟨b, i, none⟩ v g (fun e => hne (by have e' : g = b := e; omega)))).trans h, HasAt.far hne t⟩
theorem Has.far {W : World} {b i : Nat} {v : Value} : ∀ {l : List (Nat × List Value)}, (∀ p ∈ l, b ≠ p.1) → Has W l → Has (W.setCell ⟨b, i, none⟩ v) l
  | [], _, _ => trivial
  | p :: _, hl, ⟨⟨h1, h2, h3⟩, t⟩ => ⟨⟨by simpa using h1, fun o => (World.frozen?_setCell ..).trans (h2 o), HasAt.far (hl p (List.mem_cons_self ..)) h3⟩, Has.far (fun q hq => hl q (List.mem_cons_of_mem _ hq)) t⟩
/-- A store into a box of one cell. -/
theorem St.set1 {w W : World} {b : Nat} {u : Value} {l : List (Nat × List Value)} (h : St w W ((b, [u]) :: l)) (v : Value) (hb : w.heap.size ≤ b) (hl : ∀ p ∈ l, b ≠ p.1) : St w (W.setCell ⟨b, 0, none⟩ v) ((b, [v]) :: l) := by
  obtain ⟨h1, ⟨h2, h3, h4, _⟩, h5⟩ := h
  exact ⟨h1.setCell (p := ⟨b, 0, none⟩) hb _, ⟨⟨by simpa using h2, fun o => (World.frozen?_setCell ..).trans (h3 o), World.cell?_setCell_same' _ _ _ (by rw [h4]; rfl), trivial⟩, Has.far hl h5⟩⟩

theorem isUp_mono {l x y m p q : Int} {j k : Nat} (hjk : j ≤ k) (h : isUp l x y m p q j = true) : isUp l x y m p q k = true := by
  induction k with
  | zero => rw [Nat.le_zero.mp hjk] at h; exact h
  | succ k ih =>
    rcases Nat.lt_or_ge j (k + 1) with hj | hj
    · simp only [isUp, ih (by omega), Bool.true_or]
    · rw [show k + 1 = j by omega]; exact h
def insB (l x y m p q : Int) : Bool := (cellB l x y && cellB m p q) && isUp l x y m p q (l.toNat + 1)

set_option maxRecDepth 100000 in
set_option maxHeartbeats 2000000 in
theorem iInside_any (l x y m p q : Int) (w : World) :
    Calls Try.prog 99 #[.agg #[.int .i64 l, .int .i64 x, .int .i64 y], .agg #[.int .i64 m, .int .i64 p, .int .i64 q]] w fun e w' => e = .returned (.bool (insB l x y m p q)) ∧ Below w.heap.size w w' := by
  cases hv : (cellB l x y && cellB m p q)
  · have hs := St.nil w
    have hi : insB l x y m p q = false := by simp [insB, hv]
    rw [hi]
    go_enter Try.func99, Try.ntmps99
    go_wp2_with (go_at_call 63; refine (every_cc_v l x y m p q _ _ _ hv ?_ ?_ ?_).mono ?_; (focus (simp; done)); (focus (simp [go_sem]; done)); (focus (simp [go_sem]; done)); rintro e w1 ⟨rfl, hb2⟩; (first | replace hs := hs.step hb2 | replace hs := (hs.push _ _).step hb2 | replace hs := ((hs.push _ _).push _ _).step hb2 | replace hs := (((hs.push _ _).push _ _).push _ _).step hb2 | replace hs := ((((hs.push _ _).push _ _).push _ _).push _ _).step hb2); (try clear hk); (try simp only [World.size_alloc] at hs); have hk := hs.has; simp [Has, HasAt] at hk)
    refine bodyPost_ret (v := .bool false) (by simp [results, Try.results99, go_sem, hk]) rfl ⟨rfl, ?_⟩
    exact hs.bel.setCell (p := ⟨w.heap.size + 1 + 1, 0, none⟩) (by show w.heap.size ≤ w.heap.size + 1 + 1; omega) _
  · obtain ⟨g1, g2⟩ := (Bool.and_eq_true _ _).mp hv
    have hs := St.nil w
    refine (callsIn_wide (n := 3)).1 ?_
    refine callsIn_of_wp_marks Try.func99 rfl trivial ?_ rfl
    simp only [Try.ntmps99, List.size_toArray, List.length_cons, List.length_nil, Nat.reduceAdd, Nat.reduceSub, Array.replicate_succ, Array.replicate_zero, List.push_toArray, List.append_toArray, List.nil_append, List.cons_append]
    gi_wp2_with (first | (refine ⟨trivial, ?_⟩; gi_at_call 63; refine (callsIn_wide.2 (every_cc_v l x y m p q _ _ _ hv ?_ ?_ ?_)).mono ?_; (focus (simp; done)); (focus (simp [go_sem]; done)); (focus (simp [go_sem]; done)); rintro e w1 ⟨rfl, hb2⟩; (first | replace hs := hs.step hb2 | replace hs := (hs.push _ _).step hb2 | replace hs := ((hs.push _ _).push _ _).step hb2 | replace hs := (((hs.push _ _).push _ _).push _ _).step hb2 | replace hs := ((((hs.push _ _).push _ _).push _ _).push _ _).step hb2); (try clear hk); (try simp only [World.size_alloc] at hs); have hk := hs.has; simp [Has, HasAt] at hk) | (refine ⟨trivial, ?_⟩; gi_at_call 104; refine (callsIn_wide.2 (upward_any _ _ _ _)).mono ?_; rintro e w2 ⟨rfl, rfl⟩))
    have hs0 := (hs.push [.int .i64 l, .int .i64 x, .int .i64 y] 28).sub (l' := [(w1.heap.size, [.int .i64 l, .int .i64 x, .int .i64 y]), (w.heap.size + 1 + 1, [.bool false]), (w.heap.size + 1, [.int .i64 m, .int .i64 p, .int .i64 q])]) (by simp)
    clear hk hs hb2
    generalize w1.heap.size = bx at hs0 ⊢
    generalize w1.alloc _ = W0 at hs0 ⊢
    have hk0 := hs0.has
    simp [Has, HasAt] at hk0
    have hz0 := hs0.size
    have hlt : w.heap.size + 1 + 1 < W0.heap.size := hk0.2.1.1
    refine range_up (gf := 106) (lb := #[.pointer (some ⟨bx, 0, none⟩)]) rfl (enters_of Try.func106 (by kernel_rfl) rfl) (cs := cellsU l x y) (t := 28) (up_seq g1 bx W0 hk0.1.1 hk0.1.2.2.1 hk0.1.2.2.2.1 hk0.1.2.2.2.2)
      (fun k W => isUp l x y m p q k = false ∧ St w W [(w.heap.size + 1 + 1, [.bool false]), (w.heap.size + 1, [.int .i64 m, .int .i64 p, .int .i64 q])])
      (fun k W => isUp l x y m p q (k + 1) = true ∧ St w W [(w.heap.size + 1 + 1, [.bool true])])
      (fun k X Y hq hb => ⟨hq.1, hq.2.stab hb hz0 (by simp; omega)⟩)
      (fun k X Y hq hb => ⟨hq.1, hq.2.stab hb hz0 (by simp; omega)⟩)
      ⟨rfl, hs0.sub (by simp)⟩
      (fun k v => { defers := [], tmps := #[Value.agg #[Value.int IntKind.i64 l, Value.int IntKind.i64 x, Value.int IntKind.i64 y],
          Value.agg #[Value.int IntKind.i64 m, Value.int IntKind.i64 p, Value.int IntKind.i64 q],
          Value.pointer (some { block := w.heap.size, off := 0 }),
          Value.pointer (some { block := w.heap.size + 1, off := 0 }),
          Value.pointer (some { block := w.heap.size + 1 + 1, off := 0 }), Value.pointer (some { block := v, off := 0 }),
          Value.agg #[Value.int IntKind.i64 l, Value.int IntKind.i64 x, Value.int IntKind.i64 y],
          Value.func (Fn.func 66)
            #[Value.agg #[Value.int IntKind.i64 l, Value.int IntKind.i64 x, Value.int IntKind.i64 y]] #[],
          Value.agg #[Value.int IntKind.i64 m, Value.int IntKind.i64 p, Value.int IntKind.i64 q],
          Value.func (Fn.func 66)
            #[Value.agg #[Value.int IntKind.i64 m, Value.int IntKind.i64 p, Value.int IntKind.i64 q]] #[],
          Value.slice (some { block := w.heap.size + 1 + 1 + 1, off := 0 }) 2 2, Value.bool true, Value.bool false,
          Value.agg #[Value.int IntKind.i64 l, Value.int IntKind.i64 x, Value.int IntKind.i64 y],
          Value.func (Fn.func 106) #[] #[Value.pointer (some { block := bx, off := 0 })], encU l x y k, undef, undef,
          undef] }) ?assign ?body ?done ?stop
    case assign =>
      intro l1 k W K hK
      simp only [encU, cellsU] at hK ⊢
      gi_wp2
      exact hK
    case body =>
      rintro l1 k v W hkN ⟨hu, hst⟩ hv1 hv2 hv3 hz1
      have hk1 := hst.has
      simp [Has, HasAt] at hk1
      have v0 : W.cell? ⟨v, 0, none⟩ = some (.int .i64 (l - k)) := by simp [World.cell?, hv3, cellsU]
      have v1 : W.cell? ⟨v, 1, none⟩ = some (.int .i64 (half x k)) := by simp [World.cell?, hv3, cellsU]
      have v2 : W.cell? ⟨v, 2, none⟩ = some (.int .i64 (half y k)) := by simp [World.cell?, hv3, cellsU]
      gi_wp2
      · exact ⟨KeepF.setCell W 0 _ hlt, by simp_all [isUp], (hst.set1 _ (by omega) (by simp)).sub (by simp)⟩
      all_goals exact ⟨KeepF.refl _ _, by simp_all [isUp], hst⟩
    case done =>
      rintro W ⟨hu, hst⟩ hD
      have hk1 := hst.has
      simp [Has, HasAt] at hk1
      gi_wp2
      have hD2 : (W.setCell ⟨w.heap.size + 1 + 1, 0, none⟩ (.bool false)).heap[W0.heap.size]? = some (.deferred (some [])) := (KeepsOthers.setCell _ _ _).same _ _ hD rfl
      have hst2 := hst.set1 (.bool false) (by omega) (by simp)
      have hres : ((W.setCell ⟨w.heap.size + 1 + 1, 0, none⟩ (.bool false)).putObj W0.heap.size (.deferred none)).cell? ⟨w.heap.size + 1 + 1, 0, none⟩ = some (.bool false) :=
        (World.cell?_of_block (World.putObj_heap_other (by show w.heap.size + 1 + 1 ≠ W0.heap.size; omega))).trans hst2.has.1.2.2.1
      refine ⟨by simp, .inl ⟨_, _, rfl, run_takeDeferred hD2, ?_⟩⟩
      refine ⟨.bool false, by simp [results, Try.results99, go_sem, hres], ?_, hst2.bel.trans (below_putObj _ _ hz0)⟩
      rw [insB, hv, hu]; rfl
    case stop =>
      rintro k W hkN ⟨hu, hst⟩ hD
      have hk1 := hst.has
      simp [Has, HasAt] at hk1
      gi_wp2
      have hres : (W.putObj W0.heap.size (.deferred none)).cell? ⟨w.heap.size + 1 + 1, 0, none⟩ = some (.bool true) :=
        (World.cell?_of_block (World.putObj_heap_other (by show w.heap.size + 1 + 1 ≠ W0.heap.size; omega))).trans hst.has.1.2.2.1
      refine ⟨by simp, .inl ⟨_, _, rfl, run_takeDeferred hD, ?_⟩⟩
      refine ⟨.bool true, by simp [results, Try.results99, go_sem, hres], ?_, hst.bel.trans (below_putObj _ _ hz0)⟩
      rw [insB, hv, isUp_mono (by omega) hu]; rfl

end Go.Proofs.Ytamnmakegdnblaa.M
namespace Go.Proofs.Ytamnmakegdnblaa.M
open Go.RowKit Go.Joins

theorem keepS {P C : World → Prop} (hS : ∀ w', P w' → C w') {w' : World} (h : P w') : P w' ∧ C w' := ⟨h, hS _ h⟩
def lInB (l x y m p q : Int) : Bool := decide (m ≤ l ∧ x / 2 ^ (l - m).toNat = p ∧ y / 2 ^ (l - m).toNat = q)
theorem half_eq (x : Int) : ∀ k : Nat, half x k = x / 2 ^ k
  | 0 => by simp [half]
  | k + 1 => by
    rw [half, half_eq x k, Int.pow_succ]
    exact Int.ediv_ediv_of_nonneg (Int.pow_nonneg (by decide))
theorem isUp_iff {l x y m p q : Int} : ∀ {n : Nat}, isUp l x y m p q n = true ↔ ∃ k : Nat, k < n ∧ l - k = m ∧ half x k = p ∧ half y k = q
  | 0 => by simp [isUp]
  | n + 1 => by
    rw [isUp, Bool.or_eq_true, isUp_iff]
    simp only [Bool.and_eq_true, beq_iff_eq]
    constructor
    · rintro (⟨k, h1, h2⟩ | ⟨⟨h1, h2⟩, h3⟩)
      · exact ⟨k, by omega, h2⟩
      · exact ⟨n, by omega, h1, h2, h3⟩
    · rintro ⟨k, h1, h2, h3, h4⟩
      by_cases e : k = n
      · subst e; exact .inr ⟨⟨h2, h3⟩, h4⟩
      · exact .inl ⟨k, by omega, h2, h3, h4⟩
theorem insB_eq (l x y m p q : Int) : insB l x y m p q = ((cellB l x y && cellB m p q) && lInB l x y m p q) := by
  cases hv : (cellB l x y && cellB m p q)
  · simp [insB, hv]
  · obtain ⟨g1, g2⟩ := (Bool.and_eq_true _ _).mp hv
    have h1 := cell_lev g1
    have h2 := cell_lev g2
    rw [insB, hv, Bool.true_and, Bool.true_and, Bool.eq_iff_iff, isUp_iff, lInB, decide_eq_true_iff]
    constructor
    · rintro ⟨k, a, b, c, d⟩
      have : (l - m).toNat = k := by omega
      rw [this, ← half_eq, ← half_eq]
      exact ⟨by omega, c, d⟩
    · rintro ⟨a, b, c⟩
      exact ⟨(l - m).toNat, by omega, by omega, by rw [half_eq]; exact b, by rw [half_eq]; exact c⟩

set_option maxHeartbeats 1000000 in
theorem lInside_any {l x y m p q : Int} (h1 : 0 ≤ l ∧ l ≤ 8) (h2 : 0 ≤ m ∧ m ≤ 8) (w : World) :
    Calls Try.prog 57 #[.agg #[.int .i64 l, .int .i64 x, .int .i64 y], .agg #[.int .i64 m, .int .i64 p, .int .i64 q]] w fun e w' => e = .returned (.bool (lInB l x y m p q)) ∧ Below w.heap.size w w' := by
  by_cases hlt : l < m
  · go_enter Try.func57, Try.ntmps57
    go_wp2
    go_ret
    exact ⟨ret_bool (by unfold lInB; exact (decide_eq_false (by omega)).symm), below_alloc2 _ _ _⟩
  · have g1 : 0 ≤ l - m := by omega
    have g2 : l - m ≤ 64 := by omega
    have g3 : wrap64 (l - m) = l - m := w64 (by omega) (by omega)
    go_enter Try.func57, Try.ntmps57
    go_wp2
    all_goals (go_ret; refine ⟨ret_bool ?_, below_alloc2 _ _ _⟩)
    all_goals (simp only [lInB]; first | (simp_all; done) | (simp_all; rfl))

theorem lInside_v {l x y m p q : Int} {v : Bool} (h1 : 0 ≤ l ∧ l ≤ 8) (h2 : 0 ≤ m ∧ m ≤ 8) (hv : lInB l x y m p q = v) (w : World) :
    Calls Try.prog 57 #[.agg #[.int .i64 l, .int .i64 x, .int .i64 y], .agg #[.int .i64 m, .int .i64 p, .int .i64 q]] w fun e w' => e = .returned (.bool v) ∧ Below w.heap.size w w' := by subst hv; exact lInside_any h1 h2 w

end Go.Proofs.Ytamnmakegdnblaa.M
