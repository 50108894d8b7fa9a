/-
  The program's Cover: the closure that calls itself.
-/
import Derived.Test.YthmpemamagjeeaaK3
namespace Go.Proofs.Ythmpemamagjeeaa
open Go.RowKit Go.Joins
attribute [local go_sem] Oper.semAt_some

theorem meetI_no {x y a b : Int} {c : T3} (_ : c.ok = true) (_ : okB x y a b = true) (hm : cvB x y a b c = false) (w : World) :
    Calls Try.prog 23 #[.agg #[.int .i64 (rX c.l c.x c.y), .int .i64 (rY c.l c.x c.y), .int .i64 (rS c.l c.x c.y), .int .i64 (rS c.l c.x c.y)], .agg #[.int .i64 x, .int .i64 y, .int .i64 a, .int .i64 b]] w fun e w' => e = .returned (.tuple #[.agg #[.int .i64 0, .int .i64 0, .int .i64 0, .int .i64 0], .bool false]) ∧ Below w.heap.size w w' := by
  have := iMeet_any (rX c.l c.x c.y) (rY c.l c.x c.y) (rS c.l c.x c.y) (rS c.l c.x c.y) x y a b w
  have e : meetV (rX c.l c.x c.y) (rY c.l c.x c.y) (rS c.l c.x c.y) (rS c.l c.x c.y) x y a b = .tuple #[.agg #[.int .i64 0, .int .i64 0, .int .i64 0, .int .i64 0], .bool false] := by
    unfold cvB at hm; unfold meetV; rw [hm, Bool.and_false]; rfl
  rw [e] at this; exact this
theorem meetI_yes {x y a b : Int} {c : T3} (hc : c.ok = true) (hr : okB x y a b = true) (hm : cvB x y a b c = true) (w : World) :
    Calls Try.prog 23 #[.agg #[.int .i64 (rX c.l c.x c.y), .int .i64 (rY c.l c.x c.y), .int .i64 (rS c.l c.x c.y), .int .i64 (rS c.l c.x c.y)], .agg #[.int .i64 x, .int .i64 y, .int .i64 a, .int .i64 b]] w fun e w' => e = .returned (.tuple #[.agg #[.int .i64 (max (rX c.l c.x c.y) x), .int .i64 (max (rY c.l c.x c.y) y), .int .i64 (mW (rX c.l c.x c.y) (rS c.l c.x c.y) x a), .int .i64 (mW (rY c.l c.x c.y) (rS c.l c.x c.y) y b)], .bool true]) ∧ Below w.heap.size w w' := by
  have := iMeet_any (rX c.l c.x c.y) (rY c.l c.x c.y) (rS c.l c.x c.y) (rS c.l c.x c.y) x y a b w
  have e : meetV (rX c.l c.x c.y) (rY c.l c.x c.y) (rS c.l c.x c.y) (rS c.l c.x c.y) x y a b = .tuple #[.agg #[.int .i64 (max (rX c.l c.x c.y) x), .int .i64 (max (rY c.l c.x c.y) y), .int .i64 (mW (rX c.l c.x c.y) (rS c.l c.x c.y) x a), .int .i64 (mW (rY c.l c.x c.y) (rS c.l c.x c.y) y b)], .bool true] := by
    unfold cvB at hm; unfold meetV; rw [hm, hr, rect_ok hc]; rfl
  rw [e] at this; exact this
theorem meetI_all {x y a b : Int} {c : T3} (hc : c.ok = true) (hr : okB x y a b = true) (hm : cvB x y a b c = true) (ha : cvAll x y a b c) (w : World) :
    Calls Try.prog 23 #[.agg #[.int .i64 (rX c.l c.x c.y), .int .i64 (rY c.l c.x c.y), .int .i64 (rS c.l c.x c.y), .int .i64 (rS c.l c.x c.y)], .agg #[.int .i64 x, .int .i64 y, .int .i64 a, .int .i64 b]] w fun e w' => e = .returned (.tuple #[.agg #[.int .i64 (rX c.l c.x c.y), .int .i64 (rY c.l c.x c.y), .int .i64 (rS c.l c.x c.y), .int .i64 (rS c.l c.x c.y)], .bool true]) ∧ Below w.heap.size w w' := by
  have := meetI_yes hc hr hm w
  have ha := cvAll_iff.mp ha
  rw [ha.1, ha.2.1, ha.2.2.1, ha.2.2.2] at this
  exact this
theorem meetI_some {x y a b : Int} {c : T3} (hc : c.ok = true) (hr : okB x y a b = true) (hm : cvB x y a b c = true) (ha : ¬ cvAll x y a b c) (w : World) :
    Calls Try.prog 23 #[.agg #[.int .i64 (rX c.l c.x c.y), .int .i64 (rY c.l c.x c.y), .int .i64 (rS c.l c.x c.y), .int .i64 (rS c.l c.x c.y)], .agg #[.int .i64 x, .int .i64 y, .int .i64 a, .int .i64 b]] w fun e w' => ∃ p q r s : Int, e = .returned (.tuple #[.agg #[.int .i64 p, .int .i64 q, .int .i64 r, .int .i64 s], .bool true]) ∧ ¬ (p = rX c.l c.x c.y ∧ q = rY c.l c.x c.y ∧ r = rS c.l c.x c.y ∧ s = rS c.l c.x c.y) ∧ Below w.heap.size w w' :=
  (meetI_yes hc hr hm w).mono fun _ _ ⟨h1, h2⟩ => ⟨_, _, _, _, h1, fun h => ha (cvAll_iff.mpr h), h2⟩

theorem ExtB.store {base lb : Nat} {W W3 : World} {v v' : Value} {M : List T3} (h : Ext base W v W3 v' M) (hb : Has W [(lb, [v])]) (hvl : v.ownBlock ≠ some lb) : ExtB base lb W v (W3.setCell ⟨lb, 0, none⟩ v') v' M := by
  obtain ⟨hb3, hd⟩ := h.far hb (by simpa using hvl)
  have hd' : v'.ownBlock ≠ some lb := hd (lb, [v]) (by simp)
  refine ⟨h.own.kept (grownBy_setCell' W3 lb _) (.inr hd'), h.gr.os, h.gr.tape, h.gr.output, by simpa using h.gr.size, fun k hk h1 h2 => ?_, h.lies, ?_⟩
  · exact (Below.heap_setCell W3 ⟨lb, 0, none⟩ v' k h1).trans (h.gr.block k hk (fun e => h2 e.symm))
  · exact ⟨⟨by simpa using hb3.1.1, fun o => (World.frozen?_setCell ..).trans (hb3.1.2.1 o), World.cell?_setCell_same' _ _ _ (by rw [hb3.1.2.2.1]; rfl), trivial⟩, trivial⟩

def DnP (x y a b : Int) (base rb lb db n : Nat) : Prop := ∀ (c : T3) (v : Value) (A : List T3) (w : World), c.ok = true → (8 - c.l).toNat = n → Ow w base v A → Has w [(lb, [v])] → Has w [(rb, [.int .i64 x, .int .i64 y, .int .i64 a, .int .i64 b]), (db, [.func (.func 45) #[] #[.pointer (some ⟨rb, 0, none⟩), .pointer (some ⟨lb, 0, none⟩), .pointer (some ⟨db, 0, none⟩)]])] → (∀ p ∈ ([(rb, [.int .i64 x, .int .i64 y, .int .i64 a, .int .i64 b]), (db, [.func (.func 45) #[] #[.pointer (some ⟨rb, 0, none⟩), .pointer (some ⟨lb, 0, none⟩), .pointer (some ⟨db, 0, none⟩)]])] : List (Nat × List Value)), p.1 ≠ lb ∧ v.ownBlock ≠ some p.1) → v.ownBlock ≠ some lb → A.length + 4 ^ n ≤ 1000000 → base ≤ w.heap.size →
    Calls Try.prog 45 #[.agg #[.int .i64 c.l, .int .i64 c.x, .int .i64 c.y], .pointer (some ⟨rb, 0, none⟩), .pointer (some ⟨lb, 0, none⟩), .pointer (some ⟨db, 0, none⟩)] w fun e w' => ∃ v', e = .returned (.tuple #[]) ∧ ExtB base lb w v w' v' (A ++ dec (cvF x y a b) n c)

set_option maxRecDepth 100000 in
set_option maxHeartbeats 4000000 in
theorem down_no {x y a b : Int} (hr : okB x y a b = true) (base rb lb db n : Nat) (c : T3) (v : Value) (A : List T3) (w : World) (hm : cvB x y a b c = false) (hc : c.ok = true) (hrow : Ow w base v A) (hbox : Has w [(lb, [v])]) (hl0 : Has w [(rb, [.int .i64 x, .int .i64 y, .int .i64 a, .int .i64 b]), (db, [.func (.func 45) #[] #[.pointer (some ⟨rb, 0, none⟩), .pointer (some ⟨lb, 0, none⟩), .pointer (some ⟨db, 0, none⟩)]])]) :
    Calls Try.prog 45 #[.agg #[.int .i64 c.l, .int .i64 c.x, .int .i64 c.y], .pointer (some ⟨rb, 0, none⟩), .pointer (some ⟨lb, 0, none⟩), .pointer (some ⟨db, 0, none⟩)] w fun e w' => ∃ v', e = .returned (.tuple #[]) ∧ ExtB base lb w v w' v' (A ++ dec (cvF x y a b) n c) := by
  have hf : cvF x y a b c = 0 := by simp [cvF, hm]
  have hs : St w w [(rb, [.int .i64 x, .int .i64 y, .int .i64 a, .int .i64 b]), (db, [.func (.func 45) #[] #[.pointer (some ⟨rb, 0, none⟩), .pointer (some ⟨lb, 0, none⟩), .pointer (some ⟨db, 0, none⟩)]])] := ⟨Below.refl _ _, hl0⟩
  go_enter Try.func45, Try.ntmps45
  go_wp2_with (first
    | (go_at_call 20; refine (iRectOf_any _ _ _ _).mono ?_; rintro e w1 ⟨rfl, hb2⟩; replace hs := (hs.push _ _).step hb2; (try simp only [World.size_alloc] at hs); have hk := hs.has; simp [Has, HasAt] at hk)
    | (go_at_call 23; refine (meetI_no hc hr hm _).mono ?_; rintro e w1 ⟨rfl, hb2⟩; replace hs := (hs.push _ _).step hb2; (try simp only [World.size_alloc] at hs); clear hk; have hk := hs.has; simp [Has, HasAt] at hk))
  refine bodyPost_ret (results_none rfl _ _ _) rfl ?_
  rw [dec_no hf, List.append_nil]
  exact ⟨v, rfl, (ExtB.refl hrow hbox).behind (hs.al _).bel⟩

set_option maxRecDepth 100000 in
set_option maxHeartbeats 4000000 in
theorem down_all {x y a b : Int} (hr : okB x y a b = true) (base rb lb db n : Nat) (c : T3) (v : Value) (A : List T3) (w : World) (hm : cvB x y a b c = true) (ha : cvAll x y a b c) (hc : c.ok = true) (hrow : Ow w base v A) (hbox : Has w [(lb, [v])]) (hl0 : Has w [(rb, [.int .i64 x, .int .i64 y, .int .i64 a, .int .i64 b]), (db, [.func (.func 45) #[] #[.pointer (some ⟨rb, 0, none⟩), .pointer (some ⟨lb, 0, none⟩), .pointer (some ⟨db, 0, none⟩)]])]) (hlen : A.length + 1 ≤ 1000000) (hvl : v.ownBlock ≠ some lb) (hbase : base ≤ w.heap.size) :
    Calls Try.prog 45 #[.agg #[.int .i64 c.l, .int .i64 c.x, .int .i64 c.y], .pointer (some ⟨rb, 0, none⟩), .pointer (some ⟨lb, 0, none⟩), .pointer (some ⟨db, 0, none⟩)] w fun e w' => ∃ v', e = .returned (.tuple #[]) ∧ ExtB base lb w v w' v' (A ++ dec (cvF x y a b) n c) := by
  have hf : cvF x y a b c = 2 := by unfold cvAll at ha; simp [cvF, hm, ha]
  obtain ⟨i0, hi, hz0, hz1, hz2⟩ := info_parts info38
  have hs : St w w ((lb, [v]) :: [(rb, [.int .i64 x, .int .i64 y, .int .i64 a, .int .i64 b]), (db, [.func (.func 45) #[] #[.pointer (some ⟨rb, 0, none⟩), .pointer (some ⟨lb, 0, none⟩), .pointer (some ⟨db, 0, none⟩)]])]) := ⟨Below.refl _ _, hbox.1, hl0⟩
  go_enter Try.func45, Try.ntmps45
  go_upto_region 8 with (first
    | (go_at_call 20; refine (iRectOf_any _ _ _ _).mono ?_; rintro e w1 ⟨rfl, hb2⟩; replace hs := (hs.push _ _).step hb2; (try simp only [World.size_alloc] at hs); have hk := hs.has; simp [Has, HasAt] at hk)
    | (go_at_call 23; refine (meetI_all hc hr hm ha _).mono ?_; rintro e w1 ⟨rfl, hb2⟩; replace hs := (hs.push _ _).step hb2; (try simp only [World.size_alloc] at hs); clear hk; have hk := hs.has; simp [Has, HasAt] at hk))
  generalize hW1 : w1.alloc _ = W1
  have hs1 : St w W1 [(lb, [v]), (w.heap.size, [.int .i64 c.l, .int .i64 c.x, .int .i64 c.y])] := by rw [← hW1]; exact (hs.al _).sub (by simp)
  clear hs hk hb2 hW1
  have hk := hs1.has
  simp [Has, HasAt] at hk
  have hrow1 := own_of_below hrow hs1.bel
  have hsz := hs1.size
  have happ : ∀ {w3 : World}, (W1.alloc (.cells #[.int .i64 c.l, .int .i64 c.x, .int .i64 c.y] 38)).grownBy w3 v.ownBlock → Has w3 [(lb, [v])] := fun hg => Has.grown hg ((hs1.al _).sub (l' := [(lb, [v])]) (by simp)).has (by simpa using hvl)
  go_wp2_with (at_builtin; refine wpList_append_own_at _ rfl _ _ 27 rfl base 38 i0 (.agg #[.int .i64 0, .int .i64 0, .int .i64 0]) 3 24 Try.underlying27 hi hz0 hz1 hz2 rfl (by decide) _ _ _ rfl (hrow1.alloc _) ⟨W1.heap.size, 0, none⟩ 1 1 c.vs rfl rfl (cell_three_at rfl) (fun u hu => by simp [T3.vs] at hu; rcases hu with rfl | rfl | rfl <;> rfl) (by unfold maxLen; omega) (by omega) (by simp; omega) ?_; intro v' w3 hown' hgrow hnn hat; have hb3 := happ hgrow; have hk3 := hb3; simp [Has, HasAt] at hk3; obtain ⟨g', cap', rfl⟩ := ownsRow_succ hown')
  go_end0
  rw [dec_full hf]
  have hO : Ow w3 base (.slice (some ⟨g', 0, none⟩) (A.length + 1) cap') (A ++ [c]) := by
    unfold Ow; rw [List.length_append, flat_append]; exact hown'
  have hE : Ext base (W1.alloc (.cells #[.int .i64 c.l, .int .i64 c.x, .int .i64 c.y] 38)) v w3 (.slice (some ⟨g', 0, none⟩) (A.length + 1) cap') (A ++ [c]) := by
    refine ⟨hO, hgrow, fun g e => ?_⟩
    rcases hat with e2 | e2
    · exact .inl (e2.symm.trans e)
    · rw [e2] at e; cases e; exact .inr (Nat.le_refl _)
  exact ⟨_, rfl, ExtB.ahead (hs1.al _).bel (ExtB.store hE ((hs1.al _).sub (l' := [(lb, [v])]) (by simp)).has hvl)⟩

theorem St.alp {w wx : World} {l : List (Nat × List Value)} (h : St w wx l) (o : Obj) (vs : List Value) (t : TypeId) : St w ((wx.alloc o).alloc (.cells vs.toArray t)) ((wx.heap.size + 1, vs) :: l) := by
  have := (h.al o).push vs t; rw [World.size_alloc] at this; exact this
theorem decs_four (f : T3 → Int) (m : Nat) (c : T3) : (List.finRange 4).flatMap (fun i : Fin 4 => dec f m (c.q i.val)) = decs f m c 4 := by
  rw [show List.finRange 4 = [(0 : Fin 4), 1, 2, 3] from rfl]
  simp [decs, List.flatMap_cons]
  rfl
theorem flat_len_le (f : T3 → Int) (m : Nat) (c : T3) : ∀ l : List (Fin 4), (l.flatMap (fun i : Fin 4 => dec f m (c.q i.val))).length ≤ l.length * 4 ^ m
  | [] => by simp
  | i :: t => by have := flat_len_le f m c t; have := dec_len f m (c.q i.val); simp only [List.flatMap_cons, List.length_append, List.length_cons, Nat.succ_mul]; omega

set_option maxRecDepth 100000 in
set_option maxHeartbeats 4000000 in
theorem down_range {x y a b : Int} (base rb lb db bq m : Nat) (ih : DnP x y a b base rb lb db m) (c : T3) (v : Value) (A : List T3) (w : World) (hc : c.ok = true) (hl8 : c.l < 8) (hn : (8 - c.l).toNat = m + 1) (hrow : Ow w base v A) (hbox : Has w [(lb, [v])]) (hl0 : Has w [(rb, [.int .i64 x, .int .i64 y, .int .i64 a, .int .i64 b]), (db, [.func (.func 45) #[] #[.pointer (some ⟨rb, 0, none⟩), .pointer (some ⟨lb, 0, none⟩), .pointer (some ⟨db, 0, none⟩)]])]) (hd : ∀ p ∈ ([(rb, [.int .i64 x, .int .i64 y, .int .i64 a, .int .i64 b]), (db, [.func (.func 45) #[] #[.pointer (some ⟨rb, 0, none⟩), .pointer (some ⟨lb, 0, none⟩), .pointer (some ⟨db, 0, none⟩)]])] : List (Nat × List Value)), p.1 ≠ lb ∧ v.ownBlock ≠ some p.1) (hq : Has w [(bq, c.vs)]) (hdq : bq ≠ lb ∧ v.ownBlock ≠ some bq) (hlen : A.length + 4 ^ (m + 1) ≤ 1000000) (hvl : v.ownBlock ≠ some lb) (hbase : base ≤ w.heap.size)
    (u0 u1 u2 u4 u5 u6 u7 u8 u9 u10 u11 u12 u13 u14 u15 u16 u17 u19 u20 u21 u22 u23 u24 u25 u26 u27 u28 u29 u30 u31 u32 u33 : Value) (s1 s2 : String) (Q : Exit → Act → World → Prop)
    (hdone : ∀ (D : Nat) (W : World) (v' : Value), w.heap.size ≤ D → ExtB base lb w v W v' (A ++ decs (cvF x y a b) m c 4) → W.heap[D]? = some (.deferred (some [])) → Q .normal { tmps := #[u0, u1, u2, .pointer (some ⟨db, 0, none⟩), u4, u5, u6, u7, u8, u9, u10, u11, u12, u13, u14, u15, u16, u17, .func (Fn.func 78) #[] #[.pointer (some ⟨bq, 0, none⟩)], u19, u20, u21, u22, u23, u24, u25, u26, u27, u28, u29, u30, u31, u32, u33], defers := [{ target := .collected D, args := #[] }] } W) :
    Code.wpIn Fence.wide 3 Try.prog (Code.rangeFunc (Operand.tmp 18) #[19]
      (Code.region 4
        #[{ dst := some 8, op := Op.alloc 38, type := 0, pos := s1, after := #[], guard := none },
          { dst := none, op := Op.store 38 (Operand.tmp 8) (Operand.tmp 19), type := 0, pos := s1,
            after := #[{ on := 0, ground := Ground.data }, { on := 0, ground := Ground.phase }], guard := none }]
        false)
      (Code.block 2
        (Code.region 5
          #[{ dst := some 20, op := Op.load 64 (Operand.tmp 3), type := 64, pos := s2, after := #[],
              guard := none },
            { dst := some 21, op := Op.load 38 (Operand.tmp 8), type := 38, pos := s2, after := #[],
              guard := none },
            { dst := some 22,
              op := Op.call { callee := Callee.value (Operand.tmp 20), args := #[Operand.tmp 21], argTypes := #[38] },
              type := 0, pos := s2,
              after := #[{ on := 0, ground := Ground.data }, { on := 1, ground := Ground.data }], guard := none }]
          false))) Q { tmps := #[u0, u1, u2, .pointer (some ⟨db, 0, none⟩), u4, u5, u6, u7, u8, u9, u10, u11, u12, u13, u14, u15, u16, u17, .func (Fn.func 78) #[] #[.pointer (some ⟨bq, 0, none⟩)], u19, u20, u21, u22, u23, u24, u25, u26, u27, u28, u29, u30, u31, u32, u33], defers := [] } w := by
  have hk0 := hq
  simp [Has, HasAt, T3.vs] at hk0
  refine wpIn_rangeFunc_ownH rfl (by decide) (gf := 78) (lb := #[.pointer (some ⟨bq, 0, none⟩)]) rfl trivial (enters_of Try.func78 (by kernel_rfl) rfl)
    (quart_stopsF hc bq w hk0.1 hk0.2.2.1 hk0.2.2.2.1 hk0.2.2.2.2) (fun h k => k.trans h) (fun W l o o' hl _ _ _ => World.putObj_heap_other (by have := hk0.1; omega)) (Below.refl _ _) (fun _ => rfl)
    (fun pre W => ∃ v', ExtB base lb w v W v' (A ++ pre.flatMap (fun i : Fin 4 => dec (cvF x y a b) m (c.q i.val))))
    (fun _ _ _ => False)
    ?own (fun _ _ _ _ _ hs _ _ => hs)
    ⟨v, by rw [List.flatMap_nil, List.append_nil]; exact ExtB.refl hrow hbox⟩
    (fun i a' W => ∃ vb, w.heap.size ≤ vb ∧ W.heap[vb]? = some (.cells (qc c.l c.x c.y i.val).toArray 38 (0, 0)) ∧ a' = { defers := [], tmps := #[u0, u1, u2, .pointer (some ⟨db, 0, none⟩), u4, u5, u6, u7, .pointer (some ⟨vb, 0, none⟩), u9, u10, u11, u12, u13, u14, u15, u16, u17, .func (Fn.func 78) #[] #[.pointer (some ⟨bq, 0, none⟩)], qe c.l c.x c.y i.val, u20, u21, u22, u23, u24, u25, u26, u27, u28, u29, u30, u31, u32, u33] })
    ?ownA ?assign ?body ?done ?stop
  case own =>
    rintro s X Y row ⟨v', hE⟩ hg hrw
    exact ⟨v', hE.grow hg hrw⟩
  case ownA =>
    rintro i a' _ X Y row ⟨vb, h1, h2, h3⟩ hg hr
    refine ⟨vb, h1, (hg.block vb (Array.getElem?_eq_some_iff.1 h2).1 (fun e => ?_)).trans h2, h3⟩
    obtain ⟨o, ho, hc⟩ := (hr vb e.symm).2
    rw [h2] at ho; cases ho; cases hc
  case assign =>
    rintro l1 pre i W K ⟨v', hE⟩ hK
    simp only [qe] at hK ⊢
    gi_wp2
    exact hK _ _ ((KeepsOthers.alloc _ _).from _) (Below.heap_alloc _ _ _ (by have := hE.size; have := hk0.1; omega)) ⟨v', hE.behind (below_alloc1 _ _)⟩ ⟨W.heap.size, hE.size, World.alloc_heap_new _ _, rfl⟩
  case body =>
    rintro l1 pre i a' W hl1 hlr ⟨v', hE⟩ ⟨vb, hvb, hvh, rfl⟩ hlen4
    have hL := hE.has hl0 hd
    have hLd : ∀ p ∈ ([(rb, [.int .i64 x, .int .i64 y, .int .i64 a, .int .i64 b]), (db, [.func (.func 45) #[] #[.pointer (some ⟨rb, 0, none⟩), .pointer (some ⟨lb, 0, none⟩), .pointer (some ⟨db, 0, none⟩)]])] : List (Nat × List Value)), p.1 ≠ lb ∧ v'.ownBlock ≠ some p.1 := fun p hp => ⟨(hd p hp).1, fun e => by
      rcases hE.lies _ e with e2 | e2
      · exact (hd p hp).2 e2
      · have := (hl0.mem hp).1; omega⟩
    have hvl' : v'.ownBlock ≠ some lb := fun e => by
      rcases hE.lies _ e with e2 | e2
      · exact hvl e2
      · have := hbox.1.1; omega
    have hqn : v'.ownBlock ≠ some bq := fun e => by
      rcases hE.lies _ e with e2 | e2
      · exact hdq.2 e2
      · have := hk0.1; omega
    have hk1 := hL
    simp [Has, HasAt] at hk1
    have v0 : W.cell? ⟨vb, 0, none⟩ = some (.int .i64 (c.l + 1)) := by simp [World.cell?, hvh, qc]
    have v1 : W.cell? ⟨vb, 1, none⟩ = some (.int .i64 (2 * c.x + ((i.val % 2 : Nat) : Int))) := by simp [World.cell?, hvh, qc]
    have v2 : W.cell? ⟨vb, 2, none⟩ = some (.int .i64 (2 * c.y + ((i.val / 2 : Nat) : Int))) := by simp [World.cell?, hvh, qc]
    have hl2 := flat_len_le (cvF x y a b) m c pre
    have hl3 : pre.length * 4 ^ m + 4 ^ m ≤ 4 ^ (m + 1) := by rw [Nat.pow_succ]; have := Nat.mul_le_mul_right (4 ^ m) (show pre.length + 1 ≤ 4 by omega); rw [Nat.succ_mul] at this; omega
    gi_wp2_with (refine ⟨trivial, ?_⟩; gi_at_call 45; refine (CallsIn.inRound l1 (callsIn_wide.2 (ih (c.q i.val) v' _ W (q_ok hc hl8 i.isLt) (by show (8 - (c.l + 1)).toNat = m; omega) hE.own hE.box hL hLd hvl' (by simp only [List.length_append]; omega) (Nat.le_trans hbase hE.size)))).mono ?_; rintro e w3 ⟨v3, rfl, hE2⟩)
    refine ⟨(hE2.keeps hE.box hE.own).from _, hE2.block bq (Nat.lt_of_lt_of_le hk0.1 hE.size) hdq.1 hqn, v3, ?_⟩
    rw [List.flatMap_append, ← List.append_assoc]
    simpa using hE.trans hE2
  case done =>
    rintro D ys W hD rfl ⟨v', hE⟩ hK
    rw [decs_four] at hE
    exact hdone D W v' hD hE hK
  case stop =>
    rintro D c pre W _ _ h _
    exact h.elim

set_option maxRecDepth 100000 in
set_option maxHeartbeats 4000000 in
theorem down_some {x y a b : Int} (hr : okB x y a b = true) (base rb lb db m : Nat) (ih : DnP x y a b base rb lb db m) (c : T3) (v : Value) (A : List T3) (w : World) (hm : cvB x y a b c = true) (ha : ¬ cvAll x y a b c) (hc : c.ok = true) (hl8 : c.l < 8) (hn : (8 - c.l).toNat = m + 1) (hrow : Ow w base v A) (hbox : Has w [(lb, [v])]) (hl0 : Has w [(rb, [.int .i64 x, .int .i64 y, .int .i64 a, .int .i64 b]), (db, [.func (.func 45) #[] #[.pointer (some ⟨rb, 0, none⟩), .pointer (some ⟨lb, 0, none⟩), .pointer (some ⟨db, 0, none⟩)]])]) (hd : ∀ p ∈ ([(rb, [.int .i64 x, .int .i64 y, .int .i64 a, .int .i64 b]), (db, [.func (.func 45) #[] #[.pointer (some ⟨rb, 0, none⟩), .pointer (some ⟨lb, 0, none⟩), .pointer (some ⟨db, 0, none⟩)]])] : List (Nat × List Value)), p.1 ≠ lb ∧ v.ownBlock ≠ some p.1) (hlen : A.length + 4 ^ (m + 1) ≤ 1000000) (hvl : v.ownBlock ≠ some lb) (hbase : base ≤ w.heap.size) :
    Calls Try.prog 45 #[.agg #[.int .i64 c.l, .int .i64 c.x, .int .i64 c.y], .pointer (some ⟨rb, 0, none⟩), .pointer (some ⟨lb, 0, none⟩), .pointer (some ⟨db, 0, none⟩)] w fun e w' => ∃ v', e = .returned (.tuple #[]) ∧ ExtB base lb w v w' v' (A ++ dec (cvF x y a b) (m + 1) c) := by
  have h0 : cvF x y a b c ≠ 0 := by unfold cvAll at ha; simp [cvF, hm, ha]
  have h2 : cvF x y a b c ≠ 2 := by unfold cvAll at ha; simp [cvF, hm, ha]
  have hs : St w w ((lb, [v]) :: [(rb, [.int .i64 x, .int .i64 y, .int .i64 a, .int .i64 b]), (db, [.func (.func 45) #[] #[.pointer (some ⟨rb, 0, none⟩), .pointer (some ⟨lb, 0, none⟩), .pointer (some ⟨db, 0, none⟩)]])]) := ⟨Below.refl _ _, hbox.1, hl0⟩
  refine (callsIn_wide (n := 3)).1 ?_
  refine callsIn_of_wp_marks Try.func45 rfl trivial ?_ rfl
  simp only [Try.ntmps45, List.size_toArray, List.length_cons, List.length_nil, Nat.reduceAdd, Nat.reduceSub, Array.replicate_succ, Array.replicate_zero, List.push_toArray, List.append_toArray, List.nil_append, List.cons_append]
  gi_wp2_with (first
    | (refine ⟨trivial, ?_⟩; gi_at_call 20; refine (callsIn_wide.2 (iRectOf_any _ _ _ _)).mono ?_; rintro e w1 ⟨rfl, hb2⟩; replace hs := (hs.push _ _).step hb2; (try simp only [World.size_alloc] at hs); have hk := hs.has; simp [Has, HasAt] at hk)
    | (refine ⟨trivial, ?_⟩; gi_at_call 23; refine (callsIn_wide.2 (meetI_some hc hr hm ha _)).mono ?_; rintro e w1 ⟨p, q, r, s, rfl, hne, hb2⟩; replace hs := (hs.push _ _).step hb2; (try simp only [World.size_alloc] at hs); clear hk; have hk := hs.has; simp [Has, HasAt] at hk)
    | (refine ⟨trivial, ?_⟩; gi_at_call 46; refine (callsIn_wide.2 (quarters_any _ _ _ _)).mono ?_; rintro e w2 ⟨rfl, rfl⟩))
  all_goals
    generalize hW1 : (w1.alloc _).alloc _ = W1
    have hs1 : St w W1 ([(w1.heap.size + 1, [.int .i64 c.l, .int .i64 c.x, .int .i64 c.y]), (lb, [v])] ++ [(rb, [.int .i64 x, .int .i64 y, .int .i64 a, .int .i64 b]), (db, [.func (.func 45) #[] #[.pointer (some ⟨rb, 0, none⟩), .pointer (some ⟨lb, 0, none⟩), .pointer (some ⟨db, 0, none⟩)]])]) := by rw [← hW1]; exact St.sub (St.alp hs _ [.int .i64 c.l, .int .i64 c.x, .int .i64 c.y] 38) (by simp)
    have hbq : w.heap.size < w1.heap.size + 1 := by have := hs.size; omega
    clear hs hk hb2 hW1
    generalize w1.heap.size + 1 = bq at hs1 hbq ⊢
    refine down_range base rb lb db bq m ih c v A W1 hc hl8 hn (own_of_below hrow hs1.bel) (hs1.has.sub (by simp)) (hs1.has.sub (by simp)) hd (hs1.has.sub (by simp [T3.vs])) ⟨?_, ?_⟩ hlen hvl (Nat.le_trans hbase hs1.size) _ _ _ _ _ _ _ _ _ _ _ _ _ _ _ _ _ _ _ _ _ _ _ _ _ _ _ _ _ _ _ _ _ _ _ ?_
    · have := hbox.1.1; omega
    · intro e; have := (hrow.lt _ e).2; omega
    · intro D W v' hD hE hK
      refine ⟨by simp, .inl ⟨_, _, rfl, run_takeDeferred hK, ?_⟩⟩
      rw [dec_part h0 h2]
      exact ⟨_, results_none rfl _ _ _, v', rfl, ExtB.ahead hs1.bel (hE.grow (grownBy_putObj' W D (.deferred none)) (fun r e => by cases e; exact ⟨hD, _, hK, rfl⟩))⟩

theorem down_any {x y a b : Int} (hr : okB x y a b = true) (base rb lb db : Nat) : ∀ n, DnP x y a b base rb lb db n := by
  have step : ∀ n, (∀ m, n = m + 1 → DnP x y a b base rb lb db m) → DnP x y a b base rb lb db n := by
    intro n ih c v A w hc hn hrow hbox hl0 hd hvl hlen hbase
    have hp4 : 1 ≤ 4 ^ n := Nat.one_le_pow _ _ (by decide)
    cases hm : cvB x y a b c
    · exact down_no hr base rb lb db n c v A w hm hc hrow hbox hl0
    · by_cases ha : cvAll x y a b c
      · exact down_all hr base rb lb db n c v A w hm ha hc hrow hbox hl0 (by omega) hvl hbase
      · have hl8 : c.l < 8 := by
          rcases Int.lt_or_le c.l 8 with h | h
          · exact h
          · exact absurd (cv8 hc (by have := (ok_iff.mp hc).2.1; omega) hm) ha
        obtain ⟨m, rfl⟩ : ∃ m, n = m + 1 := ⟨n - 1, by omega⟩
        exact down_some hr base rb lb db m (ih m rfl) c v A w hm ha hc hl8 hn hrow hbox hl0 hd hlen hvl hbase
  intro n
  induction n with
  | zero => exact step 0 (fun m h => by omega)
  | succ n ih => exact step (n + 1) (fun m h => by obtain rfl : n = m := by omega
                                                   exact ih)
theorem rcRight_v {x y a b : Int} {v : Bool} (hv : okB x y a b = v) (w : World) :
    Calls Try.prog 44 #[.agg #[.int .i64 x, .int .i64 y, .int .i64 a, .int .i64 b]] w fun e w' => e = .returned (.bool v) ∧ Below w.heap.size w w' := by
  subst hv; exact rcRight_any x y a b w

set_option maxRecDepth 100000 in
set_option maxHeartbeats 1000000 in
theorem iCover_any (x y a b : Int) (w : World) :
    Calls Try.prog 13 #[.agg #[.int .i64 x, .int .i64 y, .int .i64 a, .int .i64 b]] w fun e w' => ∃ v', e = .returned v' ∧ Ow w' w.heap.size v' (coverL x y a b) ∧ Below w.heap.size w w' := by
  have hs := St.nil w
  cases hv : okB x y a b
  · rw [coverL, hv]
    go_enter Try.func13, Try.ntmps13
    go_wp2_with (go_at_call 44; refine (rcRight_v hv _).mono ?_; rintro e w1 ⟨rfl, hb2⟩; replace hs := (hs.push _ _).step hb2; have hk := hs.has; simp [Has, HasAt] at hk)
    go_ret
    exact ⟨_, rfl, Ow.nil _ _, hs.bel⟩
  · rw [coverL, hv]
    go_enter Try.func13, Try.ntmps13
    go_upto_region 5 with (go_at_call 44; refine (rcRight_v hv _).mono ?_; rintro e w1 ⟨rfl, hb2⟩; replace hs := (hs.push _ _).step hb2; have hk := hs.has; simp [Has, HasAt] at hk)
    have hs2 := (hs.push [.slice none 0 0] 27).push [.nilFunc] 64
    rw [World.size_alloc] at hs2
    have hlb := hs.size
    have hrb : w.heap.size < w1.heap.size := hk.1
    clear hs hk hb2
    generalize (w1.alloc _).alloc _ = W2 at hs2 ⊢
    generalize w1.heap.size = lb at hs2 hlb hrb ⊢
    have hk := hs2.has
    simp [Has, HasAt] at hk
    go_upto_region 6 with (fail)
    have hs3 := hs2.set1 (.func (.func 45) #[] #[.pointer (some ⟨w.heap.size, 0, none⟩), .pointer (some ⟨lb, 0, none⟩), .pointer (some ⟨lb + 1, 0, none⟩)]) (by omega) (by intro p hp; simp at hp; rcases hp with rfl | rfl <;> simp; omega)
    clear hs2 hk
    generalize W2.setCell _ _ = W3 at hs3 ⊢
    have hk := hs3.has
    simp [Has, HasAt] at hk
    go_wp2_with (go_at_call 45; refine (down_any hv w.heap.size w.heap.size lb (lb + 1) 8 zro (.slice none 0 0) [] W3 (by decide) (by decide) (Ow.nil _ _) (hs3.has.sub (by simp)) (hs3.has.sub (by simp)) (by intro p hp; simp at hp; rcases hp with rfl | rfl <;> simp [Value.ownBlock]; omega) (by simp [Value.ownBlock]) (by decide) hs3.size).mono ?_; rintro e w2 ⟨v2, rfl, hE⟩; have hk2 := hE.box; simp [Has, HasAt] at hk2)
    go_ret
    refine ⟨v2, rfl, hE.own, ⟨hE.os.trans hs3.bel.os, hE.tape.trans hs3.bel.tape, hE.output.trans hs3.bel.output, Nat.le_trans hs3.size hE.size, fun k hk => ?_⟩⟩
    exact (hE.block k (Nat.lt_of_lt_of_le hk hs3.size) (by omega) (by simp [Value.ownBlock])).trans (hs3.bel.block k hk)
end Go.Proofs.Ythmpemamagjeeaa
