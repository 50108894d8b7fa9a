/-
  The spec's Cover: by quarters of quarters.
-/
import Derived.Test.YthmpemamagjeeaaK1
import Derived.Test.YthmpemamagjeeaaL6
import Derived.Deep.Cut
import Derived.Deep.CutBlock
namespace Go.Proofs.Ythmpemamagjeeaa
open Go.RowKit Go.Joins
attribute [local go_sem ↓] Go.wp_at_zero Go.wp_at_succ

def cvB (x y a b : Int) (c : T3) : Bool := mB (rX c.l c.x c.y) (rY c.l c.x c.y) (rS c.l c.x c.y) (rS c.l c.x c.y) x y a b
def cvAllB (x y a b : Int) (c : T3) : Bool := decide (max (rX c.l c.x c.y) x = rX c.l c.x c.y ∧ max (rY c.l c.x c.y) y = rY c.l c.x c.y ∧ mW (rX c.l c.x c.y) (rS c.l c.x c.y) x a = rS c.l c.x c.y ∧ mW (rY c.l c.x c.y) (rS c.l c.x c.y) y b = rS c.l c.x c.y)
def cvAll (x y a b : Int) (c : T3) : Prop := cvAllB x y a b c = true
theorem cvAll_iff {x y a b : Int} {c : T3} : cvAll x y a b c ↔ max (rX c.l c.x c.y) x = rX c.l c.x c.y ∧ max (rY c.l c.x c.y) y = rY c.l c.x c.y ∧ mW (rX c.l c.x c.y) (rS c.l c.x c.y) x a = rS c.l c.x c.y ∧ mW (rY c.l c.x c.y) (rS c.l c.x c.y) y b = rS c.l c.x c.y := decide_eq_true_iff
def cvF (x y a b : Int) (c : T3) : Int := if cvB x y a b c then (if cvAllB x y a b c then 2 else 1) else 0
theorem cv8 {x y a b : Int} {c : T3} (hc : c.ok = true) (h8 : c.l = 8) (hb : cvB x y a b c = true) : cvAll x y a b c := by
  have h' : cellB c.l c.x c.y = true := hc
  unfold cvB mB at hb
  have hb := of_decide_eq_true hb
  rw [cvAll_iff]
  simp only [mW, rX, rY, rS, h', if_true] at hb ⊢
  have hs : sd c.l = 1 := by rw [h8]; decide
  rw [hs] at hb ⊢
  omega

theorem meetS_no {x y a b : Int} {c : T3} (hc : c.ok = true) (hr : okB x y a b = true) (hm : cvB x y a b c = false) (w : World) :
    Calls Try.prog 82 #[.agg #[.int .i64 (rX c.l c.x c.y), .int .i64 (rY c.l c.x c.y), .int .i64 (rS c.l c.x c.y), .int .i64 (rS c.l c.x c.y)], .agg #[.int .i64 x, .int .i64 y, .int .i64 a, .int .i64 b]] w fun e w' => e = .returned (.tuple #[.agg #[.int .i64 0, .int .i64 0, .int .i64 0, .int .i64 0], .bool false]) ∧ Below w.heap.size w w' :=
  sl1Meet_no _ _ _ _ x y a b w (rect_ok hc) hr hm
theorem meetS_all {x y a b : Int} {c : T3} (hc : c.ok = true) (hr : okB x y a b = true) (hm : cvB x y a b c = true) (ha : cvAll x y a b c) (w : World) :
    Calls Try.prog 82 #[.agg #[.int .i64 (rX c.l c.x c.y), .int .i64 (rY c.l c.x c.y), .int .i64 (rS c.l c.x c.y), .int .i64 (rS c.l c.x c.y)], .agg #[.int .i64 x, .int .i64 y, .int .i64 a, .int .i64 b]] w fun e w' => e = .returned (.tuple #[.agg #[.int .i64 (rX c.l c.x c.y), .int .i64 (rY c.l c.x c.y), .int .i64 (rS c.l c.x c.y), .int .i64 (rS c.l c.x c.y)], .bool true]) ∧ Below w.heap.size w w' := by
  have := sl1Meet_yes _ _ _ _ x y a b w (rect_ok hc) hr hm
  have ha := cvAll_iff.mp ha
  rw [ha.1, ha.2.1, ha.2.2.1, ha.2.2.2] at this
  exact this
theorem meetS_some {x y a b : Int} {c : T3} (hc : c.ok = true) (hr : okB x y a b = true) (hm : cvB x y a b c = true) (ha : ¬ cvAll x y a b c) (w : World) :
    Calls Try.prog 82 #[.agg #[.int .i64 (rX c.l c.x c.y), .int .i64 (rY c.l c.x c.y), .int .i64 (rS c.l c.x c.y), .int .i64 (rS c.l c.x c.y)], .agg #[.int .i64 x, .int .i64 y, .int .i64 a, .int .i64 b]] w fun e w' => ∃ p q r s : Int, e = .returned (.tuple #[.agg #[.int .i64 p, .int .i64 q, .int .i64 r, .int .i64 s], .bool true]) ∧ ¬ (p = rX c.l c.x c.y ∧ q = rY c.l c.x c.y ∧ r = rS c.l c.x c.y ∧ s = rS c.l c.x c.y) ∧ Below w.heap.size w w' :=
  (sl1Meet_yes _ _ _ _ x y a b w (rect_ok hc) hr hm).mono fun _ _ ⟨h1, h2⟩ => ⟨_, _, _, _, h1, fun h => ha (cvAll_iff.mpr h), h2⟩

def CvP (x y a b : Int) (base n : Nat) : Prop := ∀ (c : T3) (v : Value) (A : List T3) (w : World), c.ok = true → (8 - c.l).toNat = n → Ow w base v A → A.length + 4 ^ n ≤ 1000000 → base ≤ w.heap.size →
    Calls Try.prog 50 #[.agg #[.int .i64 x, .int .i64 y, .int .i64 a, .int .i64 b], .agg #[.int .i64 c.l, .int .i64 c.x, .int .i64 c.y], v] w fun e w' => ∃ v', e = .returned v' ∧ Ext base w v w' v' (A ++ dec (cvF x y a b) n c)
theorem cell_three_at {w : World} {g : Nat} {a b c : Value} {t : TypeId} (hg : g = w.heap.size) : ∀ j u, [a, b, c][j]? = some u → (w.alloc (.cells #[a, b, c] t)).cell? ((⟨g, 0, none⟩ : Addr).add j) = some u := by
  subst hg; exact cell_three_new w a b c t

set_option maxRecDepth 100000 in
set_option maxHeartbeats 4000000 in
theorem l3Cover_step {x y a b : Int} (hr : okB x y a b = true) (base n : Nat) (ih : ∀ m, n = m + 1 → CvP x y a b base m) : CvP x y a b base n := by
  intro c v A w hc hn hrow hlen hbase
  obtain ⟨i0, hi, hz0, hz1, hz2⟩ := info_parts info38
  have hs := St.nil w
  have hp4 : 1 ≤ 4 ^ n := Nat.one_le_pow _ _ (by decide)
  cases hm : cvB x y a b c
  · have hf : cvF x y a b c = 0 := by simp [cvF, hm]
    go_enter Try.func50, Try.ntmps50
    go_wp2_with (first
      | (go_at_call 81; refine (l2Rect_any hc _).mono ?_; rintro e w1 ⟨rfl, hb2⟩; replace hs := ((hs.push _ _).push _ _).step hb2; (try simp only [World.size_alloc] at hs); have hk := hs.has; simp [Has, HasAt] at hk)
      | (go_at_call 82; refine (meetS_no hc hr hm _).mono ?_; rintro e w1 ⟨rfl, hb2⟩; replace hs := (hs.push _ _).step hb2; (try simp only [World.size_alloc] at hs); clear hk; have hk := hs.has; simp [Has, HasAt] at hk))
    go_ret
    rw [dec_no hf, List.append_nil]
    exact ⟨_, rfl, (Ext.refl hrow).behind (hs.al _).bel⟩
  · by_cases ha : cvAll x y a b c
    · have hf : cvF x y a b c = 2 := by unfold cvAll at ha; simp [cvF, hm, ha]
      go_enter Try.func50, Try.ntmps50
      go_upto_region 6 with (first
        | (go_at_call 81; refine (l2Rect_any hc _).mono ?_; rintro e w1 ⟨rfl, hb2⟩; replace hs := ((hs.push _ _).push _ _).step hb2; (try simp only [World.size_alloc] at hs); have hk := hs.has; simp [Has, HasAt] at hk)
        | (go_at_call 82; refine (meetS_all hc hr hm ha _).mono ?_; rintro e w1 ⟨rfl, hb2⟩; replace hs := (hs.push _ _).step hb2; (try simp only [World.size_alloc] at hs); clear hk; have hk := hs.has; simp [Has, HasAt] at hk))
      have hs1 := hs.push [.int .i64 (rX c.l c.x c.y), .int .i64 (rY c.l c.x c.y), .int .i64 (rS c.l c.x c.y), .int .i64 (rS c.l c.x c.y)] 25
      clear hs hk hb2
      generalize w1.alloc _ = W1 at hs1 ⊢
      have hk := hs1.has
      simp [Has, HasAt] at hk
      have hrow1 := own_of_below hrow hs1.bel
      have hsz := hs1.size
      go_wp2_with (at_builtin; refine wpList_append_own_at _ rfl _ _ 27 rfl base 38 i0 (.agg #[.int .i64 0, .int .i64 0, .int .i64 0]) 3 24 Try.underlying27 hi hz0 hz1 hz2 rfl (by decide) _ _ _ rfl (hrow1.alloc _) ⟨W1.heap.size, 0, none⟩ 1 1 c.vs rfl rfl (cell_three_at rfl) (fun u hu => by simp [T3.vs] at hu; rcases hu with rfl | rfl | rfl <;> rfl) (by unfold maxLen; omega) (by omega) (by simp; omega) ?_; intro v' w3 hown' hgrow _ hat)
      go_ret
      rw [dec_full hf]
      have hO : Ow w3 base v' (A ++ [c]) := by
        unfold Ow; rw [List.length_append, flat_append]; exact hown'
      refine ⟨v', rfl, Ext.ahead (hs1.al _).bel ⟨hO, hgrow, fun g e => ?_⟩⟩
      rcases hat with e2 | e2
      · exact .inl (e2.symm.trans e)
      · rw [e2] at e; cases e; exact .inr (Nat.le_refl _)
    · have h0 : cvF x y a b c ≠ 0 := by unfold cvAll at ha; simp [cvF, hm, ha]
      have h2 : cvF x y a b c ≠ 2 := by unfold cvAll at ha; simp [cvF, hm, ha]
      have hl8 : c.l < 8 := by
        rcases Int.lt_or_le c.l 8 with h | h
        · exact h
        · exact absurd (cv8 hc (by have := (ok_iff.mp hc).2.1; omega) hm) ha
      obtain ⟨m, rfl⟩ : ∃ m, n = m + 1 := ⟨n - 1, by omega⟩
      have ihm := ih m rfl
      go_enter Try.func50, Try.ntmps50
      go_upto_region 7 with (first
        | (go_at_call 81; refine (l2Rect_any hc _).mono ?_; rintro e w1 ⟨rfl, hb2⟩; replace hs := ((hs.push _ _).push _ _).step hb2; (try simp only [World.size_alloc] at hs); have hk := hs.has; simp [Has, HasAt] at hk)
        | (go_at_call 82; refine (meetS_some hc hr hm ha _).mono ?_; rintro e w1 ⟨p, q, r, s, rfl, hne, hb2⟩; replace hs := (hs.push _ _).step hb2; (try simp only [World.size_alloc] at hs); clear hk; have hk := hs.has; simp [Has, HasAt] at hk))
      all_goals
        generalize hW1 : w1.alloc _ = W1
        have hs1 : St w W1 [(w.heap.size, [.int .i64 x, .int .i64 y, .int .i64 a, .int .i64 b]), (w.heap.size + 1, [.int .i64 c.l, .int .i64 c.x, .int .i64 c.y])] := by rw [← hW1]; exact (hs.al _).sub (by simp)
        clear hs hk hb2 hW1
        have hS : ∀ w', Has w' [(w.heap.size, [.int .i64 x, .int .i64 y, .int .i64 a, .int .i64 b]), (w.heap.size + 1, [.int .i64 c.l, .int .i64 c.x, .int .i64 c.y])] → (w'.cell? ⟨w.heap.size, 0, none⟩ = some (.int .i64 x) ∧ w'.cell? ⟨w.heap.size, 1, none⟩ = some (.int .i64 y) ∧ w'.cell? ⟨w.heap.size, 2, none⟩ = some (.int .i64 a) ∧ w'.cell? ⟨w.heap.size, 3, none⟩ = some (.int .i64 b) ∧ w'.cell? ⟨w.heap.size + 1, 0, none⟩ = some (.int .i64 c.l) ∧ w'.cell? ⟨w.heap.size + 1, 1, none⟩ = some (.int .i64 c.x) ∧ w'.cell? ⟨w.heap.size + 1, 2, none⟩ = some (.int .i64 c.y)) := fun w' h => by simp [Has, HasAt] at h; simp [h]
        have hrow1 := own_of_below hrow hs1.bel
        have hsz := hs1.size
        have hd1 : ∀ pr ∈ ([(w.heap.size, [.int .i64 x, .int .i64 y, .int .i64 a, .int .i64 b]), (w.heap.size + 1, [.int .i64 c.l, .int .i64 c.x, .int .i64 c.y])] : List (Nat × List Value)), v.ownBlock ≠ some pr.1 := by
          intro pr hpr e
          have := (hrow.lt _ e).2
          have h3 : w.heap.size ≤ pr.1 := by simp at hpr; rcases hpr with rfl | rfl <;> simp
          omega
        go_wp2
        go_loopw [2, 10] (fun v' i wr => ∃ k : Nat, k ≤ 4 ∧ i = .int .i64 k ∧ Ext base W1 v wr v' (A ++ decs (cvF x y a b) m c k) ∧ Has wr [(w.heap.size, [.int .i64 x, .int .i64 y, .int .i64 a, .int .i64 b]), (w.heap.size + 1, [.int .i64 c.l, .int .i64 c.x, .int .i64 c.y])] ∧ ∀ pr ∈ ([(w.heap.size, [.int .i64 x, .int .i64 y, .int .i64 a, .int .i64 b]), (w.heap.size + 1, [.int .i64 c.l, .int .i64 c.x, .int .i64 c.y])] : List (Nat × List Value)), v'.ownBlock ≠ some pr.1) (fun _ i _ => 4 - (intOf i).toNat)
        case atStart => exact ⟨0, by omega, rfl, by rw [decs, List.append_nil]; exact Ext.refl hrow1, hs1.has, hd1⟩
        case round =>
          obtain ⟨k, hk4, rfl, hE, hH, hd⟩ := hrel
          have hcc := hS _ hH
          by_cases hlt : k < 4
          · have hnum : (k : Int) < 4 := by omega
            have hl2 := decs_len (cvF x y a b) m c k
            have hl3 : k * 4 ^ m + 4 ^ m ≤ 4 ^ (m + 1) := by rw [Nat.pow_succ]; have := Nat.mul_le_mul_right (4 ^ m) (show k + 1 ≤ 4 by omega); rw [Nat.succ_mul] at this; omega
            have hbs : base ≤ wr.heap.size := by have := hE.gr.size; omega
            go_wp2
            go_region_held3 (fun w' => Has w' [(w.heap.size, [.int .i64 x, .int .i64 y, .int .i64 a, .int .i64 b]), (w.heap.size + 1, [.int .i64 c.l, .int .i64 c.x, .int .i64 c.y])] ∧ (w'.cell? ⟨w.heap.size, 0, none⟩ = some (.int .i64 x) ∧ w'.cell? ⟨w.heap.size, 1, none⟩ = some (.int .i64 y) ∧ w'.cell? ⟨w.heap.size, 2, none⟩ = some (.int .i64 a) ∧ w'.cell? ⟨w.heap.size, 3, none⟩ = some (.int .i64 b) ∧ w'.cell? ⟨w.heap.size + 1, 0, none⟩ = some (.int .i64 c.l) ∧ w'.cell? ⟨w.heap.size + 1, 1, none⟩ = some (.int .i64 c.x) ∧ w'.cell? ⟨w.heap.size + 1, 2, none⟩ = some (.int .i64 c.y))) (first | exact ‹Has _ _ ∧ _› | exact keepS hS hfar.1 | exact keepS hS ((‹Has _ _ ∧ _›).1.step hb2) | exact keepS hS (hH.step (Below.refl _ _).drew) | fail)
              (first
                | (go_at_call 83; refine (l2Quarter_any hc hlt _).mono ?_; rintro e w2 ⟨rfl, hb2⟩)
                | (go_at_call 50; refine (ihm (c.q k) _ _ _ (q_ok hc hl8 hlt) (by show (8 - (c.l + 1)).toNat = m; omega) (own_of_below hE.own (bstep (Below.refl _ _).drew hb2 (Nat.le_refl _))) (by simp only [List.length_append]; omega) (Nat.le_trans hbs hb2.size)).mono ?_; rintro e w3 ⟨v3, rfl, hE2⟩; have hfar := hE2.far (hH.step (bstep (Below.refl _ _).drew hb2 (Nat.le_refl _))) hd))
            go_wp2
            go_roundw
            case rel =>
              refine ⟨k + 1, by omega, by go_num, ?_, hfar.1, hfar.2⟩
              rw [decs, ← List.append_assoc]
              exact hE.trans (Ext.ahead (bstep (Below.refl _ _).drew hb2 (Nat.le_refl _)) hE2)
            case measure => simp [intOf]; omega
          · obtain rfl : k = 4 := by omega
            go_wp2
            go_ret
            rw [dec_part h0 h2]
            exact ⟨_, rfl, Ext.ahead hs1.bel hE⟩
theorem l3Cover_any {x y a b : Int} (hr : okB x y a b = true) (base : Nat) : ∀ n, CvP x y a b base n
  | 0 => l3Cover_step hr base 0 (fun m h => by omega)
  | n + 1 => l3Cover_step hr base (n + 1) (fun m h => by obtain rfl : n = m := by omega
                                                         exact l3Cover_any hr base n)

def coverL (x y a b : Int) : List T3 := if okB x y a b then dec (cvF x y a b) 8 zro else []
theorem sOk_v {x y a b : Int} {v : Bool} (hv : okB x y a b = v) (w : World) :
    Calls Try.prog 19 #[.agg #[.int .i64 x, .int .i64 y, .int .i64 a, .int .i64 b]] w fun e w' => e = .returned (.bool v) ∧ Below w.heap.size w w' := by
  subst hv; exact (sOk_any x y a b w)
theorem own_empty (w : World) (base : Nat) (hb : base ≤ w.heap.size) : Ow (w.alloc (.cells #[] 38)) base (.slice (some ⟨w.heap.size, 0, none⟩) 0 0) [] :=
  ⟨rfl, .inr ⟨w.heap.size, 0, #[], rfl, hb, World.alloc_heap_new _ _, Nat.le_refl _, Nat.zero_le _, rfl, rfl⟩⟩
theorem own_empty_at {w : World} {base g : Nat} (hg : g = w.heap.size) (hb : base ≤ w.heap.size) : Ow (w.alloc (.cells #[] 38)) base (.slice (some ⟨g, 0, none⟩) 0 0) [] := by subst hg; exact own_empty w base hb

set_option maxHeartbeats 1000000 in
theorem sCover_any (x y a b : Int) (w : World) :
    Calls Try.prog 16 #[.agg #[.int .i64 x, .int .i64 y, .int .i64 a, .int .i64 b]] w fun e w' => ∃ v', e = .returned v' ∧ Ow w' w.heap.size v' (coverL x y a b) ∧ Below w.heap.size w w' := by
  have hs := St.nil w
  cases hv : okB x y a b
  · rw [coverL, hv]
    go_enter Try.func16, Try.ntmps16
    go_wp2_with (go_at_call 19; refine (sOk_v hv _).mono ?_; rintro e w1 ⟨rfl, hb2⟩; replace hs := (hs.push _ _).step hb2; have hk := hs.has; simp [Has, HasAt] at hk)
    go_ret
    exact ⟨_, rfl, own_empty _ _ hs.size, (hs.al _).bel⟩
  · rw [coverL, hv]
    go_enter Try.func16, Try.ntmps16
    go_wp2_with (first
      | (go_at_call 19; refine (sOk_v hv _).mono ?_; rintro e w1 ⟨rfl, hb2⟩; replace hs := (hs.push _ _).step hb2; have hk := hs.has; simp [Has, HasAt] at hk)
      | (go_at_call 50; refine (l3Cover_any hv w.heap.size 8 zro _ [] _ (by decide) (by decide) (own_empty_at rfl hs.size) (by decide) (by have := hs.size; simp; omega)).mono ?_; rintro e w2 ⟨v2, rfl, hE⟩))
    go_ret
    refine ⟨v2, rfl, hE.own, ?_⟩
    refine ⟨hE.gr.os.trans (hs.al _).bel.os, hE.gr.tape.trans (hs.al _).bel.tape, hE.gr.output.trans (hs.al _).bel.output, Nat.le_trans (hs.al _).bel.size hE.gr.size, fun k hk => ?_⟩
    refine (hE.gr.block k (Nat.lt_of_lt_of_le hk (hs.al _).bel.size) (fun e => ?_)).trans ((hs.al _).bel.block k hk)
    have := hs.size
    simp [Value.ownBlock] at e
    omega
end Go.Proofs.Ythmpemamagjeeaa
