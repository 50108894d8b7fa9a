/-
  The law of Common, walked.
-/
import Derived.Test.YthmpemamagjeeaaE2
import Derived.Deep.CutBlock
import Derived.Deep.QuietTactic
import Derived.BigQuiet
namespace Go.Proofs.Ythmpemamagjeeaa
open Go.RowKit Go.Joins
attribute [local go_sem ↓] Go.wp_at_zero Go.wp_at_succ

set_option maxHeartbeats 1000000 in
theorem spot_n (a : Option Addr) (len cap : Nat) (zs : List Int) (seed n : Int) (g : Nat) (w : World) (hl : len ≤ 4096) (hr : Rd w g a len zs) (hs1 : 0 ≤ seed) (hs2 : seed ≤ 100) (hn : 1 ≤ n) :
    Calls Try.prog 32 #[.slice a len cap, .int .i64 seed, .int .i64 n] w fun e w' => ∃ x y : Int, e = .returned (.agg #[.int .i64 x, .int .i64 y]) ∧ 0 ≤ x ∧ x < n ∧ 0 ≤ y ∧ y < n ∧ Below w.heap.size w w' := by
  have HR : Hid (Rd (w.alloc (.cells #[.int .i64 0, .int .i64 0] 30)) (g + w.heap.size) a len zs) := hr.up (below_alloc1 _ _) (by omega)
  clear hr
  have tok1 : True := trivial
  go_enter Try.func32, Try.ntmps32
  go_wp2_with (first | (go_at_call 73; have _t := tok1; clear _t tok1; refine (pick_any a len cap zs _ _ _ _ hl HR.out (by omega) (by omega) (by omega)).mono ?_; rintro e w1 ⟨x, rfl, hx0, hx1, rfl⟩) | (go_at_call 73; refine (pick_any a len cap zs _ _ _ _ hl HR.out (by omega) (by omega) (by omega)).mono ?_; rintro e w1 ⟨y, rfl, hy0, hy1, rfl⟩))
  refine bodyPost_ret (v := .agg #[.int .i64 x, .int .i64 y]) (by simp [results, Try.results32, go_sem]) rfl ⟨_, _, rfl, hx0, hx1, hy0, hy1, ?_⟩
  exact below_alloc1 _ _

theorem Sx.box {w W : World} {ls : List (Value × List T3)} (h : Sx w W ls) {b : Nat} (hb : w.heap.size ≤ b) (hd : ∀ p ∈ ls, p.1.ownBlock ≠ some b) (i : Nat) (v : Value) : Sx w (W.setCell ⟨b, i, none⟩ v) ls := by
  refine ⟨h.bel.setCell (p := ⟨b, i, none⟩) hb v, fun p hp => (h.own p hp).kept (row := some b) ⟨rfl, rfl, rfl, by simp, fun k _ hne => Below.heap_setCell W ⟨b, i, none⟩ v k (fun e => hne (by rw [show k = b from e]))⟩ (.inr (hd p hp)), h.dis⟩
theorem below_drewN (W : World) (n : Nat) : Below W.heap.size W (W.drewN n) := bdrewN (Below.refl _ _) n
theorem Sx.new {w W : World} {ls : List (Value × List T3)} (h : Sx w W ls) : ∀ p ∈ ls, p.1.ownBlock ≠ some W.heap.size := fun p hp e => by have := ((h.own p hp).lt _ e).2; omega

end Go.Proofs.Ythmpemamagjeeaa
namespace Go.Proofs.Ythmpemamagjeeaa
open Go.RowKit Go.Joins
attribute [local go_sem ↓] Go.wp_at_zero Go.wp_at_succ

/-- A frame of 85 slots of which some are told. -/
structure Fr (A : Act) (l : List (Nat × Value)) : Prop where
  size : A.tmps.size = 85
  has : ∀ p ∈ l, A.tmps[p.1]? = some p.2
theorem Fr.get {A : Act} {l : List (Nat × Value)} (h : Fr A l) {d : Nat} {v : Value} (hm : (d, v) ∈ l) : A.tmps[d]? = some v := h.has _ hm
theorem Fr.put {A : Act} {l : List (Nat × Value)} (h : Fr A l) {d : Nat} {v : Value} (hd : d < 85) (hne : ∀ p ∈ l, p.1 ≠ d) : Fr (A.put (some d) v) ((d, v) :: l) := by
  refine ⟨by simp [Act.put, h.size], fun p hp => ?_⟩
  rcases List.mem_cons.mp hp with rfl | hp
  · show (A.tmps.setIfInBounds d v)[d]? = some v
    rw [Array.getElem?_setIfInBounds_self_of_lt (by rw [h.size]; exact hd)]
  · show (A.tmps.setIfInBounds d v)[p.1]? = some p.2
    rw [Array.getElem?_setIfInBounds_ne (Ne.symm (hne p hp))]
    exact h.has p hp
section
variable {ops : Array Oper} {C : World → Prop} {Q : Act → Prop} {A : Act} {o : Oper} {rest : List Oper} {l : List (Nat × Value)} {d e j : Nat} {v : Value} {want b : Bool}
theorem q_step (hf : Fr A l) (hw : o.guard = none) (hd : o.dst = some d) (hlt : d < 85) (hne : ∀ p ∈ l, p.1 ≠ d)
    (hq : ∀ w, C w → o.quietAt Try.prog A C w v) (k : ∀ A', A' = A.put (some d) v → Fr A' ((d, v) :: l) → wpQuiet Try.prog ops C Q rest A') : wpQuiet Try.prog ops C Q (o :: rest) A :=
  BigFrame.wpQuiet_want (by simp [Region.wanted, hw]) (fun K hK => ⟨v, hq, hK _ (by rw [hd]; exact k _ rfl (hf.put hlt hne))⟩)
theorem q_want (hf : Fr A l) (hg : o.guard = some (j, want)) (hj : (ops[j]?).bind (·.dst) = some e) (hv : (e, .bool want) ∈ l) (hd : o.dst = some d) (hlt : d < 85) (hne : ∀ p ∈ l, p.1 ≠ d)
    (hq : ∀ w, C w → o.quietAt Try.prog A C w v) (k : ∀ A', A' = A.put (some d) v → Fr A' ((d, v) :: l) → wpQuiet Try.prog ops C Q rest A') : wpQuiet Try.prog ops C Q (o :: rest) A :=
  BigFrame.wpQuiet_want (by rw [Region.wanted, hg]; simp [yielded, hj, hf.get hv]) (fun K hK => ⟨v, hq, hK _ (by rw [hd]; exact k _ rfl (hf.put hlt hne))⟩)
theorem q_skip (hf : Fr A l) (hg : o.guard = some (j, want)) (hj : (ops[j]?).bind (·.dst) = some e) (hv : (e, .bool b) ∈ l) (hb : (b == want) = false)
    (hd : o.dst = some d) (hlt : d < 85) (hne : ∀ p ∈ l, p.1 ≠ d) (k : ∀ A', A' = A.put (some d) undef → Fr A' ((d, undef) :: l) → wpQuiet Try.prog ops C Q rest A') : wpQuiet Try.prog ops C Q (o :: rest) A :=
  BigFrame.wpQuiet_skip (by rw [Region.wanted, hg]; simp [yielded, hj, hf.get hv]; simpa using hb) (by rw [hd]; exact k _ rfl (hf.put hlt hne))
theorem q_skipU (hf : Fr A l) (hg : o.guard = some (j, want)) (hj : (ops[j]?).bind (·.dst) = some e) (hv : (e, undef) ∈ l)
    (hd : o.dst = some d) (hlt : d < 85) (hne : ∀ p ∈ l, p.1 ≠ d) (k : ∀ A', A' = A.put (some d) undef → Fr A' ((d, undef) :: l) → wpQuiet Try.prog ops C Q rest A') : wpQuiet Try.prog ops C Q (o :: rest) A :=
  BigFrame.wpQuiet_skip (by rw [Region.wanted, hg]; simp [yielded, hj, hf.get hv, undef]) (by rw [hd]; exact k _ rfl (hf.put hlt hne))
end

theorem q_intro {ops : Array Oper} {C : World → Prop} {Q : Act → Prop} {os : List Oper} {A0 : Act} (h : ∀ A, A = A0 → wpQuiet Try.prog ops C Q os A) : wpQuiet Try.prog ops C Q os A0 := h _ rfl

set_option maxRecDepth 100000 in
set_option maxHeartbeats 8000000 in
theorem common_small (a : Option Addr) (len cap : Nat) (zs : List Int) (w : World) (hl : len ≤ 4096) (hr : Rd w w.heap.size a len zs) :
    Calls Try.prog 5 #[.slice a len cap] w fun e w' => e = .returned (.bool true) ∧ Below w.heap.size w w' := by
  have hl' : decide (4096 < (len : Int)) = false := by simp; omega
  go_enter Try.func5, Try.ntmps5
  go_upto_region 4 with (first
    | (go_at_call 11; refine (big_any _ _ _ _).mono ?_; rintro e w1 ⟨rfl, rfl⟩)
    | (go_at_call 33; refine (drawCommon_any a len cap zs _ hl hr).mono ?_; rintro e w1 ⟨p1, cap1, L, p2, cap2, K, rfl, hx, hnL, hnK⟩))
  generalize hM : comS L K = M
  have hM2 : comS K L = M := by rw [comS_comm]; exact hM
  have hMl : M.length ≤ 65536 := by rw [← hM]; exact comS_len L K
  have HM : Hid (comS L K = M) := hM
  have HM2 : Hid (comS K L = M) := hM2
  clear hM hM2
  go_upto_region 5 with (go_at_call 34; refine (iCommon_v HM.out _ _ _ _ _ (Ow.sl hx.o1) (Ow.pl hx.o1) (by omega) (Ow.sl hx.o0) (Ow.pl hx.o0) (by omega)).mono ?_; rintro e w2 ⟨p3, cap3, rfl, hO3, hb2⟩; replace hx := hx.add hO3 hb2)
  clear hO3 hb2
  go_upto_region 7 with (first
    | (go_at_call 35; refine (sCommon_v HM.out _ _ _ _ _ (Ow.sl hx.o2) (by omega) (Ow.sl hx.o1) (by omega)).mono ?_; rintro e w3 ⟨p4, cap4, rfl, hO4, hb3⟩; replace hx := hx.add hO4 hb3)
    | (go_at_call 34; refine (iCommon_v HM2.out _ _ _ _ _ (Ow.sl hx.o1) (Ow.pl hx.o1) (by omega) (Ow.sl hx.o2) (Ow.pl hx.o2) (by omega)).mono ?_; rintro e w3 ⟨p5, cap5, rfl, hO5, hb3⟩; replace hx := hx.add hO5 hb3)
    | (have h9 := hO5; clear h9; go_at_call 15; refine (likeCells_same _ _ _ _ M _ (Ow.sl hx.o0) (Ow.sl hx.o1) (by omega)).mono ?_; rintro e w3 ⟨rfl, hb4⟩; replace hx := (hx.step hb4).d0)
    | (go_at_call 15; refine (likeCells_same _ _ _ _ M _ (Ow.sl hx.o1) (Ow.sl hx.o0) (by omega)).mono ?_; rintro e w3 ⟨rfl, hb4⟩; replace hx := (hx.step hb4).d0))
  clear hO4 hO5 hb3 hb4
  have hrw : ∀ {W : World}, Below w.heap.size w W → Rd W (W.heap.size) a len zs := fun hb => hr.up hb hb.size
  go_wp2
  go_loopw [6] (fun i wr => ∃ k : Nat, k ≤ 12 ∧ i = .int .i64 k ∧ Sx w wr [(.slice p3 M.length cap3, M), (.slice p2 K.length cap2, K), (.slice p1 L.length cap1, L)]) (fun i _ => 12 - (intOf i).toNat)
  case atStart => exact ⟨0, by omega, rfl, hx⟩
  case round =>
    clear hx
    obtain ⟨k, hk, rfl, hx⟩ := hrel
    by_cases hlt : k < 12
    · have hki : (k : Int) < 12 := by omega
      go_upto_if 40 with (go_at_call 32; refine (spot_n a len cap zs _ _ _ _ hl (hrw hx.bel) (by omega) (by omega) (by decide)).mono ?_; rintro e w4 ⟨x, y, rfl, hx0, hx1, hy0, hy1, hb4⟩; replace hx := hx.step hb4)
      have hnew := hx.new
      have hbz := hx.bel.size
      replace hx := hx.step (below_alloc1 w4 (.cells #[.int .i64 x, .int .i64 y] 30))
      have hB := ((St.nil w4).push [.int .i64 x, .int .i64 y] 30).has
      clear hb4
      generalize w4.alloc _ = W4 at hx hB ⊢
      generalize w4.heap.size = b7 at hB hnew hbz ⊢
      go_cut [7] from 39 to 43 (fun s7 wx => ∃ x y : Int, s7 = .pointer (some ⟨b7, 0, none⟩) ∧ Sx w wx [(.slice p3 M.length cap3, M), (.slice p2 K.length cap2, K), (.slice p1 L.length cap1, L)] ∧ Has wx [(b7, [.int .i64 x, .int .i64 y])])
      case first =>
        have hB2 := hB
        simp [Has, HasAt] at hB2
        by_cases h5 : 5 < k
        · have h5i : (5 : Int) < k := by omega
          go_wp2_with (go_at_call 32; refine (spot_n a len cap zs _ _ _ _ hl (hrw hx.bel) (by omega) (by omega) (by decide)).mono ?_; rintro e w5 ⟨x2, y2, rfl, _, _, _, _, hb5⟩; replace hx := hx.step hb5; replace hB := hB.step hb5; clear hB2; have hB2 := hB; simp [Has, HasAt] at hB2)
          go_meet
          exact ⟨x2, y2, rfl, (hx.box hbz hnew 0 _).box hbz hnew 1 _, (hB.set 0 (by simp) _ (by simp)).set 1 (by simp) _ (by simp)⟩
        · have h5i : ¬ (5 : Int) < k := by omega
          go_wp2_with fail
          go_meet
          exact ⟨x, y, rfl, hx, hB⟩
      case rest =>
      clear hx hB
      obtain ⟨x, y, rfl, hx, hB⟩ := hcut
      have hcom := @reach_com L K x y
      have hnone := @reach_none L K x y
      rw [HM.out] at hcom hnone
      generalize hrM : reachI M x y = rM at hcom
      generalize hra : reachI L x y = ra at hcom hnone
      generalize hrb : reachI K x y = rb at hcom hnone
      go_upto_region 13 with fail
      go_cut [65] from 44 to 64 (fun s65 wx => s65 = .bool false ∧ Sx w wx [(.slice p3 M.length cap3, M), (.slice p2 K.length cap2, K), (.slice p1 L.length cap1, L)] ∧ Has wx [(b7, [.int .i64 x, .int .i64 y])])
      case first =>
        have hS : ∀ w', (Sx w w' [(.slice p3 M.length cap3, M), (.slice p2 K.length cap2, K), (.slice p1 L.length cap1, L)] ∧ Has w' [(b7, [.int .i64 x, .int .i64 y])]) → (w'.cell? ⟨b7, 0, none⟩ = some (.int .i64 x) ∧ w'.cell? ⟨b7, 1, none⟩ = some (.int .i64 y)) := fun w' h => by have := h.2; simp [Has, HasAt] at this; simp [this]
        have hcc := hS _ ⟨hx, hB⟩
        by_cases hM1 : M.length ≤ 100
        · by_cases hM0 : M.length = 0
          · obtain rfl : M = [] := List.eq_nil_of_length_eq_zero hM0
            clear hcom hnone hM0 hM1
            go_quiet (fail)
            go_wp2_with fail
            go_meet
            exact ⟨rfl, hx.step (below_drewN _ _), hB.step (below_drewN _ _)⟩
          · have hi0 : (0 : Int) < M.length := by omega
            have hi1 : (M.length : Int) ≤ 100 := by omega
            have hd2 : decide ((M.length : Int) ≤ 100) = true := decide_eq_true hi1
            have hd3 : decide ((0 : Int) < M.length) = true := decide_eq_true hi0
            have hn0 : 0 < M.length := by omega
            have hd4 : decide (0 < M.length) = true := decide_eq_true hn0
            have hr1 := hcom hM1 hn0
            clear hcom hnone
            cases ra
            · simp at hr1
              subst hr1
              refine wp_region_quiet (C := fun w' => Sx w w' [(.slice p3 M.length cap3, M), (.slice p2 K.length cap2, K), (.slice p1 L.length cap1, L)] ∧ Has w' [(b7, [.int .i64 x, .int .i64 y])]) (by kernel_rfl) (by kernel_rfl) ⟨hx.step (Below.refl _ _).drew, hB.step (Below.refl _ _).drew⟩ ?_
              refine q_intro (fun A hA => ?_)
              have hf : Fr A [(3, .slice p1 L.length cap1), (4, .slice p2 K.length cap2), (5, .slice p3 M.length cap3), (7, .pointer (some ⟨b7, 0, none⟩))] := by subst hA; exact ⟨rfl, by simp⟩
              refine q_step hf (d := 44) (v := .slice p3 M.length cap3) rfl rfl (by decide) (by simp) (fun w' hw' => ?_) (fun A hA44 hf => ?_)
              · have f5 := hf.get (d := 5) (v := .slice p3 M.length cap3) (by simp)
                clear hf
                simp [Oper.quietAt, Oper.quietUpon, go_sem, f5]
              refine q_step hf (d := 45) (v := .int .i64 (M.length : Int)) rfl rfl (by decide) (by simp) (fun w' hw' => ?_) (fun A hA45 hf => ?_)
              · have f44 := hf.get (d := 44) (v := .slice p3 M.length cap3) (by simp)
                clear hf
                simp [Oper.quietAt, Oper.quietUpon, go_sem, f44]
              refine q_step hf (d := 46) (v := .bool true) rfl rfl (by decide) (by simp) (fun w' hw' => ?_) (fun A hA46 hf => ?_)
              · have f45 := hf.get (d := 45) (v := .int .i64 (M.length : Int)) (by simp)
                clear hf
                simp [Oper.quietAt, Oper.quietUpon, go_sem, f45, hi1]
              refine q_step hf (d := 47) (v := .bool true) rfl rfl (by decide) (by simp) (fun w' hw' => ?_) (fun A hA47 hf => ?_)
              · have f46 := hf.get (d := 46) (v := .bool true) (by simp)
                clear hf
                simp [Oper.quietAt, Oper.quietUpon, go_sem, f46]
              refine q_want hf (d := 48) (v := .slice p3 M.length cap3) (e := 47) rfl rfl (by simp) rfl (by decide) (by simp) (fun w' hw' => ?_) (fun A hA48 hf => ?_)
              · have f5 := hf.get (d := 5) (v := .slice p3 M.length cap3) (by simp)
                clear hf
                simp [Oper.quietAt, Oper.quietUpon, go_sem, f5]
              refine q_want hf (d := 49) (v := .int .i64 (M.length : Int)) (e := 47) rfl rfl (by simp) rfl (by decide) (by simp) (fun w' hw' => ?_) (fun A hA49 hf => ?_)
              · have f48 := hf.get (d := 48) (v := .slice p3 M.length cap3) (by simp)
                clear hf
                simp [Oper.quietAt, Oper.quietUpon, go_sem, f48]
              refine q_want hf (d := 50) (v := .bool true) (e := 47) rfl rfl (by simp) rfl (by decide) (by simp) (fun w' hw' => ?_) (fun A hA50 hf => ?_)
              · have f49 := hf.get (d := 49) (v := .int .i64 (M.length : Int)) (by simp)
                clear hf
                simp [Oper.quietAt, Oper.quietUpon, go_sem, f49, hn0]
              refine q_step hf (d := 51) (v := .bool true) rfl rfl (by decide) (by simp) (fun w' hw' => ?_) (fun A hA51 hf => ?_)
              · have f47 := hf.get (d := 47) (v := .bool true) (by simp)
                have f50 := hf.get (d := 50) (v := .bool true) (by simp)
                clear hf
                simp [Oper.quietAt, Oper.quietUpon, go_sem, f47, f50]
              refine q_step hf (d := 52) (v := .bool true) rfl rfl (by decide) (by simp) (fun w' hw' => ?_) (fun A hA52 hf => ?_)
              · have f51 := hf.get (d := 51) (v := .bool true) (by simp)
                clear hf
                simp [Oper.quietAt, Oper.quietUpon, go_sem, f51]
              refine q_want hf (d := 53) (v := .slice p3 M.length cap3) (e := 52) rfl rfl (by simp) rfl (by decide) (by simp) (fun w' hw' => ?_) (fun A hA53 hf => ?_)
              · have f5 := hf.get (d := 5) (v := .slice p3 M.length cap3) (by simp)
                clear hf
                simp [Oper.quietAt, Oper.quietUpon, go_sem, f5]
              refine q_want hf (d := 54) (v := .agg #[.int .i64 x, .int .i64 y]) (e := 52) rfl rfl (by simp) rfl (by decide) (by simp) (fun w' hw' => ?_) (fun A hA54 hf => ?_)
              · have hc := hS _ hw'
                have f7 := hf.get (d := 7) (v := .pointer (some ⟨b7, 0, none⟩)) (by simp)
                clear hf
                simp [Oper.quietAt, Oper.quietUpon, go_sem, f7, hc]
              refine q_want hf (d := 55) (v := .bool false) (e := 52) rfl rfl (by simp) rfl (by decide) (by simp) (fun w' hw' => ?_) (fun A hA55 hf => ?_)
              · have f53 := hf.get (d := 53) (v := .slice p3 M.length cap3) (by simp)
                have f54 := hf.get (d := 54) (v := .agg #[.int .i64 x, .int .i64 y]) (by simp)
                clear hf
                simp [Oper.quietAt, Oper.quietUpon, go_sem, f53, f54]
                exact (iReaches_v hrM _ _ _ (Ow.sl hw'.1.o0) (by omega)).mono (fun e w'' hq => ⟨hq.1, hw'.1.step hq.2, hw'.2.step hq.2⟩)
              refine q_want hf (d := 56) (v := .slice p1 L.length cap1) (e := 52) rfl rfl (by simp) rfl (by decide) (by simp) (fun w' hw' => ?_) (fun A hA56 hf => ?_)
              · have f3 := hf.get (d := 3) (v := .slice p1 L.length cap1) (by simp)
                clear hf
                simp [Oper.quietAt, Oper.quietUpon, go_sem, f3]
              refine q_want hf (d := 57) (v := .agg #[.int .i64 x, .int .i64 y]) (e := 52) rfl rfl (by simp) rfl (by decide) (by simp) (fun w' hw' => ?_) (fun A hA57 hf => ?_)
              · have hc := hS _ hw'
                have f7 := hf.get (d := 7) (v := .pointer (some ⟨b7, 0, none⟩)) (by simp)
                clear hf
                simp [Oper.quietAt, Oper.quietUpon, go_sem, f7, hc]
              refine q_want hf (d := 58) (v := .bool false) (e := 52) rfl rfl (by simp) rfl (by decide) (by simp) (fun w' hw' => ?_) (fun A hA58 hf => ?_)
              · have f56 := hf.get (d := 56) (v := .slice p1 L.length cap1) (by simp)
                have f57 := hf.get (d := 57) (v := .agg #[.int .i64 x, .int .i64 y]) (by simp)
                clear hf
                simp [Oper.quietAt, Oper.quietUpon, go_sem, f56, f57]
                exact (iReaches_v hra _ _ _ (Ow.sl hw'.1.o2) (by omega)).mono (fun e w'' hq => ⟨hq.1, hw'.1.step hq.2, hw'.2.step hq.2⟩)
              refine q_want hf (d := 59) (v := .bool false) (e := 52) rfl rfl (by simp) rfl (by decide) (by simp) (fun w' hw' => ?_) (fun A hA59 hf => ?_)
              · have f58 := hf.get (d := 58) (v := .bool false) (by simp)
                clear hf
                simp [Oper.quietAt, Oper.quietUpon, go_sem, f58]
              refine q_skip hf (d := 60) (e := 59) (b := false) rfl rfl (by simp) rfl rfl (by decide) (by simp) (fun A hA60 hf => ?_)
              refine q_skip hf (d := 61) (e := 59) (b := false) rfl rfl (by simp) rfl rfl (by decide) (by simp) (fun A hA61 hf => ?_)
              refine q_skip hf (d := 62) (e := 59) (b := false) rfl rfl (by simp) rfl rfl (by decide) (by simp) (fun A hA62 hf => ?_)
              refine q_want hf (d := 63) (v := .bool false) (e := 52) rfl rfl (by simp) rfl (by decide) (by simp) (fun w' hw' => ?_) (fun A hA63 hf => ?_)
              · have f59 := hf.get (d := 59) (v := .bool false) (by simp)
                clear hf
                simp [Oper.quietAt, Oper.quietUpon, go_sem, f59]
              refine q_want hf (d := 64) (v := .bool false) (e := 52) rfl rfl (by simp) rfl (by decide) (by simp) (fun w' hw' => ?_) (fun A hA64 hf => ?_)
              · have f55 := hf.get (d := 55) (v := .bool false) (by simp)
                have f63 := hf.get (d := 63) (v := .bool false) (by simp)
                clear hf
                simp [Oper.quietAt, Oper.quietUpon, go_sem, f55, f63]
              refine q_step hf (d := 65) (v := .bool false) rfl rfl (by decide) (by simp) (fun w' hw' => ?_) (fun A hA65 hf => ?_)
              · have f52 := hf.get (d := 52) (v := .bool true) (by simp)
                have f64 := hf.get (d := 64) (v := .bool false) (by simp)
                clear hf
                simp [Oper.quietAt, Oper.quietUpon, go_sem, f52, f64]
              refine wpQuiet_nil (fun w' hw' => ?_)
              clear hf
              subst hA65 hA64 hA63 hA62 hA61 hA60 hA59 hA58 hA57 hA56 hA55 hA54 hA53 hA52 hA51 hA50 hA49 hA48 hA47 hA46 hA45 hA44 hA
              simp only [Act.put, List.setIfInBounds_toArray, List.set_cons_succ, List.set_cons_zero]
              go_wp2_with fail
              go_meet
              exact ⟨rfl, hw'.1, hw'.2⟩
            · simp at hr1
              subst hr1
              refine wp_region_quiet (C := fun w' => Sx w w' [(.slice p3 M.length cap3, M), (.slice p2 K.length cap2, K), (.slice p1 L.length cap1, L)] ∧ Has w' [(b7, [.int .i64 x, .int .i64 y])]) (by kernel_rfl) (by kernel_rfl) ⟨hx.step (Below.refl _ _).drew, hB.step (Below.refl _ _).drew⟩ ?_
              refine q_intro (fun A hA => ?_)
              have hf : Fr A [(3, .slice p1 L.length cap1), (4, .slice p2 K.length cap2), (5, .slice p3 M.length cap3), (7, .pointer (some ⟨b7, 0, none⟩))] := by subst hA; exact ⟨rfl, by simp⟩
              refine q_step hf (d := 44) (v := .slice p3 M.length cap3) rfl rfl (by decide) (by simp) (fun w' hw' => ?_) (fun A hA44 hf => ?_)
              · have f5 := hf.get (d := 5) (v := .slice p3 M.length cap3) (by simp)
                clear hf
                simp [Oper.quietAt, Oper.quietUpon, go_sem, f5]
              refine q_step hf (d := 45) (v := .int .i64 (M.length : Int)) rfl rfl (by decide) (by simp) (fun w' hw' => ?_) (fun A hA45 hf => ?_)
              · have f44 := hf.get (d := 44) (v := .slice p3 M.length cap3) (by simp)
                clear hf
                simp [Oper.quietAt, Oper.quietUpon, go_sem, f44]
              refine q_step hf (d := 46) (v := .bool true) rfl rfl (by decide) (by simp) (fun w' hw' => ?_) (fun A hA46 hf => ?_)
              · have f45 := hf.get (d := 45) (v := .int .i64 (M.length : Int)) (by simp)
                clear hf
                simp [Oper.quietAt, Oper.quietUpon, go_sem, f45, hi1]
              refine q_step hf (d := 47) (v := .bool true) rfl rfl (by decide) (by simp) (fun w' hw' => ?_) (fun A hA47 hf => ?_)
              · have f46 := hf.get (d := 46) (v := .bool true) (by simp)
                clear hf
                simp [Oper.quietAt, Oper.quietUpon, go_sem, f46]
              refine q_want hf (d := 48) (v := .slice p3 M.length cap3) (e := 47) rfl rfl (by simp) rfl (by decide) (by simp) (fun w' hw' => ?_) (fun A hA48 hf => ?_)
              · have f5 := hf.get (d := 5) (v := .slice p3 M.length cap3) (by simp)
                clear hf
                simp [Oper.quietAt, Oper.quietUpon, go_sem, f5]
              refine q_want hf (d := 49) (v := .int .i64 (M.length : Int)) (e := 47) rfl rfl (by simp) rfl (by decide) (by simp) (fun w' hw' => ?_) (fun A hA49 hf => ?_)
              · have f48 := hf.get (d := 48) (v := .slice p3 M.length cap3) (by simp)
                clear hf
                simp [Oper.quietAt, Oper.quietUpon, go_sem, f48]
              refine q_want hf (d := 50) (v := .bool true) (e := 47) rfl rfl (by simp) rfl (by decide) (by simp) (fun w' hw' => ?_) (fun A hA50 hf => ?_)
              · have f49 := hf.get (d := 49) (v := .int .i64 (M.length : Int)) (by simp)
                clear hf
                simp [Oper.quietAt, Oper.quietUpon, go_sem, f49, hn0]
              refine q_step hf (d := 51) (v := .bool true) rfl rfl (by decide) (by simp) (fun w' hw' => ?_) (fun A hA51 hf => ?_)
              · have f47 := hf.get (d := 47) (v := .bool true) (by simp)
                have f50 := hf.get (d := 50) (v := .bool true) (by simp)
                clear hf
                simp [Oper.quietAt, Oper.quietUpon, go_sem, f47, f50]
              refine q_step hf (d := 52) (v := .bool true) rfl rfl (by decide) (by simp) (fun w' hw' => ?_) (fun A hA52 hf => ?_)
              · have f51 := hf.get (d := 51) (v := .bool true) (by simp)
                clear hf
                simp [Oper.quietAt, Oper.quietUpon, go_sem, f51]
              refine q_want hf (d := 53) (v := .slice p3 M.length cap3) (e := 52) rfl rfl (by simp) rfl (by decide) (by simp) (fun w' hw' => ?_) (fun A hA53 hf => ?_)
              · have f5 := hf.get (d := 5) (v := .slice p3 M.length cap3) (by simp)
                clear hf
                simp [Oper.quietAt, Oper.quietUpon, go_sem, f5]
              refine q_want hf (d := 54) (v := .agg #[.int .i64 x, .int .i64 y]) (e := 52) rfl rfl (by simp) rfl (by decide) (by simp) (fun w' hw' => ?_) (fun A hA54 hf => ?_)
              · have hc := hS _ hw'
                have f7 := hf.get (d := 7) (v := .pointer (some ⟨b7, 0, none⟩)) (by simp)
                clear hf
                simp [Oper.quietAt, Oper.quietUpon, go_sem, f7, hc]
              refine q_want hf (d := 55) (v := .bool rM) (e := 52) rfl rfl (by simp) rfl (by decide) (by simp) (fun w' hw' => ?_) (fun A hA55 hf => ?_)
              · have f53 := hf.get (d := 53) (v := .slice p3 M.length cap3) (by simp)
                have f54 := hf.get (d := 54) (v := .agg #[.int .i64 x, .int .i64 y]) (by simp)
                clear hf
                simp [Oper.quietAt, Oper.quietUpon, go_sem, f53, f54]
                exact (iReaches_v hrM _ _ _ (Ow.sl hw'.1.o0) (by omega)).mono (fun e w'' hq => ⟨hq.1, hw'.1.step hq.2, hw'.2.step hq.2⟩)
              refine q_want hf (d := 56) (v := .slice p1 L.length cap1) (e := 52) rfl rfl (by simp) rfl (by decide) (by simp) (fun w' hw' => ?_) (fun A hA56 hf => ?_)
              · have f3 := hf.get (d := 3) (v := .slice p1 L.length cap1) (by simp)
                clear hf
                simp [Oper.quietAt, Oper.quietUpon, go_sem, f3]
              refine q_want hf (d := 57) (v := .agg #[.int .i64 x, .int .i64 y]) (e := 52) rfl rfl (by simp) rfl (by decide) (by simp) (fun w' hw' => ?_) (fun A hA57 hf => ?_)
              · have hc := hS _ hw'
                have f7 := hf.get (d := 7) (v := .pointer (some ⟨b7, 0, none⟩)) (by simp)
                clear hf
                simp [Oper.quietAt, Oper.quietUpon, go_sem, f7, hc]
              refine q_want hf (d := 58) (v := .bool true) (e := 52) rfl rfl (by simp) rfl (by decide) (by simp) (fun w' hw' => ?_) (fun A hA58 hf => ?_)
              · have f56 := hf.get (d := 56) (v := .slice p1 L.length cap1) (by simp)
                have f57 := hf.get (d := 57) (v := .agg #[.int .i64 x, .int .i64 y]) (by simp)
                clear hf
                simp [Oper.quietAt, Oper.quietUpon, go_sem, f56, f57]
                exact (iReaches_v hra _ _ _ (Ow.sl hw'.1.o2) (by omega)).mono (fun e w'' hq => ⟨hq.1, hw'.1.step hq.2, hw'.2.step hq.2⟩)
              refine q_want hf (d := 59) (v := .bool true) (e := 52) rfl rfl (by simp) rfl (by decide) (by simp) (fun w' hw' => ?_) (fun A hA59 hf => ?_)
              · have f58 := hf.get (d := 58) (v := .bool true) (by simp)
                clear hf
                simp [Oper.quietAt, Oper.quietUpon, go_sem, f58]
              refine q_want hf (d := 60) (v := .slice p2 K.length cap2) (e := 59) rfl rfl (by simp) rfl (by decide) (by simp) (fun w' hw' => ?_) (fun A hA60 hf => ?_)
              · have f4 := hf.get (d := 4) (v := .slice p2 K.length cap2) (by simp)
                clear hf
                simp [Oper.quietAt, Oper.quietUpon, go_sem, f4]
              refine q_want hf (d := 61) (v := .agg #[.int .i64 x, .int .i64 y]) (e := 59) rfl rfl (by simp) rfl (by decide) (by simp) (fun w' hw' => ?_) (fun A hA61 hf => ?_)
              · have hc := hS _ hw'
                have f7 := hf.get (d := 7) (v := .pointer (some ⟨b7, 0, none⟩)) (by simp)
                clear hf
                simp [Oper.quietAt, Oper.quietUpon, go_sem, f7, hc]
              refine q_want hf (d := 62) (v := .bool rM) (e := 59) rfl rfl (by simp) rfl (by decide) (by simp) (fun w' hw' => ?_) (fun A hA62 hf => ?_)
              · have f60 := hf.get (d := 60) (v := .slice p2 K.length cap2) (by simp)
                have f61 := hf.get (d := 61) (v := .agg #[.int .i64 x, .int .i64 y]) (by simp)
                clear hf
                simp [Oper.quietAt, Oper.quietUpon, go_sem, f60, f61]
                exact (iReaches_v hrb _ _ _ (Ow.sl hw'.1.o1) (by omega)).mono (fun e w'' hq => ⟨hq.1, hw'.1.step hq.2, hw'.2.step hq.2⟩)
              refine q_want hf (d := 63) (v := .bool rM) (e := 52) rfl rfl (by simp) rfl (by decide) (by simp) (fun w' hw' => ?_) (fun A hA63 hf => ?_)
              · have f59 := hf.get (d := 59) (v := .bool true) (by simp)
                have f62 := hf.get (d := 62) (v := .bool rM) (by simp)
                clear hf
                simp [Oper.quietAt, Oper.quietUpon, go_sem, f59, f62]
              refine q_want hf (d := 64) (v := .bool false) (e := 52) rfl rfl (by simp) rfl (by decide) (by simp) (fun w' hw' => ?_) (fun A hA64 hf => ?_)
              · have f55 := hf.get (d := 55) (v := .bool rM) (by simp)
                have f63 := hf.get (d := 63) (v := .bool rM) (by simp)
                clear hf
                simp [Oper.quietAt, Oper.quietUpon, go_sem, f55, f63]
              refine q_step hf (d := 65) (v := .bool false) rfl rfl (by decide) (by simp) (fun w' hw' => ?_) (fun A hA65 hf => ?_)
              · have f52 := hf.get (d := 52) (v := .bool true) (by simp)
                have f64 := hf.get (d := 64) (v := .bool false) (by simp)
                clear hf
                simp [Oper.quietAt, Oper.quietUpon, go_sem, f52, f64]
              refine wpQuiet_nil (fun w' hw' => ?_)
              clear hf
              subst hA65 hA64 hA63 hA62 hA61 hA60 hA59 hA58 hA57 hA56 hA55 hA54 hA53 hA52 hA51 hA50 hA49 hA48 hA47 hA46 hA45 hA44 hA
              simp only [Act.put, List.setIfInBounds_toArray, List.set_cons_succ, List.set_cons_zero]
              go_wp2_with fail
              go_meet
              exact ⟨rfl, hw'.1, hw'.2⟩
        · have hi1 : ¬ (M.length : Int) ≤ 100 := by omega
          have hd2 : decide ((M.length : Int) ≤ 100) = false := decide_eq_false hi1
          clear hcom hnone
          go_quiet (fail)
          go_wp2_with fail
          go_meet
          exact ⟨rfl, hx.step (below_drewN _ _), hB.step (below_drewN _ _)⟩
      case rest =>
      clear hx hB
      obtain ⟨rfl, hx, hB⟩ := hcut
      go_upto_region 15 with fail
      go_cut [78] from 66 to 77 (fun s78 wx => s78 = .bool false ∧ Sx w wx [(.slice p3 M.length cap3, M), (.slice p2 K.length cap2, K), (.slice p1 L.length cap1, L)])
      case first =>
        have hB2 := hB
        simp [Has, HasAt] at hB2
        by_cases hM0 : M.length = 0
        · have hnn := hnone hM0
          obtain rfl : M = [] := List.eq_nil_of_length_eq_zero hM0
          clear hcom hnone hM0
          cases ra
          · go_wp2_with (go_at_call 17; refine (iReaches_v hra _ _ _ (Ow.sl hx.o2) (by omega)).mono ?_; rintro e w7 ⟨rfl, hb7⟩; replace hx := hx.step hb7; replace hB := hB.step hb7; clear hB2; have hB2 := hB; simp [Has, HasAt] at hB2)
            go_meet
            exact ⟨rfl, hx⟩
          · have hrb0 : rb = false := by simpa using hnn
            subst hrb0
            have tok : True := trivial
            go_wp2_with (first
              | (go_at_call 17; clear tok; refine (iReaches_v hra _ _ _ (Ow.sl hx.o2) (by omega)).mono ?_; rintro e w7 ⟨rfl, hb7⟩; replace hx := hx.step hb7; replace hB := hB.step hb7; clear hB2; have hB2 := hB; simp [Has, HasAt] at hB2)
              | (go_at_call 17; refine (iReaches_v hrb _ _ _ (Ow.sl hx.o1) (by omega)).mono ?_; rintro e w7 ⟨rfl, hb7⟩; replace hx := hx.step hb7; replace hB := hB.step hb7; clear hB2; have hB2 := hB; simp [Has, HasAt] at hB2))
            go_meet
            exact ⟨rfl, hx⟩
        · have hi0 : ¬ (M.length : Int) = 0 := by omega
          have hMn : ¬ M = [] := fun h => hM0 (by rw [h]; rfl)
          have hd0 : ((M.length : Int) == 0) = false := by simp [hMn]
          clear hcom hnone
          go_wp2_with fail
          go_meet
          exact ⟨rfl, hx⟩
      case rest =>
      clear hx hB
      obtain ⟨rfl, hx⟩ := hcut
      go_wp2
      go_roundw
      case rel => exact ⟨k + 1, by omega, by go_num, hx⟩
      case measure => simp [intOf]; omega
    · obtain rfl : k = 12 := by omega
      have hself : comS L L = joinL L := comS_self L
      generalize hJ : joinL L = J
      have hJ2 : comS L L = J := by rw [hself]; exact hJ
      have hJl : J.length ≤ 65536 := by rw [← hJ]; exact joinL_len L
      have HJ : Hid (joinL L = J) := hJ
      have HJ2 : Hid (comS L L = J) := hJ2
      clear hJ hJ2 hself
      go_wp2_with (first
        | (go_at_call 34; refine (iCommon_v HJ2.out _ _ _ _ _ (Ow.sl hx.o2) (Ow.pl hx.o2) (by omega) (Ow.sl hx.o2) (Ow.pl hx.o2) (by omega)).mono ?_; rintro e w4 ⟨p6, cap6, rfl, hO6, hb6⟩; replace hx := hx.add hO6 hb6)
        | (go_at_call 25; refine (iJoined_v HJ.out _ _ _ (Ow.sl hx.o3) (Ow.pl hx.o3) (by omega)).mono ?_; rintro e w4 ⟨p7, cap7, rfl, hO7, hb7⟩; replace hx := hx.add hO7 hb7)
        | (go_at_call 15; refine (likeCells_same _ _ _ _ J _ (Ow.sl hx.o1) (Ow.sl hx.o0) (by omega)).mono ?_; rintro e w4 ⟨rfl, hb8⟩; replace hx := hx.step hb8))
      go_ret
      exact ⟨rfl, hx.bel⟩
end Go.Proofs.Ythmpemamagjeeaa
