/-
  The law of shapes, walked.
-/
import Derived.Test.YtipdfajojcpolaaD5
namespace Go.Proofs.Ytipdfajojcpolaa
open Go.RowKit Go.Joins
attribute [local go_sem ↓] Go.wp_at_zero Go.wp_at_succ

theorem Sx.o0 {w W : World} {a : Value × List T2} {l : List (Value × List T2)} (h : Sx w W (a :: l)) : Ow W w.heap.size a.1 a.2 := h.own _ (by simp)
theorem side_rev (a b c : T2) : sideI b a c = - sideI a b c := by
  unfold sideI
  have e : crT b a c = - crT a b c := by unfold crT cr; grind
  have s : ∀ n, sg (-n) = - sg n := fun n => by
    rcases sg_cases n with ⟨h1, h2⟩ | ⟨h1, h2⟩ | ⟨h1, h2⟩
    · rw [h2, sg_m (by omega)]
    · rw [h2, sg_z (by omega)]; rfl
    · rw [h2, sg_p (by omega)]; rfl
  rw [e, s, Bool.and_comm b.ok]
  split
  · rfl
  · rfl
theorem side_bd (a b c : T2) : -1 ≤ sideI a b c ∧ sideI a b c ≤ 1 := by
  unfold sideI
  split
  · rcases sg_cases (crT a b c) with ⟨_, h⟩ | ⟨_, h⟩ | ⟨_, h⟩ <;> omega
  · omega
theorem has6 {W : World} {b7 b8 b9 : Nat} {a b c : T2} (h : Has W [(b9, [.int .i64 c.x, .int .i64 c.y]), (b8, [.int .i64 b.x, .int .i64 b.y]), (b7, [.int .i64 a.x, .int .i64 a.y])]) : (W.cell? ⟨b7, 0, none⟩ = some (.int .i64 a.x) ∧ W.cell? ⟨b7, 1, none⟩ = some (.int .i64 a.y)) ∧ (W.cell? ⟨b8, 0, none⟩ = some (.int .i64 b.x) ∧ W.cell? ⟨b8, 1, none⟩ = some (.int .i64 b.y)) ∧ (W.cell? ⟨b9, 0, none⟩ = some (.int .i64 c.x) ∧ W.cell? ⟨b9, 1, none⟩ = some (.int .i64 c.y)) := by simp [Has, HasAt] at h; simp [h]

def eX (L : List T2) (x : Nat) : Int := sm (fun x => sm (fun y => edS L ⟨(x : Nat), (y : Nat)⟩) 31) x
def iX (L : List T2) (x : Nat) : Int := sm (fun x => sm (fun y => inS L ⟨(x : Nat), (y : Nat)⟩) 31) x
def eY (L : List T2) (x y : Nat) : Int := eX L x + sm (fun y => edS L ⟨(x : Nat), (y : Nat)⟩) y
def iY (L : List T2) (x y : Nat) : Int := iX L x + sm (fun y => inS L ⟨(x : Nat), (y : Nat)⟩) y
theorem ed01 (L : List T2) (s : T2) : 0 ≤ edS L s ∧ edS L s ≤ 1 := by unfold edS onS; split <;> omega
theorem in01 (L : List T2) (s : T2) : 0 ≤ inS L s ∧ inS L s ≤ 1 := by unfold inS innI; split <;> omega
theorem sm_bd {f : Nat → Int} {c : Nat} (h : ∀ i, 0 ≤ f i ∧ f i ≤ c) : ∀ n : Nat, 0 ≤ sm f n ∧ sm f n ≤ n * c
  | 0 => by simp [sm]
  | n + 1 => by
    have := sm_bd h n
    have := h n
    have e : ((n + 1 : Nat) : Int) * c = n * c + c := by rw [Int.natCast_add]; grind
    simp only [sm]
    omega
theorem Y_bd (L : List T2) (x y : Nat) (hx : x ≤ 31) (hy : y ≤ 31) : 0 ≤ eY L x y ∧ eY L x y ≤ 1000 ∧ 0 ≤ iY L x y ∧ iY L x y ≤ 1000 := by
  have a1 := sm_bd (f := fun x => sm (fun y => edS L ⟨(x : Nat), (y : Nat)⟩) 31) (c := 31) (fun i => by have := sm_bd (f := fun y => edS L ⟨(i : Nat), (y : Nat)⟩) (c := 1) (fun j => ed01 L _) 31; omega) x
  have a2 := sm_bd (f := fun x => sm (fun y => inS L ⟨(x : Nat), (y : Nat)⟩) 31) (c := 31) (fun i => by have := sm_bd (f := fun y => inS L ⟨(i : Nat), (y : Nat)⟩) (c := 1) (fun j => in01 L _) 31; omega) x
  have a3 := sm_bd (f := fun y => edS L ⟨(x : Nat), (y : Nat)⟩) (c := 1) (fun j => ed01 L _) y
  have a4 := sm_bd (f := fun y => inS L ⟨(x : Nat), (y : Nat)⟩) (c := 1) (fun j => in01 L _) y
  unfold eY iY eX iX
  omega
set_option maxRecDepth 100000 in
set_option maxHeartbeats 8000000 in
theorem pick_small (a0 : Option Addr) (len cap : Nat) (zs : List Int) (w : World) (hl : len ≤ 4096) (hr : Rd w w.heap.size a0 len zs) :
    Calls Try.prog 3 #[.slice a0 len cap] w fun e w' => e = .returned (.bool true) ∧ Below w.heap.size w w' := by
  have hl' : decide (4096 < (len : Int)) = false := by simp; omega
  have hx := Sx.nil w
  go_enter Try.func3, Try.ntmps3
  go_upto_region 4 with (first
    | (go_at_call 9; refine (big_any _ _ _ _).mono ?_; rintro e w1 ⟨rfl, rfl⟩)
    | (go_at_call 10; refine (drawDouble_any a0 len cap zs _ hl hr).mono ?_; rintro e w1 ⟨q, cap', L, rfl, hO, hb, hLl⟩; replace hx := hx.add hO hb; clear hO hb))
  obtain ⟨d, hd⟩ : ∃ d, dblI L = d := ⟨_, rfl⟩
  obtain ⟨ee, he⟩ : ∃ ee, edgI L = ee := ⟨_, rfl⟩
  obtain ⟨wv, hwv⟩ : ∃ wv, witI L = wv := ⟨_, rfl⟩
  obtain ⟨sh, hsh⟩ : ∃ sh, shB L = sh := ⟨_, rfl⟩
  have HD : Hid (dblI L = d) := hd
  have HE : Hid (edgI L = ee) := he
  have HW : Hid (witI L = wv) := hwv
  have HSH : Hid (shB L = sh) := hsh
  clear hd he hwv hsh
  go_upto_region 8 with (first
    | (go_at_call 11; refine (iDouble_v HD.out _ _ _ (Ow.sl hx.o0) (by omega)).mono ?_; rintro e w2 ⟨rfl, hb2⟩; replace hx := hx.step hb2; clear hb2)
    | (go_at_call 12; refine (iEdge_v HE.out _ _ _ (Ow.sl hx.o0) (by omega)).mono ?_; rintro e w2 ⟨rfl, hb2⟩; replace hx := hx.step hb2; clear hb2)
    | (go_at_call 13; refine (iWithin_v HW.out _ _ _ (Ow.sl hx.o0) (by omega)).mono ?_; rintro e w2 ⟨rfl, hb2⟩; replace hx := hx.step hb2; clear hb2)
    | (go_at_call 14; refine (drawSide_any a0 len cap zs _ hl (hr.up hx.bel hx.bel.size)).mono ?_; rintro e w2 ⟨a, b, c, rfl, hb2⟩; replace hx := hx.step hb2; clear hb2))
  have hH := ((((St.nil w2).push [.int .i64 a.x, .int .i64 a.y] 28).push [.int .i64 b.x, .int .i64 b.y] 28).push [.int .i64 c.x, .int .i64 c.y] 28).has
  simp only [World.size_alloc] at hH
  replace hx := hx.step (below_alloc3 w2 (.cells #[.int .i64 a.x, .int .i64 a.y] 28) (.cells #[.int .i64 b.x, .int .i64 b.y] 28) (.cells #[.int .i64 c.x, .int .i64 c.y] 28))
  generalize hWe : ((w2.alloc (.cells #[.int .i64 a.x, .int .i64 a.y] 28)).alloc (.cells #[.int .i64 b.x, .int .i64 b.y] 28)).alloc (.cells #[.int .i64 c.x, .int .i64 c.y] 28) = W3 at hH hx ⊢
  clear hWe
  generalize w2.heap.size + 1 + 1 = b9 at hH ⊢
  generalize w2.heap.size + 1 = b8 at hH ⊢
  generalize w2.heap.size = b7 at hH ⊢
  obtain ⟨s1, hs1⟩ : ∃ s1, sideI a b c = s1 := ⟨_, rfl⟩
  have hs2 : sideI b a c = -s1 := by rw [side_rev, hs1]
  have hsb := side_bd a b c
  rw [hs1] at hsb
  have hneg : IntKind.i64.wrap (-s1) = -s1 := by rw [IntKind.wrap_i64]; omega
  have hd := HD.out
  have he := HE.out
  have hwv := HW.out
  have hsh := HSH.out
  have hS : ∀ w', (Sx w w' [(.slice (some ⟨q, 0, none⟩) L.length cap', L)] ∧ Has w' [(b9, [.int .i64 c.x, .int .i64 c.y]), (b8, [.int .i64 b.x, .int .i64 b.y]), (b7, [.int .i64 a.x, .int .i64 a.y])]) → _ := fun w' h => has6 h.2
  go_cut [82] from 37 to 81 (fun s82 wx => s82 = .bool false ∧ Sx w wx [(.slice (some ⟨q, 0, none⟩) L.length cap', L)])
  case first =>
    refine wp_region_quiet (C := fun w' => (Sx w w' [(.slice (some ⟨q, 0, none⟩) L.length cap', L)] ∧ Has w' [(b9, [.int .i64 c.x, .int .i64 c.y]), (b8, [.int .i64 b.x, .int .i64 b.y]), (b7, [.int .i64 a.x, .int .i64 a.y])])) (by kernel_rfl) (by kernel_rfl) (⟨hx.step (Below.refl _ _).drew, hH.step (Below.refl _ _).drew⟩) ?_
    refine q_intro (fun A hA => ?_)
    have hf : Fr 221 A [(3, .slice (some ⟨q, 0, none⟩) L.length cap'), (4, .int .i64 d), (5, .int .i64 ee), (6, .int .i64 wv), (7, .pointer (some ⟨b7, 0, none⟩)), (8, .pointer (some ⟨b8, 0, none⟩)), (9, .pointer (some ⟨b9, 0, none⟩))] := by subst hA; exact ⟨rfl, by simp⟩
    refine q_step hf (d := 37) (v := .int .i64 d) rfl rfl (by decide) (by simp) (fun w' hw' => ?_) (fun A hA37 hf => ?_)
    · have f4 := hf.get (d := 4) (v := .int .i64 d) (by simp)
      clear hf
      simp [Oper.quietAt, Oper.quietUpon, go_sem, f4]
    refine q_step hf (d := 38) (v := .slice (some ⟨q, 0, none⟩) L.length cap') rfl rfl (by decide) (by simp) (fun w' hw' => ?_) (fun A hA38 hf => ?_)
    · have f3 := hf.get (d := 3) (v := .slice (some ⟨q, 0, none⟩) L.length cap') (by simp)
      clear hf
      simp [Oper.quietAt, Oper.quietUpon, go_sem, f3]
    refine q_step hf (d := 39) (v := .int .i64 d) rfl rfl (by decide) (by simp) (fun w' hw' => ?_) (fun A hA39 hf => ?_)
    · have f38 := hf.get (d := 38) (v := .slice (some ⟨q, 0, none⟩) L.length cap') (by simp)
      clear hf
      simp [Oper.quietAt, Oper.quietUpon, go_sem, f38]
      exact (sDouble_v hd _ _ _ (Ow.sl hw'.1.o0) (by omega)).mono (fun e w'' hq => ⟨hq.1, hw'.1.step hq.2, hw'.2.step hq.2⟩)
    refine q_step hf (d := 40) (v := .bool false) rfl rfl (by decide) (by simp) (fun w' hw' => ?_) (fun A hA40 hf => ?_)
    · have f37 := hf.get (d := 37) (v := .int .i64 d) (by simp)
      have f39 := hf.get (d := 39) (v := .int .i64 d) (by simp)
      clear hf
      simp [Oper.quietAt, Oper.quietUpon, go_sem, f37, f39]
    refine q_step hf (d := 41) (v := .bool false) rfl rfl (by decide) (by simp) (fun w' hw' => ?_) (fun A hA41 hf => ?_)
    · have f40 := hf.get (d := 40) (v := .bool false) (by simp)
      clear hf
      simp [Oper.quietAt, Oper.quietUpon, go_sem, f40]
    refine q_want hf (d := 42) (v := .int .i64 ee) (e := 41) rfl rfl (by simp) rfl (by decide) (by simp) (fun w' hw' => ?_) (fun A hA42 hf => ?_)
    · have f5 := hf.get (d := 5) (v := .int .i64 ee) (by simp)
      clear hf
      simp [Oper.quietAt, Oper.quietUpon, go_sem, f5]
    refine q_want hf (d := 43) (v := .slice (some ⟨q, 0, none⟩) L.length cap') (e := 41) rfl rfl (by simp) rfl (by decide) (by simp) (fun w' hw' => ?_) (fun A hA43 hf => ?_)
    · have f3 := hf.get (d := 3) (v := .slice (some ⟨q, 0, none⟩) L.length cap') (by simp)
      clear hf
      simp [Oper.quietAt, Oper.quietUpon, go_sem, f3]
    refine q_want hf (d := 44) (v := .int .i64 ee) (e := 41) rfl rfl (by simp) rfl (by decide) (by simp) (fun w' hw' => ?_) (fun A hA44 hf => ?_)
    · have f43 := hf.get (d := 43) (v := .slice (some ⟨q, 0, none⟩) L.length cap') (by simp)
      clear hf
      simp [Oper.quietAt, Oper.quietUpon, go_sem, f43]
      exact (sEdge_v he _ _ _ (Ow.sl hw'.1.o0) (by omega)).mono (fun e w'' hq => ⟨hq.1, hw'.1.step hq.2, hw'.2.step hq.2⟩)
    refine q_want hf (d := 45) (v := .bool false) (e := 41) rfl rfl (by simp) rfl (by decide) (by simp) (fun w' hw' => ?_) (fun A hA45 hf => ?_)
    · have f42 := hf.get (d := 42) (v := .int .i64 ee) (by simp)
      have f44 := hf.get (d := 44) (v := .int .i64 ee) (by simp)
      clear hf
      simp [Oper.quietAt, Oper.quietUpon, go_sem, f42, f44]
    refine q_step hf (d := 46) (v := .bool false) rfl rfl (by decide) (by simp) (fun w' hw' => ?_) (fun A hA46 hf => ?_)
    · have f41 := hf.get (d := 41) (v := .bool false) (by simp)
      have f45 := hf.get (d := 45) (v := .bool false) (by simp)
      clear hf
      simp [Oper.quietAt, Oper.quietUpon, go_sem, f41, f45]
    refine q_step hf (d := 47) (v := .bool false) rfl rfl (by decide) (by simp) (fun w' hw' => ?_) (fun A hA47 hf => ?_)
    · have f46 := hf.get (d := 46) (v := .bool false) (by simp)
      clear hf
      simp [Oper.quietAt, Oper.quietUpon, go_sem, f46]
    refine q_want hf (d := 48) (v := .int .i64 wv) (e := 47) rfl rfl (by simp) rfl (by decide) (by simp) (fun w' hw' => ?_) (fun A hA48 hf => ?_)
    · have f6 := hf.get (d := 6) (v := .int .i64 wv) (by simp)
      clear hf
      simp [Oper.quietAt, Oper.quietUpon, go_sem, f6]
    refine q_want hf (d := 49) (v := .slice (some ⟨q, 0, none⟩) L.length cap') (e := 47) rfl rfl (by simp) rfl (by decide) (by simp) (fun w' hw' => ?_) (fun A hA49 hf => ?_)
    · have f3 := hf.get (d := 3) (v := .slice (some ⟨q, 0, none⟩) L.length cap') (by simp)
      clear hf
      simp [Oper.quietAt, Oper.quietUpon, go_sem, f3]
    refine q_want hf (d := 50) (v := .int .i64 wv) (e := 47) rfl rfl (by simp) rfl (by decide) (by simp) (fun w' hw' => ?_) (fun A hA50 hf => ?_)
    · have f49 := hf.get (d := 49) (v := .slice (some ⟨q, 0, none⟩) L.length cap') (by simp)
      clear hf
      simp [Oper.quietAt, Oper.quietUpon, go_sem, f49]
      exact (sWithin_v hwv _ _ _ (Ow.sl hw'.1.o0) (by omega)).mono (fun e w'' hq => ⟨hq.1, hw'.1.step hq.2, hw'.2.step hq.2⟩)
    refine q_want hf (d := 51) (v := .bool false) (e := 47) rfl rfl (by simp) rfl (by decide) (by simp) (fun w' hw' => ?_) (fun A hA51 hf => ?_)
    · have f48 := hf.get (d := 48) (v := .int .i64 wv) (by simp)
      have f50 := hf.get (d := 50) (v := .int .i64 wv) (by simp)
      clear hf
      simp [Oper.quietAt, Oper.quietUpon, go_sem, f48, f50]
    refine q_step hf (d := 52) (v := .bool false) rfl rfl (by decide) (by simp) (fun w' hw' => ?_) (fun A hA52 hf => ?_)
    · have f47 := hf.get (d := 47) (v := .bool false) (by simp)
      have f51 := hf.get (d := 51) (v := .bool false) (by simp)
      clear hf
      simp [Oper.quietAt, Oper.quietUpon, go_sem, f47, f51]
    refine q_step hf (d := 53) (v := .bool false) rfl rfl (by decide) (by simp) (fun w' hw' => ?_) (fun A hA53 hf => ?_)
    · have f52 := hf.get (d := 52) (v := .bool false) (by simp)
      clear hf
      simp [Oper.quietAt, Oper.quietUpon, go_sem, f52]
    refine q_want hf (d := 54) (v := .slice (some ⟨q, 0, none⟩) L.length cap') (e := 53) rfl rfl (by simp) rfl (by decide) (by simp) (fun w' hw' => ?_) (fun A hA54 hf => ?_)
    · have f3 := hf.get (d := 3) (v := .slice (some ⟨q, 0, none⟩) L.length cap') (by simp)
      clear hf
      simp [Oper.quietAt, Oper.quietUpon, go_sem, f3]
    refine q_want hf (d := 55) (v := .bool sh) (e := 53) rfl rfl (by simp) rfl (by decide) (by simp) (fun w' hw' => ?_) (fun A hA55 hf => ?_)
    · have f54 := hf.get (d := 54) (v := .slice (some ⟨q, 0, none⟩) L.length cap') (by simp)
      clear hf
      simp [Oper.quietAt, Oper.quietUpon, go_sem, f54]
      exact (iShapeOk_v hsh _ _ _ (Ow.sl hw'.1.o0) (by omega)).mono (fun e w'' hq => ⟨hq.1, hw'.1.step hq.2, hw'.2.step hq.2⟩)
    refine q_want hf (d := 56) (v := .slice (some ⟨q, 0, none⟩) L.length cap') (e := 53) rfl rfl (by simp) rfl (by decide) (by simp) (fun w' hw' => ?_) (fun A hA56 hf => ?_)
    · have f3 := hf.get (d := 3) (v := .slice (some ⟨q, 0, none⟩) L.length cap') (by simp)
      clear hf
      simp [Oper.quietAt, Oper.quietUpon, go_sem, f3]
    refine q_want hf (d := 57) (v := .bool sh) (e := 53) rfl rfl (by simp) rfl (by decide) (by simp) (fun w' hw' => ?_) (fun A hA57 hf => ?_)
    · have f56 := hf.get (d := 56) (v := .slice (some ⟨q, 0, none⟩) L.length cap') (by simp)
      clear hf
      simp [Oper.quietAt, Oper.quietUpon, go_sem, f56]
      exact (sShapeOk_v hsh _ _ _ (Ow.sl hw'.1.o0) (by omega)).mono (fun e w'' hq => ⟨hq.1, hw'.1.step hq.2, hw'.2.step hq.2⟩)
    refine q_want hf (d := 58) (v := .bool false) (e := 53) rfl rfl (by simp) rfl (by decide) (by simp) (fun w' hw' => ?_) (fun A hA58 hf => ?_)
    · have f55 := hf.get (d := 55) (v := .bool sh) (by simp)
      have f57 := hf.get (d := 57) (v := .bool sh) (by simp)
      clear hf
      simp [Oper.quietAt, Oper.quietUpon, go_sem, f55, f57]
    refine q_step hf (d := 59) (v := .bool false) rfl rfl (by decide) (by simp) (fun w' hw' => ?_) (fun A hA59 hf => ?_)
    · have f53 := hf.get (d := 53) (v := .bool false) (by simp)
      have f58 := hf.get (d := 58) (v := .bool false) (by simp)
      clear hf
      simp [Oper.quietAt, Oper.quietUpon, go_sem, f53, f58]
    refine q_step hf (d := 60) (v := .bool false) rfl rfl (by decide) (by simp) (fun w' hw' => ?_) (fun A hA60 hf => ?_)
    · have f59 := hf.get (d := 59) (v := .bool false) (by simp)
      clear hf
      simp [Oper.quietAt, Oper.quietUpon, go_sem, f59]
    refine q_want hf (d := 61) (v := .agg #[.int .i64 a.x, .int .i64 a.y]) (e := 60) rfl rfl (by simp) rfl (by decide) (by simp) (fun w' hw' => ?_) (fun A hA61 hf => ?_)
    · have hc := hS _ hw'
      have f7 := hf.get (d := 7) (v := .pointer (some ⟨b7, 0, none⟩)) (by simp)
      clear hf
      simp [Oper.quietAt, Oper.quietUpon, go_sem, f7, hc]
    refine q_want hf (d := 62) (v := .agg #[.int .i64 b.x, .int .i64 b.y]) (e := 60) rfl rfl (by simp) rfl (by decide) (by simp) (fun w' hw' => ?_) (fun A hA62 hf => ?_)
    · have hc := hS _ hw'
      have f8 := hf.get (d := 8) (v := .pointer (some ⟨b8, 0, none⟩)) (by simp)
      clear hf
      simp [Oper.quietAt, Oper.quietUpon, go_sem, f8, hc]
    refine q_want hf (d := 63) (v := .agg #[.int .i64 c.x, .int .i64 c.y]) (e := 60) rfl rfl (by simp) rfl (by decide) (by simp) (fun w' hw' => ?_) (fun A hA63 hf => ?_)
    · have hc := hS _ hw'
      have f9 := hf.get (d := 9) (v := .pointer (some ⟨b9, 0, none⟩)) (by simp)
      clear hf
      simp [Oper.quietAt, Oper.quietUpon, go_sem, f9, hc]
    refine q_want hf (d := 64) (v := .int .i64 s1) (e := 60) rfl rfl (by simp) rfl (by decide) (by simp) (fun w' hw' => ?_) (fun A hA64 hf => ?_)
    · have f61 := hf.get (d := 61) (v := .agg #[.int .i64 a.x, .int .i64 a.y]) (by simp)
      have f62 := hf.get (d := 62) (v := .agg #[.int .i64 b.x, .int .i64 b.y]) (by simp)
      have f63 := hf.get (d := 63) (v := .agg #[.int .i64 c.x, .int .i64 c.y]) (by simp)
      clear hf
      simp [Oper.quietAt, Oper.quietUpon, go_sem, f61, f62, f63]
      exact (iSide_v hs1 _).mono (fun e w'' hq => ⟨hq.1, hw'.1.step hq.2, hw'.2.step hq.2⟩)
    refine q_want hf (d := 65) (v := .agg #[.int .i64 a.x, .int .i64 a.y]) (e := 60) rfl rfl (by simp) rfl (by decide) (by simp) (fun w' hw' => ?_) (fun A hA65 hf => ?_)
    · have hc := hS _ hw'
      have f7 := hf.get (d := 7) (v := .pointer (some ⟨b7, 0, none⟩)) (by simp)
      clear hf
      simp [Oper.quietAt, Oper.quietUpon, go_sem, f7, hc]
    refine q_want hf (d := 66) (v := .agg #[.int .i64 b.x, .int .i64 b.y]) (e := 60) rfl rfl (by simp) rfl (by decide) (by simp) (fun w' hw' => ?_) (fun A hA66 hf => ?_)
    · have hc := hS _ hw'
      have f8 := hf.get (d := 8) (v := .pointer (some ⟨b8, 0, none⟩)) (by simp)
      clear hf
      simp [Oper.quietAt, Oper.quietUpon, go_sem, f8, hc]
    refine q_want hf (d := 67) (v := .agg #[.int .i64 c.x, .int .i64 c.y]) (e := 60) rfl rfl (by simp) rfl (by decide) (by simp) (fun w' hw' => ?_) (fun A hA67 hf => ?_)
    · have hc := hS _ hw'
      have f9 := hf.get (d := 9) (v := .pointer (some ⟨b9, 0, none⟩)) (by simp)
      clear hf
      simp [Oper.quietAt, Oper.quietUpon, go_sem, f9, hc]
    refine q_want hf (d := 68) (v := .int .i64 s1) (e := 60) rfl rfl (by simp) rfl (by decide) (by simp) (fun w' hw' => ?_) (fun A hA68 hf => ?_)
    · have f65 := hf.get (d := 65) (v := .agg #[.int .i64 a.x, .int .i64 a.y]) (by simp)
      have f66 := hf.get (d := 66) (v := .agg #[.int .i64 b.x, .int .i64 b.y]) (by simp)
      have f67 := hf.get (d := 67) (v := .agg #[.int .i64 c.x, .int .i64 c.y]) (by simp)
      clear hf
      simp [Oper.quietAt, Oper.quietUpon, go_sem, f65, f66, f67]
      exact (sSide_v hs1 _).mono (fun e w'' hq => ⟨hq.1, hw'.1.step hq.2, hw'.2.step hq.2⟩)
    refine q_want hf (d := 69) (v := .bool false) (e := 60) rfl rfl (by simp) rfl (by decide) (by simp) (fun w' hw' => ?_) (fun A hA69 hf => ?_)
    · have f64 := hf.get (d := 64) (v := .int .i64 s1) (by simp)
      have f68 := hf.get (d := 68) (v := .int .i64 s1) (by simp)
      clear hf
      simp [Oper.quietAt, Oper.quietUpon, go_sem, f64, f68]
    refine q_step hf (d := 70) (v := .bool false) rfl rfl (by decide) (by simp) (fun w' hw' => ?_) (fun A hA70 hf => ?_)
    · have f60 := hf.get (d := 60) (v := .bool false) (by simp)
      have f69 := hf.get (d := 69) (v := .bool false) (by simp)
      clear hf
      simp [Oper.quietAt, Oper.quietUpon, go_sem, f60, f69]
    refine q_step hf (d := 71) (v := .bool false) rfl rfl (by decide) (by simp) (fun w' hw' => ?_) (fun A hA71 hf => ?_)
    · have f70 := hf.get (d := 70) (v := .bool false) (by simp)
      clear hf
      simp [Oper.quietAt, Oper.quietUpon, go_sem, f70]
    refine q_want hf (d := 72) (v := .agg #[.int .i64 b.x, .int .i64 b.y]) (e := 71) rfl rfl (by simp) rfl (by decide) (by simp) (fun w' hw' => ?_) (fun A hA72 hf => ?_)
    · have hc := hS _ hw'
      have f8 := hf.get (d := 8) (v := .pointer (some ⟨b8, 0, none⟩)) (by simp)
      clear hf
      simp [Oper.quietAt, Oper.quietUpon, go_sem, f8, hc]
    refine q_want hf (d := 73) (v := .agg #[.int .i64 a.x, .int .i64 a.y]) (e := 71) rfl rfl (by simp) rfl (by decide) (by simp) (fun w' hw' => ?_) (fun A hA73 hf => ?_)
    · have hc := hS _ hw'
      have f7 := hf.get (d := 7) (v := .pointer (some ⟨b7, 0, none⟩)) (by simp)
      clear hf
      simp [Oper.quietAt, Oper.quietUpon, go_sem, f7, hc]
    refine q_want hf (d := 74) (v := .agg #[.int .i64 c.x, .int .i64 c.y]) (e := 71) rfl rfl (by simp) rfl (by decide) (by simp) (fun w' hw' => ?_) (fun A hA74 hf => ?_)
    · have hc := hS _ hw'
      have f9 := hf.get (d := 9) (v := .pointer (some ⟨b9, 0, none⟩)) (by simp)
      clear hf
      simp [Oper.quietAt, Oper.quietUpon, go_sem, f9, hc]
    refine q_want hf (d := 75) (v := .int .i64 (-s1)) (e := 71) rfl rfl (by simp) rfl (by decide) (by simp) (fun w' hw' => ?_) (fun A hA75 hf => ?_)
    · have f72 := hf.get (d := 72) (v := .agg #[.int .i64 b.x, .int .i64 b.y]) (by simp)
      have f73 := hf.get (d := 73) (v := .agg #[.int .i64 a.x, .int .i64 a.y]) (by simp)
      have f74 := hf.get (d := 74) (v := .agg #[.int .i64 c.x, .int .i64 c.y]) (by simp)
      clear hf
      simp [Oper.quietAt, Oper.quietUpon, go_sem, f72, f73, f74]
      exact (iSide_v hs2 _).mono (fun e w'' hq => ⟨hq.1, hw'.1.step hq.2, hw'.2.step hq.2⟩)
    refine q_want hf (d := 76) (v := .agg #[.int .i64 a.x, .int .i64 a.y]) (e := 71) rfl rfl (by simp) rfl (by decide) (by simp) (fun w' hw' => ?_) (fun A hA76 hf => ?_)
    · have hc := hS _ hw'
      have f7 := hf.get (d := 7) (v := .pointer (some ⟨b7, 0, none⟩)) (by simp)
      clear hf
      simp [Oper.quietAt, Oper.quietUpon, go_sem, f7, hc]
    refine q_want hf (d := 77) (v := .agg #[.int .i64 b.x, .int .i64 b.y]) (e := 71) rfl rfl (by simp) rfl (by decide) (by simp) (fun w' hw' => ?_) (fun A hA77 hf => ?_)
    · have hc := hS _ hw'
      have f8 := hf.get (d := 8) (v := .pointer (some ⟨b8, 0, none⟩)) (by simp)
      clear hf
      simp [Oper.quietAt, Oper.quietUpon, go_sem, f8, hc]
    refine q_want hf (d := 78) (v := .agg #[.int .i64 c.x, .int .i64 c.y]) (e := 71) rfl rfl (by simp) rfl (by decide) (by simp) (fun w' hw' => ?_) (fun A hA78 hf => ?_)
    · have hc := hS _ hw'
      have f9 := hf.get (d := 9) (v := .pointer (some ⟨b9, 0, none⟩)) (by simp)
      clear hf
      simp [Oper.quietAt, Oper.quietUpon, go_sem, f9, hc]
    refine q_want hf (d := 79) (v := .int .i64 s1) (e := 71) rfl rfl (by simp) rfl (by decide) (by simp) (fun w' hw' => ?_) (fun A hA79 hf => ?_)
    · have f76 := hf.get (d := 76) (v := .agg #[.int .i64 a.x, .int .i64 a.y]) (by simp)
      have f77 := hf.get (d := 77) (v := .agg #[.int .i64 b.x, .int .i64 b.y]) (by simp)
      have f78 := hf.get (d := 78) (v := .agg #[.int .i64 c.x, .int .i64 c.y]) (by simp)
      clear hf
      simp [Oper.quietAt, Oper.quietUpon, go_sem, f76, f77, f78]
      exact (iSide_v hs1 _).mono (fun e w'' hq => ⟨hq.1, hw'.1.step hq.2, hw'.2.step hq.2⟩)
    refine q_want hf (d := 80) (v := .int .i64 (-s1)) (e := 71) rfl rfl (by simp) rfl (by decide) (by simp) (fun w' hw' => ?_) (fun A hA80 hf => ?_)
    · have f79 := hf.get (d := 79) (v := .int .i64 s1) (by simp)
      clear hf
      simp [Oper.quietAt, Oper.quietUpon, go_sem, f79, hneg]
    refine q_want hf (d := 81) (v := .bool false) (e := 71) rfl rfl (by simp) rfl (by decide) (by simp) (fun w' hw' => ?_) (fun A hA81 hf => ?_)
    · have f75 := hf.get (d := 75) (v := .int .i64 (-s1)) (by simp)
      have f80 := hf.get (d := 80) (v := .int .i64 (-s1)) (by simp)
      clear hf
      simp [Oper.quietAt, Oper.quietUpon, go_sem, f75, f80]
    refine q_step hf (d := 82) (v := .bool false) rfl rfl (by decide) (by simp) (fun w' hw' => ?_) (fun A hA82 hf => ?_)
    · have f71 := hf.get (d := 71) (v := .bool false) (by simp)
      have f81 := hf.get (d := 81) (v := .bool false) (by simp)
      clear hf
      simp [Oper.quietAt, Oper.quietUpon, go_sem, f71, f81]
    refine wpQuiet_nil (fun w' hw' => ?_)
    clear hf
    subst hA82 hA81 hA80 hA79 hA78 hA77 hA76 hA75 hA74 hA73 hA72 hA71 hA70 hA69 hA68 hA67 hA66 hA65 hA64 hA63 hA62 hA61 hA60 hA59 hA58 hA57 hA56 hA55 hA54 hA53 hA52 hA51 hA50 hA49 hA48 hA47 hA46 hA45 hA44 hA43 hA42 hA41 hA40 hA39 hA38 hA37 hA
    simp only [Act.put, List.setIfInBounds_toArray, List.set_cons_succ, List.set_cons_zero]
    go_wp2_with fail
    go_meet
    exact ⟨rfl, hw'.1⟩
  case rest =>
  clear hx hH hS hneg hs1 hs2 hsb hd he hwv hsh
  obtain ⟨rfl, hx⟩ := hcut
  cases sh
  · have hsh := HSH.out
    obtain rfl : d = -1 := by have := HD.out; simp [dblI, hsh] at this; omega
    obtain rfl : ee = -1 := by have := HE.out; simp [edgI, hsh] at this; omega
    obtain rfl : wv = -1 := by have := HW.out; simp [witI, hsh] at this; omega
    clear HD HE HW HSH
    go_wp2_with (go_at_call 18; refine (iShapeOk_v hsh _ _ _ (Ow.sl hx.o0) (by omega)).mono ?_; rintro e w4 ⟨rfl, hb4⟩; replace hx := hx.step hb4)
    go_ret
    exact ⟨rfl, hx.bel⟩
  · have hsh := HSH.out
    have hrt := sh_rt hsh
    obtain ⟨l3, l12⟩ := rt_len hrt
    have F : Hid (d = 2 * wv + ee - 2 ∧ 0 ≤ wv ∧ wv ≤ 65536 ∧ 0 ≤ ee ∧ ee ≤ 3060 ∧ 0 ≤ d) := by
      have h1 := HD.out
      have h2 := HE.out
      have h3 := HW.out
      simp only [dblI, edgI, witI, hsh, if_true] at h1 h2 h3
      have e1 := esum_bd hrt L.length (Nat.le_refl _)
      have d1 := dsum_bd hrt L.length (Nat.le_refl _)
      obtain ⟨X0, Y0, wN, hN, hbx⟩ := bx_ex hrt
      have pk := pick_L hsh hbx.inb
      have wb := wit_bx hsh hbx
      have cb := cnt_bd L X0 Y0 wN (wN * hN)
      have hbb := hbx.b
      have hAb : wN * hN ≤ 65536 := Nat.le_trans (Nat.mul_le_mul (show wN ≤ 256 by omega) (show hN ≤ 256 by omega)) (by decide)
      unfold cntW at cb
      rw [← wb] at cb
      have w0 := HW.out
      unfold Hid
      omega
    obtain ⟨f1, f2, f3, f4, f5, f6⟩ := F.out
    have hd0 : ¬ d < 0 := by omega
    have hne : (d != 2 * wv + ee - 2) = false := by rw [bne_eq_false_iff_eq]; exact f1
    clear f1 f6
    go_wp2_with fail
    go_loopw [10] (fun i wr => ∃ k : Nat, k ≤ L.length ∧ i = .int .i64 k ∧ Hid (∀ j, j < k → (nth L j).x ≤ 30 ∧ (nth L j).y ≤ 30) ∧ Sx w wr [(.slice (some ⟨q, 0, none⟩) L.length cap', L)]) (fun i _ => L.length - (intOf i).toNat)
    case atStart => exact ⟨0, by omega, rfl, fun j hj => absurd hj (by omega), hx⟩
    case round =>
      clear hx
      obtain ⟨k, hk, rfl, H30, hx⟩ := hrel
      by_cases hlt : k < L.length
      · have hki : (k : Int) < L.length := by omega
        obtain ⟨c, hc⟩ : ∃ c, L[k]? = some c := ⟨_, List.getElem?_eq_getElem hlt⟩
        have HC : Hid (nth L k = c) := by unfold Hid; rw [nth_lt hlt]; rw [List.getElem?_eq_getElem hlt] at hc; exact Option.some.inj hc
        obtain ⟨c0, c1⟩ := (Ow.cs hx.o0).2 k c hc
        simp only [Nat.zero_add] at c0 c1
        by_cases hx30 : 30 < c.x
        · go_wp2_with fail
          go_ret
          exact ⟨rfl, hx.bel⟩
        by_cases hy30 : 30 < c.y
        · go_wp2_with fail
          go_ret
          exact ⟨rfl, hx.bel⟩
        · go_wp2_with fail
          go_roundw
          case rel =>
            refine ⟨k + 1, by omega, by go_num, fun j hj => ?_, hx⟩
            by_cases e : j = k
            · subst e; rw [HC.out]; omega
            · exact H30.out j (by omega)
          case measure => simp [intOf]; omega
      · have hki : ¬ (k : Int) < L.length := by omega
        have H31 : Hid (∀ j, j < L.length → (nth L j).x ≤ 30 ∧ (nth L j).y ≤ 30) := fun j hj => H30.out j (by omega)
        clear H30
        have e0 : eX L 0 = 0 := rfl
        have i0 : iX L 0 = 0 := rfl
        go_wp2_with fail
        go_loopw [11, 12, 13] (fun ev iv xv wr => ∃ x : Nat, x ≤ 31 ∧ xv = .int .i64 x ∧ ev = .int .i64 (eX L x) ∧ iv = .int .i64 (iX L x) ∧ Sx w wr [(.slice (some ⟨q, 0, none⟩) L.length cap', L)]) (fun _ _ xv _ => 31 - (intOf xv).toNat)
        case atStart => exact ⟨0, by omega, rfl, by rw [e0], by rw [i0], hx⟩
        case round =>
          clear hx e0 i0
          obtain ⟨x, hx31, rfl, rfl, rfl, hx⟩ := hrel
          by_cases hxl : x < 31
          · have hxi : (x : Int) ≤ 30 := by omega
            have e0 : eY L x 0 = eX L x := by simp [eY, sm]
            have i0 : iY L x 0 = iX L x := by simp [iY, sm]
            go_wp2_with fail
            go_loopw [11, 12, 14] (fun ev iv yv wr => ∃ y : Nat, y ≤ 31 ∧ yv = .int .i64 y ∧ ev = .int .i64 (eY L x y) ∧ iv = .int .i64 (iY L x y) ∧ Sx w wr [(.slice (some ⟨q, 0, none⟩) L.length cap', L)]) (fun _ _ yv _ => 31 - (intOf yv).toNat)
            case atStart => exact ⟨0, by omega, rfl, by rw [e0], by rw [i0], hx⟩
            case round =>
              clear hx e0 i0
              obtain ⟨y, hy31, rfl, rfl, rfl, hx⟩ := hrel
              have yb := Y_bd L x y hx31 hy31
              by_cases hyl : y < 31
              · have hyi : (y : Int) ≤ 30 := by omega
                go_upto_region 28 with fail
                have hH := ((St.nil wr).push [.int .i64 (x : Int), .int .i64 (y : Int)] 28).has
                replace hx := hx.step (below_alloc1 wr (.cells #[.int .i64 (x : Int), .int .i64 (y : Int)] 28))
                generalize wr.alloc _ = W5 at hx hH ⊢
                generalize wr.heap.size = b15 at hH ⊢
                go_wp2_with fail
                go_loopw [16, 17, 18] (fun onv odv iv wq => ∃ (j : Nat) (o p : Bool), j ≤ L.length ∧ iv = .int .i64 j ∧ onv = .bool o ∧ odv = .bool p ∧ Hid (o = anL L ⟨(x : Int), (y : Int)⟩ j) ∧ Hid (p = odL L ⟨(x : Int), (y : Int)⟩ j) ∧ Sx w wq [(.slice (some ⟨q, 0, none⟩) L.length cap', L)] ∧ Has wq [(b15, [.int .i64 (x : Int), .int .i64 (y : Int)])]) (fun _ _ iv _ => L.length - (intOf iv).toNat)
                case atStart => exact ⟨0, false, false, by omega, rfl, rfl, rfl, rfl, rfl, hx, hH⟩
                case round =>
                  clear hx hH
                  obtain ⟨j, o, p, hj, rfl, rfl, rfl, HO, HP, hx, hH⟩ := hrel
                  by_cases hjl : j < L.length
                  · have hji : (j : Int) < L.length := by omega
                    obtain ⟨m, hm⟩ : ∃ m, (j + 1) % L.length = m := ⟨_, rfl⟩
                    have hml : m < L.length := by rw [← hm]; exact Nat.mod_lt _ (by omega)
                    have hmi : (m : Int) < L.length := by omega
                    have hT : ((j : Int) + 1).tmod (L.length : Int) = (m : Int) := by rw [← hm]; exact tmod1 j L.length
                    have n0 : ((L.length : Int) == 0) = false := beq_eq_false_iff_ne.mpr (by omega)
                    have hne0 : ¬ L = [] := by intro h; subst h; simp at hjl
                    obtain ⟨P, hP⟩ : ∃ P, nth L j = P := ⟨_, rfl⟩
                    obtain ⟨Q, hQ⟩ : ∃ Q, nth L m = Q := ⟨_, rfl⟩
                    have hPo := nth_ok hrt hjl
                    have hQo := nth_ok hrt hml
                    have hP3 := H31.out j hjl
                    have hQ3 := H31.out m hml
                    have hPc : L[j]? = some P := by rw [List.getElem?_eq_getElem hjl, ← hP, nth_lt hjl]
                    have hQc : L[m]? = some Q := by rw [List.getElem?_eq_getElem hml, ← hQ, nth_lt hml]
                    rw [hP] at hPo hP3
                    rw [hQ] at hQo hQ3
                    have hPb := spB_t.mp hPo
                    have hQb := spB_t.mp hQo
                    have HN : Hid (anL L ⟨(x : Int), (y : Int)⟩ (j + 1) = (anL L ⟨(x : Int), (y : Int)⟩ j || onB P Q ⟨(x : Int), (y : Int)⟩) ∧ odL L ⟨(x : Int), (y : Int)⟩ (j + 1) = xor (odL L ⟨(x : Int), (y : Int)⟩ j) (xrB P Q ⟨(x : Int), (y : Int)⟩)) := by unfold Hid; rw [← hP, ← hQ, ← hm]; exact ⟨rfl, rfl⟩
                    clear hm hP hQ
                    have hso : (⟨(x : Int), (y : Int)⟩ : T2).ok = true := spB_t.mpr (by simp only; omega)
                    obtain ⟨p0, p1⟩ := (Ow.cs hx.o0).2 j P hPc
                    obtain ⟨q0, q1⟩ := (Ow.cs hx.o0).2 m Q hQc
                    simp only [Nat.zero_add] at p0 p1 q0 q1
                    have hal : ∀ (ob : Obj), ((wr.alloc ob).cell? ⟨q, m * 2, none⟩ = some (.int .i64 Q.x) ∧ (wr.alloc ob).cell? ⟨q, m * 2 + 1, none⟩ = some (.int .i64 Q.y)) := fun ob => by
                      have := (Ow.cs (hx.step (below_alloc1 wr ob)).o0).2 m Q hQc
                      simpa only [Nat.zero_add] using this
                    go_upto_region 35 with fail
                    have hH3 := (((⟨Below.refl _ _, hH⟩ : St wr wr [(b15, [.int .i64 (x : Int), .int .i64 (y : Int)])]).push [.int .i64 P.x, .int .i64 P.y] 28).push [.int .i64 Q.x, .int .i64 Q.y] 28).has
                    simp only [World.size_alloc] at hH3
                    replace hx := hx.step (below_alloc2 wr (.cells #[.int .i64 P.x, .int .i64 P.y] 28) (.cells #[.int .i64 Q.x, .int .i64 Q.y] 28))
                    clear hH p0 p1 q0 q1 hal
                    generalize (wr.alloc (.cells #[.int .i64 P.x, .int .i64 P.y] 28)).alloc (.cells #[.int .i64 Q.x, .int .i64 Q.y] 28) = W7 at hH3 hx ⊢
                    generalize wr.heap.size + 1 = b20 at hH3 ⊢
                    generalize wr.heap.size = b19 at hH3 ⊢
                    have hH := hH3
                    clear hH3
                    have hSd : ∀ {v}, sg (crT P Q ⟨(x : Int), (y : Int)⟩) = v → sideI P Q ⟨(x : Int), (y : Int)⟩ = v := fun h => by unfold sideI; rw [hPo, hQo, hso]; exact h
                    have hS3 : ∀ w', Has w' [(b20, [.int .i64 Q.x, .int .i64 Q.y]), (b19, [.int .i64 P.x, .int .i64 P.y]), (b15, [.int .i64 (x : Int), .int .i64 (y : Int)])] → ((w'.cell? ⟨b20, 0, none⟩ = some (.int .i64 Q.x) ∧ w'.cell? ⟨b20, 1, none⟩ = some (.int .i64 Q.y)) ∧ (w'.cell? ⟨b19, 0, none⟩ = some (.int .i64 P.x) ∧ w'.cell? ⟨b19, 1, none⟩ = some (.int .i64 P.y)) ∧ (w'.cell? ⟨b15, 0, none⟩ = some (.int .i64 (x : Int)) ∧ w'.cell? ⟨b15, 1, none⟩ = some (.int .i64 (y : Int)))) := fun w' h => by simp [Has, HasAt] at h; simp [h]
                    go_cut [182] from 152 to 181 (fun s182 wx => s182 = .bool (onB P Q ⟨(x : Int), (y : Int)⟩) ∧ Sx w wx [(.slice (some ⟨q, 0, none⟩) L.length cap', L)] ∧ Has wx [(b20, [.int .i64 Q.x, .int .i64 Q.y]), (b19, [.int .i64 P.x, .int .i64 P.y]), (b15, [.int .i64 (x : Int), .int .i64 (y : Int)])])
                    case first =>
                      have hk := hS3 _ hH
                      by_cases hz : crT P Q ⟨(x : Int), (y : Int)⟩ = 0
                      · have hs0 := hSd (sg_z hz)
                        have hdb := dot_btw hz
                        simp only at hdb
                        have on1 : onB P Q ⟨(x : Int), (y : Int)⟩ = btwB P Q ⟨(x : Int), (y : Int)⟩ := by unfold onB; rw [decide_eq_true hz, Bool.true_and]
                        have k1 := pr_bd (u := P.x - x) (v := Q.x - x) (by omega) (by omega) (by omega) (by omega)
                        have k2 := pr_bd (u := P.y - y) (v := Q.y - y) (by omega) (by omega) (by omega) (by omega)
                        have hw1 : wrap64 ((P.x - x) * (Q.x - x)) = (P.x - x) * (Q.x - x) := by unfold wrap64; omega
                        have hw2 : wrap64 ((P.y - y) * (Q.y - y)) = (P.y - y) * (Q.y - y) := by unfold wrap64; omega
                        have hw3 : wrap64 ((P.x - x) * (Q.x - x) + (P.y - y) * (Q.y - y)) = (P.x - x) * (Q.x - x) + (P.y - y) * (Q.y - y) := by unfold wrap64; omega
                        by_cases hdot : (P.x - x) * (Q.x - x) + (P.y - y) * (Q.y - y) ≤ 0
                        · have ON : Hid (true = onB P Q ⟨(x : Int), (y : Int)⟩) := by unfold Hid; rw [on1, hdb.mp hdot]
                          clear hdb on1 k1 k2
                          go_wp2_with (go_at_call 20; refine (iSide_v (a := P) (b := Q) (c := ⟨(x : Int), (y : Int)⟩) hs0 _).mono ?_; rintro e w6 ⟨rfl, hb6⟩; replace hx := hx.step hb6; replace hH := hH.step hb6; clear hk; have hk := hS3 _ hH)
                          go_meet
                          exact ⟨by rw [← ON.out], hx, hH⟩
                        · have ON : Hid (false = onB P Q ⟨(x : Int), (y : Int)⟩) := by
                            unfold Hid; rw [on1]
                            exact (Bool.eq_false_iff.mpr fun h => hdot (hdb.mpr h)).symm
                          clear hdb on1 k1 k2
                          go_wp2_with (go_at_call 20; refine (iSide_v (a := P) (b := Q) (c := ⟨(x : Int), (y : Int)⟩) hs0 _).mono ?_; rintro e w6 ⟨rfl, hb6⟩; replace hx := hx.step hb6; replace hH := hH.step hb6; clear hk; have hk := hS3 _ hH)
                          go_meet
                          exact ⟨by rw [← ON.out, decide_eq_false (by omega)], hx, hH⟩
                      · obtain ⟨sv, hsv⟩ : ∃ sv, sg (crT P Q ⟨(x : Int), (y : Int)⟩) = sv := ⟨_, rfl⟩
                        have hsz : (sv == 0) = false := by rw [beq_eq_false_iff_ne, ← hsv]; intro h; exact hz ((sg_0 _).mp h)
                        have hs0 := hSd hsv
                        have ON : Hid (false = onB P Q ⟨(x : Int), (y : Int)⟩) := by unfold Hid onB; rw [decide_eq_false hz, Bool.false_and]
                        clear hz hsv
                        go_wp2_with (go_at_call 20; refine (iSide_v (a := P) (b := Q) (c := ⟨(x : Int), (y : Int)⟩) hs0 _).mono ?_; rintro e w6 ⟨rfl, hb6⟩; replace hx := hx.step hb6; replace hH := hH.step hb6; clear hk; have hk := hS3 _ hH)
                        go_meet
                        exact ⟨by rw [← ON.out], hx, hH⟩
                    case rest =>
                    clear hx hH
                    obtain ⟨rfl, hx, hH⟩ := hcut
                    go_upto_if 182 with fail
                    go_cut [16] from 182 to 182 (fun s16 wx => s16 = .bool (o || onB P Q ⟨(x : Int), (y : Int)⟩) ∧ Sx w wx [(.slice (some ⟨q, 0, none⟩) L.length cap', L)] ∧ Has wx [(b20, [.int .i64 Q.x, .int .i64 Q.y]), (b19, [.int .i64 P.x, .int .i64 P.y]), (b15, [.int .i64 (x : Int), .int .i64 (y : Int)])])
                    case first =>
                      cases hon : onB P Q ⟨(x : Int), (y : Int)⟩
                      · go_wp2_with fail
                        go_meet
                        exact ⟨by rw [hon, Bool.or_false], hx, hH⟩
                      · go_wp2_with fail
                        go_meet
                        exact ⟨by rw [hon, Bool.or_true], hx, hH⟩
                    case rest =>
                    clear hx hH
                    obtain ⟨rfl, hx, hH⟩ := hcut
                    go_upto_region 37 with fail
                    go_cut [204] from 183 to 203 (fun s204 wx => s204 = .bool (xrB P Q ⟨(x : Int), (y : Int)⟩) ∧ Sx w wx [(.slice (some ⟨q, 0, none⟩) L.length cap', L)] ∧ Has wx [(b20, [.int .i64 Q.x, .int .i64 Q.y]), (b19, [.int .i64 P.x, .int .i64 P.y]), (b15, [.int .i64 (x : Int), .int .i64 (y : Int)])])
                    case first =>
                      have hS : ∀ w', (Sx w w' [(.slice (some ⟨q, 0, none⟩) L.length cap', L)] ∧ Has w' [(b20, [.int .i64 Q.x, .int .i64 Q.y]), (b19, [.int .i64 P.x, .int .i64 P.y]), (b15, [.int .i64 (x : Int), .int .i64 (y : Int)])]) → _ := fun w' h => hS3 w' h.2
                      rcases Int.lt_or_le (y : Int) P.y with h1 | h1 <;> rcases Int.lt_or_le (y : Int) Q.y with h2 | h2
                      · have b1 : decide ((y : Int) < P.y) = true := decide_eq_true (by omega)
                        have b2 : decide ((y : Int) < Q.y) = true := decide_eq_true (by omega)
                        have XR : Hid (false = xrB P Q ⟨(x : Int), (y : Int)⟩) := by unfold Hid xrB; simp only [b1, b2]; rfl
                        obtain ⟨⟨r0, r1⟩, ⟨r2, r3⟩, ⟨r4, r5⟩⟩ := hS3 _ hH
                        clear h1 h2
                        go_quiet (fail)
                        go_wp2_with fail
                        go_meet
                        exact ⟨by rw [← XR.out], hx.step (bdrewN (Below.refl _ _) _), hH.step (bdrewN (Below.refl _ _) _)⟩
                      · have hb1 : (y : Int) < P.y := by omega
                        have hb2 : ¬ (y : Int) < Q.y := by omega
                        have hpq : Q.y < P.y := by omega
                        obtain ⟨sv, hsv0⟩ : ∃ sv, sg (crT P Q ⟨(x : Int), (y : Int)⟩) = sv := ⟨_, rfl⟩
                        have hsv := hSd hsv0
                        have b1 : decide ((y : Int) < P.y) = true := decide_eq_true hb1
                        have b2 : decide ((y : Int) < Q.y) = false := decide_eq_false hb2
                        have b3 : decide (Q.y < P.y) = true := decide_eq_true hpq
                        by_cases hc : crT P Q ⟨(x : Int), (y : Int)⟩ < 0
                        · have hsn : sv < 0 := by rw [← hsv0]; rcases sg_cases (crT P Q ⟨(x : Int), (y : Int)⟩) with ⟨_, h⟩ | ⟨_, h⟩ | ⟨_, h⟩ <;> omega
                          have XR : Hid (true = xrB P Q ⟨(x : Int), (y : Int)⟩) := by unfold Hid xrB; simp only [b1, b2, b3, decide_eq_true hc]; rfl
                          clear b1 b2 b3 hsv0 h1 h2 hc
                          refine wp_region_quiet (C := fun w' => (Sx w w' [(.slice (some ⟨q, 0, none⟩) L.length cap', L)] ∧ Has w' [(b20, [.int .i64 Q.x, .int .i64 Q.y]), (b19, [.int .i64 P.x, .int .i64 P.y]), (b15, [.int .i64 (x : Int), .int .i64 (y : Int)])])) (by kernel_rfl) (by kernel_rfl) (⟨hx.step (Below.refl _ _).drew, hH.step (Below.refl _ _).drew⟩) ?_
                          refine q_intro (fun A hA => ?_)
                          have hf : Fr 221 A [(14, .int .i64 (y : Int)), (15, .pointer (some ⟨b15, 0, none⟩)), (19, .pointer (some ⟨b19, 0, none⟩)), (20, .pointer (some ⟨b20, 0, none⟩))] := by subst hA; exact ⟨rfl, by simp⟩
                          refine q_step hf (d := 183) (v := .pointer (some ⟨b19, 1, none⟩)) rfl rfl (by decide) (by simp) (fun w' hw' => ?_) (fun A hA183 hf => ?_)
                          · have f19 := hf.get (d := 19) (v := .pointer (some ⟨b19, 0, none⟩)) (by simp)
                            clear hf
                            simp [Oper.quietAt, Oper.quietUpon, go_sem, f19]
                          refine q_step hf (d := 184) (v := .int .i64 P.y) rfl rfl (by decide) (by simp) (fun w' hw' => ?_) (fun A hA184 hf => ?_)
                          · have hc := hS _ hw'
                            have f183 := hf.get (d := 183) (v := .pointer (some ⟨b19, 1, none⟩)) (by simp)
                            clear hf
                            simp [Oper.quietAt, Oper.quietUpon, go_sem, f183, hc]
                          refine q_step hf (d := 185) (v := .int .i64 (y : Int)) rfl rfl (by decide) (by simp) (fun w' hw' => ?_) (fun A hA185 hf => ?_)
                          · have f14 := hf.get (d := 14) (v := .int .i64 (y : Int)) (by simp)
                            clear hf
                            simp [Oper.quietAt, Oper.quietUpon, go_sem, f14]
                          refine q_step hf (d := 186) (v := .bool true) rfl rfl (by decide) (by simp) (fun w' hw' => ?_) (fun A hA186 hf => ?_)
                          · have f184 := hf.get (d := 184) (v := .int .i64 P.y) (by simp)
                            have f185 := hf.get (d := 185) (v := .int .i64 (y : Int)) (by simp)
                            clear hf
                            simp [Oper.quietAt, Oper.quietUpon, go_sem, f184, f185, hb1]
                          refine q_step hf (d := 187) (v := .pointer (some ⟨b20, 1, none⟩)) rfl rfl (by decide) (by simp) (fun w' hw' => ?_) (fun A hA187 hf => ?_)
                          · have f20 := hf.get (d := 20) (v := .pointer (some ⟨b20, 0, none⟩)) (by simp)
                            clear hf
                            simp [Oper.quietAt, Oper.quietUpon, go_sem, f20]
                          refine q_step hf (d := 188) (v := .int .i64 Q.y) rfl rfl (by decide) (by simp) (fun w' hw' => ?_) (fun A hA188 hf => ?_)
                          · have hc := hS _ hw'
                            have f187 := hf.get (d := 187) (v := .pointer (some ⟨b20, 1, none⟩)) (by simp)
                            clear hf
                            simp [Oper.quietAt, Oper.quietUpon, go_sem, f187, hc]
                          refine q_step hf (d := 189) (v := .int .i64 (y : Int)) rfl rfl (by decide) (by simp) (fun w' hw' => ?_) (fun A hA189 hf => ?_)
                          · have f14 := hf.get (d := 14) (v := .int .i64 (y : Int)) (by simp)
                            clear hf
                            simp [Oper.quietAt, Oper.quietUpon, go_sem, f14]
                          refine q_step hf (d := 190) (v := .bool false) rfl rfl (by decide) (by simp) (fun w' hw' => ?_) (fun A hA190 hf => ?_)
                          · have f188 := hf.get (d := 188) (v := .int .i64 Q.y) (by simp)
                            have f189 := hf.get (d := 189) (v := .int .i64 (y : Int)) (by simp)
                            clear hf
                            simp [Oper.quietAt, Oper.quietUpon, go_sem, f188, f189, hb2]
                          refine q_step hf (d := 191) (v := .bool true) rfl rfl (by decide) (by simp) (fun w' hw' => ?_) (fun A hA191 hf => ?_)
                          · have f186 := hf.get (d := 186) (v := .bool true) (by simp)
                            have f190 := hf.get (d := 190) (v := .bool false) (by simp)
                            clear hf
                            simp [Oper.quietAt, Oper.quietUpon, go_sem, f186, f190]
                          refine q_step hf (d := 192) (v := .bool true) rfl rfl (by decide) (by simp) (fun w' hw' => ?_) (fun A hA192 hf => ?_)
                          · have f191 := hf.get (d := 191) (v := .bool true) (by simp)
                            clear hf
                            simp [Oper.quietAt, Oper.quietUpon, go_sem, f191]
                          refine q_want hf (d := 193) (v := .pointer (some ⟨b19, 1, none⟩)) (e := 192) rfl rfl (by simp) rfl (by decide) (by simp) (fun w' hw' => ?_) (fun A hA193 hf => ?_)
                          · have f19 := hf.get (d := 19) (v := .pointer (some ⟨b19, 0, none⟩)) (by simp)
                            clear hf
                            simp [Oper.quietAt, Oper.quietUpon, go_sem, f19]
                          refine q_want hf (d := 194) (v := .int .i64 P.y) (e := 192) rfl rfl (by simp) rfl (by decide) (by simp) (fun w' hw' => ?_) (fun A hA194 hf => ?_)
                          · have hc := hS _ hw'
                            have f193 := hf.get (d := 193) (v := .pointer (some ⟨b19, 1, none⟩)) (by simp)
                            clear hf
                            simp [Oper.quietAt, Oper.quietUpon, go_sem, f193, hc]
                          refine q_want hf (d := 195) (v := .pointer (some ⟨b20, 1, none⟩)) (e := 192) rfl rfl (by simp) rfl (by decide) (by simp) (fun w' hw' => ?_) (fun A hA195 hf => ?_)
                          · have f20 := hf.get (d := 20) (v := .pointer (some ⟨b20, 0, none⟩)) (by simp)
                            clear hf
                            simp [Oper.quietAt, Oper.quietUpon, go_sem, f20]
                          refine q_want hf (d := 196) (v := .int .i64 Q.y) (e := 192) rfl rfl (by simp) rfl (by decide) (by simp) (fun w' hw' => ?_) (fun A hA196 hf => ?_)
                          · have hc := hS _ hw'
                            have f195 := hf.get (d := 195) (v := .pointer (some ⟨b20, 1, none⟩)) (by simp)
                            clear hf
                            simp [Oper.quietAt, Oper.quietUpon, go_sem, f195, hc]
                          refine q_want hf (d := 197) (v := .bool true) (e := 192) rfl rfl (by simp) rfl (by decide) (by simp) (fun w' hw' => ?_) (fun A hA197 hf => ?_)
                          · have f194 := hf.get (d := 194) (v := .int .i64 P.y) (by simp)
                            have f196 := hf.get (d := 196) (v := .int .i64 Q.y) (by simp)
                            clear hf
                            simp [Oper.quietAt, Oper.quietUpon, go_sem, f194, f196, hpq]
                          refine q_want hf (d := 198) (v := .agg #[.int .i64 P.x, .int .i64 P.y]) (e := 192) rfl rfl (by simp) rfl (by decide) (by simp) (fun w' hw' => ?_) (fun A hA198 hf => ?_)
                          · have hc := hS _ hw'
                            have f19 := hf.get (d := 19) (v := .pointer (some ⟨b19, 0, none⟩)) (by simp)
                            clear hf
                            simp [Oper.quietAt, Oper.quietUpon, go_sem, f19, hc]
                          refine q_want hf (d := 199) (v := .agg #[.int .i64 Q.x, .int .i64 Q.y]) (e := 192) rfl rfl (by simp) rfl (by decide) (by simp) (fun w' hw' => ?_) (fun A hA199 hf => ?_)
                          · have hc := hS _ hw'
                            have f20 := hf.get (d := 20) (v := .pointer (some ⟨b20, 0, none⟩)) (by simp)
                            clear hf
                            simp [Oper.quietAt, Oper.quietUpon, go_sem, f20, hc]
                          refine q_want hf (d := 200) (v := .agg #[.int .i64 (x : Int), .int .i64 (y : Int)]) (e := 192) rfl rfl (by simp) rfl (by decide) (by simp) (fun w' hw' => ?_) (fun A hA200 hf => ?_)
                          · have hc := hS _ hw'
                            have f15 := hf.get (d := 15) (v := .pointer (some ⟨b15, 0, none⟩)) (by simp)
                            clear hf
                            simp [Oper.quietAt, Oper.quietUpon, go_sem, f15, hc]
                          refine q_want hf (d := 201) (v := .int .i64 sv) (e := 192) rfl rfl (by simp) rfl (by decide) (by simp) (fun w' hw' => ?_) (fun A hA201 hf => ?_)
                          · have f198 := hf.get (d := 198) (v := .agg #[.int .i64 P.x, .int .i64 P.y]) (by simp)
                            have f199 := hf.get (d := 199) (v := .agg #[.int .i64 Q.x, .int .i64 Q.y]) (by simp)
                            have f200 := hf.get (d := 200) (v := .agg #[.int .i64 (x : Int), .int .i64 (y : Int)]) (by simp)
                            clear hf
                            simp [Oper.quietAt, Oper.quietUpon, go_sem, f198, f199, f200]
                            exact (iSide_v (a := P) (b := Q) (c := ⟨(x : Int), (y : Int)⟩) hsv _).mono (fun e w'' hq => ⟨hq.1, hw'.1.step hq.2, hw'.2.step hq.2⟩)
                          refine q_want hf (d := 202) (v := .bool true) (e := 192) rfl rfl (by simp) rfl (by decide) (by simp) (fun w' hw' => ?_) (fun A hA202 hf => ?_)
                          · have f201 := hf.get (d := 201) (v := .int .i64 sv) (by simp)
                            clear hf
                            simp [Oper.quietAt, Oper.quietUpon, go_sem, f201, hsn]
                          refine q_want hf (d := 203) (v := .bool true) (e := 192) rfl rfl (by simp) rfl (by decide) (by simp) (fun w' hw' => ?_) (fun A hA203 hf => ?_)
                          · have f197 := hf.get (d := 197) (v := .bool true) (by simp)
                            have f202 := hf.get (d := 202) (v := .bool true) (by simp)
                            clear hf
                            simp [Oper.quietAt, Oper.quietUpon, go_sem, f197, f202]
                          refine q_step hf (d := 204) (v := .bool true) rfl rfl (by decide) (by simp) (fun w' hw' => ?_) (fun A hA204 hf => ?_)
                          · have f192 := hf.get (d := 192) (v := .bool true) (by simp)
                            have f203 := hf.get (d := 203) (v := .bool true) (by simp)
                            clear hf
                            simp [Oper.quietAt, Oper.quietUpon, go_sem, f192, f203]
                          refine wpQuiet_nil (fun w' hw' => ?_)
                          clear hf
                          subst hA204 hA203 hA202 hA201 hA200 hA199 hA198 hA197 hA196 hA195 hA194 hA193 hA192 hA191 hA190 hA189 hA188 hA187 hA186 hA185 hA184 hA183 hA
                          simp only [Act.put, List.setIfInBounds_toArray, List.set_cons_succ, List.set_cons_zero]
                          go_wp2_with fail
                          go_meet
                          exact ⟨by rw [← XR.out], hw'.1, hw'.2⟩
                        · have hsn : ¬ sv < 0 := by rw [← hsv0]; rcases sg_cases (crT P Q ⟨(x : Int), (y : Int)⟩) with ⟨_, h⟩ | ⟨_, h⟩ | ⟨_, h⟩ <;> omega
                          have XR : Hid (false = xrB P Q ⟨(x : Int), (y : Int)⟩) := by unfold Hid xrB; simp only [b1, b2, b3, decide_eq_false hc]; rfl
                          clear b1 b2 b3 hsv0 h1 h2 hc
                          refine wp_region_quiet (C := fun w' => (Sx w w' [(.slice (some ⟨q, 0, none⟩) L.length cap', L)] ∧ Has w' [(b20, [.int .i64 Q.x, .int .i64 Q.y]), (b19, [.int .i64 P.x, .int .i64 P.y]), (b15, [.int .i64 (x : Int), .int .i64 (y : Int)])])) (by kernel_rfl) (by kernel_rfl) (⟨hx.step (Below.refl _ _).drew, hH.step (Below.refl _ _).drew⟩) ?_
                          refine q_intro (fun A hA => ?_)
                          have hf : Fr 221 A [(14, .int .i64 (y : Int)), (15, .pointer (some ⟨b15, 0, none⟩)), (19, .pointer (some ⟨b19, 0, none⟩)), (20, .pointer (some ⟨b20, 0, none⟩))] := by subst hA; exact ⟨rfl, by simp⟩
                          refine q_step hf (d := 183) (v := .pointer (some ⟨b19, 1, none⟩)) rfl rfl (by decide) (by simp) (fun w' hw' => ?_) (fun A hA183 hf => ?_)
                          · have f19 := hf.get (d := 19) (v := .pointer (some ⟨b19, 0, none⟩)) (by simp)
                            clear hf
                            simp [Oper.quietAt, Oper.quietUpon, go_sem, f19]
                          refine q_step hf (d := 184) (v := .int .i64 P.y) rfl rfl (by decide) (by simp) (fun w' hw' => ?_) (fun A hA184 hf => ?_)
                          · have hc := hS _ hw'
                            have f183 := hf.get (d := 183) (v := .pointer (some ⟨b19, 1, none⟩)) (by simp)
                            clear hf
                            simp [Oper.quietAt, Oper.quietUpon, go_sem, f183, hc]
                          refine q_step hf (d := 185) (v := .int .i64 (y : Int)) rfl rfl (by decide) (by simp) (fun w' hw' => ?_) (fun A hA185 hf => ?_)
                          · have f14 := hf.get (d := 14) (v := .int .i64 (y : Int)) (by simp)
                            clear hf
                            simp [Oper.quietAt, Oper.quietUpon, go_sem, f14]
                          refine q_step hf (d := 186) (v := .bool true) rfl rfl (by decide) (by simp) (fun w' hw' => ?_) (fun A hA186 hf => ?_)
                          · have f184 := hf.get (d := 184) (v := .int .i64 P.y) (by simp)
                            have f185 := hf.get (d := 185) (v := .int .i64 (y : Int)) (by simp)
                            clear hf
                            simp [Oper.quietAt, Oper.quietUpon, go_sem, f184, f185, hb1]
                          refine q_step hf (d := 187) (v := .pointer (some ⟨b20, 1, none⟩)) rfl rfl (by decide) (by simp) (fun w' hw' => ?_) (fun A hA187 hf => ?_)
                          · have f20 := hf.get (d := 20) (v := .pointer (some ⟨b20, 0, none⟩)) (by simp)
                            clear hf
                            simp [Oper.quietAt, Oper.quietUpon, go_sem, f20]
                          refine q_step hf (d := 188) (v := .int .i64 Q.y) rfl rfl (by decide) (by simp) (fun w' hw' => ?_) (fun A hA188 hf => ?_)
                          · have hc := hS _ hw'
                            have f187 := hf.get (d := 187) (v := .pointer (some ⟨b20, 1, none⟩)) (by simp)
                            clear hf
                            simp [Oper.quietAt, Oper.quietUpon, go_sem, f187, hc]
                          refine q_step hf (d := 189) (v := .int .i64 (y : Int)) rfl rfl (by decide) (by simp) (fun w' hw' => ?_) (fun A hA189 hf => ?_)
                          · have f14 := hf.get (d := 14) (v := .int .i64 (y : Int)) (by simp)
                            clear hf
                            simp [Oper.quietAt, Oper.quietUpon, go_sem, f14]
                          refine q_step hf (d := 190) (v := .bool false) rfl rfl (by decide) (by simp) (fun w' hw' => ?_) (fun A hA190 hf => ?_)
                          · have f188 := hf.get (d := 188) (v := .int .i64 Q.y) (by simp)
                            have f189 := hf.get (d := 189) (v := .int .i64 (y : Int)) (by simp)
                            clear hf
                            simp [Oper.quietAt, Oper.quietUpon, go_sem, f188, f189, hb2]
                          refine q_step hf (d := 191) (v := .bool true) rfl rfl (by decide) (by simp) (fun w' hw' => ?_) (fun A hA191 hf => ?_)
                          · have f186 := hf.get (d := 186) (v := .bool true) (by simp)
                            have f190 := hf.get (d := 190) (v := .bool false) (by simp)
                            clear hf
                            simp [Oper.quietAt, Oper.quietUpon, go_sem, f186, f190]
                          refine q_step hf (d := 192) (v := .bool true) rfl rfl (by decide) (by simp) (fun w' hw' => ?_) (fun A hA192 hf => ?_)
                          · have f191 := hf.get (d := 191) (v := .bool true) (by simp)
                            clear hf
                            simp [Oper.quietAt, Oper.quietUpon, go_sem, f191]
                          refine q_want hf (d := 193) (v := .pointer (some ⟨b19, 1, none⟩)) (e := 192) rfl rfl (by simp) rfl (by decide) (by simp) (fun w' hw' => ?_) (fun A hA193 hf => ?_)
                          · have f19 := hf.get (d := 19) (v := .pointer (some ⟨b19, 0, none⟩)) (by simp)
                            clear hf
                            simp [Oper.quietAt, Oper.quietUpon, go_sem, f19]
                          refine q_want hf (d := 194) (v := .int .i64 P.y) (e := 192) rfl rfl (by simp) rfl (by decide) (by simp) (fun w' hw' => ?_) (fun A hA194 hf => ?_)
                          · have hc := hS _ hw'
                            have f193 := hf.get (d := 193) (v := .pointer (some ⟨b19, 1, none⟩)) (by simp)
                            clear hf
                            simp [Oper.quietAt, Oper.quietUpon, go_sem, f193, hc]
                          refine q_want hf (d := 195) (v := .pointer (some ⟨b20, 1, none⟩)) (e := 192) rfl rfl (by simp) rfl (by decide) (by simp) (fun w' hw' => ?_) (fun A hA195 hf => ?_)
                          · have f20 := hf.get (d := 20) (v := .pointer (some ⟨b20, 0, none⟩)) (by simp)
                            clear hf
                            simp [Oper.quietAt, Oper.quietUpon, go_sem, f20]
                          refine q_want hf (d := 196) (v := .int .i64 Q.y) (e := 192) rfl rfl (by simp) rfl (by decide) (by simp) (fun w' hw' => ?_) (fun A hA196 hf => ?_)
                          · have hc := hS _ hw'
                            have f195 := hf.get (d := 195) (v := .pointer (some ⟨b20, 1, none⟩)) (by simp)
                            clear hf
                            simp [Oper.quietAt, Oper.quietUpon, go_sem, f195, hc]
                          refine q_want hf (d := 197) (v := .bool true) (e := 192) rfl rfl (by simp) rfl (by decide) (by simp) (fun w' hw' => ?_) (fun A hA197 hf => ?_)
                          · have f194 := hf.get (d := 194) (v := .int .i64 P.y) (by simp)
                            have f196 := hf.get (d := 196) (v := .int .i64 Q.y) (by simp)
                            clear hf
                            simp [Oper.quietAt, Oper.quietUpon, go_sem, f194, f196, hpq]
                          refine q_want hf (d := 198) (v := .agg #[.int .i64 P.x, .int .i64 P.y]) (e := 192) rfl rfl (by simp) rfl (by decide) (by simp) (fun w' hw' => ?_) (fun A hA198 hf => ?_)
                          · have hc := hS _ hw'
                            have f19 := hf.get (d := 19) (v := .pointer (some ⟨b19, 0, none⟩)) (by simp)
                            clear hf
                            simp [Oper.quietAt, Oper.quietUpon, go_sem, f19, hc]
                          refine q_want hf (d := 199) (v := .agg #[.int .i64 Q.x, .int .i64 Q.y]) (e := 192) rfl rfl (by simp) rfl (by decide) (by simp) (fun w' hw' => ?_) (fun A hA199 hf => ?_)
                          · have hc := hS _ hw'
                            have f20 := hf.get (d := 20) (v := .pointer (some ⟨b20, 0, none⟩)) (by simp)
                            clear hf
                            simp [Oper.quietAt, Oper.quietUpon, go_sem, f20, hc]
                          refine q_want hf (d := 200) (v := .agg #[.int .i64 (x : Int), .int .i64 (y : Int)]) (e := 192) rfl rfl (by simp) rfl (by decide) (by simp) (fun w' hw' => ?_) (fun A hA200 hf => ?_)
                          · have hc := hS _ hw'
                            have f15 := hf.get (d := 15) (v := .pointer (some ⟨b15, 0, none⟩)) (by simp)
                            clear hf
                            simp [Oper.quietAt, Oper.quietUpon, go_sem, f15, hc]
                          refine q_want hf (d := 201) (v := .int .i64 sv) (e := 192) rfl rfl (by simp) rfl (by decide) (by simp) (fun w' hw' => ?_) (fun A hA201 hf => ?_)
                          · have f198 := hf.get (d := 198) (v := .agg #[.int .i64 P.x, .int .i64 P.y]) (by simp)
                            have f199 := hf.get (d := 199) (v := .agg #[.int .i64 Q.x, .int .i64 Q.y]) (by simp)
                            have f200 := hf.get (d := 200) (v := .agg #[.int .i64 (x : Int), .int .i64 (y : Int)]) (by simp)
                            clear hf
                            simp [Oper.quietAt, Oper.quietUpon, go_sem, f198, f199, f200]
                            exact (iSide_v (a := P) (b := Q) (c := ⟨(x : Int), (y : Int)⟩) hsv _).mono (fun e w'' hq => ⟨hq.1, hw'.1.step hq.2, hw'.2.step hq.2⟩)
                          refine q_want hf (d := 202) (v := .bool false) (e := 192) rfl rfl (by simp) rfl (by decide) (by simp) (fun w' hw' => ?_) (fun A hA202 hf => ?_)
                          · have f201 := hf.get (d := 201) (v := .int .i64 sv) (by simp)
                            clear hf
                            simp [Oper.quietAt, Oper.quietUpon, go_sem, f201, hsn]
                          refine q_want hf (d := 203) (v := .bool false) (e := 192) rfl rfl (by simp) rfl (by decide) (by simp) (fun w' hw' => ?_) (fun A hA203 hf => ?_)
                          · have f197 := hf.get (d := 197) (v := .bool true) (by simp)
                            have f202 := hf.get (d := 202) (v := .bool false) (by simp)
                            clear hf
                            simp [Oper.quietAt, Oper.quietUpon, go_sem, f197, f202]
                          refine q_step hf (d := 204) (v := .bool false) rfl rfl (by decide) (by simp) (fun w' hw' => ?_) (fun A hA204 hf => ?_)
                          · have f192 := hf.get (d := 192) (v := .bool true) (by simp)
                            have f203 := hf.get (d := 203) (v := .bool false) (by simp)
                            clear hf
                            simp [Oper.quietAt, Oper.quietUpon, go_sem, f192, f203]
                          refine wpQuiet_nil (fun w' hw' => ?_)
                          clear hf
                          subst hA204 hA203 hA202 hA201 hA200 hA199 hA198 hA197 hA196 hA195 hA194 hA193 hA192 hA191 hA190 hA189 hA188 hA187 hA186 hA185 hA184 hA183 hA
                          simp only [Act.put, List.setIfInBounds_toArray, List.set_cons_succ, List.set_cons_zero]
                          go_wp2_with fail
                          go_meet
                          exact ⟨by rw [← XR.out], hw'.1, hw'.2⟩
                      · have hb1 : ¬ (y : Int) < P.y := by omega
                        have hb2 : (y : Int) < Q.y := by omega
                        have hpq : ¬ Q.y < P.y := by omega
                        obtain ⟨sv, hsv0⟩ : ∃ sv, sg (crT P Q ⟨(x : Int), (y : Int)⟩) = sv := ⟨_, rfl⟩
                        have hsv := hSd hsv0
                        have b1 : decide ((y : Int) < P.y) = false := decide_eq_false hb1
                        have b2 : decide ((y : Int) < Q.y) = true := decide_eq_true hb2
                        have b3 : decide (Q.y < P.y) = false := decide_eq_false hpq
                        by_cases hc : crT P Q ⟨(x : Int), (y : Int)⟩ < 0
                        · have hsn : sv < 0 := by rw [← hsv0]; rcases sg_cases (crT P Q ⟨(x : Int), (y : Int)⟩) with ⟨_, h⟩ | ⟨_, h⟩ | ⟨_, h⟩ <;> omega
                          have XR : Hid (false = xrB P Q ⟨(x : Int), (y : Int)⟩) := by unfold Hid xrB; simp only [b1, b2, b3, decide_eq_true hc]; rfl
                          clear b1 b2 b3 hsv0 h1 h2 hc
                          refine wp_region_quiet (C := fun w' => (Sx w w' [(.slice (some ⟨q, 0, none⟩) L.length cap', L)] ∧ Has w' [(b20, [.int .i64 Q.x, .int .i64 Q.y]), (b19, [.int .i64 P.x, .int .i64 P.y]), (b15, [.int .i64 (x : Int), .int .i64 (y : Int)])])) (by kernel_rfl) (by kernel_rfl) (⟨hx.step (Below.refl _ _).drew, hH.step (Below.refl _ _).drew⟩) ?_
                          refine q_intro (fun A hA => ?_)
                          have hf : Fr 221 A [(14, .int .i64 (y : Int)), (15, .pointer (some ⟨b15, 0, none⟩)), (19, .pointer (some ⟨b19, 0, none⟩)), (20, .pointer (some ⟨b20, 0, none⟩))] := by subst hA; exact ⟨rfl, by simp⟩
                          refine q_step hf (d := 183) (v := .pointer (some ⟨b19, 1, none⟩)) rfl rfl (by decide) (by simp) (fun w' hw' => ?_) (fun A hA183 hf => ?_)
                          · have f19 := hf.get (d := 19) (v := .pointer (some ⟨b19, 0, none⟩)) (by simp)
                            clear hf
                            simp [Oper.quietAt, Oper.quietUpon, go_sem, f19]
                          refine q_step hf (d := 184) (v := .int .i64 P.y) rfl rfl (by decide) (by simp) (fun w' hw' => ?_) (fun A hA184 hf => ?_)
                          · have hc := hS _ hw'
                            have f183 := hf.get (d := 183) (v := .pointer (some ⟨b19, 1, none⟩)) (by simp)
                            clear hf
                            simp [Oper.quietAt, Oper.quietUpon, go_sem, f183, hc]
                          refine q_step hf (d := 185) (v := .int .i64 (y : Int)) rfl rfl (by decide) (by simp) (fun w' hw' => ?_) (fun A hA185 hf => ?_)
                          · have f14 := hf.get (d := 14) (v := .int .i64 (y : Int)) (by simp)
                            clear hf
                            simp [Oper.quietAt, Oper.quietUpon, go_sem, f14]
                          refine q_step hf (d := 186) (v := .bool false) rfl rfl (by decide) (by simp) (fun w' hw' => ?_) (fun A hA186 hf => ?_)
                          · have f184 := hf.get (d := 184) (v := .int .i64 P.y) (by simp)
                            have f185 := hf.get (d := 185) (v := .int .i64 (y : Int)) (by simp)
                            clear hf
                            simp [Oper.quietAt, Oper.quietUpon, go_sem, f184, f185, hb1]
                          refine q_step hf (d := 187) (v := .pointer (some ⟨b20, 1, none⟩)) rfl rfl (by decide) (by simp) (fun w' hw' => ?_) (fun A hA187 hf => ?_)
                          · have f20 := hf.get (d := 20) (v := .pointer (some ⟨b20, 0, none⟩)) (by simp)
                            clear hf
                            simp [Oper.quietAt, Oper.quietUpon, go_sem, f20]
                          refine q_step hf (d := 188) (v := .int .i64 Q.y) rfl rfl (by decide) (by simp) (fun w' hw' => ?_) (fun A hA188 hf => ?_)
                          · have hc := hS _ hw'
                            have f187 := hf.get (d := 187) (v := .pointer (some ⟨b20, 1, none⟩)) (by simp)
                            clear hf
                            simp [Oper.quietAt, Oper.quietUpon, go_sem, f187, hc]
                          refine q_step hf (d := 189) (v := .int .i64 (y : Int)) rfl rfl (by decide) (by simp) (fun w' hw' => ?_) (fun A hA189 hf => ?_)
                          · have f14 := hf.get (d := 14) (v := .int .i64 (y : Int)) (by simp)
                            clear hf
                            simp [Oper.quietAt, Oper.quietUpon, go_sem, f14]
                          refine q_step hf (d := 190) (v := .bool true) rfl rfl (by decide) (by simp) (fun w' hw' => ?_) (fun A hA190 hf => ?_)
                          · have f188 := hf.get (d := 188) (v := .int .i64 Q.y) (by simp)
                            have f189 := hf.get (d := 189) (v := .int .i64 (y : Int)) (by simp)
                            clear hf
                            simp [Oper.quietAt, Oper.quietUpon, go_sem, f188, f189, hb2]
                          refine q_step hf (d := 191) (v := .bool true) rfl rfl (by decide) (by simp) (fun w' hw' => ?_) (fun A hA191 hf => ?_)
                          · have f186 := hf.get (d := 186) (v := .bool false) (by simp)
                            have f190 := hf.get (d := 190) (v := .bool true) (by simp)
                            clear hf
                            simp [Oper.quietAt, Oper.quietUpon, go_sem, f186, f190]
                          refine q_step hf (d := 192) (v := .bool true) rfl rfl (by decide) (by simp) (fun w' hw' => ?_) (fun A hA192 hf => ?_)
                          · have f191 := hf.get (d := 191) (v := .bool true) (by simp)
                            clear hf
                            simp [Oper.quietAt, Oper.quietUpon, go_sem, f191]
                          refine q_want hf (d := 193) (v := .pointer (some ⟨b19, 1, none⟩)) (e := 192) rfl rfl (by simp) rfl (by decide) (by simp) (fun w' hw' => ?_) (fun A hA193 hf => ?_)
                          · have f19 := hf.get (d := 19) (v := .pointer (some ⟨b19, 0, none⟩)) (by simp)
                            clear hf
                            simp [Oper.quietAt, Oper.quietUpon, go_sem, f19]
                          refine q_want hf (d := 194) (v := .int .i64 P.y) (e := 192) rfl rfl (by simp) rfl (by decide) (by simp) (fun w' hw' => ?_) (fun A hA194 hf => ?_)
                          · have hc := hS _ hw'
                            have f193 := hf.get (d := 193) (v := .pointer (some ⟨b19, 1, none⟩)) (by simp)
                            clear hf
                            simp [Oper.quietAt, Oper.quietUpon, go_sem, f193, hc]
                          refine q_want hf (d := 195) (v := .pointer (some ⟨b20, 1, none⟩)) (e := 192) rfl rfl (by simp) rfl (by decide) (by simp) (fun w' hw' => ?_) (fun A hA195 hf => ?_)
                          · have f20 := hf.get (d := 20) (v := .pointer (some ⟨b20, 0, none⟩)) (by simp)
                            clear hf
                            simp [Oper.quietAt, Oper.quietUpon, go_sem, f20]
                          refine q_want hf (d := 196) (v := .int .i64 Q.y) (e := 192) rfl rfl (by simp) rfl (by decide) (by simp) (fun w' hw' => ?_) (fun A hA196 hf => ?_)
                          · have hc := hS _ hw'
                            have f195 := hf.get (d := 195) (v := .pointer (some ⟨b20, 1, none⟩)) (by simp)
                            clear hf
                            simp [Oper.quietAt, Oper.quietUpon, go_sem, f195, hc]
                          refine q_want hf (d := 197) (v := .bool false) (e := 192) rfl rfl (by simp) rfl (by decide) (by simp) (fun w' hw' => ?_) (fun A hA197 hf => ?_)
                          · have f194 := hf.get (d := 194) (v := .int .i64 P.y) (by simp)
                            have f196 := hf.get (d := 196) (v := .int .i64 Q.y) (by simp)
                            clear hf
                            simp [Oper.quietAt, Oper.quietUpon, go_sem, f194, f196, hpq]
                          refine q_want hf (d := 198) (v := .agg #[.int .i64 P.x, .int .i64 P.y]) (e := 192) rfl rfl (by simp) rfl (by decide) (by simp) (fun w' hw' => ?_) (fun A hA198 hf => ?_)
                          · have hc := hS _ hw'
                            have f19 := hf.get (d := 19) (v := .pointer (some ⟨b19, 0, none⟩)) (by simp)
                            clear hf
                            simp [Oper.quietAt, Oper.quietUpon, go_sem, f19, hc]
                          refine q_want hf (d := 199) (v := .agg #[.int .i64 Q.x, .int .i64 Q.y]) (e := 192) rfl rfl (by simp) rfl (by decide) (by simp) (fun w' hw' => ?_) (fun A hA199 hf => ?_)
                          · have hc := hS _ hw'
                            have f20 := hf.get (d := 20) (v := .pointer (some ⟨b20, 0, none⟩)) (by simp)
                            clear hf
                            simp [Oper.quietAt, Oper.quietUpon, go_sem, f20, hc]
                          refine q_want hf (d := 200) (v := .agg #[.int .i64 (x : Int), .int .i64 (y : Int)]) (e := 192) rfl rfl (by simp) rfl (by decide) (by simp) (fun w' hw' => ?_) (fun A hA200 hf => ?_)
                          · have hc := hS _ hw'
                            have f15 := hf.get (d := 15) (v := .pointer (some ⟨b15, 0, none⟩)) (by simp)
                            clear hf
                            simp [Oper.quietAt, Oper.quietUpon, go_sem, f15, hc]
                          refine q_want hf (d := 201) (v := .int .i64 sv) (e := 192) rfl rfl (by simp) rfl (by decide) (by simp) (fun w' hw' => ?_) (fun A hA201 hf => ?_)
                          · have f198 := hf.get (d := 198) (v := .agg #[.int .i64 P.x, .int .i64 P.y]) (by simp)
                            have f199 := hf.get (d := 199) (v := .agg #[.int .i64 Q.x, .int .i64 Q.y]) (by simp)
                            have f200 := hf.get (d := 200) (v := .agg #[.int .i64 (x : Int), .int .i64 (y : Int)]) (by simp)
                            clear hf
                            simp [Oper.quietAt, Oper.quietUpon, go_sem, f198, f199, f200]
                            exact (iSide_v (a := P) (b := Q) (c := ⟨(x : Int), (y : Int)⟩) hsv _).mono (fun e w'' hq => ⟨hq.1, hw'.1.step hq.2, hw'.2.step hq.2⟩)
                          refine q_want hf (d := 202) (v := .bool true) (e := 192) rfl rfl (by simp) rfl (by decide) (by simp) (fun w' hw' => ?_) (fun A hA202 hf => ?_)
                          · have f201 := hf.get (d := 201) (v := .int .i64 sv) (by simp)
                            clear hf
                            simp [Oper.quietAt, Oper.quietUpon, go_sem, f201, hsn]
                          refine q_want hf (d := 203) (v := .bool false) (e := 192) rfl rfl (by simp) rfl (by decide) (by simp) (fun w' hw' => ?_) (fun A hA203 hf => ?_)
                          · have f197 := hf.get (d := 197) (v := .bool false) (by simp)
                            have f202 := hf.get (d := 202) (v := .bool true) (by simp)
                            clear hf
                            simp [Oper.quietAt, Oper.quietUpon, go_sem, f197, f202]
                          refine q_step hf (d := 204) (v := .bool false) rfl rfl (by decide) (by simp) (fun w' hw' => ?_) (fun A hA204 hf => ?_)
                          · have f192 := hf.get (d := 192) (v := .bool true) (by simp)
                            have f203 := hf.get (d := 203) (v := .bool false) (by simp)
                            clear hf
                            simp [Oper.quietAt, Oper.quietUpon, go_sem, f192, f203]
                          refine wpQuiet_nil (fun w' hw' => ?_)
                          clear hf
                          subst hA204 hA203 hA202 hA201 hA200 hA199 hA198 hA197 hA196 hA195 hA194 hA193 hA192 hA191 hA190 hA189 hA188 hA187 hA186 hA185 hA184 hA183 hA
                          simp only [Act.put, List.setIfInBounds_toArray, List.set_cons_succ, List.set_cons_zero]
                          go_wp2_with fail
                          go_meet
                          exact ⟨by rw [← XR.out], hw'.1, hw'.2⟩
                        · have hsn : ¬ sv < 0 := by rw [← hsv0]; rcases sg_cases (crT P Q ⟨(x : Int), (y : Int)⟩) with ⟨_, h⟩ | ⟨_, h⟩ | ⟨_, h⟩ <;> omega
                          have XR : Hid (true = xrB P Q ⟨(x : Int), (y : Int)⟩) := by unfold Hid xrB; simp only [b1, b2, b3, decide_eq_false hc]; rfl
                          clear b1 b2 b3 hsv0 h1 h2 hc
                          refine wp_region_quiet (C := fun w' => (Sx w w' [(.slice (some ⟨q, 0, none⟩) L.length cap', L)] ∧ Has w' [(b20, [.int .i64 Q.x, .int .i64 Q.y]), (b19, [.int .i64 P.x, .int .i64 P.y]), (b15, [.int .i64 (x : Int), .int .i64 (y : Int)])])) (by kernel_rfl) (by kernel_rfl) (⟨hx.step (Below.refl _ _).drew, hH.step (Below.refl _ _).drew⟩) ?_
                          refine q_intro (fun A hA => ?_)
                          have hf : Fr 221 A [(14, .int .i64 (y : Int)), (15, .pointer (some ⟨b15, 0, none⟩)), (19, .pointer (some ⟨b19, 0, none⟩)), (20, .pointer (some ⟨b20, 0, none⟩))] := by subst hA; exact ⟨rfl, by simp⟩
                          refine q_step hf (d := 183) (v := .pointer (some ⟨b19, 1, none⟩)) rfl rfl (by decide) (by simp) (fun w' hw' => ?_) (fun A hA183 hf => ?_)
                          · have f19 := hf.get (d := 19) (v := .pointer (some ⟨b19, 0, none⟩)) (by simp)
                            clear hf
                            simp [Oper.quietAt, Oper.quietUpon, go_sem, f19]
                          refine q_step hf (d := 184) (v := .int .i64 P.y) rfl rfl (by decide) (by simp) (fun w' hw' => ?_) (fun A hA184 hf => ?_)
                          · have hc := hS _ hw'
                            have f183 := hf.get (d := 183) (v := .pointer (some ⟨b19, 1, none⟩)) (by simp)
                            clear hf
                            simp [Oper.quietAt, Oper.quietUpon, go_sem, f183, hc]
                          refine q_step hf (d := 185) (v := .int .i64 (y : Int)) rfl rfl (by decide) (by simp) (fun w' hw' => ?_) (fun A hA185 hf => ?_)
                          · have f14 := hf.get (d := 14) (v := .int .i64 (y : Int)) (by simp)
                            clear hf
                            simp [Oper.quietAt, Oper.quietUpon, go_sem, f14]
                          refine q_step hf (d := 186) (v := .bool false) rfl rfl (by decide) (by simp) (fun w' hw' => ?_) (fun A hA186 hf => ?_)
                          · have f184 := hf.get (d := 184) (v := .int .i64 P.y) (by simp)
                            have f185 := hf.get (d := 185) (v := .int .i64 (y : Int)) (by simp)
                            clear hf
                            simp [Oper.quietAt, Oper.quietUpon, go_sem, f184, f185, hb1]
                          refine q_step hf (d := 187) (v := .pointer (some ⟨b20, 1, none⟩)) rfl rfl (by decide) (by simp) (fun w' hw' => ?_) (fun A hA187 hf => ?_)
                          · have f20 := hf.get (d := 20) (v := .pointer (some ⟨b20, 0, none⟩)) (by simp)
                            clear hf
                            simp [Oper.quietAt, Oper.quietUpon, go_sem, f20]
                          refine q_step hf (d := 188) (v := .int .i64 Q.y) rfl rfl (by decide) (by simp) (fun w' hw' => ?_) (fun A hA188 hf => ?_)
                          · have hc := hS _ hw'
                            have f187 := hf.get (d := 187) (v := .pointer (some ⟨b20, 1, none⟩)) (by simp)
                            clear hf
                            simp [Oper.quietAt, Oper.quietUpon, go_sem, f187, hc]
                          refine q_step hf (d := 189) (v := .int .i64 (y : Int)) rfl rfl (by decide) (by simp) (fun w' hw' => ?_) (fun A hA189 hf => ?_)
                          · have f14 := hf.get (d := 14) (v := .int .i64 (y : Int)) (by simp)
                            clear hf
                            simp [Oper.quietAt, Oper.quietUpon, go_sem, f14]
                          refine q_step hf (d := 190) (v := .bool true) rfl rfl (by decide) (by simp) (fun w' hw' => ?_) (fun A hA190 hf => ?_)
                          · have f188 := hf.get (d := 188) (v := .int .i64 Q.y) (by simp)
                            have f189 := hf.get (d := 189) (v := .int .i64 (y : Int)) (by simp)
                            clear hf
                            simp [Oper.quietAt, Oper.quietUpon, go_sem, f188, f189, hb2]
                          refine q_step hf (d := 191) (v := .bool true) rfl rfl (by decide) (by simp) (fun w' hw' => ?_) (fun A hA191 hf => ?_)
                          · have f186 := hf.get (d := 186) (v := .bool false) (by simp)
                            have f190 := hf.get (d := 190) (v := .bool true) (by simp)
                            clear hf
                            simp [Oper.quietAt, Oper.quietUpon, go_sem, f186, f190]
                          refine q_step hf (d := 192) (v := .bool true) rfl rfl (by decide) (by simp) (fun w' hw' => ?_) (fun A hA192 hf => ?_)
                          · have f191 := hf.get (d := 191) (v := .bool true) (by simp)
                            clear hf
                            simp [Oper.quietAt, Oper.quietUpon, go_sem, f191]
                          refine q_want hf (d := 193) (v := .pointer (some ⟨b19, 1, none⟩)) (e := 192) rfl rfl (by simp) rfl (by decide) (by simp) (fun w' hw' => ?_) (fun A hA193 hf => ?_)
                          · have f19 := hf.get (d := 19) (v := .pointer (some ⟨b19, 0, none⟩)) (by simp)
                            clear hf
                            simp [Oper.quietAt, Oper.quietUpon, go_sem, f19]
                          refine q_want hf (d := 194) (v := .int .i64 P.y) (e := 192) rfl rfl (by simp) rfl (by decide) (by simp) (fun w' hw' => ?_) (fun A hA194 hf => ?_)
                          · have hc := hS _ hw'
                            have f193 := hf.get (d := 193) (v := .pointer (some ⟨b19, 1, none⟩)) (by simp)
                            clear hf
                            simp [Oper.quietAt, Oper.quietUpon, go_sem, f193, hc]
                          refine q_want hf (d := 195) (v := .pointer (some ⟨b20, 1, none⟩)) (e := 192) rfl rfl (by simp) rfl (by decide) (by simp) (fun w' hw' => ?_) (fun A hA195 hf => ?_)
                          · have f20 := hf.get (d := 20) (v := .pointer (some ⟨b20, 0, none⟩)) (by simp)
                            clear hf
                            simp [Oper.quietAt, Oper.quietUpon, go_sem, f20]
                          refine q_want hf (d := 196) (v := .int .i64 Q.y) (e := 192) rfl rfl (by simp) rfl (by decide) (by simp) (fun w' hw' => ?_) (fun A hA196 hf => ?_)
                          · have hc := hS _ hw'
                            have f195 := hf.get (d := 195) (v := .pointer (some ⟨b20, 1, none⟩)) (by simp)
                            clear hf
                            simp [Oper.quietAt, Oper.quietUpon, go_sem, f195, hc]
                          refine q_want hf (d := 197) (v := .bool false) (e := 192) rfl rfl (by simp) rfl (by decide) (by simp) (fun w' hw' => ?_) (fun A hA197 hf => ?_)
                          · have f194 := hf.get (d := 194) (v := .int .i64 P.y) (by simp)
                            have f196 := hf.get (d := 196) (v := .int .i64 Q.y) (by simp)
                            clear hf
                            simp [Oper.quietAt, Oper.quietUpon, go_sem, f194, f196, hpq]
                          refine q_want hf (d := 198) (v := .agg #[.int .i64 P.x, .int .i64 P.y]) (e := 192) rfl rfl (by simp) rfl (by decide) (by simp) (fun w' hw' => ?_) (fun A hA198 hf => ?_)
                          · have hc := hS _ hw'
                            have f19 := hf.get (d := 19) (v := .pointer (some ⟨b19, 0, none⟩)) (by simp)
                            clear hf
                            simp [Oper.quietAt, Oper.quietUpon, go_sem, f19, hc]
                          refine q_want hf (d := 199) (v := .agg #[.int .i64 Q.x, .int .i64 Q.y]) (e := 192) rfl rfl (by simp) rfl (by decide) (by simp) (fun w' hw' => ?_) (fun A hA199 hf => ?_)
                          · have hc := hS _ hw'
                            have f20 := hf.get (d := 20) (v := .pointer (some ⟨b20, 0, none⟩)) (by simp)
                            clear hf
                            simp [Oper.quietAt, Oper.quietUpon, go_sem, f20, hc]
                          refine q_want hf (d := 200) (v := .agg #[.int .i64 (x : Int), .int .i64 (y : Int)]) (e := 192) rfl rfl (by simp) rfl (by decide) (by simp) (fun w' hw' => ?_) (fun A hA200 hf => ?_)
                          · have hc := hS _ hw'
                            have f15 := hf.get (d := 15) (v := .pointer (some ⟨b15, 0, none⟩)) (by simp)
                            clear hf
                            simp [Oper.quietAt, Oper.quietUpon, go_sem, f15, hc]
                          refine q_want hf (d := 201) (v := .int .i64 sv) (e := 192) rfl rfl (by simp) rfl (by decide) (by simp) (fun w' hw' => ?_) (fun A hA201 hf => ?_)
                          · have f198 := hf.get (d := 198) (v := .agg #[.int .i64 P.x, .int .i64 P.y]) (by simp)
                            have f199 := hf.get (d := 199) (v := .agg #[.int .i64 Q.x, .int .i64 Q.y]) (by simp)
                            have f200 := hf.get (d := 200) (v := .agg #[.int .i64 (x : Int), .int .i64 (y : Int)]) (by simp)
                            clear hf
                            simp [Oper.quietAt, Oper.quietUpon, go_sem, f198, f199, f200]
                            exact (iSide_v (a := P) (b := Q) (c := ⟨(x : Int), (y : Int)⟩) hsv _).mono (fun e w'' hq => ⟨hq.1, hw'.1.step hq.2, hw'.2.step hq.2⟩)
                          refine q_want hf (d := 202) (v := .bool false) (e := 192) rfl rfl (by simp) rfl (by decide) (by simp) (fun w' hw' => ?_) (fun A hA202 hf => ?_)
                          · have f201 := hf.get (d := 201) (v := .int .i64 sv) (by simp)
                            clear hf
                            simp [Oper.quietAt, Oper.quietUpon, go_sem, f201, hsn]
                          refine q_want hf (d := 203) (v := .bool true) (e := 192) rfl rfl (by simp) rfl (by decide) (by simp) (fun w' hw' => ?_) (fun A hA203 hf => ?_)
                          · have f197 := hf.get (d := 197) (v := .bool false) (by simp)
                            have f202 := hf.get (d := 202) (v := .bool false) (by simp)
                            clear hf
                            simp [Oper.quietAt, Oper.quietUpon, go_sem, f197, f202]
                          refine q_step hf (d := 204) (v := .bool true) rfl rfl (by decide) (by simp) (fun w' hw' => ?_) (fun A hA204 hf => ?_)
                          · have f192 := hf.get (d := 192) (v := .bool true) (by simp)
                            have f203 := hf.get (d := 203) (v := .bool true) (by simp)
                            clear hf
                            simp [Oper.quietAt, Oper.quietUpon, go_sem, f192, f203]
                          refine wpQuiet_nil (fun w' hw' => ?_)
                          clear hf
                          subst hA204 hA203 hA202 hA201 hA200 hA199 hA198 hA197 hA196 hA195 hA194 hA193 hA192 hA191 hA190 hA189 hA188 hA187 hA186 hA185 hA184 hA183 hA
                          simp only [Act.put, List.setIfInBounds_toArray, List.set_cons_succ, List.set_cons_zero]
                          go_wp2_with fail
                          go_meet
                          exact ⟨by rw [← XR.out], hw'.1, hw'.2⟩
                      · have b1 : decide ((y : Int) < P.y) = false := decide_eq_false (by omega)
                        have b2 : decide ((y : Int) < Q.y) = false := decide_eq_false (by omega)
                        have XR : Hid (false = xrB P Q ⟨(x : Int), (y : Int)⟩) := by unfold Hid xrB; simp only [b1, b2]; rfl
                        obtain ⟨⟨r0, r1⟩, ⟨r2, r3⟩, ⟨r4, r5⟩⟩ := hS3 _ hH
                        clear h1 h2
                        go_quiet (fail)
                        go_wp2_with fail
                        go_meet
                        exact ⟨by rw [← XR.out], hx.step (bdrewN (Below.refl _ _) _), hH.step (bdrewN (Below.refl _ _) _)⟩
                    case rest =>
                    clear hx hH
                    obtain ⟨rfl, hx, hH⟩ := hcut
                    go_upto_if 204 with fail
                    have HO2 : Hid ((o || onB P Q ⟨(x : Int), (y : Int)⟩) = anL L ⟨(x : Int), (y : Int)⟩ (j + 1)) := by unfold Hid; rw [HN.out.1, HO.out]
                    generalize (o || onB P Q ⟨(x : Int), (y : Int)⟩) = o2 at HO2 ⊢
                    cases hxr : xrB P Q ⟨(x : Int), (y : Int)⟩
                    · have HP2 : Hid (p = odL L ⟨(x : Int), (y : Int)⟩ (j + 1)) := by unfold Hid; rw [HN.out.2, hxr, HP.out, Bool.xor_false]
                      go_wp2_with fail
                      go_roundw
                      case rel => exact ⟨j + 1, o2, p, by omega, by go_num, rfl, rfl, HO2, HP2, hx, hH.2.2⟩
                      case measure => simp [intOf]; omega
                    · have HP2 : Hid ((!p) = odL L ⟨(x : Int), (y : Int)⟩ (j + 1)) := by unfold Hid; rw [HN.out.2, hxr, HP.out, Bool.xor_true]
                      go_wp2_with fail
                      go_roundw
                      case rel => exact ⟨j + 1, o2, !p, by omega, by go_num, rfl, rfl, HO2, HP2, hx, hH.2.2⟩
                      case measure => simp [intOf]; omega
                  · have hji : ¬ (j : Int) < L.length := by omega
                    have HE1 : Hid (eY L x (y + 1) = eY L x y + if o then 1 else 0) := by
                      unfold Hid
                      have e : j = L.length := by omega
                      have := HO.out
                      rw [e] at this
                      rw [this, ← ed_an]; unfold eY; simp only [sm]; omega
                    have HI1 : Hid (iY L x (y + 1) = iY L x y + if o then 0 else if p then 1 else 0) := by
                      unfold Hid
                      have e : j = L.length := by omega
                      have h1 := HO.out
                      have h2 := HP.out
                      rw [e] at h1 h2
                      rw [h1, h2, ← in_an]; unfold iY; simp only [sm]; omega
                    cases o
                    · cases p
                      · go_wp2_with fail
                        go_roundw
                        case rel => exact ⟨y + 1, by omega, by go_num, by rw [HE1.out]; simp, by rw [HI1.out]; simp, hx⟩
                        case measure => simp [intOf]; omega
                      · go_wp2_with fail
                        go_roundw
                        case rel => exact ⟨y + 1, by omega, by go_num, by rw [HE1.out]; simp, by rw [HI1.out]; simp, hx⟩
                        case measure => simp [intOf]; omega
                    · go_wp2_with fail
                      go_roundw
                      case rel => exact ⟨y + 1, by omega, by go_num, by rw [HE1.out]; simp, by rw [HI1.out]; simp, hx⟩
                      case measure => simp [intOf]; omega
              · have hyi : ¬ (y : Int) ≤ 30 := by omega
                obtain rfl : y = 31 := by omega
                go_wp2_with fail
                go_roundw
                case rel => exact ⟨x + 1, by omega, by go_num, rfl, rfl, hx⟩
                case measure => simp [intOf]; omega
          · have hxi : ¬ (x : Int) ≤ 30 := by omega
            obtain rfl : x = 31 := by omega
            have h30 : ∀ c ∈ L, c.x ≤ 30 ∧ c.y ≤ 30 := fun c hc => by
              obtain ⟨i, hi, rfl⟩ := List.mem_iff_getElem.mp hc
              rw [← nth_lt hi]; exact H31.out i hi
            have hE31 : (eX L 31 == ee) = true := by
              rw [beq_iff_eq]
              have h2 := HE.out
              simp only [edgI, hsh, if_true] at h2
              rw [← h2]; exact law_ed hsh h30
            have hI31 : (iX L 31 == wv) = true := by
              rw [beq_iff_eq]
              rw [← HW.out]; exact law_in hsh h30
            go_wp2_with fail
            go_ret
            exact ⟨rfl, hx.bel⟩
end Go.Proofs.Ytipdfajojcpolaa
