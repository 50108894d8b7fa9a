/-
  The law of covers, walked.
-/
import Derived.Test.YthmpemamagjeeaaE2
import Derived.Test.YthmpemamagjeeaaK5
import Derived.Test.YthmpemamagjeeaaH3
import Derived.Deep.CutBlock
import Derived.Deep.QuietTactic
import Derived.BigQuiet
namespace Go.Proofs.Ythmpemamagjeeaa
open Go.RowKit Go.Joins

def T3.rs (c : T3) : Int := rS c.l c.x c.y
def T3.rx (c : T3) : Int := rX c.l c.x c.y
def T3.ry (c : T3) : Int := rY c.l c.x c.y
theorem qgeo {c : T3} (hc : c.ok = true) (hl : c.l < 8) : ∃ h : Int, 1 ≤ h ∧ c.rs = 2 * h ∧ ∀ i, i < 4 → (c.q i).rs = h ∧ (c.q i).rx = c.rx + ((i % 2 : Nat) : Int) * h ∧ (c.q i).ry = c.ry + ((i / 2 : Nat) : Int) * h := by
  have h' : cellB c.l c.x c.y = true := hc
  obtain ⟨h0, h8, _⟩ := ok_iff.mp hc
  refine ⟨sd (c.l + 1), (sd_bd (by omega) (by omega)).1, ?_, fun i hi => ?_⟩
  · unfold T3.rs rS
    rw [h', if_pos rfl]
    rcases nine h0 h8 with e | e | e | e | e | e | e | e | e <;> rw [e] <;> first | decide | omega
  · have hq : cellB (c.q i).l (c.q i).x (c.q i).y = true := q_ok hc hl hi
    unfold T3.rs T3.rx T3.ry rS rX rY
    rw [hq, h', if_pos rfl, if_pos rfl, if_pos rfl, if_pos rfl, if_pos rfl]
    have hs : sd c.l = 2 * sd (c.l + 1) := by
      rcases nine h0 h8 with e | e | e | e | e | e | e | e | e <;> rw [e] <;> first | decide | omega
    refine ⟨rfl, ?_, ?_⟩
    · show (2 * c.x + ((i % 2 : Nat) : Int)) * sd (c.l + 1) = c.x * sd c.l + ((i % 2 : Nat) : Int) * sd (c.l + 1)
      rw [hs]; grind
    · show (2 * c.y + ((i / 2 : Nat) : Int)) * sd (c.l + 1) = c.y * sd c.l + ((i / 2 : Nat) : Int) * sd (c.l + 1)
      rw [hs]; grind
theorem rs_pos {c : T3} (hc : c.ok = true) : 1 ≤ c.rs := by
  have h' : cellB c.l c.x c.y = true := hc
  obtain ⟨h0, h8, _⟩ := ok_iff.mp hc
  unfold T3.rs rS
  rw [h', if_pos rfl]
  exact (sd_bd h0 h8).1
def ov (u s X W : Int) : Int := max 0 (mW u s X W)
theorem ov_split {u h X W : Int} (hh : 0 ≤ h) (hW : 0 ≤ W) : ov u (2 * h) X W = ov u h X W + ov (u + h) h X W := by unfold ov mW; omega
def ovA (x y a b : Int) (c : T3) : Int := ov c.rx c.rs x a * ov c.ry c.rs y b
def arT (c : T3) : Int := c.rs * c.rs
theorem cv_cases (x y a b : Int) (c : T3) : (cvF x y a b c = 0 ∧ cvB x y a b c = false) ∨ (cvF x y a b c = 1 ∧ cvB x y a b c = true ∧ ¬ cvAll x y a b c) ∨ (cvF x y a b c = 2 ∧ cvB x y a b c = true ∧ cvAll x y a b c) := by
  unfold cvF cvAll
  cases cvB x y a b c <;> cases cvAllB x y a b c <;> simp
theorem ovA_two {x y a b : Int} {c : T3} (hc : c.ok = true) (h : cvAll x y a b c) : ovA x y a b c = arT c := by
  have hp := rs_pos hc
  obtain ⟨_, _, h3, h4⟩ := cvAll_iff.mp h
  have e1 : ov c.rx c.rs x a = c.rs := by unfold ov; show max 0 (mW (rX c.l c.x c.y) (rS c.l c.x c.y) x a) = _; rw [h3]; show max 0 c.rs = c.rs; omega
  have e2 : ov c.ry c.rs y b = c.rs := by unfold ov; show max 0 (mW (rY c.l c.x c.y) (rS c.l c.x c.y) y b) = _; rw [h4]; show max 0 c.rs = c.rs; omega
  unfold ovA arT; rw [e1, e2]
theorem ovA_none {x y a b : Int} {c : T3} (h : cvB x y a b c = false) : ovA x y a b c = 0 := by
  unfold cvB mB at h
  have h := of_decide_eq_false h
  have : mW c.rx c.rs x a < 1 ∨ mW c.ry c.rs y b < 1 := by
    have h2 : ¬ (1 ≤ mW c.rx c.rs x a ∧ 1 ≤ mW c.ry c.rs y b) := h
    omega
  unfold ovA
  rcases this with h | h
  · rw [show ov c.rx c.rs x a = 0 by unfold ov; omega, Int.zero_mul]
  · rw [show ov c.ry c.rs y b = 0 by unfold ov; omega, Int.mul_zero]
theorem ovA_four {x y a b : Int} {c : T3} (ha : 0 ≤ a) (hb : 0 ≤ b) (hc : c.ok = true) (hl : c.l < 8) : ovA x y a b c = ovA x y a b (c.q 0) + ovA x y a b (c.q 1) + ovA x y a b (c.q 2) + ovA x y a b (c.q 3) := by
  obtain ⟨h, h1, hs, hq⟩ := qgeo hc hl
  obtain ⟨s0, x0, y0⟩ := hq 0 (by omega)
  obtain ⟨s1, x1, y1⟩ := hq 1 (by omega)
  obtain ⟨s2, x2, y2⟩ := hq 2 (by omega)
  obtain ⟨s3, x3, y3⟩ := hq 3 (by omega)
  simp at x0 y0 x1 y1 x2 y2 x3 y3
  unfold ovA
  rw [hs, s0, s1, s2, s3, x0, y0, x1, y1, x2, y2, x3, y3, ov_split (by omega) ha, ov_split (by omega) hb]
  grind
def sumA (L : List T3) : Int := (L.map arT).sum
theorem sumA_append (A B : List T3) : sumA (A ++ B) = sumA A + sumA B := by simp [sumA]
structure CvD (x y a b : Int) (c : T3) (L : List T3) : Prop where
  ok : ∀ m ∈ L, m.ok = true
  ins : ∀ m ∈ L, c.lo ≤ m.lo ∧ m.hi ≤ c.hi
  two : ∀ m ∈ L, cvB x y a b m = true ∧ cvAll x y a b m
  one : ∀ m ∈ L, m = c ∨ (0 < m.l ∧ cvB x y a b m.up = true ∧ ¬ cvAll x y a b m.up)
  srt : L.Pairwise fun a b => a.hi ≤ b.lo
  area : sumA L = ovA x y a b c
theorem cvD_of {x y a b : Int} (ha : 0 ≤ a) (hb : 0 ≤ b) : ∀ (n : Nat) (c : T3), c.ok = true → (8 - c.l).toNat = n → CvD x y a b c (dec (cvF x y a b) n c) := by
  have hone : ∀ c : T3, c.ok = true → cvB x y a b c = true → cvAll x y a b c → CvD x y a b c [c] := fun c hc h1 h2 =>
    ⟨by simpa using hc, by simp, by simp [h1, h2], by simp, by simp, by rw [ovA_two hc h2]; simp [sumA]⟩
  have hnil : ∀ c : T3, cvB x y a b c = false → CvD x y a b c [] := fun c h => ⟨by simp, by simp, by simp, by simp, .nil, by rw [ovA_none h]; rfl⟩
  intro n
  induction n with
  | zero =>
    intro c hc hn
    have h8 : c.l = 8 := by have := (ok_iff.mp hc).2.1; omega
    rcases cv_cases x y a b c with ⟨h, h1⟩ | ⟨h, h1, h2⟩ | ⟨h, h1, h2⟩
    · rw [dec_no h]; exact hnil c h1
    · exact (h2 (cv8 hc h8 h1)).elim
    · rw [dec_full h]; exact hone c hc h1 h2
  | succ n ih =>
    intro c hc hn
    have hl : c.l < 8 := by omega
    rcases cv_cases x y a b c with ⟨h, h1⟩ | ⟨h, h1, h2⟩ | ⟨h, h1, h2⟩
    · rw [dec_no h]; exact hnil c h1
    · have hq : ∀ i, i < 4 → CvD x y a b (c.q i) (dec (cvF x y a b) n (c.q i)) := fun i hi => ih (c.q i) (q_ok hc hl hi) (by show (8 - (c.l + 1)).toNat = n; omega)
      rw [dec_part (by omega) (by omega)]
      simp only [decs, List.nil_append]
      have hA := hq 0 (by omega)
      have hB := hq 1 (by omega)
      have hC := hq 2 (by omega)
      have hD := hq 3 (by omega)
      have g : ∀ i (hi : i < 4) m, m ∈ dec (cvF x y a b) n (c.q i) → m.ok = true ∧ ((c.q i).lo ≤ m.lo ∧ m.hi ≤ (c.q i).hi) ∧ (cvB x y a b m = true ∧ cvAll x y a b m) ∧ (0 < m.l ∧ cvB x y a b m.up = true ∧ ¬ cvAll x y a b m.up) := fun i hi m hm => by
        refine ⟨(hq i hi).ok m hm, (hq i hi).ins m hm, (hq i hi).two m hm, ?_⟩
        rcases (hq i hi).one m hm with rfl | h
        · rw [q_up hi]
          exact ⟨by show 0 < c.l + 1; have := (ok_iff.mp hc).1; omega, h1, h2⟩
        · exact h
      have gm : ∀ m, m ∈ ((dec (cvF x y a b) n (c.q 0) ++ dec (cvF x y a b) n (c.q 1)) ++ dec (cvF x y a b) n (c.q 2)) ++ dec (cvF x y a b) n (c.q 3) → ∃ i, i < 4 ∧ m ∈ dec (cvF x y a b) n (c.q i) := fun m hm => by
        simp only [List.mem_append] at hm
        rcases hm with ((h | h) | h) | h
        · exact ⟨0, by omega, h⟩
        · exact ⟨1, by omega, h⟩
        · exact ⟨2, by omega, h⟩
        · exact ⟨3, by omega, h⟩
      have n01 := q_ne hc hl (i := 0) (j := 1) (by omega) (by omega) (by omega)
      have n12 := q_ne hc hl (i := 1) (j := 2) (by omega) (by omega) (by omega)
      have n23 := q_ne hc hl (i := 2) (j := 3) (by omega) (by omega) (by omega)
      have l1 := (c.q 1).lt
      have l2 := (c.q 2).lt
      refine ⟨fun m hm => ?_, fun m hm => ?_, fun m hm => ?_, fun m hm => ?_, ?_, ?_⟩
      · obtain ⟨i, hi, hm⟩ := gm m hm; exact (g i hi m hm).1
      · obtain ⟨i, hi, hm⟩ := gm m hm
        have := (g i hi m hm).2.1
        have := q_in hc hl hi
        omega
      · obtain ⟨i, hi, hm⟩ := gm m hm; exact (g i hi m hm).2.2.1
      · obtain ⟨i, hi, hm⟩ := gm m hm; exact .inr (g i hi m hm).2.2.2
      · rw [List.pairwise_append, List.pairwise_append, List.pairwise_append]
        refine ⟨⟨⟨hA.srt, hB.srt, fun u hu v hv => ?_⟩, hC.srt, fun u hu v hv => ?_⟩, hD.srt, fun u hu v hv => ?_⟩
        · have := (hA.ins u hu).2; have := (hB.ins v hv).1; omega
        · have := (hC.ins v hv).1
          rcases List.mem_append.mp hu with hu | hu
          · have := (hA.ins u hu).2; omega
          · have := (hB.ins u hu).2; omega
        · have := (hD.ins v hv).1
          rcases List.mem_append.mp hu with hu | hu
          · rcases List.mem_append.mp hu with hu | hu
            · have := (hA.ins u hu).2; omega
            · have := (hB.ins u hu).2; omega
          · have := (hC.ins u hu).2; omega
      · rw [sumA_append, sumA_append, sumA_append, hA.area, hB.area, hC.area, hD.area, ovA_four ha hb hc hl]
    · rw [dec_full h]; exact hone c hc h1 h2
theorem cvD_zro {x y a b : Int} (hr : okB x y a b = true) : CvD x y a b zro (coverL x y a b) := by
  have k := okB_t.mp hr
  rw [coverL, hr, if_pos rfl]
  exact cvD_of (by omega) (by omega) 8 zro zro_ok (by decide)
theorem cover_area {x y a b : Int} (hr : okB x y a b = true) : sumA (coverL x y a b) = a * b := by
  have k := okB_t.mp hr
  rw [(cvD_zro hr).area]
  have e1 : zro.rx = 0 := by decide
  have e2 : zro.ry = 0 := by decide
  have e3 : zro.rs = 256 := by decide
  unfold ovA
  rw [e1, e2, e3, show ov 0 256 x a = a by unfold ov mW; omega, show ov 0 256 y b = b by unfold ov mW; omega]
theorem cover_some {x y a b : Int} (hr : okB x y a b = true) : coverL x y a b ≠ [] := by
  intro h
  have k := okB_t.mp hr
  have := cover_area hr
  rw [h] at this
  have h2 := Int.mul_pos (show 0 < a by omega) (show 0 < b by omega)
  simp [sumA] at this
  omega
/-- What quarters of a Cell are in a Rect: the Cell is. -/
theorem all_of_q {x y a b : Int} {u : T3} (hu : u.ok = true) (hl : u.l < 8) (h0 : cvAll x y a b (u.q 0)) (h3 : cvAll x y a b (u.q 3)) : cvAll x y a b u := by
  obtain ⟨h, h1, hs, hq⟩ := qgeo hu hl
  obtain ⟨s0, x0, y0⟩ := hq 0 (by omega)
  obtain ⟨s3, x3, y3⟩ := hq 3 (by omega)
  simp at x0 y0 x3 y3
  have a0 : max (u.q 0).rx x = (u.q 0).rx ∧ max (u.q 0).ry y = (u.q 0).ry ∧ mW (u.q 0).rx (u.q 0).rs x a = (u.q 0).rs ∧ mW (u.q 0).ry (u.q 0).rs y b = (u.q 0).rs := cvAll_iff.mp h0
  have a3 : max (u.q 3).rx x = (u.q 3).rx ∧ max (u.q 3).ry y = (u.q 3).ry ∧ mW (u.q 3).rx (u.q 3).rs x a = (u.q 3).rs ∧ mW (u.q 3).ry (u.q 3).rs y b = (u.q 3).rs := cvAll_iff.mp h3
  rw [s0, x0, y0] at a0
  rw [s3, x3, y3] at a3
  refine cvAll_iff.mpr ?_
  show max u.rx x = u.rx ∧ max u.ry y = u.ry ∧ mW u.rx u.rs x a = u.rs ∧ mW u.ry u.rs y b = u.rs
  rw [hs]
  unfold mW at *
  omega
theorem cover_canon {x y a b : Int} (hr : okB x y a b = true) : Canon (coverL x y a b) := by
  have hd := cvD_zro hr
  refine ⟨hd.ok, hd.srt, fun u hu hl hq => ?_⟩
  have h0 := (hd.two _ (hq 0 (by omega))).2
  have h3 := (hd.two _ (hq 3 (by omega))).2
  have hall := all_of_q hu hl h0 h3
  rcases hd.one _ (hq 0 (by omega)) with e | ⟨_, _, h⟩
  · have : (u.q 0).l = zro.l := by rw [e]
    have h5 : u.l + 1 = 0 := this
    have := (ok_iff.mp hu).1
    omega
  · rw [q_up (by omega)] at h; exact h hall
theorem cover_join {x y a b : Int} (hr : okB x y a b = true) (hn : (coverL x y a b).length ≤ 100) : joinL (coverL x y a b) = coverL x y a b := by
  have hc := cover_canon hr
  have hok : okL (coverL x y a b) = true := by
    unfold okL; rw [decide_eq_true hn, Bool.true_and, List.all_eq_true]; exact hc.ok
  unfold joinL
  rw [hok, if_pos rfl]
  exact (hc.is_dec (muF_tells hc.ok) (fun n _ _ => Iff.rfl)).symm
end Go.Proofs.Ythmpemamagjeeaa
namespace Go.Proofs.Ythmpemamagjeeaa
open Go.RowKit Go.Joins
attribute [local go_sem ↓] Go.wp_at_zero Go.wp_at_succ

theorem ord_lo {c : T3} (hc : c.ok = true) : ordI c.rx c.ry = c.lo := by
  have h' : cellB c.l c.x c.y = true := hc
  obtain ⟨n, hn, hl, hl1, hl2, hx0, hx1, hy0, hy1⟩ := ok_nat hc
  have hsd : sd c.l = 2 ^ (8 - n) := by
    unfold sd
    rw [hl1]
    have : n = 0 ∨ n = 1 ∨ n = 2 ∨ n = 3 ∨ n = 4 ∨ n = 5 ∨ n = 6 ∨ n = 7 ∨ n = 8 := by omega
    rcases this with rfl | rfl | rfl | rfl | rfl | rfl | rfl | rfl | rfl <;> decide
  have ex : c.rx = c.x * 2 ^ (8 - n) := by unfold T3.rx rX; rw [h', if_pos rfl, hsd]
  have ey : c.ry = c.y * 2 ^ (8 - n) := by unfold T3.ry rY; rw [h', if_pos rfl, hsd]
  have hk := okB_t.mp (rect_ok hc)
  have hsp : spB c.rx c.ry = true := spB_t.mpr (by show 0 ≤ rX c.l c.x c.y ∧ rX c.l c.x c.y ≤ 255 ∧ 0 ≤ rY c.l c.x c.y ∧ rY c.l c.x c.y ≤ 255; omega)
  have hz := zz_split (c.x * 2 ^ (8 - n)) (c.y * 2 ^ (8 - n)) (8 - n) n
  rw [show 8 - n + n = 8 by omega, zz_low, half_low, half_low, Int.zero_add] at hz
  unfold ordI
  rw [hsp, if_pos rfl, ex, ey, hz]
  unfold T3.lo T3.sz
  rw [hl1, hl2]
theorem cvRect {c : T3} {u v s : Int} (hu : c.rx = u) (hv : c.ry = v) (hs : c.rs = s) (w : World) :
    Calls Try.prog 20 #[.agg #[.int .i64 c.l, .int .i64 c.x, .int .i64 c.y]] w fun e w' => e = .returned (.agg #[.int .i64 u, .int .i64 v, .int .i64 s, .int .i64 s]) ∧ Below w.heap.size w w' := by
  subst hu hv hs; exact iRectOf_any c.l c.x c.y w
theorem cvArea {u v s A : Int} (ho : okB u v s s = true) (hA : s * s = A) (w : World) :
    Calls Try.prog 21 #[.agg #[.int .i64 u, .int .i64 v, .int .i64 s, .int .i64 s]] w fun e w' => e = .returned (.int .i64 A) ∧ Below w.heap.size w w' := by
  have := iArea_any u v s s w
  rw [areaI, ho, if_pos rfl, hA] at this
  exact this
theorem cvOrder {u v n : Int} (h : ordI u v = n) (w : World) :
    Calls Try.prog 22 #[.agg #[.int .i64 u, .int .i64 v]] w fun e w' => e = .returned (.int .i64 n) ∧ Below w.heap.size w w' := by subst h; exact iOrder_any u v w
theorem cvMeet1 {c : T3} {u v s x y a b : Int} (hu : c.rx = u) (hv : c.ry = v) (hs : c.rs = s) (hc : c.ok = true) (hr : okB x y a b = true) (hm : cvB x y a b c = true) (ha : cvAll x y a b c) (w : World) :
    Calls Try.prog 23 #[.agg #[.int .i64 u, .int .i64 v, .int .i64 s, .int .i64 s], .agg #[.int .i64 x, .int .i64 y, .int .i64 a, .int .i64 b]] w fun e w' => e = .returned (.tuple #[.agg #[.int .i64 u, .int .i64 v, .int .i64 s, .int .i64 s], .bool true]) ∧ Below w.heap.size w w' := by
  subst hu hv hs
  have := meetI_yes hc hr hm w
  obtain ⟨h1, h2, h3, h4⟩ := cvAll_iff.mp ha
  rw [h1, h2, h3, h4] at this
  exact this
theorem cvMeet2 {c : T3} {u v s x y a b : Int} (hu : c.rx = u) (hv : c.ry = v) (hs : c.rs = s) (hc : c.ok = true) (hr : okB x y a b = true) (hm : cvB x y a b c = true) (ha : ¬ cvAll x y a b c) (w : World) :
    Calls Try.prog 23 #[.agg #[.int .i64 u, .int .i64 v, .int .i64 s, .int .i64 s], .agg #[.int .i64 x, .int .i64 y, .int .i64 a, .int .i64 b]] w fun e w' => ∃ p q r t : Int, e = .returned (.tuple #[.agg #[.int .i64 p, .int .i64 q, .int .i64 r, .int .i64 t], .bool true]) ∧ (p == u && (q == v && (r == s && t == s))) = false ∧ Below w.heap.size w w' := by
  subst hu hv hs
  refine (meetI_yes hc hr hm w).mono fun e w' ⟨h1, h2⟩ => ⟨_, _, _, _, h1, ?_, h2⟩
  rw [Bool.eq_false_iff]
  intro h
  simp at h
  exact ha (cvAll_iff.mpr h)
theorem cvUp {c : T3} (hc : c.ok = true) (hl : 0 < c.l) (w : World) :
    Calls Try.prog 24 #[.agg #[.int .i64 c.l, .int .i64 c.x, .int .i64 c.y]] w fun e w' => e = .returned (.agg #[.int .i64 c.up.l, .int .i64 c.up.x, .int .i64 c.up.y]) ∧ Below w.heap.size w w' := by
  have := iUp_any c.l c.x c.y w
  have h' : cellB c.l c.x c.y = true := hc
  rw [uL, uX, uY, h', if_pos rfl, if_pos rfl, if_pos rfl, if_neg (by omega), if_neg (by omega), if_neg (by omega)] at this
  exact this
def lastLo (L : List T3) : Nat → Int
  | 0 => -1
  | k + 1 => (L.getD k zro).lo
theorem lo_nn {c : T3} : 0 ≤ c.lo := Int.mul_nonneg (by have := c.sz_pos; omega) (zz_bd _ _ _).1
theorem last_lt {L : List T3} (h : L.Pairwise fun a b => a.hi ≤ b.lo) {k : Nat} (hk : k < L.length) : lastLo L k < L[k].lo := by
  cases k with
  | zero => have := @lo_nn L[0]; show -1 < _; omega
  | succ k =>
    have h1 := List.pairwise_iff_getElem.mp h k (k + 1) (by omega) hk (by omega)
    have h2 := L[k].lt
    simp only [lastLo, List.getD_eq_getElem?_getD, List.getElem?_eq_getElem (show k < L.length by omega), Option.getD_some]
    omega
theorem sumA_take {L : List T3} {k : Nat} (hk : k < L.length) : sumA (L.take (k + 1)) = sumA (L.take k) + arT L[k] := by
  rw [List.take_succ_eq_append_getElem hk, sumA_append]; simp [sumA]
theorem sumA_nn : ∀ L : List T3, 0 ≤ sumA L
  | [] => by simp [sumA]
  | c :: t => by
    have h := sumA_nn t
    have h2 : 0 ≤ arT c := by
      unfold arT
      rcases Int.le_total 0 c.rs with h | h
      · exact Int.mul_nonneg h h
      · exact Int.mul_nonneg_of_nonpos_of_nonpos h h
    simp only [sumA, List.map_cons, List.sum_cons] at *
    omega
theorem sumA_le (L : List T3) (k : Nat) : sumA (L.take k) ≤ sumA L := by
  have h := sumA_append (L.take k) (L.drop k)
  rw [List.take_append_drop] at h
  have := sumA_nn (L.drop k)
  omega
theorem lo_lt {c : T3} (hc : c.ok = true) : c.lo < 65536 := by have := (ok_in hc).2; have := c.lt; omega
end Go.Proofs.Ythmpemamagjeeaa
namespace Go.Proofs.Ythmpemamagjeeaa
open Go.RowKit Go.Joins
attribute [local go_sem ↓] Go.wp_at_zero Go.wp_at_succ

theorem Has.al {P : World} {l : List (Nat × List Value)} (h : Has P l) (vs : List Value) (t : TypeId) : Has (P.alloc (.cells vs.toArray t)) ((P.heap.size, vs) :: l) :=
  ⟨((St.nil P).push vs t).has.1, h.step (below_alloc1 _ _)⟩
set_option maxRecDepth 100000 in
set_option maxHeartbeats 8000000 in
theorem covers_small (a0 : Option Addr) (len cap : Nat) (zs : List Int) (w : World) (hl : len ≤ 4096) (hr : Rd w w.heap.size a0 len zs) :
    Calls Try.prog 3 #[.slice a0 len cap] w fun e w' => e = .returned (.bool true) ∧ Below w.heap.size w w' := by
  have hl' : decide (4096 < (len : Int)) = false := by simp; omega
  go_enter Try.func3, Try.ntmps3
  go_upto_region 4 with (first
    | (go_at_call 11; refine (big_any _ _ _ _).mono ?_; rintro e w1 ⟨rfl, rfl⟩)
    | (go_at_call 12; refine (drawCover_any a0 len cap zs _ _ hl hr).mono ?_; rintro e w1 ⟨x, y, a, b, rfl, hb1⟩))
  have hx : Sx w w1 [] := (Sx.nil w).step hb1
  have hbz := hx.bel.size
  replace hx := hx.step (below_alloc1 w1 (.cells #[.int .i64 x, .int .i64 y, .int .i64 a, .int .i64 b] 25))
  have hB := ((St.nil w1).push [.int .i64 x, .int .i64 y, .int .i64 a, .int .i64 b] 25).has
  clear hb1
  generalize w1.alloc _ = W1 at hx hB ⊢
  generalize w1.heap.size = b3 at hB hbz ⊢
  have hB1 := hB
  simp [Has, HasAt] at hB1
  generalize hLd : coverL x y a b = L
  have hLl : L.length ≤ 65536 := by rw [← hLd]; exact coverL_len x y a b
  have HL : Hid (coverL x y a b = L) := hLd
  clear hLd
  have hrw : ∀ {W : World}, Below w.heap.size w W → Rd W (W.heap.size) a0 len zs := fun hb => hr.up hb hb.size
  go_upto_region 5 with (go_at_call 13; refine (iCover_v HL.out _).mono ?_; rintro e w2 ⟨p4, cap4, rfl, hO4, hb2⟩)
  replace hx := hx.add hO4 hb2
  replace hB := hB.step hb2
  clear hO4 hb2 hB1
  go_upto_region 6 with (go_at_call 14; refine (drawReaches_any a0 len cap zs _ hl (hrw hx.bel)).mono ?_; rintro e w3 ⟨p5, cap5, K, s, t, rfl, hx3, hnK⟩)
  have hO5 := hx3.o0
  replace hx := hx.add hO5 hx3.bel
  replace hB := hB.step hx3.bel
  have hbz6 := hx.bel.size
  replace hx := hx.step (below_alloc1 w3 (.cells #[.int .i64 s, .int .i64 t] 30))
  have hB6 := ((St.nil w3).push [.int .i64 s, .int .i64 t] 30).has
  replace hB := hB.step (below_alloc1 w3 (.cells #[.int .i64 s, .int .i64 t] 30))
  have hBB : Has (w3.alloc (.cells #[.int .i64 s, .int .i64 t] 30)) [(w3.heap.size, [.int .i64 s, .int .i64 t]), (b3, [.int .i64 x, .int .i64 y, .int .i64 a, .int .i64 b])] := ⟨hB6.1, hB⟩
  clear hB hB6 hO5 hx3
  generalize w3.alloc _ = W3 at hx hBB ⊢
  generalize w3.heap.size = b6 at hBB hbz6 ⊢
  generalize hv : reachI K s t = v
  go_cut [40] from 27 to 39 (fun s40 wx => s40 = .bool false ∧ Sx w wx [(.slice p5 K.length cap5, K), (.slice p4 L.length cap4, L)] ∧ Has wx [(b6, [.int .i64 s, .int .i64 t]), (b3, [.int .i64 x, .int .i64 y, .int .i64 a, .int .i64 b])])
  case first =>
    have hS : ∀ w', (Sx w w' [(.slice p5 K.length cap5, K), (.slice p4 L.length cap4, L)] ∧ Has w' [(b6, [.int .i64 s, .int .i64 t]), (b3, [.int .i64 x, .int .i64 y, .int .i64 a, .int .i64 b])]) → (w'.cell? ⟨b6, 0, none⟩ = some (.int .i64 s) ∧ w'.cell? ⟨b6, 1, none⟩ = some (.int .i64 t) ∧ w'.cell? ⟨b3, 0, none⟩ = some (.int .i64 x) ∧ w'.cell? ⟨b3, 1, none⟩ = some (.int .i64 y) ∧ w'.cell? ⟨b3, 2, none⟩ = some (.int .i64 a) ∧ w'.cell? ⟨b3, 3, none⟩ = some (.int .i64 b)) := fun w' h => by have := h.2; simp [Has, HasAt] at this; simp [this]
    have hK : ∀ {w' w'' : World}, ((Sx w w' [(.slice p5 K.length cap5, K), (.slice p4 L.length cap4, L)] ∧ Has w' [(b6, [.int .i64 s, .int .i64 t]), (b3, [.int .i64 x, .int .i64 y, .int .i64 a, .int .i64 b])]) ∧ (w'.cell? ⟨b6, 0, none⟩ = some (.int .i64 s) ∧ w'.cell? ⟨b6, 1, none⟩ = some (.int .i64 t) ∧ w'.cell? ⟨b3, 0, none⟩ = some (.int .i64 x) ∧ w'.cell? ⟨b3, 1, none⟩ = some (.int .i64 y) ∧ w'.cell? ⟨b3, 2, none⟩ = some (.int .i64 a) ∧ w'.cell? ⟨b3, 3, none⟩ = some (.int .i64 b))) → Below w'.heap.size w' w'' → ((Sx w w'' [(.slice p5 K.length cap5, K), (.slice p4 L.length cap4, L)] ∧ Has w'' [(b6, [.int .i64 s, .int .i64 t]), (b3, [.int .i64 x, .int .i64 y, .int .i64 a, .int .i64 b])]) ∧ (w''.cell? ⟨b6, 0, none⟩ = some (.int .i64 s) ∧ w''.cell? ⟨b6, 1, none⟩ = some (.int .i64 t) ∧ w''.cell? ⟨b3, 0, none⟩ = some (.int .i64 x) ∧ w''.cell? ⟨b3, 1, none⟩ = some (.int .i64 y) ∧ w''.cell? ⟨b3, 2, none⟩ = some (.int .i64 a) ∧ w''.cell? ⟨b3, 3, none⟩ = some (.int .i64 b))) := fun h hb => keepS hS ⟨h.1.1.step hb, h.1.2.step hb⟩
    have hcc := hS _ ⟨hx, hBB⟩
    go_region_held3 (fun w' => (Sx w w' [(.slice p5 K.length cap5, K), (.slice p4 L.length cap4, L)] ∧ Has w' [(b6, [.int .i64 s, .int .i64 t]), (b3, [.int .i64 x, .int .i64 y, .int .i64 a, .int .i64 b])]) ∧ (w'.cell? ⟨b6, 0, none⟩ = some (.int .i64 s) ∧ w'.cell? ⟨b6, 1, none⟩ = some (.int .i64 t) ∧ w'.cell? ⟨b3, 0, none⟩ = some (.int .i64 x) ∧ w'.cell? ⟨b3, 1, none⟩ = some (.int .i64 y) ∧ w'.cell? ⟨b3, 2, none⟩ = some (.int .i64 a) ∧ w'.cell? ⟨b3, 3, none⟩ = some (.int .i64 b))) (first | exact ‹(Sx _ _ _ ∧ _) ∧ _› | exact hK ‹(Sx _ _ _ ∧ _) ∧ _› hb7 | exact keepS hS ⟨hx.step (Below.refl _ _).drew, hBB.step (Below.refl _ _).drew⟩ | fail)
      (first
        | (go_at_call 16; refine (sCover_v HL.out _).mono ?_; rintro e w7 ⟨p7, cap7, rfl, hO7, hb7⟩)
        | (go_at_call 15; refine (likeCells_same _ _ _ _ L _ (Ow.sl (‹(Sx _ _ _ ∧ _) ∧ _›).1.1.o1) (Ow.sl hO7) (by omega)).mono ?_; rintro e w8 ⟨rfl, hb7⟩)
        | (go_at_call 17; refine (iReaches_v hv _ _ _ (Ow.sl (‹(Sx _ _ _ ∧ _) ∧ _›).1.1.o0) (by omega)).mono ?_; rintro e w9 ⟨rfl, hb7⟩)
        | (go_at_call 18; refine (sReaches_v hv _ _ _ (Ow.sl (‹(Sx _ _ _ ∧ _) ∧ _›).1.1.o0) (by omega)).mono ?_; rintro e w9 ⟨rfl, hb7⟩))
    clear hx hBB hcc
    obtain ⟨⟨hx, hBB⟩, hcc⟩ := ‹(Sx _ _ _ ∧ _) ∧ _›
    go_wp2_with fail
    go_meet
    exact ⟨by simp, hx, hBB⟩
  case rest =>
  clear hx hBB
  obtain ⟨rfl, hx, hBB⟩ := hcut
  cases hok : okB x y a b
  · obtain rfl : L = [] := by rw [← HL.out, coverL, hok]; rfl
    have hcc := hBB
    simp [Has, HasAt] at hcc
    go_wp2_with (go_at_call 19; refine (sOk_v hok _).mono ?_; rintro e w4 ⟨rfl, hb4⟩; replace hx := hx.step hb4)
    go_ret
    exact ⟨rfl, hx.bel⟩
  have hne : ¬ L = [] := fun h => cover_some hok (HL.out.trans h)
  have hd0 : ((L.length : Int) == 0) = false := by simp [hne]
  have hcv := cvD_zro hok
  have har := cover_area hok
  have hjn := cover_join hok
  rw [HL.out] at hcv har hjn
  have kr := okB_t.mp hok
  have hab := mul_bd2 (a := a) (b := b) (by omega) (by omega) (by omega) (by omega)
  replace hBB : Has _ [(b3, [.int .i64 x, .int .i64 y, .int .i64 a, .int .i64 b])] := hBB.2
  go_wp2_with fail
  go_loopw [7, 8, 9] (fun s7 s8 i wr => ∃ k : Nat, k ≤ L.length ∧ i = .int .i64 k ∧ s7 = .int .i64 (sumA (L.take k)) ∧ s8 = .int .i64 (lastLo L k) ∧ Sx w wr [(.slice p5 K.length cap5, K), (.slice p4 L.length cap4, L)] ∧ Has wr [(b3, [.int .i64 x, .int .i64 y, .int .i64 a, .int .i64 b])]) (fun _ _ i _ => L.length - (intOf i).toNat)
  case atStart => exact ⟨0, by omega, rfl, rfl, rfl, hx, hBB⟩
  case round =>
    clear hx hBB
    obtain ⟨k, hk, rfl, rfl, rfl, hx, hBB⟩ := hrel
    have hcc := hBB
    simp [Has, HasAt] at hcc
    by_cases hlt : k < L.length
    · have hki : (k : Int) < L.length := by omega
      obtain ⟨g, off, rfl, _⟩ := (Ow.sl hx.o1).at hlt
      have hCs : ∀ W, Sx w W [(.slice p5 K.length cap5, K), (.slice (some ⟨g, off, none⟩) L.length cap4, L)] → Cs W g off L := fun W h => by
        rcases Ow.sl h.o1 with h0 | ⟨g', off', e, hC⟩
        · exact (hne h0).elim
        · injection e with e; injection e with e1 e2; subst e1 e2; exact hC
      have hmem : L[k] ∈ L := List.getElem_mem hlt
      have hc := hcv.ok _ hmem
      obtain ⟨hm1, hm2⟩ := hcv.two _ hmem
      have hlast := last_lt hcv.srt hlt
      have hlo0 := @lo_nn L[k]
      have hlo1 := lo_lt hc
      have hord := ord_lo hc
      have hrok : okB L[k].rx L[k].ry L[k].rs L[k].rs = true := rect_ok hc
      have hs1 := sumA_take hlt
      have hs2 := sumA_le L (k + 1)
      have hs3 := sumA_nn (L.take k)
      have hs4 := sumA_nn (L.take (k + 1))
      have hone := hcv.one _ hmem
      have hlk : lastLo L (k + 1) = L[k].lo := by simp [lastLo, hlt]
      have hcell := fun W (h : Sx w W [(.slice p5 K.length cap5, K), (.slice (some ⟨g, off, none⟩) L.length cap4, L)]) => (hCs W h).2 k L[k] (List.getElem?_eq_getElem hlt)
      rw [har] at hs2
      obtain ⟨c0, c1, c2⟩ := hcell _ hx
      have hlow : -1 ≤ lastLo L k := by cases k with
        | zero => simp [lastLo]
        | succ k => have := @lo_nn (L.getD k zro); show -1 ≤ (L.getD k zro).lo; omega
      have hA0 : arT L[k] = L[k].rs * L[k].rs := rfl
      generalize L[k] = c at hc hm1 hm2 hlast hlo0 hlo1 hord hrok hs1 hone hlk hcell c0 c1 c2 hA0
      generalize hu : c.rx = u at hord hrok
      generalize hv' : c.ry = v' at hord hrok
      generalize hs' : c.rs = s' at hrok hA0
      generalize hA : arT c = A at hs1 hA0
      generalize hn : c.lo = n at hlast hlo0 hlo1 hord hlk
      generalize hS0 : sumA (L.take k) = S0 at hs1 hs3 ⊢
      generalize hS1 : sumA (L.take (k + 1)) = S1 at hs1 hs2 hs4
      generalize hl0 : lastLo L k = l0 at hlast hlow ⊢
      go_upto_region 16 with (go_at_call 20; refine (cvRect hu hv' hs' _).mono ?_; rintro e w4 ⟨rfl, hb4⟩)
      replace hx := hx.step hb4
      replace hBB := hBB.step hb4
      have hx10 := hx.step (below_alloc1 w4 (.cells #[.int .i64 u, .int .i64 v', .int .i64 s', .int .i64 s'] 25))
      have hBx : Has (w4.alloc (.cells #[.int .i64 u, .int .i64 v', .int .i64 s', .int .i64 s'] 25)) [(w4.heap.size, [.int .i64 u, .int .i64 v', .int .i64 s', .int .i64 s']), (b3, [.int .i64 x, .int .i64 y, .int .i64 a, .int .i64 b])] := ⟨((St.nil w4).push [.int .i64 u, .int .i64 v', .int .i64 s', .int .i64 s'] 25).has.1, hBB.step (below_alloc1 w4 (.cells #[.int .i64 u, .int .i64 v', .int .i64 s', .int .i64 s'] 25))⟩
      clear hx hBB hb4 hcc c0 c1 c2
      generalize w4.alloc _ = W4 at hx10 hBx ⊢
      generalize w4.heap.size = b10 at hBx ⊢
      have hk := hBx
      simp [Has, HasAt] at hk
      obtain ⟨c0, c1, c2⟩ := hcell _ hx10
      go_upto_region 18 with (first
        | (go_at_call 21; refine (cvArea hrok hA0.symm _).mono ?_; rintro e w5 ⟨rfl, hb5⟩; replace hx10 := hx10.step hb5; replace hBx := hBx.step hb5; clear hk; have hk := hBx; simp [Has, HasAt] at hk)
        | (go_at_call 22; refine (cvOrder hord _).mono ?_; rintro e w5 ⟨rfl, hb5⟩; replace hx10 := hx10.step hb5; replace hBx := hBx.step hb5; clear hk; have hk := hBx; simp [Has, HasAt] at hk))
      have hn1 : ¬ n ≤ l0 := by omega
      go_upto_if 92 with (go_at_call 23; refine (cvMeet1 hu hv' hs' hc hok hm1 hm2 _).mono ?_; rintro e w6 ⟨rfl, hb6⟩; replace hx10 := hx10.step hb6; replace hBx := hBx.step hb6; clear hk c0 c1 c2; have hk := hBx; simp [Has, HasAt] at hk; have hgs := (hCs _ hx10).1; obtain ⟨c0, c1, c2⟩ := hcell _ hx10)
      replace hx10 := hx10.step (below_alloc1 w6 (.cells #[.int .i64 u, .int .i64 v', .int .i64 s', .int .i64 s'] 25))
      have hBy : Has (w6.alloc (.cells #[.int .i64 u, .int .i64 v', .int .i64 s', .int .i64 s'] 25)) [(b3, [.int .i64 x, .int .i64 y, .int .i64 a, .int .i64 b])] := (hBx.step (below_alloc1 w6 (.cells #[.int .i64 u, .int .i64 v', .int .i64 s', .int .i64 s'] 25))).2
      clear hk hBx c0 c1 c2 hb6 hgs
      generalize w6.alloc _ = W6 at hx10 hBy ⊢
      generalize w6.heap.size = b12
      have hk := hBy
      simp [Has, HasAt] at hk
      obtain ⟨c0, c1, c2⟩ := hcell _ hx10
      by_cases hl0 : 0 < c.l
      · obtain ⟨_, hu1, hu2⟩ : 0 < c.l ∧ cvB x y a b c.up = true ∧ ¬ cvAll x y a b c.up := by
          rcases hone with e | h
          · rw [e] at hl0; exact absurd hl0 (by decide)
          · exact h
        have hup := up_ok' hc hl0
        have hl1 : (0 : Int) < c.l := hl0
        generalize huu : c.up.rx = uu
        generalize huv : c.up.ry = uv
        generalize hus : c.up.rs = us
        go_upto_region 23 with fail
        go_cut [14, 15] from 92 to 103 (fun s14 s15 wx => ∃ (b14 : Nat) (m0 m1 m2 m3 : Int), s14 = .pointer (some ⟨b14, 0, none⟩) ∧ s15 = .bool true ∧ (m0 == uu && (m1 == uv && (m2 == us && m3 == us))) = false ∧ Sx w wx [(.slice p5 K.length cap5, K), (.slice (some ⟨g, off, none⟩) L.length cap4, L)] ∧ Has wx [(b14, [.int .i64 m0, .int .i64 m1, .int .i64 m2, .int .i64 m3]), (b3, [.int .i64 x, .int .i64 y, .int .i64 a, .int .i64 b])])
        case first =>
          have hgs := (hCs _ hx10).1
          go_region_with (first
            | (go_at_call 24; refine (cvUp hc hl0 _).mono ?_; rintro e w7 ⟨rfl, hb7⟩; (first | (replace hBy := hBy.step hb7; replace hx10 := hx10.step hb7) | (replace hBy := Has.step hb7 (Has.step (Below.refl _ _).drew hBy); replace hx10 := (hx10.step (Below.refl _ _).drew).step hb7) | (have hnw := hx10.new; have hbzz := hx10.bel.size; have hb3z : b3 < _ := hBy.1.1; replace hBy := Has.step hb7 (hBy.al [.int .i64 0, .int .i64 0, .int .i64 0, .int .i64 0] 25); replace hx10 := (hx10.step (below_alloc1 _ _)).step hb7) | (have hnw := hx10.new; have hbzz := hx10.bel.size; have hb3z : b3 < _ := hBy.1.1; replace hBy := Has.step hb7 (Has.step (Below.refl _ _).drew (hBy.al [.int .i64 0, .int .i64 0, .int .i64 0, .int .i64 0] 25)); replace hx10 := ((hx10.step (below_alloc1 _ _)).step (Below.refl _ _).drew).step hb7)); clear hk c0 c1 c2 hgs; have hgs := (hCs _ hx10).1; have hk := hBy; simp [Has, HasAt] at hk; obtain ⟨c0, c1, c2⟩ := hcell _ hx10)
            | (go_at_call 20; refine (cvRect huu huv hus _).mono ?_; rintro e w8 ⟨rfl, hb8⟩; (first | (replace hBy := hBy.step hb8; replace hx10 := hx10.step hb8) | (replace hBy := Has.step hb8 (Has.step (Below.refl _ _).drew hBy); replace hx10 := (hx10.step (Below.refl _ _).drew).step hb8) | (have hnw := hx10.new; have hbzz := hx10.bel.size; have hb3z : b3 < _ := hBy.1.1; replace hBy := Has.step hb8 (hBy.al [.int .i64 0, .int .i64 0, .int .i64 0, .int .i64 0] 25); replace hx10 := (hx10.step (below_alloc1 _ _)).step hb8) | (have hnw := hx10.new; have hbzz := hx10.bel.size; have hb3z : b3 < _ := hBy.1.1; replace hBy := Has.step hb8 (Has.step (Below.refl _ _).drew (hBy.al [.int .i64 0, .int .i64 0, .int .i64 0, .int .i64 0] 25)); replace hx10 := ((hx10.step (below_alloc1 _ _)).step (Below.refl _ _).drew).step hb8)); clear hk c0 c1 c2 hgs; have hgs := (hCs _ hx10).1; have hk := hBy; simp [Has, HasAt] at hk; obtain ⟨c0, c1, c2⟩ := hcell _ hx10)
            | (go_at_call 23; refine (cvMeet2 huu huv hus hup hok hu1 hu2 _).mono ?_; rintro e w9 ⟨m0, m1, m2, m3, rfl, hneq, hb9⟩; (first | (replace hBy := hBy.step hb9; replace hx10 := hx10.step hb9) | (replace hBy := Has.step hb9 (Has.step (Below.refl _ _).drew hBy); replace hx10 := (hx10.step (Below.refl _ _).drew).step hb9) | (have hnw := hx10.new; have hbzz := hx10.bel.size; have hb3z : b3 < _ := hBy.1.1; replace hBy := Has.step hb9 (hBy.al [.int .i64 0, .int .i64 0, .int .i64 0, .int .i64 0] 25); replace hx10 := (hx10.step (below_alloc1 _ _)).step hb9) | (have hnw := hx10.new; have hbzz := hx10.bel.size; have hb3z : b3 < _ := hBy.1.1; replace hBy := Has.step hb9 (Has.step (Below.refl _ _).drew (hBy.al [.int .i64 0, .int .i64 0, .int .i64 0, .int .i64 0] 25)); replace hx10 := ((hx10.step (below_alloc1 _ _)).step (Below.refl _ _).drew).step hb9)); clear hk c0 c1 c2 hgs; have hgs := (hCs _ hx10).1; have hk := hBy; simp [Has, HasAt] at hk; obtain ⟨c0, c1, c2⟩ := hcell _ hx10))
          all_goals
            go_wp2_with fail
            go_meet
            first
              | exact ⟨_, m0, m1, m2, m3, rfl, rfl, hneq, hx10.step (below_alloc1 _ _), hBy.al [.int .i64 m0, .int .i64 m1, .int .i64 m2, .int .i64 m3] 25⟩
              | exact ⟨_, m0, m1, m2, m3, rfl, rfl, hneq, (((hx10.box hbzz hnw 0 _).box hbzz hnw 1 _).box hbzz hnw 2 _).box hbzz hnw 3 _, (((hBy.set 0 (by simp) _ (by simp; omega)).set 1 (by simp) _ (by simp; omega)).set 2 (by simp) _ (by simp; omega)).set 3 (by simp) _ (by simp; omega)⟩
        case rest =>
        clear hx10 hBy hk c0 c1 c2
        obtain ⟨b14, m0, m1, m2, m3, rfl, rfl, hneq, hx10, hBy⟩ := hcut
        go_upto_region 24 with fail
        go_cut [115] from 92 to 114 (fun s115 wx => s115 = .bool false ∧ Sx w wx [(.slice p5 K.length cap5, K), (.slice (some ⟨g, off, none⟩) L.length cap4, L)] ∧ Has wx [(b3, [.int .i64 x, .int .i64 y, .int .i64 a, .int .i64 b])])
        case first =>
          have hS : ∀ w', (Sx w w' [(.slice p5 K.length cap5, K), (.slice (some ⟨g, off, none⟩) L.length cap4, L)] ∧ Has w' [(b14, [.int .i64 m0, .int .i64 m1, .int .i64 m2, .int .i64 m3]), (b3, [.int .i64 x, .int .i64 y, .int .i64 a, .int .i64 b])]) → ((w'.cell? ⟨g, off + k * 3, none⟩ = some (.int .i64 c.l) ∧ w'.cell? ⟨g, off + k * 3 + 1, none⟩ = some (.int .i64 c.x) ∧ w'.cell? ⟨g, off + k * 3 + 2, none⟩ = some (.int .i64 c.y)) ∧ (w'.cell? ⟨b14, 0, none⟩ = some (.int .i64 m0) ∧ w'.cell? ⟨b14, 1, none⟩ = some (.int .i64 m1) ∧ w'.cell? ⟨b14, 2, none⟩ = some (.int .i64 m2) ∧ w'.cell? ⟨b14, 3, none⟩ = some (.int .i64 m3))) := fun w' h => ⟨hcell _ h.1, by have := h.2; simp [Has, HasAt] at this; simp [this]⟩
          have hK : ∀ {w' w'' : World}, ((Sx w w' [(.slice p5 K.length cap5, K), (.slice (some ⟨g, off, none⟩) L.length cap4, L)] ∧ Has w' [(b14, [.int .i64 m0, .int .i64 m1, .int .i64 m2, .int .i64 m3]), (b3, [.int .i64 x, .int .i64 y, .int .i64 a, .int .i64 b])]) ∧ ((w'.cell? ⟨g, off + k * 3, none⟩ = some (.int .i64 c.l) ∧ w'.cell? ⟨g, off + k * 3 + 1, none⟩ = some (.int .i64 c.x) ∧ w'.cell? ⟨g, off + k * 3 + 2, none⟩ = some (.int .i64 c.y)) ∧ (w'.cell? ⟨b14, 0, none⟩ = some (.int .i64 m0) ∧ w'.cell? ⟨b14, 1, none⟩ = some (.int .i64 m1) ∧ w'.cell? ⟨b14, 2, none⟩ = some (.int .i64 m2) ∧ w'.cell? ⟨b14, 3, none⟩ = some (.int .i64 m3)))) → Below w'.heap.size w' w'' → ((Sx w w'' [(.slice p5 K.length cap5, K), (.slice (some ⟨g, off, none⟩) L.length cap4, L)] ∧ Has w'' [(b14, [.int .i64 m0, .int .i64 m1, .int .i64 m2, .int .i64 m3]), (b3, [.int .i64 x, .int .i64 y, .int .i64 a, .int .i64 b])]) ∧ ((w''.cell? ⟨g, off + k * 3, none⟩ = some (.int .i64 c.l) ∧ w''.cell? ⟨g, off + k * 3 + 1, none⟩ = some (.int .i64 c.x) ∧ w''.cell? ⟨g, off + k * 3 + 2, none⟩ = some (.int .i64 c.y)) ∧ (w''.cell? ⟨b14, 0, none⟩ = some (.int .i64 m0) ∧ w''.cell? ⟨b14, 1, none⟩ = some (.int .i64 m1) ∧ w''.cell? ⟨b14, 2, none⟩ = some (.int .i64 m2) ∧ w''.cell? ⟨b14, 3, none⟩ = some (.int .i64 m3)))) := fun h hb => keepS hS ⟨h.1.1.step hb, h.1.2.step hb⟩
          have h4 : (m0 == uu) = false ∨ ((m0 == uu) = true ∧ (m1 == uv) = false) ∨ ((m0 == uu) = true ∧ (m1 == uv) = true ∧ (m2 == us) = false) ∨ ((m0 == uu) = true ∧ (m1 == uv) = true ∧ (m2 == us) = true ∧ (m3 == us) = false) := by
            revert hneq
            cases (m0 == uu) <;> cases (m1 == uv) <;> cases (m2 == us) <;> cases (m3 == us) <;> simp
          clear hneq
          rcases h4 with e0 | ⟨e0, e1⟩ | ⟨e0, e1, e2⟩ | ⟨e0, e1, e2, e3⟩
          all_goals
            have hcc := hS _ ⟨hx10, hBy⟩
            go_region_held3 (fun w' => (Sx w w' [(.slice p5 K.length cap5, K), (.slice (some ⟨g, off, none⟩) L.length cap4, L)] ∧ Has w' [(b14, [.int .i64 m0, .int .i64 m1, .int .i64 m2, .int .i64 m3]), (b3, [.int .i64 x, .int .i64 y, .int .i64 a, .int .i64 b])]) ∧ ((w'.cell? ⟨g, off + k * 3, none⟩ = some (.int .i64 c.l) ∧ w'.cell? ⟨g, off + k * 3 + 1, none⟩ = some (.int .i64 c.x) ∧ w'.cell? ⟨g, off + k * 3 + 2, none⟩ = some (.int .i64 c.y)) ∧ (w'.cell? ⟨b14, 0, none⟩ = some (.int .i64 m0) ∧ w'.cell? ⟨b14, 1, none⟩ = some (.int .i64 m1) ∧ w'.cell? ⟨b14, 2, none⟩ = some (.int .i64 m2) ∧ w'.cell? ⟨b14, 3, none⟩ = some (.int .i64 m3)))) (first | exact ‹(Sx _ _ _ ∧ _) ∧ _› | exact hK ‹(Sx _ _ _ ∧ _) ∧ _› hb7 | exact keepS hS ⟨hx10.step (Below.refl _ _).drew, hBy.step (Below.refl _ _).drew⟩ | fail)
              (first
                | (go_at_call 24; refine (cvUp hc hl0 _).mono ?_; rintro e w7 ⟨rfl, hb7⟩)
                | (go_at_call 20; refine (cvRect huu huv hus _).mono ?_; rintro e w7 ⟨rfl, hb7⟩))
            clear hx10 hBy hcc
            obtain ⟨⟨hx10, hBy⟩, _⟩ := ‹(Sx _ _ _ ∧ _) ∧ _›
            go_wp2_with fail
            go_meet
            exact ⟨rfl, hx10, hBy.2⟩
        case rest =>
        clear hx10 hBy
        obtain ⟨rfl, hx10, hBy⟩ := hcut
        go_wp2
        go_roundw
        case rel => exact ⟨k + 1, by omega, by go_num, by rw [hS1, hs1, hA0], by rw [hlk], hx10, hBy⟩
        case measure => simp [intOf]; omega
      · have hl1 : ¬ (0 : Int) < c.l := hl0
        go_wp2
        go_roundw
        case rel => exact ⟨k + 1, by omega, by go_num, by rw [hS1, hs1, hA0], by rw [hlk], hx10, hBy⟩
        case measure => simp [intOf]; omega
    · obtain rfl : k = L.length := by omega
      have hki : ¬ (L.length : Int) < L.length := by omega
      rw [List.take_length, har]
      have hAr : areaI x y a b = a * b := by rw [areaI, hok, if_pos rfl]
      by_cases h100 : L.length ≤ 100
      · have hi100 : ¬ (100 : Int) < L.length := by omega
        have HJ : Hid (joinL L = L) := hjn h100
        go_wp2_with (first
          | (go_at_call 21; refine (iArea_any _ _ _ _ _).mono ?_; rw [hAr]; rintro e w4 ⟨rfl, hb4⟩; replace hx := hx.step hb4)
          | (go_at_call 25; refine (iJoined_v HJ.out _ _ _ (Ow.sl hx.o1) (Ow.pl hx.o1) (by omega)).mono ?_; rintro e w4 ⟨p8, cap8, rfl, hO8, hb8⟩; replace hx := hx.add hO8 hb8)
          | (go_at_call 15; refine (likeCells_same _ _ _ _ L _ (Ow.sl hx.o0) (Ow.sl hx.o2) (by omega)).mono ?_; rintro e w4 ⟨rfl, hb9⟩; replace hx := hx.step hb9))
        go_ret
        exact ⟨rfl, hx.bel⟩
      · have hi100 : (100 : Int) < L.length := by omega
        go_wp2_with (go_at_call 21; refine (iArea_any _ _ _ _ _).mono ?_; rw [hAr]; rintro e w4 ⟨rfl, hb4⟩; replace hx := hx.step hb4)
        go_ret
        exact ⟨rfl, hx.bel⟩
end Go.Proofs.Ythmpemamagjeeaa
