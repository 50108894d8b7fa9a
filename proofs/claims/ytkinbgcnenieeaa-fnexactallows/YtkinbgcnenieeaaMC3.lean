/-
  Contracts of RectOf, CellAt and Up (the spec's and the program's) over numbers, and of the looks whether two are alike.
-/
import Derived.Test.YtkinbgcnenieeaaMC2
namespace Go.Proofs.Ytkinbgcnenieeaa.M
open Go.RowKit Go.Joins

def sd (l : Int) : Int := 256 / 2 ^ l.toNat
def rX (l x y : Int) : Int := if cellB l x y then x * sd l else 0
def rY (l x y : Int) : Int := if cellB l x y then y * sd l else 0
def rS (l x y : Int) : Int := if cellB l x y then sd l else 0
def uL (l x y : Int) : Int := if cellB l x y then (if l = 0 then 0 else l - 1) else 0
def uX (l x y : Int) : Int := if cellB l x y then (if l = 0 then 0 else x / 2) else 0
def uY (l x y : Int) : Int := if cellB l x y then (if l = 0 then 0 else y / 2) else 0
def aL (s t l : Int) : Int := if spB s t && levB l then l else 0
def aX (s t l : Int) : Int := if spB s t && levB l then s / 2 ^ (8 - l).toNat else 0
def aY (s t l : Int) : Int := if spB s t && levB l then t / 2 ^ (8 - l).toNat else 0
theorem sd_bd {l : Int} (h0 : 0 ≤ l) (h8 : l ≤ 8) : 1 ≤ sd l ∧ sd l ≤ 256 := by
  unfold sd; rcases nine h0 h8 with rfl | rfl | rfl | rfl | rfl | rfl | rfl | rfl | rfl <;> decide
theorem sd_mul {l : Int} (h0 : 0 ≤ l) (h8 : l ≤ 8) : 2 ^ l.toNat * sd l = 256 := by
  unfold sd; rcases nine h0 h8 with rfl | rfl | rfl | rfl | rfl | rfl | rfl | rfl | rfl <;> decide
theorem mul_bd {x l : Int} (h0 : 0 ≤ l) (h8 : l ≤ 8) (hx : 0 ≤ x) (hx1 : x < 2 ^ l.toNat) : 0 ≤ x * sd l ∧ x * sd l + sd l ≤ 256 := by
  obtain ⟨h1, h2⟩ := sd_bd h0 h8
  have h3 := sd_mul h0 h8
  refine ⟨Int.mul_nonneg hx (by omega), ?_⟩
  have : (x + 1) * sd l ≤ 2 ^ l.toNat * sd l := Int.mul_le_mul_of_nonneg_right (by omega) (by omega)
  rw [Int.add_mul] at this; omega
theorem cell_lev {l x y : Int} (h : cellB l x y = true) : 0 ≤ l ∧ l ≤ 8 := ⟨(cellB_t.mp h).1, (cellB_t.mp h).2.1⟩

theorem sCellOk_v {l x y : Int} {v : Bool} (hv : cellB l x y = v) (w : World) :
    Calls Try.prog 60 #[.agg #[.int .i64 l, .int .i64 x, .int .i64 y]] w fun e w' => e = .returned (.bool v) ∧ Below w.heap.size w w' := by subst hv; exact sCellOk_any l x y w
theorem isRight_v {l x y : Int} {v : Bool} (hv : cellB l x y = v) (w : World) :
    Calls Try.prog 63 #[.agg #[.int .i64 l, .int .i64 x, .int .i64 y]] w fun e w' => e = .returned (.bool v) ∧ Below w.heap.size w w' := by subst hv; exact isRight_any l x y w
theorem spRight_v {x y : Int} {v : Bool} (hv : spB x y = v) (w : World) :
    Calls Try.prog 54 #[.agg #[.int .i64 x, .int .i64 y]] w fun e w' => e = .returned (.bool v) ∧ Below w.heap.size w w' := by subst hv; exact spRight_any x y w
theorem sSpot_v {x y : Int} {v : Bool} (hv : spB x y = v) (w : World) :
    Calls Try.prog 19 #[.agg #[.int .i64 x, .int .i64 y]] w fun e w' => e = .returned (.bool v) ∧ Below w.heap.size w w' := by subst hv; exact sSpot_any x y w
theorem l1In_v {x a b : Int} {v : Bool} (hv : inB x a b = v) (w : World) :
    Calls Try.prog 20 #[.int .i64 x, .int .i64 a, .int .i64 b] w fun e w' => e = .returned (.bool v) ∧ w' = w := by subst hv; exact l1In_any x a b w

set_option maxHeartbeats 400000 in
theorem l2Rect_any {l x y : Int} (h : cellB l x y = true) (w : World) :
    Calls Try.prog 36 #[.agg #[.int .i64 l, .int .i64 x, .int .i64 y]] w fun e w' => e = .returned (.agg #[.int .i64 (rX l x y), .int .i64 (rY l x y), .int .i64 (rS l x y), .int .i64 (rS l x y)]) ∧ Below w.heap.size w w' := by
  obtain ⟨h0, h8, hx, hx1, hy, hy1⟩ := cellB_t.mp h
  obtain ⟨p1, p2⟩ := sd_bd h0 h8
  obtain ⟨q1, q2⟩ := mul_bd h0 h8 hx hx1
  obtain ⟨r1, r2⟩ := mul_bd h0 h8 hy hy1
  have ex : rX l x y = x * sd l := by simp [rX, h]
  have ey : rY l x y = y * sd l := by simp [rY, h]
  have es : rS l x y = sd l := by simp [rS, h]
  have f1 : wrap64 (x * (256 / 2 ^ l.toNat)) = x * sd l := w64 (a := x * sd l) (by omega) (by omega)
  have f2 : wrap64 (y * (256 / 2 ^ l.toNat)) = y * sd l := w64 (a := y * sd l) (by omega) (by omega)
  rw [ex, ey, es]
  go_enter Try.func36, Try.ntmps36
  go_wp2
  refine bodyPost_ret (v := .agg #[.int .i64 (x * sd l), .int .i64 (y * sd l), .int .i64 (sd l), .int .i64 (sd l)]) (by simp [results, Try.results36, go_sem, sd]) rfl ⟨rfl, ?_⟩
  exact below_alloc2 _ _ _

set_option maxHeartbeats 1000000 in
theorem iRectOf_at {l x y d : Int} (h : cellB l x y = true) (hd : wrap64 (2 ^ (8 - l).toNat) = d) (hd2 : sd l = d) (hl : 0 ≤ wrap64 (8 - l) ∧ wrap64 (8 - l) ≤ 64 ∧ (wrap64 (8 - l)) = 8 - l) (w : World) :
    Calls Try.prog 81 #[.agg #[.int .i64 l, .int .i64 x, .int .i64 y]] w fun e w' => e = .returned (.agg #[.int .i64 (rX l x y), .int .i64 (rY l x y), .int .i64 (rS l x y), .int .i64 (rS l x y)]) ∧ Below w.heap.size w w' := by
  obtain ⟨h0, h8, hx, hx1, hy, hy1⟩ := cellB_t.mp h
  obtain ⟨q1, q2⟩ := mul_bd h0 h8 hx hx1
  obtain ⟨r1, r2⟩ := mul_bd h0 h8 hy hy1
  obtain ⟨p1, p2⟩ := sd_bd h0 h8
  have ex : rX l x y = x * d := by simp [rX, h, hd2]
  have ey : rY l x y = y * d := by simp [rY, h, hd2]
  have es : rS l x y = d := by simp [rS, h, hd2]
  rw [hd2] at q1 q2 r1 r2 p1 p2
  have f1 : wrap64 (x * d) = x * d := w64 (by omega) (by omega)
  have f2 : wrap64 (y * d) = y * d := w64 (by omega) (by omega)
  rw [ex, ey, es]
  obtain ⟨g1, g2, g3⟩ := hl
  clear ex ey es hd2 h0 h8 hx hx1 hy hy1 q1 q2 r1 r2 p1 p2
  generalize hm : wrap64 (8 - l) = m at g1 g2 g3
  go_enter Try.func81, Try.ntmps81
  go_wp2_with (go_at_call 63; refine (isRight_v h _).mono ?_; rintro e w1 ⟨rfl, hb2⟩; (first | replace hb := bstep hb hb2 (Nat.le_refl _) | have hb := hb2); obtain ⟨hc, hf⟩ := bcell hb)
  refine bodyPost_ret (v := .agg #[.int .i64 (x * d), .int .i64 (y * d), .int .i64 d, .int .i64 d]) (by first | (simp [results, Try.results81, go_sem, hc]; done) | (simp [results, Try.results81, go_sem, hc]; exact ⟨by rw [hd, f1], by rw [hd, f2], hd⟩)) rfl ⟨rfl, ?_⟩
  exact sc4 (ba2 hb) (Nat.le_succ _)

set_option maxHeartbeats 1000000 in
theorem iRectOf_any (l x y : Int) (w : World) :
    Calls Try.prog 81 #[.agg #[.int .i64 l, .int .i64 x, .int .i64 y]] w fun e w' => e = .returned (.agg #[.int .i64 (rX l x y), .int .i64 (rY l x y), .int .i64 (rS l x y), .int .i64 (rS l x y)]) ∧ Below w.heap.size w w' := by
  cases h : cellB l x y
  · have ex : rX l x y = 0 := by simp [rX, h]
    have ey : rY l x y = 0 := by simp [rY, h]
    have es : rS l x y = 0 := by simp [rS, h]
    rw [ex, ey, es]
    go_enter Try.func81, Try.ntmps81
    go_wp2_with (go_at_call 63; refine (isRight_v h _).mono ?_; rintro e w1 ⟨rfl, hb2⟩; (first | replace hb := bstep hb hb2 (Nat.le_refl _) | have hb := hb2); obtain ⟨hc, hf⟩ := bcell hb)
    refine bodyPost_ret (v := .agg #[.int .i64 0, .int .i64 0, .int .i64 0, .int .i64 0]) (by simp [results, Try.results81, go_sem, hc]) rfl ⟨rfl, ?_⟩
    exact sc4 (ba2 hb) (Nat.le_succ _)
  · obtain ⟨h0, h8⟩ := cell_lev h
    obtain ⟨p1, p2⟩ := sd_bd h0 h8
    have g3 : wrap64 (8 - l) = 8 - l := w64 (by omega) (by omega)
    exact iRectOf_at h (d := sd l) (by rw [pw8 h0 h8]; exact w64 (a := sd l) (by omega) (by omega)) rfl ⟨by omega, by omega, g3⟩ w

set_option maxHeartbeats 1000000 in
theorem iUp_any (l x y : Int) (w : World) :
    Calls Try.prog 74 #[.agg #[.int .i64 l, .int .i64 x, .int .i64 y]] w fun e w' => e = .returned (.agg #[.int .i64 (uL l x y), .int .i64 (uX l x y), .int .i64 (uY l x y)]) ∧ Below w.heap.size w w' := by
  cases h : cellB l x y
  · have ex : uL l x y = 0 := by simp [uL, h]
    have ey : uX l x y = 0 := by simp [uX, h]
    have es : uY l x y = 0 := by simp [uY, h]
    rw [ex, ey, es]
    go_enter Try.func74, Try.ntmps74
    go_wp2_with (go_at_call 63; refine (isRight_v h _).mono ?_; rintro e w1 ⟨rfl, hb2⟩; (first | replace hb := bstep hb hb2 (Nat.le_refl _) | have hb := hb2); obtain ⟨hc, hf⟩ := bcell hb)
    refine bodyPost_ret (v := .agg #[.int .i64 0, .int .i64 0, .int .i64 0]) (by simp [results, Try.results74, go_sem, hc]) rfl ⟨rfl, ?_⟩
    exact sc3 (ba2 hb) (Nat.le_succ _)
  obtain ⟨h0, h8, hx, hx1, hy, hy1⟩ := cellB_t.mp h
  obtain ⟨p1, p2⟩ := pw h0 h8
  by_cases k : l = 0
  · subst k
    have ex : uL 0 x y = 0 := by simp [uL]
    have ey : uX 0 x y = 0 := by simp [uX]
    have es : uY 0 x y = 0 := by simp [uY]
    simp at hx1 hy1
    obtain rfl : x = 0 := by omega
    obtain rfl : y = 0 := by omega
    rw [ex, ey, es]
    go_enter Try.func74, Try.ntmps74
    go_wp2_with (go_at_call 63; refine (isRight_v h _).mono ?_; rintro e w1 ⟨rfl, hb2⟩; (first | replace hb := bstep hb hb2 (Nat.le_refl _) | have hb := hb2); obtain ⟨hc, hf⟩ := bcell hb)
    refine bodyPost_ret (v := .agg #[.int .i64 0, .int .i64 0, .int .i64 0]) (by simp [results, Try.results74, go_sem, hc]) rfl ⟨rfl, ?_⟩
    exact sc3 (ba2 hb) (Nat.le_succ _)
  · have ex : uL l x y = l - 1 := by simp [uL, h, k]
    have ey : uX l x y = x / 2 := by simp [uX, h, k]
    have es : uY l x y = y / 2 := by simp [uY, h, k]
    have hk : (l == 0) = false := by simpa using k
    have f1 : wrap64 (l - 1) = l - 1 := w64 (by omega) (by omega)
    have d1 : x.tdiv 2 = x / 2 := Int.tdiv_eq_ediv_of_nonneg hx
    have d2 : y.tdiv 2 = y / 2 := Int.tdiv_eq_ediv_of_nonneg hy
    have d3 : wrap64 (x / 2) = x / 2 := w64 (by omega) (by omega)
    have d4 : wrap64 (y / 2) = y / 2 := w64 (by omega) (by omega)
    rw [ex, ey, es]
    go_enter Try.func74, Try.ntmps74
    go_wp2_with (go_at_call 63; refine (isRight_v h _).mono ?_; rintro e w1 ⟨rfl, hb2⟩; (first | replace hb := bstep hb hb2 (Nat.le_refl _) | have hb := hb2); obtain ⟨hc, hf⟩ := bcell hb)
    refine bodyPost_ret (v := .agg #[.int .i64 (l - 1), .int .i64 (x / 2), .int .i64 (y / 2)]) (by simp [results, Try.results74, go_sem, hc]) rfl ⟨rfl, ?_⟩
    exact sc3 (ba2 hb) (Nat.le_succ _)

set_option maxHeartbeats 1000000 in
theorem iCellAt_any (s t l : Int) (w : World) :
    Calls Try.prog 56 #[.agg #[.int .i64 s, .int .i64 t], .int .i64 l] w fun e w' => e = .returned (.agg #[.int .i64 (aL s t l), .int .i64 (aX s t l), .int .i64 (aY s t l)]) ∧ Below w.heap.size w w' := by
  cases h1 : spB s t
  · have h : (spB s t && levB l) = false := by rw [h1]; rfl
    have ex : aL s t l = 0 := by simp [aL, h]
    have ey : aX s t l = 0 := by simp [aX, h]
    have es : aY s t l = 0 := by simp [aY, h]
    rw [ex, ey, es]
    go_enter Try.func56, Try.ntmps56
    go_wp2_with (go_at_call 54; refine (spRight_v h1 _).mono ?_; rintro e w1 ⟨rfl, hb2⟩; (first | replace hb := bstep hb hb2 (Nat.le_refl _) | have hb := hb2); obtain ⟨hc, hf⟩ := bcell hb)
    refine bodyPost_ret (v := .agg #[.int .i64 0, .int .i64 0, .int .i64 0]) (by simp [results, Try.results56, go_sem, hc]) rfl ⟨rfl, ?_⟩
    exact sc3 (ba2 hb) (Nat.le_succ _)
  cases k : levB l
  · have h : (spB s t && levB l) = false := by rw [h1, k]; rfl
    have k1 : levB l = false := k
    have ex : aL s t l = 0 := by simp [aL, h]
    have ey : aX s t l = 0 := by simp [aX, h]
    have es : aY s t l = 0 := by simp [aY, h]
    rw [ex, ey, es]
    go_enter Try.func56, Try.ntmps56
    go_wp2_with (first | (go_at_call 54; refine (spRight_v h1 _).mono ?_; rintro e w1 ⟨rfl, hb2⟩; (first | replace hb := bstep hb hb2 (Nat.le_refl _) | have hb := hb2); obtain ⟨hc, hf⟩ := bcell hb) | (go_at_call 64; refine (isLevel_v k1 _).mono ?_; rintro e w3 ⟨rfl, rfl⟩))
    refine bodyPost_ret (v := .agg #[.int .i64 0, .int .i64 0, .int .i64 0]) (by simp [results, Try.results56, go_sem, hc]) rfl ⟨rfl, ?_⟩
    exact sc3 (ba2 hb) (Nat.le_succ _)
  · have h : (spB s t && levB l) = true := by rw [h1, k]; rfl
    have k1 : levB l = true := k
    obtain ⟨h0, h8⟩ := levB_t.mp k
    obtain ⟨q1, q2, q3, q4⟩ := spB_t.mp h1
    have ex : aL s t l = l := by simp [aL, h]
    have ey : aX s t l = s / 2 ^ (8 - l).toNat := by simp [aX, h]
    have es : aY s t l = t / 2 ^ (8 - l).toNat := by simp [aY, h]
    have f1 : wrap64 (8 - l) = 8 - l := w64 (by omega) (by omega)
    have g1 : 0 ≤ 8 - l := by omega
    have g2 : 8 - l ≤ 64 := by omega
    rw [ex, ey, es]
    go_enter Try.func56, Try.ntmps56
    go_wp2_with (first | (go_at_call 54; refine (spRight_v h1 _).mono ?_; rintro e w1 ⟨rfl, hb2⟩; (first | replace hb := bstep hb hb2 (Nat.le_refl _) | have hb := hb2); obtain ⟨hc, hf⟩ := bcell hb) | (go_at_call 64; refine (isLevel_v k1 _).mono ?_; rintro e w3 ⟨rfl, rfl⟩))
    go_region
    all_goals go_wp2
    all_goals (refine bodyPost_ret (v := .agg #[.int .i64 l, .int .i64 (s / 2 ^ (8 - l).toNat), .int .i64 (t / 2 ^ (8 - l).toNat)]) (by simp [results, Try.results56, go_sem, hc]) rfl ⟨rfl, ?_⟩)
    all_goals exact sc3 (ba2 hb).drew (Nat.le_succ _)

set_option maxHeartbeats 400000 in
theorem eqCell_same (l x y : Int) (w : World) :
    Calls Try.prog 31 #[.agg #[.int .i64 l, .int .i64 x, .int .i64 y], .agg #[.int .i64 l, .int .i64 x, .int .i64 y]] w fun e w' => e = .returned (.bool true) ∧ Below w.heap.size w w' := by
  go_enter Try.func31, Try.ntmps31
  go_wp2
  all_goals (go_ret; exact ⟨rfl, below_alloc2 _ _ _⟩)

end Go.Proofs.Ytkinbgcnenieeaa.M
