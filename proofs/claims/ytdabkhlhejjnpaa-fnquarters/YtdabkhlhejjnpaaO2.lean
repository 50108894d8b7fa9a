/-
  Contracts for FnOrders: the program's Area; a Spot drawn; the Cell and the box of each Level round a right Spot.
-/
import Derived.Test.YtdabkhlhejjnpaaO1
import Derived.Test.YtdabkhlhejjnpaaD2
namespace Go.Proofs.Ytdabkhlhejjnpaa
open Go.RowKit Go.Joins

def okB (x y w h : Int) : Bool := decide (0 ≤ x ∧ x ≤ 255 ∧ 0 ≤ y ∧ y ≤ 255 ∧ 1 ≤ w ∧ w ≤ 256 - x ∧ 1 ≤ h ∧ h ≤ 256 - y)
theorem okB_t {x y w h : Int} : okB x y w h = true ↔ (0 ≤ x ∧ x ≤ 255 ∧ 0 ≤ y ∧ y ≤ 255 ∧ 1 ≤ w ∧ w ≤ 256 - x ∧ 1 ≤ h ∧ h ≤ 256 - y) := by unfold okB; exact decide_eq_true_iff
def areaI (x y a b : Int) : Int := if okB x y a b then a * b else 0
theorem prod_bd {a b : Int} (h1 : 0 ≤ a) (h2 : a ≤ 256) (h3 : 0 ≤ b) (h4 : b ≤ 256) : 0 ≤ a * b ∧ a * b ≤ 65536 :=
  ⟨Int.mul_nonneg h1 h3, by have := Int.mul_le_mul h2 h4 h3 (by decide); omega⟩

set_option maxHeartbeats 1000000 in
theorem rcRight_any (x y a b : Int) (w : World) :
    Calls Try.prog 61 #[.agg #[.int .i64 x, .int .i64 y, .int .i64 a, .int .i64 b]] w fun e w' => e = .returned (.bool (okB x y a b)) ∧ Below w.heap.size w w' := by
  go_enter Try.func61, Try.ntmps61
  go_wp2
  all_goals (go_ret; exact ⟨ret_bool (by unfold okB; first | exact (decide_eq_true (by omega)).symm | exact (decide_eq_false (by omega)).symm | exact decide_eq_decide.mpr (by omega)), below_alloc3 _ _ _ _⟩)

set_option maxHeartbeats 400000 in
theorem iArea_any (x y a b : Int) (w : World) :
    Calls Try.prog 30 #[.agg #[.int .i64 x, .int .i64 y, .int .i64 a, .int .i64 b]] w fun e w' => e = .returned (.int .i64 (areaI x y a b)) ∧ Below w.heap.size w w' := by
  cases h : okB x y a b
  · go_enter Try.func30, Try.ntmps30
    go_wp2_with ((go_at_call 61; refine (rcRight_any _ _ _ _ _).mono ?_; rintro e w1 ⟨rfl, hb2⟩; (first | replace hb := bstep hb hb2 (Nat.le_refl _) | replace hb := bstepA hb hb2 (Nat.le_refl _) | have hb := hb2); (try clear hc hf); obtain ⟨hc, hf⟩ := bcell hb))
    go_ret
    exact ⟨ret_i64 (by simp [areaI, h]), ba1 hb⟩
  · have k := okB_t.mp h
    obtain ⟨k1, k2⟩ := prod_bd (a := a) (b := b) (by omega) (by omega) (by omega) (by omega)
    go_enter Try.func30, Try.ntmps30
    go_wp2_with ((go_at_call 61; refine (rcRight_any _ _ _ _ _).mono ?_; rintro e w1 ⟨rfl, hb2⟩; (first | replace hb := bstep hb hb2 (Nat.le_refl _) | replace hb := bstepA hb hb2 (Nat.le_refl _) | have hb := hb2); (try clear hc hf); obtain ⟨hc, hf⟩ := bcell hb))
    go_ret
    exact ⟨ret_i64 (by simp [areaI, h]), ba1 hb⟩

set_option maxHeartbeats 1000000 in
theorem drawOrder_any (a : Option Addr) (len cap : Nat) (zs : List Int) (g : Nat) (w : World) (hl : len ≤ 4096) (hr : Rd w g a len zs) :
    Calls Try.prog 33 #[.slice a len cap] w fun e w' => ∃ s t : Int, e = .returned (.agg #[.int .i64 s, .int .i64 t]) ∧ Below w.heap.size w w' := by
  have HR : Hid (Rd (w.alloc (.cells #[.int .i64 0, .int .i64 0] 30)) (w.alloc (.cells #[.int .i64 0, .int .i64 0] 30)).heap.size a len zs) := hr.up (below_alloc1 _ _) (by simp)
  clear hr
  have HF : Hid (∀ h : Int, Cur ((w.alloc (.cells #[.int .i64 0, .int .i64 0] 30)).alloc (.cells #[.slice a len cap, .int .i64 0, .int .i64 h] 79)) (w.heap.size + 1) a len cap zs) := fun h => by simpa using Cur.fresh (h := h) (cap := cap) hl HR.out
  go_enter Try.func33, Try.ntmps33
  go_wp2_with (first | (go_at_call 46; refine (new_any a len cap zs _ hl HR.out).mono ?_; rintro e w0 ⟨h, rfl, rfl⟩) | (go_at_call 47; refine (drawSpot_any (w.heap.size + 1) a len cap zs _ (HF.out _)).mono ?_; rintro e w2 ⟨s, t, rfl, hT, hcur⟩; have hz := hT.size; (try simp at hz); have z0 : w2.cell? ⟨w.heap.size, 0, none⟩ = some (.int .i64 0) := (by rw [hT.cell (by simp <;> omega) (by omega)]; simp [go_sem]); have z1 : w2.cell? ⟨w.heap.size, 1, none⟩ = some (.int .i64 0) := (by rw [hT.cell (by simp <;> omega) (by omega)]; simp [go_sem]); have zf : ∀ o, w2.frozen? ⟨w.heap.size, o, none⟩ = false := fun o => (by rw [hT.frozen (by simp <;> omega) (by omega)]; simp [go_sem])))
  have hB := (below_alloc2 _ _ _).trans (hT.below (B := w.heap.size) (by omega) (by simp <;> omega))
  refine bodyPost_ret (v := .agg #[.int .i64 s, .int .i64 t]) (by simp [results, Try.results33, go_sem, z0, z1]) rfl ⟨_, _, rfl, ?_⟩
  exact sc2 hB (Nat.le_refl _)

/-- The Level k, and j = 8 - k, of a right Spot. -/
theorem cellAt_k {s t : Int} (h : spB s t = true) {k : Nat} (hk : k ≤ 8) (w : World) :
    Calls Try.prog 17 #[.agg #[.int .i64 s, .int .i64 t], .int .i64 k] w fun e w' => e = .returned (.agg #[.int .i64 k, .int .i64 (half s (8 - k)), .int .i64 (half t (8 - k))]) ∧ Below w.heap.size w w' := by
  have hl : levB k = true := levB_t.mpr (by omega)
  have he : (8 - (k : Int)).toNat = 8 - k := by omega
  have := iCellAt_any s t k w
  simp only [aL, aX, aY, h, hl, Bool.and_self, if_true] at this
  rw [he, ← half_eq, ← half_eq] at this
  exact this
theorem cell_k {s t : Int} (h : spB s t = true) {k : Nat} (hk : k ≤ 8) : cellB k (half s (8 - k)) (half t (8 - k)) = true := by
  have := anc_ok (cell8_ok h) (k := 8 - k) (by simp)
  rw [show (8 : Int) - ((8 - k : Nat) : Int) = k by omega] at this
  exact this
theorem sd_k {k : Nat} (hk : k ≤ 8) : sd k = 2 ^ (8 - k) := by
  have := pw8 (l := (k : Int)) (by omega) (by omega)
  rw [show (8 - (k : Int)).toNat = 8 - k by omega] at this
  exact this.symm
theorem rectOf_k {s t : Int} (h : spB s t = true) {k : Nat} (hk : k ≤ 8) (w : World) :
    Calls Try.prog 26 #[.agg #[.int .i64 k, .int .i64 (half s (8 - k)), .int .i64 (half t (8 - k))]] w fun e w' => e = .returned (.agg #[.int .i64 (half s (8 - k) * 2 ^ (8 - k)), .int .i64 (half t (8 - k) * 2 ^ (8 - k)), .int .i64 (2 ^ (8 - k)), .int .i64 (2 ^ (8 - k))]) ∧ Below w.heap.size w w' := by
  have hc := cell_k h hk
  have := iRectOf_any k (half s (8 - k)) (half t (8 - k)) w
  simp only [rX, rY, rS, hc, if_true] at this
  rw [sd_k hk] at this
  exact this
theorem box_bd {s t : Int} (h : spB s t = true) {k : Nat} (hk : k ≤ 8) : 0 ≤ half s (8 - k) * 2 ^ (8 - k) ∧ half s (8 - k) * 2 ^ (8 - k) + 2 ^ (8 - k) ≤ 256 ∧ 0 ≤ half t (8 - k) * 2 ^ (8 - k) ∧ half t (8 - k) * 2 ^ (8 - k) + 2 ^ (8 - k) ≤ 256 ∧ (1 : Int) ≤ 2 ^ (8 - k) := by
  obtain ⟨h0, h8, hx, hx1, hy, hy1⟩ := cellB_t.mp (cell_k h hk)
  have a1 := mul_bd h0 h8 hx hx1
  have a2 := mul_bd h0 h8 hy hy1
  have a3 := sd_bd h0 h8
  rw [sd_k hk] at a1 a2 a3
  omega
theorem area_k {s t : Int} (h : spB s t = true) {k : Nat} (hk : k ≤ 8) : areaI (half s (8 - k) * 2 ^ (8 - k)) (half t (8 - k) * 2 ^ (8 - k)) (2 ^ (8 - k)) (2 ^ (8 - k)) = 4 ^ (8 - k) := by
  have hb := box_bd h hk
  have ho : okB (half s (8 - k) * 2 ^ (8 - k)) (half t (8 - k) * 2 ^ (8 - k)) (2 ^ (8 - k)) (2 ^ (8 - k)) = true := okB_t.mpr (by omega)
  rw [areaI, ho, if_pos rfl, ← Int.pow_add, show (8 - k) + (8 - k) = 2 * (8 - k) by omega, pow24]
theorem area_v {s t : Int} (h : spB s t = true) {k : Nat} (hk : k ≤ 8) (w : World) :
    Calls Try.prog 30 #[.agg #[.int .i64 (half s (8 - k) * 2 ^ (8 - k)), .int .i64 (half t (8 - k) * 2 ^ (8 - k)), .int .i64 (2 ^ (8 - k)), .int .i64 (2 ^ (8 - k))]] w fun e w' => e = .returned (.int .i64 (4 ^ (8 - k))) ∧ Below w.heap.size w w' := by
  have := iArea_any (half s (8 - k) * 2 ^ (8 - k)) (half t (8 - k) * 2 ^ (8 - k)) (2 ^ (8 - k)) (2 ^ (8 - k)) w
  rw [area_k h hk] at this
  exact this
theorem order_lo {s t : Int} (h : spB s t = true) {k : Nat} (hk : k ≤ 8) (w : World) :
    Calls Try.prog 34 #[.agg #[.int .i64 (half s (8 - k) * 2 ^ (8 - k)), .int .i64 (half t (8 - k) * 2 ^ (8 - k))]] w fun e w' => e = .returned (.int .i64 (low s t (8 - k))) ∧ Below w.heap.size w w' := by
  have hb := box_bd h hk
  have ho : spB (half s (8 - k) * 2 ^ (8 - k)) (half t (8 - k) * 2 ^ (8 - k)) = true := spB_t.mpr (by omega)
  have := iOrder_any (half s (8 - k) * 2 ^ (8 - k)) (half t (8 - k) * 2 ^ (8 - k)) w
  rw [ordI, ho, if_pos rfl, ord_low (by omega)] at this
  exact this
theorem order_hi {s t : Int} (h : spB s t = true) {k : Nat} (hk : k ≤ 8) (w : World) :
    Calls Try.prog 34 #[.agg #[.int .i64 (half s (8 - k) * 2 ^ (8 - k) + 2 ^ (8 - k) - 1), .int .i64 (half t (8 - k) * 2 ^ (8 - k) + 2 ^ (8 - k) - 1)]] w fun e w' => e = .returned (.int .i64 (low s t (8 - k) + 4 ^ (8 - k) - 1)) ∧ Below w.heap.size w w' := by
  have hb := box_bd h hk
  have ho : spB (half s (8 - k) * 2 ^ (8 - k) + (2 ^ (8 - k) - 1)) (half t (8 - k) * 2 ^ (8 - k) + (2 ^ (8 - k) - 1)) = true := spB_t.mpr (by omega)
  have := iOrder_any (half s (8 - k) * 2 ^ (8 - k) + (2 ^ (8 - k) - 1)) (half t (8 - k) * 2 ^ (8 - k) + (2 ^ (8 - k) - 1)) w
  rw [ordI, ho, if_pos rfl, ord_high (by omega)] at this
  rw [show half s (8 - k) * 2 ^ (8 - k) + 2 ^ (8 - k) - 1 = half s (8 - k) * 2 ^ (8 - k) + (2 ^ (8 - k) - 1) by omega, show half t (8 - k) * 2 ^ (8 - k) + 2 ^ (8 - k) - 1 = half t (8 - k) * 2 ^ (8 - k) + (2 ^ (8 - k) - 1) by omega]
  exact this
end Go.Proofs.Ytdabkhlhejjnpaa
