/-
  Lists of Cells, further: what the recursion by quarters makes is as few as can be; so is what comes of putting in order and making four one. Plain mathematics.
-/
import Derived.Test.YtamnmakegdnblaaMO1
import Derived.Test.YtamnmakegdnblaaML4
import Derived.Test.YtamnmakegdnblaaMX2
import Derived.Laws.EntriesVeiled
import Derived.Deep.RegionHeld3
import Derived.Deep.DrawnRows
import Derived.Maps.AppendAt
namespace Go.Proofs.Ytamnmakegdnblaa.M

theorem pw4 (k : Nat) : (1 : Int) ≤ 4 ^ k := pow4 k
def T3.sz (c : T3) : Int := 4 ^ (8 - c.l).toNat
def T3.lo (c : T3) : Int := c.sz * zz c.x c.y c.l.toNat
def T3.hi (c : T3) : Int := c.lo + c.sz
def T3.q (c : T3) (i : Nat) : T3 := ⟨c.l + 1, 2 * c.x + ((i % 2 : Nat) : Int), 2 * c.y + ((i / 2 : Nat) : Int)⟩
def T3.up (c : T3) : T3 := ⟨c.l - 1, c.x / 2, c.y / 2⟩
theorem T3.sz_pos (c : T3) : 1 ≤ c.sz := pw4 _
theorem T3.lt (c : T3) : c.lo < c.hi := by have := c.sz_pos; unfold T3.hi; omega
theorem ok_iff {c : T3} : c.ok = true ↔ (0 ≤ c.l ∧ c.l ≤ 8 ∧ 0 ≤ c.x ∧ c.x < 2 ^ c.l.toNat ∧ 0 ≤ c.y ∧ c.y < 2 ^ c.l.toNat) := cellB_t

/-- A right Cell by natural numbers. -/
theorem ok_nat {c : T3} (h : c.ok = true) : ∃ n : Nat, n ≤ 8 ∧ c.l = n ∧ c.l.toNat = n ∧ (8 - c.l).toNat = 8 - n ∧ 0 ≤ c.x ∧ c.x < 2 ^ n ∧ 0 ≤ c.y ∧ c.y < 2 ^ n := by
  obtain ⟨h0, h8, hx, hx1, hy, hy1⟩ := ok_iff.mp h
  exact ⟨c.l.toNat, by omega, by omega, rfl, by omega, hx, hx1, hy, hy1⟩
theorem sz_of {c : T3} {n : Nat} (h : (8 - c.l).toNat = 8 - n) : c.sz = 4 ^ (8 - n) := by unfold T3.sz; rw [h]

theorem q_ok {c : T3} (h : c.ok = true) (hl : c.l < 8) {i : Nat} (hi : i < 4) : (c.q i).ok = true := by
  obtain ⟨h0, h8, hx, hx1, hy, hy1⟩ := ok_iff.mp h
  have e : (c.l + 1).toNat = c.l.toNat + 1 := by omega
  have a : i % 2 = 0 ∨ i % 2 = 1 := by omega
  have b : i / 2 = 0 ∨ i / 2 = 1 := by omega
  refine ok_iff.mpr ?_
  simp only [T3.q]
  rw [e, Int.pow_succ]
  omega
theorem q_sz {c : T3} (h : c.ok = true) (hl : c.l < 8) (i : Nat) : c.sz = 4 * (c.q i).sz := by
  obtain ⟨h0, h8, _⟩ := ok_iff.mp h
  have e : (c.q i).l = c.l + 1 := rfl
  unfold T3.sz
  rw [e, show (8 - c.l).toNat = (8 - (c.l + 1)).toNat + 1 by omega, Int.pow_succ]
  omega
theorem q_lo {c : T3} (h : c.ok = true) (hl : c.l < 8) {i : Nat} (hi : i < 4) : (c.q i).lo = c.lo + i * (c.q i).sz := by
  obtain ⟨h0, h8, hx, hx1, hy, hy1⟩ := ok_iff.mp h
  have hs := q_sz h hl i
  unfold T3.lo
  rw [hs]
  generalize hS : (c.q i).sz = S
  simp only [T3.q]
  rw [show (c.l + 1).toNat = c.l.toNat + 1 by omega, zz_front]
  have e1 : (2 * c.x + ((i % 2 : Nat) : Int)) / 2 = c.x := by omega
  have e2 : (2 * c.y + ((i / 2 : Nat) : Int)) / 2 = c.y := by omega
  have e3 : 2 * ((2 * c.y + ((i / 2 : Nat) : Int)) % 2) + (2 * c.x + ((i % 2 : Nat) : Int)) % 2 = i := by omega
  rw [e1, e2, e3, Int.mul_add, Int.mul_comm S i, ← Int.mul_assoc, Int.mul_comm S 4]
  omega
theorem q_hi {c : T3} (h : c.ok = true) (hl : c.l < 8) {i : Nat} (hi : i < 4) : (c.q i).hi = c.lo + (i + 1) * (c.q i).sz := by
  unfold T3.hi
  rw [q_lo h hl hi, Int.add_mul]; omega
theorem up_ok' {c : T3} (h : c.ok = true) (hl : 0 < c.l) : c.up.ok = true := up_ok h (by omega)
theorem up_q {c : T3} (hl : 0 < c.l) : c.up.q (2 * (c.y % 2) + c.x % 2).toNat = c := by
  obtain ⟨l, x, y⟩ := c
  simp only [T3.q, T3.up, T3.mk.injEq]
  omega
theorem q_up {c : T3} {i : Nat} (hi : i < 4) : (c.q i).up = c := by
  obtain ⟨l, x, y⟩ := c
  simp only [T3.q, T3.up, T3.mk.injEq]
  omega

/-- Of two right Cells, the one of the greater level lies in just one of the other's level. -/
theorem anc {a b : T3} (ha : a.ok = true) (hb : b.ok = true) (hl : b.l ≤ a.l) :
    ∃ Z : Int, b.sz * Z ≤ a.lo ∧ a.hi ≤ b.sz * (Z + 1) ∧ (Z = zz b.x b.y b.l.toNat ↔ insT a b = true) := by
  obtain ⟨n, n8, a1, a2, a3, hx, hx1, hy, hy1⟩ := ok_nat ha
  obtain ⟨m, m8, b1, b2, b3, kx, kx1, ky, ky1⟩ := ok_nat hb
  have hmn : m ≤ n := by omega
  have sa := sz_of a3
  have sb := sz_of b3
  refine ⟨zz (half a.x (n - m)) (half a.y (n - m)) m, ?_, ?_, ?_⟩
  · have hs := zz_split a.x a.y (n - m) m
    rw [show n - m + m = n by omega] at hs
    have hz := zz_bd a.x a.y (n - m)
    unfold T3.lo
    rw [a2, hs, sa, sb, show 8 - m = (8 - n) + (n - m) by omega, Int.pow_add, Int.mul_add, ← Int.mul_assoc]
    have := Int.mul_nonneg (Int.le_trans (by decide) (pw4 (8 - n))) hz.1
    omega
  · have hs := zz_split a.x a.y (n - m) m
    rw [show n - m + m = n by omega] at hs
    have hz := zz_bd a.x a.y (n - m)
    unfold T3.hi T3.lo
    rw [a2, hs, sa, sb, show 8 - m = (8 - n) + (n - m) by omega, Int.pow_add, Int.mul_add, Int.mul_add, ← Int.mul_assoc, Int.mul_one]
    have hp : (0 : Int) ≤ 4 ^ (8 - n) := Int.le_trans (by decide) (pw4 (8 - n))
    have := Int.mul_le_mul_of_nonneg_left (show zz a.x a.y (n - m) + 1 ≤ 4 ^ (n - m) by omega) hp
    rw [Int.mul_add, Int.mul_one] at this
    omega
  · unfold insT
    rw [insB_eq]
    have e0 : (cellB a.l a.x a.y && cellB b.l b.x b.y) = true := by
      have h1 : cellB a.l a.x a.y = true := ha
      have h2 : cellB b.l b.x b.y = true := hb
      rw [h1, h2]; rfl
    rw [e0, Bool.true_and]
    unfold lInB
    rw [decide_eq_true_iff, b2, show (a.l - b.l).toNat = n - m by omega, ← half_eq, ← half_eq]
    constructor
    · intro hZ
      have hX : half a.x (n - m) < 2 ^ m := by
        rw [half_eq]
        have : a.x < 2 ^ m * 2 ^ (n - m) := by rw [← Int.pow_add, show m + (n - m) = n by omega]; exact hx1
        exact Int.ediv_lt_of_lt_mul (Int.pow_pos (by decide)) this
      have hY : half a.y (n - m) < 2 ^ m := by
        rw [half_eq]
        have : a.y < 2 ^ m * 2 ^ (n - m) := by rw [← Int.pow_add, show m + (n - m) = n by omega]; exact hy1
        exact Int.ediv_lt_of_lt_mul (Int.pow_pos (by decide)) this
      have := zz_inj m _ _ _ _ (half_nn hx _) hX (half_nn hy _) hY kx kx1 ky ky1 hZ
      exact ⟨hl, this.1, this.2⟩
    · rintro ⟨_, h1, h2⟩
      rw [h1, h2]
theorem mul_gap {s u v : Int} (hs : 1 ≤ s) (h : u < v) : s * (u + 1) ≤ s * v := Int.mul_le_mul_of_nonneg_left (by omega) (by omega)
theorem sz_le {a b : T3} (ha : a.ok = true) (hb : b.ok = true) : a.sz ≤ b.sz ↔ b.l ≤ a.l := by
  obtain ⟨n, n8, a1, a2, a3, _⟩ := ok_nat ha
  obtain ⟨m, m8, b1, b2, b3, _⟩ := ok_nat hb
  rw [sz_of a3, sz_of b3]
  constructor
  · intro h
    rcases Nat.lt_or_ge n m with hlt | hge
    · have : (4 : Int) ^ (8 - n) = 4 ^ (8 - m) * 4 ^ (m - n) := by rw [← Int.pow_add]; congr 1; omega
      rw [this] at h
      have h4 : (4 : Int) ≤ 4 ^ (m - n) := by
        rw [show m - n = (m - n - 1) + 1 by omega, Int.pow_succ]
        have := pw4 (m - n - 1); omega
      have hp := pw4 (8 - m)
      have := Int.mul_le_mul_of_nonneg_left h4 (show (0 : Int) ≤ 4 ^ (8 - m) by omega)
      omega
    · omega
  · intro h
    rw [show 8 - m = (8 - n) + (n - m) by omega, Int.pow_add]
    have := Int.mul_le_mul_of_nonneg_left (pw4 (n - m)) (show (0 : Int) ≤ 4 ^ (8 - n) by have := pw4 (8 - n); omega)
    omega
theorem ins_iff {a b : T3} (ha : a.ok = true) (hb : b.ok = true) : insT a b = true ↔ (b.lo ≤ a.lo ∧ a.hi ≤ b.hi) := by
  constructor
  · intro h
    have hl : b.l ≤ a.l := by
      unfold insT at h
      rw [insB_eq, Bool.and_eq_true] at h
      exact (decide_eq_true_iff.mp h.2).1
    obtain ⟨Z, h1, h2, h3⟩ := anc ha hb hl
    have hZ := h3.mpr h
    subst hZ
    rw [Int.mul_add, Int.mul_one] at h2
    unfold T3.hi T3.lo at *
    exact ⟨h1, h2⟩
  · rintro ⟨h1, h2⟩
    have hs : a.sz ≤ b.sz := by unfold T3.hi at h2; omega
    have hl := (sz_le ha hb).mp hs
    obtain ⟨Z, k1, k2, k3⟩ := anc ha hb hl
    refine k3.mp ?_
    have hp := b.sz_pos
    have := a.lt
    rcases Int.lt_trichotomy Z (zz b.x b.y b.l.toNat) with h | h | h
    · have g := mul_gap hp h
      have : b.lo = b.sz * zz b.x b.y b.l.toNat := rfl
      omega
    · exact h
    · have g := mul_gap hp h
      rw [Int.mul_add, Int.mul_one] at g
      have : b.lo = b.sz * zz b.x b.y b.l.toNat := rfl
      have ap := a.sz_pos
      unfold T3.hi at h2
      omega
theorem lam {a b : T3} (ha : a.ok = true) (hb : b.ok = true) : a.hi ≤ b.lo ∨ b.hi ≤ a.lo ∨ insT a b = true ∨ insT b a = true := by
  have key : ∀ {a b : T3}, a.ok = true → b.ok = true → b.l ≤ a.l → a.hi ≤ b.lo ∨ b.hi ≤ a.lo ∨ insT a b = true := by
    intro a b ha hb hl
    obtain ⟨Z, k1, k2, k3⟩ := anc ha hb hl
    have hp := b.sz_pos
    have hd : b.lo = b.sz * zz b.x b.y b.l.toNat := rfl
    rcases Int.lt_trichotomy Z (zz b.x b.y b.l.toNat) with h | h | h
    · have g := mul_gap hp h
      left; omega
    · exact .inr (.inr (k3.mp h))
    · have g := mul_gap hp h
      rw [Int.mul_add, Int.mul_one] at g
      right; left; unfold T3.hi; omega
  rcases Int.le_total b.l a.l with hl | hl
  · rcases key ha hb hl with h | h | h
    · exact .inl h
    · exact .inr (.inl h)
    · exact .inr (.inr (.inl h))
  · rcases key hb ha hl with h | h | h
    · exact .inr (.inl h)
    · exact .inl h
    · exact .inr (.inr (.inr h))
theorem eq_of {a b : T3} (ha : a.ok = true) (hb : b.ok = true) (h1 : a.lo = b.lo) (h2 : a.hi = b.hi) : a = b := by
  have i1 := (ins_iff ha hb).mpr ⟨by omega, by omega⟩
  have i2 := (ins_iff hb ha).mpr ⟨by omega, by omega⟩
  unfold insT at i1 i2
  rw [insB_eq, Bool.and_eq_true] at i1 i2
  obtain ⟨j1, j2, j3⟩ := decide_eq_true_iff.mp i1.2
  obtain ⟨k1, k2, k3⟩ := decide_eq_true_iff.mp i2.2
  have hl : a.l = b.l := by omega
  obtain ⟨l, x, y⟩ := a
  obtain ⟨l', x', y'⟩ := b
  simp only at hl
  subst hl
  simp at j2 j3
  rw [j2, j3]
end Go.Proofs.Ytamnmakegdnblaa.M
namespace Go.Proofs.Ytamnmakegdnblaa.M
open Go.RowKit Go.Joins
def okB (x y w h : Int) : Bool := decide (0 ≤ x ∧ x ≤ 255 ∧ 0 ≤ y ∧ y ≤ 255 ∧ 1 ≤ w ∧ w ≤ 256 - x ∧ 1 ≤ h ∧ h ≤ 256 - y)
theorem okB_t {x y w h : Int} : okB x y w h = true ↔ (0 ≤ x ∧ x ≤ 255 ∧ 0 ≤ y ∧ y ≤ 255 ∧ 1 ≤ w ∧ w ≤ 256 - x ∧ 1 ≤ h ∧ h ≤ 256 - y) := by unfold okB; exact decide_eq_true_iff
def areaI (x y a b : Int) : Int := if okB x y a b then a * b else 0
def inR (x y a b s t : Int) : Bool := decide (x ≤ s ∧ s < x + a ∧ y ≤ t ∧ t < y + b)
def mW (x1 a1 x2 a2 : Int) : Int := min (x1 + a1) (x2 + a2) - max x1 x2
def mB (x1 y1 a1 b1 x2 y2 a2 b2 : Int) : Bool := decide (1 ≤ mW x1 a1 x2 a2 ∧ 1 ≤ mW y1 b1 y2 b2)
theorem okB_f {x y w h : Int} : okB x y w h = false ↔ ¬ (0 ≤ x ∧ x ≤ 255 ∧ 0 ≤ y ∧ y ≤ 255 ∧ 1 ≤ w ∧ w ≤ 256 - x ∧ 1 ≤ h ∧ h ≤ 256 - y) := by unfold okB; exact decide_eq_false_iff_not
theorem mul_bd2 {a b : Int} (h1 : 0 ≤ a) (h2 : a ≤ 256) (h3 : 0 ≤ b) (h4 : b ≤ 256) : 0 ≤ a * b ∧ a * b ≤ 65536 :=
  ⟨Int.mul_nonneg h1 h3, by have := Int.mul_le_mul h2 h4 h3 (by decide); omega⟩
set_option maxHeartbeats 400000 in
theorem sMin_any (a b : Int) (w : World) :
    Calls Try.prog 92 #[.int .i64 a, .int .i64 b] w fun e w' => e = .returned (.int .i64 (min a b)) ∧ w = w' := by
  go_enter Try.func92, Try.ntmps92
  go_wp2
  all_goals (go_ret; exact ⟨ret_i64 (by omega), rfl⟩)
set_option maxHeartbeats 1000000 in
theorem sl1Holds_any (x1 y1 a1 b1 s2 t2 : Int) (h : okB x1 y1 a1 b1 = true) (w : World) :
    Calls Try.prog 85 #[.agg #[.int .i64 x1, .int .i64 y1, .int .i64 a1, .int .i64 b1], .agg #[.int .i64 s2, .int .i64 t2]] w fun e w' => e = .returned (.bool (inR x1 y1 a1 b1 s2 t2)) ∧ Below w.heap.size w w' := by
  have k := okB_t.mp h
  clear h
  go_enter Try.func85, Try.ntmps85
  go_wp2
  all_goals (go_ret; exact ⟨ret_bool (by unfold inR; first | exact (decide_eq_true (by omega)).symm | exact (decide_eq_false (by omega)).symm | exact decide_eq_decide.mpr (by omega)), below_alloc2 _ _ _⟩)
def meetV (x1 y1 a1 b1 x2 y2 a2 b2 : Int) : Value := if okB x1 y1 a1 b1 && okB x2 y2 a2 b2 && mB x1 y1 a1 b1 x2 y2 a2 b2 then .tuple #[.agg #[.int .i64 (max x1 x2), .int .i64 (max y1 y2), .int .i64 (mW x1 a1 x2 a2), .int .i64 (mW y1 b1 y2 b2)], .bool true] else .tuple #[.agg #[.int .i64 0, .int .i64 0, .int .i64 0, .int .i64 0], .bool false]
theorem ret_two {a b c d : Int} (h : a = c) (k : b = d) : Ending.returned (.tuple #[.int .i64 a, .int .i64 b]) = .returned (.tuple #[.int .i64 c, .int .i64 d]) := by rw [h, k]
theorem wrI {n : Int} (h1 : -1000000 ≤ n) (h2 : n ≤ 1000000) : IntKind.i64.wrap n = n := by rw [IntKind.wrap_i64]; omega
def peek (w : World) (a : Addr) : Value := (w.cell? a).getD undef
theorem peek_of {w : World} {a : Addr} {v : Value} (h : w.cell? a = some v) : w.cell? a = some (peek w a) := by simp [peek, h]
theorem peek_set {w : World} {a b : Addr} {u : Value} (h : w.cell? a = some (peek w a)) : (w.setCell b u).cell? a = some (peek (w.setCell b u) a) := by
  obtain ⟨v', hv⟩ := cell?_setCell_some (w := w) (p := b) (x := u) (q := a) h
  exact peek_of hv
theorem thr_step {P w1 : World} {g : Nat} (hg : g < P.heap.size) (hb : Below P.heap.size P w1) (h : P.cell? ⟨g, 0, none⟩ = some (peek P ⟨g, 0, none⟩) ∧ P.cell? ⟨g, 1, none⟩ = some (peek P ⟨g, 1, none⟩) ∧ P.frozen? ⟨g, 0, none⟩ = false ∧ P.frozen? ⟨g, 1, none⟩ = false) :
    w1.cell? ⟨g, 0, none⟩ = some (peek w1 ⟨g, 0, none⟩) ∧ w1.cell? ⟨g, 1, none⟩ = some (peek w1 ⟨g, 1, none⟩) ∧ w1.frozen? ⟨g, 0, none⟩ = false ∧ w1.frozen? ⟨g, 1, none⟩ = false := by
  obtain ⟨hc, hf⟩ := bcell hb
  exact ⟨peek_of ((hc g 0 hg).trans h.1), peek_of ((hc g 1 hg).trans h.2.1), (hf g 0 hg).trans h.2.2.1, (hf g 1 hg).trans h.2.2.2⟩
theorem thr_set {P : World} {g : Nat} {u v : Value} (h : P.cell? ⟨g, 0, none⟩ = some (peek P ⟨g, 0, none⟩) ∧ P.cell? ⟨g, 1, none⟩ = some (peek P ⟨g, 1, none⟩) ∧ P.frozen? ⟨g, 0, none⟩ = false ∧ P.frozen? ⟨g, 1, none⟩ = false) :
    ((P.setCell ⟨g, 0, none⟩ u).setCell ⟨g, 1, none⟩ v).cell? ⟨g, 0, none⟩ = some (peek ((P.setCell ⟨g, 0, none⟩ u).setCell ⟨g, 1, none⟩ v) ⟨g, 0, none⟩) ∧ ((P.setCell ⟨g, 0, none⟩ u).setCell ⟨g, 1, none⟩ v).cell? ⟨g, 1, none⟩ = some (peek ((P.setCell ⟨g, 0, none⟩ u).setCell ⟨g, 1, none⟩ v) ⟨g, 1, none⟩) ∧ ((P.setCell ⟨g, 0, none⟩ u).setCell ⟨g, 1, none⟩ v).frozen? ⟨g, 0, none⟩ = false ∧ ((P.setCell ⟨g, 0, none⟩ u).setCell ⟨g, 1, none⟩ v).frozen? ⟨g, 1, none⟩ = false :=
  ⟨peek_set (peek_set h.1), peek_set (peek_set h.2.1), by simp [h.2.2.1], by simp [h.2.2.2]⟩
theorem ok_meet {x1 y1 a1 b1 x2 y2 a2 b2 : Int} (h1 : okB x1 y1 a1 b1 = true) (h2 : okB x2 y2 a2 b2 = true) :
    okB (max x1 x2) (max y1 y2) (min (x1 + a1 - 1) (x2 + a2 - 1) - max x1 x2 + 1) (min (y1 + b1 - 1) (y2 + b2 - 1) - max y1 y2 + 1) = mB x1 y1 a1 b1 x2 y2 a2 b2 := by
  have k := okB_t.mp h1
  have k' := okB_t.mp h2
  unfold okB mB mW
  exact decide_eq_decide.mpr (by omega)
theorem meet_val {x1 y1 a1 b1 x2 y2 a2 b2 : Int} (hv : (okB x1 y1 a1 b1 && okB x2 y2 a2 b2) = true) (hm : mB x1 y1 a1 b1 x2 y2 a2 b2 = true) : Ending.returned (.tuple #[.agg #[.int .i64 (max x1 x2), .int .i64 (max y1 y2), .int .i64 (min (x1 + a1 - 1) (x2 + a2 - 1) - max x1 x2 + 1), .int .i64 (min (y1 + b1 - 1) (y2 + b2 - 1) - max y1 y2 + 1)], .bool true]) = .returned (meetV x1 y1 a1 b1 x2 y2 a2 b2) := by
  have e1 : min (x1 + a1 - 1) (x2 + a2 - 1) - max x1 x2 + 1 = mW x1 a1 x2 a2 := by unfold mW; omega
  have e2 : min (y1 + b1 - 1) (y2 + b2 - 1) - max y1 y2 + 1 = mW y1 b1 y2 b2 := by unfold mW; omega
  rw [e1, e2]; simp [meetV, hv, hm]
end Go.Proofs.Ytamnmakegdnblaa.M
namespace Go.Proofs.Ytamnmakegdnblaa.M
open Go.RowKit Go.Joins

/-- What is left out (0), taken whole (2) or cut into quarters. -/
def dec (f : T3 → Int) : Nat → T3 → List T3
  | 0, c => if f c = 0 then [] else [c]
  | n + 1, c => if f c = 0 then [] else if f c = 2 then [c] else (((dec f n (c.q 0) ++ dec f n (c.q 1)) ++ dec f n (c.q 2)) ++ dec f n (c.q 3))
/-- The first k quarters' lists. -/
def decs (f : T3 → Int) (n : Nat) (c : T3) : Nat → List T3
  | 0 => []
  | k + 1 => decs f n c k ++ dec f n (c.q k)
theorem dec_no {f : T3 → Int} {n : Nat} {c : T3} (h : f c = 0) : dec f n c = [] := by cases n <;> simp [dec, h]
theorem dec_full {f : T3 → Int} {n : Nat} {c : T3} (h : f c = 2) : dec f n c = [c] := by cases n <;> simp [dec, h]
theorem dec_part {f : T3 → Int} {n : Nat} {c : T3} (h0 : f c ≠ 0) (h2 : f c ≠ 2) : dec f (n + 1) c = decs f n c 4 := by simp [dec, decs, h0, h2]
theorem dec_len (f : T3 → Int) : ∀ n c, (dec f n c).length ≤ 4 ^ n
  | 0, c => by simp only [dec]; split <;> simp
  | n + 1, c => by
    have hp : 1 ≤ 4 ^ n := Nat.one_le_pow _ _ (by decide)
    simp only [dec]
    split
    · simp
    · split
      · simp; omega
      · have := dec_len f n (c.q 0); have := dec_len f n (c.q 1); have := dec_len f n (c.q 2); have := dec_len f n (c.q 3)
        simp only [List.length_append, Nat.pow_succ]; omega
theorem decs_len (f : T3 → Int) (n : Nat) (c : T3) : ∀ k, (decs f n c k).length ≤ k * 4 ^ n
  | 0 => by simp [decs]
  | k + 1 => by have := decs_len f n c k; have := dec_len f n (c.q k); simp only [decs, List.length_append, Nat.succ_mul]; omega

/-- From W to W' the list v has become v', which reads M; nothing else of W has turned. -/
structure Ext (base : Nat) (W : World) (v : Value) (W' : World) (v' : Value) (M : List T3) : Prop where
  own : Ow W' base v' M
  gr : W.grownBy W' v.ownBlock
  lies : ∀ g, v'.ownBlock = some g → v.ownBlock = some g ∨ W.heap.size ≤ g
theorem Ext.refl {base : Nat} {W : World} {v : Value} {M : List T3} (h : Ow W base v M) : Ext base W v W v M := ⟨h, .refl _ _, fun _ e => .inl e⟩
theorem gr_below {W W' : World} (hb : Below W.heap.size W W') (row : Option Nat) : W.grownBy W' row := ⟨hb.os, hb.tape, hb.output, hb.size, fun k hk _ => hb.block k hk⟩
theorem Ext.trans {base : Nat} {A B C : World} {u v z : Value} {M N : List T3} (h : Ext base A u B v M) (k : Ext base B v C z N) : Ext base A u C z N := by
  refine ⟨k.own, ⟨k.gr.os.trans h.gr.os, k.gr.tape.trans h.gr.tape, k.gr.output.trans h.gr.output, Nat.le_trans h.gr.size k.gr.size, fun i hi hne => ?_⟩, fun g e => ?_⟩
  · refine (k.gr.block i (Nat.lt_of_lt_of_le hi h.gr.size) (fun e => ?_)).trans (h.gr.block i hi hne)
    rcases h.lies i e.symm with e2 | e2
    · exact hne e2.symm
    · omega
  · rcases k.lies g e with e2 | e2
    · exact h.lies g e2
    · exact .inr (Nat.le_trans h.gr.size e2)
/-- Steps that turn nothing, ahead and behind. -/
theorem Ext.ahead {base : Nat} {W W1 W' : World} {v v' : Value} {M : List T3} (hb : Below W.heap.size W W1) (h : Ext base W1 v W' v' M) : Ext base W v W' v' M := by
  refine ⟨h.own, World.grownBy.trans (gr_below hb _) h.gr, fun g e => ?_⟩
  rcases h.lies g e with e2 | e2
  · exact .inl e2
  · exact .inr (Nat.le_trans hb.size e2)
theorem Ext.behind {base : Nat} {W W1 W' : World} {v v' : Value} {M : List T3} (h : Ext base W v W1 v' M) (hb : Below W1.heap.size W1 W') : Ext base W v W' v' M := by
  refine ⟨own_of_below h.own hb, ⟨hb.os.trans h.gr.os, hb.tape.trans h.gr.tape, hb.output.trans h.gr.output, Nat.le_trans h.gr.size hb.size, fun i hi hne => (hb.block i (Nat.lt_of_lt_of_le hi h.gr.size)).trans (h.gr.block i hi hne)⟩, h.lies⟩
theorem HasAt.grown {X Y : World} {b : Nat} (hp : Y.heap[b]? = X.heap[b]?) : ∀ {i : Nat} {vs : List Value}, HasAt X b i vs → HasAt Y b i vs
  | _, [], _ => trivial
  | _, _ :: _, ⟨h, t⟩ => ⟨(World.cell?_of_block hp).trans h, HasAt.grown hp t⟩
theorem Has.grown {X Y : World} {row : Option Nat} (hg : X.grownBy Y row) : ∀ {l : List (Nat × List Value)}, Has X l → (∀ p ∈ l, row ≠ some p.1) → Has Y l
  | [], _, _ => trivial
  | p :: _, ⟨⟨h1, h2, h3⟩, t⟩, hd => by
    have hp : Y.heap[p.1]? = X.heap[p.1]? := hg.block p.1 h1 (fun e => hd p (List.mem_cons_self ..) e.symm)
    exact ⟨⟨Nat.lt_of_lt_of_le h1 hg.size, fun o => (World.frozen?_of_block hp).trans (h2 o), HasAt.grown hp h3⟩, Has.grown hg t (fun q hq => hd q (List.mem_cons_of_mem _ hq))⟩
/-- Boxes that are no part of the list stay so. -/
theorem Ext.far {base : Nat} {W W' : World} {v v' : Value} {M : List T3} (h : Ext base W v W' v' M) {l : List (Nat × List Value)} (hh : Has W l) (hd : ∀ p ∈ l, v.ownBlock ≠ some p.1) : Has W' l ∧ ∀ p ∈ l, v'.ownBlock ≠ some p.1 := by
  refine ⟨hh.grown h.gr hd, fun p hp e => ?_⟩
  rcases h.lies _ e with e2 | e2
  · exact hd p hp e2
  · have := (hh.mem hp).1; omega
end Go.Proofs.Ytamnmakegdnblaa.M
namespace Go.Proofs.Ytamnmakegdnblaa.M

def mem (n : Int) (c : T3) : Prop := c.lo ≤ n ∧ n < c.hi
def cov (L : List T3) (n : Int) : Prop := ∃ c ∈ L, mem n c
def full (P : Int → Prop) (c : T3) : Prop := ∀ n, mem n c → P n
structure Canon (L : List T3) : Prop where
  ok : ∀ c ∈ L, c.ok = true
  srt : L.Pairwise fun a b => a.hi ≤ b.lo
  nof : ∀ u : T3, u.ok = true → u.l < 8 → (∀ i, i < 4 → u.q i ∈ L) → False

theorem sz_eq {a b : T3} (h : a.l = b.l) : a.sz = b.sz := by unfold T3.sz; rw [h]
/-- A Cell's quarters lie one behind the other. -/
theorem quarts {c : T3} (h : c.ok = true) (hl : c.l < 8) : ∃ s : Int, 1 ≤ s ∧ c.hi = c.lo + 4 * s ∧ (∀ i, i < 4 → (c.q i).sz = s) ∧ ∀ i : Nat, i < 4 → (c.q i).lo = c.lo + i * s ∧ (c.q i).hi = c.lo + (i + 1) * s := by
  have hs : ∀ i, (c.q i).sz = (c.q 0).sz := fun i => sz_eq rfl
  refine ⟨(c.q 0).sz, (c.q 0).sz_pos, ?_, fun i _ => hs i, fun i hi => ?_⟩
  · unfold T3.hi; rw [q_sz h hl 0]
  · have a := q_lo h hl hi
    have b := q_hi h hl hi
    rw [hs i] at a b
    exact ⟨a, b⟩
theorem q_in {c : T3} (h : c.ok = true) (hl : c.l < 8) {i : Nat} (hi : i < 4) : c.lo ≤ (c.q i).lo ∧ (c.q i).hi ≤ c.hi := by
  obtain ⟨s, h1, h2, _, h3⟩ := quarts h hl
  obtain ⟨a, b⟩ := h3 i hi
  have : i = 0 ∨ i = 1 ∨ i = 2 ∨ i = 3 := by omega
  rcases this with rfl | rfl | rfl | rfl <;> simp at a b <;> omega
theorem full_q {P : Int → Prop} {c : T3} (h : c.ok = true) (hl : c.l < 8) {i : Nat} (hi : i < 4) (hf : full P c) : full P (c.q i) := fun n hn => by
  have := q_in h hl hi
  exact hf n ⟨by have := hn.1; omega, by have := hn.2; omega⟩
theorem full_of_q {P : Int → Prop} {c : T3} (h : c.ok = true) (hl : c.l < 8) (hf : ∀ i, i < 4 → full P (c.q i)) : full P c := fun n hn => by
  obtain ⟨s, h1, h2, _, h3⟩ := quarts h hl
  have a0 := h3 0 (by omega); have a1 := h3 1 (by omega); have a2 := h3 2 (by omega); have a3 := h3 3 (by omega)
  obtain ⟨n1, n2⟩ := hn
  simp at a0 a1 a2 a3
  by_cases c0 : n < c.lo + s
  · exact hf 0 (by omega) n ⟨by omega, by omega⟩
  by_cases c1 : n < c.lo + 2 * s
  · exact hf 1 (by omega) n ⟨by omega, by omega⟩
  by_cases c2 : n < c.lo + 3 * s
  · exact hf 2 (by omega) n ⟨by omega, by omega⟩
  · exact hf 3 (by omega) n ⟨by omega, by omega⟩
theorem ins_refl {c : T3} (h : c.ok = true) : insT c c = true := (ins_iff h h).mpr ⟨Int.le_refl _, Int.le_refl _⟩
theorem q_up_or {c m : T3} (hc : c.ok = true) (hl : c.l < 8) (hm : m.ok = true) {i : Nat} (hi : i < 4) (h : insT (c.q i) m = true) : m = c.q i ∨ insT c m = true := by
  have hq := q_ok hc hl hi
  obtain ⟨a1, a2⟩ := (ins_iff hq hm).mp h
  obtain ⟨b1, b2⟩ := q_in hc hl hi
  have hqlt := (c.q i).lt
  rcases lam hc hm with h | h | h | h
  · omega
  · omega
  · exact .inr h
  · obtain ⟨d1, d2⟩ := (ins_iff hm hc).mp h
    have s1 : (c.q i).sz ≤ m.sz := by unfold T3.hi at a2; omega
    have s2 : m.sz ≤ c.sz := by unfold T3.hi at d2; omega
    have l1 := (sz_le hq hm).mp s1
    have l2 := (sz_le hm hc).mp s2
    have l3 : (c.q i).l = c.l + 1 := rfl
    rcases Int.lt_or_le c.l m.l with hlt | hle
    · left
      have e : m.sz = (c.q i).sz := sz_eq (by omega)
      refine eq_of hm hq ?_ ?_
      · unfold T3.hi at a2; omega
      · unfold T3.hi at *; omega
    · right
      have e : m.sz = c.sz := sz_eq (by omega)
      refine (ins_iff hc hm).mpr ⟨?_, ?_⟩
      · unfold T3.hi at d2; omega
      · unfold T3.hi at *; omega
/-- What such a list has whole lies in one of its Cells. -/
theorem Canon.big {L : List T3} (hL : Canon L) : ∀ (n : Nat) (c : T3), c.ok = true → (8 - c.l).toNat = n → full (cov L) c → ∃ m ∈ L, insT c m = true := by
  intro n
  induction n with
  | zero =>
    intro c hc hn hf
    obtain ⟨m, hm, h1, h2⟩ := hf c.lo ⟨Int.le_refl _, c.lt⟩
    refine ⟨m, hm, (ins_iff hc (hL.ok m hm)).mpr ⟨h1, ?_⟩⟩
    have : c.sz = 1 := by unfold T3.sz; rw [hn]; rfl
    unfold T3.hi at *; omega
  | succ n ih =>
    intro c hc hn hf
    have hl : c.l < 8 := by omega
    have hq : ∀ i, i < 4 → (∃ m ∈ L, insT c m = true) ∨ c.q i ∈ L := fun i hi => by
      obtain ⟨m, hm, hi2⟩ := ih (c.q i) (q_ok hc hl hi) (by show (8 - (c.l + 1)).toNat = n; omega) (full_q hc hl hi hf)
      rcases q_up_or hc hl (hL.ok m hm) hi hi2 with e | e
      · right; rw [← e]; exact hm
      · exact .inl ⟨m, hm, e⟩
    by_cases hex : ∃ m ∈ L, insT c m = true
    · exact hex
    · exact (hL.nof c hc hl (fun i hi => (hq i hi).resolve_left hex)).elim
theorem Canon.big' {L : List T3} (hL : Canon L) {c : T3} (hc : c.ok = true) (hf : full (cov L) c) : ∃ m ∈ L, insT c m = true := hL.big _ c hc rfl hf
theorem have_full {L : List T3} (hok : ∀ c ∈ L, c.ok = true) {c : T3} (hc : c.ok = true) (h : haveB L c = true) : full (cov L) c := fun n hn => by
  obtain ⟨m, hm, hi⟩ := List.any_eq_true.mp h
  obtain ⟨a, b⟩ := (ins_iff hc (hok m hm)).mp hi
  exact ⟨m, hm, by have := hn.1; omega, by have := hn.2; omega⟩
theorem Canon.have_iff {L : List T3} (hL : Canon L) {c : T3} (hc : c.ok = true) : haveB L c = true ↔ full (cov L) c :=
  ⟨have_full hL.ok hc, fun h => by obtain ⟨m, hm, hi⟩ := hL.big' hc h; exact List.any_eq_true.mpr ⟨m, hm, hi⟩⟩

theorem srt_ext : ∀ {A B : List T3}, A.Pairwise (fun a b => a.hi ≤ b.lo) → B.Pairwise (fun a b => a.hi ≤ b.lo) → (∀ c, c ∈ A ↔ c ∈ B) → A = B
  | [], [], _, _, _ => rfl
  | [], b :: B, _, _, h => by have := (h b).mpr (List.mem_cons_self ..); cases this
  | a :: A, [], _, _, h => by have := (h a).mp (List.mem_cons_self ..); cases this
  | a :: A, b :: B, hA, hB, h => by
    obtain ⟨a1, a2⟩ := List.pairwise_cons.mp hA
    obtain ⟨b1, b2⟩ := List.pairwise_cons.mp hB
    have hab : a = b := by
      rcases List.mem_cons.mp ((h a).mp (List.mem_cons_self ..)) with e | e
      · exact e
      rcases List.mem_cons.mp ((h b).mpr (List.mem_cons_self ..)) with e2 | e2
      · exact e2.symm
      · have := b1 a e; have := a1 b e2; have := a.lt; have := b.lt; omega
    subst hab
    congr 1
    refine srt_ext a2 b2 fun c => ⟨fun hc => ?_, fun hc => ?_⟩
    · rcases List.mem_cons.mp ((h c).mp (List.mem_cons_of_mem _ hc)) with e | e
      · subst e; have := a1 c hc; have := c.lt; omega
      · exact e
    · rcases List.mem_cons.mp ((h c).mpr (List.mem_cons_of_mem _ hc)) with e | e
      · subst e; have := b1 c hc; have := c.lt; omega
      · exact e
theorem srt_one {L : List T3} (h : L.Pairwise fun a b => a.hi ≤ b.lo) {a b : T3} (ha : a ∈ L) (hb : b ∈ L) {n : Int} (h1 : mem n a) (h2 : mem n b) : a = b := by
  induction L with
  | nil => cases ha
  | cons x t ih =>
    obtain ⟨x1, x2⟩ := List.pairwise_cons.mp h
    obtain ⟨p1, p2⟩ := h1
    obtain ⟨r1, r2⟩ := h2
    rcases List.mem_cons.mp ha with rfl | ha'
    · rcases List.mem_cons.mp hb with rfl | hb'
      · rfl
      · have := x1 b hb'; omega
    · rcases List.mem_cons.mp hb with rfl | hb'
      · have := x1 a ha'; omega
      · exact ih x2 ha' hb'
theorem Canon.sub {A B : List T3} (hA : Canon A) (hB : Canon B) (h : ∀ n, cov A n ↔ cov B n) : ∀ c ∈ A, c ∈ B := fun a ha => by
  have ha' := hA.ok a ha
  obtain ⟨b, hb, hi⟩ := hB.big' ha' (fun n hn => (h n).mp ⟨a, ha, hn⟩)
  obtain ⟨a2, ha2, hi2⟩ := hA.big' (hB.ok b hb) (fun n hn => (h n).mpr ⟨b, hb, hn⟩)
  obtain ⟨u1, u2⟩ := (ins_iff ha' (hB.ok b hb)).mp hi
  obtain ⟨v1, v2⟩ := (ins_iff (hB.ok b hb) (hA.ok a2 ha2)).mp hi2
  have hlt := a.lt
  have e : a = a2 := srt_one hA.srt ha ha2 (n := a.lo) ⟨by omega, by omega⟩ ⟨by omega, by omega⟩
  subst e
  have : a = b := eq_of ha' (hB.ok b hb) (by omega) (by omega)
  rw [this]; exact hb
theorem Canon.uniq {A B : List T3} (hA : Canon A) (hB : Canon B) (h : ∀ n, cov A n ↔ cov B n) : A = B :=
  srt_ext hA.srt hB.srt fun c => ⟨fun hc => hA.sub hB h c hc, fun hc => hB.sub hA (fun n => (h n).symm) c hc⟩
end Go.Proofs.Ytamnmakegdnblaa.M
namespace Go.Proofs.Ytamnmakegdnblaa.M

/-- What f must say of Cells for the Spots of P. -/
structure Tells (f : T3 → Int) (P : Int → Prop) : Prop where
  two : ∀ c : T3, c.ok = true → (f c = 2 ↔ full P c)
  nil : ∀ c : T3, c.ok = true → f c = 0 → ∀ n, mem n c → ¬ P n
  spot : ∀ c : T3, c.ok = true → c.l = 8 → f c = 0 ∨ f c = 2
structure DecOf (P : Int → Prop) (c : T3) (L : List T3) : Prop where
  ok : ∀ m ∈ L, m.ok = true
  ins : ∀ m ∈ L, c.lo ≤ m.lo ∧ m.hi ≤ c.hi
  full : ∀ m ∈ L, full P m
  least : ∀ m ∈ L, m = c ∨ ¬ Go.Proofs.Ytamnmakegdnblaa.M.full P m.up
  srt : L.Pairwise fun a b => a.hi ≤ b.lo
  has : ∀ n, mem n c → (P n ↔ cov L n)
theorem DecOf.none {P : Int → Prop} {c : T3} (h : ∀ n, mem n c → ¬ P n) : DecOf P c [] :=
  ⟨by simp, by simp, by simp, by simp, .nil, fun n hn => ⟨fun hp => (h n hn hp).elim, fun ⟨_, hm, _⟩ => by cases hm⟩⟩
theorem DecOf.one {P : Int → Prop} {c : T3} (hc : c.ok = true) (h : Go.Proofs.Ytamnmakegdnblaa.M.full P c) : DecOf P c [c] :=
  ⟨by simpa using hc, by simp, by simpa using h, by simp, by simp, fun n hn => ⟨fun _ => ⟨c, by simp, hn⟩, fun _ => h n hn⟩⟩
theorem cov_append {A B : List T3} {n : Int} : cov (A ++ B) n ↔ cov A n ∨ cov B n := by
  unfold cov
  constructor
  · rintro ⟨c, hc, hn⟩
    rcases List.mem_append.mp hc with h | h
    · exact .inl ⟨c, h, hn⟩
    · exact .inr ⟨c, h, hn⟩
  · rintro (⟨c, hc, hn⟩ | ⟨c, hc, hn⟩)
    · exact ⟨c, List.mem_append.mpr (.inl hc), hn⟩
    · exact ⟨c, List.mem_append.mpr (.inr hc), hn⟩
theorem DecOf.out {P : Int → Prop} {c : T3} {L : List T3} (h : DecOf P c L) {n : Int} (hn : cov L n) : mem n c := by
  obtain ⟨m, hm, a, b⟩ := hn
  have := h.ins m hm
  exact ⟨by omega, by omega⟩
/-- Four quarters' lists, one behind the other. -/
theorem DecOf.four {P : Int → Prop} {c : T3} (hc : c.ok = true) (hl : c.l < 8) (hf : ¬ Go.Proofs.Ytamnmakegdnblaa.M.full P c) {A B C D : List T3} (hA : DecOf P (c.q 0) A) (hB : DecOf P (c.q 1) B) (hC : DecOf P (c.q 2) C) (hD : DecOf P (c.q 3) D) : DecOf P c (((A ++ B) ++ C) ++ D) := by
  obtain ⟨s, h1, h2, _, h3⟩ := quarts hc hl
  have a0 := h3 0 (by omega); have a1 := h3 1 (by omega); have a2 := h3 2 (by omega); have a3 := h3 3 (by omega)
  simp at a0 a1 a2 a3
  have lst : ∀ {i : Nat} {L : List T3}, i < 4 → DecOf P (c.q i) L → ∀ m ∈ L, m = c ∨ ¬ Go.Proofs.Ytamnmakegdnblaa.M.full P m.up := fun hi hd m hm => by
    rcases hd.least m hm with e | e
    · right; rw [e, q_up hi]; exact hf
    · exact .inr e
  refine ⟨?_, ?_, ?_, ?_, ?_, ?_⟩
  · intro m hm; simp only [List.mem_append] at hm
    rcases hm with ((h | h) | h) | h
    · exact hA.ok m h
    · exact hB.ok m h
    · exact hC.ok m h
    · exact hD.ok m h
  · intro m hm; simp only [List.mem_append] at hm
    rcases hm with ((h | h) | h) | h
    · have := hA.ins m h; omega
    · have := hB.ins m h; omega
    · have := hC.ins m h; omega
    · have := hD.ins m h; omega
  · intro m hm; simp only [List.mem_append] at hm
    rcases hm with ((h | h) | h) | h
    · exact hA.full m h
    · exact hB.full m h
    · exact hC.full m h
    · exact hD.full m h
  · intro m hm; simp only [List.mem_append] at hm
    rcases hm with ((h | h) | h) | h
    · exact lst (by omega) hA m h
    · exact lst (by omega) hB m h
    · exact lst (by omega) hC m h
    · exact lst (by omega) hD m h
  · refine List.pairwise_append.mpr ⟨List.pairwise_append.mpr ⟨List.pairwise_append.mpr ⟨hA.srt, hB.srt, ?_⟩, hC.srt, ?_⟩, hD.srt, ?_⟩
    · intro x hx y hy; have := hA.ins x hx; have := hB.ins y hy; omega
    · intro x hx y hy; have := hC.ins y hy
      rcases List.mem_append.mp hx with h | h
      · have := hA.ins x h; omega
      · have := hB.ins x h; omega
    · intro x hx y hy; have := hD.ins y hy
      rcases List.mem_append.mp hx with h | h
      · rcases List.mem_append.mp h with h | h
        · have := hA.ins x h; omega
        · have := hB.ins x h; omega
      · have := hC.ins x h; omega
  · intro n hn
    obtain ⟨n1, n2⟩ := hn
    rw [cov_append, cov_append, cov_append]
    have o0 : cov A n → mem n (c.q 0) := hA.out
    have o1 : cov B n → mem n (c.q 1) := hB.out
    have o2 : cov C n → mem n (c.q 2) := hC.out
    have o3 : cov D n → mem n (c.q 3) := hD.out
    constructor
    · intro hp
      by_cases c0 : n < c.lo + s
      · exact .inl (.inl (.inl ((hA.has n ⟨by omega, by omega⟩).mp hp)))
      by_cases c1 : n < c.lo + 2 * s
      · exact .inl (.inl (.inr ((hB.has n ⟨by omega, by omega⟩).mp hp)))
      by_cases c2 : n < c.lo + 3 * s
      · exact .inl (.inr ((hC.has n ⟨by omega, by omega⟩).mp hp))
      · exact .inr ((hD.has n ⟨by omega, by omega⟩).mp hp)
    · rintro (((h | h) | h) | h)
      · exact (hA.has n (o0 h)).mpr h
      · exact (hB.has n (o1 h)).mpr h
      · exact (hC.has n (o2 h)).mpr h
      · exact (hD.has n (o3 h)).mpr h
theorem dec_of {f : T3 → Int} {P : Int → Prop} (hf : Tells f P) : ∀ (n : Nat) (c : T3), c.ok = true → (8 - c.l).toNat = n → DecOf P c (dec f n c) := by
  intro n
  induction n with
  | zero =>
    intro c hc hn
    have h8 : c.l = 8 := by have := (ok_iff.mp hc).2.1; omega
    rcases hf.spot c hc h8 with h | h
    · rw [dec_no h]; exact DecOf.none (hf.nil c hc h)
    · rw [dec_full h]; exact DecOf.one hc ((hf.two c hc).mp h)
  | succ n ih =>
    intro c hc hn
    by_cases h0 : f c = 0
    · rw [dec_no h0]; exact DecOf.none (hf.nil c hc h0)
    by_cases h2 : f c = 2
    · rw [dec_full h2]; exact DecOf.one hc ((hf.two c hc).mp h2)
    have hl : c.l < 8 := by omega
    have hq : ∀ i, i < 4 → DecOf P (c.q i) (dec f n (c.q i)) := fun i hi => ih (c.q i) (q_ok hc hl hi) (by show (8 - (c.l + 1)).toNat = n; omega)
    rw [dec_part h0 h2]
    simp only [decs, List.nil_append]
    exact DecOf.four hc hl (fun h => h2 ((hf.two c hc).mpr h)) (hq 0 (by omega)) (hq 1 (by omega)) (hq 2 (by omega)) (hq 3 (by omega))
theorem q_ne {u : T3} (hu : u.ok = true) (hl : u.l < 8) {i j : Nat} (hi : i < 4) (hj : j < 4) (h : i < j) : (u.q i).hi ≤ (u.q j).lo := by
  obtain ⟨s, h1, h2, _, h3⟩ := quarts hu hl
  have a := (h3 i hi).2
  have b := (h3 j hj).1
  rw [a, b]
  have : ((i : Int) + 1) * s ≤ j * s := Int.mul_le_mul_of_nonneg_right (by omega) (by omega)
  omega
theorem DecOf.canon {P : Int → Prop} {c : T3} {L : List T3} (h : DecOf P c L) : Canon L := by
  refine ⟨h.ok, h.srt, fun u hu hl hq => ?_⟩
  have hf : Go.Proofs.Ytamnmakegdnblaa.M.full P u := full_of_q hu hl (fun i hi => h.full _ (hq i hi))
  have e0 : u.q 0 = c := by
    rcases h.least _ (hq 0 (by omega)) with e | e
    · exact e
    · rw [q_up (by omega)] at e; exact (e hf).elim
  have e1 : u.q 1 = c := by
    rcases h.least _ (hq 1 (by omega)) with e | e
    · exact e
    · rw [q_up (by omega)] at e; exact (e hf).elim
  have := q_ne hu hl (i := 0) (j := 1) (by omega) (by omega) (by omega)
  rw [e0, e1] at this
  have := c.lt
  omega
theorem zro_ok : zro.ok = true := by decide
theorem zro_lo : zro.lo = 0 := by decide
theorem zro_hi : zro.hi = 65536 := by decide
theorem ok_in {c : T3} (h : c.ok = true) : 0 ≤ c.lo ∧ c.hi ≤ 65536 := by
  obtain ⟨n, n8, a1, a2, a3, _⟩ := ok_nat h
  have hz := zz_bd c.x c.y n
  have hs := sz_of a3
  have hp := pw4 (8 - n)
  have e : (4 : Int) ^ (8 - n) * 4 ^ n = 65536 := by rw [← Int.pow_add, show 8 - n + n = 8 by omega]; decide
  unfold T3.hi T3.lo
  rw [a2, hs]
  have h1 := Int.mul_nonneg (show (0 : Int) ≤ 4 ^ (8 - n) by omega) hz.1
  have h2 := Int.mul_le_mul_of_nonneg_left (show zz c.x c.y n + 1 ≤ 4 ^ n by omega) (show (0 : Int) ≤ 4 ^ (8 - n) by omega)
  rw [Int.mul_add, Int.mul_one, e] at h2
  omega
/-- A list as few as can be is what the recursion makes of its Spots. -/
theorem Canon.is_dec {f : T3 → Int} {P : Int → Prop} (hf : Tells f P) {L : List T3} (hL : Canon L) (h : ∀ n, 0 ≤ n → n < 65536 → (cov L n ↔ P n)) : L = dec f 8 zro := by
  have hd := dec_of hf 8 zro zro_ok (by decide)
  refine hL.uniq hd.canon fun n => ?_
  constructor
  · rintro ⟨c, hc, hn⟩
    have := ok_in (hL.ok c hc)
    obtain ⟨n1, n2⟩ := hn
    have hz : mem n zro := ⟨by rw [zro_lo]; omega, by rw [zro_hi]; omega⟩
    exact (hd.has n hz).mp ((h n (by omega) (by omega)).mp ⟨c, hc, n1, n2⟩)
  · intro hn
    have hz := hd.out hn
    have h1 := hz.1
    have h2 := hz.2
    rw [zro_lo] at h1
    rw [zro_hi] at h2
    exact (h n h1 h2).mpr ((hd.has n hz).mpr hn)

/-- As few as can be, but for the last one, which may be a fourth quarter. -/
structure Pre (L : List T3) : Prop where
  ok : ∀ c ∈ L, c.ok = true
  srt : L.Pairwise fun a b => a.hi ≤ b.lo
  nof : ∀ u : T3, u.ok = true → u.l < 8 → (∀ i, i < 4 → u.q i ∈ L) → ∃ A, L = A ++ [u.q 3]
theorem Canon.snoc {A : List T3} (hA : Canon A) {c : T3} (hc : c.ok = true) (h : ∀ m ∈ A, m.hi ≤ c.lo) : Pre (A ++ [c]) := by
  refine ⟨?_, ?_, ?_⟩
  · intro m hm; simp at hm; rcases hm with h | rfl
    · exact hA.ok m h
    · exact hc
  · refine List.pairwise_append.mpr ⟨hA.srt, by simp, ?_⟩
    intro x hx y hy; simp at hy; subst hy; exact h x hx
  · intro u hu hl hq
    by_cases h3 : u.q 3 = c
    · exact ⟨A, by rw [h3]⟩
    · have h3A : u.q 3 ∈ A := by have := hq 3 (by omega); simp at this; exact this.resolve_right h3
      refine (hA.nof u hu hl fun i hi => ?_).elim
      have hi2 := hq i hi
      simp at hi2
      rcases hi2 with e | e
      · exact e
      · by_cases hi3 : i = 3
        · subst hi3; exact h3A
        · have a := q_ne hu hl hi (show 3 < 4 by omega) (by omega)
          have b := h _ h3A
          have := (u.q 3).lt
          rw [e] at a
          have := c.lt
          omega
theorem Pre.snoc_last {A : List T3} {z y : T3} (h : (A ++ [z]).Pairwise fun a b => a.hi ≤ b.lo) (hy : y ∈ A ++ [z]) (he : y.hi = z.lo) : ∃ B, A = B ++ [y] := by
  rw [List.pairwise_append] at h
  obtain ⟨h1, _, h2⟩ := h
  have hyA : y ∈ A := by
    rcases List.mem_append.mp hy with e | e
    · exact e
    · simp at e; subst e; have := y.lt; omega
  have hne : A ≠ [] := fun e => by rw [e] at hyA; cases hyA
  have hd := List.dropLast_concat_getLast hne
  refine ⟨A.dropLast, ?_⟩
  have hl : A.getLast hne = y := by
    by_cases e : y = A.getLast hne
    · exact e.symm
    · have hin : y ∈ A.dropLast := by
        rw [← hd] at hyA
        rcases List.mem_append.mp hyA with e2 | e2
        · exact e2
        · simp at e2; exact (e e2).elim
      rw [← hd, List.pairwise_append] at h1
      have a := h1.2.2 y hin (A.getLast hne) (by simp)
      have b := h2 (A.getLast hne) (List.getLast_mem hne) z (by simp)
      have := (A.getLast hne).lt
      omega
  rw [← hl]; exact hd.symm
theorem q_next {u : T3} (hu : u.ok = true) (hl : u.l < 8) {i : Nat} (hi : i + 1 < 4) : (u.q i).hi = (u.q (i + 1)).lo := by
  obtain ⟨s, h1, h2, _, h3⟩ := quarts hu hl
  have a := (h3 i (by omega)).2
  have b := (h3 (i + 1) hi).1
  rw [a, b]; simp
/-- The four quarters stand at the end. -/
theorem Pre.tail {L : List T3} (h : Pre L) {u : T3} (hu : u.ok = true) (hl : u.l < 8) (hq : ∀ i, i < 4 → u.q i ∈ L) : ∃ A, L = A ++ [u.q 0, u.q 1, u.q 2, u.q 3] := by
  obtain ⟨A, rfl⟩ := h.nof u hu hl hq
  have h3 := h.srt
  obtain ⟨B, rfl⟩ := Pre.snoc_last h3 (hq 2 (by omega)) (q_next hu hl (by omega))
  have h2 : (B ++ [u.q 2]).Pairwise fun a b => a.hi ≤ b.lo := (List.pairwise_append.mp h3).1
  have m1 : u.q 1 ∈ B ++ [u.q 2] := by
    rcases List.mem_append.mp (hq 1 (by omega)) with e | e
    · exact e
    · simp at e; have := q_ne hu hl (i := 1) (j := 3) (by omega) (by omega) (by omega); rw [e] at this; have := (u.q 3).lt; omega
  obtain ⟨C, rfl⟩ := Pre.snoc_last h2 m1 (q_next hu hl (by omega))
  have h1 : (C ++ [u.q 1]).Pairwise fun a b => a.hi ≤ b.lo := (List.pairwise_append.mp h2).1
  have m0 : u.q 0 ∈ C ++ [u.q 1] := by
    rcases List.mem_append.mp (hq 0 (by omega)) with e | e
    · rcases List.mem_append.mp e with e | e
      · exact e
      · simp at e; have := q_ne hu hl (i := 0) (j := 2) (by omega) (by omega) (by omega); rw [e] at this; have := (u.q 2).lt; omega
    · simp at e; have := q_ne hu hl (i := 0) (j := 3) (by omega) (by omega) (by omega); rw [e] at this; have := (u.q 3).lt; omega
  obtain ⟨D, rfl⟩ := Pre.snoc_last h1 m0 (q_next hu hl (by omega))
  exact ⟨D, by simp⟩
theorem Pre.canon {L : List T3} (h : Pre L) (hno : ∀ u : T3, u.ok = true → u.l < 8 → ¬ ∃ A, L = A ++ [u.q 0, u.q 1, u.q 2, u.q 3]) : Canon L :=
  ⟨h.ok, h.srt, fun u hu hl hq => hno u hu hl (h.tail hu hl hq)⟩
theorem Pre.fold {A : List T3} {u : T3} (hu : u.ok = true) (hl : u.l < 8) (h : Pre (A ++ [u.q 0, u.q 1, u.q 2, u.q 3])) : Pre (A ++ [u]) ∧ ∀ n, cov (A ++ [u]) n ↔ cov (A ++ [u.q 0, u.q 1, u.q 2, u.q 3]) n := by
  obtain ⟨s, h1, h2, _, h3⟩ := quarts hu hl
  have a0 := h3 0 (by omega); have a1 := h3 1 (by omega); have a2 := h3 2 (by omega); have a3 := h3 3 (by omega)
  simp at a0 a1 a2 a3
  have hs := List.pairwise_append.mp h.srt
  have hA : ∀ m ∈ A, m.hi ≤ u.lo := fun m hm => by have := hs.2.2 m hm (u.q 0) (by simp); omega
  have hcA : Canon A := by
    refine ⟨fun c hc => h.ok c (by simp [hc]), hs.1, fun v hv hvl hq => ?_⟩
    obtain ⟨B, hB⟩ := h.nof v hv hvl (fun i hi => List.mem_append.mpr (.inl (hq i hi)))
    have e : v.q 3 = u.q 3 := by
      have e1 := congrArg List.getLast? hB
      simp at e1
      exact e1.symm
    have := hA _ (hq 3 (by omega))
    rw [e] at this
    have := (u.q 3).lt
    omega
  refine ⟨hcA.snoc hu hA, fun n => ?_⟩
  rw [cov_append, cov_append]
  refine or_congr Iff.rfl ?_
  constructor
  · rintro ⟨c, hc, n1, n2⟩
    simp at hc; subst hc
    by_cases c0 : n < c.lo + s
    · exact ⟨c.q 0, by simp, by omega, by omega⟩
    by_cases c1 : n < c.lo + 2 * s
    · exact ⟨c.q 1, by simp, by omega, by omega⟩
    by_cases c2 : n < c.lo + 3 * s
    · exact ⟨c.q 2, by simp, by omega, by omega⟩
    · exact ⟨c.q 3, by simp, by omega, by omega⟩
  · rintro ⟨c, hc, n1, n2⟩
    refine ⟨u, by simp, ?_⟩
    simp at hc
    rcases hc with rfl | rfl | rfl | rfl
    · exact ⟨by omega, by omega⟩
    · exact ⟨by omega, by omega⟩
    · exact ⟨by omega, by omega⟩
    · exact ⟨by omega, by omega⟩
end Go.Proofs.Ytamnmakegdnblaa.M
