/-
  A shape upside down; the counts of the law: Spots on edges, Spots within by the other rule.
-/
import Derived.Test.YtipdfajojcpolaaV4
namespace Go.Proofs.Ytipdfajojcpolaa
def rf (u : T2) : T2 := ⟨u.x, -u.y⟩
theorem df_rf (a s : T2) : df (rf a) (rf s) = rf (df a s) := by simp only [df, rf]; congr 1; omega
theorem kx_rf (u v : T2) : kx (rf u) (rf v) = - kx u v := by simp only [kx, rf]; grind
theorem tr_rf (a b c : T2) : tr (rf a) (rf b) (rf c) = - tr a b c := by unfold tr; rw [df_rf, df_rf, kx_rf]
theorem bt_rf (a b c : T2) : bt (rf a) (rf b) (rf c) ↔ bt a b c := by
  unfold bt rf
  have e : (-a.y - -c.y) * (-b.y - -c.y) = (a.y - c.y) * (b.y - c.y) := by grind
  simp only
  rw [e]
theorem on_rf (a b c : T2) : On (rf a) (rf b) (rf c) ↔ On a b c := by
  unfold On
  rw [tr_rf, bt_rf]
  constructor
  · rintro ⟨h1, h2⟩; exact ⟨by omega, h2⟩
  · rintro ⟨h1, h2⟩; exact ⟨by omega, h2⟩
theorem NC.rf {a a' b b' : T2} (h : NC a a' b b') : NC (rf a) (rf a') (rf b) (rf b') := by
  refine ⟨?_, ?_, ?_, ?_, ?_⟩
  · rw [tr_rf, tr_rf, tr_rf, tr_rf, opp_neg, opp_neg]; exact h.x
  · rw [tr_rf, bt_rf]; intro z; exact h.p (by omega)
  · rw [tr_rf, bt_rf]; intro z; exact h.q (by omega)
  · rw [tr_rf, bt_rf]; intro z; exact h.r (by omega)
  · rw [tr_rf, bt_rf]; intro z; exact h.s (by omega)
theorem Shp.rf {n : Nat} {p : Nat → T2} (h : Shp n p) : Shp n (fun i => Go.Proofs.Ytipdfajojcpolaa.rf (p i)) where
  n3 := h.n3
  per i := by show Go.Proofs.Ytipdfajojcpolaa.rf (p (i + n)) = _; rw [h.per]
  tn i := by
    have e : ∀ k, ev (fun i => Go.Proofs.Ytipdfajojcpolaa.rf (p i)) k = Go.Proofs.Ytipdfajojcpolaa.rf (ev p k) := fun k => df_rf _ _
    rw [e, e, kx_rf]
    have := h.tn i
    omega
  nc i t h1 h2 := (h.nc i t h1 h2).rf
theorem sDb_rf (n : Nat) (p : Nat → T2) : sDb n (fun i => rf (p i)) = - sDb n p := by
  unfold sDb
  have : sm (fun j => ((rf (p (j + 1))).y - (rf (p j)).y) * ((rf (p j)).x + (rf (p (j + 1))).x)) n = sm (fun j => -1 * (((p (j + 1)).y - (p j).y) * ((p j).x + (p (j + 1)).x))) n := sm_congr fun j _ => by simp only [rf]; grind
  rw [this, sm_mul]; omega
theorem sEd_rf (n : Nat) (p : Nat → T2) : sEd n (fun i => rf (p i)) = sEd n p := by
  unfold sEd
  refine sm_congr fun j _ => ?_
  unfold gdI rf
  simp only
  rw [show (-(p (j + 1)).y - -(p j).y).natAbs = ((p (j + 1)).y - (p j).y).natAbs by omega]
theorem sm_comm (f : Nat → Nat → Int) (m : Nat) : ∀ n, sm (fun x => sm (fun y => f x y) m) n = sm (fun y => sm (fun x => f x y) n) m
  | 0 => (sm_zero m).symm
  | n + 1 => by
    simp only [sm]
    rw [sm_comm f m n, ← sm_add]
theorem sm_turn (G : Nat → Int) (D : Nat) : sm (fun k => G (D - k)) (D + 1) = sm G (D + 1) := by
  have := sm_rev (fun k => G (k - 1)) (D + 1)
  simp only [Nat.add_sub_cancel] at this
  rw [← this]
  refine sm_congr fun k hk => ?_
  congr 1; omega
/-- Within, by the rule of the law: 31 Spots across, 31 up. -/
theorem bx_flip (f : T2 → Int) : sm (fun x => sm (fun y => f (rf ⟨(x : Nat), (y : Nat)⟩)) 31) 31 = bx 0 (-30) 31 31 f := by
  rw [sm_comm]
  unfold bx
  rw [← sm_turn (fun r => sm (fun x => f ⟨0 + (x : Nat), -30 + (r : Nat)⟩) 31) 30]
  refine sm_congr fun y hy => sm_congr fun x hx => ?_
  congr 1
  unfold rf
  exact T2.ext' (by simp only; omega) (by simp only; omega)
theorem bx_flat (f : T2 → Int) : sm (fun x => sm (fun y => f ⟨(x : Nat), (y : Nat)⟩) 31) 31 = bx 0 0 31 31 f := by
  rw [sm_comm]
  unfold bx
  refine sm_congr fun y hy => sm_congr fun x hx => ?_
  congr 1
  exact T2.ext' (by simp only; omega) (by simp only; omega)
def onS (n : Nat) (p : Nat → T2) (s : T2) : Int := if sm (fun j => onI (p j) (p (j + 1)) s) n = 0 then 0 else 1
theorem on_count {n : Nat} {p : Nat → T2} (h : Shp n p) {X0 Y0 : Int} {w hh : Nat} (hb : ∀ j, InB X0 Y0 w hh (p j)) : bx X0 Y0 w hh (onS n p) = sEd n p := by
  have e : bx X0 Y0 w hh (onS n p) = bx X0 Y0 w hh (fun s => sm (fun j => hop p s j) n) := bx_congr fun s _ => by
    unfold onS
    by_cases ho : ∃ j, j < n ∧ onE p s j
    · have e1 := hop_sum h s ho
      rw [if_neg (fun z => on_none.mp z ho)]; exact e1.symm
    · have e1 := hop_none (n := n) (p := p) s ho
      rw [if_pos (on_none.mpr ho)]; exact e1.symm
  rw [e, bx_sm (fun j s => hop p s j) n]
  unfold sEd
  refine sm_congr fun j _ => ?_
  have : bx X0 Y0 w hh (fun s => hop p s j) = bx X0 Y0 w hh (onI (p j) (p (j + 1))) - bx X0 Y0 w hh (fun s => eqI (p (j + 1)) s * 1) := by
    rw [← bx_sub]
    exact bx_congr fun s _ => by unfold hop; omega
  rw [this, on_edge (hb j) (hb (j + 1)), bx_eq (hb (j + 1)) (fun _ => 1)]; omega
/-- The law's two counts, over 31 by 31 Spots. -/
def edS (L : List T2) (s : T2) : Int := onS L.length (cyc L) s
def inS (L : List T2) (s : T2) : Int := innI L.length (fun i => rf (cyc L i)) (rf s)
theorem law_ed {L : List T2} (h : shB L = true) (h30 : ∀ c ∈ L, c.x ≤ 30 ∧ c.y ≤ 30) : sm (fun x => sm (fun y => edS L ⟨(x : Nat), (y : Nat)⟩) 31) 31 = esum L L.length := by
  have hr := sh_rt h
  have l3 := (rt_len hr).1
  rw [bx_flat (edS L), esum_ed]
  refine on_count (sh_shp h) fun j => ?_
  have hj := Nat.mod_lt j (show 0 < L.length by omega)
  have hm : cyc L j ∈ L := by unfold cyc; rw [nth_lt hj]; exact List.getElem_mem hj
  have a := spB_t.mp (rt_all hr _ hm)
  have b := h30 _ hm
  exact ⟨by omega, by omega, by omega, by omega⟩
theorem law_in {L : List T2} (h : shB L = true) (h30 : ∀ c ∈ L, c.x ≤ 30 ∧ c.y ≤ 30) : sm (fun x => sm (fun y => inS L ⟨(x : Nat), (y : Nat)⟩) 31) 31 = witI L := by
  have hr := sh_rt h
  have l3 := (rt_len hr).1
  have e := bx_flip (innI L.length (fun i => rf (cyc L i)))
  have p := pick (sh_shp h).rf (X0 := 0) (Y0 := -30) (w := 31) (hh := 31) fun j => by
    have hj := Nat.mod_lt j (show 0 < L.length by omega)
    have hm : cyc L j ∈ L := by unfold cyc; rw [nth_lt hj]; exact List.getElem_mem hj
    have a := spB_t.mp (rt_all hr _ hm)
    have b := h30 _ hm
    exact ⟨by simp only [rf]; omega, by simp only [rf]; omega, by simp only [rf]; omega, by simp only [rf]; omega⟩
  rw [sDb_rf, sEd_rf, ← dsum_db, ← esum_ed] at p
  unfold inS witI
  rw [e, if_pos h]
  omega
/-- Between, by the law's product. -/
theorem dot_btw {p q s : T2} (hk : crT p q s = 0) : ((p.x - s.x) * (q.x - s.x) + (p.y - s.y) * (q.y - s.y) ≤ 0) ↔ btwB p q s = true := by
  rw [← bt_btw]
  unfold bt
  have hk' : (p.x - s.x) * (q.y - s.y) = (p.y - s.y) * (q.x - s.x) := by have := kx_cr p q s; rw [hk] at this; simp only [kx, df] at this; omega
  have sq : 0 ≤ ((p.x - s.x) * (q.x - s.x)) * ((p.y - s.y) * (q.y - s.y)) := by
    have e : ((p.x - s.x) * (q.x - s.x)) * ((p.y - s.y) * (q.y - s.y)) = ((p.x - s.x) * (q.y - s.y)) * ((p.x - s.x) * (q.y - s.y)) := by
      have : ((p.x - s.x) * (q.x - s.x)) * ((p.y - s.y) * (q.y - s.y)) = ((p.x - s.x) * (q.y - s.y)) * ((p.y - s.y) * (q.x - s.x)) := by grind
      rw [this, ← hk']
    rw [e]; exact sq_nn _
  generalize (p.x - s.x) * (q.x - s.x) = m at *
  generalize (p.y - s.y) * (q.y - s.y) = n at *
  constructor
  · intro h
    have mn := mul_sg m n
    rcases Int.lt_trichotomy m 0 with a | a | a
    · rcases Int.lt_or_le 0 n with b | b
      · have := Int.mul_neg_of_neg_of_pos a b; omega
      · omega
    · omega
    · rcases Int.lt_or_le n 0 with b | b
      · have := Int.mul_neg_of_pos_of_neg a b; omega
      · omega
  · rintro ⟨a, b⟩; omega
/-- The law's rule of what is crossed. -/
def xrB (p q s : T2) : Bool := (decide (s.y < p.y) != decide (s.y < q.y)) && (decide (q.y < p.y) == decide (crT p q s < 0))
theorem xr_chi {p q s : T2} (h : onB p q s = false) : xrB p q s = decide (chi (df (rf p) (rf s)) (df (rf q) (rf s)) ≠ 0) := by
  have hn : ¬ On p q s := fun ho => by rw [onB_on.mpr ho] at h; cases h
  have oc := off_cond hn
  rw [kx_cr] at oc
  have oc2 : crT p q s = 0 → ¬ ((s.y < p.y ∧ q.y ≤ s.y) ∨ (s.y < q.y ∧ p.y ≤ s.y)) := by
    intro hz hs
    -- on the edge
    have hn2 : ¬ On (rf p) (rf q) (rf s) := fun ho => hn ((on_rf _ _ _).mp ho)
    have := off_cond hn2
    rw [df_rf, df_rf, kx_rf, kx_cr] at this
    refine this (by omega) ?_
    simp only [rf, df]
    omega
  have e : chi (df (rf p) (rf s)) (df (rf q) (rf s)) = chN (s.y - p.y) (s.y - q.y) (-crT p q s) := by
    rw [df_rf, df_rf]
    unfold chi
    rw [kx_rf, kx_cr, show (rf (df p s)).y = s.y - p.y by simp only [rf, df]; omega, show (rf (df q s)).y = s.y - q.y by simp only [rf, df]; omega]
  rw [e]
  unfold xrB
  generalize crT p q s = k at *
  generalize hch : chN (s.y - p.y) (s.y - q.y) (-k) = c
  clear e oc
  unfold chN at hch
  by_cases h1 : s.y < p.y <;> by_cases h2 : s.y < q.y
  · rw [if_neg (by omega), if_neg (by omega)] at hch
    rw [decide_eq_true h1, decide_eq_true h2, ← hch]; rfl
  · rw [decide_eq_true h1, decide_eq_false h2, decide_eq_true (show q.y < p.y by omega)]
    by_cases h3 : k < 0
    · rw [if_pos (by omega)] at hch
      rw [decide_eq_true h3, ← hch]; rfl
    · rw [if_neg (by omega), if_neg (by omega)] at hch
      rw [decide_eq_false h3, ← hch]; rfl
  · rw [decide_eq_false h1, decide_eq_true h2, decide_eq_false (show ¬ q.y < p.y by omega)]
    by_cases h3 : k < 0
    · rw [if_neg (by omega), if_neg (by omega)] at hch
      rw [decide_eq_true h3, ← hch]; rfl
    · rw [if_neg (by omega), if_pos (by omega)] at hch
      rw [decide_eq_false h3, ← hch]; rfl
  · rw [if_neg (by omega), if_neg (by omega)] at hch
    rw [decide_eq_false h1, decide_eq_false h2, ← hch]; rfl
/-- Odd, as far as j, by the law's rule. -/
def odL (L : List T2) (s : T2) : Nat → Bool
  | 0 => false
  | j + 1 => xor (odL L s j) (xrB (nth L j) (nth L ((j + 1) % L.length)) s)
def anL (L : List T2) (s : T2) : Nat → Bool
  | 0 => false
  | j + 1 => anL L s j || onB (nth L j) (nth L ((j + 1) % L.length)) s
theorem anL_f {L : List T2} {s : T2} : ∀ {n}, anL L s n = false → ∀ j, j < n → onB (nth L j) (nth L ((j + 1) % L.length)) s = false
  | n + 1, h, j, hj => by
    simp only [anL, Bool.or_eq_false_iff] at h
    by_cases e : j = n
    · subst e; exact h.2
    · exact anL_f h.1 j (by omega)
theorem anL_t {L : List T2} {s : T2} : ∀ {n}, anL L s n = true → ∃ j, j < n ∧ onB (nth L j) (nth L ((j + 1) % L.length)) s = true
  | n + 1, h => by
    simp only [anL, Bool.or_eq_true] at h
    rcases h with h | h
    · obtain ⟨j, h1, h2⟩ := anL_t h; exact ⟨j, by omega, h2⟩
    · exact ⟨n, by omega, h⟩
theorem ed_an {L : List T2} {s : T2} : edS L s = if anL L s L.length then 1 else 0 := by
  unfold edS onS
  cases h : anL L s L.length
  · rw [if_pos]; rfl
    refine on_none.mpr ?_
    rintro ⟨j, hj, ho⟩
    unfold onE at ho
    rw [cyc_lt hj] at ho
    have ho' : On (nth L j) (nth L ((j + 1) % L.length)) s := ho
    have := anL_f h j hj
    rw [onB_on.mpr ho'] at this; cases this
  · rw [if_neg]; rfl
    intro hz
    obtain ⟨j, hj, ho⟩ := anL_t h
    refine on_none.mp hz ⟨j, hj, ?_⟩
    unfold onE
    rw [cyc_lt hj]
    exact onB_on.mp ho
theorem in_an {L : List T2} {s : T2} : inS L s = if anL L s L.length then 0 else if odL L s L.length then 1 else 0 := by
  unfold inS innI
  have onr : sm (fun j => onI (rf (cyc L j)) (rf (cyc L (j + 1))) (rf s)) L.length = 0 ↔ anL L s L.length = false := by
    rw [on_none (p := fun i => rf (cyc L i))]
    constructor
    · intro h
      cases ha : anL L s L.length
      · rfl
      · obtain ⟨j, hj, ho⟩ := anL_t ha
        refine absurd ⟨j, hj, ?_⟩ h
        unfold onE
        refine (on_rf _ _ _).mpr ?_
        rw [cyc_lt hj]
        exact onB_on.mp ho
    · rintro h ⟨j, hj, ho⟩
      unfold onE at ho
      have ho := (on_rf _ _ _).mp ho
      rw [cyc_lt hj] at ho
      have ho' : On (nth L j) (nth L ((j + 1) % L.length)) s := ho
      have := anL_f h j hj
      rw [onB_on.mpr ho'] at this; cases this
  cases ha : anL L s L.length
  · have par : ∀ n, n ≤ L.length → odL L s n = decide (sm (fun j => chi (df (rf (cyc L j)) (rf s)) (df (rf (cyc L (j + 1))) (rf s))) n % 2 = 1) := by
      intro n
      induction n with
      | zero => intro _; simp [odL, sm]
      | succ n ih =>
        intro hn
        have e : sm (fun j => chi (df (rf (cyc L j)) (rf s)) (df (rf (cyc L (j + 1))) (rf s))) (n + 1) = sm (fun j => chi (df (rf (cyc L j)) (rf s)) (df (rf (cyc L (j + 1))) (rf s))) n + chi (df (rf (nth L n)) (rf s)) (df (rf (nth L ((n + 1) % L.length))) (rf s)) := by
          rw [← cyc_lt (show n < L.length by omega)]; rfl
        rw [e]
        simp only [odL]
        rw [ih (by omega), xr_chi (anL_f ha n (by omega))]
        generalize sm (fun j => chi (df (rf (cyc L j)) (rf s)) (df (rf (cyc L (j + 1))) (rf s))) n = m
        have hc : ∀ u v, chi u v = 0 ∨ chi u v = 1 ∨ chi u v = -1 := fun u v => by unfold chi chN; split; omega; split <;> omega
        have := hc (df (rf (nth L n)) (rf s)) (df (rf (nth L ((n + 1) % L.length))) (rf s))
        generalize chi (df (rf (nth L n)) (rf s)) (df (rf (nth L ((n + 1) % L.length))) (rf s)) = c at *
        by_cases h1 : m % 2 = 1 <;> by_cases h2 : c = 0
        · rw [decide_eq_true h1, decide_eq_false (show ¬ c ≠ 0 by omega), decide_eq_true (show (m + c) % 2 = 1 by omega)]; rfl
        · rw [decide_eq_true h1, decide_eq_true (show c ≠ 0 from h2), decide_eq_false (show ¬ (m + c) % 2 = 1 by omega)]; rfl
        · rw [decide_eq_false h1, decide_eq_false (show ¬ c ≠ 0 by omega), decide_eq_false (show ¬ (m + c) % 2 = 1 by omega)]; rfl
        · rw [decide_eq_false h1, decide_eq_true (show c ≠ 0 from h2), decide_eq_true (show (m + c) % 2 = 1 by omega)]; rfl
    rw [par L.length (Nat.le_refl _)]
    unfold W
    by_cases h1 : sm (fun j => chi (df (rf (cyc L j)) (rf s)) (df (rf (cyc L (j + 1))) (rf s))) L.length % 2 = 1
    · rw [if_pos ⟨onr.mpr ha, h1⟩, decide_eq_true h1]; rfl
    · rw [if_neg (fun hh => h1 hh.2), decide_eq_false h1]; rfl
  · rw [if_neg (fun hh => by have := onr.mp hh.1; rw [ha] at this; cases this)]; rfl
end Go.Proofs.Ytipdfajojcpolaa
