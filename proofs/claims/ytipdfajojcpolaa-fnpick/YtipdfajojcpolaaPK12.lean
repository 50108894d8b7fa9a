/-
  What a shape is, as the spec says it, is a shape as Pick's theorem wants it.
-/
import Derived.Test.YtipdfajojcpolaaPK11
import Derived.Test.YtipdfajojcpolaaC2
namespace Go.Proofs.Ytipdfajojcpolaa
def cyc (L : List T2) (i : Nat) : T2 := nth L (i % L.length)
theorem tr_cr (a b c : T2) : tr a b c = crT a b c := rfl
theorem bt_btw {a b c : T2} : bt a b c ↔ btwB a b c = true := by
  unfold bt btwB
  rw [decide_eq_true_iff, ← btw_iff, ← btw_iff]
  unfold btw
  exact ⟨fun h => ⟨h.1.1, h.1.2, h.2.1, h.2.2⟩, fun h => ⟨⟨h.1, h.2.1⟩, h.2.2.1, h.2.2.2⟩⟩
theorem nc_cut {a b c d : T2} (h : cutB a b c d = false) : NC a b c d := by
  unfold cutB cutS at h
  simp only [Bool.or_eq_false_iff, Bool.and_eq_false_iff, decide_eq_false_iff_not, sg_neg, sg_0] at h
  obtain ⟨h1, ⟨⟨h2, h3⟩, h4⟩, h5⟩ := h
  have z : ∀ {x y z : T2}, (¬ crT x y z = 0 ∨ btwB x y z = false) → tr x y z = 0 → ¬ bt x y z := by
    intro x y z h e hb
    rw [tr_cr] at e
    rcases h with h | h
    · exact h e
    · rw [bt_btw.mp hb] at h; cases h
  refine ⟨fun ⟨o1, o2⟩ => ?_, z h2, z h3, z h4, z h5⟩
  rw [tr_cr, tr_cr] at o1 o2
  have m : ∀ {m n : Int}, opp m n → m * n < 0 := by
    intro m n o
    rcases o with ⟨a, b⟩ | ⟨a, b⟩
    · exact Int.mul_neg_of_pos_of_neg a b
    · exact Int.mul_neg_of_neg_of_pos a b
  rcases h1 with h1 | h1
  · exact h1 (m o1)
  · exact h1 (m o2)
theorem cyc_mod (L : List T2) (i t : Nat) : cyc L (i + t) = nth L ((i % L.length + t) % L.length) := by unfold cyc; rw [Nat.mod_add_mod]
theorem sh_shp {L : List T2} (h : shB L = true) : Shp L.length (cyc L) := by
  have hr := sh_rt h
  obtain ⟨l3, l12⟩ := rt_len hr
  have hall : ∀ i, i < L.length → crN L i ≠ 0 ∧ ∀ k, k < L.length → badK L i k = false := by
    unfold shB at h
    rw [hr, Bool.true_and] at h
    exact of_decide_eq_true h
  have hcut : ∀ i k, i < L.length → k < L.length → i + 2 ≤ k → ¬ (i = 0 ∧ k + 1 = L.length) → NC (nth L i) (nth L ((i + 1) % L.length)) (nth L k) (nth L ((k + 1) % L.length)) := by
    intro i k hi hk h1 h2
    have := (hall i hi).2 k hk
    unfold badK at this
    rw [decide_eq_true ⟨h1, h2⟩, Bool.true_and] at this
    exact nc_cut this
  refine ⟨l3, fun i => by unfold cyc; rw [Nat.add_mod_right], fun i => ?_, fun i t h1 h2 => ?_⟩
  · have hi := Nat.mod_lt i (show 0 < L.length by omega)
    have := (hall (i % L.length) hi).1
    unfold crN at this
    rw [← tr_cr] at this
    have e : kx (ev (cyc L) i) (ev (cyc L) (i + 1)) = tr (cyc L i) (cyc L (i + 1)) (cyc L (i + 2)) := by simp only [ev, tr, kx, df, Nat.add_assoc, Nat.reduceAdd]; grind
    rw [e, cyc_mod L i 1, cyc_mod L i 2]
    exact this
  · have hi := Nat.mod_lt i (show 0 < L.length by omega)
    obtain ⟨r, hr'⟩ : ∃ r, r = i % L.length := ⟨_, rfl⟩
    rw [← hr'] at hi
    have e0 : cyc L i = nth L r := by rw [hr']; rfl
    have e1 : cyc L (i + 1) = nth L ((r + 1) % L.length) := by rw [cyc_mod, ← hr']
    have e2 : cyc L (i + t) = nth L ((r + t) % L.length) := by rw [cyc_mod, ← hr']
    have e3 : cyc L (i + t + 1) = nth L (((r + t) % L.length + 1) % L.length) := by rw [Nat.add_assoc, cyc_mod, ← hr', Nat.mod_add_mod, Nat.add_assoc]
    rw [e0, e1, e2, e3]
    by_cases hw : r + t < L.length
    · rw [Nat.mod_eq_of_lt hw]
      exact hcut r (r + t) hi hw (by omega) (by omega)
    · have e : (r + t) % L.length = r + t - L.length := by rw [Nat.mod_eq_sub_mod (by omega), Nat.mod_eq_of_lt (by omega)]
      rw [e]
      exact (hcut (r + t - L.length) r (by omega) hi (by omega) (by omega)).flip
theorem cyc_lt {L : List T2} {i : Nat} (h : i < L.length) : cyc L i = nth L i := by unfold cyc; rw [Nat.mod_eq_of_lt h]
theorem dsum_sm (L : List T2) : ∀ k, dsum L k = sm (fun j => (nth L j).x * (nth L ((j + 1) % L.length)).y - (nth L ((j + 1) % L.length)).x * (nth L j).y) k
  | 0 => rfl
  | k + 1 => by simp only [dsum, sm]; rw [dsum_sm L k]
theorem esum_sm (L : List T2) : ∀ k, esum L k = sm (fun j => (gq (nth L j) (nth L ((j + 1) % L.length)) : Nat)) k
  | 0 => rfl
  | k + 1 => by simp only [esum, sm]; rw [esum_sm L k]
theorem dsum_db (L : List T2) : dsum L L.length = sDb L.length (cyc L) := by
  rw [dsum_sm]
  unfold sDb
  have tel := sm_tel (fun j => (cyc L j).x * (cyc L j).y) L.length
  have hp : cyc L L.length = cyc L 0 := by unfold cyc; rw [Nat.mod_self, Nat.zero_mod]
  rw [hp, Int.sub_self] at tel
  have e : sm (fun j => ((cyc L (j + 1)).y - (cyc L j).y) * ((cyc L j).x + (cyc L (j + 1)).x)) L.length = sm (fun j => ((nth L j).x * (nth L ((j + 1) % L.length)).y - (nth L ((j + 1) % L.length)).x * (nth L j).y) - ((cyc L j).x * (cyc L j).y - (cyc L (j + 1)).x * (cyc L (j + 1)).y)) L.length := by
    refine sm_congr fun j hj => ?_
    have a : cyc L j = nth L j := cyc_lt hj
    have b : cyc L (j + 1) = nth L ((j + 1) % L.length) := rfl
    rw [a, b]; grind
  have s := sm_sub (fun j => (nth L j).x * (nth L ((j + 1) % L.length)).y - (nth L ((j + 1) % L.length)).x * (nth L j).y) (fun j => (cyc L j).x * (cyc L j).y - (cyc L (j + 1)).x * (cyc L (j + 1)).y) L.length
  rw [tel, Int.sub_zero] at s
  rw [e, s]
theorem esum_ed (L : List T2) : esum L L.length = sEd L.length (cyc L) := by
  rw [esum_sm]
  unfold sEd
  refine sm_congr fun j hj => ?_
  have a : cyc L j = nth L j := cyc_lt hj
  have b : cyc L (j + 1) = nth L ((j + 1) % L.length) := rfl
  rw [a, b]
  unfold gq gdI
  rw [Nat.gcd_comm]
/-- The Spots within, counted as the program does: row by row. -/
def spotAt (X0 Y0 : Int) (w k : Nat) : T2 := ⟨X0 + (k % w : Nat), Y0 + (k / w : Nat)⟩
theorem sm_rows (f : Nat → Nat → Int) (w : Nat) (hw : 0 < w) : ∀ h, sm (fun k => f (k % w) (k / w)) (w * h) = sm (fun r => sm (fun x => f x r) w) h
  | 0 => by simp [sm]
  | h + 1 => by
    rw [Nat.mul_succ, sm_cat, sm_rows f w hw h]
    simp only [sm]
    congr 1
    refine sm_congr fun k hk => ?_
    rw [Nat.mul_add_mod, Nat.mod_eq_of_lt hk, Nat.mul_add_div hw, Nat.div_eq_of_lt hk, Nat.add_zero]
theorem bx_rows (X0 Y0 : Int) (w h : Nat) (hw : 0 < w) (f : T2 → Int) : sm (fun k => f (spotAt X0 Y0 w k)) (w * h) = bx X0 Y0 w h f :=
  sm_rows (fun x r => f ⟨X0 + (x : Nat), Y0 + (r : Nat)⟩) w hw h
/-- Pick's theorem for a list that is a shape, over any box that has its corners. -/
theorem pick_L {L : List T2} (h : shB L = true) {X0 Y0 : Int} {w hh : Nat} (hb : ∀ c ∈ L, InB X0 Y0 w hh c) : 2 * bx X0 Y0 w hh (innI L.length (cyc L)) = max (dsum L L.length) (-dsum L L.length) - esum L L.length + 2 := by
  rw [dsum_db, esum_ed]
  refine pick (sh_shp h) fun j => ?_
  have l3 := (rt_len (sh_rt h)).1
  have := Nat.mod_lt j (show 0 < L.length by omega)
  unfold cyc
  rw [nth_lt this]
  exact hb _ (List.getElem_mem this)
end Go.Proofs.Ytipdfajojcpolaa
