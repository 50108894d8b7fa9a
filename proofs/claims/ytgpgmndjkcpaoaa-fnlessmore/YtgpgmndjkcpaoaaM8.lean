/-
  The mathematics of layers, further: what each has, what is shared; which Spot lies how deep.
-/
import Derived.Test.YtgpgmndjkcpaoaaM7
namespace Go.Proofs.Ytgpgmndjkcpaoaa

/-- A sum of what stands at each place, weighed. -/
def lin (φ : Nat → Int) : Nat → List Int → Int
  | _, [] => 0
  | i, a :: t => φ i * a + lin φ (i + 1) t
theorem lin_bump (φ : Nat → Int) (z : Int) : ∀ (o : List Int) (j d : Nat), d < o.length → lin φ j (bump o d z) = lin φ j o + φ (j + d) * z
  | [], j, d, h => by simp at h
  | a :: t, j, 0, _ => by
    simp only [bump, List.getD_cons_zero, List.set_cons_zero, lin, Nat.add_zero]
    rw [Int.mul_add]; omega
  | a :: t, j, d + 1, h => by
    have ih := lin_bump φ z t (j + 1) d (by simpa using h)
    have e : bump (a :: t) (d + 1) z = a :: bump t d z := by simp [bump]
    rw [e]
    simp only [lin]
    rw [ih, show j + 1 + d = j + (d + 1) by omega]; omega
def sumM {α : Type} (f : α → Int) (l : List α) : Int := sumI (l.map f)
theorem sumM_cons {α : Type} (f : α → Int) (a : α) (l : List α) : sumM f (a :: l) = f a + sumM f l := rfl
theorem sumM_nil {α : Type} (f : α → Int) : sumM f ([] : List α) = 0 := rfl
theorem sumM_add {α : Type} (f g : α → Int) : ∀ l : List α, sumM (fun a => f a + g a) l = sumM f l + sumM g l
  | [] => rfl
  | a :: t => by rw [sumM_cons, sumM_cons, sumM_cons, sumM_add f g t]; omega
theorem sumM_mul {α : Type} (f : α → Int) (c : Int) : ∀ l : List α, sumM (fun a => c * f a) l = c * sumM f l
  | [] => by simp [sumM_nil]
  | a :: t => by rw [sumM_cons, sumM_cons, sumM_mul f c t, Int.mul_add]
theorem sumM_congr {α : Type} {f g : α → Int} : ∀ {l : List α}, (∀ a ∈ l, f a = g a) → sumM f l = sumM g l
  | [], _ => rfl
  | a :: t, h => by rw [sumM_cons, sumM_cons, h a (by simp), sumM_congr (fun b hb => h b (by simp [hb]))]
theorem sumM_nonneg {α : Type} {f : α → Int} : ∀ {l : List α}, (∀ a ∈ l, 0 ≤ f a) → 0 ≤ sumM f l
  | [], _ => by simp [sumM_nil]
  | a :: t, h => by
    rw [sumM_cons]
    have h1 := h a (by simp)
    have h2 := sumM_nonneg (l := t) (fun b hb => h b (by simp [hb]))
    omega
theorem sumM_ge {α : Type} {f : α → Int} {x : α} : ∀ {l : List α}, (∀ a ∈ l, 0 ≤ f a) → x ∈ l → f x ≤ sumM f l
  | [], _, hx => by cases hx
  | a :: t, h, hx => by
    rw [sumM_cons]
    have h1 := h a (by simp)
    have h2 := sumM_nonneg (l := t) (fun b hb => h b (by simp [hb]))
    rcases List.mem_cons.1 hx with e | e
    · subst e; omega
    · have := sumM_ge (l := t) (fun b hb => h b (by simp [hb])) e; omega
theorem sumM_prod {α β : Type} (u : α → Int) (v : β → Int) (m : List β) : ∀ l : List α, sumM (fun a => sumM (fun b => u a * v b) m) l = sumM u l * sumM v m
  | [] => by simp [sumM_nil]
  | a :: t => by rw [sumM_cons, sumM_cons, sumM_prod u v m t, sumM_mul, Int.add_mul]
theorem lin_accB (φ : Nat → Int) (L : List T4) (s : T2) : ∀ (bs : List T2) (o : List Int), L.length < o.length → lin φ 0 (accB L s bs o) = lin φ 0 o + sumM (fun b => φ (dep L s b) * (lenS s * lenS b)) bs
  | [], o, _ => by simp [accB, sumM_nil]
  | b :: t, o, h => by
    have ih := lin_accB φ L s t (bump o (dep L s b) (lenS s * lenS b)) (by rw [bump_len]; exact h)
    have e : accB L s (b :: t) o = accB L s t (bump o (dep L s b) (lenS s * lenS b)) := rfl
    rw [e, ih, lin_bump _ _ _ _ _ (Nat.lt_of_le_of_lt (dep_le L s b) h), Nat.zero_add, sumM_cons]; omega
theorem lin_accS (φ : Nat → Int) (L : List T4) (bs : List T2) : ∀ (ss : List T2) (o : List Int), L.length < o.length → lin φ 0 (accS L ss bs o) = lin φ 0 o + sumM (fun s => sumM (fun b => φ (dep L s b) * (lenS s * lenS b)) bs) ss
  | [], o, _ => by simp [accS, sumM_nil]
  | s :: t, o, h => by
    have ih := lin_accS φ L bs t (accB L s bs o) (by rw [accB_len]; exact h)
    have e : accS L (s :: t) bs o = accS L t bs (accB L s bs o) := rfl
    rw [e, ih, lin_accB φ L s bs o h, sumM_cons]; omega
theorem lin_zero (φ : Nat → Int) : ∀ (n j : Nat), lin φ j (List.replicate n 0) = 0
  | 0, _ => rfl
  | n + 1, j => by rw [List.replicate_succ]; simp only [lin]; rw [lin_zero φ n (j + 1)]; simp
/-- The sum over all pieces of the grid, by their depth. -/
theorem lin_dps (φ : Nat → Int) (L : List T4) : lin φ 0 (dpsL L) = sumM (fun s => sumM (fun b => φ (dep L s b) * (lenS s * lenS b)) (pcs (ysL L))) (pcs (xsL L)) := by
  unfold dpsL
  rw [lin_accS φ L _ _ _ (by simp), lin_zero]; omega

theorem pcs_two (x y : Int) (t : List Int) : pcs (x :: y :: t) = ⟨x, y⟩ :: pcs (y :: t) := by
  unfold pcs
  simp only [List.length_cons, Nat.add_sub_cancel]
  rw [List.range_succ_eq_map, List.map_cons, List.map_map]
  rfl
def cl (a b : Int) (s : T2) : Int := if a ≤ s.x ∧ s.y ≤ b then lenS s else 0
theorem srt_head {x : Int} {t : List Int} (h : (x :: t).Pairwise (· < ·)) {y : Int} (hy : y ∈ t) : x < y := (List.pairwise_cons.1 h).1 y hy
theorem tele_zero {b : Int} (a : Int) : ∀ {cs : List Int}, cs.Pairwise (· < ·) → (∀ x ∈ cs, b ≤ x) → sumM (cl a b) (pcs cs) = 0
  | [], _, _ => rfl
  | [x], _, _ => rfl
  | x :: y :: t, hs, hb => by
    have h2 := (List.pairwise_cons.1 hs).2
    rw [pcs_two, sumM_cons, tele_zero a h2 (fun z hz => hb z (by simp [hz]))]
    have h1 := hb x (by simp)
    have h3 := srt_head hs (y := y) (by simp)
    unfold cl
    rw [if_neg (by simp only; omega)]; rfl
theorem cl_low {cs : List Int} {a a' b : Int} (h : ∀ s ∈ pcs cs, a ≤ s.x ∧ a' ≤ s.x) : sumM (cl a b) (pcs cs) = sumM (cl a' b) (pcs cs) := by
  refine sumM_congr fun s hs => ?_
  have := h s hs
  unfold cl
  by_cases hc : s.y ≤ b
  · rw [if_pos ⟨this.1, hc⟩, if_pos ⟨this.2, hc⟩]
  · rw [if_neg (fun h => hc h.2), if_neg (fun h => hc h.2)]
theorem pcs_ge {y : Int} {t : List Int} (hs : (y :: t).Pairwise (· < ·)) {s : T2} (h : s ∈ pcs (y :: t)) : y ≤ s.x := by
  obtain ⟨_, h2, _, _⟩ := pcs_gap hs h
  rcases List.mem_cons.1 h2 with e | e
  · omega
  · have := srt_head hs e; omega
theorem tele {a b : Int} : ∀ {cs : List Int}, cs.Pairwise (· < ·) → a ∈ cs → b ∈ cs → sumM (cl a b) (pcs cs) = if a ≤ b then b - a else 0
  | [], _, ha, _ => by cases ha
  | [x], _, ha, hb => by
    simp only [List.mem_singleton] at ha hb
    subst ha hb
    rw [if_pos (Int.le_refl _)]
    show (0 : Int) = _; omega
  | x :: y :: t, hs, ha, hb => by
    have h2 := (List.pairwise_cons.1 hs).2
    have hxy := srt_head hs (y := y) (by simp)
    rw [pcs_two, sumM_cons]
    rcases List.mem_cons.1 ha with e | ha'
    · subst e
      rcases List.mem_cons.1 hb with e | hb'
      · subst e
        rw [tele_zero b h2 (fun z hz => Int.le_of_lt (srt_head hs hz)), if_pos (Int.le_refl _)]
        unfold cl
        rw [if_neg (by simp only; omega)]; omega
      · have hyb : y ≤ b := by
          rcases List.mem_cons.1 hb' with e | e
          · omega
          · have := srt_head h2 e; omega
        rw [cl_low (a := a) (a' := y) (b := b) (fun s hs' => by have := pcs_ge h2 hs'; omega), tele h2 (by simp) hb']
        unfold cl lenS
        rw [if_pos (by simp only; omega), if_pos hyb, if_pos (by omega)]; simp only; omega
    · have hxa := srt_head hs ha'
      have hc : cl a b ⟨x, y⟩ = 0 := by unfold cl; rw [if_neg (by simp only; omega)]
      rw [hc]
      rcases List.mem_cons.1 hb with e | hb'
      · subst e
        rw [tele_zero a h2 (fun z hz => Int.le_of_lt (srt_head hs hz)), if_neg (by omega)]; omega
      · rw [tele h2 ha' hb']; omega
def bI (p : Bool) : Int := if p then 1 else 0
def sI (r : T4) (s : T2) : Int := if hasS (acr r) s then lenS s else 0
def uI (r : T4) (b : T2) : Int := if hasS (upr r) b then lenS b else 0
/-- What the pieces that a stretch has sum up to. -/
def ov (a b : Int) : Int := if a ≤ b then b - a else 0
theorem sum_sI {cs : List Int} (hs : cs.Pairwise (· < ·)) {a b : Int} (ha : a ∈ cs) (hb : b ∈ cs) : sumM (fun s => if hasS ⟨a, b⟩ s then lenS s else 0) (pcs cs) = ov a b := by
  unfold ov
  rw [← tele hs ha hb]
  refine sumM_congr fun s _ => ?_
  unfold hasS cl
  simp only [decide_eq_true_eq]
/-- The pieces that both stretches a..b across and c..d up have, weighed. -/
theorem sum_box {L : List T4} {a b c d : Int} (ha : a ∈ xsL L) (hb : b ∈ xsL L) (hc : c ∈ ysL L) (hd : d ∈ ysL L) : sumM (fun s => sumM (fun t => bI (hasS ⟨a, b⟩ s && hasS ⟨c, d⟩ t) * (lenS s * lenS t)) (pcs (ysL L))) (pcs (xsL L)) = ov a b * ov c d := by
  rw [← sum_sI (cutL_srt (cutsX L)) ha hb, ← sum_sI (cutL_srt (cutsY L)) hc hd]
  show _ = sumM _ (pcs (xsL L)) * sumM _ (pcs (ysL L))
  rw [← sumM_prod]
  refine sumM_congr fun s _ => sumM_congr fun t _ => ?_
  cases h1 : hasS ⟨a, b⟩ s <;> cases h2 : hasS ⟨c, d⟩ t <;> simp [bI]
theorem dep_cons (r : T4) (R : List T4) (s b : T2) : (dep (r :: R) s b : Int) = (dep R s b : Int) + bI (hasS (acr r) s && hasS (upr r) b) := by
  unfold dep
  rw [List.countP_cons]
  cases hasS (acr r) s && hasS (upr r) b <;> simp [bI]
theorem sum_dep {L : List T4} : ∀ {R : List T4}, (∀ r ∈ R, r ∈ L ∧ 0 ≤ r.w ∧ 0 ≤ r.h) → sumM (fun s => sumM (fun b => (dep R s b : Int) * (lenS s * lenS b)) (pcs (ysL L))) (pcs (xsL L)) = sumM (fun r => r.w * r.h) R
  | [], _ => by
    rw [sumM_nil]
    have : ∀ s b, ((dep [] s b : Nat) : Int) * (lenS s * lenS b) = 0 * (lenS s * lenS b) := fun s b => by simp [dep]
    rw [sumM_congr (g := fun s => 0 * sumM (fun b => lenS s * lenS b) (pcs (ysL L))) (fun s _ => by rw [← sumM_mul]; exact sumM_congr fun b _ => this s b), sumM_mul]; simp
  | r :: R, h => by
    have hr := h r (by simp)
    have ih := sum_dep (L := L) (R := R) (fun x hx => h x (by simp [hx]))
    have hb := sum_box (L := L) (cutsX_mem hr.1).1 (cutsX_mem hr.1).2 (cutsY_mem hr.1).1 (cutsY_mem hr.1).2
    have e : ∀ s, sumM (fun b => (dep (r :: R) s b : Int) * (lenS s * lenS b)) (pcs (ysL L)) = sumM (fun b => (dep R s b : Int) * (lenS s * lenS b)) (pcs (ysL L)) + sumM (fun b => bI (hasS (acr r) s && hasS (upr r) b) * (lenS s * lenS b)) (pcs (ysL L)) := fun s => by
      rw [← sumM_add]
      exact sumM_congr fun b _ => by rw [dep_cons, Int.add_mul]
    rw [sumM_congr (fun s _ => e s), sumM_add, ih, sumM_cons]
    have hb' : sumM (fun s => sumM (fun b => bI (hasS (acr r) s && hasS (upr r) b) * (lenS s * lenS b)) (pcs (ysL L))) (pcs (xsL L)) = r.w * r.h := by
      rw [show (fun s => sumM (fun b => bI (hasS (acr r) s && hasS (upr r) b) * (lenS s * lenS b)) (pcs (ysL L))) = fun s => sumM (fun t => bI (hasS ⟨r.x, r.x + r.w⟩ s && hasS ⟨r.y, r.y + r.h⟩ t) * (lenS s * lenS t)) (pcs (ysL L)) from rfl, hb]
      unfold ov
      rw [if_pos (by omega), if_pos (by omega)]
      congr 1 <;> omega
    rw [hb']; omega
/-- What each has, all of them. -/
def arL (L : List T4) : Int := sumM (fun r => areaI r.x r.y r.w r.h) L
theorem lin_id {L : List T4} (h : okL L = true) : lin (fun i => (i : Int)) 0 (dpsL L) = arL L := by
  rw [lin_dps, sum_dep (fun r hr => by have := okB_t.mp (okL_all h r hr); exact ⟨hr, by omega, by omega⟩)]
  unfold arL
  refine sumM_congr fun r hr => ?_
  have : okB r.x r.y r.w r.h = true := okL_all h r hr
  unfold areaI; rw [this]; rfl
theorem lin_ind (d : Nat) : ∀ (o : List Int) (j : Nat), lin (fun i => if i = j + d then 1 else 0) j o = o.getD d 0
  | [], j => by simp [lin]
  | a :: t, j => by
    cases d with
    | zero =>
      have : ∀ (t : List Int) (k : Nat), j < k → lin (fun i => if i = j + 0 then 1 else 0) k t = 0 := by
        intro t
        induction t with
        | nil => intro k _; rfl
        | cons b t ih => intro k hk; simp only [lin]; rw [ih (k + 1) (by omega), if_neg (by omega)]; omega
      simp only [lin]
      rw [this t (j + 1) (by omega)]
      simp
    | succ d =>
      have ih := lin_ind d t (j + 1)
      simp only [lin]
      rw [show (fun i => if i = j + (d + 1) then (1 : Int) else 0) = fun i => if i = j + 1 + d then 1 else 0 from funext fun i => by rw [show j + (d + 1) = j + 1 + d by omega], ih, if_neg (by omega)]
      simp
theorem getD_dps (L : List T4) (d : Nat) : (dpsL L).getD d 0 = sumM (fun s => sumM (fun b => (if dep L s b = d then 1 else 0) * (lenS s * lenS b)) (pcs (ysL L))) (pcs (xsL L)) := by
  have h1 := lin_ind d (dpsL L) 0
  have h2 := lin_dps (fun i => if i = 0 + d then 1 else 0) L
  rw [← h1, h2]
  simp only [Nat.zero_add]
theorem dps_pos {L : List T4} (h : okL L = true) {s b : T2} (hs : s ∈ pcs (xsL L)) (hb : b ∈ pcs (ysL L)) : 0 < (dpsL L).getD (dep L s b) 0 := by
  have gx : Gr (pcs (xsL L)) := gr_of (cutL_srt (cutsX L)) (fun z hz => xsL_in h hz)
  have gy : Gr (pcs (ysL L)) := gr_of (cutL_srt (cutsY L)) (fun z hz => ysL_in h hz)
  rw [getD_dps]
  have nn : ∀ s ∈ pcs (xsL L), ∀ t ∈ pcs (ysL L), ∀ d : Nat, 0 ≤ (if dep L s t = d then (1 : Int) else 0) * (lenS s * lenS t) := fun s hs t ht d => by
    have := (area_bd1 (gx s hs) (gy t ht)).1
    split <;> omega
  have p1 := (pcs_gap (cutL_srt _) hs).1
  have p2 := (pcs_gap (cutL_srt _) hb).1
  have k1 : (1 : Int) * (lenS s * lenS b) ≤ sumM (fun t => (if dep L s t = dep L s b then 1 else 0) * (lenS s * lenS t)) (pcs (ysL L)) := by
    have := sumM_ge (f := fun t => (if dep L s t = dep L s b then (1 : Int) else 0) * (lenS s * lenS t)) (x := b) (fun t ht => nn s hs t ht _) hb
    simp only [if_true] at this
    exact this
  have k2 := sumM_ge (f := fun s' => sumM (fun t => (if dep L s' t = dep L s b then (1 : Int) else 0) * (lenS s' * lenS t)) (pcs (ysL L))) (x := s) (fun s' hs' => sumM_nonneg fun t ht => nn s' hs' t ht _) hs
  have k3 : 0 < lenS s * lenS b := Int.mul_pos (by unfold lenS; omega) (by unfold lenS; omega)
  omega
theorem dpK_ge (l : List Int) : ∀ (n j : Nat), j < n → 0 < l.getD j 0 → (j : Int) + 1 ≤ dpK l n
  | 0, j, h, _ => by omega
  | n + 1, j, h, hp => by
    unfold dpK
    by_cases e : j = n
    · subst e; rw [if_pos hp]; exact Int.le_refl _
    · have := dpK_ge l n j (by omega) hp
      split <;> omega
theorem dpK_nn (l : List Int) : ∀ n : Nat, 0 ≤ dpK l n ∧ dpK l n ≤ n
  | 0 => by simp [dpK]
  | n + 1 => by have := dpK_nn l n; unfold dpK; split <;> omega
/-- A piece that has the place. -/
theorem pcs_at {a b x : Int} : ∀ {cs : List Int}, cs.Pairwise (· < ·) → a ∈ cs → b ∈ cs → a ≤ x → x < b → ∃ s ∈ pcs cs, s.x ≤ x ∧ x < s.y
  | [], _, ha, _, _, _ => by cases ha
  | [y], _, ha, hb, h1, h2 => by simp only [List.mem_singleton] at ha hb; omega
  | y :: z :: t, hs, ha, hb, h1, h2 => by
    have hs2 := (List.pairwise_cons.1 hs).2
    by_cases hz : x < z
    · refine ⟨⟨y, z⟩, by rw [pcs_two]; simp, ?_, hz⟩
      rcases List.mem_cons.1 ha with e | e
      · simp only; omega
      · rcases List.mem_cons.1 e with e | e
        · omega
        · have := srt_head hs2 e; omega
    · have hb' : b ∈ z :: t := by
        rcases List.mem_cons.1 hb with e | e
        · have := srt_head hs (y := z) (by simp); omega
        · exact e
      obtain ⟨s, hs1, hs3⟩ := pcs_at (a := z) hs2 (by simp) hb' (by omega) h2
      exact ⟨s, by rw [pcs_two]; simp [hs1], hs3⟩
def inL (L : List T4) (x y : Int) : Nat := L.countP fun r => holdsB r.x r.y r.w r.h x y
theorem in_deep {L : List T4} (h : okL L = true) (x y : Int) : (inL L x y : Int) ≤ dpK ((dpsL L).drop 1) L.length := by
  by_cases h0 : inL L x y = 0
  · rw [h0]; exact (dpK_nn _ _).1
  · obtain ⟨r, hr, hh⟩ := List.countP_pos_iff.1 (Nat.pos_of_ne_zero h0)
    have hin : ∀ r : T4, holdsB r.x r.y r.w r.h x y = true → r.x ≤ x ∧ x < r.x + r.w ∧ r.y ≤ y ∧ y < r.y + r.h := fun r hr => by
      unfold holdsB inR at hr
      simp only [Bool.and_eq_true, decide_eq_true_eq] at hr
      exact hr.2
    obtain ⟨a1, a2, a3, a4⟩ := hin r hh
    obtain ⟨s, hs, s1, s2⟩ := pcs_at (cutL_srt (cutsX L)) (cutsX_mem hr).1 (cutsX_mem hr).2 a1 a2
    obtain ⟨b, hb, b1, b2⟩ := pcs_at (cutL_srt (cutsY L)) (cutsY_mem hr).1 (cutsY_mem hr).2 a3 a4
    have gs := (pcs_gap (cutL_srt (cutsX L)) hs).2.2.2
    have gb := (pcs_gap (cutL_srt (cutsY L)) hb).2.2.2
    have hle : inL L x y ≤ dep L s b := by
      refine List.countP_mono_left fun r' hr' hh' => ?_
      obtain ⟨c1, c2, c3, c4⟩ := hin r' hh'
      have e1 := (cutsX_mem hr').1
      have e2 := (cutsX_mem hr').2
      have e3 := (cutsY_mem hr').1
      have e4 := (cutsY_mem hr').2
      have q1 : r'.x ≤ s.x := Classical.byContradiction fun hn => by have := gs _ e1 (by omega); omega
      have q2 : s.y ≤ r'.x + r'.w := gs _ e2 (by omega)
      have q3 : r'.y ≤ b.x := Classical.byContradiction fun hn => by have := gb _ e3 (by omega); omega
      have q4 : b.y ≤ r'.y + r'.h := gb _ e4 (by omega)
      unfold hasS acr upr
      simp only [Bool.and_eq_true, decide_eq_true_eq]
      exact ⟨⟨q1, q2⟩, q3, q4⟩
    have hp := dps_pos h hs hb
    obtain ⟨d, hd⟩ : ∃ d, dep L s b = d + 1 := ⟨dep L s b - 1, by omega⟩
    rw [hd, ← drop_get] at hp
    have hdl := dep_le L s b
    have := dpK_ge _ L.length d (by omega) hp
    omega
theorem deep_pos {L : List T4} (h : okL L = true) : (0 < dpK ((dpsL L).drop 1) L.length) ↔ 0 < L.length := by
  constructor
  · intro hk
    have := (dpK_nn ((dpsL L).drop 1) L.length).2
    omega
  · intro hl
    obtain ⟨r, hr⟩ : ∃ r, r ∈ L := ⟨L[0], List.getElem_mem hl⟩
    have := in_deep h r.x r.y
    have hp : 0 < inL L r.x r.y := by
      refine List.countP_pos_iff.2 ⟨r, hr, ?_⟩
      have hk := okB_t.mp (okL_all h r hr)
      have h1 : okB r.x r.y r.w r.h = true := okL_all h r hr
      have h2 : spB r.x r.y = true := spB_t.mpr (by omega)
      unfold holdsB inR
      rw [h1, h2]
      simp; omega
    omega
/-- The law's second sum. -/
def alK (l : List Int) : Nat → Int
  | 0 => 0
  | k + 1 => alK l k + l.getD k 0 * ((k : Int) + 1)
theorem lin_drop : ∀ (l : List Int) (j : Nat), lin (fun i => (i : Int)) j l = sumI ((List.range l.length).map fun k => ((j + k : Nat) : Int) * l.getD k 0)
  | [], j => rfl
  | a :: t, j => by
    have ih := lin_drop t (j + 1)
    simp only [lin, List.length_cons]
    rw [ih, List.range_succ_eq_map, List.map_cons, List.map_map]
    simp only [sumI, Nat.add_zero, List.getD_cons_zero]
    congr 1
    refine congrArg sumI (List.map_congr_left fun k _ => ?_)
    simp only [Function.comp, List.getD_cons_succ]
    rw [show j + 1 + k = j + (k + 1) by omega]
theorem alK_sum (l : List Int) : ∀ n : Nat, alK l n = sumI ((List.range n).map fun k => ((1 + k : Nat) : Int) * l.getD k 0)
  | 0 => rfl
  | n + 1 => by
    rw [List.range_succ, List.map_append, sumI_app, ← alK_sum l n]
    rw [show alK l (n + 1) = alK l n + l.getD n 0 * ((n : Int) + 1) from rfl]
    simp only [List.map_cons, List.map_nil, sumI]
    rw [Int.mul_comm (l.getD n 0)]
    have : ((n : Int) + 1) = ((1 + n : Nat) : Int) := by omega
    rw [this]; omega
theorem all_is {L : List T4} (h : okL L = true) : alK ((dpsL L).drop 1) L.length = arL L := by
  rw [← lin_id h]
  have hl := dpsL_len L
  obtain ⟨z, t, e⟩ : ∃ z t, dpsL L = z :: t := by
    cases hd : dpsL L with
    | nil => rw [hd] at hl; simp at hl
    | cons z t => exact ⟨z, t, rfl⟩
  rw [e] at hl ⊢
  rw [List.drop_succ_cons, List.drop_zero, alK_sum]
  simp only [lin]
  rw [lin_drop t 1]
  have : t.length = L.length := by simpa using hl
  rw [this]; simp
theorem alK_bd {m : Nat} {l : List Int} (h : Bd m l) : ∀ n : Nat, n ≤ 12 → n ≤ l.length → 0 ≤ alK l n ∧ alK l n ≤ 65536 * (m : Int) * 12 * (n : Int)
  | 0, _, _ => by simp [alK]
  | n + 1, h1, h2 => by
    have ih := alK_bd h n (by omega) (by omega)
    have hb := h _ (getD_mem (show n < l.length by omega))
    have p1 : 0 ≤ l.getD n 0 * ((n : Int) + 1) := Int.mul_nonneg hb.1 (by omega)
    have p2 : l.getD n 0 * ((n : Int) + 1) ≤ 65536 * (m : Int) * 12 := Int.mul_le_mul hb.2 (by omega) (by omega) (by omega)
    unfold alK
    have : 65536 * (m : Int) * 12 * ((n + 1 : Nat) : Int) = 65536 * (m : Int) * 12 * (n : Int) + 65536 * (m : Int) * 12 := by rw [Int.natCast_add, Int.mul_add]; simp
    omega
end Go.Proofs.Ytgpgmndjkcpaoaa
