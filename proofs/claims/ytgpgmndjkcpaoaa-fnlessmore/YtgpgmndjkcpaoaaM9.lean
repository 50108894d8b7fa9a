/-
  Of three Rects: what they have together is what each has, less what each two share, and what all three share.
-/
import Derived.Test.YtgpgmndjkcpaoaaM8
import Derived.Test.YtgpgmndjkcpaoaaW6
namespace Go.Proofs.Ytgpgmndjkcpaoaa

theorem lin_pos : ∀ (l : List Int) (j : Nat), 0 < j → lin (fun i => if 0 < i then 1 else 0) j l = sumI l
  | [], _, _ => rfl
  | a :: t, j, h => by
    simp only [lin, sumI]
    rw [lin_pos t (j + 1) (by omega), if_pos h]; omega
theorem sum_lin (l : List Int) : sumI (l.drop 1) = lin (fun i => if 0 < i then 1 else 0) 0 l := by
  cases l with
  | nil => rfl
  | cons a t =>
    simp only [lin, List.drop_succ_cons, List.drop_zero]
    rw [lin_pos t 1 (by omega)]; simp
def mx (a b : T4) : T2 := ⟨max a.x b.x, min (a.x + a.w) (b.x + b.w)⟩
def my (a b : T4) : T2 := ⟨max a.y b.y, min (a.y + a.h) (b.y + b.h)⟩
def mx3 (a b c : T4) : T2 := ⟨max (max a.x b.x) c.x, min (min (a.x + a.w) (b.x + b.w)) (c.x + c.w)⟩
def my3 (a b c : T4) : T2 := ⟨max (max a.y b.y) c.y, min (min (a.y + a.h) (b.y + b.h)) (c.y + c.h)⟩
theorem hasS_and (a b c d : Int) (s : T2) : (hasS ⟨a, b⟩ s && hasS ⟨c, d⟩ s) = hasS ⟨max a c, min b d⟩ s := by
  unfold hasS
  rw [← Bool.decide_and]
  exact decide_eq_decide.mpr (by simp only; omega)
theorem bI_and (p q : Bool) : bI p * bI q = bI (p && q) := by cases p <;> cases q <;> rfl
def hs (r : T4) (s t : T2) : Bool := hasS (acr r) s && hasS (upr r) t
theorem hs_two (a b : T4) (s t : T2) : (hs a s t && hs b s t) = (hasS (mx a b) s && hasS (my a b) t) := by
  unfold hs mx my
  rw [← hasS_and, ← hasS_and]
  show (hasS ⟨a.x, a.x + a.w⟩ s && hasS ⟨a.y, a.y + a.h⟩ t && (hasS ⟨b.x, b.x + b.w⟩ s && hasS ⟨b.y, b.y + b.h⟩ t)) = _
  cases hasS ⟨a.x, a.x + a.w⟩ s <;> cases hasS ⟨a.y, a.y + a.h⟩ t <;> cases hasS ⟨b.x, b.x + b.w⟩ s <;> cases hasS ⟨b.y, b.y + b.h⟩ t <;> rfl
theorem hs_three (a b c : T4) (s t : T2) : (hs a s t && hs b s t && hs c s t) = (hasS (mx3 a b c) s && hasS (my3 a b c) t) := by
  rw [hs_two]
  unfold hs mx my mx3 my3
  rw [← hasS_and (max a.x b.x), ← hasS_and (max a.y b.y)]
  show (_ && _ && (hasS ⟨c.x, c.x + c.w⟩ s && hasS ⟨c.y, c.y + c.h⟩ t)) = _
  cases hasS ⟨max a.x b.x, min (a.x + a.w) (b.x + b.w)⟩ s <;> cases hasS ⟨max a.y b.y, min (a.y + a.h) (b.y + b.h)⟩ t <;> cases hasS ⟨c.x, c.x + c.w⟩ s <;> cases hasS ⟨c.y, c.y + c.h⟩ t <;> rfl
theorem dep3 (a b c : T4) (s t : T2) : (if 0 < dep [a, b, c] s t then (1 : Int) else 0) = bI (hs a s t) + bI (hs b s t) + bI (hs c s t) - bI (hs a s t && hs b s t) - bI (hs b s t && hs c s t) - bI (hs a s t && hs c s t) + bI (hs a s t && hs b s t && hs c s t) := by
  have h : dep [a, b, c] s t = (if hs a s t then 1 else 0) + (if hs b s t then 1 else 0) + (if hs c s t then 1 else 0) := by
    unfold dep
    rw [List.countP_cons, List.countP_cons, List.countP_cons, List.countP_nil]
    show 0 + (if hs c s t = true then 1 else 0) + (if hs b s t = true then 1 else 0) + (if hs a s t = true then 1 else 0) = _
    omega
  rw [h]
  cases hs a s t <;> cases hs b s t <;> cases hs c s t <;> simp [bI]
def S2 (L : List T4) (f : T2 → T2 → Int) : Int := sumM (fun s => sumM (fun t => f s t * (lenS s * lenS t)) (pcs (ysL L))) (pcs (xsL L))
theorem S2_add (L : List T4) (f g : T2 → T2 → Int) : S2 L (fun s t => f s t + g s t) = S2 L f + S2 L g := by
  unfold S2
  rw [← sumM_add]
  refine sumM_congr fun s _ => ?_
  rw [← sumM_add]
  exact sumM_congr fun t _ => Int.add_mul _ _ _
theorem S2_sub (L : List T4) (f g : T2 → T2 → Int) : S2 L (fun s t => f s t - g s t) = S2 L f - S2 L g := by
  have h := S2_add L (fun s t => f s t - g s t) g
  have e : (fun s t => f s t - g s t + g s t) = f := funext fun s => funext fun t => by omega
  rw [e] at h; omega
theorem mem_max {cs : List Int} {a b : Int} (ha : a ∈ cs) (hb : b ∈ cs) : max a b ∈ cs := by
  rcases Int.le_total a b with h | h
  · rw [show max a b = b by omega]; exact hb
  · rw [show max a b = a by omega]; exact ha
theorem mem_min {cs : List Int} {a b : Int} (ha : a ∈ cs) (hb : b ∈ cs) : min a b ∈ cs := by
  rcases Int.le_total a b with h | h
  · rw [show min a b = a by omega]; exact ha
  · rw [show min a b = b by omega]; exact hb
def ovT (s : T2) : Int := ov s.x s.y
theorem S2_box (L : List T4) {p q : T2} (h1 : p.x ∈ xsL L) (h2 : p.y ∈ xsL L) (h3 : q.x ∈ ysL L) (h4 : q.y ∈ ysL L) : S2 L (fun s t => bI (hasS p s && hasS q t)) = ovT p * ovT q := sum_box h1 h2 h3 h4
theorem threeL (L : List T4) (a b c : T4) (ha : a.ok = true) (hb : b.ok = true) (hc : c.ok = true) (m1 : a ∈ L) (m2 : b ∈ L) (m3 : c ∈ L)
    (hd : ∀ s t, (if 0 < dep L s t then (1 : Int) else 0) = bI (hs a s t) + bI (hs b s t) + bI (hs c s t) - bI (hs a s t && hs b s t) - bI (hs b s t && hs c s t) - bI (hs a s t && hs c s t) + bI (hs a s t && hs b s t && hs c s t)) :
    sumI ((dpsL L).drop 1) = a.w * a.h + b.w * b.h + c.w * c.h - ovT (mx a b) * ovT (my a b) - ovT (mx b c) * ovT (my b c) - ovT (mx a c) * ovT (my a c) + ovT (mx3 a b c) * ovT (my3 a b c) := by
  have one : ∀ r : T4, r ∈ L → r.ok = true → S2 L (fun s t => bI (hs r s t)) = r.w * r.h := fun r hr ho => by
    have hk := okB_t.mp ho
    have := S2_box L (p := acr r) (q := upr r) (cutsX_mem hr).1 (cutsX_mem hr).2 (cutsY_mem hr).1 (cutsY_mem hr).2
    unfold hs
    rw [this]
    unfold ovT ov acr upr
    simp only
    rw [if_pos (by omega), if_pos (by omega)]
    congr 1 <;> omega
  have two : ∀ r q : T4, r ∈ L → q ∈ L → S2 L (fun s t => bI (hs r s t && hs q s t)) = ovT (mx r q) * ovT (my r q) := fun r q hr hq => by
    rw [show (fun s t => bI (hs r s t && hs q s t)) = fun s t => bI (hasS (mx r q) s && hasS (my r q) t) from funext fun s => funext fun t => by rw [hs_two]]
    exact S2_box L (p := mx r q) (q := my r q) (mem_max (cutsX_mem hr).1 (cutsX_mem hq).1) (mem_min (cutsX_mem hr).2 (cutsX_mem hq).2) (mem_max (cutsY_mem hr).1 (cutsY_mem hq).1) (mem_min (cutsY_mem hr).2 (cutsY_mem hq).2)
  have thr : S2 L (fun s t => bI (hs a s t && hs b s t && hs c s t)) = ovT (mx3 a b c) * ovT (my3 a b c) := by
    rw [show (fun s t => bI (hs a s t && hs b s t && hs c s t)) = fun s t => bI (hasS (mx3 a b c) s && hasS (my3 a b c) t) from funext fun s => funext fun t => by rw [hs_three]]
    exact S2_box L (p := mx3 a b c) (q := my3 a b c) (mem_max (mem_max (cutsX_mem m1).1 (cutsX_mem m2).1) (cutsX_mem m3).1) (mem_min (mem_min (cutsX_mem m1).2 (cutsX_mem m2).2) (cutsX_mem m3).2) (mem_max (mem_max (cutsY_mem m1).1 (cutsY_mem m2).1) (cutsY_mem m3).1) (mem_min (mem_min (cutsY_mem m1).2 (cutsY_mem m2).2) (cutsY_mem m3).2)
  rw [sum_lin, lin_dps]
  show S2 L (fun s t => if 0 < dep L s t then (1 : Int) else 0) = _
  rw [show (fun s t => if 0 < dep L s t then (1 : Int) else 0) = fun s t => bI (hs a s t) + bI (hs b s t) + bI (hs c s t) - bI (hs a s t && hs b s t) - bI (hs b s t && hs c s t) - bI (hs a s t && hs c s t) + bI (hs a s t && hs b s t && hs c s t) from funext fun s => funext fun t => hd s t]
  rw [S2_add, S2_sub, S2_sub, S2_sub, S2_add, S2_add, one a m1 ha, one b m2 hb, one c m3 hc, two a b m1 m2, two b c m2 m3, two a c m1 m3, thr]
theorem three (a b c : T4) (ha : a.ok = true) (hb : b.ok = true) (hc : c.ok = true) :
    sumI ((dpsL [a, b, c]).drop 1) = a.w * a.h + b.w * b.h + c.w * c.h - ovT (mx a b) * ovT (my a b) - ovT (mx b c) * ovT (my b c) - ovT (mx a c) * ovT (my a c) + ovT (mx3 a b c) * ovT (my3 a b c) :=
  threeL [a, b, c] a b c ha hb hc (by simp) (by simp) (by simp) (dep3 a b c)
/-- What Meet answers. -/
def mtG (a b : T4) : T4 := if okB a.x a.y a.w a.h && okB b.x b.y b.w b.h && mB a.x a.y a.w a.h b.x b.y b.w b.h then ⟨max a.x b.x, max a.y b.y, mW a.x a.w b.x b.w, mW a.y a.h b.y b.h⟩ else zr4
def mtF (a b : T4) : Bool := okB a.x a.y a.w a.h && okB b.x b.y b.w b.h && mB a.x a.y a.w a.h b.x b.y b.w b.h
def arT (r : T4) : Int := areaI r.x r.y r.w r.h
theorem ok_mt {a b : T4} (ha : a.ok = true) (hb : b.ok = true) (hm : mB a.x a.y a.w a.h b.x b.y b.w b.h = true) : (mtG a b).ok = true := by
  have h1 : okB a.x a.y a.w a.h = true := ha
  have h2 : okB b.x b.y b.w b.h = true := hb
  unfold mtG
  rw [h1, h2, hm]
  have k1 := okB_t.mp h1
  have k2 := okB_t.mp h2
  have k3 := of_decide_eq_true hm
  unfold mW at k3
  show okB _ _ _ _ = true
  refine okB_t.mpr ?_
  simp only [Bool.and_self, if_true]
  unfold mW
  omega
theorem arT_zr : arT zr4 = 0 := by decide
theorem ar_mt {a b : T4} (ha : a.ok = true) (hb : b.ok = true) : arT (mtG a b) = ovT (mx a b) * ovT (my a b) := by
  have h1 : okB a.x a.y a.w a.h = true := ha
  have h2 : okB b.x b.y b.w b.h = true := hb
  cases hm : mB a.x a.y a.w a.h b.x b.y b.w b.h
  · have e : mtG a b = zr4 := by unfold mtG; rw [hm]; simp
    rw [e, arT_zr]
    have k3 := of_decide_eq_false hm
    unfold mW at k3
    by_cases c1 : min (a.x + a.w) (b.x + b.w) ≤ max a.x b.x
    · have : ovT (mx a b) = 0 := by unfold ovT ov mx; simp only; split <;> omega
      rw [this]; omega
    · have : ovT (my a b) = 0 := by unfold ovT ov my; simp only; split <;> omega
      rw [this]; omega
  · have hok := ok_mt ha hb hm
    have k3 := of_decide_eq_true hm
    unfold mW at k3
    have e : mtG a b = ⟨max a.x b.x, max a.y b.y, mW a.x a.w b.x b.w, mW a.y a.h b.y b.h⟩ := by unfold mtG; rw [h1, h2, hm]; rfl
    rw [e] at hok ⊢
    unfold arT areaI
    have hok' : okB (max a.x b.x) (max a.y b.y) (mW a.x a.w b.x b.w) (mW a.y a.h b.y b.h) = true := hok
    simp only [hok', if_true]
    unfold ovT ov mx my mW
    simp only
    rw [if_pos (by omega), if_pos (by omega)]
theorem ar_mt3 {a b c : T4} (ha : a.ok = true) (hb : b.ok = true) (hc : c.ok = true) : arT (mtG (mtG a b) c) = ovT (mx3 a b c) * ovT (my3 a b c) := by
  have h1 : okB a.x a.y a.w a.h = true := ha
  have h2 : okB b.x b.y b.w b.h = true := hb
  cases hm : mB a.x a.y a.w a.h b.x b.y b.w b.h
  · have e : mtG a b = zr4 := by unfold mtG; rw [hm]; simp
    have e2 : mtG zr4 c = zr4 := by
      have : okB zr4.x zr4.y zr4.w zr4.h = false := by decide
      unfold mtG; rw [this]; simp
    rw [e, e2, arT_zr]
    have k3 := of_decide_eq_false hm
    unfold mW at k3
    by_cases c1 : min (a.x + a.w) (b.x + b.w) ≤ max a.x b.x
    · have : ovT (mx3 a b c) = 0 := by unfold ovT ov mx3; simp only; split <;> omega
      rw [this]; omega
    · have : ovT (my3 a b c) = 0 := by unfold ovT ov my3; simp only; split <;> omega
      rw [this]; omega
  · rw [ar_mt (ok_mt ha hb hm) hc]
    have e : mtG a b = ⟨max a.x b.x, max a.y b.y, mW a.x a.w b.x b.w, mW a.y a.h b.y b.h⟩ := by unfold mtG; rw [h1, h2, hm]; rfl
    rw [e]
    have e1 : mx ⟨max a.x b.x, max a.y b.y, mW a.x a.w b.x b.w, mW a.y a.h b.y b.h⟩ c = mx3 a b c := by
      unfold mx mx3 mW; simp only; congr 1; omega
    have e2 : my ⟨max a.x b.x, max a.y b.y, mW a.x a.w b.x b.w, mW a.y a.h b.y b.h⟩ c = my3 a b c := by
      unfold my my3 mW; simp only; congr 1; omega
    rw [e1, e2]
theorem less_more {a b c : T4} (ha : a.ok = true) (hb : b.ok = true) (hc : c.ok = true) : tgL [a, b, c] = arT a + arT b + arT c - arT (mtG a b) - arT (mtG b c) - arT (mtG a c) + arT (mtG (mtG a b) c) := by
  have hk : okL [a, b, c] = true := by unfold okL; simp [ha, hb, hc]
  have one : ∀ r : T4, r.ok = true → arT r = r.w * r.h := fun r ho => by
    have h : okB r.x r.y r.w r.h = true := ho
    unfold arT areaI; rw [h]; rfl
  unfold tgL
  rw [hk, if_pos rfl, three a b c ha hb hc, one a ha, one b hb, one c hc, ar_mt ha hb, ar_mt hb hc, ar_mt ha hc, ar_mt3 ha hb hc]
theorem mtF_ok {a b : T4} (ha : a.ok = true) (hb : b.ok = true) : mtF a b = mtB a b := by
  have h1 : okB a.x a.y a.w a.h = true := ha
  have h2 : okB b.x b.y b.w b.h = true := hb
  unfold mtF mtB; rw [h1, h2]; simp
theorem four {a b c : T4} (ha : a.ok = true) (hb : b.ok = true) (hc : c.ok = true) (h : mtF (mtG a b) c = true) : mtF a b = true ∧ mtF b c = true ∧ mtF a c = true := by
  rw [mtF_ok ha hb, mtF_ok hb hc, mtF_ok ha hc]
  have h1 : okB a.x a.y a.w a.h = true := ha
  have h2 : okB b.x b.y b.w b.h = true := hb
  cases hm : mB a.x a.y a.w a.h b.x b.y b.w b.h
  · have e : mtG a b = zr4 := by unfold mtG; rw [hm]; simp
    have : okB zr4.x zr4.y zr4.w zr4.h = false := by decide
    rw [e] at h
    unfold mtF at h
    rw [this] at h; simp at h
  · have e : mtG a b = ⟨max a.x b.x, max a.y b.y, mW a.x a.w b.x b.w, mW a.y a.h b.y b.h⟩ := by unfold mtG; rw [h1, h2, hm]; rfl
    rw [e] at h
    unfold mtF at h
    simp only [Bool.and_eq_true] at h
    have k := of_decide_eq_true h.2
    have k3 := of_decide_eq_true hm
    unfold mW at k k3
    refine ⟨hm, ?_, ?_⟩
    · show mB _ _ _ _ _ _ _ _ = true
      refine decide_eq_true ?_
      unfold mW; omega
    · show mB _ _ _ _ _ _ _ _ = true
      refine decide_eq_true ?_
      unfold mW; omega
theorem touch3 {a b c : T4} (ha : a.ok = true) (hb : b.ok = true) (hc : c.ok = true) : ((tcL [a, b, c]).length : Int) = bI (mtF a b) + bI (mtF b c) + bI (mtF a c) := by
  have hk : okL [a, b, c] = true := by unfold okL; simp [ha, hb, hc]
  rw [mtF_ok ha hb, mtF_ok hb hc, mtF_ok ha hc]
  unfold tcL
  rw [hk, if_pos rfl]
  show ((tcO [a, b, c] 3).length : Int) = _
  unfold tcO tcI
  cases hab : mtB a b <;> cases hbc : mtB b c <;> cases hac : mtB a c <;> simp [bI, List.range_succ, List.filter_cons, hab, hbc, hac]
end Go.Proofs.Ytgpgmndjkcpaoaa
