/-
  Alike Directories; the order of a Spot; whose a Spot is behind a split and behind a gift: plain mathematics.
-/
import Derived.Test.YtamnmakegdnblaaKDF
import Derived.Test.YtamnmakegdnblaaMH1
import Derived.Test.YtamnmakegdnblaaMD2
namespace Go.Proofs.Ytamnmakegdnblaa.K.D
open Go.Shelf Go.RowKit Go.Joins
attribute [local go_sem] Oper.semAt_some

set_option maxRecDepth 100000 in
set_option maxHeartbeats 2000000 in
theorem like_same (e : Int) (p q : Option Addr) (c c' : Nat) (L : List On) (n : Nat) (hn : L.length = n) (w : World) (hp : SlG kO w p L) (hq : SlG kO w q L) (hb : n ≤ 10000000) :
    Calls Try.prog 16 #[Dv.v ⟨e, p, n, c⟩, Dv.v ⟨e, q, n, c'⟩] w fun ee w' => ee = .returned (.bool true) ∧ Below w.heap.size w w' := by
  have hst := ((St.nil w).push [.int .i64 e, .slice p n c] 26).push [.int .i64 e, .slice q n c'] 26
  simp only [World.size_alloc] at hst
  have HN : Hid (L.length = n) := hn
  have HP := Lib.hid hp
  have HQ := Lib.hid hq
  clear hn hp hq
  go_enter Try.func16, Try.ntmps16
  go_wp2
  go_loopw [5] (fun i wr => ∃ k : Nat, k ≤ n ∧ i = .int .i64 k ∧ St w wr [(w.heap.size + 1, [.int .i64 e, .slice q n c']), (w.heap.size, [.int .i64 e, .slice p n c])]) (fun i _ => n - (intOf i).toNat)
  case atStart => exact ⟨0, by omega, rfl, hst⟩
  case round =>
    clear hst
    obtain ⟨k, hk, rfl, hst⟩ := hrel
    have hdir := hst.has
    simp [Has, HasAt] at hdir
    by_cases hlt : k < n
    · have hki : (k : Int) < n := by omega
      have hkL : k < L.length := by rw [HN.out]; exact hlt
      obtain ⟨g, off, rfl, hC⟩ := (HP.out.step hst.bel).at hkL
      obtain ⟨g2, off2, rfl, hC2⟩ := (HQ.out.step hst.bel).at hkL
      obtain ⟨c0, c1, c2, c3⟩ := CsG.o4 hC (getO hkL)
      obtain ⟨d0, d1, d2, d3⟩ := CsG.o4 hC2 (getO hkL)
      obtain ⟨⟨l, x, y, s⟩, hm⟩ : ∃ m, L.getD k zon = m := ⟨_, rfl⟩
      rw [hm] at c0 c1 c2 c3 d0 d1 d2 d3
      clear hC hC2 hm
      go_wp2
      go_quiet (fail)
      go_wp2
      go_roundw
      case rel => exact ⟨k + 1, by omega, by go_num, hst.step (M.bdrewN (Below.refl _ _) _)⟩
      case measure => simp [intOf]; omega
    · obtain rfl : k = n := by omega
      go_wp2
      go_ret
      exact ⟨rfl, hst.bel⟩
def ordS (s t : Int) : Int := if M.spB s t then M.zz s t 8 else -1
set_option maxHeartbeats 1000000 in
theorem sOrder_any (s t : Int) (w : World) : Calls Try.prog 27 #[.agg #[.int .i64 s, .int .i64 t]] w fun e w' => e = .returned (.int .i64 (ordS s t)) ∧ Below w.heap.size w w' := by
  have hst := (St.nil w).push [.int .i64 s, .int .i64 t] 37
  obtain ⟨b, hb⟩ : ∃ b, M.spB s t = b := ⟨_, rfl⟩
  have HS := Lib.hid (fun W => M.sSpot_v hb W)
  cases b
  · have HV : Hid (ordS s t = -1) := by show ordS s t = -1; unfold ordS; rw [hb]; rfl
    go_enter Try.func27, Try.ntmps27
    go_wp2_with (go_at_call 60; refine (HS.out _).mono ?_; rintro e w1 ⟨rfl, hb1⟩; have hs1 := hst.step hb1)
    go_ret
    exact ⟨M.ret_i64 HV.out.symm, hs1.bel⟩
  · have HV : Hid (ordS s t = M.zz s t 8) := by show ordS s t = M.zz s t 8; unfold ordS; rw [hb]; rfl
    have HO := Lib.hid (fun W => l2Order_any hb W)
    clear hb
    go_enter Try.func27, Try.ntmps27
    go_wp2_with (first
      | (go_at_call 60; refine (HS.out _).mono ?_; rintro e w1 ⟨rfl, hb1⟩; have hs1 := hst.step hb1; have hk := hs1.has; simp [Has, HasAt] at hk)
      | (go_at_call 67; refine (HO.out _).mono ?_; rintro e w2 ⟨rfl, hb2⟩; have hs2 := hs1.step hb2))
    go_ret
    exact ⟨M.ret_i64 HV.out.symm, hs2.bel⟩
/-- Each Spot in a right Directory has a Shard from 0 on. -/
theorem shO_nn {e : Int} {L : List On} {s t : Int} (hd : dirB e L = true) (hs : M.spB s t = true) : 0 ≤ shO e L s t := by
  have h1 := has_own hd hs
  have hpe : posF (fun o => aroC 8 s t o) L = posF (fun o => holdO o s t) L := posF_ext fun o ho => aro_hold hs ((dir_on hd).2 o ho)
  rw [hpe] at h1
  have h2 := (dir_on hd).2 _ (List.mem_of_getElem? (getO h1))
  have h3 := (M.inB_t.mp (Bool.and_eq_true_iff.mp h2).2).1
  unfold shO
  rw [hd, hs, ofD_pos h1]
  exact h3
theorem ofD_app (s t : Int) : ∀ (A B : List On), ofD s t (A ++ B) = if A.any (fun o => holdO o s t) then ofD s t A else ofD s t B
  | [], B => by simp
  | o :: r, B => by
    rw [List.cons_append, show ofD s t (o :: (r ++ B)) = (if holdO o s t then o.s else ofD s t (r ++ B)) from rfl, show ofD s t (o :: r) = (if holdO o s t then o.s else ofD s t r) from rfl, ofD_app s t r B, List.any_cons]
    cases h : holdO o s t <;> simp
/-- A Cell's Spots are those of its quarters. -/
theorem hold_quarts {s t : Int} (hs : M.spB s t = true) {o : On} (ho : onB o = true) (h8 : o.l ≠ 8) : (quL o.l o.x o.y o.s 4).any (fun q => holdO q s t) = holdO o s t := by
  have hk := onB_ok ho
  have hl : o.t.l < 8 := by have h1 := lvl ho; show o.l < 8; omega
  obtain ⟨p1, p2⟩ := split_part ho h8
  obtain ⟨z, z1, z2, z3, z4⟩ := M.quarts hk hl
  have hc8 : (⟨8, s, t⟩ : M.T3).ok = true := M.cell8_ok hs
  have hzh : (⟨8, s, t⟩ : M.T3).hi = (⟨8, s, t⟩ : M.T3).lo + 1 := rfl
  have hin : ∀ q : On, onB q = true → (holdO q s t = true ↔ q.t.lo ≤ (⟨8, s, t⟩ : M.T3).lo ∧ (⟨8, s, t⟩ : M.T3).hi ≤ q.t.hi) := fun q hq => by
    rw [← aro_hold hs hq]
    exact M.ins_iff hc8 (onB_ok hq)
  have e : quL o.l o.x o.y o.s 4 = [quO o.l o.x o.y o.s 0, quO o.l o.x o.y o.s 1, quO o.l o.x o.y o.s 2, quO o.l o.x o.y o.s 3] := by simp [quL, List.range_succ]
  rw [e] at p1 ⊢
  have q0 := hin _ (p1 _ (List.mem_cons_self ..))
  have q1 := hin (quO o.l o.x o.y o.s 1) (p1 _ (by simp))
  have q2 := hin (quO o.l o.x o.y o.s 2) (p1 _ (by simp))
  have q3 := hin (quO o.l o.x o.y o.s 3) (p1 _ (by simp))
  have qo := hin o ho
  rw [quO_t, (z4 0 (by decide)).1, (z4 0 (by decide)).2] at q0
  rw [quO_t, (z4 1 (by decide)).1, (z4 1 (by decide)).2] at q1
  rw [quO_t, (z4 2 (by decide)).1, (z4 2 (by decide)).2] at q2
  rw [quO_t, (z4 3 (by decide)).1, (z4 3 (by decide)).2] at q3
  rw [z2] at qo
  rw [hzh] at q0 q1 q2 q3 qo
  refine bool_iff ?_
  simp only [List.any_cons, List.any_nil, Bool.or_false, Bool.or_eq_true]
  rw [q0, q1, q2, q3, qo]
  omega
theorem ofD_quL {l x y s' s t : Int} (h : (quL l x y s' 4).any (fun q => holdO q s t) = true) : ofD s t (quL l x y s' 4) = s' := by
  have e : quL l x y s' 4 = [quO l x y s' 0, quO l x y s' 1, quO l x y s' 2, quO l x y s' 3] := by simp [quL, List.range_succ]
  rw [e] at h ⊢
  simp only [ofD]
  simp only [List.any_cons, List.any_nil, Bool.or_false] at h
  cases h0 : holdO (quO l x y s' 0) s t
  · cases h1 : holdO (quO l x y s' 1) s t
    · cases h2 : holdO (quO l x y s' 2) s t
      · cases h3 : holdO (quO l x y s' 3) s t
        · rw [h0, h1, h2, h3] at h; simp at h
        · rfl
      · rfl
    · rfl
  · rfl
/-- A split changes nobody's. -/
theorem split_shO {e : Int} {L : List On} {l x y s t : Int} (h : splB e L l x y = true) : shO (splE e L l x y) (splL e L l x y) s t = shO e L s t := by
  have hd2 := spl_dir h
  have h2 := h
  unfold splB at h2
  simp only [Bool.and_eq_true, decide_eq_true_eq, Bool.not_eq_true', decide_eq_false_iff_not] at h2
  obtain ⟨hd, hp, h8, -, -⟩ := h2
  unfold shO
  rw [hd2, hd]
  cases hs : M.spB s t
  · rfl
  · simp only [Bool.and_self, if_true]
    obtain ⟨q1, q2, q3⟩ := posO_eq l x y L hp
    have hon := (dir_on hd).2
    have ho := hon _ (List.mem_of_getElem? (getO hp))
    have hLL : splL e L l x y = L.take (posO l x y L) ++ quL l x y (L.getD (posO l x y L) zon).s 4 ++ L.drop (posO l x y L + 1) := by unfold splL; rw [hd, h]; rfl
    rw [hLL]
    have hL := list_at hp
    obtain ⟨o, hoo⟩ : ∃ o, L.getD (posO l x y L) zon = o := ⟨_, rfl⟩
    rw [hoo] at hL q1 q2 q3 ho ⊢
    have hq := hold_quarts hs ho (by rw [q1]; exact h8)
    rw [q1, q2, q3] at hq
    conv => rhs; rw [hL]
    rw [List.append_assoc, ofD_app, ofD_app, ofD_app, hq, show ofD s t (o :: L.drop (posO l x y L + 1)) = (if holdO o s t then o.s else ofD s t (L.drop (posO l x y L + 1))) from rfl]
    cases hh : holdO o s t
    · rfl
    · rw [ofD_quL (by rw [hq]; exact hh)]
theorem own_uniq {e : Int} {L : List On} {s t : Int} (hd : dirB e L = true) (hs : M.spB s t = true) {j k : Nat} (hj : j < L.length) (hk : k < L.length) (h1 : holdO (L.getD j zon) s t = true) (h2 : holdO (L.getD k zon) s t = true) : j = k := by
  obtain ⟨-, -, hon, hlo, -⟩ := dir_whole hd
  have hc8 : (⟨8, s, t⟩ : M.T3).ok = true := M.cell8_ok hs
  have hzh : (⟨8, s, t⟩ : M.T3).hi = (⟨8, s, t⟩ : M.T3).lo + 1 := rfl
  have hin : ∀ i, i < L.length → holdO (L.getD i zon) s t = true → arS L i ≤ (⟨8, s, t⟩ : M.T3).lo ∧ (⟨8, s, t⟩ : M.T3).lo < arS L (i + 1) := fun i hi h => by
    rw [← aro_hold hs (hon i hi)] at h
    have h3 := (M.ins_iff hc8 (onB_ok (hon i hi))).mp h
    have h4 : (L.getD i zon).t.hi = arS L (i + 1) := by rw [arS_succ hi, area_sz (hon i hi), ← hlo i hi]; rfl
    rw [hlo i hi, h4, hzh] at h3
    omega
  have a1 := hin j hj h1
  have a2 := hin k hk h2
  rcases Nat.lt_trichotomy j k with h | h | h
  · have := arS_mono hon (k - (j + 1)) (j + 1) (by omega)
    rw [show j + 1 + (k - (j + 1)) = k by omega] at this
    omega
  · exact h
  · have := arS_mono hon (j - (k + 1)) (k + 1) (by omega)
    rw [show k + 1 + (j - (k + 1)) = j by omega] at this
    omega
/-- What is given is that Cell's alone. -/
theorem given_shO {e : Int} {L : List On} {l x y g s t : Int} (h : givB e L l x y g = true) (hs : M.spB s t = true) : shO (givE e L l x y g) (givL e L l x y g) s t = if holdO ⟨l, x, y, 0⟩ s t then g else shO e L s t := by
  have hd2 := giv_dir h
  have h2 := h
  unfold givB at h2
  simp only [Bool.and_eq_true, decide_eq_true_eq, Bool.not_eq_true', decide_eq_false_iff_not] at h2
  obtain ⟨hd, hp, -, -, -⟩ := h2
  have hLL : givL e L l x y g = L.set (posO l x y L) (givO (L.getD (posO l x y L) zon) g) := by unfold givL; rw [hd, h]; rfl
  unfold shO
  rw [hd2, hd, hs]
  simp only [Bool.and_self, if_true]
  rw [hLL]
  rw [hLL] at hd2
  obtain ⟨q1, q2, q3⟩ := posO_eq l x y L hp
  obtain ⟨k, hk⟩ : ∃ k, posO l x y L = k := ⟨_, rfl⟩
  rw [hk] at hp hd2 q1 q2 q3 ⊢
  obtain ⟨o, ho⟩ : ∃ o, L.getD k zon = o := ⟨_, rfl⟩
  rw [ho] at hd2 q1 q2 q3 ⊢
  have hgd : ∀ j, (L.set k (givO o g)).getD j zon = if j = k then givO o g else L.getD j zon := fun j => by
    by_cases e : j = k
    · subst e; simp [List.getD, hp]
    · rw [if_neg e]; simp only [List.getD]; rw [List.getElem?_set_ne (fun h => e h.symm)]
  have hho : ∀ j, holdO ((L.set k (givO o g)).getD j zon) s t = holdO (L.getD j zon) s t := fun j => by
    rw [hgd]
    by_cases e : j = k
    · subst e; rw [if_pos rfl, ho]; rfl
    · rw [if_neg e]
  have hpos := has_own hd hs
  have hpe : posF (fun o => aroC 8 s t o) L = posF (fun o => holdO o s t) L := posF_ext fun o ho => aro_hold hs ((dir_on hd).2 o ho)
  rw [hpe] at hpos
  have hpos2 := has_own hd2 hs
  have hpe2 : posF (fun o => aroC 8 s t o) (L.set k (givO o g)) = posF (fun o => holdO o s t) (L.set k (givO o g)) := posF_ext fun o ho => aro_hold hs ((dir_on hd2).2 o ho)
  rw [hpe2] at hpos2
  have y1 := posF_yes (f := fun o => holdO o s t) hpos
  have y2 := posF_yes (f := fun o => holdO o s t) hpos2
  rw [ofD_pos hpos, ofD_pos hpos2]
  generalize posF (fun o => holdO o s t) L = a at hpos y1 ⊢
  generalize posF (fun o => holdO o s t) (L.set k (givO o g)) = b at hpos2 y2 ⊢
  simp only [hho] at y2
  rw [List.length_set] at hpos2
  have hab : b = a := own_uniq hd hs hpos2 hpos y2 y1
  subst hab
  have hoc : holdO ⟨l, x, y, 0⟩ s t = holdO o s t := by unfold holdO; rw [q1, q2, q3]
  rw [hoc, hgd]
  by_cases e : b = k
  · subst e
    rw [ho] at y1
    rw [if_pos rfl, y1]; rfl
  · rw [if_neg e]
    cases hh : holdO o s t
    · rfl
    · exact absurd (own_uniq hd hs hpos hp y1 (by rw [ho]; exact hh)) e
end Go.Proofs.Ytamnmakegdnblaa.K.D
