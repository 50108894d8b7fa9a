/-
  Whose a Spot is: each Spot has an Own; the program's answer is the specification's.
-/
import Derived.Test.YtamnmakegdnblaaKP3
import Derived.Test.YtamnmakegdnblaaKD5
import Derived.Deep.RegionHeld3
namespace Go.Proofs.Ytamnmakegdnblaa.K.D
open Go.Shelf Go.RowKit Go.Joins
attribute [local go_sem] Oper.semAt_some

theorem aro_hold {s t : Int} (hs : M.spB s t = true) {o : On} (ho : onB o = true) : aroC 8 s t o = holdO o s t := by
  obtain ⟨l, x, y, q⟩ := o
  have hc : M.cellB l x y = true := onB_ok ho
  have h8 := M.cell8_ok hs
  obtain ⟨h0, h1, -⟩ := M.cellB_t.mp hc
  obtain ⟨s0, s1, t0, t1⟩ := M.spB_t.mp hs
  unfold aroC
  rw [M.insB_eq, h8]
  show ((true && M.cellB l x y) && M.lInB 8 s t l x y) = holdO ⟨l, x, y, q⟩ s t
  rw [hc]
  unfold M.lInB holdO
  simp only [Bool.and_self, Bool.true_and]
  rcases M.nine h0 h1 with rfl | rfl | rfl | rfl | rfl | rfl | rfl | rfl | rfl
  all_goals
    refine decide_eq_decide.mpr ?_
    simp only [M.sd]
    simp
    omega
/-- Each Spot is in an Own of a right Directory. -/
theorem has_own {e : Int} {L : List On} {s t : Int} (hd : dirB e L = true) (hs : M.spB s t = true) : posF (fun o => aroC 8 s t o) L < L.length := by
  obtain ⟨he, hn, hon, hlo, hsum⟩ := dir_whole hd
  have hc8 : (⟨8, s, t⟩ : M.T3).ok = true := M.cell8_ok hs
  obtain ⟨z0, z1⟩ := hi_bd hc8
  have hzs : (⟨8, s, t⟩ : M.T3).sz = 1 := rfl
  have hzh : (⟨8, s, t⟩ : M.T3).hi = (⟨8, s, t⟩ : M.T3).lo + 1 := by unfold M.T3.hi; rw [hzs]
  have key : ∀ d, d ≤ L.length → arS L (L.length - d) ≤ (⟨8, s, t⟩ : M.T3).lo → d ≠ 0 → ∃ j, j < L.length ∧ arS L j ≤ (⟨8, s, t⟩ : M.T3).lo ∧ (⟨8, s, t⟩ : M.T3).lo < arS L (j + 1) := by
    intro d
    induction d with
    | zero => intro _ _ h; exact absurd rfl h
    | succ d ih =>
      intro h1 h2 _
      by_cases h3 : (⟨8, s, t⟩ : M.T3).lo < arS L (L.length - (d + 1) + 1)
      · exact ⟨_, by omega, h2, h3⟩
      · have e1 : L.length - (d + 1) + 1 = L.length - d := by omega
        rw [e1] at h3
        by_cases hd0 : d = 0
        · subst hd0
          exfalso
          rw [Nat.sub_zero, hsum] at h3
          omega
        · exact ih (by omega) (by omega) hd0
  have hpos : L.length ≠ 0 := fun h => by rw [h, arS_zero] at hsum; omega
  obtain ⟨j, hj, a1, a2⟩ := key L.length (Nat.le_refl _) (by rw [Nat.sub_self, arS_zero]; exact z0) hpos
  have hins : aroC 8 s t (L.getD j zon) = true := by
    have h1 : M.insT ⟨8, s, t⟩ (L.getD j zon).t = true := by
      rw [M.ins_iff hc8 (onB_ok (hon j hj)), hlo j hj]
      refine ⟨a1, ?_⟩
      have h2 : (L.getD j zon).t.hi = arS L j + area (L.getD j zon) := by rw [area_sz (hon j hj), ← hlo j hj]; rfl
      rw [h2, hzh, ← arS_succ hj]
      omega
    exact h1
  exact Nat.lt_of_le_of_lt (posF_lt (f := fun o => aroC 8 s t o) hj hins) hj
theorem ofD_pos {s t : Int} : ∀ {L : List On}, posF (fun o => holdO o s t) L < L.length → ofD s t L = (L.getD (posF (fun o => holdO o s t) L) zon).s
  | [], h => by simp [posF] at h
  | o :: r, h => by
    unfold posF at h ⊢
    unfold ofD
    cases hf : holdO o s t
    · simp only [hf, Bool.false_eq_true, if_false, List.length_cons] at h ⊢
      have := ofD_pos (s := s) (t := t) (L := r) (by omega)
      rw [this]
      simp [List.getD]
    · simp [List.getD]
set_option maxRecDepth 100000 in
set_option maxHeartbeats 2000000 in
theorem shardAt_any (e : Int) (p : Option Addr) (n c : Nat) (L : List On) (hn : L.length = n) (s t : Int) (w : World) (hL : SlG kO w p L) (hd : dirB e L = true) (hs : M.spB s t = true) :
    Calls Try.prog 59 #[Dv.v ⟨e, p, n, c⟩, .agg #[.int .i64 s, .int .i64 t]] w fun ee w' => ee = .returned (.int .i64 (ofD s t L)) ∧ Below w.heap.size w w' := by
  have hst := ((St.nil w).push [.int .i64 e, .slice p n c] 26).push [.int .i64 s, .int .i64 t] 37
  simp only [World.size_alloc] at hst
  have hpl := has_own hd hs
  have hn64 := (dir_on hd).1
  have hon := (dir_on hd).2
  have hpe : posF (fun o => aroC 8 s t o) L = posF (fun o => holdO o s t) L := posF_ext fun o ho => aro_hold hs (hon o ho)
  obtain ⟨k, hk⟩ : ∃ k, posF (fun o => aroC 8 s t o) L = k := ⟨_, rfl⟩
  have hav : atF (fun o => aroC 8 s t o) L = k := by unfold atF; rw [if_pos hpl, hk]
  have hof : ofD s t L = (L.getD k zon).s := by rw [← hk, hpe]; exact ofD_pos (by rw [← hpe]; exact hpl)
  rw [hk] at hpl
  have HA := Lib.hid (fun W (h : Below w.heap.size w W) => at_aro e p n c L hn 8 s t W (hL.step h) (by omega))
  rw [hav] at HA
  have HCa := Lib.hid (fun W => M.iCellAt8 hs W)
  obtain ⟨g, off, rfl, hC⟩ := hL.at hpl
  obtain ⟨c0, c1, c2, c3⟩ := CsG.o4 hC (getO hpl)
  rw [← hof] at c3
  have hkn : (k : Int) < n := by omega
  have HD : Hid (∀ w', St w w' [(w.heap.size + 1, [.int .i64 s, .int .i64 t]), (w.heap.size, [.int .i64 e, .slice (some ⟨g, off, none⟩) n c])] → (((w'.cell? ⟨w.heap.size + 1, 0, none⟩ = some (.int .i64 s) ∧ w'.cell? ⟨w.heap.size + 1, 1, none⟩ = some (.int .i64 t)) ∧ (w'.cell? ⟨w.heap.size, 0, none⟩ = some (.int .i64 e) ∧ w'.cell? ⟨w.heap.size, 1, none⟩ = some (.slice (some ⟨g, off, none⟩) n c))) ∧ w'.cell? ⟨g, off + k * 4 + 3, none⟩ = some (.int .i64 (ofD s t L)))) := fun w' h => by
    have h2 := h.has
    simp only [Has, HasAt] at h2
    exact ⟨⟨⟨h2.1.2.2.1, h2.1.2.2.2.1⟩, ⟨h2.2.1.2.2.1, h2.2.1.2.2.2.1⟩⟩, (h.bel.cell (p := ⟨g, off + k * 4 + 3, none⟩) hC.1).trans c3⟩
  generalize ofD s t L = v at *
  clear hn hL hd hs hpl hn64 hon hpe hk hav hof c0 c1 c2 c3 hC
  go_enter Try.func59, Try.ntmps59
  go_upto_region 1 with (fail)
  go_region_held3 (fun w' => (((w'.cell? ⟨w.heap.size + 1, 0, none⟩ = some (.int .i64 s) ∧ w'.cell? ⟨w.heap.size + 1, 1, none⟩ = some (.int .i64 t)) ∧ (w'.cell? ⟨w.heap.size, 0, none⟩ = some (.int .i64 e) ∧ w'.cell? ⟨w.heap.size, 1, none⟩ = some (.slice (some ⟨g, off, none⟩) n c))) ∧ w'.cell? ⟨g, off + k * 4 + 3, none⟩ = some (.int .i64 v)))
    (first
      | assumption
      | with_reducible exact HD.out _ hst
      | with_reducible exact HD.out _ hst.dr)
    (first
      | (go_at_call 83; refine (HCa.out _).mono ?_; rintro ee w2 ⟨rfl, hb2⟩; (first | with_reducible (replace hst := hst.step hb2) | with_reducible (replace hst := hst.dr.step hb2)); clear hb2)
      | (go_at_call 74; refine (HA.out _ hst.bel).mono ?_; rintro ee w3 ⟨rfl, hb3⟩; replace hst := hst.step hb3; clear hb3))
  go_wp2
  go_ret
  exact ⟨rfl, hst.bel⟩
set_option maxRecDepth 100000 in
set_option maxHeartbeats 2000000 in
theorem iShardOf_any (e : Int) (p : Option Addr) (n c : Nat) (L : List On) (hn : L.length = n) (s t : Int) (w : World) (hL : SlG kO w p L) (hb0 : n ≤ 10000000) :
    Calls Try.prog 19 #[Dv.v ⟨e, p, n, c⟩, .agg #[.int .i64 s, .int .i64 t]] w fun ee w' => ee = .returned (.int .i64 (shO e L s t)) ∧ Below w.heap.size w w' := by
  have hst := ((St.nil w).push [.int .i64 e, .slice p n c] 26).push [.int .i64 s, .int .i64 t] 37
  simp only [World.size_alloc] at hst
  have HD := Lib.hid (fun W (h : Below w.heap.size w W) => iDirectoryOk_any e p n c L hn W (hL.step h) hb0)
  obtain ⟨bd, hbd⟩ : ∃ b, dirB e L = b := ⟨_, rfl⟩
  rw [hbd] at HD
  obtain ⟨bs, hbs⟩ : ∃ b, M.spB s t = b := ⟨_, rfl⟩
  have HSp := Lib.hid (fun W => M.spRight_v hbs W)
  have HV : Hid (shO e L s t = if bd && bs then ofD s t L else -1) := by show shO e L s t = _; unfold shO; rw [hbd, hbs]
  cases bd
  · clear hn hL hbd hbs
    go_enter Try.func19, Try.ntmps19
    go_wp2_with (go_at_call 17; refine (HD.out _ hst.bel).mono ?_; rintro ee w1 ⟨rfl, hb1⟩; have hs1 := hst.step hb1)
    go_ret
    exact ⟨M.ret_i64 HV.out.symm, hs1.bel⟩
  · cases bs
    · clear hn hL hbd hbs
      go_enter Try.func19, Try.ntmps19
      go_wp2_with (first
        | (go_at_call 17; refine (HD.out _ hst.bel).mono ?_; rintro ee w1 ⟨rfl, hb1⟩; have hs1 := hst.step hb1; have hk := hs1.has; simp [Has, HasAt] at hk)
        | (go_at_call 58; refine (HSp.out _).mono ?_; rintro ee w2 ⟨rfl, hb2⟩; have hs2 := hs1.step hb2))
      go_ret
      exact ⟨M.ret_i64 HV.out.symm, hs2.bel⟩
    · have HO := Lib.hid (fun W (h : Below w.heap.size w W) => shardAt_any e p n c L hn s t W (hL.step h) hbd hbs)
      clear hn hL hbd hbs
      go_enter Try.func19, Try.ntmps19
      go_wp2_with (first
        | (go_at_call 17; refine (HD.out _ hst.bel).mono ?_; rintro ee w1 ⟨rfl, hb1⟩; have hs1 := hst.step hb1; have hk := hs1.has; simp [Has, HasAt] at hk)
        | (go_at_call 58; refine (HSp.out _).mono ?_; rintro ee w2 ⟨rfl, hb2⟩; have hs2 := hs1.step hb2; clear hk; have hk := hs2.has; simp [Has, HasAt] at hk)
        | (go_at_call 59; refine (HO.out _ hs2.bel).mono ?_; rintro ee w3 ⟨rfl, hb3⟩; have hs3 := hs2.step hb3))
      go_ret
      exact ⟨M.ret_i64 HV.out.symm, hs3.bel⟩
end Go.Proofs.Ytamnmakegdnblaa.K.D
