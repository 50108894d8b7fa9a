/-
  Is it a Directory? The specification's.
-/
import Derived.Test.YtamnmakegdnblaaKD3
import Derived.Test.YtamnmakegdnblaaKFq
import Derived.Deep.LoopGhost
import Derived.Deep.CutRange
namespace Go.Proofs.Ytamnmakegdnblaa.K.D
open Go.Shelf Go.RowKit Go.Joins
attribute [local go_sem] Oper.semAt_some

def onB (o : On) : Bool := M.cellB o.l o.x o.y && M.inB o.s 0 3
/-- Does a lie inside b (as the specification asks)? -/
def insO (a b : On) : Bool := M.lInB a.l a.x a.y b.l b.x b.y
def apO (a b : On) : Bool := !insO a b && !insO b a
def plO (o : On) : Int := plc o.l o.x o.y
def okAt (L : List On) (j : Nat) : Bool := onB (L.getD j zon) && ((j == 0 || decide (plO (L.getD (j - 1) zon) < plO (L.getD j zon))) && (List.range j).all fun k => apO (L.getD j zon) (L.getD k zon))
def area (o : On) : Int := M.sd o.l * M.sd o.l
def arS (L : List On) (k : Nat) : Int := ((L.take k).map area).sum
/-- Is it a Directory? -/
def dirB (e : Int) (L : List On) : Bool := M.inB e 1 100000 && (decide (1 ≤ L.length ∧ L.length ≤ 64) && ((List.range L.length).all (okAt L) && decide (arS L L.length = 65536)))
theorem dir_no {e : Int} {L : List On} {k : Nat} (hk : k < L.length) (h : okAt L k = false) : dirB e L = false := by
  have : (List.range L.length).all (okAt L) = false := by
    rw [List.all_eq_false]
    exact ⟨k, List.mem_range.2 hk, by rw [h]; decide⟩
  unfold dirB
  rw [this]; simp
theorem okAt_on {L : List On} {k : Nat} (h : onB (L.getD k zon) = false) : okAt L k = false := by unfold okAt; rw [h]; rfl
theorem okAt_pl {L : List On} {k : Nat} (h0 : ¬ k = 0) (h : plO (L.getD k zon) ≤ plO (L.getD (k - 1) zon)) : okAt L k = false := by
  unfold okAt
  have h1 : (k == 0) = false := by simpa using h0
  have h2 : decide (plO (L.getD (k - 1) zon) < plO (L.getD k zon)) = false := decide_eq_false (by omega)
  rw [h1, h2]; simp
theorem okAt_in {L : List On} {k j : Nat} (hj : j < k) (h : apO (L.getD k zon) (L.getD j zon) = false) : okAt L k = false := by
  have : ((List.range k).all fun t => apO (L.getD k zon) (L.getD t zon)) = false := by
    rw [List.all_eq_false]
    exact ⟨j, List.mem_range.2 hj, by rw [h]; decide⟩
  unfold okAt
  rw [this]; simp
theorem okAt_yes {L : List On} {k : Nat} (h1 : onB (L.getD k zon) = true) (h2 : k = 0 ∨ plO (L.getD (k - 1) zon) < plO (L.getD k zon)) (h3 : ((List.range k).all fun t => apO (L.getD k zon) (L.getD t zon)) = true) : okAt L k = true := by
  unfold okAt
  have h4 : (k == 0 || decide (plO (L.getD (k - 1) zon) < plO (L.getD k zon))) = true := by
    rcases h2 with h | h
    · rw [h]; rfl
    · rw [decide_eq_true h, Bool.or_true]
  rw [h1, h3, h4]; rfl
theorem all_range_succ {f : Nat → Bool} {k : Nat} : (List.range (k + 1)).all f = ((List.range k).all f && f k) := by
  rw [List.range_succ, List.all_append]; simp
theorem arS_succ {L : List On} {k : Nat} (hk : k < L.length) : arS L (k + 1) = arS L k + area (L.getD k zon) := by
  unfold arS
  have : L[k]? = some (L.getD k zon) := getO hk
  rw [List.take_add_one, this, Option.toList_some, List.map_append, List.sum_append]; simp
theorem area_bd {o : On} (h : onB o = true) : 1 ≤ area o ∧ area o ≤ 65536 := by
  unfold onB at h
  obtain ⟨h0, h8, -⟩ := M.cellB_t.mp (Bool.and_eq_true_iff.mp h).1
  rcases M.nine h0 h8 with e | e | e | e | e | e | e | e | e <;> simp only [area, M.sd, e] <;> decide
theorem on_at {L : List On} {k j : Nat} (h : (List.range k).all (okAt L) = true) (hj : j < k) : onB (L.getD j zon) = true := by
  have := List.all_eq_true.mp h j (List.mem_range.2 hj)
  unfold okAt at this
  exact (Bool.and_eq_true_iff.mp this).1
set_option maxRecDepth 100000 in
set_option maxHeartbeats 8000000 in
theorem sDirectoryOk_any (e : Int) (p : Option Addr) (n c : Nat) (L : List On) (hn : L.length = n) (w : World) (hL : SlG kO w p L) (hnc : n ≤ c) :
    Calls Try.prog 18 #[Dv.v ⟨e, p, n, c⟩] w fun ee w' => ee = .returned (.bool (dirB e L)) ∧ Below w.heap.size w w' := by
  have hst := (St.nil w).push [.int .i64 e, .slice p n c] 26
  obtain ⟨be, hbe⟩ : ∃ b, M.inB e 1 100000 = b := ⟨_, rfl⟩
  have HI := Lib.hid (fun W => M.l1In_v hbe W)
  by_cases hok : be = true ∧ 1 ≤ n ∧ n ≤ 64
  case neg =>
    have HV : Hid (dirB e L = false) := by
      show dirB e L = false
      unfold dirB
      rw [hbe, hn]
      by_cases h1 : be = true
      · have : decide (1 ≤ n ∧ n ≤ 64) = false := decide_eq_false (fun h => hok ⟨h1, h⟩)
        rw [this]; simp
      · rw [show be = false by simpa using h1]; rfl
    clear hn hL hbe
    cases be
    · go_enter Try.func18, Try.ntmps18
      go_wp2_with (go_at_call 53; refine (HI.out _).mono ?_; rintro ee w1 ⟨rfl, rfl⟩)
      go_ret
      exact ⟨ret_bool HV.out.symm, hst.bel⟩
    · have hok' : ¬ (1 ≤ n ∧ n ≤ 64) := fun h => hok ⟨rfl, h⟩
      clear hok
      by_cases h1 : n < 1
      · have h2 : (n : Int) < 1 := by omega
        go_enter Try.func18, Try.ntmps18
        go_wp2_with (go_at_call 53; refine (HI.out _).mono ?_; rintro ee w1 ⟨rfl, rfl⟩)
        go_ret
        exact ⟨ret_bool HV.out.symm, hst.bel⟩
      · have h2 : ¬ (n : Int) < 1 := by omega
        have h3 : (64 : Int) < n := by omega
        go_enter Try.func18, Try.ntmps18
        go_wp2_with (go_at_call 53; refine (HI.out _).mono ?_; rintro ee w1 ⟨rfl, rfl⟩)
        go_ret
        exact ⟨ret_bool HV.out.symm, hst.bel⟩
  case pos =>
    obtain ⟨rfl, hn1, hn2⟩ := hok
    have h2 : ¬ (n : Int) < 1 := by omega
    have h3 : ¬ (64 : Int) < n := by omega
    have HN : Hid (L.length = n ∧ M.inB e 1 100000 = true ∧ n ≤ c) := ⟨hn, hbe, hnc⟩
    have HLL := Lib.hid hL
    clear hn hbe hL
    go_enter Try.func18, Try.ntmps18
    go_wp2_with (go_at_call 53; refine (HI.out _).mono ?_; rintro ee w1 ⟨rfl, rfl⟩)
    go_loopw [3, 4] (fun sv i wr => ∃ (k : Nat) (s : Int), k ≤ n ∧ sv = .int .i64 s ∧ i = .int .i64 k ∧ 0 ≤ s ∧ s ≤ k * 65536 ∧ Hid (s = arS L k ∧ (List.range k).all (okAt L) = true) ∧ St w wr [(w.heap.size, [.int .i64 e, .slice p n c])]) (fun _ i _ => n - (intOf i).toNat)
    case atStart => exact ⟨0, 0, by omega, rfl, rfl, by omega, by omega, ⟨rfl, rfl⟩, hst⟩
    case round =>
      clear hst
      rename World => wo
      obtain ⟨k, s, hk, rfl, rfl, hs0, hs1', hK, hst⟩ := hrel
      have hdir := hst.has
      simp [Has, HasAt] at hdir
      by_cases hlt : k < n
      · have hki : (k : Int) < n := by omega
        have hkL : k < L.length := by rw [HN.out.1]; exact hlt
        obtain ⟨g, off, rfl, hC⟩ := (HLL.out.step hst.bel).at hkL
        obtain ⟨c0, c1, c2, c3⟩ := CsG.o4 hC (getO hkL)
        obtain ⟨⟨l, x, y, q⟩, hm⟩ : ∃ m, L.getD k zon = m := ⟨_, rfl⟩
        rw [hm] at c0 c1 c2 c3
        dsimp only at c0 c1 c2 c3
        have HM := Lib.hid hm
        have HCs : Hid (∀ w', Below w.heap.size w w' → CsG kO w' g off L) := fun w' hb => by
          have h4 := (HLL.out.step hb)
          obtain ⟨g', off', e', h5⟩ := h4.at hkL
          injection e' with e'
          injection e' with e1 e2
          subst e1 e2
          exact h5
        have hs1 := hst.push [.int .i64 l, .int .i64 x, .int .i64 y, .int .i64 q] 73
        have HS : Hid (∀ w', St w w' [(wo.heap.size, [.int .i64 l, .int .i64 x, .int .i64 y, .int .i64 q]), (w.heap.size, [.int .i64 e, .slice (some ⟨g, off, none⟩) n c])] → (w'.cell? ⟨wo.heap.size, 0, none⟩ = some (.int .i64 l) ∧ w'.cell? ⟨wo.heap.size, 1, none⟩ = some (.int .i64 x) ∧ w'.cell? ⟨wo.heap.size, 2, none⟩ = some (.int .i64 y) ∧ w'.cell? ⟨wo.heap.size, 3, none⟩ = some (.int .i64 q)) ∧ (w'.cell? ⟨w.heap.size, 0, none⟩ = some (.int .i64 e) ∧ w'.cell? ⟨w.heap.size, 1, none⟩ = some (.slice (some ⟨g, off, none⟩) n c))) := fun w' h => by
          have := h.has
          simp [Has, HasAt] at this
          simp [this]
        clear hC hm hkL
        go_upto_region 8 with (fail)
        clear c0 c1 c2 c3 hdir
        obtain ⟨cb, hcb⟩ : ∃ b, M.cellB l x y = b := ⟨_, rfl⟩
        have HCB := Lib.hid hcb
        have hS : ∀ w', St w w' [(wo.heap.size, [.int .i64 l, .int .i64 x, .int .i64 y, .int .i64 q]), (w.heap.size, [.int .i64 e, .slice (some ⟨g, off, none⟩) n c])] → _ := HS.out
        cases cb
        · have HV : Hid (dirB e L = false) := dir_no (by rw [HN.out.1]; exact hlt) (okAt_on (by rw [HM.out]; unfold onB; simp only; rw [hcb]; rfl))
          clear hcb
          refine wp_region_quiet (C := fun w' => St w w' [(wo.heap.size, [.int .i64 l, .int .i64 x, .int .i64 y, .int .i64 q]), (w.heap.size, [.int .i64 e, .slice (some ⟨g, off, none⟩) n c])]) (by kernel_rfl) (by kernel_rfl) (hs1.dr) ?_
          refine q_intro (fun A hA => ?_)
          have hf : Fr 101 A [(1, .pointer (some ⟨w.heap.size, 0, none⟩)), (4, .int .i64 (k : Int)), (5, .pointer (some ⟨wo.heap.size, 0, none⟩))] := by subst hA; exact ⟨rfl, by simp⟩
          refine q_step hf (d := 36) (v := .pointer (some ⟨wo.heap.size, 0, none⟩)) rfl rfl (by decide) (by simp) (fun w' hw' => ?_) (fun A hA36 hf => ?_)
          · have f5 := hf.get (d := 5) (v := .pointer (some ⟨wo.heap.size, 0, none⟩)) (by simp)
            clear hf
            simp [Oper.quietAt, Oper.quietUpon, go_sem, f5]
          refine q_step hf (d := 37) (v := .agg #[.int .i64 l, .int .i64 x, .int .i64 y]) rfl rfl (by decide) (by simp) (fun w' hw' => ?_) (fun A hA37 hf => ?_)
          · have hc := hS _ hw'
            have f36 := hf.get (d := 36) (v := .pointer (some ⟨wo.heap.size, 0, none⟩)) (by simp)
            clear hf
            simp [Oper.quietAt, Oper.quietUpon, go_sem, f36, hc]
          refine q_step hf (d := 38) (v := .bool false) rfl rfl (by decide) (by simp) (fun w' hw' => ?_) (fun A hA38 hf => ?_)
          · have f37 := hf.get (d := 37) (v := .agg #[.int .i64 l, .int .i64 x, .int .i64 y]) (by simp)
            clear hf
            simp [Oper.quietAt, Oper.quietUpon, go_sem, f37]
            exact (M.sCellOk_v HCB.out _).mono fun e w1 h => ⟨h.1, hw'.step h.2⟩
          refine q_step hf (d := 39) (v := .bool true) rfl rfl (by decide) (by simp) (fun w' hw' => ?_) (fun A hA39 hf => ?_)
          · have f38 := hf.get (d := 38) (v := .bool false) (by simp)
            clear hf
            simp [Oper.quietAt, Oper.quietUpon, go_sem, f38]
          refine q_step hf (d := 40) (v := .bool true) rfl rfl (by decide) (by simp) (fun w' hw' => ?_) (fun A hA40 hf => ?_)
          · have f39 := hf.get (d := 39) (v := .bool true) (by simp)
            clear hf
            simp [Oper.quietAt, Oper.quietUpon, go_sem, f39]
          refine q_skip hf (d := 41) (e := 40) (b := true) rfl rfl (by simp) rfl rfl (by decide) (by simp) (fun A hA41 hf => ?_)
          refine q_skip hf (d := 42) (e := 40) (b := true) rfl rfl (by simp) rfl rfl (by decide) (by simp) (fun A hA42 hf => ?_)
          refine q_skip hf (d := 43) (e := 40) (b := true) rfl rfl (by simp) rfl rfl (by decide) (by simp) (fun A hA43 hf => ?_)
          refine q_skip hf (d := 44) (e := 40) (b := true) rfl rfl (by simp) rfl rfl (by decide) (by simp) (fun A hA44 hf => ?_)
          refine q_step hf (d := 45) (v := .bool true) rfl rfl (by decide) (by simp) (fun w' hw' => ?_) (fun A hA45 hf => ?_)
          · have f40 := hf.get (d := 40) (v := .bool true) (by simp)
            clear hf
            simp [Oper.quietAt, Oper.quietUpon, go_sem, f40]
          refine q_step hf (d := 46) (v := .bool true) rfl rfl (by decide) (by simp) (fun w' hw' => ?_) (fun A hA46 hf => ?_)
          · have f45 := hf.get (d := 45) (v := .bool true) (by simp)
            clear hf
            simp [Oper.quietAt, Oper.quietUpon, go_sem, f45]
          refine q_skip hf (d := 47) (e := 46) (b := true) rfl rfl (by simp) rfl rfl (by decide) (by simp) (fun A hA47 hf => ?_)
          refine q_skip hf (d := 48) (e := 46) (b := true) rfl rfl (by simp) rfl rfl (by decide) (by simp) (fun A hA48 hf => ?_)
          refine q_skip hf (d := 49) (e := 46) (b := true) rfl rfl (by simp) rfl rfl (by decide) (by simp) (fun A hA49 hf => ?_)
          refine q_skipU hf (d := 50) (e := 49) rfl rfl (by simp) rfl (by decide) (by simp) (fun A hA50 hf => ?_)
          refine q_skipU hf (d := 51) (e := 49) rfl rfl (by simp) rfl (by decide) (by simp) (fun A hA51 hf => ?_)
          refine q_skipU hf (d := 52) (e := 49) rfl rfl (by simp) rfl (by decide) (by simp) (fun A hA52 hf => ?_)
          refine q_skipU hf (d := 53) (e := 49) rfl rfl (by simp) rfl (by decide) (by simp) (fun A hA53 hf => ?_)
          refine q_skipU hf (d := 54) (e := 49) rfl rfl (by simp) rfl (by decide) (by simp) (fun A hA54 hf => ?_)
          refine q_skipU hf (d := 55) (e := 49) rfl rfl (by simp) rfl (by decide) (by simp) (fun A hA55 hf => ?_)
          refine q_skipU hf (d := 56) (e := 49) rfl rfl (by simp) rfl (by decide) (by simp) (fun A hA56 hf => ?_)
          refine q_skipU hf (d := 57) (e := 49) rfl rfl (by simp) rfl (by decide) (by simp) (fun A hA57 hf => ?_)
          refine q_skipU hf (d := 58) (e := 49) rfl rfl (by simp) rfl (by decide) (by simp) (fun A hA58 hf => ?_)
          refine q_skipU hf (d := 59) (e := 49) rfl rfl (by simp) rfl (by decide) (by simp) (fun A hA59 hf => ?_)
          refine q_skipU hf (d := 60) (e := 49) rfl rfl (by simp) rfl (by decide) (by simp) (fun A hA60 hf => ?_)
          refine q_skipU hf (d := 61) (e := 49) rfl rfl (by simp) rfl (by decide) (by simp) (fun A hA61 hf => ?_)
          refine q_skip hf (d := 62) (e := 46) (b := true) rfl rfl (by simp) rfl rfl (by decide) (by simp) (fun A hA62 hf => ?_)
          refine q_step hf (d := 63) (v := .bool true) rfl rfl (by decide) (by simp) (fun w' hw' => ?_) (fun A hA63 hf => ?_)
          · have f46 := hf.get (d := 46) (v := .bool true) (by simp)
            clear hf
            simp [Oper.quietAt, Oper.quietUpon, go_sem, f46]
          refine wpQuiet_nil (fun w' hw' => ?_)
          clear hf
          subst hA63 hA62 hA61 hA60 hA59 hA58 hA57 hA56 hA55 hA54 hA53 hA52 hA51 hA50 hA49 hA48 hA47 hA46 hA45 hA44 hA43 hA42 hA41 hA40 hA39 hA38 hA37 hA36 hA
          simp only [Act.put, List.setIfInBounds_toArray, List.set_cons_succ, List.set_cons_zero]
          go_wp2
          go_ret
          exact ⟨ret_bool HV.out.symm, hw'.bel⟩
        obtain ⟨sb, hsb⟩ : ∃ b, M.inB q 0 3 = b := ⟨_, rfl⟩
        have HSB := Lib.hid hsb
        cases sb
        · have HV : Hid (dirB e L = false) := dir_no (by rw [HN.out.1]; exact hlt) (okAt_on (by rw [HM.out]; unfold onB; simp only; rw [hsb, Bool.and_false]))
          clear hcb hsb
          refine wp_region_quiet (C := fun w' => St w w' [(wo.heap.size, [.int .i64 l, .int .i64 x, .int .i64 y, .int .i64 q]), (w.heap.size, [.int .i64 e, .slice (some ⟨g, off, none⟩) n c])]) (by kernel_rfl) (by kernel_rfl) (hs1.dr) ?_
          refine q_intro (fun A hA => ?_)
          have hf : Fr 101 A [(1, .pointer (some ⟨w.heap.size, 0, none⟩)), (4, .int .i64 (k : Int)), (5, .pointer (some ⟨wo.heap.size, 0, none⟩))] := by subst hA; exact ⟨rfl, by simp⟩
          refine q_step hf (d := 36) (v := .pointer (some ⟨wo.heap.size, 0, none⟩)) rfl rfl (by decide) (by simp) (fun w' hw' => ?_) (fun A hA36 hf => ?_)
          · have f5 := hf.get (d := 5) (v := .pointer (some ⟨wo.heap.size, 0, none⟩)) (by simp)
            clear hf
            simp [Oper.quietAt, Oper.quietUpon, go_sem, f5]
          refine q_step hf (d := 37) (v := .agg #[.int .i64 l, .int .i64 x, .int .i64 y]) rfl rfl (by decide) (by simp) (fun w' hw' => ?_) (fun A hA37 hf => ?_)
          · have hc := hS _ hw'
            have f36 := hf.get (d := 36) (v := .pointer (some ⟨wo.heap.size, 0, none⟩)) (by simp)
            clear hf
            simp [Oper.quietAt, Oper.quietUpon, go_sem, f36, hc]
          refine q_step hf (d := 38) (v := .bool true) rfl rfl (by decide) (by simp) (fun w' hw' => ?_) (fun A hA38 hf => ?_)
          · have f37 := hf.get (d := 37) (v := .agg #[.int .i64 l, .int .i64 x, .int .i64 y]) (by simp)
            clear hf
            simp [Oper.quietAt, Oper.quietUpon, go_sem, f37]
            exact (M.sCellOk_v HCB.out _).mono fun e w1 h => ⟨h.1, hw'.step h.2⟩
          refine q_step hf (d := 39) (v := .bool false) rfl rfl (by decide) (by simp) (fun w' hw' => ?_) (fun A hA39 hf => ?_)
          · have f38 := hf.get (d := 38) (v := .bool true) (by simp)
            clear hf
            simp [Oper.quietAt, Oper.quietUpon, go_sem, f38]
          refine q_step hf (d := 40) (v := .bool false) rfl rfl (by decide) (by simp) (fun w' hw' => ?_) (fun A hA40 hf => ?_)
          · have f39 := hf.get (d := 39) (v := .bool false) (by simp)
            clear hf
            simp [Oper.quietAt, Oper.quietUpon, go_sem, f39]
          refine q_want hf (d := 41) (v := .pointer (some ⟨wo.heap.size, 3, none⟩)) (e := 40) rfl rfl (by simp) rfl (by decide) (by simp) (fun w' hw' => ?_) (fun A hA41 hf => ?_)
          · have f5 := hf.get (d := 5) (v := .pointer (some ⟨wo.heap.size, 0, none⟩)) (by simp)
            clear hf
            simp [Oper.quietAt, Oper.quietUpon, go_sem, f5]
          refine q_want hf (d := 42) (v := .int .i64 q) (e := 40) rfl rfl (by simp) rfl (by decide) (by simp) (fun w' hw' => ?_) (fun A hA42 hf => ?_)
          · have hc := hS _ hw'
            have f41 := hf.get (d := 41) (v := .pointer (some ⟨wo.heap.size, 3, none⟩)) (by simp)
            clear hf
            simp [Oper.quietAt, Oper.quietUpon, go_sem, f41, hc]
          refine q_want hf (d := 43) (v := .bool false) (e := 40) rfl rfl (by simp) rfl (by decide) (by simp) (fun w' hw' => ?_) (fun A hA43 hf => ?_)
          · have f42 := hf.get (d := 42) (v := .int .i64 q) (by simp)
            clear hf
            simp [Oper.quietAt, Oper.quietUpon, go_sem, f42]
            exact (M.l1In_v HSB.out _).mono fun e w1 h => ⟨h.1, h.2 ▸ hw'⟩
          refine q_want hf (d := 44) (v := .bool true) (e := 40) rfl rfl (by simp) rfl (by decide) (by simp) (fun w' hw' => ?_) (fun A hA44 hf => ?_)
          · have f43 := hf.get (d := 43) (v := .bool false) (by simp)
            clear hf
            simp [Oper.quietAt, Oper.quietUpon, go_sem, f43]
          refine q_step hf (d := 45) (v := .bool true) rfl rfl (by decide) (by simp) (fun w' hw' => ?_) (fun A hA45 hf => ?_)
          · have f40 := hf.get (d := 40) (v := .bool false) (by simp)
            have f44 := hf.get (d := 44) (v := .bool true) (by simp)
            clear hf
            simp [Oper.quietAt, Oper.quietUpon, go_sem, f40, f44]
          refine q_step hf (d := 46) (v := .bool true) rfl rfl (by decide) (by simp) (fun w' hw' => ?_) (fun A hA46 hf => ?_)
          · have f45 := hf.get (d := 45) (v := .bool true) (by simp)
            clear hf
            simp [Oper.quietAt, Oper.quietUpon, go_sem, f45]
          refine q_skip hf (d := 47) (e := 46) (b := true) rfl rfl (by simp) rfl rfl (by decide) (by simp) (fun A hA47 hf => ?_)
          refine q_skip hf (d := 48) (e := 46) (b := true) rfl rfl (by simp) rfl rfl (by decide) (by simp) (fun A hA48 hf => ?_)
          refine q_skip hf (d := 49) (e := 46) (b := true) rfl rfl (by simp) rfl rfl (by decide) (by simp) (fun A hA49 hf => ?_)
          refine q_skipU hf (d := 50) (e := 49) rfl rfl (by simp) rfl (by decide) (by simp) (fun A hA50 hf => ?_)
          refine q_skipU hf (d := 51) (e := 49) rfl rfl (by simp) rfl (by decide) (by simp) (fun A hA51 hf => ?_)
          refine q_skipU hf (d := 52) (e := 49) rfl rfl (by simp) rfl (by decide) (by simp) (fun A hA52 hf => ?_)
          refine q_skipU hf (d := 53) (e := 49) rfl rfl (by simp) rfl (by decide) (by simp) (fun A hA53 hf => ?_)
          refine q_skipU hf (d := 54) (e := 49) rfl rfl (by simp) rfl (by decide) (by simp) (fun A hA54 hf => ?_)
          refine q_skipU hf (d := 55) (e := 49) rfl rfl (by simp) rfl (by decide) (by simp) (fun A hA55 hf => ?_)
          refine q_skipU hf (d := 56) (e := 49) rfl rfl (by simp) rfl (by decide) (by simp) (fun A hA56 hf => ?_)
          refine q_skipU hf (d := 57) (e := 49) rfl rfl (by simp) rfl (by decide) (by simp) (fun A hA57 hf => ?_)
          refine q_skipU hf (d := 58) (e := 49) rfl rfl (by simp) rfl (by decide) (by simp) (fun A hA58 hf => ?_)
          refine q_skipU hf (d := 59) (e := 49) rfl rfl (by simp) rfl (by decide) (by simp) (fun A hA59 hf => ?_)
          refine q_skipU hf (d := 60) (e := 49) rfl rfl (by simp) rfl (by decide) (by simp) (fun A hA60 hf => ?_)
          refine q_skipU hf (d := 61) (e := 49) rfl rfl (by simp) rfl (by decide) (by simp) (fun A hA61 hf => ?_)
          refine q_skip hf (d := 62) (e := 46) (b := true) rfl rfl (by simp) rfl rfl (by decide) (by simp) (fun A hA62 hf => ?_)
          refine q_step hf (d := 63) (v := .bool true) rfl rfl (by decide) (by simp) (fun w' hw' => ?_) (fun A hA63 hf => ?_)
          · have f46 := hf.get (d := 46) (v := .bool true) (by simp)
            clear hf
            simp [Oper.quietAt, Oper.quietUpon, go_sem, f46]
          refine wpQuiet_nil (fun w' hw' => ?_)
          clear hf
          subst hA63 hA62 hA61 hA60 hA59 hA58 hA57 hA56 hA55 hA54 hA53 hA52 hA51 hA50 hA49 hA48 hA47 hA46 hA45 hA44 hA43 hA42 hA41 hA40 hA39 hA38 hA37 hA36 hA
          simp only [Act.put, List.setIfInBounds_toArray, List.set_cons_succ, List.set_cons_zero]
          go_wp2
          go_ret
          exact ⟨ret_bool HV.out.symm, hw'.bel⟩
        have HON : Hid (onB (L.getD k zon) = true) := by show onB (L.getD k zon) = true; rw [HM.out]; unfold onB; simp only; rw [hcb, hsb]; rfl
        obtain ⟨p1, hp1⟩ : ∃ z, plc l x y = z := ⟨_, rfl⟩
        have HP1 : Hid (∀ w', St w w' [(wo.heap.size, [.int .i64 l, .int .i64 x, .int .i64 y, .int .i64 q]), (w.heap.size, [.int .i64 e, .slice (some ⟨g, off, none⟩) n c])] → Calls Try.prog 55 #[.agg #[.int .i64 l, .int .i64 x, .int .i64 y]] w' fun ee w'' => ee = .returned (.int .i64 p1) ∧ St w w'' [(wo.heap.size, [.int .i64 l, .int .i64 x, .int .i64 y, .int .i64 q]), (w.heap.size, [.int .i64 e, .slice (some ⟨g, off, none⟩) n c])]) := fun w' hw' => (hp1 ▸ l2Place_any hcb w').mono fun e w1 h => ⟨h.1, hw'.step h.2⟩
        have HR : Hid (∀ w, Calls Try.prog 56 #[.agg #[.int .i64 l, .int .i64 x, .int .i64 y]] w fun e w' => e = .returned (.agg #[.int .i64 (x * M.sd l), .int .i64 (y * M.sd l), .int .i64 (M.sd l), .int .i64 (M.sd l)]) ∧ Below w.heap.size w w') := fun w => by
          have := M.l2Rect_any hcb w
          simp only [M.rX, M.rY, M.rS, hcb, if_true] at this
          exact this
        have HLV : Hid (0 ≤ l ∧ l ≤ 8) := M.cell_lev hcb
        have HAR : Hid (area (L.getD k zon) = M.sd l * M.sd l ∧ 1 ≤ M.sd l * M.sd l ∧ M.sd l * M.sd l ≤ 65536) := by
          have := area_bd HON.out
          rw [HM.out] at this
          exact ⟨by rw [HM.out]; rfl, this⟩
        generalize x * M.sd l = rx at HR
        generalize y * M.sd l = ry at HR
        generalize M.sd l = d at HR HAR
        clear hcb hsb
        by_cases HPQ : ¬ (k = 0 ∨ plO (L.getD (k - 1) zon) < plO (L.getD k zon))
        · have HV : Hid (dirB e L = false) := dir_no (by rw [HN.out.1]; exact hlt) (okAt_pl (by omega) (by omega))
          have hk0 : ¬ k = 0 := by omega
          have hle0 : plO (L.getD k zon) ≤ plO (L.getD (k - 1) zon) := by omega
          clear HPQ
          obtain ⟨j0, hj0⟩ : ∃ j, k - 1 = j := ⟨_, rfl⟩
          have hj1 : j0 < k := by omega
          have hjL : j0 < L.length := by rw [HN.out.1]; omega
          have hon0 := on_at hK.out.2 hj1
          have hgj := getO hjL
          obtain ⟨⟨l0, x0, y0, q0⟩, hm0⟩ : ∃ m, L.getD j0 zon = m := ⟨_, rfl⟩
          rw [hm0] at hon0 hgj
          have hc0 : M.cellB l0 x0 y0 = true := (Bool.and_eq_true_iff.mp hon0).1
          obtain ⟨p0, hp0⟩ : ∃ z, plc l0 x0 y0 = z := ⟨_, rfl⟩
          have HP0 : Hid (∀ w', St w w' [(wo.heap.size, [.int .i64 l, .int .i64 x, .int .i64 y, .int .i64 q]), (w.heap.size, [.int .i64 e, .slice (some ⟨g, off, none⟩) n c])] → Calls Try.prog 55 #[.agg #[.int .i64 l0, .int .i64 x0, .int .i64 y0]] w' fun ee w'' => ee = .returned (.int .i64 p0) ∧ St w w'' [(wo.heap.size, [.int .i64 l, .int .i64 x, .int .i64 y, .int .i64 q]), (w.heap.size, [.int .i64 e, .slice (some ⟨g, off, none⟩) n c])]) := fun w' hw' => (hp0 ▸ l2Place_any hc0 w').mono fun e w1 h => ⟨h.1, hw'.step h.2⟩
          have hk1 : IntKind.i64.wrap ((k : Int) - 1) = (j0 : Int) := by rw [IntKind.wrap_i64]; omega
          have hk2 : (j0 : Int) < n := by omega
          have hkp : (0 : Int) < k := by omega
          replace hS : ∀ w', St w w' [(wo.heap.size, [.int .i64 l, .int .i64 x, .int .i64 y, .int .i64 q]), (w.heap.size, [.int .i64 e, .slice (some ⟨g, off, none⟩) n c])] → ((w'.cell? ⟨wo.heap.size, 0, none⟩ = some (.int .i64 l) ∧ w'.cell? ⟨wo.heap.size, 1, none⟩ = some (.int .i64 x) ∧ w'.cell? ⟨wo.heap.size, 2, none⟩ = some (.int .i64 y) ∧ w'.cell? ⟨wo.heap.size, 3, none⟩ = some (.int .i64 q)) ∧ (w'.cell? ⟨w.heap.size, 0, none⟩ = some (.int .i64 e) ∧ w'.cell? ⟨w.heap.size, 1, none⟩ = some (.slice (some ⟨g, off, none⟩) n c))) ∧ (w'.cell? ⟨g, off + j0 * 4, none⟩ = some (.int .i64 l0) ∧ w'.cell? ⟨g, off + j0 * 4 + 1, none⟩ = some (.int .i64 x0) ∧ w'.cell? ⟨g, off + j0 * 4 + 2, none⟩ = some (.int .i64 y0)) := fun w' h => by
            obtain ⟨d0, d1, d2, -⟩ := CsG.o4 (HCs.out _ h.bel) hgj
            exact ⟨HS.out w' h, d0, d1, d2⟩
          have hle : p1 ≤ p0 := by
            rw [hj0, HM.out, hm0] at hle0
            unfold plO at hle0
            simp only at hle0
            rw [hp1, hp0] at hle0
            exact hle0
          clear hle0 hp0 hp1 hm0 hon0 hgj hc0
          refine wp_region_quiet (C := fun w' => St w w' [(wo.heap.size, [.int .i64 l, .int .i64 x, .int .i64 y, .int .i64 q]), (w.heap.size, [.int .i64 e, .slice (some ⟨g, off, none⟩) n c])]) (by kernel_rfl) (by kernel_rfl) (hs1.dr) ?_
          refine q_intro (fun A hA => ?_)
          have hf : Fr 101 A [(1, .pointer (some ⟨w.heap.size, 0, none⟩)), (4, .int .i64 (k : Int)), (5, .pointer (some ⟨wo.heap.size, 0, none⟩))] := by subst hA; exact ⟨rfl, by simp⟩
          refine q_step hf (d := 36) (v := .pointer (some ⟨wo.heap.size, 0, none⟩)) rfl rfl (by decide) (by simp) (fun w' hw' => ?_) (fun A hA36 hf => ?_)
          · have f5 := hf.get (d := 5) (v := .pointer (some ⟨wo.heap.size, 0, none⟩)) (by simp)
            clear hf
            simp [Oper.quietAt, Oper.quietUpon, go_sem, f5]
          refine q_step hf (d := 37) (v := .agg #[.int .i64 l, .int .i64 x, .int .i64 y]) rfl rfl (by decide) (by simp) (fun w' hw' => ?_) (fun A hA37 hf => ?_)
          · have hc := hS _ hw'
            have f36 := hf.get (d := 36) (v := .pointer (some ⟨wo.heap.size, 0, none⟩)) (by simp)
            clear hf
            simp [Oper.quietAt, Oper.quietUpon, go_sem, f36, hc]
          refine q_step hf (d := 38) (v := .bool true) rfl rfl (by decide) (by simp) (fun w' hw' => ?_) (fun A hA38 hf => ?_)
          · have f37 := hf.get (d := 37) (v := .agg #[.int .i64 l, .int .i64 x, .int .i64 y]) (by simp)
            clear hf
            simp [Oper.quietAt, Oper.quietUpon, go_sem, f37]
            exact (M.sCellOk_v HCB.out _).mono fun e w1 h => ⟨h.1, hw'.step h.2⟩
          refine q_step hf (d := 39) (v := .bool false) rfl rfl (by decide) (by simp) (fun w' hw' => ?_) (fun A hA39 hf => ?_)
          · have f38 := hf.get (d := 38) (v := .bool true) (by simp)
            clear hf
            simp [Oper.quietAt, Oper.quietUpon, go_sem, f38]
          refine q_step hf (d := 40) (v := .bool false) rfl rfl (by decide) (by simp) (fun w' hw' => ?_) (fun A hA40 hf => ?_)
          · have f39 := hf.get (d := 39) (v := .bool false) (by simp)
            clear hf
            simp [Oper.quietAt, Oper.quietUpon, go_sem, f39]
          refine q_want hf (d := 41) (v := .pointer (some ⟨wo.heap.size, 3, none⟩)) (e := 40) rfl rfl (by simp) rfl (by decide) (by simp) (fun w' hw' => ?_) (fun A hA41 hf => ?_)
          · have f5 := hf.get (d := 5) (v := .pointer (some ⟨wo.heap.size, 0, none⟩)) (by simp)
            clear hf
            simp [Oper.quietAt, Oper.quietUpon, go_sem, f5]
          refine q_want hf (d := 42) (v := .int .i64 q) (e := 40) rfl rfl (by simp) rfl (by decide) (by simp) (fun w' hw' => ?_) (fun A hA42 hf => ?_)
          · have hc := hS _ hw'
            have f41 := hf.get (d := 41) (v := .pointer (some ⟨wo.heap.size, 3, none⟩)) (by simp)
            clear hf
            simp [Oper.quietAt, Oper.quietUpon, go_sem, f41, hc]
          refine q_want hf (d := 43) (v := .bool true) (e := 40) rfl rfl (by simp) rfl (by decide) (by simp) (fun w' hw' => ?_) (fun A hA43 hf => ?_)
          · have f42 := hf.get (d := 42) (v := .int .i64 q) (by simp)
            clear hf
            simp [Oper.quietAt, Oper.quietUpon, go_sem, f42]
            exact (M.l1In_v HSB.out _).mono fun e w1 h => ⟨h.1, h.2 ▸ hw'⟩
          refine q_want hf (d := 44) (v := .bool false) (e := 40) rfl rfl (by simp) rfl (by decide) (by simp) (fun w' hw' => ?_) (fun A hA44 hf => ?_)
          · have f43 := hf.get (d := 43) (v := .bool true) (by simp)
            clear hf
            simp [Oper.quietAt, Oper.quietUpon, go_sem, f43]
          refine q_step hf (d := 45) (v := .bool false) rfl rfl (by decide) (by simp) (fun w' hw' => ?_) (fun A hA45 hf => ?_)
          · have f40 := hf.get (d := 40) (v := .bool false) (by simp)
            have f44 := hf.get (d := 44) (v := .bool false) (by simp)
            clear hf
            simp [Oper.quietAt, Oper.quietUpon, go_sem, f40, f44]
          refine q_step hf (d := 46) (v := .bool false) rfl rfl (by decide) (by simp) (fun w' hw' => ?_) (fun A hA46 hf => ?_)
          · have f45 := hf.get (d := 45) (v := .bool false) (by simp)
            clear hf
            simp [Oper.quietAt, Oper.quietUpon, go_sem, f45]
          refine q_want hf (d := 47) (v := .int .i64 (k : Int)) (e := 46) rfl rfl (by simp) rfl (by decide) (by simp) (fun w' hw' => ?_) (fun A hA47 hf => ?_)
          · have f4 := hf.get (d := 4) (v := .int .i64 (k : Int)) (by simp)
            clear hf
            simp [Oper.quietAt, Oper.quietUpon, go_sem, f4]
          refine q_want hf (d := 48) (v := .bool true) (e := 46) rfl rfl (by simp) rfl (by decide) (by simp) (fun w' hw' => ?_) (fun A hA48 hf => ?_)
          · have f47 := hf.get (d := 47) (v := .int .i64 (k : Int)) (by simp)
            clear hf
            simp [Oper.quietAt, Oper.quietUpon, go_sem, f47]
            exact Nat.pos_of_ne_zero hk0
          refine q_want hf (d := 49) (v := .bool true) (e := 46) rfl rfl (by simp) rfl (by decide) (by simp) (fun w' hw' => ?_) (fun A hA49 hf => ?_)
          · have f48 := hf.get (d := 48) (v := .bool true) (by simp)
            clear hf
            simp [Oper.quietAt, Oper.quietUpon, go_sem, f48]
          refine q_want hf (d := 50) (v := .pointer (some ⟨wo.heap.size, 0, none⟩)) (e := 49) rfl rfl (by simp) rfl (by decide) (by simp) (fun w' hw' => ?_) (fun A hA50 hf => ?_)
          · have f5 := hf.get (d := 5) (v := .pointer (some ⟨wo.heap.size, 0, none⟩)) (by simp)
            clear hf
            simp [Oper.quietAt, Oper.quietUpon, go_sem, f5]
          refine q_want hf (d := 51) (v := .agg #[.int .i64 l, .int .i64 x, .int .i64 y]) (e := 49) rfl rfl (by simp) rfl (by decide) (by simp) (fun w' hw' => ?_) (fun A hA51 hf => ?_)
          · have hc := hS _ hw'
            have f50 := hf.get (d := 50) (v := .pointer (some ⟨wo.heap.size, 0, none⟩)) (by simp)
            clear hf
            simp [Oper.quietAt, Oper.quietUpon, go_sem, f50, hc]
          refine q_want hf (d := 52) (v := .int .i64 p1) (e := 49) rfl rfl (by simp) rfl (by decide) (by simp) (fun w' hw' => ?_) (fun A hA52 hf => ?_)
          · have f51 := hf.get (d := 51) (v := .agg #[.int .i64 l, .int .i64 x, .int .i64 y]) (by simp)
            clear hf
            simp [Oper.quietAt, Oper.quietUpon, go_sem, f51]
            exact HP1.out _ hw'
          refine q_want hf (d := 53) (v := .pointer (some ⟨w.heap.size, 1, none⟩)) (e := 49) rfl rfl (by simp) rfl (by decide) (by simp) (fun w' hw' => ?_) (fun A hA53 hf => ?_)
          · have f1 := hf.get (d := 1) (v := .pointer (some ⟨w.heap.size, 0, none⟩)) (by simp)
            clear hf
            simp [Oper.quietAt, Oper.quietUpon, go_sem, f1]
          refine q_want hf (d := 54) (v := .slice (some ⟨g, off, none⟩) n c) (e := 49) rfl rfl (by simp) rfl (by decide) (by simp) (fun w' hw' => ?_) (fun A hA54 hf => ?_)
          · have hc := hS _ hw'
            have f53 := hf.get (d := 53) (v := .pointer (some ⟨w.heap.size, 1, none⟩)) (by simp)
            clear hf
            simp [Oper.quietAt, Oper.quietUpon, go_sem, f53, hc]
          refine q_want hf (d := 55) (v := .int .i64 (k : Int)) (e := 49) rfl rfl (by simp) rfl (by decide) (by simp) (fun w' hw' => ?_) (fun A hA55 hf => ?_)
          · have f4 := hf.get (d := 4) (v := .int .i64 (k : Int)) (by simp)
            clear hf
            simp [Oper.quietAt, Oper.quietUpon, go_sem, f4]
          refine q_want hf (d := 56) (v := .int .i64 (j0 : Int)) (e := 49) rfl rfl (by simp) rfl (by decide) (by simp) (fun w' hw' => ?_) (fun A hA56 hf => ?_)
          · have f55 := hf.get (d := 55) (v := .int .i64 (k : Int)) (by simp)
            clear hf
            simp [Oper.quietAt, Oper.quietUpon, go_sem, f55, hk1]
          refine q_want hf (d := 57) (v := .pointer (some ⟨g, off + j0 * 4, none⟩)) (e := 49) rfl rfl (by simp) rfl (by decide) (by simp) (fun w' hw' => ?_) (fun A hA57 hf => ?_)
          · have f54 := hf.get (d := 54) (v := .slice (some ⟨g, off, none⟩) n c) (by simp)
            have f56 := hf.get (d := 56) (v := .int .i64 (j0 : Int)) (by simp)
            clear hf
            simp [Oper.quietAt, Oper.quietUpon, go_sem, f54, f56, hk2]
          refine q_want hf (d := 58) (v := .pointer (some ⟨g, off + j0 * 4, none⟩)) (e := 49) rfl rfl (by simp) rfl (by decide) (by simp) (fun w' hw' => ?_) (fun A hA58 hf => ?_)
          · have f57 := hf.get (d := 57) (v := .pointer (some ⟨g, off + j0 * 4, none⟩)) (by simp)
            clear hf
            simp [Oper.quietAt, Oper.quietUpon, go_sem, f57]
          refine q_want hf (d := 59) (v := .agg #[.int .i64 l0, .int .i64 x0, .int .i64 y0]) (e := 49) rfl rfl (by simp) rfl (by decide) (by simp) (fun w' hw' => ?_) (fun A hA59 hf => ?_)
          · have hc := hS _ hw'
            have f58 := hf.get (d := 58) (v := .pointer (some ⟨g, off + j0 * 4, none⟩)) (by simp)
            clear hf
            simp [Oper.quietAt, Oper.quietUpon, go_sem, f58, hc]
          refine q_want hf (d := 60) (v := .int .i64 p0) (e := 49) rfl rfl (by simp) rfl (by decide) (by simp) (fun w' hw' => ?_) (fun A hA60 hf => ?_)
          · have f59 := hf.get (d := 59) (v := .agg #[.int .i64 l0, .int .i64 x0, .int .i64 y0]) (by simp)
            clear hf
            simp [Oper.quietAt, Oper.quietUpon, go_sem, f59]
            exact HP0.out _ hw'
          refine q_want hf (d := 61) (v := .bool true) (e := 49) rfl rfl (by simp) rfl (by decide) (by simp) (fun w' hw' => ?_) (fun A hA61 hf => ?_)
          · have f52 := hf.get (d := 52) (v := .int .i64 p1) (by simp)
            have f60 := hf.get (d := 60) (v := .int .i64 p0) (by simp)
            clear hf
            simp [Oper.quietAt, Oper.quietUpon, go_sem, f52, f60, hle]
          refine q_want hf (d := 62) (v := .bool true) (e := 46) rfl rfl (by simp) rfl (by decide) (by simp) (fun w' hw' => ?_) (fun A hA62 hf => ?_)
          · have f49 := hf.get (d := 49) (v := .bool true) (by simp)
            have f61 := hf.get (d := 61) (v := .bool true) (by simp)
            clear hf
            simp [Oper.quietAt, Oper.quietUpon, go_sem, f49, f61]
          refine q_step hf (d := 63) (v := .bool true) rfl rfl (by decide) (by simp) (fun w' hw' => ?_) (fun A hA63 hf => ?_)
          · have f46 := hf.get (d := 46) (v := .bool false) (by simp)
            have f62 := hf.get (d := 62) (v := .bool true) (by simp)
            clear hf
            simp [Oper.quietAt, Oper.quietUpon, go_sem, f46, f62]
          refine wpQuiet_nil (fun w' hw' => ?_)
          clear hf
          subst hA63 hA62 hA61 hA60 hA59 hA58 hA57 hA56 hA55 hA54 hA53 hA52 hA51 hA50 hA49 hA48 hA47 hA46 hA45 hA44 hA43 hA42 hA41 hA40 hA39 hA38 hA37 hA36 hA
          simp only [Act.put, List.setIfInBounds_toArray, List.set_cons_succ, List.set_cons_zero]
          go_wp2
          go_ret
          exact ⟨ret_bool HV.out.symm, hw'.bel⟩
        have HPK : Hid (k = 0 ∨ plO (L.getD (k - 1) zon) < plO (L.getD k zon)) := Classical.not_not.mp HPQ
        clear HPQ
        go_cut [63] from 36 to 98 (fun v63 wx => v63 = .bool false ∧ St w wx [(wo.heap.size, [.int .i64 l, .int .i64 x, .int .i64 y, .int .i64 q]), (w.heap.size, [.int .i64 e, .slice (some ⟨g, off, none⟩) n c])])
        case first =>
          by_cases hk0 : k = 0
          · subst hk0
            refine wp_region_quiet (C := fun w' => St w w' [(wo.heap.size, [.int .i64 l, .int .i64 x, .int .i64 y, .int .i64 q]), (w.heap.size, [.int .i64 e, .slice (some ⟨g, off, none⟩) n c])]) (by kernel_rfl) (by kernel_rfl) (hs1.dr) ?_
            refine q_intro (fun A hA => ?_)
            have hf : Fr 101 A [(1, .pointer (some ⟨w.heap.size, 0, none⟩)), (4, .int .i64 0), (5, .pointer (some ⟨wo.heap.size, 0, none⟩))] := by subst hA; exact ⟨rfl, by simp⟩
            refine q_step hf (d := 36) (v := .pointer (some ⟨wo.heap.size, 0, none⟩)) rfl rfl (by decide) (by simp) (fun w' hw' => ?_) (fun A hA36 hf => ?_)
            · have f5 := hf.get (d := 5) (v := .pointer (some ⟨wo.heap.size, 0, none⟩)) (by simp)
              clear hf
              simp [Oper.quietAt, Oper.quietUpon, go_sem, f5]
            refine q_step hf (d := 37) (v := .agg #[.int .i64 l, .int .i64 x, .int .i64 y]) rfl rfl (by decide) (by simp) (fun w' hw' => ?_) (fun A hA37 hf => ?_)
            · have hc := hS _ hw'
              have f36 := hf.get (d := 36) (v := .pointer (some ⟨wo.heap.size, 0, none⟩)) (by simp)
              clear hf
              simp [Oper.quietAt, Oper.quietUpon, go_sem, f36, hc]
            refine q_step hf (d := 38) (v := .bool true) rfl rfl (by decide) (by simp) (fun w' hw' => ?_) (fun A hA38 hf => ?_)
            · have f37 := hf.get (d := 37) (v := .agg #[.int .i64 l, .int .i64 x, .int .i64 y]) (by simp)
              clear hf
              simp [Oper.quietAt, Oper.quietUpon, go_sem, f37]
              exact (M.sCellOk_v HCB.out _).mono fun e w1 h => ⟨h.1, hw'.step h.2⟩
            refine q_step hf (d := 39) (v := .bool false) rfl rfl (by decide) (by simp) (fun w' hw' => ?_) (fun A hA39 hf => ?_)
            · have f38 := hf.get (d := 38) (v := .bool true) (by simp)
              clear hf
              simp [Oper.quietAt, Oper.quietUpon, go_sem, f38]
            refine q_step hf (d := 40) (v := .bool false) rfl rfl (by decide) (by simp) (fun w' hw' => ?_) (fun A hA40 hf => ?_)
            · have f39 := hf.get (d := 39) (v := .bool false) (by simp)
              clear hf
              simp [Oper.quietAt, Oper.quietUpon, go_sem, f39]
            refine q_want hf (d := 41) (v := .pointer (some ⟨wo.heap.size, 3, none⟩)) (e := 40) rfl rfl (by simp) rfl (by decide) (by simp) (fun w' hw' => ?_) (fun A hA41 hf => ?_)
            · have f5 := hf.get (d := 5) (v := .pointer (some ⟨wo.heap.size, 0, none⟩)) (by simp)
              clear hf
              simp [Oper.quietAt, Oper.quietUpon, go_sem, f5]
            refine q_want hf (d := 42) (v := .int .i64 q) (e := 40) rfl rfl (by simp) rfl (by decide) (by simp) (fun w' hw' => ?_) (fun A hA42 hf => ?_)
            · have hc := hS _ hw'
              have f41 := hf.get (d := 41) (v := .pointer (some ⟨wo.heap.size, 3, none⟩)) (by simp)
              clear hf
              simp [Oper.quietAt, Oper.quietUpon, go_sem, f41, hc]
            refine q_want hf (d := 43) (v := .bool true) (e := 40) rfl rfl (by simp) rfl (by decide) (by simp) (fun w' hw' => ?_) (fun A hA43 hf => ?_)
            · have f42 := hf.get (d := 42) (v := .int .i64 q) (by simp)
              clear hf
              simp [Oper.quietAt, Oper.quietUpon, go_sem, f42]
              exact (M.l1In_v HSB.out _).mono fun e w1 h => ⟨h.1, h.2 ▸ hw'⟩
            refine q_want hf (d := 44) (v := .bool false) (e := 40) rfl rfl (by simp) rfl (by decide) (by simp) (fun w' hw' => ?_) (fun A hA44 hf => ?_)
            · have f43 := hf.get (d := 43) (v := .bool true) (by simp)
              clear hf
              simp [Oper.quietAt, Oper.quietUpon, go_sem, f43]
            refine q_step hf (d := 45) (v := .bool false) rfl rfl (by decide) (by simp) (fun w' hw' => ?_) (fun A hA45 hf => ?_)
            · have f40 := hf.get (d := 40) (v := .bool false) (by simp)
              have f44 := hf.get (d := 44) (v := .bool false) (by simp)
              clear hf
              simp [Oper.quietAt, Oper.quietUpon, go_sem, f40, f44]
            refine q_step hf (d := 46) (v := .bool false) rfl rfl (by decide) (by simp) (fun w' hw' => ?_) (fun A hA46 hf => ?_)
            · have f45 := hf.get (d := 45) (v := .bool false) (by simp)
              clear hf
              simp [Oper.quietAt, Oper.quietUpon, go_sem, f45]
            refine q_want hf (d := 47) (v := .int .i64 0) (e := 46) rfl rfl (by simp) rfl (by decide) (by simp) (fun w' hw' => ?_) (fun A hA47 hf => ?_)
            · have f4 := hf.get (d := 4) (v := .int .i64 0) (by simp)
              clear hf
              simp [Oper.quietAt, Oper.quietUpon, go_sem, f4]
            refine q_want hf (d := 48) (v := .bool false) (e := 46) rfl rfl (by simp) rfl (by decide) (by simp) (fun w' hw' => ?_) (fun A hA48 hf => ?_)
            · have f47 := hf.get (d := 47) (v := .int .i64 0) (by simp)
              clear hf
              simp [Oper.quietAt, Oper.quietUpon, go_sem, f47]
            refine q_want hf (d := 49) (v := .bool false) (e := 46) rfl rfl (by simp) rfl (by decide) (by simp) (fun w' hw' => ?_) (fun A hA49 hf => ?_)
            · have f48 := hf.get (d := 48) (v := .bool false) (by simp)
              clear hf
              simp [Oper.quietAt, Oper.quietUpon, go_sem, f48]
            refine q_skip hf (d := 50) (e := 49) (b := false) rfl rfl (by simp) rfl rfl (by decide) (by simp) (fun A hA50 hf => ?_)
            refine q_skip hf (d := 51) (e := 49) (b := false) rfl rfl (by simp) rfl rfl (by decide) (by simp) (fun A hA51 hf => ?_)
            refine q_skip hf (d := 52) (e := 49) (b := false) rfl rfl (by simp) rfl rfl (by decide) (by simp) (fun A hA52 hf => ?_)
            refine q_skip hf (d := 53) (e := 49) (b := false) rfl rfl (by simp) rfl rfl (by decide) (by simp) (fun A hA53 hf => ?_)
            refine q_skip hf (d := 54) (e := 49) (b := false) rfl rfl (by simp) rfl rfl (by decide) (by simp) (fun A hA54 hf => ?_)
            refine q_skip hf (d := 55) (e := 49) (b := false) rfl rfl (by simp) rfl rfl (by decide) (by simp) (fun A hA55 hf => ?_)
            refine q_skip hf (d := 56) (e := 49) (b := false) rfl rfl (by simp) rfl rfl (by decide) (by simp) (fun A hA56 hf => ?_)
            refine q_skip hf (d := 57) (e := 49) (b := false) rfl rfl (by simp) rfl rfl (by decide) (by simp) (fun A hA57 hf => ?_)
            refine q_skip hf (d := 58) (e := 49) (b := false) rfl rfl (by simp) rfl rfl (by decide) (by simp) (fun A hA58 hf => ?_)
            refine q_skip hf (d := 59) (e := 49) (b := false) rfl rfl (by simp) rfl rfl (by decide) (by simp) (fun A hA59 hf => ?_)
            refine q_skip hf (d := 60) (e := 49) (b := false) rfl rfl (by simp) rfl rfl (by decide) (by simp) (fun A hA60 hf => ?_)
            refine q_skip hf (d := 61) (e := 49) (b := false) rfl rfl (by simp) rfl rfl (by decide) (by simp) (fun A hA61 hf => ?_)
            refine q_want hf (d := 62) (v := .bool false) (e := 46) rfl rfl (by simp) rfl (by decide) (by simp) (fun w' hw' => ?_) (fun A hA62 hf => ?_)
            · have f49 := hf.get (d := 49) (v := .bool false) (by simp)
              clear hf
              simp [Oper.quietAt, Oper.quietUpon, go_sem, f49]
            refine q_step hf (d := 63) (v := .bool false) rfl rfl (by decide) (by simp) (fun w' hw' => ?_) (fun A hA63 hf => ?_)
            · have f46 := hf.get (d := 46) (v := .bool false) (by simp)
              have f62 := hf.get (d := 62) (v := .bool false) (by simp)
              clear hf
              simp [Oper.quietAt, Oper.quietUpon, go_sem, f46, f62]
            refine wpQuiet_nil (fun w' hw' => ?_)
            clear hf
            subst hA63 hA62 hA61 hA60 hA59 hA58 hA57 hA56 hA55 hA54 hA53 hA52 hA51 hA50 hA49 hA48 hA47 hA46 hA45 hA44 hA43 hA42 hA41 hA40 hA39 hA38 hA37 hA36 hA
            simp only [Act.put, List.setIfInBounds_toArray, List.set_cons_succ, List.set_cons_zero]
            go_wp2_with (fail)
            go_meet
            case rel => exact ⟨rfl, hw'⟩
          · obtain ⟨j0, hj0⟩ : ∃ j, k - 1 = j := ⟨_, rfl⟩
            have hj1 : j0 < k := by omega
            have hjL : j0 < L.length := by rw [HN.out.1]; omega
            have hon0 := on_at hK.out.2 hj1
            have hgj := getO hjL
            obtain ⟨⟨l0, x0, y0, q0⟩, hm0⟩ : ∃ m, L.getD j0 zon = m := ⟨_, rfl⟩
            rw [hm0] at hon0 hgj
            have hc0 : M.cellB l0 x0 y0 = true := (Bool.and_eq_true_iff.mp hon0).1
            obtain ⟨p0, hp0⟩ : ∃ z, plc l0 x0 y0 = z := ⟨_, rfl⟩
            have HP0 : Hid (∀ w', St w w' [(wo.heap.size, [.int .i64 l, .int .i64 x, .int .i64 y, .int .i64 q]), (w.heap.size, [.int .i64 e, .slice (some ⟨g, off, none⟩) n c])] → Calls Try.prog 55 #[.agg #[.int .i64 l0, .int .i64 x0, .int .i64 y0]] w' fun ee w'' => ee = .returned (.int .i64 p0) ∧ St w w'' [(wo.heap.size, [.int .i64 l, .int .i64 x, .int .i64 y, .int .i64 q]), (w.heap.size, [.int .i64 e, .slice (some ⟨g, off, none⟩) n c])]) := fun w' hw' => (hp0 ▸ l2Place_any hc0 w').mono fun e w1 h => ⟨h.1, hw'.step h.2⟩
            have hk1 : IntKind.i64.wrap ((k : Int) - 1) = (j0 : Int) := by rw [IntKind.wrap_i64]; omega
            have hk2 : (j0 : Int) < n := by omega
            have hkp : (0 : Int) < k := by omega
            replace hS : ∀ w', St w w' [(wo.heap.size, [.int .i64 l, .int .i64 x, .int .i64 y, .int .i64 q]), (w.heap.size, [.int .i64 e, .slice (some ⟨g, off, none⟩) n c])] → ((w'.cell? ⟨wo.heap.size, 0, none⟩ = some (.int .i64 l) ∧ w'.cell? ⟨wo.heap.size, 1, none⟩ = some (.int .i64 x) ∧ w'.cell? ⟨wo.heap.size, 2, none⟩ = some (.int .i64 y) ∧ w'.cell? ⟨wo.heap.size, 3, none⟩ = some (.int .i64 q)) ∧ (w'.cell? ⟨w.heap.size, 0, none⟩ = some (.int .i64 e) ∧ w'.cell? ⟨w.heap.size, 1, none⟩ = some (.slice (some ⟨g, off, none⟩) n c))) ∧ (w'.cell? ⟨g, off + j0 * 4, none⟩ = some (.int .i64 l0) ∧ w'.cell? ⟨g, off + j0 * 4 + 1, none⟩ = some (.int .i64 x0) ∧ w'.cell? ⟨g, off + j0 * 4 + 2, none⟩ = some (.int .i64 y0)) := fun w' h => by
              obtain ⟨d0, d1, d2, -⟩ := CsG.o4 (HCs.out _ h.bel) hgj
              exact ⟨HS.out w' h, d0, d1, d2⟩
            have hle : ¬ p1 ≤ p0 := by
              have := HPK.out.resolve_left hk0
              rw [hj0, HM.out, hm0] at this
              unfold plO at this
              simp only at this
              rw [hp1, hp0] at this
              omega
            clear hp0 hp1 hm0 hon0 hgj hc0
            refine wp_region_quiet (C := fun w' => St w w' [(wo.heap.size, [.int .i64 l, .int .i64 x, .int .i64 y, .int .i64 q]), (w.heap.size, [.int .i64 e, .slice (some ⟨g, off, none⟩) n c])]) (by kernel_rfl) (by kernel_rfl) (hs1.dr) ?_
            refine q_intro (fun A hA => ?_)
            have hf : Fr 101 A [(1, .pointer (some ⟨w.heap.size, 0, none⟩)), (4, .int .i64 (k : Int)), (5, .pointer (some ⟨wo.heap.size, 0, none⟩))] := by subst hA; exact ⟨rfl, by simp⟩
            refine q_step hf (d := 36) (v := .pointer (some ⟨wo.heap.size, 0, none⟩)) rfl rfl (by decide) (by simp) (fun w' hw' => ?_) (fun A hA36 hf => ?_)
            · have f5 := hf.get (d := 5) (v := .pointer (some ⟨wo.heap.size, 0, none⟩)) (by simp)
              clear hf
              simp [Oper.quietAt, Oper.quietUpon, go_sem, f5]
            refine q_step hf (d := 37) (v := .agg #[.int .i64 l, .int .i64 x, .int .i64 y]) rfl rfl (by decide) (by simp) (fun w' hw' => ?_) (fun A hA37 hf => ?_)
            · have hc := hS _ hw'
              have f36 := hf.get (d := 36) (v := .pointer (some ⟨wo.heap.size, 0, none⟩)) (by simp)
              clear hf
              simp [Oper.quietAt, Oper.quietUpon, go_sem, f36, hc]
            refine q_step hf (d := 38) (v := .bool true) rfl rfl (by decide) (by simp) (fun w' hw' => ?_) (fun A hA38 hf => ?_)
            · have f37 := hf.get (d := 37) (v := .agg #[.int .i64 l, .int .i64 x, .int .i64 y]) (by simp)
              clear hf
              simp [Oper.quietAt, Oper.quietUpon, go_sem, f37]
              exact (M.sCellOk_v HCB.out _).mono fun e w1 h => ⟨h.1, hw'.step h.2⟩
            refine q_step hf (d := 39) (v := .bool false) rfl rfl (by decide) (by simp) (fun w' hw' => ?_) (fun A hA39 hf => ?_)
            · have f38 := hf.get (d := 38) (v := .bool true) (by simp)
              clear hf
              simp [Oper.quietAt, Oper.quietUpon, go_sem, f38]
            refine q_step hf (d := 40) (v := .bool false) rfl rfl (by decide) (by simp) (fun w' hw' => ?_) (fun A hA40 hf => ?_)
            · have f39 := hf.get (d := 39) (v := .bool false) (by simp)
              clear hf
              simp [Oper.quietAt, Oper.quietUpon, go_sem, f39]
            refine q_want hf (d := 41) (v := .pointer (some ⟨wo.heap.size, 3, none⟩)) (e := 40) rfl rfl (by simp) rfl (by decide) (by simp) (fun w' hw' => ?_) (fun A hA41 hf => ?_)
            · have f5 := hf.get (d := 5) (v := .pointer (some ⟨wo.heap.size, 0, none⟩)) (by simp)
              clear hf
              simp [Oper.quietAt, Oper.quietUpon, go_sem, f5]
            refine q_want hf (d := 42) (v := .int .i64 q) (e := 40) rfl rfl (by simp) rfl (by decide) (by simp) (fun w' hw' => ?_) (fun A hA42 hf => ?_)
            · have hc := hS _ hw'
              have f41 := hf.get (d := 41) (v := .pointer (some ⟨wo.heap.size, 3, none⟩)) (by simp)
              clear hf
              simp [Oper.quietAt, Oper.quietUpon, go_sem, f41, hc]
            refine q_want hf (d := 43) (v := .bool true) (e := 40) rfl rfl (by simp) rfl (by decide) (by simp) (fun w' hw' => ?_) (fun A hA43 hf => ?_)
            · have f42 := hf.get (d := 42) (v := .int .i64 q) (by simp)
              clear hf
              simp [Oper.quietAt, Oper.quietUpon, go_sem, f42]
              exact (M.l1In_v HSB.out _).mono fun e w1 h => ⟨h.1, h.2 ▸ hw'⟩
            refine q_want hf (d := 44) (v := .bool false) (e := 40) rfl rfl (by simp) rfl (by decide) (by simp) (fun w' hw' => ?_) (fun A hA44 hf => ?_)
            · have f43 := hf.get (d := 43) (v := .bool true) (by simp)
              clear hf
              simp [Oper.quietAt, Oper.quietUpon, go_sem, f43]
            refine q_step hf (d := 45) (v := .bool false) rfl rfl (by decide) (by simp) (fun w' hw' => ?_) (fun A hA45 hf => ?_)
            · have f40 := hf.get (d := 40) (v := .bool false) (by simp)
              have f44 := hf.get (d := 44) (v := .bool false) (by simp)
              clear hf
              simp [Oper.quietAt, Oper.quietUpon, go_sem, f40, f44]
            refine q_step hf (d := 46) (v := .bool false) rfl rfl (by decide) (by simp) (fun w' hw' => ?_) (fun A hA46 hf => ?_)
            · have f45 := hf.get (d := 45) (v := .bool false) (by simp)
              clear hf
              simp [Oper.quietAt, Oper.quietUpon, go_sem, f45]
            refine q_want hf (d := 47) (v := .int .i64 (k : Int)) (e := 46) rfl rfl (by simp) rfl (by decide) (by simp) (fun w' hw' => ?_) (fun A hA47 hf => ?_)
            · have f4 := hf.get (d := 4) (v := .int .i64 (k : Int)) (by simp)
              clear hf
              simp [Oper.quietAt, Oper.quietUpon, go_sem, f4]
            refine q_want hf (d := 48) (v := .bool true) (e := 46) rfl rfl (by simp) rfl (by decide) (by simp) (fun w' hw' => ?_) (fun A hA48 hf => ?_)
            · have f47 := hf.get (d := 47) (v := .int .i64 (k : Int)) (by simp)
              clear hf
              simp [Oper.quietAt, Oper.quietUpon, go_sem, f47]
              exact Nat.pos_of_ne_zero hk0
            refine q_want hf (d := 49) (v := .bool true) (e := 46) rfl rfl (by simp) rfl (by decide) (by simp) (fun w' hw' => ?_) (fun A hA49 hf => ?_)
            · have f48 := hf.get (d := 48) (v := .bool true) (by simp)
              clear hf
              simp [Oper.quietAt, Oper.quietUpon, go_sem, f48]
            refine q_want hf (d := 50) (v := .pointer (some ⟨wo.heap.size, 0, none⟩)) (e := 49) rfl rfl (by simp) rfl (by decide) (by simp) (fun w' hw' => ?_) (fun A hA50 hf => ?_)
            · have f5 := hf.get (d := 5) (v := .pointer (some ⟨wo.heap.size, 0, none⟩)) (by simp)
              clear hf
              simp [Oper.quietAt, Oper.quietUpon, go_sem, f5]
            refine q_want hf (d := 51) (v := .agg #[.int .i64 l, .int .i64 x, .int .i64 y]) (e := 49) rfl rfl (by simp) rfl (by decide) (by simp) (fun w' hw' => ?_) (fun A hA51 hf => ?_)
            · have hc := hS _ hw'
              have f50 := hf.get (d := 50) (v := .pointer (some ⟨wo.heap.size, 0, none⟩)) (by simp)
              clear hf
              simp [Oper.quietAt, Oper.quietUpon, go_sem, f50, hc]
            refine q_want hf (d := 52) (v := .int .i64 p1) (e := 49) rfl rfl (by simp) rfl (by decide) (by simp) (fun w' hw' => ?_) (fun A hA52 hf => ?_)
            · have f51 := hf.get (d := 51) (v := .agg #[.int .i64 l, .int .i64 x, .int .i64 y]) (by simp)
              clear hf
              simp [Oper.quietAt, Oper.quietUpon, go_sem, f51]
              exact HP1.out _ hw'
            refine q_want hf (d := 53) (v := .pointer (some ⟨w.heap.size, 1, none⟩)) (e := 49) rfl rfl (by simp) rfl (by decide) (by simp) (fun w' hw' => ?_) (fun A hA53 hf => ?_)
            · have f1 := hf.get (d := 1) (v := .pointer (some ⟨w.heap.size, 0, none⟩)) (by simp)
              clear hf
              simp [Oper.quietAt, Oper.quietUpon, go_sem, f1]
            refine q_want hf (d := 54) (v := .slice (some ⟨g, off, none⟩) n c) (e := 49) rfl rfl (by simp) rfl (by decide) (by simp) (fun w' hw' => ?_) (fun A hA54 hf => ?_)
            · have hc := hS _ hw'
              have f53 := hf.get (d := 53) (v := .pointer (some ⟨w.heap.size, 1, none⟩)) (by simp)
              clear hf
              simp [Oper.quietAt, Oper.quietUpon, go_sem, f53, hc]
            refine q_want hf (d := 55) (v := .int .i64 (k : Int)) (e := 49) rfl rfl (by simp) rfl (by decide) (by simp) (fun w' hw' => ?_) (fun A hA55 hf => ?_)
            · have f4 := hf.get (d := 4) (v := .int .i64 (k : Int)) (by simp)
              clear hf
              simp [Oper.quietAt, Oper.quietUpon, go_sem, f4]
            refine q_want hf (d := 56) (v := .int .i64 (j0 : Int)) (e := 49) rfl rfl (by simp) rfl (by decide) (by simp) (fun w' hw' => ?_) (fun A hA56 hf => ?_)
            · have f55 := hf.get (d := 55) (v := .int .i64 (k : Int)) (by simp)
              clear hf
              simp [Oper.quietAt, Oper.quietUpon, go_sem, f55, hk1]
            refine q_want hf (d := 57) (v := .pointer (some ⟨g, off + j0 * 4, none⟩)) (e := 49) rfl rfl (by simp) rfl (by decide) (by simp) (fun w' hw' => ?_) (fun A hA57 hf => ?_)
            · have f54 := hf.get (d := 54) (v := .slice (some ⟨g, off, none⟩) n c) (by simp)
              have f56 := hf.get (d := 56) (v := .int .i64 (j0 : Int)) (by simp)
              clear hf
              simp [Oper.quietAt, Oper.quietUpon, go_sem, f54, f56, hk2]
            refine q_want hf (d := 58) (v := .pointer (some ⟨g, off + j0 * 4, none⟩)) (e := 49) rfl rfl (by simp) rfl (by decide) (by simp) (fun w' hw' => ?_) (fun A hA58 hf => ?_)
            · have f57 := hf.get (d := 57) (v := .pointer (some ⟨g, off + j0 * 4, none⟩)) (by simp)
              clear hf
              simp [Oper.quietAt, Oper.quietUpon, go_sem, f57]
            refine q_want hf (d := 59) (v := .agg #[.int .i64 l0, .int .i64 x0, .int .i64 y0]) (e := 49) rfl rfl (by simp) rfl (by decide) (by simp) (fun w' hw' => ?_) (fun A hA59 hf => ?_)
            · have hc := hS _ hw'
              have f58 := hf.get (d := 58) (v := .pointer (some ⟨g, off + j0 * 4, none⟩)) (by simp)
              clear hf
              simp [Oper.quietAt, Oper.quietUpon, go_sem, f58, hc]
            refine q_want hf (d := 60) (v := .int .i64 p0) (e := 49) rfl rfl (by simp) rfl (by decide) (by simp) (fun w' hw' => ?_) (fun A hA60 hf => ?_)
            · have f59 := hf.get (d := 59) (v := .agg #[.int .i64 l0, .int .i64 x0, .int .i64 y0]) (by simp)
              clear hf
              simp [Oper.quietAt, Oper.quietUpon, go_sem, f59]
              exact HP0.out _ hw'
            refine q_want hf (d := 61) (v := .bool false) (e := 49) rfl rfl (by simp) rfl (by decide) (by simp) (fun w' hw' => ?_) (fun A hA61 hf => ?_)
            · have f52 := hf.get (d := 52) (v := .int .i64 p1) (by simp)
              have f60 := hf.get (d := 60) (v := .int .i64 p0) (by simp)
              clear hf
              simp [Oper.quietAt, Oper.quietUpon, go_sem, f52, f60, hle]
            refine q_want hf (d := 62) (v := .bool false) (e := 46) rfl rfl (by simp) rfl (by decide) (by simp) (fun w' hw' => ?_) (fun A hA62 hf => ?_)
            · have f49 := hf.get (d := 49) (v := .bool true) (by simp)
              have f61 := hf.get (d := 61) (v := .bool false) (by simp)
              clear hf
              simp [Oper.quietAt, Oper.quietUpon, go_sem, f49, f61]
            refine q_step hf (d := 63) (v := .bool false) rfl rfl (by decide) (by simp) (fun w' hw' => ?_) (fun A hA63 hf => ?_)
            · have f46 := hf.get (d := 46) (v := .bool false) (by simp)
              have f62 := hf.get (d := 62) (v := .bool false) (by simp)
              clear hf
              simp [Oper.quietAt, Oper.quietUpon, go_sem, f46, f62]
            refine wpQuiet_nil (fun w' hw' => ?_)
            clear hf
            subst hA63 hA62 hA61 hA60 hA59 hA58 hA57 hA56 hA55 hA54 hA53 hA52 hA51 hA50 hA49 hA48 hA47 hA46 hA45 hA44 hA43 hA42 hA41 hA40 hA39 hA38 hA37 hA36 hA
            simp only [Act.put, List.setIfInBounds_toArray, List.set_cons_succ, List.set_cons_zero]
            go_wp2_with (fail)
            go_meet
            case rel => exact ⟨rfl, hw'⟩
        case rest =>
          obtain ⟨rfl, hs2⟩ := hcut
          obtain ⟨a, ha⟩ : ∃ a, d * d = a := ⟨_, rfl⟩
          rw [ha] at HAR
          have ha1 := HAR.out.2.1
          have ha2 := HAR.out.2.2
          have hm1 : IntKind.i64.wrap (d * d) = a := by rw [ha, IntKind.wrap_i64]; omega
          have hm2 : wrap64 (d * d) = a := by rw [ha]; unfold wrap64; omega
          have hm3 : IntKind.i64.wrap (s + a) = s + a := by rw [IntKind.wrap_i64]; omega
          have hm4 : wrap64 (s + a) = s + a := by unfold wrap64; omega
          clear HP1 HCB HSB hS hp1 ha
          obtain ⟨⟨b0, b1, b2, b3⟩, b4, b5⟩ := HS.out _ hs2
          go_upto_region 12 with (go_at_call 56; refine (HR.out _).mono ?_; rintro ee w1 ⟨rfl, hb1⟩; have hs3 := (hs2.step hb1).push [.int .i64 rx, .int .i64 ry, .int .i64 d, .int .i64 d] 47)
          clear hm1 hm2 hm3 hm4 b0 b1 b2 b3 b4 b5
          replace hs3 := hs3.sub (l' := [(wo.heap.size, [.int .i64 l, .int .i64 x, .int .i64 y, .int .i64 q]), (w.heap.size, [.int .i64 e, .slice (some ⟨g, off, none⟩) n c])]) (by simp)
          go_wp2
          go_loopw [7] (fun jv wi => ∃ (j : Nat), j ≤ k ∧ jv = .int .i64 j ∧ Hid (((List.range j).all fun t => apO (L.getD k zon) (L.getD t zon)) = true) ∧ St w wi [(wo.heap.size, [.int .i64 l, .int .i64 x, .int .i64 y, .int .i64 q]), (w.heap.size, [.int .i64 e, .slice (some ⟨g, off, none⟩) n c])]) (fun jv _ => k - (intOf jv).toNat)
          case atStart => exact ⟨0, by omega, rfl, rfl, hs3⟩
          case round =>
            clear hs3
            obtain ⟨j, hj, rfl, hJ, hs3⟩ := hrel
            by_cases hjt : j < k
            · have hji : (j : Int) < k := by omega
              have hj2 : (j : Int) < n := by omega
              have hjL : j < L.length := by rw [HN.out.1]; omega
              have hon0 := on_at hK.out.2 hjt
              have hgj := getO hjL
              obtain ⟨⟨l2, x2, y2, q2⟩, hm0⟩ : ∃ m, L.getD j zon = m := ⟨_, rfl⟩
              rw [hm0] at hon0 hgj
              have HMJ := Lib.hid hm0
              have hlv := M.cell_lev (Bool.and_eq_true_iff.mp hon0).1
              simp only at hlv
              obtain ⟨i1, hi1⟩ : ∃ b, M.lInB l x y l2 x2 y2 = b := ⟨_, rfl⟩
              obtain ⟨i2, hi2⟩ : ∃ b, M.lInB l2 x2 y2 l x y = b := ⟨_, rfl⟩
              have HI1 : Hid (∀ w', St w w' [(wo.heap.size, [.int .i64 l, .int .i64 x, .int .i64 y, .int .i64 q]), (w.heap.size, [.int .i64 e, .slice (some ⟨g, off, none⟩) n c])] → Calls Try.prog 57 #[.agg #[.int .i64 l, .int .i64 x, .int .i64 y], .agg #[.int .i64 l2, .int .i64 x2, .int .i64 y2]] w' fun ee w'' => ee = .returned (.bool i1) ∧ St w w'' [(wo.heap.size, [.int .i64 l, .int .i64 x, .int .i64 y, .int .i64 q]), (w.heap.size, [.int .i64 e, .slice (some ⟨g, off, none⟩) n c])]) := fun w' hw' => (M.lInside_v HLV.out hlv hi1 w').mono fun e w1 h => ⟨h.1, hw'.step h.2⟩
              have HI2 : Hid (∀ w', St w w' [(wo.heap.size, [.int .i64 l, .int .i64 x, .int .i64 y, .int .i64 q]), (w.heap.size, [.int .i64 e, .slice (some ⟨g, off, none⟩) n c])] → Calls Try.prog 57 #[.agg #[.int .i64 l2, .int .i64 x2, .int .i64 y2], .agg #[.int .i64 l, .int .i64 x, .int .i64 y]] w' fun ee w'' => ee = .returned (.bool i2) ∧ St w w'' [(wo.heap.size, [.int .i64 l, .int .i64 x, .int .i64 y, .int .i64 q]), (w.heap.size, [.int .i64 e, .slice (some ⟨g, off, none⟩) n c])]) := fun w' hw' => (M.lInside_v hlv HLV.out hi2 w').mono fun e w1 h => ⟨h.1, hw'.step h.2⟩
              have HAP : Hid (apO (L.getD k zon) (L.getD j zon) = (!i1 && !i2)) := by
                show apO (L.getD k zon) (L.getD j zon) = (!i1 && !i2)
                rw [HM.out, HMJ.out, ← hi1, ← hi2]; rfl
              have hS : ∀ w', St w w' [(wo.heap.size, [.int .i64 l, .int .i64 x, .int .i64 y, .int .i64 q]), (w.heap.size, [.int .i64 e, .slice (some ⟨g, off, none⟩) n c])] → ((w'.cell? ⟨wo.heap.size, 0, none⟩ = some (.int .i64 l) ∧ w'.cell? ⟨wo.heap.size, 1, none⟩ = some (.int .i64 x) ∧ w'.cell? ⟨wo.heap.size, 2, none⟩ = some (.int .i64 y) ∧ w'.cell? ⟨wo.heap.size, 3, none⟩ = some (.int .i64 q)) ∧ (w'.cell? ⟨w.heap.size, 0, none⟩ = some (.int .i64 e) ∧ w'.cell? ⟨w.heap.size, 1, none⟩ = some (.slice (some ⟨g, off, none⟩) n c))) ∧ (w'.cell? ⟨g, off + j * 4, none⟩ = some (.int .i64 l2) ∧ w'.cell? ⟨g, off + j * 4 + 1, none⟩ = some (.int .i64 x2) ∧ w'.cell? ⟨g, off + j * 4 + 2, none⟩ = some (.int .i64 y2)) := fun w' h => by
                obtain ⟨d0, d1, d2, -⟩ := CsG.o4 (HCs.out _ h.bel) hgj
                exact ⟨HS.out w' h, d0, d1, d2⟩
              clear hm0 hon0 hgj hlv hi1 hi2 hjL
              cases i1
              · cases i2
                · go_upto_region 15 with (fail)
                  refine wp_region_quiet (C := fun w' => St w w' [(wo.heap.size, [.int .i64 l, .int .i64 x, .int .i64 y, .int .i64 q]), (w.heap.size, [.int .i64 e, .slice (some ⟨g, off, none⟩) n c])]) (by kernel_rfl) (by kernel_rfl) (hs3.dr) ?_
                  refine q_intro (fun A hA => ?_)
                  have hf : Fr 101 A [(1, .pointer (some ⟨w.heap.size, 0, none⟩)), (5, .pointer (some ⟨wo.heap.size, 0, none⟩)), (7, .int .i64 (j : Int))] := by subst hA; exact ⟨rfl, by simp⟩
                  refine q_step hf (d := 79) (v := .pointer (some ⟨wo.heap.size, 0, none⟩)) rfl rfl (by decide) (by simp) (fun w' hw' => ?_) (fun A hA79 hf => ?_)
                  · have f5 := hf.get (d := 5) (v := .pointer (some ⟨wo.heap.size, 0, none⟩)) (by simp)
                    clear hf
                    simp [Oper.quietAt, Oper.quietUpon, go_sem, f5]
                  refine q_step hf (d := 80) (v := .agg #[.int .i64 l, .int .i64 x, .int .i64 y]) rfl rfl (by decide) (by simp) (fun w' hw' => ?_) (fun A hA80 hf => ?_)
                  · have hc := hS _ hw'
                    have f79 := hf.get (d := 79) (v := .pointer (some ⟨wo.heap.size, 0, none⟩)) (by simp)
                    clear hf
                    simp [Oper.quietAt, Oper.quietUpon, go_sem, f79, hc]
                  refine q_step hf (d := 81) (v := .pointer (some ⟨w.heap.size, 1, none⟩)) rfl rfl (by decide) (by simp) (fun w' hw' => ?_) (fun A hA81 hf => ?_)
                  · have f1 := hf.get (d := 1) (v := .pointer (some ⟨w.heap.size, 0, none⟩)) (by simp)
                    clear hf
                    simp [Oper.quietAt, Oper.quietUpon, go_sem, f1]
                  refine q_step hf (d := 82) (v := .slice (some ⟨g, off, none⟩) n c) rfl rfl (by decide) (by simp) (fun w' hw' => ?_) (fun A hA82 hf => ?_)
                  · have hc := hS _ hw'
                    have f81 := hf.get (d := 81) (v := .pointer (some ⟨w.heap.size, 1, none⟩)) (by simp)
                    clear hf
                    simp [Oper.quietAt, Oper.quietUpon, go_sem, f81, hc]
                  refine q_step hf (d := 83) (v := .int .i64 (j : Int)) rfl rfl (by decide) (by simp) (fun w' hw' => ?_) (fun A hA83 hf => ?_)
                  · have f7 := hf.get (d := 7) (v := .int .i64 (j : Int)) (by simp)
                    clear hf
                    simp [Oper.quietAt, Oper.quietUpon, go_sem, f7]
                  refine q_step hf (d := 84) (v := .pointer (some ⟨g, off + j * 4, none⟩)) rfl rfl (by decide) (by simp) (fun w' hw' => ?_) (fun A hA84 hf => ?_)
                  · have f82 := hf.get (d := 82) (v := .slice (some ⟨g, off, none⟩) n c) (by simp)
                    have f83 := hf.get (d := 83) (v := .int .i64 (j : Int)) (by simp)
                    clear hf
                    simp [Oper.quietAt, Oper.quietUpon, go_sem, f82, f83, hj2]
                  refine q_step hf (d := 85) (v := .pointer (some ⟨g, off + j * 4, none⟩)) rfl rfl (by decide) (by simp) (fun w' hw' => ?_) (fun A hA85 hf => ?_)
                  · have f84 := hf.get (d := 84) (v := .pointer (some ⟨g, off + j * 4, none⟩)) (by simp)
                    clear hf
                    simp [Oper.quietAt, Oper.quietUpon, go_sem, f84]
                  refine q_step hf (d := 86) (v := .agg #[.int .i64 l2, .int .i64 x2, .int .i64 y2]) rfl rfl (by decide) (by simp) (fun w' hw' => ?_) (fun A hA86 hf => ?_)
                  · have hc := hS _ hw'
                    have f85 := hf.get (d := 85) (v := .pointer (some ⟨g, off + j * 4, none⟩)) (by simp)
                    clear hf
                    simp [Oper.quietAt, Oper.quietUpon, go_sem, f85, hc]
                  refine q_step hf (d := 87) (v := .bool false) rfl rfl (by decide) (by simp) (fun w' hw' => ?_) (fun A hA87 hf => ?_)
                  · have f80 := hf.get (d := 80) (v := .agg #[.int .i64 l, .int .i64 x, .int .i64 y]) (by simp)
                    have f86 := hf.get (d := 86) (v := .agg #[.int .i64 l2, .int .i64 x2, .int .i64 y2]) (by simp)
                    clear hf
                    simp [Oper.quietAt, Oper.quietUpon, go_sem, f80, f86]
                    exact HI1.out _ hw'
                  refine q_step hf (d := 88) (v := .bool false) rfl rfl (by decide) (by simp) (fun w' hw' => ?_) (fun A hA88 hf => ?_)
                  · have f87 := hf.get (d := 87) (v := .bool false) (by simp)
                    clear hf
                    simp [Oper.quietAt, Oper.quietUpon, go_sem, f87]
                  refine q_want hf (d := 89) (v := .pointer (some ⟨w.heap.size, 1, none⟩)) (e := 88) rfl rfl (by simp) rfl (by decide) (by simp) (fun w' hw' => ?_) (fun A hA89 hf => ?_)
                  · have f1 := hf.get (d := 1) (v := .pointer (some ⟨w.heap.size, 0, none⟩)) (by simp)
                    clear hf
                    simp [Oper.quietAt, Oper.quietUpon, go_sem, f1]
                  refine q_want hf (d := 90) (v := .slice (some ⟨g, off, none⟩) n c) (e := 88) rfl rfl (by simp) rfl (by decide) (by simp) (fun w' hw' => ?_) (fun A hA90 hf => ?_)
                  · have hc := hS _ hw'
                    have f89 := hf.get (d := 89) (v := .pointer (some ⟨w.heap.size, 1, none⟩)) (by simp)
                    clear hf
                    simp [Oper.quietAt, Oper.quietUpon, go_sem, f89, hc]
                  refine q_want hf (d := 91) (v := .int .i64 (j : Int)) (e := 88) rfl rfl (by simp) rfl (by decide) (by simp) (fun w' hw' => ?_) (fun A hA91 hf => ?_)
                  · have f7 := hf.get (d := 7) (v := .int .i64 (j : Int)) (by simp)
                    clear hf
                    simp [Oper.quietAt, Oper.quietUpon, go_sem, f7]
                  refine q_want hf (d := 92) (v := .pointer (some ⟨g, off + j * 4, none⟩)) (e := 88) rfl rfl (by simp) rfl (by decide) (by simp) (fun w' hw' => ?_) (fun A hA92 hf => ?_)
                  · have f90 := hf.get (d := 90) (v := .slice (some ⟨g, off, none⟩) n c) (by simp)
                    have f91 := hf.get (d := 91) (v := .int .i64 (j : Int)) (by simp)
                    clear hf
                    simp [Oper.quietAt, Oper.quietUpon, go_sem, f90, f91, hj2]
                  refine q_want hf (d := 93) (v := .pointer (some ⟨g, off + j * 4, none⟩)) (e := 88) rfl rfl (by simp) rfl (by decide) (by simp) (fun w' hw' => ?_) (fun A hA93 hf => ?_)
                  · have f92 := hf.get (d := 92) (v := .pointer (some ⟨g, off + j * 4, none⟩)) (by simp)
                    clear hf
                    simp [Oper.quietAt, Oper.quietUpon, go_sem, f92]
                  refine q_want hf (d := 94) (v := .agg #[.int .i64 l2, .int .i64 x2, .int .i64 y2]) (e := 88) rfl rfl (by simp) rfl (by decide) (by simp) (fun w' hw' => ?_) (fun A hA94 hf => ?_)
                  · have hc := hS _ hw'
                    have f93 := hf.get (d := 93) (v := .pointer (some ⟨g, off + j * 4, none⟩)) (by simp)
                    clear hf
                    simp [Oper.quietAt, Oper.quietUpon, go_sem, f93, hc]
                  refine q_want hf (d := 95) (v := .pointer (some ⟨wo.heap.size, 0, none⟩)) (e := 88) rfl rfl (by simp) rfl (by decide) (by simp) (fun w' hw' => ?_) (fun A hA95 hf => ?_)
                  · have f5 := hf.get (d := 5) (v := .pointer (some ⟨wo.heap.size, 0, none⟩)) (by simp)
                    clear hf
                    simp [Oper.quietAt, Oper.quietUpon, go_sem, f5]
                  refine q_want hf (d := 96) (v := .agg #[.int .i64 l, .int .i64 x, .int .i64 y]) (e := 88) rfl rfl (by simp) rfl (by decide) (by simp) (fun w' hw' => ?_) (fun A hA96 hf => ?_)
                  · have hc := hS _ hw'
                    have f95 := hf.get (d := 95) (v := .pointer (some ⟨wo.heap.size, 0, none⟩)) (by simp)
                    clear hf
                    simp [Oper.quietAt, Oper.quietUpon, go_sem, f95, hc]
                  refine q_want hf (d := 97) (v := .bool false) (e := 88) rfl rfl (by simp) rfl (by decide) (by simp) (fun w' hw' => ?_) (fun A hA97 hf => ?_)
                  · have f94 := hf.get (d := 94) (v := .agg #[.int .i64 l2, .int .i64 x2, .int .i64 y2]) (by simp)
                    have f96 := hf.get (d := 96) (v := .agg #[.int .i64 l, .int .i64 x, .int .i64 y]) (by simp)
                    clear hf
                    simp [Oper.quietAt, Oper.quietUpon, go_sem, f94, f96]
                    exact HI2.out _ hw'
                  refine q_step hf (d := 98) (v := .bool false) rfl rfl (by decide) (by simp) (fun w' hw' => ?_) (fun A hA98 hf => ?_)
                  · have f88 := hf.get (d := 88) (v := .bool false) (by simp)
                    have f97 := hf.get (d := 97) (v := .bool false) (by simp)
                    clear hf
                    simp [Oper.quietAt, Oper.quietUpon, go_sem, f88, f97]
                  refine wpQuiet_nil (fun w' hw' => ?_)
                  clear hf
                  subst hA98 hA97 hA96 hA95 hA94 hA93 hA92 hA91 hA90 hA89 hA88 hA87 hA86 hA85 hA84 hA83 hA82 hA81 hA80 hA79 hA
                  simp only [Act.put, List.setIfInBounds_toArray, List.set_cons_succ, List.set_cons_zero]
                  go_wp2
                  go_roundw
                  case rel => exact ⟨j + 1, by omega, by go_num, by show ((List.range (j + 1)).all fun t => apO (L.getD k zon) (L.getD t zon)) = true; rw [all_range_succ, hJ.out, HAP.out]; rfl, hw'⟩
                  case measure => simp [intOf]; omega
                · have HV : Hid (dirB e L = false) := dir_no (by rw [HN.out.1]; exact hlt) (okAt_in hjt HAP.out)
                  go_upto_region 15 with (fail)
                  refine wp_region_quiet (C := fun w' => St w w' [(wo.heap.size, [.int .i64 l, .int .i64 x, .int .i64 y, .int .i64 q]), (w.heap.size, [.int .i64 e, .slice (some ⟨g, off, none⟩) n c])]) (by kernel_rfl) (by kernel_rfl) (hs3.dr) ?_
                  refine q_intro (fun A hA => ?_)
                  have hf : Fr 101 A [(1, .pointer (some ⟨w.heap.size, 0, none⟩)), (5, .pointer (some ⟨wo.heap.size, 0, none⟩)), (7, .int .i64 (j : Int))] := by subst hA; exact ⟨rfl, by simp⟩
                  refine q_step hf (d := 79) (v := .pointer (some ⟨wo.heap.size, 0, none⟩)) rfl rfl (by decide) (by simp) (fun w' hw' => ?_) (fun A hA79 hf => ?_)
                  · have f5 := hf.get (d := 5) (v := .pointer (some ⟨wo.heap.size, 0, none⟩)) (by simp)
                    clear hf
                    simp [Oper.quietAt, Oper.quietUpon, go_sem, f5]
                  refine q_step hf (d := 80) (v := .agg #[.int .i64 l, .int .i64 x, .int .i64 y]) rfl rfl (by decide) (by simp) (fun w' hw' => ?_) (fun A hA80 hf => ?_)
                  · have hc := hS _ hw'
                    have f79 := hf.get (d := 79) (v := .pointer (some ⟨wo.heap.size, 0, none⟩)) (by simp)
                    clear hf
                    simp [Oper.quietAt, Oper.quietUpon, go_sem, f79, hc]
                  refine q_step hf (d := 81) (v := .pointer (some ⟨w.heap.size, 1, none⟩)) rfl rfl (by decide) (by simp) (fun w' hw' => ?_) (fun A hA81 hf => ?_)
                  · have f1 := hf.get (d := 1) (v := .pointer (some ⟨w.heap.size, 0, none⟩)) (by simp)
                    clear hf
                    simp [Oper.quietAt, Oper.quietUpon, go_sem, f1]
                  refine q_step hf (d := 82) (v := .slice (some ⟨g, off, none⟩) n c) rfl rfl (by decide) (by simp) (fun w' hw' => ?_) (fun A hA82 hf => ?_)
                  · have hc := hS _ hw'
                    have f81 := hf.get (d := 81) (v := .pointer (some ⟨w.heap.size, 1, none⟩)) (by simp)
                    clear hf
                    simp [Oper.quietAt, Oper.quietUpon, go_sem, f81, hc]
                  refine q_step hf (d := 83) (v := .int .i64 (j : Int)) rfl rfl (by decide) (by simp) (fun w' hw' => ?_) (fun A hA83 hf => ?_)
                  · have f7 := hf.get (d := 7) (v := .int .i64 (j : Int)) (by simp)
                    clear hf
                    simp [Oper.quietAt, Oper.quietUpon, go_sem, f7]
                  refine q_step hf (d := 84) (v := .pointer (some ⟨g, off + j * 4, none⟩)) rfl rfl (by decide) (by simp) (fun w' hw' => ?_) (fun A hA84 hf => ?_)
                  · have f82 := hf.get (d := 82) (v := .slice (some ⟨g, off, none⟩) n c) (by simp)
                    have f83 := hf.get (d := 83) (v := .int .i64 (j : Int)) (by simp)
                    clear hf
                    simp [Oper.quietAt, Oper.quietUpon, go_sem, f82, f83, hj2]
                  refine q_step hf (d := 85) (v := .pointer (some ⟨g, off + j * 4, none⟩)) rfl rfl (by decide) (by simp) (fun w' hw' => ?_) (fun A hA85 hf => ?_)
                  · have f84 := hf.get (d := 84) (v := .pointer (some ⟨g, off + j * 4, none⟩)) (by simp)
                    clear hf
                    simp [Oper.quietAt, Oper.quietUpon, go_sem, f84]
                  refine q_step hf (d := 86) (v := .agg #[.int .i64 l2, .int .i64 x2, .int .i64 y2]) rfl rfl (by decide) (by simp) (fun w' hw' => ?_) (fun A hA86 hf => ?_)
                  · have hc := hS _ hw'
                    have f85 := hf.get (d := 85) (v := .pointer (some ⟨g, off + j * 4, none⟩)) (by simp)
                    clear hf
                    simp [Oper.quietAt, Oper.quietUpon, go_sem, f85, hc]
                  refine q_step hf (d := 87) (v := .bool false) rfl rfl (by decide) (by simp) (fun w' hw' => ?_) (fun A hA87 hf => ?_)
                  · have f80 := hf.get (d := 80) (v := .agg #[.int .i64 l, .int .i64 x, .int .i64 y]) (by simp)
                    have f86 := hf.get (d := 86) (v := .agg #[.int .i64 l2, .int .i64 x2, .int .i64 y2]) (by simp)
                    clear hf
                    simp [Oper.quietAt, Oper.quietUpon, go_sem, f80, f86]
                    exact HI1.out _ hw'
                  refine q_step hf (d := 88) (v := .bool false) rfl rfl (by decide) (by simp) (fun w' hw' => ?_) (fun A hA88 hf => ?_)
                  · have f87 := hf.get (d := 87) (v := .bool false) (by simp)
                    clear hf
                    simp [Oper.quietAt, Oper.quietUpon, go_sem, f87]
                  refine q_want hf (d := 89) (v := .pointer (some ⟨w.heap.size, 1, none⟩)) (e := 88) rfl rfl (by simp) rfl (by decide) (by simp) (fun w' hw' => ?_) (fun A hA89 hf => ?_)
                  · have f1 := hf.get (d := 1) (v := .pointer (some ⟨w.heap.size, 0, none⟩)) (by simp)
                    clear hf
                    simp [Oper.quietAt, Oper.quietUpon, go_sem, f1]
                  refine q_want hf (d := 90) (v := .slice (some ⟨g, off, none⟩) n c) (e := 88) rfl rfl (by simp) rfl (by decide) (by simp) (fun w' hw' => ?_) (fun A hA90 hf => ?_)
                  · have hc := hS _ hw'
                    have f89 := hf.get (d := 89) (v := .pointer (some ⟨w.heap.size, 1, none⟩)) (by simp)
                    clear hf
                    simp [Oper.quietAt, Oper.quietUpon, go_sem, f89, hc]
                  refine q_want hf (d := 91) (v := .int .i64 (j : Int)) (e := 88) rfl rfl (by simp) rfl (by decide) (by simp) (fun w' hw' => ?_) (fun A hA91 hf => ?_)
                  · have f7 := hf.get (d := 7) (v := .int .i64 (j : Int)) (by simp)
                    clear hf
                    simp [Oper.quietAt, Oper.quietUpon, go_sem, f7]
                  refine q_want hf (d := 92) (v := .pointer (some ⟨g, off + j * 4, none⟩)) (e := 88) rfl rfl (by simp) rfl (by decide) (by simp) (fun w' hw' => ?_) (fun A hA92 hf => ?_)
                  · have f90 := hf.get (d := 90) (v := .slice (some ⟨g, off, none⟩) n c) (by simp)
                    have f91 := hf.get (d := 91) (v := .int .i64 (j : Int)) (by simp)
                    clear hf
                    simp [Oper.quietAt, Oper.quietUpon, go_sem, f90, f91, hj2]
                  refine q_want hf (d := 93) (v := .pointer (some ⟨g, off + j * 4, none⟩)) (e := 88) rfl rfl (by simp) rfl (by decide) (by simp) (fun w' hw' => ?_) (fun A hA93 hf => ?_)
                  · have f92 := hf.get (d := 92) (v := .pointer (some ⟨g, off + j * 4, none⟩)) (by simp)
                    clear hf
                    simp [Oper.quietAt, Oper.quietUpon, go_sem, f92]
                  refine q_want hf (d := 94) (v := .agg #[.int .i64 l2, .int .i64 x2, .int .i64 y2]) (e := 88) rfl rfl (by simp) rfl (by decide) (by simp) (fun w' hw' => ?_) (fun A hA94 hf => ?_)
                  · have hc := hS _ hw'
                    have f93 := hf.get (d := 93) (v := .pointer (some ⟨g, off + j * 4, none⟩)) (by simp)
                    clear hf
                    simp [Oper.quietAt, Oper.quietUpon, go_sem, f93, hc]
                  refine q_want hf (d := 95) (v := .pointer (some ⟨wo.heap.size, 0, none⟩)) (e := 88) rfl rfl (by simp) rfl (by decide) (by simp) (fun w' hw' => ?_) (fun A hA95 hf => ?_)
                  · have f5 := hf.get (d := 5) (v := .pointer (some ⟨wo.heap.size, 0, none⟩)) (by simp)
                    clear hf
                    simp [Oper.quietAt, Oper.quietUpon, go_sem, f5]
                  refine q_want hf (d := 96) (v := .agg #[.int .i64 l, .int .i64 x, .int .i64 y]) (e := 88) rfl rfl (by simp) rfl (by decide) (by simp) (fun w' hw' => ?_) (fun A hA96 hf => ?_)
                  · have hc := hS _ hw'
                    have f95 := hf.get (d := 95) (v := .pointer (some ⟨wo.heap.size, 0, none⟩)) (by simp)
                    clear hf
                    simp [Oper.quietAt, Oper.quietUpon, go_sem, f95, hc]
                  refine q_want hf (d := 97) (v := .bool true) (e := 88) rfl rfl (by simp) rfl (by decide) (by simp) (fun w' hw' => ?_) (fun A hA97 hf => ?_)
                  · have f94 := hf.get (d := 94) (v := .agg #[.int .i64 l2, .int .i64 x2, .int .i64 y2]) (by simp)
                    have f96 := hf.get (d := 96) (v := .agg #[.int .i64 l, .int .i64 x, .int .i64 y]) (by simp)
                    clear hf
                    simp [Oper.quietAt, Oper.quietUpon, go_sem, f94, f96]
                    exact HI2.out _ hw'
                  refine q_step hf (d := 98) (v := .bool true) rfl rfl (by decide) (by simp) (fun w' hw' => ?_) (fun A hA98 hf => ?_)
                  · have f88 := hf.get (d := 88) (v := .bool false) (by simp)
                    have f97 := hf.get (d := 97) (v := .bool true) (by simp)
                    clear hf
                    simp [Oper.quietAt, Oper.quietUpon, go_sem, f88, f97]
                  refine wpQuiet_nil (fun w' hw' => ?_)
                  clear hf
                  subst hA98 hA97 hA96 hA95 hA94 hA93 hA92 hA91 hA90 hA89 hA88 hA87 hA86 hA85 hA84 hA83 hA82 hA81 hA80 hA79 hA
                  simp only [Act.put, List.setIfInBounds_toArray, List.set_cons_succ, List.set_cons_zero]
                  go_wp2
                  go_ret
                  exact ⟨ret_bool HV.out.symm, hw'.bel⟩
              · have HV : Hid (dirB e L = false) := dir_no (by rw [HN.out.1]; exact hlt) (okAt_in hjt HAP.out)
                go_upto_region 15 with (fail)
                refine wp_region_quiet (C := fun w' => St w w' [(wo.heap.size, [.int .i64 l, .int .i64 x, .int .i64 y, .int .i64 q]), (w.heap.size, [.int .i64 e, .slice (some ⟨g, off, none⟩) n c])]) (by kernel_rfl) (by kernel_rfl) (hs3.dr) ?_
                refine q_intro (fun A hA => ?_)
                have hf : Fr 101 A [(1, .pointer (some ⟨w.heap.size, 0, none⟩)), (5, .pointer (some ⟨wo.heap.size, 0, none⟩)), (7, .int .i64 (j : Int))] := by subst hA; exact ⟨rfl, by simp⟩
                refine q_step hf (d := 79) (v := .pointer (some ⟨wo.heap.size, 0, none⟩)) rfl rfl (by decide) (by simp) (fun w' hw' => ?_) (fun A hA79 hf => ?_)
                · have f5 := hf.get (d := 5) (v := .pointer (some ⟨wo.heap.size, 0, none⟩)) (by simp)
                  clear hf
                  simp [Oper.quietAt, Oper.quietUpon, go_sem, f5]
                refine q_step hf (d := 80) (v := .agg #[.int .i64 l, .int .i64 x, .int .i64 y]) rfl rfl (by decide) (by simp) (fun w' hw' => ?_) (fun A hA80 hf => ?_)
                · have hc := hS _ hw'
                  have f79 := hf.get (d := 79) (v := .pointer (some ⟨wo.heap.size, 0, none⟩)) (by simp)
                  clear hf
                  simp [Oper.quietAt, Oper.quietUpon, go_sem, f79, hc]
                refine q_step hf (d := 81) (v := .pointer (some ⟨w.heap.size, 1, none⟩)) rfl rfl (by decide) (by simp) (fun w' hw' => ?_) (fun A hA81 hf => ?_)
                · have f1 := hf.get (d := 1) (v := .pointer (some ⟨w.heap.size, 0, none⟩)) (by simp)
                  clear hf
                  simp [Oper.quietAt, Oper.quietUpon, go_sem, f1]
                refine q_step hf (d := 82) (v := .slice (some ⟨g, off, none⟩) n c) rfl rfl (by decide) (by simp) (fun w' hw' => ?_) (fun A hA82 hf => ?_)
                · have hc := hS _ hw'
                  have f81 := hf.get (d := 81) (v := .pointer (some ⟨w.heap.size, 1, none⟩)) (by simp)
                  clear hf
                  simp [Oper.quietAt, Oper.quietUpon, go_sem, f81, hc]
                refine q_step hf (d := 83) (v := .int .i64 (j : Int)) rfl rfl (by decide) (by simp) (fun w' hw' => ?_) (fun A hA83 hf => ?_)
                · have f7 := hf.get (d := 7) (v := .int .i64 (j : Int)) (by simp)
                  clear hf
                  simp [Oper.quietAt, Oper.quietUpon, go_sem, f7]
                refine q_step hf (d := 84) (v := .pointer (some ⟨g, off + j * 4, none⟩)) rfl rfl (by decide) (by simp) (fun w' hw' => ?_) (fun A hA84 hf => ?_)
                · have f82 := hf.get (d := 82) (v := .slice (some ⟨g, off, none⟩) n c) (by simp)
                  have f83 := hf.get (d := 83) (v := .int .i64 (j : Int)) (by simp)
                  clear hf
                  simp [Oper.quietAt, Oper.quietUpon, go_sem, f82, f83, hj2]
                refine q_step hf (d := 85) (v := .pointer (some ⟨g, off + j * 4, none⟩)) rfl rfl (by decide) (by simp) (fun w' hw' => ?_) (fun A hA85 hf => ?_)
                · have f84 := hf.get (d := 84) (v := .pointer (some ⟨g, off + j * 4, none⟩)) (by simp)
                  clear hf
                  simp [Oper.quietAt, Oper.quietUpon, go_sem, f84]
                refine q_step hf (d := 86) (v := .agg #[.int .i64 l2, .int .i64 x2, .int .i64 y2]) rfl rfl (by decide) (by simp) (fun w' hw' => ?_) (fun A hA86 hf => ?_)
                · have hc := hS _ hw'
                  have f85 := hf.get (d := 85) (v := .pointer (some ⟨g, off + j * 4, none⟩)) (by simp)
                  clear hf
                  simp [Oper.quietAt, Oper.quietUpon, go_sem, f85, hc]
                refine q_step hf (d := 87) (v := .bool true) rfl rfl (by decide) (by simp) (fun w' hw' => ?_) (fun A hA87 hf => ?_)
                · have f80 := hf.get (d := 80) (v := .agg #[.int .i64 l, .int .i64 x, .int .i64 y]) (by simp)
                  have f86 := hf.get (d := 86) (v := .agg #[.int .i64 l2, .int .i64 x2, .int .i64 y2]) (by simp)
                  clear hf
                  simp [Oper.quietAt, Oper.quietUpon, go_sem, f80, f86]
                  exact HI1.out _ hw'
                refine q_step hf (d := 88) (v := .bool true) rfl rfl (by decide) (by simp) (fun w' hw' => ?_) (fun A hA88 hf => ?_)
                · have f87 := hf.get (d := 87) (v := .bool true) (by simp)
                  clear hf
                  simp [Oper.quietAt, Oper.quietUpon, go_sem, f87]
                refine q_skip hf (d := 89) (e := 88) (b := true) rfl rfl (by simp) rfl rfl (by decide) (by simp) (fun A hA89 hf => ?_)
                refine q_skip hf (d := 90) (e := 88) (b := true) rfl rfl (by simp) rfl rfl (by decide) (by simp) (fun A hA90 hf => ?_)
                refine q_skip hf (d := 91) (e := 88) (b := true) rfl rfl (by simp) rfl rfl (by decide) (by simp) (fun A hA91 hf => ?_)
                refine q_skip hf (d := 92) (e := 88) (b := true) rfl rfl (by simp) rfl rfl (by decide) (by simp) (fun A hA92 hf => ?_)
                refine q_skip hf (d := 93) (e := 88) (b := true) rfl rfl (by simp) rfl rfl (by decide) (by simp) (fun A hA93 hf => ?_)
                refine q_skip hf (d := 94) (e := 88) (b := true) rfl rfl (by simp) rfl rfl (by decide) (by simp) (fun A hA94 hf => ?_)
                refine q_skip hf (d := 95) (e := 88) (b := true) rfl rfl (by simp) rfl rfl (by decide) (by simp) (fun A hA95 hf => ?_)
                refine q_skip hf (d := 96) (e := 88) (b := true) rfl rfl (by simp) rfl rfl (by decide) (by simp) (fun A hA96 hf => ?_)
                refine q_skip hf (d := 97) (e := 88) (b := true) rfl rfl (by simp) rfl rfl (by decide) (by simp) (fun A hA97 hf => ?_)
                refine q_step hf (d := 98) (v := .bool true) rfl rfl (by decide) (by simp) (fun w' hw' => ?_) (fun A hA98 hf => ?_)
                · have f88 := hf.get (d := 88) (v := .bool true) (by simp)
                  clear hf
                  simp [Oper.quietAt, Oper.quietUpon, go_sem, f88]
                refine wpQuiet_nil (fun w' hw' => ?_)
                clear hf
                subst hA98 hA97 hA96 hA95 hA94 hA93 hA92 hA91 hA90 hA89 hA88 hA87 hA86 hA85 hA84 hA83 hA82 hA81 hA80 hA79 hA
                simp only [Act.put, List.setIfInBounds_toArray, List.set_cons_succ, List.set_cons_zero]
                go_wp2
                go_ret
                exact ⟨ret_bool HV.out.symm, hw'.bel⟩
            · obtain rfl : j = k := by omega
              have HY : Hid (okAt L j = true) := okAt_yes HON.out HPK.out hJ.out
              go_wp2
              go_roundw
              case rel => exact ⟨j + 1, s + a, by omega, rfl, by go_num, by omega, by omega, ⟨by rw [arS_succ (by rw [HN.out.1]; exact hlt), ← hK.out.1, HAR.out.1], by rw [all_range_succ, hK.out.2, HY.out]; rfl⟩, hs3.sub (by simp)⟩
              case measure => simp [intOf]; omega
      · obtain rfl : k = n := by omega
        have HV : Hid (dirB e L = (s == 65536)) := by
          show dirB e L = (s == 65536)
          unfold dirB
          rw [HN.out.2.1, HN.out.1, hK.out.2, ← hK.out.1, decide_eq_true (⟨hn1, hn2⟩ : 1 ≤ k ∧ k ≤ 64)]
          by_cases h : s = 65536 <;> simp [h]
        go_wp2
        go_ret
        exact ⟨ret_bool HV.out.symm, hst.bel⟩
end Go.Proofs.Ytamnmakegdnblaa.K.D
