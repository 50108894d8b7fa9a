/-
  Whose is a Spot? The specification's.
-/
import Derived.Test.YtamnmakegdnblaaKD4
namespace Go.Proofs.Ytamnmakegdnblaa.K.D
open Go.Shelf Go.RowKit Go.Joins
attribute [local go_sem] Oper.semAt_some

def holdO (o : On) (s t : Int) : Bool := decide (o.x * M.sd o.l ≤ s ∧ s < o.x * M.sd o.l + M.sd o.l ∧ o.y * M.sd o.l ≤ t ∧ t < o.y * M.sd o.l + M.sd o.l)
/-- Whose is a Spot? -/
def ofD (s t : Int) : List On → Int
  | [] => -1
  | o :: r => if holdO o s t then o.s else ofD s t r
theorem drop_getO {L : List On} {k : Nat} (hk : k < L.length) : L.drop k = L.getD k zon :: L.drop (k + 1) := by
  rw [List.drop_eq_getElem_cons hk]
  congr 1
  simp [List.getD, hk]
set_option maxHeartbeats 2000000 in
theorem l1Holds_any (rx ry d s t : Int) (h : 0 ≤ rx ∧ 0 ≤ ry ∧ 1 ≤ d ∧ rx + d ≤ 256 ∧ ry + d ≤ 256) (w : World) :
    Calls Try.prog 85 #[.agg #[.int .i64 rx, .int .i64 ry, .int .i64 d, .int .i64 d], .agg #[.int .i64 s, .int .i64 t]] w fun e w' => e = .returned (.bool (decide (rx ≤ s ∧ s < rx + d ∧ ry ≤ t ∧ t < ry + d))) ∧ Below w.heap.size w w' := by
  obtain ⟨h1, h2, h3, h4, h5⟩ := h
  go_enter Try.func85, Try.ntmps85
  go_wp2
  all_goals (go_ret; refine ⟨ret_bool ?_, below_alloc2 _ _ _⟩)
  · exact decide_eq_decide.mpr (by omega)
  all_goals (symm; simp; omega)
theorem l1Holds_v {rx ry d s t : Int} {v : Bool} (h : 0 ≤ rx ∧ 0 ≤ ry ∧ 1 ≤ d ∧ rx + d ≤ 256 ∧ ry + d ≤ 256) (hv : decide (rx ≤ s ∧ s < rx + d ∧ ry ≤ t ∧ t < ry + d) = v) (w : World) :
    Calls Try.prog 85 #[.agg #[.int .i64 rx, .int .i64 ry, .int .i64 d, .int .i64 d], .agg #[.int .i64 s, .int .i64 t]] w fun e w' => e = .returned (.bool v) ∧ Below w.heap.size w w' := hv ▸ l1Holds_any rx ry d s t h w
set_option maxRecDepth 100000 in
set_option maxHeartbeats 4000000 in
theorem l15Of_any (e : Int) (p : Option Addr) (n c : Nat) (L : List On) (hn : L.length = n) (s t : Int) (w : World) (hL : SlG kO w p L) (hnb : n ≤ 64) (hok : ∀ o ∈ L, onB o = true) :
    Calls Try.prog 61 #[Dv.v ⟨e, p, n, c⟩, .agg #[.int .i64 s, .int .i64 t]] w fun ee w' => ee = .returned (.int .i64 (ofD s t L)) ∧ Below w.heap.size w w' := by
  have hst := ((St.nil w).push [.int .i64 e, .slice p n c] 26).push [.int .i64 s, .int .i64 t] 37
  simp only [World.size_alloc] at hst
  have HN : Hid (L.length = n ∧ ∀ o ∈ L, onB o = true) := ⟨hn, hok⟩
  have HLL := Lib.hid hL
  clear hn hok hL
  go_enter Try.func61, Try.ntmps61
  go_wp2
  go_loopw [5] (fun i wr => ∃ (k : Nat), k ≤ n ∧ i = .int .i64 k ∧ Hid (ofD s t L = ofD s t (L.drop k)) ∧ St w wr [(w.heap.size + 1, [.int .i64 s, .int .i64 t]), (w.heap.size, [.int .i64 e, .slice p n c])]) (fun i _ => n - (intOf i).toNat)
  case atStart => exact ⟨0, by omega, rfl, rfl, hst⟩
  case round =>
    clear hst
    obtain ⟨k, hk, rfl, hK, hst⟩ := hrel
    have hdir := hst.has
    simp [Has, HasAt] at hdir
    by_cases hlt : k < n
    · have hki : (k : Int) < n := by omega
      have hkL : k < L.length := by rw [HN.out.1]; exact hlt
      obtain ⟨g, off, rfl, hC⟩ := (HLL.out.step hst.bel).at hkL
      have hgk := getO hkL
      have hdr := drop_getO hkL
      have honk := HN.out.2 _ (List.mem_of_getElem? hgk)
      obtain ⟨⟨l, x, y, q⟩, hm⟩ : ∃ m, L.getD k zon = m := ⟨_, rfl⟩
      rw [hm] at hgk hdr honk
      have hcell : M.cellB l x y = true := (Bool.and_eq_true_iff.mp honk).1
      have hCs : ∀ w', Below w.heap.size w w' → CsG kO w' g off L := fun w' hb => by
        obtain ⟨g', off', e', h5⟩ := (HLL.out.step hb).at hkL
        injection e' with e'
        injection e' with e1 e2
        subst e1 e2
        exact h5
      have hS : ∀ w', St w w' [(w.heap.size + 1, [.int .i64 s, .int .i64 t]), (w.heap.size, [.int .i64 e, .slice (some ⟨g, off, none⟩) n c])] → ((w'.cell? ⟨w.heap.size + 1, 0, none⟩ = some (.int .i64 s) ∧ w'.cell? ⟨w.heap.size + 1, 1, none⟩ = some (.int .i64 t)) ∧ (w'.cell? ⟨w.heap.size, 0, none⟩ = some (.int .i64 e) ∧ w'.cell? ⟨w.heap.size, 1, none⟩ = some (.slice (some ⟨g, off, none⟩) n c))) ∧ (w'.cell? ⟨g, off + k * 4, none⟩ = some (.int .i64 l) ∧ w'.cell? ⟨g, off + k * 4 + 1, none⟩ = some (.int .i64 x) ∧ w'.cell? ⟨g, off + k * 4 + 2, none⟩ = some (.int .i64 y) ∧ w'.cell? ⟨g, off + k * 4 + 3, none⟩ = some (.int .i64 q)) := fun w' h => by
        have := h.has
        simp [Has, HasAt] at this
        exact ⟨by simp [this], CsG.o4 (hCs _ h.bel) hgk⟩
      have HR : Hid (∀ w', St w w' [(w.heap.size + 1, [.int .i64 s, .int .i64 t]), (w.heap.size, [.int .i64 e, .slice (some ⟨g, off, none⟩) n c])] → Calls Try.prog 56 #[.agg #[.int .i64 l, .int .i64 x, .int .i64 y]] w' fun ee w'' => ee = .returned (.agg #[.int .i64 (x * M.sd l), .int .i64 (y * M.sd l), .int .i64 (M.sd l), .int .i64 (M.sd l)]) ∧ St w w'' [(w.heap.size + 1, [.int .i64 s, .int .i64 t]), (w.heap.size, [.int .i64 e, .slice (some ⟨g, off, none⟩) n c])]) := fun w' hw' => by
        have := M.l2Rect_any hcell w'
        simp only [M.rX, M.rY, M.rS, hcell, if_true] at this
        exact this.mono fun _ _ h => ⟨h.1, hw'.step h.2⟩
      obtain ⟨b, hb⟩ : ∃ b, holdO ⟨l, x, y, q⟩ s t = b := ⟨_, rfl⟩
      have HV : Hid (ofD s t L = if b then q else ofD s t (L.drop (k + 1))) := by
        show ofD s t L = if b then q else ofD s t (L.drop (k + 1))
        rw [hK.out, hdr, ← hb]; rfl
      have HH : Hid (∀ w', St w w' [(w.heap.size + 1, [.int .i64 s, .int .i64 t]), (w.heap.size, [.int .i64 e, .slice (some ⟨g, off, none⟩) n c])] → Calls Try.prog 85 #[.agg #[.int .i64 (x * M.sd l), .int .i64 (y * M.sd l), .int .i64 (M.sd l), .int .i64 (M.sd l)], .agg #[.int .i64 s, .int .i64 t]] w' fun ee w'' => ee = .returned (.bool b) ∧ St w w'' [(w.heap.size + 1, [.int .i64 s, .int .i64 t]), (w.heap.size, [.int .i64 e, .slice (some ⟨g, off, none⟩) n c])]) := fun w' hw' => by
        obtain ⟨h0, h8, hx, hx1, hy, hy1⟩ := M.cellB_t.mp hcell
        obtain ⟨q1, q2⟩ := M.mul_bd h0 h8 hx hx1
        obtain ⟨r1, r2⟩ := M.mul_bd h0 h8 hy hy1
        obtain ⟨p1, p2⟩ := M.sd_bd h0 h8
        exact (l1Holds_v ⟨q1, r1, p1, q2, r2⟩ hb w').mono fun _ _ h => ⟨h.1, hw'.step h.2⟩
      generalize x * M.sd l = rx at HR HH
      generalize y * M.sd l = ry at HR HH
      generalize M.sd l = d at HR HH
      clear hC hgk hdr honk hm hcell hb hK
      cases b
      · go_upto_region 4 with (fail)
        refine wp_region_quiet (C := fun w' => St w w' [(w.heap.size + 1, [.int .i64 s, .int .i64 t]), (w.heap.size, [.int .i64 e, .slice (some ⟨g, off, none⟩) n c])]) (by kernel_rfl) (by kernel_rfl) (hst.dr) ?_
        refine q_intro (fun A hA => ?_)
        have hf : Fr 28 A [(2, .pointer (some ⟨w.heap.size, 0, none⟩)), (3, .pointer (some ⟨w.heap.size + 1, 0, none⟩)), (5, .int .i64 (k : Int))] := by subst hA; exact ⟨rfl, by simp⟩
        refine q_step hf (d := 13) (v := .pointer (some ⟨w.heap.size, 1, none⟩)) rfl rfl (by decide) (by simp) (fun w' hw' => ?_) (fun A hA13 hf => ?_)
        · have f2 := hf.get (d := 2) (v := .pointer (some ⟨w.heap.size, 0, none⟩)) (by simp)
          clear hf
          simp [Oper.quietAt, Oper.quietUpon, go_sem, f2]
        refine q_step hf (d := 14) (v := .slice (some ⟨g, off, none⟩) n c) rfl rfl (by decide) (by simp) (fun w' hw' => ?_) (fun A hA14 hf => ?_)
        · have hc := hS _ hw'
          have f13 := hf.get (d := 13) (v := .pointer (some ⟨w.heap.size, 1, none⟩)) (by simp)
          clear hf
          simp [Oper.quietAt, Oper.quietUpon, go_sem, f13, hc]
        refine q_step hf (d := 15) (v := .int .i64 (k : Int)) rfl rfl (by decide) (by simp) (fun w' hw' => ?_) (fun A hA15 hf => ?_)
        · have f5 := hf.get (d := 5) (v := .int .i64 (k : Int)) (by simp)
          clear hf
          simp [Oper.quietAt, Oper.quietUpon, go_sem, f5]
        refine q_step hf (d := 16) (v := .pointer (some ⟨g, off + k * 4, none⟩)) rfl rfl (by decide) (by simp) (fun w' hw' => ?_) (fun A hA16 hf => ?_)
        · have f14 := hf.get (d := 14) (v := .slice (some ⟨g, off, none⟩) n c) (by simp)
          have f15 := hf.get (d := 15) (v := .int .i64 (k : Int)) (by simp)
          clear hf
          simp [Oper.quietAt, Oper.quietUpon, go_sem, f14, f15, hki]
        refine q_step hf (d := 17) (v := .pointer (some ⟨g, off + k * 4, none⟩)) rfl rfl (by decide) (by simp) (fun w' hw' => ?_) (fun A hA17 hf => ?_)
        · have f16 := hf.get (d := 16) (v := .pointer (some ⟨g, off + k * 4, none⟩)) (by simp)
          clear hf
          simp [Oper.quietAt, Oper.quietUpon, go_sem, f16]
        refine q_step hf (d := 18) (v := .agg #[.int .i64 l, .int .i64 x, .int .i64 y]) rfl rfl (by decide) (by simp) (fun w' hw' => ?_) (fun A hA18 hf => ?_)
        · have hc := hS _ hw'
          have f17 := hf.get (d := 17) (v := .pointer (some ⟨g, off + k * 4, none⟩)) (by simp)
          clear hf
          simp [Oper.quietAt, Oper.quietUpon, go_sem, f17, hc]
        refine q_step hf (d := 19) (v := .agg #[.int .i64 rx, .int .i64 ry, .int .i64 d, .int .i64 d]) rfl rfl (by decide) (by simp) (fun w' hw' => ?_) (fun A hA19 hf => ?_)
        · have f18 := hf.get (d := 18) (v := .agg #[.int .i64 l, .int .i64 x, .int .i64 y]) (by simp)
          clear hf
          simp [Oper.quietAt, Oper.quietUpon, go_sem, f18]
          exact HR.out _ hw'
        refine q_step hf (d := 20) (v := .agg #[.int .i64 s, .int .i64 t]) rfl rfl (by decide) (by simp) (fun w' hw' => ?_) (fun A hA20 hf => ?_)
        · have hc := hS _ hw'
          have f3 := hf.get (d := 3) (v := .pointer (some ⟨w.heap.size + 1, 0, none⟩)) (by simp)
          clear hf
          simp [Oper.quietAt, Oper.quietUpon, go_sem, f3, hc]
        refine q_step hf (d := 21) (v := .bool false) rfl rfl (by decide) (by simp) (fun w' hw' => ?_) (fun A hA21 hf => ?_)
        · have f19 := hf.get (d := 19) (v := .agg #[.int .i64 rx, .int .i64 ry, .int .i64 d, .int .i64 d]) (by simp)
          have f20 := hf.get (d := 20) (v := .agg #[.int .i64 s, .int .i64 t]) (by simp)
          clear hf
          simp [Oper.quietAt, Oper.quietUpon, go_sem, f19, f20]
          exact HH.out _ hw'
        refine wpQuiet_nil (fun w' hw' => ?_)
        clear hf
        subst hA21 hA20 hA19 hA18 hA17 hA16 hA15 hA14 hA13 hA
        simp only [Act.put, List.setIfInBounds_toArray, List.set_cons_succ, List.set_cons_zero]
        go_wp2
        go_roundw
        case rel => exact ⟨k + 1, by omega, by go_num, HV.out, hw'⟩
        case measure => simp [intOf]; omega
      · go_upto_region 4 with (fail)
        refine wp_region_quiet (C := fun w' => St w w' [(w.heap.size + 1, [.int .i64 s, .int .i64 t]), (w.heap.size, [.int .i64 e, .slice (some ⟨g, off, none⟩) n c])]) (by kernel_rfl) (by kernel_rfl) (hst.dr) ?_
        refine q_intro (fun A hA => ?_)
        have hf : Fr 28 A [(2, .pointer (some ⟨w.heap.size, 0, none⟩)), (3, .pointer (some ⟨w.heap.size + 1, 0, none⟩)), (5, .int .i64 (k : Int))] := by subst hA; exact ⟨rfl, by simp⟩
        refine q_step hf (d := 13) (v := .pointer (some ⟨w.heap.size, 1, none⟩)) rfl rfl (by decide) (by simp) (fun w' hw' => ?_) (fun A hA13 hf => ?_)
        · have f2 := hf.get (d := 2) (v := .pointer (some ⟨w.heap.size, 0, none⟩)) (by simp)
          clear hf
          simp [Oper.quietAt, Oper.quietUpon, go_sem, f2]
        refine q_step hf (d := 14) (v := .slice (some ⟨g, off, none⟩) n c) rfl rfl (by decide) (by simp) (fun w' hw' => ?_) (fun A hA14 hf => ?_)
        · have hc := hS _ hw'
          have f13 := hf.get (d := 13) (v := .pointer (some ⟨w.heap.size, 1, none⟩)) (by simp)
          clear hf
          simp [Oper.quietAt, Oper.quietUpon, go_sem, f13, hc]
        refine q_step hf (d := 15) (v := .int .i64 (k : Int)) rfl rfl (by decide) (by simp) (fun w' hw' => ?_) (fun A hA15 hf => ?_)
        · have f5 := hf.get (d := 5) (v := .int .i64 (k : Int)) (by simp)
          clear hf
          simp [Oper.quietAt, Oper.quietUpon, go_sem, f5]
        refine q_step hf (d := 16) (v := .pointer (some ⟨g, off + k * 4, none⟩)) rfl rfl (by decide) (by simp) (fun w' hw' => ?_) (fun A hA16 hf => ?_)
        · have f14 := hf.get (d := 14) (v := .slice (some ⟨g, off, none⟩) n c) (by simp)
          have f15 := hf.get (d := 15) (v := .int .i64 (k : Int)) (by simp)
          clear hf
          simp [Oper.quietAt, Oper.quietUpon, go_sem, f14, f15, hki]
        refine q_step hf (d := 17) (v := .pointer (some ⟨g, off + k * 4, none⟩)) rfl rfl (by decide) (by simp) (fun w' hw' => ?_) (fun A hA17 hf => ?_)
        · have f16 := hf.get (d := 16) (v := .pointer (some ⟨g, off + k * 4, none⟩)) (by simp)
          clear hf
          simp [Oper.quietAt, Oper.quietUpon, go_sem, f16]
        refine q_step hf (d := 18) (v := .agg #[.int .i64 l, .int .i64 x, .int .i64 y]) rfl rfl (by decide) (by simp) (fun w' hw' => ?_) (fun A hA18 hf => ?_)
        · have hc := hS _ hw'
          have f17 := hf.get (d := 17) (v := .pointer (some ⟨g, off + k * 4, none⟩)) (by simp)
          clear hf
          simp [Oper.quietAt, Oper.quietUpon, go_sem, f17, hc]
        refine q_step hf (d := 19) (v := .agg #[.int .i64 rx, .int .i64 ry, .int .i64 d, .int .i64 d]) rfl rfl (by decide) (by simp) (fun w' hw' => ?_) (fun A hA19 hf => ?_)
        · have f18 := hf.get (d := 18) (v := .agg #[.int .i64 l, .int .i64 x, .int .i64 y]) (by simp)
          clear hf
          simp [Oper.quietAt, Oper.quietUpon, go_sem, f18]
          exact HR.out _ hw'
        refine q_step hf (d := 20) (v := .agg #[.int .i64 s, .int .i64 t]) rfl rfl (by decide) (by simp) (fun w' hw' => ?_) (fun A hA20 hf => ?_)
        · have hc := hS _ hw'
          have f3 := hf.get (d := 3) (v := .pointer (some ⟨w.heap.size + 1, 0, none⟩)) (by simp)
          clear hf
          simp [Oper.quietAt, Oper.quietUpon, go_sem, f3, hc]
        refine q_step hf (d := 21) (v := .bool true) rfl rfl (by decide) (by simp) (fun w' hw' => ?_) (fun A hA21 hf => ?_)
        · have f19 := hf.get (d := 19) (v := .agg #[.int .i64 rx, .int .i64 ry, .int .i64 d, .int .i64 d]) (by simp)
          have f20 := hf.get (d := 20) (v := .agg #[.int .i64 s, .int .i64 t]) (by simp)
          clear hf
          simp [Oper.quietAt, Oper.quietUpon, go_sem, f19, f20]
          exact HH.out _ hw'
        refine wpQuiet_nil (fun w' hw' => ?_)
        clear hf
        subst hA21 hA20 hA19 hA18 hA17 hA16 hA15 hA14 hA13 hA
        simp only [Act.put, List.setIfInBounds_toArray, List.set_cons_succ, List.set_cons_zero]
        have hc := hS _ hw'
        go_wp2
        go_ret
        exact ⟨ret_i64 HV.out.symm, hw'.bel⟩
    · obtain rfl : k = n := by omega
      have HV : Hid (ofD s t L = -1) := by
        show ofD s t L = -1
        rw [hK.out, List.drop_of_length_le (by rw [HN.out.1]; exact Nat.le_refl _)]; rfl
      go_wp2
      go_ret
      exact ⟨ret_i64 HV.out.symm, hst.bel⟩
/-- What ShardOf answers. -/
def shO (e : Int) (L : List On) (s t : Int) : Int := if dirB e L && M.spB s t then ofD s t L else -1
theorem dir_on {e : Int} {L : List On} (h : dirB e L = true) : L.length ≤ 64 ∧ ∀ o ∈ L, onB o = true := by
  unfold dirB at h
  simp only [Bool.and_eq_true, decide_eq_true_eq] at h
  refine ⟨h.2.1.2, fun o ho => ?_⟩
  obtain ⟨k, hk, rfl⟩ := List.getElem_of_mem ho
  have h1 := on_at h.2.2.1 hk
  rwa [show L.getD k zon = L[k] by simp [List.getD, hk]] at h1
set_option maxRecDepth 100000 in
set_option maxHeartbeats 4000000 in
theorem sShardOf_any (e : Int) (p : Option Addr) (n c : Nat) (L : List On) (hn : L.length = n) (s t : Int) (w : World) (hL : SlG kO w p L) (hnc : n ≤ c) :
    Calls Try.prog 20 #[Dv.v ⟨e, p, n, c⟩, .agg #[.int .i64 s, .int .i64 t]] w fun ee w' => ee = .returned (.int .i64 (shO e L s t)) ∧ Below w.heap.size w w' := by
  have hst := ((St.nil w).push [.int .i64 e, .slice p n c] 26).push [.int .i64 s, .int .i64 t] 37
  simp only [World.size_alloc] at hst
  have HD := Lib.hid (fun W (h : Below w.heap.size w W) => sDirectoryOk_any e p n c L hn W (hL.step h) hnc)
  obtain ⟨bd, hbd⟩ : ∃ b, dirB e L = b := ⟨_, rfl⟩
  rw [hbd] at HD
  obtain ⟨bs, hbs⟩ : ∃ b, M.spB s t = b := ⟨_, rfl⟩
  have HSp := Lib.hid (fun W => M.sSpot_v hbs W)
  have HV : Hid (shO e L s t = if bd && bs then ofD s t L else -1) := by show shO e L s t = _; unfold shO; rw [hbd, hbs]
  cases bd
  · clear hn hL hbd hbs
    go_enter Try.func20, Try.ntmps20
    go_wp2_with (go_at_call 18; refine (HD.out _ hst.bel).mono ?_; rintro ee w1 ⟨rfl, hb1⟩; have hs1 := hst.step hb1)
    go_ret
    exact ⟨ret_i64 HV.out.symm, hs1.bel⟩
  · have HO := Lib.hid (fun W (h : Below w.heap.size w W) => l15Of_any e p n c L hn s t W (hL.step h) (by have := (dir_on hbd).1; omega) (dir_on hbd).2)
    cases bs
    · clear hn hL hbd hbs
      go_enter Try.func20, Try.ntmps20
      go_wp2_with (first
        | (go_at_call 18; refine (HD.out _ hst.bel).mono ?_; rintro ee w1 ⟨rfl, hb1⟩; have hs1 := hst.step hb1; have hk := hs1.has; simp [Has, HasAt] at hk)
        | (go_at_call 60; refine (HSp.out _).mono ?_; rintro ee w2 ⟨rfl, hb2⟩; have hs2 := hs1.step hb2))
      go_ret
      exact ⟨ret_i64 HV.out.symm, hs2.bel⟩
    · clear hn hL hbd hbs
      go_enter Try.func20, Try.ntmps20
      go_wp2_with (first
        | (go_at_call 18; refine (HD.out _ hst.bel).mono ?_; rintro ee w1 ⟨rfl, hb1⟩; have hs1 := hst.step hb1; have hk := hs1.has; simp [Has, HasAt] at hk)
        | (go_at_call 60; refine (HSp.out _).mono ?_; rintro ee w2 ⟨rfl, hb2⟩; have hs2 := hs1.step hb2; clear hk; have hk := hs2.has; simp [Has, HasAt] at hk)
        | (go_at_call 61; refine (HO.out _ hs2.bel).mono ?_; rintro ee w3 ⟨rfl, hb3⟩; have hs3 := hs2.step hb3))
      go_ret
      exact ⟨ret_i64 HV.out.symm, hs3.bel⟩
end Go.Proofs.Ytamnmakegdnblaa.K.D
