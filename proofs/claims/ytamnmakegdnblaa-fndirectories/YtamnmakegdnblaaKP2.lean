/-
  A Directory is right: the program's look at it.
-/
import Derived.Test.YtamnmakegdnblaaKP0
import Derived.Test.YtamnmakegdnblaaKFq
namespace Go.Proofs.Ytamnmakegdnblaa.K.D
open Go.Shelf Go.RowKit Go.Joins
attribute [local go_sem] Oper.semAt_some

set_option maxHeartbeats 1000000 in
theorem isShard_v {n : Int} {v : Bool} (hv : M.inB n 0 3 = v) (w : World) : Calls Try.prog 80 #[.int .i64 n] w fun e w' => e = .returned (.bool v) ∧ Below w.heap.size w w' := by
  subst hv
  go_enter Try.func80, Try.ntmps80
  go_wp2
  all_goals (go_ret; exact ⟨M.ret_bool (by unfold M.inB; first | exact (decide_eq_true (by omega)).symm | exact (decide_eq_false (by omega)).symm | exact decide_eq_decide.mpr (by omega)), Below.refl _ _⟩)
set_option maxHeartbeats 1000000 in
theorem isId_v {n : Int} {v : Bool} (hv : M.inB n 1 100000 = v) (w : World) : Calls Try.prog 49 #[.int .i64 n] w fun e w' => e = .returned (.bool v) ∧ Below w.heap.size w w' := by
  subst hv
  go_enter Try.func49, Try.ntmps49
  go_wp2
  all_goals (go_ret; exact ⟨M.ret_bool (by unfold M.inB; first | exact (decide_eq_true (by omega)).symm | exact (decide_eq_false (by omega)).symm | exact decide_eq_decide.mpr (by omega)), Below.refl _ _⟩)
set_option maxHeartbeats 1000000 in
theorem onRight_any (o : On) (w : World) : Calls Try.prog 51 #[o.v] w fun e w' => e = .returned (.bool (onB o)) ∧ Below w.heap.size w w' := by
  obtain ⟨l, x, y, s⟩ := o
  have hst := (St.nil w).push [.int .i64 l, .int .i64 x, .int .i64 y, .int .i64 s] 73
  obtain ⟨b, hb⟩ : ∃ b, M.cellB l x y = b := ⟨_, rfl⟩
  obtain ⟨c, hc⟩ : ∃ b, M.inB s 0 3 = b := ⟨_, rfl⟩
  have HV : Hid (onB ⟨l, x, y, s⟩ = (b && c)) := by show onB ⟨l, x, y, s⟩ = (b && c); unfold onB; rw [← hb, ← hc]
  have HC := Lib.hid (fun W => M.isRight_v hb W)
  have HS := Lib.hid (fun W => isShard_v hc W)
  clear hb hc
  cases b
  · go_enter Try.func51, Try.ntmps51
    go_wp2_with (go_at_call 66; refine (HC.out _).mono ?_; rintro e w1 ⟨rfl, hb2⟩; have hs1 := hst.step hb2; have hk := hs1.has; simp [Has, HasAt] at hk)
    go_ret
    exact ⟨M.ret_bool HV.out.symm, hs1.bel⟩
  · go_enter Try.func51, Try.ntmps51
    go_wp2_with (first
      | (go_at_call 66; refine (HC.out _).mono ?_; rintro e w1 ⟨rfl, hb2⟩; have hs1 := hst.step hb2; have hk := hs1.has; simp [Has, HasAt] at hk)
      | (go_at_call 80; refine (HS.out _).mono ?_; rintro e w2 ⟨rfl, hb3⟩; have hs2 := hs1.step hb3))
    go_ret
    exact ⟨M.ret_bool (by rw [HV.out]; cases c <;> rfl), hs2.bel⟩
theorem onRight_v {o : On} {v : Bool} (hv : onB o = v) (w : World) : Calls Try.prog 51 #[o.v] w fun e w' => e = .returned (.bool v) ∧ Below w.heap.size w w' := hv ▸ onRight_any o w
theorem all_take {α : Type} {f : α → Bool} {L : List α} {k : Nat} (hk : k < L.length) : (L.take (k + 1)).all f = ((L.take k).all f && f L[k]) := by
  rw [List.take_succ_eq_append_getElem hk, List.all_append]; simp
theorem all_no {α : Type} {f : α → Bool} {L : List α} {k : Nat} {r : α} (hg : L[k]? = some r) (hr : f r = false) : L.all f = false := by
  rw [List.all_eq_false]
  exact ⟨r, List.mem_of_getElem? hg, by rw [hr]; simp⟩
set_option maxHeartbeats 1000000 in
theorem are_any (p : Option Addr) (cap : Nat) (L : List On) (n : Nat) (hn : L.length = n) (w : World) (hL : SlG kO w p L) (hb0 : n ≤ 10000000) {fb : Bool} (hv : L.all onB = fb) :
    Calls Try.prog 50 #[.slice p n cap, .func (.func 51) #[] #[]] w fun e w' => e = .returned (.bool fb) ∧ Below w.heap.size w w' := by
  subst hn
  go_enter Try.func50, Try.ntmps50
  go_wp2
  go_loopw [9] (fun i wr => ∃ k : Nat, k ≤ L.length ∧ i = .int .i64 k ∧ (L.take k).all onB = true ∧ Below w.heap.size w wr) (fun i _ => L.length - (intOf i).toNat)
  case atStart => exact ⟨0, by omega, rfl, rfl, Below.refl _ _⟩
  case round =>
    obtain ⟨k, hk, rfl, hall, hb⟩ := hrel
    by_cases hlt : k < L.length
    · have hki : (k : Int) < L.length := by omega
      obtain ⟨g, off, rfl, hC⟩ := (hL.step hb).at hlt
      have hg := List.getElem?_eq_getElem hlt
      have ht := all_take (f := onB) hlt
      generalize L[k] = r at hg ht
      obtain ⟨c0, c1, c2, c3⟩ := CsG.o4 hC hg
      cases hr : onB r
      · go_wp2_with (go_at_call 51; refine (onRight_v (o := r) hr _).mono ?_; rintro e w1 ⟨rfl, hb2⟩)
        go_ret
        exact ⟨M.ret_bool (by rw [← hv, all_no hg hr]), M.bstepA hb hb2 (Nat.le_refl _)⟩
      · go_wp2_with (go_at_call 51; refine (onRight_v (o := r) hr _).mono ?_; rintro e w1 ⟨rfl, hb2⟩)
        go_roundw
        case rel => exact ⟨k + 1, by omega, by go_num, by rw [ht, hall, hr]; rfl, M.bstepA hb hb2 (Nat.le_refl _)⟩
        case measure => simp [intOf]; omega
    · obtain rfl : k = L.length := by omega
      go_wp2
      go_ret
      rw [List.take_length] at hall
      exact ⟨M.ret_bool (by rw [← hv, hall]), hb⟩
set_option maxHeartbeats 1000000 in
theorem first_v {c : M.T3} {v : Int} (h : c.ok = true) (hv : c.lo = v) (w : World) : Calls Try.prog 81 #[.agg #[.int .i64 c.l, .int .i64 c.x, .int .i64 c.y]] w fun e w' => e = .returned (.int .i64 v) ∧ Below w.heap.size w w' := by
  subst hv
  obtain ⟨l, x, y⟩ := c
  have hc : M.cellB l x y = true := h
  obtain ⟨h0, h8, hx, hx1, hy, hy1⟩ := M.cellB_t.mp hc
  have b1 := M.mul_bd h0 h8 hx hx1
  have b2 := M.mul_bd h0 h8 hy hy1
  have b3 := M.sd_bd h0 h8
  have hsp : M.spB (x * M.sd l) (y * M.sd l) = true := M.spB_t.mpr (by omega)
  have hz := zz_lo h
  simp only at hz
  have HR := Lib.hid (fun W => M.iRectOf_any l x y W)
  have e1 : M.rX l x y = x * M.sd l := by simp [M.rX, hc]
  have e2 : M.rY l x y = y * M.sd l := by simp [M.rY, hc]
  have e3 : M.rS l x y = M.sd l := by simp [M.rS, hc]
  rw [e1, e2, e3] at HR
  have HO := Lib.hid (fun W => M.iOrder_any (x * M.sd l) (y * M.sd l) W)
  have e4 : M.ordI (x * M.sd l) (y * M.sd l) = (⟨l, x, y⟩ : M.T3).lo := by rw [M.ordI, hsp, ← hz]; rfl
  rw [e4] at HO
  have hst := St.nil w
  generalize x * M.sd l = rx at *
  generalize y * M.sd l = ry at *
  generalize M.sd l = d at *
  clear hc h hsp hz e1 e2 e3 e4 b1 b2 b3 h0 h8 hx hx1 hy hy1
  go_enter Try.func81, Try.ntmps81
  go_wp2_with (first
    | (go_at_call 26; refine (HR.out _).mono ?_; rintro e w1 ⟨rfl, hb2⟩; have hs1 := (hst.push _ _).step hb2; have hk := hs1.has; simp [Has, HasAt] at hk)
    | (go_at_call 98; refine (HO.out _).mono ?_; rintro e w2 ⟨rfl, hb3⟩; have hs2 := (hs1.push _ _).step hb3))
  go_ret
  exact ⟨rfl, hs2.bel⟩
set_option maxHeartbeats 1000000 in
theorem rcRight_any (x y a b : Int) (w : World) :
    Calls Try.prog 64 #[.agg #[.int .i64 x, .int .i64 y, .int .i64 a, .int .i64 b]] w fun e w' => e = .returned (.bool (M.okB x y a b)) ∧ Below w.heap.size w w' := by
  go_enter Try.func64, Try.ntmps64
  go_wp2
  all_goals (go_ret; exact ⟨M.ret_bool (by unfold M.okB; first | exact (decide_eq_true (by omega)).symm | exact (decide_eq_false (by omega)).symm | exact decide_eq_decide.mpr (by omega)), below_alloc3 _ _ _ _⟩)
set_option maxHeartbeats 1000000 in
theorem area_v {x y d v : Int} (h : M.okB x y d d = true) (hv : d * d = v) (w : World) :
    Calls Try.prog 82 #[.agg #[.int .i64 x, .int .i64 y, .int .i64 d, .int .i64 d]] w fun e w' => e = .returned (.int .i64 v) ∧ Below w.heap.size w w' := by
  have k := M.okB_t.mp h
  have h1 : 0 ≤ d * d := Int.mul_nonneg (by omega) (by omega)
  have h2 : d * d ≤ 256 * 256 := Int.mul_le_mul (by omega) (by omega) (by omega) (by decide)
  have HR := Lib.hid (fun W => (rcRight_any x y d d W))
  rw [h] at HR
  have hst := (St.nil w).push [.int .i64 x, .int .i64 y, .int .i64 d, .int .i64 d] 47
  have e1 : wrap64 (d * d) = d * d := by unfold wrap64; omega
  clear h k
  go_enter Try.func82, Try.ntmps82
  go_wp2_with (go_at_call 64; refine (HR.out _).mono ?_; rintro e w1 ⟨rfl, hb2⟩; have hs1 := hst.step hb2; have hk := hs1.has; simp [Has, HasAt] at hk)
  go_ret
  exact ⟨rfl, hs1.bel⟩
theorem cell_rect {l x y : Int} (h : M.cellB l x y = true) : M.okB (x * M.sd l) (y * M.sd l) (M.sd l) (M.sd l) = true ∧ M.sd l * M.sd l ≤ 65536 ∧ 1 ≤ M.sd l * M.sd l := by
  obtain ⟨h0, h8, hx, hx1, hy, hy1⟩ := M.cellB_t.mp h
  have b1 := M.mul_bd h0 h8 hx hx1
  have b2 := M.mul_bd h0 h8 hy hy1
  have b3 := M.sd_bd h0 h8
  have := area_bd (o := ⟨l, x, y, 0⟩) (by unfold onB; simp [h, M.inB])
  exact ⟨M.okB_t.mpr (by omega), this.2, this.1⟩
theorem rect_v {l x y a b d : Int} (h : M.cellB l x y = true) (ha : x * M.sd l = a) (hb : y * M.sd l = b) (hd : M.sd l = d) (w : World) : Calls Try.prog 26 #[.agg #[.int .i64 l, .int .i64 x, .int .i64 y]] w fun e w' => e = .returned (.agg #[.int .i64 a, .int .i64 b, .int .i64 d, .int .i64 d]) ∧ Below w.heap.size w w' := by
  have := M.iRectOf_any l x y w
  simp only [M.rX, M.rY, M.rS, h, if_true] at this
  subst ha hb hd
  exact this
theorem whole_no {L : List On} {k : Nat} (hk : k < L.length) (h : (L.getD k zon).t.lo ≠ arS L k) : wholeB L = false := by
  cases hw : wholeB L
  · rfl
  · exact absurd ((wholeB_iff.mp hw).1 k hk) h
theorem arS_bd {L : List On} (hon : ∀ j, j < L.length → onB (L.getD j zon) = true) : ∀ k, k ≤ L.length → 0 ≤ arS L k ∧ arS L k ≤ 65536 * k
  | 0, _ => ⟨Int.le_refl _, Int.le_refl _⟩
  | k + 1, h => by
    have h1 := arS_bd hon k (by omega)
    have h2 := area_bd (hon k (by omega))
    rw [arS_succ (by omega)]
    omega
set_option maxRecDepth 100000 in
set_option maxHeartbeats 2000000 in
theorem isWhole_v (e : Int) (p : Option Addr) (n c : Nat) (L : List On) (hn : L.length = n) (w : World) (hL : SlG kO w p L) (hb0 : n ≤ 64) (hon : ∀ j, j < L.length → onB (L.getD j zon) = true) {fb : Bool} (hv : wholeB L = fb) :
    Calls Try.prog 52 #[Dv.v ⟨e, p, n, c⟩] w fun ee w' => ee = .returned (.bool fb) ∧ Below w.heap.size w w' := by
  have hst := (St.nil w).push [.int .i64 e, .slice p n c] 26
  have HV : Hid (wholeB L = fb) := hv
  have HN : Hid (L.length = n ∧ ∀ j, j < L.length → onB (L.getD j zon) = true) := ⟨hn, hon⟩
  have HLL := Lib.hid hL
  have HR0 := Lib.hid (fun W => rect_v (l := 0) (x := 0) (y := 0) (a := 0) (b := 0) (d := 256) (by decide) (by decide) (by decide) (by decide) W)
  have HA0 := Lib.hid (fun W => area_v (x := 0) (y := 0) (d := 256) (v := 65536) (by decide) (by decide) W)
  clear hn hon hL hv
  go_enter Try.func52, Try.ntmps52
  go_wp2
  go_loopw [3, 9] (fun sv i wr => ∃ (k : Nat) (z : Int), k ≤ n ∧ i = .int .i64 k ∧ sv = .int .i64 z ∧ Hid (arS L k = z ∧ ∀ j, j < k → (L.getD j zon).t.lo = arS L j) ∧ Below w.heap.size w wr) (fun _ i _ => n - (intOf i).toNat)
  case atStart => exact ⟨0, 0, by omega, rfl, rfl, ⟨rfl, fun j hj => by omega⟩, hst.bel⟩
  case round =>
    clear hst
    obtain ⟨k, z, hk, rfl, rfl, hK, hbel⟩ := hrel
    by_cases hlt : k < n
    · have hki : (k : Int) < n := by omega
      have hkL : k < L.length := by rw [HN.out.1]; exact hlt
      obtain ⟨g, off, rfl, hC⟩ := (HLL.out.step hbel).at hkL
      obtain ⟨c0, c1, c2, c3⟩ := CsG.o4 hC (getO hkL)
      have honk := HN.out.2 k hkL
      have hsu := arS_succ hkL
      obtain ⟨⟨l, x, y, q⟩, hm⟩ : ∃ m, L.getD k zon = m := ⟨_, rfl⟩
      have hlo : Hid (∀ v, (⟨l, x, y⟩ : M.T3).lo = v → (L.getD k zon).t.lo = v) := fun v h => by rw [hm]; exact h
      rw [hm] at honk hsu c0 c1 c2 c3
      have hcb : M.cellB l x y = true := onB_ok honk
      obtain ⟨r1, r2, r3⟩ := cell_rect hcb
      have hbd := arS_bd HN.out.2 k (by rw [HN.out.1]; omega)
      rw [hK.out.1] at hbd
      obtain ⟨f, hf⟩ : ∃ f, (⟨l, x, y⟩ : M.T3).lo = f := ⟨_, rfl⟩
      have hfb := hi_bd (c := ⟨l, x, y⟩) hcb
      have HF := Lib.hid (fun W => first_v (c := ⟨l, x, y⟩) hcb hf W)
      have hst2 := ((St.nil wr).push [.int .i64 l, .int .i64 x, .int .i64 y, .int .i64 q] 73)
      have hw1 : w.heap.size ≤ wr.heap.size := hbel.size
      by_cases hfz : f = z
      · subst hfz
        have hlo2 := hlo.out _ hf
        obtain ⟨ar, har⟩ : ∃ v, M.sd l * M.sd l = v := ⟨_, rfl⟩
        have HR := Lib.hid (fun W => rect_v hcb rfl rfl rfl W)
        have HA := Lib.hid (fun W => area_v r1 har W)
        have hsu2 : Hid (arS L (k + 1) = f + ar) := by show arS L (k + 1) = f + ar; rw [hsu, hK.out.1, ← har]; rfl
        have HK2 : Hid (∀ j, j < k + 1 → (L.getD j zon).t.lo = arS L j) := fun j hj => by
          by_cases e : j < k
          · exact hK.out.2 j e
          · obtain rfl : j = k := by omega
            rw [hlo2, hK.out.1]
        rw [har] at r2 r3
        generalize x * M.sd l = rx at HR HA r1
        generalize y * M.sd l = ry at HR HA r1
        generalize M.sd l = d at HR HA r1
        have e1 : wrap64 (f + ar) = f + ar := by unfold wrap64; omega
        clear hC honk hsu hm hf hlo hcb r1 har hlo2 hfb hK
        go_wp2_with (first
          | (go_at_call 81; refine (HF.out _).mono ?_; rintro ee w1 ⟨rfl, hb2⟩; have hs1 := hst2.step hb2; have hk1 := hs1.has; simp [Has, HasAt] at hk1)
          | (go_at_call 26; refine (HR.out _).mono ?_; rintro ee w2 ⟨rfl, hb3⟩; have hs2 := hs1.step hb3)
          | (go_at_call 82; refine (HA.out _).mono ?_; rintro ee w3 ⟨rfl, hb4⟩; have hs3 := hs2.step hb4))
        go_roundw
        case rel => exact ⟨k + 1, f + ar, by omega, by go_num, by go_num, ⟨hsu2.out, HK2.out⟩, M.bstep hbel hs3.bel (Nat.le_refl _)⟩
        case measure => simp [intOf]; omega
      · have hno : fb = false := by rw [← HV.out]; exact whole_no hkL (by rw [hlo.out _ hf, hK.out.1]; exact hfz)
        subst hno
        clear hC honk hsu hm hf hlo hcb r1 hfb hK r2 r3
        go_wp2_with (go_at_call 81; refine (HF.out _).mono ?_; rintro ee w1 ⟨rfl, hb2⟩; have hs1 := hst2.step hb2; have hk1 := hs1.has; simp [Has, HasAt] at hk1)
        go_ret
        exact ⟨rfl, M.bstep hbel hs1.bel (Nat.le_refl _)⟩
    · obtain rfl : k = n := by omega
      have hw : Hid (decide (z = 65536) = fb) := by
        show decide (z = 65536) = fb
        rw [← HV.out]
        have h1 : wholeB L = true ↔ z = 65536 := by
          rw [wholeB_iff]
          have := hK.out
          constructor
          · rintro ⟨-, h⟩; rw [HN.out.1, this.1] at h; exact h
          · intro h; exact ⟨fun j hj => this.2 j (by rw [← HN.out.1]; exact hj), by rw [HN.out.1, this.1]; exact h⟩
        cases h2 : wholeB L
        · exact decide_eq_false (fun h => by rw [h1.mpr h] at h2; cases h2)
        · exact decide_eq_true (h1.mp h2)
      clear hK
      go_wp2_with (first
        | (go_at_call 26; refine (HR0.out _).mono ?_; rintro ee w2 ⟨rfl, hb3⟩)
        | (go_at_call 82; refine (HA0.out _).mono ?_; rintro ee w3 ⟨rfl, hb4⟩))
      go_ret
      exact ⟨M.ret_bool hw.out, M.bstep (M.bstep hbel hb3 (Nat.le_refl _)) hb4 (Nat.le_refl _)⟩
set_option maxRecDepth 100000 in
set_option maxHeartbeats 2000000 in
theorem iDirectoryOk_any (e : Int) (p : Option Addr) (n c : Nat) (L : List On) (hn : L.length = n) (w : World) (hL : SlG kO w p L) (hb0 : n ≤ 10000000) :
    Calls Try.prog 17 #[Dv.v ⟨e, p, n, c⟩] w fun ee w' => ee = .returned (.bool (dirB e L)) ∧ Below w.heap.size w w' := by
  rw [← pdir_eq]
  have hst := (St.nil w).push [.int .i64 e, .slice p n c] 26
  obtain ⟨b1, hb1⟩ : ∃ b, M.inB e 1 100000 = b := ⟨_, rfl⟩
  obtain ⟨b3, hb3⟩ : ∃ b, L.all onB = b := ⟨_, rfl⟩
  obtain ⟨b4, hb4⟩ : ∃ b, wholeB L = b := ⟨_, rfl⟩
  have HV : Hid (pdirB e L = (b1 && (decide (n ≤ 64) && (b3 && b4)))) := by show pdirB e L = _; unfold pdirB; rw [hb1, hb3, hb4, hn]
  have HI := Lib.hid (fun W => isId_v hb1 W)
  have HA := Lib.hid (fun W (h : Below w.heap.size w W) => are_any p c L n hn W (hL.step h) hb0 hb3)
  clear hb1
  cases b1
  · clear hn hL hb3 hb4
    go_enter Try.func17, Try.ntmps17
    go_wp2_with (go_at_call 49; refine (HI.out _).mono ?_; rintro ee w1 ⟨rfl, hb2⟩; have hs1 := hst.step hb2; have hk := hs1.has; simp [Has, HasAt] at hk)
    go_ret
    exact ⟨M.ret_bool (by rw [HV.out]; rfl), hs1.bel⟩
  · by_cases h64 : n ≤ 64
    · have h64i : (n : Int) ≤ 64 := by omega
      cases b3
      · clear hn hL hb3 hb4
        go_enter Try.func17, Try.ntmps17
        go_wp2_with (first
          | (go_at_call 49; refine (HI.out _).mono ?_; rintro ee w1 ⟨rfl, hb2⟩; have hs1 := hst.step hb2; have hk := hs1.has; simp [Has, HasAt] at hk)
          | (go_at_call 50; refine (HA.out _ hs1.bel).mono ?_; rintro ee w2 ⟨rfl, hb3⟩; have hs2 := hs1.step hb3; clear hk; have hk := hs2.has; simp [Has, HasAt] at hk))
        go_ret
        exact ⟨M.ret_bool (by rw [HV.out, decide_eq_true h64]; rfl), hs2.bel⟩
      · have HW := Lib.hid (fun W (h : Below w.heap.size w W) => isWhole_v e p n c L hn W (hL.step h) h64 (all_iff.mp hb3) hb4)
        clear hn hL hb3 hb4
        go_enter Try.func17, Try.ntmps17
        go_wp2_with (first
          | (go_at_call 49; refine (HI.out _).mono ?_; rintro ee w1 ⟨rfl, hb2⟩; have hs1 := hst.step hb2; have hk := hs1.has; simp [Has, HasAt] at hk)
          | (go_at_call 50; refine (HA.out _ hs1.bel).mono ?_; rintro ee w2 ⟨rfl, hb3⟩; have hs2 := hs1.step hb3; clear hk; have hk := hs2.has; simp [Has, HasAt] at hk)
          | (go_at_call 52; refine (HW.out _ hs2.bel).mono ?_; rintro ee w3 ⟨rfl, hb4⟩; have hs3 := hs2.step hb4))
        go_ret
        exact ⟨M.ret_bool (by rw [HV.out, decide_eq_true h64]; cases b4 <;> rfl), hs3.bel⟩
    · have h64i : ¬ (n : Int) ≤ 64 := by omega
      clear hn hL hb3 hb4
      go_enter Try.func17, Try.ntmps17
      go_wp2_with (go_at_call 49; refine (HI.out _).mono ?_; rintro ee w1 ⟨rfl, hb2⟩; have hs1 := hst.step hb2; have hk := hs1.has; simp [Has, HasAt] at hk)
      go_ret
      exact ⟨M.ret_bool (by rw [HV.out, decide_eq_false h64]; rfl), hs1.bel⟩
end Go.Proofs.Ytamnmakegdnblaa.K.D
