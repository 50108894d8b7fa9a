/-
  The spec's Set: in right Records' own copy.
-/
import Derived.Test.YtbkiogedipmioaaGreatVUS1
import Derived.Deep.RegionLaw
namespace Go.Proofs.YtbkiogedipmioaaGreat.V.U
open Go.Shelf Go.RowKit Go.Joins
attribute [local go_sem] Oper.semAt_some

theorem box5 {w W : World} {rs : List Rw} {b : Nat} {r : Rc} (h : Sg w W rs) (hm : rG kR (.slice (some ⟨b, 0, none⟩) 1 1) [r] ∈ rs) : W.cell? ⟨b, 0, none⟩ = some (.int .i64 r.t) ∧ W.cell? ⟨b, 1, none⟩ = some (.int .i64 r.i) ∧ W.cell? ⟨b, 2, none⟩ = some (.int .i64 r.x) ∧ W.cell? ⟨b, 3, none⟩ = some (.int .i64 r.y) ∧ W.cell? ⟨b, 4, none⟩ = some (.string r.s) := by
  have := (OwG.cs (h.mem (K := kR) hm)).r5 (k := 0) (r := r) rfl
  simpa using this
end Go.Proofs.YtbkiogedipmioaaGreat.V.U
namespace Go.Proofs.YtbkiogedipmioaaGreat.V
open Go.Shelf Go.RowKit Go.Joins
open U in
theorem CsG.r5z {w : World} {g : Nat} {L : List Rc} (h : CsG kR w g 0 L) {k : Nat} {r : Rc} (hk : L[k]? = some r) : w.cell? ⟨g, k * 5, none⟩ = some (.int .i64 r.t) ∧ w.cell? ⟨g, k * 5 + 1, none⟩ = some (.int .i64 r.i) ∧ w.cell? ⟨g, k * 5 + 2, none⟩ = some (.int .i64 r.x) ∧ w.cell? ⟨g, k * 5 + 3, none⟩ = some (.int .i64 r.y) ∧ w.cell? ⟨g, k * 5 + 4, none⟩ = some (.string r.s) := by
  have := h.r5 hk
  simpa using this
end Go.Proofs.YtbkiogedipmioaaGreat.V
namespace Go.Proofs.YtbkiogedipmioaaGreat.V.U
open Go.Shelf Go.RowKit Go.Joins
attribute [local go_sem] Oper.semAt_some
theorem atI_no {L : List Rc} {q : Rc} (h : isAt L q = false) : atI L q = -1 := by unfold atI; rw [h]; rfl
theorem atI_yes {L : List Rc} {q : Rc} (h : isAt L q = true) : atI L q = (pos L q : Int) := by unfold atI; rw [h]; rfl
set_option maxRecDepth 100000 in
set_option maxHeartbeats 1000000 in
theorem sSet_bad (g c : Nat) (n : Nat) (W : World) (r : Rc) (hr : recB r = false) :
    Calls Tryz.prog 103 #[.slice (some ⟨g, 0, none⟩) n c, r.v] W fun e w' => e = .returned (.tuple #[.slice (some ⟨g, 0, none⟩) n c, .bool false]) ∧ Below W.heap.size W w' := by
  obtain ⟨rt, ri, rx, ry, rs⟩ := r
  have hB := (Sg.nil W).lit kR [⟨rt, ri, rx, ry, rs⟩] 1 rfl (by decide) #[.int .i64 rt, .int .i64 ri, .int .i64 rx, .int .i64 ry, .string rs] rfl
  go_enter Tryz.func103, Tryz.ntmps103
  go_wp2_with (go_at_call 40; refine (sRec_v (r := ⟨rt, ri, rx, ry, rs⟩) hr _).mono ?_; rintro e w1 ⟨rfl, hb1⟩)
  go_ret2
  exact ⟨rfl, (hB.step hb1).bel⟩
set_option maxRecDepth 100000 in
set_option maxHeartbeats 1000000 in
theorem sSet_full (g c : Nat) (L : List Rc) (hn : L.length = 400) (W : World) (hC : CsG kR W g 0 L) (hri : riseB L = true) (r : Rc) (hr : recB r = true) (ha : isAt L r = false) :
    Calls Tryz.prog 103 #[.slice (some ⟨g, 0, none⟩) 400 c, r.v] W fun e w' => e = .returned (.tuple #[.slice (some ⟨g, 0, none⟩) 400 c, .bool false]) ∧ Below W.heap.size W w' := by
  have HAT := Lib.hid (fun W' (h : Below W.heap.size W W') => sAt_any (some ⟨g, 0, none⟩) c L 400 hn W' (.inr ⟨g, 0, rfl, hC.step h⟩) (by omega) r hri (atI_no ha))
  obtain ⟨rt, ri, rx, ry, rs⟩ := r
  have hB := (Sg.nil W).lit kR [⟨rt, ri, rx, ry, rs⟩] 1 rfl (by decide) #[.int .i64 rt, .int .i64 ri, .int .i64 rx, .int .i64 ry, .string rs] rfl
  go_enter Tryz.func103, Tryz.ntmps103
  go_wp2_with (first
    | (go_at_call 40; refine (sRec_v (r := ⟨rt, ri, rx, ry, rs⟩) hr _).mono ?_; rintro e w1 ⟨rfl, hb1⟩; have hB1 := hB.step hb1; obtain ⟨x0, x1, x2, x3, x4⟩ := box5 (b := W.heap.size) (r := ⟨rt, ri, rx, ry, rs⟩) hB1 (by simp))
    | (go_at_call 80; refine (HAT.out _ hB1.bel).mono ?_; rintro e w2 ⟨rfl, rfl⟩))
  go_ret2
  exact ⟨rfl, hB1.bel⟩
set_option maxRecDepth 100000 in
set_option maxHeartbeats 1000000 in
theorem sSet_at (g c : Nat) (L : List Rc) (n : Nat) (hn : L.length = n) (W : World) (hC : CsG kR W g 0 L) (hn4 : n ≤ 1000) (hri : riseB L = true) (r : Rc) (hr : recB r = true) (ha : isAt L r = true) (hfz : ∀ j, W.frozen? ⟨g, j, none⟩ = false) {k : Nat} (hk : pos L r = k) :
    Calls Tryz.prog 103 #[.slice (some ⟨g, 0, none⟩) n c, r.v] W fun e w' => e = .returned (.tuple #[.slice (some ⟨g, 0, none⟩) n c, .bool true]) ∧ ∃ w1, Below W.heap.size W w1 ∧ w' = ((((w1.setCell ⟨g, k * 5, none⟩ (.int .i64 r.t)).setCell ⟨g, k * 5 + 1, none⟩ (.int .i64 r.i)).setCell ⟨g, k * 5 + 2, none⟩ (.int .i64 r.x)).setCell ⟨g, k * 5 + 3, none⟩ (.int .i64 r.y)).setCell ⟨g, k * 5 + 4, none⟩ (.string r.s) := by
  have hkl := isAt_lt ha
  have hka := atI_yes ha
  rw [hk] at hkl hka
  have hge := List.getElem?_eq_getElem hkl
  generalize L[k] = a at hge
  rw [hn] at hkl
  have HAT := Lib.hid (fun W' (h : Below W.heap.size W W') => sAt_any (some ⟨g, 0, none⟩) c L n hn W' (.inr ⟨g, 0, rfl, hC.step h⟩) (by omega) r hri hka)
  have HC := Lib.hid (fun W' (h : Below W.heap.size W W') => (hC.step h).r5z hge)
  have HF : Hid (∀ W', Below W.heap.size W W' → ∀ j, W'.frozen? ⟨g, j, none⟩ = false) := fun W' h j => (h.frozen (p := ⟨g, j, none⟩) hC.1).trans (hfz j)
  have hki : (k : Int) < n := by omega
  obtain ⟨rt, ri, rx, ry, rs⟩ := r
  have hB := (Sg.nil W).lit kR [⟨rt, ri, rx, ry, rs⟩] 1 rfl (by decide) #[.int .i64 rt, .int .i64 ri, .int .i64 rx, .int .i64 ry, .string rs] rfl
  clear hn hC hri ha hfz hk hka hge
  go_enter Tryz.func103, Tryz.ntmps103
  go_wp2_with (first
    | (go_at_call 40; refine (sRec_v (r := ⟨rt, ri, rx, ry, rs⟩) hr _).mono ?_; rintro e w1 ⟨rfl, hb1⟩; have hB1 := hB.step hb1; obtain ⟨x0, x1, x2, x3, x4⟩ := box5 (b := W.heap.size) (r := ⟨rt, ri, rx, ry, rs⟩) hB1 (by simp); obtain ⟨y0, y1, y2, y3, y4⟩ := HC.out _ hB1.bel; have yf := HF.out _ hB1.bel)
    | (go_at_call 80; refine (HAT.out _ hB1.bel).mono ?_; rintro e w2 ⟨rfl, rfl⟩))
  go_ret2
  exact ⟨rfl, _, hB1.bel, rfl⟩
set_option maxRecDepth 100000 in
set_option maxHeartbeats 4000000 in
theorem sSet_new (g c : Nat) (L : List Rc) (n : Nat) (hn : L.length = n) (W : World) (hC : CsG kR W g 0 L) (hcap : n ≤ c) (hn4 : n < 400) (hri : riseB L = true) (r : Rc) (hr : recB r = true) (ha : isAt L r = false) {M : List Rc} (hM : swL L r [r] = M) :
    Calls Tryz.prog 103 #[.slice (some ⟨g, 0, none⟩) n c, r.v] W fun e w' => ∃ g' m c', M.length = m ∧ e = .returned (.tuple #[.slice (some ⟨g', 0, none⟩) m c', .bool true]) ∧ Sg W w' [rG kR (.slice (some ⟨g', 0, none⟩) m c') M] := by
  have HAT := Lib.hid (fun W' (h : Below W.heap.size W W') => sAt_any (some ⟨g, 0, none⟩) c L n hn W' (.inr ⟨g, 0, rfl, hC.step h⟩) (by omega) r hri (atI_no ha))
  have hsw : swL L r [r] = L.take (pos L r) ++ [r] ++ L.drop (pos L r) := by unfold swL past; rw [ha]; simp
  rw [hM] at hsw
  obtain ⟨rt, ri, rx, ry, rs⟩ := r
  have HSW := Lib.hid hsw
  have HCC := Lib.hid hC
  have HN := Lib.hid hn
  have HRI := Lib.hid hri
  have hB := (Sg.nil W).lit kR [⟨rt, ri, rx, ry, rs⟩] 1 rfl (by decide) #[.int .i64 rt, .int .i64 ri, .int .i64 rx, .int .i64 ry, .string rs] rfl
  have hn0 : ¬ (n : Int) = 400 := by omega
  have hnb : ((n : Int) == 400) = false := by simp; omega
  clear hn hC hri ha hM hsw
  go_enter Tryz.func103, Tryz.ntmps103
  go_upto_region 10 with (first
    | (go_at_call 40; refine (sRec_v (r := ⟨rt, ri, rx, ry, rs⟩) hr _).mono ?_; rintro e w1 ⟨rfl, hb1⟩; have hB1 := hB.step hb1; obtain ⟨x0, x1, x2, x3, x4⟩ := box5 (b := W.heap.size) (r := ⟨rt, ri, rx, ry, rs⟩) hB1 (by simp))
    | (go_at_call 80; refine (HAT.out _ hB1.bel).mono ?_; rintro e w2 ⟨rfl, rfl⟩))
  clear x0 x1 x2 x3 x4 hB
  go_loopw [7] (fun s7 wr => ∃ k : Nat, k ≤ n ∧ s7 = .int .i64 k ∧ Hid (∀ j a, j < k → L[j]? = some a → lessB a ⟨rt, ri, rx, ry, rs⟩ = true) ∧ Sg W wr [rG kR (.slice (some ⟨W.heap.size, 0, none⟩) 1 1) [⟨rt, ri, rx, ry, rs⟩]]) (fun i _ => n - (intOf i).toNat)
  case atStart => exact ⟨0, by omega, rfl, fun j a h => by omega, hB1⟩
  case round =>
    clear hB1
    obtain ⟨k, hk, rfl, hall, hS⟩ := hrel
    by_cases hlt : k < n
    · have hki : (k : Int) < n := by omega
      have hkL : k < L.length := by rw [HN.out]; exact hlt
      have hge := List.getElem?_eq_getElem hkL
      generalize L[k] = a at hge
      have HGE := Lib.hid hge
      have hS5 : ∀ W', Sg W W' [rG kR (.slice (some ⟨W.heap.size, 0, none⟩) 1 1) [⟨rt, ri, rx, ry, rs⟩]] → (W'.cell? ⟨W.heap.size, 0, none⟩ = some (.int .i64 rt) ∧ W'.cell? ⟨W.heap.size, 1, none⟩ = some (.int .i64 ri) ∧ W'.cell? ⟨W.heap.size, 2, none⟩ = some (.int .i64 rx) ∧ W'.cell? ⟨W.heap.size, 3, none⟩ = some (.int .i64 ry) ∧ W'.cell? ⟨W.heap.size, 4, none⟩ = some (.string rs)) ∧ (W'.cell? ⟨g, k * 5, none⟩ = some (.int .i64 a.t) ∧ W'.cell? ⟨g, k * 5 + 1, none⟩ = some (.int .i64 a.i) ∧ W'.cell? ⟨g, k * 5 + 2, none⟩ = some (.int .i64 a.x) ∧ W'.cell? ⟨g, k * 5 + 3, none⟩ = some (.int .i64 a.y) ∧ W'.cell? ⟨g, k * 5 + 4, none⟩ = some (.string a.s)) := fun W' h => ⟨box5 (b := W.heap.size) (r := ⟨rt, ri, rx, ry, rs⟩) h (by simp), (HCC.out.step h.bel).r5z HGE.out⟩
      have hc : ∀ W', Sg W W' [rG kR (.slice (some ⟨W.heap.size, 0, none⟩) 1 1) [⟨rt, ri, rx, ry, rs⟩]] → (W'.cell? ⟨W.heap.size, 0, none⟩ = some (.int .i64 rt) ∧ W'.cell? ⟨W.heap.size, 1, none⟩ = some (.int .i64 ri) ∧ W'.cell? ⟨W.heap.size, 2, none⟩ = some (.int .i64 rx) ∧ W'.cell? ⟨W.heap.size, 3, none⟩ = some (.int .i64 ry) ∧ W'.cell? ⟨W.heap.size, 4, none⟩ = some (.string rs)) ∧ (W'.cell? ⟨g, k * 5, none⟩ = some (.int .i64 a.t) ∧ W'.cell? ⟨g, k * 5 + 1, none⟩ = some (.int .i64 a.i) ∧ W'.cell? ⟨g, k * 5 + 2, none⟩ = some (.int .i64 a.x) ∧ W'.cell? ⟨g, k * 5 + 3, none⟩ = some (.int .i64 a.y) ∧ W'.cell? ⟨g, k * 5 + 4, none⟩ = some (.string a.s)) := hS5
      clear hge hkL
      cases hle : lessB a ⟨rt, ri, rx, ry, rs⟩
      · have HPK : Hid (pos L ⟨rt, ri, rx, ry, rs⟩ = k) := (pos_uniq (by rw [HN.out]; omega) hall.out (fun b hb => by rw [HGE.out] at hb; cases hb; exact hle)).symm
        go_wp2
        refine wp_region_quiet (C := fun w' => Sg W w' [rG kR (.slice (some ⟨W.heap.size, 0, none⟩) 1 1) [⟨rt, ri, rx, ry, rs⟩]]) (by kernel_rfl) (by kernel_rfl) (hS.step (Below.refl _ _).drew) ?_
        refine q_intro (fun A hA => ?_)
        have hf : Fr 62 A [(0, .slice (some ⟨g, 0, none⟩) n c), (3, .pointer (some ⟨W.heap.size, 0, none⟩)), (7, .int .i64 (k : Int))] := by subst hA; exact ⟨rfl, by simp⟩
        refine q_step hf (d := 30) (v := .int .i64 (k : Int)) rfl rfl (by decide) (by simp) (fun w' hw' => ?_) (fun A hA30 hf => ?_)
        · have f7 := hf.get (d := 7) (v := .int .i64 (k : Int)) (by simp)
          clear hf
          simp [Oper.quietAt, Oper.quietUpon, go_sem, f7]
        refine q_step hf (d := 31) (v := .slice (some ⟨g, 0, none⟩) n c) rfl rfl (by decide) (by simp) (fun w' hw' => ?_) (fun A hA31 hf => ?_)
        · have f0 := hf.get (d := 0) (v := .slice (some ⟨g, 0, none⟩) n c) (by simp)
          clear hf
          simp [Oper.quietAt, Oper.quietUpon, go_sem, f0]
        refine q_step hf (d := 32) (v := .int .i64 (n : Int)) rfl rfl (by decide) (by simp) (fun w' hw' => ?_) (fun A hA32 hf => ?_)
        · have f31 := hf.get (d := 31) (v := .slice (some ⟨g, 0, none⟩) n c) (by simp)
          clear hf
          simp [Oper.quietAt, Oper.quietUpon, go_sem, f31]
        refine q_step hf (d := 33) (v := .bool true) rfl rfl (by decide) (by simp) (fun w' hw' => ?_) (fun A hA33 hf => ?_)
        · have f30 := hf.get (d := 30) (v := .int .i64 (k : Int)) (by simp)
          have f32 := hf.get (d := 32) (v := .int .i64 (n : Int)) (by simp)
          clear hf
          simp [Oper.quietAt, Oper.quietUpon, go_sem, f30, f32, hki]
        refine q_step hf (d := 34) (v := .bool true) rfl rfl (by decide) (by simp) (fun w' hw' => ?_) (fun A hA34 hf => ?_)
        · have f33 := hf.get (d := 33) (v := .bool true) (by simp)
          clear hf
          simp [Oper.quietAt, Oper.quietUpon, go_sem, f33]
        refine q_want hf (d := 35) (v := .slice (some ⟨g, 0, none⟩) n c) (e := 34) rfl rfl (by simp) rfl (by decide) (by simp) (fun w' hw' => ?_) (fun A hA35 hf => ?_)
        · have f0 := hf.get (d := 0) (v := .slice (some ⟨g, 0, none⟩) n c) (by simp)
          clear hf
          simp [Oper.quietAt, Oper.quietUpon, go_sem, f0]
        refine q_want hf (d := 36) (v := .int .i64 (k : Int)) (e := 34) rfl rfl (by simp) rfl (by decide) (by simp) (fun w' hw' => ?_) (fun A hA36 hf => ?_)
        · have f7 := hf.get (d := 7) (v := .int .i64 (k : Int)) (by simp)
          clear hf
          simp [Oper.quietAt, Oper.quietUpon, go_sem, f7]
        refine q_want hf (d := 37) (v := .pointer (some ⟨g, k * 5, none⟩)) (e := 34) rfl rfl (by simp) rfl (by decide) (by simp) (fun w' hw' => ?_) (fun A hA37 hf => ?_)
        · have f35 := hf.get (d := 35) (v := .slice (some ⟨g, 0, none⟩) n c) (by simp)
          have f36 := hf.get (d := 36) (v := .int .i64 (k : Int)) (by simp)
          clear hf
          simp [Oper.quietAt, Oper.quietUpon, go_sem, f35, f36, hki]
        refine q_want hf (d := 38) (v := .agg #[.int .i64 a.t, .int .i64 a.i, .int .i64 a.x, .int .i64 a.y, .string a.s]) (e := 34) rfl rfl (by simp) rfl (by decide) (by simp) (fun w' hw' => ?_) (fun A hA38 hf => ?_)
        · have hc := hS5 _ hw'
          have f37 := hf.get (d := 37) (v := .pointer (some ⟨g, k * 5, none⟩)) (by simp)
          clear hf
          simp [Oper.quietAt, Oper.quietUpon, go_sem, f37, hc]
        refine q_want hf (d := 39) (v := .pointer (some ⟨W.heap.size, 0, none⟩)) (e := 34) rfl rfl (by simp) rfl (by decide) (by simp) (fun w' hw' => ?_) (fun A hA39 hf => ?_)
        · have f3 := hf.get (d := 3) (v := .pointer (some ⟨W.heap.size, 0, none⟩)) (by simp)
          clear hf
          simp [Oper.quietAt, Oper.quietUpon, go_sem, f3]
        refine q_want hf (d := 40) (v := .int .i64 rt) (e := 34) rfl rfl (by simp) rfl (by decide) (by simp) (fun w' hw' => ?_) (fun A hA40 hf => ?_)
        · have hc := hS5 _ hw'
          have f39 := hf.get (d := 39) (v := .pointer (some ⟨W.heap.size, 0, none⟩)) (by simp)
          clear hf
          simp [Oper.quietAt, Oper.quietUpon, go_sem, f39, hc]
        refine q_want hf (d := 41) (v := .pointer (some ⟨W.heap.size, 1, none⟩)) (e := 34) rfl rfl (by simp) rfl (by decide) (by simp) (fun w' hw' => ?_) (fun A hA41 hf => ?_)
        · have f3 := hf.get (d := 3) (v := .pointer (some ⟨W.heap.size, 0, none⟩)) (by simp)
          clear hf
          simp [Oper.quietAt, Oper.quietUpon, go_sem, f3]
        refine q_want hf (d := 42) (v := .int .i64 ri) (e := 34) rfl rfl (by simp) rfl (by decide) (by simp) (fun w' hw' => ?_) (fun A hA42 hf => ?_)
        · have hc := hS5 _ hw'
          have f41 := hf.get (d := 41) (v := .pointer (some ⟨W.heap.size, 1, none⟩)) (by simp)
          clear hf
          simp [Oper.quietAt, Oper.quietUpon, go_sem, f41, hc]
        refine q_want hf (d := 43) (v := .bool false) (e := 34) rfl rfl (by simp) rfl (by decide) (by simp) (fun w' hw' => ?_) (fun A hA43 hf => ?_)
        · have f38 := hf.get (d := 38) (v := .agg #[.int .i64 a.t, .int .i64 a.i, .int .i64 a.x, .int .i64 a.y, .string a.s]) (by simp)
          have f40 := hf.get (d := 40) (v := .int .i64 rt) (by simp)
          have f42 := hf.get (d := 42) (v := .int .i64 ri) (by simp)
          clear hf
          simp [Oper.quietAt, Oper.quietUpon, go_sem, f38, f40, f42]
          exact (sLess_v (a := a) (b := ⟨rt, ri, rx, ry, rs⟩) hle _).mono (fun e w'' hq => ⟨hq.1, hw'.step hq.2⟩)
        refine q_step hf (d := 44) (v := .bool false) rfl rfl (by decide) (by simp) (fun w' hw' => ?_) (fun A hA44 hf => ?_)
        · have f34 := hf.get (d := 34) (v := .bool true) (by simp)
          have f43 := hf.get (d := 43) (v := .bool false) (by simp)
          clear hf
          simp [Oper.quietAt, Oper.quietUpon, go_sem, f34, f43]
        refine wpQuiet_nil (fun w' hw' => ?_)
        clear hf
        subst hA44 hA43 hA42 hA41 hA40 hA39 hA38 hA37 hA36 hA35 hA34 hA33 hA32 hA31 hA30 hA
        simp only [Act.put, List.setIfInBounds_toArray, List.set_cons_succ, List.set_cons_zero]
        have hkc : k ≤ c := by omega
        have hck : ¬ c = k := by omega
        clear hS hS5 hc hall
        have hS1 : Sg W (w'.alloc (.cells #[] 79)) ([] ++ rG kR (.slice (some ⟨w'.heap.size, 0, none⟩) 0 0) [] :: [rG kR (.slice (some ⟨W.heap.size, 0, none⟩) 1 1) [⟨rt, ri, rx, ry, rs⟩]]) := hw'.lit kR [] 0 rfl (by decide) #[] rfl
        have HDL : Hid ((L.drop k).length = (n - k)) := (show _ = (n - k) by rw [List.length_drop, HN.out] : _ = (n - k))
        have HSR : Hid (∀ j u, (kR.flat (L.drop k))[j]? = some u → (w'.alloc (.cells #[] 79)).cell? ((⟨g, k * 5, none⟩ : Addr).add j) = some u) := (by have hh := cs_src ((HCC.out.step hS1.bel).drop k); rw [Nat.zero_add] at hh; exact hh)
        have HTL : Hid ((L.take k).length = k) := (show _ = k by rw [List.length_take, HN.out]; omega)
        have HTK : Hid (∀ W', Below W.heap.size W W' → ∀ j u, (kR.flat (L.take k))[j]? = some u → W'.cell? ((⟨g, 0, none⟩ : Addr).add j) = some u) := fun W' h => cs_src ((HCC.out.step h).take k)
        go_wp2_with (at_builtin; refine wpList_sgapp0 appR rfl _ _ rfl (A := []) (B := L.drop k) (m := (n - k)) hS1 (Below.refl _ _) HDL.out rfl ⟨g, k * 5, none⟩ (c - k) rfl HSR.out (oneRs _) (.inr (by simp)) (by omega) ?_; intro gr cr w8 hS8 _ _)
        simp only [List.nil_append] at hS8
        have mc : ∀ W' rr, Sg W W' rr → rG kR (.slice (some ⟨W.heap.size, 0, none⟩) 1 1) [⟨rt, ri, rx, ry, rs⟩] ∈ rr → (W'.cell? ⟨W.heap.size, 0, none⟩ = some (.int .i64 rt) ∧ W'.cell? ⟨W.heap.size, 1, none⟩ = some (.int .i64 ri) ∧ W'.cell? ⟨W.heap.size, 2, none⟩ = some (.int .i64 rx) ∧ W'.cell? ⟨W.heap.size, 3, none⟩ = some (.int .i64 ry) ∧ W'.cell? ⟨W.heap.size, 4, none⟩ = some (.string rs)) := fun W' rr h hm => box5 h hm
        have mc0 := mc _ _ hS8 (by simp)
        have mc1 := mc _ _ (hS8.step (below_alloc1 _ (.cells #[] 79)).drew) (by simp)
        have bne : ¬ W.heap.size = w8.heap.size := by have := hS8.bel.size; have := hS8.own (rG kR (.slice (some ⟨W.heap.size, 0, none⟩) 1 1) [⟨rt, ri, rx, ry, rs⟩]) (by simp); have := World.ownsRow.lt this W.heap.size rfl; omega
        have hSa : Sg W (w8.alloc (.cells #[] 79)) ([] ++ rG kR (.slice (some ⟨w8.heap.size, 0, none⟩) 0 0) [] :: [rG kR (.slice (some ⟨gr, 0, none⟩) (n - k) cr) (L.drop k), rG kR (.slice (some ⟨W.heap.size, 0, none⟩) 1 1) [⟨rt, ri, rx, ry, rs⟩]]) := hS8.lit kR [] 0 rfl (by decide) #[] rfl
        have hSb : Sg W ((w8.alloc (.cells #[] 79)).alloc (.cells #[.int .i64 rt, .int .i64 ri, .int .i64 rx, .int .i64 ry, .string rs] 79)) ([rG kR (.slice (some ⟨w8.heap.size + 1, 0, none⟩) 1 1) [⟨rt, ri, rx, ry, rs⟩]] ++ rG kR (.slice (some ⟨w8.heap.size, 0, none⟩) 0 0) [] :: [rG kR (.slice (some ⟨gr, 0, none⟩) (n - k) cr) (L.drop k), rG kR (.slice (some ⟨W.heap.size, 0, none⟩) 1 1) [⟨rt, ri, rx, ry, rs⟩]]) := by
          have := Sg.lit hSa kR [⟨rt, ri, rx, ry, rs⟩] 1 rfl (by decide) #[.int .i64 rt, .int .i64 ri, .int .i64 rx, .int .i64 ry, .string rs] rfl
          rw [World.size_alloc] at this; exact this
        have hSc : Sg W ((w8.alloc (.cells #[.int .i64 rt, .int .i64 ri, .int .i64 rx, .int .i64 ry, .string rs] 79)).alloc (.cells #[] 79)) ([] ++ rG kR (.slice (some ⟨w8.heap.size + 1, 0, none⟩) 0 0) [] :: [rG kR (.slice (some ⟨w8.heap.size, 0, none⟩) 1 1) [⟨rt, ri, rx, ry, rs⟩], rG kR (.slice (some ⟨gr, 0, none⟩) (n - k) cr) (L.drop k), rG kR (.slice (some ⟨W.heap.size, 0, none⟩) 1 1) [⟨rt, ri, rx, ry, rs⟩]]) := by
          have := Sg.lit (Sg.lit hS8 kR [⟨rt, ri, rx, ry, rs⟩] 1 rfl (by decide) #[.int .i64 rt, .int .i64 ri, .int .i64 rx, .int .i64 ry, .string rs] rfl) kR [] 0 rfl (by decide) #[] rfl
          rw [World.size_alloc] at this; exact this
        have HRS : Hid (∀ W' rr, Sg W W' rr → rG kR (.slice (some ⟨gr, 0, none⟩) (n - k) cr) (L.drop k) ∈ rr → ∀ j u, (kR.flat (L.drop k))[j]? = some u → W'.cell? ((⟨gr, 0, none⟩ : Addr).add j) = some u) := fun W' rr h hm => cs_src (OwG.cs (h.mem (K := kR) hm))
        have f1 : True := trivial
        clear hS1 HSR
        go_region_law (first
          | (clear f1; refine step_sgapp0 appR (by rfl) _ _ (by rfl) (A := []) (B := L.take k) (m := k) hSa ((Below.refl _ _).drew) HTL.out (by rfl) ⟨g, 0, none⟩ c (by rfl) (HTK.out _ (hSa.step (Below.refl _ _).drew).bel) (oneRs _) (.inr (by simp)) (by omega) ?_; intro g1 c1 w4 hS4 _ _; have f2 : True := trivial; have mc2 := mc _ _ hS4 (by simp))
          | (clear f1; refine step_sgapp0 appR (by rfl) _ _ (by rfl) (A := [_]) (B := L.take k) (m := k) hSb ((Below.refl _ _).drew) HTL.out (by rfl) ⟨g, 0, none⟩ c (by rfl) (HTK.out _ (hSb.step (Below.refl _ _).drew).bel) (oneRs _) (.inr (by simp)) (by omega) ?_; intro g1 c1 w4 hS4 _ _; have f3 : True := trivial; have mc2 := mc _ _ hS4 (by simp))
          | (clear f1; refine step_sgapp0 appR (by rfl) _ _ (by rfl) (A := []) (B := L.take k) (m := k) hSc ((Below.refl _ _).drew) HTL.out (by rfl) ⟨g, 0, none⟩ c (by rfl) (HTK.out _ (hSc.step (Below.refl _ _).drew).bel) (oneRs _) (.inr (by simp)) (by omega) ?_; intro g1 c1 w4 hS4 _ _; have f4 : True := trivial; have mc2 := mc _ _ hS4 (by simp))
          | (clear f2; refine step_sgapp appR (by rfl) _ _ (by rfl) (A := []) (B := [⟨rt, ri, rx, ry, rs⟩]) (n := k) (m := 1) hS4 (below_alloc1 _ _) HTL.out rfl (by rfl) ⟨w4.heap.size, 0, none⟩ 1 (by rfl) (lit_src (xs := [.int .i64 rt, .int .i64 ri, .int .i64 rx, .int .i64 ry, .string rs]) rfl) (oneRs _) (.inl (by decide)) (by omega) ?_; intro g2 c2 w5 hS5 _ _; have f5 : True := trivial)
          | (clear f3; refine step_sgapp appR (by rfl) _ _ (by rfl) (A := [_]) (B := [⟨rt, ri, rx, ry, rs⟩]) (n := k) (m := 1) hS4 (Below.refl _ _) HTL.out rfl (by rfl) ⟨w8.heap.size + 1, 0, none⟩ 1 (by rfl) (cs_src (OwG.cs (hS4.mem (K := kR) (v := .slice (some ⟨w8.heap.size + 1, 0, none⟩) 1 1) (L := [⟨rt, ri, rx, ry, rs⟩]) (by simp)))) (oneRs _) (.inl (by decide)) (by omega) ?_; intro g2 c2 w5 hS5 _ _; have f5 : True := trivial)
          | (clear f4; refine step_sgapp appR (by rfl) _ _ (by rfl) (A := []) (B := [⟨rt, ri, rx, ry, rs⟩]) (n := k) (m := 1) hS4 (Below.refl _ _) HTL.out rfl (by rfl) ⟨w8.heap.size, 0, none⟩ 1 (by rfl) (cs_src (OwG.cs (hS4.mem (K := kR) (v := .slice (some ⟨w8.heap.size, 0, none⟩) 1 1) (L := [⟨rt, ri, rx, ry, rs⟩]) (by simp)))) (oneRs _) (.inl (by decide)) (by omega) ?_; intro g2 c2 w5 hS5 _ _; have f5 : True := trivial)
          | (clear f5; refine step_sgapp appR (by rfl) _ _ (by rfl) (A := []) (B := L.drop k) (n := k + 1) (m := (n - k)) hS5 (Below.refl _ _) (by rw [List.length_append, HTL.out]; rfl) HDL.out (by rfl) ⟨gr, 0, none⟩ cr (by rfl) (HRS.out _ _ hS5 (by simp)) (oneRs _) (.inr (by simp)) (by omega) ?_; intro g3 c3 w6 hS6 _ _)
          | (clear f5; refine step_sgapp appR (by rfl) _ _ (by rfl) (A := [_]) (B := L.drop k) (n := k + 1) (m := (n - k)) hS5 (Below.refl _ _) (by rw [List.length_append, HTL.out]; rfl) HDL.out (by rfl) ⟨gr, 0, none⟩ cr (by rfl) (HRS.out _ _ hS5 (by simp)) (oneRs _) (.inr (by simp)) (by omega) ?_; intro g3 c3 w6 hS6 _ _))
        all_goals
          simp only [List.getElem_toArray, List.getElem_cons_succ, List.getElem_cons_zero, Act.put, List.setIfInBounds_toArray, List.set_cons_succ, List.set_cons_zero]
          go_wp2
          go_ret2
          exact ⟨g3, k + 1 + (n - k), c3, by rw [HSW.out, HPK.out, List.length_append, List.length_append, HTL.out, HDL.out]; rfl, rfl, by rw [HSW.out, HPK.out]; exact hS6.sub (by simp)⟩
      · go_wp2
        refine wp_region_quiet (C := fun w' => Sg W w' [rG kR (.slice (some ⟨W.heap.size, 0, none⟩) 1 1) [⟨rt, ri, rx, ry, rs⟩]]) (by kernel_rfl) (by kernel_rfl) (hS.step (Below.refl _ _).drew) ?_
        refine q_intro (fun A hA => ?_)
        have hf : Fr 62 A [(0, .slice (some ⟨g, 0, none⟩) n c), (3, .pointer (some ⟨W.heap.size, 0, none⟩)), (7, .int .i64 (k : Int))] := by subst hA; exact ⟨rfl, by simp⟩
        refine q_step hf (d := 30) (v := .int .i64 (k : Int)) rfl rfl (by decide) (by simp) (fun w' hw' => ?_) (fun A hA30 hf => ?_)
        · have f7 := hf.get (d := 7) (v := .int .i64 (k : Int)) (by simp)
          clear hf
          simp [Oper.quietAt, Oper.quietUpon, go_sem, f7]
        refine q_step hf (d := 31) (v := .slice (some ⟨g, 0, none⟩) n c) rfl rfl (by decide) (by simp) (fun w' hw' => ?_) (fun A hA31 hf => ?_)
        · have f0 := hf.get (d := 0) (v := .slice (some ⟨g, 0, none⟩) n c) (by simp)
          clear hf
          simp [Oper.quietAt, Oper.quietUpon, go_sem, f0]
        refine q_step hf (d := 32) (v := .int .i64 (n : Int)) rfl rfl (by decide) (by simp) (fun w' hw' => ?_) (fun A hA32 hf => ?_)
        · have f31 := hf.get (d := 31) (v := .slice (some ⟨g, 0, none⟩) n c) (by simp)
          clear hf
          simp [Oper.quietAt, Oper.quietUpon, go_sem, f31]
        refine q_step hf (d := 33) (v := .bool true) rfl rfl (by decide) (by simp) (fun w' hw' => ?_) (fun A hA33 hf => ?_)
        · have f30 := hf.get (d := 30) (v := .int .i64 (k : Int)) (by simp)
          have f32 := hf.get (d := 32) (v := .int .i64 (n : Int)) (by simp)
          clear hf
          simp [Oper.quietAt, Oper.quietUpon, go_sem, f30, f32, hki]
        refine q_step hf (d := 34) (v := .bool true) rfl rfl (by decide) (by simp) (fun w' hw' => ?_) (fun A hA34 hf => ?_)
        · have f33 := hf.get (d := 33) (v := .bool true) (by simp)
          clear hf
          simp [Oper.quietAt, Oper.quietUpon, go_sem, f33]
        refine q_want hf (d := 35) (v := .slice (some ⟨g, 0, none⟩) n c) (e := 34) rfl rfl (by simp) rfl (by decide) (by simp) (fun w' hw' => ?_) (fun A hA35 hf => ?_)
        · have f0 := hf.get (d := 0) (v := .slice (some ⟨g, 0, none⟩) n c) (by simp)
          clear hf
          simp [Oper.quietAt, Oper.quietUpon, go_sem, f0]
        refine q_want hf (d := 36) (v := .int .i64 (k : Int)) (e := 34) rfl rfl (by simp) rfl (by decide) (by simp) (fun w' hw' => ?_) (fun A hA36 hf => ?_)
        · have f7 := hf.get (d := 7) (v := .int .i64 (k : Int)) (by simp)
          clear hf
          simp [Oper.quietAt, Oper.quietUpon, go_sem, f7]
        refine q_want hf (d := 37) (v := .pointer (some ⟨g, k * 5, none⟩)) (e := 34) rfl rfl (by simp) rfl (by decide) (by simp) (fun w' hw' => ?_) (fun A hA37 hf => ?_)
        · have f35 := hf.get (d := 35) (v := .slice (some ⟨g, 0, none⟩) n c) (by simp)
          have f36 := hf.get (d := 36) (v := .int .i64 (k : Int)) (by simp)
          clear hf
          simp [Oper.quietAt, Oper.quietUpon, go_sem, f35, f36, hki]
        refine q_want hf (d := 38) (v := .agg #[.int .i64 a.t, .int .i64 a.i, .int .i64 a.x, .int .i64 a.y, .string a.s]) (e := 34) rfl rfl (by simp) rfl (by decide) (by simp) (fun w' hw' => ?_) (fun A hA38 hf => ?_)
        · have hc := hS5 _ hw'
          have f37 := hf.get (d := 37) (v := .pointer (some ⟨g, k * 5, none⟩)) (by simp)
          clear hf
          simp [Oper.quietAt, Oper.quietUpon, go_sem, f37, hc]
        refine q_want hf (d := 39) (v := .pointer (some ⟨W.heap.size, 0, none⟩)) (e := 34) rfl rfl (by simp) rfl (by decide) (by simp) (fun w' hw' => ?_) (fun A hA39 hf => ?_)
        · have f3 := hf.get (d := 3) (v := .pointer (some ⟨W.heap.size, 0, none⟩)) (by simp)
          clear hf
          simp [Oper.quietAt, Oper.quietUpon, go_sem, f3]
        refine q_want hf (d := 40) (v := .int .i64 rt) (e := 34) rfl rfl (by simp) rfl (by decide) (by simp) (fun w' hw' => ?_) (fun A hA40 hf => ?_)
        · have hc := hS5 _ hw'
          have f39 := hf.get (d := 39) (v := .pointer (some ⟨W.heap.size, 0, none⟩)) (by simp)
          clear hf
          simp [Oper.quietAt, Oper.quietUpon, go_sem, f39, hc]
        refine q_want hf (d := 41) (v := .pointer (some ⟨W.heap.size, 1, none⟩)) (e := 34) rfl rfl (by simp) rfl (by decide) (by simp) (fun w' hw' => ?_) (fun A hA41 hf => ?_)
        · have f3 := hf.get (d := 3) (v := .pointer (some ⟨W.heap.size, 0, none⟩)) (by simp)
          clear hf
          simp [Oper.quietAt, Oper.quietUpon, go_sem, f3]
        refine q_want hf (d := 42) (v := .int .i64 ri) (e := 34) rfl rfl (by simp) rfl (by decide) (by simp) (fun w' hw' => ?_) (fun A hA42 hf => ?_)
        · have hc := hS5 _ hw'
          have f41 := hf.get (d := 41) (v := .pointer (some ⟨W.heap.size, 1, none⟩)) (by simp)
          clear hf
          simp [Oper.quietAt, Oper.quietUpon, go_sem, f41, hc]
        refine q_want hf (d := 43) (v := .bool true) (e := 34) rfl rfl (by simp) rfl (by decide) (by simp) (fun w' hw' => ?_) (fun A hA43 hf => ?_)
        · have f38 := hf.get (d := 38) (v := .agg #[.int .i64 a.t, .int .i64 a.i, .int .i64 a.x, .int .i64 a.y, .string a.s]) (by simp)
          have f40 := hf.get (d := 40) (v := .int .i64 rt) (by simp)
          have f42 := hf.get (d := 42) (v := .int .i64 ri) (by simp)
          clear hf
          simp [Oper.quietAt, Oper.quietUpon, go_sem, f38, f40, f42]
          exact (sLess_v (a := a) (b := ⟨rt, ri, rx, ry, rs⟩) hle _).mono (fun e w'' hq => ⟨hq.1, hw'.step hq.2⟩)
        refine q_step hf (d := 44) (v := .bool true) rfl rfl (by decide) (by simp) (fun w' hw' => ?_) (fun A hA44 hf => ?_)
        · have f34 := hf.get (d := 34) (v := .bool true) (by simp)
          have f43 := hf.get (d := 43) (v := .bool true) (by simp)
          clear hf
          simp [Oper.quietAt, Oper.quietUpon, go_sem, f34, f43]
        refine wpQuiet_nil (fun w' hw' => ?_)
        clear hf
        subst hA44 hA43 hA42 hA41 hA40 hA39 hA38 hA37 hA36 hA35 hA34 hA33 hA32 hA31 hA30 hA
        simp only [Act.put, List.setIfInBounds_toArray, List.set_cons_succ, List.set_cons_zero]
        go_wp2
        go_roundw
        case rel => exact ⟨k + 1, by omega, by go_num, fun j b hj hb => by
          by_cases e : j = k
          · subst e; rw [HGE.out] at hb; cases hb; exact hle
          · exact hall.out j b (by omega) hb, hw'⟩
        case measure => simp [intOf]; omega
    · obtain rfl : k = n := by omega
      have HPK : Hid (pos L ⟨rt, ri, rx, ry, rs⟩ = k) := (pos_uniq (by rw [HN.out]; omega) hall.out (fun b hb => by rw [List.getElem?_eq_none (by rw [HN.out]; omega)] at hb; cases hb)).symm
      go_wp2
      refine wp_region_quiet (C := fun w' => Sg W w' [rG kR (.slice (some ⟨W.heap.size, 0, none⟩) 1 1) [⟨rt, ri, rx, ry, rs⟩]]) (by kernel_rfl) (by kernel_rfl) (hS.step (Below.refl _ _).drew) ?_
      refine q_intro (fun A hA => ?_)
      have hf : Fr 62 A [(0, .slice (some ⟨g, 0, none⟩) k c), (3, .pointer (some ⟨W.heap.size, 0, none⟩)), (7, .int .i64 (k : Int))] := by subst hA; exact ⟨rfl, by simp⟩
      refine q_step hf (d := 30) (v := .int .i64 (k : Int)) rfl rfl (by decide) (by simp) (fun w' hw' => ?_) (fun A hA30 hf => ?_)
      · have f7 := hf.get (d := 7) (v := .int .i64 (k : Int)) (by simp)
        clear hf
        simp [Oper.quietAt, Oper.quietUpon, go_sem, f7]
      refine q_step hf (d := 31) (v := .slice (some ⟨g, 0, none⟩) k c) rfl rfl (by decide) (by simp) (fun w' hw' => ?_) (fun A hA31 hf => ?_)
      · have f0 := hf.get (d := 0) (v := .slice (some ⟨g, 0, none⟩) k c) (by simp)
        clear hf
        simp [Oper.quietAt, Oper.quietUpon, go_sem, f0]
      refine q_step hf (d := 32) (v := .int .i64 (k : Int)) rfl rfl (by decide) (by simp) (fun w' hw' => ?_) (fun A hA32 hf => ?_)
      · have f31 := hf.get (d := 31) (v := .slice (some ⟨g, 0, none⟩) k c) (by simp)
        clear hf
        simp [Oper.quietAt, Oper.quietUpon, go_sem, f31]
      refine q_step hf (d := 33) (v := .bool false) rfl rfl (by decide) (by simp) (fun w' hw' => ?_) (fun A hA33 hf => ?_)
      · have f30 := hf.get (d := 30) (v := .int .i64 (k : Int)) (by simp)
        have f32 := hf.get (d := 32) (v := .int .i64 (k : Int)) (by simp)
        clear hf
        simp [Oper.quietAt, Oper.quietUpon, go_sem, f30, f32]
      refine q_step hf (d := 34) (v := .bool false) rfl rfl (by decide) (by simp) (fun w' hw' => ?_) (fun A hA34 hf => ?_)
      · have f33 := hf.get (d := 33) (v := .bool false) (by simp)
        clear hf
        simp [Oper.quietAt, Oper.quietUpon, go_sem, f33]
      refine q_skip hf (d := 35) (e := 34) (b := false) rfl rfl (by simp) rfl rfl (by decide) (by simp) (fun A hA35 hf => ?_)
      refine q_skip hf (d := 36) (e := 34) (b := false) rfl rfl (by simp) rfl rfl (by decide) (by simp) (fun A hA36 hf => ?_)
      refine q_skip hf (d := 37) (e := 34) (b := false) rfl rfl (by simp) rfl rfl (by decide) (by simp) (fun A hA37 hf => ?_)
      refine q_skip hf (d := 38) (e := 34) (b := false) rfl rfl (by simp) rfl rfl (by decide) (by simp) (fun A hA38 hf => ?_)
      refine q_skip hf (d := 39) (e := 34) (b := false) rfl rfl (by simp) rfl rfl (by decide) (by simp) (fun A hA39 hf => ?_)
      refine q_skip hf (d := 40) (e := 34) (b := false) rfl rfl (by simp) rfl rfl (by decide) (by simp) (fun A hA40 hf => ?_)
      refine q_skip hf (d := 41) (e := 34) (b := false) rfl rfl (by simp) rfl rfl (by decide) (by simp) (fun A hA41 hf => ?_)
      refine q_skip hf (d := 42) (e := 34) (b := false) rfl rfl (by simp) rfl rfl (by decide) (by simp) (fun A hA42 hf => ?_)
      refine q_skip hf (d := 43) (e := 34) (b := false) rfl rfl (by simp) rfl rfl (by decide) (by simp) (fun A hA43 hf => ?_)
      refine q_step hf (d := 44) (v := .bool false) rfl rfl (by decide) (by simp) (fun w' hw' => ?_) (fun A hA44 hf => ?_)
      · have f34 := hf.get (d := 34) (v := .bool false) (by simp)
        clear hf
        simp [Oper.quietAt, Oper.quietUpon, go_sem, f34]
      refine wpQuiet_nil (fun w' hw' => ?_)
      clear hf
      subst hA44 hA43 hA42 hA41 hA40 hA39 hA38 hA37 hA36 hA35 hA34 hA33 hA32 hA31 hA30 hA
      simp only [Act.put, List.setIfInBounds_toArray, List.set_cons_succ, List.set_cons_zero]
      clear hS hall
      have hsub0 : k - k = 0 := by omega
      by_cases hck : c = k
      · subst hck
        have HE : Hid (L.drop c = []) := (List.drop_eq_nil_of_le (by rw [HN.out]; omega) : L.drop c = [])
        have hS1 : Sg W (w'.alloc (.cells #[] 79)) ([] ++ rG kR (.slice (some ⟨w'.heap.size, 0, none⟩) 0 0) [] :: [rG kR (.slice (some ⟨W.heap.size, 0, none⟩) 1 1) [⟨rt, ri, rx, ry, rs⟩]]) := hw'.lit kR [] 0 rfl (by decide) #[] rfl
        have HDL : Hid ((([] : List Rc)).length = 0) := (rfl : _ = 0)
        have HSR : Hid (∀ j u, (kR.flat (([] : List Rc)))[j]? = some u → (w'.alloc (.cells #[] 79)).cell? ((⟨g, 0, none⟩ : Addr).add j) = some u) := fun j u hj => by simp [Kd.flat] at hj
        have HTL : Hid ((L.take c).length = c) := (show _ = c by rw [List.length_take, HN.out]; omega)
        have HTK : Hid (∀ W', Below W.heap.size W W' → ∀ j u, (kR.flat (L.take c))[j]? = some u → W'.cell? ((⟨g, 0, none⟩ : Addr).add j) = some u) := fun W' h => cs_src ((HCC.out.step h).take c)
        go_wp2_with (at_builtin; refine wpList_sgapp0 appR rfl _ _ rfl (A := []) (B := ([] : List Rc)) (m := 0) hS1 (Below.refl _ _) HDL.out rfl ⟨g, 0, none⟩ (0) rfl HSR.out (oneRs _) (.inr (by simp)) (by omega) ?_; intro gr cr w8 hS8 _ _)
        simp only [List.nil_append] at hS8
        have mc : ∀ W' rr, Sg W W' rr → rG kR (.slice (some ⟨W.heap.size, 0, none⟩) 1 1) [⟨rt, ri, rx, ry, rs⟩] ∈ rr → (W'.cell? ⟨W.heap.size, 0, none⟩ = some (.int .i64 rt) ∧ W'.cell? ⟨W.heap.size, 1, none⟩ = some (.int .i64 ri) ∧ W'.cell? ⟨W.heap.size, 2, none⟩ = some (.int .i64 rx) ∧ W'.cell? ⟨W.heap.size, 3, none⟩ = some (.int .i64 ry) ∧ W'.cell? ⟨W.heap.size, 4, none⟩ = some (.string rs)) := fun W' rr h hm => box5 h hm
        have mc0 := mc _ _ hS8 (by simp)
        have mc1 := mc _ _ (hS8.step (below_alloc1 _ (.cells #[] 79)).drew) (by simp)
        have bne : ¬ W.heap.size = w8.heap.size := by have := hS8.bel.size; have := hS8.own (rG kR (.slice (some ⟨W.heap.size, 0, none⟩) 1 1) [⟨rt, ri, rx, ry, rs⟩]) (by simp); have := World.ownsRow.lt this W.heap.size rfl; omega
        have hSa : Sg W (w8.alloc (.cells #[] 79)) ([] ++ rG kR (.slice (some ⟨w8.heap.size, 0, none⟩) 0 0) [] :: [rG kR (.slice (some ⟨gr, 0, none⟩) 0 cr) (([] : List Rc)), rG kR (.slice (some ⟨W.heap.size, 0, none⟩) 1 1) [⟨rt, ri, rx, ry, rs⟩]]) := hS8.lit kR [] 0 rfl (by decide) #[] rfl
        have hSb : Sg W ((w8.alloc (.cells #[] 79)).alloc (.cells #[.int .i64 rt, .int .i64 ri, .int .i64 rx, .int .i64 ry, .string rs] 79)) ([rG kR (.slice (some ⟨w8.heap.size + 1, 0, none⟩) 1 1) [⟨rt, ri, rx, ry, rs⟩]] ++ rG kR (.slice (some ⟨w8.heap.size, 0, none⟩) 0 0) [] :: [rG kR (.slice (some ⟨gr, 0, none⟩) 0 cr) (([] : List Rc)), rG kR (.slice (some ⟨W.heap.size, 0, none⟩) 1 1) [⟨rt, ri, rx, ry, rs⟩]]) := by
          have := Sg.lit hSa kR [⟨rt, ri, rx, ry, rs⟩] 1 rfl (by decide) #[.int .i64 rt, .int .i64 ri, .int .i64 rx, .int .i64 ry, .string rs] rfl
          rw [World.size_alloc] at this; exact this
        have hSc : Sg W ((w8.alloc (.cells #[.int .i64 rt, .int .i64 ri, .int .i64 rx, .int .i64 ry, .string rs] 79)).alloc (.cells #[] 79)) ([] ++ rG kR (.slice (some ⟨w8.heap.size + 1, 0, none⟩) 0 0) [] :: [rG kR (.slice (some ⟨w8.heap.size, 0, none⟩) 1 1) [⟨rt, ri, rx, ry, rs⟩], rG kR (.slice (some ⟨gr, 0, none⟩) 0 cr) (([] : List Rc)), rG kR (.slice (some ⟨W.heap.size, 0, none⟩) 1 1) [⟨rt, ri, rx, ry, rs⟩]]) := by
          have := Sg.lit (Sg.lit hS8 kR [⟨rt, ri, rx, ry, rs⟩] 1 rfl (by decide) #[.int .i64 rt, .int .i64 ri, .int .i64 rx, .int .i64 ry, .string rs] rfl) kR [] 0 rfl (by decide) #[] rfl
          rw [World.size_alloc] at this; exact this
        have HRS : Hid (∀ W' rr, Sg W W' rr → rG kR (.slice (some ⟨gr, 0, none⟩) 0 cr) (([] : List Rc)) ∈ rr → ∀ j u, (kR.flat (([] : List Rc)))[j]? = some u → W'.cell? ((⟨gr, 0, none⟩ : Addr).add j) = some u) := fun W' rr h hm => cs_src (OwG.cs (h.mem (K := kR) hm))
        have f1 : True := trivial
        clear hS1 HSR
        go_region_law (first
          | (clear f1; refine step_sgapp0 appR (by rfl) _ _ (by rfl) (A := []) (B := L.take c) (m := c) hSa ((Below.refl _ _).drew) HTL.out (by rfl) ⟨g, 0, none⟩ c (by rfl) (HTK.out _ (hSa.step (Below.refl _ _).drew).bel) (oneRs _) (.inr (by simp)) (by omega) ?_; intro g1 c1 w4 hS4 _ _; have f2 : True := trivial; have mc2 := mc _ _ hS4 (by simp))
          | (clear f1; refine step_sgapp0 appR (by rfl) _ _ (by rfl) (A := [_]) (B := L.take c) (m := c) hSb ((Below.refl _ _).drew) HTL.out (by rfl) ⟨g, 0, none⟩ c (by rfl) (HTK.out _ (hSb.step (Below.refl _ _).drew).bel) (oneRs _) (.inr (by simp)) (by omega) ?_; intro g1 c1 w4 hS4 _ _; have f3 : True := trivial; have mc2 := mc _ _ hS4 (by simp))
          | (clear f1; refine step_sgapp0 appR (by rfl) _ _ (by rfl) (A := []) (B := L.take c) (m := c) hSc ((Below.refl _ _).drew) HTL.out (by rfl) ⟨g, 0, none⟩ c (by rfl) (HTK.out _ (hSc.step (Below.refl _ _).drew).bel) (oneRs _) (.inr (by simp)) (by omega) ?_; intro g1 c1 w4 hS4 _ _; have f4 : True := trivial; have mc2 := mc _ _ hS4 (by simp))
          | (clear f2; refine step_sgapp appR (by rfl) _ _ (by rfl) (A := []) (B := [⟨rt, ri, rx, ry, rs⟩]) (n := c) (m := 1) hS4 (below_alloc1 _ _) HTL.out rfl (by rfl) ⟨w4.heap.size, 0, none⟩ 1 (by rfl) (lit_src (xs := [.int .i64 rt, .int .i64 ri, .int .i64 rx, .int .i64 ry, .string rs]) rfl) (oneRs _) (.inl (by decide)) (by omega) ?_; intro g2 c2 w5 hS5 _ _; have f5 : True := trivial)
          | (clear f3; refine step_sgapp appR (by rfl) _ _ (by rfl) (A := [_]) (B := [⟨rt, ri, rx, ry, rs⟩]) (n := c) (m := 1) hS4 (Below.refl _ _) HTL.out rfl (by rfl) ⟨w8.heap.size + 1, 0, none⟩ 1 (by rfl) (cs_src (OwG.cs (hS4.mem (K := kR) (v := .slice (some ⟨w8.heap.size + 1, 0, none⟩) 1 1) (L := [⟨rt, ri, rx, ry, rs⟩]) (by simp)))) (oneRs _) (.inl (by decide)) (by omega) ?_; intro g2 c2 w5 hS5 _ _; have f5 : True := trivial)
          | (clear f4; refine step_sgapp appR (by rfl) _ _ (by rfl) (A := []) (B := [⟨rt, ri, rx, ry, rs⟩]) (n := c) (m := 1) hS4 (Below.refl _ _) HTL.out rfl (by rfl) ⟨w8.heap.size, 0, none⟩ 1 (by rfl) (cs_src (OwG.cs (hS4.mem (K := kR) (v := .slice (some ⟨w8.heap.size, 0, none⟩) 1 1) (L := [⟨rt, ri, rx, ry, rs⟩]) (by simp)))) (oneRs _) (.inl (by decide)) (by omega) ?_; intro g2 c2 w5 hS5 _ _; have f5 : True := trivial)
          | (clear f5; refine step_sgapp appR (by rfl) _ _ (by rfl) (A := []) (B := ([] : List Rc)) (n := c + 1) (m := 0) hS5 (Below.refl _ _) (by rw [List.length_append, HTL.out]; rfl) HDL.out (by rfl) ⟨gr, 0, none⟩ cr (by rfl) (HRS.out _ _ hS5 (by simp)) (oneRs _) (.inr (by simp)) (by omega) ?_; intro g3 c3 w6 hS6 _ _)
          | (clear f5; refine step_sgapp appR (by rfl) _ _ (by rfl) (A := [_]) (B := ([] : List Rc)) (n := c + 1) (m := 0) hS5 (Below.refl _ _) (by rw [List.length_append, HTL.out]; rfl) HDL.out (by rfl) ⟨gr, 0, none⟩ cr (by rfl) (HRS.out _ _ hS5 (by simp)) (oneRs _) (.inr (by simp)) (by omega) ?_; intro g3 c3 w6 hS6 _ _))
        all_goals
          simp only [List.getElem_toArray, List.getElem_cons_succ, List.getElem_cons_zero, Act.put, List.setIfInBounds_toArray, List.set_cons_succ, List.set_cons_zero]
          go_wp2
          go_ret2
          exact ⟨g3, c + 1 + 0, c3, by rw [HSW.out, HPK.out, HE.out, List.length_append, List.length_append, HTL.out]; rfl, rfl, by rw [HSW.out, HPK.out, HE.out]; exact hS6.sub (by simp)⟩
      · have hkc : k ≤ c := by omega
        have HE : Hid (L.drop k = []) := (List.drop_eq_nil_of_le (by rw [HN.out]; omega) : L.drop k = [])
        have hS1 : Sg W (w'.alloc (.cells #[] 79)) ([] ++ rG kR (.slice (some ⟨w'.heap.size, 0, none⟩) 0 0) [] :: [rG kR (.slice (some ⟨W.heap.size, 0, none⟩) 1 1) [⟨rt, ri, rx, ry, rs⟩]]) := hw'.lit kR [] 0 rfl (by decide) #[] rfl
        have HDL : Hid ((([] : List Rc)).length = 0) := (rfl : _ = 0)
        have HSR : Hid (∀ j u, (kR.flat (([] : List Rc)))[j]? = some u → (w'.alloc (.cells #[] 79)).cell? ((⟨g, k * 5, none⟩ : Addr).add j) = some u) := fun j u hj => by simp [Kd.flat] at hj
        have HTL : Hid ((L.take k).length = k) := (show _ = k by rw [List.length_take, HN.out]; omega)
        have HTK : Hid (∀ W', Below W.heap.size W W' → ∀ j u, (kR.flat (L.take k))[j]? = some u → W'.cell? ((⟨g, 0, none⟩ : Addr).add j) = some u) := fun W' h => cs_src ((HCC.out.step h).take k)
        go_wp2_with (at_builtin; refine wpList_sgapp0 appR rfl _ _ rfl (A := []) (B := ([] : List Rc)) (m := 0) hS1 (Below.refl _ _) HDL.out rfl ⟨g, k * 5, none⟩ (c - k) rfl HSR.out (oneRs _) (.inr (by simp)) (by omega) ?_; intro gr cr w8 hS8 _ _)
        simp only [List.nil_append] at hS8
        have mc : ∀ W' rr, Sg W W' rr → rG kR (.slice (some ⟨W.heap.size, 0, none⟩) 1 1) [⟨rt, ri, rx, ry, rs⟩] ∈ rr → (W'.cell? ⟨W.heap.size, 0, none⟩ = some (.int .i64 rt) ∧ W'.cell? ⟨W.heap.size, 1, none⟩ = some (.int .i64 ri) ∧ W'.cell? ⟨W.heap.size, 2, none⟩ = some (.int .i64 rx) ∧ W'.cell? ⟨W.heap.size, 3, none⟩ = some (.int .i64 ry) ∧ W'.cell? ⟨W.heap.size, 4, none⟩ = some (.string rs)) := fun W' rr h hm => box5 h hm
        have mc0 := mc _ _ hS8 (by simp)
        have mc1 := mc _ _ (hS8.step (below_alloc1 _ (.cells #[] 79)).drew) (by simp)
        have bne : ¬ W.heap.size = w8.heap.size := by have := hS8.bel.size; have := hS8.own (rG kR (.slice (some ⟨W.heap.size, 0, none⟩) 1 1) [⟨rt, ri, rx, ry, rs⟩]) (by simp); have := World.ownsRow.lt this W.heap.size rfl; omega
        have hSa : Sg W (w8.alloc (.cells #[] 79)) ([] ++ rG kR (.slice (some ⟨w8.heap.size, 0, none⟩) 0 0) [] :: [rG kR (.slice (some ⟨gr, 0, none⟩) 0 cr) (([] : List Rc)), rG kR (.slice (some ⟨W.heap.size, 0, none⟩) 1 1) [⟨rt, ri, rx, ry, rs⟩]]) := hS8.lit kR [] 0 rfl (by decide) #[] rfl
        have hSb : Sg W ((w8.alloc (.cells #[] 79)).alloc (.cells #[.int .i64 rt, .int .i64 ri, .int .i64 rx, .int .i64 ry, .string rs] 79)) ([rG kR (.slice (some ⟨w8.heap.size + 1, 0, none⟩) 1 1) [⟨rt, ri, rx, ry, rs⟩]] ++ rG kR (.slice (some ⟨w8.heap.size, 0, none⟩) 0 0) [] :: [rG kR (.slice (some ⟨gr, 0, none⟩) 0 cr) (([] : List Rc)), rG kR (.slice (some ⟨W.heap.size, 0, none⟩) 1 1) [⟨rt, ri, rx, ry, rs⟩]]) := by
          have := Sg.lit hSa kR [⟨rt, ri, rx, ry, rs⟩] 1 rfl (by decide) #[.int .i64 rt, .int .i64 ri, .int .i64 rx, .int .i64 ry, .string rs] rfl
          rw [World.size_alloc] at this; exact this
        have hSc : Sg W ((w8.alloc (.cells #[.int .i64 rt, .int .i64 ri, .int .i64 rx, .int .i64 ry, .string rs] 79)).alloc (.cells #[] 79)) ([] ++ rG kR (.slice (some ⟨w8.heap.size + 1, 0, none⟩) 0 0) [] :: [rG kR (.slice (some ⟨w8.heap.size, 0, none⟩) 1 1) [⟨rt, ri, rx, ry, rs⟩], rG kR (.slice (some ⟨gr, 0, none⟩) 0 cr) (([] : List Rc)), rG kR (.slice (some ⟨W.heap.size, 0, none⟩) 1 1) [⟨rt, ri, rx, ry, rs⟩]]) := by
          have := Sg.lit (Sg.lit hS8 kR [⟨rt, ri, rx, ry, rs⟩] 1 rfl (by decide) #[.int .i64 rt, .int .i64 ri, .int .i64 rx, .int .i64 ry, .string rs] rfl) kR [] 0 rfl (by decide) #[] rfl
          rw [World.size_alloc] at this; exact this
        have HRS : Hid (∀ W' rr, Sg W W' rr → rG kR (.slice (some ⟨gr, 0, none⟩) 0 cr) (([] : List Rc)) ∈ rr → ∀ j u, (kR.flat (([] : List Rc)))[j]? = some u → W'.cell? ((⟨gr, 0, none⟩ : Addr).add j) = some u) := fun W' rr h hm => cs_src (OwG.cs (h.mem (K := kR) hm))
        have f1 : True := trivial
        clear hS1 HSR
        go_region_law (first
          | (clear f1; refine step_sgapp0 appR (by rfl) _ _ (by rfl) (A := []) (B := L.take k) (m := k) hSa ((Below.refl _ _).drew) HTL.out (by rfl) ⟨g, 0, none⟩ c (by rfl) (HTK.out _ (hSa.step (Below.refl _ _).drew).bel) (oneRs _) (.inr (by simp)) (by omega) ?_; intro g1 c1 w4 hS4 _ _; have f2 : True := trivial; have mc2 := mc _ _ hS4 (by simp))
          | (clear f1; refine step_sgapp0 appR (by rfl) _ _ (by rfl) (A := [_]) (B := L.take k) (m := k) hSb ((Below.refl _ _).drew) HTL.out (by rfl) ⟨g, 0, none⟩ c (by rfl) (HTK.out _ (hSb.step (Below.refl _ _).drew).bel) (oneRs _) (.inr (by simp)) (by omega) ?_; intro g1 c1 w4 hS4 _ _; have f3 : True := trivial; have mc2 := mc _ _ hS4 (by simp))
          | (clear f1; refine step_sgapp0 appR (by rfl) _ _ (by rfl) (A := []) (B := L.take k) (m := k) hSc ((Below.refl _ _).drew) HTL.out (by rfl) ⟨g, 0, none⟩ c (by rfl) (HTK.out _ (hSc.step (Below.refl _ _).drew).bel) (oneRs _) (.inr (by simp)) (by omega) ?_; intro g1 c1 w4 hS4 _ _; have f4 : True := trivial; have mc2 := mc _ _ hS4 (by simp))
          | (clear f2; refine step_sgapp appR (by rfl) _ _ (by rfl) (A := []) (B := [⟨rt, ri, rx, ry, rs⟩]) (n := k) (m := 1) hS4 (below_alloc1 _ _) HTL.out rfl (by rfl) ⟨w4.heap.size, 0, none⟩ 1 (by rfl) (lit_src (xs := [.int .i64 rt, .int .i64 ri, .int .i64 rx, .int .i64 ry, .string rs]) rfl) (oneRs _) (.inl (by decide)) (by omega) ?_; intro g2 c2 w5 hS5 _ _; have f5 : True := trivial)
          | (clear f3; refine step_sgapp appR (by rfl) _ _ (by rfl) (A := [_]) (B := [⟨rt, ri, rx, ry, rs⟩]) (n := k) (m := 1) hS4 (Below.refl _ _) HTL.out rfl (by rfl) ⟨w8.heap.size + 1, 0, none⟩ 1 (by rfl) (cs_src (OwG.cs (hS4.mem (K := kR) (v := .slice (some ⟨w8.heap.size + 1, 0, none⟩) 1 1) (L := [⟨rt, ri, rx, ry, rs⟩]) (by simp)))) (oneRs _) (.inl (by decide)) (by omega) ?_; intro g2 c2 w5 hS5 _ _; have f5 : True := trivial)
          | (clear f4; refine step_sgapp appR (by rfl) _ _ (by rfl) (A := []) (B := [⟨rt, ri, rx, ry, rs⟩]) (n := k) (m := 1) hS4 (Below.refl _ _) HTL.out rfl (by rfl) ⟨w8.heap.size, 0, none⟩ 1 (by rfl) (cs_src (OwG.cs (hS4.mem (K := kR) (v := .slice (some ⟨w8.heap.size, 0, none⟩) 1 1) (L := [⟨rt, ri, rx, ry, rs⟩]) (by simp)))) (oneRs _) (.inl (by decide)) (by omega) ?_; intro g2 c2 w5 hS5 _ _; have f5 : True := trivial)
          | (clear f5; refine step_sgapp appR (by rfl) _ _ (by rfl) (A := []) (B := ([] : List Rc)) (n := k + 1) (m := 0) hS5 (Below.refl _ _) (by rw [List.length_append, HTL.out]; rfl) HDL.out (by rfl) ⟨gr, 0, none⟩ cr (by rfl) (HRS.out _ _ hS5 (by simp)) (oneRs _) (.inr (by simp)) (by omega) ?_; intro g3 c3 w6 hS6 _ _)
          | (clear f5; refine step_sgapp appR (by rfl) _ _ (by rfl) (A := [_]) (B := ([] : List Rc)) (n := k + 1) (m := 0) hS5 (Below.refl _ _) (by rw [List.length_append, HTL.out]; rfl) HDL.out (by rfl) ⟨gr, 0, none⟩ cr (by rfl) (HRS.out _ _ hS5 (by simp)) (oneRs _) (.inr (by simp)) (by omega) ?_; intro g3 c3 w6 hS6 _ _))
        all_goals
          simp only [List.getElem_toArray, List.getElem_cons_succ, List.getElem_cons_zero, Act.put, List.setIfInBounds_toArray, List.set_cons_succ, List.set_cons_zero]
          go_wp2
          go_ret2
          exact ⟨g3, k + 1 + 0, c3, by rw [HSW.out, HPK.out, HE.out, List.length_append, List.length_append, HTL.out]; rfl, rfl, by rw [HSW.out, HPK.out, HE.out]; exact hS6.sub (by simp)⟩
end Go.Proofs.YtbkiogedipmioaaGreat.V.U
