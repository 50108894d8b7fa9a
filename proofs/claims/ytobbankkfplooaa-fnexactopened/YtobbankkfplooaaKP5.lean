/-
  Whether a Deal is right: the program's look, its parts put together.
-/
import Derived.Test.YtobbankkfplooaaKP4
namespace Go.Proofs.Ytobbankkfplooaa.K.G
open Go.Shelf Go.RowKit Go.Joins Y
attribute [local go_sem] Oper.semAt_some

set_option maxHeartbeats 2000000 in
theorem hasParts_v {h : Gv} {QL : List YQ} {v : Bool} (hv : partsB h.t h.q (yds QL) h.y.n = v) (w : World) (hY : RdY w h.y.p QL) (hn : QL.length = h.y.n) (hsm : ∀ y ∈ QL, y.2.n ≤ 10000000) :
    Calls Try.prog 26 #[h.v] w fun e w' => e = .returned (.bool v) ∧ Below w.heap.size w w' := by
  have HA := Lib.hid (fun W (hb : Below w.heap.size w W) (h4 : h.y.n ≤ 4) v hv => areB_any h QL h.y.p h.y.c h.y.n hn (by omega) hsm W (hY.step hb) (fb := v) hv)
  unfold partsB at hv
  generalize (yds QL).all (partB h.t h.q) = b0 at hv HA
  clear hY hn hsm
  obtain ⟨t, q, ⟨yp, yn, yc⟩, ⟨op, on, oc⟩, ⟨up, un, uc⟩, s⟩ := h
  simp only at HA hv
  have hlit := (Sg.nil w).lit kG [⟨t, q, ⟨yp, yn, yc⟩, ⟨op, on, oc⟩, ⟨up, un, uc⟩, s⟩] 1 rfl (by decide) #[.int .i64 t, .int .i64 q, .slice yp yn yc, .slice op on oc, .slice up un uc, .int .i64 s] rfl
  change Sg w (w.alloc (.cells #[.int .i64 t, .int .i64 q, .slice yp yn yc, .slice op on oc, .slice up un uc, .int .i64 s] 30)) _ at hlit
  by_cases h1 : 1 ≤ yn
  case neg =>
    rw [decide_eq_false h1, Bool.false_and] at hv
    subst hv
    have h1' : ¬ (1 : Int) ≤ yn := by omega
    go_enter Try.func26, Try.ntmps26
    go_wp2
    go_ret
    exact ⟨rfl, hlit.bel⟩
  have h1' : (1 : Int) ≤ yn := by omega
  rw [decide_eq_true h1, Bool.true_and] at hv
  by_cases h4 : yn ≤ 4
  case neg =>
    rw [decide_eq_false h4, Bool.false_and] at hv
    subst hv
    have h4' : ¬ (yn : Int) ≤ 4 := by omega
    go_enter Try.func26, Try.ntmps26
    go_wp2
    go_ret
    exact ⟨rfl, hlit.bel⟩
  have h4' : (yn : Int) ≤ 4 := by omega
  rw [decide_eq_true h4, Bool.true_and] at hv
  subst hv
  go_enter Try.func26, Try.ntmps26
  go_wp2_with (go_at_call 41; refine (HA.out _ hlit.bel h4 _ rfl).mono ?_; rintro e w1 ⟨rfl, hb1⟩)
  go_ret
  exact ⟨rfl, (hlit.step hb1).bel⟩
set_option maxHeartbeats 2000000 in
theorem hasShards_v {h : Gv} {O : List Int} {v : Bool} (hv : shardsB h.y.n h.o.n O = v) (w : World) (hO : SlG kI w h.o.p O) (hn : O.length = h.o.n) (hy : h.y.n ≤ 4) :
    Calls Try.prog 27 #[h.v] w fun e w' => e = .returned (.bool v) ∧ Below w.heap.size w w' := by
  have HA := Lib.hid (fun W (hb : Below w.heap.size w W) (h4 : h.o.n ≤ 4) v hv => areS_any h.o.p h.o.c O h.o.n hn W (hO.step hb) (by omega) (fb := v) hv)
  have HR := Lib.hid (fun W (hb : Below w.heap.size w W) (h4 : h.o.n ≤ 4) v hv => risesN_any h.o.p h.o.c O h.o.n hn W (hO.step hb) (by omega) (fb := v) hv)
  unfold shardsB at hv
  generalize O.all shN = b0 at hv HA
  generalize riseN O = b1 at hv HR
  clear hO hn
  obtain ⟨t, q, ⟨yp, yn, yc⟩, ⟨op, on, oc⟩, ⟨up, un, uc⟩, s⟩ := h
  simp only at HA HR hv hy
  have hlit := (Sg.nil w).lit kG [⟨t, q, ⟨yp, yn, yc⟩, ⟨op, on, oc⟩, ⟨up, un, uc⟩, s⟩] 1 rfl (by decide) #[.int .i64 t, .int .i64 q, .slice yp yn yc, .slice op on oc, .slice up un uc, .int .i64 s] rfl
  change Sg w (w.alloc (.cells #[.int .i64 t, .int .i64 q, .slice yp yn yc, .slice op on oc, .slice up un uc, .int .i64 s] 30)) _ at hlit
  by_cases h1 : on = yn
  case neg =>
    rw [decide_eq_false h1, Bool.false_and] at hv
    subst hv
    have h1' : ((on : Int) == yn) = false := by simp; omega
    go_enter Try.func27, Try.ntmps27
    go_wp2
    go_ret
    exact ⟨rfl, hlit.bel⟩
  subst h1
  rw [decide_eq_true rfl, Bool.true_and] at hv
  have h1' : ((on : Int) == on) = true := by simp
  cases b0
  · rw [Bool.false_and] at hv
    subst hv
    go_enter Try.func27, Try.ntmps27
    go_wp2_with (go_at_call 43; refine (HA.out _ hlit.bel hy _ rfl).mono ?_; rintro e w1 ⟨rfl, hw1⟩; obtain rfl := hw1.symm)
    go_ret
    exact ⟨rfl, hlit.bel⟩
  · rw [Bool.true_and] at hv
    subst hv
    go_enter Try.func27, Try.ntmps27
    go_wp2_with (first
      | (go_at_call 43; refine (HA.out _ hlit.bel hy _ rfl).mono ?_; rintro e w1 ⟨rfl, hw1⟩; obtain rfl := hw1.symm)
      | (go_at_call 45; refine (HR.out _ hlit.bel hy _ rfl).mono ?_; rintro e w2 ⟨rfl, hb2⟩))
    go_ret
    exact ⟨rfl, (hlit.step hb2).bel⟩
set_option maxHeartbeats 2000000 in
theorem hasVotes_v {h : Gv} {V : List Int} {v : Bool} (hv : votesB h.y.n h.u.n V = v) (w : World) (hU : SlG kI w h.u.p V) (hn : V.length = h.u.n) (hy : h.y.n ≤ 4) :
    Calls Try.prog 28 #[h.v] w fun e w' => e = .returned (.bool v) ∧ Below w.heap.size w w' := by
  have HA := Lib.hid (fun W (hb : Below w.heap.size w W) (h4 : h.u.n ≤ 4) v hv => areU_any h.u.p h.u.c V h.u.n hn W (hU.step hb) (by omega) (fb := v) hv)
  unfold votesB at hv
  generalize V.all voN = b0 at hv HA
  clear hU hn
  obtain ⟨t, q, ⟨yp, yn, yc⟩, ⟨op, on, oc⟩, ⟨up, un, uc⟩, s⟩ := h
  simp only at HA hv hy
  have hlit := (Sg.nil w).lit kG [⟨t, q, ⟨yp, yn, yc⟩, ⟨op, on, oc⟩, ⟨up, un, uc⟩, s⟩] 1 rfl (by decide) #[.int .i64 t, .int .i64 q, .slice yp yn yc, .slice op on oc, .slice up un uc, .int .i64 s] rfl
  change Sg w (w.alloc (.cells #[.int .i64 t, .int .i64 q, .slice yp yn yc, .slice op on oc, .slice up un uc, .int .i64 s] 30)) _ at hlit
  by_cases h1 : un = yn
  case neg =>
    rw [decide_eq_false h1, Bool.false_and] at hv
    subst hv
    have h1' : ((un : Int) == yn) = false := by simp; omega
    go_enter Try.func28, Try.ntmps28
    go_wp2
    go_ret
    exact ⟨rfl, hlit.bel⟩
  subst h1
  rw [decide_eq_true rfl, Bool.true_and] at hv
  subst hv
  have h1' : ((un : Int) == un) = true := by simp
  go_enter Try.func28, Try.ntmps28
  go_wp2_with (go_at_call 43; refine (HA.out _ hlit.bel hy _ rfl).mono ?_; rintro e w1 ⟨rfl, hw1⟩; obtain rfl := hw1.symm)
  go_ret
  exact ⟨rfl, hlit.bel⟩
set_option maxHeartbeats 2000000 in
theorem allYes_any (h : Gv) (w : World) (h1 : 1 ≤ h.y.n) (h4 : h.y.n ≤ 4) :
    Calls Try.prog 31 #[h.v] w fun e w' => e = .returned (q4 (List.replicate h.y.n 1)).v ∧ Below w.heap.size w w' := by
  obtain ⟨t, q, ⟨yp, yn, yc⟩, ⟨op, on, oc⟩, ⟨up, un, uc⟩, s⟩ := h
  simp only at h1 h4 ⊢
  have hlit := (Sg.nil w).lit kG [⟨t, q, ⟨yp, yn, yc⟩, ⟨op, on, oc⟩, ⟨up, un, uc⟩, s⟩] 1 rfl (by decide) #[.int .i64 t, .int .i64 q, .slice yp yn yc, .slice op on oc, .slice up un uc, .int .i64 s] rfl
  change Sg w (w.alloc (.cells #[.int .i64 t, .int .i64 q, .slice yp yn yc, .slice op on oc, .slice up un uc, .int .i64 s] 30)) _ at hlit
  have hS1 := hlit.lit kV [q0] 1 rfl (by decide) #[.int .i64 0, .int .i64 0, .int .i64 0, .int .i64 0] rfl
  have hS2 := hS1.lit kI [1] 1 rfl (by decide) #[.int .i64 1] rfl
  change Sg w (((w.alloc (.cells #[.int .i64 t, .int .i64 q, .slice yp yn yc, .slice op on oc, .slice up un uc, .int .i64 s] 30)).alloc (.cells #[.int .i64 0, .int .i64 0, .int .i64 0, .int .i64 0] 54)).alloc (.cells #[.int .i64 1] 2)) _ at hS2
  simp only [World.size_alloc] at hS2
  have hc := (OwG.cs (K := kI) (hS2.mem (List.mem_cons_self ..))).int (k := 0) (n := 1) rfl
  have hg := (OwG.cs (K := kI) (hS2.mem (List.mem_cons_self ..))).1
  have HR := Lib.hid (repeat_any (w.heap.size + 1 + 1) yn _ hg hc h1 (by omega))
  clear hlit hS1
  go_enter Try.func31, Try.ntmps31
  go_wp2_with (first
    | (go_at_call 49; refine HR.out.mono ?_; rintro e w1 ⟨g', rfl, hw1⟩; have hS3 := hS2.addL hw1; have hV := OwG.sl (K := kI) (hw1.mem (List.mem_cons_self ..)))
    | (go_at_call 48; refine (votingOf_any _ (by simp) h4 _ hV).mono ?_; rintro e w2 ⟨rfl, hb2⟩; have hS4 := hS3.step hb2; obtain ⟨b0, b1, b2, b3, bf, bg⟩ := v4 hS4 (g := w.heap.size + 1) (n := 1) (q := q0) (by simp)))
  have hS5 := Sg.setV (A := [rG kI (.slice (some ⟨g', 0, none⟩) yn yn) (List.replicate yn 1), rG kI (.slice (some ⟨w.heap.size + 1 + 1, 0, none⟩) 1 1) [1]]) (g := w.heap.size + 1) (n := 1) (a := q0) hS4 (q4 (List.replicate yn 1))
  generalize q4 (List.replicate yn 1) = q at hS5 ⊢
  refine bodyPost_ret (v := .agg #[.int .i64 q.a, .int .i64 q.b, .int .i64 q.c, .int .i64 q.d]) (by simp [results, Try.results31, go_sem, b0, b1, b2, b3]) rfl ⟨rfl, hS5.bel⟩
set_option maxHeartbeats 4000000 in
theorem standing_any (h : Gv) (V : List Int) (w : World) (hU : SlG kI w h.u.p V) (hn : V.length = h.u.n) (h4 : h.u.n ≤ 4) :
    Calls Try.prog 29 #[h.v] w fun e w' => e = .returned (Sd.mk (q4 V) h.s).v ∧ Below w.heap.size w w' := by
  have HV := Lib.hid (fun W (hb : Below w.heap.size w W) => votingOf_any (c := h.u.c) h.u.p hn h4 W (hU.step hb))
  clear hU hn h4
  obtain ⟨t, q, ⟨yp, yn, yc⟩, ⟨op, on, oc⟩, ⟨up, un, uc⟩, s⟩ := h
  simp only at HV ⊢
  generalize q4 V = qq at HV ⊢
  have hS0 := ((Sg.nil w).lit kG [⟨t, q, ⟨yp, yn, yc⟩, ⟨op, on, oc⟩, ⟨up, un, uc⟩, s⟩] 1 rfl (by decide) #[.int .i64 t, .int .i64 q, .slice yp yn yc, .slice op on oc, .slice up un uc, .int .i64 s] rfl).lit kD [⟨q0, 0⟩] 1 rfl (by decide) #[.int .i64 0, .int .i64 0, .int .i64 0, .int .i64 0, .int .i64 0] rfl
  change Sg w ((w.alloc (.cells #[.int .i64 t, .int .i64 q, .slice yp yn yc, .slice op on oc, .slice up un uc, .int .i64 s] 30)).alloc (.cells #[.int .i64 0, .int .i64 0, .int .i64 0, .int .i64 0, .int .i64 0] 56)) _ at hS0
  rw [World.size_alloc] at hS0
  have HE := Lib.hid (fun W (hS : Sg w W [rG kD (.slice (some ⟨w.heap.size + 1, 0, none⟩) 1 1) [⟨q0, 0⟩], rG kG (.slice (some ⟨w.heap.size, 0, none⟩) 1 1) [⟨t, q, ⟨yp, yn, yc⟩, ⟨op, on, oc⟩, ⟨up, un, uc⟩, s⟩]]) => (⟨g6 hS (K := kG) (g := w.heap.size) (n := 1) (q := ⟨t, q, ⟨yp, yn, yc⟩, ⟨op, on, oc⟩, ⟨up, un, uc⟩, s⟩) (by simp) rfl, d5 hS (g := w.heap.size + 1) (n := 1) (q := ⟨q0, 0⟩) (by simp)⟩ : _ ∧ _))
  simp only at HE
  have hS0d := hS0.step (Below.refl _ _).drew
  go_enter Try.func29, Try.ntmps29
  go_wp2
  go_region_with ((go_at_call 48; refine (HV.out _ hS0d.bel).mono ?_; rintro e w2 ⟨rfl, hb2⟩; have hS1 := hS0d.step hb2; obtain ⟨⟨y0, y1, y2, y3, y4, y5, yf, yg⟩, ⟨b0, b1, b2, b3, b4, bf, bg⟩⟩ := HE.out _ hS1))
  all_goals
    have hS2 := Sg.setD (A := []) (g := w.heap.size + 1) (n := 1) (a := ⟨q0, 0⟩) hS1 ⟨qq, s⟩
    go_wp2
    refine bodyPost_ret (v := .agg #[.int .i64 qq.a, .int .i64 qq.b, .int .i64 qq.c, .int .i64 qq.d, .int .i64 s]) (by simp [results, Try.results29, go_sem, b0, b1, b2, b3, b4]) rfl ⟨rfl, hS2.bel⟩
end Go.Proofs.Ytobbankkfplooaa.K.G
