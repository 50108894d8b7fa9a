/-
  A decision, the specification's.
-/
import Derived.Test.YtobbankkfplooaaGreatKP11
namespace Go.Proofs.YtobbankkfplooaaGreat.K.G
open Go.Shelf Go.RowKit Go.Joins Y
attribute [local go_sem] Oper.semAt_some

theorem Sg.setI {w W : World} {A Bs : List Rw} {g n c : Nat} {V : List Int} (h : Sg w W (A ++ rG kI (.slice (some ⟨g, 0, none⟩) n c) V :: Bs)) (hn : V.length = n) (m : Nat) (z : Int) : Sg w (W.setCell ⟨g, m, none⟩ (.int .i64 z)) (A ++ rG kI (.slice (some ⟨g, 0, none⟩) n c) (V.set m z) :: Bs) := by
  rw [rowI hn] at h
  rw [rowI (by simpa using hn)]
  have := Sg.setRaw h m (.int .i64 z)
  have e : kI.flat (V.set m z) = (kI.flat V).set m (.int .i64 z) := by rw [flatI0, flatI0, List.map_set]; rfl
  rw [e]; exact this
set_option maxHeartbeats 1000000 in
theorem sAt_any (h : Gv) (O : List Int) (x : Int) (w : World) (hO : SlG kI w h.o.p O) (hn : O.length = h.o.n) (hb0 : h.o.n ≤ 1000) {k0 : Int} (hk : atN O x 0 = k0) :
    Calls Tryz.prog 71 #[h.v, .int .i64 x] w fun e w' => e = .returned (.int .i64 k0) ∧ Below w.heap.size w w' := by
  have HH : Hid (SlG kI w h.o.p O ∧ O.length = h.o.n ∧ atN O x 0 = k0) := ⟨hO, hn, hk⟩
  clear hO hn hk
  obtain ⟨t, q, ⟨yp, yn, yc⟩, ⟨op, on, oc⟩, ⟨up, un, uc⟩, s⟩ := h
  simp only at HH hb0
  have hlit := (Sg.nil w).lit kG [⟨t, q, ⟨yp, yn, yc⟩, ⟨op, on, oc⟩, ⟨up, un, uc⟩, s⟩] 1 rfl (by decide) #[.int .i64 t, .int .i64 q, .slice yp yn yc, .slice op on oc, .slice up un uc, .int .i64 s] rfl
  change Sg w (w.alloc (.cells #[.int .i64 t, .int .i64 q, .slice yp yn yc, .slice op on oc, .slice up un uc, .int .i64 s] 27)) _ at hlit
  have HC := Lib.hid (fun W (hb : Sg w W [rG kG (.slice (some ⟨w.heap.size, 0, none⟩) 1 1) [⟨t, q, ⟨yp, yn, yc⟩, ⟨op, on, oc⟩, ⟨up, un, uc⟩, s⟩]]) => g6 hb (K := kG) (g := w.heap.size) (n := 1) (q := ⟨t, q, ⟨yp, yn, yc⟩, ⟨op, on, oc⟩, ⟨up, un, uc⟩, s⟩) (by simp) rfl)
  simp only at HC
  go_enter Tryz.func71, Tryz.ntmps71
  go_wp2
  go_loopw [5] (fun i wr => ∃ k : Nat, k ≤ on ∧ i = .int .i64 k ∧ Hid (∀ (j : Nat) a, j < k → O[j]? = some a → a ≠ x) ∧ Sg w wr [rG kG (.slice (some ⟨w.heap.size, 0, none⟩) 1 1) [⟨t, q, ⟨yp, yn, yc⟩, ⟨op, on, oc⟩, ⟨up, un, uc⟩, s⟩]]) (fun i _ => on - (intOf i).toNat)
  case atStart => exact ⟨0, by omega, rfl, fun j a hj => by omega, hlit⟩
  case round =>
    clear hlit
    obtain ⟨k, hk, rfl, hall, hS⟩ := hrel
    obtain ⟨y0, y1, y2, y3, y4, y5, _, _⟩ := HC.out _ hS
    by_cases hlt : k < on
    · have hki : (k : Int) < on := by omega
      have hkL : k < O.length := by rw [HH.out.2.1]; exact hlt
      obtain ⟨g, off, rfl, hC⟩ := (HH.out.1.step hS.bel).at hkL
      have hg := List.getElem?_eq_getElem hkL
      generalize O[k] = r at hg
      have c0 := hC.int hg
      have HG := Lib.hid hg
      clear hC hg
      by_cases hr : r = x
      · subst hr
        have HE : Hid ((k : Int) = k0) := by
          show (k : Int) = k0
          rw [← HH.out.2.2, atN_some hall.out HG.out]; omega
        go_wp2
        go_ret
        exact ⟨ret_i64 HE.out, hS.bel⟩
      · have hr' : (r == x) = false := by simpa using hr
        go_wp2
        go_roundw
        case rel => exact ⟨k + 1, by omega, by go_num, Lib.hid fun j a hj ha => by
          by_cases e : j = k
          · subst e; rw [HG.out] at ha; cases ha; exact hr
          · exact hall.out j a (by omega) ha, hS⟩
        case measure => simp [intOf]; omega
    · obtain rfl : k = on := by omega
      have HE : Hid (-1 = k0) := by
        show -1 = k0
        rw [← HH.out.2.2, atN_none fun a ha => ?_]
        obtain ⟨j, hj, e⟩ := List.getElem_of_mem ha
        exact hall.out j a (by have := HH.out.2.1; omega) (by rw [← e]; exact List.getElem?_eq_getElem hj)
      go_wp2
      go_ret
      exact ⟨ret_i64 HE.out, hS.bel⟩
theorem zero_one {V : List Int} {m : Nat} {a b : Int} : (V.set m a).set m b = V.set m b := by rw [List.set_set]
set_option maxRecDepth 100000 in
set_option maxHeartbeats 2000000 in
theorem sVote_any (h : Gv) (QL : List YQ) (O V : List Int) (x : Int) (yes : Bool) (w W : World) (g : Nat) (hS : Sg w W (rG kG (.slice (some ⟨g, 0, none⟩) 1 1) [h] :: gR h QL O V)) (hn : 1 ≤ h.u.n ∧ h.u.n ≤ 4) (hon : h.o.n = h.u.n) {r : Dd × Bool} (hr : votedD ⟨h.t, h.q, yds QL, O, V, h.s⟩ x yes = r) :
    Calls Tryz.prog 41 #[.pointer (some ⟨g, 0, none⟩), .int .i64 x, .bool yes] W fun e w' => e = .returned (.bool r.2) ∧ Sg w w' (rG kG (.slice (some ⟨g, 0, none⟩) 1 1) [h] :: gR h QL O r.1.V) := by
  have ho := hS.mem (K := kI) (v := .slice h.o.p h.o.n h.o.c) (L := O) (by simp [gR])
  have hu := hS.mem (K := kI) (v := .slice h.u.p h.u.n h.u.c) (L := V) (by simp [gR])
  have hol := OwG.len ho
  have hul := OwG.len hu
  obtain ⟨gu, hgu⟩ := own_some hu (by omega)
  have hat := atN_bd (L := O) (x := x) (k := 0) (by decide)
  obtain ⟨k0, hk0⟩ : ∃ k, atN O x 0 = k := ⟨_, rfl⟩
  have HA := Lib.hid (fun W' (hb : Below W.heap.size W W') => sAt_any h O x W' (OwG.sl ho |>.step hb) hol.symm (by omega) hk0)
  rw [hk0] at hat
  unfold votedD at hr
  simp only [hk0] at hr
  have hcs := OwG.cs (hgu ▸ hu)
  have hfz := OwG.fz (hgu ▸ hu)
  have hbnd : k0 = -1 ∨ (0 ≤ k0 ∧ k0 < h.u.n) := by omega
  have HS := Lib.hid hS
  have HV0 : Hid (V.length = h.u.n) := hul.symm
  clear hat hk0 ho hu hol hS
  obtain ⟨t, q, ⟨yp, yn, yc⟩, ⟨op, on, oc⟩, ⟨up, un, uc⟩, s⟩ := h
  simp only at hgu HA hr hbnd hn hon HS HV0 hcs hfz ⊢
  have hon := hon.symm
  subst hgu hon
  obtain ⟨x0, x1, x2, x3, x4, x5, xf, xg⟩ := g6 HS.out (K := kG) (g := g) (n := 1) (q := ⟨t, q, ⟨yp, yn, yc⟩, ⟨op, un, oc⟩, ⟨some ⟨gu, 0, none⟩, un, uc⟩, s⟩) (by simp) rfl; simp only at x0 x1 x2 x3 x4 x5
  clear hcs hfz
  by_cases h1 : s = 0
  case neg =>
    rw [if_neg (fun h => h1 h.1)] at hr
    subst hr
    have h1' : (s != 0) = true := by simpa using h1
    go_enter Tryz.func41, Tryz.ntmps41
    go_wp2_with (go_at_call 71; refine (HA.out _ (Below.refl _ _)).mono ?_; rintro e w1 ⟨rfl, hb1⟩; have hS1 := HS.out.step hb1; obtain ⟨y0, y1, y2, y3, y4, y5, yf, yg⟩ := g6 hS1 (K := kG) (g := g) (n := 1) (q := ⟨t, q, ⟨yp, yn, yc⟩, ⟨op, un, oc⟩, ⟨some ⟨gu, 0, none⟩, un, uc⟩, s⟩) (by simp) rfl; simp only at y0 y1 y2 y3 y4 y5)
    go_ret
    exact ⟨rfl, hS1⟩
  subst h1
  rcases hbnd with rfl | ⟨hk0, hk1⟩
  · rw [if_neg (fun h => by omega)] at hr
    subst hr
    go_enter Tryz.func41, Tryz.ntmps41
    go_wp2_with (go_at_call 71; refine (HA.out _ (Below.refl _ _)).mono ?_; rintro e w1 ⟨rfl, hb1⟩; have hS1 := HS.out.step hb1; obtain ⟨y0, y1, y2, y3, y4, y5, yf, yg⟩ := g6 hS1 (K := kG) (g := g) (n := 1) (q := ⟨t, q, ⟨yp, yn, yc⟩, ⟨op, un, oc⟩, ⟨some ⟨gu, 0, none⟩, un, uc⟩, 0⟩) (by simp) rfl; simp only at y0 y1 y2 y3 y4 y5)
    go_ret
    exact ⟨rfl, hS1⟩
  obtain ⟨m, rfl⟩ : ∃ m : Nat, k0 = m := ⟨k0.toNat, by omega⟩
  have hm : m < V.length := by rw [HV0.out]; omega
  have hmi : (m : Int) < un := hk1
  have hg := List.getElem?_eq_getElem hm
  have hd : V.getD ((m : Int)).toNat 0 = V[m] := by rw [Int.toNat_natCast, List.getD_eq_getElem?_getD, hg]; rfl
  rw [hd, Int.toNat_natCast] at hr
  generalize V[m] = x1v at hg hr
  have HG := Lib.hid hg
  clear hg hd
  by_cases h2 : x1v = 0
  case neg =>
    rw [if_neg (fun h => h2 h.2.2)] at hr
    subst hr
    have h2' : (x1v != 0) = true := by simpa using h2
    go_enter Tryz.func41, Tryz.ntmps41
    go_wp2_with (go_at_call 71; refine (HA.out _ (Below.refl _ _)).mono ?_; rintro e w1 ⟨rfl, hb1⟩; have hS1 := HS.out.step hb1; obtain ⟨y0, y1, y2, y3, y4, y5, yf, yg⟩ := g6 hS1 (K := kG) (g := g) (n := 1) (q := ⟨t, q, ⟨yp, yn, yc⟩, ⟨op, un, oc⟩, ⟨some ⟨gu, 0, none⟩, un, uc⟩, 0⟩) (by simp) rfl; simp only at y0 y1 y2 y3 y4 y5; have hcv := (OwG.cs (hS1.mem (K := kI) (v := .slice (some ⟨gu, 0, none⟩) un uc) (L := V) (by simp [gR]))).int (k := m) (n := x1v) HG.out; rw [Nat.zero_add] at hcv; have hfv := OwG.fz (hS1.mem (K := kI) (v := .slice (some ⟨gu, 0, none⟩) un uc) (L := V) (by simp [gR])))
    go_ret
    exact ⟨rfl, hS1⟩
  subst h2
  rw [if_pos ⟨rfl, hk0, rfl⟩] at hr
  subst hr
  cases yes
  · go_enter Tryz.func41, Tryz.ntmps41
    go_wp2_with (go_at_call 71; refine (HA.out _ (Below.refl _ _)).mono ?_; rintro e w1 ⟨rfl, hb1⟩; have hS1 := HS.out.step hb1; obtain ⟨y0, y1, y2, y3, y4, y5, yf, yg⟩ := g6 hS1 (K := kG) (g := g) (n := 1) (q := ⟨t, q, ⟨yp, yn, yc⟩, ⟨op, un, oc⟩, ⟨some ⟨gu, 0, none⟩, un, uc⟩, 0⟩) (by simp) rfl; simp only at y0 y1 y2 y3 y4 y5; have hcv := (OwG.cs (hS1.mem (K := kI) (v := .slice (some ⟨gu, 0, none⟩) un uc) (L := V) (by simp [gR]))).int (k := m) (n := 0) HG.out; rw [Nat.zero_add] at hcv; have hfv := OwG.fz (hS1.mem (K := kI) (v := .slice (some ⟨gu, 0, none⟩) un uc) (L := V) (by simp [gR])))
    have hS2 := Sg.setI (A := [rG kG (.slice (some ⟨g, 0, none⟩) 1 1) [⟨t, q, ⟨yp, yn, yc⟩, ⟨op, un, oc⟩, ⟨some ⟨gu, 0, none⟩, un, uc⟩, 0⟩]]) (V := V) (n := un) (by simpa [gR] using hS1) HV0.out m 2
    go_ret
    exact ⟨rfl, by simpa [gR, voteN] using hS2⟩
  · go_enter Tryz.func41, Tryz.ntmps41
    go_wp2_with (go_at_call 71; refine (HA.out _ (Below.refl _ _)).mono ?_; rintro e w1 ⟨rfl, hb1⟩; have hS1 := HS.out.step hb1; obtain ⟨y0, y1, y2, y3, y4, y5, yf, yg⟩ := g6 hS1 (K := kG) (g := g) (n := 1) (q := ⟨t, q, ⟨yp, yn, yc⟩, ⟨op, un, oc⟩, ⟨some ⟨gu, 0, none⟩, un, uc⟩, 0⟩) (by simp) rfl; simp only at y0 y1 y2 y3 y4 y5; have hcv := (OwG.cs (hS1.mem (K := kI) (v := .slice (some ⟨gu, 0, none⟩) un uc) (L := V) (by simp [gR]))).int (k := m) (n := 0) HG.out; rw [Nat.zero_add] at hcv; have hfv := OwG.fz (hS1.mem (K := kI) (v := .slice (some ⟨gu, 0, none⟩) un uc) (L := V) (by simp [gR])))
    have hS2 := Sg.setI (A := [rG kG (.slice (some ⟨g, 0, none⟩) 1 1) [⟨t, q, ⟨yp, yn, yc⟩, ⟨op, un, oc⟩, ⟨some ⟨gu, 0, none⟩, un, uc⟩, 0⟩]]) (V := V) (n := un) (by simpa [gR] using hS1) HV0.out m 2
    have hS3 := Sg.setI (A := [rG kG (.slice (some ⟨g, 0, none⟩) 1 1) [⟨t, q, ⟨yp, yn, yc⟩, ⟨op, un, oc⟩, ⟨some ⟨gu, 0, none⟩, un, uc⟩, 0⟩]]) (V := V.set m 2) (n := un) hS2 (by simpa using HV0.out) m 1
    rw [zero_one] at hS3
    go_ret
    exact ⟨rfl, by simpa [gR, voteN] using hS3⟩
end Go.Proofs.YtobbankkfplooaaGreat.K.G
namespace Go.Proofs.YtobbankkfplooaaGreat.K.G
open Go.Shelf Go.RowKit Go.Joins Y
attribute [local go_sem] Oper.semAt_some

set_option maxRecDepth 100000 in
set_option maxHeartbeats 2000000 in
theorem sDecide_any (h : Gv) (QL : List YQ) (O V : List Int) (off : Bool) (w W : World) (g : Nat) (hS : Sg w W (rG kG (.slice (some ⟨g, 0, none⟩) 1 1) [h] :: gR h QL O V)) (hn : 1 ≤ h.u.n ∧ h.u.n ≤ 4) {r : Dd × Bool} (hr : decidedD ⟨h.t, h.q, yds QL, O, V, h.s⟩ off = r) :
    Calls Tryz.prog 53 #[.pointer (some ⟨g, 0, none⟩), .bool off] W fun e w' => e = .returned (.bool r.2) ∧ Sg w w' (rG kG (.slice (some ⟨g, 0, none⟩) 1 1) [⟨h.t, h.q, h.y, h.o, h.u, r.1.s⟩] :: gR ⟨h.t, h.q, h.y, h.o, h.u, r.1.s⟩ QL O V) := by
  have hu := hS.mem (K := kI) (v := .slice h.u.p h.u.n h.u.c) (L := V) (by simp [gR])
  have hul := OwG.len hu
  obtain ⟨gu, hgu⟩ := own_some hu (by omega)
  have hcs := OwG.cs (hgu ▸ hu)
  have HS := Lib.hid hS
  have HV0 : Hid (V.length = h.u.n ∧ CsG kI W gu 0 V) := ⟨hul.symm, hcs⟩
  unfold decidedD at hr
  obtain ⟨an, han⟩ : ∃ b, V.any (fun v => decide (v = 2)) = b := ⟨_, rfl⟩
  obtain ⟨al, hal⟩ : ∃ b, V.all (fun v => decide (v = 1)) = b := ⟨_, rfl⟩
  simp only [han, hal] at hr
  have HNL : Hid (V.any (fun v => decide (v = 2)) = an ∧ V.all (fun v => decide (v = 1)) = al) := ⟨han, hal⟩
  clear han hal hu hS hul hcs
  obtain ⟨t, q, ⟨yp, yn, yc⟩, ⟨op, on, oc⟩, ⟨up, un, uc⟩, s⟩ := h
  simp only at hgu hr hn HS HV0 ⊢
  subst hgu
  obtain ⟨x0, x1, x2, x3, x4, x5, xf, xg⟩ := g6 HS.out (K := kG) (g := g) (n := 1) (q := ⟨t, q, ⟨yp, yn, yc⟩, ⟨op, on, oc⟩, ⟨some ⟨gu, 0, none⟩, un, uc⟩, s⟩) (by simp) rfl
  simp only at x0 x1 x2 x3 x4 x5
  by_cases h1 : s = 0
  case neg =>
    rw [if_neg h1] at hr
    subst hr
    have h1' : (s != 0) = true := by simpa using h1
    go_enter Tryz.func53, Tryz.ntmps53
    go_wp2
    go_ret
    exact ⟨rfl, HS.out⟩
  subst h1
  rw [if_pos rfl] at hr
  go_enter Tryz.func53, Tryz.ntmps53
  go_wp2
  go_loop [1, 5, 6] (fun ov av i => ∃ (k : Nat) (b1 b2 : Bool), k ≤ un ∧ ov = .bool b1 ∧ av = .bool b2 ∧ i = .int .i64 k ∧ Hid (b1 = (off || (V.take k).any (fun v => decide (v = 2))) ∧ b2 = (V.take k).all (fun v => decide (v = 1)))) (fun _ _ i => un - (intOf i).toNat)
  case atStart => exact ⟨0, off, true, by omega, rfl, rfl, rfl, by simp, rfl⟩
  case round =>
    obtain ⟨k, b1, b2, hk, rfl, rfl, rfl, hall⟩ := hrel
    by_cases hlt : k < un
    · have hki : (k : Int) < un := by omega
      have hkL : k < V.length := by rw [HV0.out.1]; exact hlt
      have hg := List.getElem?_eq_getElem hkL
      have ht := List.take_succ_eq_append_getElem hkL
      generalize V[k] = x at hg ht
      have c0 := HV0.out.2.int hg
      rw [Nat.zero_add] at c0
      have HK : Hid (∀ (f : Int → Bool), (V.take (k + 1)).any f = ((V.take k).any f || f x) ∧ (V.take (k + 1)).all f = ((V.take k).all f && f x)) := fun f => by
        rw [ht, List.any_append, List.all_append]; simp
      clear hg ht
      by_cases hx2 : x = 2
      · subst hx2
        cases b1
        · cases b2
          · go_wp2
            go_round
            case rel => exact ⟨k + 1, true, false, by omega, rfl, rfl, by go_num, Lib.hid (by rw [(HK.out _).1, (HK.out _).2]; have h2 := hall.out; rw [← h2.2]; simp only [← Bool.or_assoc, ← h2.1]; simp)⟩
            case measure => simp [intOf]; omega
          · go_wp2
            go_round
            case rel => exact ⟨k + 1, true, false, by omega, rfl, rfl, by go_num, Lib.hid (by rw [(HK.out _).1, (HK.out _).2]; have h2 := hall.out; rw [← h2.2]; simp only [← Bool.or_assoc, ← h2.1]; simp)⟩
            case measure => simp [intOf]; omega
        · cases b2
          · go_wp2
            go_round
            case rel => exact ⟨k + 1, true, false, by omega, rfl, rfl, by go_num, Lib.hid (by rw [(HK.out _).1, (HK.out _).2]; have h2 := hall.out; rw [← h2.2]; simp only [← Bool.or_assoc, ← h2.1]; simp)⟩
            case measure => simp [intOf]; omega
          · go_wp2
            go_round
            case rel => exact ⟨k + 1, true, false, by omega, rfl, rfl, by go_num, Lib.hid (by rw [(HK.out _).1, (HK.out _).2]; have h2 := hall.out; rw [← h2.2]; simp only [← Bool.or_assoc, ← h2.1]; simp)⟩
            case measure => simp [intOf]; omega
      have hx2' : (x == 2) = false := by simpa using hx2
      by_cases hx1 : x = 1
      · subst hx1
        cases b1
        · cases b2
          · go_wp2
            go_round
            case rel => exact ⟨k + 1, false, false, by omega, rfl, rfl, by go_num, Lib.hid (by rw [(HK.out _).1, (HK.out _).2]; have h2 := hall.out; rw [← h2.2]; simp only [← Bool.or_assoc, ← h2.1]; simp)⟩
            case measure => simp [intOf]; omega
          · go_wp2
            go_round
            case rel => exact ⟨k + 1, false, true, by omega, rfl, rfl, by go_num, Lib.hid (by rw [(HK.out _).1, (HK.out _).2]; have h2 := hall.out; rw [← h2.2]; simp only [← Bool.or_assoc, ← h2.1]; simp)⟩
            case measure => simp [intOf]; omega
        · cases b2
          · go_wp2
            go_round
            case rel => exact ⟨k + 1, true, false, by omega, rfl, rfl, by go_num, Lib.hid (by rw [(HK.out _).1, (HK.out _).2]; have h2 := hall.out; rw [← h2.2]; simp only [← Bool.or_assoc, ← h2.1]; simp)⟩
            case measure => simp [intOf]; omega
          · go_wp2
            go_round
            case rel => exact ⟨k + 1, true, true, by omega, rfl, rfl, by go_num, Lib.hid (by rw [(HK.out _).1, (HK.out _).2]; have h2 := hall.out; rw [← h2.2]; simp only [← Bool.or_assoc, ← h2.1]; simp)⟩
            case measure => simp [intOf]; omega
      · have hx1' : (x == 1) = false := by simpa using hx1
        cases b1
        · cases b2
          · go_wp2
            go_round
            case rel => exact ⟨k + 1, false, false, by omega, rfl, rfl, by go_num, Lib.hid (by rw [(HK.out _).1, (HK.out _).2]; have h2 := hall.out; rw [← h2.2]; simp only [← Bool.or_assoc, ← h2.1]; simp [hx1, hx2])⟩
            case measure => simp [intOf]; omega
          · go_wp2
            go_round
            case rel => exact ⟨k + 1, false, false, by omega, rfl, rfl, by go_num, Lib.hid (by rw [(HK.out _).1, (HK.out _).2]; have h2 := hall.out; rw [← h2.2]; simp only [← Bool.or_assoc, ← h2.1]; simp [hx1, hx2])⟩
            case measure => simp [intOf]; omega
        · cases b2
          · go_wp2
            go_round
            case rel => exact ⟨k + 1, true, false, by omega, rfl, rfl, by go_num, Lib.hid (by rw [(HK.out _).1, (HK.out _).2]; have h2 := hall.out; rw [← h2.2]; simp only [← Bool.or_assoc, ← h2.1]; simp [hx1, hx2])⟩
            case measure => simp [intOf]; omega
          · go_wp2
            go_round
            case rel => exact ⟨k + 1, true, false, by omega, rfl, rfl, by go_num, Lib.hid (by rw [(HK.out _).1, (HK.out _).2]; have h2 := hall.out; rw [← h2.2]; simp only [← Bool.or_assoc, ← h2.1]; simp [hx1, hx2])⟩
            case measure => simp [intOf]; omega
    · obtain rfl : k = un := by omega
      have HZ : Hid (b1 = (off || an) ∧ b2 = al) := by
        have h2 := hall.out
        rw [List.take_of_length_le (by rw [HV0.out.1]; exact Nat.le_refl _), HNL.out.1, HNL.out.2] at h2
        exact h2
      obtain ⟨z1, z2⟩ := HZ.out
      rw [← z1, ← z2] at hr
      clear z1 z2
      cases b1
      · rw [if_neg (by decide)] at hr
        cases b2
        · rw [if_neg (by decide)] at hr
          subst hr
          go_wp2
          go_ret
          exact ⟨rfl, HS.out⟩
        · rw [if_pos rfl] at hr
          subst hr
          go_wp2
          have hS2 := Sg.setG5 (A := []) (g := g) (n := 1) (a := ⟨t, q, ⟨yp, yn, yc⟩, ⟨op, on, oc⟩, ⟨some ⟨gu, 0, none⟩, k, uc⟩, 0⟩) (Bs := gR ⟨t, q, ⟨yp, yn, yc⟩, ⟨op, on, oc⟩, ⟨some ⟨gu, 0, none⟩, k, uc⟩, 0⟩ QL O V) HS.out 1
          go_ret
          exact ⟨rfl, by simpa [gR] using hS2⟩
      · rw [if_pos rfl] at hr
        subst hr
        go_wp2
        have hS2 := Sg.setG5 (A := []) (g := g) (n := 1) (a := ⟨t, q, ⟨yp, yn, yc⟩, ⟨op, on, oc⟩, ⟨some ⟨gu, 0, none⟩, k, uc⟩, 0⟩) (Bs := gR ⟨t, q, ⟨yp, yn, yc⟩, ⟨op, on, oc⟩, ⟨some ⟨gu, 0, none⟩, k, uc⟩, 0⟩ QL O V) HS.out 2
        go_ret
        exact ⟨rfl, by simpa [gR] using hS2⟩
end Go.Proofs.YtobbankkfplooaaGreat.K.G
