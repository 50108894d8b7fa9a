/-
  Voted, Decided, Forgotten: the specification's.
-/
import Derived.Test.YtobbankkfplooaaGreatKS3
import Derived.Test.YtobbankkfplooaaGreatKS1
import Derived.Test.YtobbankkfplooaaGreatKC2
namespace Go.Proofs.YtobbankkfplooaaGreat.K.G
open Go.Shelf Go.RowKit Go.Joins Y
attribute [local go_sem] Oper.semAt_some

theorem voted_fix (d : Dd) (x : Int) (yes : Bool) {r : Dd × Bool} (h : votedD d x yes = r) : ∃ V' b, r = (⟨d.t, d.q, d.Y, d.O, V', d.s⟩, b) := by
  subst h; unfold votedD; dsimp only; split
  · exact ⟨_, _, rfl⟩
  · exact ⟨_, _, rfl⟩
theorem decided_fix (d : Dd) (off : Bool) {r : Dd × Bool} (h : decidedD d off = r) : ∃ z b, r = (⟨d.t, d.q, d.Y, d.O, d.V, z⟩, b) := by
  subst h; unfold decidedD; repeat' split
  all_goals exact ⟨_, _, rfl⟩
set_option maxRecDepth 100000 in
set_option maxHeartbeats 2000000 in
theorem sVoted_any (h : Gv) (QL : List YQ) (O V : List Int) (x : Int) (yes : Bool) (w : World) (H : RdG w h QL O V) (hk : OkG h QL) {r : Dd × Bool} (hr : (if dB ⟨h.t, h.q, yds QL, O, V, h.s⟩ = true then votedD ⟨h.t, h.q, yds QL, O, V, h.s⟩ x yes else (zdd, false)) = r) :
    Calls Tryz.prog 15 #[h.v, .int .i64 x, .bool yes] w fun e w' => ∃ v, e = .returned (.tuple #[v, .bool r.2]) ∧ DlO r.1 w w' v := by
  have HI := Lib.hid (fun W (hb : Below w.heap.size w W) => sDealOk_v (h := h) (QL := QL) (O := O) (V := V) rfl W (H.step hb))
  change Hid (∀ W, Below w.heap.size w W → Calls Tryz.prog 18 #[h.v] W fun e w' => e = .returned (.bool (dB ⟨h.t, h.q, yds QL, O, V, h.s⟩)) ∧ Below W.heap.size W w') at HI
  cases hd : dB ⟨h.t, h.q, yds QL, O, V, h.s⟩
  · rw [hd] at HI hr
    obtain rfl : (zdd, false) = r := hr
    clear H hk hd
    obtain ⟨t, q, ⟨yp, yn, yc⟩, ⟨op, on, oc⟩, ⟨up, un, uc⟩, s⟩ := h
    try simp only at HI ⊢
    have hS1 := (((Sg.nil w).lit kG [⟨t, q, ⟨yp, yn, yc⟩, ⟨op, on, oc⟩, ⟨up, un, uc⟩, s⟩] 1 rfl (by decide) #[.int .i64 t, .int .i64 q, .slice yp yn yc, .slice op on oc, .slice up un uc, .int .i64 s] rfl).lit kG [zgv] 1 rfl (by decide) #[.int .i64 0, .int .i64 0, .slice none 0 0, .slice none 0 0, .slice none 0 0, .int .i64 0] rfl)
    simp only [World.size_alloc] at hS1
    go_enter Tryz.func15, Tryz.ntmps15
    go_wp2_with (go_at_call 18; refine (HI.out _ hS1.bel).mono ?_; rintro e w1 ⟨rfl, hb1⟩; have hS2 := hS1.step hb1; obtain ⟨v0, v1, v2, v3, v4, v5, vf, vg⟩ := g6 hS2 (K := kG) (g := w.heap.size + 1) (n := 1) (q := zgv) (by simp) rfl; simp only [zgv] at v0 v1 v2 v3 v4 v5)
    have hS3 := Sg.setG (A := []) (g := w.heap.size + 1) (n := 1) (a := zgv) hS2 zgv
    refine bodyPost_ret (v := .tuple #[.agg #[.int .i64 0, .int .i64 0, .slice none 0 0, .slice none 0 0, .slice none 0 0, .int .i64 0], .bool false]) (by simp [results, Tryz.results15, go_sem, v0, v1, v2, v3, v4, v5]) rfl ⟨_, rfl, dlo_zero hS3.bel⟩
  have hp := dB_iff.1 hd
  obtain ⟨⟨s1, s4⟩, so, su, ssm⟩ := deal_small H hp
  rw [hd] at HI hr
  rw [if_pos rfl] at hr
  have HK := Lib.hid (fun W (hb : Below w.heap.size w W) => sCopy_any h QL O V W (H.step hb) hk (by omega) (by omega) (by omega) ssm)
  have HN : Hid (1 ≤ h.u.n ∧ h.u.n ≤ 4 ∧ h.o.n = h.u.n ∧ O.length = h.o.n ∧ V.length = h.u.n) := ⟨by omega, by omega, by omega, H.on, H.un⟩
  have HR := Lib.hid hr
  clear hr H hk hd hp s1 s4 so su ssm
  obtain ⟨t, q, ⟨yp, yn, yc⟩, ⟨op, on, oc⟩, ⟨up, un, uc⟩, s⟩ := h
  simp only at HI HK HN HR
  have hS1 := (((Sg.nil w).lit kG [⟨t, q, ⟨yp, yn, yc⟩, ⟨op, on, oc⟩, ⟨up, un, uc⟩, s⟩] 1 rfl (by decide) #[.int .i64 t, .int .i64 q, .slice yp yn yc, .slice op on oc, .slice up un uc, .int .i64 s] rfl).lit kG [zgv] 1 rfl (by decide) #[.int .i64 0, .int .i64 0, .slice none 0 0, .slice none 0 0, .slice none 0 0, .int .i64 0] rfl)
  simp only [World.size_alloc] at hS1
  go_enter Tryz.func15, Tryz.ntmps15
  go_upto_region 4 with (first
    | (go_at_call 18; refine (HI.out _ hS1.bel).mono ?_; rintro e w1 ⟨rfl, hb1⟩; have hS2 := hS1.step hb1; obtain ⟨y0, y1, y2, y3, y4, y5, yf, yg⟩ := g6 hS2 (K := kG) (g := w.heap.size) (n := 1) (q := ⟨t, q, ⟨yp, yn, yc⟩, ⟨op, on, oc⟩, ⟨up, un, uc⟩, s⟩) (by simp) rfl; simp only at y0 y1 y2 y3 y4 y5)
    | (go_at_call 40; refine (HK.out _ hS2.bel).mono ?_; rintro e w4 ⟨y, o, u, Q2, rfl, hq1, hq2, h4⟩))
  have HQ : Hid (yds Q2 = yds QL ∧ ∀ q ∈ Q2, q.2.n ≤ 1000 ∧ q.1.L.length = q.2.n) := ⟨hq1, hq2⟩
  have hno : o.n = on := by
    have h1 := OwG.len (h4.mem (K := kI) (v := .slice o.p o.n o.c) (L := O) (by simp [gR]))
    rw [h1, HN.out.2.2.2.1]
  have hnu : u.n = un := by
    have h1 := OwG.len (h4.mem (K := kI) (v := .slice u.p u.n u.c) (L := V) (by simp [gR]))
    rw [h1, HN.out.2.2.2.2]
  have hS6 : Sg w1 (w4.alloc (.cells #[.int .i64 t, .int .i64 q, .slice y.p y.n y.c, .slice o.p o.n o.c, .slice u.p u.n u.c, .int .i64 s] 27)) (rG kG (.slice (some ⟨w4.heap.size, 0, none⟩) 1 1) [⟨t, q, y, o, u, s⟩] :: gR ⟨t, q, y, o, u, s⟩ Q2 O V) := (h4.lit kG [⟨t, q, y, o, u, s⟩] 1 rfl (by decide) #[.int .i64 t, .int .i64 q, .slice y.p y.n y.c, .slice o.p o.n o.c, .slice u.p u.n u.c, .int .i64 s] rfl)
  obtain ⟨z, b, rfl⟩ : ∃ V2 b, r = (⟨t, q, yds QL, O, V2, s⟩, b) := voted_fix _ _ _ HR.out
  have HV := Lib.hid (sVote_any ⟨t, q, y, o, u, s⟩ Q2 O V x yes w1 _ w4.heap.size hS6 (by simp only; rw [hnu]; exact ⟨HN.out.1, HN.out.2.1⟩) (by simp only; rw [hno, hnu]; exact HN.out.2.2.1) (r := (⟨t, q, yds QL, O, z, s⟩, b)) (by rw [HQ.out.1]; exact HR.out))
  simp only at HV
  clear hq1 hq2 h4 hno hnu
  go_wp2_with (go_at_call 41; refine HV.out.mono ?_; rintro e w7 ⟨rfl, hS7⟩; have hS8 := hS2.addL hS7; obtain ⟨v0, v1, v2, v3, v4, v5, vf, vg⟩ := g6 hS8 (K := kG) (g := w.heap.size + 1) (n := 1) (q := zgv) (by simp) rfl; obtain ⟨t0, t1, t2, t3, t4, t5, tf, tg⟩ := g6 hS8 (K := kG) (g := w4.heap.size) (n := 1) (q := ⟨t, q, y, o, u, s⟩) (by simp) rfl; simp only [zgv] at v0 v1 v2 v3 v4 v5 t0 t1 t2 t3 t4 t5)
  have hS9 := Sg.setG (A := rG kG (.slice (some ⟨w4.heap.size, 0, none⟩) 1 1) [⟨t, q, y, o, u, s⟩] :: gR ⟨t, q, y, o, u, s⟩ Q2 O z) (g := w.heap.size + 1) (n := 1) (a := zgv) hS8 ⟨t, q, y, o, u, s⟩
  have hS10 := hS9.sub ((List.sublist_cons_self ..).trans (List.sublist_append_left ..))
  refine bodyPost_ret (v := .tuple #[.agg #[.int .i64 t, .int .i64 q, .slice y.p y.n y.c, .slice o.p o.n o.c, .slice u.p u.n u.c, .int .i64 s], .bool b]) (by simp [results, Tryz.results15, go_sem, v0, v1, v2, v3, v4, v5]) rfl ⟨_, rfl, y, o, u, Q2, rfl, HQ.out.1, HQ.out.2, hS10⟩
set_option maxRecDepth 100000 in
set_option maxHeartbeats 2000000 in
theorem sDecided_any (h : Gv) (QL : List YQ) (O V : List Int) (off : Bool) (w : World) (H : RdG w h QL O V) (hk : OkG h QL) {r : Dd × Bool} (hr : (if dB ⟨h.t, h.q, yds QL, O, V, h.s⟩ = true then decidedD ⟨h.t, h.q, yds QL, O, V, h.s⟩ off else (zdd, false)) = r) :
    Calls Tryz.prog 21 #[h.v, .bool off] w fun e w' => ∃ v, e = .returned (.tuple #[v, .bool r.2]) ∧ DlO r.1 w w' v := by
  have HI := Lib.hid (fun W (hb : Below w.heap.size w W) => sDealOk_v (h := h) (QL := QL) (O := O) (V := V) rfl W (H.step hb))
  change Hid (∀ W, Below w.heap.size w W → Calls Tryz.prog 18 #[h.v] W fun e w' => e = .returned (.bool (dB ⟨h.t, h.q, yds QL, O, V, h.s⟩)) ∧ Below W.heap.size W w') at HI
  cases hd : dB ⟨h.t, h.q, yds QL, O, V, h.s⟩
  · rw [hd] at HI hr
    obtain rfl : (zdd, false) = r := hr
    clear H hk hd
    obtain ⟨t, q, ⟨yp, yn, yc⟩, ⟨op, on, oc⟩, ⟨up, un, uc⟩, s⟩ := h
    try simp only at HI ⊢
    have hS1 := (((Sg.nil w).lit kG [⟨t, q, ⟨yp, yn, yc⟩, ⟨op, on, oc⟩, ⟨up, un, uc⟩, s⟩] 1 rfl (by decide) #[.int .i64 t, .int .i64 q, .slice yp yn yc, .slice op on oc, .slice up un uc, .int .i64 s] rfl).lit kG [zgv] 1 rfl (by decide) #[.int .i64 0, .int .i64 0, .slice none 0 0, .slice none 0 0, .slice none 0 0, .int .i64 0] rfl)
    simp only [World.size_alloc] at hS1
    go_enter Tryz.func21, Tryz.ntmps21
    go_wp2_with (go_at_call 18; refine (HI.out _ hS1.bel).mono ?_; rintro e w1 ⟨rfl, hb1⟩; have hS2 := hS1.step hb1; obtain ⟨v0, v1, v2, v3, v4, v5, vf, vg⟩ := g6 hS2 (K := kG) (g := w.heap.size + 1) (n := 1) (q := zgv) (by simp) rfl; simp only [zgv] at v0 v1 v2 v3 v4 v5)
    have hS3 := Sg.setG (A := []) (g := w.heap.size + 1) (n := 1) (a := zgv) hS2 zgv
    refine bodyPost_ret (v := .tuple #[.agg #[.int .i64 0, .int .i64 0, .slice none 0 0, .slice none 0 0, .slice none 0 0, .int .i64 0], .bool false]) (by simp [results, Tryz.results21, go_sem, v0, v1, v2, v3, v4, v5]) rfl ⟨_, rfl, dlo_zero hS3.bel⟩
  have hp := dB_iff.1 hd
  obtain ⟨⟨s1, s4⟩, so, su, ssm⟩ := deal_small H hp
  rw [hd] at HI hr
  rw [if_pos rfl] at hr
  have HK := Lib.hid (fun W (hb : Below w.heap.size w W) => sCopy_any h QL O V W (H.step hb) hk (by omega) (by omega) (by omega) ssm)
  have HN : Hid (1 ≤ h.u.n ∧ h.u.n ≤ 4 ∧ h.o.n = h.u.n ∧ O.length = h.o.n ∧ V.length = h.u.n) := ⟨by omega, by omega, by omega, H.on, H.un⟩
  have HR := Lib.hid hr
  clear hr H hk hd hp s1 s4 so su ssm
  obtain ⟨t, q, ⟨yp, yn, yc⟩, ⟨op, on, oc⟩, ⟨up, un, uc⟩, s⟩ := h
  simp only at HI HK HN HR
  have hS1 := (((Sg.nil w).lit kG [⟨t, q, ⟨yp, yn, yc⟩, ⟨op, on, oc⟩, ⟨up, un, uc⟩, s⟩] 1 rfl (by decide) #[.int .i64 t, .int .i64 q, .slice yp yn yc, .slice op on oc, .slice up un uc, .int .i64 s] rfl).lit kG [zgv] 1 rfl (by decide) #[.int .i64 0, .int .i64 0, .slice none 0 0, .slice none 0 0, .slice none 0 0, .int .i64 0] rfl)
  simp only [World.size_alloc] at hS1
  go_enter Tryz.func21, Tryz.ntmps21
  go_upto_region 4 with (first
    | (go_at_call 18; refine (HI.out _ hS1.bel).mono ?_; rintro e w1 ⟨rfl, hb1⟩; have hS2 := hS1.step hb1; obtain ⟨y0, y1, y2, y3, y4, y5, yf, yg⟩ := g6 hS2 (K := kG) (g := w.heap.size) (n := 1) (q := ⟨t, q, ⟨yp, yn, yc⟩, ⟨op, on, oc⟩, ⟨up, un, uc⟩, s⟩) (by simp) rfl; simp only at y0 y1 y2 y3 y4 y5)
    | (go_at_call 40; refine (HK.out _ hS2.bel).mono ?_; rintro e w4 ⟨y, o, u, Q2, rfl, hq1, hq2, h4⟩))
  have HQ : Hid (yds Q2 = yds QL ∧ ∀ q ∈ Q2, q.2.n ≤ 1000 ∧ q.1.L.length = q.2.n) := ⟨hq1, hq2⟩
  have hno : o.n = on := by
    have h1 := OwG.len (h4.mem (K := kI) (v := .slice o.p o.n o.c) (L := O) (by simp [gR]))
    rw [h1, HN.out.2.2.2.1]
  have hnu : u.n = un := by
    have h1 := OwG.len (h4.mem (K := kI) (v := .slice u.p u.n u.c) (L := V) (by simp [gR]))
    rw [h1, HN.out.2.2.2.2]
  have hS6 : Sg w1 (w4.alloc (.cells #[.int .i64 t, .int .i64 q, .slice y.p y.n y.c, .slice o.p o.n o.c, .slice u.p u.n u.c, .int .i64 s] 27)) (rG kG (.slice (some ⟨w4.heap.size, 0, none⟩) 1 1) [⟨t, q, y, o, u, s⟩] :: gR ⟨t, q, y, o, u, s⟩ Q2 O V) := (h4.lit kG [⟨t, q, y, o, u, s⟩] 1 rfl (by decide) #[.int .i64 t, .int .i64 q, .slice y.p y.n y.c, .slice o.p o.n o.c, .slice u.p u.n u.c, .int .i64 s] rfl)
  obtain ⟨z, b, rfl⟩ : ∃ z b, r = (⟨t, q, yds QL, O, V, z⟩, b) := decided_fix _ _ HR.out
  have HV := Lib.hid (sDecide_any ⟨t, q, y, o, u, s⟩ Q2 O V off w1 _ w4.heap.size hS6 (by simp only; rw [hnu]; exact ⟨HN.out.1, HN.out.2.1⟩) (r := (⟨t, q, yds QL, O, V, z⟩, b)) (by rw [HQ.out.1]; exact HR.out))
  simp only at HV
  clear hq1 hq2 h4 hno hnu
  go_wp2_with (go_at_call 53; refine HV.out.mono ?_; rintro e w7 ⟨rfl, hS7⟩; have hS8 := hS2.addL hS7; obtain ⟨v0, v1, v2, v3, v4, v5, vf, vg⟩ := g6 hS8 (K := kG) (g := w.heap.size + 1) (n := 1) (q := zgv) (by simp) rfl; obtain ⟨t0, t1, t2, t3, t4, t5, tf, tg⟩ := g6 hS8 (K := kG) (g := w4.heap.size) (n := 1) (q := ⟨t, q, y, o, u, z⟩) (by simp) rfl; simp only [zgv] at v0 v1 v2 v3 v4 v5 t0 t1 t2 t3 t4 t5)
  have hS9 := Sg.setG (A := rG kG (.slice (some ⟨w4.heap.size, 0, none⟩) 1 1) [⟨t, q, y, o, u, z⟩] :: gR ⟨t, q, y, o, u, z⟩ Q2 O V) (g := w.heap.size + 1) (n := 1) (a := zgv) hS8 ⟨t, q, y, o, u, z⟩
  have hS10 := hS9.sub ((List.sublist_cons_self ..).trans (List.sublist_append_left ..))
  refine bodyPost_ret (v := .tuple #[.agg #[.int .i64 t, .int .i64 q, .slice y.p y.n y.c, .slice o.p o.n o.c, .slice u.p u.n u.c, .int .i64 z], .bool b]) (by simp [results, Tryz.results21, go_sem, v0, v1, v2, v3, v4, v5]) rfl ⟨_, rfl, y, o, u, Q2, rfl, HQ.out.1, HQ.out.2, hS10⟩
end Go.Proofs.YtobbankkfplooaaGreat.K.G
