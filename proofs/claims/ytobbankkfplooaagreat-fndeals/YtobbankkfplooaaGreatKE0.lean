/-
  What the laws of Deals that are answered look at.
-/
import Derived.Test.YtobbankkfplooaaGreatKS4
import Derived.Test.YtobbankkfplooaaGreatKP10
import Derived.Test.YtobbankkfplooaaGreatKG2
import Derived.Test.YtobbankkfplooaaGreatKL1
namespace Go.Proofs.YtobbankkfplooaaGreat.K.G
open Go.Shelf Go.RowKit Go.Joins Y
attribute [local go_sem] Oper.semAt_some

set_option maxRecDepth 100000 in
set_option maxHeartbeats 2000000 in
theorem sForgotten_any (h : Gv) (QL : List YQ) (O V : List Int) (w : World) (H : RdG w h QL O V) (hk : OkG h QL) {r : Dd} (hr : (if dB ⟨h.t, h.q, yds QL, O, V, h.s⟩ = true then forgottenD ⟨h.t, h.q, yds QL, O, V, h.s⟩ else zdd) = r) :
    Calls Tryz.prog 20 #[h.v] w fun e w' => ∃ v, e = .returned v ∧ DlO r w w' v := by
  have HI := Lib.hid (fun W (hb : Below w.heap.size w W) => sDealOk_v (h := h) (QL := QL) (O := O) (V := V) rfl W (H.step hb))
  change Hid (∀ W, Below w.heap.size w W → Calls Tryz.prog 18 #[h.v] W fun e w' => e = .returned (.bool (dB ⟨h.t, h.q, yds QL, O, V, h.s⟩)) ∧ Below W.heap.size W w') at HI
  cases hd : dB ⟨h.t, h.q, yds QL, O, V, h.s⟩
  · rw [hd] at HI hr
    obtain rfl : zdd = r := hr
    clear H hk hd
    obtain ⟨t, q, ⟨yp, yn, yc⟩, ⟨op, on, oc⟩, ⟨up, un, uc⟩, s⟩ := h
    try simp only at HI ⊢
    have hS1 := (((Sg.nil w).lit kG [⟨t, q, ⟨yp, yn, yc⟩, ⟨op, on, oc⟩, ⟨up, un, uc⟩, s⟩] 1 rfl (by decide) #[.int .i64 t, .int .i64 q, .slice yp yn yc, .slice op on oc, .slice up un uc, .int .i64 s] rfl).lit kG [zgv] 1 rfl (by decide) #[.int .i64 0, .int .i64 0, .slice none 0 0, .slice none 0 0, .slice none 0 0, .int .i64 0] rfl)
    simp only [World.size_alloc] at hS1
    go_enter Tryz.func20, Tryz.ntmps20
    go_wp2_with (go_at_call 18; refine (HI.out _ hS1.bel).mono ?_; rintro e w1 ⟨rfl, hb1⟩; have hS2 := hS1.step hb1; obtain ⟨v0, v1, v2, v3, v4, v5, vf, vg⟩ := g6 hS2 (K := kG) (g := w.heap.size + 1) (n := 1) (q := zgv) (by simp) rfl; simp only [zgv] at v0 v1 v2 v3 v4 v5)
    have hS3 := Sg.setG (A := []) (g := w.heap.size + 1) (n := 1) (a := zgv) hS2 zgv
    refine bodyPost_ret (v := .agg #[.int .i64 0, .int .i64 0, .slice none 0 0, .slice none 0 0, .slice none 0 0, .int .i64 0]) (by simp [results, Tryz.results20, go_sem, v0, v1, v2, v3, v4, v5]) rfl ⟨_, rfl, dlo_zero hS3.bel⟩
  have hp := dB_iff.1 hd
  obtain ⟨⟨s1, s4⟩, so, su, ssm⟩ := deal_small H hp
  rw [hd] at HI hr
  rw [if_pos rfl] at hr
  have HK := Lib.hid (fun W (hb : Below w.heap.size w W) => sCopy_any h QL O V W (H.step hb) hk (by omega) (by omega) (by omega) ssm)
  have HN : Hid (1 ≤ h.u.n ∧ h.u.n ≤ 4 ∧ h.o.n = h.u.n ∧ O.length = h.o.n ∧ V.length = h.u.n) := ⟨by omega, by omega, by omega, H.on, H.un⟩
  have HR := Lib.hid hr
  clear hr H hk hd hp s1 s4 so su ssm
  obtain ⟨t, q, ⟨yp, yn, yc⟩, ⟨op, on, oc⟩, ⟨up, un, uc⟩, s⟩ := h
  simp only at HI HK HN HR
  have hS1 := (((Sg.nil w).lit kG [⟨t, q, ⟨yp, yn, yc⟩, ⟨op, on, oc⟩, ⟨up, un, uc⟩, s⟩] 1 rfl (by decide) #[.int .i64 t, .int .i64 q, .slice yp yn yc, .slice op on oc, .slice up un uc, .int .i64 s] rfl).lit kG [zgv] 1 rfl (by decide) #[.int .i64 0, .int .i64 0, .slice none 0 0, .slice none 0 0, .slice none 0 0, .int .i64 0] rfl)
  simp only [World.size_alloc] at hS1
  go_enter Tryz.func20, Tryz.ntmps20
  go_upto_region 4 with (first
    | (go_at_call 18; refine (HI.out _ hS1.bel).mono ?_; rintro e w1 ⟨rfl, hb1⟩; have hS2 := hS1.step hb1; obtain ⟨y0, y1, y2, y3, y4, y5, yf, yg⟩ := g6 hS2 (K := kG) (g := w.heap.size) (n := 1) (q := ⟨t, q, ⟨yp, yn, yc⟩, ⟨op, on, oc⟩, ⟨up, un, uc⟩, s⟩) (by simp) rfl; simp only at y0 y1 y2 y3 y4 y5)
    | (go_at_call 40; refine (HK.out _ hS2.bel).mono ?_; rintro e w4 ⟨y, o, u, Q2, rfl, hq1, hq2, h4⟩))
  have HQ : Hid (yds Q2 = yds QL ∧ ∀ q ∈ Q2, q.2.n ≤ 1000 ∧ q.1.L.length = q.2.n) := ⟨hq1, hq2⟩
  clear hq1 hq2
  have hS5 := (hS2.addL h4).lit kG [⟨t, q, y, o, u, s⟩] 1 rfl (by decide) #[.int .i64 t, .int .i64 q, .slice y.p y.n y.c, .slice o.p o.n o.c, .slice u.p u.n u.c, .int .i64 s] rfl
  change Sg w (w4.alloc (.cells #[.int .i64 t, .int .i64 q, .slice y.p y.n y.c, .slice o.p o.n o.c, .slice u.p u.n u.c, .int .i64 s] 27)) _ at hS5
  have hz5 : (w4.alloc (.cells #[.int .i64 t, .int .i64 q, .slice y.p y.n y.c, .slice o.p o.n o.c, .slice u.p u.n u.c, .int .i64 s] 27)).heap.size = w4.heap.size + 1 := World.size_alloc _ _
  generalize w4.alloc (.cells #[.int .i64 t, .int .i64 q, .slice y.p y.n y.c, .slice o.p o.n o.c, .slice u.p u.n u.c, .int .i64 s] 27) = W5 at hS5 hz5
  obtain ⟨a0, a1, a2, a3, a4, a5, af, ag⟩ := g6 hS5 (K := kG) (g := w.heap.size) (n := 1) (q := ⟨t, q, ⟨yp, yn, yc⟩, ⟨op, on, oc⟩, ⟨up, un, uc⟩, s⟩) (by simp [gR]) rfl
  obtain ⟨v0, v1, v2, v3, v4, v5, vf, vg⟩ := g6 hS5 (K := kG) (g := w.heap.size + 1) (n := 1) (q := zgv) (by simp [gR]) rfl
  simp only [zgv] at a0 a1 a2 a3 a4 a5 v0 v1 v2 v3 v4 v5
  have hlt : w.heap.size + 1 < w4.heap.size := by
    have h1 := g6 hS2 (K := kG) (g := w.heap.size + 1) (n := 1) (q := zgv) (by simp) rfl
    exact Nat.lt_of_lt_of_le h1.2.2.2.2.2.2.2 h4.bel.size
  obtain ⟨c0, c1, c2, c3, c4, c5, cf, cg⟩ := g6 hS5 (K := kG) (g := w4.heap.size) (n := 1) (q := ⟨t, q, y, o, u, s⟩) (by simp) rfl
  simp only at c0 c1 c2 c3 c4 c5
  clear h4 hS2 y0 y1 y2 y3 y4 y5 yf yg
  by_cases h0 : s = 0
  case neg =>
    have h0' : (s == 0) = false := by simpa using h0
    have hr := HR.out
    unfold forgottenD at hr
    rw [if_neg h0] at hr
    subst hr
    go_wp2
    have hS9 := Sg.setG (A := rG kG (.slice (some ⟨w4.heap.size, 0, none⟩) 1 1) [⟨t, q, y, o, u, s⟩] :: gR ⟨t, q, y, o, u, s⟩ Q2 O V) (g := w.heap.size + 1) (n := 1) (a := zgv) hS5 ⟨t, q, y, o, u, s⟩
    have hS10 := hS9.sub ((List.sublist_cons_self ..).trans (List.sublist_append_left ..))
    refine bodyPost_ret (v := .agg #[.int .i64 t, .int .i64 q, .slice y.p y.n y.c, .slice o.p o.n o.c, .slice u.p u.n u.c, .int .i64 s]) (by simp [results, Tryz.results20, go_sem, v0, v1, v2, v3, v4, v5]) rfl ⟨_, rfl, y, o, u, Q2, rfl, HQ.out.1, HQ.out.2, hS10⟩
  subst h0
  have hr := HR.out
  unfold forgottenD at hr
  rw [if_pos rfl] at hr
  simp only [HN.out.2.2.2.2] at hr
  subst hr
  have hun1 := HN.out.1
  have hun4 := HN.out.2.1
  obtain ⟨i0, hi, hz0, hz1, hz2⟩ := info_parts info2
  have hmk := run_make (P := Tryz.prog) W5 25 2 i0 _ Tryz.underlying25 hi hz0 .i64 .i64 (un : Int) (un : Int) (by omega) (by omega) (by rw [hz2]; omega) (by omega)
  rw [hz1, Int.toNat_natCast, Nat.mul_one] at hmk
  have hS6 := hS5.lit kI (List.replicate un 0) un (by simp) (by omega) (madeCells #[.int .i64 0] un) (madeI0 un)
  change Sg w (W5.alloc (.cells (madeCells #[.int .i64 0] un) 2)) _ at hS6
  clear hi hz0 hz1 hz2
  obtain ⟨b0, b1, b2, b3, b4, b5, bf, bg⟩ := g6 hS6 (K := kG) (g := w.heap.size) (n := 1) (q := ⟨t, q, ⟨yp, yn, yc⟩, ⟨op, on, oc⟩, ⟨up, un, uc⟩, 0⟩) (by simp [gR]) rfl
  obtain ⟨t0, t1, t2, t3, t4, t5, tf, tg⟩ := g6 hS6 (K := kG) (g := w4.heap.size) (n := 1) (q := ⟨t, q, y, o, u, 0⟩) (by simp [gR]) rfl
  obtain ⟨d0, d1, d2, d3, d4, d5', df, dg⟩ := g6 hS6 (K := kG) (g := w.heap.size + 1) (n := 1) (q := zgv) (by simp [gR]) rfl
  simp only [zgv] at b0 b1 b2 b3 b4 b5 t0 t1 t2 t3 t4 t5 d0 d1 d2 d3 d4 d5'
  have hne : ¬ w4.heap.size = w.heap.size + 1 := by omega
  have hne2 : ¬ w.heap.size + 1 = w4.heap.size := by omega
  have hne3 : ¬ w4.heap.size = W5.heap.size := by omega
  have hne4 : ¬ W5.heap.size = w4.heap.size := by omega
  clear hz5
  change _ = Result.ok _ (W5.alloc (.cells (madeCells #[.int .i64 0] un) 2)) at hmk
  generalize hW6 : W5.alloc (.cells (madeCells #[.int .i64 0] un) 2) = W6 at hS6 hmk b0 b1 b2 b3 b4 b5 bf bg t0 t1 t2 t3 t4 t5 tf tg d0 d1 d2 d3 d4 d5' df dg
  clear hW6
  go_wp2
  have hS7 := Sg.setG4 (A := [rG kI (.slice (some ⟨W5.heap.size, 0, none⟩) un un) (List.replicate un 0)]) (g := w4.heap.size) (n := 1) (a := ⟨t, q, y, o, u, 0⟩) hS6 ⟨some ⟨W5.heap.size, 0, none⟩, un, un⟩
  have hS8 := Sg.setG (A := rG kI (.slice (some ⟨W5.heap.size, 0, none⟩) un un) (List.replicate un 0) :: rG kG (.slice (some ⟨w4.heap.size, 0, none⟩) 1 1) [⟨t, q, y, o, ⟨some ⟨W5.heap.size, 0, none⟩, un, un⟩, 0⟩] :: gR ⟨t, q, y, o, u, 0⟩ Q2 O V) (g := w.heap.size + 1) (n := 1) (a := zgv) hS7 ⟨t, q, y, o, ⟨some ⟨W5.heap.size, 0, none⟩, un, un⟩, 0⟩
  have hS9 := (Sg.d1 (Sg.d1 hS8)).sub (List.sublist_append_left (_ :: _ :: trY (.slice y.p y.n y.c) Q2 []) _)
  refine bodyPost_ret (v := .agg #[.int .i64 t, .int .i64 q, .slice y.p y.n y.c, .slice o.p o.n o.c, .slice (some ⟨W5.heap.size, 0, none⟩) un un, .int .i64 0]) (by simp [results, Tryz.results20, go_sem, d0, d1, d2, d3, d4, d5']) rfl ⟨_, rfl, y, o, ⟨some ⟨W5.heap.size, 0, none⟩, un, un⟩, Q2, rfl, HQ.out.1, HQ.out.2, hS9⟩
end Go.Proofs.YtobbankkfplooaaGreat.K.G
namespace Go.Proofs.YtobbankkfplooaaGreat.K.G
open Go.Shelf Go.RowKit Go.Joins Y
attribute [local go_sem] Oper.semAt_some

theorem bx6 {w W : World} {v0 v1 v2 v3 v4 v5 : Value} {ty : TypeId} (h : Below (w.alloc (.cells #[v0, v1, v2, v3, v4, v5] ty)).heap.size (w.alloc (.cells #[v0, v1, v2, v3, v4, v5] ty)) W) : W.cell? ⟨w.heap.size, 0, none⟩ = some v0 ∧ W.cell? ⟨w.heap.size, 1, none⟩ = some v1 ∧ W.cell? ⟨w.heap.size, 2, none⟩ = some v2 ∧ W.cell? ⟨w.heap.size, 3, none⟩ = some v3 ∧ W.cell? ⟨w.heap.size, 4, none⟩ = some v4 ∧ W.cell? ⟨w.heap.size, 5, none⟩ = some v5 := by
  have := (((St.nil w).push [v0, v1, v2, v3, v4, v5] ty).step h).has
  simp [Has, HasAt] at this
  simp [this]
theorem gsz_parts {h : Gv} {QL : List YQ} {O V : List Int} {w : World} (H : RdLG w h QL O V) (hz : gsz h QL ≤ 1048576) : h.y.n ≤ 1048576 ∧ h.o.n ≤ 1048576 ∧ h.u.n ≤ 1048576 ∧ (∀ q ∈ QL, q.2.n ≤ 1048576) ∧ ywS (yds QL) ≤ 1048576 := by
  unfold gsz at hz
  have h2 : h.y.n ≤ ysz QL := by unfold ysz; rw [H.yn]; omega
  have h3 := ywS_ysz QL
  refine ⟨by omega, by omega, by omega, fun q hq => ?_, by omega⟩
  have := ysz_mem hq
  rw [(H.y.2 q hq).2] at this
  omega
theorem own_okv' {α : Type} {K : Kd α} {W : World} {base : Nat} {s : Sv} {L : List α} (h : OwG K W base (.slice s.p s.n s.c) L) : okv s := by
  rcases h.2 with ⟨e, _⟩ | ⟨g, cap, cur, e, _⟩
  · right
    obtain ⟨p, n, c⟩ := s
    simp only at e
    cases e; rfl
  · left
    injection e with e1
    exact ⟨_, e1⟩
theorem gR_ok {w W : World} {rs : List Rw} {h : Gv} {QL : List YQ} {O V : List Int} (hS : Sg w W rs) (hm : ∀ r ∈ gR h QL O V, r ∈ rs) : OkG h QL := by
  refine ⟨own_okv' (hS.mem (K := kI) (v := .slice h.o.p h.o.n h.o.c) (L := O) (hm _ (by simp [gR]))), own_okv' (hS.mem (K := kI) (v := .slice h.u.p h.u.n h.u.c) (L := V) (hm _ (by simp [gR]))), fun y hy => own_okv' (hS.mem (K := I.kR) (v := .slice y.2.p y.2.n y.2.c) (L := y.1.L) (hm _ ?_))⟩
  unfold gR trY
  rw [List.append_nil]
  exact List.mem_cons_of_mem _ (List.mem_cons_of_mem _ (List.mem_cons_of_mem _ (List.mem_map.2 ⟨y, hy, rfl⟩)))
theorem gR_len {w W : World} {rs : List Rw} {h : Gv} {QL : List YQ} {O V : List Int} (hS : Sg w W rs) (hm : ∀ r ∈ gR h QL O V, r ∈ rs) : h.y.n = QL.length ∧ h.o.n = O.length ∧ h.u.n = V.length :=
  ⟨OwG.len (hS.mem (K := kY) (v := .slice h.y.p h.y.n h.y.c) (L := QL) (hm _ (by simp [gR, trY]))), OwG.len (hS.mem (K := kI) (v := .slice h.o.p h.o.n h.o.c) (L := O) (hm _ (by simp [gR]))), OwG.len (hS.mem (K := kI) (v := .slice h.u.p h.u.n h.u.c) (L := V) (hm _ (by simp [gR])))⟩
/-- What is answered is small. -/
structure Sml (Y : List Yd) (O V : List Int) : Prop where
  y : Y.length ≤ 1000
  o : O.length ≤ 1000
  u : V.length ≤ 1000
  ys : ∀ y ∈ Y, y.L.length ≤ 1000
theorem sml_zero : Sml [] [] [] := ⟨by simp, by simp, by simp, by simp⟩
theorem sml_dp {d : Dd} (h : DP d) {V : List Int} (hv : V.length = d.V.length) : Sml d.Y d.O V := by
  have h1 := h.n.2
  have h2 := h.on
  have h3 := h.un
  exact ⟨by omega, by omega, by omega, fun y hy => by have := (yB_parts (h.y y hy).1).2.2.1.2; omega⟩
theorem sml_voted {d : Dd} {x : Int} {yes : Bool} {r : Dd × Bool} (hr : (if dB d = true then votedD d x yes else (zdd, false)) = r) : Sml r.1.Y r.1.O r.1.V := by
  by_cases hd : dB d = true
  · rw [if_pos hd] at hr
    subst hr
    unfold votedD; dsimp only; split
    · exact sml_dp (dB_iff.1 hd) (by simp)
    · exact sml_dp (dB_iff.1 hd) rfl
  · rw [if_neg hd] at hr
    subst hr
    exact sml_zero
theorem sml_decided {d : Dd} {off : Bool} {r : Dd × Bool} (hr : (if dB d = true then decidedD d off else (zdd, false)) = r) : Sml r.1.Y r.1.O r.1.V := by
  by_cases hd : dB d = true
  · rw [if_pos hd] at hr
    subst hr
    unfold decidedD; repeat' split
    all_goals exact sml_dp (dB_iff.1 hd) rfl
  · rw [if_neg hd] at hr
    subst hr
    exact sml_zero
theorem sml_forgotten {d : Dd} {r : Dd} (hr : (if dB d = true then forgottenD d else zdd) = r) : Sml r.Y r.O r.V := by
  by_cases hd : dB d = true
  · rw [if_pos hd] at hr
    subst hr
    unfold forgottenD; split
    · exact sml_dp (dB_iff.1 hd) (by simp)
    · exact sml_dp (dB_iff.1 hd) rfl
  · rw [if_neg hd] at hr
    subst hr
    exact sml_zero
theorem ywS_small : ∀ {Y : List Yd}, (∀ y ∈ Y, y.L.length ≤ 1000) → ywS Y ≤ Y.length * 1001
  | [], _ => by simp [ywS]
  | a :: t, h => by
    have ih := ywS_small (Y := t) fun y hy => h y (List.mem_cons_of_mem _ hy)
    have h1 := h a (List.mem_cons_self ..)
    unfold ywS at ih ⊢
    simp only [List.map_cons, List.sum_cons, List.length_cons, Nat.add_mul]
    omega
theorem ans_rd {w W : World} {rs : List Rw} {t q s : Int} {y o u : Sv} {Y : List Yd} {Q : List YQ} {O V : List Int} (hS : Sg w W rs) (hm : ∀ x ∈ gR ⟨t, q, y, o, u, s⟩ Q O V, x ∈ rs) (hq : ∀ q ∈ Q, q.2.n ≤ 1000 ∧ q.1.L.length = q.2.n) (he : yds Q = Y) (hs : Sml Y O V) : RdG W ⟨t, q, y, o, u, s⟩ Q O V := by
  obtain ⟨l1, l2, l3⟩ := gR_len hS hm
  simp only at l1 l2 l3
  have h1 := hs.o
  have h2 := hs.y
  have h3 := hs.u
  rw [← he, yds_len] at h2
  exact gR_rd hS hm (fun q hq' => ⟨by have := (hq q hq').1; omega, (hq q hq').2⟩) ⟨by simp only; omega, by simp only; omega, by simp only; omega⟩
theorem mk_pos (Q : List YQ) (a b : Nat) : ¬ mkE 1 Q + a + b < 0 := by
  have h := mkE_ge Q 1
  omega
theorem ans_mark {w W : World} {A Bs : List Rw} {t q s : Int} {y o u : Sv} {Y : List Yd} {Q : List YQ} {O V : List Int} (hS : Sg w W (A ++ (gR ⟨t, q, y, o, u, s⟩ Q O V ++ Bs))) (hq : ∀ q ∈ Q, q.2.n ≤ 1000 ∧ q.1.L.length = q.2.n) (he : yds Q = Y) (hs : Sml Y O V) {v : Int} (hv : mkE 1 Q + o.n + u.n = v) :
    Calls Tryz.prog 26 #[Gv.v ⟨t, q, y, o, u, s⟩, .int .i64 1] W fun e w' => e = .returned (.int .i64 v) ∧ Sg w w' (A ++ (gR ⟨t, q, y, o, u, s⟩ (mkY 1 Q) (mk1 (mkE 1 Q) o.n) (mk1 (mkE 1 Q + o.n) u.n) ++ Bs)) := by
  obtain ⟨l1, l2, l3⟩ := gR_len hS (h := ⟨t, q, y, o, u, s⟩) (QL := Q) (O := O) (V := V) (fun x hx => by simp [hx])
  simp only at l1 l2 l3
  have h1 := hs.o
  have h2 := hs.y
  have h3 := hs.u
  have h4 := ywS_small hs.ys
  rw [← he, yds_len] at h2
  have h5 := ywt_eq fun q hq' => (hq q hq').2
  rw [he] at h5
  rw [← he, yds_len, he] at h4
  exact markDeal_any ⟨t, q, y, o, u, s⟩ Q O V A Bs w W hS (by simp only; omega) (by simp only; omega) (by simp only; omega) (fun q hq' => by have := (hq q hq').1; omega) (by omega) hv
theorem ans_held {w W : World} {rs : List Rw} {t q s : Int} {y o u : Sv} {Y : List Yd} {Q : List YQ} {O V : List Int} (hS : Sg w W rs) (hm : ∀ x ∈ gR ⟨t, q, y, o, u, s⟩ (mkY 1 Q) (mk1 (mkE 1 Q) o.n) (mk1 (mkE 1 Q + o.n) u.n), x ∈ rs) (hb : o.n ≤ 1000 ∧ u.n ≤ 1000) (hq : ∀ q ∈ Q, q.2.n ≤ 1000 ∧ q.1.L.length = q.2.n) (he : yds Q = Y) (hs : Sml Y O V) {v : Int} (hv : mkE 1 Q + o.n + u.n = v) :
    Calls Tryz.prog 27 #[Gv.v ⟨t, q, y, o, u, s⟩, .int .i64 1] W fun e w' => e = .returned (.int .i64 v) ∧ Below W.heap.size W w' := by
  obtain ⟨l1, l2, l3⟩ := gR_len hS hm
  simp only at l1 l2 l3
  rw [mkY_len] at l1
  have h2 := hs.y
  have h4 := ywS_small hs.ys
  rw [← he, yds_len] at h2
  have h5 := ywt_eq fun q hq' => (hq q hq').2
  rw [he] at h5
  rw [← he, yds_len, he] at h4
  refine heldDeal_any ⟨t, q, y, o, u, s⟩ Q W ?_ ?_ ?_ l1.symm (by simp only; omega) (by simp only; omega) (by simp only; omega) (fun q hq' => by have := (hq q hq').1; omega) (by omega) hv
  · refine trY_rd hS (n := y.n) (c := y.c) (fun x hx => hm x (by unfold gR; simp only [List.mem_cons]; exact .inr (.inr hx))) (fun q hq' => (mkY_mem hq').1)
  · exact OwG.sl (hS.mem (K := kI) (v := .slice o.p o.n o.c) (L := mk1 (mkE 1 Q) o.n) (hm _ (by simp [gR])))
  · exact OwG.sl (hS.mem (K := kI) (v := .slice u.p u.n u.c) (L := mk1 (mkE 1 Q + o.n) u.n) (hm _ (by simp [gR])))
end Go.Proofs.YtobbankkfplooaaGreat.K.G
