/-
  Synced: the spec's, whatever copies.
-/
import Derived.Test.YtppoafggiejdgaaGreatKY8
import Derived.Test.YtppoafggiejdgaaGreatKY4
namespace Go.Proofs.YtppoafggiejdgaaGreat.K.Y
open Go.Shelf Go.RowKit Go.Joins
attribute [local go_sem] Oper.semAt_some

set_option maxRecDepth 100000 in
set_option maxHeartbeats 4000000 in
theorem sSynced_of (HCopy : ∀ (h : Hv) (R : List Rc) (QL : List YQ) (O : List Int) (w : World), RdS w h R QL O → OkS h QL → h.r.n ≤ 1000 → h.y.n ≤ 1000 → h.o.n ≤ 1000 → (∀ q ∈ QL, q.2.n ≤ 1000) → Calls Tryz.prog 15 #[h.v] w fun e w' => ∃ (r y o : Sv) (Q2 : List YQ), e = .returned (Hv.v ⟨r, y, o, h.g, h.s⟩) ∧ yds Q2 = yds QL ∧ (∀ q ∈ Q2, q.2.n ≤ 1000 ∧ q.1.L.length = q.2.n) ∧ Sg w w' (shR ⟨r, y, o, h.g, h.s⟩ R Q2 O)) {h : Hv} {R R' : List Rc} {QL : List YQ} {Y' : List Yd} {O O' : List Int} {b : Bool} {g' : ByteArray} {s' : Int} (hv : shB R (yds QL) O h.g.size h.s = b) (hr : SyR b R R' (yds QL) Y' O O' h.g g' s') (w : World) (H : RdS w h R QL O) (hk : OkS h QL) :
    Calls Tryz.prog 5 #[h.v] w fun e w' => ∃ (r y o : Sv) (Q2 : List YQ), e = .returned (Hv.v ⟨r, y, o, g', s'⟩) ∧ yds Q2 = Y' ∧ (∀ q ∈ Q2, q.2.n ≤ 1000 ∧ q.1.L.length = q.2.n) ∧ Sg w w' (shR ⟨r, y, o, g', s'⟩ R' Q2 O') := by
  have HI := Lib.hid (fun W (hb : Below w.heap.size w W) => sShardOk_v hv W (H.step hb))
  cases b
  · obtain ⟨rfl, rfl, rfl, rfl, rfl⟩ := hr.f rfl
    obtain ⟨⟨rp, rn, rc⟩, ⟨yp, yn, yc⟩, ⟨op, on, oc⟩, g, s⟩ := h
    have hS1 := (((Sg.nil w).lit kSh [⟨⟨rp, rn, rc⟩, ⟨yp, yn, yc⟩, ⟨op, on, oc⟩, g, s⟩] 1 rfl (by decide) #[.slice rp rn rc, .slice yp yn yc, .slice op on oc, .string g, .int .i64 s] rfl).lit kSh [zhv] 1 rfl (by decide) #[.slice none 0 0, .slice none 0 0, .slice none 0 0, .string ByteArray.empty, .int .i64 0] rfl)
    simp only [World.size_alloc] at hS1
    clear H hk hv hr
    go_enter Tryz.func5, Tryz.ntmps5
    go_wp2_with (go_at_call 14; refine (HI.out _ hS1.bel).mono ?_; rintro e w1 ⟨rfl, hb1⟩; have hS2 := hS1.step hb1; obtain ⟨v0, v1, v2, v3, v4, vf, vg⟩ := sh5 hS2 (K := kSh) (g := w.heap.size + 1) (n := 1) (q := zhv) (by simp) rfl; simp only [zhv] at v0 v1 v2 v3 v4)
    have hS3 := Sg.setH (A := []) (g := w.heap.size + 1) (n := 1) (a := zhv) hS2 zhv
    refine bodyPost_ret (v := .agg #[.slice none 0 0, .slice none 0 0, .slice none 0 0, .string ByteArray.empty, .int .i64 0]) (by simp [results, Tryz.results5, go_sem, v0, v1, v2, v3, v4]; rfl) rfl ⟨⟨none, 0, 0⟩, ⟨none, 0, 0⟩, ⟨none, 0, 0⟩, [], rfl, rfl, by simp, ?_⟩
    exact sg_zero hS3.bel
  · obtain ⟨rfl, rfl, rfl, rfl, rfl⟩ := hr.t rfl
    obtain ⟨p1, p2, p3, p4, p5⟩ := shB_parts hv
    have q1 := H.rn
    have q2 := H.yn
    have q3 := H.on
    rw [yds_len] at p2
    have hsm : ∀ q ∈ QL, q.2.n ≤ 1000 := fun q hq => by
      have h1 := p5 q.1 (List.mem_map.2 ⟨q, hq, rfl⟩)
      have h2 := (H.y.2 q hq).2
      omega
    have HC := Lib.hid (fun W (hb : Below w.heap.size w W) => HCopy h R' QL O' W (H.step hb) hk (by omega) (by omega) (by omega) hsm)
    obtain ⟨⟨rp, rn, rc⟩, ⟨yp, yn, yc⟩, ⟨op, on, oc⟩, g, s⟩ := h
    simp only at HI HC p4 ⊢
    have hS1 := (((Sg.nil w).lit kSh [⟨⟨rp, rn, rc⟩, ⟨yp, yn, yc⟩, ⟨op, on, oc⟩, g, s⟩] 1 rfl (by decide) #[.slice rp rn rc, .slice yp yn yc, .slice op on oc, .string g, .int .i64 s] rfl).lit kSh [zhv] 1 rfl (by decide) #[.slice none 0 0, .slice none 0 0, .slice none 0 0, .string ByteArray.empty, .int .i64 0] rfl)
    simp only [World.size_alloc] at hS1
    clear H hk hv hr hsm p5 q1 q2 q3
    go_enter Tryz.func5, Tryz.ntmps5
    go_wp2_with (first
      | (go_at_call 14; refine (HI.out _ hS1.bel).mono ?_; rintro e w1 ⟨rfl, hb1⟩; have hS2 := hS1.step hb1; obtain ⟨y0, y1, y2, y3, y4, yf, yg⟩ := sh5 hS2 (K := kSh) (g := w.heap.size) (n := 1) (q := ⟨⟨rp, rn, rc⟩, ⟨yp, yn, yc⟩, ⟨op, on, oc⟩, g, s⟩) (by simp) rfl; simp only at y0 y1 y2 y3 y4)
      | (go_at_call 15; (refine (HC.out _ hS2.bel).mono ?_; rintro e w4 ⟨r, y, o, Q2, rfl, hq1, hq2, h4⟩; have hS4 := hS2.addL h4; clear y0 y1 y2 y3 y4 yf yg; obtain ⟨y0, y1, y2, y3, y4, yf, yg⟩ := sh5 hS4 (K := kSh) (g := w.heap.size) (n := 1) (q := ⟨⟨rp, rn, rc⟩, ⟨yp, yn, yc⟩, ⟨op, on, oc⟩, g, s⟩) (by simp) rfl; obtain ⟨v0, v1, v2, v3, v4, vf, vg⟩ := sh5 hS4 (K := kSh) (g := w.heap.size + 1) (n := 1) (q := zhv) (by simp) rfl; simp only [zhv] at y0 y1 y2 y3 y4 v0 v1 v2 v3 v4; have hne : ¬ w.heap.size + 1 = w4.heap.size := (by omega); have hne2 : ¬ w4.heap.size = w.heap.size + 1 := (by omega); have hne3 : ¬ w.heap.size = w4.heap.size := (by omega))))
    have hS5 := Sg.setH (A := shR ⟨r, y, o, g, g.size⟩ R' Q2 O') (g := w.heap.size + 1) (n := 1) (a := zhv) hS4 ⟨r, y, o, g, g.size⟩
    dsimp only at hS5
    have hS6 : Sg w (World.alloc _ (.cells #[.slice r.p r.n r.c, .slice y.p y.n y.c, .slice o.p o.n o.c, .string g, .int .i64 g.size] 31)) _ := hS5.lit kSh [⟨r, y, o, g, g.size⟩] 1 rfl (by decide) #[.slice r.p r.n r.c, .slice y.p y.n y.c, .slice o.p o.n o.c, .string g, .int .i64 g.size] rfl
    obtain ⟨r0, r1, r2, r3, r4, _, _⟩ := sh5 hS6 (K := kSh) (g := w.heap.size + 1) (n := 1) (q := ⟨r, y, o, g, g.size⟩) (by simp) rfl
    dsimp only at r0 r1 r2 r3 r4
    refine bodyPost_ret (v := .agg #[.slice r.p r.n r.c, .slice y.p y.n y.c, .slice o.p o.n o.c, .string g, .int .i64 g.size]) (by simp [results, Tryz.results5, go_sem, r0, r1, r2, r3, r4]) rfl ⟨r, y, o, Q2, rfl, hq1, hq2, ?_⟩
    exact hS6.sub (List.Sublist.trans (List.sublist_append_left ..) (List.sublist_cons_self ..))
end Go.Proofs.YtppoafggiejdgaaGreat.K.Y
