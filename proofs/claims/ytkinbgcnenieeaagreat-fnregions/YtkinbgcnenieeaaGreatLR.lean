/-
  The law of regions, walked.
-/
import Derived.Test.YtkinbgcnenieeaaGreatLK
import Derived.Test.YtkinbgcnenieeaaGreatRG3
namespace Go.Proofs.YtkinbgcnenieeaaGreat
open Go.RowKit Go.Joins M
attribute [local go_sem] Oper.semAt_some

/-- A Spot. -/
def kSp : Kd (Int × Int) := ⟨32, 2, fun q => [.int .i64 q.1, .int .i64 q.2], fun _ => rfl⟩
theorem Sg.two {α : Type} {K : Kd α} {w W : World} {rs : List Rw} {g n : Nat} {p : α} {a b : Value} (h : Sg w W rs) (hm : rG K (.slice (some ⟨g, 0, none⟩) 1 n) [p] ∈ rs) (hv : K.vs p = [a, b]) :
    W.cell? ⟨g, 0, none⟩ = some a ∧ W.cell? ⟨g, 1, none⟩ = some b ∧ (∀ j, W.frozen? ⟨g, j, none⟩ = false) ∧ g < W.heap.size := by
  have ho := h.mem hm
  have h0 := (OwG.cs ho).at (k := 0) (a := p) rfl (i := 0) (u := a) (by rw [hv]; rfl)
  have h1 := (OwG.cs ho).at (k := 0) (a := p) rfl (i := 1) (u := b) (by rw [hv]; rfl)
  simp only [Nat.zero_mul, Nat.zero_add] at h0 h1
  exact ⟨h0, h1, OwG.fz ho, (OwG.cs ho).1⟩
theorem spotC {w W : World} {C : Cu} {rs : List Rw} (h : Sc w W C rs) :
    Calls Tryz.prog 20 #[.pointer (some ⟨C.g, 0, none⟩)] W fun e w' => ∃ x y : Int, e = .returned (.agg #[.int .i64 x, .int .i64 y]) ∧ Sc w w' C rs :=
  (drawSpot_any _ _ _ _ _ W h.cur).mono fun _ _ ⟨x, y, h1, h4, h5⟩ => ⟨x, y, h1, h.call h4 h5⟩
theorem Sc.setS {w W : World} {C : Cu} {A Bs : List Rw} {g n : Nat} {p : Int × Int} (h : Sc w W C (A ++ rG kSp (.slice (some ⟨g, 0, none⟩) 1 n) [p] :: Bs)) (x y : Int) :
    Sc w ((W.setCell ⟨g, 0, none⟩ (.int .i64 x)).setCell ⟨g, 1, none⟩ (.int .i64 y)) C (A ++ rG kSp (.slice (some ⟨g, 0, none⟩) 1 n) [(x, y)] :: Bs) := by
  have hn := OwG.len (h.sg.mem (K := kSp) (v := .slice (some ⟨g, 0, none⟩) 1 n) (L := [p]) (by simp))
  have h0 := h.raw 0 (.int .i64 x) (L' := [(x, p.2)]) (Sg.setRaw (xs := [.int .i64 p.1, .int .i64 p.2]) h.sg 0 (.int .i64 x))
  exact h0.raw 1 (.int .i64 y) (L' := [(x, y)]) (Sg.setRaw (xs := [.int .i64 x, .int .i64 p.2]) h0.sg 1 (.int .i64 y))
set_option maxRecDepth 100000 in
set_option maxHeartbeats 4000000 in
theorem drawRegion_any (a : Option Addr) (len cap : Nat) (zs : List Int) (g : Nat) (w : World) (hl : len ≤ 4096) (hr : Rd w g a len zs) :
    Calls Tryz.prog 5 #[.slice a len cap] w fun e w' => ∃ (tn tag : Int) (q : Option Addr) (n cp : Nat) (X : List CQ) (b : Bool), e = .returned (.tuple #[.agg #[.int .i64 tn, .slice q n cp, .int .i64 tag], .bool b]) ∧ Hid (pOk X n) ∧ Sg w w' (trX (.slice q n cp) X []) := by
  have hS0 := (Sg.nil w).lit kP [zpv] 1 rfl (by decide) #[.int .i64 0, .slice none 0 0, .int .i64 0] rfl
  change Sg w (w.alloc (.cells #[.int .i64 0, .slice none 0 0, .int .i64 0] 26)) _ at hS0
  go_enter Tryz.func5, Tryz.ntmps5
  go_upto_region 3 with (first
    | (go_at_call 14; refine (newC hS0 hl hr).mono ?_; rintro e w1 ⟨C, rfl, hS1⟩)
    | (go_at_call 15; refine (paperC hS1).mono ?_; rintro e w2 ⟨key, tn, tag, q, n, cp, X, rfl, hX, hS2⟩; have hS3 := hS2.lit kP [⟨tn, ⟨q, n, cp⟩, tag⟩] 1 rfl (by decide) #[.int .i64 tn, .slice q n cp, .int .i64 tag] rfl; change Sc w (w2.alloc (.cells #[.int .i64 tn, .slice q n cp, .int .i64 tag] 26)) _ _ at hS3))
  clear hS0 hS1 hS2
  generalize w2.heap.size = b6 at *
  generalize w2.alloc _ = W3 at *
  have hSp := Sc.setP (A := rG kP (.slice (some ⟨b6, 0, none⟩) 1 1) [⟨tn, ⟨q, n, cp⟩, tag⟩] :: trX (.slice q n cp) X []) (g := w.heap.size) (n := 1) hS3 ⟨tn, ⟨q, n, cp⟩, tag⟩
  have hSq := Sc.setP (A := rG kP (.slice (some ⟨b6, 0, none⟩) 1 1) [⟨tn, ⟨q, n, cp⟩, tag⟩] :: trX (.slice q n cp) X []) (g := w.heap.size) (n := 1) hS3.dr ⟨tn, ⟨q, n, cp⟩, tag⟩
  obtain ⟨y0, y1, y2, yf, yg⟩ := hS3.sg.three (K := kP) (g := b6) (n := 1) (p := ⟨tn, ⟨q, n, cp⟩, tag⟩) (by simp) rfl
  obtain ⟨z0, z1, z2, zf, zg⟩ := hS3.sg.three (K := kP) (g := w.heap.size) (n := 1) (p := zpv) (by simp) rfl
  go_region_with (go_at_call 16; refine (onceC (w := w) (C := C) (by first | with_reducible exact hS3 | with_reducible exact hS3.dr | with_reducible exact hSp | with_reducible exact hSp.dr | with_reducible exact hSq) 2 (by decide) (by decide)).mono ?_; rintro e w9 ⟨b9, rfl, hrow⟩; obtain ⟨a0, a1, a2, af, ag⟩ := hrow.sg.three (K := kP) (g := b6) (n := 1) (p := ⟨tn, ⟨q, n, cp⟩, tag⟩) (by simp) rfl; (first | obtain ⟨v0, v1, v2, vf, vg⟩ := hrow.sg.three (K := kP) (g := w.heap.size) (n := 1) (p := zpv) (by simp) rfl | obtain ⟨v0, v1, v2, vf, vg⟩ := hrow.sg.three (K := kP) (g := w.heap.size) (n := 1) (p := ⟨tn, ⟨q, n, cp⟩, tag⟩) (by simp) rfl))
  all_goals go_wp2
  all_goals first
    | (have hF := Sc.setP (A := rG kP (.slice (some ⟨b6, 0, none⟩) 1 1) [⟨tn, ⟨q, n, cp⟩, tag⟩] :: trX (.slice q n cp) X []) (g := w.heap.size) (n := 1) (a := zpv) hrow ⟨tn, ⟨q, n, cp⟩, tag⟩; obtain ⟨u0, u1, u2, uf, ug⟩ := hF.sg.three (K := kP) (g := w.heap.size) (n := 1) (p := ⟨tn, ⟨q, n, cp⟩, tag⟩) (by simp) rfl; refine bodyPost_ret (v := .tuple #[.agg #[.int .i64 tn, .slice q n cp, .int .i64 tag], .bool b9]) (by simp [results, Tryz.results5, go_sem, u0, u1, u2]) rfl ⟨tn, tag, q, n, cp, X, b9, rfl, hX, ?_⟩; first | with_reducible exact hF.sg.sub (.cons _ (List.sublist_append_left _ _)) | with_reducible exact hF.dr.sg.sub (.cons _ (List.sublist_append_left _ _)))
    | (refine bodyPost_ret (v := .tuple #[.agg #[.int .i64 tn, .slice q n cp, .int .i64 tag], .bool b9]) (by simp [results, Tryz.results5, go_sem, v0, v1, v2]) rfl ⟨tn, tag, q, n, cp, X, b9, rfl, hX, ?_⟩; first | with_reducible exact hrow.sg.sub (.cons _ (List.sublist_append_left _ _)) | with_reducible exact hrow.dr.sg.sub (.cons _ (List.sublist_append_left _ _)))

theorem mem_ins {m : T3} (hm : m.ok = true) {x y : Int} (hs : spB x y = true) : insT ⟨8, x, y⟩ m = true ↔ mem (⟨8, x, y⟩ : T3).lo m := by
  have hp : (⟨8, x, y⟩ : T3).ok = true := cell8_ok hs
  have hsz : (⟨8, x, y⟩ : T3).hi = (⟨8, x, y⟩ : T3).lo + 1 := rfl
  rw [ins_iff hp hm]
  unfold mem
  constructor
  · rintro ⟨h1, h2⟩; exact ⟨h1, by omega⟩
  · rintro ⟨h1, h2⟩; exact ⟨h1, by omega⟩
theorem have_cov {K : List T3} (hK : ∀ c ∈ K, c.ok = true) {x y : Int} (hs : spB x y = true) : haveB K ⟨8, x, y⟩ = true ↔ cov K (⟨8, x, y⟩ : T3).lo := by
  unfold haveB cov
  rw [List.any_eq_true]
  constructor
  · rintro ⟨m, hm, h⟩; exact ⟨m, hm, (mem_ins (hK m hm) hs).mp h⟩
  · rintro ⟨m, hm, h⟩; exact ⟨m, hm, (mem_ins (hK m hm) hs).mpr h⟩
/-- What all Clauses reach the region reaches, and nothing else. -/
theorem reach_all {tn : Int} {L : List Cl} {tag : Int} (hp : ppB tn L tag = true) (b : Bool) (x y : Int) : L.all (reB b x y) = reachI (rgL (lsB b L)) x y := by
  obtain ⟨_, hl, hcl, _⟩ := ppB_t hp
  obtain ⟨hok, h8⟩ := lsB_ok hcl b
  have hlen : (lsB b L).length ≤ 6 := by unfold lsB; rw [List.length_map]; exact hl.2
  have hkr := rgL_okL hok h8 hlen
  cases hs : spB x y
  · have h1 : L.all (reB b x y) = false := by
      match L, hl with
      | c :: t, _ =>
        have : reB b x y c = false := by unfold reB reachI; rw [hs, Bool.and_false, Bool.false_and]
        simp [this]
    rw [h1]
    unfold reachI
    rw [hs, Bool.and_false, Bool.false_and]
  · have hin := ok_in (c := ⟨8, x, y⟩) (cell8_ok hs)
    have hsz : (⟨8, x, y⟩ : T3).hi = (⟨8, x, y⟩ : T3).lo + 1 := rfl
    have hz : mem (⟨8, x, y⟩ : T3).lo zro := zro_mem.mpr ⟨hin.1, by omega⟩
    unfold reachI
    rw [hkr, hs, Bool.true_and, Bool.true_and, Bool.eq_iff_iff, List.all_eq_true, have_cov (rgL_ok hok) hs, ← (rgL_of hok).has _ hz]
    constructor
    · intro h K hK
      unfold lsB at hK
      obtain ⟨c, hc, rfl⟩ := List.mem_map.mp hK
      have h1 := h c hc
      have h2 := sdL_ok (List.all_eq_true.mp hcl c hc) b
      unfold reB reachI at h1
      rw [h2.2, hs, Bool.true_and, Bool.true_and, have_cov (okL_t h2.2) hs] at h1
      exact h1
    · intro h c hc
      have h2 := sdL_ok (List.all_eq_true.mp hcl c hc) b
      unfold reB reachI
      rw [h2.2, hs, Bool.true_and, Bool.true_and, have_cov (okL_t h2.2) hs]
      exact h _ (List.mem_map.mpr ⟨c, hc, rfl⟩)
theorem rgP_len {tn : Int} {L : List Cl} {tag : Int} {b : Bool} : (rgP tn L tag b).length ≤ 49 := by
  unfold rgP
  cases hp : ppB tn L tag
  · exact Nat.zero_le _
  · obtain ⟨_, hl, hcl, _⟩ := ppB_t hp
    obtain ⟨hok, h8⟩ := lsB_ok hcl b
    have := rgL_len hok h8
    have e : (lsB b L).length = L.length := by unfold lsB; rw [List.length_map]
    simp only [cond_true]
    omega
theorem allows_reach {tn : Int} {L : List Cl} {tag x y : Int} {b : Bool} {now : Int} (h : alB tn L tag x y b now = true) : reachI (rgP tn L tag b) x y = true := by
  unfold alB at h
  rw [Bool.and_eq_true, Bool.and_eq_true, Bool.and_eq_true] at h
  unfold rgP
  rw [h.1, cond_true, ← reach_all h.1 b x y]
  exact h.2.2.2
theorem reach_pos {K : List T3} {x y : Int} (h : reachI K x y = true) : K.length ≠ 0 := by
  unfold reachI haveB at h
  cases K with
  | nil => simp at h
  | cons a t => simp
theorem allows_lasts {tn : Int} {L : List Cl} {tag x y : Int} {b : Bool} (hl : L.all (laB 0) = true) : alB tn L tag x y b 0 = reachI (rgP tn L tag b) x y := by
  unfold alB rgP
  cases hp : ppB tn L tag
  · unfold reachI haveB; simp
  · rw [hl, cond_true, ← reach_all hp b x y]
    rfl
end Go.Proofs.YtkinbgcnenieeaaGreat
namespace Go.Proofs.YtkinbgcnenieeaaGreat
open Go.RowKit Go.Joins M
attribute [local go_sem] Oper.semAt_some

theorem Sc.toP {w W : World} {C : Cu} {A B : List Rw} {b : Nat} {x : Pv} (h : Sc w W C (A ++ rG kP (.slice (some ⟨b, 0, none⟩) 1 1) [x] :: B)) (v : Pv) :
    Sc w (((W.setCell ⟨b, 0, none⟩ (.int .i64 v.tn)).setCell ⟨b, 1, none⟩ (.slice v.s.p v.s.n v.s.c)).setCell ⟨b, 2, none⟩ (.int .i64 v.tag)) C (A ++ rG kP (.slice (some ⟨b, 0, none⟩) 1 1) [v] :: B) := Sc.setP h v
theorem Sc.toS {w W : World} {C : Cu} {A B : List Rw} {b : Nat} {r : Rw} {p : Int × Int} (h : Sc w W C (A ++ r :: rG kSp (.slice (some ⟨b, 0, none⟩) 1 1) [p] :: B)) (x y : Int) :
    Sc w ((W.setCell ⟨b, 0, none⟩ (.int .i64 x)).setCell ⟨b, 1, none⟩ (.int .i64 y)) C (A ++ r :: rG kSp (.slice (some ⟨b, 0, none⟩) 1 1) [(x, y)] :: B) := by
  have h1 := Sc.setS (A := A ++ [r]) (g := b) (n := 1) (p := p) (Bs := B) (by simpa [List.append_assoc] using h) x y
  simpa [List.append_assoc] using h1
theorem Sg.spot {w W : World} {rs : List Rw} {g n : Nat} {x y : Int} (h : Sg w W rs) (hm : rG kSp (.slice (some ⟨g, 0, none⟩) 1 n) [(x, y)] ∈ rs) :
    W.cell? ⟨g, 0, none⟩ = some (.int .i64 x) ∧ W.cell? ⟨g, 1, none⟩ = some (.int .i64 y) ∧ (∀ j, W.frozen? ⟨g, j, none⟩ = false) ∧ g < W.heap.size := h.two hm rfl
set_option maxRecDepth 100000 in
set_option maxHeartbeats 8000000 in
theorem drawAllows_any (a : Option Addr) (len cap : Nat) (zs : List Int) (g : Nat) (w : World) (hl : len ≤ 4096) (hr : Rd w g a len zs) :
    Calls Tryz.prog 7 #[.slice a len cap] w fun e w' => ∃ (tn tag : Int) (q : Option Addr) (n cp : Nat) (X : List CQ) (x y : Int) (b : Bool) (now : Int), e = .returned (.tuple #[.agg #[.int .i64 tn, .slice q n cp, .int .i64 tag], .agg #[.int .i64 x, .int .i64 y], .bool b, .int .i64 now]) ∧ Hid (pOk X n) ∧ Sg w w' (trX (.slice q n cp) X []) := by
  have hS0 := ((Sg.nil w).lit kP [zpv] 1 rfl (by decide) #[.int .i64 0, .slice none 0 0, .int .i64 0] rfl).lit kSp [(0, 0)] 1 rfl (by decide) #[.int .i64 0, .int .i64 0] rfl
  simp only [World.size_alloc] at hS0
  change Sg w ((w.alloc (.cells #[.int .i64 0, .slice none 0 0, .int .i64 0] 26)).alloc (.cells #[.int .i64 0, .int .i64 0] 32)) _ at hS0
  go_enter Tryz.func7, Tryz.ntmps7
  go_upto_region 5 with (first
    | (go_at_call 14; refine (newC (hS0.perm (.swap _ _ _)) hl hr).mono ?_; rintro e w1 ⟨C, rfl, hS1⟩)
    | (go_at_call 15; refine (paperC hS1).mono ?_; rintro e w2 ⟨key, tn, tag, q, n, cp, X, rfl, hX, hS2⟩; have hS3 := hS2.lit kP [⟨tn, ⟨q, n, cp⟩, tag⟩] 1 rfl (by decide) #[.int .i64 tn, .slice q n cp, .int .i64 tag] rfl; change Sc w (w2.alloc (.cells #[.int .i64 tn, .slice q n cp, .int .i64 tag] 26)) _ _ at hS3)
    | (go_at_call 20; refine (spotC hS3).mono ?_; rintro e w4 ⟨x, y, rfl, hS4⟩; have hS5 := hS4.lit kSp [(x, y)] 1 rfl (by decide) #[.int .i64 x, .int .i64 y] rfl; change Sc w (w4.alloc (.cells #[.int .i64 x, .int .i64 y] 32)) _ _ at hS5)
    | (go_at_call 16; refine (onceC hS5 2 (by decide) (by decide)).mono ?_; rintro e w6 ⟨b6, rfl, hS6⟩))
  have g8 : w.heap.size + 1 < w2.heap.size := (hS2.sg.spot (g := w.heap.size + 1) (n := 1) (x := 0) (y := 0) (by simp)).2.2.2
  have g9 : w.heap.size + 1 < w4.heap.size := (hS4.sg.spot (g := w.heap.size + 1) (n := 1) (x := 0) (y := 0) (by simp)).2.2.2
  clear hS0 hS1 hS2 hS3 hS4 hS5
  generalize w2.heap.size = p8 at *
  generalize w4.heap.size = p9 at *
  have hS7 : Sc w w6 C ((rG kSp (.slice (some ⟨p9, 0, none⟩) 1 1) [(x, y)] :: rG kP (.slice (some ⟨p8, 0, none⟩) 1 1) [⟨tn, ⟨q, n, cp⟩, tag⟩] :: trX (.slice q n cp) X []) ++ rG kP (.slice (some ⟨w.heap.size, 0, none⟩) 1 1) [zpv] :: rG kSp (.slice (some ⟨w.heap.size + 1, 0, none⟩) 1 1) [(0, 0)] :: []) := hS6
  clear hS6
  have n1 : ¬ p8 = w.heap.size := by omega
  have n2 : ¬ p8 = w.heap.size + 1 := by omega
  have n3 : ¬ p9 = w.heap.size := by omega
  have n4 : ¬ p9 = w.heap.size + 1 := by omega
  have n5 : ¬ w.heap.size = p8 := by omega
  have n6 : ¬ w.heap.size + 1 = p8 := by omega
  have n7 : ¬ w.heap.size = p9 := by omega
  have n8 : ¬ w.heap.size + 1 = p9 := by omega
  have hP1 := Sc.toP hS7 ⟨tn, ⟨q, n, cp⟩, tag⟩
  have hP2 := Sc.toP hS7.dr ⟨tn, ⟨q, n, cp⟩, tag⟩
  have hQ1 := Sc.toS hS7 x y
  have hQ2 := Sc.toS hS7.dr x y
  have hR1 := Sc.toS hP1 x y
  have hR2 := Sc.toS hP2 x y
  have hT1 := Sc.toP hQ1 ⟨tn, ⟨q, n, cp⟩, tag⟩
  have hT2 := Sc.toP hQ2 ⟨tn, ⟨q, n, cp⟩, tag⟩
  obtain ⟨y0, y1, y2, yf, yg⟩ := hS7.sg.three (K := kP) (g := p8) (n := 1) (p := ⟨tn, ⟨q, n, cp⟩, tag⟩) (by simp) rfl
  obtain ⟨x0, x1, xf, xg⟩ := hS7.sg.spot (g := p9) (n := 1) (x := x) (y := y) (by simp)
  obtain ⟨z0, z1, z2, zf, zg⟩ := hS7.sg.three (K := kP) (g := w.heap.size) (n := 1) (p := zpv) (by simp) rfl
  obtain ⟨s0, s1, sf, sg⟩ := hS7.sg.spot (g := w.heap.size + 1) (n := 1) (x := 0) (y := 0) (by simp)
  go_region_with (go_at_call 21; refine (fromC (w := w) (C := C) (by first | with_reducible exact hS7 | with_reducible exact hS7.dr | with_reducible exact hP1 | with_reducible exact hP1.dr | with_reducible exact hP2 | with_reducible exact hQ1 | with_reducible exact hQ1.dr | with_reducible exact hQ2 | with_reducible exact hR1 | with_reducible exact hR1.dr | with_reducible exact hR2 | with_reducible exact hT1 | with_reducible exact hT1.dr | with_reducible exact hT2) (-1) 50 (by decide) (by decide) (by decide) (by decide)).mono ?_; rintro e w9 ⟨now, rfl, _, _, hrow⟩; obtain ⟨a0, a1, a2, af, ag⟩ := hrow.sg.three (K := kP) (g := p8) (n := 1) (p := ⟨tn, ⟨q, n, cp⟩, tag⟩) (by simp) rfl; obtain ⟨c0, c1, cf, cg⟩ := hrow.sg.spot (g := p9) (n := 1) (x := x) (y := y) (by simp); (first | obtain ⟨v0, v1, v2, vf, vg⟩ := hrow.sg.three (K := kP) (g := w.heap.size) (n := 1) (p := zpv) (by simp) rfl | obtain ⟨v0, v1, v2, vf, vg⟩ := hrow.sg.three (K := kP) (g := w.heap.size) (n := 1) (p := ⟨tn, ⟨q, n, cp⟩, tag⟩) (by simp) rfl); (first | obtain ⟨t0, t1, tf, tg⟩ := hrow.sg.spot (g := w.heap.size + 1) (n := 1) (x := 0) (y := 0) (by simp) | obtain ⟨t0, t1, tf, tg⟩ := hrow.sg.spot (g := w.heap.size + 1) (n := 1) (x := x) (y := y) (by simp)))
  all_goals go_wp2
  all_goals first
    | (have hF := Sc.toS (Sc.toP (x := zpv) hrow ⟨tn, ⟨q, n, cp⟩, tag⟩) x y; obtain ⟨u0, u1, u2, uf, ug⟩ := hF.sg.three (K := kP) (g := w.heap.size) (n := 1) (p := ⟨tn, ⟨q, n, cp⟩, tag⟩) (by simp) rfl; obtain ⟨r0, r1, rf, rg⟩ := hF.sg.spot (g := w.heap.size + 1) (n := 1) (x := x) (y := y) (by simp); refine bodyPost_ret (v := .tuple #[.agg #[.int .i64 tn, .slice q n cp, .int .i64 tag], .agg #[.int .i64 x, .int .i64 y], .bool b6, .int .i64 now]) (by simp [results, Tryz.results7, go_sem, u0, u1, u2, r0, r1]) rfl ⟨tn, tag, q, n, cp, X, x, y, b6, now, rfl, hX, ?_⟩; first | with_reducible exact hF.sg.sub (List.Sublist.trans (.cons _ (.cons _ (List.Sublist.refl _))) (List.sublist_append_left _ _)) | with_reducible exact hF.dr.sg.sub (List.Sublist.trans (.cons _ (.cons _ (List.Sublist.refl _))) (List.sublist_append_left _ _)))
    | (have hF := Sc.toP (x := zpv) (Sc.toS hrow x y) ⟨tn, ⟨q, n, cp⟩, tag⟩; obtain ⟨u0, u1, u2, uf, ug⟩ := hF.sg.three (K := kP) (g := w.heap.size) (n := 1) (p := ⟨tn, ⟨q, n, cp⟩, tag⟩) (by simp) rfl; obtain ⟨r0, r1, rf, rg⟩ := hF.sg.spot (g := w.heap.size + 1) (n := 1) (x := x) (y := y) (by simp); refine bodyPost_ret (v := .tuple #[.agg #[.int .i64 tn, .slice q n cp, .int .i64 tag], .agg #[.int .i64 x, .int .i64 y], .bool b6, .int .i64 now]) (by simp [results, Tryz.results7, go_sem, u0, u1, u2, r0, r1]) rfl ⟨tn, tag, q, n, cp, X, x, y, b6, now, rfl, hX, ?_⟩; first | with_reducible exact hF.sg.sub (List.Sublist.trans (.cons _ (.cons _ (List.Sublist.refl _))) (List.sublist_append_left _ _)) | with_reducible exact hF.dr.sg.sub (List.Sublist.trans (.cons _ (.cons _ (List.Sublist.refl _))) (List.sublist_append_left _ _)))
    | (have hF := Sc.toS hrow x y; obtain ⟨u0, u1, u2, uf, ug⟩ := hF.sg.three (K := kP) (g := w.heap.size) (n := 1) (p := ⟨tn, ⟨q, n, cp⟩, tag⟩) (by simp) rfl; obtain ⟨r0, r1, rf, rg⟩ := hF.sg.spot (g := w.heap.size + 1) (n := 1) (x := x) (y := y) (by simp); refine bodyPost_ret (v := .tuple #[.agg #[.int .i64 tn, .slice q n cp, .int .i64 tag], .agg #[.int .i64 x, .int .i64 y], .bool b6, .int .i64 now]) (by simp [results, Tryz.results7, go_sem, u0, u1, u2, r0, r1]) rfl ⟨tn, tag, q, n, cp, X, x, y, b6, now, rfl, hX, ?_⟩; first | with_reducible exact hF.sg.sub (List.Sublist.trans (.cons _ (.cons _ (List.Sublist.refl _))) (List.sublist_append_left _ _)) | with_reducible exact hF.dr.sg.sub (List.Sublist.trans (.cons _ (.cons _ (List.Sublist.refl _))) (List.sublist_append_left _ _)))
    | (have hF := Sc.toP (x := zpv) hrow ⟨tn, ⟨q, n, cp⟩, tag⟩; obtain ⟨u0, u1, u2, uf, ug⟩ := hF.sg.three (K := kP) (g := w.heap.size) (n := 1) (p := ⟨tn, ⟨q, n, cp⟩, tag⟩) (by simp) rfl; obtain ⟨r0, r1, rf, rg⟩ := hF.sg.spot (g := w.heap.size + 1) (n := 1) (x := x) (y := y) (by simp); refine bodyPost_ret (v := .tuple #[.agg #[.int .i64 tn, .slice q n cp, .int .i64 tag], .agg #[.int .i64 x, .int .i64 y], .bool b6, .int .i64 now]) (by simp [results, Tryz.results7, go_sem, u0, u1, u2, r0, r1]) rfl ⟨tn, tag, q, n, cp, X, x, y, b6, now, rfl, hX, ?_⟩; first | with_reducible exact hF.sg.sub (List.Sublist.trans (.cons _ (.cons _ (List.Sublist.refl _))) (List.sublist_append_left _ _)) | with_reducible exact hF.dr.sg.sub (List.Sublist.trans (.cons _ (.cons _ (List.Sublist.refl _))) (List.sublist_append_left _ _)))
    | (have hF := hrow; obtain ⟨u0, u1, u2, uf, ug⟩ := hF.sg.three (K := kP) (g := w.heap.size) (n := 1) (p := ⟨tn, ⟨q, n, cp⟩, tag⟩) (by simp) rfl; obtain ⟨r0, r1, rf, rg⟩ := hF.sg.spot (g := w.heap.size + 1) (n := 1) (x := x) (y := y) (by simp); refine bodyPost_ret (v := .tuple #[.agg #[.int .i64 tn, .slice q n cp, .int .i64 tag], .agg #[.int .i64 x, .int .i64 y], .bool b6, .int .i64 now]) (by simp [results, Tryz.results7, go_sem, u0, u1, u2, r0, r1]) rfl ⟨tn, tag, q, n, cp, X, x, y, b6, now, rfl, hX, ?_⟩; first | with_reducible exact hF.sg.sub (List.Sublist.trans (.cons _ (.cons _ (List.Sublist.refl _))) (List.sublist_append_left _ _)) | with_reducible exact hF.dr.sg.sub (List.Sublist.trans (.cons _ (.cons _ (List.Sublist.refl _))) (List.sublist_append_left _ _)))
end Go.Proofs.YtkinbgcnenieeaaGreat
namespace Go.Proofs.YtkinbgcnenieeaaGreat
open Go.RowKit Go.Joins M
attribute [local go_sem] Oper.semAt_some

/-- A Paper's lists read these Clauses. -/
def LvP (X : List CQ) (cs : List Cl) (N : Nat) : Prop := cls X = cs ∧ sm6 X ∧ X.length = N ∧ N ≤ 7
theorem pOk.lv {X : List CQ} {n : Nat} (h : pOk X n) : LvP X (cls X) n := ⟨rfl, h.2.2, h.1, h.2.1⟩
section
variable {w W : World} {rs : List Rw} {q q' : Option Addr} {n cp cp' N : Nat} {X : List CQ} {L : List Cl} {M : List T3} {tn tag x y now : Int} {b v : Bool}
theorem iRegV (hM : rgP tn L tag b = M) (hN : M.length = N) (hS : Sg w W rs) (hX : Hid (LvP X L n)) (hm : ∀ r ∈ trX (.slice q n cp) X [], r ∈ rs) :
    Calls Tryz.prog 6 #[.agg #[.int .i64 tn, .slice q n cp, .int .i64 tag], .bool b] W fun e w' => ∃ r c, e = .returned (.slice r N c) ∧ Sg W w' [rG kC (.slice r N c) M] := by
  obtain ⟨x1, x2, x3, x4⟩ := hX.out
  subst x1 hM
  refine (iRegion_any tn tag b q cp n X x3 (by omega) (hS.plQ hm) W (hS.rdS x2.q hm)).mono ?_
  rintro e w' ⟨r, k, c, he, hk, h⟩
  rw [hN] at hk; subst hk
  exact ⟨r, c, he, h⟩
theorem sRegV (hM : rgP tn L tag b = M) (hN : M.length = N) (hS : Sg w W rs) (hX : Hid (LvP X L n)) (hm : ∀ r ∈ trX (.slice q n cp) X [], r ∈ rs) :
    Calls Tryz.prog 9 #[.agg #[.int .i64 tn, .slice q n cp, .int .i64 tag], .bool b] W fun e w' => ∃ r c, e = .returned (.slice r N c) ∧ Sg W w' [rG kC (.slice r N c) M] := by
  obtain ⟨x1, x2, x3, x4⟩ := hX.out
  subst x1 hM
  refine (sRegion_any tn tag b q cp n X x3 (by omega) W (hS.rdS x2.q hm)).mono ?_
  rintro e w' ⟨r, k, c, he, hk, h⟩
  rw [hN] at hk; subst hk
  exact ⟨r, c, he, h⟩
theorem likeV (hN : M.length = N) (hN2 : N ≤ 49) (hS : Sg w W rs) (m1 : rG kC (.slice q N cp) M ∈ rs) (m2 : rG kC (.slice q' N cp') M ∈ rs) :
    Calls Tryz.prog 8 #[.slice q N cp, .slice q' N cp'] W fun e w' => e = .returned (.bool true) ∧ Below W.heap.size W w' :=
  likeCells_same q q' cp cp' N M hN W (OwG.sl (hS.mem m1)) (OwG.sl (hS.mem m2)) (by omega)
theorem iAllV (hv : alB tn L tag x y b now = v) (hS : Sg w W rs) (hX : Hid (LvP X L n)) (hm : ∀ r ∈ trX (.slice q n cp) X [], r ∈ rs) :
    Calls Tryz.prog 10 #[.agg #[.int .i64 tn, .slice q n cp, .int .i64 tag], .agg #[.int .i64 x, .int .i64 y], .bool b, .int .i64 now] W fun e w' => e = .returned (.bool v) ∧ Below W.heap.size W w' := by
  obtain ⟨x1, x2, x3, x4⟩ := hX.out
  subst x1
  exact iAllows_v hv x3 (by omega) W (hS.rdS x2.q hm)
theorem sAllV (hv : alB tn L tag x y b now = v) (hS : Sg w W rs) (hX : Hid (LvP X L n)) (hm : ∀ r ∈ trX (.slice q n cp) X [], r ∈ rs) :
    Calls Tryz.prog 11 #[.agg #[.int .i64 tn, .slice q n cp, .int .i64 tag], .agg #[.int .i64 x, .int .i64 y], .bool b, .int .i64 now] W fun e w' => e = .returned (.bool v) ∧ Below W.heap.size W w' := by
  obtain ⟨x1, x2, x3, x4⟩ := hX.out
  subst x1
  exact sAllows_v hv x3 (by omega) W (hS.rdS x2.q hm)
theorem iRchV (hv : reachI M x y = v) (hN : M.length = N) (hN2 : N ≤ 49) (hS : Sg w W rs) (m1 : rG kC (.slice q N cp) M ∈ rs) :
    Calls Tryz.prog 12 #[.slice q N cp, .agg #[.int .i64 x, .int .i64 y]] W fun e w' => e = .returned (.bool v) ∧ Below W.heap.size W w' := by
  have := iReaches_v hv q cp W (OwG.sl (hS.mem m1)).ms (by omega)
  rw [hN] at this
  exact this
end
set_option maxRecDepth 100000 in
set_option maxHeartbeats 16000000 in
theorem regions_small (a : Option Addr) (len cap : Nat) (zs : List Int) (g : Nat) (w : World) (hl : len ≤ 4096) (hr : Rd w g a len zs) :
    Calls Tryz.prog 3 #[.slice a len cap] w fun e w' => e = .returned (.bool true) ∧ Below w.heap.size w w' := by
  have hli : ¬ (4096 : Int) < len := by omega
  have HR : Hid (∀ W, Below w.heap.size w W → Rd W (g + W.heap.size) a len zs) := fun W h => hr.up h (by have := h.size; omega)
  have H5 : Hid (∀ W, Below w.heap.size w W → Calls Tryz.prog 5 #[.slice a len cap] W fun e w' => ∃ (tn tag : Int) (q : Option Addr) (n cp : Nat) (X : List CQ) (b : Bool), e = .returned (.tuple #[.agg #[.int .i64 tn, .slice q n cp, .int .i64 tag], .bool b]) ∧ Hid (pOk X n) ∧ Sg W w' (trX (.slice q n cp) X [])) := fun W h => drawRegion_any a len cap zs _ W hl (HR.out W h)
  have H7 : Hid (∀ W, Below w.heap.size w W → Calls Tryz.prog 7 #[.slice a len cap] W fun e w' => ∃ (tn tag : Int) (q : Option Addr) (n cp : Nat) (X : List CQ) (x y : Int) (b : Bool) (now : Int), e = .returned (.tuple #[.agg #[.int .i64 tn, .slice q n cp, .int .i64 tag], .agg #[.int .i64 x, .int .i64 y], .bool b, .int .i64 now]) ∧ Hid (pOk X n) ∧ Sg W w' (trX (.slice q n cp) X [])) := fun W h => drawAllows_any a len cap zs _ W hl (HR.out W h)
  have H13 : Hid (∀ W (seed m : Int), 0 ≤ seed → seed ≤ 100 → 1 ≤ m → Below w.heap.size w W → Calls Tryz.prog 13 #[.slice a len cap, .int .i64 seed, .int .i64 m] W fun e w' => ∃ x y : Int, e = .returned (.agg #[.int .i64 x, .int .i64 y]) ∧ Below W.heap.size W w') := fun W seed m h1 h2 h3 h => spotN a len cap zs seed m _ W hl (HR.out W h) h1 h2 h3
  have hS0 := Sg.nil w
  clear hr
  go_enter Tryz.func3, Tryz.ntmps3
  go_upto_region 4 with (first
    | (go_at_call 4; refine (big_any a len cap _).mono ?_; rintro e w1 ⟨rfl, hw1⟩; obtain rfl := hw1)
    | (go_at_call 5; refine (H5.out _ hS0.bel).mono ?_; rintro e w1 ⟨tn, tag, q, n, cp, X, b, rfl, hX0, hS1⟩))
  have hX : Hid (LvP X (cls X) n) := hX0.out.lv
  have hS2 := hS1.lit kP [⟨tn, ⟨q, n, cp⟩, tag⟩] 1 rfl (by decide) #[.int .i64 tn, .slice q n cp, .int .i64 tag] rfl
  change Sg w (w1.alloc (.cells #[.int .i64 tn, .slice q n cp, .int .i64 tag] 26)) _ at hS2
  clear hX0 hS0 hS1 H5
  obtain ⟨L, hL⟩ : ∃ L, cls X = L := ⟨_, rfl⟩
  rw [hL] at hX
  have HL : Hid (cls X = L) := hL
  clear hL
  obtain ⟨M, hM⟩ : ∃ M, rgP tn L tag b = M := ⟨_, rfl⟩
  obtain ⟨N, hN⟩ : ∃ N, M.length = N := ⟨_, rfl⟩
  have hN49 : N ≤ 49 := by have := rgP_len (tn := tn) (L := L) (tag := tag) (b := b); rw [hM, hN] at this; exact this
  have HM : Hid (rgP tn L tag b = M ∧ M.length = N ∧ N ≤ 49) := ⟨hM, hN, hN49⟩
  clear hM hN
  generalize w1.heap.size = b3 at *
  generalize w1.alloc _ = W2 at *
  obtain ⟨x0, x1, x2, xf, xg⟩ := hS2.three (K := kP) (g := b3) (n := 1) (p := ⟨tn, ⟨q, n, cp⟩, tag⟩) (by simp) rfl
  go_upto_region 5 with (go_at_call 6; refine (iRegV HM.out.1 HM.out.2.1 hS2 hX (fun r hr => by simp [hr])).mono ?_; rintro e w3 ⟨r5, cp5, rfl, hw3⟩; have hS3 := hS2.addL hw3)
  clear x0 x1 x2 xf xg
  clear hS2 hw3
  go_upto_region 6 with (go_at_call 7; refine (H7.out _ hS3.bel).mono ?_; rintro e w4 ⟨atn, atag, aq, an, acp, AX, ax, ay, ab, anow, rfl, hAX0, hw4⟩; have hS4a := hS3.addL hw4; have hS4 := (hS4a.lit kP [⟨atn, ⟨aq, an, acp⟩, atag⟩] 1 rfl (by decide) #[.int .i64 atn, .slice aq an acp, .int .i64 atag] rfl).lit kSp [(ax, ay)] 1 rfl (by decide) #[.int .i64 ax, .int .i64 ay] rfl; simp only [World.size_alloc] at hS4; change Sg w ((w4.alloc (.cells #[.int .i64 atn, .slice aq an acp, .int .i64 atag] 26)).alloc (.cells #[.int .i64 ax, .int .i64 ay] 32)) _ at hS4)
  have hAX : Hid (LvP AX (cls AX) an) := hAX0.out.lv
  obtain ⟨AL, hAL⟩ : ∃ L, cls AX = L := ⟨_, rfl⟩
  rw [hAL] at hAX
  clear hAX0 hAL hS3 hS4a hw4 H7
  generalize w4.heap.size + 1 = b7 at *
  generalize w4.heap.size = b6 at *
  generalize (w4.alloc _).alloc _ = W4 at *
  have hrow : Sg w W4 (rG kSp (.slice (some ⟨b7, 0, none⟩) 1 1) [(ax, ay)] :: (rG kP (.slice (some ⟨b6, 0, none⟩) 1 1) [⟨atn, ⟨aq, an, acp⟩, atag⟩] :: (trX (.slice aq an acp) AX [] ++ (rG kC (.slice r5 N cp5) M :: (rG kP (.slice (some ⟨b3, 0, none⟩) 1 1) [⟨tn, ⟨q, n, cp⟩, tag⟩] :: trX (.slice q n cp) X []))))) := hS4
  clear hS4
  obtain ⟨v, hv⟩ : ∃ v, alB atn AL atag ax ay ab anow = v := ⟨_, rfl⟩
  have HK : Hid (∀ w' rs, Sg w w' rs → rG kP (.slice (some ⟨b3, 0, none⟩) 1 1) [⟨tn, ⟨q, n, cp⟩, tag⟩] ∈ rs → rG kP (.slice (some ⟨b6, 0, none⟩) 1 1) [⟨atn, ⟨aq, an, acp⟩, atag⟩] ∈ rs → rG kSp (.slice (some ⟨b7, 0, none⟩) 1 1) [(ax, ay)] ∈ rs → (w'.cell? ⟨b3, 0, none⟩ = some (.int .i64 tn) ∧ w'.cell? ⟨b3, 1, none⟩ = some (.slice q n cp) ∧ w'.cell? ⟨b3, 2, none⟩ = some (.int .i64 tag) ∧ w'.cell? ⟨b6, 0, none⟩ = some (.int .i64 atn) ∧ w'.cell? ⟨b6, 1, none⟩ = some (.slice aq an acp) ∧ w'.cell? ⟨b6, 2, none⟩ = some (.int .i64 atag) ∧ w'.cell? ⟨b7, 0, none⟩ = some (.int .i64 ax) ∧ w'.cell? ⟨b7, 1, none⟩ = some (.int .i64 ay))) := fun w' rs h m1 m2 m3 => by
    obtain ⟨a0, a1, a2, _, _⟩ := h.three (K := kP) (g := b3) (n := 1) (p := ⟨tn, ⟨q, n, cp⟩, tag⟩) m1 rfl
    obtain ⟨c0, c1, c2, _, _⟩ := h.three (K := kP) (g := b6) (n := 1) (p := ⟨atn, ⟨aq, an, acp⟩, atag⟩) m2 rfl
    obtain ⟨d0, d1, _, _⟩ := h.spot (g := b7) (n := 1) (x := ax) (y := ay) m3
    exact ⟨a0, a1, a2, c0, c1, c2, d0, d1⟩
  go_region_held3 (fun w' => w'.cell? ⟨b3, 0, none⟩ = some (.int .i64 tn) ∧ w'.cell? ⟨b3, 1, none⟩ = some (.slice q n cp) ∧ w'.cell? ⟨b3, 2, none⟩ = some (.int .i64 tag) ∧ w'.cell? ⟨b6, 0, none⟩ = some (.int .i64 atn) ∧ w'.cell? ⟨b6, 1, none⟩ = some (.slice aq an acp) ∧ w'.cell? ⟨b6, 2, none⟩ = some (.int .i64 atag) ∧ w'.cell? ⟨b7, 0, none⟩ = some (.int .i64 ax) ∧ w'.cell? ⟨b7, 1, none⟩ = some (.int .i64 ay))
    (first
      | assumption
      | with_reducible exact HK.out _ _ hrow (by simp) (by simp) (by simp)
      | with_reducible exact HK.out _ _ hrow.dr (by simp) (by simp) (by simp))
    (first
      | (go_at_call 9; refine (sRegV HM.out.1 HM.out.2.1 hrow.dr hX (fun r hr => by simp [hr])).mono ?_; rintro e u1 ⟨r9, cp9, rfl, hw9⟩; replace hrow := hrow.dr.addL hw9; clear hw9)
      | (go_at_call 8; refine (likeV HM.out.2.1 HM.out.2.2 hrow (by simp) (by simp)).mono ?_; rintro e u2 ⟨rfl, hc1⟩; replace hrow := hrow.step hc1; clear hc1)
      | (go_at_call 10; refine (iAllV hv hrow hAX (fun r hr => by simp [hr])).mono ?_; rintro e u3 ⟨rfl, hc1⟩; replace hrow := hrow.step hc1; clear hc1)
      | (go_at_call 11; refine (sAllV hv hrow hAX (fun r hr => by simp [hr])).mono ?_; rintro e u4 ⟨rfl, hc1⟩; replace hrow := hrow.step hc1; clear hc1))
  rename_i hHeld
  clear hHeld HK
  have hS6 : Sg w u4 (rG kSp (.slice (some ⟨b7, 0, none⟩) 1 1) [(ax, ay)] :: (rG kP (.slice (some ⟨b6, 0, none⟩) 1 1) [⟨atn, ⟨aq, an, acp⟩, atag⟩] :: (trX (.slice aq an acp) AX [] ++ (rG kC (.slice r5 N cp5) M :: (rG kP (.slice (some ⟨b3, 0, none⟩) 1 1) [⟨tn, ⟨q, n, cp⟩, tag⟩] :: trX (.slice q n cp) X []))))) := hrow.sub (List.sublist_cons_self ..)
  clear hrow
  obtain ⟨x0, x1, x2, xf, xg⟩ := hS6.three (K := kP) (g := b6) (n := 1) (p := ⟨atn, ⟨aq, an, acp⟩, atag⟩) (by simp) rfl
  obtain ⟨y0, y1, yf, yg⟩ := hS6.spot (g := b7) (n := 1) (x := ax) (y := ay) (by simp)
  go_upto_if 55 with (go_at_call 10; refine (iAllV hv hS6 hAX (fun r hr => by simp [hr])).mono ?_; rintro e u5 ⟨rfl, hc5⟩; have hS7 := hS6.step hc5)
  clear x0 x1 x2 xf xg; clear y0 y1 yf yg
  clear hS6 hc5
  go_cut [] from 10 (fun wx => Sg w wx (rG kC (.slice r5 N cp5) M :: (rG kP (.slice (some ⟨b3, 0, none⟩) 1 1) [⟨tn, ⟨q, n, cp⟩, tag⟩] :: trX (.slice q n cp) X [])))
  case first =>
    cases v
    · go_wp2
      go_meet
      exact hS7.sub (.cons _ (.cons _ (List.sublist_append_right _ _)))
    · have hrc := allows_reach hv
      obtain ⟨AM, hAM⟩ : ∃ M, rgP atn AL atag ab = M := ⟨_, rfl⟩
      rw [hAM] at hrc
      obtain ⟨AN, hAN⟩ : ∃ N, AM.length = N := ⟨_, rfl⟩
      have hA49 : AN ≤ 49 := by have := rgP_len (tn := atn) (L := AL) (tag := atag) (b := ab); rw [hAM, hAN] at this; exact this
      have hA0 := reach_pos hrc
      rw [hAN] at hA0
      have hA1 : ¬ (AN : Int) = 0 := by omega
      have hA2 : (AN : Int) ≤ 100 := by omega
      have HA : Hid (rgP atn AL atag ab = AM ∧ AM.length = AN ∧ AN ≤ 49) := ⟨hAM, hAN, hA49⟩
      clear hAM hAN hA0
      obtain ⟨x0, x1, x2, xf, xg⟩ := hS7.three (K := kP) (g := b6) (n := 1) (p := ⟨atn, ⟨aq, an, acp⟩, atag⟩) (by simp) rfl
      go_wp2_with (first
        | (go_at_call 6; refine (iRegV HA.out.1 HA.out.2.1 hS7 hAX (fun r hr => by simp [hr])).mono ?_; rintro e u6 ⟨r10, cp10, rfl, hw10⟩; have hS8 := hS7.addL hw10; clear x0 x1 x2 xf xg; obtain ⟨y0, y1, yf, yg⟩ := hS8.spot (g := b7) (n := 1) (x := ax) (y := ay) (by simp))
        | (go_at_call 12; refine (iRchV hrc HA.out.2.1 HA.out.2.2 hS8 (by simp)).mono ?_; rintro e u7 ⟨rfl, hc7⟩; have hS9 := hS8.step hc7))
      go_meet
      exact hS9.sub (.cons _ (.cons _ (.cons _ (List.sublist_append_right _ _))))
  case rest =>
  clear hS7 hv hAX
  have hS8 := hcut
  clear hcut
  have hN100 : (N : Int) ≤ 100 := by omega
  have hn7 : n ≤ 7 := hX.out.2.2.2
  go_wp2
  go_loopw [11, 12] (fun lvv i wr => ∃ (k : Nat) (lv : Bool), k ≤ n ∧ i = .int .i64 k ∧ lvv = .bool lv ∧ Hid (lv = ((cls X).take k).all (laB 0)) ∧ Sg w wr (rG kC (.slice r5 N cp5) M :: (rG kP (.slice (some ⟨b3, 0, none⟩) 1 1) [⟨tn, ⟨q, n, cp⟩, tag⟩] :: trX (.slice q n cp) X []))) (fun _ i _ => n - (intOf i).toNat)
  case atStart => exact ⟨0, true, by omega, rfl, rfl, rfl, hS8⟩
  case round =>
    clear hS8
    obtain ⟨k, lv, hk, rfl, rfl, hlv, hS⟩ := hrel
    obtain ⟨x0, x1, x2, xf, xg⟩ := hS.three (K := kP) (g := b3) (n := 1) (p := ⟨tn, ⟨q, n, cp⟩, tag⟩) (by simp) rfl
    by_cases hlt : k < n
    · have hki : (k : Int) < n := by omega
      have hkX : k < X.length := by rw [hX.out.2.2.1]; exact hlt
      have hsl : SlG kQ wr q (X ++ []) := OwG.sl (hS.mem (K := kQ) (v := .slice q n cp) (L := X ++ []) (by simp [trX]))
      rw [List.append_nil] at hsl
      obtain ⟨g2, off2, hq2, hC⟩ := hsl.at hkX
      obtain ⟨c0, c1, c2⟩ := hC.q3 (getQ hkX)
      have hat := all_takeF (f := laB 0) hkX
      obtain ⟨⟨cc, s, t⟩, hx⟩ : ∃ x : CQ, X.getD k zq = x := ⟨_, rfl⟩
      rw [hx] at c0 c1 c2 hat
      simp only at c0 c1 c2 hat
      have HAT : Hid (((cls X).take (k + 1)).all (laB 0) = (lv && laB 0 cc)) := by rw [hat, hlv.out]; exact rfl
      clear hsl hC hat hx hkX
      subst hq2
      cases lv
      · go_wp2
        go_roundw
        case rel => exact ⟨k + 1, false, by omega, by go_num, rfl, by rw [HAT.out]; exact rfl, hS⟩
        case measure => simp [intOf]; omega
      · by_cases hu : (0 : Int) < cc.un
        · go_wp2
          go_roundw
          case rel => exact ⟨k + 1, true, by omega, by go_num, rfl, by rw [HAT.out, laB, decide_eq_true hu]; exact rfl, hS⟩
          case measure => simp [intOf]; omega
        · go_wp2
          go_roundw
          case rel => exact ⟨k + 1, false, by omega, by go_num, rfl, by rw [HAT.out, laB, decide_eq_false hu]; exact rfl, hS⟩
          case measure => simp [intOf]; omega
    · obtain rfl : k = n := by omega
      have HF : Hid (lv = L.all (laB 0)) := by
        have h := hlv.out
        rw [List.take_of_length_le (by rw [cls_len, hX.out.2.2.1]; exact Nat.le_refl _), HL.out] at h
        exact h
      clear hlv
      go_wp2
      clear x0 x1 x2 xf xg
      go_loopw [13, 14] (fun i _ wr => ∃ j : Nat, j ≤ 12 ∧ i = .int .i64 j ∧ Sg w wr (rG kC (.slice r5 N cp5) M :: (rG kP (.slice (some ⟨b3, 0, none⟩) 1 1) [⟨tn, ⟨q, k, cp⟩, tag⟩] :: trX (.slice q k cp) X []))) (fun i _ _ => 12 - (intOf i).toNat)
      case atStart => exact ⟨0, by omega, rfl, hS⟩
      case round =>
        clear hS
        obtain ⟨j, hj, rfl, hS⟩ := hrel
        by_cases hjt : j < 12
        · have hji : (j : Int) < 12 := by omega
          go_upto_if 98 with (go_at_call 13; refine (H13.out _ _ _ (by omega) (by omega) (by omega) hS.bel).mono ?_; rintro e u12 ⟨x0, y0, rfl, hc12⟩; have hS21a := hS.step hc12; have hS21 := hS21a.lit kSp [(x0, y0)] 1 rfl (by decide) #[.int .i64 x0, .int .i64 y0] rfl; change Sg w (u12.alloc (.cells #[.int .i64 x0, .int .i64 y0] 32)) _ at hS21)
          clear hS hS21a hc12
          generalize u12.heap.size = b14 at *
          generalize u12.alloc _ = W21 at *
          go_cut [] from 97 to 101 (fun wx => ∃ x y : Int, Sg w wx (rG kSp (.slice (some ⟨b14, 0, none⟩) 1 1) [(x, y)] :: (rG kC (.slice r5 N cp5) M :: (rG kP (.slice (some ⟨b3, 0, none⟩) 1 1) [⟨tn, ⟨q, k, cp⟩, tag⟩] :: trX (.slice q k cp) X []))))
          case first =>
            obtain ⟨a0, a1, af, ag⟩ := hS21.spot (g := b14) (n := 1) (x := x0) (y := y0) (by simp)
            by_cases h5 : (5 : Int) < j
            · go_wp2_with (go_at_call 13; refine (H13.out _ _ _ (by omega) (by omega) (by omega) hS21.bel).mono ?_; rintro e u13 ⟨x1, y1, rfl, hc13⟩; have hS22 := hS21.step hc13; clear a0 a1 af ag; obtain ⟨a0, a1, af, ag⟩ := hS22.spot (g := b14) (n := 1) (x := x0) (y := y0) (by simp))
              go_meet
              exact ⟨x1, y1, Sg.setRaw (A := []) (Sg.setRaw (A := []) (xs := [.int .i64 x0, .int .i64 y0]) hS22 0 (.int .i64 x1)) 1 (.int .i64 y1)⟩
            · go_wp2
              go_meet
              exact ⟨x0, y0, hS21⟩
          case rest =>
          clear hS21
          obtain ⟨x, y, hrow⟩ := hcut
          go_upto_region 23 with (fail)
          cases lv
          · go_quiet (fail)
            go_wp2
            go_roundw
            case rel => exact ⟨j + 1, by omega, by go_num, (hrow.sub (List.sublist_cons_self ..)).step (below_drewN (Below.refl _ _) _)⟩
            case measure => simp [intOf]; omega
          · obtain ⟨vv, hv1⟩ : ∃ v, alB tn L tag x y b 0 = v := ⟨_, rfl⟩
            have hv2 : reachI M x y = vv := by rw [← hv1, allows_lasts HF.out.symm, HM.out.1]
            have hmX : ∀ r ∈ trX (.slice q k cp) X [], r ∈ rG kSp (.slice (some ⟨b14, 0, none⟩) 1 1) [(x, y)] :: (rG kC (.slice r5 N cp5) M :: (rG kP (.slice (some ⟨b3, 0, none⟩) 1 1) [⟨tn, ⟨q, k, cp⟩, tag⟩] :: trX (.slice q k cp) X [])) := fun r hr => by simp [hr]
            have HK : Hid (∀ w' rs, Sg w w' rs → rG kP (.slice (some ⟨b3, 0, none⟩) 1 1) [⟨tn, ⟨q, k, cp⟩, tag⟩] ∈ rs → rG kSp (.slice (some ⟨b14, 0, none⟩) 1 1) [(x, y)] ∈ rs → (w'.cell? ⟨b3, 0, none⟩ = some (.int .i64 tn) ∧ w'.cell? ⟨b3, 1, none⟩ = some (.slice q k cp) ∧ w'.cell? ⟨b3, 2, none⟩ = some (.int .i64 tag) ∧ w'.cell? ⟨b14, 0, none⟩ = some (.int .i64 x) ∧ w'.cell? ⟨b14, 1, none⟩ = some (.int .i64 y))) := fun w' rs h m1 m2 => by
              obtain ⟨a0, a1, a2, _, _⟩ := h.three (K := kP) (g := b3) (n := 1) (p := ⟨tn, ⟨q, k, cp⟩, tag⟩) m1 rfl
              obtain ⟨d0, d1, _, _⟩ := h.spot (g := b14) (n := 1) (x := x) (y := y) m2
              exact ⟨a0, a1, a2, d0, d1⟩
            go_region_held3 (fun w' => w'.cell? ⟨b3, 0, none⟩ = some (.int .i64 tn) ∧ w'.cell? ⟨b3, 1, none⟩ = some (.slice q k cp) ∧ w'.cell? ⟨b3, 2, none⟩ = some (.int .i64 tag) ∧ w'.cell? ⟨b14, 0, none⟩ = some (.int .i64 x) ∧ w'.cell? ⟨b14, 1, none⟩ = some (.int .i64 y))
              (first
                | assumption
                | with_reducible exact HK.out _ _ hrow (by simp) (by simp)
                | with_reducible exact HK.out _ _ hrow.dr (by simp) (by simp))
              (first
                | (go_at_call 10; (first | refine (iAllV hv1 hrow hX hmX).mono ?_ | refine (iAllV hv1 hrow.dr hX hmX).mono ?_); rintro e u3 ⟨rfl, hc1⟩; (first | with_reducible (replace hrow := hrow.step hc1) | with_reducible (replace hrow := hrow.dr.step hc1)); clear hc1)
                | (go_at_call 12; (first | refine (iRchV hv2 HM.out.2.1 HM.out.2.2 hrow (by simp)).mono ?_ | refine (iRchV hv2 HM.out.2.1 HM.out.2.2 hrow.dr (by simp)).mono ?_); rintro e u4 ⟨rfl, hc1⟩; (first | with_reducible (replace hrow := hrow.step hc1) | with_reducible (replace hrow := hrow.dr.step hc1)); clear hc1))
            all_goals
              go_wp2
              go_roundw
              case rel => exact ⟨j + 1, by omega, by go_num, hrow.sub (List.sublist_cons_self ..)⟩
              case measure => simp [intOf]; omega
        · obtain rfl : j = 12 := by omega
          go_wp2
          go_ret
          exact ⟨rfl, hS.bel⟩
end Go.Proofs.YtkinbgcnenieeaaGreat
