/-
  A Deal that became another: the program's.
-/
import Derived.Test.YtobbankkfplooaaGreatKP7
import Derived.Test.YtobbankkfplooaaGreatKP6
import Derived.Test.YtobbankkfplooaaGreatKC1
namespace Go.Proofs.YtobbankkfplooaaGreat.K.G
open Go.Shelf Go.RowKit Go.Joins Y
attribute [local go_sem] Oper.semAt_some

/-- A Deal of one's own that is answered. -/
def DlO (d : Dd) (w w' : World) (v : Value) : Prop := ∃ (y o u : Sv) (Q2 : List YQ), v = Gv.v ⟨d.t, d.q, y, o, u, d.s⟩ ∧ yds Q2 = d.Y ∧ (∀ q ∈ Q2, q.2.n ≤ 1000 ∧ q.1.L.length = q.2.n) ∧ Sg w w' (gR ⟨d.t, d.q, y, o, u, d.s⟩ Q2 d.O d.V)
theorem many_all {xs us : List Value} (h : us.length = xs.length) : setMany xs 0 us = us := by
  rw [setMany_eq _ _ _ (by omega), List.take_zero, List.nil_append, List.drop_eq_nil_of_le (by omega), List.append_nil]
theorem own_some {W : World} {base : Nat} {p : Option Addr} {n c : Nat} {L : List Int} (h : OwG kI W base (.slice p n c) L) (hn : 0 < n) : ∃ g, p = some ⟨g, 0, none⟩ := by
  rcases h.2 with ⟨e, _⟩ | ⟨g, cap, cur, e, _⟩
  · cases e; omega
  · cases e; exact ⟨g, rfl⟩
set_option maxRecDepth 100000 in
set_option maxHeartbeats 4000000 in
theorem became_any (h : Gv) (QL : List YQ) (O V : List Int) (q' : Q4) (z : Int) (w : World) (H : RdG w h QL O V) (hk : OkG h QL) (hy : h.y.n ≤ 1000) (ho : h.o.n ≤ 1000) (hu : 1 ≤ h.u.n ∧ h.u.n ≤ 4) (hsm : ∀ q ∈ QL, q.2.n ≤ 1000) {bb : Bool} (hb : decide (¬ (q'.l = vt V ∧ z = h.s)) = bb) :
    Calls Tryz.prog 32 #[h.v, (Sd.mk q' z).v] w fun e w' => ∃ v, e = .returned (.tuple #[v, .bool bb]) ∧ DlO ⟨h.t, h.q, yds QL, O, q'.l.take h.u.n, z⟩ w w' v := by
  have HK := Lib.hid (fun W (hb : Below w.heap.size w W) => dealCopied_any h QL O V W (H.step hb) hk hy ho (by omega) hsm)
  have HS := Lib.hid (fun W (hb : Below w.heap.size w W) => standing_any h V W (H.u.step hb) H.un hu.2)
  have hNE := run_neq59 ⟨q', z⟩ ⟨q4 V, h.s⟩
  have hbe : (!(eq4 q' (q4 V) && z == h.s)) = bb := by
    rw [← hb, eq4_l, q4_l]
    by_cases e1 : q'.l = vt V <;> by_cases e2 : z = h.s <;> simp [e1, e2]
  simp only at hNE
  rw [hbe] at hNE
  have HVn : Hid (V.length = h.u.n) := H.un
  clear hbe hb H hk hsm
  generalize q4 V = qq at HS hNE
  obtain ⟨t, q, ⟨yp, yn, yc⟩, ⟨op, on, oc⟩, ⟨up, un, uc⟩, s⟩ := h
  obtain ⟨a, b, c, d⟩ := q'
  simp only at HK HS hNE hu hy ho HVn ⊢
  have hS0 := ((((Sg.nil w).lit kG [⟨t, q, ⟨yp, yn, yc⟩, ⟨op, on, oc⟩, ⟨up, un, uc⟩, s⟩] 1 rfl (by decide) #[.int .i64 t, .int .i64 q, .slice yp yn yc, .slice op on oc, .slice up un uc, .int .i64 s] rfl).lit kD [⟨⟨a, b, c, d⟩, z⟩] 1 rfl (by decide) #[.int .i64 a, .int .i64 b, .int .i64 c, .int .i64 d, .int .i64 z] rfl).lit kG [zgv] 1 rfl (by decide) #[.int .i64 0, .int .i64 0, .slice none 0 0, .slice none 0 0, .slice none 0 0, .int .i64 0] rfl)
  simp only [World.size_alloc] at hS0
  change Sg w (((w.alloc (.cells #[.int .i64 t, .int .i64 q, .slice yp yn yc, .slice op on oc, .slice up un uc, .int .i64 s] 27)).alloc (.cells #[.int .i64 a, .int .i64 b, .int .i64 c, .int .i64 d, .int .i64 z] 59)).alloc (.cells #[.int .i64 0, .int .i64 0, .slice none 0 0, .slice none 0 0, .slice none 0 0, .int .i64 0] 27)) _ at hS0
  go_enter Tryz.func32, Tryz.ntmps32
  go_upto_region 2 with (go_at_call 39; refine (HK.out _ hS0.bel).mono ?_; rintro e w1 ⟨y, o, ⟨up2, un2, uc2⟩, Q2, rfl, hq1, hq2, h1⟩; have hS1 := hS0.addL h1)
  have hou := h1.mem (K := kI) (v := .slice up2 un2 uc2) (L := V) (by simp [gR])
  have hun : un2 = un := by rw [OwG.len hou]; exact HVn.out
  subst hun
  obtain ⟨g, rfl⟩ := own_some hou (by omega)
  clear hou h1
  have HQ : Hid (yds Q2 = yds QL ∧ ∀ q ∈ Q2, q.2.n ≤ 1000 ∧ q.1.L.length = q.2.n) := ⟨hq1, hq2⟩
  clear hq1 hq2
  have hS2 := hS1.lit kG [⟨t, q, y, o, ⟨some ⟨g, 0, none⟩, un2, uc2⟩, s⟩] 1 rfl (by decide) #[.int .i64 t, .int .i64 q, .slice y.p y.n y.c, .slice o.p o.n o.c, .slice (some ⟨g, 0, none⟩) un2 uc2, .int .i64 s] rfl
  change Sg w (w1.alloc (.cells #[.int .i64 t, .int .i64 q, .slice y.p y.n y.c, .slice o.p o.n o.c, .slice (some ⟨g, 0, none⟩) un2 uc2, .int .i64 s] 27)) _ at hS2
  have hS3 : Sg w (w1.alloc (.cells #[.int .i64 t, .int .i64 q, .slice y.p y.n y.c, .slice o.p o.n o.c, .slice (some ⟨g, 0, none⟩) un2 uc2, .int .i64 s] 27)).drew ([rG kG (.slice (some ⟨w1.heap.size, 0, none⟩) 1 1) [⟨t, q, y, o, ⟨some ⟨g, 0, none⟩, un2, uc2⟩, s⟩]] ++ rG kI (.slice (some ⟨g, 0, none⟩) un2 uc2) (V) :: (rG kI (.slice o.p o.n o.c) O :: (trY (.slice y.p y.n y.c) Q2 [] ++ [rG kG (.slice (some ⟨w.heap.size + 1 + 1, 0, none⟩) 1 1) [zgv], rG kD (.slice (some ⟨w.heap.size + 1, 0, none⟩) 1 1) [⟨⟨a, b, c, d⟩, z⟩], rG kG (.slice (some ⟨w.heap.size, 0, none⟩) 1 1) [⟨t, q, ⟨yp, yn, yc⟩, ⟨op, on, oc⟩, ⟨up, un2, uc⟩, s⟩]]))) := by
    have := hS2.step (Below.refl _ _).drew
    simpa [gR] using this
  have hsrc : SlG kI (w1.alloc (.cells #[.int .i64 t, .int .i64 q, .slice y.p y.n y.c, .slice o.p o.n o.c, .slice (some ⟨g, 0, none⟩) un2 uc2, .int .i64 s] 27)).drew (some ⟨w.heap.size + 1, 0, none⟩) (([a, b, c, d] : List Int).take un2) := by
    obtain ⟨b0, b1, b2, b3, b4, bf, bg⟩ := d5 hS3 (g := w.heap.size + 1) (n := 1) (q := ⟨⟨a, b, c, d⟩, z⟩) (by simp)
    rcases sl_q bg b0 b1 b2 b3 with h | ⟨g', off, h, hC⟩
    · cases h
    · exact .inr ⟨g', off, h, hC.take un2⟩
  have hown := hS3.mem (K := kI) (v := .slice (some ⟨g, 0, none⟩) un2 uc2) (L := V) (by simp)
  have hmin : Nat.min 4 un2 = (([a, b, c, d] : List Int).take un2).length := by
    have h : (([a, b, c, d] : List Int).take un2).length = min un2 4 := by simp
    rw [h]; exact Nat.min_comm 4 un2
  obtain ⟨W2, hcp, hS4⟩ := run_copyV (A := [rG kG (.slice (some ⟨w1.heap.size, 0, none⟩) 1 1) [⟨t, q, y, o, ⟨some ⟨g, 0, none⟩, un2, uc2⟩, s⟩]]) (g := g) (n := un2) (k := uc2) (o := 0) (d := un2) (dc := uc2) (m := 4) (c := 4) (V := ([a, b, c, d] : List Int).take un2) (W := (w1.alloc (.cells #[.int .i64 t, .int .i64 q, .slice y.p y.n y.c, .slice o.p o.n o.c, .slice (some ⟨g, 0, none⟩) un2 uc2, .int .i64 s] 27)).drew) (Bs := rG kI (.slice o.p o.n o.c) O :: (trY (.slice y.p y.n y.c) Q2 [] ++ [rG kG (.slice (some ⟨w.heap.size + 1 + 1, 0, none⟩) 1 1) [zgv], rG kD (.slice (some ⟨w.heap.size + 1, 0, none⟩) 1 1) [⟨⟨a, b, c, d⟩, z⟩], rG kG (.slice (some ⟨w.heap.size, 0, none⟩) 1 1) [⟨t, q, ⟨yp, yn, yc⟩, ⟨op, on, oc⟩, ⟨up, un2, uc⟩, s⟩]])) (e := 2) (s := 1) (xs := kI.flat V) (by rw [← rowI HVn.out]; exact hS3) hsrc hmin
    (fun j hj => by
      have hj' : j < un2 := by simp at hj; omega
      have := (OwG.cs hown).int (k := j) (List.getElem?_eq_getElem (by rw [HVn.out]; exact hj'))
      rw [this]; rfl) (OwG.fz hown)
  have hnl : (([a, b, c, d] : List Int).take un2).length = un2 := by simp; omega
  rw [many_all (by rw [Kd.flat_len, Kd.flat_len, hnl, HVn.out]), ← rowI hnl] at hS4
  rw [hnl] at hcp
  clear hsrc hown hS3 hS1 hS0
  obtain ⟨m0, m1, m2, m3, m4, m5, mf, mg⟩ := g6 hS2 (K := kG) (g := w1.heap.size) (n := 1) (q := ⟨t, q, y, o, ⟨some ⟨g, 0, none⟩, un2, uc2⟩, s⟩) (by simp) rfl
  obtain ⟨n0, n1, n2, n3, n4, n5, nf, ng⟩ := g6 hS4 (K := kG) (g := w1.heap.size) (n := 1) (q := ⟨t, q, y, o, ⟨some ⟨g, 0, none⟩, un2, uc2⟩, s⟩) (by simp) rfl
  obtain ⟨b0, b1, b2, b3, b4, bf, bg⟩ := d5 hS4 (g := w.heap.size + 1) (n := 1) (q := ⟨⟨a, b, c, d⟩, z⟩) (by simp)
  simp only at m0 m1 m2 m3 m4 m5 n0 n1 n2 n3 n4 n5 b0 b1 b2 b3 b4
  go_region_law (refine step_copy (vd := .slice (some ⟨g, 0, none⟩) un2 uc2) (vx := .slice (some ⟨w.heap.size + 1, 0, none⟩) 4 4) (by rfl) _ _ (by rfl) (by rfl) (by rfl) hcp ?_)
  all_goals
    try simp only [List.getElem_toArray, List.getElem_cons_succ, List.getElem_cons_zero, Act.put, List.setIfInBounds_toArray, List.set_cons_succ, List.set_cons_zero]
    have hS5 := Sg.setG5 (A := []) (g := w1.heap.size) (n := 1) (a := ⟨t, q, y, o, ⟨some ⟨g, 0, none⟩, un2, uc2⟩, s⟩) hS4 z
    have hS5d := hS5.step (Below.refl _ _).drew
    try simp only at hS5 hS5d
    obtain ⟨r0, r1, r2, r3, r4, r5, rf, rg⟩ := g6 hS5 (K := kG) (g := w1.heap.size) (n := 1) (q := ⟨t, q, y, o, ⟨some ⟨g, 0, none⟩, un2, uc2⟩, z⟩) (by simp) rfl
    obtain ⟨e0, e1, e2, e3, e4, e5, ef, eg⟩ := g6 hS5 (K := kG) (g := w.heap.size) (n := 1) (q := ⟨t, q, ⟨yp, yn, yc⟩, ⟨op, on, oc⟩, ⟨up, un2, uc⟩, s⟩) (by simp) rfl
    obtain ⟨t0, t1, t2, t3, t4, t5, tf, tg⟩ := g6 hS5 (K := kG) (g := w.heap.size + 1 + 1) (n := 1) (q := zgv) (by simp) rfl
    obtain ⟨a0, a1, a2, a3, a4, af, ag⟩ := d5 hS5 (g := w.heap.size + 1) (n := 1) (q := ⟨⟨a, b, c, d⟩, z⟩) (by simp)
    simp only [zgv] at r0 r1 r2 r3 r4 r5 e0 e1 e2 e3 e4 e5 t0 t1 t2 t3 t4 t5 a0 a1 a2 a3 a4
    go_upto_region 4 with (fail)
    clear m0 m1 m2 m3 m4 m5 mf mg n0 n1 n2 n3 n4 n5 nf ng b0 b1 b2 b3 b4 bf bg hcp hS2
    go_region_with ((go_at_call 33; refine (HS.out _ hS5d.bel).mono ?_; rintro e w3 ⟨rfl, hb3⟩; have hS6 := hS5d.step hb3; obtain ⟨r0', r1', r2', r3', r4', r5', rf', rg'⟩ := g6 hS6 (K := kG) (g := w1.heap.size) (n := 1) (q := ⟨t, q, y, o, ⟨some ⟨g, 0, none⟩, un2, uc2⟩, z⟩) (by simp) rfl; obtain ⟨t0', t1', t2', t3', t4', t5', tf', tg'⟩ := g6 hS6 (K := kG) (g := w.heap.size + 1 + 1) (n := 1) (q := zgv) (by simp) rfl; obtain ⟨a0', a1', a2', a3', a4', af', ag'⟩ := d5 hS6 (g := w.heap.size + 1) (n := 1) (q := ⟨⟨a, b, c, d⟩, z⟩) (by simp); simp only [zgv] at r0' r1' r2' r3' r4' r5' t0' t1' t2' t3' t4' t5' a0' a1' a2' a3' a4'))
    all_goals
      have hS7 := Sg.setG (A := rG kG (.slice (some ⟨w1.heap.size, 0, none⟩) 1 1) [⟨t, q, y, o, ⟨some ⟨g, 0, none⟩, un2, uc2⟩, z⟩] :: gR ⟨t, q, y, o, ⟨some ⟨g, 0, none⟩, un2, uc2⟩, z⟩ Q2 O (([a, b, c, d] : List Int).take un2)) (g := w.heap.size + 1 + 1) (n := 1) (a := zgv) (by simpa [gR] using hS6) ⟨t, q, y, o, ⟨some ⟨g, 0, none⟩, un2, uc2⟩, z⟩
      go_wp2
      refine bodyPost_ret (v := .tuple #[.agg #[.int .i64 t, .int .i64 q, .slice y.p y.n y.c, .slice o.p o.n o.c, .slice (some ⟨g, 0, none⟩) un2 uc2, .int .i64 z], .bool bb]) (by simp [results, Tryz.results32, go_sem, t0', t1', t2', t3', t4', t5']) rfl ⟨_, rfl, y, o, ⟨some ⟨g, 0, none⟩, un2, uc2⟩, Q2, rfl, HQ.out.1, HQ.out.2, ?_⟩
      exact hS7.sub (List.Sublist.trans (List.sublist_cons_self ..) (List.sublist_append_left ..))
end Go.Proofs.YtobbankkfplooaaGreat.K.G
