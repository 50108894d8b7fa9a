/-
  The law of ShardOf walked.
-/
import Derived.Test.YtamnmakegdnblaaKQ1
import Derived.Test.YtamnmakegdnblaaKP4
namespace Go.Proofs.Ytamnmakegdnblaa.K.D
open Go.Shelf Go.RowKit Go.Joins
attribute [local go_sem] Oper.semAt_some

theorem bx22 {w W : World} {v0 v1 u0 u1 : Value} {ty ty2 : TypeId} (h : Below ((w.alloc (.cells #[v0, v1] ty)).alloc (.cells #[u0, u1] ty2)).heap.size ((w.alloc (.cells #[v0, v1] ty)).alloc (.cells #[u0, u1] ty2)) W) : (W.cell? ⟨w.heap.size, 0, none⟩ = some v0 ∧ W.cell? ⟨w.heap.size, 1, none⟩ = some v1) ∧ (W.cell? ⟨w.heap.size + 1, 0, none⟩ = some u0 ∧ W.cell? ⟨w.heap.size + 1, 1, none⟩ = some u1) := by
  have := ((((St.nil w).push [v0, v1] ty).push [u0, u1] ty2).step h).has
  simp [Has, HasAt] at this
  simp [this]
set_option maxRecDepth 100000 in
set_option maxHeartbeats 4000000 in
theorem exactShardOf (e : Int) (p : Option Addr) (n c : Nat) (L : List On) (hn : L.length = n) (s t : Int) (w : World) (hL : SlG kLO w p L) (hm : n ≤ maxLen) :
    Calls Try.prog 6 #[Dv.v ⟨e, p, n, c⟩, .agg #[.int .i64 s, .int .i64 t]] w fun ee w' => ee = .returned (.bool true) ∧ Below w.heap.size w w' := by
  have h0 := sg_bel (below_alloc2 w (.cells #[.int .i64 e, .slice p n c] 52) (.cells #[.int .i64 s, .int .i64 t] 58))
  by_cases hz : n ≤ 1048576
  · obtain ⟨v, hv⟩ : ∃ v, (1048576 : Int) - (n : Int) = v := ⟨_, rfl⟩
    have hv0 : ¬ v < 0 := by omega
    have HZ := Lib.hid (fun W => szDirectory_v (dlen (e := e) (p := p) (c := c) hz hv) W hm)
    have HT := Lib.hid (fun W (hb : Below w.heap.size w W) => toDirectory_any e p n c L hn W (hL.step hb) hz)
    have HP := Lib.hid (fun W => M.toSpot_any s t W)
    obtain ⟨b, hbb⟩ : ∃ b, shO e L s t = b := ⟨_, rfl⟩
    have HS : Hid (∀ W g, SlG kO W (some ⟨g, 0, none⟩) L → Calls Try.prog 20 #[Dv.v ⟨e, some ⟨g, 0, none⟩, n, n⟩, .agg #[.int .i64 s, .int .i64 t]] W fun ee w' => ee = .returned (.int .i64 b) ∧ Below W.heap.size W w') := fun W g hr => hbb ▸ sShardOf_any e _ n n L hn s t W hr (Nat.le_refl _)
    have HI : Hid (∀ W g, SlG kO W (some ⟨g, 0, none⟩) L → Calls Try.prog 19 #[Dv.v ⟨e, some ⟨g, 0, none⟩, n, n⟩, .agg #[.int .i64 s, .int .i64 t]] W fun ee w' => ee = .returned (.int .i64 b) ∧ Below W.heap.size W w') := fun W g hr => hbb ▸ iShardOf_any e _ n n L hn s t W hr (by omega)
    have HE : Hid (∀ W g1 g2, SlG kO W (some ⟨g1, 0, none⟩) L → SlG kO W (some ⟨g2, 0, none⟩) L → Calls Try.prog 30 #[Dv.v ⟨e, some ⟨g1, 0, none⟩, n, n⟩, Dv.v ⟨e, some ⟨g2, 0, none⟩, n, n⟩] W fun ee w' => ee = .returned (.bool true) ∧ Below W.heap.size W w') := fun W g1 g2 h1 h2 => eqDirectory_same e _ _ n n L n hn W h1 h2 (by omega)
    have hx := Sg.nil ((w.alloc (.cells #[.int .i64 e, .slice p n c] 52)).alloc (.cells #[.int .i64 s, .int .i64 t] 58))
    have HB : Hid (∀ w', Below ((w.alloc (.cells #[.int .i64 e, .slice p n c] 52)).alloc (.cells #[.int .i64 s, .int .i64 t] 58)).heap.size ((w.alloc (.cells #[.int .i64 e, .slice p n c] 52)).alloc (.cells #[.int .i64 s, .int .i64 t] 58)) w' → (w'.cell? ⟨w.heap.size, 0, none⟩ = some (.int .i64 e) ∧ w'.cell? ⟨w.heap.size, 1, none⟩ = some (.slice p n c)) ∧ (w'.cell? ⟨w.heap.size + 1, 0, none⟩ = some (.int .i64 s) ∧ w'.cell? ⟨w.heap.size + 1, 1, none⟩ = some (.int .i64 t))) := fun w' h => bx22 h
    obtain ⟨⟨b0, b1⟩, b2, b3⟩ := HB.out _ hx.bel
    clear hn hL hm hz hv hbb
    go_enter Try.func6, Try.ntmps6
    go_upto_region 5 with (go_at_call 28; refine (HZ.out _).mono ?_; rintro ee w1 ⟨rfl, hb1⟩; replace hx := hx.step hb1; clear b0 b1 b2 b3)
    go_region_held3 (fun w' => ((w'.cell? ⟨w.heap.size, 0, none⟩ = some (.int .i64 e) ∧ w'.cell? ⟨w.heap.size, 1, none⟩ = some (.slice p n c)) ∧ (w'.cell? ⟨w.heap.size + 1, 0, none⟩ = some (.int .i64 s) ∧ w'.cell? ⟨w.heap.size + 1, 1, none⟩ = some (.int .i64 t))))
      (first
        | assumption
        | with_reducible exact HB.out _ hx.bel
        | with_reducible exact HB.out _ (Sg.dr hx).bel)
      (first
        | (go_at_call 29; refine (HT.out _ (by first | with_reducible exact (h0.addL hx).bel | with_reducible exact (h0.addL (Sg.dr hx)).bel)).mono ?_; rintro ee w2 ⟨g1, rfl, hg1⟩; (first | with_reducible (replace hx := hx.addL hg1) | with_reducible (replace hx := (Sg.dr hx).addL hg1)); clear hg1)
        | (go_at_call 33; refine (HP.out _).mono ?_; rintro ee w3 ⟨rfl, hb3⟩; (first | with_reducible (replace hx := hx.step hb3) | with_reducible (replace hx := (Sg.dr hx).step hb3)); clear hb3)
        | (go_at_call 20; refine (HS.out _ g1 (rdO (n := n) (c := n) hx (by simp))).mono ?_; rintro ee w3 ⟨rfl, hb3⟩; replace hx := hx.step hb3; clear hb3))
    obtain ⟨⟨b0, b1⟩, b2, b3⟩ := HB.out _ hx.bel
    go_upto_region 7 with (go_at_call 29; refine (HT.out _ (h0.addL hx).bel).mono ?_; rintro ee w4 ⟨g2, rfl, hg2⟩; replace hx := hx.addL hg2; clear b0 b1 b2 b3 hg2)
    replace hx : Sg _ (w4.alloc (.cells #[.int .i64 e, .slice (some ⟨g2, 0, none⟩) n n] 26)) _ := hx.lit kD [⟨e, some ⟨g2, 0, none⟩, n, n⟩] 1 rfl (by decide) #[.int .i64 e, .slice (some ⟨g2, 0, none⟩) n n] rfl
    generalize w4.heap.size = k4 at *
    have HK2 : Hid (∀ w' rs, Sg ((w.alloc (.cells #[.int .i64 e, .slice p n c] 52)).alloc (.cells #[.int .i64 s, .int .i64 t] 58)) w' rs → rG kD (.slice (some ⟨k4, 0, none⟩) 1 1) [⟨e, some ⟨g2, 0, none⟩, n, n⟩] ∈ rs → ((w'.cell? ⟨k4, 0, none⟩ = some (.int .i64 e) ∧ w'.cell? ⟨k4, 1, none⟩ = some (.slice (some ⟨g2, 0, none⟩) n n)) ∧ ((w'.cell? ⟨w.heap.size, 0, none⟩ = some (.int .i64 e) ∧ w'.cell? ⟨w.heap.size, 1, none⟩ = some (.slice p n c)) ∧ (w'.cell? ⟨w.heap.size + 1, 0, none⟩ = some (.int .i64 s) ∧ w'.cell? ⟨w.heap.size + 1, 1, none⟩ = some (.int .i64 t))))) := fun w' rs h m1 => by
      obtain ⟨y0, y1, _, _⟩ := dv2 h (K := kD) (g := k4) (n := 1) (q := ⟨e, some ⟨g2, 0, none⟩, n, n⟩) m1 rfl
      exact ⟨⟨y0, y1⟩, HB.out _ h.bel⟩
    go_region_held3 (fun w' => ((w'.cell? ⟨k4, 0, none⟩ = some (.int .i64 e) ∧ w'.cell? ⟨k4, 1, none⟩ = some (.slice (some ⟨g2, 0, none⟩) n n)) ∧ ((w'.cell? ⟨w.heap.size, 0, none⟩ = some (.int .i64 e) ∧ w'.cell? ⟨w.heap.size, 1, none⟩ = some (.slice p n c)) ∧ (w'.cell? ⟨w.heap.size + 1, 0, none⟩ = some (.int .i64 s) ∧ w'.cell? ⟨w.heap.size + 1, 1, none⟩ = some (.int .i64 t)))))
      (first
        | assumption
        | with_reducible exact HK2.out _ _ hx (by simp)
        | with_reducible exact HK2.out _ _ (Sg.dr hx) (by simp))
      (first
        | (go_at_call 33; refine (HP.out _).mono ?_; rintro ee w3 ⟨rfl, hb3⟩; (first | with_reducible (replace hx := hx.step hb3) | with_reducible (replace hx := (Sg.dr hx).step hb3)); clear hb3)
        | (go_at_call 19; refine (HI.out _ g2 (rdO (n := n) (c := n) hx (by simp))).mono ?_; rintro ee w3 ⟨rfl, hb3⟩; replace hx := hx.step hb3; clear hb3))
    go_upto_region 10 with (fail)
    go_region_held3 (fun w' => ((w'.cell? ⟨k4, 0, none⟩ = some (.int .i64 e) ∧ w'.cell? ⟨k4, 1, none⟩ = some (.slice (some ⟨g2, 0, none⟩) n n)) ∧ ((w'.cell? ⟨w.heap.size, 0, none⟩ = some (.int .i64 e) ∧ w'.cell? ⟨w.heap.size, 1, none⟩ = some (.slice p n c)) ∧ (w'.cell? ⟨w.heap.size + 1, 0, none⟩ = some (.int .i64 s) ∧ w'.cell? ⟨w.heap.size + 1, 1, none⟩ = some (.int .i64 t)))))
      (first
        | assumption
        | with_reducible exact HK2.out _ _ hx (by simp)
        | with_reducible exact HK2.out _ _ (Sg.dr hx) (by simp))
      (first
        | (go_at_call 29; refine (HT.out _ (by first | with_reducible exact (h0.addL hx).bel | with_reducible exact (h0.addL (Sg.dr hx)).bel)).mono ?_; rintro ee w7 ⟨g3, rfl, hg3⟩; (first | with_reducible (replace hx := hx.addL hg3) | with_reducible (replace hx := (Sg.dr hx).addL hg3)); clear hg3)
        | (go_at_call 30; refine (HE.out _ g2 g3 (rdO (n := n) (c := n) hx (by simp)) (rdO (n := n) (c := n) hx (by simp))).mono ?_; rintro ee w8 ⟨rfl, hb8⟩; replace hx := hx.step hb8; clear hb8))
    go_wp2
    go_ret
    exact ⟨rfl, (h0.addL hx).bel⟩
  · have HZ := Lib.hid (fun W => szDirectory_v (d := ⟨e, p, n, c⟩) (v := -1) (by simp only; rw [if_pos (by omega)]) W hm)
    clear hn hL hm hz
    go_enter Try.func6, Try.ntmps6
    go_wp2_with (go_at_call 28; refine (HZ.out _).mono ?_; rintro ee w1 ⟨rfl, hb1⟩)
    go_ret
    exact ⟨rfl, (h0.step hb1).bel⟩
end Go.Proofs.Ytamnmakegdnblaa.K.D
