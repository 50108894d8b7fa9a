/-
  The law of DirectoryOk walked.
-/
import Derived.Test.YtamnmakegdnblaaKP2
import Derived.Deep.RegionHeld3
namespace Go.Proofs.Ytamnmakegdnblaa.K.D
open Go.Shelf Go.RowKit Go.Joins
attribute [local go_sem] Oper.semAt_some

theorem Sg.dr {w W : World} {rs : List Rw} (h : Sg w W rs) : Sg w W.drew rs := h.step (Below.refl _ _).drew
theorem sg_bel {w W : World} (h : Below w.heap.size w W) : Sg w W [] := ⟨h, by simp, .nil⟩
theorem bx2 {w W : World} {v0 v1 : Value} {ty : TypeId} (h : Below (w.alloc (.cells #[v0, v1] ty)).heap.size (w.alloc (.cells #[v0, v1] ty)) W) : W.cell? ⟨w.heap.size, 0, none⟩ = some v0 ∧ W.cell? ⟨w.heap.size, 1, none⟩ = some v1 := by
  have := (((St.nil w).push [v0, v1] ty).step h).has
  simp [Has, HasAt] at this
  simp [this]
/-- A list of one's own reads. -/
theorem rdO {w W : World} {rs : List Rw} {g n c : Nat} {L : List On} (h : Sg w W rs) (hm : rG kO (.slice (some ⟨g, 0, none⟩) n c) L ∈ rs) : SlG kO W (some ⟨g, 0, none⟩) L := OwG.sl (h.mem hm)
theorem dlen {e : Int} {p : Option Addr} {n c : Nat} {v : Int} (hz : n ≤ 1048576) (hv : (1048576 : Int) - n = v) : (if 1048576 < (Dv.mk e p n c).n then -1 else 1048576 - ((Dv.mk e p n c).n : Int)) = v := by
  simp only
  rw [if_neg (by omega)]; exact hv
set_option maxRecDepth 100000 in
set_option maxHeartbeats 2000000 in
theorem exactDirectoryOk (e : Int) (p : Option Addr) (n c : Nat) (L : List On) (hn : L.length = n) (w : World) (hL : SlG kLO w p L) (hm : n ≤ maxLen) :
    Calls Try.prog 4 #[Dv.v ⟨e, p, n, c⟩] w fun ee w' => ee = .returned (.bool true) ∧ Below w.heap.size w w' := by
  have h0 := sg_bel (below_alloc1 w (.cells #[.int .i64 e, .slice p n c] 52))
  by_cases hz : n ≤ 1048576
  · obtain ⟨v, hv⟩ : ∃ v, (1048576 : Int) - (n : Int) = v := ⟨_, rfl⟩
    have hv0 : ¬ v < 0 := by omega
    have HZ := Lib.hid (fun W => szDirectory_v (dlen (e := e) (p := p) (c := c) hz hv) W hm)
    have HT := Lib.hid (fun W (hb : Below w.heap.size w W) => toDirectory_any e p n c L hn W (hL.step hb) hz)
    obtain ⟨b, hbb⟩ : ∃ b, dirB e L = b := ⟨_, rfl⟩
    have HS : Hid (∀ W g, SlG kO W (some ⟨g, 0, none⟩) L → Calls Try.prog 18 #[Dv.v ⟨e, some ⟨g, 0, none⟩, n, n⟩] W fun ee w' => ee = .returned (.bool b) ∧ Below W.heap.size W w') := fun W g hr => hbb ▸ sDirectoryOk_any e _ n n L hn W hr (Nat.le_refl _)
    have HI : Hid (∀ W g, SlG kO W (some ⟨g, 0, none⟩) L → Calls Try.prog 17 #[Dv.v ⟨e, some ⟨g, 0, none⟩, n, n⟩] W fun ee w' => ee = .returned (.bool b) ∧ Below W.heap.size W w') := fun W g hr => hbb ▸ iDirectoryOk_any e _ n n L hn W hr (by omega)
    have HE : Hid (∀ W g1 g2, SlG kO W (some ⟨g1, 0, none⟩) L → SlG kO W (some ⟨g2, 0, none⟩) L → Calls Try.prog 30 #[Dv.v ⟨e, some ⟨g1, 0, none⟩, n, n⟩, Dv.v ⟨e, some ⟨g2, 0, none⟩, n, n⟩] W fun ee w' => ee = .returned (.bool true) ∧ Below W.heap.size W w') := fun W g1 g2 h1 h2 => eqDirectory_same e _ _ n n L n hn W h1 h2 (by omega)
    have hx := Sg.nil (w.alloc (.cells #[.int .i64 e, .slice p n c] 52))
    obtain ⟨b0, b1⟩ := bx2 hx.bel
    clear hn hL hm hz hv hbb
    go_enter Try.func4, Try.ntmps4
    go_upto_region 5 with (go_at_call 28; refine (HZ.out _).mono ?_; rintro ee w1 ⟨rfl, hb1⟩; replace hx := hx.step hb1; clear b0 b1; obtain ⟨b0, b1⟩ := bx2 hx.bel)
    go_upto_region 6 with (first
      | (go_at_call 29; refine (HT.out _ (h0.addL hx).bel).mono ?_; rintro ee w2 ⟨g1, rfl, hg1⟩; replace hx := hx.addL hg1; clear b0 b1; obtain ⟨b0, b1⟩ := bx2 hx.bel)
      | (go_at_call 18; refine (HS.out _ g1 (rdO (n := n) (c := n) hx (by simp))).mono ?_; rintro ee w3 ⟨rfl, hb3⟩; replace hx := hx.step hb3; clear b0 b1; obtain ⟨b0, b1⟩ := bx2 hx.bel))
    go_upto_region 7 with (go_at_call 29; refine (HT.out _ (h0.addL hx).bel).mono ?_; rintro ee w4 ⟨g2, rfl, hg2⟩; replace hx := hx.addL hg2; clear b0 b1)
    replace hx : Sg _ (w4.alloc (.cells #[.int .i64 e, .slice (some ⟨g2, 0, none⟩) n n] 26)) _ := hx.lit kD [⟨e, some ⟨g2, 0, none⟩, n, n⟩] 1 rfl (by decide) #[.int .i64 e, .slice (some ⟨g2, 0, none⟩) n n] rfl
    obtain ⟨x0, x1, xf, xg⟩ := dv2 hx (K := kD) (g := w4.heap.size) (n := 1) (q := ⟨e, some ⟨g2, 0, none⟩, n, n⟩) (by simp) rfl
    dsimp only at x0 x1
    obtain ⟨b0, b1⟩ := bx2 hx.bel
    go_upto_region 8 with (go_at_call 17; refine (HI.out _ g2 (rdO (n := n) (c := n) hx (by simp))).mono ?_; rintro ee w5 ⟨rfl, hb5⟩; replace hx := hx.step hb5; clear b0 b1 x0 x1)
    go_upto_region 10 with (fail)
    clear xf xg
    generalize w4.heap.size = k4 at *
    have HK2 : Hid (∀ w' rs, Sg (w.alloc (.cells #[.int .i64 e, .slice p n c] 52)) w' rs → rG kD (.slice (some ⟨k4, 0, none⟩) 1 1) [⟨e, some ⟨g2, 0, none⟩, n, n⟩] ∈ rs → ((w'.cell? ⟨k4, 0, none⟩ = some (.int .i64 e) ∧ w'.cell? ⟨k4, 1, none⟩ = some (.slice (some ⟨g2, 0, none⟩) n n)) ∧ (w'.cell? ⟨w.heap.size, 0, none⟩ = some (.int .i64 e) ∧ w'.cell? ⟨w.heap.size, 1, none⟩ = some (.slice p n c)))) := fun w' rs h m1 => by
      obtain ⟨y0, y1, _, _⟩ := dv2 h (K := kD) (g := k4) (n := 1) (q := ⟨e, some ⟨g2, 0, none⟩, n, n⟩) m1 rfl
      exact ⟨⟨y0, y1⟩, bx2 h.bel⟩
    go_region_held3 (fun w' => ((w'.cell? ⟨k4, 0, none⟩ = some (.int .i64 e) ∧ w'.cell? ⟨k4, 1, none⟩ = some (.slice (some ⟨g2, 0, none⟩) n n)) ∧ (w'.cell? ⟨w.heap.size, 0, none⟩ = some (.int .i64 e) ∧ w'.cell? ⟨w.heap.size, 1, none⟩ = some (.slice p n c))))
      (first
        | assumption
        | with_reducible exact HK2.out _ _ hx (by simp)
        | with_reducible exact HK2.out _ _ (Sg.dr hx) (by simp))
      (first
        | (go_at_call 29; refine (HT.out _ (by first | with_reducible exact (h0.addL hx).bel | with_reducible exact (h0.addL (Sg.dr hx)).bel)).mono ?_; rintro ee w7 ⟨g3, rfl, hg3⟩; (first | with_reducible (replace hx := hx.addL hg3) | with_reducible (replace hx := (Sg.dr hx).addL hg3)); clear hg3)
        | (go_at_call 30; refine (HE.out _ g2 g3 (rdO (n := n) (c := n) hx (by simp)) (rdO (n := n) (c := n) hx (by simp))).mono ?_; rintro ee w8 ⟨rfl, hb8⟩; replace hx := hx.step hb8; clear hb8))
    go_wp2
    go_ret
    exact ⟨rfl, (h0.addL hx).bel⟩
  · have HZ := Lib.hid (fun W => szDirectory_v (d := ⟨e, p, n, c⟩) (v := -1) (by simp only; rw [if_pos (by omega)]) W hm)
    clear hn hL hm hz
    go_enter Try.func4, Try.ntmps4
    go_wp2_with (go_at_call 28; refine (HZ.out _).mono ?_; rintro ee w1 ⟨rfl, hb1⟩)
    go_ret
    exact ⟨rfl, (h0.step hb1).bel⟩
end Go.Proofs.Ytamnmakegdnblaa.K.D
