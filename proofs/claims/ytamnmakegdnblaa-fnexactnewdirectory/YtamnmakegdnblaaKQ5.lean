/-
  The law of NewDirectory walked.
-/
import Derived.Test.YtamnmakegdnblaaKP8
namespace Go.Proofs.Ytamnmakegdnblaa.K.D
open Go.Shelf Go.RowKit Go.Joins
attribute [local go_sem] Oper.semAt_some

set_option maxRecDepth 100000 in
set_option maxHeartbeats 2000000 in
theorem exactNewDirectory (w : World) : Calls Try.prog 5 #[] w fun ee w' => ee = .returned (.bool true) ∧ Below w.heap.size w w' := by
  have HE : Hid (∀ W g1 g2, SlG kO W (some ⟨g1, 0, none⟩) [zon] → SlG kO W (some ⟨g2, 0, none⟩) [zon] → Calls Try.prog 30 #[Dv.v ⟨1, some ⟨g1, 0, none⟩, 1, 1⟩, Dv.v ⟨1, some ⟨g2, 0, none⟩, 1, 1⟩] W fun ee w' => ee = .returned (.bool true) ∧ Below W.heap.size W w') := fun W g1 g2 h1 h2 => eqDirectory_same 1 _ _ 1 1 [zon] 1 rfl W h1 h2 (by omega)
  have HM : Hid (∀ W A Bs g, Sg w W (A ++ rG kO (.slice (some ⟨g, 0, none⟩) 1 1) [zon] :: Bs) → Calls Try.prog 31 #[Dv.v ⟨1, some ⟨g, 0, none⟩, 1, 1⟩, .int .i64 1] W fun ee w' => ee = .returned (.int .i64 5) ∧ Sg w w' (A ++ rG kO (.slice (some ⟨g, 0, none⟩) 1 1) (mkOs 1 1) :: Bs)) := fun W A Bs g h => markDirectory_any 1 _ 1 1 [zon] A Bs _ W h (by omega)
  have HH : Hid (∀ W g, SlG kO W (some ⟨g, 0, none⟩) (mkOs 1 1) → Calls Try.prog 32 #[Dv.v ⟨1, some ⟨g, 0, none⟩, 1, 1⟩, .int .i64 1] W fun ee w' => ee = .returned (.int .i64 5) ∧ Below W.heap.size W w') := fun W g h => heldDirectory_any 1 _ 1 1 W h (by omega)
  have hx := Sg.nil w
  go_enter Try.func5, Try.ntmps5
  go_upto_region 2 with (go_at_call 22; refine (sNewDirectory_any _).mono ?_; rintro ee w1 ⟨g1, rfl, hS1⟩; replace hx := hx.addL hS1)
  replace hx : Sg w (w1.alloc (.cells #[.int .i64 1, .slice (some ⟨g1, 0, none⟩) 1 1] 26)) _ := hx.lit kD [⟨1, some ⟨g1, 0, none⟩, 1, 1⟩] 1 rfl (by decide) #[.int .i64 1, .slice (some ⟨g1, 0, none⟩) 1 1] rfl
  replace hx : Sg w (w1.alloc (.cells #[.int .i64 1, .slice (some ⟨g1, 0, none⟩) 1 1] 26)) [rG kD (.slice (some ⟨w1.heap.size, 0, none⟩) 1 1) [⟨1, some ⟨g1, 0, none⟩, 1, 1⟩], rG kO (.slice (some ⟨g1, 0, none⟩) 1 1) [zon]] := hx
  generalize w1.heap.size = b1 at *
  generalize w1.alloc (.cells #[.int .i64 1, .slice (some ⟨g1, 0, none⟩) 1 1] 26) = w2 at *
  go_upto_region 3 with (go_at_call 21; refine (iNewDirectory_any _).mono ?_; rintro ee w3 ⟨g3, rfl, hS3⟩; replace hx := hx.addL hS3)
  replace hx : Sg w (w3.alloc (.cells #[.int .i64 1, .slice (some ⟨g3, 0, none⟩) 1 1] 26)) _ := hx.lit kD [⟨1, some ⟨g3, 0, none⟩, 1, 1⟩] 1 rfl (by decide) #[.int .i64 1, .slice (some ⟨g3, 0, none⟩) 1 1] rfl
  replace hx : Sg w (w3.alloc (.cells #[.int .i64 1, .slice (some ⟨g3, 0, none⟩) 1 1] 26)) [rG kD (.slice (some ⟨w3.heap.size, 0, none⟩) 1 1) [⟨1, some ⟨g3, 0, none⟩, 1, 1⟩], rG kO (.slice (some ⟨g3, 0, none⟩) 1 1) [zon], rG kD (.slice (some ⟨b1, 0, none⟩) 1 1) [⟨1, some ⟨g1, 0, none⟩, 1, 1⟩], rG kO (.slice (some ⟨g1, 0, none⟩) 1 1) [zon]] := hx
  generalize w3.heap.size = b3 at *
  generalize w3.alloc (.cells #[.int .i64 1, .slice (some ⟨g3, 0, none⟩) 1 1] 26) = w4 at *
  obtain ⟨y0, y1, _, _⟩ := dv2 hx (K := kD) (g := b3) (n := 1) (q := ⟨1, some ⟨g3, 0, none⟩, 1, 1⟩) (by simp) rfl; dsimp only at y0 y1
  obtain ⟨z0, z1, _, _⟩ := dv2 hx (K := kD) (g := b1) (n := 1) (q := ⟨1, some ⟨g1, 0, none⟩, 1, 1⟩) (by simp) rfl; dsimp only at z0 z1
  go_upto_region 6 with (go_at_call 30; refine (HE.out _ g3 g1 (OwG.sl (hx.mem (K := kO) (v := .slice (some ⟨g3, 0, none⟩) 1 1) (L := [zon]) (by simp))) (OwG.sl (hx.mem (K := kO) (v := .slice (some ⟨g1, 0, none⟩) 1 1) (L := [zon]) (by simp)))).mono ?_; rintro ee w5 ⟨rfl, hb5⟩; replace hx := hx.step hb5; clear y0 y1 z0 z1; obtain ⟨y0, y1, _, _⟩ := dv2 hx (K := kD) (g := b3) (n := 1) (q := ⟨1, some ⟨g3, 0, none⟩, 1, 1⟩) (by simp) rfl; dsimp only at y0 y1)
  go_upto_region 8 with (go_at_call 31; refine (HM.out _ [rG kD (.slice (some ⟨b3, 0, none⟩) 1 1) [⟨1, some ⟨g3, 0, none⟩, 1, 1⟩]] [rG kD (.slice (some ⟨b1, 0, none⟩) 1 1) [⟨1, some ⟨g1, 0, none⟩, 1, 1⟩], rG kO (.slice (some ⟨g1, 0, none⟩) 1 1) [zon]] g3 hx).mono ?_; rintro ee w6 ⟨rfl, hx6⟩; clear y0 y1 hx)
  have hx : Sg w w6 [rG kD (.slice (some ⟨b3, 0, none⟩) 1 1) [⟨1, some ⟨g3, 0, none⟩, 1, 1⟩], rG kO (.slice (some ⟨g3, 0, none⟩) 1 1) (mkOs 1 1), rG kD (.slice (some ⟨b1, 0, none⟩) 1 1) [⟨1, some ⟨g1, 0, none⟩, 1, 1⟩], rG kO (.slice (some ⟨g1, 0, none⟩) 1 1) [zon]] := hx6
  clear hx6
  obtain ⟨y0, y1, _, _⟩ := dv2 hx (K := kD) (g := b3) (n := 1) (q := ⟨1, some ⟨g3, 0, none⟩, 1, 1⟩) (by simp) rfl; dsimp only at y0 y1
  go_upto_region 13 with (go_at_call 32; refine (HH.out _ g3 (OwG.sl (hx.mem (K := kO) (v := .slice (some ⟨g3, 0, none⟩) 1 1) (L := mkOs 1 1) (by simp)))).mono ?_; rintro ee w7 ⟨rfl, hb7⟩; replace hx := hx.step hb7; clear y0 y1)
  go_upto_region 14 with (go_at_call 21; refine (iNewDirectory_any _).mono ?_; rintro ee w8 ⟨g8, rfl, hS8⟩; replace hx := hx.addL hS8)
  replace hx : Sg w (w8.alloc (.cells #[.int .i64 1, .slice (some ⟨g8, 0, none⟩) 1 1] 26)) _ := hx.lit kD [⟨1, some ⟨g8, 0, none⟩, 1, 1⟩] 1 rfl (by decide) #[.int .i64 1, .slice (some ⟨g8, 0, none⟩) 1 1] rfl
  replace hx : Sg w (w8.alloc (.cells #[.int .i64 1, .slice (some ⟨g8, 0, none⟩) 1 1] 26)) [rG kD (.slice (some ⟨w8.heap.size, 0, none⟩) 1 1) [⟨1, some ⟨g8, 0, none⟩, 1, 1⟩], rG kO (.slice (some ⟨g8, 0, none⟩) 1 1) [zon], rG kD (.slice (some ⟨b3, 0, none⟩) 1 1) [⟨1, some ⟨g3, 0, none⟩, 1, 1⟩], rG kO (.slice (some ⟨g3, 0, none⟩) 1 1) (mkOs 1 1), rG kD (.slice (some ⟨b1, 0, none⟩) 1 1) [⟨1, some ⟨g1, 0, none⟩, 1, 1⟩], rG kO (.slice (some ⟨g1, 0, none⟩) 1 1) [zon]] := hx
  generalize w8.heap.size = b8 at *
  generalize w8.alloc (.cells #[.int .i64 1, .slice (some ⟨g8, 0, none⟩) 1 1] 26) = w9 at *
  obtain ⟨y0, y1, _, _⟩ := dv2 hx (K := kD) (g := b8) (n := 1) (q := ⟨1, some ⟨g8, 0, none⟩, 1, 1⟩) (by simp) rfl; dsimp only at y0 y1
  obtain ⟨z0, z1, _, _⟩ := dv2 hx (K := kD) (g := b1) (n := 1) (q := ⟨1, some ⟨g1, 0, none⟩, 1, 1⟩) (by simp) rfl; dsimp only at z0 z1
  go_upto_region 17 with (go_at_call 30; refine (HE.out _ g8 g1 (OwG.sl (hx.mem (K := kO) (v := .slice (some ⟨g8, 0, none⟩) 1 1) (L := [zon]) (by simp))) (OwG.sl (hx.mem (K := kO) (v := .slice (some ⟨g1, 0, none⟩) 1 1) (L := [zon]) (by simp)))).mono ?_; rintro ee w10 ⟨rfl, hb10⟩; replace hx := hx.step hb10; clear y0 y1 z0 z1)
  obtain ⟨y0, y1, _, _⟩ := dv2 hx (K := kD) (g := b3) (n := 1) (q := ⟨1, some ⟨g3, 0, none⟩, 1, 1⟩) (by simp) rfl; dsimp only at y0 y1
  go_wp2_with (go_at_call 32; refine (HH.out _ g3 (OwG.sl (hx.mem (K := kO) (v := .slice (some ⟨g3, 0, none⟩) 1 1) (L := mkOs 1 1) (by simp)))).mono ?_; rintro ee w11 ⟨rfl, hb11⟩; replace hx := hx.step hb11; clear y0 y1)
  go_ret
  exact ⟨rfl, hx.bel⟩
end Go.Proofs.Ytamnmakegdnblaa.K.D
