/-
  For every Tree and Rect the law of Looked returns true: the program answers as the specification and writes into no argument; no condition.
-/
import Derived.Test.YtipfcmfcdfofmaaGreatLH
import Derived.Test.YtipfcmfcdfofmaaGreatXB
import Derived.Test.YtipfcmfcdfofmaaGreatXL
import Derived.Deep.Cut
import Derived.Deep.RegionWith
import Derived.Test.YtipfcmfcdfofmaaGreatRows
import Derived.ProofKit
import Derived.Below
import Derived.Lib.SmallJoins
namespace Go.Proofs.YtipfcmfcdfofmaaGreat
open Go.RowKit Go.Joins
attribute [local go_sem] Oper.semAt_some

def kLR : Kd T4 := ⟨56, 4, fun c => [.int .i64 c.x, .int .i64 c.y, .int .i64 c.w, .int .i64 c.h], fun _ => rfl⟩
theorem perm_frontXK {α : Type} (a b : α) (X Y : List α) : (a :: b :: (X ++ Y)).Perm (X ++ a :: b :: Y) := by
  have h1 : (b :: (X ++ Y)).Perm (X ++ b :: Y) := List.perm_middle.symm
  have h2 : (a :: (X ++ b :: Y)).Perm (X ++ a :: b :: Y) := List.perm_middle.symm
  exact (h1.cons a).trans h2
set_option maxRecDepth 100000 in
set_option maxHeartbeats 16000000 in
theorem exactLooked (p q : Option Addr) (m n c d : Nat) (L : List Mk) (NL : List (Nd × Sv)) (hm : L.length = m) (hn : NL.length = n) (hmm : m ≤ maxLen) (hnm : n ≤ maxLen) (rx ry rw rh : Int) (w : World) (hL : SlG kL w p L) (hN : SlG kLN w q NL) (hP : ∀ y ∈ NL, SlG kI w y.2.p y.1.ps ∧ y.2.n = y.1.ps.length ∧ y.1.ps.length ≤ maxLen) :
    Calls Tryz.prog 6 #[.agg #[.slice p m c, .slice q n d], .agg #[.int .i64 rx, .int .i64 ry, .int .i64 rw, .int .i64 rh]] w fun e w' => e = .returned (.bool true) ∧ Below w.heap.size w w' := by
  have hS0 := ((Sg.nil w).lit kT5 [(⟨p, m, c⟩, ⟨q, n, d⟩)] 1 rfl (by decide) #[.slice p m c, .slice q n d] rfl).lit kLR [⟨rx, ry, rw, rh⟩] 1 rfl (by decide) #[.int .i64 rx, .int .i64 ry, .int .i64 rw, .int .i64 rh] rfl
  simp only [World.size_alloc] at hS0
  have HZ := szTree_any p q m n c d NL hn hmm hnm _ (hN.step hS0.bel) fun y hy => (hP y hy).2
  have HH : Hid (L.length = m ∧ NL.length = n ∧ SlG kL w p L ∧ SlG kLN w q NL ∧ ∀ y ∈ NL, SlG kI w y.2.p y.1.ps ∧ y.2.n = y.1.ps.length ∧ y.1.ps.length ≤ maxLen) := ⟨hm, hn, hL, hN, hP⟩
  clear hm hn hmm hnm hL hN hP
  change Sg w ((w.alloc (.cells #[.slice p m c, .slice q n d] 55)).alloc (.cells #[.int .i64 rx, .int .i64 ry, .int .i64 rw, .int .i64 rh] 56)) [rG kLR (.slice (some ⟨w.heap.size + 1, 0, none⟩) 1 1) [⟨rx, ry, rw, rh⟩], rG kT5 (.slice (some ⟨w.heap.size, 0, none⟩) 1 1) [(⟨p, m, c⟩, ⟨q, n, d⟩)]] at hS0
  go_enter Tryz.func6, Tryz.ntmps6
  go_upto_region 3 with (go_at_call 25; refine HZ.mono ?_; rintro e w1 ⟨r, rfl, hr, hb1⟩; have hx := hS0.step hb1)
  rcases hr with rfl | hr
  · go_wp2
    go_ret
    exact ⟨rfl, hx.bel⟩
  have hr0 : ¬ r < 0 := by omega
  have HT : Hid (∀ W, Below w.heap.size w W → Calls Tryz.prog 26 #[.agg #[.slice p m c, .slice q n d]] W fun e w' => ∃ g h NL', e = .returned (.agg #[.slice (some ⟨g, 0, none⟩) m m, .slice (some ⟨h, 0, none⟩) n n]) ∧ NL'.map Prod.fst = NL.map Prod.fst ∧ Sg W w' (treeR (.slice (some ⟨g, 0, none⟩) m m) (.slice (some ⟨h, 0, none⟩) n n) L NL')) := fun W h => toTree_any p q m n c d L NL HH.out.1 HH.out.2.1 hr.2.1 hr.2.2.1 W (HH.out.2.2.1.step h) (HH.out.2.2.2.1.step h) fun y hy => ⟨(HH.out.2.2.2.2 y hy).1.step h, (HH.out.2.2.2.2 y hy).2.1, hr.2.2.2 y hy⟩
  have HB : Hid (∀ NL' : List (Nd × Sv), NL'.map Prod.fst = NL.map Prod.fst → NL'.length = n ∧ ∀ x ∈ NL', x.1.ps.length ≤ 1048576) := fun NL' h => ⟨by have := congrArg List.length h; simp [HH.out.2.1] at this; exact this, fun x hx => by
      have h1 : x.1 ∈ NL.map Prod.fst := by rw [← h]; exact List.mem_map_of_mem hx
      obtain ⟨y, hy, e⟩ := List.mem_map.mp h1
      rw [← e]; exact hr.2.2.2 y hy⟩
  have hmb : m ≤ 1048576 := hr.2.1
  have hnb : n ≤ 1048576 := hr.2.2.1
  have HL : Hid (L.length = m) := HH.out.1
  obtain ⟨z, hz⟩ : ∃ z, lkC L (NL.map Prod.fst) ⟨rx, ry, rw, rh⟩ = z := ⟨_, rfl⟩
  have HS : Hid (∀ W : World, ∀ rs : List Rw, ∀ g2 h2 : Nat, ∀ N2 : List (Nd × Sv), N2.map Prod.fst = NL.map Prod.fst → Sg w W rs → (∀ r ∈ treeR (.slice (some ⟨g2, 0, none⟩) m m) (.slice (some ⟨h2, 0, none⟩) n n) L N2, r ∈ rs) → (SlG kM W (some ⟨g2, 0, none⟩) L ∧ RdN W (some ⟨h2, 0, none⟩) N2)) := fun W rs g2 h2 N2 _ hS hm => ⟨OwG.sl (hS.mem (K := kM) (v := .slice (some ⟨g2, 0, none⟩) m m) (L := L) (hm _ (by simp [treeR]))), hS.rdN (n := n) (c := n) (NL := N2) (fun r hr => hm r (by simp [treeR, hr]))⟩
  have HSP : Hid (∀ W : World, ∀ rs : List Rw, ∀ g2 h2 : Nat, ∀ N2 : List (Nd × Sv), N2.map Prod.fst = NL.map Prod.fst → Sg w W rs → (∀ r ∈ treeR (.slice (some ⟨g2, 0, none⟩) m m) (.slice (some ⟨h2, 0, none⟩) n n) L N2, r ∈ rs) → Calls Tryz.prog 18 #[.agg #[.slice (some ⟨g2, 0, none⟩) m m, .slice (some ⟨h2, 0, none⟩) n n], .agg #[.int .i64 rx, .int .i64 ry, .int .i64 rw, .int .i64 rh]] W fun e w' => e = .returned (.int .i64 z) ∧ Below W.heap.size W w') := fun W rs g2 h2 N2 hN hS hm => by
      have h := sLooked_any ⟨g2, 0, none⟩ (some ⟨h2, 0, none⟩) m n m n L N2 HL.out (HB.out N2 hN).1 (by omega) (by omega) (fun x hx => Nat.le_trans ((HB.out N2 hN).2 x hx) (by decide)) (Nat.le_refl _) ⟨rx, ry, rw, rh⟩ W (HS.out W rs g2 h2 N2 hN hS hm).1 (HS.out W rs g2 h2 N2 hN hS hm).2
      rw [hN, hz] at h; exact h
  have HIM : Hid (∀ W : World, ∀ rs : List Rw, ∀ g2 h2 : Nat, ∀ N2 : List (Nd × Sv), N2.map Prod.fst = NL.map Prod.fst → Sg w W rs → (∀ r ∈ treeR (.slice (some ⟨g2, 0, none⟩) m m) (.slice (some ⟨h2, 0, none⟩) n n) L N2, r ∈ rs) → Calls Tryz.prog 12 #[.agg #[.slice (some ⟨g2, 0, none⟩) m m, .slice (some ⟨h2, 0, none⟩) n n], .agg #[.int .i64 rx, .int .i64 ry, .int .i64 rw, .int .i64 rh]] W fun e w' => e = .returned (.int .i64 z) ∧ Below W.heap.size W w') := fun W rs g2 h2 N2 hN hS hm => by
      have h := iLooked_any (some ⟨g2, 0, none⟩) (some ⟨h2, 0, none⟩) m n m n L N2 HL.out (HB.out N2 hN).1 (by omega) (by omega) (fun x hx => Nat.le_trans ((HB.out N2 hN).2 x hx) (by decide)) (Nat.le_refl _) ⟨rx, ry, rw, rh⟩ W (HS.out W rs g2 h2 N2 hN hS hm).1 (HS.out W rs g2 h2 N2 hN hS hm).2
      rw [hN, hz] at h; exact h
  have H29 : Hid (∀ W : World, ∀ rs : List Rw, ∀ g2 h2 : Nat, ∀ N2 : List (Nd × Sv), ∀ g3 h3 : Nat, ∀ N3 : List (Nd × Sv), N2.map Prod.fst = NL.map Prod.fst → N3.map Prod.fst = NL.map Prod.fst → Sg w W rs → (∀ r ∈ treeR (.slice (some ⟨g2, 0, none⟩) m m) (.slice (some ⟨h2, 0, none⟩) n n) L N2, r ∈ rs) → (∀ r ∈ treeR (.slice (some ⟨g3, 0, none⟩) m m) (.slice (some ⟨h3, 0, none⟩) n n) L N3, r ∈ rs) → Calls Tryz.prog 29 #[.agg #[.slice (some ⟨g2, 0, none⟩) m m, .slice (some ⟨h2, 0, none⟩) n n], .agg #[.slice (some ⟨g3, 0, none⟩) m m, .slice (some ⟨h3, 0, none⟩) n n]] W fun e w' => e = .returned (.bool true) ∧ Below W.heap.size W w') := fun W rs g2 h2 N2 g3 h3 N3 hN hN3 hS hm hm3 => eqTree_big (some ⟨g2, 0, none⟩) (some ⟨g3, 0, none⟩) (some ⟨h2, 0, none⟩) (some ⟨h3, 0, none⟩) m m n n L m HL.out N2 N3 n (HB.out N2 hN).1 (by rw [hN, hN3]) (by omega) (by omega) (fun x hx => Nat.le_trans ((HB.out N2 hN).2 x hx) (by decide)) W (HS.out W rs g2 h2 N2 hN hS hm).1 (HS.out W rs g3 h3 N3 hN3 hS hm3).1 (HS.out W rs g2 h2 N2 hN hS hm).2 (HS.out W rs g3 h3 N3 hN3 hS hm3).2
  clear hr hz HZ hS0 hb1
  go_upto_region 5 with fail
  go_cut [6] from 9 (fun v wx => v = .int .i64 z ∧ Sg w wx [rG kLR (.slice (some ⟨w.heap.size + 1, 0, none⟩) 1 1) [⟨rx, ry, rw, rh⟩], rG kT5 (.slice (some ⟨w.heap.size, 0, none⟩) 1 1) [(⟨p, m, c⟩, ⟨q, n, d⟩)]])
  case first =>
    replace hx := hx.step (Below.refl _ _).drew
    obtain ⟨x0, x1, _, xg⟩ := hx.two (K := kT5) (g := w.heap.size) (c := 1) (p := (⟨p, m, c⟩, ⟨q, n, d⟩)) (by simp) rfl
    obtain ⟨y0, y1, y2, y3, _, yg⟩ := hx.four (K := kLR) (g := w.heap.size + 1) (c := 1) (p := ⟨rx, ry, rw, rh⟩) (by simp) rfl
    go_region_with (first
      | (go_at_call 26; refine (HT.out _ hx.bel).mono ?_; rintro e wt ⟨g6, h6, N6, rfl, hN6, hT6⟩; replace hx := hx.addL hT6; clear hT6 x0 x1 xg y0 y1 y2 y3 yg; obtain ⟨x0, x1, _, xg⟩ := hx.two (K := kT5) (g := w.heap.size) (c := 1) (p := (⟨p, m, c⟩, ⟨q, n, d⟩)) (by simp) rfl; obtain ⟨y0, y1, y2, y3, _, yg⟩ := hx.four (K := kLR) (g := w.heap.size + 1) (c := 1) (p := ⟨rx, ry, rw, rh⟩) (by simp) rfl)
      | (go_at_call 27; refine (toRect_any _ _ _ _ _).mono ?_; rintro e wt ⟨rfl, hbt⟩; replace hx := hx.step hbt; clear hbt x0 x1 xg y0 y1 y2 y3 yg; obtain ⟨x0, x1, _, xg⟩ := hx.two (K := kT5) (g := w.heap.size) (c := 1) (p := (⟨p, m, c⟩, ⟨q, n, d⟩)) (by simp) rfl; obtain ⟨y0, y1, y2, y3, _, yg⟩ := hx.four (K := kLR) (g := w.heap.size + 1) (c := 1) (p := ⟨rx, ry, rw, rh⟩) (by simp) rfl)
      | (go_at_call 18; refine (HSP.out _ _ g6 h6 N6 hN6 hx (fun r hr => by simp [hr])).mono ?_; rintro e wt ⟨rfl, hbt⟩; replace hx := hx.step hbt))
    all_goals
      go_wp2
      go_meet
      exact ⟨rfl, hx.sub (List.sublist_append_right _ _)⟩
  case rest =>
  clear hx
  obtain ⟨rfl, hx⟩ := hcut
  clear HSP
  rename World => w2
  obtain ⟨x0, x1, _, xg⟩ := hx.two (K := kT5) (g := w.heap.size) (c := 1) (p := (⟨p, m, c⟩, ⟨q, n, d⟩)) (by simp) rfl
  obtain ⟨y0, y1, y2, y3, _, yg⟩ := hx.four (K := kLR) (g := w.heap.size + 1) (c := 1) (p := ⟨rx, ry, rw, rh⟩) (by simp) rfl
  go_upto_region 7 with (go_at_call 26; refine (HT.out _ hx.bel).mono ?_; rintro e w4 ⟨g4, h4, N4, rfl, hN4, hT4⟩; replace hx := (hx.addL hT4).lit kT [(⟨some ⟨g4, 0, none⟩, m, m⟩, ⟨some ⟨h4, 0, none⟩, n, n⟩)] 1 rfl (by decide) #[.slice (some ⟨g4, 0, none⟩) m m, .slice (some ⟨h4, 0, none⟩) n n] rfl)
  change Sg w (w4.alloc (.cells #[.slice (some ⟨g4, 0, none⟩) m m, .slice (some ⟨h4, 0, none⟩) n n] 28)) _ at hx
  obtain ⟨b9, hb9⟩ : ∃ b, w4.heap.size = b := ⟨_, rfl⟩
  rw [hb9] at hx ⊢
  generalize w4.alloc (.cells #[.slice (some ⟨g4, 0, none⟩) m m, .slice (some ⟨h4, 0, none⟩) n n] 28) = W4 at hx ⊢
  clear hT4 hb9 x0 x1 xg y0 y1 y2 y3 yg
  go_cut [8] from 9 (fun v wx => v = .int .i64 z ∧ Sg w wx (rG kT (.slice (some ⟨b9, 0, none⟩) 1 1) [(⟨some ⟨g4, 0, none⟩, m, m⟩, ⟨some ⟨h4, 0, none⟩, n, n⟩)] :: (treeR (.slice (some ⟨g4, 0, none⟩) m m) (.slice (some ⟨h4, 0, none⟩) n n) L N4 ++ [rG kLR (.slice (some ⟨w.heap.size + 1, 0, none⟩) 1 1) [⟨rx, ry, rw, rh⟩], rG kT5 (.slice (some ⟨w.heap.size, 0, none⟩) 1 1) [(⟨p, m, c⟩, ⟨q, n, d⟩)]])))
  case first =>
    replace hx := hx.step (Below.refl _ _).drew
    obtain ⟨x0, x1, _, xg⟩ := hx.two (K := kT5) (g := w.heap.size) (c := 1) (p := (⟨p, m, c⟩, ⟨q, n, d⟩)) (by simp) rfl
    obtain ⟨y0, y1, y2, y3, _, yg⟩ := hx.four (K := kLR) (g := w.heap.size + 1) (c := 1) (p := ⟨rx, ry, rw, rh⟩) (by simp) rfl
    obtain ⟨u0, u1, _, ug⟩ := hx.two (K := kT) (g := b9) (c := 1) (p := (⟨some ⟨g4, 0, none⟩, m, m⟩, ⟨some ⟨h4, 0, none⟩, n, n⟩)) (by simp) rfl
    go_region_with (first
      | (go_at_call 27; refine (toRect_any _ _ _ _ _).mono ?_; rintro e wt ⟨rfl, hbt⟩; replace hx := hx.step hbt; clear hbt x0 x1 xg y0 y1 y2 y3 yg; obtain ⟨x0, x1, _, xg⟩ := hx.two (K := kT5) (g := w.heap.size) (c := 1) (p := (⟨p, m, c⟩, ⟨q, n, d⟩)) (by simp) rfl; obtain ⟨y0, y1, y2, y3, _, yg⟩ := hx.four (K := kLR) (g := w.heap.size + 1) (c := 1) (p := ⟨rx, ry, rw, rh⟩) (by simp) rfl; clear u0 u1 ug; obtain ⟨u0, u1, _, ug⟩ := hx.two (K := kT) (g := b9) (c := 1) (p := (⟨some ⟨g4, 0, none⟩, m, m⟩, ⟨some ⟨h4, 0, none⟩, n, n⟩)) (by simp) rfl)
      | (go_at_call 12; refine (HIM.out _ _ g4 h4 N4 hN4 hx (fun r hr => by simp [hr])).mono ?_; rintro e wt ⟨rfl, hbt⟩; replace hx := hx.step hbt))
    all_goals
      go_wp2
      go_meet
      exact ⟨rfl, hx⟩
  case rest =>
  clear hx
  obtain ⟨rfl, hx⟩ := hcut
  rename World => w5
  go_upto_region 10 with fail
  go_cut [32] from 9 (fun b wx => b = .bool false ∧ Below w.heap.size w wx)
  case first =>
    replace hx := hx.step (Below.refl _ _).drew
    obtain ⟨x0, x1, _, xg⟩ := hx.two (K := kT5) (g := w.heap.size) (c := 1) (p := (⟨p, m, c⟩, ⟨q, n, d⟩)) (by simp) rfl
    obtain ⟨y0, y1, y2, y3, _, yg⟩ := hx.four (K := kLR) (g := w.heap.size + 1) (c := 1) (p := ⟨rx, ry, rw, rh⟩) (by simp) rfl
    obtain ⟨u0, u1, _, ug⟩ := hx.two (K := kT) (g := b9) (c := 1) (p := (⟨some ⟨g4, 0, none⟩, m, m⟩, ⟨some ⟨h4, 0, none⟩, n, n⟩)) (by simp) rfl
    go_region_with (first
      | (go_at_call 26; refine (HT.out _ hx.bel).mono ?_; rintro e wt ⟨g6, h6, N6, rfl, hN6, hT6⟩; replace hx := hx.addL hT6; clear hT6 x0 x1 xg y0 y1 y2 y3 yg; obtain ⟨x0, x1, _, xg⟩ := hx.two (K := kT5) (g := w.heap.size) (c := 1) (p := (⟨p, m, c⟩, ⟨q, n, d⟩)) (by simp) rfl; obtain ⟨y0, y1, y2, y3, _, yg⟩ := hx.four (K := kLR) (g := w.heap.size + 1) (c := 1) (p := ⟨rx, ry, rw, rh⟩) (by simp) rfl; clear u0 u1 ug; obtain ⟨u0, u1, _, ug⟩ := hx.two (K := kT) (g := b9) (c := 1) (p := (⟨some ⟨g4, 0, none⟩, m, m⟩, ⟨some ⟨h4, 0, none⟩, n, n⟩)) (by simp) rfl)
      | (go_at_call 29; refine (H29.out _ _ g4 h4 N4 g6 h6 N6 hN4 hN6 hx (fun r hr => by simp [hr]) (fun r hr => by simp [hr])).mono ?_; rintro e wt ⟨rfl, hbt⟩; replace hx := hx.step hbt))
    all_goals
      go_wp2
      go_meet
      exact ⟨rfl, hx.bel⟩
  case rest =>
  clear hx
  obtain ⟨rfl, hbe⟩ := hcut
  go_wp2
  go_ret
  exact ⟨rfl, hbe⟩
end Go.Proofs.YtipfcmfcdfofmaaGreat
namespace Go.Proofs.YtipfcmfcdfofmaaGreat
namespace FnExactLookedP
open Go.ChangeShapes Go.WideShapes Go.ChangeAt Go.RowKit Go.Joins

theorem own : ownKnob Tryz.prog.godebug = none := by kernel_rfl
theorem cells55 : Tryz.prog.cellsOf 55 = 2 := by kernel_rfl
theorem laidOut : laidOutB Tryz.prog = true := by kernel_rfl
theorem cells56 : Tryz.prog.cellsOf 56 = 4 := by kernel_rfl

set_option maxRecDepth 100000 in
theorem lifted (os : Os) (started : os.Started) (H : Type) (enc : TypeId × Value → H) :
    ReturnsInHanded {} Tryz.checked os 6 .any (Rows.fnExactLookedSpec.pre6 enc Tryz.prog Tryz.f6 Rows.fnExactLookedRow.domain false) (Rows.fnExactLookedSpec.post enc Tryz.prog Tryz.f6 false true false false) := by
  refine returnsInHanded_of_change (C := Tryz.checked) own started (by kernel_rfl) Tryz.func6
    (ChangeSpec.witness6 (enc := enc) (C := Tryz.checked) false ⟨#[], #[.agg #[.slice none 0 0, .slice none 0 0], .agg #[.int .i64 0, .int .i64 0, .int .i64 0, .int .i64 0]], []⟩ 8 (by kernel_rfl) (by kernel_rfl) (by kernel_rfl) (by kernel_rfl)) ?_
  intro W base args ds gs before hval0 hW _ _
  have hval : ∀ (j : Nat) t v, Tryz.f6.params[j]? = some t → args[j]? = some v → Value.okWide Tryz.prog W .any base t v := hval0
  have hW' := hW
  obtain ⟨p, q, hA0, hV, rfl, _, _⟩ := hW
  have hA : DataW.TrodAll enc Tryz.prog W 0 (fun _ => true) true Tryz.f6.params.toList args.toList ds p := hA0
  rw [Tryz.params6] at hA hval
  obtain ⟨v0, v1, d0, d1, p0, p1, rfl, rfl, rfl, h0, h1⟩ := trodAll_two hA
  obtain ⟨rfl, rfl⟩ := trodVars_none hV
  have k0 := h0
  have lt0 : ∀ x ∈ p0, x.block < W.heap.size := by obtain ⟨m, hm⟩ := k0; exact DataW.trod_lt m _ _ _ hm
  have k1 := h1
  have lt1 : ∀ x ∈ p1, x.block < W.heap.size := by obtain ⟨m, hm⟩ := k1; exact DataW.trod_lt m _ _ _ hm
  obtain ⟨c0, c1, y0, y1, m, rfl, hd0, hp0, hy0, hy1⟩ := open_agg2 Tryz.underlying55 (by kernel_rfl) cells55 (hval 0 55 v0 rfl rfl) h0
  obtain ⟨a0, len0, cap0, rfl⟩ : ∃ p len cap, c0 = .slice p len cap := by
    rcases Go.Deep.open_slice Tryz.underlying52 hy0 with ⟨hcs, _⟩ | ⟨a, len, cap, _, _, _, _, hcs, _⟩
    · simp at hcs; exact ⟨_, _, _, hcs⟩
    · simp at hcs; exact ⟨_, _, _, hcs⟩
  obtain ⟨L0, hl0, s0, b0⟩ : ∃ L : List Mk, L.length = len0 ∧ SlG kL W a0 L ∧ len0 ≤ maxLen := open_M hy0
  obtain ⟨s, NL, e1, hn1, s1, hP, b1⟩ := open_N hy1
  simp at e1
  subst e1
  obtain ⟨e0c, e1c, e2c, e3c, z0, z1, z2, z3, m1, rfl, hd1, hp1, hz0, hz1, hz2, hz3⟩ := open_agg4 Tryz.underlying56 (by kernel_rfl) cells56 (hval 1 56 v1 rfl rfl) h1
  obtain ⟨n10, f0, g10, wn10⟩ := DataW.trod_int Tryz.underlying2 hz0
  obtain ⟨n11, f1, g11, wn11⟩ := DataW.trod_int Tryz.underlying2 hz1
  obtain ⟨n12, f2, g12, wn12⟩ := DataW.trod_int Tryz.underlying2 hz2
  obtain ⟨n13, f3, g13, wn13⟩ := DataW.trod_int Tryz.underlying2 hz3
  simp at f0 f1 f2 f3
  subst f0 f1 f2 f3
  clear hA0 hval0
  refine (exactLooked a0 s.p len0 s.n cap0 s.c L0 NL hl0 hn1 b0 b1 n10 n11 n12 n13 W s0 s1 hP).mono fun e W' ⟨he, bel⟩ => ?_
  subst he
  exact ⟨_, rfl, _, _, _, [], _, [], hW', trodAll_mk1 (shut_bool Tryz.underlying4 _), (trodAll_cons_mk (Below.trod laidOut (by kernel_rfl) (of_decide_eq_true (by kernel_rfl)) k0 bel lt0) (trodAll_cons_mk (Below.trod laidOut (by kernel_rfl) (of_decide_eq_true (by kernel_rfl)) k1 bel lt1) trodAll_mk0)), rfl, bel.frame _, fun h => by cases h⟩

theorem over : Rows.fnExactLookedRow.holds Tryz.pinned (OpenSpec.ofChange Rows.fnExactLookedSpec) :=
  OpenClaim.holds_of_wide 6 Tryz.f6 rfl rfl rfl rfl rfl rfl rfl ⟨rfl, rfl, rfl, rfl, rfl⟩ rfl rfl rfl rfl rfl (by kernel_rfl) Tryz.func6 (by kernel_rfl)
    (of_decide_eq_true (by kernel_rfl)) (by unfold Func.isWrapper; first | (rw [if_pos (by decide +kernel)]; kernel_rfl) | (rw [if_neg (by decide +kernel)]; exact ⟨rfl, rfl⟩))
    (fun os started H enc _ => lifted os started H enc)
end FnExactLookedP

theorem fnExactLooked_holds : Rows.FnExactLookedSaid := FnExactLookedP.over
#print axioms fnExactLooked_holds
end Go.Proofs.YtipfcmfcdfofmaaGreat
