/-
  The law of NearTo walked.
-/
import Derived.Test.YtipfcmfcdfofmaaGreatN8
import Derived.Test.YtipfcmfcdfofmaaGreatXB
import Derived.Test.YtipfcmfcdfofmaaGreatXL
import Derived.Test.YtipfcmfcdfofmaaGreatXL
import Derived.Deep.Cut
import Derived.Deep.RegionWith
namespace Go.Proofs.YtipfcmfcdfofmaaGreat
open Go.RowKit Go.Joins
attribute [local go_sem] Oper.semAt_some

def kLS : Kd T2 := ⟨63, 2, fun c => [.int .i64 c.x, .int .i64 c.y], fun _ => rfl⟩
theorem perm_frontXQ {α : Type} (a b : α) (X Y : List α) : (a :: b :: (X ++ Y)).Perm (X ++ a :: b :: Y) := by
  have h1 : (b :: (X ++ Y)).Perm (X ++ b :: Y) := List.perm_middle.symm
  have h2 : (a :: (X ++ b :: Y)).Perm (X ++ a :: b :: Y) := List.perm_middle.symm
  exact (h1.cons a).trans h2
set_option maxRecDepth 100000 in
set_option maxHeartbeats 16000000 in
theorem exactNearTo (p q : Option Addr) (m n c d : Nat) (L : List Mk) (NL : List (Nd × Sv)) (hm : L.length = m) (hn : NL.length = n) (hmm : m ≤ maxLen) (hnm : n ≤ maxLen) (sx sy k : Int) (w : World) (hL : SlG kL w p L) (hN : SlG kLN w q NL) (hP : ∀ y ∈ NL, SlG kI w y.2.p y.1.ps ∧ y.2.n = y.1.ps.length ∧ y.1.ps.length ≤ maxLen) :
    Calls Tryz.prog 5 #[.agg #[.slice p m c, .slice q n d], .agg #[.int .i64 sx, .int .i64 sy], .int .i64 k] w fun e w' => e = .returned (.bool true) ∧ Below w.heap.size w w' := by
  have hS0 := ((Sg.nil w).lit kT5 [(⟨p, m, c⟩, ⟨q, n, d⟩)] 1 rfl (by decide) #[.slice p m c, .slice q n d] rfl).lit kLS [⟨sx, sy⟩] 1 rfl (by decide) #[.int .i64 sx, .int .i64 sy] rfl
  simp only [World.size_alloc] at hS0
  have HZ := szTree_any p q m n c d NL hn hmm hnm _ (hN.step hS0.bel) fun y hy => (hP y hy).2
  have HH : Hid (L.length = m ∧ NL.length = n ∧ SlG kL w p L ∧ SlG kLN w q NL ∧ ∀ y ∈ NL, SlG kI w y.2.p y.1.ps ∧ y.2.n = y.1.ps.length ∧ y.1.ps.length ≤ maxLen) := ⟨hm, hn, hL, hN, hP⟩
  clear hm hn hmm hnm hL hN hP
  change Sg w ((w.alloc (.cells #[.slice p m c, .slice q n d] 55)).alloc (.cells #[.int .i64 sx, .int .i64 sy] 63)) [rG kLS (.slice (some ⟨w.heap.size + 1, 0, none⟩) 1 1) [⟨sx, sy⟩], rG kT5 (.slice (some ⟨w.heap.size, 0, none⟩) 1 1) [(⟨p, m, c⟩, ⟨q, n, d⟩)]] at hS0
  go_enter Tryz.func5, Tryz.ntmps5
  go_upto_region 3 with (go_at_call 25; refine HZ.mono ?_; rintro e w1 ⟨r, rfl, hr, hb1⟩; have hx := hS0.step hb1)
  rcases hr with rfl | hr
  · go_wp2
    go_ret
    exact ⟨rfl, hx.bel⟩
  have hr0 : ¬ r < 0 := by omega
  have HT : Hid (∀ W, Below w.heap.size w W → Calls Tryz.prog 26 #[.agg #[.slice p m c, .slice q n d]] W fun e w' => ∃ g h NL', e = .returned (.agg #[.slice (some ⟨g, 0, none⟩) m m, .slice (some ⟨h, 0, none⟩) n n]) ∧ NL'.map Prod.fst = NL.map Prod.fst ∧ Sg W w' (treeR (.slice (some ⟨g, 0, none⟩) m m) (.slice (some ⟨h, 0, none⟩) n n) L NL')) := fun W h => toTree_any p q m n c d L NL HH.out.1 HH.out.2.1 hr.2.1 hr.2.2.1 W (HH.out.2.2.1.step h) (HH.out.2.2.2.1.step h) fun y hy => ⟨(HH.out.2.2.2.2 y hy).1.step h, (HH.out.2.2.2.2 y hy).2.1, hr.2.2.2 y hy⟩
  have HB : Hid (∀ NL' : List (Nd × Sv), NL'.map Prod.fst = NL.map Prod.fst → NL'.length = n ∧ ∀ x ∈ NL', x.1.ps.length ≤ 1048576) := fun NL' h => ⟨by have := congrArg List.length h; simp [HH.out.2.1] at this; exact this, fun x hx => by
      have h1 : x.1 ∈ NL.map Prod.fst := by rw [← h]; exact List.mem_map_of_mem hx
      obtain ⟨y, hy, e⟩ := List.mem_map.mp h1
      rw [← e]; exact hr.2.2.2 y hy⟩
  have hmb : m ≤ 1048576 := hr.2.1
  have hnb : n ≤ 1048576 := hr.2.2.1
  have HL : Hid (L.length = m) := HH.out.1
  obtain ⟨R, hR⟩ : ∃ R, (if nrB L (NL.map Prod.fst) sx sy k = true then nrL L sx sy k else []) = R := ⟨_, rfl⟩
  have hRl : R.length ≤ 1000 := by
    rw [← hR]
    split
    · rename_i h
      simp [nrB] at h
      unfold nrL
      rw [List.length_map, List.length_take]
      omega
    · simp
  have HS : Hid (∀ W : World, ∀ rs : List Rw, ∀ g2 h2 : Nat, ∀ N2 : List (Nd × Sv), N2.map Prod.fst = NL.map Prod.fst → Sg w W rs → (∀ r ∈ treeR (.slice (some ⟨g2, 0, none⟩) m m) (.slice (some ⟨h2, 0, none⟩) n n) L N2, r ∈ rs) → (SlG kM W (some ⟨g2, 0, none⟩) L ∧ RdN W (some ⟨h2, 0, none⟩) N2)) := fun W rs g2 h2 N2 _ hS hm => ⟨OwG.sl (hS.mem (K := kM) (v := .slice (some ⟨g2, 0, none⟩) m m) (L := L) (hm _ (by simp [treeR]))), hS.rdN (n := n) (c := n) (NL := N2) (fun r hr => hm r (by simp [treeR, hr]))⟩
  have HSP : Hid (∀ W : World, ∀ rs : List Rw, ∀ g2 h2 : Nat, ∀ N2 : List (Nd × Sv), N2.map Prod.fst = NL.map Prod.fst → Sg w W rs → (∀ r ∈ treeR (.slice (some ⟨g2, 0, none⟩) m m) (.slice (some ⟨h2, 0, none⟩) n n) L N2, r ∈ rs) → Calls Tryz.prog 33 #[.agg #[.slice (some ⟨g2, 0, none⟩) m m, .slice (some ⟨h2, 0, none⟩) n n], .agg #[.int .i64 sx, .int .i64 sy], .int .i64 k] W fun e w' => ∃ q n c, e = .returned (.slice q n c) ∧ Sg W w' [rG kI (.slice q n c) R]) := fun W rs g2 h2 N2 hN hS hm => by
      have h := sNearTo_any ⟨g2, 0, none⟩ (some ⟨h2, 0, none⟩) m n m n L N2 HL.out (HB.out N2 hN).1 (by omega) (by omega) (fun x hx => Nat.le_trans ((HB.out N2 hN).2 x hx) (by decide)) sx sy k W (HS.out W rs g2 h2 N2 hN hS hm).1 (HS.out W rs g2 h2 N2 hN hS hm).2
      rw [hN, hR] at h; exact h
  have HIM : Hid (∀ W : World, ∀ rs : List Rw, ∀ g2 h2 : Nat, ∀ N2 : List (Nd × Sv), N2.map Prod.fst = NL.map Prod.fst → Sg w W rs → (∀ r ∈ treeR (.slice (some ⟨g2, 0, none⟩) m m) (.slice (some ⟨h2, 0, none⟩) n n) L N2, r ∈ rs) → Calls Tryz.prog 35 #[.agg #[.slice (some ⟨g2, 0, none⟩) m m, .slice (some ⟨h2, 0, none⟩) n n], .agg #[.int .i64 sx, .int .i64 sy], .int .i64 k] W fun e w' => ∃ q n c, e = .returned (.slice q n c) ∧ Sg W w' [rG kI (.slice q n c) R]) := fun W rs g2 h2 N2 hN hS hm => by
      have h := iNearTo_any (some ⟨g2, 0, none⟩) (some ⟨h2, 0, none⟩) m n m n L N2 HL.out (HB.out N2 hN).1 (by omega) (by omega) (fun x hx => Nat.le_trans ((HB.out N2 hN).2 x hx) (by decide)) sx sy k W (HS.out W rs g2 h2 N2 hN hS hm).1 (HS.out W rs g2 h2 N2 hN hS hm).2
      rw [hN, hR] at h; exact h
  have H29 : Hid (∀ W : World, ∀ rs : List Rw, ∀ g2 h2 : Nat, ∀ N2 : List (Nd × Sv), ∀ g3 h3 : Nat, ∀ N3 : List (Nd × Sv), N2.map Prod.fst = NL.map Prod.fst → N3.map Prod.fst = NL.map Prod.fst → Sg w W rs → (∀ r ∈ treeR (.slice (some ⟨g2, 0, none⟩) m m) (.slice (some ⟨h2, 0, none⟩) n n) L N2, r ∈ rs) → (∀ r ∈ treeR (.slice (some ⟨g3, 0, none⟩) m m) (.slice (some ⟨h3, 0, none⟩) n n) L N3, r ∈ rs) → Calls Tryz.prog 29 #[.agg #[.slice (some ⟨g2, 0, none⟩) m m, .slice (some ⟨h2, 0, none⟩) n n], .agg #[.slice (some ⟨g3, 0, none⟩) m m, .slice (some ⟨h3, 0, none⟩) n n]] W fun e w' => e = .returned (.bool true) ∧ Below W.heap.size W w') := fun W rs g2 h2 N2 g3 h3 N3 hN hN3 hS hm hm3 => eqTree_big (some ⟨g2, 0, none⟩) (some ⟨g3, 0, none⟩) (some ⟨h2, 0, none⟩) (some ⟨h3, 0, none⟩) m m n n L m HL.out N2 N3 n (HB.out N2 hN).1 (by rw [hN, hN3]) (by omega) (by omega) (fun x hx => Nat.le_trans ((HB.out N2 hN).2 x hx) (by decide)) W (HS.out W rs g2 h2 N2 hN hS hm).1 (HS.out W rs g3 h3 N3 hN3 hS hm3).1 (HS.out W rs g2 h2 N2 hN hS hm).2 (HS.out W rs g3 h3 N3 hN3 hS hm3).2
  have HM : Hid (∀ W : World, ∀ Bs : List Rw, ∀ g2 h2 : Nat, ∀ N2 : List (Nd × Sv), N2.map Prod.fst = NL.map Prod.fst → Sg w W (treeR (.slice (some ⟨g2, 0, none⟩) m m) (.slice (some ⟨h2, 0, none⟩) n n) L N2 ++ Bs) → Calls Tryz.prog 30 #[.agg #[.slice (some ⟨g2, 0, none⟩) m m, .slice (some ⟨h2, 0, none⟩) n n], .int .i64 1] W fun e w' => ∃ z : Int, 0 ≤ z ∧ e = .returned (.int .i64 z) ∧ Sg w w' Bs) := fun W Bs g2 h2 N2 hN hS => by
    refine (markTree_big (some ⟨g2, 0, none⟩) (some ⟨h2, 0, none⟩) m n m n L N2 [] Bs w W hS (by omega) (by omega) (fun x hx => Nat.le_trans ((HB.out N2 hN).2 x hx) (by decide))).mono ?_
    rintro e w' ⟨rfl, h⟩
    refine ⟨_, ?_, rfl, h.sub (by simp)⟩
    have := (endK_bdB (1 + 3 * m) N2 (fun x hx => Nat.le_trans ((HB.out N2 hN).2 x hx) (by decide))).1
    omega
  have HEQ : Hid (∀ W : World, ∀ rs : List Rw, ∀ q1 n1 c1 q2 n2 c2, Sg w W rs → rG kI (.slice q1 n1 c1) R ∈ rs → rG kI (.slice q2 n2 c2) R ∈ rs → Calls Tryz.prog 28 #[.slice q1 n1 c1, .slice q2 n2 c2] W fun e w' => e = .returned (.bool true) ∧ Below W.heap.size W w') := fun W rs q1 n1 c1 q2 n2 c2 h h1 h2 => by
    have e1 := OwG.len (h.mem h1)
    have e2 := OwG.len (h.mem h2)
    subst e1 e2
    exact eqInt64S_same q1 q2 c1 c2 R R.length rfl W (OwG.sl (h.mem h1)) (OwG.sl (h.mem h2)) (by omega)
  have HMI : Hid (∀ W : World, ∀ Bs : List Rw, ∀ q1 n1 c1, Sg w W (rG kI (.slice q1 n1 c1) R :: Bs) → Calls Tryz.prog 31 #[.slice q1 n1 c1, .int .i64 1] W fun e w' => e = .returned (.int .i64 (1 + n1)) ∧ Sg w w' (rG kI (.slice q1 n1 c1) (mk1 1 n1) :: Bs)) := fun W Bs q1 n1 c1 h => by
    have e1 := OwG.len (h.mem (K := kI) (v := .slice q1 n1 c1) (L := R) (by simp))
    exact markInt64S_any q1 n1 c1 1 R [] Bs w W h (by omega) (by omega) (by omega)
  have HHI : Hid (∀ W : World, ∀ rs : List Rw, ∀ q1 n1 c1, n1 ≤ 1000 → Sg w W rs → rG kI (.slice q1 n1 c1) (mk1 1 n1) ∈ rs → Calls Tryz.prog 32 #[.slice q1 n1 c1, .int .i64 1] W fun e w' => e = .returned (.int .i64 (1 + n1)) ∧ w' = W) := fun W rs q1 n1 c1 hn h h1 => heldInt64S_any q1 c1 1 n1 W (OwG.sl (h.mem h1)) (by omega) (by omega) (by omega)
  have HRL : Hid (∀ W : World, ∀ rs : List Rw, ∀ q1 n1 c1, Sg w W rs → rG kI (.slice q1 n1 c1) R ∈ rs → n1 ≤ 1000) := fun W rs q1 n1 c1 h h1 => by have e1 := OwG.len (h.mem h1); omega
  clear hr hR hRl HZ hS0 hb1
  go_upto_region 5 with fail
  go_cut [8] from 15 (fun v wx => ∃ q1 n1 c1, v = .slice q1 n1 c1 ∧ Sg w wx [rG kI (.slice q1 n1 c1) R, rG kLS (.slice (some ⟨w.heap.size + 1, 0, none⟩) 1 1) [⟨sx, sy⟩], rG kT5 (.slice (some ⟨w.heap.size, 0, none⟩) 1 1) [(⟨p, m, c⟩, ⟨q, n, d⟩)]])
  case first =>
    replace hx := hx.step (Below.refl _ _).drew
    obtain ⟨x0, x1, _, xg⟩ := hx.two (K := kT5) (g := w.heap.size) (c := 1) (p := (⟨p, m, c⟩, ⟨q, n, d⟩)) (by simp) rfl
    obtain ⟨y0, y1, _, yg⟩ := hx.two (K := kLS) (g := w.heap.size + 1) (c := 1) (p := ⟨sx, sy⟩) (by simp) rfl
    go_region_with (first
      | (go_at_call 26; refine (HT.out _ hx.bel).mono ?_; rintro e wt ⟨g6, h6, N6, rfl, hN6, hT6⟩; replace hx := hx.addL hT6; clear hT6 x0 x1 xg y0 y1 yg; obtain ⟨x0, x1, _, xg⟩ := hx.two (K := kT5) (g := w.heap.size) (c := 1) (p := (⟨p, m, c⟩, ⟨q, n, d⟩)) (by simp) rfl; obtain ⟨y0, y1, _, yg⟩ := hx.two (K := kLS) (g := w.heap.size + 1) (c := 1) (p := ⟨sx, sy⟩) (by simp) rfl)
      | (go_at_call 34; refine (toSpot_any _ _ _).mono ?_; rintro e wt ⟨rfl, hbt⟩; replace hx := hx.step hbt; clear hbt x0 x1 xg y0 y1 yg; obtain ⟨x0, x1, _, xg⟩ := hx.two (K := kT5) (g := w.heap.size) (c := 1) (p := (⟨p, m, c⟩, ⟨q, n, d⟩)) (by simp) rfl; obtain ⟨y0, y1, _, yg⟩ := hx.two (K := kLS) (g := w.heap.size + 1) (c := 1) (p := ⟨sx, sy⟩) (by simp) rfl)
      | (go_at_call 33; refine (HSP.out _ _ g6 h6 N6 hN6 hx (fun r hr => by simp [hr])).mono ?_; rintro e wt ⟨q1, n1, c1, rfl, hT1⟩; replace hx := hx.addL hT1))
    all_goals
      go_wp2
      go_meet
      exact ⟨q1, n1, c1, rfl, hx.sub (List.Sublist.cons_cons _ (List.sublist_append_right _ _))⟩
  case rest =>
  clear hx
  obtain ⟨q1, n1, c1, rfl, hx⟩ := hcut
  clear HSP
  rename World => w2
  obtain ⟨x0, x1, _, xg⟩ := hx.two (K := kT5) (g := w.heap.size) (c := 1) (p := (⟨p, m, c⟩, ⟨q, n, d⟩)) (by simp) rfl
  obtain ⟨y0, y1, _, yg⟩ := hx.two (K := kLS) (g := w.heap.size + 1) (c := 1) (p := ⟨sx, sy⟩) (by simp) rfl
  go_upto_region 7 with (go_at_call 26; refine (HT.out _ hx.bel).mono ?_; rintro e w4 ⟨g4, h4, N4, rfl, hN4, hT4⟩; replace hx := (hx.addL hT4).lit kT [(⟨some ⟨g4, 0, none⟩, m, m⟩, ⟨some ⟨h4, 0, none⟩, n, n⟩)] 1 rfl (by decide) #[.slice (some ⟨g4, 0, none⟩) m m, .slice (some ⟨h4, 0, none⟩) n n] rfl)
  change Sg w (w4.alloc (.cells #[.slice (some ⟨g4, 0, none⟩) m m, .slice (some ⟨h4, 0, none⟩) n n] 28)) _ at hx
  obtain ⟨b9, hb9⟩ : ∃ b, w4.heap.size = b := ⟨_, rfl⟩
  rw [hb9] at hx ⊢
  generalize w4.alloc (.cells #[.slice (some ⟨g4, 0, none⟩) m m, .slice (some ⟨h4, 0, none⟩) n n] 28) = W4 at hx ⊢
  clear hT4 hb9 x0 x1 xg y0 y1 yg
  go_cut [10] from 15 (fun v wx => ∃ q2 n2 c2, v = .slice q2 n2 c2 ∧ Sg w wx (treeR (.slice (some ⟨g4, 0, none⟩) m m) (.slice (some ⟨h4, 0, none⟩) n n) L N4 ++ [rG kI (.slice q2 n2 c2) R, rG kT (.slice (some ⟨b9, 0, none⟩) 1 1) [(⟨some ⟨g4, 0, none⟩, m, m⟩, ⟨some ⟨h4, 0, none⟩, n, n⟩)], rG kI (.slice q1 n1 c1) R, rG kLS (.slice (some ⟨w.heap.size + 1, 0, none⟩) 1 1) [⟨sx, sy⟩], rG kT5 (.slice (some ⟨w.heap.size, 0, none⟩) 1 1) [(⟨p, m, c⟩, ⟨q, n, d⟩)]]))
  case first =>
    replace hx := hx.step (Below.refl _ _).drew
    obtain ⟨x0, x1, _, xg⟩ := hx.two (K := kT5) (g := w.heap.size) (c := 1) (p := (⟨p, m, c⟩, ⟨q, n, d⟩)) (by simp) rfl
    obtain ⟨y0, y1, _, yg⟩ := hx.two (K := kLS) (g := w.heap.size + 1) (c := 1) (p := ⟨sx, sy⟩) (by simp) rfl
    obtain ⟨u0, u1, _, ug⟩ := hx.two (K := kT) (g := b9) (c := 1) (p := (⟨some ⟨g4, 0, none⟩, m, m⟩, ⟨some ⟨h4, 0, none⟩, n, n⟩)) (by simp) rfl
    go_region_with (first
      | (go_at_call 34; refine (toSpot_any _ _ _).mono ?_; rintro e wt ⟨rfl, hbt⟩; replace hx := hx.step hbt; clear hbt x0 x1 xg y0 y1 yg; obtain ⟨x0, x1, _, xg⟩ := hx.two (K := kT5) (g := w.heap.size) (c := 1) (p := (⟨p, m, c⟩, ⟨q, n, d⟩)) (by simp) rfl; obtain ⟨y0, y1, _, yg⟩ := hx.two (K := kLS) (g := w.heap.size + 1) (c := 1) (p := ⟨sx, sy⟩) (by simp) rfl; clear u0 u1 ug; obtain ⟨u0, u1, _, ug⟩ := hx.two (K := kT) (g := b9) (c := 1) (p := (⟨some ⟨g4, 0, none⟩, m, m⟩, ⟨some ⟨h4, 0, none⟩, n, n⟩)) (by simp) rfl)
      | (go_at_call 35; refine (HIM.out _ _ g4 h4 N4 hN4 hx (fun r hr => by simp [hr])).mono ?_; rintro e wt ⟨q2, n2, c2, rfl, hT2⟩; replace hx := hx.addL hT2))
    all_goals
      go_wp2
      go_meet
      exact ⟨q2, n2, c2, rfl, hx.perm (perm_frontXQ _ _ _ _)⟩
  case rest =>
  clear hx
  obtain ⟨q2, n2, c2, rfl, hx⟩ := hcut
  rename World => w5
  go_upto_region 10 with (go_at_call 28; refine (HEQ.out _ _ _ _ _ _ _ _ hx (by simp) (by simp)).mono ?_; rintro e wt ⟨rfl, hbt⟩; replace hx := hx.step hbt)
  rename World => w6
  go_cut [41] from 15 (fun b wx => b = .bool false ∧ Sg w wx (treeR (.slice (some ⟨g4, 0, none⟩) m m) (.slice (some ⟨h4, 0, none⟩) n n) L N4 ++ [rG kI (.slice q2 n2 c2) R, rG kT (.slice (some ⟨b9, 0, none⟩) 1 1) [(⟨some ⟨g4, 0, none⟩, m, m⟩, ⟨some ⟨h4, 0, none⟩, n, n⟩)], rG kI (.slice q1 n1 c1) R, rG kLS (.slice (some ⟨w.heap.size + 1, 0, none⟩) 1 1) [⟨sx, sy⟩], rG kT5 (.slice (some ⟨w.heap.size, 0, none⟩) 1 1) [(⟨p, m, c⟩, ⟨q, n, d⟩)]]))
  case first =>
    replace hx := hx.step (Below.refl _ _).drew
    obtain ⟨x0, x1, _, xg⟩ := hx.two (K := kT5) (g := w.heap.size) (c := 1) (p := (⟨p, m, c⟩, ⟨q, n, d⟩)) (by simp) rfl
    obtain ⟨y0, y1, _, yg⟩ := hx.two (K := kLS) (g := w.heap.size + 1) (c := 1) (p := ⟨sx, sy⟩) (by simp) rfl
    obtain ⟨u0, u1, _, ug⟩ := hx.two (K := kT) (g := b9) (c := 1) (p := (⟨some ⟨g4, 0, none⟩, m, m⟩, ⟨some ⟨h4, 0, none⟩, n, n⟩)) (by simp) rfl
    go_region_with (first
      | (go_at_call 26; refine (HT.out _ hx.bel).mono ?_; rintro e wt ⟨g6, h6, N6, rfl, hN6, hT6⟩; replace hx := hx.addL hT6; clear hT6 x0 x1 xg y0 y1 yg; obtain ⟨x0, x1, _, xg⟩ := hx.two (K := kT5) (g := w.heap.size) (c := 1) (p := (⟨p, m, c⟩, ⟨q, n, d⟩)) (by simp) rfl; obtain ⟨y0, y1, _, yg⟩ := hx.two (K := kLS) (g := w.heap.size + 1) (c := 1) (p := ⟨sx, sy⟩) (by simp) rfl; clear u0 u1 ug; obtain ⟨u0, u1, _, ug⟩ := hx.two (K := kT) (g := b9) (c := 1) (p := (⟨some ⟨g4, 0, none⟩, m, m⟩, ⟨some ⟨h4, 0, none⟩, n, n⟩)) (by simp) rfl)
      | (go_at_call 29; refine (H29.out _ _ g4 h4 N4 g6 h6 N6 hN4 hN6 hx (fun r hr => by simp [hr]) (fun r hr => by simp [hr])).mono ?_; rintro e wt ⟨rfl, hbt⟩; replace hx := hx.step hbt))
    all_goals
      go_wp2
      go_meet
      exact ⟨rfl, hx.sub (List.sublist_append_right _ _)⟩
  case rest =>
  clear hx
  obtain ⟨rfl, hx⟩ := hcut
  clear H29
  rename World => w7
  have hn2 := HRL.out _ _ q2 n2 c2 hx (by simp)
  have hneg : ¬ (1 + (n2 : Int) < 0) := by omega
  obtain ⟨u0, u1, _, ug⟩ := hx.two (K := kT) (g := b9) (c := 1) (p := (⟨some ⟨g4, 0, none⟩, m, m⟩, ⟨some ⟨h4, 0, none⟩, n, n⟩)) (by simp) rfl
  go_upto_region 24 with (first
    | (go_at_call 30; refine (HM.out _ _ g4 h4 N4 hN4 hx).mono ?_; rintro e wt ⟨z, hz, rfl, hy⟩; have hz' : ¬ z < 0 := (by omega); clear hx u0 u1 ug; have hx := hy; clear hy)
    | (go_at_call 28; refine (HEQ.out _ _ _ _ _ _ _ _ hx (by simp) (by simp)).mono ?_; rintro e wt ⟨rfl, hbt⟩; replace hx := hx.step hbt)
    | (go_at_call 31; refine (HMI.out _ _ _ _ _ hx).mono ?_; rintro e wt ⟨rfl, hy⟩; clear hx; have hx := hy; clear hy)
    | (go_at_call 32; refine (HHI.out _ _ _ _ _ hn2 hx (by simp)).mono ?_; rintro e wt ⟨rfl, hwt⟩; obtain rfl := hwt.symm))
  go_cut [14] from 15 (fun v wx => ∃ q3 n3 c3, v = .slice q3 n3 c3 ∧ Sg w wx [rG kI (.slice q3 n3 c3) R, rG kI (.slice q2 n2 c2) (mk1 1 n2), rG kT (.slice (some ⟨b9, 0, none⟩) 1 1) [(⟨some ⟨g4, 0, none⟩, m, m⟩, ⟨some ⟨h4, 0, none⟩, n, n⟩)], rG kI (.slice q1 n1 c1) R, rG kLS (.slice (some ⟨w.heap.size + 1, 0, none⟩) 1 1) [⟨sx, sy⟩], rG kT5 (.slice (some ⟨w.heap.size, 0, none⟩) 1 1) [(⟨p, m, c⟩, ⟨q, n, d⟩)]])
  case first =>
    replace hx := hx.step (Below.refl _ _).drew
    obtain ⟨x0, x1, _, xg⟩ := hx.two (K := kT5) (g := w.heap.size) (c := 1) (p := (⟨p, m, c⟩, ⟨q, n, d⟩)) (by simp) rfl
    obtain ⟨y0, y1, _, yg⟩ := hx.two (K := kLS) (g := w.heap.size + 1) (c := 1) (p := ⟨sx, sy⟩) (by simp) rfl
    go_region_with (first
      | (go_at_call 26; refine (HT.out _ hx.bel).mono ?_; rintro e wt ⟨g6, h6, N6, rfl, hN6, hT6⟩; replace hx := hx.addL hT6; clear hT6 x0 x1 xg y0 y1 yg; obtain ⟨x0, x1, _, xg⟩ := hx.two (K := kT5) (g := w.heap.size) (c := 1) (p := (⟨p, m, c⟩, ⟨q, n, d⟩)) (by simp) rfl; obtain ⟨y0, y1, _, yg⟩ := hx.two (K := kLS) (g := w.heap.size + 1) (c := 1) (p := ⟨sx, sy⟩) (by simp) rfl)
      | (go_at_call 34; refine (toSpot_any _ _ _).mono ?_; rintro e wt ⟨rfl, hbt⟩; replace hx := hx.step hbt; clear hbt x0 x1 xg y0 y1 yg; obtain ⟨x0, x1, _, xg⟩ := hx.two (K := kT5) (g := w.heap.size) (c := 1) (p := (⟨p, m, c⟩, ⟨q, n, d⟩)) (by simp) rfl; obtain ⟨y0, y1, _, yg⟩ := hx.two (K := kLS) (g := w.heap.size + 1) (c := 1) (p := ⟨sx, sy⟩) (by simp) rfl)
      | (go_at_call 35; refine (HIM.out _ _ g6 h6 N6 hN6 hx (fun r hr => by simp [hr])).mono ?_; rintro e wt ⟨q3, n3, c3, rfl, hT3⟩; replace hx := hx.addL hT3))
    all_goals
      go_wp2
      go_meet
      exact ⟨q3, n3, c3, rfl, hx.sub (List.Sublist.cons_cons _ (List.sublist_append_right _ _))⟩
  case rest =>
  clear hx
  obtain ⟨q3, n3, c3, rfl, hx⟩ := hcut
  go_wp2_with (first
    | (go_at_call 28; refine (HEQ.out _ _ _ _ _ _ _ _ hx (by simp) (by simp)).mono ?_; rintro e wt ⟨rfl, hbt⟩; replace hx := hx.step hbt)
    | (go_at_call 32; refine (HHI.out _ _ _ _ _ hn2 hx (by simp)).mono ?_; rintro e wt ⟨rfl, hwt⟩; obtain rfl := hwt.symm))
  go_ret
  exact ⟨rfl, hx.bel⟩
end Go.Proofs.YtipfcmfcdfofmaaGreat
