/-
  The law of Minted, walked.
-/
import Derived.Test.YtachodaecpnhbaaGreatDoorQ5
import Derived.Test.YtachodaecpnhbaaGreatDoorV3
namespace Go.Proofs.YtachodaecpnhbaaGreatDoor
open Go.Shelf Go.RowKit Go.Joins
attribute [local go_sem] Oper.semAt_some

/-- A Paper of cs and a flag are answered, in memory of their own. -/
def PapN (W : World) (cs : List Cl) (pt pg : Int) (N : Nat) (b : Bool) (e : Ending) (w' : World) : Prop := ∃ q cp X, e = .returned (.tuple #[.agg #[.int .i64 pt, .slice q N cp, .int .i64 pg], .bool b]) ∧ Hid (cls X = cs ∧ sm6 X ∧ X.length = N) ∧ Sg W w' (trX (.slice q N cp) X [])
theorem PapO.n {W : World} {P : Pp} {b : Bool} {e : Ending} {w' : World} (h : PapO W P b e w') : PapN W P.cs P.tn P.tag P.cs.length b e w' := by
  obtain ⟨q, n, cp, X, he, hn, hx, h6, _, hS⟩ := h
  subst hn
  exact ⟨q, cp, X, he, ⟨hx, h6, by rw [← hx, cls_len]⟩, hS⟩
theorem sm6.q {X : List CQ} (h : sm6 X) : smQ X := fun q hq => ⟨by have := (h q hq).1; omega, by have := (h q hq).2; omega⟩
theorem sm_mkQs : ∀ (k : Int) (X : List CQ), sm6 X → sm6 (mkQs k X)
  | _, [], _ => fun q hq => by simp [mkQs] at hq
  | k, p :: X, h => fun q hq => by
    rcases List.mem_cons.mp hq with rfl | hq
    · exact h p (List.mem_cons_self ..)
    · exact sm_mkQs _ X (fun y hy => h y (List.mem_cons_of_mem _ hy)) q hq
theorem mintP_len (key tn : Int) (c : Cl) : (mintP key tn c).cs.length ≤ 1 := by
  unfold mintP; split
  · exact Nat.le_refl _
  · exact Nat.zero_le _
set_option maxRecDepth 100000 in
set_option maxHeartbeats 8000000 in
theorem exactMinted (key tn : Int) (c : Cl) (s t : Sv) (h1 : s.n ≤ maxLen) (h2 : t.n ≤ maxLen) (w : World) (hR : RdL w c s t) (hT : TB w) :
    Calls Tryz.prog 4 #[.int .i64 key, .int .i64 tn, .agg #[.slice s.p s.n s.c, .slice t.p t.n t.c, .int .i64 c.un]] w fun e w' => e = .returned (.bool true) ∧ Below w.heap.size w w' := by
  have hS0 := (Sg.nil w).lit kLQ [(c, s, t)] 1 rfl (by decide) #[.slice s.p s.n s.c, .slice t.p t.n t.c, .int .i64 c.un] rfl
  change Sg w (w.alloc (.cells #[.slice s.p s.n s.c, .slice t.p t.n t.c, .int .i64 c.un] 48)) _ at hS0
  have HZ := szClause_any s t c.un 1048576 (by omega) (by omega) h1 h2 (w.alloc (.cells #[.slice s.p s.n s.c, .slice t.p t.n t.c, .int .i64 c.un] 48))
  clear h1 h2
  have HH : Hid (RdL w c s t) := hR
  have HT : Hid (TB w) := hT
  clear hR hT
  go_enter Tryz.func4, Tryz.ntmps4
  go_upto_region 3 with (go_at_call 21; refine HZ.mono ?_; rintro e w1 ⟨r, rfl, hr, hb1⟩; have hS1 := hS0.step hb1)
  by_cases hneg : r < 0
  · go_wp2
    go_ret
    exact ⟨rfl, hS1.bel⟩
  have hs : s.n ≤ 1100000 := by rcases hr with hr | hr <;> omega
  have ht : t.n ≤ 1100000 := by rcases hr with hr | hr <;> omega
  have HTC : Hid (∀ W, Below w.heap.size w W → Calls Tryz.prog 22 #[.agg #[.slice s.p s.n s.c, .slice t.p t.n t.c, .int .i64 c.un]] W fun e w' => ∃ g h, e = .returned (.agg #[.slice (some ⟨g, 0, none⟩) s.n s.n, .slice (some ⟨h, 0, none⟩) t.n t.n, .int .i64 c.un]) ∧ Sg W w' (clR c ⟨some ⟨g, 0, none⟩, s.n, s.n⟩ ⟨some ⟨h, 0, none⟩, t.n, t.n⟩)) := fun W h => toClause_any c s t (by omega) (by omega) W (HH.out.step h)
  have HRD : Hid (∀ W rs g h, Sg w W rs → (∀ r ∈ clR c ⟨some ⟨g, 0, none⟩, s.n, s.n⟩ ⟨some ⟨h, 0, none⟩, t.n, t.n⟩, r ∈ rs) → RdQ W c ⟨some ⟨g, 0, none⟩, s.n, s.n⟩ ⟨some ⟨h, 0, none⟩, t.n, t.n⟩) := fun W rs g h hS hm => hS.rdQ hm (show s.n ≤ 10000000 by omega) (show t.n ≤ 10000000 by omega)
  have HSP : Hid (∀ W rs g h, Sg w W rs → (∀ r ∈ clR c ⟨some ⟨g, 0, none⟩, s.n, s.n⟩ ⟨some ⟨h, 0, none⟩, t.n, t.n⟩, r ∈ rs) → Calls Tryz.prog 14 #[.int .i64 key, .int .i64 tn, .agg #[.slice (some ⟨g, 0, none⟩) s.n s.n, .slice (some ⟨h, 0, none⟩) t.n t.n, .int .i64 c.un]] W (PapN W (mintP key tn c).cs (mintP key tn c).tn (mintP key tn c).tag (mintP key tn c).cs.length (mintB key tn c))) := fun W rs g h hS hm => (sMinted_any key tn c ⟨some ⟨g, 0, none⟩, s.n, s.n⟩ ⟨some ⟨h, 0, none⟩, t.n, t.n⟩ hs ht (.inl ⟨_, rfl⟩) (.inl ⟨_, rfl⟩) W (HRD.out W rs g h hS hm)).mono fun _ _ h => h.n
  have HIP : Hid (∀ W rs g h, Sg w W rs → (∀ r ∈ clR c ⟨some ⟨g, 0, none⟩, s.n, s.n⟩ ⟨some ⟨h, 0, none⟩, t.n, t.n⟩, r ∈ rs) → Calls Tryz.prog 10 #[.int .i64 key, .int .i64 tn, .agg #[.slice (some ⟨g, 0, none⟩) s.n s.n, .slice (some ⟨h, 0, none⟩) t.n t.n, .int .i64 c.un]] W (PapN W (mintP key tn c).cs (mintP key tn c).tn (mintP key tn c).tag (mintP key tn c).cs.length (mintB key tn c))) := fun W rs g h hS hm => (iMinted_any key tn c ⟨some ⟨g, 0, none⟩, s.n, s.n⟩ ⟨some ⟨h, 0, none⟩, t.n, t.n⟩ hs ht (.inl ⟨_, rfl⟩) (.inl ⟨_, rfl⟩) W (HRD.out W rs g h hS hm) (HT.out.step hS.bel)).mono fun _ _ h => h.n
  have hN1 := mintP_len key tn c
  generalize (mintP key tn c).cs.length = N at HSP HIP hN1
  generalize (mintP key tn c).cs = cs at HSP HIP
  generalize (mintP key tn c).tn = pt at HSP HIP
  generalize (mintP key tn c).tag = pg at HSP HIP
  generalize mintB key tn c = b at HSP HIP
  have HEC : Hid (∀ W rs g h g' h', Sg w W rs → (∀ r ∈ clR c ⟨some ⟨g, 0, none⟩, s.n, s.n⟩ ⟨some ⟨h, 0, none⟩, t.n, t.n⟩, r ∈ rs) → (∀ r ∈ clR c ⟨some ⟨g', 0, none⟩, s.n, s.n⟩ ⟨some ⟨h', 0, none⟩, t.n, t.n⟩, r ∈ rs) → Calls Tryz.prog 24 #[.agg #[.slice (some ⟨g, 0, none⟩) s.n s.n, .slice (some ⟨h, 0, none⟩) t.n t.n, .int .i64 c.un], .agg #[.slice (some ⟨g', 0, none⟩) s.n s.n, .slice (some ⟨h', 0, none⟩) t.n t.n, .int .i64 c.un]] W fun e w' => e = .returned (.bool true) ∧ Below W.heap.size W w') := fun W rs g h g' h' hS hm hm' => eqClause_same c ⟨some ⟨g, 0, none⟩, s.n, s.n⟩ ⟨some ⟨h, 0, none⟩, t.n, t.n⟩ ⟨some ⟨g', 0, none⟩, s.n, s.n⟩ ⟨some ⟨h', 0, none⟩, t.n, t.n⟩ W (HRD.out W rs g h hS hm) (HRD.out W rs g' h' hS hm')
  have HEQ : Hid (∀ W rs q q' cp cp' X X', Hid (cls X = cs ∧ sm6 X ∧ X.length = N) → Hid (cls X' = cs ∧ sm6 X' ∧ X'.length = N) → Sg w W rs → (∀ r ∈ trX (.slice q N cp) X [], r ∈ rs) → (∀ r ∈ trX (.slice q' N cp') X' [], r ∈ rs) → Calls Tryz.prog 23 #[.agg #[.int .i64 pt, .slice q N cp, .int .i64 pg], .agg #[.int .i64 pt, .slice q' N cp', .int .i64 pg]] W fun e w' => e = .returned (.bool true) ∧ Below W.heap.size W w') := fun W rs q q' cp cp' X X' hX hX' hS hm hm' => eqPaper_same pt pg q q' cp cp' N X X' hX.out.2.2 (hX.out.1.trans hX'.out.1.symm) (by omega) W (hS.rdS hX.out.2.1.q hm) (hS.rdS hX'.out.2.1.q hm')
  have HMC : Hid (∀ W g h A Bs, Sg w W (A ++ rG kC (.slice (some ⟨g, 0, none⟩) s.n s.n) c.rd :: rG kC (.slice (some ⟨h, 0, none⟩) t.n t.n) c.wr :: Bs) → Calls Tryz.prog 25 #[.agg #[.slice (some ⟨g, 0, none⟩) s.n s.n, .slice (some ⟨h, 0, none⟩) t.n t.n, .int .i64 c.un], .int .i64 1] W fun e w' => e = .returned (.int .i64 (1 + 3 * s.n + 3 * t.n)) ∧ Sg w w' (A ++ rG kC (.slice (some ⟨g, 0, none⟩) s.n s.n) (mkC 1 s.n) :: rG kC (.slice (some ⟨h, 0, none⟩) t.n t.n) (mkC (1 + 3 * s.n) t.n) :: Bs)) := fun W g h A Bs hS => markClause_any c ⟨some ⟨g, 0, none⟩, s.n, s.n⟩ ⟨some ⟨h, 0, none⟩, t.n, t.n⟩ 1 A Bs w W hS hs ht (by omega) (by omega)
  have HMP : Hid (∀ W q cp X A Bs, Hid (cls X = cs ∧ sm6 X ∧ X.length = N) → Sg w W (A ++ (trX (.slice q N cp) X [] ++ Bs)) → Calls Tryz.prog 26 #[.agg #[.int .i64 pt, .slice q N cp, .int .i64 pg], .int .i64 1] W fun e w' => e = .returned (.int .i64 (endQ 1 X)) ∧ Sg w w' (A ++ (trX (.slice q N cp) (mkQs 1 X) [] ++ Bs))) := fun W q cp X A Bs hX hS => markPaper_any pt pg q N cp 1 X A Bs w W hS (by omega) (by omega) (by omega) hX.out.2.1
  have HHP : Hid (∀ W rs q cp X, Hid (cls X = cs ∧ sm6 X ∧ X.length = N) → Sg w W rs → (∀ r ∈ trX (.slice q N cp) (mkQs 1 X) [], r ∈ rs) → Calls Tryz.prog 27 #[.agg #[.int .i64 pt, .slice q N cp, .int .i64 pg], .int .i64 1] W fun e w' => e = .returned (.int .i64 (endQ 1 X)) ∧ Below W.heap.size W w') := fun W rs q cp X hX hS hm => heldPaper_any pt pg q N cp 1 X hX.out.2.2 (by omega) (by omega) (by omega) hX.out.2.1 W (hS.rdS (sm_mkQs 1 X hX.out.2.1).q hm)
  have hk0 : ¬ 1 + 3 * (s.n : Int) + 3 * (t.n : Int) < 0 := by omega
  have HE : Hid (∀ X, Hid (cls X = cs ∧ sm6 X ∧ X.length = N) → ¬ endQ 1 X < 0) := fun X hX => by have := (endQ_bd 1 X hX.out.2.1).1; omega
  clear hr hN1 hs ht HRD
  have f0 : True := trivial
  obtain ⟨x0, x1, x2, xf, xg⟩ := hS1.three (K := kLQ) (g := w.heap.size) (n := 1) (p := (c, s, t)) (by simp) rfl
  go_upto_region 8 with (first
    | (go_at_call 22; clear f0; refine (HTC.out _ hS1.bel).mono ?_; rintro e w2 ⟨g2, h2, rfl, hw2⟩; have hS2 := hS1.addL hw2)
    | (go_at_call 14; refine (HSP.out _ _ g2 h2 hS2 (fun r hr => List.mem_append_left _ hr)).mono ?_; rintro e w3 ⟨q3, cp3, X3, rfl, HX3, hw3⟩; have hS3 := hS2.addL hw3; clear x0 x1 x2 xf xg; obtain ⟨x0, x1, x2, xf, xg⟩ := hS3.three (K := kLQ) (g := w.heap.size) (n := 1) (p := (c, s, t)) (by simp) rfl; have hS3b := hS3.lit kP [⟨pt, ⟨q3, N, cp3⟩, pg⟩] 1 rfl (by decide) #[.int .i64 pt, .slice q3 N cp3, .int .i64 pg] rfl; change Sg w (w3.alloc (.cells #[.int .i64 pt, .slice q3 N cp3, .int .i64 pg] 26)) _ at hS3b)
    | (go_at_call 22; refine (HTC.out _ hS3b.bel).mono ?_; rintro e w4 ⟨g4, h4, rfl, hw4⟩; have hS4a := hS3b.addL hw4; have hS4 := hS4a.lit kQ [(c, ⟨some ⟨g4, 0, none⟩, s.n, s.n⟩, ⟨some ⟨h4, 0, none⟩, t.n, t.n⟩)] 1 rfl (by decide) #[.slice (some ⟨g4, 0, none⟩) s.n s.n, .slice (some ⟨h4, 0, none⟩) t.n t.n, .int .i64 c.un] rfl; change Sg w (w4.alloc (.cells #[.slice (some ⟨g4, 0, none⟩) s.n s.n, .slice (some ⟨h4, 0, none⟩) t.n t.n, .int .i64 c.un] 29)) _ at hS4)
    | (go_at_call 10; refine (HIP.out _ _ g4 h4 hS4 (fun r hr => List.mem_cons_of_mem _ (List.mem_append_left _ hr))).mono ?_; rintro e w5 ⟨q5, cp5, X5, rfl, HX5, hw5⟩; have hS5a := hS4.addL hw5; obtain ⟨v0, v1, v2, vf, vg⟩ := hS5a.three (K := kP) (g := w3.heap.size) (n := 1) (p := ⟨pt, ⟨q3, N, cp3⟩, pg⟩) (by simp) rfl; have hS5 := hS5a.lit kP [⟨pt, ⟨q5, N, cp5⟩, pg⟩] 1 rfl (by decide) #[.int .i64 pt, .slice q5 N cp5, .int .i64 pg] rfl; change Sg w (w5.alloc (.cells #[.int .i64 pt, .slice q5 N cp5, .int .i64 pg] 26)) _ at hS5))
  clear hS1 hS2 hS3 hS3b hS4 hS4a hS5a hw2 hw3 hw4 hw5 hb1 hS0 HZ
  go_upto_region 10 with (go_at_call 23; refine (HEQ.out _ _ q5 q3 cp5 cp3 X5 X3 HX5 HX3 hS5 (fun r hr => by simp [hr]) (fun r hr => by simp [hr])).mono ?_; rintro e w6 ⟨rfl, hb6⟩; have hrow := hS5.step hb6)
  clear hS5 hb6
  clear x0 x1 x2 xf xg; clear v0 v1 v2 vf vg
  generalize w3.heap.size = b3 at *
  generalize w4.heap.size = b4 at *
  generalize w5.heap.size = b5 at *
  have HK : Hid (∀ w' rs, Sg w w' rs → rG kQ (.slice (some ⟨b4, 0, none⟩) 1 1) [(c, ⟨some ⟨g4, 0, none⟩, s.n, s.n⟩, ⟨some ⟨h4, 0, none⟩, t.n, t.n⟩)] ∈ rs → rG kLQ (.slice (some ⟨w.heap.size, 0, none⟩) 1 1) [(c, s, t)] ∈ rs → (w'.cell? ⟨b4, 0, none⟩ = some (.slice (some ⟨g4, 0, none⟩) s.n s.n) ∧ w'.cell? ⟨b4, 1, none⟩ = some (.slice (some ⟨h4, 0, none⟩) t.n t.n) ∧ w'.cell? ⟨b4, 2, none⟩ = some (.int .i64 c.un) ∧ w'.cell? ⟨w.heap.size, 0, none⟩ = some (.slice s.p s.n s.c) ∧ w'.cell? ⟨w.heap.size, 1, none⟩ = some (.slice t.p t.n t.c) ∧ w'.cell? ⟨w.heap.size, 2, none⟩ = some (.int .i64 c.un))) := fun w' rs h m1 m2 => by
    obtain ⟨y0, y1, y2, _, _⟩ := h.three (K := kQ) (g := b4) (n := 1) (p := (c, ⟨some ⟨g4, 0, none⟩, s.n, s.n⟩, ⟨some ⟨h4, 0, none⟩, t.n, t.n⟩)) m1 rfl
    obtain ⟨z0, z1, z2, _, _⟩ := h.three (K := kLQ) (g := w.heap.size) (n := 1) (p := (c, s, t)) m2 rfl
    exact ⟨y0, y1, y2, z0, z1, z2⟩
  go_region_held3 (fun w' => w'.cell? ⟨b4, 0, none⟩ = some (.slice (some ⟨g4, 0, none⟩) s.n s.n) ∧ w'.cell? ⟨b4, 1, none⟩ = some (.slice (some ⟨h4, 0, none⟩) t.n t.n) ∧ w'.cell? ⟨b4, 2, none⟩ = some (.int .i64 c.un) ∧ w'.cell? ⟨w.heap.size, 0, none⟩ = some (.slice s.p s.n s.c) ∧ w'.cell? ⟨w.heap.size, 1, none⟩ = some (.slice t.p t.n t.c) ∧ w'.cell? ⟨w.heap.size, 2, none⟩ = some (.int .i64 c.un))
    (first
      | assumption
      | with_reducible exact HK.out _ _ hrow (by simp) (by simp)
      | with_reducible exact HK.out _ _ hrow.dr (by simp) (by simp))
    (first
      | (go_at_call 22; refine (HTC.out _ (by first | with_reducible exact hrow.bel | with_reducible exact hrow.dr.bel)).mono ?_; rintro e w7 ⟨g7, h7, rfl, hw7⟩; (first | with_reducible (replace hrow := hrow.addL hw7) | with_reducible (replace hrow := hrow.dr.addL hw7)); clear hw7)
      | (go_at_call 24; refine (HEC.out _ _ g4 h4 g7 h7 hrow (fun r hr => by simp [hr]) (fun r hr => by simp [hr])).mono ?_; rintro e w8 ⟨rfl, hb8⟩; replace hrow := hrow.step hb8; clear hb8))
  clear HK
  rename_i hHeld
  clear hHeld
  have hS8 := hrow.sub (List.sublist_append_right _ _)
  clear hrow
  have hS8b : Sg w w8 ((rG kP (.slice (some ⟨b5, 0, none⟩) 1 1) [⟨pt, ⟨q5, N, cp5⟩, pg⟩] :: (trX (.slice q5 N cp5) X5 [] ++ [rG kQ (.slice (some ⟨b4, 0, none⟩) 1 1) [(c, ⟨some ⟨g4, 0, none⟩, s.n, s.n⟩, ⟨some ⟨h4, 0, none⟩, t.n, t.n⟩)]])) ++ rG kC (.slice (some ⟨g4, 0, none⟩) s.n s.n) c.rd :: rG kC (.slice (some ⟨h4, 0, none⟩) t.n t.n) c.wr :: (rG kP (.slice (some ⟨b3, 0, none⟩) 1 1) [⟨pt, ⟨q3, N, cp3⟩, pg⟩] :: (trX (.slice q3 N cp3) X3 [] ++ (clR c ⟨some ⟨g2, 0, none⟩, s.n, s.n⟩ ⟨some ⟨h2, 0, none⟩, t.n, t.n⟩ ++ [rG kLQ (.slice (some ⟨w.heap.size, 0, none⟩) 1 1) [(c, s, t)]])))) := by
    have h := hS8
    simp only [clR, Sv.v, List.cons_append, List.append_assoc, List.nil_append] at h ⊢
    exact h
  have HMP5 := Lib.hid (fun W A Bs => HMP.out W q5 cp5 X5 A Bs HX5)
  have HHP5 := Lib.hid (fun W rs => HHP.out W rs q5 cp5 X5 HX5)
  have hE0 := HE.out X5 HX5
  generalize endQ 1 X5 = E at HMP5 HHP5 hE0
  clear HMP HHP HE
  obtain ⟨u0, u1, u2, uf, ug⟩ := hS8.three (K := kQ) (g := b4) (n := 1) (p := (c, ⟨some ⟨g4, 0, none⟩, s.n, s.n⟩, ⟨some ⟨h4, 0, none⟩, t.n, t.n⟩)) (by simp) rfl
  go_upto_region 24 with (first
    | (go_at_call 25; refine (HMC.out _ g4 h4 (rG kP (.slice (some ⟨b5, 0, none⟩) 1 1) [⟨pt, ⟨q5, N, cp5⟩, pg⟩] :: (trX (.slice q5 N cp5) X5 [] ++ [rG kQ (.slice (some ⟨b4, 0, none⟩) 1 1) [(c, ⟨some ⟨g4, 0, none⟩, s.n, s.n⟩, ⟨some ⟨h4, 0, none⟩, t.n, t.n⟩)]])) (rG kP (.slice (some ⟨b3, 0, none⟩) 1 1) [⟨pt, ⟨q3, N, cp3⟩, pg⟩] :: (trX (.slice q3 N cp3) X3 [] ++ (clR c ⟨some ⟨g2, 0, none⟩, s.n, s.n⟩ ⟨some ⟨h2, 0, none⟩, t.n, t.n⟩ ++ [rG kLQ (.slice (some ⟨w.heap.size, 0, none⟩) 1 1) [(c, s, t)]]))) hS8b).mono ?_; rintro e w9 ⟨rfl, hS9⟩; clear u0 u1 u2 uf ug; obtain ⟨y0, y1, y2, yf, yg⟩ := hS9.three (K := kP) (g := b5) (n := 1) (p := ⟨pt, ⟨q5, N, cp5⟩, pg⟩) (by simp) rfl; obtain ⟨v0, v1, v2, vf, vg⟩ := hS9.three (K := kP) (g := b3) (n := 1) (p := ⟨pt, ⟨q3, N, cp3⟩, pg⟩) (by simp) rfl)
    | (go_at_call 23; refine (HEQ.out _ _ q5 q3 cp5 cp3 X5 X3 HX5 HX3 hS9 (fun r hr => by simp [hr]) (fun r hr => by simp [hr])).mono ?_; rintro e w10 ⟨rfl, hb10⟩; have hS10a := hS9.step hb10; clear y0 y1 y2 yf yg; clear v0 v1 v2 vf vg; obtain ⟨y0, y1, y2, yf, yg⟩ := hS10a.three (K := kP) (g := b5) (n := 1) (p := ⟨pt, ⟨q5, N, cp5⟩, pg⟩) (by simp) rfl; have hS10 : Sg w w10 ([rG kP (.slice (some ⟨b5, 0, none⟩) 1 1) [⟨pt, ⟨q5, N, cp5⟩, pg⟩]] ++ (trX (.slice q5 N cp5) X5 [] ++ (rG kQ (.slice (some ⟨b4, 0, none⟩) 1 1) [(c, ⟨some ⟨g4, 0, none⟩, s.n, s.n⟩, ⟨some ⟨h4, 0, none⟩, t.n, t.n⟩)] :: rG kC (.slice (some ⟨g4, 0, none⟩) s.n s.n) (mkC 1 s.n) :: rG kC (.slice (some ⟨h4, 0, none⟩) t.n t.n) (mkC (1 + 3 * s.n) t.n) :: (rG kP (.slice (some ⟨b3, 0, none⟩) 1 1) [⟨pt, ⟨q3, N, cp3⟩, pg⟩] :: (trX (.slice q3 N cp3) X3 [] ++ (clR c ⟨some ⟨g2, 0, none⟩, s.n, s.n⟩ ⟨some ⟨h2, 0, none⟩, t.n, t.n⟩ ++ [rG kLQ (.slice (some ⟨w.heap.size, 0, none⟩) 1 1) [(c, s, t)]])))))) := (by have h := hS10a; simp only [List.cons_append, List.append_assoc, List.nil_append] at h ⊢; exact h))
    | (go_at_call 26; refine (HMP5.out _ [rG kP (.slice (some ⟨b5, 0, none⟩) 1 1) [⟨pt, ⟨q5, N, cp5⟩, pg⟩]] (rG kQ (.slice (some ⟨b4, 0, none⟩) 1 1) [(c, ⟨some ⟨g4, 0, none⟩, s.n, s.n⟩, ⟨some ⟨h4, 0, none⟩, t.n, t.n⟩)] :: rG kC (.slice (some ⟨g4, 0, none⟩) s.n s.n) (mkC 1 s.n) :: rG kC (.slice (some ⟨h4, 0, none⟩) t.n t.n) (mkC (1 + 3 * s.n) t.n) :: (rG kP (.slice (some ⟨b3, 0, none⟩) 1 1) [⟨pt, ⟨q3, N, cp3⟩, pg⟩] :: (trX (.slice q3 N cp3) X3 [] ++ (clR c ⟨some ⟨g2, 0, none⟩, s.n, s.n⟩ ⟨some ⟨h2, 0, none⟩, t.n, t.n⟩ ++ [rG kLQ (.slice (some ⟨w.heap.size, 0, none⟩) 1 1) [(c, s, t)]])))) hS10).mono ?_; rintro e w11 ⟨rfl, hS11⟩; clear y0 y1 y2 yf yg; obtain ⟨y0, y1, y2, yf, yg⟩ := hS11.three (K := kP) (g := b5) (n := 1) (p := ⟨pt, ⟨q5, N, cp5⟩, pg⟩) (by simp) rfl)
    | (go_at_call 27; refine (HHP5.out _ _ hS11 (fun r hr => by simp [hr])).mono ?_; rintro e w12 ⟨rfl, hb12⟩; have hS12 := hS11.step hb12; clear y0 y1 y2 yf yg))
  clear hS8 hS8b hS9 hS10 hS10a hS11 hb10 hb12 HMC HMP5
  obtain ⟨x0, x1, x2, xf, xg⟩ := hS12.three (K := kLQ) (g := w.heap.size) (n := 1) (p := (c, s, t)) (by simp) rfl
  go_wp2_with (first
    | (go_at_call 22; refine (HTC.out _ hS12.bel).mono ?_; rintro e w13 ⟨g13, h13, rfl, hw13⟩; have hS13 := hS12.addL hw13)
    | (go_at_call 10; refine (HIP.out _ _ g13 h13 hS13 (fun r hr => List.mem_append_left _ hr)).mono ?_; rintro e w14 ⟨q14, cp14, X14, rfl, HX14, hw14⟩; have hS14a := hS13.addL hw14; obtain ⟨v0, v1, v2, vf, vg⟩ := hS14a.three (K := kP) (g := b3) (n := 1) (p := ⟨pt, ⟨q3, N, cp3⟩, pg⟩) (by simp) rfl; have hS14 := hS14a.lit kP [⟨pt, ⟨q14, N, cp14⟩, pg⟩] 1 rfl (by decide) #[.int .i64 pt, .slice q14 N cp14, .int .i64 pg] rfl; change Sg w (w14.alloc (.cells #[.int .i64 pt, .slice q14 N cp14, .int .i64 pg] 26)) _ at hS14)
    | (go_at_call 23; refine (HEQ.out _ _ q14 q3 cp14 cp3 X14 X3 HX14 HX3 hS14 (fun r hr => by simp [hr]) (fun r hr => by simp [hr])).mono ?_; rintro e w15 ⟨rfl, hb15⟩; have hS15 := hS14.step hb15; obtain ⟨y0, y1, y2, yf, yg⟩ := hS15.three (K := kP) (g := b5) (n := 1) (p := ⟨pt, ⟨q5, N, cp5⟩, pg⟩) (by simp) rfl)
    | (go_at_call 27; refine (HHP5.out _ _ hS15 (fun r hr => by simp [hr])).mono ?_; rintro e w16 ⟨rfl, hb16⟩; have hS16 := hS15.step hb16))
  go_ret
  exact ⟨rfl, hS16.bel⟩
end Go.Proofs.YtachodaecpnhbaaGreatDoor
