/-
  The law of Narrowed, walked.
-/
import Derived.Test.YtachodaecpnhbaaGreatDoorL1
import Derived.Test.YtachodaecpnhbaaGreatDoorW1
namespace Go.Proofs.YtachodaecpnhbaaGreatDoor
open Go.Shelf Go.RowKit Go.Joins
attribute [local go_sem] Oper.semAt_some

theorem Sg.litZ {w W : World} {rs : List Rw} (h : Sg w W rs) : Sg w (W.alloc (.cells #[.int .i64 0, .slice none 0 0, .int .i64 0] 26)) (rG kP (.slice (some ⟨W.heap.size, 0, none⟩) 1 1) [zpv] :: rs) := h.lit kP [zpv] 1 rfl (by decide) #[.int .i64 0, .slice none 0 0, .int .i64 0] rfl
theorem pick_a {α : Type} (b : α) (P C X R : List α) : List.Sublist (b :: (P ++ R)) (b :: ((P ++ (C ++ X)) ++ R)) := by
  rw [List.append_assoc]
  exact ((List.sublist_append_right _ _).append_left P).cons_cons b
theorem pick_b {α : Type} (b : α) (P C X R : List α) : List.Sublist (b :: (P ++ R)) (b :: (P ++ (C ++ (X ++ R)))) :=
  (((List.sublist_append_right _ _).trans (List.sublist_append_right _ _)).append_left P).cons_cons b
theorem pick_c {α : Type} (b : α) (P C X R : List α) : List.Sublist (b :: (P ++ R)) (b :: ((P ++ C) ++ (X ++ R))) := by
  rw [List.append_assoc]
  exact pick_b b P C X R
theorem narP_len (tn tag : Int) (L : List Cl) (c : Cl) : (narP tn L tag c).cs.length ≤ 7 := by
  unfold narP; split
  · rename_i h
    unfold narB at h
    rw [Bool.and_eq_true] at h
    obtain ⟨_, ⟨_, h2⟩, _, _⟩ := ppB_t h.1
    show (L ++ [c]).length ≤ 7
    rw [List.length_append]; simp; omega
  · exact Nat.zero_le _
set_option maxRecDepth 100000 in
set_option maxHeartbeats 8000000 in
theorem exactNarrowed (tn tag : Int) (p : Option Addr) (n cap : Nat) (QL : List CQ) (c : Cl) (s t : Sv) (hn : QL.length = n) (hm : n ≤ maxLen) (hp : ∀ q ∈ QL, q.2.1.n ≤ maxLen ∧ q.2.2.n ≤ maxLen) (h1 : s.n ≤ maxLen) (h2 : t.n ≤ maxLen) (w : World) (hR : RdLS w p QL) (hQ : RdL w c s t) (hT : TB w) :
    Calls Tryz.prog 5 #[.agg #[.int .i64 tn, .slice p n cap, .int .i64 tag], .agg #[.slice s.p s.n s.c, .slice t.p t.n t.c, .int .i64 c.un]] w fun e w' => e = .returned (.bool true) ∧ Below w.heap.size w w' := by
  have hS0 := ((Sg.nil w).lit kLP [⟨tn, ⟨p, n, cap⟩, tag⟩] 1 rfl (by decide) #[.int .i64 tn, .slice p n cap, .int .i64 tag] rfl).lit kLQ [(c, s, t)] 1 rfl (by decide) #[.slice s.p s.n s.c, .slice t.p t.n t.c, .int .i64 c.un] rfl
  simp only [World.size_alloc] at hS0
  change Sg w ((w.alloc (.cells #[.int .i64 tn, .slice p n cap, .int .i64 tag] 57)).alloc (.cells #[.slice s.p s.n s.c, .slice t.p t.n t.c, .int .i64 c.un] 48)) _ at hS0
  have HZ := szPaper_sum p n cap tn tag QL hn hm 1048576 (by omega) (by omega) ((w.alloc (.cells #[.int .i64 tn, .slice p n cap, .int .i64 tag] 57)).alloc (.cells #[.slice s.p s.n s.c, .slice t.p t.n t.c, .int .i64 c.un] 48)) (hR.1.step hS0.bel) hp
  have HZ2 : Hid (∀ z W, 0 ≤ z → z ≤ 1048576 → Calls Tryz.prog 21 #[.agg #[.slice s.p s.n s.c, .slice t.p t.n t.c, .int .i64 c.un], .int .i64 z] W fun e w' => ∃ r, e = .returned (.int .i64 r) ∧ szR z (s.n + t.n) r ∧ Below W.heap.size W w') := fun z W a b => szClause_any s t c.un z a b h1 h2 W
  have HH : Hid (RdLS w p QL ∧ QL.length = n ∧ RdL w c s t ∧ TB w) := ⟨hR, hn, hQ, hT⟩
  clear hR hQ hT h1 h2 hm hp hn
  go_enter Tryz.func5, Tryz.ntmps5
  go_upto_region 3 with (go_at_call 28; refine HZ.mono ?_; rintro e w1 ⟨r, rfl, hr, hb1⟩; have hS1 := hS0.step hb1)
  by_cases hneg : r < 0
  · go_wp2
    go_ret
    exact ⟨rfl, hS1.bel⟩
  have hr2 : 0 ≤ r ∧ r + n + szT QL = 1048576 := by
    rcases hr with hr | hr
    · omega
    · exact hr
  clear hr
  obtain ⟨y0, y1, y2, yf, yg⟩ := hS1.three (K := kLQ) (g := w.heap.size + 1) (n := 1) (p := (c, s, t)) (by simp) rfl
  go_upto_region 6 with (go_at_call 21; refine (HZ2.out r _ (by omega) (by omega)).mono ?_; rintro e w2 ⟨r', rfl, hr', hb2⟩; have hS2 := hS1.step hb2)
  by_cases hneg' : r' < 0
  · go_wp2
    go_ret
    exact ⟨rfl, hS2.bel⟩
  have hst : n + szT QL + (s.n + t.n) ≤ 1048576 := by rcases hr' with hr' | hr' <;> omega
  have HTP : Hid (∀ W, Below w.heap.size w W → Calls Tryz.prog 29 #[.agg #[.int .i64 tn, .slice p n cap, .int .i64 tag]] W fun e w' => ∃ g X, e = .returned (.agg #[.int .i64 tn, .slice (some ⟨g, 0, none⟩) n n, .int .i64 tag]) ∧ Hid (cls X = cls QL ∧ sm6 X ∧ okQ X ∧ szT X = szT QL ∧ X.length = n) ∧ Sg W w' (trX (.slice (some ⟨g, 0, none⟩) n n) X [])) := fun W h => by
    have hlen : ∀ q ∈ QL, q.1.rd.length = q.2.1.n ∧ q.1.wr.length = q.2.2.n := fun q hq => ⟨(HH.out.1.2 q hq).n1, (HH.out.1.2 q hq).n2⟩
    refine (toPaper_any p n cap tn tag QL HH.out.2.1 (by omega) (fun q hq => by have := szT_mem hq; omega) W (HH.out.1.step h)).mono ?_
    rintro e w' ⟨g, X, he, hx, hsx, hS⟩
    have hrd := hS.rdS hsx (fun r hr => hr)
    have hsz : szT X = szT QL := by rw [szT_cls fun q hq => ⟨(hrd.2 q hq).n1, (hrd.2 q hq).n2⟩, szT_cls hlen, hx]
    exact ⟨g, X, he, ⟨hx, fun q hq => by have := szT_mem hq; omega, hS.okQ (fun r hr => hr), hsz, by have := congrArg List.length hx; rw [cls_len, cls_len, HH.out.2.1] at this; exact this⟩, hS⟩
  have HTC : Hid (∀ W, Below w.heap.size w W → Calls Tryz.prog 22 #[.agg #[.slice s.p s.n s.c, .slice t.p t.n t.c, .int .i64 c.un]] W fun e w' => ∃ g h, e = .returned (.agg #[.slice (some ⟨g, 0, none⟩) s.n s.n, .slice (some ⟨h, 0, none⟩) t.n t.n, .int .i64 c.un]) ∧ Sg W w' (clR c ⟨some ⟨g, 0, none⟩, s.n, s.n⟩ ⟨some ⟨h, 0, none⟩, t.n, t.n⟩)) := fun W h => toClause_any c s t (by omega) (by omega) W (HH.out.2.2.1.step h)
  have HSN : Hid (∀ W rs g X g' h', Hid (cls X = cls QL ∧ sm6 X ∧ okQ X ∧ szT X = szT QL ∧ X.length = n) → Sg w W rs → (∀ r ∈ trX (.slice (some ⟨g, 0, none⟩) n n) X [], r ∈ rs) → (∀ r ∈ clR c ⟨some ⟨g', 0, none⟩, s.n, s.n⟩ ⟨some ⟨h', 0, none⟩, t.n, t.n⟩, r ∈ rs) → Calls Tryz.prog 12 #[.agg #[.int .i64 tn, .slice (some ⟨g, 0, none⟩) n n, .int .i64 tag], .agg #[.slice (some ⟨g', 0, none⟩) s.n s.n, .slice (some ⟨h', 0, none⟩) t.n t.n, .int .i64 c.un]] W (PapN W (narP tn (cls QL) tag c).cs (narP tn (cls QL) tag c).tn (narP tn (cls QL) tag c).tag (narP tn (cls QL) tag c).cs.length (narB tn (cls QL) tag c))) := fun W rs g X g' h' hX hS hm hm' => by
    have h := sNarrowed_any tn tag (some ⟨g, 0, none⟩) n n X hX.out.2.2.2.2 (by omega) hX.out.2.1 hX.out.2.2.1 c ⟨some ⟨g', 0, none⟩, s.n, s.n⟩ ⟨some ⟨h', 0, none⟩, t.n, t.n⟩ (show s.n ≤ 1100000 by omega) (show t.n ≤ 1100000 by omega) (.inl ⟨_, rfl⟩) (.inl ⟨_, rfl⟩) W (hS.rdS hX.out.2.1.q hm) (hS.rdQ hm' (show s.n ≤ 10000000 by omega) (show t.n ≤ 10000000 by omega))
    rw [hX.out.1] at h
    exact h.mono fun _ _ h => h.n
  have HIN : Hid (∀ W rs g X g' h', Hid (cls X = cls QL ∧ sm6 X ∧ okQ X ∧ szT X = szT QL ∧ X.length = n) → Sg w W rs → (∀ r ∈ trX (.slice (some ⟨g, 0, none⟩) n n) X [], r ∈ rs) → (∀ r ∈ clR c ⟨some ⟨g', 0, none⟩, s.n, s.n⟩ ⟨some ⟨h', 0, none⟩, t.n, t.n⟩, r ∈ rs) → Calls Tryz.prog 8 #[.agg #[.int .i64 tn, .slice (some ⟨g, 0, none⟩) n n, .int .i64 tag], .agg #[.slice (some ⟨g', 0, none⟩) s.n s.n, .slice (some ⟨h', 0, none⟩) t.n t.n, .int .i64 c.un]] W (PapN W (narP tn (cls QL) tag c).cs (narP tn (cls QL) tag c).tn (narP tn (cls QL) tag c).tag (narP tn (cls QL) tag c).cs.length (narB tn (cls QL) tag c))) := fun W rs g X g' h' hX hS hm hm' => by
    have h := iNarrowed_any tn tag (some ⟨g, 0, none⟩) n n X hX.out.2.2.2.2 (by omega) hX.out.2.1 hX.out.2.2.1 c ⟨some ⟨g', 0, none⟩, s.n, s.n⟩ ⟨some ⟨h', 0, none⟩, t.n, t.n⟩ (show s.n ≤ 1100000 by omega) (show t.n ≤ 1100000 by omega) (.inl ⟨_, rfl⟩) (.inl ⟨_, rfl⟩) W (hS.rdS hX.out.2.1.q hm) (hS.rdQ hm' (show s.n ≤ 10000000 by omega) (show t.n ≤ 10000000 by omega)) (HH.out.2.2.2.step hS.bel)
    rw [hX.out.1] at h
    exact h.mono fun _ _ h => h.n
  have hN1 := narP_len tn tag (cls QL) c
  generalize (narP tn (cls QL) tag c).cs.length = N at HSN HIN hN1
  generalize (narP tn (cls QL) tag c).cs = cs at HSN HIN
  generalize (narP tn (cls QL) tag c).tn = pt at HSN HIN
  generalize (narP tn (cls QL) tag c).tag = pg at HSN HIN
  generalize narB tn (cls QL) tag c = b at HSN HIN
  have HEC : Hid (∀ W rs g h g' h', Sg w W rs → (∀ r ∈ clR c ⟨some ⟨g, 0, none⟩, s.n, s.n⟩ ⟨some ⟨h, 0, none⟩, t.n, t.n⟩, r ∈ rs) → (∀ r ∈ clR c ⟨some ⟨g', 0, none⟩, s.n, s.n⟩ ⟨some ⟨h', 0, none⟩, t.n, t.n⟩, r ∈ rs) → Calls Tryz.prog 24 #[.agg #[.slice (some ⟨g, 0, none⟩) s.n s.n, .slice (some ⟨h, 0, none⟩) t.n t.n, .int .i64 c.un], .agg #[.slice (some ⟨g', 0, none⟩) s.n s.n, .slice (some ⟨h', 0, none⟩) t.n t.n, .int .i64 c.un]] W fun e w' => e = .returned (.bool true) ∧ Below W.heap.size W w') := fun W rs g h g' h' hS hm hm' => eqClause_same c ⟨some ⟨g, 0, none⟩, s.n, s.n⟩ ⟨some ⟨h, 0, none⟩, t.n, t.n⟩ ⟨some ⟨g', 0, none⟩, s.n, s.n⟩ ⟨some ⟨h', 0, none⟩, t.n, t.n⟩ W (hS.rdQ hm (show s.n ≤ 10000000 by omega) (show t.n ≤ 10000000 by omega)) (hS.rdQ hm' (show s.n ≤ 10000000 by omega) (show t.n ≤ 10000000 by omega))
  have HEQ : Hid (∀ W rs q q' cp cp' X X', Hid (cls X = cs ∧ sm6 X ∧ X.length = N) → Hid (cls X' = cs ∧ sm6 X' ∧ X'.length = N) → Sg w W rs → (∀ r ∈ trX (.slice q N cp) X [], r ∈ rs) → (∀ r ∈ trX (.slice q' N cp') X' [], r ∈ rs) → Calls Tryz.prog 23 #[.agg #[.int .i64 pt, .slice q N cp, .int .i64 pg], .agg #[.int .i64 pt, .slice q' N cp', .int .i64 pg]] W fun e w' => e = .returned (.bool true) ∧ Below W.heap.size W w') := fun W rs q q' cp cp' X X' hX hX' hS hm hm' => eqPaper_same pt pg q q' cp cp' N X X' hX.out.2.2 (hX.out.1.trans hX'.out.1.symm) (by omega) W (hS.rdS hX.out.2.1.q hm) (hS.rdS hX'.out.2.1.q hm')
  have HEX : Hid (∀ W rs g g' X X', Hid (cls X = cls QL ∧ sm6 X ∧ okQ X ∧ szT X = szT QL ∧ X.length = n) → Hid (cls X' = cls QL ∧ sm6 X' ∧ okQ X' ∧ szT X' = szT QL ∧ X'.length = n) → Sg w W rs → (∀ r ∈ trX (.slice (some ⟨g, 0, none⟩) n n) X [], r ∈ rs) → (∀ r ∈ trX (.slice (some ⟨g', 0, none⟩) n n) X' [], r ∈ rs) → Calls Tryz.prog 23 #[.agg #[.int .i64 tn, .slice (some ⟨g, 0, none⟩) n n, .int .i64 tag], .agg #[.int .i64 tn, .slice (some ⟨g', 0, none⟩) n n, .int .i64 tag]] W fun e w' => e = .returned (.bool true) ∧ Below W.heap.size W w') := fun W rs g g' X X' hX hX' hS hm hm' => eqPaper_same tn tag (some ⟨g, 0, none⟩) (some ⟨g', 0, none⟩) n n n X X' hX.out.2.2.2.2 (hX.out.1.trans hX'.out.1.symm) (by omega) W (hS.rdS hX.out.2.1.q hm) (hS.rdS hX'.out.2.1.q hm')
  have HMX : Hid (∀ W g X A Bs, Hid (cls X = cls QL ∧ sm6 X ∧ okQ X ∧ szT X = szT QL ∧ X.length = n) → Sg w W (A ++ (trX (.slice (some ⟨g, 0, none⟩) n n) X [] ++ Bs)) → Calls Tryz.prog 26 #[.agg #[.int .i64 tn, .slice (some ⟨g, 0, none⟩) n n, .int .i64 tag], .int .i64 1] W fun e w' => e = .returned (.int .i64 (endQ 1 X)) ∧ Sg w w' (A ++ (trX (.slice (some ⟨g, 0, none⟩) n n) (mkQs 1 X) [] ++ Bs))) := fun W g X A Bs hX hS => markPaper_sum tn tag (some ⟨g, 0, none⟩) n n 1 X A Bs w W hS hX.out.2.2.2.2 (by have h := hX.out.2.2.2.1; omega) (by omega) (by omega)
  have HE8 : Hid (∀ X, Hid (cls X = cls QL ∧ sm6 X ∧ okQ X ∧ szT X = szT QL ∧ X.length = n) → 0 ≤ endQ 1 X ∧ endQ 1 X ≤ 90000000 ∧ ¬ endQ 1 X + 3 * (s.n : Int) + 3 * (t.n : Int) < 0) := fun X hX => by
    have e := endQ_val 1 X
    have h := hX.out.2.2.2.1
    have h' := hX.out.2.2.2.2
    omega
  have HMC : Hid (∀ W k g h A Bs, 0 ≤ k → k ≤ 90000000 → Sg w W (A ++ rG kC (.slice (some ⟨g, 0, none⟩) s.n s.n) c.rd :: rG kC (.slice (some ⟨h, 0, none⟩) t.n t.n) c.wr :: Bs) → Calls Tryz.prog 25 #[.agg #[.slice (some ⟨g, 0, none⟩) s.n s.n, .slice (some ⟨h, 0, none⟩) t.n t.n, .int .i64 c.un], .int .i64 k] W fun e w' => e = .returned (.int .i64 (k + 3 * s.n + 3 * t.n)) ∧ Sg w w' (A ++ rG kC (.slice (some ⟨g, 0, none⟩) s.n s.n) (mkC k s.n) :: rG kC (.slice (some ⟨h, 0, none⟩) t.n t.n) (mkC (k + 3 * s.n) t.n) :: Bs)) := fun W k g h A Bs a b hS => markClause_any c ⟨some ⟨g, 0, none⟩, s.n, s.n⟩ ⟨some ⟨h, 0, none⟩, t.n, t.n⟩ k A Bs w W hS (show s.n ≤ 1100000 by omega) (show t.n ≤ 1100000 by omega) a b
  have HMP : Hid (∀ W q cp X A Bs, Hid (cls X = cs ∧ sm6 X ∧ X.length = N) → Sg w W (A ++ (trX (.slice q N cp) X [] ++ Bs)) → Calls Tryz.prog 26 #[.agg #[.int .i64 pt, .slice q N cp, .int .i64 pg], .int .i64 1] W fun e w' => e = .returned (.int .i64 (endQ 1 X)) ∧ Sg w w' (A ++ (trX (.slice q N cp) (mkQs 1 X) [] ++ Bs))) := fun W q cp X A Bs hX hS => markPaper_any pt pg q N cp 1 X A Bs w W hS (by omega) (by omega) (by omega) hX.out.2.1
  have HHP : Hid (∀ W rs q cp X, Hid (cls X = cs ∧ sm6 X ∧ X.length = N) → Sg w W rs → (∀ r ∈ trX (.slice q N cp) (mkQs 1 X) [], r ∈ rs) → Calls Tryz.prog 27 #[.agg #[.int .i64 pt, .slice q N cp, .int .i64 pg], .int .i64 1] W fun e w' => e = .returned (.int .i64 (endQ 1 X)) ∧ Below W.heap.size W w') := fun W rs q cp X hX hS hm => heldPaper_any pt pg q N cp 1 X hX.out.2.2 (by omega) (by omega) (by omega) hX.out.2.1 W (hS.rdS (sm_mkQs 1 X hX.out.2.1).q hm)
  have HE : Hid (∀ X, Hid (cls X = cs ∧ sm6 X ∧ X.length = N) → ¬ endQ 1 X < 0) := fun X hX => by have := (endQ_bd 1 X hX.out.2.1).1; omega
  have HK : Hid (∀ w' rs, Sg w w' rs → rG kLP (.slice (some ⟨w.heap.size, 0, none⟩) 1 1) [⟨tn, ⟨p, n, cap⟩, tag⟩] ∈ rs → rG kLQ (.slice (some ⟨w.heap.size + 1, 0, none⟩) 1 1) [(c, s, t)] ∈ rs → (w'.cell? ⟨w.heap.size, 0, none⟩ = some (.int .i64 tn) ∧ w'.cell? ⟨w.heap.size, 1, none⟩ = some (.slice p n cap) ∧ w'.cell? ⟨w.heap.size, 2, none⟩ = some (.int .i64 tag) ∧ w'.cell? ⟨w.heap.size + 1, 0, none⟩ = some (.slice s.p s.n s.c) ∧ w'.cell? ⟨w.heap.size + 1, 1, none⟩ = some (.slice t.p t.n t.c) ∧ w'.cell? ⟨w.heap.size + 1, 2, none⟩ = some (.int .i64 c.un))) := fun w' rs h m1 m2 => by
    obtain ⟨k0, k1, k2, _, _⟩ := h.three (K := kLP) (g := w.heap.size) (n := 1) (p := ⟨tn, ⟨p, n, cap⟩, tag⟩) m1 rfl
    obtain ⟨z0, z1, z2, _, _⟩ := h.three (K := kLQ) (g := w.heap.size + 1) (n := 1) (p := (c, s, t)) m2 rfl
    exact ⟨k0, k1, k2, z0, z1, z2⟩
  clear y0 y1 y2 yf yg
  clear hS0 hS1 hb1 hb2 HZ HZ2
  go_upto_region 8 with (fail)
  go_cut [6, 7] from 17 (fun v6 v7 wx => ∃ (b6 : Nat) (q : Option Addr) (cp : Nat) (X : List CQ), v6 = .pointer (some ⟨b6, 0, none⟩) ∧ v7 = .bool b ∧ Hid (cls X = cs ∧ sm6 X ∧ X.length = N) ∧ Sg w wx (rG kP (.slice (some ⟨b6, 0, none⟩) 1 1) [⟨pt, ⟨q, N, cp⟩, pg⟩] :: (trX (.slice q N cp) X [] ++ [rG kLQ (.slice (some ⟨w.heap.size + 1, 0, none⟩) 1 1) [(c, s, t)], rG kLP (.slice (some ⟨w.heap.size, 0, none⟩) 1 1) [⟨tn, ⟨p, n, cap⟩, tag⟩]])))
  case first =>
    have hrow := hS2
    go_region_held3 (fun w' => w'.cell? ⟨w.heap.size, 0, none⟩ = some (.int .i64 tn) ∧ w'.cell? ⟨w.heap.size, 1, none⟩ = some (.slice p n cap) ∧ w'.cell? ⟨w.heap.size, 2, none⟩ = some (.int .i64 tag) ∧ w'.cell? ⟨w.heap.size + 1, 0, none⟩ = some (.slice s.p s.n s.c) ∧ w'.cell? ⟨w.heap.size + 1, 1, none⟩ = some (.slice t.p t.n t.c) ∧ w'.cell? ⟨w.heap.size + 1, 2, none⟩ = some (.int .i64 c.un))
      (first
        | assumption
        | with_reducible exact HK.out _ _ hrow (by simp) (by simp)
        | with_reducible exact HK.out _ _ hrow.dr (by simp) (by simp)
        | with_reducible exact HK.out _ _ (hrow.al _) (by simp) (by simp)
        | with_reducible exact HK.out _ _ (hrow.al _).dr (by simp) (by simp)
        | with_reducible exact HK.out _ _ hS7 (by simp) (by simp))
      (first
        | (go_at_call 29; refine (HTP.out _ (by first | with_reducible exact hrow.bel | with_reducible exact hrow.dr.bel | with_reducible exact hrow.litZ.bel | with_reducible exact hrow.litZ.dr.bel)).mono ?_; rintro e w3 ⟨g3, X3, rfl, HX3, hw3⟩; (first | with_reducible (replace hrow := hrow.addL hw3) | with_reducible (replace hrow := hrow.dr.addL hw3) | with_reducible (replace hrow := hrow.litZ.addL hw3) | with_reducible (replace hrow := hrow.litZ.dr.addL hw3)))
        | (go_at_call 22; refine (HTC.out _ (by first | with_reducible exact hrow.bel | with_reducible exact hrow.litZ.bel)).mono ?_; rintro e w4 ⟨g4, h4, rfl, hw4⟩; (first | with_reducible (replace hrow := hrow.addL hw4) | with_reducible (replace hrow := hrow.litZ.addL hw4)))
        | (go_at_call 12; (first | refine (HSN.out _ _ g3 X3 g4 h4 HX3 hrow (fun r hr => by simp [hr]) (fun r hr => by simp [hr])).mono ?_ | refine (HSN.out _ _ g3 X3 g4 h4 HX3 hrow.litZ (fun r hr => by simp [hr]) (fun r hr => by simp [hr])).mono ?_); rintro e w5 ⟨q5, cp5, X5, rfl, HX5, hw5⟩; (first | with_reducible (replace hrow := hrow.addL hw5) | with_reducible (replace hrow := hrow.litZ.addL hw5)); (first
            | (obtain ⟨v0, v1, v2, vf, vg⟩ := hrow.three (K := kP) (g := w2.heap.size) (n := 1) (p := zpv) (by simp) rfl; have hS7 := Sg.setP (A := trX (.slice q5 N cp5) X5 [] ++ (clR c ⟨some ⟨g4, 0, none⟩, s.n, s.n⟩ ⟨some ⟨h4, 0, none⟩, t.n, t.n⟩ ++ trX (.slice (some ⟨g3, 0, none⟩) n n) X3 [])) (g := w2.heap.size) (n := 1) (a := zpv) (by simpa [List.append_assoc] using hrow) ⟨pt, ⟨q5, N, cp5⟩, pg⟩)
            | (obtain ⟨v0, v1, v2, vf, vg⟩ := hrow.three (K := kP) (g := w3.heap.size) (n := 1) (p := zpv) (by simp) rfl; have hS7 := Sg.setP (A := trX (.slice q5 N cp5) X5 [] ++ clR c ⟨some ⟨g4, 0, none⟩, s.n, s.n⟩ ⟨some ⟨h4, 0, none⟩, t.n, t.n⟩) (g := w3.heap.size) (n := 1) (a := zpv) (by simpa [List.append_assoc] using hrow) ⟨pt, ⟨q5, N, cp5⟩, pg⟩)
            | (obtain ⟨v0, v1, v2, vf, vg⟩ := hrow.three (K := kP) (g := w4.heap.size) (n := 1) (p := zpv) (by simp) rfl; have hS7 := Sg.setP (A := trX (.slice q5 N cp5) X5 []) (g := w4.heap.size) (n := 1) (a := zpv) hrow ⟨pt, ⟨q5, N, cp5⟩, pg⟩)
            | skip)))
    all_goals go_wp2
    all_goals go_meet
    all_goals first
      | (refine ⟨w5.heap.size, q5, cp5, X5, rfl, rfl, HX5, ?_⟩; have h9 := (hrow.lit kP [⟨pt, ⟨q5, N, cp5⟩, pg⟩] 1 rfl (by decide) #[.int .i64 pt, .slice q5 N cp5, .int .i64 pg] rfl); change Sg w (w5.alloc (.cells #[.int .i64 pt, .slice q5 N cp5, .int .i64 pg] 26)) _ at h9; with_reducible exact h9.sub (pick_b _ _ _ _ _))
      | (refine ⟨w2.heap.size, q5, cp5, X5, rfl, rfl, HX5, ?_⟩; with_reducible exact (hS7.perm List.perm_middle).sub (pick_a _ _ _ _ _))
      | (refine ⟨w3.heap.size, q5, cp5, X5, rfl, rfl, HX5, ?_⟩; with_reducible exact (hS7.perm List.perm_middle).sub (pick_c _ _ _ _ _))
      | (refine ⟨w4.heap.size, q5, cp5, X5, rfl, rfl, HX5, ?_⟩; with_reducible exact (hS7.perm List.perm_middle).sub (pick_b _ _ _ _ _))
  case rest =>
    obtain ⟨b6, q6, cp6, X6, rfl, rfl, HX6, hS3⟩ := hcut
    clear hS2 HSN hst hr' hr2
    obtain ⟨x0, x1, x2, xf, xg⟩ := hS3.three (K := kLP) (g := w.heap.size) (n := 1) (p := ⟨tn, ⟨p, n, cap⟩, tag⟩) (by simp) rfl
    go_upto_region 12 with (first
      | (go_at_call 29; refine (HTP.out _ hS3.bel).mono ?_; rintro e w4 ⟨g4, X4, rfl, HX4, hw4⟩; have hS4a := hS3.addL hw4; clear x0 x1 x2 xf xg; obtain ⟨y0, y1, y2, yf, yg⟩ := hS4a.three (K := kLQ) (g := w.heap.size + 1) (n := 1) (p := (c, s, t)) (by simp) rfl; have hS4 := hS4a.lit kP [⟨tn, ⟨some ⟨g4, 0, none⟩, n, n⟩, tag⟩] 1 rfl (by decide) #[.int .i64 tn, .slice (some ⟨g4, 0, none⟩) n n, .int .i64 tag] rfl; change Sg w (w4.alloc (.cells #[.int .i64 tn, .slice (some ⟨g4, 0, none⟩) n n, .int .i64 tag] 26)) _ at hS4)
      | (go_at_call 22; refine (HTC.out _ hS4.bel).mono ?_; rintro e w5 ⟨g5, h5, rfl, hw5⟩; have hS5a := hS4.addL hw5; clear y0 y1 y2 yf yg; obtain ⟨u0, u1, u2, uf, ug⟩ := hS5a.three (K := kP) (g := w4.heap.size) (n := 1) (p := ⟨tn, ⟨some ⟨g4, 0, none⟩, n, n⟩, tag⟩) (by simp) rfl; have hS5 := hS5a.lit kQ [(c, ⟨some ⟨g5, 0, none⟩, s.n, s.n⟩, ⟨some ⟨h5, 0, none⟩, t.n, t.n⟩)] 1 rfl (by decide) #[.slice (some ⟨g5, 0, none⟩) s.n s.n, .slice (some ⟨h5, 0, none⟩) t.n t.n, .int .i64 c.un] rfl; change Sg w (w5.alloc (.cells #[.slice (some ⟨g5, 0, none⟩) s.n s.n, .slice (some ⟨h5, 0, none⟩) t.n t.n, .int .i64 c.un] 29)) _ at hS5)
      | (go_at_call 8; refine (HIN.out _ _ g4 X4 g5 h5 HX4 hS5 (fun r hr => by simp [hr]) (fun r hr => by simp [hr])).mono ?_; rintro e w6 ⟨q7, cp7, X7, rfl, HX7, hw6⟩; have hS6a := hS5.addL hw6; clear u0 u1 u2 uf ug; obtain ⟨v0, v1, v2, vf, vg⟩ := hS6a.three (K := kP) (g := b6) (n := 1) (p := ⟨pt, ⟨q6, N, cp6⟩, pg⟩) (by simp) rfl; have hS6 := hS6a.lit kP [⟨pt, ⟨q7, N, cp7⟩, pg⟩] 1 rfl (by decide) #[.int .i64 pt, .slice q7 N cp7, .int .i64 pg] rfl; change Sg w (w6.alloc (.cells #[.int .i64 pt, .slice q7 N cp7, .int .i64 pg] 26)) _ at hS6))
    clear hS3 hS4 hS4a hS5 hS5a hS6a hw4 hw5 hw6
    go_upto_region 14 with (go_at_call 23; refine (HEQ.out _ _ q7 q6 cp7 cp6 X7 X6 HX7 HX6 hS6 (fun r hr => by simp [hr]) (fun r hr => by simp [hr])).mono ?_; rintro e w7 ⟨rfl, hb7⟩; have hrow := hS6.step hb7)
    clear hS6 hb7
    clear v0 v1 v2 vf vg
    generalize w4.heap.size = b8 at *
    generalize w5.heap.size = b9 at *
    generalize w6.heap.size = b10 at *
    have HK14 : Hid (∀ w' rs, Sg w w' rs → rG kP (.slice (some ⟨b8, 0, none⟩) 1 1) [⟨tn, ⟨some ⟨g4, 0, none⟩, n, n⟩, tag⟩] ∈ rs → rG kLP (.slice (some ⟨w.heap.size, 0, none⟩) 1 1) [⟨tn, ⟨p, n, cap⟩, tag⟩] ∈ rs → (w'.cell? ⟨b8, 0, none⟩ = some (.int .i64 tn) ∧ w'.cell? ⟨b8, 1, none⟩ = some (.slice (some ⟨g4, 0, none⟩) n n) ∧ w'.cell? ⟨b8, 2, none⟩ = some (.int .i64 tag) ∧ w'.cell? ⟨w.heap.size, 0, none⟩ = some (.int .i64 tn) ∧ w'.cell? ⟨w.heap.size, 1, none⟩ = some (.slice p n cap) ∧ w'.cell? ⟨w.heap.size, 2, none⟩ = some (.int .i64 tag))) := fun w' rs h m1 m2 => by
      obtain ⟨y0, y1, y2, _, _⟩ := h.three (K := kP) (g := b8) (n := 1) (p := ⟨tn, ⟨some ⟨g4, 0, none⟩, n, n⟩, tag⟩) m1 rfl
      obtain ⟨z0, z1, z2, _, _⟩ := h.three (K := kLP) (g := w.heap.size) (n := 1) (p := ⟨tn, ⟨p, n, cap⟩, tag⟩) m2 rfl
      exact ⟨y0, y1, y2, z0, z1, z2⟩
    have HK16 : Hid (∀ w' rs, Sg w w' rs → rG kQ (.slice (some ⟨b9, 0, none⟩) 1 1) [(c, ⟨some ⟨g5, 0, none⟩, s.n, s.n⟩, ⟨some ⟨h5, 0, none⟩, t.n, t.n⟩)] ∈ rs → rG kLQ (.slice (some ⟨w.heap.size + 1, 0, none⟩) 1 1) [(c, s, t)] ∈ rs → (w'.cell? ⟨b9, 0, none⟩ = some (.slice (some ⟨g5, 0, none⟩) s.n s.n) ∧ w'.cell? ⟨b9, 1, none⟩ = some (.slice (some ⟨h5, 0, none⟩) t.n t.n) ∧ w'.cell? ⟨b9, 2, none⟩ = some (.int .i64 c.un) ∧ w'.cell? ⟨w.heap.size + 1, 0, none⟩ = some (.slice s.p s.n s.c) ∧ w'.cell? ⟨w.heap.size + 1, 1, none⟩ = some (.slice t.p t.n t.c) ∧ w'.cell? ⟨w.heap.size + 1, 2, none⟩ = some (.int .i64 c.un))) := fun w' rs h m1 m2 => by
      obtain ⟨y0, y1, y2, _, _⟩ := h.three (K := kQ) (g := b9) (n := 1) (p := (c, ⟨some ⟨g5, 0, none⟩, s.n, s.n⟩, ⟨some ⟨h5, 0, none⟩, t.n, t.n⟩)) m1 rfl
      obtain ⟨z0, z1, z2, _, _⟩ := h.three (K := kLQ) (g := w.heap.size + 1) (n := 1) (p := (c, s, t)) m2 rfl
      exact ⟨y0, y1, y2, z0, z1, z2⟩
    go_region_held3 (fun w' => w'.cell? ⟨b8, 0, none⟩ = some (.int .i64 tn) ∧ w'.cell? ⟨b8, 1, none⟩ = some (.slice (some ⟨g4, 0, none⟩) n n) ∧ w'.cell? ⟨b8, 2, none⟩ = some (.int .i64 tag) ∧ w'.cell? ⟨w.heap.size, 0, none⟩ = some (.int .i64 tn) ∧ w'.cell? ⟨w.heap.size, 1, none⟩ = some (.slice p n cap) ∧ w'.cell? ⟨w.heap.size, 2, none⟩ = some (.int .i64 tag))
      (first
        | assumption
        | with_reducible exact HK14.out _ _ hrow (by simp) (by simp)
        | with_reducible exact HK14.out _ _ hrow.dr (by simp) (by simp))
      (first
        | (go_at_call 29; refine (HTP.out _ (by first | with_reducible exact hrow.bel | with_reducible exact hrow.dr.bel)).mono ?_; rintro e w8 ⟨g8, X8, rfl, HX8, hw8⟩; (first | with_reducible (replace hrow := hrow.addL hw8) | with_reducible (replace hrow := hrow.dr.addL hw8)); clear hw8)
        | (go_at_call 23; refine (HEX.out _ _ g4 g8 X4 X8 HX4 HX8 hrow (fun r hr => by simp [hr]) (fun r hr => by simp [hr])).mono ?_; rintro e w9 ⟨rfl, hb9⟩; replace hrow := hrow.step hb9; clear hb9))
    rename_i hHeld
    clear hHeld HK14
    replace hrow := hrow.sub (List.sublist_append_right _ _)
    go_upto_region 16 with (fail)
    go_region_held3 (fun w' => w'.cell? ⟨b9, 0, none⟩ = some (.slice (some ⟨g5, 0, none⟩) s.n s.n) ∧ w'.cell? ⟨b9, 1, none⟩ = some (.slice (some ⟨h5, 0, none⟩) t.n t.n) ∧ w'.cell? ⟨b9, 2, none⟩ = some (.int .i64 c.un) ∧ w'.cell? ⟨w.heap.size + 1, 0, none⟩ = some (.slice s.p s.n s.c) ∧ w'.cell? ⟨w.heap.size + 1, 1, none⟩ = some (.slice t.p t.n t.c) ∧ w'.cell? ⟨w.heap.size + 1, 2, none⟩ = some (.int .i64 c.un))
      (first
        | assumption
        | with_reducible exact HK16.out _ _ hrow (by simp) (by simp)
        | with_reducible exact HK16.out _ _ hrow.dr (by simp) (by simp))
      (first
        | (go_at_call 22; refine (HTC.out _ (by first | with_reducible exact hrow.bel | with_reducible exact hrow.dr.bel)).mono ?_; rintro e w10 ⟨g10, h10, rfl, hw10⟩; (first | with_reducible (replace hrow := hrow.addL hw10) | with_reducible (replace hrow := hrow.dr.addL hw10)); clear hw10)
        | (go_at_call 24; refine (HEC.out _ _ g5 h5 g10 h10 hrow (fun r hr => by simp [hr]) (fun r hr => by simp [hr])).mono ?_; rintro e w11 ⟨rfl, hb11⟩; replace hrow := hrow.step hb11; clear hb11))
    rename_i hHeld
    clear hHeld HK16
    have hS11 := hrow.sub (List.sublist_append_right _ _)
    clear hrow
    have h8 := HE8.out X4 HX4
    have HMX4 := Lib.hid (fun W A Bs => HMX.out W g4 X4 A Bs HX4)
    generalize endQ 1 X4 = E8 at HMX4 h8
    obtain ⟨e80, e81, e82⟩ := h8
    have HMP7 := Lib.hid (fun W A Bs => HMP.out W q7 cp7 X7 A Bs HX7)
    have HHP7 := Lib.hid (fun W rs => HHP.out W rs q7 cp7 X7 HX7)
    have hE0 := HE.out X7 HX7
    generalize endQ 1 X7 = E at HMP7 HHP7 hE0
    clear HE8 HMX HMP HHP HE HEX HEC
    have hS11b : Sg w w11 ((rG kP (.slice (some ⟨b10, 0, none⟩) 1 1) [⟨pt, ⟨q7, N, cp7⟩, pg⟩] :: (trX (.slice q7 N cp7) X7 [] ++ (rG kQ (.slice (some ⟨b9, 0, none⟩) 1 1) [(c, ⟨some ⟨g5, 0, none⟩, s.n, s.n⟩, ⟨some ⟨h5, 0, none⟩, t.n, t.n⟩)] :: (clR c ⟨some ⟨g5, 0, none⟩, s.n, s.n⟩ ⟨some ⟨h5, 0, none⟩, t.n, t.n⟩ ++ [rG kP (.slice (some ⟨b8, 0, none⟩) 1 1) [⟨tn, ⟨some ⟨g4, 0, none⟩, n, n⟩, tag⟩]])))) ++ (trX (.slice (some ⟨g4, 0, none⟩) n n) X4 [] ++ (rG kP (.slice (some ⟨b6, 0, none⟩) 1 1) [⟨pt, ⟨q6, N, cp6⟩, pg⟩] :: (trX (.slice q6 N cp6) X6 [] ++ [rG kLQ (.slice (some ⟨w.heap.size + 1, 0, none⟩) 1 1) [(c, s, t)], rG kLP (.slice (some ⟨w.heap.size, 0, none⟩) 1 1) [⟨tn, ⟨p, n, cap⟩, tag⟩]])))) := (by have h := hS11; simp only [clR, Sv.v, List.cons_append, List.append_assoc, List.nil_append] at h ⊢; exact h)
    obtain ⟨u0, u1, u2, uf, ug⟩ := hS11.three (K := kP) (g := b8) (n := 1) (p := ⟨tn, ⟨some ⟨g4, 0, none⟩, n, n⟩, tag⟩) (by simp) rfl
    have f1 : True := trivial
    go_upto_region 31 with (first
      | (go_at_call 26; clear f1; refine (HMX4.out _ (rG kP (.slice (some ⟨b10, 0, none⟩) 1 1) [⟨pt, ⟨q7, N, cp7⟩, pg⟩] :: (trX (.slice q7 N cp7) X7 [] ++ (rG kQ (.slice (some ⟨b9, 0, none⟩) 1 1) [(c, ⟨some ⟨g5, 0, none⟩, s.n, s.n⟩, ⟨some ⟨h5, 0, none⟩, t.n, t.n⟩)] :: (clR c ⟨some ⟨g5, 0, none⟩, s.n, s.n⟩ ⟨some ⟨h5, 0, none⟩, t.n, t.n⟩ ++ [rG kP (.slice (some ⟨b8, 0, none⟩) 1 1) [⟨tn, ⟨some ⟨g4, 0, none⟩, n, n⟩, tag⟩]])))) (rG kP (.slice (some ⟨b6, 0, none⟩) 1 1) [⟨pt, ⟨q6, N, cp6⟩, pg⟩] :: (trX (.slice q6 N cp6) X6 [] ++ [rG kLQ (.slice (some ⟨w.heap.size + 1, 0, none⟩) 1 1) [(c, s, t)], rG kLP (.slice (some ⟨w.heap.size, 0, none⟩) 1 1) [⟨tn, ⟨p, n, cap⟩, tag⟩]])) hS11b).mono ?_; rintro e w12 ⟨rfl, hS12a⟩; clear u0 u1 u2 uf ug; obtain ⟨m0, m1, m2, mf, mg⟩ := hS12a.three (K := kQ) (g := b9) (n := 1) (p := (c, ⟨some ⟨g5, 0, none⟩, s.n, s.n⟩, ⟨some ⟨h5, 0, none⟩, t.n, t.n⟩)) (by simp) rfl; have hS12 : Sg w w12 ((rG kP (.slice (some ⟨b10, 0, none⟩) 1 1) [⟨pt, ⟨q7, N, cp7⟩, pg⟩] :: (trX (.slice q7 N cp7) X7 [] ++ [rG kQ (.slice (some ⟨b9, 0, none⟩) 1 1) [(c, ⟨some ⟨g5, 0, none⟩, s.n, s.n⟩, ⟨some ⟨h5, 0, none⟩, t.n, t.n⟩)]])) ++ rG kC (.slice (some ⟨g5, 0, none⟩) s.n s.n) c.rd :: rG kC (.slice (some ⟨h5, 0, none⟩) t.n t.n) c.wr :: (rG kP (.slice (some ⟨b8, 0, none⟩) 1 1) [⟨tn, ⟨some ⟨g4, 0, none⟩, n, n⟩, tag⟩] :: (trX (.slice (some ⟨g4, 0, none⟩) n n) (mkQs 1 X4) [] ++ (rG kP (.slice (some ⟨b6, 0, none⟩) 1 1) [⟨pt, ⟨q6, N, cp6⟩, pg⟩] :: (trX (.slice q6 N cp6) X6 [] ++ [rG kLQ (.slice (some ⟨w.heap.size + 1, 0, none⟩) 1 1) [(c, s, t)], rG kLP (.slice (some ⟨w.heap.size, 0, none⟩) 1 1) [⟨tn, ⟨p, n, cap⟩, tag⟩]]))))) := (by have h := hS12a; simp only [clR, Sv.v, List.cons_append, List.append_assoc, List.nil_append] at h ⊢; exact h))
      | (go_at_call 25; refine (HMC.out _ E8 g5 h5 (rG kP (.slice (some ⟨b10, 0, none⟩) 1 1) [⟨pt, ⟨q7, N, cp7⟩, pg⟩] :: (trX (.slice q7 N cp7) X7 [] ++ [rG kQ (.slice (some ⟨b9, 0, none⟩) 1 1) [(c, ⟨some ⟨g5, 0, none⟩, s.n, s.n⟩, ⟨some ⟨h5, 0, none⟩, t.n, t.n⟩)]])) (rG kP (.slice (some ⟨b8, 0, none⟩) 1 1) [⟨tn, ⟨some ⟨g4, 0, none⟩, n, n⟩, tag⟩] :: (trX (.slice (some ⟨g4, 0, none⟩) n n) (mkQs 1 X4) [] ++ (rG kP (.slice (some ⟨b6, 0, none⟩) 1 1) [⟨pt, ⟨q6, N, cp6⟩, pg⟩] :: (trX (.slice q6 N cp6) X6 [] ++ [rG kLQ (.slice (some ⟨w.heap.size + 1, 0, none⟩) 1 1) [(c, s, t)], rG kLP (.slice (some ⟨w.heap.size, 0, none⟩) 1 1) [⟨tn, ⟨p, n, cap⟩, tag⟩]])))) e80 e81 hS12).mono ?_; rintro e w13 ⟨rfl, hS13⟩; clear m0 m1 m2 mf mg; obtain ⟨k0, k1, k2, kf, kg⟩ := hS13.three (K := kP) (g := b10) (n := 1) (p := ⟨pt, ⟨q7, N, cp7⟩, pg⟩) (by simp) rfl; obtain ⟨v0, v1, v2, vf, vg⟩ := hS13.three (K := kP) (g := b6) (n := 1) (p := ⟨pt, ⟨q6, N, cp6⟩, pg⟩) (by simp) rfl)
      | (go_at_call 23; refine (HEQ.out _ _ q7 q6 cp7 cp6 X7 X6 HX7 HX6 hS13 (fun r hr => by simp [hr]) (fun r hr => by simp [hr])).mono ?_; rintro e w14 ⟨rfl, hb14⟩; have hS14a := hS13.step hb14; clear k0 k1 k2 kf kg; clear v0 v1 v2 vf vg; obtain ⟨k0, k1, k2, kf, kg⟩ := hS14a.three (K := kP) (g := b10) (n := 1) (p := ⟨pt, ⟨q7, N, cp7⟩, pg⟩) (by simp) rfl; have hS14 : Sg w w14 ([rG kP (.slice (some ⟨b10, 0, none⟩) 1 1) [⟨pt, ⟨q7, N, cp7⟩, pg⟩]] ++ (trX (.slice q7 N cp7) X7 [] ++ (rG kQ (.slice (some ⟨b9, 0, none⟩) 1 1) [(c, ⟨some ⟨g5, 0, none⟩, s.n, s.n⟩, ⟨some ⟨h5, 0, none⟩, t.n, t.n⟩)] :: rG kC (.slice (some ⟨g5, 0, none⟩) s.n s.n) (mkC E8 s.n) :: rG kC (.slice (some ⟨h5, 0, none⟩) t.n t.n) (mkC (E8 + 3 * s.n) t.n) :: (rG kP (.slice (some ⟨b8, 0, none⟩) 1 1) [⟨tn, ⟨some ⟨g4, 0, none⟩, n, n⟩, tag⟩] :: (trX (.slice (some ⟨g4, 0, none⟩) n n) (mkQs 1 X4) [] ++ (rG kP (.slice (some ⟨b6, 0, none⟩) 1 1) [⟨pt, ⟨q6, N, cp6⟩, pg⟩] :: (trX (.slice q6 N cp6) X6 [] ++ [rG kLQ (.slice (some ⟨w.heap.size + 1, 0, none⟩) 1 1) [(c, s, t)], rG kLP (.slice (some ⟨w.heap.size, 0, none⟩) 1 1) [⟨tn, ⟨p, n, cap⟩, tag⟩]]))))))) := (by have h := hS14a; simp only [List.cons_append, List.append_assoc, List.nil_append] at h ⊢; exact h))
      | (go_at_call 26; refine (HMP7.out _ [rG kP (.slice (some ⟨b10, 0, none⟩) 1 1) [⟨pt, ⟨q7, N, cp7⟩, pg⟩]] (rG kQ (.slice (some ⟨b9, 0, none⟩) 1 1) [(c, ⟨some ⟨g5, 0, none⟩, s.n, s.n⟩, ⟨some ⟨h5, 0, none⟩, t.n, t.n⟩)] :: rG kC (.slice (some ⟨g5, 0, none⟩) s.n s.n) (mkC E8 s.n) :: rG kC (.slice (some ⟨h5, 0, none⟩) t.n t.n) (mkC (E8 + 3 * s.n) t.n) :: (rG kP (.slice (some ⟨b8, 0, none⟩) 1 1) [⟨tn, ⟨some ⟨g4, 0, none⟩, n, n⟩, tag⟩] :: (trX (.slice (some ⟨g4, 0, none⟩) n n) (mkQs 1 X4) [] ++ (rG kP (.slice (some ⟨b6, 0, none⟩) 1 1) [⟨pt, ⟨q6, N, cp6⟩, pg⟩] :: (trX (.slice q6 N cp6) X6 [] ++ [rG kLQ (.slice (some ⟨w.heap.size + 1, 0, none⟩) 1 1) [(c, s, t)], rG kLP (.slice (some ⟨w.heap.size, 0, none⟩) 1 1) [⟨tn, ⟨p, n, cap⟩, tag⟩]]))))) hS14).mono ?_; rintro e w15 ⟨rfl, hS15⟩; clear k0 k1 k2 kf kg; obtain ⟨k0, k1, k2, kf, kg⟩ := hS15.three (K := kP) (g := b10) (n := 1) (p := ⟨pt, ⟨q7, N, cp7⟩, pg⟩) (by simp) rfl)
      | (go_at_call 27; refine (HHP7.out _ _ hS15 (fun r hr => by simp [hr])).mono ?_; rintro e w16 ⟨rfl, hb16⟩; have hS16 := hS15.step hb16; clear k0 k1 k2 kf kg))
    clear hS11 hS11b hS12 hS12a hS13 hS14 hS14a hS15 hb14 hb16 HMX4 HMC HMP7
    have mB2 : rG kLP (.slice (some ⟨w.heap.size, 0, none⟩) 1 1) [⟨tn, ⟨p, n, cap⟩, tag⟩] ∈ [rG kP (.slice (some ⟨b10, 0, none⟩) 1 1) [⟨pt, ⟨q7, N, cp7⟩, pg⟩]] ++ (trX (.slice q7 N cp7) (mkQs 1 X7) [] ++ (rG kQ (.slice (some ⟨b9, 0, none⟩) 1 1) [(c, ⟨some ⟨g5, 0, none⟩, s.n, s.n⟩, ⟨some ⟨h5, 0, none⟩, t.n, t.n⟩)] :: rG kC (.slice (some ⟨g5, 0, none⟩) s.n s.n) (mkC E8 s.n) :: rG kC (.slice (some ⟨h5, 0, none⟩) t.n t.n) (mkC (E8 + 3 * s.n) t.n) :: (rG kP (.slice (some ⟨b8, 0, none⟩) 1 1) [⟨tn, ⟨some ⟨g4, 0, none⟩, n, n⟩, tag⟩] :: (trX (.slice (some ⟨g4, 0, none⟩) n n) (mkQs 1 X4) [] ++ (rG kP (.slice (some ⟨b6, 0, none⟩) 1 1) [⟨pt, ⟨q6, N, cp6⟩, pg⟩] :: (trX (.slice q6 N cp6) X6 [] ++ [rG kLQ (.slice (some ⟨w.heap.size + 1, 0, none⟩) 1 1) [(c, s, t)], rG kLP (.slice (some ⟨w.heap.size, 0, none⟩) 1 1) [⟨tn, ⟨p, n, cap⟩, tag⟩]])))))) := by simp
    have mB3 : rG kLQ (.slice (some ⟨w.heap.size + 1, 0, none⟩) 1 1) [(c, s, t)] ∈ [rG kP (.slice (some ⟨b10, 0, none⟩) 1 1) [⟨pt, ⟨q7, N, cp7⟩, pg⟩]] ++ (trX (.slice q7 N cp7) (mkQs 1 X7) [] ++ (rG kQ (.slice (some ⟨b9, 0, none⟩) 1 1) [(c, ⟨some ⟨g5, 0, none⟩, s.n, s.n⟩, ⟨some ⟨h5, 0, none⟩, t.n, t.n⟩)] :: rG kC (.slice (some ⟨g5, 0, none⟩) s.n s.n) (mkC E8 s.n) :: rG kC (.slice (some ⟨h5, 0, none⟩) t.n t.n) (mkC (E8 + 3 * s.n) t.n) :: (rG kP (.slice (some ⟨b8, 0, none⟩) 1 1) [⟨tn, ⟨some ⟨g4, 0, none⟩, n, n⟩, tag⟩] :: (trX (.slice (some ⟨g4, 0, none⟩) n n) (mkQs 1 X4) [] ++ (rG kP (.slice (some ⟨b6, 0, none⟩) 1 1) [⟨pt, ⟨q6, N, cp6⟩, pg⟩] :: (trX (.slice q6 N cp6) X6 [] ++ [rG kLQ (.slice (some ⟨w.heap.size + 1, 0, none⟩) 1 1) [(c, s, t)], rG kLP (.slice (some ⟨w.heap.size, 0, none⟩) 1 1) [⟨tn, ⟨p, n, cap⟩, tag⟩]])))))) := by simp
    have mB6 : rG kP (.slice (some ⟨b6, 0, none⟩) 1 1) [⟨pt, ⟨q6, N, cp6⟩, pg⟩] ∈ [rG kP (.slice (some ⟨b10, 0, none⟩) 1 1) [⟨pt, ⟨q7, N, cp7⟩, pg⟩]] ++ (trX (.slice q7 N cp7) (mkQs 1 X7) [] ++ (rG kQ (.slice (some ⟨b9, 0, none⟩) 1 1) [(c, ⟨some ⟨g5, 0, none⟩, s.n, s.n⟩, ⟨some ⟨h5, 0, none⟩, t.n, t.n⟩)] :: rG kC (.slice (some ⟨g5, 0, none⟩) s.n s.n) (mkC E8 s.n) :: rG kC (.slice (some ⟨h5, 0, none⟩) t.n t.n) (mkC (E8 + 3 * s.n) t.n) :: (rG kP (.slice (some ⟨b8, 0, none⟩) 1 1) [⟨tn, ⟨some ⟨g4, 0, none⟩, n, n⟩, tag⟩] :: (trX (.slice (some ⟨g4, 0, none⟩) n n) (mkQs 1 X4) [] ++ (rG kP (.slice (some ⟨b6, 0, none⟩) 1 1) [⟨pt, ⟨q6, N, cp6⟩, pg⟩] :: (trX (.slice q6 N cp6) X6 [] ++ [rG kLQ (.slice (some ⟨w.heap.size + 1, 0, none⟩) 1 1) [(c, s, t)], rG kLP (.slice (some ⟨w.heap.size, 0, none⟩) 1 1) [⟨tn, ⟨p, n, cap⟩, tag⟩]])))))) := by simp
    have mB10 : rG kP (.slice (some ⟨b10, 0, none⟩) 1 1) [⟨pt, ⟨q7, N, cp7⟩, pg⟩] ∈ [rG kP (.slice (some ⟨b10, 0, none⟩) 1 1) [⟨pt, ⟨q7, N, cp7⟩, pg⟩]] ++ (trX (.slice q7 N cp7) (mkQs 1 X7) [] ++ (rG kQ (.slice (some ⟨b9, 0, none⟩) 1 1) [(c, ⟨some ⟨g5, 0, none⟩, s.n, s.n⟩, ⟨some ⟨h5, 0, none⟩, t.n, t.n⟩)] :: rG kC (.slice (some ⟨g5, 0, none⟩) s.n s.n) (mkC E8 s.n) :: rG kC (.slice (some ⟨h5, 0, none⟩) t.n t.n) (mkC (E8 + 3 * s.n) t.n) :: (rG kP (.slice (some ⟨b8, 0, none⟩) 1 1) [⟨tn, ⟨some ⟨g4, 0, none⟩, n, n⟩, tag⟩] :: (trX (.slice (some ⟨g4, 0, none⟩) n n) (mkQs 1 X4) [] ++ (rG kP (.slice (some ⟨b6, 0, none⟩) 1 1) [⟨pt, ⟨q6, N, cp6⟩, pg⟩] :: (trX (.slice q6 N cp6) X6 [] ++ [rG kLQ (.slice (some ⟨w.heap.size + 1, 0, none⟩) 1 1) [(c, s, t)], rG kLP (.slice (some ⟨w.heap.size, 0, none⟩) 1 1) [⟨tn, ⟨p, n, cap⟩, tag⟩]])))))) := by simp
    have mPN : ∀ r ∈ trX (.slice q6 N cp6) X6 [], r ∈ [rG kP (.slice (some ⟨b10, 0, none⟩) 1 1) [⟨pt, ⟨q7, N, cp7⟩, pg⟩]] ++ (trX (.slice q7 N cp7) (mkQs 1 X7) [] ++ (rG kQ (.slice (some ⟨b9, 0, none⟩) 1 1) [(c, ⟨some ⟨g5, 0, none⟩, s.n, s.n⟩, ⟨some ⟨h5, 0, none⟩, t.n, t.n⟩)] :: rG kC (.slice (some ⟨g5, 0, none⟩) s.n s.n) (mkC E8 s.n) :: rG kC (.slice (some ⟨h5, 0, none⟩) t.n t.n) (mkC (E8 + 3 * s.n) t.n) :: (rG kP (.slice (some ⟨b8, 0, none⟩) 1 1) [⟨tn, ⟨some ⟨g4, 0, none⟩, n, n⟩, tag⟩] :: (trX (.slice (some ⟨g4, 0, none⟩) n n) (mkQs 1 X4) [] ++ (rG kP (.slice (some ⟨b6, 0, none⟩) 1 1) [⟨pt, ⟨q6, N, cp6⟩, pg⟩] :: (trX (.slice q6 N cp6) X6 [] ++ [rG kLQ (.slice (some ⟨w.heap.size + 1, 0, none⟩) 1 1) [(c, s, t)], rG kLP (.slice (some ⟨w.heap.size, 0, none⟩) 1 1) [⟨tn, ⟨p, n, cap⟩, tag⟩]])))))) := fun r hr => by simp [hr]
    have mMX : ∀ r ∈ trX (.slice q7 N cp7) (mkQs 1 X7) [], r ∈ [rG kP (.slice (some ⟨b10, 0, none⟩) 1 1) [⟨pt, ⟨q7, N, cp7⟩, pg⟩]] ++ (trX (.slice q7 N cp7) (mkQs 1 X7) [] ++ (rG kQ (.slice (some ⟨b9, 0, none⟩) 1 1) [(c, ⟨some ⟨g5, 0, none⟩, s.n, s.n⟩, ⟨some ⟨h5, 0, none⟩, t.n, t.n⟩)] :: rG kC (.slice (some ⟨g5, 0, none⟩) s.n s.n) (mkC E8 s.n) :: rG kC (.slice (some ⟨h5, 0, none⟩) t.n t.n) (mkC (E8 + 3 * s.n) t.n) :: (rG kP (.slice (some ⟨b8, 0, none⟩) 1 1) [⟨tn, ⟨some ⟨g4, 0, none⟩, n, n⟩, tag⟩] :: (trX (.slice (some ⟨g4, 0, none⟩) n n) (mkQs 1 X4) [] ++ (rG kP (.slice (some ⟨b6, 0, none⟩) 1 1) [⟨pt, ⟨q6, N, cp6⟩, pg⟩] :: (trX (.slice q6 N cp6) X6 [] ++ [rG kLQ (.slice (some ⟨w.heap.size + 1, 0, none⟩) 1 1) [(c, s, t)], rG kLP (.slice (some ⟨w.heap.size, 0, none⟩) 1 1) [⟨tn, ⟨p, n, cap⟩, tag⟩]])))))) := fun r hr => by simp [hr]
    generalize [rG kP (.slice (some ⟨b10, 0, none⟩) 1 1) [⟨pt, ⟨q7, N, cp7⟩, pg⟩]] ++ (trX (.slice q7 N cp7) (mkQs 1 X7) [] ++ (rG kQ (.slice (some ⟨b9, 0, none⟩) 1 1) [(c, ⟨some ⟨g5, 0, none⟩, s.n, s.n⟩, ⟨some ⟨h5, 0, none⟩, t.n, t.n⟩)] :: rG kC (.slice (some ⟨g5, 0, none⟩) s.n s.n) (mkC E8 s.n) :: rG kC (.slice (some ⟨h5, 0, none⟩) t.n t.n) (mkC (E8 + 3 * s.n) t.n) :: (rG kP (.slice (some ⟨b8, 0, none⟩) 1 1) [⟨tn, ⟨some ⟨g4, 0, none⟩, n, n⟩, tag⟩] :: (trX (.slice (some ⟨g4, 0, none⟩) n n) (mkQs 1 X4) [] ++ (rG kP (.slice (some ⟨b6, 0, none⟩) 1 1) [⟨pt, ⟨q6, N, cp6⟩, pg⟩] :: (trX (.slice q6 N cp6) X6 [] ++ [rG kLQ (.slice (some ⟨w.heap.size + 1, 0, none⟩) 1 1) [(c, s, t)], rG kLP (.slice (some ⟨w.heap.size, 0, none⟩) 1 1) [⟨tn, ⟨p, n, cap⟩, tag⟩]])))))) = TL at hS16 mB2 mB3 mB6 mB10 mPN mMX
    go_cut [15, 16] from 17 (fun v15 v16 wx => ∃ (b15 : Nat) (q : Option Addr) (cp : Nat) (X : List CQ), v15 = .pointer (some ⟨b15, 0, none⟩) ∧ v16 = .bool b ∧ Hid (cls X = cs ∧ sm6 X ∧ X.length = N) ∧ Sg w wx (rG kP (.slice (some ⟨b15, 0, none⟩) 1 1) [⟨pt, ⟨q, N, cp⟩, pg⟩] :: (trX (.slice q N cp) X [] ++ TL)))
    case first =>
      have hrow := hS16
      go_region_held3 (fun w' => w'.cell? ⟨w.heap.size, 0, none⟩ = some (.int .i64 tn) ∧ w'.cell? ⟨w.heap.size, 1, none⟩ = some (.slice p n cap) ∧ w'.cell? ⟨w.heap.size, 2, none⟩ = some (.int .i64 tag) ∧ w'.cell? ⟨w.heap.size + 1, 0, none⟩ = some (.slice s.p s.n s.c) ∧ w'.cell? ⟨w.heap.size + 1, 1, none⟩ = some (.slice t.p t.n t.c) ∧ w'.cell? ⟨w.heap.size + 1, 2, none⟩ = some (.int .i64 c.un))
        (first
          | assumption
          | with_reducible exact HK.out _ _ hrow (by simp [mB2]) (by simp [mB3])
          | with_reducible exact HK.out _ _ hrow.dr (by simp [mB2]) (by simp [mB3])
          | with_reducible exact HK.out _ _ (hrow.al _) (by simp [mB2]) (by simp [mB3])
          | with_reducible exact HK.out _ _ (hrow.al _).dr (by simp [mB2]) (by simp [mB3])
          | with_reducible exact HK.out _ _ hS7 (by simp [mB2]) (by simp [mB3]))
        (first
          | (go_at_call 29; refine (HTP.out _ (by first | with_reducible exact hrow.bel | with_reducible exact hrow.dr.bel | with_reducible exact hrow.litZ.bel | with_reducible exact hrow.litZ.dr.bel)).mono ?_; rintro e w17 ⟨g17, X17, rfl, HX17, hw17⟩; (first | with_reducible (replace hrow := hrow.addL hw17) | with_reducible (replace hrow := hrow.dr.addL hw17) | with_reducible (replace hrow := hrow.litZ.addL hw17) | with_reducible (replace hrow := hrow.litZ.dr.addL hw17)))
          | (go_at_call 22; refine (HTC.out _ (by first | with_reducible exact hrow.bel | with_reducible exact hrow.litZ.bel)).mono ?_; rintro e w18 ⟨g18, h18, rfl, hw18⟩; (first | with_reducible (replace hrow := hrow.addL hw18) | with_reducible (replace hrow := hrow.litZ.addL hw18)))
          | (go_at_call 8; (first | refine (HIN.out _ _ g17 X17 g18 h18 HX17 hrow (fun r hr => by simp [hr]) (fun r hr => by simp [hr])).mono ?_ | refine (HIN.out _ _ g17 X17 g18 h18 HX17 hrow.litZ (fun r hr => by simp [hr]) (fun r hr => by simp [hr])).mono ?_); rintro e w19 ⟨q19, cp19, X19, rfl, HX19, hw19⟩; (first | with_reducible (replace hrow := hrow.addL hw19) | with_reducible (replace hrow := hrow.litZ.addL hw19)); (first
              | (obtain ⟨v0, v1, v2, vf, vg⟩ := hrow.three (K := kP) (g := w16.heap.size) (n := 1) (p := zpv) (by simp) rfl; have hS7 := Sg.setP (A := trX (.slice q19 N cp19) X19 [] ++ (clR c ⟨some ⟨g18, 0, none⟩, s.n, s.n⟩ ⟨some ⟨h18, 0, none⟩, t.n, t.n⟩ ++ trX (.slice (some ⟨g17, 0, none⟩) n n) X17 [])) (g := w16.heap.size) (n := 1) (a := zpv) (by simpa [List.append_assoc] using hrow) ⟨pt, ⟨q19, N, cp19⟩, pg⟩)
              | (obtain ⟨v0, v1, v2, vf, vg⟩ := hrow.three (K := kP) (g := w17.heap.size) (n := 1) (p := zpv) (by simp) rfl; have hS7 := Sg.setP (A := trX (.slice q19 N cp19) X19 [] ++ clR c ⟨some ⟨g18, 0, none⟩, s.n, s.n⟩ ⟨some ⟨h18, 0, none⟩, t.n, t.n⟩) (g := w17.heap.size) (n := 1) (a := zpv) (by simpa [List.append_assoc] using hrow) ⟨pt, ⟨q19, N, cp19⟩, pg⟩)
              | (obtain ⟨v0, v1, v2, vf, vg⟩ := hrow.three (K := kP) (g := w18.heap.size) (n := 1) (p := zpv) (by simp) rfl; have hS7 := Sg.setP (A := trX (.slice q19 N cp19) X19 []) (g := w18.heap.size) (n := 1) (a := zpv) hrow ⟨pt, ⟨q19, N, cp19⟩, pg⟩)
              | skip)))
      all_goals go_wp2
      all_goals go_meet
      all_goals first
        | (refine ⟨w19.heap.size, q19, cp19, X19, rfl, rfl, HX19, ?_⟩; have h9 := (hrow.lit kP [⟨pt, ⟨q19, N, cp19⟩, pg⟩] 1 rfl (by decide) #[.int .i64 pt, .slice q19 N cp19, .int .i64 pg] rfl); change Sg w (w19.alloc (.cells #[.int .i64 pt, .slice q19 N cp19, .int .i64 pg] 26)) _ at h9; with_reducible exact h9.sub (pick_b _ _ _ _ _))
        | (refine ⟨w16.heap.size, q19, cp19, X19, rfl, rfl, HX19, ?_⟩; with_reducible exact (hS7.perm List.perm_middle).sub (pick_a _ _ _ _ _))
        | (refine ⟨w17.heap.size, q19, cp19, X19, rfl, rfl, HX19, ?_⟩; with_reducible exact (hS7.perm List.perm_middle).sub (pick_c _ _ _ _ _))
        | (refine ⟨w18.heap.size, q19, cp19, X19, rfl, rfl, HX19, ?_⟩; with_reducible exact (hS7.perm List.perm_middle).sub (pick_b _ _ _ _ _))
    case rest =>
      obtain ⟨b15, q15, cp15, X15, rfl, rfl, HX15, hS20⟩ := hcut
      obtain ⟨z0, z1, z2, zf, zg⟩ := hS20.three (K := kP) (g := b15) (n := 1) (p := ⟨pt, ⟨q15, N, cp15⟩, pg⟩) (by simp) rfl
      obtain ⟨v0, v1, v2, vf, vg⟩ := hS20.three (K := kP) (g := b6) (n := 1) (p := ⟨pt, ⟨q6, N, cp6⟩, pg⟩) (by simp [mB6]) rfl
      go_wp2_with (first
        | (go_at_call 23; refine (HEQ.out _ _ q15 q6 cp15 cp6 X15 X6 HX15 HX6 hS20 (fun r hr => by simp [hr]) (fun r hr => by simp [mPN r hr])).mono ?_; rintro e w21 ⟨rfl, hb21⟩; have hS21 := hS20.step hb21; clear z0 z1 z2 zf zg; clear v0 v1 v2 vf vg; obtain ⟨k0, k1, k2, kf, kg⟩ := hS21.three (K := kP) (g := b10) (n := 1) (p := ⟨pt, ⟨q7, N, cp7⟩, pg⟩) (by simp [mB10]) rfl)
        | (go_at_call 27; refine (HHP7.out _ _ hS21 (fun r hr => by simp [mMX r hr])).mono ?_; rintro e w22 ⟨rfl, hb22⟩; have hS22 := hS21.step hb22))
      go_ret
      exact ⟨rfl, hS22.bel⟩
end Go.Proofs.YtachodaecpnhbaaGreatDoor
