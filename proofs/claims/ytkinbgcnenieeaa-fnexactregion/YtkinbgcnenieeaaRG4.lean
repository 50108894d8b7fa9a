/-
  The law of Region, walked.
-/
import Derived.Test.YtkinbgcnenieeaaRG3
import Derived.Test.YtkinbgcnenieeaaL1
namespace Go.Proofs.Ytkinbgcnenieeaa
open Go.Shelf Go.RowKit Go.Joins M
attribute [local go_sem] Oper.semAt_some

theorem rgP_len (tn : Int) (L : List Cl) (tag : Int) (b : Bool) : (rgP tn L tag b).length ≤ 65536 := by
  unfold rgP
  cases ppB tn L tag
  · exact Nat.zero_le _
  · exact dec_len _ 8 _
/-- What is known of a Paper's lists that were made. -/
def XOk (QL X : List CQ) (n : Nat) : Prop := cls X = cls QL ∧ smQ X ∧ szT X = szT QL ∧ X.length = n
set_option maxRecDepth 100000 in
set_option maxHeartbeats 8000000 in
theorem exactRegion (tn tag : Int) (b : Bool) (p : Option Addr) (n cap : Nat) (QL : List CQ) (hn : QL.length = n) (hm : n ≤ maxLen) (hp : ∀ q ∈ QL, q.2.1.n ≤ maxLen ∧ q.2.2.n ≤ maxLen) (w : World) (hR : RdLS w p QL) :
    Calls Try.prog 4 #[.agg #[.int .i64 tn, .slice p n cap, .int .i64 tag], .bool b] w fun e w' => e = .returned (.bool true) ∧ Below w.heap.size w w' := by
  have hS0 := (Sg.nil w).lit kLP [⟨tn, ⟨p, n, cap⟩, tag⟩] 1 rfl (by decide) #[.int .i64 tn, .slice p n cap, .int .i64 tag] rfl
  change Sg w (w.alloc (.cells #[.int .i64 tn, .slice p n cap, .int .i64 tag] 24)) _ at hS0
  have HZ := szPaper_sum p n cap tn tag QL hn hm 1048576 (by omega) (by omega) (w.alloc (.cells #[.int .i64 tn, .slice p n cap, .int .i64 tag] 24)) (hR.1.step hS0.bel) hp
  have HH : Hid (RdLS w p QL ∧ QL.length = n) := ⟨hR, hn⟩
  clear hR hn hm hp
  go_enter Try.func4, Try.ntmps4
  go_upto_region 3 with (go_at_call 5; refine HZ.mono ?_; rintro e w1 ⟨r, rfl, hr, hb1⟩; have hS1 := hS0.step hb1)
  by_cases hneg : r < 0
  · go_wp2
    go_ret
    exact ⟨rfl, hS1.bel⟩
  have hr2 : 0 ≤ r ∧ r + n + szT QL = 1048576 := by
    rcases hr with hr | hr
    · omega
    · exact hr
  clear hr
  have hnb : n ≤ 10000000 := by omega
  have HTP : Hid (∀ W, Below w.heap.size w W → Calls Try.prog 7 #[.agg #[.int .i64 tn, .slice p n cap, .int .i64 tag]] W fun e w' => ∃ g X, e = .returned (.agg #[.int .i64 tn, .slice (some ⟨g, 0, none⟩) n n, .int .i64 tag]) ∧ Hid (XOk QL X n) ∧ Sg W w' (trX (.slice (some ⟨g, 0, none⟩) n n) X [])) := fun W h => by
    have hlen : ∀ q ∈ QL, q.1.rd.length = q.2.1.n ∧ q.1.wr.length = q.2.2.n := fun q hq => ⟨(HH.out.1.2 q hq).n1, (HH.out.1.2 q hq).n2⟩
    refine (toPaper_any p n cap tn tag QL HH.out.2 (by omega) (fun q hq => by have := szT_mem hq; omega) W (HH.out.1.step h)).mono ?_
    rintro e w' ⟨g, X, he, hx, hsx, hS⟩
    have hrd := hS.rdS hsx (fun r hr => hr)
    have hsz : szT X = szT QL := by rw [szT_cls fun q hq => ⟨(hrd.2 q hq).n1, (hrd.2 q hq).n2⟩, szT_cls hlen, hx]
    exact ⟨g, X, he, ⟨hx, hsx, hsz, by have := congrArg List.length hx; rw [cls_len, cls_len, HH.out.2] at this; exact this⟩, hS⟩
  obtain ⟨M, hM⟩ : ∃ M, rgP tn (cls QL) tag b = M := ⟨_, rfl⟩
  have hN2 := rgP_len tn (cls QL) tag b
  rw [hM] at hN2
  obtain ⟨N, hN⟩ : ∃ N, M.length = N := ⟨_, rfl⟩
  rw [hN] at hN2
  have H11 : Hid (∀ W rs g X, Sg w W rs → Hid (XOk QL X n) → (∀ r ∈ trX (.slice (some ⟨g, 0, none⟩) n n) X [], r ∈ rs) → Calls Try.prog 11 #[.agg #[.int .i64 tn, .slice (some ⟨g, 0, none⟩) n n, .int .i64 tag], .bool b] W fun e w' => ∃ q cp, e = .returned (.slice q N cp) ∧ Sg W w' [rG kC (.slice q N cp) M]) := fun W rs g X hS hX hm => (sRegion_any tn tag b (some ⟨g, 0, none⟩) n n X hX.out.2.2.2 hnb W (hS.rdS (n := n) (c := n) hX.out.2.1 hm)).mono (by
    rw [hX.out.1, hM]
    rintro e w' ⟨q, k, cp, he, hk, h⟩
    rw [hN] at hk; subst hk
    exact ⟨q, cp, he, h⟩)
  have H12 : Hid (∀ W rs g X, Sg w W rs → Hid (XOk QL X n) → (∀ r ∈ trX (.slice (some ⟨g, 0, none⟩) n n) X [], r ∈ rs) → Calls Try.prog 12 #[.agg #[.int .i64 tn, .slice (some ⟨g, 0, none⟩) n n, .int .i64 tag], .bool b] W fun e w' => ∃ q cp, e = .returned (.slice q N cp) ∧ Sg W w' [rG kC (.slice q N cp) M]) := fun W rs g X hS hX hm => (iRegion_any tn tag b (some ⟨g, 0, none⟩) n n X hX.out.2.2.2 hnb (hS.plQ hm) W (hS.rdS (n := n) (c := n) hX.out.2.1 hm)).mono (by
    rw [hX.out.1, hM]
    rintro e w' ⟨q, k, cp, he, hk, h⟩
    rw [hN] at hk; subst hk
    exact ⟨q, cp, he, h⟩)
  have H10 : Hid (∀ W rs g X g' X', Sg w W rs → Hid (XOk QL X n) → Hid (XOk QL X' n) → (∀ r ∈ trX (.slice (some ⟨g, 0, none⟩) n n) X [], r ∈ rs) → (∀ r ∈ trX (.slice (some ⟨g', 0, none⟩) n n) X' [], r ∈ rs) → Calls Try.prog 10 #[.agg #[.int .i64 tn, .slice (some ⟨g, 0, none⟩) n n, .int .i64 tag], .agg #[.int .i64 tn, .slice (some ⟨g', 0, none⟩) n n, .int .i64 tag]] W fun e w' => e = .returned (.bool true) ∧ Below W.heap.size W w') := fun W rs g X g' X' hS hX hX' hm hm' => eqPaper_same tn tag (some ⟨g, 0, none⟩) (some ⟨g', 0, none⟩) n n n X X' hX.out.2.2.2 (hX.out.1.trans hX'.out.1.symm) hnb W (hS.rdS (n := n) (c := n) hX.out.2.1 hm) (hS.rdS (n := n) (c := n) hX'.out.2.1 hm')
  have H13 : Hid (∀ W rs q cp q' cp', Sg w W rs → rG kC (.slice q N cp) M ∈ rs → rG kC (.slice q' N cp') M ∈ rs → Calls Try.prog 13 #[.slice q N cp, .slice q' N cp'] W fun e w' => e = .returned (.bool true) ∧ Below W.heap.size W w') := fun W rs q cp q' cp' hS m1 m2 => eqCellS_same q q' cp cp' M N hN W (OwG.sl (hS.mem m1)) (OwG.sl (hS.mem m2)) (by omega)
  have H14 : Hid (∀ W g X A Bs, Hid (XOk QL X n) → Sg w W (A ++ (trX (.slice (some ⟨g, 0, none⟩) n n) X [] ++ Bs)) → Calls Try.prog 14 #[.agg #[.int .i64 tn, .slice (some ⟨g, 0, none⟩) n n, .int .i64 tag], .int .i64 1] W fun e w' => e = .returned (.int .i64 (1 + 3 * (szT QL : Int) + n)) ∧ Sg w w' (A ++ (trX (.slice (some ⟨g, 0, none⟩) n n) (mkQs 1 X) [] ++ Bs))) := fun W g X A Bs hX hS => by
    have := markPaper_sum tn tag (some ⟨g, 0, none⟩) n n 1 X A Bs w W hS hX.out.2.2.2 (by rw [hX.out.2.2.1]; omega) (by omega) (by omega)
    rw [endQ_val, hX.out.2.2.1, hX.out.2.2.2] at this
    exact this
  have H15 : Hid (∀ W q cp A Bs, Sg w W (A ++ rG kC (.slice q N cp) M :: Bs) → Calls Try.prog 15 #[.slice q N cp, .int .i64 1] W fun e w' => e = .returned (.int .i64 (1 + 3 * (N : Int))) ∧ Sg w w' (A ++ rG kC (.slice q N cp) (mkC 1 N) :: Bs)) := fun W q cp A Bs hS => markCellS_any q N cp 1 M A Bs w W hS (by omega) (by omega) (by omega)
  have H16 : Hid (∀ W rs q cp, Sg w W rs → rG kC (.slice q N cp) (mkC 1 N) ∈ rs → Calls Try.prog 16 #[.slice q N cp, .int .i64 1] W fun e w' => e = .returned (.int .i64 (1 + 3 * (N : Int))) ∧ Below W.heap.size W w') := fun W rs q cp hS hm => (heldCellS_any q cp 1 N W (OwG.sl (hS.mem hm)) (by omega) (by omega) (by omega)).mono fun _ _ ⟨h1, h2⟩ => ⟨h1, by subst h2; exact Below.refl _ _⟩
  have hk0 : ¬ 1 + 3 * (szT QL : Int) + n < 0 := by omega
  have hk1 : ¬ 1 + 3 * (N : Int) < 0 := by omega
  have hk2 : (1 + 3 * (szT QL : Int) + n) ≤ 4000000 := by omega
  generalize 1 + 3 * (szT QL : Int) + n = E at H14 hk0 hk2
  clear hr2 HH hM hN hb1 hS0 HZ
  have f0 : True := trivial
  have f1 : True := trivial
  obtain ⟨x0, x1, x2, xf, xg⟩ := hS1.three (K := kLP) (g := w.heap.size) (n := 1) (p := ⟨tn, ⟨p, n, cap⟩, tag⟩) (by simp) rfl
  go_upto_region 10 with (first
    | (go_at_call 7; clear f0; refine (HTP.out _ hS1.bel).mono ?_; rintro e w2 ⟨g2, X2, rfl, hX2, hw2⟩; have hS2 := hS1.addL hw2)
    | (go_at_call 11; refine (H11.out _ _ g2 X2 hS2 hX2 (fun r hr => by simp [hr])).mono ?_; rintro e w3 ⟨q3, cp3, rfl, hw3⟩; have hS3 := hS2.addL hw3; clear x0 x1 x2 xf xg; obtain ⟨x0, x1, x2, xf, xg⟩ := hS3.three (K := kLP) (g := w.heap.size) (n := 1) (p := ⟨tn, ⟨p, n, cap⟩, tag⟩) (by simp) rfl)
    | (go_at_call 7; refine (HTP.out _ hS3.bel).mono ?_; rintro e w4 ⟨g4, X4, rfl, hX4, hw4⟩; have hS4a := hS3.addL hw4; have hS4 := hS4a.lit kP [⟨tn, ⟨some ⟨g4, 0, none⟩, n, n⟩, tag⟩] 1 rfl (by decide) #[.int .i64 tn, .slice (some ⟨g4, 0, none⟩) n n, .int .i64 tag] rfl; change Sg w (w4.alloc (.cells #[.int .i64 tn, .slice (some ⟨g4, 0, none⟩) n n, .int .i64 tag] 31)) _ at hS4)
    | (go_at_call 12; refine (H12.out _ _ g4 X4 hS4 hX4 (fun r hr => by simp [hr])).mono ?_; rintro e w5 ⟨q5, cp5, rfl, hw5⟩; have hS5 := hS4.addL hw5)
    | (go_at_call 13; refine (H13.out _ _ q5 cp5 q3 cp3 hS5 (by simp) (by simp)).mono ?_; rintro e w6 ⟨rfl, hb6⟩; have hrow := hS5.step hb6))
  clear hS1 hS2 hS3 hS4 hS4a hS5 hw2 hw3 hw4 hw5 hb6 x0 x1 x2 xf xg
  generalize w4.heap.size = b4 at *
  have HK : Hid (∀ w' rs, Sg w w' rs → rG kP (.slice (some ⟨b4, 0, none⟩) 1 1) [⟨tn, ⟨some ⟨g4, 0, none⟩, n, n⟩, tag⟩] ∈ rs → rG kLP (.slice (some ⟨w.heap.size, 0, none⟩) 1 1) [⟨tn, ⟨p, n, cap⟩, tag⟩] ∈ rs → (w'.cell? ⟨b4, 0, none⟩ = some (.int .i64 tn) ∧ w'.cell? ⟨b4, 1, none⟩ = some (.slice (some ⟨g4, 0, none⟩) n n) ∧ w'.cell? ⟨b4, 2, none⟩ = some (.int .i64 tag) ∧ w'.cell? ⟨w.heap.size, 0, none⟩ = some (.int .i64 tn) ∧ w'.cell? ⟨w.heap.size, 1, none⟩ = some (.slice p n cap) ∧ w'.cell? ⟨w.heap.size, 2, none⟩ = some (.int .i64 tag))) := fun w' rs h m1 m2 => by
    obtain ⟨y0, y1, y2, _, _⟩ := h.three (K := kP) (g := b4) (n := 1) (p := ⟨tn, ⟨some ⟨g4, 0, none⟩, n, n⟩, tag⟩) m1 rfl
    obtain ⟨z0, z1, z2, _, _⟩ := h.three (K := kLP) (g := w.heap.size) (n := 1) (p := ⟨tn, ⟨p, n, cap⟩, tag⟩) m2 rfl
    exact ⟨y0, y1, y2, z0, z1, z2⟩
  go_region_held3 (fun w' => w'.cell? ⟨b4, 0, none⟩ = some (.int .i64 tn) ∧ w'.cell? ⟨b4, 1, none⟩ = some (.slice (some ⟨g4, 0, none⟩) n n) ∧ w'.cell? ⟨b4, 2, none⟩ = some (.int .i64 tag) ∧ w'.cell? ⟨w.heap.size, 0, none⟩ = some (.int .i64 tn) ∧ w'.cell? ⟨w.heap.size, 1, none⟩ = some (.slice p n cap) ∧ w'.cell? ⟨w.heap.size, 2, none⟩ = some (.int .i64 tag))
    (first
      | assumption
      | with_reducible exact HK.out _ _ hrow (by simp) (by simp)
      | with_reducible exact HK.out _ _ hrow.dr (by simp) (by simp))
    (first
      | (go_at_call 7; refine (HTP.out _ (by first | with_reducible exact hrow.bel | with_reducible exact hrow.dr.bel)).mono ?_; rintro e w7 ⟨g7, X7, rfl, hX7, hw7⟩; (first | with_reducible (replace hrow := hrow.addL hw7) | with_reducible (replace hrow := hrow.dr.addL hw7)); clear hw7)
      | (go_at_call 10; refine (H10.out _ _ g4 X4 g7 X7 hrow hX4 hX7 (fun r hr => by simp [hr]) (fun r hr => by simp [hr])).mono ?_; rintro e w8 ⟨rfl, hb8⟩; replace hrow := hrow.step hb8; clear hb8))
  rename_i hHeld
  clear hHeld
  have hS8 : Sg w w8 (([rG kC (.slice q5 N cp5) M, rG kP (.slice (some ⟨b4, 0, none⟩) 1 1) [⟨tn, ⟨some ⟨g4, 0, none⟩, n, n⟩, tag⟩]]) ++ (trX (.slice (some ⟨g4, 0, none⟩) n n) X4 [] ++ [rG kC (.slice q3 N cp3) M, rG kLP (.slice (some ⟨w.heap.size, 0, none⟩) 1 1) [⟨tn, ⟨p, n, cap⟩, tag⟩]])) := by
    refine (hrow.sub (List.sublist_append_right _ _)).sub ?_
    simp only [List.cons_append, List.nil_append]
    refine .cons_cons _ (.cons_cons _ (List.Sublist.append (List.Sublist.refl _) (.cons_cons _ (List.sublist_append_right _ _))))
  clear hrow
  obtain ⟨y0, y1, y2, yf, yg⟩ := hS8.three (K := kP) (g := b4) (n := 1) (p := ⟨tn, ⟨some ⟨g4, 0, none⟩, n, n⟩, tag⟩) (by simp) rfl
  go_upto_region 20 with (first
    | (go_at_call 14; refine (H14.out _ g4 X4 [rG kC (.slice q5 N cp5) M, rG kP (.slice (some ⟨b4, 0, none⟩) 1 1) [⟨tn, ⟨some ⟨g4, 0, none⟩, n, n⟩, tag⟩]] [rG kC (.slice q3 N cp3) M, rG kLP (.slice (some ⟨w.heap.size, 0, none⟩) 1 1) [⟨tn, ⟨p, n, cap⟩, tag⟩]] hX4 hS8).mono ?_; rintro e w9 ⟨rfl, hS9⟩; clear y0 y1 y2 yf yg)
    | (go_at_call 13; refine (H13.out _ _ q5 cp5 q3 cp3 hS9 (by simp) (by simp)).mono ?_; rintro e w10 ⟨rfl, hb10⟩; have hS10 := hS9.step hb10)
    | (go_at_call 15; refine (H15.out _ q5 cp5 [] _ hS10).mono ?_; rintro e w11 ⟨rfl, hS11⟩)
    | (go_at_call 16; refine (H16.out _ _ q5 cp5 hS11 (by simp)).mono ?_; rintro e w12 ⟨rfl, hb12⟩; have hS12 := hS11.step hb12))
  clear hS8 hS9 hS10 hS11 hb10 hb12
  obtain ⟨x0, x1, x2, xf, xg⟩ := hS12.three (K := kLP) (g := w.heap.size) (n := 1) (p := ⟨tn, ⟨p, n, cap⟩, tag⟩) (by simp) rfl
  go_wp2_with (first
    | (go_at_call 7; refine (HTP.out _ hS12.bel).mono ?_; rintro e w13 ⟨g13, X13, rfl, hX13, hw13⟩; have hS13 := hS12.addL hw13)
    | (go_at_call 12; refine (H12.out _ _ g13 X13 hS13 hX13 (fun r hr => by simp [hr])).mono ?_; rintro e w14 ⟨q14, cp14, rfl, hw14⟩; have hS14 := hS13.addL hw14)
    | (go_at_call 13; refine (H13.out _ _ q14 cp14 q3 cp3 hS14 (by simp) (by simp)).mono ?_; rintro e w15 ⟨rfl, hb15⟩; have hS15 := hS14.step hb15)
    | (go_at_call 16; refine (H16.out _ _ q5 cp5 hS15 (by simp)).mono ?_; rintro e w16 ⟨rfl, hb16⟩; have hS16 := hS15.step hb16))
  go_ret
  exact ⟨rfl, hS16.bel⟩
end Go.Proofs.Ytkinbgcnenieeaa
