/-
  Papers: Narrowed, the program's.
-/
import Derived.Test.YtkinbgcnenieeaaGreatDoorN4
namespace Go.Proofs.YtkinbgcnenieeaaGreatDoor
open Go.Shelf Go.RowKit Go.Joins M
attribute [local go_sem] Oper.semAt_some

theorem nar_eq {tn tag : Int} {L : List Cl} {c : Cl} {n : Nat} (hn : L.length = n) : (ppB tn L tag && (decide (n < 6) && clB c)) = narB tn L tag c := by
  unfold narB
  cases hp : ppB tn L tag
  · rfl
  · obtain ⟨_, ⟨_, h2⟩, _, _⟩ := ppB_t hp
    rw [hn] at h2
    rw [hn]
    by_cases h : n < 6
    · rw [decide_eq_true h, decide_eq_true (show n ≠ 6 by omega)]; simp
    · rw [decide_eq_false h, decide_eq_false (show ¬ n ≠ 6 by omega)]; simp
set_option maxRecDepth 100000 in
set_option maxHeartbeats 8000000 in
theorem iNarrowed_any (tn tag : Int) (p : Option Addr) (cap n : Nat) (QL : List CQ) (hn : QL.length = n) (hb0 : n ≤ 10000000) (h6 : sm6 QL) (ho : okQ QL) (c : Cl) (s t : Sv) (h1 : s.n ≤ 1100000) (h2 : t.n ≤ 1100000) (o1 : okv s) (o2 : okv t) (w : World) (hR0 : RdS w p QL) (hQ0 : RdQ w c s t) (hT : TB w) :
    Calls Tryz.prog 6 #[.agg #[.int .i64 tn, .slice p n cap, .int .i64 tag], .agg #[.slice s.p s.n s.c, .slice t.p t.n t.c, .int .i64 c.un]] w (PapO w (narP tn (cls QL) tag c) (narB tn (cls QL) tag c)) := by
  have hS := (((Sg.nil w).lit kP [⟨tn, ⟨p, n, cap⟩, tag⟩] 1 rfl (by decide) #[.int .i64 tn, .slice p n cap, .int .i64 tag] rfl).lit kQ [(c, s, t)] 1 rfl (by decide) #[.slice s.p s.n s.c, .slice t.p t.n t.c, .int .i64 c.un] rfl).lit kP [zpv] 1 rfl (by decide) #[.int .i64 0, .slice none 0 0, .int .i64 0] rfl
  simp only [World.size_alloc] at hS
  change Sg w (((w.alloc (.cells #[.int .i64 tn, .slice p n cap, .int .i64 tag] 26)).alloc (.cells #[.slice s.p s.n s.c, .slice t.p t.n t.c, .int .i64 c.un] 29)).alloc (.cells #[.int .i64 0, .slice none 0 0, .int .i64 0] 26)) _ at hS
  have hcl : (cls QL).length = n := by rw [cls_len]; exact hn
  have hE := nar_eq (tn := tn) (tag := tag) (c := c) hcl
  have HEV : Hid (∀ W g, Below w.heap.size w W → g < W.heap.size → W.cell? ⟨g, 0, none⟩ = some (.func (Fn.func 25) #[.agg #[.slice p n cap, .int .i64 tn, .int .i64 tag]] #[]) → W.cell? ⟨g, 1, none⟩ = some (.func (Fn.func 26) #[.slice p n cap] #[]) → W.cell? ⟨g, 2, none⟩ = some (.func (Fn.func 27) #[.agg #[.slice s.p s.n s.c, .slice t.p t.n t.c, .int .i64 c.un]] #[]) → Calls Tryz.prog 24 #[.slice (some ⟨g, 0, none⟩) 3 3] W fun e w' => e = .returned (.bool (narB tn (cls QL) tag c)) ∧ Below W.heap.size W w') := fun W g hb hg a0 a1 a2 => every_3 hE hn hb0 g W hg a0 a1 a2 (hR0.step hb) (hQ0.step hb)
  cases hB : narB tn (cls QL) tag c
  · have HB : Hid (narP tn (cls QL) tag c = zpp) := narP_f hB
    rw [hB] at HEV
    clear hB hE hcl hR0 hQ0 hT h6 ho hn
    go_enter Tryz.func6, Tryz.ntmps6
    go_wp2_with (first
      | (go_at_call 23; refine (heldAs_any tn tag p n cap _).mono ?_; rintro e w1 ⟨rfl, hb1⟩; have hS1 := hS.step hb1; have hS2 := hS1.lit kW [⟨⟨p, n, cap⟩, tn, tag⟩] 1 rfl (by decide) #[.slice p n cap, .int .i64 tn, .int .i64 tag] rfl; change Sg w (w1.alloc (.cells #[.slice p n cap, .int .i64 tn, .int .i64 tag] 53)) _ at hS2; obtain ⟨u0, u1, u2, uf, ug⟩ := hS1.three (K := kQ) (g := w.heap.size + 1) (n := 1) (p := (c, s, t)) (by simp) rfl)
      | (go_at_call 24; refine (HEV.out _ (w1.heap.size + 1) (hS2.al _).bel ?_ ?_ ?_ ?_).mono ?_; (focus simp [World.size_alloc]); (focus simp [go_sem]); (focus simp [go_sem]); (focus simp [go_sem]); rintro e w3 ⟨rfl, hb3⟩; have hS3 := (hS2.al _).step hb3; clear u0 u1 u2 uf ug; obtain ⟨v0, v1, v2, vf, vg⟩ := hS3.three (K := kP) (g := w.heap.size + 1 + 1) (n := 1) (p := zpv) (by simp) rfl))
    have hS4 := Sg.setP (A := [_]) (g := w.heap.size + 1 + 1) (n := 1) (a := zpv) hS3 zpv
    refine bodyPost_ret (v := .tuple #[.agg #[.int .i64 0, .slice none 0 0, .int .i64 0], .bool false]) (by simp [results, Tryz.results6, go_sem, v0, v1, v2]) rfl ?_
    rw [HB.out]
    exact papO_zero hS4
  have hB2 := hB
  unfold narB at hB2
  rw [Bool.and_eq_true, Bool.and_eq_true, decide_eq_true_iff] at hB2
  obtain ⟨hp, hc, h66⟩ := hB2
  obtain ⟨_, ⟨hl1, hl2⟩, _, hin⟩ := ppB_t hp
  rw [hcl] at hl1 hl2 h66
  obtain ⟨ga, oa, rfl, hC⟩ := hR0.1.at (k := 0) (by omega)
  have HCS : Hid (CsG kQ w ga oa QL ∧ QL.length = n) := ⟨hC, hn⟩
  have ectx : ctx c = tx c := by unfold ctx; rw [if_pos hc]
  have HTX : Hid (∀ W, Below w.heap.size w W → Calls Tryz.prog 15 #[.agg #[.slice s.p s.n s.c, .slice t.p t.n t.c, .int .i64 c.un]] W fun e w' => e = .returned (.string (tx c)) ∧ Below W.heap.size W w') := fun W h => by
    have := iText_any W (hQ0.step h) (hT.step h); rw [ectx] at this; exact this
  have hsz : (tx c).size ≤ 200 := by have := tx_size hc; omega
  have HLN : Hid (∀ W, Calls Tryz.prog 29 #[.int .i64 tag, .string (tx c)] W fun e w' => e = .returned (.int .i64 (hsF tag (tx c))) ∧ Below W.heap.size W w') := fun W => by
    have := iLonger_any tag (tx c) W (by omega)
    unfold lnI at this; rw [if_pos hsz] at this
    unfold slI at this; rw [if_pos hin] at this
    exact this
  have HTD : Hid (∀ W g' cap' tag' rs, Sg w W rs → rG kQ (.slice (some ⟨g', 0, none⟩) (n + 1) cap') (QL ++ [(c, s, t)]) ∈ rs → Calls Tryz.prog 30 #[.agg #[.slice (some ⟨g', 0, none⟩) (n + 1) cap', .int .i64 tn, .int .i64 tag']] W fun e w' => ∃ q cp X, e = .returned (.agg #[.int .i64 tn, .slice q (n + 1) cp, .int .i64 tag']) ∧ Hid (cls X = cls QL ++ [c] ∧ sm6 X ∧ okQ X) ∧ Sg W w' (trX (.slice q (n + 1) cp) X [])) := fun W g' cap' tag' rs h hm => by
    refine (told_any tn tag' (some ⟨g', 0, none⟩) cap' (n + 1) (QL ++ [(c, s, t)]) (by rw [List.length_append, hn]; rfl) (by omega) ?_ ?_ W ⟨OwG.sl (h.mem (K := kQ) hm), ?_⟩).mono fun e w' ⟨q, cp, X, a1, a2, a3, a4, a5⟩ => ⟨q, cp, X, a1, ⟨by rw [a2]; simp [cls], a3, a4⟩, a5⟩
    · intro y hy
      rcases List.mem_append.mp hy with hy | hy
      · exact h6 y hy
      · simp at hy; subst hy; exact ⟨h1, h2⟩
    · intro y hy
      rcases List.mem_append.mp hy with hy | hy
      · exact ho y hy
      · simp at hy; subst hy; exact ⟨o1, o2⟩
    · intro y hy
      rcases List.mem_append.mp hy with hy | hy
      · exact (hR0.2 y hy).step h.bel
      · simp at hy; subst hy; exact hQ0.step h.bel
  have HB : Hid (narP tn (cls QL) tag c = ⟨tn, cls QL ++ [c], hsF tag (tx c)⟩ ∧ (cls QL).length = n) := ⟨narP_t hB, hcl⟩
  rw [hB] at HEV
  generalize tx c = T at HTX HLN HB
  obtain ⟨x9, hx9⟩ : ∃ x, hsF tag T = x := ⟨_, rfl⟩
  rw [hx9] at HB HLN
  clear hx9 hB hE hcl hR0 hQ0 hT h6 ho hn hC ectx hsz hin hp hc h66 h1 h2 o1 o2
  go_enter Tryz.func6, Tryz.ntmps6
  go_upto_region 5 with (first
    | (go_at_call 23; refine (heldAs_any tn tag (some ⟨ga, oa, none⟩) n cap _).mono ?_; rintro e w1 ⟨rfl, hb1⟩; have hS1 := hS.step hb1; have hS2 := hS1.lit kW [⟨⟨(some ⟨ga, oa, none⟩), n, cap⟩, tn, tag⟩] 1 rfl (by decide) #[.slice (some ⟨ga, oa, none⟩) n cap, .int .i64 tn, .int .i64 tag] rfl; change Sg w (w1.alloc (.cells #[.slice (some ⟨ga, oa, none⟩) n cap, .int .i64 tn, .int .i64 tag] 53)) _ at hS2; obtain ⟨u0, u1, u2, uf, ug⟩ := hS1.three (K := kQ) (g := w.heap.size + 1) (n := 1) (p := (c, s, t)) (by simp) rfl)
    | (go_at_call 24; refine (HEV.out _ (w1.heap.size + 1) (hS2.al _).bel ?_ ?_ ?_ ?_).mono ?_; (focus simp [World.size_alloc]); (focus simp [go_sem]); (focus simp [go_sem]); (focus simp [go_sem]); rintro e w3 ⟨rfl, hb3⟩; have hS3 := (hS2.al _).step hb3; clear u0 u1 u2 uf ug; obtain ⟨u0, u1, u2, uf, ug⟩ := hS3.three (K := kQ) (g := w.heap.size + 1) (n := 1) (p := (c, s, t)) (by simp) rfl; obtain ⟨m0, m1, m2, mf, mg⟩ := hS3.three (K := kW) (g := w1.heap.size) (n := 1) (p := ⟨⟨(some ⟨ga, oa, none⟩), n, cap⟩, tn, tag⟩) (by simp) rfl; have hS4 := hS3.lit kQ [(c, s, t)] 1 rfl (by decide) #[.slice s.p s.n s.c, .slice t.p t.n t.c, .int .i64 c.un] rfl; change Sg w (w3.alloc (.cells #[.slice s.p s.n s.c, .slice t.p t.n t.c, .int .i64 c.un] 29)) _ at hS4)
    | (go_at_call 28; refine (concat_any _ ga oa cap w3.heap.size n QL (c, s, t) _ ?_ ?_ ?_ HCS.out.2 (HCS.out.1.step (hS4.al _).bel) (OwG.cs ((hS4.al _).mem (K := kQ) (v := .slice (some ⟨w3.heap.size, 0, none⟩) 1 1) (L := [(c, s, t)]) (by simp))) hl1 (by omega)).mono ?_; (focus simp [go_sem]); (focus simp [go_sem]); (focus simp [World.size_alloc]); rintro e w5 ⟨g', cap', rfl, hw5⟩; have hS5 := (hS4.al _).addL hw5; clear u0 u1 u2 uf ug; clear m0 m1 m2 mf mg; obtain ⟨m0, m1, m2, mf, mg⟩ := hS5.three (K := kW) (g := w1.heap.size) (n := 1) (p := ⟨⟨(some ⟨ga, oa, none⟩), n, cap⟩, tn, tag⟩) (by simp) rfl))
  have hS6 : Sg w (w5.setCell ⟨w1.heap.size, 0, none⟩ (.slice (some ⟨g', 0, none⟩) (n + 1) cap')) ([rG kQ (.slice (some ⟨g', 0, none⟩) (n + 1) cap') (QL ++ [(c, s, t)]), rG kQ (.slice (some ⟨w3.heap.size, 0, none⟩) 1 1) [(c, s, t)]] ++ rG kW (.slice (some ⟨w1.heap.size, 0, none⟩) 1 1) [⟨⟨some ⟨g', 0, none⟩, n + 1, cap'⟩, tn, tag⟩] :: [rG kP (.slice (some ⟨w.heap.size + 1 + 1, 0, none⟩) 1 1) [zpv], rG kQ (.slice (some ⟨w.heap.size + 1, 0, none⟩) 1 1) [(c, s, t)], rG kP (.slice (some ⟨w.heap.size, 0, none⟩) 1 1) [⟨tn, ⟨(some ⟨ga, oa, none⟩), n, cap⟩, tag⟩]]) := Sg.setRaw (A := [_, _]) hS5 0 (.slice (some ⟨g', 0, none⟩) (n + 1) cap')
  have hrow := hS6
  clear m0 m1 m2 mf mg
  clear hS hS1 hS2 hS3 hS4 hS5 hS6 hw5 hb1 hb3 HEV HCS
  generalize w5.setCell ⟨w1.heap.size, 0, none⟩ (.slice (some ⟨g', 0, none⟩) (n + 1) cap') = W5 at hrow ⊢
  generalize w1.heap.size = b6 at *
  generalize w3.heap.size = b7 at *
  obtain ⟨u0, u1, u2, uf, ug⟩ := hrow.three (K := kQ) (g := w.heap.size + 1) (n := 1) (p := (c, s, t)) (by simp) rfl
  obtain ⟨m0, m1, m2, mf, mg⟩ := hrow.three (K := kW) (g := b6) (n := 1) (p := ⟨⟨some ⟨g', 0, none⟩, n + 1, cap'⟩, tn, tag⟩) (by simp) rfl
  go_region_with (first
    | (go_at_call 15; refine (HTX.out _ (by first | with_reducible exact hrow.bel | with_reducible exact hrow.dr.bel)).mono ?_; rintro e w7 ⟨rfl, hb7⟩; (first | with_reducible (replace hrow := hrow.step hb7) | with_reducible (replace hrow := hrow.dr.step hb7)); clear u0 u1 u2 uf ug; clear m0 m1 m2 mf mg; obtain ⟨m0, m1, m2, mf, mg⟩ := hrow.three (K := kW) (g := b6) (n := 1) (p := ⟨⟨some ⟨g', 0, none⟩, n + 1, cap'⟩, tn, tag⟩) (by simp) rfl)
    | (go_at_call 29; refine (HLN.out _).mono ?_; rintro e w8 ⟨rfl, hb8⟩; replace hrow := hrow.step hb8; clear m0 m1 m2 mf mg; obtain ⟨m0, m1, m2, mf, mg⟩ := hrow.three (K := kW) (g := b6) (n := 1) (p := ⟨⟨some ⟨g', 0, none⟩, n + 1, cap'⟩, tn, tag⟩) (by simp) rfl))
  all_goals
    have hS9 : Sg w (w8.setCell ⟨b6, 2, none⟩ (.int .i64 x9)) ([rG kQ (.slice (some ⟨g', 0, none⟩) (n + 1) cap') (QL ++ [(c, s, t)]), rG kQ (.slice (some ⟨b7, 0, none⟩) 1 1) [(c, s, t)]] ++ rG kW (.slice (some ⟨b6, 0, none⟩) 1 1) [⟨⟨some ⟨g', 0, none⟩, n + 1, cap'⟩, tn, x9⟩] :: [rG kP (.slice (some ⟨w.heap.size + 1 + 1, 0, none⟩) 1 1) [zpv], rG kQ (.slice (some ⟨w.heap.size + 1, 0, none⟩) 1 1) [(c, s, t)], rG kP (.slice (some ⟨w.heap.size, 0, none⟩) 1 1) [⟨tn, ⟨(some ⟨ga, oa, none⟩), n, cap⟩, tag⟩]]) := Sg.setRaw (A := [_, _]) hrow 2 (.int .i64 x9)
    clear hrow hb7 hb8
    clear m0 m1 m2 mf mg
    generalize w8.setCell ⟨b6, 2, none⟩ (.int .i64 x9) = W9 at hS9 ⊢
    obtain ⟨m0, m1, m2, mf, mg⟩ := hS9.three (K := kW) (g := b6) (n := 1) (p := ⟨⟨some ⟨g', 0, none⟩, n + 1, cap'⟩, tn, x9⟩) (by simp) rfl
    go_wp2_with (go_at_call 30; refine (HTD.out _ g' cap' x9 _ hS9 (by simp)).mono ?_; rintro e w10 ⟨q, cp, X, rfl, HX, hw10⟩; have hS10 := hS9.addL hw10; obtain ⟨v0, v1, v2, vf, vg⟩ := hS10.three (K := kP) (g := w.heap.size + 1 + 1) (n := 1) (p := zpv) (by simp) rfl)
    have hS11 := Sg.setP (A := trX (.slice q (n + 1) cp) X [] ++ [rG kQ (.slice (some ⟨g', 0, none⟩) (n + 1) cap') (QL ++ [(c, s, t)]), rG kQ (.slice (some ⟨b7, 0, none⟩) 1 1) [(c, s, t)], rG kW (.slice (some ⟨b6, 0, none⟩) 1 1) [⟨⟨some ⟨g', 0, none⟩, n + 1, cap'⟩, tn, x9⟩]]) (g := w.heap.size + 1 + 1) (n := 1) (a := zpv) (by have h := hS10; simp only [List.append_assoc, List.cons_append, List.nil_append] at h ⊢; exact h) ⟨tn, ⟨q, n + 1, cp⟩, x9⟩
    refine bodyPost_ret (v := .tuple #[.agg #[.int .i64 tn, .slice q (n + 1) cp, .int .i64 x9], .bool true]) (by simp [results, Tryz.results6, go_sem, v0, v1, v2]) rfl ?_
    rw [HB.out.1]
    refine ⟨q, n + 1, cp, X, rfl, ?_, HX.out.1, HX.out.2.1, HX.out.2.2, hS11.sub ?_⟩
    · show (cls QL ++ [c]).length = n + 1
      rw [List.length_append, HB.out.2]; rfl
    · rw [List.append_assoc]
      exact List.sublist_append_left _ _
end Go.Proofs.YtkinbgcnenieeaaGreatDoor
