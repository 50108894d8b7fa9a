/-
  Papers: the spec's copy; Narrowed.
-/
import Derived.Deep.RegionLaw
import Derived.Test.YtbkiogedipmioaaGreatVQ5
namespace Go.Proofs.YtbkiogedipmioaaGreat.V
open Go.Shelf Go.RowKit Go.Joins M
attribute [local go_sem] Oper.semAt_some

theorem copy_app {w W : World} {v : Value} {X : List CQ} {c : Cl} {s t : Sv} {R : List Rw} (h : Sg w W (([rG kC s.v c.rd, rG kC t.v c.wr] ++ rG kQ v (X ++ [(c, s, t)]) :: (X.flatMap fun q => clR q.1 q.2.1 q.2.2)) ++ R)) : Sg w W (trX v (X ++ [(c, s, t)]) [] ++ R) := by
  refine h.perm (List.Perm.append_right R ?_)
  unfold trX
  rw [List.append_nil, List.flatMap_append]
  refine (List.perm_append_comm (l₁ := [rG kC s.v c.rd, rG kC t.v c.wr])).trans ?_
  simp only [List.flatMap_cons, List.flatMap_nil, List.append_nil, List.cons_append]
  exact List.Perm.refl _
set_option maxRecDepth 100000 in
set_option maxHeartbeats 4000000 in
theorem l10Copy_any (tn tag : Int) (p : Option Addr) (cap n : Nat) (QL : List CQ) (hn : QL.length = n) (hb0 : n ≤ 1000) (h6 : sm6 QL) (ho : okQ QL) (w : World) (hR : RdS w p QL) :
    Calls Tryz.prog 102 #[.agg #[.int .i64 tn, .slice p n cap, .int .i64 tag]] w fun e w' => ∃ q cp X, e = .returned (.agg #[.int .i64 tn, .slice q n cp, .int .i64 tag]) ∧ cls X = cls QL ∧ sm6 X ∧ okQ X ∧ Sg w w' (trX (.slice q n cp) X []) := by
  have HN : Hid (QL.length = n ∧ RdS w p QL ∧ sm6 QL ∧ okQ QL) := ⟨hn, hR, h6, ho⟩
  clear hn hR h6 ho
  have hS0 := (((Sg.nil w).lit kP [⟨tn, ⟨p, n, cap⟩, tag⟩] 1 rfl (by decide) #[.int .i64 tn, .slice p n cap, .int .i64 tag] rfl).lit kP [zpv] 1 rfl (by decide) #[.int .i64 0, .slice none 0 0, .int .i64 0] rfl).lit kP [⟨tn, ⟨none, 0, 0⟩, tag⟩] 1 rfl (by decide) #[.int .i64 tn, .slice none 0 0, .int .i64 tag] rfl
  simp only [World.size_alloc] at hS0
  change Sg w (((w.alloc (.cells #[.int .i64 tn, .slice p n cap, .int .i64 tag] 26)).alloc (.cells #[.int .i64 0, .slice none 0 0, .int .i64 0] 26)).alloc (.cells #[.int .i64 tn, .slice none 0 0, .int .i64 tag] 26)) _ at hS0
  have hS0b := hS0.nilRow kQ
  go_enter Tryz.func102, Tryz.ntmps102
  go_wp2
  go_loopw [4] (fun iv wr => ∃ (k : Nat) (q : Option Addr) (cp : Nat) (X : List CQ), k ≤ n ∧ iv = .int .i64 k ∧ Hid (X.length = k ∧ cls X = (cls QL).take k ∧ sm6 X ∧ okQ X) ∧ Sg w wr (trX (.slice q k cp) X [] ++ [rG kP (.slice (some ⟨w.heap.size + 1 + 1, 0, none⟩) 1 1) [⟨tn, ⟨q, k, cp⟩, tag⟩], rG kP (.slice (some ⟨w.heap.size + 1, 0, none⟩) 1 1) [zpv], rG kP (.slice (some ⟨w.heap.size, 0, none⟩) 1 1) [⟨tn, ⟨p, n, cap⟩, tag⟩]])) (fun iv _ => n - (intOf iv).toNat)
  case atStart => exact ⟨0, none, 0, [], by omega, rfl, ⟨rfl, rfl, fun q hq => by simp at hq, fun q hq => by simp at hq⟩, hS0b⟩
  case round =>
    clear hS0 hS0b
    obtain ⟨k, q, cp, X, hk, rfl, hX, hS⟩ := hrel
    by_cases hlt : k < n
    · have hki : (k : Int) < n := by omega
      have hkL : k < QL.length := by rw [HN.out.1]; exact hlt
      obtain ⟨gl, off, rfl, hC⟩ := HN.out.2.1.1.at hkL
      have HCZ : Hid (CsG kQ w gl off QL) := hC
      have HZ : Hid (QL[k]? = some (QL.getD k zq)) := getQ hkL
      have hq := HN.out.2.1.2 _ (List.mem_of_getElem? (getQ hkL))
      have h6 := HN.out.2.2.1 _ (List.mem_of_getElem? (getQ hkL))
      have ho := HN.out.2.2.2 _ (List.mem_of_getElem? (getQ hkL))
      have hct : (cls QL).take (k + 1) = (cls QL).take k ++ [(QL.getD k zq).1] := by rw [List.take_add_one, cls_get hkL]; rfl
      obtain ⟨⟨c, s, t⟩, hx⟩ : ∃ x : CQ, QL.getD k zq = x := ⟨_, rfl⟩
      rw [hx] at HZ hq hct h6 ho
      simp only at hq hct h6 ho
      have HC : Hid (∀ W, Below w.heap.size w W → Calls Tryz.prog 96 #[.agg #[.slice s.p s.n s.c, .slice t.p t.n t.c, .int .i64 c.un]] W fun e w' => ∃ s' t' : Sv, e = .returned (.agg #[.slice s'.p s'.n s'.c, .slice t'.p t'.n t'.c, .int .i64 c.un]) ∧ s'.n = s.n ∧ t'.n = t.n ∧ okv s' ∧ okv t' ∧ Sg W w' [rG kC s'.v c.rd, rG kC t'.v c.wr]) := fun W h => copyClause_any W (hq.step h) h6.1 h6.2 ho.1 ho.2
      have HX : Hid (X.length = k ∧ cls X ++ [c] = (cls QL).take (k + 1) ∧ sm6 X ∧ okQ X ∧ s.n ≤ 1100000 ∧ t.n ≤ 1100000) := ⟨hX.out.1, by rw [hct, hX.out.2.1], hX.out.2.2.1, hX.out.2.2.2, h6⟩
      have HK : Hid (∀ w' rs, Sg w w' rs → rG kP (.slice (some ⟨w.heap.size, 0, none⟩) 1 1) [⟨tn, ⟨some ⟨gl, off, none⟩, n, cap⟩, tag⟩] ∈ rs → rG kP (.slice (some ⟨w.heap.size + 1 + 1, 0, none⟩) 1 1) [⟨tn, ⟨q, k, cp⟩, tag⟩] ∈ rs → (w'.cell? ⟨w.heap.size + 1 + 1, 1, none⟩ = some (.slice q k cp) ∧ w'.cell? ⟨w.heap.size, 1, none⟩ = some (.slice (some ⟨gl, off, none⟩) n cap) ∧ w'.cell? ⟨gl, off + k * 3, none⟩ = some (.slice s.p s.n s.c) ∧ w'.cell? ⟨gl, off + k * 3 + 1, none⟩ = some (.slice t.p t.n t.c) ∧ w'.cell? ⟨gl, off + k * 3 + 2, none⟩ = some (.int .i64 c.un))) := fun w' rs h hm hm2 => by
        obtain ⟨_, z1, _, _, _⟩ := h.three (K := kP) (g := w.heap.size + 1 + 1) (n := 1) (p := ⟨tn, ⟨q, k, cp⟩, tag⟩) hm2 rfl
        obtain ⟨_, y1, _, _, _⟩ := h.three (K := kP) (g := w.heap.size) (n := 1) (p := ⟨tn, ⟨some ⟨gl, off, none⟩, n, cap⟩, tag⟩) hm rfl
        obtain ⟨d0, d1, d2⟩ := (HCZ.out.step h.bel).q3 HZ.out
        exact ⟨z1, y1, d0, d1, d2⟩
      clear hC hkL hq hct hx hX h6 ho
      obtain ⟨x0, x1, x2, xf, xg⟩ := hS.three (K := kP) (g := w.heap.size) (n := 1) (p := ⟨tn, ⟨some ⟨gl, off, none⟩, n, cap⟩, tag⟩) (by simp) rfl
      go_upto_region 5 with (fail)
      clear x0 x1 x2 xf xg
      obtain ⟨y0, y1, y2, yf, yg⟩ := hS.three (K := kP) (g := w.heap.size + 1 + 1) (n := 1) (p := ⟨tn, ⟨q, k, cp⟩, tag⟩) (by simp) rfl
      have hrow := hS
      clear hS
      obtain ⟨_, x1, d0, d1, d2⟩ := HK.out _ _ hrow (by simp) (by simp)
      have f7 : True := trivial
      go_region_law
        (first
          | (clear f7; go_simp; go_at_call 96; refine (HC.out _ (by first | with_reducible exact hrow.bel | with_reducible exact hrow.dr.bel)).mono ?_; rintro e w1 ⟨s', t', rfl, e1, e2, ok1, ok2, hw1⟩; have HE : Hid (s'.n = s.n ∧ t'.n = t.n ∧ okv s' ∧ okv t') := ⟨e1, e2, ok1, ok2⟩; clear e1 e2 ok1 ok2; (first | with_reducible (replace hrow := hrow.addL hw1) | with_reducible (replace hrow := hrow.dr.addL hw1)); have hS2 : Sg w w1 ([rG kC s'.v c.rd, rG kC t'.v c.wr] ++ rG kQ (.slice q k cp) X :: ((X.flatMap fun q => clR q.1 q.2.1 q.2.2) ++ [rG kP (.slice (some ⟨w.heap.size + 1 + 1, 0, none⟩) 1 1) [⟨tn, ⟨q, k, cp⟩, tag⟩], rG kP (.slice (some ⟨w.heap.size + 1, 0, none⟩) 1 1) [zpv], rG kP (.slice (some ⟨w.heap.size, 0, none⟩) 1 1) [⟨tn, ⟨some ⟨gl, off, none⟩, n, cap⟩, tag⟩]])) := (by have h := hrow; unfold trX at h; rw [List.append_nil] at h; exact h); clear y0 y1 y2 yf yg x1 d0 d1 d2; obtain ⟨y0, y1, y2, yf, yg⟩ := hrow.three (K := kP) (g := w.heap.size + 1 + 1) (n := 1) (p := ⟨tn, ⟨q, k, cp⟩, tag⟩) (by simp) rfl)
          | (refine step_sgapp appQ (by rfl) _ _ (by rfl) (A := [rG kC s'.v c.rd, rG kC t'.v c.wr]) (M := X) (B := [(c, s', t')]) (n := k) (m := 1) hS2 (below_alloc1 _ _) HX.out.1 rfl (by rfl) ⟨w1.heap.size, 0, none⟩ 1 (by rfl) (fun j u hj => lit_src (W := w1) (xs := [.slice s'.p s'.n s'.c, .slice t'.p t'.n t'.c, .int .i64 c.un]) (t := 110) rfl j u hj) (oneQs _) (.inl (by decide)) (by omega) ?_; intro g' cap' w4 hS4 _ _; have hS4b : Sg w w4 (([rG kC s'.v c.rd, rG kC t'.v c.wr] ++ rG kQ (.slice (some ⟨g', 0, none⟩) (k + 1) cap') (X ++ [(c, s', t')]) :: (X.flatMap fun q => clR q.1 q.2.1 q.2.2)) ++ rG kP (.slice (some ⟨w.heap.size + 1 + 1, 0, none⟩) 1 1) [⟨tn, ⟨q, k, cp⟩, tag⟩] :: [rG kP (.slice (some ⟨w.heap.size + 1, 0, none⟩) 1 1) [zpv], rG kP (.slice (some ⟨w.heap.size, 0, none⟩) 1 1) [⟨tn, ⟨some ⟨gl, off, none⟩, n, cap⟩, tag⟩]]) := (by have h := hS4; simp only [List.cons_append, List.nil_append] at h ⊢; exact h); have hS5 := Sg.setP1 hS4b ⟨some ⟨g', 0, none⟩, k + 1, cap'⟩; clear y0 y1 y2 yf yg; obtain ⟨y0, y1, y2, yf, yg⟩ := hS4b.three (K := kP) (g := w.heap.size + 1 + 1) (n := 1) (p := ⟨tn, ⟨q, k, cp⟩, tag⟩) (by simp) rfl))
      all_goals
        go_wp2
        go_roundw
        case rel =>
          refine ⟨k + 1, some ⟨g', 0, none⟩, cap', X ++ [(c, s', t')], by omega, by go_num, ⟨by simp [HX.out.1], by rw [← HX.out.2.1]; simp [cls], fun q hq => ?_, fun q hq => ?_⟩, copy_app hS5⟩
          · rcases List.mem_append.mp hq with hq | hq
            · exact HX.out.2.2.1 q hq
            · simp at hq; subst hq; exact ⟨by rw [HE.out.1]; exact HX.out.2.2.2.2.1, by rw [HE.out.2.1]; exact HX.out.2.2.2.2.2⟩
          · rcases List.mem_append.mp hq with hq | hq
            · exact HX.out.2.2.2.1 q hq
            · simp at hq; subst hq; exact HE.out.2.2
        case measure => simp [intOf]; omega
    · obtain rfl : k = n := by omega
      have HF : Hid (cls X = cls QL ∧ sm6 X ∧ okQ X) := ⟨by rw [hX.out.2.1]; exact List.take_of_length_le (by rw [cls_len, HN.out.1]; exact Nat.le_refl _), hX.out.2.2⟩
      clear hX HN
      obtain ⟨y0, y1, y2, yf, yg⟩ := hS.three (K := kP) (g := w.heap.size + 1 + 1) (n := 1) (p := ⟨tn, ⟨q, k, cp⟩, tag⟩) (by simp) rfl
      obtain ⟨z0, z1, z2, zf, zg⟩ := hS.three (K := kP) (g := w.heap.size + 1) (n := 1) (p := zpv) (by simp) rfl
      obtain ⟨x0, x1, x2, xf, xg⟩ := hS.three (K := kP) (g := w.heap.size) (n := 1) (p := ⟨tn, ⟨p, k, cap⟩, tag⟩) (by simp) rfl
      go_wp2
      have hS6 := Sg.setP (A := trX (.slice q k cp) X [] ++ [rG kP (.slice (some ⟨w.heap.size + 1 + 1, 0, none⟩) 1 1) [⟨tn, ⟨q, k, cp⟩, tag⟩]]) (g := w.heap.size + 1) (n := 1) (a := zpv) (by have h := hS; simp only [List.append_assoc, List.cons_append, List.nil_append] at h ⊢; exact h) ⟨tn, ⟨q, k, cp⟩, tag⟩
      refine bodyPost_ret (v := .agg #[.int .i64 tn, .slice q k cp, .int .i64 tag]) (by simp [results, Tryz.results102, go_sem, z0, z1, z2]) rfl ⟨q, cp, rfl, X, HF.out.1, HF.out.2.1, HF.out.2.2, hS6.sub ?_⟩
      rw [List.append_assoc]
      exact List.sublist_append_left _ _
end Go.Proofs.YtbkiogedipmioaaGreat.V
