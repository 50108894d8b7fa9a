/-
  Papers: lists of Clauses copied, a paper told; Minted, the program's and the spec's.
-/
import Derived.Test.YtkinbgcnenieeaaGreatDoorQ2
import Derived.Test.YtkinbgcnenieeaaGreatDoorZ3
namespace Go.Proofs.YtkinbgcnenieeaaGreatDoor
open Go.Shelf Go.RowKit Go.Joins M
attribute [local go_sem] Oper.semAt_some

theorem appQ : Ap kQ 24 (.agg #[.slice none 0 0, .slice none 0 0, .int .i64 0]) 56 := ⟨Tryz.underlying24, info29, rfl, by decide, by decide⟩
/-- Every list of these Clauses lies somewhere, or is nil. -/
def okQ (QL : List CQ) : Prop := ∀ q ∈ QL, okv q.2.1 ∧ okv q.2.2
def sm6 (QL : List CQ) : Prop := ∀ q ∈ QL, q.2.1.n ≤ 1100000 ∧ q.2.2.n ≤ 1100000
theorem tr_app {w W : World} {v : Value} {X : List CQ} {c : Cl} {s t : Sv} {b : Rw} (h : Sg w W ([rG kC s.v c.rd, rG kC t.v c.wr, b] ++ rG kQ v (X ++ [(c, s, t)]) :: X.flatMap fun q => clR q.1 q.2.1 q.2.2)) : Sg w W (trX v (X ++ [(c, s, t)]) []) := by
  refine tr_more (q := (c, s, t)) (R := []) ?_
  refine h.sub ?_
  exact ((List.sublist_cons_self b _).cons_cons _).cons_cons _
set_option maxRecDepth 100000 in
set_option maxHeartbeats 2000000 in
theorem copies_any (p : Option Addr) (cap n : Nat) (QL : List CQ) (hn : QL.length = n) (hb0 : n ≤ 1000) (h6 : sm6 QL) (ho : okQ QL) (w : World) (hR : RdS w p QL) :
    Calls Tryz.prog 58 #[.slice p n cap] w fun e w' => ∃ q cp X, e = .returned (.slice q n cp) ∧ cls X = cls QL ∧ sm6 X ∧ okQ X ∧ Sg w w' (trX (.slice q n cp) X []) := by
  have HN : Hid (QL.length = n ∧ RdS w p QL ∧ sm6 QL ∧ okQ QL) := ⟨hn, hR, h6, ho⟩
  clear hn hR h6 ho
  go_enter Tryz.func58, Tryz.ntmps58
  go_wp2
  go_loopw [3, 8] (fun nv iv wr => ∃ (k : Nat) (q : Option Addr) (cp : Nat) (X : List CQ), k ≤ n ∧ iv = .int .i64 k ∧ nv = .slice q k cp ∧ Hid (X.length = k ∧ cls X = (cls QL).take k ∧ sm6 X ∧ okQ X) ∧ Sg w wr (trX (.slice q k cp) X [])) (fun _ iv _ => n - (intOf iv).toNat)
  case atStart => exact ⟨0, none, 0, [], by omega, rfl, rfl, ⟨rfl, rfl, fun q hq => by simp at hq, fun q hq => by simp at hq⟩, (Sg.nil w).nilRow kQ⟩
  case round =>
    obtain ⟨k, q, cp, X, hk, rfl, rfl, hX, hS⟩ := hrel
    by_cases hlt : k < n
    · have hki : (k : Int) < n := by omega
      have hkL : k < QL.length := by rw [HN.out.1]; exact hlt
      obtain ⟨g, off, rfl, hC⟩ := (HN.out.2.1.1.step hS.bel).at hkL
      obtain ⟨c0, c1, c2⟩ := hC.q3 (getQ hkL)
      have hq := HN.out.2.1.2 _ (List.mem_of_getElem? (getQ hkL))
      have h6 := HN.out.2.2.1 _ (List.mem_of_getElem? (getQ hkL))
      have ho := HN.out.2.2.2 _ (List.mem_of_getElem? (getQ hkL))
      have hct : (cls QL).take (k + 1) = (cls QL).take k ++ [(QL.getD k zq).1] := by rw [List.take_add_one, cls_get hkL]; rfl
      obtain ⟨⟨c, s, t⟩, hx⟩ : ∃ x : CQ, QL.getD k zq = x := ⟨_, rfl⟩
      rw [hx] at c0 c1 c2 hq hct h6 ho
      simp only at c0 c1 c2 hq hct h6 ho
      have HC : Hid (∀ W, Below w.heap.size w W → Calls Tryz.prog 75 #[.agg #[.slice s.p s.n s.c, .slice t.p t.n t.c, .int .i64 c.un]] W fun e w' => ∃ s' t' : Sv, e = .returned (.agg #[.slice s'.p s'.n s'.c, .slice t'.p t'.n t'.c, .int .i64 c.un]) ∧ s'.n = s.n ∧ t'.n = t.n ∧ okv s' ∧ okv t' ∧ Sg W w' [rG kC s'.v c.rd, rG kC t'.v c.wr]) := fun W h => copied_any W (hq.step h) h6.1 h6.2 ho.1 ho.2
      have HX : Hid (X.length = k ∧ cls X ++ [c] = (cls QL).take (k + 1) ∧ sm6 X ∧ okQ X ∧ s.n ≤ 1100000 ∧ t.n ≤ 1100000) := ⟨hX.out.1, by rw [hct, hX.out.2.1], hX.out.2.2.1, hX.out.2.2.2, h6⟩
      have hS1 := hS.lit kQ [(c, s, t)] 1 rfl (by decide) #[.slice s.p s.n s.c, .slice t.p t.n t.c, .int .i64 c.un] rfl
      change Sg w (wr.alloc (.cells #[.slice s.p s.n s.c, .slice t.p t.n t.c, .int .i64 c.un] 29)) _ at hS1
      clear hC hkL hq hct hx hX h6 ho
      go_wp2_with (first
        | (go_at_call 75; refine (HC.out _ hS1.bel).mono ?_; rintro e w1 ⟨s', t', rfl, hn1, hn2, ok1, ok2, hw1⟩; have hS2 := hS1.addL hw1; have hS2' : Sg w w1 ([rG kC s'.v c.rd, rG kC t'.v c.wr, rG kQ (.slice (some ⟨wr.heap.size, 0, none⟩) 1 1) [(c, s, t)]] ++ rG kQ (.slice q k cp) X :: X.flatMap fun q => clR q.1 q.2.1 q.2.2) := (by have h := hS2; unfold trX at h; rw [List.append_nil] at h; exact h); have HX2 : Hid (s'.n = s.n ∧ t'.n = t.n ∧ okv s' ∧ okv t') := ⟨hn1, hn2, ok1, ok2⟩; clear hn1 hn2 ok1 ok2)
        | (at_builtin; refine wpList_sgapp appQ rfl _ _ rfl (A := [rG kC s'.v c.rd, rG kC t'.v c.wr, rG kQ (.slice (some ⟨wr.heap.size, 0, none⟩) 1 1) [(c, s, t)]]) (M := X) (B := [(c, s', t')]) (n := k) (m := 1) hS2' (below_alloc1 _ _) HX.out.1 rfl rfl ⟨w1.heap.size, 0, none⟩ 1 rfl (lit_src (xs := [.slice s'.p s'.n s'.c, .slice t'.p t'.n t'.c, .int .i64 c.un]) rfl) (oneQs _) (.inl (by decide)) (by omega) ?_; intro g' cap' w4 hS4 _ _))
      go_roundw
      case rel =>
        refine ⟨k + 1, some ⟨g', 0, none⟩, cap', X ++ [(c, s', t')], by omega, by go_num, rfl, ⟨by simp [HX.out.1], by rw [← HX.out.2.1]; simp [cls], fun q hq => ?_, fun q hq => ?_⟩, tr_app hS4⟩
        · rcases List.mem_append.mp hq with hq | hq
          · exact HX.out.2.2.1 q hq
          · simp at hq; subst hq; exact ⟨by rw [HX2.out.1]; exact HX.out.2.2.2.2.1, by rw [HX2.out.2.1]; exact HX.out.2.2.2.2.2⟩
        · rcases List.mem_append.mp hq with hq | hq
          · exact HX.out.2.2.2.1 q hq
          · simp at hq; subst hq; exact HX2.out.2.2
      case measure => simp [intOf]; omega
    · obtain rfl : k = n := by omega
      have HF : Hid (cls X = cls QL ∧ sm6 X ∧ okQ X) := ⟨by rw [hX.out.2.1]; exact List.take_of_length_le (by rw [cls_len, HN.out.1]; exact Nat.le_refl _), hX.out.2.2⟩
      clear hX
      go_wp2
      go_ret
      exact ⟨q, cp, X, rfl, HF.out.1, HF.out.2.1, HF.out.2.2, hS⟩
set_option maxRecDepth 100000 in
set_option maxHeartbeats 4000000 in
theorem told_any (tn tag : Int) (p : Option Addr) (cap n : Nat) (QL : List CQ) (hn : QL.length = n) (hb0 : n ≤ 1000) (h6 : sm6 QL) (ho : okQ QL) (w : World) (hR : RdS w p QL) :
    Calls Tryz.prog 30 #[.agg #[.slice p n cap, .int .i64 tn, .int .i64 tag]] w fun e w' => ∃ q cp X, e = .returned (.agg #[.int .i64 tn, .slice q n cp, .int .i64 tag]) ∧ cls X = cls QL ∧ sm6 X ∧ okQ X ∧ Sg w w' (trX (.slice q n cp) X []) := by
  have hrow := ((Sg.nil w).lit kW [⟨⟨p, n, cap⟩, tn, tag⟩] 1 rfl (by decide) #[.slice p n cap, .int .i64 tn, .int .i64 tag] rfl).lit kP [zpv] 1 rfl (by decide) #[.int .i64 0, .slice none 0 0, .int .i64 0] rfl
  simp only [World.size_alloc] at hrow
  change Sg w ((w.alloc (.cells #[.slice p n cap, .int .i64 tn, .int .i64 tag] 53)).alloc (.cells #[.int .i64 0, .slice none 0 0, .int .i64 0] 26)) _ at hrow
  have HC : Hid (∀ W, Below w.heap.size w W → Calls Tryz.prog 58 #[.slice p n cap] W fun e w' => ∃ q cp X, e = .returned (.slice q n cp) ∧ cls X = cls QL ∧ sm6 X ∧ okQ X ∧ Sg W w' (trX (.slice q n cp) X [])) := fun W h => copies_any p cap n QL hn hb0 h6 ho W (hR.step h)
  have HK : Hid (∀ w' rs, Sg w w' rs → rG kW (.slice (some ⟨w.heap.size, 0, none⟩) 1 1) [⟨⟨p, n, cap⟩, tn, tag⟩] ∈ rs → (w'.cell? ⟨w.heap.size, 0, none⟩ = some (.slice p n cap) ∧ w'.cell? ⟨w.heap.size, 1, none⟩ = some (.int .i64 tn) ∧ w'.cell? ⟨w.heap.size, 2, none⟩ = some (.int .i64 tag))) := fun w' rs h hm => by
    obtain ⟨y0, y1, y2, _, _⟩ := h.three (K := kW) (g := w.heap.size) (n := 1) (p := ⟨⟨p, n, cap⟩, tn, tag⟩) hm rfl
    exact ⟨y0, y1, y2⟩
  clear hn hR h6 ho
  have hne : ¬ w.heap.size = w.heap.size + 1 := by omega
  go_enter Tryz.func30, Tryz.ntmps30
  go_wp2
  go_region_held3 (fun w' => w'.cell? ⟨w.heap.size, 0, none⟩ = some (.slice p n cap) ∧ w'.cell? ⟨w.heap.size, 1, none⟩ = some (.int .i64 tn) ∧ w'.cell? ⟨w.heap.size, 2, none⟩ = some (.int .i64 tag))
    (first | assumption | exact HK.out _ _ hrow (by simp) | exact HK.out _ _ (hrow.step (Below.refl _ _).drew) (by simp) | go_keep | fail)
    (first | (go_at_call 58; refine (HC.out _ hrow.bel.drew).mono ?_; rintro e w1 ⟨q, cp, X, rfl, x1, x2, x3, hw1⟩; replace hrow := (hrow.step (Below.refl _ _).drew).addL hw1; obtain ⟨v0, v1, v2, vf, vg⟩ := hrow.three (K := kP) (g := w.heap.size + 1) (n := 1) (p := zpv) (by simp) rfl))
  all_goals
    go_wp2
    have hS3 := Sg.setP (A := trX (.slice q n cp) X []) (g := w.heap.size + 1) (n := 1) (a := zpv) hrow ⟨tn, ⟨q, n, cp⟩, tag⟩
    refine bodyPost_ret (v := .agg #[.int .i64 tn, .slice q n cp, .int .i64 tag]) (by simp [results, Tryz.results30, go_sem, v0, v1, v2]) rfl ⟨q, cp, X, rfl, x1, x2, x3, ?_⟩
    exact hS3.sub (List.sublist_append_left _ _)
end Go.Proofs.YtkinbgcnenieeaaGreatDoor
