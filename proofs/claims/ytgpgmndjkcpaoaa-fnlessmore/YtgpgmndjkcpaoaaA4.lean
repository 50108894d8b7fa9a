/-
  A number into a list that rises: the spec's.
-/
import Derived.Test.YtgpgmndjkcpaoaaG1
import Derived.Test.YtgpgmndjkcpaoaaA2
namespace Go.Proofs.Ytgpgmndjkcpaoaa
open Go.RowKit Go.Joins
attribute [local go_sem] Oper.semAt_some

theorem wpList_ap1 {W : World} {ops : Array Oper} {rest : List Oper} {o : Oper} {a : Act} {Q : Exit → Act → World → Prop} (hgd : o.guard = none) (s x : Operand) (ho : o.op = .call { callee := .builtin .append, args := #[s, x], argTypes := #[27, 27] }) (base g0 cap0 n N : Nat) (M B : List Int) (hs : a.eval s = .slice (some ⟨g0, 0, none⟩) n cap0) (hown : W.ownsRow base 2 1 (.slice (some ⟨g0, 0, none⟩) n cap0) n (flat1 M)) (ad : Addr) (c m : Nat) (hx : a.eval x = .slice (some ad) m c) (hm : B.length = m) (hnews : ∀ j u, (flat1 B)[j]? = some u → W.cell? (ad.add j) = some u) (hN : n + m = N) (hl : N ≤ 1000000) (hbase : base ≤ W.heap.size)
    (h : ∀ g cap w', w'.ownsRow base 2 1 (.slice (some ⟨g, 0, none⟩) N cap) N (flat1 (M ++ B)) → W.grownBy w' (some g0) → (g = g0 ∨ g = W.heap.size) → wpList Try.prog ops Q rest (a.put o.dst (.slice (some ⟨g, 0, none⟩) N cap)) w') : wpList Try.prog ops Q (o :: rest) a W := by
  subst hN
  obtain ⟨i0, hi, hz0, hz1, hz2⟩ := info_parts info2
  obtain ⟨v', w', h1, h2, h3, h4, h5⟩ := run_append_own_at (P := Try.prog) W base 27 o.type 2 i0 (.int .i64 0) 1 8 Try.underlying27 hi hz0 hz1 hz2 rfl (by decide) _ n _ hown ad m c (flat1 B) (by rw [flat1_len]; omega) hnews (flat1_one B) (by unfold maxLen; omega) (by omega) hbase
  have hne : ¬ v' = .slice none 0 0 := fun e => by have := (h4.mp e).1; cases this
  rcases h2.2 with ⟨e, _⟩ | ⟨g, cap, cur, e, _⟩
  · exact absurd e hne
  · subst e
    rw [← flat1_append] at h2
    refine wpList_plain hgd fun K hK => ?_
    unfold Oper.wp execOp
    simp only [ho, resolve, invoke, builtin, Sem.run_bind, Sem.run_pure, Result.andThen_ok, List.map_toArray, List.map_cons, List.map_nil, hs, hx, h1]
    refine hK _ _ (h g cap w' h2 h3 ?_)
    rcases h5 with h5 | h5
    · left; injection h5
    · right; injection h5
theorem cs_news {W : World} {g off : Nat} {L : List Int} (h : Cs1 W g off L) (k n : Nat) : ∀ j u, (flat1 ((L.drop k).take n))[j]? = some u → W.cell? ((⟨g, off + k, none⟩ : Addr).add j) = some u := by
  intro j u hj
  have ea : (⟨g, off + k, none⟩ : Addr).add j = ⟨g, off + k + j, none⟩ := by unfold Addr.add; split <;> simp_all
  rw [ea]
  have hlt := (List.getElem?_eq_some_iff.1 hj).1
  rw [flat1_len] at hlt
  have hl2 : k + j < L.length := by simp at hlt; omega
  have := flat1_get (L := (L.drop k).take n) (k := j) (z := L[k + j]) (by
    rw [List.getElem?_take_of_lt (by simp at hlt; omega), List.getElem?_drop, List.getElem?_eq_getElem hl2])
  rw [this] at hj
  cases hj
  rw [Nat.add_assoc]
  exact h.2 (k + j) _ (List.getElem?_eq_getElem hl2)
theorem ow1_new (w : World) : (w.alloc (.cells #[] 2)).ownsRow w.heap.size 2 1 (.slice (some ⟨w.heap.size, 0, none⟩) 0 0) 0 (flat1 []) :=
  World.ownsRow_made (base := w.heap.size) (e := 2) (size := 1) w #[] 0 (Nat.le_refl _) (by unfold maxLen; omega) rfl
theorem own1_cs {W : World} {base g n cap : Nat} {L : List Int} (h : W.ownsRow base 2 1 (.slice (some ⟨g, 0, none⟩) n cap) n (flat1 L)) : Cs1 W g 0 L := by
  have := own1_len h
  subst this
  exact Ow1.cs h
theorem cell1_at {w : World} {g : Nat} {a : Value} {t : TypeId} (hg : g = w.heap.size) : ∀ j u, [a][j]? = some u → (w.alloc (.cells #[a] t)).cell? ((⟨g, 0, none⟩ : Addr).add j) = some u := by
  subst hg
  intro j u hj
  have ea : (⟨w.heap.size, 0, none⟩ : Addr).add j = ⟨w.heap.size, j, none⟩ := by unfold Addr.add; split <;> simp_all
  rw [ea, World.cell?_alloc_at _ _ _ _ rfl]
  simpa using hj
theorem getI_some {l : List Int} {k : Nat} (hk : k < l.length) : l[k]? = some (l.getD k 0) := by simp [List.getD, hk]

set_option maxRecDepth 100000 in
set_option maxHeartbeats 4000000 in
theorem put_any (base g N cap : Nat) (L : List Int) (z : Int) (w : World) (hO : w.ownsRow base 2 1 (.slice (some ⟨g, 0, none⟩) N cap) N (flat1 L)) (hn : N ≤ 1000) {v : List Int} (hv : putL L z = v) (hbase : base ≤ w.heap.size) :
    Calls Try.prog 68 #[.slice (some ⟨g, 0, none⟩) N cap, .int .i64 z] w fun e w' => ∃ g' cap', e = .returned (.slice (some ⟨g', 0, none⟩) v.length cap') ∧ w'.ownsRow base 2 1 (.slice (some ⟨g', 0, none⟩) v.length cap') v.length (flat1 v) ∧ (g' = g ∨ w.heap.size ≤ g') ∧ Below w.heap.size w w' := by
  have hNl := own1_len hO
  have hC := own1_cs hO
  have hcap : N ≤ cap := by rcases hO.2 with ⟨h1, _⟩ | ⟨_, _, _, h1, _, _, h2, _⟩; (cases h1); (injection h1 with _ _ h1; omega)
  have HN : Hid (L.length = N) := hNl
  have HV : Hid (putL L z = v) := hv
  clear hNl hv
  go_enter Try.func68, Try.ntmps68
  go_wp2
  go_loop [5] (fun kv => ∃ k : Nat, k ≤ N ∧ kv = .int .i64 k ∧ ∀ j, j < k → L.getD j 0 < z) (fun kv => N - (intOf kv).toNat)
  case atStart => exact ⟨0, by omega, rfl, by simp⟩
  case round =>
    obtain ⟨k, hk, rfl, hlo⟩ := hrel
    by_cases hlt : k < N
    · have hki : (k : Int) < N := by omega
      have hkL : k < L.length := by rw [HN.out]; exact hlt
      have x0 := hC.2 k _ (getI_some hkL)
      rw [Nat.zero_add] at x0
      obtain ⟨y, hy⟩ : ∃ y, L.getD k 0 = y := ⟨_, rfl⟩
      rw [hy] at x0
      have HY : Hid (L.getD k 0 = y) := hy
      clear hy
      by_cases h1 : y < z
      · go_wp2
        go_round
        case rel =>
          refine ⟨k + 1, by omega, by go_num, fun j hj => ?_⟩
          by_cases e : j = k
          · rw [e, HY.out]; exact h1
          · exact hlo j (by omega)
        case measure => simp [intOf]; omega
      · have hld : k = lead z L := lead_is (by omega) hlo (fun _ => by rw [HY.out]; exact h1)
        by_cases h2 : y = z
        · have hvl : v = L := by
            rw [← HV.out]
            unfold putL
            rw [← hld, if_pos ⟨hkL, by rw [HY.out]; exact h2⟩]
          have HVL : Hid (v = L) := hvl
          clear hvl hld
          subst h2
          go_wp2
          go_ret
          exact ⟨g, cap, by rw [HVL.out, HN.out]; rfl, by rw [HVL.out, HN.out]; exact hO, .inl rfl, Below.refl _ _⟩
        · have hvl : v = L.take k ++ [z] ++ L.drop k := by
            rw [← HV.out]
            unfold putL
            rw [← hld, if_neg (fun h => h2 (by rw [← HY.out]; exact h.2))]
          clear hld
          have HVL : Hid (v = L.take k ++ [z] ++ L.drop k) := hvl
          clear hvl
          have hA := below_alloc1 w (.cells #[] 2)
          have hC1 := hC.step hA
          have hN1 := ow1_new w
          have hdl : Hid ((L.drop k).length = N - k ∧ (L.take k).length = k ∧ v.length = k + 1 + (N - k)) := by
            show _ ∧ _ ∧ _
            have := HN.out
            rw [HVL.out]
            refine ⟨by simp; omega, by simp; omega, by simp; omega⟩
          have hck : ¬ cap = k := by omega
          have hkc : (k : Int) ≤ cap := by omega
          have hyz : ¬ y = z := h2
          go_wp2_with (first
            | (at_builtin; refine wpList_ap1 rfl _ _ rfl w.heap.size w.heap.size 0 0 (N - k) [] (L.drop k) rfl hN1 _ _ (N - k) rfl hdl.out.1 (by have := cs_news hC1 k (N - k); rw [List.take_of_length_le (by rw [hdl.out.1]; exact Nat.le_refl _), Nat.zero_add] at this; exact this) (by omega) (by omega) (by simp) ?_; intro g1 cap1 w1 hO1 hg1 ha1; have hB1 := bel_grown1 hA hg1 (fun r hr => by cases hr; exact Nat.le_refl _) (Nat.le_refl _); have hC2 := (hC.step hB1).step (below_alloc1 w1 (.cells #[] 2)); have hN2 := ow1_new w1; have hO1b := own_of_below hO1 (below_alloc1 w1 (.cells #[] 2)))
            | (at_builtin; refine wpList_ap1 rfl _ _ rfl w1.heap.size w1.heap.size 0 0 k [] (L.take k) rfl hN2 _ _ k rfl hdl.out.2.1 (by have := cs_news hC2 0 k; rw [List.drop_zero] at this; exact this) (by omega) (by omega) (by simp) ?_; intro g2 cap2 w2 hO2 hg2 ha2; have hO1c := World.ownsRow.kept hO1b hg2 (.inr (fun e => by have h1 := (World.ownsRow.lt hO1 g1 rfl).2; have h2 : g1 = w1.heap.size := Option.some.inj e; omega)); have hB2 := bel_grown1 (hB1.alloc hB1.size (.cells #[] 2)) hg2 (fun r hr => by cases hr; exact hB1.size) (Nat.le_refl _); have hO2b := own_of_below hO2 (below_alloc1 w2 (.cells #[.int .i64 z] 2)); have hO1d := own_of_below hO1c (below_alloc1 w2 (.cells #[.int .i64 z] 2)))
            | (at_builtin; refine wpList_ap1 rfl _ _ rfl w1.heap.size g2 cap2 k (k + 1) _ [z] rfl hO2b _ _ 1 rfl rfl (cell1_at rfl) rfl (by omega) (by have := hB2.size; have := hg2.size; simp at this; simp; omega) ?_; intro g3 cap3 w3 hO3 hg3 ha3; have hO1e := World.ownsRow.kept hO1d hg3 (.inr (fun e => by have h1 := (World.ownsRow.lt hO1 g1 rfl).2; have h2 : g1 = g2 := Option.some.inj e; have h3 := (World.ownsRow.lt hO2 g2 rfl).1; omega)); have hB3 := bel_grown1 (hB2.alloc hB2.size (.cells #[.int .i64 z] 2)) hg3 (fun r hr => by cases hr; have := (World.ownsRow.lt hO2 g2 rfl).1; have := hB1.size; omega) (Nat.le_refl _))
            | (at_builtin; refine wpList_ap1 rfl _ _ rfl w1.heap.size g3 cap3 (k + 1) (k + 1 + (N - k)) _ (L.drop k) rfl hO3 ⟨g1, 0, none⟩ cap1 (N - k) rfl hdl.out.1 (by have := cs_news (own1_cs hO1e) 0 (N - k); rw [List.drop_zero, List.nil_append, List.take_of_length_le (by rw [hdl.out.1]; exact Nat.le_refl _)] at this; exact this) rfl (by omega) (by have := hg3.size; have := hg2.size; simp at *; omega) ?_; intro g4 cap4 w4 hO4 hg4 ha4; have hB4 := bel_grown1 hB3 hg4 (fun r hr => by cases hr; have := (World.ownsRow.lt hO3 g3 rfl).1; have := hB1.size; omega) (Nat.le_refl _)))
          go_ret
          refine ⟨g4, cap4, by rw [hdl.out.2.2]; rfl, ?_, .inr (by have := (World.ownsRow.lt hO4 g4 rfl).1; have := hB1.size; omega), hB4⟩
          rw [hdl.out.2.2, HVL.out]
          have := own_mono hO4 (Nat.le_trans hbase hB1.size)
          simpa using this
    · obtain rfl : k = N := by omega
      have hki : ¬ (k : Int) < k := by omega
      have hld : k = lead z L := lead_is (by rw [HN.out]; exact Nat.le_refl _) hlo (fun h => by rw [HN.out] at h; omega)
      have hvl : v = L.take k ++ [z] ++ L.drop k := by
        rw [← HV.out]
        unfold putL
        rw [← hld, if_neg (fun h => by have := h.1; rw [HN.out] at this; omega)]
      have hkc : (k : Int) ≤ cap := by omega
      clear hld
      by_cases hck : cap = k
      · subst hck
        have HVL : Hid (v = L.take cap ++ [z] ++ L.drop cap) := hvl
        clear hvl
        have hA := below_alloc1 w (.cells #[] 2)
        have hC1 := hC.step hA
        have hN1 := ow1_new w
        have hdl : Hid ((L.drop cap).length = 0 ∧ (L.take cap).length = cap ∧ v.length = cap + 1) := by
          show _ ∧ _ ∧ _
          have := HN.out
          rw [HVL.out]
          refine ⟨by simp; omega, by simp; omega, by simp; omega⟩
        skip
        go_wp2_with (first
          | (at_builtin; refine wpList_ap1 rfl _ _ rfl w.heap.size w.heap.size 0 0 0 [] (L.drop cap) rfl hN1 _ _ 0 rfl hdl.out.1 (fun j u hj => by have := (List.getElem?_eq_some_iff.1 hj).1; rw [flat1_len, hdl.out.1] at this; omega) (by omega) (by omega) (by simp) ?_; intro g1 cap1 w1 hO1 hg1 ha1; have hB1 := bel_grown1 hA hg1 (fun r hr => by cases hr; exact Nat.le_refl _) (Nat.le_refl _); have hC2 := (hC.step hB1).step (below_alloc1 w1 (.cells #[] 2)); have hN2 := ow1_new w1; have hO1b := own_of_below hO1 (below_alloc1 w1 (.cells #[] 2)))
          | (at_builtin; refine wpList_ap1 rfl _ _ rfl w1.heap.size w1.heap.size 0 0 cap [] (L.take cap) rfl hN2 _ _ cap rfl hdl.out.2.1 (by have := cs_news hC2 0 cap; rw [List.drop_zero] at this; exact this) (by omega) (by omega) (by simp) ?_; intro g2 cap2 w2 hO2 hg2 ha2; have hO1c := World.ownsRow.kept hO1b hg2 (.inr (fun e => by have h1 := (World.ownsRow.lt hO1 g1 rfl).2; have h2 : g1 = w1.heap.size := Option.some.inj e; omega)); have hB2 := bel_grown1 (hB1.alloc hB1.size (.cells #[] 2)) hg2 (fun r hr => by cases hr; exact hB1.size) (Nat.le_refl _); have hO2b := own_of_below hO2 (below_alloc1 w2 (.cells #[.int .i64 z] 2)); have hO1d := own_of_below hO1c (below_alloc1 w2 (.cells #[.int .i64 z] 2)))
          | (at_builtin; refine wpList_ap1 rfl _ _ rfl w1.heap.size g2 cap2 cap (cap + 1) _ [z] rfl hO2b _ _ 1 rfl rfl (cell1_at rfl) rfl (by omega) (by have := hB2.size; have := hg2.size; simp at this; simp; omega) ?_; intro g3 cap3 w3 hO3 hg3 ha3; have hO1e := World.ownsRow.kept hO1d hg3 (.inr (fun e => by have h1 := (World.ownsRow.lt hO1 g1 rfl).2; have h2 : g1 = g2 := Option.some.inj e; have h3 := (World.ownsRow.lt hO2 g2 rfl).1; omega)); have hB3 := bel_grown1 (hB2.alloc hB2.size (.cells #[.int .i64 z] 2)) hg3 (fun r hr => by cases hr; have := (World.ownsRow.lt hO2 g2 rfl).1; have := hB1.size; omega) (Nat.le_refl _))
          | (at_builtin; refine wpList_ap1 rfl _ _ rfl w1.heap.size g3 cap3 (cap + 1) (cap + 1) _ (L.drop cap) rfl hO3 ⟨g1, 0, none⟩ cap1 0 rfl hdl.out.1 (fun j u hj => by have := (List.getElem?_eq_some_iff.1 hj).1; rw [flat1_len, hdl.out.1] at this; omega) rfl (by omega) (by have := hg3.size; have := hg2.size; simp at *; omega) ?_; intro g4 cap4 w4 hO4 hg4 ha4; have hB4 := bel_grown1 hB3 hg4 (fun r hr => by cases hr; have := (World.ownsRow.lt hO3 g3 rfl).1; have := hB1.size; omega) (Nat.le_refl _)))
        go_ret
        refine ⟨g4, cap4, by rw [hdl.out.2.2]; rfl, ?_, .inr (by have := (World.ownsRow.lt hO4 g4 rfl).1; have := hB1.size; omega), hB4⟩
        rw [hdl.out.2.2, HVL.out]
        have := own_mono hO4 (Nat.le_trans hbase hB1.size)
        simpa using this
      · skip
        have HVL : Hid (v = L.take k ++ [z] ++ L.drop k) := hvl
        clear hvl
        have hA := below_alloc1 w (.cells #[] 2)
        have hC1 := hC.step hA
        have hN1 := ow1_new w
        have hdl : Hid ((L.drop k).length = 0 ∧ (L.take k).length = k ∧ v.length = k + 1) := by
          show _ ∧ _ ∧ _
          have := HN.out
          rw [HVL.out]
          refine ⟨by simp; omega, by simp; omega, by simp; omega⟩
        skip
        go_wp2_with (first
          | (at_builtin; refine wpList_ap1 rfl _ _ rfl w.heap.size w.heap.size 0 0 0 [] (L.drop k) rfl hN1 _ _ 0 rfl hdl.out.1 (fun j u hj => by have := (List.getElem?_eq_some_iff.1 hj).1; rw [flat1_len, hdl.out.1] at this; omega) (by omega) (by omega) (by simp) ?_; intro g1 cap1 w1 hO1 hg1 ha1; have hB1 := bel_grown1 hA hg1 (fun r hr => by cases hr; exact Nat.le_refl _) (Nat.le_refl _); have hC2 := (hC.step hB1).step (below_alloc1 w1 (.cells #[] 2)); have hN2 := ow1_new w1; have hO1b := own_of_below hO1 (below_alloc1 w1 (.cells #[] 2)))
          | (at_builtin; refine wpList_ap1 rfl _ _ rfl w1.heap.size w1.heap.size 0 0 k [] (L.take k) rfl hN2 _ _ k rfl hdl.out.2.1 (by have := cs_news hC2 0 k; rw [List.drop_zero] at this; exact this) (by omega) (by omega) (by simp) ?_; intro g2 cap2 w2 hO2 hg2 ha2; have hO1c := World.ownsRow.kept hO1b hg2 (.inr (fun e => by have h1 := (World.ownsRow.lt hO1 g1 rfl).2; have h2 : g1 = w1.heap.size := Option.some.inj e; omega)); have hB2 := bel_grown1 (hB1.alloc hB1.size (.cells #[] 2)) hg2 (fun r hr => by cases hr; exact hB1.size) (Nat.le_refl _); have hO2b := own_of_below hO2 (below_alloc1 w2 (.cells #[.int .i64 z] 2)); have hO1d := own_of_below hO1c (below_alloc1 w2 (.cells #[.int .i64 z] 2)))
          | (at_builtin; refine wpList_ap1 rfl _ _ rfl w1.heap.size g2 cap2 k (k + 1) _ [z] rfl hO2b _ _ 1 rfl rfl (cell1_at rfl) rfl (by omega) (by have := hB2.size; have := hg2.size; simp at this; simp; omega) ?_; intro g3 cap3 w3 hO3 hg3 ha3; have hO1e := World.ownsRow.kept hO1d hg3 (.inr (fun e => by have h1 := (World.ownsRow.lt hO1 g1 rfl).2; have h2 : g1 = g2 := Option.some.inj e; have h3 := (World.ownsRow.lt hO2 g2 rfl).1; omega)); have hB3 := bel_grown1 (hB2.alloc hB2.size (.cells #[.int .i64 z] 2)) hg3 (fun r hr => by cases hr; have := (World.ownsRow.lt hO2 g2 rfl).1; have := hB1.size; omega) (Nat.le_refl _))
          | (at_builtin; refine wpList_ap1 rfl _ _ rfl w1.heap.size g3 cap3 (k + 1) (k + 1) _ (L.drop k) rfl hO3 ⟨g1, 0, none⟩ cap1 0 rfl hdl.out.1 (fun j u hj => by have := (List.getElem?_eq_some_iff.1 hj).1; rw [flat1_len, hdl.out.1] at this; omega) rfl (by omega) (by have := hg3.size; have := hg2.size; simp at *; omega) ?_; intro g4 cap4 w4 hO4 hg4 ha4; have hB4 := bel_grown1 hB3 hg4 (fun r hr => by cases hr; have := (World.ownsRow.lt hO3 g3 rfl).1; have := hB1.size; omega) (Nat.le_refl _)))
        go_ret
        refine ⟨g4, cap4, by rw [hdl.out.2.2]; rfl, ?_, .inr (by have := (World.ownsRow.lt hO4 g4 rfl).1; have := hB1.size; omega), hB4⟩
        rw [hdl.out.2.2, HVL.out]
        have := own_mono hO4 (Nat.le_trans hbase hB1.size)
        simpa using this
end Go.Proofs.Ytgpgmndjkcpaoaa
