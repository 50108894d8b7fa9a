/-
  slices.Compact over Spots: of like ones in a row the first is kept.
-/
import Derived.Test.YtkpkigllabhejaaC0
namespace Go.Proofs.Ytkpkigllabhejaa
open Go.RowKit Go.Joins
attribute [local go_sem ↓] Go.wp_at_zero Go.wp_at_succ

theorem cmpc_nil : cmpc [] = [] := by simp [cmpc]
theorem cmpc_one (a : T2) : cmpc [a] = [a] := by simp [cmpc]
theorem cmpc_cons2 (c d : T2) (r : List T2) : cmpc (c :: d :: r) = if eqB c d then cmpc (d :: r) else c :: cmpc (d :: r) := by rw [cmpc]
theorem cmpc_app2 : ∀ (A : List T2) (a b : T2), cmpc (A ++ [a, b]) = if eqB a b then cmpc (A ++ [a]) else cmpc (A ++ [a]) ++ [b]
  | [], a, b => by
    simp only [List.nil_append]
    rw [cmpc_cons2, cmpc_one, cmpc_one]
    split
    · rename_i h
      rw [eqB_t] at h; subst h; rfl
    · rfl
  | [c], a, b => by
    have ih := cmpc_app2 [] a b
    simp only [List.nil_append] at ih
    simp only [List.cons_append, List.nil_append]
    rw [cmpc_cons2 c a [b], cmpc_cons2 c a [], ih]
    cases eqB c a <;> cases eqB a b <;> simp
  | c :: d :: A, a, b => by
    have ih := cmpc_app2 (d :: A) a b
    simp only [List.cons_append] at ih ⊢
    rw [cmpc_cons2 c d, cmpc_cons2 c d, ih]
    cases eqB c d <;> cases eqB a b <;> simp
theorem take_snoc {S : List T2} {j : Nat} {a : T2} (h : S[j]? = some a) : S.take (j + 1) = S.take j ++ [a] := by rw [List.take_add_one, h]; rfl
theorem cmpc_take {S : List T2} {j : Nat} {a b : T2} (ha : S[j]? = some a) (hb : S[j + 1]? = some b) : cmpc (S.take (j + 1 + 1)) = if eqB a b then cmpc (S.take (j + 1)) else cmpc (S.take (j + 1)) ++ [b] := by
  rw [take_snoc hb, take_snoc ha, List.append_assoc]
  exact cmpc_app2 _ a b
theorem eqB_comm (a b : T2) : eqB a b = eqB b a := by unfold eqB; rw [decide_eq_decide.mpr (show a.x = b.x ↔ b.x = a.x from ⟨Eq.symm, Eq.symm⟩), decide_eq_decide.mpr (show a.y = b.y ↔ b.y = a.y from ⟨Eq.symm, Eq.symm⟩)]

set_option maxRecDepth 100000 in
set_option maxHeartbeats 4000000 in
theorem compact_any (base g cap : Nat) (S : List T2) (w : World) (hL : Ow w base (.slice (some ⟨g, 0, none⟩) S.length cap) S) (hn : S.length ≤ 1000000) (hn1 : 1 ≤ S.length) :
    Calls Try.prog 33 #[.slice (some ⟨g, 0, none⟩) S.length cap] w fun e w' => e = .returned (.slice (some ⟨g, 0, none⟩) (cmpc S).length cap) ∧ Ow w' base (.slice (some ⟨g, 0, none⟩) (cmpc S).length cap) (cmpc S) ∧ w.grownBy w' (some g) := by
  have hcap : S.length ≤ cap := by obtain ⟨_, _, _, _, h⟩ := Ow.some hL (by omega); exact h
  by_cases h2 : S.length < 2
  · have h2i : (S.length : Int) < 2 := by omega
    have hS : Hid (cmpc S = S) := by
      match S, h2, hn1 with
      | [a], _, _ => exact cmpc_one a
    go_enter Try.func33, Try.ntmps33
    go_wp2
    go_ret
    rw [hS.out]; exact ⟨rfl, hL, grefl _ _⟩
  have h2i : ¬ (S.length : Int) < 2 := by omega
  have hS1 : cmpc (S.take 1) = S.take 1 := by
    match S, h2 with
    | a :: b :: t, _ => exact cmpc_one a
    | [a], h => exact absurd (by simp) h
    | [], h => exact absurd (by simp) h
  go_enter Try.func33, Try.ntmps33
  go_wp2
  go_loopw [3] (fun kv wr => ∃ k j : Nat, k ≤ S.length ∧ Hid (k = j + 1) ∧ kv = .int .i64 k ∧ Hid (cmpc (S.take k) = S.take k) ∧ Ow wr base (.slice (some ⟨g, 0, none⟩) S.length cap) S ∧ w.grownBy wr (some g)) (fun kv _ => S.length - (intOf kv).toNat)
  case atStart => exact ⟨1, 0, by omega, rfl, rfl, hS1, hL, grefl _ _⟩
  case round =>
    clear hL hS1
    obtain ⟨k, j, hk, hkj, rfl, hc, hO, hg⟩ := hrel
    by_cases hlt : k < S.length
    · have hki : (k : Int) < S.length := by omega
      have hk0 : (0 : Int) ≤ (k : Int) := by omega
      have hj0 : (0 : Int) ≤ (j : Int) := by omega
      have hjk : j < S.length := by have := hkj.out; omega
      have hji : (j : Int) < S.length := by omega
      obtain ⟨b, hb⟩ : ∃ b, S[k]? = some b := ⟨_, List.getElem?_eq_getElem hlt⟩
      obtain ⟨a, ha⟩ : ∃ a, S[j]? = some a := ⟨_, List.getElem?_eq_getElem hjk⟩
      obtain ⟨b0, b1⟩ := (Ow.cs hO).2 k b hb
      obtain ⟨a0, a1⟩ := (Ow.cs hO).2 j a ha
      simp only [Nat.zero_add] at a0 a1 b0 b1
      have hw : IntKind.i64.wrap ((k : Int) - 1) = j := by rw [IntKind.wrap_i64]; have := hkj.out; omega
      have HC : Hid (cmpc (S.take (k + 1)) = if eqB b a then cmpc (S.take k) else cmpc (S.take k) ++ [b]) := by
        have := hkj.out; subst this
        rw [eqB_comm]; exact cmpc_take ha hb
      have HT : Hid (S.take (k + 1) = S.take k ++ [b]) := take_snoc hb
      have hql := fun W => run_eqlT b a W
      cases heq : eqB b a
      · rw [heq] at hql HC
        go_wp2_with fail
        go_quiet (fail)
        go_wp2_with fail
        go_roundw
        case rel =>
          refine ⟨k + 1, k, by omega, rfl, by go_num, ?_, own_of_below hO (below_drewN _ _), gdrewN hg _⟩
          unfold Hid
          rw [HC.out, HT.out, hc.out]; rfl
        case measure => simp [intOf]; omega
      · rw [heq] at hql HC
        go_wp2_with fail
        go_quiet (fail)
        generalize hWe : World.drewN _ _ = W2
        replace hO : Ow W2 base (.slice (some ⟨g, 0, none⟩) S.length cap) S := by rw [← hWe]; exact own_of_below hO (below_drewN _ _)
        replace hg : w.grownBy W2 (some g) := by rw [← hWe]; exact gdrewN hg _
        clear hWe a0 a1 b0 b1 hql ha hb hw hji hj0 hjk heq HT
        have hS1 : Hid (S.take k = cmpc (S.take (k + 1))) := by unfold Hid; rw [HC.out, hc.out]; rfl
        clear HC hc hkj
        have hck : ¬ cap = k := by omega
        have hkc : k ≤ cap := by omega
        have hkI : (k : Int) ≤ (S.length : Int) := by omega
        go_wp2
        generalize hn2 : S.length - k = n2
        generalize cap - k = c2
        have HN : Hid (S.length = k + n2) := by unfold Hid; omega
        have hn2b : n2 ≤ 1000000 := by omega
        clear hn2
        go_loopw [3, 5] (fun kv k2v wq => ∃ (kk k2 q : Nat) (M : List T2), kv = .int .i64 kk ∧ k2v = .int .i64 k2 ∧ Hid (k2 = q + 1 ∧ k2 ≤ n2 ∧ k ≤ kk ∧ kk ≤ k + q ∧ M.length = S.length) ∧ Hid (M.take kk = cmpc (S.take (k + k2))) ∧ Hid (∀ t, k + q ≤ t → M[t]? = S[t]?) ∧ Ow wq base (.slice (some ⟨g, 0, none⟩) S.length cap) M ∧ w.grownBy wq (some g)) (fun _ k2v _ => n2 - (intOf k2v).toNat)
        case atStart => exact ⟨k, 1, 0, S, rfl, rfl, ⟨by omega, by have := HN.out; omega, by omega, by omega, rfl⟩, hS1, fun _ _ => rfl, hO, hg⟩
        case round =>
          clear hO hg hS1
          obtain ⟨kk, k2, q, M, rfl, rfl, hA, hT, hR, hO, hg⟩ := hrel
          have hML : Hid (M.length = S.length) := hA.out.2.2.2.2
          have hkkS : kk < S.length := by have := hA.out; have := HN.out; omega
          have hkk0 : (0 : Int) ≤ (kk : Int) := by omega
          have hkkI : (kk : Int) < (S.length : Int) := by omega
          have hO2 := hO
          unfold Ow at hO2
          rw [hML.out] at hO2
          have hf := hO2.frozenAt
          by_cases hlt2 : k2 < n2
          · have hk2i : (k2 : Int) < (n2 : Int) := by omega
            have hk20 : (0 : Int) ≤ (k2 : Int) := by omega
            have hq0 : (0 : Int) ≤ (q : Int) := by omega
            have hqi : (q : Int) < (n2 : Int) := by have := hA.out; omega
            have hw : IntKind.i64.wrap ((k2 : Int) - 1) = q := by rw [IntKind.wrap_i64]; have := hA.out; have := HN.out; omega
            obtain ⟨d, hd⟩ : ∃ d, S[k + k2]? = some d := ⟨_, List.getElem?_eq_getElem (by have := HN.out; omega)⟩
            obtain ⟨c, hc⟩ : ∃ c, S[k + q]? = some c := ⟨_, List.getElem?_eq_getElem (by have := HN.out; have := hA.out; omega)⟩
            obtain ⟨u, hu⟩ : ∃ u, M[kk]? = some u := ⟨_, List.getElem?_eq_getElem (by rw [hML.out]; exact hkkS)⟩
            have HC : Hid (cmpc (S.take (k + (k2 + 1))) = if eqB d c then cmpc (S.take (k + k2)) else cmpc (S.take (k + k2)) ++ [d]) := by
              obtain ⟨rfl, _⟩ := hA.out
              rw [eqB_comm]
              exact cmpc_take hc hd
            have hcells : ∀ W, Ow W base (.slice (some ⟨g, 0, none⟩) S.length cap) M → ((W.cell? ⟨g, k * 2 + k2 * 2, none⟩ = some (.int .i64 d.x) ∧ W.cell? ⟨g, k * 2 + k2 * 2 + 1, none⟩ = some (.int .i64 d.y)) ∧ (W.cell? ⟨g, k * 2 + q * 2, none⟩ = some (.int .i64 c.x) ∧ W.cell? ⟨g, k * 2 + q * 2 + 1, none⟩ = some (.int .i64 c.y)) ∧ (W.cell? ⟨g, kk * 2, none⟩ = some (.int .i64 u.x) ∧ W.cell? ⟨g, kk * 2 + 1, none⟩ = some (.int .i64 u.y))) := by
              intro W hW
              have r1 := (Ow.cs hW).2 (k + k2) d (by rw [hR.out _ (by have := hA.out; omega)]; exact hd)
              have r2 := (Ow.cs hW).2 (k + q) c (by rw [hR.out _ (by omega)]; exact hc)
              have r3 := (Ow.cs hW).2 kk u hu
              rw [Nat.zero_add, Nat.add_mul] at r1 r2
              rw [Nat.zero_add] at r3
              exact ⟨r1, r2, r3⟩
            clear hd hc hu
            obtain ⟨⟨d0, d1⟩, ⟨c0, c1⟩, _⟩ := hcells _ hO
            have hql := fun W => run_neqT d c W
            cases heq : eqB d c
            · rw [heq] at hql HC
              go_wp2_with fail
              go_quiet (fail)
              generalize hWe : World.drewN _ _ = W3
              replace hO : Ow W3 base (.slice (some ⟨g, 0, none⟩) S.length cap) M := by rw [← hWe]; exact own_of_below hO (below_drewN _ _)
              replace hg : w.grownBy W3 (some g) := by rw [← hWe]; exact gdrewN hg _
              clear hO2 hf hWe d0 d1 c0 c1
              have hO2 := hO
              unfold Ow at hO2
              rw [hML.out] at hO2
              have hf := hO2.frozenAt
              obtain ⟨⟨d0, d1⟩, _, ⟨u0, u1⟩⟩ := hcells _ hO
              clear hcells
              go_wp2
              go_roundw
              case rel =>
                obtain ⟨s1, t1⟩ := hO2.stored (kk * 2) (.int .i64 d.x)
                obtain ⟨s2, t2⟩ := s1.stored (kk * 2 + 1) (.int .i64 d.y)
                have hml := hML.out
                have ha' := hA.out
                refine ⟨kk + 1, k2 + 1, k2, M.set kk d, by go_num, by go_num, ⟨rfl, by omega, by omega, by omega, by simp [hml]⟩, ?_, fun t ht => ?_, ?_, gtrans hg (gtrans t1 t2)⟩
                · unfold Hid
                  rw [HC.out, ← hT.out, List.take_succ_eq_append_getElem (by simp; omega), List.take_set_of_le (Nat.le_refl _), List.getElem_set_self]
                  rfl
                · rw [List.getElem?_set_ne (by omega)]; exact hR.out t (by omega)
                · rw [flat_set d (by omega)] at s2
                  unfold Ow; rw [List.length_set, hml]
                  exact s2
              case measure => simp [intOf]; omega
            · rw [heq] at hql HC
              go_wp2_with fail
              go_quiet (fail)
              go_wp2_with fail
              go_roundw
              case rel =>
                have ha' := hA.out
                refine ⟨kk, k2 + 1, k2, M, rfl, by go_num, ⟨rfl, by omega, by omega, by omega, ha'.2.2.2.2⟩, ?_, fun t ht => hR.out t (by omega), own_of_below hO (below_drewN _ _), gdrewN hg _⟩
                unfold Hid
                rw [HC.out, hT.out]; rfl
              case measure => simp [intOf]; omega
          · have hk2i : ¬ (k2 : Int) < (n2 : Int) := by omega
            have hfin : Hid (M.take kk = cmpc S) := by
              have := hA.out
              have hn := HN.out
              have e : k + k2 = S.length := by omega
              have h := hT.out
              rw [e, List.take_length] at h
              exact h
            obtain ⟨W', N, hcl, hO', hN, hg'⟩ := run_clearT (k := kk) (cap - kk) hO (by rw [hML.out]; exact hkkS)
            rw [hML.out] at hcl
            have hNl : Hid (N.length = S.length) := by
              rcases hO'.2 with ⟨h, _⟩ | ⟨_, _, _, h, _⟩
              · cases h
              · injection h with _ h; exact h.symm
            have hck2 : ¬ cap = kk := by omega
            have hkkc : kk ≤ cap := by omega
            have hkkI2 : (kk : Int) ≤ (S.length : Int) := by omega
            clear hO2 hf
            go_wp2
            go_ret
            have hlen : (M.take kk).length = kk := by rw [List.length_take, hML.out]; omega
            rw [← hfin.out, hlen]
            refine ⟨rfl, ?_, gtrans hg hg'⟩
            unfold Ow
            rw [hlen]
            unfold Ow at hO'
            rw [hNl.out, ← List.take_append_drop kk N, hN] at hO'
            exact own_take hO' hlen.symm (by omega)
    · have hki : ¬ (k : Int) < S.length := by omega
      have hkS : Hid (cmpc S = S) := by
        have e : k = S.length := by omega
        have h := hc.out
        rw [e, List.take_length] at h
        exact h
      go_wp2
      go_ret
      rw [hkS.out]; exact ⟨rfl, hO, hg⟩
end Go.Proofs.Ytkpkigllabhejaa
