/-
  Cells in order, one after the other: what comes next lies behind all that is there. Plain mathematics.
-/
import Derived.Test.YtkinbgcnenieeaaMM3
import Derived.Test.YtkinbgcnenieeaaMG3
namespace Go.Proofs.Ytkinbgcnenieeaa.M

theorem first_lo {c : T3} (h : c.ok = true) : D.firstI c = c.lo := by
  have h' : cellB c.l c.x c.y = true := h
  obtain ⟨n, n8, a1, a2, a3, hx, hx1, hy, hy1⟩ := ok_nat h
  obtain ⟨h0, h8, _⟩ := ok_iff.mp h
  have hsd : sd c.l = 2 ^ (8 - n) := by unfold sd; rw [← pw8 h0 h8, a3]
  have b1 := mul_bd h0 h8 hx (by rw [a2]; exact hx1)
  have b2 := mul_bd h0 h8 hy (by rw [a2]; exact hy1)
  have b3 := sd_bd h0 h8
  have hsp : spB (c.x * sd c.l) (c.y * sd c.l) = true := spB_t.mpr (by omega)
  unfold D.firstI
  simp only [rX, rY, h', if_true, ordI, hsp]
  rw [hsd]
  have hz := zz_split (c.x * 2 ^ (8 - n)) (c.y * 2 ^ (8 - n)) (8 - n) n
  rw [show 8 - n + n = 8 by omega, zz_low, half_low, half_low, Int.zero_add] at hz
  rw [hz]
  unfold T3.lo
  rw [sz_of a3, a2]
theorem next_ord {S : List T3} (hok : ∀ c ∈ S, c.ok = true) (hS : S.Pairwise fun a b => 0 ≤ D.cmpT b a) {k : Nat} (hk : k < S.length) : ∀ p ∈ S.take k, p.lo < S[k].lo ∨ (p.lo = S[k].lo ∧ S[k].hi ≤ p.hi) := by
  intro p hp
  obtain ⟨j, hj, rfl⟩ := List.mem_iff_getElem.mp hp
  have hjk : j < k := by simp at hj; omega
  simp only [List.getElem_take]
  have hjS : j < S.length := by omega
  have h := List.pairwise_iff_getElem.mp hS j k hjS hk hjk
  have oj := hok S[j] (List.getElem_mem _)
  have ok := hok S[k] (List.getElem_mem _)
  have h2 : ¬ D.cmpT S[k] S[j] < 0 := by omega
  rw [cmpT_lt, first_lo oj, first_lo ok] at h2
  rcases Int.lt_trichotomy S[j].lo S[k].lo with h3 | h3 | h3
  · exact .inl h3
  · right
    refine ⟨h3, ?_⟩
    have hl : S[j].l ≤ S[k].l := by omega
    have := (sz_le ok oj).mpr hl
    unfold T3.hi; omega
  · exact (h2 (.inl h3)).elim
theorem join_next {S : List T3} (hok : ∀ c ∈ S, c.ok = true) (hS : S.Pairwise fun a b => 0 ≤ D.cmpT b a) {k : Nat} (hk : k < S.length) {M : List T3} (hM : Canon M) (hcv : ∀ n, cov M n ↔ cov (S.take k) n) (hno : haveB M S[k] = false) : ∀ m ∈ M, m.hi ≤ S[k].lo := by
  intro m hm
  have oc := hok S[k] (List.getElem_mem _)
  have om := hM.ok m hm
  have hnf : ¬ full (cov M) S[k] := fun h => by have := (hM.have_iff oc).mpr h; rw [hno] at this; cases this
  have hord := next_ord hok hS hk
  -- a Cell of the first k that has all of the next one
  have key : ∀ p ∈ S.take k, p.lo ≤ S[k].lo → S[k].hi ≤ p.hi → False := fun p hp h1 h2 =>
    hnf fun n hn => (hcv n).mpr ⟨p, hp, by have := hn.1; omega, by have := hn.2; omega⟩
  have hml := m.lt
  obtain ⟨p, hp, p1, p2⟩ := (hcv m.lo).mp ⟨m, hm, Int.le_refl _, hml⟩
  have op := hok p (List.mem_of_mem_take hp)
  have ho := hord p hp
  rcases lam om oc with h | h | h | h
  · exact h
  · exact (key p hp (by omega) (by omega)).elim
  · obtain ⟨a1, a2⟩ := (ins_iff om oc).mp h
    have hcl := S[k].lt
    rcases lam op oc with h' | h' | h' | h'
    · omega
    · omega
    · obtain ⟨b1, b2⟩ := (ins_iff op oc).mp h'
      exact (key p hp (by omega) (by omega)).elim
    · obtain ⟨b1, b2⟩ := (ins_iff oc op).mp h'
      exact (key p hp b1 b2).elim
  · have : haveB M S[k] = true := List.any_eq_true.mpr ⟨m, hm, h⟩
    rw [hno] at this; cases this
theorem cov_take {S : List T3} {k : Nat} (hk : k < S.length) (n : Int) : cov (S.take (k + 1)) n ↔ cov (S.take k) n ∨ mem n S[k] := by
  rw [List.take_succ_eq_append_getElem hk, cov_append]
  refine or_congr Iff.rfl ⟨?_, fun h => ⟨_, by simp, h⟩⟩
  rintro ⟨c, hc, h⟩
  simp at hc; subst hc; exact h
theorem cov_perm {A B : List T3} (h : A.Perm B) (n : Int) : cov A n ↔ cov B n :=
  ⟨fun ⟨c, hc, hn⟩ => ⟨c, h.mem_iff.mp hc, hn⟩, fun ⟨c, hc, hn⟩ => ⟨c, h.mem_iff.mpr hc, hn⟩⟩
end Go.Proofs.Ytkinbgcnenieeaa.M
