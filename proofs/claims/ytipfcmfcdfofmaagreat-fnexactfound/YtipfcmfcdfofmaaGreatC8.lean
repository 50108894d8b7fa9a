/-
  Chunks of four: the library's iterator over a list of Marks, and over a list of Nodes.
-/
import Derived.Test.YtipfcmfcdfofmaaGreatRU
namespace Go.Proofs.YtipfcmfcdfofmaaGreat
open Go.RowKit Go.Joins
attribute [local go_sem] Oper.semAt_some

def chV (g off s n : Nat) (k : Nat) : Value := .slice (some ⟨g, off + 4 * k * s, none⟩) (min 4 (n - 4 * k)) (min 4 (n - 4 * k))
set_option maxRecDepth 100000 in
set_option maxHeartbeats 2000000 in
theorem chunkM_seq (g off n cap b1 b2 : Nat) (hn : n ≤ 1000) (hcap : n ≤ cap) : SeqG Tryz.prog 125 #[.pointer (some ⟨b1, 0, none⟩), .pointer (some ⟨b2, 0, none⟩)] (chV g off 3 n) (cnt n) (fun W => W.cell? ⟨b1, 0, none⟩ = some (.slice (some ⟨g, off, none⟩) n cap) ∧ W.cell? ⟨b2, 0, none⟩ = some (.int .i64 4)) := by
  intro lp J W hJ hR hY h0
  refine callsIn_of_wp Tryz.func125 rfl trivial ?_ rfl
  simp only [Tryz.ntmps125, List.size_toArray, List.length_cons, List.length_nil, Nat.reduceAdd, Nat.reduceSub, Array.replicate_succ, Array.replicate_zero, List.push_toArray, List.append_toArray, List.nil_append, List.cons_append]
  gi_wp2
  gi_loopw [4] (fun iv wr => ∃ k j : Nat, iv = .int .i64 (j : Int) ∧ Hid (j = 4 * k ∧ k ≤ cnt n) ∧ J k wr) (fun iv _ => n + 4 - (intOf iv).toNat)
  case atStart => exact ⟨0, 0, rfl, ⟨rfl, Nat.zero_le _⟩, h0⟩
  case round =>
    obtain ⟨k, j, rfl, hk, hj⟩ := hrel
    obtain ⟨r1, r2⟩ := hR k wr hj
    have HJ : Hid (J k wr) := hj
    clear hj
    have hmo : Tryz.prog.follows .mixedOrders = true := by kernel_rfl
    by_cases hlt : j < n
    · have hji : (j : Int) < n := by omega
      have hd := hJ k wr wr.drew HJ.out (Below.refl _ _).drew
      obtain ⟨fn, tmps, assign, body, hy, hRR⟩ := hY k wr.drew (by have := hk.out; unfold cnt; omega) hd
      have HK : Hid (j = 4 * k ∧ k + 1 ≤ cnt n ∧ k ≤ cnt n) := (by have := hk.out; exact ⟨this.1, by unfold cnt; omega, this.2⟩)
      unfold chV at hy
      rw [← hk.out.1] at hy
      clear hk hd
      by_cases h4 : j + 4 ≤ n
      · have e1 : min 4 (n - j) = 4 := by omega
        have e2 : ((j : Int) + 4).toNat - j = 4 := by omega
        have e3 : ((j : Int) + 4).toNat = j + 4 := by omega
        have e4 : min (4 : Int) ((n - j : Nat) : Int) = 4 := by omega
        rw [e1] at hy
        clear e1
        gi_wp2
        gi_region_with_o (fail)
        all_goals
          gi_wp2
          refine hRR.mono ?_
          rintro e W3 ⟨rfl, hJ3⟩
          obtain ⟨s1, s2⟩ := hR _ W3 hJ3
          gi_wp2
          refine ⟨⟨k + 1, j + 4, by simp, ⟨by have := HK.out.1; omega, HK.out.2.1⟩, hJ3⟩, by simp [intOf]; omega⟩
      · obtain ⟨r, hr⟩ : ∃ r, n = j + r := ⟨n - j, by omega⟩
        subst hr
        have e0 : j + r - j = r := by omega
        have e1 : min 4 (j + r - j) = r := by omega
        have e2 : ((j : Int) + (r : Int)).toNat - j = r := by omega
        have e3 : ((j : Int) + (r : Int)).toNat = j + r := by omega
        have e4 : min (4 : Int) (r : Int) = r := by omega
        have e5 : ¬ (4 : Int) ≤ (r : Int) := by omega
        have e6 : (r : Int) < 4 := by omega
        rw [e1] at hy
        clear e1
        gi_wp2
        gi_region_with_o (fail)
        all_goals
          gi_wp2
          refine hRR.mono ?_
          rintro e W3 ⟨rfl, hJ3⟩
          obtain ⟨s1, s2⟩ := hR _ W3 hJ3
          gi_wp2
          refine ⟨⟨k + 1, j + 4, by simp, ⟨by have := HK.out.1; omega, HK.out.2.1⟩, hJ3⟩, by simp [intOf]; omega⟩
    · have hkc : k = cnt n := by have := hk.out; unfold cnt at this ⊢; omega
      gi_wp2
      go_end0
      exact ⟨⟨_, rfl⟩, by rw [← hkc]; exact HJ.out⟩
end Go.Proofs.YtipfcmfcdfofmaaGreat
