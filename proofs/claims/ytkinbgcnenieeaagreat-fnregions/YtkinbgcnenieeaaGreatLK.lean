/-
  Papers: the mathematics of the law; Papers that are alike; Spots picked.
-/
import Derived.Test.YtkinbgcnenieeaaGreatDC4
import Derived.Test.YtkinbgcnenieeaaGreatAL2
import Derived.Laws.StructEq
namespace Go.Proofs.YtkinbgcnenieeaaGreat
open Go.RowKit Go.Joins M
attribute [local go_sem] Oper.semAt_some

theorem genB_mint {key tn : Int} {c : Cl} (h : mintB key tn c = true) : genB key tn [c] (mtag key tn c) = true := by
  unfold mintB at h
  rw [Bool.and_eq_true, Bool.and_eq_true] at h
  obtain ⟨h1, h2, h3⟩ := h
  have hin : inB (mtag key tn c) = true := (fold_hs (L := [tx c]) (mt_in h3 h1) (fun s hs => by simp at hs; subst hs; have := tx_size h2; omega)).2
  unfold genB
  rw [ppB_one, h1, h2, hin, mt_chain h1 h2 h3]
  simp
theorem genB_tag {key tn : Int} {L : List Cl} {tag : Int} (h : genB key tn L tag = true) : tag = chI key (dgS tn :: txs L) := by
  unfold genB at h
  rw [Bool.and_eq_true] at h
  exact eq_of_beq h.2
theorem genB_uniq {key tn : Int} {L : List Cl} {a b : Int} (ha : genB key tn L a = true) (hne : b ≠ a) : genB key tn L b = false := by
  cases hb : genB key tn L b
  · rfl
  · exact absurd ((genB_tag hb).trans (genB_tag ha).symm) hne
theorem genB_key {key tn : Int} {L : List Cl} {tag : Int} (h : genB key tn L tag = true) : inB key = true := by
  cases hk : inB key
  · rw [genB_no hk] at h; cases h
  · rfl
theorem genB_nar {key tn : Int} {L : List Cl} {tag : Int} {c : Cl} (h : genB key tn L tag = true) (hn : narB tn L tag c = true) : genB key tn (L ++ [c]) (hsF tag (tx c)) = true := by
  have hk := genB_key h
  have ht := genB_tag h
  unfold narB at hn
  rw [Bool.and_eq_true, Bool.and_eq_true, decide_eq_true_iff] at hn
  obtain ⟨hp, hc, h6⟩ := hn
  obtain ⟨p1, p2, p3, p4⟩ := ppB_t hp
  have htx := tx_size hc
  have hin : inB (hsF tag (tx c)) = true := (fold_hs (L := [tx c]) p4 (fun s hs => by simp at hs; subst hs; omega)).2
  have hpp : ppB tn (L ++ [c]) (hsF tag (tx c)) = true := by
    unfold ppB clsB
    rw [p1, hin, List.all_append, p3]
    simp [hc]
    omega
  have e : ctx c = tx c := by unfold ctx; rw [if_pos hc]
  have small : ∀ K : List Cl, ∀ s ∈ dgS tn :: txs K, s.size ≤ 200 := fun K s hs => by
    rcases List.mem_cons.mp hs with rfl | hs
    · exact dg_size p1
    · unfold txs at hs; obtain ⟨x, _, rfl⟩ := List.mem_map.mp hs; exact tx_small x
  rw [chI_hs hk (by unfold txs; simp; omega) (small L)] at ht
  unfold genB
  rw [hpp, chI_hs hk (by unfold txs; simp; omega) (small (L ++ [c])), Bool.true_and]
  have e2 : txs (L ++ [c]) = txs L ++ [tx c] := by unfold txs; rw [List.map_append]; simp [e]
  rw [e2, ← List.cons_append, List.foldl_append, ← ht]
  simp
theorem alB_nar {tn : Int} {L : List Cl} {tag tag' : Int} {c : Cl} {x y : Int} {b : Bool} {now : Int} (hn : narB tn L tag c = true) (h : alB tn (L ++ [c]) tag' x y b now = true) : alB tn L tag x y b now = true := by
  unfold narB at hn
  rw [Bool.and_eq_true] at hn
  unfold alB at h ⊢
  rw [Bool.and_eq_true, Bool.and_eq_true, Bool.and_eq_true, List.all_append, List.all_append, Bool.and_eq_true, Bool.and_eq_true] at h
  rw [hn.1, h.2.1, h.2.2.1.1, h.2.2.2.1]
  rfl

set_option maxHeartbeats 1000000 in
theorem likeCells_same (p q : Option Addr) (cap cap' n : Nat) (L : List T3) (hn : L.length = n) (w : World) (hp : SlG kC w p L) (hq : SlG kC w q L) (hb0 : n ≤ 10000000) :
    Calls Tryz.prog 8 #[.slice p n cap, .slice q n cap'] w fun e w' => e = .returned (.bool true) ∧ Below w.heap.size w w' := by
  have HN : Hid (L.length = n) := hn
  clear hn
  go_enter Tryz.func8, Tryz.ntmps8
  go_wp2
  go_loopw [5] (fun i wr => ∃ k : Nat, k ≤ n ∧ i = .int .i64 k ∧ Below w.heap.size w wr) (fun i _ => n - (intOf i).toNat)
  case atStart => exact ⟨0, by omega, rfl, Below.refl _ _⟩
  case round =>
    obtain ⟨k, hk, rfl, hb⟩ := hrel
    by_cases hlt : k < n
    · have hki : (k : Int) < n := by omega
      have hkL : k < L.length := by rw [HN.out]; exact hlt
      obtain ⟨g1, o1, rfl, hC1⟩ := (hp.step hb).at hkL
      obtain ⟨g2, o2, rfl, hC2⟩ := (hq.step hb).at hkL
      obtain ⟨c0, c1, c2⟩ := hC1.c3 (getC hkL)
      obtain ⟨d0, d1, d2⟩ := hC2.c3 (getC hkL)
      generalize L.getD k z3 = m at c0 c1 c2 d0 d1 d2
      clear hC1 hC2
      go_wp2
      go_quiet (fail)
      go_wp2
      go_roundw
      case rel => exact ⟨k + 1, by omega, by go_num, below_drewN hb _⟩
      case measure => simp [intOf]; omega
    · obtain rfl : k = n := by omega
      go_wp2
      go_ret
      exact ⟨rfl, hb⟩
set_option maxHeartbeats 1000000 in
theorem spotN (a : Option Addr) (len cap : Nat) (zs : List Int) (seed m : Int) (g : Nat) (w : World) (hl : len ≤ 4096) (hr : Rd w g a len zs) (hs1 : 0 ≤ seed) (hs2 : seed ≤ 100) (hm : 1 ≤ m) :
    Calls Tryz.prog 13 #[.slice a len cap, .int .i64 seed, .int .i64 m] w fun e w' => ∃ x y : Int, e = .returned (.agg #[.int .i64 x, .int .i64 y]) ∧ Below w.heap.size w w' := by
  have HR : Hid (Rd (w.alloc (.cells #[.int .i64 0, .int .i64 0] 32)) (g + w.heap.size) a len zs) := hr.up (below_alloc1 _ _) (by omega)
  clear hr
  have tok1 : True := trivial
  go_enter Tryz.func13, Tryz.ntmps13
  go_wp2_with (first
    | (go_at_call 35; have _t := tok1; clear _t tok1; refine (pick_any a len cap zs _ _ _ _ hl HR.out (by omega) (by omega) (by omega)).mono ?_; rintro e w1 ⟨x, rfl, hx0, hx1, rfl⟩)
    | (go_at_call 35; refine (pick_any a len cap zs _ _ _ _ hl HR.out (by omega) (by omega) (by omega)).mono ?_; rintro e w2 ⟨y, rfl, hy0, hy1, rfl⟩))
  refine bodyPost_ret (v := .agg #[.int .i64 x, .int .i64 y]) (by simp [results, Tryz.results13, go_sem]) rfl ⟨_, _, rfl, ?_⟩
  exact below_alloc1 _ _
end Go.Proofs.YtkinbgcnenieeaaGreat
