/-
  Papers: Genuine, the program's and the spec's.
-/
import Derived.Test.YtkinbgcnenieeaaGreatP9
import Derived.Test.YtkinbgcnenieeaaGreatFq
namespace Go.Proofs.YtkinbgcnenieeaaGreat
open Go.RowKit Go.Joins M
attribute [local go_sem] Oper.semAt_some

theorem heldAs_any (tn tag : Int) (p : Option Addr) (n cap : Nat) (w : World) :
    Calls Tryz.prog 17 #[.agg #[.int .i64 tn, .slice p n cap, .int .i64 tag]] w fun e w' => e = .returned (.agg #[.slice p n cap, .int .i64 tn, .int .i64 tag]) ∧ Below w.heap.size w w' := by
  go_enter Tryz.func17, Tryz.ntmps17
  go_wp2
  refine bodyPost_ret (v := .agg #[.slice p n cap, .int .i64 tn, .int .i64 tag]) (by simp [results, Tryz.results17, go_sem]) rfl ⟨rfl, ?_⟩
  exact below_alloc2 _ _ _
/-- Is the Tag the chain by this key? -/
def genB (key tn : Int) (L : List Cl) (tag : Int) : Bool := ppB tn L tag && (tag == chI key (dgS tn :: txs L))
theorem ppB_t {tn tag : Int} {L : List Cl} (h : ppB tn L tag = true) : tenB tn = true ∧ (1 ≤ L.length ∧ L.length ≤ 6) ∧ L.all clB = true ∧ inB tag = true := by
  unfold ppB clsB at h
  rw [Bool.and_eq_true, Bool.and_eq_true, Bool.and_eq_true, decide_eq_true_iff] at h
  exact ⟨h.1, h.2.1.1, h.2.1.2, h.2.2⟩
/-- What the spec folds. -/
def hsF (h : Int) (s : ByteArray) : Int := hs s h (s.size + 7)
theorem fold_hs : ∀ {L : List ByteArray} {key : Int}, inB key = true → (∀ s ∈ L, s.size ≤ 200) → L.foldl lnI key = L.foldl hsF key ∧ inB (L.foldl hsF key) = true
  | [], key, hk, _ => ⟨rfl, hk⟩
  | s :: t, key, hk, hs => by
    obtain ⟨e1, e2⟩ := lnI_in hk (hs s (List.mem_cons_self ..))
    have ih := fold_hs (L := t) (key := lnI key s) e2 fun x hx => hs x (List.mem_cons_of_mem _ hx)
    have e3 : hsF key s = lnI key s := e1.symm
    rw [List.foldl_cons, List.foldl_cons, e3]
    exact ih
theorem chI_hs {key : Int} {L : List ByteArray} (hk : inB key = true) (hl : L.length ≤ 10) (hs : ∀ s ∈ L, s.size ≤ 200) : chI key L = L.foldl hsF key := by
  unfold chI; rw [if_pos ⟨hk, hl⟩, (fold_hs hk hs).1]
theorem tx_small (c : Cl) : (ctx c).size ≤ 200 := by have := ctx_size c; omega
theorem hsF_take {QL : List CQ} {k : Nat} {h0 : Int} (hk : k < QL.length) : (txs ((cls QL).take (k + 1))).foldl hsF h0 = hsF ((txs ((cls QL).take k)).foldl hsF h0) (ctx (QL.getD k zq).1) := by
  rw [txs_take hk, List.foldl_append]; rfl
theorem genB_no {key tn tag : Int} {L : List Cl} (hk : inB key = false) : genB key tn L tag = false := by
  unfold genB
  cases hv : ppB tn L tag
  · rfl
  · obtain ⟨_, _, _, h4⟩ := ppB_t hv
    have hb := inB_t.mp h4
    have e : chI key (dgS tn :: txs L) = -1 := by unfold chI; rw [if_neg (fun h => by rw [hk] at h; cases h.1)]
    rw [e, Bool.true_and]
    exact beq_false_of_ne (by omega)
end Go.Proofs.YtkinbgcnenieeaaGreat
