/-
  Seals: Chain, the program's and the spec's; the law's looks at lists of texts.
-/
import Derived.Test.YtkinbgcnenieeaaGreatDoorA3
namespace Go.Proofs.YtkinbgcnenieeaaGreatDoor
open Go.RowKit Go.Joins
attribute [local go_sem] Oper.semAt_some

def zT : ByteArray := ByteArray.empty
theorem getT {L : List ByteArray} {k : Nat} (hk : k < L.length) : L[k]? = some (L.getD k zT) := by simp [List.getD, hk]
theorem fold_take {L : List ByteArray} {k : Nat} {key : Int} (hk : k < L.length) : (L.take (k + 1)).foldl lnI key = lnI ((L.take k).foldl lnI key) (L.getD k zT) := by
  rw [List.take_add_one, List.foldl_append, getT hk]; rfl
theorem lnI_in {tag : Int} {s : ByteArray} (ht : inB tag = true) (h : s.size ≤ 200) : lnI tag s = hs s tag (s.size + 7) ∧ inB (lnI tag s) = true := by
  have e : lnI tag s = hs s tag (s.size + 7) := by unfold lnI slI; rw [if_pos h, if_pos ht]
  exact ⟨e, by rw [e]; exact inB_t.mpr (hs_bd (inB_t.mp ht) _)⟩
theorem fold_long {L : List ByteArray} {k : Nat} {key : Int} (hk : k < L.length) (h : 200 < (L.getD k zT).size) : L.foldl lnI key = -1 := by
  have e : L = L.take (k + 1) ++ L.drop (k + 1) := (List.take_append_drop ..).symm
  rw [e, List.foldl_append, fold_take hk]
  have : lnI ((L.take k).foldl lnI key) (L.getD k zT) = -1 := by unfold lnI; rw [if_neg (by omega)]
  rw [this, fold_no]

set_option maxHeartbeats 1000000 in
theorem iChain_any (key : Int) (p : Option Addr) (n cap : Nat) (L : List ByteArray) (hn : L.length = n) (w : World) (hL : SlG kT w p L) (hz : Hid (∀ s ∈ L, s.size ≤ 10000000)) (hb0 : n ≤ 10000000) :
    Calls Tryz.prog 60 #[.int .i64 key, .slice p n cap] w fun e w' => e = .returned (.int .i64 (chI key L)) ∧ Below w.heap.size w w' := by
  have HN : Hid (L.length = n) := hn
  have hch : chI key L = if inB key = true ∧ n ≤ 10 then L.foldl lnI key else -1 := by unfold chI; rw [hn]
  clear hn
  cases hv : inB key
  · go_enter Tryz.func60, Tryz.ntmps60
    go_wp2_with (go_at_call 33; refine (isSeal_v hv _).mono ?_; rintro e w1 ⟨rfl, hw1⟩; obtain rfl := hw1.symm)
    go_ret
    exact ⟨ret_i64 (by rw [hch, hv]; rfl), Below.refl _ _⟩
  by_cases h10 : n ≤ 10
  · have h10' : ¬ (10 : Int) < n := by omega
    have HC : Hid (chI key L = L.foldl lnI key) := by rw [hch, hv, if_pos ⟨rfl, h10⟩]; exact rfl
    clear hch
    go_enter Tryz.func60, Tryz.ntmps60
    go_wp2_with (go_at_call 33; refine (isSeal_v hv _).mono ?_; rintro e w1 ⟨rfl, hw1⟩; obtain rfl := hw1.symm)
    go_loopw [5, 19] (fun t i wr => ∃ (k : Nat) (x : Int), k ≤ n ∧ i = .int .i64 k ∧ t = .int .i64 x ∧ Hid (x = (L.take k).foldl lnI key) ∧ Below w.heap.size w wr) (fun _ i _ => n - (intOf i).toNat)
    case atStart => exact ⟨0, key, by omega, rfl, rfl, rfl, Below.refl _ _⟩
    case round =>
      obtain ⟨k, x, hk, rfl, rfl, hx, hb⟩ := hrel
      by_cases hlt : k < n
      · have hki : (k : Int) < n := by omega
        have hkL : k < L.length := by rw [HN.out]; exact hlt
        obtain ⟨g, off, rfl, hC⟩ := (hL.step hb).at hkL
        have c0 := hC.str (getT hkL)
        have hsz : (L.getD k zT).size ≤ 10000000 := hz.out _ (by simp [List.getD, hkL])
        have e1 := fold_take (key := key) hkL
        rw [← hx.out] at e1
        have HE : Hid ((L.take (k + 1)).foldl lnI key = lnI x (L.getD k zT)) := e1
        clear e1 hC hkL
        generalize L.getD k zT = s at c0 hsz HE
        go_wp2_with (go_at_call 29; refine (iLonger_any _ _ _ hsz).mono ?_; rintro e w1 ⟨rfl, hb1⟩)
        go_roundw
        case rel => exact ⟨k + 1, _, by omega, by go_num, rfl, HE.out.symm, bstep hb hb1 (Nat.le_refl _)⟩
        case measure => simp [intOf]; omega
      · obtain rfl : k = n := by omega
        go_wp2
        go_ret
        exact ⟨ret_i64 (by rw [HC.out, hx.out, ← HN.out, List.take_length]), hb⟩
  · have h10' : (10 : Int) < n := by omega
    go_enter Tryz.func60, Tryz.ntmps60
    go_wp2_with (go_at_call 33; refine (isSeal_v hv _).mono ?_; rintro e w1 ⟨rfl, hw1⟩; obtain rfl := hw1.symm)
    go_ret
    exact ⟨ret_i64 (by rw [hch, if_neg (fun h => h10 h.2)]), Below.refl _ _⟩

end Go.Proofs.YtkinbgcnenieeaaGreatDoor
