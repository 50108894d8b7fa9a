/-
  Planted: the program's.
-/
import Derived.Test.YtipfcmfcdfofmaaGreatGR
namespace Go.Proofs.YtipfcmfcdfofmaaGreat
open Go.RowKit Go.Joins
attribute [local go_sem] Oper.semAt_some

/-- What Planted answers: the Marks, the Nodes. -/
def plM (L : List Mk) : List Mk := if mksB L then L else []
def plN (L : List Mk) : List Nd := if mksB L then nodesOf (srtM fO L) else []
/-- The rows of a tree. -/
def treeR (vm vn : Value) (L : List Mk) (NL : List (Nd × Sv)) : List Rw := rG kM vm L :: trR vn NL
theorem areMarks_v {L : List Mk} {v : Bool} (hv : mksB L = v) (p : Option Addr) (cap n : Nat) (hn : L.length = n) (w : World) (hL : SlG kM w p L) (hb : n ≤ 10000000) :
    Calls Tryz.prog 38 #[.slice p n cap] w fun e w' => e = .returned (.bool v) ∧ Below w.heap.size w w' := by subst hv hn; exact areMarks_any p cap L w hL hb

set_option maxRecDepth 100000 in
set_option maxHeartbeats 4000000 in
theorem iPlanted_any (p : Option Addr) (cap : Nat) (L : List Mk) (m : Nat) (hm : L.length = m) (hb : m ≤ 10000000) (w : World) (hL : SlG kM w p L) {M : List Mk} {ts : List Nd} (hM : plM L = M) (hts : plN L = ts) :
    Calls Tryz.prog 9 #[.slice p m cap] w fun e w' => ∃ q c q2 c2 NL, e = .returned (.agg #[.slice q M.length c, .slice q2 ts.length c2]) ∧ NL.map Prod.fst = ts ∧ Sg w w' (treeR (.slice q M.length c) (.slice q2 ts.length c2) M NL) := by
  have hS0 := (Sg.nil w).lit kT [(⟨none, 0, 0⟩, ⟨none, 0, 0⟩)] 1 rfl (by decide) #[.slice none 0 0, .slice none 0 0] rfl
  have hb0 := below_alloc1 w (.cells #[.slice none 0 0, .slice none 0 0] 28)
  cases hv : mksB L
  · have e1 : M = [] := by rw [← hM]; simp [plM, hv]
    have e2 : ts = [] := by rw [← hts]; simp [plN, hv]
    subst e1 e2
    have HAM : Hid (∀ W, Below w.heap.size w W → Calls Tryz.prog 38 #[.slice p m cap] W fun e w' => e = .returned (.bool false) ∧ Below W.heap.size W w') := fun W h => areMarks_v hv p cap m hm W (hL.step h) hb
    clear hM hts hL
    go_enter Tryz.func9, Tryz.ntmps9
    go_wp2_with (go_at_call 38; refine (HAM.out _ hb0).mono ?_; rintro e w1 ⟨rfl, hb2⟩; have hS1 := hS0.step hb2; obtain ⟨t0, t1, tf, tg⟩ := hS1.two (K := kT) (g := w.heap.size) (c := 1) (p := (⟨none, 0, 0⟩, ⟨none, 0, 0⟩)) (by simp) rfl)
    have hS2 := ((Sg.setT (A := []) hS1 (⟨none, 0, 0⟩, ⟨none, 0, 0⟩)).sub (List.nil_sublist _)).nilRow kN |>.nilRow kM
    refine bodyPost_ret (v := .agg #[.slice none 0 0, .slice none 0 0]) (by simp [results, Tryz.results9, go_sem, t0, t1]) rfl ⟨none, 0, none, 0, [], rfl, rfl, ?_⟩
    exact hS2
  · have e1 : M = L := by rw [← hM]; simp [plM, hv]
    have e2 : nodesOf (srtM fO L) = ts := by rw [← hts]; simp [plN, hv]
    subst e1
    have h60 : m ≤ 60 := by have : M.length ≤ 60 := by have h := hv; simp [mksB] at h; exact h.1
                            omega
    rw [hm]
    obtain ⟨N, hN⟩ : ∃ N, ts.length = N := ⟨_, rfl⟩
    have HAM : Hid (∀ W, Below w.heap.size w W → Calls Tryz.prog 38 #[.slice p m cap] W fun e w' => e = .returned (.bool true) ∧ Below W.heap.size W w') := fun W h => areMarks_v hv p cap m hm W (hL.step h) hb
    have HCL : Hid (∀ W, Below w.heap.size w W → Calls Tryz.prog 39 #[.slice p m cap] W fun e w' => ∃ q c, e = .returned (.slice q m c) ∧ Sg W w' [rG kM (.slice q m c) M]) := fun W h => clone_any p cap M m hm W (hL.step h) (by omega)
    have HGR : Hid (∀ W, Below w.heap.size w W → Calls Tryz.prog 40 #[.slice p m cap] W fun e w' => ∃ q c NL, e = .returned (.slice q N c) ∧ NL.map Prod.fst = ts ∧ Sg W w' (trR (.slice q N c) NL)) := fun W h => grown_any p cap M m hm hv W (hL.step h) e2 hN
    rw [hN]
    clear hM hts hL hv e2 hN hm
    go_enter Tryz.func9, Tryz.ntmps9
    go_wp2_with (first
      | (go_at_call 38; refine (HAM.out _ hb0).mono ?_; rintro e w1 ⟨rfl, hb2⟩; have hS1 := hS0.step hb2)
      | (go_at_call 39; refine (HCL.out _ hS1.bel).mono ?_; rintro e w2 ⟨q, c, rfl, h2⟩; have hS2 := hS1.addL h2)
      | (go_at_call 40; refine (HGR.out _ hS2.bel).mono ?_; rintro e w3 ⟨q2, c2, NL, rfl, hNL, h3⟩; have hS3 := hS2.addL h3; obtain ⟨t0, t1, tf, tg⟩ := hS3.two (K := kT) (g := w.heap.size) (c := 1) (p := (⟨none, 0, 0⟩, ⟨none, 0, 0⟩)) (by simp) rfl))
    have hS4 : Sg w w3 ((trR (.slice q2 N c2) NL ++ [rG kM (.slice q m c) M]) ++ rG kT (.slice (some ⟨w.heap.size, 0, none⟩) 1 1) [(⟨none, 0, 0⟩, ⟨none, 0, 0⟩)] :: []) := by simpa using hS3
    have hS5 := (Sg.setT hS4 (⟨q, m, c⟩, ⟨q2, N, c2⟩)).sub (rs' := trR (.slice q2 N c2) NL ++ [rG kM (.slice q m c) M]) (List.sublist_append_left ..)
    refine bodyPost_ret (v := .agg #[.slice q m c, .slice q2 N c2]) (by simp [results, Tryz.results9, go_sem, t0, t1]) rfl ⟨q, c, q2, c2, NL, rfl, hNL, ?_⟩
    exact hS5.perm (List.perm_append_comm (l₂ := [_]))
end Go.Proofs.YtipfcmfcdfofmaaGreat
