/-
  Papers: the chain; Genuine, the program's and the spec's.
-/
import Derived.Test.YtkinbgcnenieeaaGreatDoorP8
import Derived.Deep.QuietTactic
import Derived.BigQuiet
namespace Go.Proofs.YtkinbgcnenieeaaGreatDoor
open Go.RowKit Go.Joins M
attribute [local go_sem] Oper.semAt_some

/-- A paper's own struct. -/
structure Pw where
  s : Sv
  tn : Int
  tag : Int
def kW : Kd Pw := ⟨53, 3, fun q => [.slice q.s.p q.s.n q.s.c, .int .i64 q.tn, .int .i64 q.tag], fun _ => rfl⟩
theorem ow_some {α : Type} {K : Kd α} {W : World} {base n c : Nat} {p : Option Addr} {L : List α} (h : OwG K W base (.slice p n c) L) (h0 : 0 < n) : ∃ g, p = some ⟨g, 0, none⟩ := by
  obtain ⟨g, off, rfl, _⟩ := (OwG.sl h).at (k := 0) (by have := OwG.len h; omega)
  have hz := OwG.zero h
  subst hz
  exact ⟨g, rfl⟩
theorem dg_size {n : Int} (h : tenB n = true) : (dgS n).size ≤ 200 := by
  have hb : 1 ≤ n ∧ n ≤ 99 := by unfold tenB at h; exact of_decide_eq_true h
  have := itoa_len (n := n) (k := 2) (by omega) (by omega) (by omega)
  unfold dgS; rw [txA_size]; omega
set_option maxRecDepth 100000 in
set_option maxHeartbeats 4000000 in
theorem chain_any (key : Int) {tn tag : Int} {p : Option Addr} {cap n : Nat} {QL : List CQ} (hn : QL.length = n) (hn1 : 1 ≤ n) (hb0 : n ≤ 6) (ht : tenB tn = true) (w : World) (hR : RdS w p QL) (hT : TB w) {v : Int} (hv : chI key (dgS tn :: txs (cls QL)) = v) :
    Calls Tryz.prog 34 #[.agg #[.slice p n cap, .int .i64 tn, .int .i64 tag], .int .i64 key] w fun e w' => e = .returned (.int .i64 v) ∧ Below w.heap.size w w' := by
  have hrow := (Sg.nil w).lit kW [⟨⟨p, n, cap⟩, tn, tag⟩] 1 rfl (by decide) #[.slice p n cap, .int .i64 tn, .int .i64 tag] rfl
  change Sg w (w.alloc (.cells #[.slice p n cap, .int .i64 tn, .int .i64 tag] 53)) _ at hrow
  have hb2 : -9223372036854775808 ≤ tn ∧ tn ≤ 9223372036854775807 := by unfold tenB at ht; have := of_decide_eq_true ht; omega
  have HX : Hid (∀ W, Below w.heap.size w W → Calls Tryz.prog 61 #[.slice p n cap] W fun e w' => ∃ g cp, e = .returned (.slice (some ⟨g, 0, none⟩) n cp) ∧ Sg W w' [rG kT (.slice (some ⟨g, 0, none⟩) n cp) (txs (cls QL))]) := fun W h => (texts_any p cap n QL hn (by omega) W (hR.step h) (hT.step h)).mono (by
    rintro e w' ⟨q, cp, rfl, hS⟩
    obtain ⟨g, rfl⟩ := ow_some (hS.mem (K := kT) (v := .slice q n cp) (L := txs (cls QL)) (by simp)) (by omega)
    exact ⟨g, cp, rfl, hS⟩)
  have HL : Hid ((txs (cls QL)).length = n ∧ (∀ s ∈ dgS tn :: txs (cls QL), s.size ≤ 10000000)) := ⟨by unfold txs; rw [List.length_map, cls_len, hn], fun s hs => by
    rcases List.mem_cons.mp hs with rfl | hs
    · have := dg_size ht; omega
    · unfold txs at hs
      obtain ⟨c, _, rfl⟩ := List.mem_map.mp hs
      have := ctx_size c; omega⟩
  have HM : Hid (([dgS tn] ++ txs (cls QL)).length = 1 + n) := by rw [List.length_append, HL.out.1]; exact rfl
  have HV := Lib.hid hv
  clear hn hR hv
  have HK : Hid (∀ w', Sg w w' [rG kW (.slice (some ⟨w.heap.size, 0, none⟩) 1 1) [⟨⟨p, n, cap⟩, tn, tag⟩]] → (w'.cell? ⟨w.heap.size, 0, none⟩ = some (.slice p n cap) ∧ w'.cell? ⟨w.heap.size, 1, none⟩ = some (.int .i64 tn))) := fun w' h => by
    obtain ⟨y0, y1, y2, _, _⟩ := h.three (K := kW) (g := w.heap.size) (n := 1) (p := ⟨⟨p, n, cap⟩, tn, tag⟩) (by simp) rfl
    exact ⟨y0, y1⟩
  have f0 : True := trivial
  go_enter Tryz.func34, Tryz.ntmps34
  go_wp2
  go_region_held3 (fun w' => Sg w w' [rG kW (.slice (some ⟨w.heap.size, 0, none⟩) 1 1) [⟨⟨p, n, cap⟩, tn, tag⟩]] ∧ (w'.cell? ⟨w.heap.size, 0, none⟩ = some (.slice p n cap) ∧ w'.cell? ⟨w.heap.size, 1, none⟩ = some (.int .i64 tn)))
    (first | exact ‹Sg _ _ _ ∧ _› | exact keepG HK (hS5.sub (by simp)) | exact keepG HK (hS4.sub (by simp)) | exact keepG HK (hrow.sub (by simp)) | exact keepG HK ((hrow.sub (by simp)).step ((below_alloc1 _ _))) | exact keepG HK ((hrow.sub (by simp)).step ((Below.refl _ _).drew)) | exact keepG HK ((hrow.sub (by simp)).step ((below_alloc1 _ _).drew)) | fail)
    (first
      | (go_at_call 44; refine (decimal_any _ hb2.1 hb2.2 _ (hT.step (‹Sg w _ _ ∧ _›).1.bel)).mono ?_; rintro e w2 ⟨rfl, hb3⟩; (first | (replace hrow := hrow.step hb3) | (replace hrow := (hrow.step (Below.refl _ _).drew).step hb3)))
      | (go_at_call 61; refine (HX.out _ hrow.bel).mono ?_; rintro e w3 ⟨q3, cp3, rfl, hw3⟩; replace hrow := hrow.addL hw3)
      | (go_at_call 61; refine (HX.out _ (hrow.step (Below.refl _ _).drew).bel).mono ?_; rintro e w3 ⟨q3, cp3, rfl, hw3⟩; replace hrow := (hrow.step (Below.refl _ _).drew).addL hw3)
      | (go_at_call 61; clear f0; have hlit := hrow.lit kT [dgS tn] 1 rfl (by decide) #[.string (dgS tn)] rfl; refine (HX.out _ hlit.bel).mono ?_; rintro e w3 ⟨q3, cp3, rfl, hw3⟩; replace hrow := hlit.addL hw3; clear hlit)
      | (go_at_call 60; refine (iChain_any key _ _ _ _ HM.out _ (OwG.sl (hS4.mem (K := kT) (v := .slice (some ⟨g4, 0, none⟩) (1 + n) cap4) (L := [dgS tn] ++ txs (cls QL)) (by simp))) HL.out.2 (by omega)).mono ?_; rintro e w5 ⟨rfl, hb5⟩; have hS5 := hS4.step hb5)
      | (have hl := hrow.lit kT [dgS tn] 1 rfl (by decide) #[.string (dgS tn)] rfl; refine step_sgapp appT (by rfl) _ _ (by rfl) (A := []) (M := [dgS tn]) (B := txs (cls QL)) (n := 1) (m := n) hl (Below.refl _ _) rfl HL.out.1 (by rfl) ⟨q3, 0, none⟩ cp3 (by rfl) (cs_src (OwG.cs (hl.mem (K := kT) (v := .slice (some ⟨q3, 0, none⟩) n cp3) (L := txs (cls QL)) (by simp)))) (oneTs _) (.inl (by omega)) (by omega) ?_; intro g4 cap4 w4 hS4 _ _)
      | (refine step_sgapp appT (by rfl) _ _ (by rfl) (A := [_]) (M := [dgS tn]) (B := txs (cls QL)) (n := 1) (m := n) hrow (Below.refl _ _) rfl HL.out.1 (by rfl) ⟨q3, 0, none⟩ cp3 (by rfl) (cs_src (OwG.cs (hrow.mem (K := kT) (v := .slice (some ⟨q3, 0, none⟩) n cp3) (L := txs (cls QL)) (by simp)))) (oneTs _) (.inl (by omega)) (by omega) ?_; intro g4 cap4 w4 hS4 _ _))
  all_goals
    go_wp2
    go_ret
    exact ⟨by rw [← HV.out]; rfl, hS5.bel⟩
end Go.Proofs.YtkinbgcnenieeaaGreatDoor
