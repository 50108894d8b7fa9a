/-
  The forks' shapes: a row of chunks of the last row of Nodes.
-/
import Derived.Test.YtipfcmfcdfofmaaGreatL8
namespace Go.Proofs.YtipfcmfcdfofmaaGreat
open Go.Shelf Go.RowKit Go.Joins
attribute [local go_sem] Oper.semAt_some

def forkV (g off fr r : Nat) (k : Nat) : Value := .iface 152 (.agg #[.int .i64 ((fr + 4 * k : Nat) : Int), chV g off 6 r k])
def forkVs (g off fr r k : Nat) : List Value := (List.range k).map (forkV g off fr r)
theorem forkVs_succ (g off fr r k : Nat) : forkVs g off fr r (k + 1) = forkVs g off fr r k ++ [forkV g off fr r k] := by simp [forkVs, List.range_succ]
theorem forkVs_len (g off fr r k : Nat) : (forkVs g off fr r k).length = k := by simp [forkVs]
def fk (fr r k : Nat) : Nat := min (fr + 4 * k) (fr + r)

set_option maxRecDepth 100000 in
set_option maxHeartbeats 4000000 in
theorem forks_any (g off cap fr r : Nat) (hr : 0 < r) (hfr : fr ≤ 1000) (hrr : r ≤ 1000) (hcap : fr + r ≤ cap) (w : World) :
    Calls Tryz.prog 82 #[.slice (some ⟨g, off, none⟩) (fr + r) cap, .int .i64 fr] w fun e w' => ∃ q c, e = .returned (.slice q (cnt r) c) ∧ Sg w w' [rG kV (.slice q (cnt r) c) (forkVs g (off + fr * 6) fr r (cnt r))] := by
  have hS0 := ((Sg.nil w).lit (kJ 3) [(fr : Int)] 1 rfl (by decide) #[.int .i64 fr] rfl).lit (kQ 114) [⟨none, 0, 0⟩] 1 rfl (by decide) #[.slice none 0 0] rfl
  have hne : ¬ cap = fr := by omega
  have hsub : fr + r - fr = r := by omega
  refine (callsIn_wide (n := 3)).1 ?_
  refine callsIn_of_wp_marks Tryz.func82 rfl trivial ?_ rfl
  simp only [Tryz.ntmps82, List.size_toArray, List.length_cons, List.length_nil, Nat.reduceAdd, Nat.reduceSub, Array.replicate_succ, Array.replicate_zero, List.push_toArray, List.append_toArray, List.nil_append, List.cons_append]
  gi_wp2_with (refine ⟨trivial, ?_⟩; gi_at_call 105; refine (callsIn_wide.2 (chunkN_any _ _ _ _)).mono ?_; rintro e w2 ⟨rfl, rfl⟩)
  have hS3 := ((hS0.lit (kQ 26) [⟨some ⟨g, off + fr * 6, none⟩, r, cap - fr⟩] 1 rfl (by decide) #[.slice (some ⟨g, off + fr * 6, none⟩) r (cap - fr)] rfl).lit (kJ 3) [4] 1 rfl (by decide) #[.int .i64 4] rfl).nilRow kV
  simp only [World.size_alloc] at hS3
  change Sg w ((((w.alloc (.cells #[.int .i64 fr] 3)).alloc (.cells #[.slice none 0 0] 114)).alloc (.cells #[.slice (some ⟨g, off + fr * 6, none⟩) r (cap - fr)] 26)).alloc (.cells #[.int .i64 4] 3)) _ at hS3
  obtain ⟨W0, hW0⟩ : ∃ W0, (((w.alloc (.cells #[.int .i64 fr] 3)).alloc (.cells #[.slice none 0 0] 114)).alloc (.cells #[.slice (some ⟨g, off + fr * 6, none⟩) r (cap - fr)] 26)).alloc (.cells #[.int .i64 4] 3) = W0 := ⟨_, rfl⟩
  have HD : Hid (W0.heap.size = w.heap.size + 1 + 1 + 1 + 1) := (show W0.heap.size = w.heap.size + 1 + 1 + 1 + 1 by rw [← hW0]; simp)
  rw [hW0] at hS3 ⊢
  clear hW0 hS0
  have hcap2 : r ≤ cap - fr := by omega
  refine range_grow (gf := 127) (lb := #[.pointer (some ⟨w.heap.size + 1 + 1, 0, none⟩), .pointer (some ⟨w.heap.size + 1 + 1 + 1, 0, none⟩)]) rfl (enters_of Tryz.func127 (by kernel_rfl) rfl) (chunkN_seq g (off + fr * 6) r (cap - fr) (w.heap.size + 1 + 1) (w.heap.size + 1 + 1 + 1) hrr hcap2)
    (fun k W => ∃ q c, Sg w W [rG kV (.slice q k c) (forkVs g (off + fr * 6) fr r k), rG (kJ 3) (.slice (some ⟨w.heap.size + 1 + 1 + 1, 0, none⟩) 1 1) [4], rG (kQ 26) (.slice (some ⟨w.heap.size + 1 + 1, 0, none⟩) 1 1) [⟨some ⟨g, off + fr * 6, none⟩, r, cap - fr⟩], rG (kQ 114) (.slice (some ⟨w.heap.size + 1, 0, none⟩) 1 1) [⟨q, k, c⟩], rG (kJ 3) (.slice (some ⟨w.heap.size, 0, none⟩) 1 1) [((fk fr r k : Nat) : Int)]] ∧ (Value.slice q k c).ownBlock ≠ some W0.heap.size ∧ (Value.slice q k c).ownBlock ≠ some (W0.heap.size + 1))
    ?stab ?req ⟨none, 0, by simpa [fk, forkVs] using hS3, by simp [Value.ownBlock], by simp [Value.ownBlock]⟩
    (fun k => { defers := [], tmps := #[Value.slice (some { block := g, off := off }) (fr + r) cap, Value.int IntKind.i64 ↑fr, undef,
          Value.pointer (some { block := w.heap.size, off := 0 }), Value.slice none 0 0,
          Value.pointer (some { block := w.heap.size + 1, off := 0 }), chV g (off + fr * 6) 6 r k,
          Value.slice (some { block := g, off := off }) (fr + r) cap, Value.int IntKind.i64 ↑fr,
          Value.slice (some { block := g, off := off + fr * 6 }) r (cap - fr),
          Value.func (Fn.func 127) #[]
            #[Value.pointer (some { block := w.heap.size + 1 + 1, off := 0 }),
              Value.pointer (some { block := w.heap.size + 1 + 1 + 1, off := 0 })],
          chV g (off + fr * 6) 6 r k, undef, undef, undef, undef, undef, undef, undef, undef, undef, undef, undef, undef] }) ?assign ?body ?done
  case stab =>
    rintro k X Y ⟨q, c, h1, h2, h3⟩ hG
    refine ⟨q, c, h1.gr hG (by have := HD.out; omega) ?_, h2, h3⟩
    intro r hr
    simp only [List.mem_cons, List.not_mem_nil, or_false] at hr
    rcases hr with rfl | rfl | rfl | rfl | rfl
    · exact h3
    all_goals (have := HD.out; simp [rG, Value.ownBlock]; omega)
  case req =>
    rintro k X ⟨q, c, h1, h2, h3⟩
    exact ⟨(h1.one (K := kQ 26) (g := w.heap.size + 1 + 1) (c := 1) (p := ⟨some ⟨g, off + fr * 6, none⟩, r, cap - fr⟩) (by simp) rfl).1, (h1.one (K := kJ 3) (g := w.heap.size + 1 + 1 + 1) (c := 1) (p := 4) (by simp) rfl).1⟩
  case assign =>
    intro l1 k W K hK
    gi_wp2
    exact hK
  case body =>
    rintro l1 k W hkN ⟨q, c, h1, h2, h3⟩ hz
    have h4k : 4 * k < r := by unfold cnt at hkN; omega
    have hk250 : k ≤ 250 := by omega
    have e1 : fk fr r k = fr + 4 * k := by unfold fk; omega
    have e2 : fk fr r (k + 1) = fr + 4 * k + min 4 (r - 4 * k) := by unfold fk; omega
    rw [e1] at h1
    obtain ⟨t0, tf, tg⟩ := h1.one (K := kQ 114) (g := w.heap.size + 1) (c := 1) (p := ⟨q, k, c⟩) (by simp) rfl
    obtain ⟨s0, sf, sg⟩ := h1.one (K := kJ 3) (g := w.heap.size) (c := 1) (p := ((fr + 4 * k : Nat) : Int)) (by simp) rfl
    have HLS : Hid (forkVs g (off + fr * 6) fr r (k + 1) = forkVs g (off + fr * 6) fr r k ++ [forkV g (off + fr * 6) fr r k]) := forkVs_succ _ _ _ _ _
    have HLL : Hid ((forkVs g (off + fr * 6) fr r k).length = k) := forkVs_len _ _ _ _ _
    have hlv : forkV g (off + fr * 6) fr r k = .iface 152 (.agg #[.int .i64 ((fr + 4 * k : Nat) : Int), chV g (off + fr * 6) 6 r k]) := rfl
    unfold chV at hlv ⊢
    obtain ⟨e, he⟩ : ∃ e, min 4 (r - 4 * k) = e := ⟨_, rfl⟩
    have he4 : e ≤ 4 := by omega
    obtain ⟨f, hf⟩ : ∃ f, fr + 4 * k = f := ⟨_, rfl⟩
    obtain ⟨A, hA⟩ : ∃ A, off + fr * 6 + 4 * k * 6 = A := ⟨_, rfl⟩
    have hf2 : f ≤ 10000 := by omega
    simp only [he, hf, hA] at hlv e2 h1 s0 ⊢
    have HLV : Hid (forkV g (off + fr * 6) fr r k = .iface 152 (.agg #[.int .i64 (f : Int), .slice (some ⟨g, A, none⟩) e e])) := hlv
    have HE2 : Hid (fk fr r (k + 1) = f + e) := e2
    clear hlv hkN e1 e2 he hf hA
    gi_wp2_with (gi_at_builtin; refine wpListIn_sgapp appV rfl _ _ rfl (A := []) (B := [.iface 152 (.agg #[.int .i64 (f : Int), .slice (some ⟨g, A, none⟩) e e])]) (n := k) (m := 1) h1 (below_alloc1 _ _) HLL.out rfl rfl ⟨W.heap.size, 0, none⟩ 1 rfl (lit_src (xs := [.iface 152 (.agg #[.int .i64 (f : Int), .slice (some ⟨g, A, none⟩) e e])]) rfl) (oneV rfl) (.inl (by decide)) (by omega) ?_; intro g' cap' w4 hS4 hgr hat; obtain ⟨t0', tf', tg'⟩ := hS4.one (K := kQ 114) (g := w.heap.size + 1) (c := 1) (p := ⟨q, k, c⟩) (by simp) rfl; obtain ⟨s0', sf', sg'⟩ := hS4.one (K := kJ 3) (g := w.heap.size) (c := 1) (p := (f : Int)) (by simp) rfl)
    have hd := HD.out
    have hsz : (W.alloc (.cells #[.iface 152 (.agg #[.int .i64 (f : Int), .slice (some ⟨g, A, none⟩) e e])] 142)).heap.size = W.heap.size + 1 := by simp
    have hg' : g' ≠ W0.heap.size ∧ g' ≠ W0.heap.size + 1 := by
      rcases hat with h | h
      · rw [h] at h2 h3; exact ⟨fun e => h2 (by rw [e]), fun e => h3 (by rw [e])⟩
      · omega
    have keep : ∀ j, j = W0.heap.size ∨ j = W0.heap.size + 1 → ((w4.setCell ⟨w.heap.size + 1, 0, none⟩ (.slice (some ⟨g', 0, none⟩) (k + 1) cap')).setCell ⟨w.heap.size, 0, none⟩ (.int .i64 ((f : Int) + (e : Int)))).heap[j]? = W.heap[j]? := fun j hj => by
      have hjW : j < W.heap.size := by omega
      refine (Below.heap_setCell _ _ _ _ (by show j ≠ w.heap.size; omega)).trans ((Below.heap_setCell _ _ _ _ (by show j ≠ w.heap.size + 1; omega)).trans ((hgr.block j (by omega) (fun e => ?_)).trans (Below.heap_alloc _ _ _ hjW)))
      rcases hj with rfl | rfl
      · exact h2 e.symm
      · exact h3 e.symm
    refine ⟨⟨some ⟨g', 0, none⟩, cap', ?_, ?_, ?_⟩, keep _ (.inl rfl), keep _ (.inr rfl)⟩
    · rw [HLS.out, HLV.out, HE2.out]
      have h5 := Sg.setJ (A := [_, _, _, _]) (Sg.setQ (A := [_, _, _]) hS4 ⟨some ⟨g', 0, none⟩, k + 1, cap'⟩) ((f : Int) + (e : Int))
      have e6 : ((f + e : Nat) : Int) = (f : Int) + (e : Int) := by omega
      rw [e6]; exact h5
    · intro e; exact hg'.1 (Option.some.inj e)
    · intro e; exact hg'.2 (Option.some.inj e)
  case done =>
    rintro W ⟨q, c, h1, h2, h3⟩ hD2
    obtain ⟨t0, tf, tg⟩ := h1.one (K := kQ 114) (g := w.heap.size + 1) (c := 1) (p := ⟨q, cnt r, c⟩) (by simp) rfl
    gi_wp2
    refine ⟨by simp, .inl ⟨_, _, rfl, run_takeDeferred hD2, ?_⟩⟩
    refine ⟨.slice q (cnt r) c, by simp [results, Tryz.results82, go_sem], ?_⟩
    refine ⟨q, c, rfl, ?_⟩
    have h4 := h1.gr (Gr.put W0.heap.size W (.deferred none)) (by have := HD.out; omega) (by
      intro r hr
      simp only [List.mem_cons, List.not_mem_nil, or_false] at hr
      rcases hr with rfl | rfl | rfl | rfl | rfl
      · exact h2
      all_goals (have := HD.out; simp [rG, Value.ownBlock]; omega))
    exact h4.sub (by simp)
end Go.Proofs.YtipfcmfcdfofmaaGreat
