/-
  The leaves' shapes: a row of chunks of the sorted Marks.
-/
import Derived.Test.YtipfcmfcdfofmaaGreatC9
import Derived.Test.YtipfcmfcdfofmaaGreatG4
import Derived.Test.YtipfcmfcdfofmaaGreatP5
namespace Go.Proofs.YtipfcmfcdfofmaaGreat
open Go.Shelf Go.RowKit Go.Joins
attribute [local go_sem] Oper.semAt_some

def kQ (t : TypeId) : Kd Sv := ⟨t, 1, fun s => [.slice s.p s.n s.c], fun _ => rfl⟩
def kJ (t : TypeId) : Kd Int := ⟨t, 1, fun n => [.int .i64 n], fun _ => rfl⟩
theorem Sg.one {α : Type} {K : Kd α} {w W : World} {rs : List Rw} {g c : Nat} {p : α} {a : Value} (h : Sg w W rs) (hm : rG K (.slice (some ⟨g, 0, none⟩) 1 c) [p] ∈ rs) (hv : K.vs p = [a]) :
    W.cell? ⟨g, 0, none⟩ = some a ∧ (∀ j, W.frozen? ⟨g, j, none⟩ = false) ∧ g < W.heap.size := by
  have ho := h.mem hm
  have h0 := (OwG.cs ho).at (k := 0) (a := p) rfl (i := 0) (u := a) (by rw [hv]; rfl)
  simp only [Nat.zero_mul, Nat.zero_add] at h0
  exact ⟨h0, OwG.fz ho, (OwG.cs ho).1⟩
theorem Sg.setQ {t : TypeId} {w W : World} {A Bs : List Rw} {g c : Nat} {p : Sv} (h : Sg w W (A ++ rG (kQ t) (.slice (some ⟨g, 0, none⟩) 1 c) [p] :: Bs)) (q : Sv) :
    Sg w (W.setCell ⟨g, 0, none⟩ (.slice q.p q.n q.c)) (A ++ rG (kQ t) (.slice (some ⟨g, 0, none⟩) 1 c) [q] :: Bs) := Sg.setRaw h 0 (.slice q.p q.n q.c)
theorem Sg.setJ {t : TypeId} {w W : World} {A Bs : List Rw} {g c : Nat} {p : Int} (h : Sg w W (A ++ rG (kJ t) (.slice (some ⟨g, 0, none⟩) 1 c) [p] :: Bs)) (q : Int) :
    Sg w (W.setCell ⟨g, 0, none⟩ (.int .i64 q)) (A ++ rG (kJ t) (.slice (some ⟨g, 0, none⟩) 1 c) [q] :: Bs) := Sg.setRaw h 0 (.int .i64 q)
theorem OwG.cap {α : Type} {K : Kd α} {W : World} {base g n c : Nat} {L : List α} (h : OwG K W base (.slice (some ⟨g, 0, none⟩) n c) L) : n ≤ c := by
  have hn := OwG.len h
  subst hn
  rcases h.2 with ⟨h1, _⟩ | ⟨_, _, _, h1, _, _, h2, _⟩
  · cases h1
  · injection h1 with _ _ h1; omega
theorem oneV {v : Value} (h : v.oneCell' = true) : ∀ u ∈ kV.flat [v], u.oneCell' = true := fun u hu => by simp [Kd.flat, kV] at hu; subst hu; exact h
/-- By Order. -/
def fO (m : Mk) : Int := O.ordI m.x m.y
theorem cmpO (blk off size : Nat) (w : World) : CmpLays Tryz.prog 104 #[] encP 3 (cfM fO) blk off size w :=
  fun _ _ _ _ x y => (O.D.byTurn_any (tri x) (tri y) _).mono fun _ _ ⟨he, hb⟩ => ⟨he, hb.grown⟩
def leafV (g n : Nat) (k : Nat) : Value := .iface 147 (chV g 0 3 n k)
def leafVs (g n k : Nat) : List Value := (List.range k).map (leafV g n)
theorem leafVs_succ (g n k : Nat) : leafVs g n (k + 1) = leafVs g n k ++ [leafV g n k] := by simp [leafVs, List.range_succ]
theorem leafVs_len (g n k : Nat) : (leafVs g n k).length = k := by simp [leafVs]

set_option maxRecDepth 100000 in
set_option maxHeartbeats 4000000 in
theorem leaves_any (p : Option Addr) (cap : Nat) (L : List Mk) (m : Nat) (hm : L.length = m) (hn : m ≤ 1000) (hL2 : L.Pairwise fun a b => a.i < b.i) (w : World) (hL : SlG kM w p L) {S : List Mk} (hSS : srtM fO L = S) :
    Calls Tryz.prog 81 #[.slice p m cap] w fun e w' => ∃ q c g cs, e = .returned (.slice q (cnt m) c) ∧ Sg w w' [rG kV (.slice q (cnt m) c) (leafVs g m (cnt m)), rG kM (.slice (some ⟨g, 0, none⟩) m cs) S] := by
  have hS0 := (Sg.nil w).lit (kQ 114) [⟨none, 0, 0⟩] 1 rfl (by decide) #[.slice none 0 0] rfl
  have HSO : Hid (∀ W, Below w.heap.size w W → Calls Tryz.prog 71 #[.slice p m cap, .func (.func 104) #[] #[]] W fun e w' => ∃ q cap', e = .returned (.slice (some ⟨q, 0, none⟩) m cap') ∧ Sg W w' [rG kM (.slice (some ⟨q, 0, none⟩) m cap') S]) := fun W hb => by
    refine (sorted_any fO 104 #[] (enters_of Tryz.func104 (by kernel_rfl) rfl) p cap L m hm W (hL.step hb) hn (fun W' _ => cmpO _ _ _ W')).mono ?_
    rintro e w' ⟨q, cap', S', rfl, h1, h2, h3⟩
    have e : S' = S := by rw [← hSS]; exact srt_uniq hL2 h1 h2
    subst e
    exact ⟨q, cap', rfl, h3⟩
  clear hm hL2 hSS
  refine (callsIn_wide (n := 3)).1 ?_
  refine callsIn_of_wp_marks Tryz.func81 rfl trivial ?_ rfl
  simp only [Tryz.ntmps81, List.size_toArray, List.length_cons, List.length_nil, Nat.reduceAdd, Nat.reduceSub, Array.replicate_succ, Array.replicate_zero, List.push_toArray, List.append_toArray, List.nil_append, List.cons_append]
  gi_wp2_with (first
    | (refine ⟨trivial, ?_⟩; gi_at_call 71; refine (callsIn_wide.2 (HSO.out _ (below_alloc1 _ _))).mono ?_; rintro e w1 ⟨g, cs, rfl, hS1⟩; have hS2 := hS0.addL hS1)
    | (refine ⟨trivial, ?_⟩; gi_at_call 103; refine (callsIn_wide.2 (chunkM_any _ _ _ _)).mono ?_; rintro e w2 ⟨rfl, rfl⟩))
  have hcap : m ≤ cs := OwG.cap (hS2.mem (K := kM) (v := .slice (some ⟨g, 0, none⟩) m cs) (L := S) (by simp))
  have hg1 : g < w1.heap.size := (OwG.cs (hS2.mem (K := kM) (v := .slice (some ⟨g, 0, none⟩) m cs) (L := S) (by simp))).1
  have hw1 : w.heap.size < w1.heap.size := (hS2.one (K := kQ 114) (g := w.heap.size) (c := 1) (p := ⟨none, 0, 0⟩) (a := .slice none 0 0) (by simp) rfl).2.2
  have hS3 := ((hS2.lit (kQ 100) [⟨some ⟨g, 0, none⟩, m, cs⟩] 1 rfl (by decide) #[.slice (some ⟨g, 0, none⟩) m cs] rfl).lit (kJ 3) [4] 1 rfl (by decide) #[.int .i64 4] rfl).nilRow kV
  simp only [World.size_alloc, List.cons_append, List.nil_append] at hS3
  change Sg w ((w1.alloc (.cells #[.slice (some ⟨g, 0, none⟩) m cs] 100)).alloc (.cells #[.int .i64 4] 3)) _ at hS3
  obtain ⟨W0, hW0⟩ : ∃ W0, (w1.alloc (.cells #[.slice (some ⟨g, 0, none⟩) m cs] 100)).alloc (.cells #[.int .i64 4] 3) = W0 := ⟨_, rfl⟩
  have HD : Hid (W0.heap.size = w1.heap.size + 1 + 1) := (show W0.heap.size = w1.heap.size + 1 + 1 by rw [← hW0]; simp)
  rw [hW0] at hS3 ⊢
  clear hW0 hS2 hS1 hS0 HSO hL
  refine range_grow (gf := 125) (lb := #[.pointer (some ⟨w1.heap.size, 0, none⟩), .pointer (some ⟨w1.heap.size + 1, 0, none⟩)]) rfl (enters_of Tryz.func125 (by kernel_rfl) rfl) (chunkM_seq g 0 m cs w1.heap.size (w1.heap.size + 1) hn hcap)
    (fun k W => ∃ q c, Sg w W [rG kV (.slice q k c) (leafVs g m k), rG (kJ 3) (.slice (some ⟨w1.heap.size + 1, 0, none⟩) 1 1) [4], rG (kQ 100) (.slice (some ⟨w1.heap.size, 0, none⟩) 1 1) [⟨some ⟨g, 0, none⟩, m, cs⟩], rG kM (.slice (some ⟨g, 0, none⟩) m cs) S, rG (kQ 114) (.slice (some ⟨w.heap.size, 0, none⟩) 1 1) [⟨q, k, c⟩]] ∧ (Value.slice q k c).ownBlock ≠ some W0.heap.size ∧ (Value.slice q k c).ownBlock ≠ some (W0.heap.size + 1))
    ?stab ?req ⟨none, 0, hS3, by simp [Value.ownBlock], by simp [Value.ownBlock]⟩
    (fun k => { defers := [], tmps := #[Value.slice p m cap, undef, Value.slice none 0 0, Value.pointer (some { block := w.heap.size, off := 0 }),
          chV g 0 3 m k, Value.slice p m cap, Value.slice (some { block := g, off := 0 }) m cs,
          Value.func (Fn.func 125) #[]
            #[Value.pointer (some { block := w1.heap.size, off := 0 }),
              Value.pointer (some { block := w1.heap.size + 1, off := 0 })],
          chV g 0 3 m k, undef, undef, undef, undef, undef, undef] }) ?assign ?body ?done
  case stab =>
    rintro k X Y ⟨q, c, h1, h2, h3⟩ hG
    refine ⟨q, c, h1.gr hG (by have := HD.out; omega) ?_, h2, h3⟩
    intro r hr
    simp only [List.mem_cons, List.not_mem_nil, or_false] at hr
    rcases hr with rfl | rfl | rfl | rfl | rfl
    · exact h3
    all_goals (have := HD.out; simp [rG, Value.ownBlock]; omega)
  case req =>
    rintro k X ⟨q, c, h1, h2, h3⟩
    exact ⟨(h1.one (K := kQ 100) (g := w1.heap.size) (c := 1) (p := ⟨some ⟨g, 0, none⟩, m, cs⟩) (by simp) rfl).1, (h1.one (K := kJ 3) (g := w1.heap.size + 1) (c := 1) (p := 4) (by simp) rfl).1⟩
  case assign =>
    intro l1 k W K hK
    gi_wp2
    exact hK
  case body =>
    rintro l1 k W hkN ⟨q, c, h1, h2, h3⟩ hz
    have hk250 : k ≤ 250 := by unfold cnt at hkN; omega
    obtain ⟨t0, tf, tg⟩ := h1.one (K := kQ 114) (g := w.heap.size) (c := 1) (p := ⟨q, k, c⟩) (by simp) rfl
    have HLS : Hid (leafVs g m (k + 1) = leafVs g m k ++ [leafV g m k]) := leafVs_succ g m k
    have HLL : Hid ((leafVs g m k).length = k) := leafVs_len g m k
    have hlv : leafV g m k = .iface 147 (chV g 0 3 m k) := rfl
    have hco : (Value.iface 147 (chV g 0 3 m k)).oneCell' = true := rfl
    generalize chV g 0 3 m k = cv at hlv hco ⊢
    have HLV : Hid (leafV g m k = .iface 147 cv) := hlv
    clear hlv hkN
    gi_wp2_with (gi_at_builtin; refine wpListIn_sgapp appV rfl _ _ rfl (A := []) (B := [.iface 147 cv]) (n := k) (m := 1) h1 (below_alloc1 _ _) HLL.out rfl rfl ⟨W.heap.size, 0, none⟩ 1 rfl (lit_src (xs := [.iface 147 cv]) rfl) (oneV hco) (.inl (by decide)) (by omega) ?_; intro g' cap' w4 hS4 hgr hat; obtain ⟨t0', tf', tg'⟩ := hS4.one (K := kQ 114) (g := w.heap.size) (c := 1) (p := ⟨q, k, c⟩) (by simp) rfl)
    have hd := HD.out
    have hsz : (W.alloc (.cells #[.iface 147 cv] 142)).heap.size = W.heap.size + 1 := by simp
    have hg' : g' ≠ W0.heap.size ∧ g' ≠ W0.heap.size + 1 := by
      rcases hat with h | h
      · rw [h] at h2 h3; exact ⟨fun e => h2 (by rw [e]), fun e => h3 (by rw [e])⟩
      · omega
    have keep : ∀ j, j = W0.heap.size ∨ j = W0.heap.size + 1 → (w4.setCell ⟨w.heap.size, 0, none⟩ (.slice (some ⟨g', 0, none⟩) (k + 1) cap')).heap[j]? = W.heap[j]? := fun j hj => by
      have hjW : j < W.heap.size := by omega
      refine (Below.heap_setCell _ _ _ _ (by show j ≠ w.heap.size; omega)).trans ((hgr.block j (by omega) (fun e => ?_)).trans (Below.heap_alloc _ _ _ hjW))
      rcases hj with rfl | rfl
      · exact h2 e.symm
      · exact h3 e.symm
    refine ⟨⟨some ⟨g', 0, none⟩, cap', ?_, ?_, ?_⟩, keep _ (.inl rfl), keep _ (.inr rfl)⟩
    · rw [HLS.out, HLV.out]; exact Sg.setQ (A := [_, _, _, _]) hS4 ⟨some ⟨g', 0, none⟩, k + 1, cap'⟩
    · intro e; exact hg'.1 (Option.some.inj e)
    · intro e; exact hg'.2 (Option.some.inj e)
  case done =>
    rintro W ⟨q, c, h1, h2, h3⟩ hD2
    obtain ⟨t0, tf, tg⟩ := h1.one (K := kQ 114) (g := w.heap.size) (c := 1) (p := ⟨q, cnt m, c⟩) (by simp) rfl
    gi_wp2
    refine ⟨by simp, .inl ⟨_, _, rfl, run_takeDeferred hD2, ?_⟩⟩
    refine ⟨.slice q (cnt m) c, by simp [results, Tryz.results81, go_sem], ?_⟩
    refine ⟨q, c, rfl, g, cs, ?_⟩
    have h4 := h1.gr (Gr.put W0.heap.size W (.deferred none)) (by have := HD.out; omega) (by
      intro r hr
      simp only [List.mem_cons, List.not_mem_nil, or_false] at hr
      rcases hr with rfl | rfl | rfl | rfl | rfl
      · exact h2
      all_goals (have := HD.out; simp [rG, Value.ownBlock]; omega))
    exact h4.sub (by simp)
end Go.Proofs.YtipfcmfcdfofmaaGreat
