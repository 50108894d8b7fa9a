/-
  The iterator nearestFirst: it hands out the pairs in their order.
-/
import Derived.Test.YtocfdmlkicndoaaHU1
import Derived.Test.YtocfdmlkicndoaaHC1
namespace Go.Proofs.Ytocfdmlkicndoaa
open Go.RowKit Go.Joins
attribute [local go_sem] Oper.semAt_some

def encP (s : List P3) (k : Nat) : Value := .agg #[.int .i64 (s.getD k zp).a, .int .i64 (s.getD k zp).i, .int .i64 (s.getD k zp).j]
def celP (s : List P3) (k : Nat) : Array Value := #[.int .i64 (s.getD k zp).a, .int .i64 (s.getD k zp).i, .int .i64 (s.getD k zp).j]
def lenO : Option Value → Nat
  | some (.slice _ n _) => n
  | _ => 0
theorem keepF_cell {B g i : Nat} {W W' : World} (h : KeepF B W W') (hB : B ≤ g) (hg : g < W.heap.size) : W'.cell? ⟨g, i, none⟩ = W.cell? ⟨g, i, none⟩ := World.cell?_of_block (h.same g hB hg)
theorem keepF_frozen {B g i : Nat} {W W' : World} (h : KeepF B W W') (hB : B ≤ g) (hg : g < W.heap.size) : W'.frozen? ⟨g, i, none⟩ = W.frozen? ⟨g, i, none⟩ := World.frozen?_of_block (h.same g hB hg)
theorem own_block {X Y : World} {base size n g cap : Nat} {e : TypeId} {xs : List Value} (h : X.ownsRow base e size (.slice (some ⟨g, 0, none⟩) n cap) n xs) (hb : Y.heap[g]? = X.heap[g]?) : Y.ownsRow base e size (.slice (some ⟨g, 0, none⟩) n cap) n xs := by
  obtain ⟨h0, h1 | ⟨g', cap', cur, e, hg, hh, r⟩⟩ := h
  · exact ⟨h0, .inl h1⟩
  · refine ⟨h0, .inr ⟨g', cap', cur, e, hg, ?_, r⟩⟩
    injection e with e1 e2 e3
    injection e1 with e1
    injection e1 with e1
    subst e1
    rw [hb]; exact hh
theorem Hp.keepF {B b g cap : Nat} {L : List P3} {W W' : World} (h : Hp W b g cap L) (hk : KeepF B W W') (hb : B ≤ b) (hg : B ≤ g) : Hp W' b g cap L :=
  ⟨Nat.lt_of_lt_of_le h.lt hk.size, fun o => (keepF_frozen hk hb h.lt).trans (h.fz o), (keepF_cell hk hb h.lt).trans h.hd, own_block h.ow (hk.same g hg h.glt), h.ne⟩
theorem Hp.len0 {b g cap : Nat} {L : List P3} {W : World} (h : Hp W b g cap L) : lenO (W.cell? ⟨b, 0, none⟩) = L.length := by rw [h.hd]; rfl

set_option maxRecDepth 100000 in
set_option maxHeartbeats 2000000 in
theorem nearest_seq (p : Option Addr) (cap : Nat) (L : List T2) (hcap : L.length ≤ cap) (h40 : L.length ≤ 40) (bx : Nat) (w : World) (hb : bx < w.heap.size) (hL : Sl w p L)
    (c0 : w.cell? ⟨bx, 0, none⟩ = some (.slice p L.length cap)) :
    UpSeq Try.prog 56 #[.pointer (some ⟨bx, 0, none⟩)] (encP (srtP L)) (srtP L).length w.heap.size w := by
  intro lp J Jx W hW hB hJ hJx hY h0
  have d0 := (hW.cell (p := ⟨bx, 0, none⟩) hb).trans c0
  have hlen : (srtP L).length ≤ 900000 := by rw [(srt_perm L).length_eq]; have := prs_len L L.length h40; omega
  have hpair := srt_pair L
  have hperm := srt_perm L
  have HPO : Hid (∀ W', Sl W' p L → Calls Try.prog 32 #[.slice p L.length cap] W' fun e w' => ∃ b g cap' M, e = .returned (.pointer (some ⟨b, 0, none⟩)) ∧ M.Perm (srtP L) ∧ isHeap M ∧ Hp w' b g cap' M ∧ W'.heap.size ≤ b ∧ W'.heap.size ≤ g ∧ Below W'.heap.size W' w') := by
    intro W' hW'
    refine (pairsOf_any p cap L W' hW' hcap h40).mono ?_
    rintro e w' ⟨b, g, cap', M, h1, h2, h3⟩
    exact ⟨b, g, cap', M, h1, h2.trans hperm.symm, h3⟩
  generalize srtP L = s at hlen hpair hY HPO ⊢
  clear hperm
  have HPA : Hid (s.Pairwise leP) := hpair
  have HLN : Hid (s.length ≤ 900000) := hlen
  clear hpair hlen
  refine callsIn_of_wp Try.func56 rfl trivial ?_ rfl
  simp only [Try.ntmps56, List.size_toArray, List.length_cons, List.length_nil, Nat.reduceAdd, Nat.reduceSub, Array.replicate_succ, Array.replicate_zero, List.push_toArray, List.append_toArray, List.nil_append, List.cons_append]
  gi_wp2_with (refine ⟨trivial, ?_⟩; gi_at_call 32; refine (callsIn_wide.2 (HPO.out _ (hL.step hW))).mono ?_; rintro e w1 ⟨b, g, cap', M0, rfl, hP0, hM0, hH0, hb0, hg0, hb1⟩)
  gi_loopw [] (fun wr => ∃ (k : Nat) (M : List P3), k ≤ s.length ∧ J k wr ∧ M.Perm (s.drop k) ∧ isHeap M ∧ Hp wr b g cap' M)
    (fun wr => lenO (wr.cell? ⟨b, 0, none⟩))
  case atStart => exact ⟨0, M0, Nat.zero_le _, hJ _ _ _ h0 hb1, by simpa using hP0, hM0, hH0⟩
  case round =>
    obtain ⟨k, M, hk, hj, hP, hM, hH⟩ := hrel
    have hMl : M.length = s.length - k := by rw [hP.length_eq, List.length_drop]
    obtain ⟨n, hn⟩ : ∃ n, M.length = n := ⟨_, rfl⟩
    have hd := hH.hd
    rw [hn] at hd
    have HM : Hid (M.length = n) := hn
    clear hn
    by_cases hlt : k < s.length
    · have hn0 : (0 : Int) < n := by have := HM.out; omega
      obtain ⟨m, hm⟩ : ∃ m, s.getD k zp = m := ⟨_, rfl⟩
      have HYK : Hid (∀ W1, J k W1 → YieldAt Fence.wide 1 Try.prog lp #[.agg #[.int .i64 m.a, .int .i64 m.i, .int .i64 m.j]] W1 fun e W' => (e = .returned (.bool true) ∧ J (k + 1) W' ∧ KeepF w.heap.size W1 W') ∨ (e = .returned (.bool false) ∧ Jx k W')) := by
        intro W1 h1
        have := hY k W1 hlt h1
        unfold encP at this
        rw [hm] at this
        exact this
      have HNX : Hid (Calls Try.prog 33 #[.pointer (some ⟨b, 0, none⟩)] wr fun e w' => e = .returned (.agg #[.int .i64 m.a, .int .i64 m.i, .int .i64 m.j]) ∧ ∃ M', M'.Perm (s.drop (k + 1)) ∧ isHeap M' ∧ Hp w' b g cap' M' ∧ Tn b g wr g w') := by
        have h1 := next_any b g cap' M wr hH hM (by omega) (by have := HLN.out; omega)
        refine h1.mono ?_
        rintro e w' ⟨he, M', hq, hM', hH', hT'⟩
        obtain ⟨e1, e2⟩ := perm_next hlt hP HPA.out hM hq
        rw [e1, hm] at he
        exact ⟨he, M', e2, hM', hH', hT'⟩
      have hMl2 : Hid (M.length = s.length - k) := hMl
      clear hm hMl
      gi_wp2_with (first
        | (refine ⟨trivial, ?_⟩; gi_at_call 57; refine (callsIn_wide.2 (len_any _ _ _ _)).mono ?_; rintro e w2 ⟨rfl, rfl⟩)
        | (refine ⟨trivial, ?_⟩; gi_at_call 33; refine (callsIn_wide.2 HNX.out).mono ?_; rintro e w2 ⟨rfl, M', hP', hM', hH', hT'⟩; obtain ⟨fn, tmps, assign, body, hy, hR⟩ := HYK.out w2 (hJ _ _ _ hj (hT'.below hb0 hg0 (Nat.le_trans hb0 (Nat.le_of_lt hH.lt))))))
      refine hR.mono ?_
      rintro e W3 (⟨rfl, hJ3, hk3⟩ | ⟨rfl, hJx3⟩)
      · have hH3 := hH'.keepF hk3 (by omega) (by omega)
        gi_wp2
        go_roundw
        case rel => exact ⟨k + 1, M', by omega, hJ3, hP', hM', hH3⟩
        case measure =>
          have e1 := hH3.len0
          have e2 := hH.len0
          have e3 := hP'.length_eq
          have e4 := hP.length_eq
          rw [List.length_drop] at e3 e4
          rw [e1, e2]; omega
      · gi_wp2
        exact bodyPost_ret (v := .tuple #[]) (by simp [results, Try.results56, go_sem]) rfl ⟨⟨_, rfl⟩, .inr ⟨k, hlt, hJx3⟩⟩
    · have e : n = 0 := by have := HM.out; omega
      subst e
      obtain rfl : k = s.length := by omega
      gi_wp2_with (first
        | (refine ⟨trivial, ?_⟩; gi_at_call 57; refine (callsIn_wide.2 (len_any _ _ _ _)).mono ?_; rintro e w2 ⟨rfl, rfl⟩))
      go_end0
      exact ⟨⟨_, rfl⟩, .inl hj⟩

set_option maxHeartbeats 1000000 in
theorem nearestFirst_any (p : Option Addr) (n cap : Nat) (w : World) :
    Calls Try.prog 34 #[.slice p n cap] w fun e w' => e = .returned (.func (.func 56) #[] #[.pointer (some ⟨w.heap.size, 0, none⟩)]) ∧ w' = w.alloc (.cells #[.slice p n cap] 24) := by
  refine (callsIn_wide (n := 3)).1 ?_
  refine callsIn_of_wp Try.func34 rfl trivial ?_ rfl
  simp only [Try.ntmps34, List.size_toArray, List.length_cons, List.length_nil, Nat.reduceAdd, Nat.reduceSub, Array.replicate_succ, Array.replicate_zero, List.push_toArray, List.append_toArray, List.nil_append, List.cons_append]
  gi_wp2
  go_ret
  exact ⟨rfl, rfl⟩
end Go.Proofs.Ytocfdmlkicndoaa
