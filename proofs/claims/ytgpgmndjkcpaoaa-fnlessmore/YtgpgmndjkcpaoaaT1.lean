/-
  Lists of pairs of numbers in memory: a row of slices, each with a row of its own.
-/
import Derived.Test.YtgpgmndjkcpaoaaA4
namespace Go.Proofs.Ytgpgmndjkcpaoaa
open Go.RowKit Go.Joins

def sv (g : Nat) : Value := .slice (some ⟨g, 0, none⟩) 2 2
def inR2 (gs : List Nat) (M : List (Int × Int)) : List Rw := List.zipWith (fun g c => r1 (sv g) [c.1, c.2]) gs M
/-- The rows of a list of pairs: the slices', then each pair's. -/
def prR (v : Value) (gs : List Nat) (M : List (Int × Int)) : List Rw := ⟨v, 27, 1, gs.length, gs.map sv⟩ :: inR2 gs M
theorem inR2_nth : ∀ {gs : List Nat} {M : List (Int × Int)} {k g : Nat}, gs[k]? = some g → gs.length = M.length → ∃ X Y, ∀ c, inR2 gs (M.set k c) = X ++ r1 (sv g) [c.1, c.2] :: Y
  | [], M, k, g, h, _ => by simp at h
  | a :: t, [], k, g, _, hl => by simp at hl
  | a :: t, m :: M, 0, g, h, hl => by
    simp at h; subst h
    exact ⟨[], inR2 t M, fun c => rfl⟩
  | a :: t, m :: M, k + 1, g, h, hl => by
    obtain ⟨X, Y, hXY⟩ := inR2_nth (gs := t) (M := M) (k := k) (g := g) (by simpa using h) (by simpa using hl)
    exact ⟨r1 (sv a) [m.1, m.2] :: X, Y, fun c => by rw [List.set_cons_succ]; show r1 (sv a) [m.1, m.2] :: inR2 t (M.set k c) = _; rw [hXY c]; rfl⟩
theorem inR2_app : ∀ {gs : List Nat} {M : List (Int × Int)} {g : Nat} {c : Int × Int}, gs.length = M.length → inR2 (gs ++ [g]) (M ++ [c]) = inR2 gs M ++ [r1 (sv g) [c.1, c.2]]
  | [], [], g, c, _ => rfl
  | a :: t, m :: M, g, c, hl => by
    have ih := inR2_app (gs := t) (M := M) (g := g) (c := c) (by simpa using hl)
    show r1 (sv a) [m.1, m.2] :: inR2 (t ++ [g]) (M ++ [c]) = _
    rw [ih]; rfl
  | [], m :: M, g, c, hl => by simp at hl
  | a :: t, [], g, c, hl => by simp at hl
theorem inR2_mem {gs : List Nat} {M : List (Int × Int)} {k g : Nat} {c : Int × Int} (h : gs[k]? = some g) (hc : M[k]? = some c) : r1 (sv g) [c.1, c.2] ∈ inR2 gs M := by
  refine List.mem_of_getElem? (i := k) ?_
  unfold inR2
  rw [List.getElem?_zipWith, h, hc]
theorem Sg.addL {w W W' : World} {rs : List Rw} (h : Sg w W rs) : ∀ {rs' : List Rw}, Sg W W' rs' → Sg w W' (rs' ++ rs) := by
  intro rs' h'
  refine ⟨bstep h.bel h'.bel (Nat.le_refl _), fun r hr => ?_, ?_⟩
  · rcases List.mem_append.1 hr with hr | hr
    · exact own_mono (h'.own r hr) h.bel.size
    · exact own_of_below (h.own r hr) h'.bel
  · rw [List.pairwise_append]
    refine ⟨h'.dis, h.dis, fun a ha b hb => ?_⟩
    cases hv : a.v.ownBlock with
    | none => exact .inl rfl
    | some g =>
      refine .inr fun e => ?_
      have h1 := World.ownsRow.lt (h'.own a ha) g hv
      have h2 := World.ownsRow.lt (h.own b hb) g e.symm
      omega
/-- A slice at p reads as the slices of the rows gs. -/
def Sl27 (w : World) (p : Option Addr) (gs : List Nat) : Prop := gs = [] ∨ ∃ g off, p = some ⟨g, off, none⟩ ∧ g < w.heap.size ∧ ∀ k x, gs[k]? = some x → w.cell? ⟨g, off + k, none⟩ = some (sv x)
theorem Sl27.step {w w' : World} {p : Option Addr} {gs : List Nat} (h : Sl27 w p gs) (hb : Below w.heap.size w w') : Sl27 w' p gs := by
  rcases h with h | ⟨g, off, h1, h2, h3⟩
  · exact .inl h
  · exact .inr ⟨g, off, h1, Nat.lt_of_lt_of_le h2 hb.size, fun k x hk => (hb.cell (p := ⟨g, _, none⟩) h2).trans (h3 k x hk)⟩
theorem own27_sl {W : World} {base n cap : Nat} {p : Option Addr} {gs : List Nat} (h : W.ownsRow base 27 1 (.slice p n cap) gs.length (gs.map sv)) : Sl27 W p gs := by
  rcases h.2 with ⟨_, h0⟩ | ⟨g, cap', cur, e, _⟩
  · exact .inl (List.eq_nil_of_length_eq_zero h0)
  · injection e with e1 e2 e3
    subst e1
    refine .inr ⟨g, 0, rfl, (World.ownsRow.lt h g rfl).2, fun k x hk => ?_⟩
    have hlt : k < gs.length := (List.getElem?_eq_some_iff.1 hk).1
    rw [Nat.zero_add]
    subst e2
    exact (World.ownsRow.cellAt h k (by omega)).trans (by simp [hk])
theorem info27 : (Try.prog.info? 27).map (fun i => (i.zero, i.size, i.bytes)) = some (some (.slice none 0 0), 1, 24) := by kernel_rfl
/-- What a list of pairs tells a reader. -/
def Rd2 (W : World) (p : Option Addr) (gs : List Nat) (M : List (Int × Int)) : Prop := Sl27 W p gs ∧ gs.length = M.length ∧ ∀ (k g : Nat) (c : Int × Int), gs[k]? = some g → M[k]? = some c → Cs1 W g 0 [c.1, c.2]
theorem Rd2.step {w w' : World} {p : Option Addr} {gs : List Nat} {M : List (Int × Int)} (h : Rd2 w p gs M) (hb : Below w.heap.size w w') : Rd2 w' p gs M := ⟨h.1.step hb, h.2.1, fun k g c h1 h2 => (h.2.2 k g c h1 h2).step hb⟩
theorem Sg.rd2 {w W : World} {A B : List Rw} {p : Option Addr} {n cap : Nat} {gs : List Nat} {M : List (Int × Int)} (h : Sg w W (A ++ prR (.slice p n cap) gs M ++ B)) (hl : gs.length = M.length) : Rd2 W p gs M := by
  refine ⟨own27_sl (h.own ⟨.slice p n cap, 27, 1, gs.length, gs.map sv⟩ (by simp [prR])), hl, fun k g c h1 h2 => ?_⟩
  have hm := inR2_mem h1 h2
  have := h.own (r1 (sv g) [c.1, c.2]) (List.mem_append_left _ (List.mem_append_right _ (List.mem_cons_of_mem _ hm)))
  exact Ow1.cs (cap := 2) (n := 2) this

set_option maxHeartbeats 1000000 in
theorem eqSS_same (p q : Option Addr) (cap cap' : Nat) (gs hs : List Nat) (M : List (Int × Int)) (w : World) (hp : Rd2 w p gs M) (hq : Rd2 w q hs M) (hn : M.length ≤ 1000) :
    Calls Try.prog 34 #[.slice p M.length cap, .slice q M.length cap'] w fun e w' => e = .returned (.bool true) ∧ Below w.heap.size w w' := by
  obtain ⟨N, hN⟩ : ∃ N, M.length = N := ⟨_, rfl⟩
  have HN : Hid (M.length = N) := hN
  rw [hN] at hn ⊢
  clear hN
  go_enter Try.func34, Try.ntmps34
  go_wp2
  go_loopw [5] (fun i wr => ∃ k : Nat, k ≤ N ∧ i = .int .i64 k ∧ Below w.heap.size w wr) (fun i _ => N - (intOf i).toNat)
  case atStart => exact ⟨0, by omega, rfl, Below.refl _ _⟩
  case round =>
    obtain ⟨k, hk, rfl, hb⟩ := hrel
    by_cases hlt : k < N
    · have hki : (k : Int) < N := by omega
      have hkM : k < M.length := by rw [HN.out]; exact hlt
      have hkg : k < gs.length := by rw [hp.2.1]; exact hkM
      have hkh : k < hs.length := by rw [hq.2.1]; exact hkM
      have P := hp.step hb
      have Q := hq.step hb
      have i1 := P.2.2 k gs[k] M[k] (List.getElem?_eq_getElem hkg) (List.getElem?_eq_getElem hkM)
      have i2 := Q.2.2 k hs[k] M[k] (List.getElem?_eq_getElem hkh) (List.getElem?_eq_getElem hkM)
      rcases P.1 with h0 | ⟨g1, o1, rfl, hg1, hc1⟩
      · rw [h0] at hkg; simp at hkg
      rcases Q.1 with h0 | ⟨g2, o2, rfl, hg2, hc2⟩
      · rw [h0] at hkh; simp at hkh
      have d1 := hc1 k _ (List.getElem?_eq_getElem hkg)
      have d2 := hc2 k _ (List.getElem?_eq_getElem hkh)
      generalize gs[k] = ga at d1 i1
      generalize hs[k] = gb at d2 i2
      generalize M[k] = c at i1 i2
      unfold sv at d1 d2
      have I : Hid (∀ w', Below wr.heap.size wr w' → Cs1 w' ga 0 [c.1, c.2] ∧ Cs1 w' gb 0 [c.1, c.2]) := fun w' h => ⟨i1.step h, i2.step h⟩
      clear i1 i2 P Q hc1 hc2
      have hbd := (Below.refl wr.heap.size wr).drew
      go_wp2
      go_region_with ((go_at_call 38; refine (eqInt64S_same (some ⟨ga, 0, none⟩) (some ⟨gb, 0, none⟩) 2 2 [c.1, c.2] _ (.inr ⟨ga, 0, rfl, (I.out _ hbd).1⟩) (.inr ⟨gb, 0, rfl, (I.out _ hbd).2⟩) (by simp)).mono ?_; rintro e w1 ⟨rfl, hb2⟩))
      all_goals
        go_wp2
        go_roundw
        case rel => exact ⟨k + 1, by omega, by go_num, bstep hb.drew hb2 (Nat.le_refl _)⟩
        case measure => simp [intOf]; omega
    · obtain rfl : k = N := by omega
      go_wp2
      go_ret
      exact ⟨rfl, hb⟩

def mkP (n : Nat) : List (Int × Int) := (List.range n).map fun i : Nat => (1 + 2 * (i : Int), 1 + 2 * (i : Int) + 1)
theorem mkP_len (n : Nat) : (mkP n).length = n := by simp [mkP]
theorem mkP_get {n i : Nat} (h : i < n) : (mkP n)[i]? = some (1 + 2 * (i : Int), 1 + 2 * (i : Int) + 1) := by simp [mkP, h]
set_option maxRecDepth 100000 in
set_option maxHeartbeats 2000000 in
theorem markSS_any (p : Option Addr) (n cap : Nat) (gs : List Nat) (M : List (Int × Int)) (A B : List Rw) (w W : World) (hS : Sg w W (A ++ prR (.slice p n cap) gs M ++ B)) (hl : gs.length = M.length) (hn : n = M.length) (hb : n ≤ 1000) :
    Calls Try.prog 36 #[.slice p n cap, .int .i64 1] W fun e w' => e = .returned (.int .i64 (1 + 2 * n)) ∧ Sg w w' (A ++ prR (.slice p n cap) gs (mkP n) ++ B) := by
  have HL : Hid (gs.length = n ∧ M.length = n) := ⟨by omega, hn.symm⟩
  clear hl hn
  go_enter Try.func36, Try.ntmps36
  go_wp2
  go_loopw [1, 5] (fun kv i wr => ∃ (k : Nat) (K : List (Int × Int)), k ≤ n ∧ i = .int .i64 k ∧ kv = .int .i64 (1 + 2 * k) ∧ Hid (K.length = n ∧ ∀ j, j < k → K[j]? = (mkP n)[j]?) ∧ Sg w wr (A ++ prR (.slice p n cap) gs K ++ B)) (fun _ i _ => n - (intOf i).toNat)
  case atStart => exact ⟨0, M, by omega, rfl, by simp, ⟨HL.out.2, by simp⟩, hS⟩
  case round =>
    clear hS
    obtain ⟨k, K, hk, rfl, rfl, hK, hS⟩ := hrel
    by_cases hlt : k < n
    · have hki : (k : Int) < n := by omega
      have hkK : k < K.length := by rw [hK.out.1]; exact hlt
      have hkg : k < gs.length := by rw [HL.out.1]; exact hlt
      have hR := hS.rd2 (by rw [HL.out.1, hK.out.1])
      rcases hR.1 with h0 | ⟨g1, o1, rfl, hg1, hc1⟩
      · rw [h0] at hkg; simp at hkg
      have d1 := hc1 k _ (List.getElem?_eq_getElem hkg)
      obtain ⟨X, Y, hXY⟩ := inR2_nth (List.getElem?_eq_getElem hkg) (by rw [HL.out.1, hK.out.1] : gs.length = K.length)
      obtain ⟨ga, hga⟩ : ∃ z, gs[k] = z := ⟨_, rfl⟩
      obtain ⟨c, hc⟩ : ∃ z, K[k] = z := ⟨_, rfl⟩
      have hKs : K.set k c = K := by rw [← hc]; exact List.set_getElem_self hkK
      rw [hga] at d1 hXY
      have e0 : A ++ prR (.slice (some ⟨g1, o1, none⟩) n cap) gs K ++ B = (A ++ ⟨.slice (some ⟨g1, o1, none⟩) n cap, 27, 1, gs.length, gs.map sv⟩ :: X) ++ r1 (sv ga) [c.1, c.2] :: (Y ++ B) := by
        have := hXY c; rw [hKs] at this; unfold prR; rw [this]; simp
      have e1 : ∀ z : Int × Int, A ++ prR (.slice (some ⟨g1, o1, none⟩) n cap) gs (K.set k z) ++ B = (A ++ ⟨.slice (some ⟨g1, o1, none⟩) n cap, 27, 1, gs.length, gs.map sv⟩ :: X) ++ r1 (sv ga) [z.1, z.2] :: (Y ++ B) := fun z => by
        unfold prR; rw [hXY z]; simp
      rw [e0] at hS
      have HE : Hid (∀ z : Int × Int, A ++ prR (.slice (some ⟨g1, o1, none⟩) n cap) gs (K.set k z) ++ B = (A ++ ⟨.slice (some ⟨g1, o1, none⟩) n cap, 27, 1, gs.length, gs.map sv⟩ :: X) ++ r1 (sv ga) [z.1, z.2] :: (Y ++ B)) := e1
      have HK : Hid (K.length = n ∧ ∀ j, j < k + 1 → (K.set k (1 + 2 * (k : Int), 1 + 2 * (k : Int) + 1))[j]? = (mkP n)[j]?) := ⟨hK.out.1, fun j hj => by
        by_cases e : k = j
        · subst e; rw [List.getElem?_set_self hkK, mkP_get hlt]
        · rw [List.getElem?_set_ne e]; exact hK.out.2 j (by omega)⟩
      clear hXY hKs e0 e1 hc hga hK hR hc1
      unfold sv at d1
      have hOw : Ow1 wr w.heap.size (.slice (some ⟨ga, 0, none⟩) 2 2) [c.1, c.2] := hS.own (r1 (sv ga) [c.1, c.2]) (by simp)
      go_wp2_with ((go_at_call 39; refine (markInt64S_any (some ⟨ga, 0, none⟩) 2 w.heap.size (1 + 2 * (k : Int)) [c.1, c.2] _ hOw (by simp) (by omega) (by omega)).mono ?_; rintro e w1 ⟨rfl, hO2, hg2⟩))
      go_roundw
      case rel =>
        refine ⟨k + 1, K.set k (1 + 2 * (k : Int), 1 + 2 * (k : Int) + 1), by omega, by go_num, by simp; omega, ⟨by rw [List.length_set]; exact HK.out.1, HK.out.2⟩, ?_⟩
        rw [HE.out]
        exact hS.put (r' := r1 (sv ga) [1 + 2 * (k : Int), 1 + 2 * (k : Int) + 1]) rfl (by
          have : mk1 (1 + 2 * (k : Int)) 2 = [1 + 2 * (k : Int), 1 + 2 * (k : Int) + 1] := by simp [mk1, List.range_succ]
          unfold Ow1 at hO2; rw [show [c.1, c.2].length = 2 from rfl, this] at hO2; exact hO2) hg2
      case measure => simp [intOf]; omega
    · obtain rfl : k = n := by omega
      have e : K = mkP k := List.ext_getElem? fun j => by
        by_cases hj : j < k
        · exact hK.out.2 j hj
        · rw [List.getElem?_eq_none (by rw [hK.out.1]; omega), List.getElem?_eq_none (by rw [mkP_len]; omega)]
      subst e
      clear hK
      go_wp2
      go_ret
      exact ⟨rfl, hS⟩
theorem heldTwo (ga : Nat) (z : Int) (w : World) (h : Cs1 w ga 0 [z, z + 1]) (h0 : 0 ≤ z) (h1 : z ≤ 100000000) :
    Calls Try.prog 40 #[.slice (some ⟨ga, 0, none⟩) 2 2, .int .i64 z] w fun e w' => e = .returned (.int .i64 (z + 2)) ∧ w' = w := by
  have e2 : mk1 z 2 = [z, z + 1] := by simp [mk1, List.range_succ]
  have hn : ∃ n : Nat, n = 2 := ⟨2, rfl⟩
  obtain ⟨n, hn⟩ := hn
  have hs : Sl1 w (some ⟨ga, 0, none⟩) (mk1 z n) := by rw [hn, e2]; exact .inr ⟨ga, 0, rfl, h⟩
  have hc := heldInt64S_any (some ⟨ga, 0, none⟩) 2 z n w hs (by omega) h0 h1
  rw [hn] at hc
  exact hc
set_option maxRecDepth 100000 in
set_option maxHeartbeats 2000000 in
theorem heldSS_any (p : Option Addr) (n cap : Nat) (gs : List Nat) (w : World) (hp : Rd2 w p gs (mkP n)) (hb : n ≤ 1000) :
    Calls Try.prog 37 #[.slice p n cap, .int .i64 1] w fun e w' => e = .returned (.int .i64 (1 + 2 * n)) ∧ w' = w := by
  go_enter Try.func37, Try.ntmps37
  go_wp2
  go_loop [1, 5] (fun kv i => ∃ k : Nat, k ≤ n ∧ i = .int .i64 k ∧ kv = .int .i64 (1 + 2 * k)) (fun _ i => n - (intOf i).toNat)
  case atStart => exact ⟨0, by omega, rfl, by simp⟩
  case round =>
    obtain ⟨k, hk, rfl, rfl⟩ := hrel
    by_cases hlt : k < n
    · have hki : (k : Int) < n := by omega
      have hkg : k < gs.length := by rw [hp.2.1, mkP_len]; exact hlt
      have i1 := hp.2.2 k gs[k] _ (List.getElem?_eq_getElem hkg) (mkP_get hlt)
      rcases hp.1 with h0 | ⟨g1, o1, rfl, hg1, hc1⟩
      · rw [h0] at hkg; simp at hkg
      have d1 := hc1 k _ (List.getElem?_eq_getElem hkg)
      generalize gs[k] = ga at d1 i1
      unfold sv at d1
      have I : Hid (Cs1 w ga 0 [1 + 2 * (k : Int), 1 + 2 * (k : Int) + 1]) := i1
      clear i1 hc1
      have hpos : ¬ (1 + 2 * (k : Int) + 2) < 0 := by omega
      have HC : Hid (Calls Try.prog 40 #[.slice (some ⟨ga, 0, none⟩) 2 2, .int .i64 (1 + 2 * (k : Int))] w fun e w' => e = .returned (.int .i64 (1 + 2 * (k : Int) + 2)) ∧ w' = w) := heldTwo ga _ w I.out (by omega) (by omega)
      go_wp2_with ((go_at_call 40; refine HC.out.mono ?_; rintro e w1 ⟨rfl, rfl⟩))
      go_round
      case rel => exact ⟨k + 1, by omega, by go_num, by simp; omega⟩
      case measure => simp [intOf]; omega
    · obtain rfl : k = n := by omega
      go_wp2
      go_ret
      exact ⟨rfl, rfl⟩
end Go.Proofs.Ytgpgmndjkcpaoaa
