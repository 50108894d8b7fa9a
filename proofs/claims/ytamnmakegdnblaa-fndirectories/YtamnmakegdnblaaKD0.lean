/-
  Owns in memory: four numbers each; the looks of the law at them, one by one and made the program's.
-/
import Derived.Test.YtamnmakegdnblaaKSA
import Derived.Test.YtamnmakegdnblaaKYI
import Derived.Test.YtamnmakegdnblaaMC3
namespace Go.Proofs.Ytamnmakegdnblaa.K.D
open Go.Shelf Go.RowKit Go.Joins
attribute [local go_sem] Oper.semAt_some

/-- An Own. -/
structure On where
  l : Int
  x : Int
  y : Int
  s : Int
abbrev On.v (o : On) : Value := .agg #[.int .i64 o.l, .int .i64 o.x, .int .i64 o.y, .int .i64 o.s]
def kO : Kd On := ⟨73, 4, fun o => [.int .i64 o.l, .int .i64 o.x, .int .i64 o.y, .int .i64 o.s], fun _ => rfl⟩
def kLO : Kd On := ⟨116, 4, fun o => [.int .i64 o.l, .int .i64 o.x, .int .i64 o.y, .int .i64 o.s], fun _ => rfl⟩
def zon : On := ⟨0, 0, 0, 0⟩
theorem info73 : (Try.prog.info? 73).map (fun i => (i.zero, i.size, i.bytes)) = some (some (.agg #[.int .i64 0, .int .i64 0, .int .i64 0, .int .i64 0]), 4, 32) := by kernel_rfl
theorem appO : Ap kO 24 (.agg #[.int .i64 0, .int .i64 0, .int .i64 0, .int .i64 0]) 32 := ⟨Try.underlying24, info73, rfl, by decide, by decide⟩
theorem oneOs (L : List On) : ∀ u ∈ kO.flat L, u.oneCell' = true := fun u hu => by
  unfold Kd.flat at hu
  obtain ⟨s, _, hs⟩ := List.mem_flatMap.mp hu
  simp [kO] at hs
  rcases hs with rfl | rfl | rfl | rfl <;> rfl
theorem getO {L : List On} {k : Nat} (hk : k < L.length) : L[k]? = some (L.getD k zon) := by simp [List.getD, hk]
theorem CsG.o4 {w : World} {g off : Nat} {L : List On} (h : CsG kO w g off L) {k : Nat} {o : On} (hk : L[k]? = some o) : w.cell? ⟨g, off + k * 4, none⟩ = some (.int .i64 o.l) ∧ w.cell? ⟨g, off + k * 4 + 1, none⟩ = some (.int .i64 o.x) ∧ w.cell? ⟨g, off + k * 4 + 2, none⟩ = some (.int .i64 o.y) ∧ w.cell? ⟨g, off + k * 4 + 3, none⟩ = some (.int .i64 o.s) := by
  have h0 := h.at hk (i := 0) (u := .int .i64 o.l) rfl
  have h1 := h.at hk (i := 1) (u := .int .i64 o.x) rfl
  have h2 := h.at hk (i := 2) (u := .int .i64 o.y) rfl
  have h3 := h.at hk (i := 3) (u := .int .i64 o.s) rfl
  exact ⟨h0, h1, h2, h3⟩
theorem CsG.lo4 {w : World} {g off : Nat} {L : List On} (h : CsG kLO w g off L) {k : Nat} {o : On} (hk : L[k]? = some o) : w.cell? ⟨g, off + k * 4, none⟩ = some (.int .i64 o.l) ∧ w.cell? ⟨g, off + k * 4 + 1, none⟩ = some (.int .i64 o.x) ∧ w.cell? ⟨g, off + k * 4 + 2, none⟩ = some (.int .i64 o.y) ∧ w.cell? ⟨g, off + k * 4 + 3, none⟩ = some (.int .i64 o.s) := by
  have h0 := h.at hk (i := 0) (u := .int .i64 o.l) rfl
  have h1 := h.at hk (i := 1) (u := .int .i64 o.x) rfl
  have h2 := h.at hk (i := 2) (u := .int .i64 o.y) rfl
  have h3 := h.at hk (i := 3) (u := .int .i64 o.s) rfl
  exact ⟨h0, h1, h2, h3⟩
theorem set4 {xs : List Value} {i : Nat} (h : i + 4 ≤ xs.length) (a b c d : Value) : (((xs.set i a).set (i + 1) b).set (i + 2) c).set (i + 3) d = xs.take i ++ [a, b, c, d] ++ xs.drop (i + 4) := by
  refine List.ext_getElem? fun j => ?_
  simp only [List.getElem?_append, List.length_append, List.length_take, List.length_cons, List.length_nil, List.getElem?_drop]
  have hmin : min i xs.length = i := by omega
  rw [hmin]
  by_cases h1 : j < i
  · rw [if_pos (by omega), if_pos h1, List.getElem?_set_ne (by omega), List.getElem?_set_ne (by omega), List.getElem?_set_ne (by omega), List.getElem?_set_ne (by omega), List.getElem?_take_of_lt h1]
  · by_cases h2 : j < i + 4
    · rw [if_pos (by omega), if_neg h1]
      have : j = i ∨ j = i + 1 ∨ j = i + 2 ∨ j = i + 3 := by omega
      rcases this with rfl | rfl | rfl | rfl
      · rw [List.getElem?_set_ne (by omega), List.getElem?_set_ne (by omega), List.getElem?_set_ne (by omega), List.getElem?_set_self (by omega)]; simp
      · rw [List.getElem?_set_ne (by omega), List.getElem?_set_ne (by omega), List.getElem?_set_self (by simp; omega)]; simp
      · rw [List.getElem?_set_ne (by omega), List.getElem?_set_self (by simp; omega)]; simp
      · rw [List.getElem?_set_self (by simp; omega)]; simp
    · rw [if_neg (by omega), List.getElem?_set_ne (by omega), List.getElem?_set_ne (by omega), List.getElem?_set_ne (by omega), List.getElem?_set_ne (by omega)]
      congr 1; omega
theorem Sg.setO {w W : World} {A Bs : List Rw} {g n c : Nat} {M : List On} (h : Sg w W (A ++ rG kO (.slice (some ⟨g, 0, none⟩) n c) M :: Bs)) {k : Nat} (hk : k < M.length) (m : On) :
    Sg w ((((W.setCell ⟨g, k * 4, none⟩ (.int .i64 m.l)).setCell ⟨g, k * 4 + 1, none⟩ (.int .i64 m.x)).setCell ⟨g, k * 4 + 2, none⟩ (.int .i64 m.y)).setCell ⟨g, k * 4 + 3, none⟩ (.int .i64 m.s)) (A ++ rG kO (.slice (some ⟨g, 0, none⟩) n c) (M.set k m) :: Bs) := by
  have ho : OwG kO W w.heap.size (.slice (some ⟨g, 0, none⟩) n c) M := h.mem (by simp)
  have hn := OwG.len ho
  subst hn
  have h1 := (((Sg.setRaw h (k * 4) (.int .i64 m.l)).setRaw (k * 4 + 1) (.int .i64 m.x)).setRaw (k * 4 + 2) (.int .i64 m.y)).setRaw (k * 4 + 3) (.int .i64 m.s)
  have hl := Kd.flat_len (K := kO) M
  have e : kO.flat (M.set k m) = ((((kO.flat M).set (k * 4) (.int .i64 m.l)).set (k * 4 + 1) (.int .i64 m.x)).set (k * 4 + 2) (.int .i64 m.y)).set (k * 4 + 3) (.int .i64 m.s) := by
    rw [set4 (by rw [hl]; show k * 4 + 4 ≤ M.length * 4; omega), Kd.flat_set m hk]; rfl
  have e2 : rG kO (.slice (some ⟨g, 0, none⟩) M.length c) (M.set k m) = ⟨.slice (some ⟨g, 0, none⟩) M.length c, 73, 4, M.length, ((((kO.flat M).set (k * 4) (.int .i64 m.l)).set (k * 4 + 1) (.int .i64 m.x)).set (k * 4 + 2) (.int .i64 m.y)).set (k * 4 + 3) (.int .i64 m.s)⟩ := by
    unfold rG; rw [e, List.length_set]; rfl
  rw [e2]; exact h1
theorem Sg.set1 {w W : World} {A Bs : List Rw} {g n c : Nat} {M : List On} (h : Sg w W (A ++ rG kO (.slice (some ⟨g, 0, none⟩) n c) M :: Bs)) {k i : Nat} (hk : k < M.length) (hi : i < 4) (u : Value) (m : On) (hm : kO.vs m = (kO.vs (M.getD k zon)).set i u) :
    Sg w (W.setCell ⟨g, k * 4 + i, none⟩ u) (A ++ rG kO (.slice (some ⟨g, 0, none⟩) n c) (M.set k m) :: Bs) := by
  refine h.set (L' := M.set k m) (k * 4 + i) u (by simp) ?_
  have hl := Kd.flat_len (K := kO) M
  have hk4 : k * 4 + 4 ≤ M.length * 4 := by omega
  rw [Kd.flat_set m hk, hm]
  refine List.ext_getElem? fun j => ?_
  have e4 : kO.n = 4 := rfl
  rw [e4] at hl ⊢
  have hvl : (kO.vs (M.getD k zon)).length = 4 := kO.len _
  simp only [List.getElem?_append, List.length_append, List.length_take, List.length_set, hl, hvl, List.getElem?_drop, List.getElem?_take]
  by_cases h1 : j < k * 4
  · rw [if_pos (by omega), if_pos (by omega), List.getElem?_set_ne (by omega)]; simp [h1]
  · by_cases h2 : j < k * 4 + 4
    · rw [if_pos (by omega), if_neg (by omega), Nat.min_eq_left (by omega)]
      have hg := Kd.flat_get (K := kO) (getO hk) (i := j - k * 4) (by rw [e4]; omega)
      rw [e4, show k * 4 + (j - k * 4) = j by omega] at hg
      by_cases h3 : j = k * 4 + i
      · subst h3
        rw [show k * 4 + i - k * 4 = i by omega, List.getElem?_set_self (by rw [hvl]; exact hi), List.getElem?_set_self (by rw [hl]; omega)]
      · rw [List.getElem?_set_ne (by omega), List.getElem?_set_ne (by omega), hg]
    · rw [if_neg (by omega), List.getElem?_set_ne (by omega)]
      congr 1; omega
theorem made_flatO (n : Nat) : (madeCells #[.int .i64 0, .int .i64 0, .int .i64 0, .int .i64 0] (n * 4)).toList = kO.flat (List.replicate n zon) := by
  refine List.ext_getElem? fun i => ?_
  have hl : (kO.flat (List.replicate n zon)).length = n * 4 := by rw [Kd.flat_len]; simp [kO]
  by_cases hi : i < n * 4
  · have h6 : i / 4 < n := by omega
    have hk : (List.replicate n zon)[i / 4]? = some zon := by simp [h6]
    have hg := Kd.flat_get (K := kO) hk (i := i % 4) (Nat.mod_lt _ (by decide))
    have e3 : i / 4 * kO.n + i % 4 = i := by show i / 4 * 4 + i % 4 = i; omega
    rw [e3] at hg
    rw [hg]
    have hm : i % 4 = 0 ∨ i % 4 = 1 ∨ i % 4 = 2 ∨ i % 4 = 3 := by omega
    rcases hm with hm | hm | hm | hm <;> simp [madeCells, hi, hm, kO, zon]
  · rw [List.getElem?_eq_none (by simp [madeCells]; omega), List.getElem?_eq_none (by omega)]
set_option maxHeartbeats 1000000 in
theorem toOwn_any (o : On) (w : World) : Calls Try.prog 90 #[o.v] w fun e w' => e = .returned o.v ∧ Below w.heap.size w w' := by
  obtain ⟨l, x, y, s⟩ := o
  have hst := (((St.nil w).push [.int .i64 l, .int .i64 x, .int .i64 y, .int .i64 s] 116).push [.int .i64 0, .int .i64 0, .int .i64 0, .int .i64 0] 73).push [.int .i64 0, .int .i64 0, .int .i64 0, .int .i64 0] 73
  simp only [World.size_alloc] at hst
  go_enter Try.func90, Try.ntmps90
  go_wp2_with (go_at_call 34; refine (M.toCell_any _ _ _ _).mono ?_; rintro e w1 ⟨rfl, hb2⟩; have hs1 := hst.step hb2; have hk := hs1.has; simp [Has, HasAt] at hk)
  refine bodyPost_ret (v := .agg #[.int .i64 l, .int .i64 x, .int .i64 y, .int .i64 s]) (by simp [results, Try.results90, go_sem, hk]) rfl ⟨rfl, ?_⟩
  have b2 : w.heap.size ≤ w.heap.size + 1 + 1 := by omega
  have b1 : w.heap.size ≤ w.heap.size + 1 := by omega
  exact (((((((hs1.bel.setCell (p := ⟨w.heap.size + 1 + 1, 0, none⟩) b2 _).setCell (p := ⟨w.heap.size + 1 + 1, 1, none⟩) b2 _).setCell (p := ⟨w.heap.size + 1 + 1, 2, none⟩) b2 _).setCell (p := ⟨w.heap.size + 1 + 1, 3, none⟩) b2 _).setCell (p := ⟨w.heap.size + 1, 0, none⟩) b1 _).setCell (p := ⟨w.heap.size + 1, 1, none⟩) b1 _).setCell (p := ⟨w.heap.size + 1, 2, none⟩) b1 _).setCell (p := ⟨w.heap.size + 1, 3, none⟩) b1 _
set_option maxRecDepth 100000 in
set_option maxHeartbeats 2000000 in
theorem toOwnS_any (p : Option Addr) (cap : Nat) (L : List On) (n : Nat) (hn : L.length = n) (w : World) (hL : SlG kLO w p L) (hb : n ≤ 1048576) :
    Calls Try.prog 69 #[.slice p n cap] w fun e w' => ∃ g, e = .returned (.slice (some ⟨g, 0, none⟩) n n) ∧ Sg w w' [rG kO (.slice (some ⟨g, 0, none⟩) n n) L] := by
  obtain ⟨i0, hi, hz0, hz1, hz2⟩ := info_parts info73
  have hmk := run_make (P := Try.prog) w 24 73 i0 _ Try.underlying24 hi hz0 .i64 .i64 (n : Int) (n : Int) (by omega) (by omega) (by rw [hz2]; omega) (by omega)
  rw [hz1, Int.toNat_natCast] at hmk
  have hS0 : Sg w (w.alloc (.cells (madeCells #[.int .i64 0, .int .i64 0, .int .i64 0, .int .i64 0] (n * 4)) 73)) [rG kO (.slice (some ⟨w.heap.size, 0, none⟩) n n) (List.replicate n zon)] := by
    have h := World.ownsRow_lit (base := w.heap.size) (e := 73) (size := 4) w (madeCells #[.int .i64 0, .int .i64 0, .int .i64 0, .int .i64 0] (n * 4)) n (Nat.le_refl _) (by unfold maxLen; omega) (size_madeCells _ _)
    rw [made_flatO] at h
    refine ⟨below_alloc1 _ _, fun r hr => ?_, by simp⟩
    simp at hr
    subst hr
    unfold Rw.own rG
    simp only [List.length_replicate]
    exact h
  have HN : Hid (L.length = n) := hn
  clear hn
  go_enter Try.func69, Try.ntmps69
  go_wp2
  go_loopw [4] (fun iv wr => ∃ (k : Nat) (M : List On), k ≤ n ∧ iv = .int .i64 k ∧ Hid (M.length = n ∧ ∀ j, j < k → M[j]? = L[j]?) ∧ Sg w wr [rG kO (.slice (some ⟨w.heap.size, 0, none⟩) n n) M]) (fun iv _ => n - (intOf iv).toNat)
  case atStart => exact ⟨0, _, by omega, rfl, ⟨by simp, fun j hj => by omega⟩, hS0⟩
  case round =>
    clear hS0
    obtain ⟨k, M, hk, rfl, hM, hS⟩ := hrel
    by_cases hlt : k < n
    · have hki : (k : Int) < n := by omega
      have hkL : k < L.length := by rw [HN.out]; exact hlt
      have hkM : k < M.length := by rw [hM.out.1]; exact hlt
      obtain ⟨g, off, rfl, hC⟩ := (hL.step hS.bel).at hkL
      obtain ⟨c0, c1, c2, c3⟩ := CsG.lo4 hC (getO hkL)
      have hgk := getO hkL
      obtain ⟨m, hm⟩ : ∃ m, L.getD k zon = m := ⟨_, rfl⟩
      rw [hm] at c0 c1 c2 c3 hgk
      have HGK : Hid (L[k]? = some m ∧ k < M.length) := ⟨hgk, hkM⟩
      clear hgk hm hC
      go_wp2_with (go_at_call 90; refine (toOwn_any m _).mono ?_; rintro e w1 ⟨rfl, hb2⟩; have hS1 := hS.step hb2; have ho := hS1.mem (K := kO) (v := .slice (some ⟨w.heap.size, 0, none⟩) n n) (L := M) (by simp); have hf := OwG.fz ho; obtain ⟨d0, d1, d2, d3⟩ := CsG.o4 (OwG.cs ho) (getO HGK.out.2); simp only [Nat.zero_add] at d0 d1 d2 d3; clear ho)
      have hS2 := Sg.setO (A := []) hS1 HGK.out.2 m
      go_roundw
      case rel =>
        refine ⟨k + 1, M.set k m, by omega, by go_num, ⟨by simp [hM.out.1], fun j hj => ?_⟩, hS2⟩
        by_cases e : k = j
        · subst e; rw [List.getElem?_set_self HGK.out.2, HGK.out.1]
        · rw [List.getElem?_set_ne e]; exact hM.out.2 j (by omega)
      case measure => simp [intOf]; omega
    · obtain rfl : k = n := by omega
      have e : M = L := List.ext_getElem? fun j => by
        by_cases hj : j < k
        · exact hM.out.2 j hj
        · rw [List.getElem?_eq_none (by rw [hM.out.1]; omega), List.getElem?_eq_none (by rw [HN.out]; omega)]
      subst e
      go_wp2
      go_ret
      exact ⟨_, rfl, hS⟩
end Go.Proofs.Ytamnmakegdnblaa.K.D
