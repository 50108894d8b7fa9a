/-
  Papers: lists of Clauses and Papers are right, the program's and the spec's looks; the texts of all Clauses.
-/
import Derived.Test.YtbkiogedipmioaaGreatVP4
import Derived.Deep.RegionHeld3
import Derived.Deep.CutRange
namespace Go.Proofs.YtbkiogedipmioaaGreat.V
open Go.RowKit Go.Joins M
attribute [local go_sem] Oper.semAt_some

theorem oneIs (L : List Int) : ∀ u ∈ kI.flat L, u.oneCell' = true := fun u hu => by
  unfold Kd.flat at hu
  obtain ⟨s, _, hs⟩ := List.mem_flatMap.mp hu
  simp [kI] at hs
  subst hs; rfl
theorem oneTs (L : List ByteArray) : ∀ u ∈ kT.flat L, u.oneCell' = true := fun u hu => by
  unfold Kd.flat at hu
  obtain ⟨s, _, hs⟩ := List.mem_flatMap.mp hu
  simp [kT] at hs
  subst hs; rfl
theorem Sg.three {α : Type} {K : Kd α} {w W : World} {rs : List Rw} {g n : Nat} {p : α} {a b c : Value} (h : Sg w W rs) (hm : rG K (.slice (some ⟨g, 0, none⟩) 1 n) [p] ∈ rs) (hv : K.vs p = [a, b, c]) :
    W.cell? ⟨g, 0, none⟩ = some a ∧ W.cell? ⟨g, 1, none⟩ = some b ∧ W.cell? ⟨g, 2, none⟩ = some c ∧ (∀ j, W.frozen? ⟨g, j, none⟩ = false) ∧ g < W.heap.size := by
  have ho := h.mem hm
  have h0 := (OwG.cs ho).at (k := 0) (a := p) rfl (i := 0) (u := a) (by rw [hv]; rfl)
  have h1 := (OwG.cs ho).at (k := 0) (a := p) rfl (i := 1) (u := b) (by rw [hv]; rfl)
  have h2 := (OwG.cs ho).at (k := 0) (a := p) rfl (i := 2) (u := c) (by rw [hv]; rfl)
  simp only [Nat.zero_mul, Nat.zero_add] at h0 h1 h2
  exact ⟨h0, h1, h2, OwG.fz ho, (OwG.cs ho).1⟩
theorem keepG {A B : World → Prop} (h : Hid (∀ w', A w' → B w')) {w' : World} (ha : A w') : A w' ∧ B w' := ⟨ha, h.out w' ha⟩
theorem fm_take {L : List T3} {k : Nat} (hk : k < L.length) : (L.take (k + 1)).flatMap n3 = (L.take k).flatMap n3 ++ [(L.getD k z3).l, (L.getD k z3).x, (L.getD k z3).y] := by
  have e : L.take (k + 1) = L.take k ++ [L.getD k z3] := by rw [List.take_succ_eq_append_getElem hk]; simp [List.getD, hk]
  rw [e, List.flatMap_append]; simp [n3]
theorem smallN_nums {c : Cl} (h : clB c = true) : smallN (nums c) := by
  obtain ⟨h1, h2, h3⟩ := clB_t h
  have cell : ∀ L, ofB L = true → smallN (nL L) := fun L hL => by
    unfold ofB at hL
    rw [Bool.and_eq_true, decide_eq_true_iff] at hL
    intro n hn
    unfold nL at hn
    rcases List.mem_cons.mp hn with rfl | hn
    · omega
    · obtain ⟨x, hx, hn⟩ := List.mem_flatMap.mp hn
      have hb := t3_bd (okL_t hL.2 x hx)
      simp only [n3, List.mem_cons, List.not_mem_nil, or_false] at hn
      omega
  intro n hn
  unfold nums at hn
  rcases List.mem_cons.mp hn with rfl | hn
  · omega
  · rcases List.mem_append.mp hn with hn | hn
    · exact cell _ h2 n hn
    · exact cell _ h3 n hn

set_option maxRecDepth 100000 in
set_option maxHeartbeats 4000000 in
theorem l10Text_any {c : Cl} {s t : Sv} (hc : clB c = true) (w : World) (hR : RdQ w c s t) :
    Calls Tryz.prog 99 #[.agg #[.slice s.p s.n s.c, .slice t.p t.n t.c, .int .i64 c.un]] w fun e w' => e = .returned (.string (tx c)) ∧ Below w.heap.size w w' := by
  have hS0 := ((Sg.nil w).lit kQ [(c, s, t)] 1 rfl (by decide) #[.slice s.p s.n s.c, .slice t.p t.n t.c, .int .i64 c.un] rfl).lit kI [c.un, (s.n : Int)] 2 rfl (by decide) #[.int .i64 c.un, .int .i64 s.n] rfl
  simp only [World.size_alloc] at hS0
  have hsn : s.n ≤ 8 := by have := (clB_t hc).2.1; unfold ofB at this; rw [Bool.and_eq_true, decide_eq_true_iff, hR.n1] at this; exact this.1
  have htn : t.n ≤ 8 := by have := (clB_t hc).2.2; unfold ofB at this; rw [Bool.and_eq_true, decide_eq_true_iff, hR.n2] at this; exact this.1
  have HH : Hid (clB c = true ∧ RdQ w c s t) := ⟨hc, hR⟩
  clear hc hR
  go_enter Tryz.func99, Tryz.ntmps99
  go_wp2
  go_loopw [3, 4] (fun nv iv wr => ∃ (k g cap : Nat) (Ls : List Int), k ≤ s.n ∧ iv = .int .i64 k ∧ nv = .slice (some ⟨g, 0, none⟩) (2 + 3 * k) cap ∧ Hid (Ls = c.un :: (s.n : Int) :: (c.rd.take k).flatMap n3 ∧ Ls.length = 2 + 3 * k) ∧ Sg w wr [rG kI (.slice (some ⟨g, 0, none⟩) (2 + 3 * k) cap) Ls, rG kQ (.slice (some ⟨w.heap.size, 0, none⟩) 1 1) [(c, s, t)]]) (fun _ iv _ => s.n - (intOf iv).toNat)
  case atStart => exact ⟨0, _, _, _, by omega, rfl, rfl, ⟨rfl, rfl⟩, hS0⟩
  case round =>
    clear hS0
    obtain ⟨k, g, cap, Ls, hk, rfl, rfl, hLs, hS⟩ := hrel
    obtain ⟨x0, x1, x2, xf, xg⟩ := hS.three (K := kQ) (g := w.heap.size) (n := 1) (p := (c, s, t)) (by simp) rfl
    by_cases hlt : k < s.n
    · have hki : (k : Int) < s.n := by omega
      have hkL : k < c.rd.length := by rw [HH.out.2.n1]; exact hlt
      obtain ⟨gl, off, hp, hC⟩ := (HH.out.2.r1.step hS.bel).at hkL
      obtain ⟨c0, c1, c2⟩ := hC.c3 (getC hkL)
      have HF := Lib.hid (fm_take hkL)
      have hCz : CsG kC w gl off c.rd := by
        obtain ⟨gl2, off2, hp2, hC2⟩ := HH.out.2.r1.at hkL
        rw [hp] at hp2; cases hp2; exact hC2
      have HZ : Hid (c.rd[k]? = some (c.rd.getD k z3)) := getC hkL
      generalize c.rd.getD k z3 = z at c0 c1 c2 HF HZ
      rw [hp] at x0
      have HP : Hid (s.p = some ⟨gl, off, none⟩) := hp
      clear hp
      have HCZ : Hid (CsG kC w gl off c.rd) := hCz
      clear hC hkL hCz
      go_wp2
      have HK : Hid (∀ w', Sg w w' [rG kQ (.slice (some ⟨w.heap.size, 0, none⟩) 1 1) [(c, s, t)]] → (w'.cell? ⟨w.heap.size, 0, none⟩ = some (.slice (some ⟨gl, off, none⟩) s.n s.c) ∧ w'.cell? ⟨gl, off + k * 3, none⟩ = some (.int .i64 z.l) ∧ w'.cell? ⟨gl, off + k * 3 + 1, none⟩ = some (.int .i64 z.x) ∧ w'.cell? ⟨gl, off + k * 3 + 2, none⟩ = some (.int .i64 z.y))) := fun w' h => by
        obtain ⟨y0, _, _, _, _⟩ := h.three (K := kQ) (g := w.heap.size) (n := 1) (p := (c, s, t)) (by simp) rfl
        obtain ⟨d0, d1, d2⟩ := (HCZ.out.step h.bel).c3 HZ.out
        rw [show (c, s, t).2.1.p = some ⟨gl, off, none⟩ from HP.out] at y0
        exact ⟨y0, d0, d1, d2⟩
      go_region_held3 (fun w' => Sg w w' [rG kQ (.slice (some ⟨w.heap.size, 0, none⟩) 1 1) [(c, s, t)]] ∧ (w'.cell? ⟨w.heap.size, 0, none⟩ = some (.slice (some ⟨gl, off, none⟩) s.n s.c) ∧ w'.cell? ⟨gl, off + k * 3, none⟩ = some (.int .i64 z.l) ∧ w'.cell? ⟨gl, off + k * 3 + 1, none⟩ = some (.int .i64 z.x) ∧ w'.cell? ⟨gl, off + k * 3 + 2, none⟩ = some (.int .i64 z.y)))
        (first | exact ‹Sg _ _ _ ∧ _› | exact keepG HK (hS4.sub (by simp)) | exact keepG HK ((hS.sub (by simp)).step ((below_alloc1 _ _).drew)) | exact keepG HK ((hS.sub (by simp)).step ((Below.refl _ _).drew)) | fail)
        (first | (refine step_sgapp appI (by rfl) _ _ (by rfl) (A := []) (B := [z.l, z.x, z.y]) (n := 2 + 3 * k) (m := 3) hS ((below_alloc1 _ _).drew) hLs.out.2 rfl (by rfl) ⟨wr.heap.size, 0, none⟩ 3 (by rfl) (fun j u hj => lit_src (W := wr) (xs := [.int .i64 z.l, .int .i64 z.x, .int .i64 z.y]) (t := 2) rfl j u hj) (oneIs _) (.inl (by decide)) (by omega) ?_; intro g' cap' w4 hS4 _ _))
      all_goals
        go_wp2
        go_roundw
        case rel =>
          refine ⟨k + 1, g', cap', Ls ++ [z.l, z.x, z.y], by omega, by go_num, rfl, ⟨by rw [hLs.out.1, HF.out]; simp, by rw [List.length_append, hLs.out.2]; rfl⟩, hS4⟩
        case measure => simp [intOf]; omega
    · obtain rfl : k = s.n := by omega
      have HL2 : Hid (Ls = c.un :: nL c.rd ∧ Ls.length = 2 + 3 * s.n) := ⟨by rw [hLs.out.1, List.take_of_length_le (by rw [HH.out.2.n1]; exact Nat.le_refl _)]; unfold nL; rw [HH.out.2.n1], hLs.out.2⟩
      clear hLs
      go_wp2_with (at_builtin; refine wpList_sgapp appI rfl _ _ rfl (A := []) (B := [(t.n : Int)]) (n := 2 + 3 * s.n) (m := 1) hS (below_alloc1 _ _) HL2.out.2 rfl rfl ⟨wr.heap.size, 0, none⟩ 1 rfl (lit_src (xs := [.int .i64 t.n]) rfl) (oneIs _) (.inl (by decide)) (by omega) ?_; intro g1 cap1 w1 hS1 _ _; have hS2 : Sg w w1 [rG kI (.slice (some ⟨g1, 0, none⟩) (2 + 3 * s.n + 1) cap1) (Ls ++ [(t.n : Int)]), rG kQ (.slice (some ⟨w.heap.size, 0, none⟩) 1 1) [(c, s, t)]] := hS1; obtain ⟨y0, y1, y2, yf, yg⟩ := hS2.three (K := kQ) (g := w.heap.size) (n := 1) (p := (c, s, t)) (by simp) rfl)
      go_loopw [3, 5] (fun nv iv wr => ∃ (k g cap : Nat) (Ls : List Int), k ≤ t.n ∧ iv = .int .i64 k ∧ nv = .slice (some ⟨g, 0, none⟩) (2 + 3 * s.n + 1 + 3 * k) cap ∧ Hid (Ls = c.un :: (nL c.rd ++ (t.n : Int) :: (c.wr.take k).flatMap n3) ∧ Ls.length = 2 + 3 * s.n + 1 + 3 * k) ∧ Sg w wr [rG kI (.slice (some ⟨g, 0, none⟩) (2 + 3 * s.n + 1 + 3 * k) cap) Ls, rG kQ (.slice (some ⟨w.heap.size, 0, none⟩) 1 1) [(c, s, t)]]) (fun _ iv _ => t.n - (intOf iv).toNat)
      case atStart => exact ⟨0, g1, cap1, Ls ++ [(t.n : Int)], by omega, rfl, rfl, ⟨by rw [HL2.out.1]; simp, by rw [List.length_append, HL2.out.2]; rfl⟩, hS2⟩
      case round =>
        clear hS hS1 hS2 x0 x1 x2 xf xg y0 y1 y2 yf yg
        rename World => wo
        obtain ⟨k, g, cap, Ls, hk, rfl, rfl, hLs, hS⟩ := hrel
        obtain ⟨x0, x1, x2, xf, xg⟩ := hS.three (K := kQ) (g := w.heap.size) (n := 1) (p := (c, s, t)) (by simp) rfl
        by_cases hlt : k < t.n
        · have hki : (k : Int) < t.n := by omega
          have hkL : k < c.wr.length := by rw [HH.out.2.n2]; exact hlt
          obtain ⟨gl, off, hp, hC⟩ := (HH.out.2.r2.step hS.bel).at hkL
          obtain ⟨c0, c1, c2⟩ := hC.c3 (getC hkL)
          have HF := Lib.hid (fm_take hkL)
          have hCz : CsG kC w gl off c.wr := by
            obtain ⟨gl2, off2, hp2, hC2⟩ := HH.out.2.r2.at hkL
            rw [hp] at hp2; cases hp2; exact hC2
          have HZ : Hid (c.wr[k]? = some (c.wr.getD k z3)) := getC hkL
          generalize c.wr.getD k z3 = z at c0 c1 c2 HF HZ
          rw [hp] at x1
          have HP : Hid (t.p = some ⟨gl, off, none⟩) := hp
          clear hp
          have HCZ : Hid (CsG kC w gl off c.wr) := hCz
          clear hC hkL hCz
          go_wp2
          have HK : Hid (∀ w', Sg w w' [rG kQ (.slice (some ⟨w.heap.size, 0, none⟩) 1 1) [(c, s, t)]] → (w'.cell? ⟨w.heap.size, 1, none⟩ = some (.slice (some ⟨gl, off, none⟩) t.n t.c) ∧ w'.cell? ⟨gl, off + k * 3, none⟩ = some (.int .i64 z.l) ∧ w'.cell? ⟨gl, off + k * 3 + 1, none⟩ = some (.int .i64 z.x) ∧ w'.cell? ⟨gl, off + k * 3 + 2, none⟩ = some (.int .i64 z.y))) := fun w' h => by
            obtain ⟨_, y0, _, _, _⟩ := h.three (K := kQ) (g := w.heap.size) (n := 1) (p := (c, s, t)) (by simp) rfl
            obtain ⟨d0, d1, d2⟩ := (HCZ.out.step h.bel).c3 HZ.out
            rw [show (c, s, t).2.2.p = some ⟨gl, off, none⟩ from HP.out] at y0
            exact ⟨y0, d0, d1, d2⟩
          go_region_held3 (fun w' => Sg w w' [rG kQ (.slice (some ⟨w.heap.size, 0, none⟩) 1 1) [(c, s, t)]] ∧ (w'.cell? ⟨w.heap.size, 1, none⟩ = some (.slice (some ⟨gl, off, none⟩) t.n t.c) ∧ w'.cell? ⟨gl, off + k * 3, none⟩ = some (.int .i64 z.l) ∧ w'.cell? ⟨gl, off + k * 3 + 1, none⟩ = some (.int .i64 z.x) ∧ w'.cell? ⟨gl, off + k * 3 + 2, none⟩ = some (.int .i64 z.y)))
            (first | exact ‹Sg _ _ _ ∧ _› | exact keepG HK (hS4.sub (by simp)) | exact keepG HK ((hS.sub (by simp)).step ((below_alloc1 _ _).drew)) | exact keepG HK ((hS.sub (by simp)).step ((Below.refl _ _).drew)) | fail)
            (first | (refine step_sgapp appI (by rfl) _ _ (by rfl) (A := []) (B := [z.l, z.x, z.y]) (n := 2 + 3 * s.n + 1 + 3 * k) (m := 3) hS ((below_alloc1 _ _).drew) hLs.out.2 rfl (by rfl) ⟨wo.heap.size, 0, none⟩ 3 (by rfl) (fun j u hj => lit_src (W := wo) (xs := [.int .i64 z.l, .int .i64 z.x, .int .i64 z.y]) (t := 2) rfl j u hj) (oneIs _) (.inl (by decide)) (by omega) ?_; intro g' cap' w4 hS4 _ _))
          all_goals
            go_wp2
            go_roundw
            case rel =>
              refine ⟨k + 1, g', cap', Ls ++ [z.l, z.x, z.y], by omega, by go_num, rfl, ⟨by rw [hLs.out.1, HF.out]; simp, by rw [List.length_append, hLs.out.2]; rfl⟩, hS4⟩
            case measure => simp [intOf]; omega
        · obtain rfl : k = t.n := by omega
          have HL3 : Hid (Ls = nums c ∧ Ls.length = 2 + 3 * s.n + 1 + 3 * t.n) := ⟨by rw [hLs.out.1, List.take_of_length_le (by rw [HH.out.2.n2]; exact Nat.le_refl _)]; unfold nums nL; rw [HH.out.2.n2], hLs.out.2⟩
          clear hLs
          go_wp2_with (go_at_call 123; refine (l1Ints_any (some ⟨g, 0, none⟩) cap Ls (2 + 3 * s.n + 1 + 3 * t.n) HL3.out.2 (by omega) (by rw [HL3.out.1]; exact smallN_nums HH.out.1) _ (OwG.sl (hS.mem (K := kI) (v := .slice (some ⟨g, 0, none⟩) (2 + 3 * s.n + 1 + 3 * t.n) cap) (L := Ls) (by simp)))).mono ?_; rintro e w3 ⟨rfl, hb3⟩)
          go_ret
          exact ⟨by rw [HL3.out.1]; rfl, (hS.step hb3).bel⟩
end Go.Proofs.YtbkiogedipmioaaGreat.V
namespace Go.Proofs.YtbkiogedipmioaaGreat.V
open Go.RowKit Go.Joins M
attribute [local go_sem] Oper.semAt_some

def wdL (L : List T3) : List ByteArray := (nL L).map dgS
theorem wd_take {L : List T3} {k : Nat} (hk : k < L.length) : ((L.take (k + 1)).flatMap n3).map dgS = ((L.take k).flatMap n3).map dgS ++ [dgS (L.getD k z3).l, dgS (L.getD k z3).x, dgS (L.getD k z3).y] := by
  rw [fm_take hk, List.map_append]; rfl
theorem OwG.cap {α : Type} {K : Kd α} {W : World} {base g n c : Nat} {L : List α} (h : OwG K W base (.slice (some ⟨g, 0, none⟩) n c) L) : n ≤ c := by
  have hn := OwG.len h
  subst hn
  rcases h.2 with ⟨h1, _⟩ | ⟨_, _, _, h1, _, _, h2, _⟩
  · cases h1
  · injection h1 with _ _ h1; omega
/-- All words of a Clause's text. -/
theorem join_words (c : Cl) : Lib.join ((dgS c.un :: (wdL c.rd ++ wdL c.wr)).map (·.data.toList)) (⟨#[32]⟩ : ByteArray).data.toList = txL (nums c) := by
  unfold txL nums wdL
  show Lib.join _ [32] = Lib.join _ [32]
  congr 1
  simp [dgS, Function.comp_def]
end Go.Proofs.YtbkiogedipmioaaGreat.V
namespace Go.Proofs.YtbkiogedipmioaaGreat.V
open Go.RowKit Go.Joins M
attribute [local go_sem] Oper.semAt_some

abbrev CQ := Cl × Sv × Sv
def zcl : Cl := ⟨[], [], 0⟩
def zsv : Sv := ⟨none, 0, 0⟩
def zq : CQ := (zcl, zsv, zsv)
theorem getQ {L : List CQ} {k : Nat} (hk : k < L.length) : L[k]? = some (L.getD k zq) := by simp [List.getD, hk]
/-- A list of Clauses as one reads it. -/
def RdS (W : World) (p : Option Addr) (QL : List CQ) : Prop := SlG kQ W p QL ∧ ∀ q ∈ QL, RdQ W q.1 q.2.1 q.2.2
theorem RdS.step {w w' : World} {p : Option Addr} {QL : List CQ} (h : RdS w p QL) (hb : Below w.heap.size w w') : RdS w' p QL := ⟨h.1.step hb, fun q hq => (h.2 q hq).step hb⟩
def cls (QL : List CQ) : List Cl := QL.map Prod.fst
theorem cls_take (QL : List CQ) (k : Nat) : cls (QL.take k) = (cls QL).take k := by unfold cls; rw [List.map_take]
theorem cls_len (QL : List CQ) : (cls QL).length = QL.length := by unfold cls; simp
theorem cls_get {QL : List CQ} {k : Nat} (hk : k < QL.length) : (cls QL)[k]? = some (QL.getD k zq).1 := by unfold cls; rw [List.getElem?_map, getQ hk]; rfl
theorem all_takeC {QL : List CQ} {k : Nat} (hk : k < QL.length) : ((cls QL).take (k + 1)).all clB = (((cls QL).take k).all clB && clB (QL.getD k zq).1) := by
  rw [List.take_add_one, cls_get hk, List.all_append]; simp
theorem all_noC {QL : List CQ} {k : Nat} (hk : k < QL.length) (h : clB (QL.getD k zq).1 = false) : (cls QL).all clB = false := by
  rw [Bool.eq_false_iff]; intro h2; rw [List.all_eq_true] at h2; have := h2 _ (List.mem_of_getElem? (cls_get hk)); rw [h] at this; cases this
theorem Sg.nilRow {α : Type} (K : Kd α) {w W : World} {rs : List Rw} (h : Sg w W rs) : Sg w W (rG K (.slice none 0 0) [] :: rs) :=
  ⟨h.bel, fun r hr => by
    rcases List.mem_cons.mp hr with rfl | hr
    · exact World.ownsRow_nil ..
    · exact h.own r hr, .cons (fun q _ => .inl rfl) h.dis⟩
theorem clsB_n {L : List Cl} {n : Nat} (hn : L.length = n) : clsB L = (decide (1 ≤ n ∧ n ≤ 6) && L.all clB) := by unfold clsB; rw [hn]

set_option maxHeartbeats 1000000 in
theorem iClauses_any (p : Option Addr) (cap n : Nat) (QL : List CQ) (hn : QL.length = n) (hb0 : n ≤ 10000000) (w : World) (hR : RdS w p QL) :
    Calls Tryz.prog 76 #[.slice p n cap] w fun e w' => e = .returned (.bool (clsB (cls QL))) ∧ Below w.heap.size w w' := by
  have HN : Hid (QL.length = n ∧ RdS w p QL) := ⟨hn, hR⟩
  have HE : Hid (clsB (cls QL) = (decide (1 ≤ n ∧ n ≤ 6) && (cls QL).all clB)) := clsB_n (by rw [cls_len, hn])
  clear hn hR
  by_cases h1 : n < 1
  · have h1' : (n : Int) < 1 := by omega
    go_enter Tryz.func76, Tryz.ntmps76
    go_wp2
    go_ret
    exact ⟨ret_bool (by rw [HE.out, decide_eq_false (by omega)]; rfl), Below.refl _ _⟩
  have h1' : ¬ (n : Int) < 1 := by omega
  by_cases h6 : 6 < n
  · have h6' : (6 : Int) < n := by omega
    go_enter Tryz.func76, Tryz.ntmps76
    go_wp2
    go_ret
    exact ⟨ret_bool (by rw [HE.out, decide_eq_false (by omega)]; rfl), Below.refl _ _⟩
  have h6' : ¬ (6 : Int) < n := by omega
  go_enter Tryz.func76, Tryz.ntmps76
  go_wp2
  go_loopw [15] (fun i wr => ∃ k : Nat, k ≤ n ∧ i = .int .i64 k ∧ Hid (((cls QL).take k).all clB = true) ∧ Below w.heap.size w wr) (fun i _ => n - (intOf i).toNat)
  case atStart => exact ⟨0, by omega, rfl, rfl, Below.refl _ _⟩
  case round =>
    obtain ⟨k, hk, rfl, hall, hb⟩ := hrel
    by_cases hlt : k < n
    · have hki : (k : Int) < n := by omega
      have hkL : k < QL.length := by rw [HN.out.1]; exact hlt
      obtain ⟨g, off, rfl, hC⟩ := (HN.out.2.1.step hb).at hkL
      obtain ⟨c0, c1, c2⟩ := hC.q3 (getQ hkL)
      have hq := HN.out.2.2 _ (List.mem_of_getElem? (getQ hkL))
      have hat := all_takeC hkL
      have hno := all_noC hkL
      obtain ⟨⟨c, s, t⟩, hx⟩ : ∃ x : CQ, QL.getD k zq = x := ⟨_, rfl⟩
      rw [hx] at c0 c1 c2 hq hat hno
      simp only at c0 c1 c2 hq hat hno
      have HQ := Lib.hid hq
      have HAT := Lib.hid hat
      have HNO := Lib.hid hno
      clear hC hkL hq hat hno hx
      cases hv : clB c
      · go_wp2_with (go_at_call 112; refine (iClause_v hv _ ((HQ.out.step hb).step (below_alloc1 _ _))).mono ?_; rintro e w1 ⟨rfl, hb2⟩)
        go_ret
        exact ⟨ret_bool (by rw [HE.out, HNO.out hv, Bool.and_false]), bstepA hb hb2 (Nat.le_refl _)⟩
      · go_wp2_with (go_at_call 112; refine (iClause_v hv _ ((HQ.out.step hb).step (below_alloc1 _ _))).mono ?_; rintro e w1 ⟨rfl, hb2⟩)
        go_roundw
        case rel => exact ⟨k + 1, by omega, by go_num, by rw [HAT.out, hall.out, hv]; exact rfl, bstepA hb hb2 (Nat.le_refl _)⟩
        case measure => simp [intOf]; omega
    · obtain rfl : k = n := by omega
      have HF : Hid ((cls QL).all clB = true) := by
        have h := hall.out
        rw [List.take_of_length_le (by rw [cls_len, HN.out.1]; exact Nat.le_refl _)] at h
        exact h
      go_wp2
      go_ret
      exact ⟨ret_bool (by rw [HE.out, HF.out, decide_eq_true (by omega)]; rfl), hb⟩

theorem isTenant_any (n : Int) (w : World) : Calls Tryz.prog 73 #[.int .i64 n] w fun e w' => e = .returned (.bool (tenB n)) ∧ w' = w := by
  go_enter Tryz.func73, Tryz.ntmps73
  go_wp2
  all_goals (go_ret; exact ⟨ret_bool (by unfold tenB; first | exact (decide_eq_true (by omega)).symm | exact (decide_eq_false (by omega)).symm | exact decide_eq_decide.mpr (by omega)), rfl⟩)
theorem isTenant_v {n : Int} {v : Bool} (hv : tenB n = v) (w : World) : Calls Tryz.prog 73 #[.int .i64 n] w fun e w' => e = .returned (.bool v) ∧ w' = w := hv ▸ isTenant_any n w
theorem sTenant_v {n : Int} {v : Bool} (hv : tenB n = v) (w : World) : Calls Tryz.prog 37 #[.int .i64 n, .int .i64 1, .int .i64 99] w fun e w' => e = .returned (.bool v) ∧ w' = w := hv ▸ l1In_any n 1 99 w
/-- Is a Paper right? -/
def ppB (tn : Int) (L : List Cl) (tag : Int) : Bool := tenB tn && (clsB L && inB tag)

set_option maxHeartbeats 1000000 in
theorem iPaper_v {tn tag : Int} {p : Option Addr} {cap n : Nat} {QL : List CQ} {v : Bool} (hv : ppB tn (cls QL) tag = v) (hn : QL.length = n) (hb0 : n ≤ 10000000) (w : World) (hR : RdS w p QL) :
    Calls Tryz.prog 33 #[.agg #[.slice p n cap, .int .i64 tn, .int .i64 tag]] w fun e w' => e = .returned (.bool v) ∧ Below w.heap.size w w' := by
  have hst := (St.nil w).push [.slice p n cap, .int .i64 tn, .int .i64 tag] 71
  have H1 : Hid (∀ W, Below w.heap.size w W → Calls Tryz.prog 76 #[.slice p n cap] W fun e w' => e = .returned (.bool (clsB (cls QL))) ∧ Below W.heap.size W w') := fun W h => iClauses_any p cap n QL hn hb0 W (hR.step h)
  clear hn hR
  unfold ppB at hv
  cases h0 : tenB tn
  · rw [h0, Bool.false_and] at hv
    subst hv
    go_enter Tryz.func33, Tryz.ntmps33
    go_wp2_with (go_at_call 73; refine (isTenant_v h0 _).mono ?_; rintro e w1 ⟨rfl, hw1⟩; obtain rfl := hw1.symm)
    go_ret
    exact ⟨rfl, hst.bel⟩
  rw [h0, Bool.true_and] at hv
  cases h1 : clsB (cls QL)
  · rw [h1, Bool.false_and] at hv
    rw [h1] at H1
    subst hv
    go_enter Tryz.func33, Tryz.ntmps33
    go_wp2_with (first
      | (go_at_call 73; refine (isTenant_v h0 _).mono ?_; rintro e w1 ⟨rfl, hw1⟩; obtain rfl := hw1.symm)
      | (go_at_call 76; refine (H1.out _ hst.bel).mono ?_; rintro e w1 ⟨rfl, hb1⟩))
    go_ret
    exact ⟨rfl, (hst.step hb1).bel⟩
  rw [h1, Bool.true_and] at hv
  rw [h1] at H1
  go_enter Tryz.func33, Tryz.ntmps33
  go_wp2_with (first
    | (go_at_call 73; refine (isTenant_v h0 _).mono ?_; rintro e w1 ⟨rfl, hw1⟩; obtain rfl := hw1.symm)
    | (go_at_call 76; refine (H1.out _ hst.bel).mono ?_; rintro e w1 ⟨rfl, hb1⟩; have hs1 := hst.step hb1; have hk := hs1.has; simp [Has, HasAt] at hk)
    | (go_at_call 77; refine (isSeal_v hv _).mono ?_; rintro e w2 ⟨rfl, hw2⟩; obtain rfl := hw2.symm))
  go_ret
  exact ⟨rfl, hs1.bel⟩
end Go.Proofs.YtbkiogedipmioaaGreat.V
