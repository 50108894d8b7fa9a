/-
  One strip is laid: each band's depth is counted in the map.
-/
import Derived.Test.YtgpgmndjkcpaoaaMP
import Derived.Test.YtgpgmndjkcpaoaaA2
namespace Go.Proofs.Ytgpgmndjkcpaoaa
open Go.RowKit Go.Joins
attribute [local go_sem] Oper.semAt_some

theorem Has.grown {X Y : World} {g0 : Nat} (hg : X.grownBy Y (some g0)) : ∀ {l : List (Nat × List Value)}, (∀ p ∈ l, p.1 ≠ g0) → Has X l → Has Y l
  | [], _, _ => trivial
  | p :: l, hl, ⟨⟨h1, h2, h3⟩, t⟩ => by
    have hb := hg.block p.1 h1 (fun e => hl p (by simp) (by injection e))
    refine ⟨⟨Nat.lt_of_lt_of_le h1 hg.size, fun o => ?_, hasAt_of _ _ (fun j v hj => ?_)⟩, Has.grown hg (fun q hq => hl q (List.mem_cons_of_mem _ hq)) t⟩
    · have := h2 o
      unfold World.frozen? at this ⊢
      rw [hb]; exact this
    · have := HasAt.get h3 j v hj
      exact (World.cell?_of_block (w := X) hb).trans this
/-- Nothing old has turned but block b; each listed block holds its values. -/
structure Gm (w wx : World) (b : Nat) (l : List (Nat × List Value)) : Prop where
  gr : w.grownBy wx (some b)
  has : Has wx l
  dis : ∀ p ∈ l, p.1 ≠ b
theorem grown_below {w X Y : World} {r : Option Nat} (h : w.grownBy X r) (hb : Below X.heap.size X Y) : w.grownBy Y r :=
  ⟨hb.os.trans h.os, hb.tape.trans h.tape, hb.output.trans h.output, Nat.le_trans h.size hb.size, fun k hk hr => (hb.block k (Nat.lt_of_lt_of_le hk h.size)).trans (h.block k hk hr)⟩
theorem Gm.step {w X Y : World} {b : Nat} {l : List (Nat × List Value)} (h : Gm w X b l) (hb : Below X.heap.size X Y) : Gm w Y b l := ⟨grown_below h.gr hb, h.has.step hb, h.dis⟩
theorem Gm.up {w X Y : World} {b : Nat} {l : List (Nat × List Value)} (h : Gm w X b l) (hg : X.grownBy Y (some b)) : Gm w Y b l := ⟨gtrans h.gr hg, Has.grown hg h.dis h.has, h.dis⟩
theorem Gm.dr {w X : World} {b : Nat} {l : List (Nat × List Value)} (h : Gm w X b l) : Gm w X.drew b l := h.step (Below.refl _ _).drew
theorem Gm.sub {w X : World} {b : Nat} {l l' : List (Nat × List Value)} (h : Gm w X b l) (hs : ∀ p ∈ l', p ∈ l) : Gm w X b l' := ⟨h.gr, h.has.sub hs, fun p hp => h.dis p (hs p hp)⟩
theorem Gm.push {w X : World} {b : Nat} {l : List (Nat × List Value)} (h : Gm w X b l) (hb : b < X.heap.size) (vs : List Value) (t : TypeId) : Gm w (X.alloc (.cells vs.toArray t)) b ((X.heap.size, vs) :: l) := by
  refine ⟨grown_below h.gr (below_alloc1 _ _), ⟨⟨by simp, fun o => World.frozen?_alloc_at _ _ _ _ rfl, hasAt_of _ _ (fun j v hj => ?_)⟩, h.has.step (below_alloc1 _ _)⟩, fun p hp => ?_⟩
  · rw [Nat.zero_add, World.cell?_alloc_at _ _ _ _ rfl]
    simpa using hj
  · rcases List.mem_cons.1 hp with rfl | hp
    · show X.heap.size ≠ b; omega
    · exact h.dis p hp
theorem cells_ne_map {w : World} {g o b : Nat} {v : Value} {f : T2 → Int} (hc : w.cell? ⟨g, o, none⟩ = some v) (h : Mp w b f) : g ≠ b := by
  rintro rfl
  obtain ⟨E, clock, hb, _⟩ := h
  simp [World.cell?, hb] at hc
theorem Cs4.kept {w w' : World} {b g off : Nat} {L : List T4} (h : Cs4 w g off L) (hg : w.grownBy w' (some b)) (hne : g ≠ b) : Cs4 w' g off L := by
  have hb := hg.block g h.1 (fun e => hne (by injection e))
  exact ⟨Nat.lt_of_lt_of_le h.1 hg.size, fun k c hk => ⟨(World.cell?_of_block (w := w) hb).trans (h.2 k c hk).1, (World.cell?_of_block (w := w) hb).trans (h.2 k c hk).2.1, (World.cell?_of_block (w := w) hb).trans (h.2 k c hk).2.2.1, (World.cell?_of_block (w := w) hb).trans (h.2 k c hk).2.2.2⟩⟩
theorem Cs.kept {w w' : World} {b g off : Nat} {L : List T2} (h : Cs w g off L) (hg : w.grownBy w' (some b)) (hne : g ≠ b) : Cs w' g off L := by
  have hb := hg.block g h.1 (fun e => hne (by injection e))
  exact ⟨Nat.lt_of_lt_of_le h.1 hg.size, fun k c hk => ⟨(World.cell?_of_block (w := w) hb).trans (h.2 k c hk).1, (World.cell?_of_block (w := w) hb).trans (h.2 k c hk).2⟩⟩
theorem Sl4.kept {w w' : World} {b : Nat} {p : Option Addr} {L : List T4} {f : T2 → Int} (h : Sl4 w p L) (hm : Mp w b f) (hg : w.grownBy w' (some b)) : Sl4 w' p L := by
  rcases h with h | ⟨g, off, h1, h2⟩
  · exact .inl h
  · cases L with
    | nil => exact .inl rfl
    | cons a t => exact .inr ⟨g, off, h1, h2.kept hg (cells_ne_map (h2.2 0 a rfl).1 hm)⟩
theorem Sl.kept {w w' : World} {b : Nat} {p : Option Addr} {L : List T2} {f : T2 → Int} (h : Sl w p L) (hm : Mp w b f) (hg : w.grownBy w' (some b)) : Sl w' p L := by
  rcases h with h | ⟨g, off, h1, h2⟩
  · exact .inl h
  · cases L with
    | nil => exact .inl rfl
    | cons a t => exact .inr ⟨g, off, h1, h2.kept hg (cells_ne_map (h2.2 0 a rfl).1 hm)⟩
def zro2 : T2 := ⟨0, 0⟩
theorem get2 {L : List T2} {k : Nat} (hk : k < L.length) : L[k]? = some (L.getD k zro2) := by simp [List.getD, hk]

/-- The map in the midst: bands ahead of place j have k + 1 Rects counted, the others k. -/
def LInv (L : List T4) (s : T2) (BS : List T2) (k j : Nat) (f : T2 → Int) : Prop := ∀ (i : Nat) (c : T2), BS[i]? = some c → f c = (dep (L.take (if i < j then k + 1 else k)) s c : Nat)
def Apt (BS : List T2) : Prop := ∀ (i j : Nat) (c : T2), BS[i]? = some c → BS[j]? = some c → i = j
theorem dep_take {L : List T4} {s c : T2} {k : Nat} (hk : k < L.length) : dep (L.take (k + 1)) s c = dep (L.take k) s c + if hasS (acr (L.getD k zr4)) s && hasS (upr (L.getD k zr4)) c then 1 else 0 := by
  unfold dep
  rw [List.take_succ_eq_append_getElem hk, List.countP_append, List.countP_singleton]
  simp [List.getD, hk]
theorem LInv.start (L : List T4) (s : T2) (BS : List T2) : LInv L s BS 0 0 (fun _ => 0) := fun i c _ => by simp [dep]
theorem LInv.next {L : List T4} {s : T2} {BS : List T2} {k : Nat} {f : T2 → Int} (h : LInv L s BS k BS.length f) : LInv L s BS (k + 1) 0 f := fun i c hc => by
  have := h i c hc
  rw [if_pos (List.getElem?_eq_some_iff.1 hc).1] at this
  simpa using this
theorem LInv.skip {L : List T4} {s : T2} {BS : List T2} {k : Nat} {f : T2 → Int} (h : LInv L s BS k 0 f) (hk : k < L.length) (hn : hasS (acr (L.getD k zr4)) s = false) : LInv L s BS (k + 1) 0 f := fun i c hc => by
  have := h i c hc
  simp only [Nat.not_lt_zero, if_false] at this ⊢
  rw [this, dep_take hk, hn]; simp
theorem LInv.no {L : List T4} {s : T2} {BS : List T2} {k j : Nat} {f : T2 → Int} (h : LInv L s BS k j f) (hk : k < L.length) {c : T2} (hj : BS[j]? = some c) (hn : hasS (upr (L.getD k zr4)) c = false) : LInv L s BS k (j + 1) f := fun i d hd => by
  have := h i d hd
  by_cases e : i = j
  · subst e
    rw [hj] at hd
    cases hd
    rw [if_neg (Nat.lt_irrefl _)] at this
    rw [if_pos (Nat.lt_succ_self _), dep_take hk, hn, this]; simp
  · by_cases l : i < j
    · rw [if_pos l] at this; rw [if_pos (by omega)]; exact this
    · rw [if_neg l] at this; rw [if_neg (by omega)]; exact this
theorem LInv.yes {L : List T4} {s : T2} {BS : List T2} {k j : Nat} {f : T2 → Int} (h : LInv L s BS k j f) (ha : Apt BS) (hk : k < L.length) {c : T2} (hj : BS[j]? = some c) (h1 : hasS (acr (L.getD k zr4)) s = true) (h2 : hasS (upr (L.getD k zr4)) c = true) : LInv L s BS k (j + 1) (fun t => if eqS t c then f c + 1 else f t) := fun i d hd => by
  have := h i d hd
  by_cases e : i = j
  · subst e
    rw [hj] at hd
    cases hd
    rw [if_neg (Nat.lt_irrefl _)] at this
    simp only [eqS_t.2 rfl, if_true]
    rw [if_pos (Nat.lt_succ_self _), dep_take hk, h1, h2, this]; simp
  · have hne : eqS d c = false := by
      cases q : eqS d c
      · rfl
      · rw [eqS_t.1 q] at hd; exact absurd (ha i j c hd hj) e
    simp only [hne, Bool.false_eq_true, if_false]
    by_cases l : i < j
    · rw [if_pos l] at this; rw [if_pos (by omega)]; exact this
    · rw [if_neg l] at this; rw [if_neg (by omega)]; exact this
theorem LInv.done {L : List T4} {s : T2} {BS : List T2} {f : T2 → Int} (h : LInv L s BS L.length 0 f) : ∀ (i : Nat) (c : T2), BS[i]? = some c → f c = (dep L s c : Nat) := fun i c hc => by
  have := h i c hc
  simp only [Nat.not_lt_zero, if_false, List.take_length] at this
  exact this
theorem LInv.bd {L : List T4} {s : T2} {BS : List T2} {k j : Nat} {f : T2 → Int} (h : LInv L s BS k j f) (hl : L.length ≤ 12) {c : T2} (hj : BS[j]? = some c) : 0 ≤ f c ∧ f c ≤ 12 := by
  have := h j c hj
  rw [this]
  have h1 := dep_le (L.take (if j < j then k + 1 else k)) s c
  rw [List.length_take] at h1
  omega

set_option maxRecDepth 100000 in
set_option maxHeartbeats 4000000 in
theorem lay_any (p q : Option Addr) (cap capb b : Nat) (L : List T4) (BS : List T2) (s : T2) (w : World) (hL : Sl4 w p L) (hq : Sl w q BS) (hok : okL L = true) (hBl : BS.length ≤ 100) (hA : Apt BS) (hM : Mp w b (fun _ => 0)) :
    Calls Try.prog 66 #[.slice p L.length cap, .agg #[.int .i64 s.x, .int .i64 s.y], .slice q BS.length capb, .map (some b)] w fun e w' => (∃ v, e = .returned v) ∧ (∃ f, Mp w' b f ∧ ∀ (i : Nat) (c : T2), BS[i]? = some c → f c = (dep L s c : Nat)) ∧ w.grownBy w' (some b) := by
  have h12 := okL_len hok
  have HOK : Hid (okL L = true) := hok
  have HA : Hid (Apt BS) := hA
  have HM : Hid (Mp w b (fun _ => 0)) := hM
  have hbl := hM.lt
  have hm0 := hM.step (below_alloc1 w (.cells #[.int .i64 s.x, .int .i64 s.y] 83))
  have hG0 := (Gm.mk (w := w) (wx := w) (b := b) (l := []) ⟨rfl, rfl, rfl, Nat.le_refl _, fun _ _ _ => rfl⟩ trivial (by simp)).push hbl [.int .i64 s.x, .int .i64 s.y] 83
  clear hok hA hM
  go_enter Try.func66, Try.ntmps66
  go_wp2
  go_loopw [14] (fun iv wr => ∃ (k : Nat) (f : T2 → Int), k ≤ L.length ∧ iv = .int .i64 k ∧ Mp wr b f ∧ LInv L s BS k 0 f ∧ Gm w wr b [(w.heap.size, [.int .i64 s.x, .int .i64 s.y])]) (fun iv _ => L.length - (intOf iv).toNat)
  case atStart => exact ⟨0, _, by omega, rfl, hm0, LInv.start L s BS, hG0⟩
  case round =>
    rename World => wo
    obtain ⟨k, f, hk, rfl, hMf, hI, hG⟩ := hrel
    clear hG0 hm0
    by_cases hlt : k < L.length
    · have hki : (k : Int) < L.length := by omega
      obtain ⟨g, off, rfl, hC⟩ := (hL.kept HM.out hG.gr).at hlt
      obtain ⟨c0, c1, c2, c3⟩ := hC.2 k _ (get4 hlt)
      have hro : okB (L.getD k zr4).x (L.getD k zr4).y (L.getD k zr4).w (L.getD k zr4).h = true := okL_all HOK.out (L.getD k zr4) (by rw [show L.getD k zr4 = L[k] by simp [List.getD, hlt]]; exact List.getElem_mem hlt)
      have hSk := hI.skip hlt
      have hNo := fun (j : Nat) (f : T2 → Int) (h : LInv L s BS k j f) (c : T2) (hj : BS[j]? = some c) => h.no hlt hj
      have hYes := fun (j : Nat) (f : T2 → Int) (h : LInv L s BS k j f) (c : T2) (hj : BS[j]? = some c) => h.yes HA.out hlt hj
      generalize L.getD k zr4 = r at c0 c1 c2 c3 hro hSk hNo hYes
      have HSk : Hid (hasS (acr r) s = false → LInv L s BS (k + 1) 0 f) := hSk
      have HNo : Hid (∀ (j : Nat) (f : T2 → Int) (h : LInv L s BS k j f) (c : T2) (hj : BS[j]? = some c), hasS (upr r) c = false → LInv L s BS k (j + 1) f) := hNo
      have HYes : Hid (∀ (j : Nat) (f : T2 → Int) (h : LInv L s BS k j f) (c : T2) (hj : BS[j]? = some c), hasS (acr r) s = true → hasS (upr r) c = true → LInv L s BS k (j + 1) (fun t => if eqS t c then f c + 1 else f t)) := hYes
      clear hSk hNo hYes
      have hk1 := hG.has
      simp [Has, HasAt] at hk1
      have hwo := hMf.lt
      have hG2 := (hG.push hwo [.int .i64 r.x, .int .i64 r.y, .int .i64 r.w, .int .i64 r.h] 35).dr
      have hM2 := (hMf.step (below_alloc1 wo (.cells #[.int .i64 r.x, .int .i64 r.y, .int .i64 r.w, .int .i64 r.h] 35))).step (Below.refl _ _).drew
      cases hv : leS r.x (r.x + r.w) s.x s.y
      · go_wp2
        go_region_with (first
          | (go_at_call 65; refine (across_any _ _ _ _ _ hro).mono ?_; rintro e w1 ⟨rfl, hb1⟩; replace hG2 := hG2.step hb1; replace hM2 := hM2.step hb1; obtain ⟨hc, hf⟩ := bcell hb1)
          | (go_at_call 76; refine (has_v hv _).mono ?_; rintro e w2 ⟨rfl, hb2⟩; replace hG2 := hG2.step hb2; replace hM2 := hM2.step hb2))
        all_goals
          go_wp2
          go_roundw
          case rel => exact ⟨k + 1, f, by omega, by go_num, hM2, HSk.out hv, hG2.sub (by simp)⟩
          case measure => simp [intOf]; omega
      · go_wp2
        go_region_with (first
          | (go_at_call 65; refine (across_any _ _ _ _ _ hro).mono ?_; rintro e w1 ⟨rfl, hb1⟩; replace hG2 := hG2.step hb1; replace hM2 := hM2.step hb1; obtain ⟨hc, hf⟩ := bcell hb1)
          | (go_at_call 76; refine (has_v hv _).mono ?_; rintro e w2 ⟨rfl, hb2⟩; replace hG2 := hG2.step hb2; replace hM2 := hM2.step hb2))
        all_goals
          clear hc hf hb1 hb2
          go_wp2
          go_loopw [25] (fun jv wr => ∃ (j : Nat) (f : T2 → Int), j ≤ BS.length ∧ jv = .int .i64 j ∧ Mp wr b f ∧ LInv L s BS k j f ∧ Gm w wr b [(wo.heap.size, [.int .i64 r.x, .int .i64 r.y, .int .i64 r.w, .int .i64 r.h]), (w.heap.size, [.int .i64 s.x, .int .i64 s.y])]) (fun jv _ => BS.length - (intOf jv).toNat)
          case atStart => exact ⟨0, f, by omega, rfl, hM2, hI, hG2⟩
          case round =>
            clear hG2 hM2 hk1
            obtain ⟨j, f2, hj, rfl, hM3, hI3, hG3⟩ := hrel
            by_cases hlt2 : j < BS.length
            · have hji : (j : Int) < BS.length := by omega
              obtain ⟨gq, offq, rfl, hCq⟩ := (hq.kept HM.out hG3.gr).at hlt2
              obtain ⟨d0, d1⟩ := hCq.2 j _ (get2 hlt2)
              have hN := HNo.out j f2 hI3 _ (get2 hlt2)
              have hY := HYes.out j f2 hI3 _ (get2 hlt2)
              have hfb := hI3.bd h12 (get2 hlt2)
              generalize BS.getD j zro2 = c at d0 d1 hN hY hfb
              have HN : Hid (hasS (upr r) c = false → LInv L s BS k (j + 1) f2) := hN
              have HY : Hid (hasS (upr r) c = true → LInv L s BS k (j + 1) (fun t => if eqS t c then f2 c + 1 else f2 t)) := hY hv
              clear hN hY
              have hk1 := hG3.has
              simp [Has, HasAt] at hk1
              have hG4 := (hG3.push hM3.lt [.int .i64 c.x, .int .i64 c.y] 83).dr
              have hM4 := (hM3.step (below_alloc1 wr (.cells #[.int .i64 c.x, .int .i64 c.y] 83))).step (Below.refl _ _).drew
              cases hu : leS r.y (r.y + r.h) c.x c.y
              · go_wp2
                go_region_with (first
                  | (go_at_call 64; refine (up_any _ _ _ _ _ hro).mono ?_; rintro e w1 ⟨rfl, hb1⟩; replace hG4 := hG4.step hb1; replace hM4 := hM4.step hb1; obtain ⟨hc, hf⟩ := bcell hb1)
                  | (go_at_call 76; refine (has_v hu _).mono ?_; rintro e w2 ⟨rfl, hb2⟩; replace hG4 := hG4.step hb2; replace hM4 := hM4.step hb2))
                all_goals
                  go_wp2
                  go_roundw
                  case rel => exact ⟨j + 1, f2, by omega, by go_num, hM4, HN.out hu, hG4.sub (by simp)⟩
                  case measure => simp [intOf]; omega
              · go_wp2
                go_region_with (first
                  | (go_at_call 64; refine (up_any _ _ _ _ _ hro).mono ?_; rintro e w1 ⟨rfl, hb1⟩; replace hG4 := hG4.step hb1; replace hM4 := hM4.step hb1; obtain ⟨hc, hf⟩ := bcell hb1)
                  | (go_at_call 76; refine (has_v hu _).mono ?_; rintro e w2 ⟨rfl, hb2⟩; replace hG4 := hG4.step hb2; replace hM4 := hM4.step hb2))
                all_goals
                  clear hc hf hb1 hb2 hk1
                  have hk2 := hG4.has
                  simp [Has, HasAt] at hk2
                  have hM5 := hM4.step (Below.refl _ _).drew
                  have hG5 := hG4.dr
                  have hlk := mp_look hM5 c
                  obtain ⟨v0, st, W1, hme, hlk2, hg1, hst⟩ := mp_raise hM5 c
                  obtain ⟨W2, hes, hM6, hg2⟩ := hst (f2 c + 1)
                  have hG6 := hG5.up hg2
                  have HF : Hid (Mp W2 b (fun t => if eqS t c then f2 c + 1 else f2 t) ∧ Gm w W2 b _) := ⟨hM6, hG6⟩
                  have hfb1 := hfb.1
                  have hfb2 := hfb.2
                  generalize f2 c = z at hlk hlk2 hes hfb1 hfb2
                  have hwz : IntKind.i64.wrap (z + 1) = z + 1 := by rw [IntKind.wrap_i64]; omega
                  clear hM6 hG6 hst hg1 hg2
                  go_wp2
                  go_region_with fail
                  all_goals
                    go_wp2
                    go_roundw
                    case rel => exact ⟨j + 1, _, by omega, by go_num, HF.out.1, HY.out hu, HF.out.2.sub (by simp)⟩
                    case measure => simp [intOf]; omega
            · obtain rfl : j = BS.length := by omega
              go_wp2
              refine ⟨⟨k + 1, f2, by omega, by go_num, hM3, hI3.next, hG3.sub (by simp)⟩, by simp [intOf]; omega⟩
    · obtain rfl : k = L.length := by omega
      go_wp2
      go_end0
      exact ⟨⟨_, rfl⟩, ⟨f, hMf, hI.done⟩, hG.gr⟩
end Go.Proofs.Ytgpgmndjkcpaoaa
