/-
  The law FnBoxes, walked: what follows its first loop.
-/
import Derived.Test.YtjkandboanecgaaB4
import Derived.Deep.CutBlock
import Derived.BigQuiet
namespace Go.Proofs.Ytjkandboanecgaa
open Go.RowKit Go.Joins
attribute [local go_sem ↓] Go.wp_at_zero Go.wp_at_succ

set_option maxRecDepth 100000 in
set_option maxHeartbeats 8000000 in
theorem boxes_tail (a : Option Addr) (len cap : Nat) (zs : List Int) (g : Nat) (w wc : World) (hl : len ≤ 4096) (HR : Hid (∀ wx, Below w.heap.size w wx → Rd wx (g + w.heap.size) a len zs))
    (g3 g4 g5 g7 : Nat) (x1 y1 c1 d1 x2 y2 c2 d2 m0 m1 m2 m3 n0 n1 n2 n3 : Int) (mb : Bool)
    (HM : Hid (meetV x1 y1 c1 d1 x2 y2 c2 d2 = .tuple #[.agg #[.int .i64 m0, .int .i64 m1, .int .i64 m2, .int .i64 m3], .bool mb]))
    (HA : Hid (aroundV x1 y1 c1 d1 x2 y2 c2 d2 = .agg #[.int .i64 n0, .int .i64 n1, .int .i64 n2, .int .i64 n3]))
    (h1 : St w wc ((g7, [n0, n1, n2, n3]) :: (g5, [m0, m1, m2, m3]) :: (g4, [x2, y2, c2, d2]) :: (g3, [x1, y1, c1, d1]) :: []))
    {u1 u2 u8 u9 u10 u11 u12 u13 u14 u15 u16 u17 u18 u19 u20 u21 u22 u23 u24 u25 u26 u27 u28 u29 u30 u31 u32 u33 u34 u35 u36 u37 u38 u39 u40 u41 u42 u43 u44 u45 u46 u47 u48 u49 u50 u51 u52 u53 u54 u55 u56 u57 u58 u59 u60 u61 u62 u63 u64 u65 u66 u67 u68 u69 u70 u71 u72 u73 u74 u75 u76 u77 u78 u79 u80 u81 u82 u83 u84 u85 u86 u87 u88 u89 u90 u91 u92 u93 u94 u95 u96 u97 u98 u99 u100 u101 u102 u103 u104 u105 u106 u107 u108 u109 u110 u111 u112 u113 u114 u115 u116 u117 u118 u119 u120 u121 u122 u123 u124 u125 u126 u127 u128 u129 u130 u131 u132 u133 u134 u135 u136 u137 u138 u139 u140 u141 u142 u143 u144 u145 u146 u147 u148 u149 u150 u151 u152 u153 u154 u155 u156 u157 u158 u159 u160 u161 u162 u163 u164 u165 u166 u167 u168 u169 u170 u171 u172 u173 u174 u175 u176 u177 u178 u179 u180 u181 u182 u183 u184 u185 u186 u187 u188 u189 u190 u191 u192 u193 u194 u195 u196 u197 u198 u199 u200 u201 u202 u203 u204 u205 u206 u207 u208 u209 u210 u211 u212 u213 u214 u215 u216 u217 u218 u219 u220 u221 u222 u223 u224 u225 u226 u227 u228 u229 u230 u231 u232 u233 u234 u235 u236 u237 u238 u239 u240 u241 : Value} :
    Code.wp Try.prog (dropN 11 (Try.f3.body.getD .skip)) (bodyPost Try.prog Try.f3 fun e w' => e = .returned (.bool true) ∧ Below w.heap.size w w')
      { tmps := #[.slice a len cap, u1, u2, .pointer (some ⟨g3, 0, none⟩), .pointer (some ⟨g4, 0, none⟩), .pointer (some ⟨g5, 0, none⟩), .bool mb, .pointer (some ⟨g7, 0, none⟩), u8, u9, u10, u11, u12, u13, u14, u15, u16, u17, u18, u19, u20, u21, u22, u23, u24, u25, u26, u27, u28, u29, u30, u31, u32, u33, u34, u35, u36, u37, u38, u39, u40, u41, u42, u43, u44, u45, u46, u47, u48, u49, u50, u51, u52, u53, u54, u55, u56, u57, u58, u59, u60, u61, u62, u63, u64, u65, u66, u67, u68, u69, u70, u71, u72, u73, u74, u75, u76, u77, u78, u79, u80, u81, u82, u83, u84, u85, u86, u87, u88, u89, u90, u91, u92, u93, u94, u95, u96, u97, u98, u99, u100, u101, u102, u103, u104, u105, u106, u107, u108, u109, u110, u111, u112, u113, u114, u115, u116, u117, u118, u119, u120, u121, u122, u123, u124, u125, u126, u127, u128, u129, u130, u131, u132, u133, u134, u135, u136, u137, u138, u139, u140, u141, u142, u143, u144, u145, u146, u147, u148, u149, u150, u151, u152, u153, u154, u155, u156, u157, u158, u159, u160, u161, u162, u163, u164, u165, u166, u167, u168, u169, u170, u171, u172, u173, u174, u175, u176, u177, u178, u179, u180, u181, u182, u183, u184, u185, u186, u187, u188, u189, u190, u191, u192, u193, u194, u195, u196, u197, u198, u199, u200, u201, u202, u203, u204, u205, u206, u207, u208, u209, u210, u211, u212, u213, u214, u215, u216, u217, u218, u219, u220, u221, u222, u223, u224, u225, u226, u227, u228, u229, u230, u231, u232, u233, u234, u235, u236, u237, u238, u239, u240, u241], defers := [] } wc := by
  generalize hQ : (bodyPost Try.prog Try.f3 fun e w' => e = .returned (.bool true) ∧ Below w.heap.size w w') = Q
  simp only [Try.f3, Option.getD_some, dropN]
  have hS4 : ∀ w', St w w' ((g7, [n0, n1, n2, n3]) :: (g5, [m0, m1, m2, m3]) :: (g4, [x2, y2, c2, d2]) :: (g3, [x1, y1, c1, d1]) :: []) → (w'.cell? ⟨g3, 0, none⟩ = some (.int .i64 x1) ∧ w'.cell? ⟨g3, 1, none⟩ = some (.int .i64 y1) ∧ w'.cell? ⟨g3, 2, none⟩ = some (.int .i64 c1) ∧ w'.cell? ⟨g3, 3, none⟩ = some (.int .i64 d1) ∧ w'.cell? ⟨g4, 0, none⟩ = some (.int .i64 x2) ∧ w'.cell? ⟨g4, 1, none⟩ = some (.int .i64 y2) ∧ w'.cell? ⟨g4, 2, none⟩ = some (.int .i64 c2) ∧ w'.cell? ⟨g4, 3, none⟩ = some (.int .i64 d2) ∧ w'.cell? ⟨g5, 0, none⟩ = some (.int .i64 m0) ∧ w'.cell? ⟨g5, 1, none⟩ = some (.int .i64 m1) ∧ w'.cell? ⟨g5, 2, none⟩ = some (.int .i64 m2) ∧ w'.cell? ⟨g5, 3, none⟩ = some (.int .i64 m3) ∧ w'.cell? ⟨g7, 0, none⟩ = some (.int .i64 n0) ∧ w'.cell? ⟨g7, 1, none⟩ = some (.int .i64 n1) ∧ w'.cell? ⟨g7, 2, none⟩ = some (.int .i64 n2) ∧ w'.cell? ⟨g7, 3, none⟩ = some (.int .i64 n3)) := by
    intro w' h
    obtain ⟨a0, a1, a2, a3⟩ := h.r4 (g := g3) (x := x1) (y := y1) (c := c1) (d := d1) (by simp)
    obtain ⟨b0, b1, b2, b3⟩ := h.r4 (g := g4) (x := x2) (y := y2) (c := c2) (d := d2) (by simp)
    obtain ⟨e0, e1, e2, e3⟩ := h.r4 (g := g5) (x := m0) (y := m1) (c := m2) (d := m3) (by simp)
    obtain ⟨f0, f1, f2, f3⟩ := h.r4 (g := g7) (x := n0) (y := n1) (c := n2) (d := n3) (by simp)
    exact ⟨a0, a1, a2, a3, b0, b1, b2, b3, e0, e1, e2, e3, f0, f1, f2, f3⟩
  have hcs := hS4 _ h1
  cases hoa : okB x1 y1 c1 d1
  · obtain ⟨⟨hz0, hz1, hz2, hz3⟩, hzb⟩ : (0 = m0 ∧ 0 = m1 ∧ 0 = m2 ∧ 0 = m3) ∧ false = mb := by have hm := HM.out; simpa [meetV, hoa] using hm
    obtain ⟨hy0, hy1, hy2, hy3⟩ : 0 = n0 ∧ 0 = n1 ∧ 0 = n2 ∧ 0 = n3 := by have hn := HA.out; simpa [aroundV, hoa] using hn
    subst hz0 hz1 hz2 hz3 hzb hy0 hy1 hy2 hy3
    go_wp2_with (go_at_call 28; refine (sOk_any _ _ _ _ _).mono ?_; rintro e w1 ⟨rfl, hb⟩; replace h1 := h1.step hb; clear hcs; have hcs := hS4 _ h1)
    subst hQ
    go_ret
    exact ⟨rfl, h1.bel⟩
  cases hob : okB x2 y2 c2 d2
  · obtain ⟨⟨hz0, hz1, hz2, hz3⟩, hzb⟩ : (0 = m0 ∧ 0 = m1 ∧ 0 = m2 ∧ 0 = m3) ∧ false = mb := by have hm := HM.out; simpa [meetV, hob] using hm
    obtain ⟨hy0, hy1, hy2, hy3⟩ : 0 = n0 ∧ 0 = n1 ∧ 0 = n2 ∧ 0 = n3 := by have hn := HA.out; simpa [aroundV, hob] using hn
    subst hz0 hz1 hz2 hz3 hzb hy0 hy1 hy2 hy3
    go_wp2_with (go_at_call 28; refine (sOk_any _ _ _ _ _).mono ?_; rintro e w1 ⟨rfl, hb⟩; replace h1 := h1.step hb; clear hcs; have hcs := hS4 _ h1)
    subst hQ
    go_ret
    exact ⟨rfl, h1.bel⟩
  have HRel : Hid (∀ s t, (holdsB x1 y1 c1 d1 s t && holdsB x2 y2 c2 d2 s t) = (mb && holdsB m0 m1 m2 m3 s t) ∧ ((holdsB x1 y1 c1 d1 s t || holdsB x2 y2 c2 d2 s t) = true → holdsB n0 n1 n2 n3 s t = true)) := fun s t => holds_rel hoa hob HM.out HA.out
  have hal := area_le hoa hob HM.out HA.out
  go_wp2_with (go_at_call 28; refine (sOk_any _ _ _ _ _).mono ?_; rintro e w1 ⟨rfl, hb⟩; replace h1 := h1.step hb; clear hcs; have hcs := hS4 _ h1)
  clear hcs hoa hob
  go_loopw [17] (fun i wr => ∃ k : Nat, k ≤ 12 ∧ i = .int .i64 k ∧ St w wr ((g7, [n0, n1, n2, n3]) :: (g5, [m0, m1, m2, m3]) :: (g4, [x2, y2, c2, d2]) :: (g3, [x1, y1, c1, d1]) :: [])) (fun i _ => 12 - (intOf i).toNat)
  case atStart => exact ⟨0, by omega, rfl, h1⟩
  case round =>
    obtain ⟨k, hk, rfl, h2⟩ := hrel
    by_cases hlt : k < 12
    · clear hal
      go_upto_region 26 with (go_at_call 30; refine (spot_any a len cap zs _ (g + w.heap.size) _ hl (HR.out _ h2.bel) ?_ ?_).mono ?_; (focus omega); (focus omega); rintro e w1 ⟨sx, sy, rfl, b0, b1, b2, b3, hb⟩)
      have h3 := (h2.step hb).push2 rfl sx sy 32
      generalize w1.heap.size = g18 at h3 ⊢
      generalize w1.alloc _ = W1 at h3 ⊢
      have hS5 : ∀ w', St w w' ((g18, [sx, sy]) :: ((g7, [n0, n1, n2, n3]) :: (g5, [m0, m1, m2, m3]) :: (g4, [x2, y2, c2, d2]) :: (g3, [x1, y1, c1, d1]) :: [])) → (w'.cell? ⟨g3, 0, none⟩ = some (.int .i64 x1) ∧ w'.cell? ⟨g3, 1, none⟩ = some (.int .i64 y1) ∧ w'.cell? ⟨g3, 2, none⟩ = some (.int .i64 c1) ∧ w'.cell? ⟨g3, 3, none⟩ = some (.int .i64 d1) ∧ w'.cell? ⟨g4, 0, none⟩ = some (.int .i64 x2) ∧ w'.cell? ⟨g4, 1, none⟩ = some (.int .i64 y2) ∧ w'.cell? ⟨g4, 2, none⟩ = some (.int .i64 c2) ∧ w'.cell? ⟨g4, 3, none⟩ = some (.int .i64 d2) ∧ w'.cell? ⟨g5, 0, none⟩ = some (.int .i64 m0) ∧ w'.cell? ⟨g5, 1, none⟩ = some (.int .i64 m1) ∧ w'.cell? ⟨g5, 2, none⟩ = some (.int .i64 m2) ∧ w'.cell? ⟨g5, 3, none⟩ = some (.int .i64 m3) ∧ w'.cell? ⟨g7, 0, none⟩ = some (.int .i64 n0) ∧ w'.cell? ⟨g7, 1, none⟩ = some (.int .i64 n1) ∧ w'.cell? ⟨g7, 2, none⟩ = some (.int .i64 n2) ∧ w'.cell? ⟨g7, 3, none⟩ = some (.int .i64 n3) ∧ w'.cell? ⟨g18, 0, none⟩ = some (.int .i64 sx) ∧ w'.cell? ⟨g18, 1, none⟩ = some (.int .i64 sy)) := by
        intro w' h
        obtain ⟨a0, a1, a2, a3⟩ := h.r4 (g := g3) (x := x1) (y := y1) (c := c1) (d := d1) (by simp)
        obtain ⟨b0, b1, b2, b3⟩ := h.r4 (g := g4) (x := x2) (y := y2) (c := c2) (d := d2) (by simp)
        obtain ⟨e0, e1, e2, e3⟩ := h.r4 (g := g5) (x := m0) (y := m1) (c := m2) (d := m3) (by simp)
        obtain ⟨f0, f1, f2, f3⟩ := h.r4 (g := g7) (x := n0) (y := n1) (c := n2) (d := n3) (by simp)
        obtain ⟨p0, p1⟩ := h.r2 (g := g18) (x := sx) (y := sy) (by simp)
        exact ⟨a0, a1, a2, a3, b0, b1, b2, b3, e0, e1, e2, e3, f0, f1, f2, f3, p0, p1⟩
      have hcs := hS5 _ h3
      obtain ⟨r1, r2⟩ := HRel.out sx sy
      clear hb b0 b1 b2 b3
      cases mb
      all_goals
        cases A : holdsB x1 y1 c1 d1 sx sy
        all_goals
          cases B : holdsB x2 y2 c2 d2 sx sy
          all_goals
            rw [A, B] at r1 r2
            simp at r1 r2 <;> (go_wp2_with (go_at_call 23; refine (iHolds_any _ _ _ _ _ _ _).mono ?_; rintro e w2 ⟨rfl, hb'⟩; replace h3 := h3.step hb'; clear hcs; have hcs := hS5 _ h3); (go_roundw <;> first | exact ⟨k + 1, by omega, by go_num, ⟨h3.bel, fun p hp => h3.has p (List.mem_cons_of_mem _ hp)⟩⟩ | (simp [intOf]; omega)))
    · go_wp2
      refine boxes_reg a len cap w wr g3 g4 g5 g7 x1 y1 c1 d1 x2 y2 c2 d2 m0 m1 m2 m3 n0 n1 n2 n3 mb hal h2 (fun A w' f2 fd hw' => ?_)
      subst hQ
      rename_i hK
      refine hK _ _ ?_
      refine wp_ret ?_
      exact bodyPost_ret (v := .bool true) (by simp [results, Try.results3, go_sem, f2]) fd ⟨rfl, hw'.bel⟩

end Go.Proofs.Ytjkandboanecgaa
