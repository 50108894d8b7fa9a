/-
  The law FnQuarters, walked: each Spot is in the Cell of each Level that has it.
-/
import Derived.Test.YtdabkhlhejjnpaaF2
namespace Go.Proofs.Ytdabkhlhejjnpaa
open Go.RowKit Go.Joins
attribute [local go_sem ↓] Go.wp_at_zero Go.wp_at_succ

/-- A frame of 174 slots of which some are told. -/
structure Fr (A : Act) (l : List (Nat × Value)) : Prop where
  size : A.tmps.size = 174
  has : ∀ p ∈ l, A.tmps[p.1]? = some p.2
theorem Fr.get {A : Act} {l : List (Nat × Value)} (h : Fr A l) {d : Nat} {v : Value} (hm : (d, v) ∈ l) : A.tmps[d]? = some v := h.has _ hm
theorem Fr.put {A : Act} {l : List (Nat × Value)} (h : Fr A l) {d : Nat} {v : Value} (hd : d < 174) (hne : ∀ p ∈ l, p.1 ≠ d) : Fr (A.put (some d) v) ((d, v) :: l) := by
  refine ⟨by simp [Act.put, h.size], fun p hp => ?_⟩
  rcases List.mem_cons.mp hp with rfl | hp
  · show (A.tmps.setIfInBounds d v)[d]? = some v
    rw [Array.getElem?_setIfInBounds_self_of_lt (by rw [h.size]; exact hd)]
  · show (A.tmps.setIfInBounds d v)[p.1]? = some p.2
    rw [Array.getElem?_setIfInBounds_ne (Ne.symm (hne p hp))]
    exact h.has p hp
section
variable {ops : Array Oper} {C : World → Prop} {Q : Act → Prop} {A : Act} {o : Oper} {rest : List Oper} {l : List (Nat × Value)} {d e j : Nat} {v : Value} {want b : Bool}
theorem q_step (hf : Fr A l) (hw : o.guard = none) (hd : o.dst = some d) (hlt : d < 174) (hne : ∀ p ∈ l, p.1 ≠ d)
    (hq : ∀ w, C w → o.quietAt Try.prog A C w v) (k : ∀ A', A' = A.put (some d) v → Fr A' ((d, v) :: l) → wpQuiet Try.prog ops C Q rest A') : wpQuiet Try.prog ops C Q (o :: rest) A :=
  BigFrame.wpQuiet_want (by simp [Region.wanted, hw]) (fun K hK => ⟨v, hq, hK _ (by rw [hd]; exact k _ rfl (hf.put hlt hne))⟩)
theorem q_want (hf : Fr A l) (hg : o.guard = some (j, want)) (hj : (ops[j]?).bind (·.dst) = some e) (hv : (e, .bool want) ∈ l) (hd : o.dst = some d) (hlt : d < 174) (hne : ∀ p ∈ l, p.1 ≠ d)
    (hq : ∀ w, C w → o.quietAt Try.prog A C w v) (k : ∀ A', A' = A.put (some d) v → Fr A' ((d, v) :: l) → wpQuiet Try.prog ops C Q rest A') : wpQuiet Try.prog ops C Q (o :: rest) A :=
  BigFrame.wpQuiet_want (by rw [Region.wanted, hg]; simp [yielded, hj, hf.get hv]) (fun K hK => ⟨v, hq, hK _ (by rw [hd]; exact k _ rfl (hf.put hlt hne))⟩)
theorem q_skip (hf : Fr A l) (hg : o.guard = some (j, want)) (hj : (ops[j]?).bind (·.dst) = some e) (hv : (e, .bool b) ∈ l) (hb : (b == want) = false)
    (hd : o.dst = some d) (hlt : d < 174) (hne : ∀ p ∈ l, p.1 ≠ d) (k : ∀ A', A' = A.put (some d) undef → Fr A' ((d, undef) :: l) → wpQuiet Try.prog ops C Q rest A') : wpQuiet Try.prog ops C Q (o :: rest) A :=
  BigFrame.wpQuiet_skip (by rw [Region.wanted, hg]; simp [yielded, hj, hf.get hv]; simpa using hb) (by rw [hd]; exact k _ rfl (hf.put hlt hne))
theorem q_skipU (hf : Fr A l) (hg : o.guard = some (j, want)) (hj : (ops[j]?).bind (·.dst) = some e) (hv : (e, undef) ∈ l)
    (hd : o.dst = some d) (hlt : d < 174) (hne : ∀ p ∈ l, p.1 ≠ d) (k : ∀ A', A' = A.put (some d) undef → Fr A' ((d, undef) :: l) → wpQuiet Try.prog ops C Q rest A') : wpQuiet Try.prog ops C Q (o :: rest) A :=
  BigFrame.wpQuiet_skip (by rw [Region.wanted, hg]; simp [yielded, hj, hf.get hv, undef]) (by rw [hd]; exact k _ rfl (hf.put hlt hne))
end

theorem sOrder_no {s t : Int} (h : spB s t = false) (w : World) : Calls Try.prog 31 #[.agg #[.int .i64 s, .int .i64 t]] w fun e w' => e = .returned (.int .i64 (-1)) ∧ Below w.heap.size w w' := by
  have := sOrder_any s t w
  rw [ordI, h, if_neg (by decide)] at this
  exact this

set_option maxRecDepth 100000 in
set_option maxHeartbeats 8000000 in
theorem quart_t2 (w wc : World) (g6 g8 g9 g10 : Nat) (s t lv z0 z1 z2 al ax ay bl bx by' : Int)
    (hat : levB lv = true → spB s t = true → z0 = lv ∧ holdsB (rX z0 z1 z2) (rY z0 z1 z2) (rS z0 z1 z2) (rS z0 z1 z2) s t = true)
    (hs : St w wc [(g6, [.int .i64 s, .int .i64 t]), (g8, [.int .i64 z0, .int .i64 z1, .int .i64 z2]), (g9, [.int .i64 al, .int .i64 ax, .int .i64 ay]), (g10, [.int .i64 bl, .int .i64 bx, .int .i64 by'])]) {u0 u1 u2 u3 u4 u5 u12 u13 u14 u15 u16 u17 u18 u19 u20 u21 u22 u23 u24 u25 u26 u27 u28 u29 u30 u31 u32 u33 u34 u35 u36 u37 u38 u39 u40 u41 u42 u43 u44 u45 u46 u47 u48 u49 u50 u51 u52 u53 u54 u55 u56 u57 u58 u59 u60 u61 u62 u63 u64 u65 u66 u67 u68 u69 u70 u71 u72 u73 u74 u75 u76 u77 u78 u79 u80 u81 u82 u83 u84 u85 u86 u87 u88 u89 u90 u91 u92 u93 u94 u95 u96 u97 u98 u99 u100 u101 u102 u103 u104 u105 u106 u107 u108 u109 u110 u111 u112 u113 u114 u115 u116 u117 u118 u119 u120 u121 u122 u123 u124 u125 u126 u127 u128 u129 u130 u131 u132 u133 u134 u135 u136 u137 u138 u139 u140 u141 u142 u143 u144 u145 u146 u147 u148 u149 u150 u151 u152 u153 u154 u155 u156 u157 u158 u159 u160 u161 u162 u163 u164 u165 u166 u167 u168 u169 u170 u171 u172 u173 : Value} :
    Code.wp Try.prog (dropN 13 (Try.f3.body.getD .skip)) (bodyPost Try.prog Try.f3 fun e w' => e = .returned (.bool true) ∧ Below w.heap.size w w') { tmps := #[u0, u1, u2, u3, u4, u5, .pointer (some ⟨g6, 0, none⟩), .int .i64 lv, .pointer (some ⟨g8, 0, none⟩), .pointer (some ⟨g9, 0, none⟩), .pointer (some ⟨g10, 0, none⟩), .bool (insB al ax ay bl bx by'), u12, u13, u14, u15, u16, u17, u18, u19, u20, u21, u22, u23, u24, u25, u26, u27, u28, u29, u30, u31, u32, u33, u34, u35, u36, u37, u38, u39, u40, u41, u42, u43, u44, u45, u46, u47, u48, u49, u50, u51, u52, u53, u54, u55, u56, u57, u58, u59, u60, u61, u62, u63, u64, u65, u66, u67, u68, u69, u70, u71, u72, u73, u74, u75, u76, u77, u78, u79, u80, u81, u82, u83, u84, u85, u86, u87, u88, u89, u90, u91, u92, u93, u94, u95, u96, u97, u98, u99, u100, u101, u102, u103, u104, u105, u106, u107, u108, u109, u110, u111, u112, u113, u114, u115, u116, u117, u118, u119, u120, u121, u122, u123, u124, u125, u126, u127, u128, u129, u130, u131, u132, u133, u134, u135, u136, u137, u138, u139, u140, u141, u142, u143, u144, u145, u146, u147, u148, u149, u150, u151, u152, u153, u154, u155, u156, u157, u158, u159, u160, u161, u162, u163, u164, u165, u166, u167, u168, u169, u170, u171, u172, u173], defers := [] } wc := by
  generalize hQ : (bodyPost Try.prog Try.f3 fun e w' => e = .returned (.bool true) ∧ Below w.heap.size w w') = Q
  simp only [Try.f3, Option.getD_some, dropN]
  subst hQ
  have hk := hs.has
  simp [Has, HasAt] at hk
  go_upto_region 21 with fail
  go_cut [150] from 127 (fun v wx => v = .bool false ∧ St w wx [(g6, [.int .i64 s, .int .i64 t]), (g8, [.int .i64 z0, .int .i64 z1, .int .i64 z2]), (g9, [.int .i64 al, .int .i64 ax, .int .i64 ay]), (g10, [.int .i64 bl, .int .i64 bx, .int .i64 by'])])
  case first =>
    cases h1 : decide (0 ≤ lv)
    · go_quiet (fail)
      go_wp2
      go_meet
      exact ⟨rfl, hs.step (bdrewN (Below.refl _ _) _)⟩
    have k1 : 0 ≤ lv := of_decide_eq_true h1
    cases h2 : decide (lv ≤ 8)
    · go_quiet (fail)
      go_wp2
      go_meet
      exact ⟨rfl, hs.step (bdrewN (Below.refl _ _) _)⟩
    have k2 : lv ≤ 8 := of_decide_eq_true h2
    have hlv : levB lv = true := levB_t.mpr ⟨k1, k2⟩
    have hS : ∀ w', St w w' [(g6, [.int .i64 s, .int .i64 t]), (g8, [.int .i64 z0, .int .i64 z1, .int .i64 z2]), (g9, [.int .i64 al, .int .i64 ax, .int .i64 ay]), (g10, [.int .i64 bl, .int .i64 bx, .int .i64 by'])] → (w'.cell? ⟨g6, 0, none⟩ = some (.int .i64 s) ∧ w'.cell? ⟨g6, 1, none⟩ = some (.int .i64 t) ∧ w'.cell? ⟨g8, 0, none⟩ = some (.int .i64 z0) ∧ w'.cell? ⟨g8, 1, none⟩ = some (.int .i64 z1) ∧ w'.cell? ⟨g8, 2, none⟩ = some (.int .i64 z2)) := by
      intro w' h
      have hk := h.has
      simp [Has, HasAt] at hk
      exact ⟨hk.1.2.2.1, hk.1.2.2.2, hk.2.1.2.2.1, hk.2.1.2.2.2.1, hk.2.1.2.2.2.2⟩
    cases hsp : spB s t
    · have hf : Fr { tmps := #[u0, u1, u2, u3, u4, u5, .pointer (some ⟨g6, 0, none⟩), .int .i64 lv, .pointer (some ⟨g8, 0, none⟩), .pointer (some ⟨g9, 0, none⟩), .pointer (some ⟨g10, 0, none⟩), .bool (insB al ax ay bl bx by'), u12, u13, u14, u15, u16, u17, u18, u19, u20, u21, u22, u23, u24, u25, u26, u27, u28, u29, u30, u31, u32, u33, u34, u35, u36, u37, u38, u39, u40, u41, u42, u43, u44, u45, u46, u47, u48, u49, u50, u51, u52, u53, u54, u55, u56, u57, u58, u59, u60, u61, u62, u63, u64, u65, u66, u67, u68, u69, u70, u71, u72, u73, u74, u75, u76, u77, u78, u79, u80, u81, u82, u83, u84, u85, u86, u87, u88, u89, u90, u91, u92, u93, u94, u95, u96, u97, u98, u99, u100, u101, u102, u103, u104, u105, u106, u107, u108, u109, u110, u111, u112, u113, u114, u115, u116, u117, u118, u119, u120, u121, u122, u123, u124, u125, u126, u127, u128, u129, u130, u131, u132, u133, u134, u135, u136, u137, u138, u139, u140, u141, u142, u143, u144, u145, u146, u147, u148, u149, u150, u151, u152, u153, u154, u155, u156, u157, u158, u159, u160, u161, u162, u163, u164, u165, u166, u167, u168, u169, u170, u171, u172, u173], defers := [] } [(6, .pointer (some ⟨g6, 0, none⟩)), (7, .int .i64 lv), (8, .pointer (some ⟨g8, 0, none⟩))] := ⟨rfl, by simp⟩
      refine wp_region_quiet (C := fun w' => St w w' [(g6, [.int .i64 s, .int .i64 t]), (g8, [.int .i64 z0, .int .i64 z1, .int .i64 z2]), (g9, [.int .i64 al, .int .i64 ax, .int .i64 ay]), (g10, [.int .i64 bl, .int .i64 bx, .int .i64 by'])]) (by kernel_rfl) (by kernel_rfl) hs.dr ?_
      generalize hA : ({ tmps := #[u0, u1, u2, u3, u4, u5, .pointer (some ⟨g6, 0, none⟩), .int .i64 lv, .pointer (some ⟨g8, 0, none⟩), .pointer (some ⟨g9, 0, none⟩), .pointer (some ⟨g10, 0, none⟩), .bool (insB al ax ay bl bx by'), u12, u13, u14, u15, u16, u17, u18, u19, u20, u21, u22, u23, u24, u25, u26, u27, u28, u29, u30, u31, u32, u33, u34, u35, u36, u37, u38, u39, u40, u41, u42, u43, u44, u45, u46, u47, u48, u49, u50, u51, u52, u53, u54, u55, u56, u57, u58, u59, u60, u61, u62, u63, u64, u65, u66, u67, u68, u69, u70, u71, u72, u73, u74, u75, u76, u77, u78, u79, u80, u81, u82, u83, u84, u85, u86, u87, u88, u89, u90, u91, u92, u93, u94, u95, u96, u97, u98, u99, u100, u101, u102, u103, u104, u105, u106, u107, u108, u109, u110, u111, u112, u113, u114, u115, u116, u117, u118, u119, u120, u121, u122, u123, u124, u125, u126, u127, u128, u129, u130, u131, u132, u133, u134, u135, u136, u137, u138, u139, u140, u141, u142, u143, u144, u145, u146, u147, u148, u149, u150, u151, u152, u153, u154, u155, u156, u157, u158, u159, u160, u161, u162, u163, u164, u165, u166, u167, u168, u169, u170, u171, u172, u173], defers := [] } : Act) = A at hf ⊢
      refine q_step hf (d := 127) (v := .int .i64 lv) rfl rfl (by decide) (by simp) (fun w' hw' => ?_) (fun A hA127 hf => ?_)
      · have f7 := hf.get (d := 7) (v := .int .i64 lv) (by simp)
        clear hf
        simp [Oper.quietAt, Oper.quietUpon, go_sem, f7]
      refine q_step hf (d := 128) (v := .bool true) rfl rfl (by decide) (by simp) (fun w' hw' => ?_) (fun A hA128 hf => ?_)
      · have f127 := hf.get (d := 127) (v := .int .i64 lv) (by simp)
        clear hf
        simp [Oper.quietAt, Oper.quietUpon, go_sem, f127, h1]
      refine q_step hf (d := 129) (v := .bool true) rfl rfl (by decide) (by simp) (fun w' hw' => ?_) (fun A hA129 hf => ?_)
      · have f128 := hf.get (d := 128) (v := .bool true) (by simp)
        clear hf
        simp [Oper.quietAt, Oper.quietUpon, go_sem, f128]
      refine q_want hf (d := 130) (v := .int .i64 lv) (e := 129) rfl rfl (by simp) rfl (by decide) (by simp) (fun w' hw' => ?_) (fun A hA130 hf => ?_)
      · have f7 := hf.get (d := 7) (v := .int .i64 lv) (by simp)
        clear hf
        simp [Oper.quietAt, Oper.quietUpon, go_sem, f7]
      refine q_want hf (d := 131) (v := .bool true) (e := 129) rfl rfl (by simp) rfl (by decide) (by simp) (fun w' hw' => ?_) (fun A hA131 hf => ?_)
      · have f130 := hf.get (d := 130) (v := .int .i64 lv) (by simp)
        clear hf
        simp [Oper.quietAt, Oper.quietUpon, go_sem, f130, h2]
      refine q_step hf (d := 132) (v := .bool true) rfl rfl (by decide) (by simp) (fun w' hw' => ?_) (fun A hA132 hf => ?_)
      · have f129 := hf.get (d := 129) (v := .bool true) (by simp)
        have f131 := hf.get (d := 131) (v := .bool true) (by simp)
        clear hf
        simp [Oper.quietAt, Oper.quietUpon, go_sem, f129, f131]
      refine q_step hf (d := 133) (v := .bool true) rfl rfl (by decide) (by simp) (fun w' hw' => ?_) (fun A hA133 hf => ?_)
      · have f132 := hf.get (d := 132) (v := .bool true) (by simp)
        clear hf
        simp [Oper.quietAt, Oper.quietUpon, go_sem, f132]
      refine q_want hf (d := 134) (v := .agg #[.int .i64 s, .int .i64 t]) (e := 133) rfl rfl (by simp) rfl (by decide) (by simp) (fun w' hw' => ?_) (fun A hA134 hf => ?_)
      · have hc := hS _ hw'
        have f6 := hf.get (d := 6) (v := .pointer (some ⟨g6, 0, none⟩)) (by simp)
        clear hf
        simp [Oper.quietAt, Oper.quietUpon, go_sem, hc, f6]
      refine q_want hf (d := 135) (v := .int .i64 (-1)) (e := 133) rfl rfl (by simp) rfl (by decide) (by simp) (fun w' hw' => ?_) (fun A hA135 hf => ?_)
      · have f134 := hf.get (d := 134) (v := .agg #[.int .i64 s, .int .i64 t]) (by simp)
        clear hf
        simp [Oper.quietAt, Oper.quietUpon, go_sem, f134]
        exact (sOrder_no hsp _).mono (fun e w'' hq => ⟨hq.1, hw'.step hq.2⟩)
      refine q_want hf (d := 136) (v := .bool false) (e := 133) rfl rfl (by simp) rfl (by decide) (by simp) (fun w' hw' => ?_) (fun A hA136 hf => ?_)
      · have f135 := hf.get (d := 135) (v := .int .i64 (-1)) (by simp)
        clear hf
        simp [Oper.quietAt, Oper.quietUpon, go_sem, f135]
      refine q_step hf (d := 137) (v := .bool false) rfl rfl (by decide) (by simp) (fun w' hw' => ?_) (fun A hA137 hf => ?_)
      · have f133 := hf.get (d := 133) (v := .bool true) (by simp)
        have f136 := hf.get (d := 136) (v := .bool false) (by simp)
        clear hf
        simp [Oper.quietAt, Oper.quietUpon, go_sem, f133, f136]
      refine q_step hf (d := 138) (v := .bool false) rfl rfl (by decide) (by simp) (fun w' hw' => ?_) (fun A hA138 hf => ?_)
      · have f137 := hf.get (d := 137) (v := .bool false) (by simp)
        clear hf
        simp [Oper.quietAt, Oper.quietUpon, go_sem, f137]
      refine q_skip hf (d := 139) (e := 138) (b := false) rfl rfl (by simp) rfl rfl (by decide) (by simp) (fun A hA139 hf => ?_)
      refine q_skip hf (d := 140) (e := 138) (b := false) rfl rfl (by simp) rfl rfl (by decide) (by simp) (fun A hA140 hf => ?_)
      refine q_skip hf (d := 141) (e := 138) (b := false) rfl rfl (by simp) rfl rfl (by decide) (by simp) (fun A hA141 hf => ?_)
      refine q_skip hf (d := 142) (e := 138) (b := false) rfl rfl (by simp) rfl rfl (by decide) (by simp) (fun A hA142 hf => ?_)
      refine q_skip hf (d := 143) (e := 138) (b := false) rfl rfl (by simp) rfl rfl (by decide) (by simp) (fun A hA143 hf => ?_)
      refine q_skip hf (d := 144) (e := 138) (b := false) rfl rfl (by simp) rfl rfl (by decide) (by simp) (fun A hA144 hf => ?_)
      refine q_skipU hf (d := 145) (e := 144) rfl rfl (by simp) rfl (by decide) (by simp) (fun A hA145 hf => ?_)
      refine q_skipU hf (d := 146) (e := 144) rfl rfl (by simp) rfl (by decide) (by simp) (fun A hA146 hf => ?_)
      refine q_skipU hf (d := 147) (e := 144) rfl rfl (by simp) rfl (by decide) (by simp) (fun A hA147 hf => ?_)
      refine q_skipU hf (d := 148) (e := 144) rfl rfl (by simp) rfl (by decide) (by simp) (fun A hA148 hf => ?_)
      refine q_skip hf (d := 149) (e := 138) (b := false) rfl rfl (by simp) rfl rfl (by decide) (by simp) (fun A hA149 hf => ?_)
      refine q_step hf (d := 150) (v := .bool false) rfl rfl (by decide) (by simp) (fun w' hw' => ?_) (fun A hA150 hf => ?_)
      · have f138 := hf.get (d := 138) (v := .bool false) (by simp)
        clear hf
        simp [Oper.quietAt, Oper.quietUpon, go_sem, f138]
      refine wpQuiet_nil (fun w' hw' => ?_)
      clear hf
      have eA : A = { tmps := #[u0, u1, u2, u3, u4, u5, .pointer (some ⟨g6, 0, none⟩), .int .i64 lv, .pointer (some ⟨g8, 0, none⟩), .pointer (some ⟨g9, 0, none⟩), .pointer (some ⟨g10, 0, none⟩), .bool (insB al ax ay bl bx by'), u12, u13, u14, u15, u16, u17, u18, u19, u20, u21, u22, u23, u24, u25, u26, u27, u28, u29, u30, u31, u32, u33, u34, u35, u36, u37, u38, u39, u40, u41, u42, u43, u44, u45, u46, u47, u48, u49, u50, u51, u52, u53, u54, u55, u56, u57, u58, u59, u60, u61, u62, u63, u64, u65, u66, u67, u68, u69, u70, u71, u72, u73, u74, u75, u76, u77, u78, u79, u80, u81, u82, u83, u84, u85, u86, u87, u88, u89, u90, u91, u92, u93, u94, u95, u96, u97, u98, u99, u100, u101, u102, u103, u104, u105, u106, u107, u108, u109, u110, u111, u112, u113, u114, u115, u116, u117, u118, u119, u120, u121, u122, u123, u124, u125, u126, .int .i64 lv, .bool true, .bool true, .int .i64 lv, .bool true, .bool true, .bool true, .agg #[.int .i64 s, .int .i64 t], .int .i64 (-1), .bool false, .bool false, .bool false, undef, undef, undef, undef, undef, undef, undef, undef, undef, undef, undef, .bool false, u151, u152, u153, u154, u155, u156, u157, u158, u159, u160, u161, u162, u163, u164, u165, u166, u167, u168, u169, u170, u171, u172, u173], defers := [] } := by
        subst hA150 hA149 hA148 hA147 hA146 hA145 hA144 hA143 hA142 hA141 hA140 hA139 hA138 hA137 hA136 hA135 hA134 hA133 hA132 hA131 hA130 hA129 hA128 hA127 hA
        kernel_rfl
      rw [eA]
      clear eA
      go_wp2
      go_meet
      exact ⟨rfl, hw'⟩
    · obtain ⟨hz0, hh⟩ := hat hlv hsp
      have e0 : ordI s t = zz s t 8 := by simp [ordI, hsp]
      have hz := (zz_bd s t 8).1
      have hz' : decide (0 ≤ zz s t 8) = true := decide_eq_true hz
      subst hz0
      go_region_held3 (fun w' => St w w' [(g6, [.int .i64 s, .int .i64 t]), (g8, [.int .i64 z0, .int .i64 z1, .int .i64 z2]), (g9, [.int .i64 al, .int .i64 ax, .int .i64 ay]), (g10, [.int .i64 bl, .int .i64 bx, .int .i64 by'])] ∧ w'.cell? ⟨g6, 0, none⟩ = some (.int .i64 s) ∧ w'.cell? ⟨g6, 1, none⟩ = some (.int .i64 t) ∧ w'.cell? ⟨g8, 0, none⟩ = some (.int .i64 z0) ∧ w'.cell? ⟨g8, 1, none⟩ = some (.int .i64 z1) ∧ w'.cell? ⟨g8, 2, none⟩ = some (.int .i64 z2)) (first | exact ‹St _ _ _ ∧ _› | exact keepS hS ((‹St _ _ _ ∧ _›).1.step hb2) | exact keepS hS hs.dr | fail) (first | (go_at_call 31; refine (sOrder_any _ _ _).mono ?_; rintro e w1 ⟨rfl, hb2⟩) | (go_at_call 26; refine (iRectOf_any _ _ _ _).mono ?_; rintro e w1 ⟨rfl, hb2⟩) | (go_at_call 32; refine (iHolds_any _ _ _ _ _ _ _).mono ?_; rintro e w1 ⟨rfl, hb2⟩))
      all_goals
        obtain ⟨hs2, _⟩ := ‹St _ _ _ ∧ _›
        go_wp2
        go_meet
        exact ⟨rfl, hs2⟩
  case rest =>
  clear hs hk
  obtain ⟨rfl, hs⟩ := hcut
  rename_i hK1 _ hK
  refine hK _ _ ?_
  refine wp_cond (t := false) rfl ?_
  refine wp_skip ?_
  exact hK1 _ _ (quart_t1 w wc g9 g10 al ax ay bl bx by' (hs.sub (by simp)))
end Go.Proofs.Ytdabkhlhejjnpaa
