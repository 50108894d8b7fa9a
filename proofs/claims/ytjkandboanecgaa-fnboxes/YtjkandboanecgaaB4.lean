/-
  The law FnBoxes, walked: its last statement.
-/
import Derived.Test.YtjkandboanecgaaB0S
import Derived.Deep.CutBlock
import Derived.BigQuiet
namespace Go.Proofs.Ytjkandboanecgaa
open Go.RowKit Go.Joins
attribute [local go_sem ↓] Go.wp_at_zero Go.wp_at_succ

/-- The first part of two. -/
def fstC : Code → Code
  | .seq c _ => c
  | c => c
/-- A frame of 242 slots of which some are told. -/
structure Fr (A : Act) (l : List (Nat × Value)) : Prop where
  size : A.tmps.size = 242
  defers : A.defers = []
  has : ∀ p ∈ l, A.tmps[p.1]? = some p.2
theorem Fr.get {A : Act} {l : List (Nat × Value)} (h : Fr A l) {d : Nat} {v : Value} (hm : (d, v) ∈ l) : A.tmps[d]? = some v := h.has _ hm
theorem Fr.put {A : Act} {l : List (Nat × Value)} (h : Fr A l) {d : Nat} {v : Value} (hd : d < 242) (hne : ∀ p ∈ l, p.1 ≠ d) : Fr (A.put (some d) v) ((d, v) :: l) := by
  refine ⟨by simp [Act.put, h.size], h.defers, fun p hp => ?_⟩
  rcases List.mem_cons.mp hp with rfl | hp
  · show (A.tmps.setIfInBounds d v)[d]? = some v
    rw [Array.getElem?_setIfInBounds_self_of_lt (by rw [h.size]; exact hd)]
  · show (A.tmps.setIfInBounds d v)[p.1]? = some p.2
    rw [Array.getElem?_setIfInBounds_ne (Ne.symm (hne p hp))]
    exact h.has p hp
theorem q_step {ops : Array Oper} {C : World → Prop} {Q : Act → Prop} {A : Act} {o : Oper} {rest : List Oper} {l : List (Nat × Value)} {d : Nat} {v : Value} (hf : Fr A l) (hw : o.guard = none) (hd : o.dst = some d) (hlt : d < 242) (hne : ∀ p ∈ l, p.1 ≠ d)
    (hq : ∀ w, C w → o.quietAt Try.prog A C w v) (k : ∀ A', Fr A' ((d, v) :: l) → wpQuiet Try.prog ops C Q rest A') : wpQuiet Try.prog ops C Q (o :: rest) A :=
  BigFrame.wpQuiet_want (by simp [Region.wanted, hw]) (fun K hK => ⟨v, hq, hK _ (by rw [hd]; exact k _ (hf.put hlt hne))⟩)
theorem q_skip {ops : Array Oper} {C : World → Prop} {Q : Act → Prop} {A : Act} {o : Oper} {rest : List Oper} {l : List (Nat × Value)} {d e j : Nat} {want b : Bool} (hf : Fr A l) (hg : o.guard = some (j, want)) (hj : (ops[j]?).bind (·.dst) = some e) (hv : (e, .bool b) ∈ l) (hb : (b == want) = false)
    (hd : o.dst = some d) (hlt : d < 242) (hne : ∀ p ∈ l, p.1 ≠ d) (k : ∀ A', Fr A' ((d, undef) :: l) → wpQuiet Try.prog ops C Q rest A') : wpQuiet Try.prog ops C Q (o :: rest) A :=
  BigFrame.wpQuiet_skip (by rw [Region.wanted, hg]; simp [yielded, hj, hf.get hv]; simpa using hb) (by rw [hd]; exact k _ (hf.put hlt hne))

set_option maxRecDepth 100000 in
set_option maxHeartbeats 8000000 in
theorem boxes_reg (a : Option Addr) (len cap : Nat) (w wc : World)
    (g3 g4 g5 g7 : Nat) (x1 y1 c1 d1 x2 y2 c2 d2 m0 m1 m2 m3 n0 n1 n2 n3 : Int) (mb : Bool)
    (hal : areaI x1 y1 c1 d1 + areaI x2 y2 c2 d2 ≤ areaI n0 n1 n2 n3 + areaI m0 m1 m2 m3)
    (h2 : St w wc ((g7, [n0, n1, n2, n3]) :: (g5, [m0, m1, m2, m3]) :: (g4, [x2, y2, c2, d2]) :: (g3, [x1, y1, c1, d1]) :: []))
    {u1 u2 u8 u9 u10 u11 u12 u13 u14 u15 u16 u17 u18 u19 u20 u21 u22 u23 u24 u25 u26 u27 u28 u29 u30 u31 u32 u33 u34 u35 u36 u37 u38 u39 u40 u41 u42 u43 u44 u45 u46 u47 u48 u49 u50 u51 u52 u53 u54 u55 u56 u57 u58 u59 u60 u61 u62 u63 u64 u65 u66 u67 u68 u69 u70 u71 u72 u73 u74 u75 u76 u77 u78 u79 u80 u81 u82 u83 u84 u85 u86 u87 u88 u89 u90 u91 u92 u93 u94 u95 u96 u97 u98 u99 u100 u101 u102 u103 u104 u105 u106 u107 u108 u109 u110 u111 u112 u113 u114 u115 u116 u117 u118 u119 u120 u121 u122 u123 u124 u125 u126 u127 u128 u129 u130 u131 u132 u133 u134 u135 u136 u137 u138 u139 u140 u141 u142 u143 u144 u145 u146 u147 u148 u149 u150 u151 u152 u153 u154 u155 u156 u157 u158 u159 u160 u161 u162 u163 u164 u165 u166 u167 u168 u169 u170 u171 u172 u173 u174 u175 u176 u177 u178 u179 u180 u181 u182 u183 u184 u185 u186 u187 u188 u189 u190 u191 u192 u193 u194 u195 u196 u197 u198 u199 u200 u201 u202 u203 u204 u205 u206 u207 u208 u209 u210 u211 u212 u213 u214 u215 u216 u217 u218 u219 u220 u221 u222 u223 u224 u225 u226 u227 u228 u229 u230 u231 u232 u233 u234 u235 u236 u237 u238 u239 u240 u241 : Value} {Q : Exit → Act → World → Prop} (hQ : ∀ A w', A.tmps[2]? = some (.bool true) → A.defers = [] → St w w' ((g7, [n0, n1, n2, n3]) :: (g5, [m0, m1, m2, m3]) :: (g4, [x2, y2, c2, d2]) :: (g3, [x1, y1, c1, d1]) :: []) → Q .normal A w') :
    Code.wp Try.prog (fstC (dropN 13 (Try.f3.body.getD .skip))) Q
      { tmps := #[.slice a len cap, u1, u2, .pointer (some ⟨g3, 0, none⟩), .pointer (some ⟨g4, 0, none⟩), .pointer (some ⟨g5, 0, none⟩), .bool mb, .pointer (some ⟨g7, 0, none⟩), u8, u9, u10, u11, u12, u13, u14, u15, u16, u17, u18, u19, u20, u21, u22, u23, u24, u25, u26, u27, u28, u29, u30, u31, u32, u33, u34, u35, u36, u37, u38, u39, u40, u41, u42, u43, u44, u45, u46, u47, u48, u49, u50, u51, u52, u53, u54, u55, u56, u57, u58, u59, u60, u61, u62, u63, u64, u65, u66, u67, u68, u69, u70, u71, u72, u73, u74, u75, u76, u77, u78, u79, u80, u81, u82, u83, u84, u85, u86, u87, u88, u89, u90, u91, u92, u93, u94, u95, u96, u97, u98, u99, u100, u101, u102, u103, u104, u105, u106, u107, u108, u109, u110, u111, u112, u113, u114, u115, u116, u117, u118, u119, u120, u121, u122, u123, u124, u125, u126, u127, u128, u129, u130, u131, u132, u133, u134, u135, u136, u137, u138, u139, u140, u141, u142, u143, u144, u145, u146, u147, u148, u149, u150, u151, u152, u153, u154, u155, u156, u157, u158, u159, u160, u161, u162, u163, u164, u165, u166, u167, u168, u169, u170, u171, u172, u173, u174, u175, u176, u177, u178, u179, u180, u181, u182, u183, u184, u185, u186, u187, u188, u189, u190, u191, u192, u193, u194, u195, u196, u197, u198, u199, u200, u201, u202, u203, u204, u205, u206, u207, u208, u209, u210, u211, u212, u213, u214, u215, u216, u217, u218, u219, u220, u221, u222, u223, u224, u225, u226, u227, u228, u229, u230, u231, u232, u233, u234, u235, u236, u237, u238, u239, u240, u241], defers := [] } wc := by
  have hS4 : ∀ w', St w w' ((g7, [n0, n1, n2, n3]) :: (g5, [m0, m1, m2, m3]) :: (g4, [x2, y2, c2, d2]) :: (g3, [x1, y1, c1, d1]) :: []) → (w'.cell? ⟨g3, 0, none⟩ = some (.int .i64 x1) ∧ w'.cell? ⟨g3, 1, none⟩ = some (.int .i64 y1) ∧ w'.cell? ⟨g3, 2, none⟩ = some (.int .i64 c1) ∧ w'.cell? ⟨g3, 3, none⟩ = some (.int .i64 d1) ∧ w'.cell? ⟨g4, 0, none⟩ = some (.int .i64 x2) ∧ w'.cell? ⟨g4, 1, none⟩ = some (.int .i64 y2) ∧ w'.cell? ⟨g4, 2, none⟩ = some (.int .i64 c2) ∧ w'.cell? ⟨g4, 3, none⟩ = some (.int .i64 d2) ∧ w'.cell? ⟨g5, 0, none⟩ = some (.int .i64 m0) ∧ w'.cell? ⟨g5, 1, none⟩ = some (.int .i64 m1) ∧ w'.cell? ⟨g5, 2, none⟩ = some (.int .i64 m2) ∧ w'.cell? ⟨g5, 3, none⟩ = some (.int .i64 m3) ∧ w'.cell? ⟨g7, 0, none⟩ = some (.int .i64 n0) ∧ w'.cell? ⟨g7, 1, none⟩ = some (.int .i64 n1) ∧ w'.cell? ⟨g7, 2, none⟩ = some (.int .i64 n2) ∧ w'.cell? ⟨g7, 3, none⟩ = some (.int .i64 n3)) := by
    intro w' h
    obtain ⟨a0, a1, a2, a3⟩ := h.r4 (g := g3) (x := x1) (y := y1) (c := c1) (d := d1) (by simp)
    obtain ⟨b0, b1, b2, b3⟩ := h.r4 (g := g4) (x := x2) (y := y2) (c := c2) (d := d2) (by simp)
    obtain ⟨e0, e1, e2, e3⟩ := h.r4 (g := g5) (x := m0) (y := m1) (c := m2) (d := m3) (by simp)
    obtain ⟨f0, f1, f2, f3⟩ := h.r4 (g := g7) (x := n0) (y := n1) (c := n2) (d := n3) (by simp)
    exact ⟨a0, a1, a2, a3, b0, b1, b2, b3, e0, e1, e2, e3, f0, f1, f2, f3⟩
  simp only [Try.f3, Option.getD_some, dropN, fstC]
  have s1 : IntKind.i64.wrap (areaI x1 y1 c1 d1 + areaI x2 y2 c2 d2) = areaI x1 y1 c1 d1 + areaI x2 y2 c2 d2 := by have := area_bd x1 y1 c1 d1; have := area_bd x2 y2 c2 d2; exact Go.Proofs.Ytjkandboanecgaa.wr (by omega) (by omega)
  have s2 : IntKind.i64.wrap (areaI n0 n1 n2 n3 + areaI m0 m1 m2 m3) = areaI n0 n1 n2 n3 + areaI m0 m1 m2 m3 := by have := area_bd n0 n1 n2 n3; have := area_bd m0 m1 m2 m3; exact Go.Proofs.Ytjkandboanecgaa.wr (by omega) (by omega)
  have s3 : decide (areaI x1 y1 c1 d1 + areaI x2 y2 c2 d2 ≤ areaI n0 n1 n2 n3 + areaI m0 m1 m2 m3) = true := decide_eq_true hal
  have hf : Fr { tmps := #[.slice a len cap, u1, u2, .pointer (some ⟨g3, 0, none⟩), .pointer (some ⟨g4, 0, none⟩), .pointer (some ⟨g5, 0, none⟩), .bool mb, .pointer (some ⟨g7, 0, none⟩), u8, u9, u10, u11, u12, u13, u14, u15, u16, u17, u18, u19, u20, u21, u22, u23, u24, u25, u26, u27, u28, u29, u30, u31, u32, u33, u34, u35, u36, u37, u38, u39, u40, u41, u42, u43, u44, u45, u46, u47, u48, u49, u50, u51, u52, u53, u54, u55, u56, u57, u58, u59, u60, u61, u62, u63, u64, u65, u66, u67, u68, u69, u70, u71, u72, u73, u74, u75, u76, u77, u78, u79, u80, u81, u82, u83, u84, u85, u86, u87, u88, u89, u90, u91, u92, u93, u94, u95, u96, u97, u98, u99, u100, u101, u102, u103, u104, u105, u106, u107, u108, u109, u110, u111, u112, u113, u114, u115, u116, u117, u118, u119, u120, u121, u122, u123, u124, u125, u126, u127, u128, u129, u130, u131, u132, u133, u134, u135, u136, u137, u138, u139, u140, u141, u142, u143, u144, u145, u146, u147, u148, u149, u150, u151, u152, u153, u154, u155, u156, u157, u158, u159, u160, u161, u162, u163, u164, u165, u166, u167, u168, u169, u170, u171, u172, u173, u174, u175, u176, u177, u178, u179, u180, u181, u182, u183, u184, u185, u186, u187, u188, u189, u190, u191, u192, u193, u194, u195, u196, u197, u198, u199, u200, u201, u202, u203, u204, u205, u206, u207, u208, u209, u210, u211, u212, u213, u214, u215, u216, u217, u218, u219, u220, u221, u222, u223, u224, u225, u226, u227, u228, u229, u230, u231, u232, u233, u234, u235, u236, u237, u238, u239, u240, u241], defers := [] } [(3, .pointer (some ⟨g3, 0, none⟩)), (4, .pointer (some ⟨g4, 0, none⟩)), (5, .pointer (some ⟨g5, 0, none⟩)), (6, .bool mb), (7, .pointer (some ⟨g7, 0, none⟩))] := ⟨rfl, rfl, by simp⟩
  refine wp_region_quiet (C := fun w' => St w w' ((g7, [n0, n1, n2, n3]) :: (g5, [m0, m1, m2, m3]) :: (g4, [x2, y2, c2, d2]) :: (g3, [x1, y1, c1, d1]) :: [])) (by kernel_rfl) (by kernel_rfl) h2.dr ?_
  generalize ({ tmps := #[.slice a len cap, u1, u2, .pointer (some ⟨g3, 0, none⟩), .pointer (some ⟨g4, 0, none⟩), .pointer (some ⟨g5, 0, none⟩), .bool mb, .pointer (some ⟨g7, 0, none⟩), u8, u9, u10, u11, u12, u13, u14, u15, u16, u17, u18, u19, u20, u21, u22, u23, u24, u25, u26, u27, u28, u29, u30, u31, u32, u33, u34, u35, u36, u37, u38, u39, u40, u41, u42, u43, u44, u45, u46, u47, u48, u49, u50, u51, u52, u53, u54, u55, u56, u57, u58, u59, u60, u61, u62, u63, u64, u65, u66, u67, u68, u69, u70, u71, u72, u73, u74, u75, u76, u77, u78, u79, u80, u81, u82, u83, u84, u85, u86, u87, u88, u89, u90, u91, u92, u93, u94, u95, u96, u97, u98, u99, u100, u101, u102, u103, u104, u105, u106, u107, u108, u109, u110, u111, u112, u113, u114, u115, u116, u117, u118, u119, u120, u121, u122, u123, u124, u125, u126, u127, u128, u129, u130, u131, u132, u133, u134, u135, u136, u137, u138, u139, u140, u141, u142, u143, u144, u145, u146, u147, u148, u149, u150, u151, u152, u153, u154, u155, u156, u157, u158, u159, u160, u161, u162, u163, u164, u165, u166, u167, u168, u169, u170, u171, u172, u173, u174, u175, u176, u177, u178, u179, u180, u181, u182, u183, u184, u185, u186, u187, u188, u189, u190, u191, u192, u193, u194, u195, u196, u197, u198, u199, u200, u201, u202, u203, u204, u205, u206, u207, u208, u209, u210, u211, u212, u213, u214, u215, u216, u217, u218, u219, u220, u221, u222, u223, u224, u225, u226, u227, u228, u229, u230, u231, u232, u233, u234, u235, u236, u237, u238, u239, u240, u241], defers := [] } : Act) = A at hf ⊢
  refine q_step hf (d := 218) (v := .agg #[.int .i64 x1, .int .i64 y1, .int .i64 c1, .int .i64 d1]) rfl rfl (by decide) (by simp) (fun w' hw' => ?_) (fun A hf => ?_)
  · have hc := hS4 _ hw'
    have f3 := hf.get (d := 3) (v := .pointer (some ⟨g3, 0, none⟩)) (by simp)
    clear hf
    simp [Oper.quietAt, Oper.quietUpon, go_sem, hc, f3]
  refine q_step hf (d := 219) (v := .int .i64 (areaI x1 y1 c1 d1)) rfl rfl (by decide) (by simp) (fun w' hw' => ?_) (fun A hf => ?_)
  · have f218 := hf.get (d := 218) (v := .agg #[.int .i64 x1, .int .i64 y1, .int .i64 c1, .int .i64 d1]) (by simp)
    clear hf
    simp [Oper.quietAt, Oper.quietUpon, go_sem, f218]
    exact (iArea_any _ _ _ _ _).mono (fun e w'' hq => ⟨hq.1, hw'.step hq.2⟩)
  refine q_step hf (d := 220) (v := .agg #[.int .i64 x2, .int .i64 y2, .int .i64 c2, .int .i64 d2]) rfl rfl (by decide) (by simp) (fun w' hw' => ?_) (fun A hf => ?_)
  · have hc := hS4 _ hw'
    have f4 := hf.get (d := 4) (v := .pointer (some ⟨g4, 0, none⟩)) (by simp)
    clear hf
    simp [Oper.quietAt, Oper.quietUpon, go_sem, hc, f4]
  refine q_step hf (d := 221) (v := .int .i64 (areaI x2 y2 c2 d2)) rfl rfl (by decide) (by simp) (fun w' hw' => ?_) (fun A hf => ?_)
  · have f220 := hf.get (d := 220) (v := .agg #[.int .i64 x2, .int .i64 y2, .int .i64 c2, .int .i64 d2]) (by simp)
    clear hf
    simp [Oper.quietAt, Oper.quietUpon, go_sem, f220]
    exact (iArea_any _ _ _ _ _).mono (fun e w'' hq => ⟨hq.1, hw'.step hq.2⟩)
  refine q_step hf (d := 222) (v := .int .i64 (areaI x1 y1 c1 d1 + areaI x2 y2 c2 d2)) rfl rfl (by decide) (by simp) (fun w' hw' => ?_) (fun A hf => ?_)
  · have f219 := hf.get (d := 219) (v := .int .i64 (areaI x1 y1 c1 d1)) (by simp)
    have f221 := hf.get (d := 221) (v := .int .i64 (areaI x2 y2 c2 d2)) (by simp)
    clear hf
    simp [Oper.quietAt, Oper.quietUpon, go_sem, f219, f221, s1]
  refine q_step hf (d := 223) (v := .agg #[.int .i64 n0, .int .i64 n1, .int .i64 n2, .int .i64 n3]) rfl rfl (by decide) (by simp) (fun w' hw' => ?_) (fun A hf => ?_)
  · have hc := hS4 _ hw'
    have f7 := hf.get (d := 7) (v := .pointer (some ⟨g7, 0, none⟩)) (by simp)
    clear hf
    simp [Oper.quietAt, Oper.quietUpon, go_sem, hc, f7]
  refine q_step hf (d := 224) (v := .int .i64 (areaI n0 n1 n2 n3)) rfl rfl (by decide) (by simp) (fun w' hw' => ?_) (fun A hf => ?_)
  · have f223 := hf.get (d := 223) (v := .agg #[.int .i64 n0, .int .i64 n1, .int .i64 n2, .int .i64 n3]) (by simp)
    clear hf
    simp [Oper.quietAt, Oper.quietUpon, go_sem, f223]
    exact (iArea_any _ _ _ _ _).mono (fun e w'' hq => ⟨hq.1, hw'.step hq.2⟩)
  refine q_step hf (d := 225) (v := .agg #[.int .i64 m0, .int .i64 m1, .int .i64 m2, .int .i64 m3]) rfl rfl (by decide) (by simp) (fun w' hw' => ?_) (fun A hf => ?_)
  · have hc := hS4 _ hw'
    have f5 := hf.get (d := 5) (v := .pointer (some ⟨g5, 0, none⟩)) (by simp)
    clear hf
    simp [Oper.quietAt, Oper.quietUpon, go_sem, hc, f5]
  refine q_step hf (d := 226) (v := .int .i64 (areaI m0 m1 m2 m3)) rfl rfl (by decide) (by simp) (fun w' hw' => ?_) (fun A hf => ?_)
  · have f225 := hf.get (d := 225) (v := .agg #[.int .i64 m0, .int .i64 m1, .int .i64 m2, .int .i64 m3]) (by simp)
    clear hf
    simp [Oper.quietAt, Oper.quietUpon, go_sem, f225]
    exact (iArea_any _ _ _ _ _).mono (fun e w'' hq => ⟨hq.1, hw'.step hq.2⟩)
  refine q_step hf (d := 227) (v := .int .i64 (areaI n0 n1 n2 n3 + areaI m0 m1 m2 m3)) rfl rfl (by decide) (by simp) (fun w' hw' => ?_) (fun A hf => ?_)
  · have f224 := hf.get (d := 224) (v := .int .i64 (areaI n0 n1 n2 n3)) (by simp)
    have f226 := hf.get (d := 226) (v := .int .i64 (areaI m0 m1 m2 m3)) (by simp)
    clear hf
    simp [Oper.quietAt, Oper.quietUpon, go_sem, f224, f226, s2]
  refine q_step hf (d := 228) (v := .bool true) rfl rfl (by decide) (by simp) (fun w' hw' => ?_) (fun A hf => ?_)
  · have f222 := hf.get (d := 222) (v := .int .i64 (areaI x1 y1 c1 d1 + areaI x2 y2 c2 d2)) (by simp)
    have f227 := hf.get (d := 227) (v := .int .i64 (areaI n0 n1 n2 n3 + areaI m0 m1 m2 m3)) (by simp)
    clear hf
    simp [Oper.quietAt, Oper.quietUpon, go_sem, f222, f227, s3]
  refine q_step hf (d := 229) (v := .bool true) rfl rfl (by decide) (by simp) (fun w' hw' => ?_) (fun A hf => ?_)
  · have f228 := hf.get (d := 228) (v := .bool true) (by simp)
    clear hf
    simp [Oper.quietAt, Oper.quietUpon, go_sem, f228]
  refine q_skip hf (d := 230) (e := 229) (b := true) rfl rfl (by simp) rfl rfl (by decide) (by simp) (fun A hf => ?_)
  refine q_step hf (d := 231) (v := .bool true) rfl rfl (by decide) (by simp) (fun w' hw' => ?_) (fun A hf => ?_)
  · have f229 := hf.get (d := 229) (v := .bool true) (by simp)
    clear hf
    simp [Oper.quietAt, Oper.quietUpon, go_sem, f229]
  refine q_step hf (d := 232) (v := .bool true) rfl rfl (by decide) (by simp) (fun w' hw' => ?_) (fun A hf => ?_)
  · have f231 := hf.get (d := 231) (v := .bool true) (by simp)
    clear hf
    simp [Oper.quietAt, Oper.quietUpon, go_sem, f231]
  refine q_skip hf (d := 233) (e := 232) (b := true) rfl rfl (by simp) rfl rfl (by decide) (by simp) (fun A hf => ?_)
  refine q_skip hf (d := 234) (e := 232) (b := true) rfl rfl (by simp) rfl rfl (by decide) (by simp) (fun A hf => ?_)
  refine q_skip hf (d := 235) (e := 232) (b := true) rfl rfl (by simp) rfl rfl (by decide) (by simp) (fun A hf => ?_)
  refine q_skip hf (d := 236) (e := 232) (b := true) rfl rfl (by simp) rfl rfl (by decide) (by simp) (fun A hf => ?_)
  refine q_skip hf (d := 237) (e := 232) (b := true) rfl rfl (by simp) rfl rfl (by decide) (by simp) (fun A hf => ?_)
  refine q_skip hf (d := 238) (e := 232) (b := true) rfl rfl (by simp) rfl rfl (by decide) (by simp) (fun A hf => ?_)
  refine q_skip hf (d := 239) (e := 232) (b := true) rfl rfl (by simp) rfl rfl (by decide) (by simp) (fun A hf => ?_)
  refine q_skip hf (d := 240) (e := 232) (b := true) rfl rfl (by simp) rfl rfl (by decide) (by simp) (fun A hf => ?_)
  refine q_step hf (d := 241) (v := .bool true) rfl rfl (by decide) (by simp) (fun w' hw' => ?_) (fun A hf => ?_)
  · have f232 := hf.get (d := 232) (v := .bool true) (by simp)
    clear hf
    simp [Oper.quietAt, Oper.quietUpon, go_sem, f232]
  refine q_step hf (d := 2) (v := .bool true) rfl rfl (by decide) (by simp) (fun w' hw' => ?_) (fun A hf => ?_)
  · have f241 := hf.get (d := 241) (v := .bool true) (by simp)
    clear hf
    simp [Oper.quietAt, Oper.quietUpon, go_sem, f241]
  refine wpQuiet_nil (fun w' hw' => ?_)
  have f2 := hf.get (d := 2) (v := .bool true) (by simp)
  exact hQ _ _ f2 hf.defers hw'

end Go.Proofs.Ytjkandboanecgaa
