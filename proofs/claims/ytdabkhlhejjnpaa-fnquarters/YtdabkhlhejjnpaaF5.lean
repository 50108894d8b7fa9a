/-
  The law FnQuarters, walked: a Cell is its four quarters.
-/
import Derived.Test.YtdabkhlhejjnpaaF3
namespace Go.Proofs.Ytdabkhlhejjnpaa
open Go.RowKit Go.Joins
attribute [local go_sem ↓] Go.wp_at_zero Go.wp_at_succ

set_option maxRecDepth 100000 in
set_option maxHeartbeats 8000000 in
theorem quart_t4no (w wc : World) (g3 g6 g8 g9 g10 : Nat) (l x y s t lv z0 z1 z2 al ax ay bl bx by' : Int) (hat : levB lv = true → spB s t = true → z0 = lv ∧ holdsB (rX z0 z1 z2) (rY z0 z1 z2) (rS z0 z1 z2) (rS z0 z1 z2) s t = true)
    (hs : St w wc [(g3, [.int .i64 l, .int .i64 x, .int .i64 y]), (g6, [.int .i64 s, .int .i64 t]), (g8, [.int .i64 z0, .int .i64 z1, .int .i64 z2]), (g9, [.int .i64 al, .int .i64 ax, .int .i64 ay]), (g10, [.int .i64 bl, .int .i64 bx, .int .i64 by'])]) {u0 u1 u2 u5 u12 u13 u14 u15 u16 u17 u18 u19 u20 u21 u22 u23 u24 u25 u26 u27 u28 u29 u30 u31 u32 u33 u34 u35 u36 u37 u38 u39 u40 u41 u42 u43 u44 u45 u46 u47 u48 u49 u50 u51 u52 u53 u54 u55 u56 u57 u58 u59 u60 u61 u62 u63 u64 u65 u66 u67 u68 u69 u70 u71 u72 u73 u74 u75 u76 u77 u78 u79 u80 u81 u82 u83 u84 u85 u86 u87 u88 u89 u90 u91 u92 u93 u94 u95 u96 u97 u98 u99 u100 u101 u102 u103 u104 u105 u106 u107 u108 u109 u110 u111 u112 u113 u114 u115 u116 u117 u118 u119 u120 u121 u122 u123 u124 u125 u126 u127 u128 u129 u130 u131 u132 u133 u134 u135 u136 u137 u138 u139 u140 u141 u142 u143 u144 u145 u146 u147 u148 u149 u150 u151 u152 u153 u154 u155 u156 u157 u158 u159 u160 u161 u162 u163 u164 u165 u166 u167 u168 u169 u170 u171 u172 u173 : Value} :
    Code.wp Try.prog (dropN 10 (Try.f3.body.getD .skip)) (bodyPost Try.prog Try.f3 fun e w' => e = .returned (.bool true) ∧ Below w.heap.size w w') { tmps := #[u0, u1, u2, .pointer (some ⟨g3, 0, none⟩), .slice none 0 0, u5, .pointer (some ⟨g6, 0, none⟩), .int .i64 lv, .pointer (some ⟨g8, 0, none⟩), .pointer (some ⟨g9, 0, none⟩), .pointer (some ⟨g10, 0, none⟩), .bool (insB al ax ay bl bx by'), u12, u13, u14, u15, u16, u17, u18, u19, u20, u21, u22, u23, u24, u25, u26, u27, u28, u29, u30, u31, u32, u33, u34, u35, u36, u37, u38, u39, u40, u41, u42, u43, u44, u45, u46, u47, u48, u49, u50, u51, u52, u53, u54, u55, u56, u57, u58, u59, u60, u61, u62, u63, u64, u65, u66, u67, u68, u69, u70, u71, u72, u73, u74, u75, u76, u77, u78, u79, u80, u81, u82, u83, u84, u85, u86, u87, u88, u89, u90, u91, u92, u93, u94, u95, u96, u97, u98, u99, u100, u101, u102, u103, u104, u105, u106, u107, u108, u109, u110, u111, u112, u113, u114, u115, u116, u117, u118, u119, u120, u121, u122, u123, u124, u125, u126, u127, u128, u129, u130, u131, u132, u133, u134, u135, u136, u137, u138, u139, u140, u141, u142, u143, u144, u145, u146, u147, u148, u149, u150, u151, u152, u153, u154, u155, u156, u157, u158, u159, u160, u161, u162, u163, u164, u165, u166, u167, u168, u169, u170, u171, u172, u173], defers := [] } wc := by
  generalize hQ : (bodyPost Try.prog Try.f3 fun e w' => e = .returned (.bool true) ∧ Below w.heap.size w w') = Q
  simp only [Try.f3, Option.getD_some, dropN]
  subst hQ
  go_wp2
  refine wp_loop_rounds 1 ?_
  rw [rounds_succ]
  go_upto_if 126 with fail
  go_cut [] from 127 (fun wx => St w wx [(g6, [.int .i64 s, .int .i64 t]), (g8, [.int .i64 z0, .int .i64 z1, .int .i64 z2]), (g9, [.int .i64 al, .int .i64 ax, .int .i64 ay]), (g10, [.int .i64 bl, .int .i64 bx, .int .i64 by'])])
  case first =>
    go_wp2
    go_meet
    exact hs.sub (by simp)
  case rest =>
  rename_i hK
  exact hK _ _ (quart_t2 w wc g6 g8 g9 g10 s t lv z0 z1 z2 al ax ay bl bx by' hat hcut)

set_option maxRecDepth 100000 in
set_option maxHeartbeats 16000000 in
theorem quart_t4yes (w wc : World) (g3 g4 qc4 g6 g8 g9 g10 : Nat) (l x y s t lv z0 z1 z2 al ax ay bl bx by' : Int) (h : cellB l x y = true) (h8 : l ≠ 8) (hat : levB lv = true → spB s t = true → z0 = lv ∧ holdsB (rX z0 z1 z2) (rY z0 z1 z2) (rS z0 z1 z2) (rS z0 z1 z2) s t = true)
    (hs : St w wc [(g4, qs l x y 4), (g3, [.int .i64 l, .int .i64 x, .int .i64 y]), (g6, [.int .i64 s, .int .i64 t]), (g8, [.int .i64 z0, .int .i64 z1, .int .i64 z2]), (g9, [.int .i64 al, .int .i64 ax, .int .i64 ay]), (g10, [.int .i64 bl, .int .i64 bx, .int .i64 by'])]) {u0 u1 u2 u5 u12 u13 u14 u15 u16 u17 u18 u19 u20 u21 u22 u23 u24 u25 u26 u27 u28 u29 u30 u31 u32 u33 u34 u35 u36 u37 u38 u39 u40 u41 u42 u43 u44 u45 u46 u47 u48 u49 u50 u51 u52 u53 u54 u55 u56 u57 u58 u59 u60 u61 u62 u63 u64 u65 u66 u67 u68 u69 u70 u71 u72 u73 u74 u75 u76 u77 u78 u79 u80 u81 u82 u83 u84 u85 u86 u87 u88 u89 u90 u91 u92 u93 u94 u95 u96 u97 u98 u99 u100 u101 u102 u103 u104 u105 u106 u107 u108 u109 u110 u111 u112 u113 u114 u115 u116 u117 u118 u119 u120 u121 u122 u123 u124 u125 u126 u127 u128 u129 u130 u131 u132 u133 u134 u135 u136 u137 u138 u139 u140 u141 u142 u143 u144 u145 u146 u147 u148 u149 u150 u151 u152 u153 u154 u155 u156 u157 u158 u159 u160 u161 u162 u163 u164 u165 u166 u167 u168 u169 u170 u171 u172 u173 : Value} :
    Code.wp Try.prog (dropN 10 (Try.f3.body.getD .skip)) (bodyPost Try.prog Try.f3 fun e w' => e = .returned (.bool true) ∧ Below w.heap.size w w') { tmps := #[u0, u1, u2, .pointer (some ⟨g3, 0, none⟩), .slice (some ⟨g4, 0, none⟩) 4 qc4, u5, .pointer (some ⟨g6, 0, none⟩), .int .i64 lv, .pointer (some ⟨g8, 0, none⟩), .pointer (some ⟨g9, 0, none⟩), .pointer (some ⟨g10, 0, none⟩), .bool (insB al ax ay bl bx by'), u12, u13, u14, u15, u16, u17, u18, u19, u20, u21, u22, u23, u24, u25, u26, u27, u28, u29, u30, u31, u32, u33, u34, u35, u36, u37, u38, u39, u40, u41, u42, u43, u44, u45, u46, u47, u48, u49, u50, u51, u52, u53, u54, u55, u56, u57, u58, u59, u60, u61, u62, u63, u64, u65, u66, u67, u68, u69, u70, u71, u72, u73, u74, u75, u76, u77, u78, u79, u80, u81, u82, u83, u84, u85, u86, u87, u88, u89, u90, u91, u92, u93, u94, u95, u96, u97, u98, u99, u100, u101, u102, u103, u104, u105, u106, u107, u108, u109, u110, u111, u112, u113, u114, u115, u116, u117, u118, u119, u120, u121, u122, u123, u124, u125, u126, u127, u128, u129, u130, u131, u132, u133, u134, u135, u136, u137, u138, u139, u140, u141, u142, u143, u144, u145, u146, u147, u148, u149, u150, u151, u152, u153, u154, u155, u156, u157, u158, u159, u160, u161, u162, u163, u164, u165, u166, u167, u168, u169, u170, u171, u172, u173], defers := [] } wc := by
  have hS : ∀ w', St w w' [(g4, qs l x y 4), (g3, [.int .i64 l, .int .i64 x, .int .i64 y]), (g6, [.int .i64 s, .int .i64 t]), (g8, [.int .i64 z0, .int .i64 z1, .int .i64 z2]), (g9, [.int .i64 al, .int .i64 ax, .int .i64 ay]), (g10, [.int .i64 bl, .int .i64 bx, .int .i64 by'])] → (w'.cell? ⟨g3, 0, none⟩ = some (.int .i64 (l)) ∧ w'.cell? ⟨g3, 1, none⟩ = some (.int .i64 (x)) ∧ w'.cell? ⟨g3, 2, none⟩ = some (.int .i64 (y)) ∧ w'.cell? ⟨g4, 0, none⟩ = some (.int .i64 (l + 1)) ∧ w'.cell? ⟨g4, 1, none⟩ = some (.int .i64 (2 * x)) ∧ w'.cell? ⟨g4, 2, none⟩ = some (.int .i64 (2 * y)) ∧ w'.cell? ⟨g4, 3, none⟩ = some (.int .i64 (l + 1)) ∧ w'.cell? ⟨g4, 4, none⟩ = some (.int .i64 (2 * x + 1)) ∧ w'.cell? ⟨g4, 5, none⟩ = some (.int .i64 (2 * y)) ∧ w'.cell? ⟨g4, 6, none⟩ = some (.int .i64 (l + 1)) ∧ w'.cell? ⟨g4, 7, none⟩ = some (.int .i64 (2 * x)) ∧ w'.cell? ⟨g4, 8, none⟩ = some (.int .i64 (2 * y + 1)) ∧ w'.cell? ⟨g4, 9, none⟩ = some (.int .i64 (l + 1)) ∧ w'.cell? ⟨g4, 10, none⟩ = some (.int .i64 (2 * x + 1)) ∧ w'.cell? ⟨g4, 11, none⟩ = some (.int .i64 (2 * y + 1))) := by
    intro w' h
    have hk := h.has
    rw [qs_eq] at hk
    simp [Has, HasAt] at hk
    simp [hk]
  have o0 : cellB (l + 1) (2 * x) (2 * y) = true := by simpa using quart_ok h h8 (i := 0) (j := 0) (by decide) (by decide) (by decide) (by decide)
  obtain ⟨ul0, ux0, uy0⟩ : uL (l + 1) (2 * x) (2 * y) = l ∧ uX (l + 1) (2 * x) (2 * y) = x ∧ uY (l + 1) (2 * x) (2 * y) = y := by simpa using quart_up h h8 (i := 0) (j := 0) (by decide) (by decide) (by decide) (by decide)
  obtain ⟨ia0, ib0⟩ : insB (l + 1) (2 * x) (2 * y) l x y = true ∧ insB l x y (l + 1) (2 * x) (2 * y) = false := by simpa using quart_in h h8 (i := 0) (j := 0) (by decide) (by decide) (by decide) (by decide)
  have ea0 := area_cell o0
  clear o0
  have o1 : cellB (l + 1) (2 * x + 1) (2 * y) = true := by simpa using quart_ok h h8 (i := 1) (j := 0) (by decide) (by decide) (by decide) (by decide)
  obtain ⟨ul1, ux1, uy1⟩ : uL (l + 1) (2 * x + 1) (2 * y) = l ∧ uX (l + 1) (2 * x + 1) (2 * y) = x ∧ uY (l + 1) (2 * x + 1) (2 * y) = y := by simpa using quart_up h h8 (i := 1) (j := 0) (by decide) (by decide) (by decide) (by decide)
  obtain ⟨ia1, ib1⟩ : insB (l + 1) (2 * x + 1) (2 * y) l x y = true ∧ insB l x y (l + 1) (2 * x + 1) (2 * y) = false := by simpa using quart_in h h8 (i := 1) (j := 0) (by decide) (by decide) (by decide) (by decide)
  have ea1 := area_cell o1
  clear o1
  have o2 : cellB (l + 1) (2 * x) (2 * y + 1) = true := by simpa using quart_ok h h8 (i := 0) (j := 1) (by decide) (by decide) (by decide) (by decide)
  obtain ⟨ul2, ux2, uy2⟩ : uL (l + 1) (2 * x) (2 * y + 1) = l ∧ uX (l + 1) (2 * x) (2 * y + 1) = x ∧ uY (l + 1) (2 * x) (2 * y + 1) = y := by simpa using quart_up h h8 (i := 0) (j := 1) (by decide) (by decide) (by decide) (by decide)
  obtain ⟨ia2, ib2⟩ : insB (l + 1) (2 * x) (2 * y + 1) l x y = true ∧ insB l x y (l + 1) (2 * x) (2 * y + 1) = false := by simpa using quart_in h h8 (i := 0) (j := 1) (by decide) (by decide) (by decide) (by decide)
  have ea2 := area_cell o2
  clear o2
  have o3 : cellB (l + 1) (2 * x + 1) (2 * y + 1) = true := by simpa using quart_ok h h8 (i := 1) (j := 1) (by decide) (by decide) (by decide) (by decide)
  obtain ⟨ul3, ux3, uy3⟩ : uL (l + 1) (2 * x + 1) (2 * y + 1) = l ∧ uX (l + 1) (2 * x + 1) (2 * y + 1) = x ∧ uY (l + 1) (2 * x + 1) (2 * y + 1) = y := by simpa using quart_up h h8 (i := 1) (j := 1) (by decide) (by decide) (by decide) (by decide)
  obtain ⟨ia3, ib3⟩ : insB (l + 1) (2 * x + 1) (2 * y + 1) l x y = true ∧ insB l x y (l + 1) (2 * x + 1) (2 * y + 1) = false := by simpa using quart_in h h8 (i := 1) (j := 1) (by decide) (by decide) (by decide) (by decide)
  have ea3 := area_cell o3
  clear o3
  have eE := area_cell h
  have hl := cell_lev h
  have hfour := area_four (l := l) (by omega) (by omega)
  have hd := sd_bd (l := l + 1) (by omega) (by omega)
  have hD : 0 ≤ sd (l + 1) * sd (l + 1) ∧ sd (l + 1) * sd (l + 1) ≤ 65536 := prod_bd (by omega) (by omega) (by omega) (by omega)
  clear hd
  generalize sd (l + 1) * sd (l + 1) = D at *
  generalize sd l * sd l = E at *
  have hcc := hS _ hs
  generalize hQ : (bodyPost Try.prog Try.f3 fun e w' => e = .returned (.bool true) ∧ Below w.heap.size w w') = Q
  simp only [Try.f3, Option.getD_some, dropN]
  subst hQ
  go_wp2
  refine wp_loop_rounds 5 ?_
  rw [rounds_succ]
  go_wp2_with (first | (go_at_call 26; refine (iRectOf_any _ _ _ _).mono ?_; rintro e w1 ⟨rfl, hb2⟩; replace hs := hs.step hb2; (try clear hcc); have hcc := hS _ hs) | (go_at_call 30; refine (iArea_any _ _ _ _ _).mono ?_; rintro e w1 ⟨rfl, hb2⟩; replace hs := hs.step hb2; (try clear hcc); have hcc := hS _ hs))
  go_region_held3 (fun w' => St w w' [(g4, qs l x y 4), (g3, [.int .i64 l, .int .i64 x, .int .i64 y]), (g6, [.int .i64 s, .int .i64 t]), (g8, [.int .i64 z0, .int .i64 z1, .int .i64 z2]), (g9, [.int .i64 al, .int .i64 ax, .int .i64 ay]), (g10, [.int .i64 bl, .int .i64 bx, .int .i64 by'])] ∧ w'.cell? ⟨g3, 0, none⟩ = some (.int .i64 (l)) ∧ w'.cell? ⟨g3, 1, none⟩ = some (.int .i64 (x)) ∧ w'.cell? ⟨g3, 2, none⟩ = some (.int .i64 (y)) ∧ w'.cell? ⟨g4, 0, none⟩ = some (.int .i64 (l + 1)) ∧ w'.cell? ⟨g4, 1, none⟩ = some (.int .i64 (2 * x)) ∧ w'.cell? ⟨g4, 2, none⟩ = some (.int .i64 (2 * y)) ∧ w'.cell? ⟨g4, 3, none⟩ = some (.int .i64 (l + 1)) ∧ w'.cell? ⟨g4, 4, none⟩ = some (.int .i64 (2 * x + 1)) ∧ w'.cell? ⟨g4, 5, none⟩ = some (.int .i64 (2 * y)) ∧ w'.cell? ⟨g4, 6, none⟩ = some (.int .i64 (l + 1)) ∧ w'.cell? ⟨g4, 7, none⟩ = some (.int .i64 (2 * x)) ∧ w'.cell? ⟨g4, 8, none⟩ = some (.int .i64 (2 * y + 1)) ∧ w'.cell? ⟨g4, 9, none⟩ = some (.int .i64 (l + 1)) ∧ w'.cell? ⟨g4, 10, none⟩ = some (.int .i64 (2 * x + 1)) ∧ w'.cell? ⟨g4, 11, none⟩ = some (.int .i64 (2 * y + 1))) (first | exact ‹St _ _ _ ∧ _› | exact keepS hS ((‹St _ _ _ ∧ _›).1.step hb2) | exact keepS hS hs.dr | fail) (first | (go_at_call 22; refine (iUp_any _ _ _ _).mono ?_; rintro e w1 ⟨rfl, hb2⟩) | (go_at_call 19; refine (iInside_any _ _ _ _ _ _ _).mono ?_; rintro e w1 ⟨rfl, hb2⟩))
  clear hs hcc
  obtain ⟨hs, hcc⟩ := ‹St _ _ _ ∧ _›
  go_wp2
  rw [rounds_succ]
  go_wp2_with (first | (go_at_call 26; refine (iRectOf_any _ _ _ _).mono ?_; rintro e w1 ⟨rfl, hb2⟩; replace hs := hs.step hb2; (try clear hcc); have hcc := hS _ hs) | (go_at_call 30; refine (iArea_any _ _ _ _ _).mono ?_; rintro e w1 ⟨rfl, hb2⟩; replace hs := hs.step hb2; (try clear hcc); have hcc := hS _ hs))
  go_region_held3 (fun w' => St w w' [(g4, qs l x y 4), (g3, [.int .i64 l, .int .i64 x, .int .i64 y]), (g6, [.int .i64 s, .int .i64 t]), (g8, [.int .i64 z0, .int .i64 z1, .int .i64 z2]), (g9, [.int .i64 al, .int .i64 ax, .int .i64 ay]), (g10, [.int .i64 bl, .int .i64 bx, .int .i64 by'])] ∧ w'.cell? ⟨g3, 0, none⟩ = some (.int .i64 (l)) ∧ w'.cell? ⟨g3, 1, none⟩ = some (.int .i64 (x)) ∧ w'.cell? ⟨g3, 2, none⟩ = some (.int .i64 (y)) ∧ w'.cell? ⟨g4, 0, none⟩ = some (.int .i64 (l + 1)) ∧ w'.cell? ⟨g4, 1, none⟩ = some (.int .i64 (2 * x)) ∧ w'.cell? ⟨g4, 2, none⟩ = some (.int .i64 (2 * y)) ∧ w'.cell? ⟨g4, 3, none⟩ = some (.int .i64 (l + 1)) ∧ w'.cell? ⟨g4, 4, none⟩ = some (.int .i64 (2 * x + 1)) ∧ w'.cell? ⟨g4, 5, none⟩ = some (.int .i64 (2 * y)) ∧ w'.cell? ⟨g4, 6, none⟩ = some (.int .i64 (l + 1)) ∧ w'.cell? ⟨g4, 7, none⟩ = some (.int .i64 (2 * x)) ∧ w'.cell? ⟨g4, 8, none⟩ = some (.int .i64 (2 * y + 1)) ∧ w'.cell? ⟨g4, 9, none⟩ = some (.int .i64 (l + 1)) ∧ w'.cell? ⟨g4, 10, none⟩ = some (.int .i64 (2 * x + 1)) ∧ w'.cell? ⟨g4, 11, none⟩ = some (.int .i64 (2 * y + 1))) (first | exact ‹St _ _ _ ∧ _› | exact keepS hS ((‹St _ _ _ ∧ _›).1.step hb2) | exact keepS hS hs.dr | fail) (first | (go_at_call 22; refine (iUp_any _ _ _ _).mono ?_; rintro e w1 ⟨rfl, hb2⟩) | (go_at_call 19; refine (iInside_any _ _ _ _ _ _ _).mono ?_; rintro e w1 ⟨rfl, hb2⟩))
  clear hs hcc
  obtain ⟨hs, hcc⟩ := ‹St _ _ _ ∧ _›
  go_wp2
  rw [rounds_succ]
  go_wp2_with (first | (go_at_call 26; refine (iRectOf_any _ _ _ _).mono ?_; rintro e w1 ⟨rfl, hb2⟩; replace hs := hs.step hb2; (try clear hcc); have hcc := hS _ hs) | (go_at_call 30; refine (iArea_any _ _ _ _ _).mono ?_; rintro e w1 ⟨rfl, hb2⟩; replace hs := hs.step hb2; (try clear hcc); have hcc := hS _ hs))
  go_region_held3 (fun w' => St w w' [(g4, qs l x y 4), (g3, [.int .i64 l, .int .i64 x, .int .i64 y]), (g6, [.int .i64 s, .int .i64 t]), (g8, [.int .i64 z0, .int .i64 z1, .int .i64 z2]), (g9, [.int .i64 al, .int .i64 ax, .int .i64 ay]), (g10, [.int .i64 bl, .int .i64 bx, .int .i64 by'])] ∧ w'.cell? ⟨g3, 0, none⟩ = some (.int .i64 (l)) ∧ w'.cell? ⟨g3, 1, none⟩ = some (.int .i64 (x)) ∧ w'.cell? ⟨g3, 2, none⟩ = some (.int .i64 (y)) ∧ w'.cell? ⟨g4, 0, none⟩ = some (.int .i64 (l + 1)) ∧ w'.cell? ⟨g4, 1, none⟩ = some (.int .i64 (2 * x)) ∧ w'.cell? ⟨g4, 2, none⟩ = some (.int .i64 (2 * y)) ∧ w'.cell? ⟨g4, 3, none⟩ = some (.int .i64 (l + 1)) ∧ w'.cell? ⟨g4, 4, none⟩ = some (.int .i64 (2 * x + 1)) ∧ w'.cell? ⟨g4, 5, none⟩ = some (.int .i64 (2 * y)) ∧ w'.cell? ⟨g4, 6, none⟩ = some (.int .i64 (l + 1)) ∧ w'.cell? ⟨g4, 7, none⟩ = some (.int .i64 (2 * x)) ∧ w'.cell? ⟨g4, 8, none⟩ = some (.int .i64 (2 * y + 1)) ∧ w'.cell? ⟨g4, 9, none⟩ = some (.int .i64 (l + 1)) ∧ w'.cell? ⟨g4, 10, none⟩ = some (.int .i64 (2 * x + 1)) ∧ w'.cell? ⟨g4, 11, none⟩ = some (.int .i64 (2 * y + 1))) (first | exact ‹St _ _ _ ∧ _› | exact keepS hS ((‹St _ _ _ ∧ _›).1.step hb2) | exact keepS hS hs.dr | fail) (first | (go_at_call 22; refine (iUp_any _ _ _ _).mono ?_; rintro e w1 ⟨rfl, hb2⟩) | (go_at_call 19; refine (iInside_any _ _ _ _ _ _ _).mono ?_; rintro e w1 ⟨rfl, hb2⟩))
  clear hs hcc
  obtain ⟨hs, hcc⟩ := ‹St _ _ _ ∧ _›
  go_wp2
  rw [rounds_succ]
  go_wp2_with (first | (go_at_call 26; refine (iRectOf_any _ _ _ _).mono ?_; rintro e w1 ⟨rfl, hb2⟩; replace hs := hs.step hb2; (try clear hcc); have hcc := hS _ hs) | (go_at_call 30; refine (iArea_any _ _ _ _ _).mono ?_; rintro e w1 ⟨rfl, hb2⟩; replace hs := hs.step hb2; (try clear hcc); have hcc := hS _ hs))
  go_region_held3 (fun w' => St w w' [(g4, qs l x y 4), (g3, [.int .i64 l, .int .i64 x, .int .i64 y]), (g6, [.int .i64 s, .int .i64 t]), (g8, [.int .i64 z0, .int .i64 z1, .int .i64 z2]), (g9, [.int .i64 al, .int .i64 ax, .int .i64 ay]), (g10, [.int .i64 bl, .int .i64 bx, .int .i64 by'])] ∧ w'.cell? ⟨g3, 0, none⟩ = some (.int .i64 (l)) ∧ w'.cell? ⟨g3, 1, none⟩ = some (.int .i64 (x)) ∧ w'.cell? ⟨g3, 2, none⟩ = some (.int .i64 (y)) ∧ w'.cell? ⟨g4, 0, none⟩ = some (.int .i64 (l + 1)) ∧ w'.cell? ⟨g4, 1, none⟩ = some (.int .i64 (2 * x)) ∧ w'.cell? ⟨g4, 2, none⟩ = some (.int .i64 (2 * y)) ∧ w'.cell? ⟨g4, 3, none⟩ = some (.int .i64 (l + 1)) ∧ w'.cell? ⟨g4, 4, none⟩ = some (.int .i64 (2 * x + 1)) ∧ w'.cell? ⟨g4, 5, none⟩ = some (.int .i64 (2 * y)) ∧ w'.cell? ⟨g4, 6, none⟩ = some (.int .i64 (l + 1)) ∧ w'.cell? ⟨g4, 7, none⟩ = some (.int .i64 (2 * x)) ∧ w'.cell? ⟨g4, 8, none⟩ = some (.int .i64 (2 * y + 1)) ∧ w'.cell? ⟨g4, 9, none⟩ = some (.int .i64 (l + 1)) ∧ w'.cell? ⟨g4, 10, none⟩ = some (.int .i64 (2 * x + 1)) ∧ w'.cell? ⟨g4, 11, none⟩ = some (.int .i64 (2 * y + 1))) (first | exact ‹St _ _ _ ∧ _› | exact keepS hS ((‹St _ _ _ ∧ _›).1.step hb2) | exact keepS hS hs.dr | fail) (first | (go_at_call 22; refine (iUp_any _ _ _ _).mono ?_; rintro e w1 ⟨rfl, hb2⟩) | (go_at_call 19; refine (iInside_any _ _ _ _ _ _ _).mono ?_; rintro e w1 ⟨rfl, hb2⟩))
  clear hs hcc
  obtain ⟨hs, hcc⟩ := ‹St _ _ _ ∧ _›
  go_wp2
  rw [rounds_succ]
  go_upto_if 126 with (first | (go_at_call 26; refine (iRectOf_any _ _ _ _).mono ?_; rintro e w1 ⟨rfl, hb2⟩; replace hs := hs.step hb2; (try clear hcc); have hcc := hS _ hs) | (go_at_call 30; refine (iArea_any _ _ _ _ _).mono ?_; rintro e w1 ⟨rfl, hb2⟩; replace hs := hs.step hb2; (try clear hcc); have hcc := hS _ hs))
  go_cut [] from 127 (fun wx => St w wx [(g6, [.int .i64 s, .int .i64 t]), (g8, [.int .i64 z0, .int .i64 z1, .int .i64 z2]), (g9, [.int .i64 al, .int .i64 ax, .int .i64 ay]), (g10, [.int .i64 bl, .int .i64 bx, .int .i64 by'])])
  case first =>
    go_wp2_with (first | (go_at_call 26; refine (iRectOf_any _ _ _ _).mono ?_; rintro e w1 ⟨rfl, hb2⟩; replace hs := hs.step hb2; (try clear hcc); have hcc := hS _ hs) | (go_at_call 30; refine (iArea_any _ _ _ _ _).mono ?_; rintro e w1 ⟨rfl, hb2⟩; replace hs := hs.step hb2; (try clear hcc); have hcc := hS _ hs))
    go_meet
    exact hs.sub (by simp)
  case rest =>
  first | (rename_i hK; exact hK _ _ (quart_t2 w wc g6 g8 g9 g10 s t lv z0 z1 z2 al ax ay bl bx by' hat hcut)) | (rename_i hK _; exact hK _ _ (quart_t2 w wc g6 g8 g9 g10 s t lv z0 z1 z2 al ax ay bl bx by' hat hcut)) | (rename_i hK _ _; exact hK _ _ (quart_t2 w wc g6 g8 g9 g10 s t lv z0 z1 z2 al ax ay bl bx by' hat hcut)) | (rename_i hK _ _ _; exact hK _ _ (quart_t2 w wc g6 g8 g9 g10 s t lv z0 z1 z2 al ax ay bl bx by' hat hcut)) | (rename_i hK _ _ _ _; exact hK _ _ (quart_t2 w wc g6 g8 g9 g10 s t lv z0 z1 z2 al ax ay bl bx by' hat hcut)) | (rename_i hK _ _ _ _ _; exact hK _ _ (quart_t2 w wc g6 g8 g9 g10 s t lv z0 z1 z2 al ax ay bl bx by' hat hcut)) | (rename_i hK _ _ _ _ _ _; exact hK _ _ (quart_t2 w wc g6 g8 g9 g10 s t lv z0 z1 z2 al ax ay bl bx by' hat hcut)) | (rename_i hK _ _ _ _ _ _ _; exact hK _ _ (quart_t2 w wc g6 g8 g9 g10 s t lv z0 z1 z2 al ax ay bl bx by' hat hcut))
end Go.Proofs.Ytdabkhlhejjnpaa
