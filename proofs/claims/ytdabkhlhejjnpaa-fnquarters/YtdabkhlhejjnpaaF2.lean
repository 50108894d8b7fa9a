/-
  The law FnQuarters, walked: its end: one Cell is inside another just when one of its ways up is that one.
-/
import Derived.Test.YtdabkhlhejjnpaaF1
import Derived.Deep.CutBlock
namespace Go.Proofs.Ytdabkhlhejjnpaa
open Go.RowKit Go.Joins
attribute [local go_sem ↓] Go.wp_at_zero Go.wp_at_succ

/-- What stands behind the first n parts of a text. -/
def dropN : Nat → Code → Code
  | n + 1, .seq _ b => dropN n b
  | _, c => c
theorem ins_way {l x y m p q : Int} {k : Nat} (h1 : cellB l x y = true) (h2 : cellB m p q = true) (hw : k = 0 ∨ m ≤ l - k) (hx : ¬ m < l - k) : insB l x y m p q = (l - k == m && half x k == p && half y k == q) := by
  have a := cell_lev h1
  have b := cell_lev h2
  rw [insB_eq, h1, h2, Bool.true_and, Bool.true_and, Bool.eq_iff_iff]
  simp only [lInB, decide_eq_true_eq, Bool.and_eq_true, beq_iff_eq]
  constructor
  · rintro ⟨c, d, e⟩
    have hkk : (l - m).toNat = k := by omega
    rw [hkk, ← half_eq] at d
    rw [hkk, ← half_eq] at e
    exact ⟨⟨by omega, d⟩, e⟩
  · rintro ⟨⟨c, d⟩, e⟩
    have hkk : (l - m).toNat = k := by omega
    rw [hkk, ← half_eq, ← half_eq]
    exact ⟨by omega, d, e⟩

set_option maxRecDepth 100000 in
set_option maxHeartbeats 8000000 in
theorem quart_t1 (w wc : World) (g9 g10 : Nat) (al ax ay bl bx by' : Int) (hs : St w wc [(g9, [.int .i64 al, .int .i64 ax, .int .i64 ay]), (g10, [.int .i64 bl, .int .i64 bx, .int .i64 by'])]) {u0 u1 u2 u3 u4 u5 u6 u7 u8 u12 u13 u14 u15 u16 u17 u18 u19 u20 u21 u22 u23 u24 u25 u26 u27 u28 u29 u30 u31 u32 u33 u34 u35 u36 u37 u38 u39 u40 u41 u42 u43 u44 u45 u46 u47 u48 u49 u50 u51 u52 u53 u54 u55 u56 u57 u58 u59 u60 u61 u62 u63 u64 u65 u66 u67 u68 u69 u70 u71 u72 u73 u74 u75 u76 u77 u78 u79 u80 u81 u82 u83 u84 u85 u86 u87 u88 u89 u90 u91 u92 u93 u94 u95 u96 u97 u98 u99 u100 u101 u102 u103 u104 u105 u106 u107 u108 u109 u110 u111 u112 u113 u114 u115 u116 u117 u118 u119 u120 u121 u122 u123 u124 u125 u126 u127 u128 u129 u130 u131 u132 u133 u134 u135 u136 u137 u138 u139 u140 u141 u142 u143 u144 u145 u146 u147 u148 u149 u150 u151 u152 u153 u154 u155 u156 u157 u158 u159 u160 u161 u162 u163 u164 u165 u166 u167 u168 u169 u170 u171 u172 u173 : Value} :
    Code.wp Try.prog (dropN 14 (Try.f3.body.getD .skip)) (bodyPost Try.prog Try.f3 fun e w' => e = .returned (.bool true) ∧ Below w.heap.size w w') { tmps := #[u0, u1, u2, u3, u4, u5, u6, u7, u8, .pointer (some ⟨g9, 0, none⟩), .pointer (some ⟨g10, 0, none⟩), .bool (insB al ax ay bl bx by'), u12, u13, u14, u15, u16, u17, u18, u19, u20, u21, u22, u23, u24, u25, u26, u27, u28, u29, u30, u31, u32, u33, u34, u35, u36, u37, u38, u39, u40, u41, u42, u43, u44, u45, u46, u47, u48, u49, u50, u51, u52, u53, u54, u55, u56, u57, u58, u59, u60, u61, u62, u63, u64, u65, u66, u67, u68, u69, u70, u71, u72, u73, u74, u75, u76, u77, u78, u79, u80, u81, u82, u83, u84, u85, u86, u87, u88, u89, u90, u91, u92, u93, u94, u95, u96, u97, u98, u99, u100, u101, u102, u103, u104, u105, u106, u107, u108, u109, u110, u111, u112, u113, u114, u115, u116, u117, u118, u119, u120, u121, u122, u123, u124, u125, u126, u127, u128, u129, u130, u131, u132, u133, u134, u135, u136, u137, u138, u139, u140, u141, u142, u143, u144, u145, u146, u147, u148, u149, u150, u151, u152, u153, u154, u155, u156, u157, u158, u159, u160, u161, u162, u163, u164, u165, u166, u167, u168, u169, u170, u171, u172, u173], defers := [] } wc := by
  generalize hQ : (bodyPost Try.prog Try.f3 fun e w' => e = .returned (.bool true) ∧ Below w.heap.size w w') = Q
  simp only [Try.f3, Option.getD_some, dropN]
  have hk := hs.has
  simp [Has, HasAt] at hk
  cases ha : cellB al ax ay
  · have e0 : insB al ax ay bl bx by' = false := by simp [insB, ha]
    go_wp2_with (go_at_call 29; refine (sCellOk_any _ _ _ _).mono ?_; rintro e w1 ⟨rfl, hb2⟩; (first | replace hs := hs.step hb2 | replace hs := (hs.push _ _).step hb2); (try simp only [World.size_alloc] at hs); (try clear hk); have hk := hs.has; simp [Has, HasAt] at hk)
    subst hQ
    go_ret
    exact ⟨ret_bool (by simp), hs.bel⟩
  cases hb : cellB bl bx by'
  · have e0 : insB al ax ay bl bx by' = false := by simp [insB, hb]
    go_wp2_with (go_at_call 29; refine (sCellOk_any _ _ _ _).mono ?_; rintro e w1 ⟨rfl, hb2⟩; (first | replace hs := hs.step hb2 | replace hs := (hs.push _ _).step hb2); (try simp only [World.size_alloc] at hs); (try clear hk); have hk := hs.has; simp [Has, HasAt] at hk)
    subst hQ
    go_ret
    exact ⟨ret_bool (by simp), hs.bel⟩
  go_upto_block 2 with (go_at_call 29; refine (sCellOk_any _ _ _ _).mono ?_; rintro e w1 ⟨rfl, hb2⟩; (first | replace hs := hs.step hb2 | replace hs := (hs.push _ _).step hb2); (try simp only [World.size_alloc] at hs); (try clear hk); have hk := hs.has; simp [Has, HasAt] at hk)
  have hd : g10 < w1.heap.size ∧ w.heap.size ≤ w1.heap.size := ⟨hk.2.1, hs.size⟩
  replace hs := (hs.push [.int .i64 al, .int .i64 ax, .int .i64 ay] 25).sub (l' := [(w1.heap.size, [.int .i64 al, .int .i64 ax, .int .i64 ay]), (g10, [.int .i64 bl, .int .i64 bx, .int .i64 by'])]) (by simp)
  clear hk hb2
  generalize w1.heap.size = g14 at hs hd ⊢
  generalize w1.alloc _ = W14 at hs ⊢
  go_wp2
  go_loopw [] (fun wr => ∃ k : Nat, k ≤ al.toNat ∧ (k = 0 ∨ bl ≤ al - k) ∧ St w wr [(g14, [.int .i64 (al - k), .int .i64 (half ax k), .int .i64 (half ay k)]), (g10, [.int .i64 bl, .int .i64 bx, .int .i64 by'])])
    (fun wr => (intAt (wr.cell? ⟨g14, 0, none⟩)).toNat)
  case atStart => exact ⟨0, by omega, .inl rfl, by simpa [half] using hs⟩
  case round =>
    clear hs
    obtain ⟨k, hka, hw, hs⟩ := hrel
    have hk := hs.has
    simp [Has, HasAt] at hk
    have lb := cell_lev hb
    by_cases hlt : bl < al - k
    · have hok := anc_ok ha hka
      have hlu : uL (al - k) (half ax k) (half ay k) = al - ((k + 1 : Nat) : Int) := by simp only [uL, hok, if_true]; rw [if_neg (by omega)]; omega
      have hxu : uX (al - k) (half ax k) (half ay k) = half ax (k + 1) := by simp only [uX, hok, if_true]; rw [if_neg (by omega)]; rfl
      have hyu : uY (al - k) (half ax k) (half ay k) = half ay (k + 1) := by simp only [uY, hok, if_true]; rw [if_neg (by omega)]; rfl
      have e0 : wr.cell? ⟨g14, 0, none⟩ = some (.int .i64 (al - k)) := hk.1.2.2.1
      go_wp2_with (go_at_call 22; refine (iUp_any _ _ _ _).mono ?_; rw [hlu, hxu, hyu]; rintro e w1 ⟨rfl, hb2⟩; (first | replace hs := hs.step hb2 | replace hs := (hs.push _ _).step hb2); (try simp only [World.size_alloc] at hs); (try clear hk); have hk := hs.has; simp [Has, HasAt] at hk)
      have hne : ∀ p ∈ ([(g10, [.int .i64 bl, .int .i64 bx, .int .i64 by'])] : List (Nat × List Value)), g14 ≠ p.1 := by simp; omega
      have hs2 := ((hs.set 0 (by simp) (.int .i64 (al - ((k + 1 : Nat) : Int))) (by omega) hne).set 1 (by simp) (.int .i64 (half ax (k + 1))) (by omega) hne).set 2 (by simp) (.int .i64 (half ay (k + 1))) (by omega) hne
      have q : ∀ v, v = some (Value.int .i64 (al - ((k + 1 : Nat) : Int))) → (intAt v).toNat < (intAt (some (.int .i64 (al - (k : Int))))).toNat := by rintro _ rfl; simp only [intAt]; omega
      refine ⟨⟨k + 1, by omega, .inr (by omega), hs2⟩, ?_⟩
      rw [e0]
      exact q _ hs2.has.1.2.2.1
    · have e1 := ins_way ha hb hw hlt
      go_wp2
      all_goals
        subst hQ
        go_ret
        exact ⟨ret_bool (by first | rfl | simp_all), hs.bel⟩
end Go.Proofs.Ytdabkhlhejjnpaa
