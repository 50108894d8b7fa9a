/-
  Contracts of the drawing functions, fifth part: what Quarters, Up, CellAt and Inside are asked. What is drawn is not told: that the call answers numbers, and that nothing old turns.
-/
import Derived.Test.YtdabkhlhejjnpaaD4
import Derived.Test.YtdabkhlhejjnpaaZ3
namespace Go.Proofs.Ytdabkhlhejjnpaa
open Go.RowKit Go.Joins
attribute [local go_sem ↓] Go.wp_at_zero Go.wp_at_succ

set_option maxHeartbeats 1000000 in
theorem drawCell_any (a : Option Addr) (len cap : Nat) (zs : List Int) (g : Nat) (w : World) (hl : len ≤ 4096) (hr : Rd w g a len zs) :
    Calls Try.prog 43 #[.slice a len cap] w fun e w' => ∃ l x y : Int, e = .returned (.agg #[.int .i64 l, .int .i64 x, .int .i64 y]) ∧ Below w.heap.size w w' := by
  have HR : Hid (Rd (w.alloc (.cells #[.int .i64 0, .int .i64 0, .int .i64 0] 25)) (w.alloc (.cells #[.int .i64 0, .int .i64 0, .int .i64 0] 25)).heap.size a len zs) := hr.up (below_alloc1 _ _) (by simp)
  clear hr
  have HF : Hid (∀ h : Int, Cur ((w.alloc (.cells #[.int .i64 0, .int .i64 0, .int .i64 0] 25)).alloc (.cells #[.slice a len cap, .int .i64 0, .int .i64 h] 79)) (w.heap.size + 1) a len cap zs) := fun h => by simpa using Cur.fresh (h := h) (cap := cap) hl HR.out
  go_enter Try.func43, Try.ntmps43
  go_wp2_with (first | (go_at_call 46; refine (new_any a len cap zs _ hl HR.out).mono ?_; rintro e w0 ⟨h, rfl, rfl⟩) | (go_at_call 51; refine (l2Draw_any (w.heap.size + 1) a len cap zs _ (HF.out _)).mono ?_; rintro e w2 ⟨l, x, y, rfl, hT, hcur⟩; have hz := hT.size; (try simp at hz); have z00 : w2.cell? ⟨w.heap.size, 0, none⟩ = some (.int .i64 0) := (by rw [hT.cell (by simp <;> omega) (by omega)]; simp [go_sem]); have z01 : w2.cell? ⟨w.heap.size, 1, none⟩ = some (.int .i64 0) := (by rw [hT.cell (by simp <;> omega) (by omega)]; simp [go_sem]); have z02 : w2.cell? ⟨w.heap.size, 2, none⟩ = some (.int .i64 0) := (by rw [hT.cell (by simp <;> omega) (by omega)]; simp [go_sem]); have zf : ∀ o, w2.frozen? ⟨w.heap.size, o, none⟩ = false := fun o => (by rw [hT.frozen (by simp <;> omega) (by omega)]; simp [go_sem])))
  have hB := (below_alloc2 _ _ _).trans (hT.below (B := w.heap.size) (by omega) (by simp <;> omega))
  refine bodyPost_ret (v := .agg #[.int .i64 l, .int .i64 x, .int .i64 y]) (by simp [results, Try.results43, go_sem, z00, z01, z02]) rfl ⟨_, _, _, rfl, ?_⟩
  exact sc3 hB (Nat.le_refl _)

set_option maxHeartbeats 1000000 in
theorem drawQuarters_any (a : Option Addr) (len cap : Nat) (zs : List Int) (g : Nat) (w : World) (hl : len ≤ 4096) (hr : Rd w g a len zs) :
    Calls Try.prog 13 #[.slice a len cap] w fun e w' => ∃ l x y : Int, e = .returned (.agg #[.int .i64 l, .int .i64 x, .int .i64 y]) ∧ Below w.heap.size w w' := by
  have HR : Hid (Rd (w.alloc (.cells #[.int .i64 0, .int .i64 0, .int .i64 0] 25)) (g + w.heap.size) a len zs) := hr.up (below_alloc1 _ _) (by omega)
  clear hr
  go_enter Try.func13, Try.ntmps13
  go_wp2_with (go_at_call 43; refine (drawCell_any a len cap zs _ _ hl HR.out).mono ?_; rintro e w1 ⟨l, x, y, rfl, hb⟩; obtain ⟨hc, hf⟩ := bcell hb)
  refine bodyPost_ret (v := .agg #[.int .i64 l, .int .i64 x, .int .i64 y]) (by simp [results, Try.results13, go_sem, hc]) rfl ⟨_, _, _, rfl, ?_⟩
  exact sc3 (ba1 hb) (Nat.le_refl _)

set_option maxHeartbeats 1000000 in
theorem drawUp_any (a : Option Addr) (len cap : Nat) (zs : List Int) (g : Nat) (w : World) (hl : len ≤ 4096) (hr : Rd w g a len zs) :
    Calls Try.prog 15 #[.slice a len cap] w fun e w' => ∃ l x y : Int, e = .returned (.agg #[.int .i64 l, .int .i64 x, .int .i64 y]) ∧ Below w.heap.size w w' := by
  have HR : Hid (Rd (w.alloc (.cells #[.int .i64 0, .int .i64 0, .int .i64 0] 25)) (g + w.heap.size) a len zs) := hr.up (below_alloc1 _ _) (by omega)
  clear hr
  go_enter Try.func15, Try.ntmps15
  go_wp2_with (go_at_call 43; refine (drawCell_any a len cap zs _ _ hl HR.out).mono ?_; rintro e w1 ⟨l, x, y, rfl, hb⟩; obtain ⟨hc, hf⟩ := bcell hb)
  refine bodyPost_ret (v := .agg #[.int .i64 l, .int .i64 x, .int .i64 y]) (by simp [results, Try.results15, go_sem, hc]) rfl ⟨_, _, _, rfl, ?_⟩
  exact sc3 (ba1 hb) (Nat.le_refl _)

set_option maxHeartbeats 1000000 in
theorem from_any (g : Nat) (a : Option Addr) (len cap : Nat) (zs : List Int) (w : World) (hcur : Cur w g a len cap zs) :
    Calls Try.prog 48 #[.pointer (some ⟨g, 0, none⟩), .int .i64 (-1), .int .i64 11] w fun e w' => ∃ x : Int, e = .returned (.int .i64 x) ∧ Turn g w w' ∧ Cur w' g a len cap zs := by
  have HC : Hid (Cur w g a len cap zs) := hcur
  clear hcur
  go_enter Try.func48, Try.ntmps48
  go_wp2_with (go_at_call 53; refine (below_any _ _ _ _ _ _ _ HC.out ?_ ?_).mono ?_; (focus omega); (focus omega); rintro e w1 ⟨x, rfl, hx0, hx1, ht, hcur'⟩)
  go_ret
  exact ⟨_, rfl, ht, hcur'⟩

set_option maxHeartbeats 2000000 in
theorem drawCellAt_any (a : Option Addr) (len cap : Nat) (zs : List Int) (g : Nat) (w : World) (hl : len ≤ 4096) (hr : Rd w g a len zs) :
    Calls Try.prog 16 #[.slice a len cap] w fun e w' => ∃ s t v : Int, e = .returned (.tuple #[.agg #[.int .i64 s, .int .i64 t], .int .i64 v]) ∧ Below w.heap.size w w' := by
  have HR : Hid (Rd (w.alloc (.cells #[.int .i64 0, .int .i64 0] 30)) (w.alloc (.cells #[.int .i64 0, .int .i64 0] 30)).heap.size a len zs) := hr.up (below_alloc1 _ _) (by simp)
  clear hr
  have HF : Hid (∀ h : Int, Cur ((w.alloc (.cells #[.int .i64 0, .int .i64 0] 30)).alloc (.cells #[.slice a len cap, .int .i64 0, .int .i64 h] 79)) (w.heap.size + 1) a len cap zs) := fun h => by simpa using Cur.fresh (h := h) (cap := cap) hl HR.out
  go_enter Try.func16, Try.ntmps16
  go_upto_region 3 with (first | (go_at_call 46; refine (new_any a len cap zs _ hl HR.out).mono ?_; rintro e w0 ⟨h, rfl, rfl⟩) | (go_at_call 47; refine (drawSpot_any (w.heap.size + 1) a len cap zs _ (HF.out _)).mono ?_; rintro e w2 ⟨s, t, rfl, hT, hcur⟩))
  have hz := hT.size
  (try simp at hz)
  have hgn := Nat.ne_of_gt hcur.hg
  go_region_with ((go_at_call 48; refine (from_any (w.heap.size + 1) a len cap zs _ (hcur.alloc _).drew).mono ?_; rintro e w3 ⟨v, rfl, hT2, hcur2⟩; have hcS := fun b o h1 h2 => hT2.cell (b := b) (o := o) h1 h2; replace hT := (hT.alloc _).drew.trans hT2; have z00 : w3.cell? ⟨w.heap.size, 0, none⟩ = some (.int .i64 0) := (by rw [hT.cell (by simp <;> omega) (by omega)]; simp [go_sem]); have z01 : w3.cell? ⟨w.heap.size, 1, none⟩ = some (.int .i64 0) := (by rw [hT.cell (by simp <;> omega) (by omega)]; simp [go_sem]); have zf : ∀ o, w3.frozen? ⟨w.heap.size, o, none⟩ = false := fun o => (by rw [hT.frozen (by simp <;> omega) (by omega)]; simp [go_sem])))
  all_goals
    go_wp2
    have hB := (below_alloc2 _ _ _).trans (hT.below (B := w.heap.size) (by omega) (by simp <;> omega))
    refine bodyPost_ret (v := .tuple #[.agg #[.int .i64 s, .int .i64 t], .int .i64 v]) (by simp [results, Try.results16, go_sem, z00, z01]) rfl ⟨_, _, _, rfl, ?_⟩
    exact sc2 hB (Nat.le_refl _)
end Go.Proofs.Ytdabkhlhejjnpaa
