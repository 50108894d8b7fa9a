/-
  Contracts of the drawing functions, sixth part: two Cells for Inside.
-/
import Derived.Test.YtdabkhlhejjnpaaD5
namespace Go.Proofs.Ytdabkhlhejjnpaa
open Go.RowKit Go.Joins
attribute [local go_sem ↓] Go.wp_at_zero Go.wp_at_succ

theorem StC.ofCur {wc : World} {g : Nat} {a : Option Addr} {len cap : Nat} {zs : List Int} {l : List (Nat × List Value)} (h : Cur wc g a len cap zs) (hh : Has wc l) (hn : ∀ p ∈ l, p.1 ≠ g) : StC wc wc g a len cap zs l := ⟨h.rd, Turn.refl _ _, h, hh, hn⟩

set_option maxRecDepth 100000 in
set_option maxHeartbeats 4000000 in
theorem drawInside_any (a : Option Addr) (len cap : Nat) (zs : List Int) (g : Nat) (w : World) (hl : len ≤ 4096) (hr : Rd w g a len zs) :
    Calls Try.prog 18 #[.slice a len cap] w fun e w' => ∃ l x y m p q : Int, e = .returned (.tuple #[.agg #[.int .i64 l, .int .i64 x, .int .i64 y], .agg #[.int .i64 m, .int .i64 p, .int .i64 q]]) ∧ Below w.heap.size w w' := by
  have HR : Hid (Rd ((w.alloc (.cells #[.int .i64 0, .int .i64 0, .int .i64 0] 25)).alloc (.cells #[.int .i64 0, .int .i64 0, .int .i64 0] 25)) ((w.alloc (.cells #[.int .i64 0, .int .i64 0, .int .i64 0] 25)).alloc (.cells #[.int .i64 0, .int .i64 0, .int .i64 0] 25)).heap.size a len zs) := hr.up (below_alloc2 _ _ _) (by simp; omega)
  clear hr
  have HF : Hid (∀ h : Int, Cur (((w.alloc (.cells #[.int .i64 0, .int .i64 0, .int .i64 0] 25)).alloc (.cells #[.int .i64 0, .int .i64 0, .int .i64 0] 25)).alloc (.cells #[.slice a len cap, .int .i64 0, .int .i64 h] 79)) (w.heap.size + 1 + 1) a len cap zs) := fun h => by simpa using Cur.fresh (h := h) (cap := cap) hl HR.out
  go_enter Try.func18, Try.ntmps18
  go_upto_region 2 with (first | (go_at_call 46; refine (new_any a len cap zs _ hl HR.out).mono ?_; rintro e w0 ⟨h, rfl, rfl⟩))
  have hs : StC _ _ (w.heap.size + 1 + 1) a len cap zs [(w.heap.size + 1, [.int .i64 0, .int .i64 0, .int .i64 0]), (w.heap.size, [.int .i64 0, .int .i64 0, .int .i64 0])] := StC.ofCur (HF.out h) (by
    have := (((St.nil w).push [.int .i64 0, .int .i64 0, .int .i64 0] 25).push [.int .i64 0, .int .i64 0, .int .i64 0] 25).al (.cells #[.slice a len cap, .int .i64 0, .int .i64 h] 79)
    simp only [World.size_alloc] at this
    exact this.has) (by simp; omega)
  have hB0 : Below w.heap.size w (((w.alloc (.cells #[.int .i64 0, .int .i64 0, .int .i64 0] 25)).alloc (.cells #[.int .i64 0, .int .i64 0, .int .i64 0] 25)).alloc (.cells #[.slice a len cap, .int .i64 0, .int .i64 h] 79)) := below_alloc3 _ _ _ _
  have hzc : (((w.alloc (.cells #[.int .i64 0, .int .i64 0, .int .i64 0] 25)).alloc (.cells #[.int .i64 0, .int .i64 0, .int .i64 0] 25)).alloc (.cells #[.slice a len cap, .int .i64 0, .int .i64 h] 79)).heap.size = w.heap.size + 1 + 1 + 1 := by simp
  clear HF HR
  generalize ((w.alloc (.cells #[.int .i64 0, .int .i64 0, .int .i64 0] 25)).alloc (.cells #[.int .i64 0, .int .i64 0, .int .i64 0] 25)).alloc (.cells #[.slice a len cap, .int .i64 0, .int .i64 h] 79) = Wc at hs hB0 hzc ⊢
  go_upto_region 3 with (first | (go_at_call 51; refine (l2Draw_any (w.heap.size + 1 + 1) a len cap zs _ ?_).mono ?_; (focus (first | exact hs.cur | exact (hs.push _ _).cur | exact ((hs.push _ _).push _ _).cur | exact hs.cur.drew | exact (hs.push _ _).cur.drew)); rintro e w1 ⟨l, x, y, rfl, ht, hc⟩; (first | replace hs := hs.call ht hc | replace hs := (hs.push _ _).call ht hc | replace hs := ((hs.push _ _).push _ _).call ht hc | replace hs := hs.dr.call ht hc); (try simp only [World.size_alloc] at hs); (try clear hk); have hk := hs.has; simp [Has, HasAt] at hk))
  replace hs := hs.push [.int .i64 l, .int .i64 x, .int .i64 y] 25
  have hg5 : w.heap.size + 1 + 1 < w1.heap.size := by have := ht.size; omega
  clear hk ht hc
  generalize w1.heap.size = g5 at hs hg5 ⊢
  generalize w1.alloc _ = W5 at hs ⊢
  have hk := hs.has
  simp [Has, HasAt] at hk
  go_upto_region 5 with (first | (go_at_call 52; refine (once_any (w.heap.size + 1 + 1) a len cap zs _ _ ?_ ?_ ?_).mono ?_; (focus (first | exact hs.cur | exact (hs.push _ _).cur | exact ((hs.push _ _).push _ _).cur | exact hs.cur.drew | exact (hs.push _ _).cur.drew)); (focus omega); (focus omega); rintro e w1 ⟨b, rfl, ht, hc⟩; (first | replace hs := hs.call ht hc | replace hs := (hs.push _ _).call ht hc | replace hs := ((hs.push _ _).push _ _).call ht hc | replace hs := hs.dr.call ht hc); (try simp only [World.size_alloc] at hs); (try clear hk); have hk := hs.has; simp [Has, HasAt] at hk) | (go_at_call 29; refine (sCellOk_any _ _ _ _).mono ?_; rintro e w1 ⟨rfl, hb2⟩; (first | replace hs := hs.step hb2 | replace hs := (hs.push _ _).step hb2 | replace hs := ((hs.push _ _).push _ _).step hb2); (try simp only [World.size_alloc] at hs); (try clear hk); have hk := hs.has; simp [Has, HasAt] at hk))
  · have hd6 : g5 < w1.heap.size ∧ w.heap.size + 1 < w1.heap.size := ⟨hk.1.1, hk.2.1.1⟩
    replace hs := hs.push [.int .i64 l, .int .i64 x, .int .i64 y] 25
    clear hk
    generalize w1.heap.size = g6 at hs hd6 ⊢
    generalize w1.alloc _ = W6 at hs ⊢
    have hk := hs.has
    simp [Has, HasAt] at hk
    go_wp2_with ((go_at_call 53; refine (below_any (w.heap.size + 1 + 1) a len cap zs _ _ ?_ ?_ ?_).mono ?_; (focus (first | exact hs.cur | exact (hs.push _ _).cur | exact ((hs.push _ _).push _ _).cur | exact hs.cur.drew | exact (hs.push _ _).cur.drew)); (focus omega); (focus omega); rintro e w1 ⟨n, rfl, n0, n1, ht, hc⟩; (first | replace hs := hs.call ht hc | replace hs := (hs.push _ _).call ht hc | replace hs := ((hs.push _ _).push _ _).call ht hc | replace hs := hs.dr.call ht hc); (try simp only [World.size_alloc] at hs); (try clear hk); have hk := hs.has; simp [Has, HasAt] at hk))
    go_loopw [7] (fun i wr => ∃ (k : Nat) (m p q : Int), k ≤ 4 ∧ i = .int .i64 k ∧ StC Wc wr (w.heap.size + 1 + 1) a len cap zs [(g6, [.int .i64 m, .int .i64 p, .int .i64 q]), (g5, [.int .i64 l, .int .i64 x, .int .i64 y]), (w.heap.size + 1, [.int .i64 0, .int .i64 0, .int .i64 0]), (w.heap.size, [.int .i64 0, .int .i64 0, .int .i64 0])]) (fun i _ => (intOf i).toNat)
    case atStart => exact ⟨n.toNat, l, x, y, by omega, by rw [Int.toNat_of_nonneg n0], hs⟩
    case round =>
      clear hs hk
      obtain ⟨k, m, p, q, hk4, rfl, hs⟩ := hrel
      have hk := hs.has
      simp [Has, HasAt] at hk
      by_cases h0 : 0 < k
      · have h0' : (0 : Int) < (k : Int) := by omega
        go_wp2_with (go_at_call 23; refine (sUp_any _ _ _ _).mono ?_; rintro e w1 ⟨rfl, hb2⟩; (first | replace hs := hs.step hb2 | replace hs := (hs.push _ _).step hb2 | replace hs := ((hs.push _ _).push _ _).step hb2); (try simp only [World.size_alloc] at hs); (try clear hk); have hk := hs.has; simp [Has, HasAt] at hk)
        have hd : ∀ p ∈ [(g5, [Value.int .i64 l, .int .i64 x, .int .i64 y]), (w.heap.size + 1, [.int .i64 0, .int .i64 0, .int .i64 0]), (w.heap.size, [.int .i64 0, .int .i64 0, .int .i64 0])], g6 ≠ p.1 := by simp; omega
        refine ⟨⟨k - 1, _, _, _, by omega, congrArg (Value.int .i64) (by omega), ((hs.set 0 (by simp) _ (by omega) hd).set 1 (by simp) _ (by omega) hd).set 2 (by simp) _ (by omega) hd⟩, by simp [intOf]; omega⟩
      · have hB := hB0.trans (hs.turn.below (B := w.heap.size) (by omega) (by omega))
        go_wp2
        go_region_with (fail)
        all_goals go_wp2
        all_goals
          refine bodyPost_ret (v := .tuple #[.agg #[.int .i64 l, .int .i64 x, .int .i64 y], .agg #[.int .i64 m, .int .i64 p, .int .i64 q]]) (by simp [results, Try.results18, go_sem, hk]) rfl ⟨l, x, y, m, p, q, rfl, ?_⟩
          exact (sc3 (sc3 hB (Nat.le_refl _)) (Nat.le_succ _)).drew
  all_goals
    go_region_with ((go_at_call 51; refine (l2Draw_any (w.heap.size + 1 + 1) a len cap zs _ hs.cur.drew).mono ?_; rintro e w3 ⟨m, p, q, rfl, ht, hc⟩; replace hs := hs.dr.call ht hc; (try simp only [World.size_alloc] at hs); (try clear hk); have hk := hs.has; simp [Has, HasAt] at hk))
    all_goals
      have hB := hB0.trans (hs.turn.below (B := w.heap.size) (by omega) (by omega))
      go_wp2
      refine bodyPost_ret (v := .tuple #[.agg #[.int .i64 l, .int .i64 x, .int .i64 y], .agg #[.int .i64 m, .int .i64 p, .int .i64 q]]) (by simp [results, Try.results18, go_sem, hk]) rfl ⟨l, x, y, m, p, q, rfl, ?_⟩
      first | exact sc3 (sc3 hB (Nat.le_refl _)) (Nat.le_succ _) | exact sc3 (sc3 hB (Nat.le_succ _)) (Nat.le_refl _)
end Go.Proofs.Ytdabkhlhejjnpaa
