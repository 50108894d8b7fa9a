/-
  Contracts of the drawing functions, third part: a spot drawn; the laws' own spot.
-/
import Derived.Test.YtjkandboanecgaaW8
namespace Go.Proofs.Ytjkandboanecgaa
open Go.RowKit Go.Joins
attribute [local go_sem ↓] Go.wp_at_zero Go.wp_at_succ
theorem turn_lt {g : Nat} {X w1 : World} {o : Obj} (h : Turn g (X.alloc o) w1) : X.heap.size < w1.heap.size := by have := h.size; simp at this; omega
theorem turn_ltd {g : Nat} {X w1 : World} {o : Obj} (h : Turn g (X.alloc o).drew w1) : X.heap.size < w1.heap.size := by have := h.size; simp at this; omega
theorem turn_lt2 {g : Nat} {X w1 : World} {o p : Obj} (h : Turn g ((X.alloc o).alloc p) w1) : X.heap.size < w1.heap.size ∧ X.heap.size + 1 < w1.heap.size := by have := h.size; simp at this; omega
theorem turn_lt2d {g : Nat} {X w1 : World} {o p : Obj} (h : Turn g ((X.alloc o).alloc p).drew w1) : X.heap.size < w1.heap.size ∧ X.heap.size + 1 < w1.heap.size := by have := h.size; simp at this; omega

set_option maxHeartbeats 16000000 in
theorem drawSpot_any (g : Nat) (a : Option Addr) (len cap : Nat) (zs : List Int) (w : World) (hcur : Cur w g a len cap zs) :
    Calls Try.prog 45 #[.pointer (some ⟨g, 0, none⟩)] w fun e w' => ∃ x y : Int, e = .returned (.agg #[.int .i64 x, .int .i64 y]) ∧ Turn g w w' ∧ Cur w' g a len cap zs := by
  have hg := hcur.hg
  have hne0 : w.heap.size ≠ g := by omega
  have HR : Hid (Rd w g a len zs) := hcur.rd
  have HC : Hid (Cur (w.alloc (.cells #[.int .i64 0, .int .i64 0] 32)) g a len cap zs) := hcur.alloc _
  clear hcur
  go_enter Try.func45, Try.ntmps45
  have tok1 : True := trivial
  go_wp2_with (first | (go_at_call 53; (first | refine (once_any _ _ _ _ _ _ _ HC.out (by decide) (by decide)).mono ?_ | refine (once_any _ _ _ _ _ _ _ hcur' (by decide) (by decide)).mono ?_); rintro e w1 ⟨x, rfl, ht', hcur''⟩; (first | replace hT := hT.trans ht' | have hT := ht'); have hcur' := hcur''; (try clear hc hf); have hc := fun b o h1 h2 => hT.cell (b := b) (o := o) h1 h2; have hf := fun b o h1 h2 => hT.frozen (b := b) (o := o) h1 h2) | (go_at_call 52; have _t := tok1; clear _t tok1; refine (below_any _ _ _ _ _ _ _ hcur' (by decide) (by decide)).mono ?_; rintro e w1 ⟨ya, rfl, hy0, hy1, ht', hcur''⟩; replace hT := hT.trans ht'; replace hcur' := hcur''; clear hc hf; have hc := fun b o h1 h2 => hT.cell (b := b) (o := o) h1 h2; have hf := fun b o h1 h2 => hT.frozen (b := b) (o := o) h1 h2) | (go_at_call 52; refine (below_any _ _ _ _ _ _ _ hcur' (by decide) (by decide)).mono ?_; rintro e w1 ⟨yb, rfl, hy0, hy1, ht', hcur''⟩; replace hT := hT.trans ht'; replace hcur' := hcur''; clear hc hf; have hc := fun b o h1 h2 => hT.cell (b := b) (o := o) h1 h2; have hf := fun b o h1 h2 => hT.frozen (b := b) (o := o) h1 h2))
  · have hgn : w1.heap.size ≠ g := by have := hcur'.hg; omega
    have hgn1 : w1.heap.size + 1 ≠ g := by have := hcur'.hg; omega
    have hz0 : w.heap.size < w1.heap.size := by have := hT.size; simp at this; omega
    go_region_with ((go_at_call 52; refine (below_any g a len cap zs _ _ ?_ (by decide) (by decide)).mono ?_; (focus (first | exact hcur' | exact hcur'.drew | exact (hcur'.alloc _) | exact (hcur'.alloc _).drew | exact ((hcur'.alloc _).alloc _) | exact ((hcur'.alloc _).alloc _).drew)); rintro e w3 ⟨v, rfl, hv0, hv1, ht', hcur''⟩; (first | (have hs5 := sel5 hv0 hv1; have hs5L := sel5L hv0 hv1; obtain ⟨v5, hv5⟩ : ∃ v5 : Int, v5 = v := ⟨_, rfl⟩; subst hv5) | (have hs3 := sel3 hv0 hv1; have hs3L := sel3L hv0 hv1; obtain ⟨v3, hv3⟩ : ∃ v3 : Int, v3 = v := ⟨_, rfl⟩; subst hv3)); (first | (replace hT := hT.trans ht'; (try (have hzb := Nat.lt_of_lt_of_le hzb ht'.size; have hzb' := Nat.le_of_lt hzb)); (try (have hza := Nat.lt_of_lt_of_le hza ht'.size; have hza' := Nat.le_of_lt hza))) | replace hT := hT.drew.trans ht' | (replace hT := (hT.alloc _).trans ht'; have hzn := turn_lt ht'; have hzn' := Nat.le_of_lt hzn; (try (have hza := Nat.lt_trans hza hzn; have hza' := Nat.le_of_lt hza))) | (replace hT := (hT.alloc _).drew.trans ht'; have hza := turn_ltd ht'; have hza' := Nat.le_of_lt hza) | (replace hT := ((hT.alloc _).alloc _).trans ht'; obtain ⟨hza, hzb⟩ := turn_lt2 ht'; have hza' := Nat.le_of_lt hza; have hzb' := Nat.le_of_lt hzb) | (replace hT := ((hT.alloc _).alloc _).drew.trans ht'; obtain ⟨hza, hzb⟩ := turn_lt2d ht'; have hza' := Nat.le_of_lt hza; have hzb' := Nat.le_of_lt hzb)); replace hcur' := hcur''; have hz0 := turn_lt hT; have hgn := Nat.ne_of_gt hcur'.hg; have hgn1 := Nat.ne_of_gt (Nat.lt_succ_of_lt hcur'.hg); clear hc hf; have hc := fun b o h1 h2 => hT.cell (b := b) (o := o) h1 h2; have hf := fun b o h1 h2 => hT.frozen (b := b) (o := o) h1 h2; have hcS := fun b o h1 h2 => ht'.cell (b := b) (o := o) h1 h2))
    all_goals
      go_wp2
      refine bodyPost_ret (v := .agg #[.int .i64 (sel v5 [-1, 0, 255, 256, 4611686018427387904]), .int .i64 (sel v3 [0, 255, 256])]) (by first | (simp [results, Try.results45, go_sem, hc, hne0]; done) | (simp [results, Try.results45, go_sem, hc, hne0, hz0]; done)) rfl ⟨_, _, rfl, ?_⟩
      first | exact Cur.set2 HR.out ⟨((Turn.refl g w).alloc _).trans hT, hcur'⟩ (Nat.le_refl _) hne0 | exact Cur.al (Cur.set2 HR.out ⟨((Turn.refl g w).alloc _).trans hT, hcur'⟩ (Nat.le_refl _) hne0) _ | exact Cur.al (Cur.al (Cur.set2 HR.out ⟨((Turn.refl g w).alloc _).trans hT, hcur'⟩ (Nat.le_refl _) hne0) _) _
  all_goals
    refine bodyPost_ret (v := .agg #[.int .i64 ya, .int .i64 yb]) (by simp [results, Try.results45, go_sem, hc, hne0]) rfl ⟨_, _, rfl, ?_⟩
    exact Cur.set2 HR.out ⟨((Turn.refl g w).alloc _).trans hT, hcur'⟩ (Nat.le_refl _) hne0
end Go.Proofs.Ytjkandboanecgaa
