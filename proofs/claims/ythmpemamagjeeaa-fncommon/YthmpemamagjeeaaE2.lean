/-
  Two lists of Cells drawn for Common; what the laws of chapter 3 need of lists, plain mathematics.
-/
import Derived.Test.YthmpemamagjeeaaE1
import Derived.Test.YthmpemamagjeeaaV4
namespace Go.Proofs.Ythmpemamagjeeaa
open Go.RowKit Go.Joins
attribute [local go_sem ↓] Go.wp_at_zero Go.wp_at_succ

theorem cmF_comm (L K : List T3) : cmF L K = cmF K L := by
  funext c
  unfold cmF
  by_cases h1 : muF L c = 0 <;> by_cases h2 : muF K c = 0 <;> by_cases h3 : muF L c = 2 <;> by_cases h4 : muF K c = 2 <;> simp [h1, h2, h3, h4]
theorem comS_comm (L K : List T3) : comS L K = comS K L := by
  unfold comS
  rw [cmF_comm, Bool.and_comm]
theorem comS_self (L : List T3) : comS L L = joinL L := by
  unfold comS joinL
  rw [Bool.and_self]
  cases h : okL L
  · rfl
  · have hok := okL_all h
    have hd := dec_of (cmF_tells hok hok) 8 zro zro_ok (by decide)
    simp only [if_true]
    refine hd.canon.is_dec (muF_tells hok) fun n h0 h1 => ?_
    rw [← hd.has n ⟨by rw [zro_lo]; omega, by rw [zro_hi]; omega⟩]
    exact ⟨fun h => h.1, fun h => ⟨h, h⟩⟩
theorem zz_zro (s t : Int) : mem (zz s t 8) zro := by
  have hz := zz_bd s t 8
  have h4 : (4 : Int) ^ 8 = 65536 := by decide
  rw [h4] at hz
  exact ⟨by rw [zro_lo]; omega, by rw [zro_hi]; omega⟩
/-- Whether a Spot is reached is told by its number. -/
theorem have8 {L : List T3} (hok : ∀ c ∈ L, c.ok = true) {s t : Int} (hs : spB s t = true) : haveB L ⟨8, s, t⟩ = true ↔ cov L (zz s t 8) := by
  have h8 : (⟨8, s, t⟩ : T3).ok = true := cell8_ok hs
  have hlo : (⟨8, s, t⟩ : T3).lo = zz s t 8 := by simp [T3.lo, T3.sz]
  have hhi : (⟨8, s, t⟩ : T3).hi = zz s t 8 + 1 := by unfold T3.hi; rw [hlo]; simp [T3.sz]
  unfold haveB
  rw [List.any_eq_true]
  constructor
  · rintro ⟨c, hc, hi⟩
    obtain ⟨a, b⟩ := (ins_iff h8 (hok c hc)).mp hi
    exact ⟨c, hc, by omega, by omega⟩
  · rintro ⟨c, hc, a, b⟩
    exact ⟨c, hc, (ins_iff h8 (hok c hc)).mpr ⟨by omega, by omega⟩⟩
theorem reach_iff {L : List T3} (hv : okL L = true) {s t : Int} (hs : spB s t = true) : reachI L s t = true ↔ cov L (zz s t 8) := by
  unfold reachI
  rw [hv, hs]
  simp only [Bool.and_self, Bool.true_and]
  exact have8 (okL_all hv) hs
/-- What two have in common is reached by both. -/
theorem reach_com {L K : List T3} {s t : Int} (hl : (comS L K).length ≤ 100) (h0 : 0 < (comS L K).length) : reachI (comS L K) s t = (reachI L s t && reachI K s t) := by
  cases hs : spB s t
  · simp [reachI, hs]
  cases hv : (okL L && okL K)
  · unfold comS at h0; rw [hv] at h0; simp at h0
  obtain ⟨hv1, hv2⟩ := (Bool.and_eq_true _ _).mp hv
  have hd := dec_of (cmF_tells (okL_all hv1) (okL_all hv2)) 8 zro zro_ok (by decide)
  have he : comS L K = dec (cmF L K) 8 zro := by unfold comS; rw [hv]; rfl
  rw [he] at hl ⊢
  have hok : okL (dec (cmF L K) 8 zro) = true := by
    unfold okL
    rw [decide_eq_true hl, Bool.true_and, List.all_eq_true]
    exact hd.ok
  have hm := zz_zro s t
  rw [Bool.eq_iff_iff, Bool.and_eq_true, reach_iff hok hs, reach_iff hv1 hs, reach_iff hv2 hs]
  exact (hd.has _ hm).symm
theorem reach_none {L K : List T3} {s t : Int} (h0 : (comS L K).length = 0) : (reachI L s t && reachI K s t) = false := by
  cases hs : spB s t
  · simp [reachI, hs]
  cases hv : (okL L && okL K)
  · rcases Bool.and_eq_false_iff.mp hv with h | h <;> simp [reachI, h]
  obtain ⟨hv1, hv2⟩ := (Bool.and_eq_true _ _).mp hv
  have hd := dec_of (cmF_tells (okL_all hv1) (okL_all hv2)) 8 zro zro_ok (by decide)
  have he : comS L K = dec (cmF L K) 8 zro := by unfold comS; rw [hv]; rfl
  rw [he] at h0
  have hnil := List.eq_nil_of_length_eq_zero h0
  have hm := zz_zro s t
  rw [Bool.eq_false_iff, ne_eq, Bool.and_eq_true, reach_iff hv1 hs, reach_iff hv2 hs]
  intro h
  obtain ⟨c, hc, _⟩ := (hd.has _ hm).mp h
  rw [hnil] at hc
  cases hc

set_option maxRecDepth 100000 in
set_option maxHeartbeats 2000000 in
theorem drawCommon_any (a : Option Addr) (len cap : Nat) (zs : List Int) (w : World) (hl : len ≤ 4096) (hr : Rd w w.heap.size a len zs) :
    Calls Try.prog 33 #[.slice a len cap] w fun e w' => ∃ p1 cap1 L1 p2 cap2 L2, e = .returned (.tuple #[.slice p1 L1.length cap1, .slice p2 L2.length cap2]) ∧ Sx w w' [(.slice p2 L2.length cap2, L2), (.slice p1 L1.length cap1, L1)] ∧ L1.length ≤ 30 ∧ L2.length ≤ 30 := by
  have hr0 : ∀ h : Int, Rd (w.alloc (.cells #[.slice a len cap, .int .i64 0, .int .i64 h] 97)) w.heap.size a len zs := fun h => hr.turn ((Turn.refl _ w).alloc _)
  go_enter Try.func33, Try.ntmps33
  go_upto_region 2 with (go_at_call 47; refine (new_any a len cap zs _ hl hr).mono ?_; rintro e w1 ⟨h, rfl, rfl⟩)
  have hcur := Cur.fresh (cap := cap) (h := h) hl hr
  have hrd := hr0 h
  have hbw := below_alloc1 w (.cells #[.slice a len cap, .int .i64 0, .int .i64 h] 97)
  have hsz : (w.alloc (.cells #[.slice a len cap, .int .i64 0, .int .i64 h] 97)).heap.size = w.heap.size + 1 := by simp
  generalize w.alloc _ = W at hcur hrd hbw hsz ⊢
  generalize hgg : w.heap.size = g at hcur hrd hsz ⊢
  have Hg : Hid (w.heap.size = g) := hgg
  clear hgg
  go_upto_region 3 with (go_at_call 48; refine (l3Draw_any g a len cap zs W hcur hrd).mono ?_; rintro e w2 ⟨v1, L1, rfl, hD1, hn1⟩)
  obtain ⟨p1, cap1, hv1, _⟩ := Ow.form hD1.own
  subst hv1
  have hrd2 : Rd w2 g a len zs := hrd.turn hD1.turn
  go_wp2_with (go_at_call 48; refine (l3Draw_any g a len cap zs w2 hD1.cur hrd2).mono ?_; rintro e w3 ⟨v2, L2, rfl, hD2, hn2⟩)
  obtain ⟨p2, cap2, hv2, _⟩ := Ow.form hD2.own
  subst hv2
  have hgw := Hg.out
  have hz1 := hD1.turn.size
  have o1 : Ow w3 W.heap.size (.slice p1 L1.length cap1) L1 := hD1.own.turn hD2.turn (by omega)
  have hb : Below w.heap.size w w3 := hbw.trans ((hD1.turn.trans hD2.turn).below (by omega) (by omega))
  refine bodyPost_ret (v := .tuple #[.slice p1 L1.length cap1, .slice p2 L2.length cap2]) (by simp [results, Try.results33, go_sem]) rfl ⟨p1, cap1, L1, p2, cap2, L2, rfl, ⟨hb, ?_, ?_⟩, hn1, hn2⟩
  · intro pr hpr
    simp at hpr
    rcases hpr with rfl | rfl
    · exact Ow.mono hD2.own (by omega)
    · exact Ow.mono o1 (by omega)
  · refine .cons (fun q hq => ?_) (.cons (by simp) .nil)
    simp at hq; subst hq
    cases hv : (Value.slice p2 L2.length cap2).ownBlock with
    | none => exact .inl rfl
    | some k =>
      refine .inr fun e => ?_
      have a1 := (hD2.own.lt k hv).1
      have a2 := (hD1.own.lt k e.symm).2
      omega
end Go.Proofs.Ythmpemamagjeeaa
