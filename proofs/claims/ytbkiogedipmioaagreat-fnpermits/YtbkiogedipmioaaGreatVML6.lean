/-
  The law of Reaches, walked: the program answers as the spec, and the list that was handed in reads as before.
-/
import Derived.Test.YtbkiogedipmioaaGreatVML4
import Derived.Test.YtbkiogedipmioaaGreatVMM3
import Derived.Deep.Cut
import Derived.Deep.CutBlock
namespace Go.Proofs.YtbkiogedipmioaaGreat.V.M
open Go.RowKit Go.Joins
attribute [local go_sem ↓] Go.wp_at_zero Go.wp_at_succ

theorem areRight_v {L : List T3} {v : Bool} (hv : okL L = v) (p : Option Addr) (cap : Nat) (w : World) (hL : Sl w p L) (hn : L.length ≤ 1048576) :
    Calls Tryz.prog 48 #[.slice p L.length cap] w fun e w' => e = .returned (.bool v) ∧ Below w.heap.size w w' := by subst hv; exact areRight_any p cap L w hL hn
theorem l3Cells_v {L : List T3} {v : Bool} (hv : okL L = v) (p : Option Addr) (cap : Nat) (w : World) (hL : Sl w p L) (hn : L.length ≤ 10000000) :
    Calls Tryz.prog 115 #[.slice p L.length cap] w fun e w' => e = .returned (.bool v) ∧ Below w.heap.size w w' := by subst hv; exact l3Cells_any p cap L w hL hn
theorem have_v {L : List T3} {c : T3} {v : Bool} (hv : haveB L c = v) (p : Option Addr) (cap : Nat) (w : World) (hL : Sl w p L) (hn : L.length ≤ 10000000) :
    Calls Tryz.prog 50 #[.slice p L.length cap, .agg #[.int .i64 c.l, .int .i64 c.x, .int .i64 c.y]] w fun e w' => e = .returned (.bool v) ∧ Below w.heap.size w w' := by subst hv; exact have_any p cap L c w hL hn

set_option maxHeartbeats 1000000 in
theorem every_ls (p : Option Addr) (cap : Nat) (L : List T3) (s t : Int) (g : Nat) (w : World) (hg : g < w.heap.size) (hL : Sl w p L) (hn : L.length ≤ 1048576)
    (h0 : w.cell? ⟨g, 0, none⟩ = some (.func (Fn.func 48) #[.slice p L.length cap] #[])) (h1 : w.cell? ⟨g, 1, none⟩ = some (.func (Fn.func 49) #[.agg #[.int .i64 s, .int .i64 t]] #[])) :
    Calls Tryz.prog 47 #[.slice (some ⟨g, 0, none⟩) 2 2] w fun e w' => e = .returned (.bool (okL L && spB s t)) ∧ Below w.heap.size w w' := by
  cases k1 : okL L
  · go_enter Tryz.func47, Tryz.ntmps47
    go_wp2
    refine wp_loop_rounds 3 ?_
    rw [rounds_succ]
    go_wp2_with ((go_at_call 48; refine (areRight_v k1 p cap w hL hn).mono ?_; rintro e w1 ⟨rfl, hb2⟩; (first | replace hb := bstep hb hb2 (Nat.le_refl _) | replace hb := bstepA hb hb2 (Nat.le_refl _) | have hb := hb2); (try clear hc hf); obtain ⟨hc, hf⟩ := bcell hb))
    go_ret
    exact ⟨rfl, hb⟩
  cases k2 : spB s t
  · go_enter Tryz.func47, Tryz.ntmps47
    go_wp2
    refine wp_loop_rounds 3 ?_
    rw [rounds_succ]
    go_wp2_with ((go_at_call 48; refine (areRight_v k1 p cap w hL hn).mono ?_; rintro e w1 ⟨rfl, hb2⟩; (first | replace hb := bstep hb hb2 (Nat.le_refl _) | replace hb := bstepA hb hb2 (Nat.le_refl _) | have hb := hb2); (try clear hc hf); obtain ⟨hc, hf⟩ := bcell hb))
    rw [rounds_succ]
    go_wp2_with ((go_at_call 49; refine (spRight_v k2 _).mono ?_; rintro e w1 ⟨rfl, hb2⟩; (first | replace hb := bstep hb hb2 (Nat.le_refl _) | replace hb := bstepA hb hb2 (Nat.le_refl _) | have hb := hb2); (try clear hc hf); obtain ⟨hc, hf⟩ := bcell hb))
    go_ret
    exact ⟨rfl, hb⟩
  · go_enter Tryz.func47, Tryz.ntmps47
    go_wp2
    refine wp_loop_rounds 3 ?_
    rw [rounds_succ]
    go_wp2_with ((go_at_call 48; refine (areRight_v k1 p cap w hL hn).mono ?_; rintro e w1 ⟨rfl, hb2⟩; (first | replace hb := bstep hb hb2 (Nat.le_refl _) | replace hb := bstepA hb hb2 (Nat.le_refl _) | have hb := hb2); (try clear hc hf); obtain ⟨hc, hf⟩ := bcell hb))
    rw [rounds_succ]
    go_wp2_with ((go_at_call 49; refine (spRight_v k2 _).mono ?_; rintro e w1 ⟨rfl, hb2⟩; (first | replace hb := bstep hb hb2 (Nat.le_refl _) | replace hb := bstepA hb hb2 (Nat.le_refl _) | have hb := hb2); (try clear hc hf); obtain ⟨hc, hf⟩ := bcell hb))
    rw [rounds_succ]
    go_wp2
    go_ret
    exact ⟨rfl, hb⟩

set_option maxHeartbeats 1000000 in
theorem every_ll (p q : Option Addr) (cap cap2 : Nat) (L M : List T3) (g : Nat) (w : World) (hg : g < w.heap.size) (hL : Sl w p L) (hn : L.length ≤ 1048576) (hM : Sl w q M) (hm : M.length ≤ 1048576)
    (h0 : w.cell? ⟨g, 0, none⟩ = some (.func (Fn.func 48) #[.slice p L.length cap] #[])) (h1 : w.cell? ⟨g, 1, none⟩ = some (.func (Fn.func 48) #[.slice q M.length cap2] #[])) :
    Calls Tryz.prog 47 #[.slice (some ⟨g, 0, none⟩) 2 2] w fun e w' => e = .returned (.bool (okL L && okL M)) ∧ Below w.heap.size w w' := by
  cases k1 : okL L
  · go_enter Tryz.func47, Tryz.ntmps47
    go_wp2
    refine wp_loop_rounds 3 ?_
    rw [rounds_succ]
    go_wp2_with ((go_at_call 48; refine (areRight_v k1 p cap w hL hn).mono ?_; rintro e w1 ⟨rfl, hb2⟩; (first | replace hb := bstep hb hb2 (Nat.le_refl _) | replace hb := bstepA hb hb2 (Nat.le_refl _) | have hb := hb2); (try clear hc hf); obtain ⟨hc, hf⟩ := bcell hb))
    go_ret
    exact ⟨rfl, hb⟩
  cases k2 : okL M
  · go_enter Tryz.func47, Tryz.ntmps47
    go_wp2
    refine wp_loop_rounds 3 ?_
    rw [rounds_succ]
    go_wp2_with ((go_at_call 48; refine (areRight_v k1 p cap w hL hn).mono ?_; rintro e w1 ⟨rfl, hb2⟩; (first | replace hb := bstep hb hb2 (Nat.le_refl _) | replace hb := bstepA hb hb2 (Nat.le_refl _) | have hb := hb2); (try clear hc hf); obtain ⟨hc, hf⟩ := bcell hb))
    rw [rounds_succ]
    go_wp2_with ((go_at_call 48; refine (areRight_v k2 q cap2 _ (hM.step hb) hm).mono ?_; rintro e w1 ⟨rfl, hb2⟩; (first | replace hb := bstep hb hb2 (Nat.le_refl _) | replace hb := bstepA hb hb2 (Nat.le_refl _) | have hb := hb2); (try clear hc hf); obtain ⟨hc, hf⟩ := bcell hb))
    go_ret
    exact ⟨rfl, hb⟩
  · go_enter Tryz.func47, Tryz.ntmps47
    go_wp2
    refine wp_loop_rounds 3 ?_
    rw [rounds_succ]
    go_wp2_with ((go_at_call 48; refine (areRight_v k1 p cap w hL hn).mono ?_; rintro e w1 ⟨rfl, hb2⟩; (first | replace hb := bstep hb hb2 (Nat.le_refl _) | replace hb := bstepA hb hb2 (Nat.le_refl _) | have hb := hb2); (try clear hc hf); obtain ⟨hc, hf⟩ := bcell hb))
    rw [rounds_succ]
    go_wp2_with ((go_at_call 48; refine (areRight_v k2 q cap2 _ (hM.step hb) hm).mono ?_; rintro e w1 ⟨rfl, hb2⟩; (first | replace hb := bstep hb hb2 (Nat.le_refl _) | replace hb := bstepA hb hb2 (Nat.le_refl _) | have hb := hb2); (try clear hc hf); obtain ⟨hc, hf⟩ := bcell hb))
    rw [rounds_succ]
    go_wp2
    go_ret
    exact ⟨rfl, hb⟩

theorem every_ls_v {L : List T3} {s t : Int} {v : Bool} (hv : (okL L && spB s t) = v) (p : Option Addr) (cap : Nat) (g : Nat) (w : World) (hg : g < w.heap.size) (hL : Sl w p L) (hn : L.length ≤ 1048576)
    (h0 : w.cell? ⟨g, 0, none⟩ = some (.func (Fn.func 48) #[.slice p L.length cap] #[])) (h1 : w.cell? ⟨g, 1, none⟩ = some (.func (Fn.func 49) #[.agg #[.int .i64 s, .int .i64 t]] #[])) :
    Calls Tryz.prog 47 #[.slice (some ⟨g, 0, none⟩) 2 2] w fun e w' => e = .returned (.bool v) ∧ Below w.heap.size w w' := by subst hv; exact every_ls p cap L s t g w hg hL hn h0 h1
theorem every_ll_v {L M : List T3} {v : Bool} (hv : (okL L && okL M) = v) (p q : Option Addr) (cap cap2 : Nat) (g : Nat) (w : World) (hg : g < w.heap.size) (hL : Sl w p L) (hn : L.length ≤ 1048576) (hM : Sl w q M) (hm : M.length ≤ 1048576)
    (h0 : w.cell? ⟨g, 0, none⟩ = some (.func (Fn.func 48) #[.slice p L.length cap] #[])) (h1 : w.cell? ⟨g, 1, none⟩ = some (.func (Fn.func 48) #[.slice q M.length cap2] #[])) :
    Calls Tryz.prog 47 #[.slice (some ⟨g, 0, none⟩) 2 2] w fun e w' => e = .returned (.bool v) ∧ Below w.heap.size w w' := by subst hv; exact every_ll p q cap cap2 L M g w hg hL hn hM hm h0 h1

def reachI (L : List T3) (s t : Int) : Bool := (okL L && spB s t) && haveB L ⟨8, s, t⟩

set_option maxHeartbeats 1000000 in
theorem iReaches_any (p : Option Addr) (cap : Nat) (L : List T3) (s t : Int) (w : World) (hL : Sl w p L) (hn : L.length ≤ 1048576) :
    Calls Tryz.prog 14 #[.slice p L.length cap, .agg #[.int .i64 s, .int .i64 t]] w fun e w' => e = .returned (.bool (reachI L s t)) ∧ Below w.heap.size w w' := by
  have hs := St.nil w
  cases hv : (okL L && spB s t)
  · rw [reachI, hv]
    go_enter Tryz.func14, Tryz.ntmps14
    go_wp2_with (go_at_call 47; refine (every_ls_v hv p cap _ _ ?_ (hL.step (St.bel ((hs.push _ _).push _ _))) hn ?_ ?_).mono ?_; (focus (simp; done)); (focus (simp [go_sem]; done)); (focus (simp [go_sem]; done)); rintro e w1 ⟨rfl, hb2⟩; replace hs := ((hs.push _ _).push _ _).step hb2; (try simp only [World.size_alloc] at hs); have hk := hs.has; simp [Has, HasAt] at hk)
    go_ret
    exact ⟨rfl, hs.bel⟩
  · have hsp := ((Bool.and_eq_true _ _).mp hv).2
    rw [reachI, hv]
    cases hh : haveB L ⟨8, s, t⟩
    all_goals
      go_enter Tryz.func14, Tryz.ntmps14
      go_wp2_with (first
        | (go_at_call 47; refine (every_ls_v hv p cap _ _ ?_ (hL.step (St.bel ((hs.push _ _).push _ _))) hn ?_ ?_).mono ?_; (focus (simp; done)); (focus (simp [go_sem]; done)); (focus (simp [go_sem]; done)); rintro e w1 ⟨rfl, hb2⟩; replace hs := ((hs.push _ _).push _ _).step hb2; (try simp only [World.size_alloc] at hs); have hk := hs.has; simp [Has, HasAt] at hk)
        | (go_at_call 51; refine (iCellAt8 hsp _).mono ?_; rintro e w1 ⟨rfl, hb2⟩; replace hs := hs.step hb2; clear hk; have hk := hs.has; simp [Has, HasAt] at hk)
        | (go_at_call 50; refine (have_v hh p cap _ (hL.step hs.bel) (by omega)).mono ?_; rintro e w1 ⟨rfl, hb2⟩; replace hs := hs.step hb2; clear hk; have hk := hs.has; simp [Has, HasAt] at hk))
      go_ret
      exact ⟨rfl, hs.bel⟩

/-- The spec's look at one Cell. -/
def inC (c : T3) (s t : Int) : Bool := inR (rX c.l c.x c.y) (rY c.l c.x c.y) (rS c.l c.x c.y) (rS c.l c.x c.y) s t
theorem rect_ok {l x y : Int} (h : cellB l x y = true) : okB (rX l x y) (rY l x y) (rS l x y) (rS l x y) = true := by
  obtain ⟨h0, h8, hx, hx1, hy, hy1⟩ := cellB_t.mp h
  have a := mul_bd h0 h8 hx hx1
  have b := mul_bd h0 h8 hy hy1
  have c := sd_bd h0 h8
  simp only [rX, rY, rS, h, if_true]
  exact okB_t.mpr (by omega)
theorem sl1Holds_v {c : T3} {s t : Int} {v : Bool} (h : c.ok = true) (hv : inC c s t = v) (w : World) :
    Calls Tryz.prog 116 #[.agg #[.int .i64 (rX c.l c.x c.y), .int .i64 (rY c.l c.x c.y), .int .i64 (rS c.l c.x c.y), .int .i64 (rS c.l c.x c.y)], .agg #[.int .i64 s, .int .i64 t]] w fun e w' => e = .returned (.bool v) ∧ Below w.heap.size w w' := by
  subst hv; exact sl1Holds_any _ _ _ _ s t (rect_ok h) w

set_option maxHeartbeats 2000000 in
theorem l3Reaches_any (p : Option Addr) (cap : Nat) (L : List T3) (s t : Int) (w : World) (hL : Sl w p L) (hn : L.length ≤ 1048576) (hok : ∀ c ∈ L, c.ok = true) :
    Calls Tryz.prog 82 #[.slice p L.length cap, .agg #[.int .i64 s, .int .i64 t]] w fun e w' => e = .returned (.bool (L.any fun c => inC c s t)) ∧ Below w.heap.size w w' := by
  have hs0 := (St.nil w).push [.int .i64 s, .int .i64 t] 40
  go_enter Tryz.func82, Tryz.ntmps82
  go_wp2
  go_loopw [5] (fun i wr => ∃ k : Nat, k ≤ L.length ∧ i = .int .i64 k ∧ ((L.take k).any fun c => inC c s t) = false ∧ St w wr [(w.heap.size, [.int .i64 s, .int .i64 t])]) (fun i _ => L.length - (intOf i).toNat)
  case atStart => exact ⟨0, by omega, rfl, rfl, hs0⟩
  case round =>
    obtain ⟨k, hk, rfl, hall, hst⟩ := hrel
    by_cases hlt : k < L.length
    · have hki : (k : Int) < L.length := by omega
      have hC0 := hL
      obtain ⟨g, off, rfl, hC⟩ := hL.at hlt
      have hS : ∀ w', St w w' [(w.heap.size, [.int .i64 s, .int .i64 t])] → ((w'.cell? ⟨g, off + k * 3, none⟩ = some (.int .i64 L[k].l) ∧ w'.cell? ⟨g, off + k * 3 + 1, none⟩ = some (.int .i64 L[k].x) ∧ w'.cell? ⟨g, off + k * 3 + 2, none⟩ = some (.int .i64 L[k].y)) ∧ w'.cell? ⟨w.heap.size, 0, none⟩ = some (.int .i64 s) ∧ w'.cell? ⟨w.heap.size, 1, none⟩ = some (.int .i64 t)) :=
        fun w' h => ⟨(hC.step h.bel).2 k L[k] (List.getElem?_eq_getElem hlt), h.has.1.2.2.1, h.has.1.2.2.2.1⟩
      have hcc := hS _ hst
      have hcell := hok _ (List.getElem_mem hlt)
      cases hv : inC L[k] s t
      all_goals
        go_wp2
        go_region_held3 (fun w' => St w w' [(w.heap.size, [.int .i64 s, .int .i64 t])] ∧ ((w'.cell? ⟨g, off + k * 3, none⟩ = some (.int .i64 L[k].l) ∧ w'.cell? ⟨g, off + k * 3 + 1, none⟩ = some (.int .i64 L[k].x) ∧ w'.cell? ⟨g, off + k * 3 + 2, none⟩ = some (.int .i64 L[k].y)) ∧ w'.cell? ⟨w.heap.size, 0, none⟩ = some (.int .i64 s) ∧ w'.cell? ⟨w.heap.size, 1, none⟩ = some (.int .i64 t))) (first | exact ‹St _ _ _ ∧ _› | exact keepS hS ((‹St _ _ _ ∧ _›).1.step hb2) | exact keepS hS hst.dr | fail)
          (first | (go_at_call 117; refine (l2Rect_any hcell _).mono ?_; rintro e w1 ⟨rfl, hb2⟩) | (go_at_call 116; refine (sl1Holds_v hcell hv _).mono ?_; rintro e w1 ⟨rfl, hb2⟩))
        clear hst hcc
        obtain ⟨hst, hcc⟩ := ‹St _ _ _ ∧ _›
        go_wp2
      · go_roundw
        case rel => exact ⟨k + 1, by omega, by go_num, by rw [any_take hlt, hall, hv]; rfl, hst⟩
        case measure => simp [intOf]; omega
      · go_ret
        exact ⟨ret_bool (any_yes hlt hv).symm, hst.bel⟩
    · obtain rfl : k = L.length := by omega
      go_wp2
      go_ret
      rw [List.take_length] at hall
      exact ⟨ret_bool hall.symm, hst.bel⟩
end Go.Proofs.YtbkiogedipmioaaGreat.V.M
namespace Go.Proofs.YtbkiogedipmioaaGreat.V.M
open Go.RowKit Go.Joins
attribute [local go_sem ↓] Go.wp_at_zero Go.wp_at_succ

theorem ins8 {c : T3} {s t : Int} (h : c.ok = true) (hs : spB s t = true) : insT ⟨8, s, t⟩ c = inC c s t := by
  have h' : cellB c.l c.x c.y = true := h
  obtain ⟨h0, h8, hx, hx1, hy, hy1⟩ := cellB_t.mp h'
  obtain ⟨s0, s1, t0, t1⟩ := spB_t.mp hs
  unfold insT inC inR
  rw [insB_eq]
  simp only [rX, rY, rS, h', if_true, cell8_ok hs, Bool.and_self, Bool.true_and, lInB]
  generalize c.l = l at *
  generalize c.x = x at *
  generalize c.y = y at *
  refine decide_eq_decide.mpr ?_
  unfold sd
  rcases nine h0 h8 with rfl | rfl | rfl | rfl | rfl | rfl | rfl | rfl | rfl <;> simp at hx1 hy1 ⊢ <;> omega
theorem any_ins8 {L : List T3} {s t : Int} (h : okL L = true) (hs : spB s t = true) : haveB L ⟨8, s, t⟩ = L.any fun c => inC c s t := by
  have h2 := List.all_eq_true.mp ((Bool.and_eq_true _ _).mp h).2
  unfold haveB
  rw [Bool.eq_iff_iff, List.any_eq_true, List.any_eq_true]
  constructor
  · rintro ⟨c, hc, hi⟩; exact ⟨c, hc, by rw [← ins8 (h2 c hc) hs]; exact hi⟩
  · rintro ⟨c, hc, hi⟩; exact ⟨c, hc, by rw [ins8 (h2 c hc) hs]; exact hi⟩
theorem okL_all {L : List T3} (h : okL L = true) : ∀ c ∈ L, c.ok = true := List.all_eq_true.mp ((Bool.and_eq_true _ _).mp h).2

theorem l3Reaches_v {L : List T3} {s t : Int} {v : Bool} (hv : (L.any fun c => inC c s t) = v) (p : Option Addr) (cap : Nat) (w : World) (hL : Sl w p L) (hn : L.length ≤ 1048576) (hok : ∀ c ∈ L, c.ok = true) :
    Calls Tryz.prog 82 #[.slice p L.length cap, .agg #[.int .i64 s, .int .i64 t]] w fun e w' => e = .returned (.bool v) ∧ Below w.heap.size w w' := by subst hv; exact l3Reaches_any p cap L s t w hL hn hok

theorem iReaches_v {L : List T3} {s t : Int} {v : Bool} (hv : reachI L s t = v) (p : Option Addr) (cap : Nat) (w : World) (hL : Sl w p L) (hn : L.length ≤ 1048576) :
    Calls Tryz.prog 14 #[.slice p L.length cap, .agg #[.int .i64 s, .int .i64 t]] w fun e w' => e = .returned (.bool v) ∧ Below w.heap.size w w' := by subst hv; exact iReaches_any p cap L s t w hL hn

end Go.Proofs.YtbkiogedipmioaaGreat.V.M
