/-
  The spec's recursion over a Cell and several lists.
-/
import Derived.Test.YtkinbgcnenieeaaRM
import Derived.Test.YtkinbgcnenieeaaMV3
namespace Go.Proofs.Ytkinbgcnenieeaa.M
open Go.RowKit Go.Joins
attribute [local go_sem ↓] Go.wp_at_zero Go.wp_at_succ

/-- A list of lists of Cells: each as it lies in a cell, and what it reads. -/
def kX : Kd (Sv × List T3) := ⟨37, 1, fun x => [.slice x.1.p x.1.n x.1.c], fun _ => rfl⟩
structure LsR (base : Nat) (w : World) (p : Option Addr) (X : List (Sv × List T3)) : Prop where
  row : X = [] ∨ ∃ g off, p = some ⟨g, off, none⟩ ∧ g < base ∧ CsG kX w g off X
  each : ∀ x ∈ X, Slb base w x.1.p x.2 ∧ x.2.length = x.1.n ∧ x.2.length ≤ 8 ∧ ∀ c ∈ x.2, c.ok = true
theorem LsR.step {base : Nat} {w w' : World} {p : Option Addr} {X : List (Sv × List T3)} (h : LsR base w p X) (hb : Below w.heap.size w w') : LsR base w' p X := by
  refine ⟨?_, fun x hx => ⟨(h.each x hx).1.step hb, (h.each x hx).2⟩⟩
  rcases h.row with h | ⟨g, off, h1, h2, h3⟩
  · exact .inl h
  · exact .inr ⟨g, off, h1, h2, h3.step hb⟩
theorem CsG.grown {α : Type} {K : Kd α} {w w' : World} {g off : Nat} {L : List α} {row : Option Nat} (h : CsG K w g off L) (hg : w.grownBy w' row) (hne : row ≠ some g) : CsG K w' g off L :=
  ⟨Nat.lt_of_lt_of_le h.1 hg.size, fun j u hj => (World.cell?_of_block (hg.block g h.1 (fun e => hne e.symm))).trans (h.2 j u hj)⟩
theorem LsR.grown {base : Nat} {w w' : World} {p : Option Addr} {X : List (Sv × List T3)} {row : Option Nat} (h : LsR base w p X) (hg : w.grownBy w' row) (hr : ∀ r, row = some r → base ≤ r) : LsR base w' p X := by
  refine ⟨?_, fun x hx => ⟨(h.each x hx).1.grown hg hr, (h.each x hx).2⟩⟩
  rcases h.row with h | ⟨g, off, h1, h2, h3⟩
  · exact .inl h
  · exact .inr ⟨g, off, h1, h2, CsG.grown h3 hg (fun e => by have := hr g e; omega)⟩
def lsX (X : List (Sv × List T3)) : List (List T3) := X.map Prod.snd
theorem LsR.ok {base : Nat} {w : World} {p : Option Addr} {X : List (Sv × List T3)} (h : LsR base w p X) : okLs (lsX X) := fun L hL => by
  unfold lsX at hL
  obtain ⟨x, hx, rfl⟩ := List.mem_map.mp hL
  exact (h.each x hx).2.2.2
def zx : Sv × List T3 := (zsv, [])
theorem getX {L : List (Sv × List T3)} {k : Nat} (hk : k < L.length) : L[k]? = some (L.getD k zx) := by simp [List.getD, hk]
theorem lsX_take {X : List (Sv × List T3)} {k : Nat} (hk : k < X.length) : lsX (X.take (k + 1)) = lsX (X.take k) ++ [(X.getD k zx).2] := by
  unfold lsX; rw [List.take_add_one, getX hk, List.map_append]; rfl
theorem CsG.x1 {w : World} {g off : Nat} {L : List (Sv × List T3)} (h : CsG kX w g off L) {k : Nat} {x : Sv × List T3} (hk : L[k]? = some x) : w.cell? ⟨g, off + k, none⟩ = some (.slice x.1.p x.1.n x.1.c) := by
  have := h.at hk (i := 0) (u := .slice x.1.p x.1.n x.1.c) rfl
  simpa [kX] using this
theorem much_x {x : Sv × List T3} (hok : ∀ a ∈ x.2, a.ok = true) (hl : x.2.length = x.1.n) (hn : x.2.length ≤ 8) {c : T3} (hc : c.ok = true) {v : Int} (hv : muF x.2 c = v) (w : World) (hL : Sl w x.1.p x.2) :
    Calls Try.prog 45 #[.slice x.1.p x.1.n x.1.c, .agg #[.int .i64 c.l, .int .i64 c.x, .int .i64 c.y]] w fun e w' => e = .returned (.int .i64 v) ∧ Below w.heap.size w w' := by
  have := much_v (l3Much_any hok (by omega) x.1.p x.1.c (8 - c.l).toNat) hc rfl hv w hL
  rw [hl] at this
  exact this
def RgP (X : List (Sv × List T3)) (p : Option Addr) (nx cap base n : Nat) : Prop := ∀ (c : T3) (v : Value) (A : List T3) (w : World), c.ok = true → (8 - c.l).toNat = n → Ow w base v A → LsR base w p X → A.length + 4 ^ n ≤ 1000000 → base ≤ w.heap.size →
    Calls Try.prog 29 #[.slice p nx cap, .agg #[.int .i64 c.l, .int .i64 c.x, .int .i64 c.y], v] w fun e w' => ∃ v', e = .returned v' ∧ Ext base w v w' v' (A ++ dec (rgF (lsX X)) n c)
theorem min_v {a b r : Int} (h : min a b = r) (w : World) : Calls Try.prog 44 #[.int .i64 a, .int .i64 b] w fun e w' => e = .returned (.int .i64 r) ∧ Below w.heap.size w w' := by
  subst h
  exact (sMin_any a b w).mono fun e w' ⟨h1, h2⟩ => ⟨h1, by subst h2; exact Below.refl _ _⟩
set_option maxRecDepth 100000 in
set_option maxHeartbeats 8000000 in
theorem l10Region_step {X : List (Sv × List T3)} (p : Option Addr) (nx cap base n : Nat) (hnx : X.length = nx) (hn6 : nx ≤ 6) (ih : ∀ m, n = m + 1 → RgP X p nx cap base m) : RgP X p nx cap base n := by
  intro c v A w hc hn hrow hL hlen hbase
  obtain ⟨i0, hi, hz0, hz1, hz2⟩ := info_parts info62
  have hs0 := (St.nil w).push [.int .i64 c.l, .int .i64 c.x, .int .i64 c.y] 62
  have hp4 : 1 ≤ 4 ^ n := Nat.one_le_pow _ _ (by decide)
  have HX : Hid (X.length = nx) := hnx
  have HL : Hid (LsR base w p X) := hL
  have hokX := hL.ok
  clear hnx hL
  go_enter Try.func29, Try.ntmps29
  go_wp2
  go_loopw [7, 8] (fun a i wr => ∃ (k : Nat) (r : Int), k ≤ nx ∧ i = .int .i64 k ∧ a = .int .i64 r ∧ Hid (r = rgF (lsX (X.take k)) c) ∧ St w wr [(w.heap.size, [.int .i64 c.l, .int .i64 c.x, .int .i64 c.y])]) (fun _ i _ => nx - (intOf i).toNat)
  case atStart => exact ⟨0, 2, by omega, rfl, rfl, rfl, hs0⟩
  case round =>
    clear hs0
    obtain ⟨k, r, hk, rfl, rfl, hr, hs⟩ := hrel
    by_cases hlt : k < nx
    · have hki : (k : Int) < nx := by omega
      have hkL : k < X.length := by rw [HX.out]; exact hlt
      have hLr := HL.out.step hs.bel
      have hrow1 := hLr.row
      rcases hrow1 with h0 | ⟨g, off, rfl, hgb, hC⟩
      · rw [h0] at hkL; simp at hkL
      have hgl : g < wr.heap.size := hC.1
      have hx := List.mem_of_getElem? (getX hkL)
      obtain ⟨e1, e2, e3, e4⟩ := HL.out.each _ hx
      have hS : ∀ w', St w w' [(w.heap.size, [.int .i64 c.l, .int .i64 c.x, .int .i64 c.y])] → (Below w.heap.size w w' ∧ w'.cell? ⟨g, off + k, none⟩ = some (.slice (X.getD k zx).1.p (X.getD k zx).1.n (X.getD k zx).1.c) ∧ w'.cell? ⟨w.heap.size, 0, none⟩ = some (.int .i64 c.l) ∧ w'.cell? ⟨w.heap.size, 1, none⟩ = some (.int .i64 c.x) ∧ w'.cell? ⟨w.heap.size, 2, none⟩ = some (.int .i64 c.y)) := fun w' h => by
        refine ⟨h.bel, ?_, h.has.1.2.2.1, h.has.1.2.2.2.1, h.has.1.2.2.2.2.1⟩
        rcases (HL.out.step h.bel).row with h0 | ⟨g', off', e', _, hC'⟩
        · rw [h0] at hkL; simp at hkL
        · injection e' with e'; injection e' with e1 e2; subst e1 e2
          exact M.CsG.x1 hC' (getX hkL)
      have hat := lsX_take hkL
      obtain ⟨x, hxx⟩ : ∃ x, X.getD k zx = x := ⟨_, rfl⟩
      rw [hxx] at e1 e2 e3 e4 hS hat
      have HE : Hid (rgF (lsX (X.take (k + 1))) c = min r (muF x.2 c)) := by rw [hat, rg_snoc, hr.out]; exact rfl
      obtain ⟨mu, hmu⟩ : ∃ mu, muF x.2 c = mu := ⟨_, rfl⟩
      have HM : Hid (∀ W, Below w.heap.size w W → Calls Try.prog 45 #[.slice x.1.p x.1.n x.1.c, .agg #[.int .i64 c.l, .int .i64 c.x, .int .i64 c.y]] W fun e w' => e = .returned (.int .i64 mu) ∧ Below W.heap.size W w') := fun W h => much_x e4 e2 e3 hc hmu W (e1.step h).sl
      rw [hmu] at HE
      obtain ⟨r2, hr2⟩ : ∃ r2, min r mu = r2 := ⟨_, rfl⟩
      have HR : Hid (∀ W, Calls Try.prog 44 #[.int .i64 r, .int .i64 mu] W fun e w' => e = .returned (.int .i64 r2) ∧ Below W.heap.size W w') := fun W => min_v hr2 W
      rw [hr2] at HE
      have HS := Lib.hid hS
      have hcc := hS _ hs
      clear hLr hC hx e1 e2 e3 e4 hS hat hxx hmu hr2 hkL hrow
      go_wp2
      go_region_held3 (fun w' => St w w' [(w.heap.size, [.int .i64 c.l, .int .i64 c.x, .int .i64 c.y])] ∧ (Below w.heap.size w w' ∧ w'.cell? ⟨g, off + k, none⟩ = some (.slice x.1.p x.1.n x.1.c) ∧ w'.cell? ⟨w.heap.size, 0, none⟩ = some (.int .i64 c.l) ∧ w'.cell? ⟨w.heap.size, 1, none⟩ = some (.int .i64 c.x) ∧ w'.cell? ⟨w.heap.size, 2, none⟩ = some (.int .i64 c.y)))
        (first | exact ‹St _ _ _ ∧ _› | exact keepS HS.out ((‹St _ _ _ ∧ _›).1.step hb2) | exact keepS HS.out hs.dr | fail)
        (first
          | (go_at_call 45; refine (HM.out _ (‹St _ _ _ ∧ _ ∧ _›).2.1).mono ?_; rintro e w1 ⟨rfl, hb2⟩)
          | (go_at_call 44; refine (HR.out _).mono ?_; rintro e w1 ⟨rfl, hb2⟩))
      have hz := (‹St _ _ _ ∧ _ ∧ _›).1
      go_wp2
      go_roundw
      case rel => exact ⟨k + 1, r2, by omega, by go_num, rfl, HE.out.symm, hz⟩
      case measure => simp [intOf]; omega
    · obtain rfl : k = nx := by omega
      have hrr : r = rgF (lsX X) c := by
        have h := hr.out
        rw [List.take_of_length_le (by rw [HX.out]; exact Nat.le_refl _)] at h
        exact h
      clear hr
      have hL := HL.out
      have hbd := rg_bd (lsX X) c
      rw [← hrr] at hbd
      have hk1 := hs.has
      simp [Has, HasAt] at hk1
      have three : r = 0 ∨ r = 2 ∨ r = 1 := by omega
      rcases three with rfl | rfl | rfl
      · go_wp2
        go_ret
        refine ⟨_, rfl, ?_⟩
        rw [dec_no hrr.symm, List.append_nil]
        exact (Ext.refl hrow).behind hs.bel
      · have hrow1 := own_of_below hrow hs.bel
        have hsz := hs.size
        go_wp2_with (at_builtin; refine wpList_append_own_at _ rfl _ _ 37 rfl base 62 i0 (.agg #[.int .i64 0, .int .i64 0, .int .i64 0]) 3 24 Try.underlying37 hi hz0 hz1 hz2 rfl (by decide) _ _ _ rfl (hrow1.alloc _) ⟨wr.heap.size, 0, none⟩ 1 1 c.vs rfl rfl (cell_three_at rfl) (fun u hu => by simp [T3.vs] at hu; rcases hu with rfl | rfl | rfl <;> rfl) (by unfold maxLen; omega) (by omega) (by simp; omega) ?_; intro v' w3 hown' hgrow _ hat)
        go_ret
        rw [dec_full hrr.symm]
        have hO : Ow w3 base v' (A ++ [c]) := by
          unfold Ow; rw [List.length_append, flat_append]; exact hown'
        refine ⟨v', rfl, Ext.ahead (hs.al _).bel ⟨hO, hgrow, fun g e => ?_⟩⟩
        rcases hat with e2 | e2
        · exact .inl (e2.symm.trans e)
        · rw [e2] at e; cases e; exact .inr (Nat.le_refl _)
      · have h0 : rgF (lsX X) c ≠ 0 := by rw [← hrr]; decide
        have h2 : rgF (lsX X) c ≠ 2 := by rw [← hrr]; decide
        have hl8 : c.l < 8 := by
          rcases Int.lt_or_le c.l 8 with h | h
          · exact h
          · rcases (rg_tells hokX).spot c hc (by have := (ok_iff.mp hc).2.1; omega) with h | h
            · exact (h0 h).elim
            · exact (h2 h).elim
        obtain ⟨m, rfl⟩ : ∃ m, n = m + 1 := ⟨n - 1, by omega⟩
        have ihm := ih m rfl
        have hrow1 := own_of_below hrow hs.bel
        have hL1 := hL.step hs.bel
        have hd1 : ∀ pr ∈ ([(w.heap.size, [.int .i64 c.l, .int .i64 c.x, .int .i64 c.y])] : List (Nat × List Value)), v.ownBlock ≠ some pr.1 := by
          intro pr hpr e
          have := (hrow.lt _ e).2
          simp at hpr; subst hpr; simp at this
        have hsz := hs.size
        clear hrr hbd hk1
        have W2 : ∃ w2, w2 = wr := ⟨_, rfl⟩
        obtain ⟨w2, rfl⟩ := W2
        go_wp2
        go_loopw [2, 9] (fun v' i wr => ∃ k : Nat, k ≤ 4 ∧ i = .int .i64 k ∧ Ext base w2 v wr v' (A ++ decs (rgF (lsX X)) m c k) ∧ Has wr [(w.heap.size, [.int .i64 c.l, .int .i64 c.x, .int .i64 c.y])] ∧ (∀ pr ∈ ([(w.heap.size, [.int .i64 c.l, .int .i64 c.x, .int .i64 c.y])] : List (Nat × List Value)), v'.ownBlock ≠ some pr.1) ∧ LsR base wr p X) (fun _ i _ => 4 - (intOf i).toNat)
        case atStart => exact ⟨0, by omega, rfl, by rw [decs, List.append_nil]; exact Ext.refl hrow1, hs.has, hd1, hL1⟩
        case round =>
          obtain ⟨k, hk4, rfl, hE, hH, hd, hLk⟩ := hrel
          have hk1 := hH
          simp [Has, HasAt] at hk1
          by_cases hlt : k < 4
          · have hnum : (k : Int) < 4 := by omega
            have hl2 := decs_len (rgF (lsX X)) m c k
            have hl3 : k * 4 ^ m + 4 ^ m ≤ 4 ^ (m + 1) := by rw [Nat.pow_succ]; have := Nat.mul_le_mul_right (4 ^ m) (show k + 1 ≤ 4 by omega); rw [Nat.succ_mul] at this; omega
            have hbs : base ≤ wr.heap.size := by have := hE.gr.size; omega
            go_wp2_with (first
              | (go_at_call 46; refine (l2Quarter_any hc hlt _).mono ?_; rintro e w4 ⟨rfl, hb2⟩)
              | (go_at_call 29; refine (ihm (c.q k) _ _ _ (q_ok hc hl8 hlt) (by show (8 - (c.l + 1)).toNat = m; omega) (own_of_below hE.own hb2) (hLk.step hb2) (by simp only [List.length_append]; omega) (Nat.le_trans hbs hb2.size)).mono ?_; rintro e w3 ⟨v3, rfl, hE2⟩; have hfar := hE2.far (hH.step hb2) hd))
            go_roundw
            case rel =>
              refine ⟨k + 1, by omega, by go_num, ?_, hfar.1, hfar.2, (hLk.step hb2).grown hE2.gr (fun r e => (hE.own.lt r e).1)⟩
              rw [decs, ← List.append_assoc]
              exact hE.trans (Ext.ahead hb2 hE2)
            case measure => simp [intOf]; omega
          · obtain rfl : k = 4 := by omega
            go_wp2
            go_ret
            rw [dec_part h0 h2]
            exact ⟨_, rfl, Ext.ahead hs.bel hE⟩
theorem l10Region_any {X : List (Sv × List T3)} (p : Option Addr) (nx cap base : Nat) (hnx : X.length = nx) (hn6 : nx ≤ 6) : ∀ n, RgP X p nx cap base n := by
  intro n
  induction n with
  | zero => exact l10Region_step p nx cap base 0 hnx hn6 (fun m h => by omega)
  | succ n ih => exact l10Region_step p nx cap base (n + 1) hnx hn6 (fun m h => by cases h; exact ih)
end Go.Proofs.Ytkinbgcnenieeaa.M
