/-
  Region: the program's and the spec's.
-/
import Derived.Test.YtkinbgcnenieeaaGreatRM
import Derived.Test.YtkinbgcnenieeaaGreatMV3
import Derived.Test.YtkinbgcnenieeaaGreatAL2
import Derived.Test.YtkinbgcnenieeaaGreatZ3
namespace Go.Proofs.YtkinbgcnenieeaaGreat.M
open Go.RowKit Go.Joins
attribute [local go_sem ↓] Go.wp_at_zero Go.wp_at_succ

/-- A list of lists of Cells: each as it lies in a cell, and what it reads. -/
def kX : Kd (Sv × List T3) := ⟨29, 1, fun x => [.slice x.1.p x.1.n x.1.c], fun _ => rfl⟩
structure LsR (base : Nat) (w : World) (p : Option Addr) (X : List (Sv × List T3)) : Prop where
  row : X = [] ∨ ∃ g off, p = some ⟨g, off, none⟩ ∧ g < base ∧ CsG kX w g off X
  each : ∀ x ∈ X, Slb base w x.1.p x.2 ∧ x.2.length = x.1.n ∧ x.2.length ≤ 8 ∧ ∀ c ∈ x.2, c.ok = true
theorem LsR.step {base : Nat} {w w' : World} {p : Option Addr} {X : List (Sv × List T3)} (h : LsR base w p X) (hb : Below w.heap.size w w') : LsR base w' p X := by
  refine ⟨?_, fun x hx => ⟨(h.each x hx).1.step hb, (h.each x hx).2⟩⟩
  rcases h.row with h | ⟨g, off, h1, h2, h3⟩
  · exact .inl h
  · exact .inr ⟨g, off, h1, h2, h3.step hb⟩
theorem CsG.grown {α : Type} {K : Kd α} {w w' : World} {g off : Nat} {L : List α} {row : Option Nat} (h : CsG K w g off L) (hg : w.grownBy w' row) (hne : row ≠ some g) : CsG K w' g off L :=
  ⟨Nat.lt_of_lt_of_le h.1 hg.size, fun j u hj => (World.cell?_of_block (hg.block g h.1 (fun e => hne e.symm))).trans (h.2 j u hj)⟩
theorem LsR.grown {base : Nat} {w w' : World} {p : Option Addr} {X : List (Sv × List T3)} {row : Option Nat} (h : LsR base w p X) (hg : w.grownBy w' row) (hr : ∀ r, row = some r → base ≤ r) : LsR base w' p X := by
  refine ⟨?_, fun x hx => ⟨(h.each x hx).1.grown hg hr, (h.each x hx).2⟩⟩
  rcases h.row with h | ⟨g, off, h1, h2, h3⟩
  · exact .inl h
  · exact .inr ⟨g, off, h1, h2, CsG.grown h3 hg (fun e => by have := hr g e; omega)⟩
def lsX (X : List (Sv × List T3)) : List (List T3) := X.map Prod.snd
theorem LsR.ok {base : Nat} {w : World} {p : Option Addr} {X : List (Sv × List T3)} (h : LsR base w p X) : okLs (lsX X) := fun L hL => by
  unfold lsX at hL
  obtain ⟨x, hx, rfl⟩ := List.mem_map.mp hL
  exact (h.each x hx).2.2.2
def zx : Sv × List T3 := (zsv, [])
theorem getX {L : List (Sv × List T3)} {k : Nat} (hk : k < L.length) : L[k]? = some (L.getD k zx) := by simp [List.getD, hk]
theorem lsX_take {X : List (Sv × List T3)} {k : Nat} (hk : k < X.length) : lsX (X.take (k + 1)) = lsX (X.take k) ++ [(X.getD k zx).2] := by
  unfold lsX; rw [List.take_add_one, getX hk, List.map_append]; rfl
theorem CsG.x1 {w : World} {g off : Nat} {L : List (Sv × List T3)} (h : CsG kX w g off L) {k : Nat} {x : Sv × List T3} (hk : L[k]? = some x) : w.cell? ⟨g, off + k, none⟩ = some (.slice x.1.p x.1.n x.1.c) := by
  have := h.at hk (i := 0) (u := .slice x.1.p x.1.n x.1.c) rfl
  simpa [kX] using this
theorem much_x {x : Sv × List T3} (hok : ∀ a ∈ x.2, a.ok = true) (hl : x.2.length = x.1.n) (hn : x.2.length ≤ 8) {c : T3} (hc : c.ok = true) {v : Int} (hv : muF x.2 c = v) (w : World) (hL : Sl w x.1.p x.2) :
    Calls Tryz.prog 48 #[.slice x.1.p x.1.n x.1.c, .agg #[.int .i64 c.l, .int .i64 c.x, .int .i64 c.y]] w fun e w' => e = .returned (.int .i64 v) ∧ Below w.heap.size w w' := by
  have := much_v (l3Much_any hok (by omega) x.1.p x.1.c (8 - c.l).toNat) hc rfl hv w hL
  rw [hl] at this
  exact this
def RgP (X : List (Sv × List T3)) (p : Option Addr) (nx cap base n : Nat) : Prop := ∀ (c : T3) (v : Value) (A : List T3) (w : World), c.ok = true → (8 - c.l).toNat = n → Ow w base v A → LsR base w p X → A.length + 4 ^ n ≤ 1000000 → base ≤ w.heap.size →
    Calls Tryz.prog 23 #[.slice p nx cap, .agg #[.int .i64 c.l, .int .i64 c.x, .int .i64 c.y], v] w fun e w' => ∃ v', e = .returned v' ∧ Ext base w v w' v' (A ++ dec (rgF (lsX X)) n c)
theorem min_v {a b r : Int} (h : min a b = r) (w : World) : Calls Tryz.prog 47 #[.int .i64 a, .int .i64 b] w fun e w' => e = .returned (.int .i64 r) ∧ Below w.heap.size w w' := by
  subst h
  exact (sMin_any a b w).mono fun e w' ⟨h1, h2⟩ => ⟨h1, by subst h2; exact Below.refl _ _⟩
set_option maxRecDepth 100000 in
set_option maxHeartbeats 8000000 in
theorem l10Region_step {X : List (Sv × List T3)} (p : Option Addr) (nx cap base n : Nat) (hnx : X.length = nx) (hn6 : nx ≤ 6) (ih : ∀ m, n = m + 1 → RgP X p nx cap base m) : RgP X p nx cap base n := by
  intro c v A w hc hn hrow hL hlen hbase
  obtain ⟨i0, hi, hz0, hz1, hz2⟩ := info_parts info55
  have hs0 := (St.nil w).push [.int .i64 c.l, .int .i64 c.x, .int .i64 c.y] 55
  have hp4 : 1 ≤ 4 ^ n := Nat.one_le_pow _ _ (by decide)
  have HX : Hid (X.length = nx) := hnx
  have HL : Hid (LsR base w p X) := hL
  have hokX := hL.ok
  clear hnx hL
  go_enter Tryz.func23, Tryz.ntmps23
  go_wp2
  go_loopw [7, 8] (fun a i wr => ∃ (k : Nat) (r : Int), k ≤ nx ∧ i = .int .i64 k ∧ a = .int .i64 r ∧ Hid (r = rgF (lsX (X.take k)) c) ∧ St w wr [(w.heap.size, [.int .i64 c.l, .int .i64 c.x, .int .i64 c.y])]) (fun _ i _ => nx - (intOf i).toNat)
  case atStart => exact ⟨0, 2, by omega, rfl, rfl, rfl, hs0⟩
  case round =>
    clear hs0
    obtain ⟨k, r, hk, rfl, rfl, hr, hs⟩ := hrel
    by_cases hlt : k < nx
    · have hki : (k : Int) < nx := by omega
      have hkL : k < X.length := by rw [HX.out]; exact hlt
      have hLr := HL.out.step hs.bel
      have hrow1 := hLr.row
      rcases hrow1 with h0 | ⟨g, off, rfl, hgb, hC⟩
      · rw [h0] at hkL; simp at hkL
      have hgl : g < wr.heap.size := hC.1
      have hx := List.mem_of_getElem? (getX hkL)
      obtain ⟨e1, e2, e3, e4⟩ := HL.out.each _ hx
      have hS : ∀ w', St w w' [(w.heap.size, [.int .i64 c.l, .int .i64 c.x, .int .i64 c.y])] → (Below w.heap.size w w' ∧ w'.cell? ⟨g, off + k, none⟩ = some (.slice (X.getD k zx).1.p (X.getD k zx).1.n (X.getD k zx).1.c) ∧ w'.cell? ⟨w.heap.size, 0, none⟩ = some (.int .i64 c.l) ∧ w'.cell? ⟨w.heap.size, 1, none⟩ = some (.int .i64 c.x) ∧ w'.cell? ⟨w.heap.size, 2, none⟩ = some (.int .i64 c.y)) := fun w' h => by
        refine ⟨h.bel, ?_, h.has.1.2.2.1, h.has.1.2.2.2.1, h.has.1.2.2.2.2.1⟩
        rcases (HL.out.step h.bel).row with h0 | ⟨g', off', e', _, hC'⟩
        · rw [h0] at hkL; simp at hkL
        · injection e' with e'; injection e' with e1 e2; subst e1 e2
          exact M.CsG.x1 hC' (getX hkL)
      have hat := lsX_take hkL
      obtain ⟨x, hxx⟩ : ∃ x, X.getD k zx = x := ⟨_, rfl⟩
      rw [hxx] at e1 e2 e3 e4 hS hat
      have HE : Hid (rgF (lsX (X.take (k + 1))) c = min r (muF x.2 c)) := by rw [hat, rg_snoc, hr.out]; exact rfl
      obtain ⟨mu, hmu⟩ : ∃ mu, muF x.2 c = mu := ⟨_, rfl⟩
      have HM : Hid (∀ W, Below w.heap.size w W → Calls Tryz.prog 48 #[.slice x.1.p x.1.n x.1.c, .agg #[.int .i64 c.l, .int .i64 c.x, .int .i64 c.y]] W fun e w' => e = .returned (.int .i64 mu) ∧ Below W.heap.size W w') := fun W h => much_x e4 e2 e3 hc hmu W (e1.step h).sl
      rw [hmu] at HE
      obtain ⟨r2, hr2⟩ : ∃ r2, min r mu = r2 := ⟨_, rfl⟩
      have HR : Hid (∀ W, Calls Tryz.prog 47 #[.int .i64 r, .int .i64 mu] W fun e w' => e = .returned (.int .i64 r2) ∧ Below W.heap.size W w') := fun W => min_v hr2 W
      rw [hr2] at HE
      have HS := Lib.hid hS
      have hcc := hS _ hs
      clear hLr hC hx e1 e2 e3 e4 hS hat hxx hmu hr2 hkL hrow
      go_wp2
      go_region_held3 (fun w' => St w w' [(w.heap.size, [.int .i64 c.l, .int .i64 c.x, .int .i64 c.y])] ∧ (Below w.heap.size w w' ∧ w'.cell? ⟨g, off + k, none⟩ = some (.slice x.1.p x.1.n x.1.c) ∧ w'.cell? ⟨w.heap.size, 0, none⟩ = some (.int .i64 c.l) ∧ w'.cell? ⟨w.heap.size, 1, none⟩ = some (.int .i64 c.x) ∧ w'.cell? ⟨w.heap.size, 2, none⟩ = some (.int .i64 c.y)))
        (first | exact ‹St _ _ _ ∧ _› | exact keepS HS.out ((‹St _ _ _ ∧ _›).1.step hb2) | exact keepS HS.out hs.dr | fail)
        (first
          | (go_at_call 48; refine (HM.out _ (‹St _ _ _ ∧ _ ∧ _›).2.1).mono ?_; rintro e w1 ⟨rfl, hb2⟩)
          | (go_at_call 47; refine (HR.out _).mono ?_; rintro e w1 ⟨rfl, hb2⟩))
      have hz := (‹St _ _ _ ∧ _ ∧ _›).1
      go_wp2
      go_roundw
      case rel => exact ⟨k + 1, r2, by omega, by go_num, rfl, HE.out.symm, hz⟩
      case measure => simp [intOf]; omega
    · obtain rfl : k = nx := by omega
      have hrr : r = rgF (lsX X) c := by
        have h := hr.out
        rw [List.take_of_length_le (by rw [HX.out]; exact Nat.le_refl _)] at h
        exact h
      clear hr
      have hL := HL.out
      have hbd := rg_bd (lsX X) c
      rw [← hrr] at hbd
      have hk1 := hs.has
      simp [Has, HasAt] at hk1
      have three : r = 0 ∨ r = 2 ∨ r = 1 := by omega
      rcases three with rfl | rfl | rfl
      · go_wp2
        go_ret
        refine ⟨_, rfl, ?_⟩
        rw [dec_no hrr.symm, List.append_nil]
        exact (Ext.refl hrow).behind hs.bel
      · have hrow1 := own_of_below hrow hs.bel
        have hsz := hs.size
        go_wp2_with (at_builtin; refine wpList_append_own_at _ rfl _ _ 29 rfl base 55 i0 (.agg #[.int .i64 0, .int .i64 0, .int .i64 0]) 3 24 Tryz.underlying29 hi hz0 hz1 hz2 rfl (by decide) _ _ _ rfl (hrow1.alloc _) ⟨wr.heap.size, 0, none⟩ 1 1 c.vs rfl rfl (cell_three_at rfl) (fun u hu => by simp [T3.vs] at hu; rcases hu with rfl | rfl | rfl <;> rfl) (by unfold maxLen; omega) (by omega) (by simp; omega) ?_; intro v' w3 hown' hgrow _ hat)
        go_ret
        rw [dec_full hrr.symm]
        have hO : Ow w3 base v' (A ++ [c]) := by
          unfold Ow; rw [List.length_append, flat_append]; exact hown'
        refine ⟨v', rfl, Ext.ahead (hs.al _).bel ⟨hO, hgrow, fun g e => ?_⟩⟩
        rcases hat with e2 | e2
        · exact .inl (e2.symm.trans e)
        · rw [e2] at e; cases e; exact .inr (Nat.le_refl _)
      · have h0 : rgF (lsX X) c ≠ 0 := by rw [← hrr]; decide
        have h2 : rgF (lsX X) c ≠ 2 := by rw [← hrr]; decide
        have hl8 : c.l < 8 := by
          rcases Int.lt_or_le c.l 8 with h | h
          · exact h
          · rcases (rg_tells hokX).spot c hc (by have := (ok_iff.mp hc).2.1; omega) with h | h
            · exact (h0 h).elim
            · exact (h2 h).elim
        obtain ⟨m, rfl⟩ : ∃ m, n = m + 1 := ⟨n - 1, by omega⟩
        have ihm := ih m rfl
        have hrow1 := own_of_below hrow hs.bel
        have hL1 := hL.step hs.bel
        have hd1 : ∀ pr ∈ ([(w.heap.size, [.int .i64 c.l, .int .i64 c.x, .int .i64 c.y])] : List (Nat × List Value)), v.ownBlock ≠ some pr.1 := by
          intro pr hpr e
          have := (hrow.lt _ e).2
          simp at hpr; subst hpr; simp at this
        have hsz := hs.size
        clear hrr hbd hk1
        have W2 : ∃ w2, w2 = wr := ⟨_, rfl⟩
        obtain ⟨w2, rfl⟩ := W2
        go_wp2
        go_loopw [2, 9] (fun v' i wr => ∃ k : Nat, k ≤ 4 ∧ i = .int .i64 k ∧ Ext base w2 v wr v' (A ++ decs (rgF (lsX X)) m c k) ∧ Has wr [(w.heap.size, [.int .i64 c.l, .int .i64 c.x, .int .i64 c.y])] ∧ (∀ pr ∈ ([(w.heap.size, [.int .i64 c.l, .int .i64 c.x, .int .i64 c.y])] : List (Nat × List Value)), v'.ownBlock ≠ some pr.1) ∧ LsR base wr p X) (fun _ i _ => 4 - (intOf i).toNat)
        case atStart => exact ⟨0, by omega, rfl, by rw [decs, List.append_nil]; exact Ext.refl hrow1, hs.has, hd1, hL1⟩
        case round =>
          obtain ⟨k, hk4, rfl, hE, hH, hd, hLk⟩ := hrel
          have hk1 := hH
          simp [Has, HasAt] at hk1
          by_cases hlt : k < 4
          · have hnum : (k : Int) < 4 := by omega
            have hl2 := decs_len (rgF (lsX X)) m c k
            have hl3 : k * 4 ^ m + 4 ^ m ≤ 4 ^ (m + 1) := by rw [Nat.pow_succ]; have := Nat.mul_le_mul_right (4 ^ m) (show k + 1 ≤ 4 by omega); rw [Nat.succ_mul] at this; omega
            have hbs : base ≤ wr.heap.size := by have := hE.gr.size; omega
            go_wp2_with (first
              | (go_at_call 49; refine (l2Quarter_any hc hlt _).mono ?_; rintro e w4 ⟨rfl, hb2⟩)
              | (go_at_call 23; refine (ihm (c.q k) _ _ _ (q_ok hc hl8 hlt) (by show (8 - (c.l + 1)).toNat = m; omega) (own_of_below hE.own hb2) (hLk.step hb2) (by simp only [List.length_append]; omega) (Nat.le_trans hbs hb2.size)).mono ?_; rintro e w3 ⟨v3, rfl, hE2⟩; have hfar := hE2.far (hH.step hb2) hd))
            go_roundw
            case rel =>
              refine ⟨k + 1, by omega, by go_num, ?_, hfar.1, hfar.2, (hLk.step hb2).grown hE2.gr (fun r e => (hE.own.lt r e).1)⟩
              rw [decs, ← List.append_assoc]
              exact hE.trans (Ext.ahead hb2 hE2)
            case measure => simp [intOf]; omega
          · obtain rfl : k = 4 := by omega
            go_wp2
            go_ret
            rw [dec_part h0 h2]
            exact ⟨_, rfl, Ext.ahead hs.bel hE⟩
theorem l10Region_any {X : List (Sv × List T3)} (p : Option Addr) (nx cap base : Nat) (hnx : X.length = nx) (hn6 : nx ≤ 6) : ∀ n, RgP X p nx cap base n := by
  intro n
  induction n with
  | zero => exact l10Region_step p nx cap base 0 hnx hn6 (fun m h => by omega)
  | succ n ih => exact l10Region_step p nx cap base (n + 1) hnx hn6 (fun m h => by cases h; exact ih)
end Go.Proofs.YtkinbgcnenieeaaGreat.M
namespace Go.Proofs.YtkinbgcnenieeaaGreat
open Go.RowKit Go.Joins M
attribute [local go_sem] Oper.semAt_some

/-- Where a slice may start. -/
def plQ (QL : List CQ) : Prop := ∀ q ∈ QL, Pl q.2.1.p ∧ Pl q.2.2.p
theorem plQ_sd {QL : List CQ} (h : plQ QL) {q : CQ} (hq : q ∈ QL) (b : Bool) : Pl (sdV b q.2.1 q.2.2).p := by
  cases b
  · exact (h q hq).1
  · exact (h q hq).2
theorem Sg.plQ {w W : World} {rs : List Rw} {v : Value} {QL : List CQ} (h : Sg w W rs) (hm : ∀ r ∈ trX v QL [], r ∈ rs) : plQ QL := fun q hq => by
  have h1 : ∀ r ∈ clR q.1 q.2.1 q.2.2, r ∈ rs := fun r hr => hm r (by unfold trX; exact List.mem_cons_of_mem _ (List.mem_flatMap.mpr ⟨q, hq, hr⟩))
  have o1 := h.mem (K := kC) (v := .slice q.2.1.p q.2.1.n q.2.1.c) (L := q.1.rd) (h1 _ (by simp [clR, Sv.v]))
  have o2 := h.mem (K := kC) (v := .slice q.2.2.p q.2.2.n q.2.2.c) (L := q.1.wr) (h1 _ (by simp [clR, Sv.v]))
  exact ⟨Ow.pl (L := q.1.rd) o1, Ow.pl (L := q.1.wr) o2⟩
/-- A list of Cells is answered, in memory of its own. -/
def CelO (W : World) (R : List T3) (e : Ending) (w' : World) : Prop := ∃ r n cp, e = .returned (.slice r n cp) ∧ R.length = n ∧ Sg W w' [rG kC (.slice r n cp) R]
theorem CelO.of {W w' : World} {R : List T3} {v : Value} {e : Ending} (he : e = .returned v) (ho : OwG kC w' W.heap.size v R) (hb : Below W.heap.size W w') : CelO W R e w' := by
  obtain ⟨r, cp, rfl, _⟩ := OwG.form ho
  exact ⟨r, _, cp, he, rfl, (Sg.nil W).add (r := rG kC (.slice r R.length cp) R) ho hb⟩
theorem iCom_v {M K R : List T3} {p q : Option Addr} {m k cap cap2 : Nat} (h : comS M K = R) (hm : M.length = m) (hk : K.length = k) (hm1 : m ≤ 1048576) (hk1 : k ≤ 1048576) (w : World) (hM : SlG kC w p M) (hp : Pl p) (hK : SlG kC w q K) (hq : Pl q) :
    Calls Tryz.prog 44 #[.slice p m cap, .slice q k cap2] w (CelO w R) := by
  subst h hm hk
  exact (iCommon_any p q cap cap2 M K w hM.ms hp hm1 hK.ms hq hk1).mono fun e w' ⟨v, h1, h2, h3⟩ => CelO.of h1 h2 h3
/-- The lists for reading or for writing. -/
def lsB (b : Bool) (L : List Cl) : List (List T3) := L.map (sdL b)
theorem lsB_take {QL : List CQ} {k : Nat} (b : Bool) (hk : k < QL.length) : lsB b ((cls QL).take (k + 1)) = lsB b ((cls QL).take k) ++ [sdL b (QL.getD k zq).1] := by
  unfold lsB; rw [List.take_add_one, cls_get hk, List.map_append]; rfl
theorem lsB_ok {L : List Cl} (h : L.all clB = true) (b : Bool) : okLs (lsB b L) ∧ ∀ K ∈ lsB b L, K.length ≤ 8 := by
  refine ⟨fun K hK => ?_, fun K hK => ?_⟩ <;>
  · unfold lsB at hK
    obtain ⟨c, hc, rfl⟩ := List.mem_map.mp hK
    have := sdL_ok (List.all_eq_true.mp h c hc) b
    first | exact okL_t this.2 | exact this.1
theorem all_takeT {L : List Cl} {f : Cl → Bool} (h : L.all f = true) (k : Nat) : (L.take k).all f = true := by
  rw [List.all_eq_true] at h ⊢
  exact fun x hx => h x (List.mem_of_mem_take hx)
set_option maxRecDepth 100000 in
set_option maxHeartbeats 4000000 in
theorem common_any (b : Bool) (p : Option Addr) (cap n : Nat) (QL : List CQ) (hn : QL.length = n) (h6 : n ≤ 6) (hcl : (cls QL).all clB = true) (hpl : plQ QL) (w : World) (hR : RdS w p QL) :
    Calls Tryz.prog 19 #[.slice p n cap, .bool b] w (CelO w (rgL (lsB b (cls QL)))) := by
  have HN : Hid (QL.length = n ∧ RdS w p QL ∧ (cls QL).all clB = true ∧ plQ QL) := ⟨hn, hR, hcl, hpl⟩
  have hS0 := (Sg.nil w).lit kC [zro] 1 rfl (by decide) #[.int .i64 0, .int .i64 0, .int .i64 0] rfl
  change Sg w (w.alloc (.cells #[.int .i64 0, .int .i64 0, .int .i64 0] 55)) _ at hS0
  clear hn hR hcl hpl
  go_enter Tryz.func19, Tryz.ntmps19
  go_wp2
  go_loopw [5, 12] (fun cv i wr => ∃ (k : Nat) (r : Option Addr) (m cp : Nat) (M : List T3), k ≤ n ∧ i = .int .i64 k ∧ cv = .slice r m cp ∧ Hid (M = rgL (lsB b ((cls QL).take k)) ∧ M.length = m) ∧ Sg w wr [rG kC (.slice r m cp) M]) (fun _ i _ => n - (intOf i).toNat)
  case atStart => exact ⟨0, _, 1, 1, [zro], by omega, rfl, rfl, ⟨rgL_nil.symm, rfl⟩, hS0⟩
  case round =>
    clear hS0
    obtain ⟨k, r, m, cp, M, hk, rfl, rfl, hM, hS⟩ := hrel
    by_cases hlt : k < n
    · have hki : (k : Int) < n := by omega
      have hkL : k < QL.length := by rw [HN.out.1]; exact hlt
      obtain ⟨g, off, rfl, hC⟩ := (HN.out.2.1.1.step hS.bel).at hkL
      obtain ⟨c0, c1, c2⟩ := hC.q3 (getQ hkL)
      have hq := HN.out.2.1.2 _ (List.mem_of_getElem? (getQ hkL))
      have hcl : clB (QL.getD k zq).1 = true := List.all_eq_true.mp HN.out.2.2.1 _ (List.mem_of_getElem? (cls_get hkL))
      have hpl := plQ_sd HN.out.2.2.2 (List.mem_of_getElem? (getQ hkL)) b
      have hat := lsB_take b hkL
      have hok := lsB_ok (all_takeT HN.out.2.2.1 k) b
      have hl6 : (lsB b ((cls QL).take k)).length ≤ 6 := by unfold lsB; rw [List.length_map, List.length_take]; omega
      have hm49 := rgL_len hok.1 hok.2
      rw [← hM.out.1, hM.out.2] at hm49
      obtain ⟨⟨c, s, t⟩, hx⟩ : ∃ x : CQ, QL.getD k zq = x := ⟨_, rfl⟩
      rw [hx] at c0 c1 c2 hq hat hpl hcl
      simp only at c0 c1 c2 hq hat hpl hcl
      have hcom : comS M (sdL b c) = rgL (lsB b ((cls QL).take (k + 1))) := by rw [hM.out.1, hat]; exact rgL_snoc hok.1 (sdL_ok hcl b).2 hok.2 hl6
      obtain ⟨q1, q2, _⟩ := hq.sd b
      have h8 := (sdL_ok hcl b).1
      have hs1 := hS.step (below_alloc1 _ (.cells #[.slice s.p s.n s.c, .slice t.p t.n t.c, .int .i64 c.un] 39))
      have hown : OwG kC wr w.heap.size (.slice r m cp) M := hS.mem (by simp)
      have HC : Hid (∀ W, Below wr.heap.size wr W → Calls Tryz.prog 44 #[.slice r m cp, .slice (sdV b s t).p (sdV b s t).n (sdV b s t).c] W (CelO W (rgL (lsB b ((cls QL).take (k + 1)))))) := fun W h => iCom_v hcom hM.out.2 q2 (by omega) (by omega) W ((OwG.sl hown).step h) (Ow.pl (L := M) hown) (q1.step (bstep hS.bel h (Nat.le_refl _))) hpl
      clear hC hkL hq hat hx hcl hpl hok hl6 hm49 hcom q1 q2 h8 hown
      have hb0 := below_alloc1 wr (.cells #[.slice s.p s.n s.c, .slice t.p t.n t.c, .int .i64 c.un] 39)
      go_wp2_with (first
        | (go_at_call 45; refine (cellsTo_any s t c.un b _).mono ?_; rintro e w1 ⟨rfl, hb1⟩)
        | (go_at_call 44; refine (HC.out _ (bstep hb0 hb1 (Nat.le_refl _))).mono ?_; rintro e w2 ⟨r2, m2, cp2, rfl, hl2, hS2⟩))
      go_roundw
      case rel => exact ⟨k + 1, r2, m2, cp2, _, by omega, by go_num, rfl, ⟨rfl, hl2⟩, ((hs1.step hb1).addL hS2).sub (by simp)⟩
      case measure => simp [intOf]; omega
    · obtain rfl : k = n := by omega
      have HF : Hid (M = rgL (lsB b (cls QL)) ∧ M.length = m) := by
        have h := hM.out
        rw [List.take_of_length_le (by rw [cls_len, HN.out.1]; exact Nat.le_refl _)] at h
        exact h
      go_wp2
      go_ret
      exact ⟨r, m, cp, rfl, by rw [← HF.out.1]; exact HF.out.2, by rw [← HF.out.1]; exact hS⟩
/-- A Paper's region. -/
def rgP (tn : Int) (L : List Cl) (tag : Int) (b : Bool) : List T3 := bif ppB tn L tag then rgL (lsB b L) else []
set_option maxRecDepth 100000 in
set_option maxHeartbeats 2000000 in
theorem iRegion_any (tn tag : Int) (b : Bool) (p : Option Addr) (cap n : Nat) (QL : List CQ) (hn : QL.length = n) (hb0 : n ≤ 10000000) (hpl : plQ QL) (w : World) (hR : RdS w p QL) :
    Calls Tryz.prog 6 #[.agg #[.int .i64 tn, .slice p n cap, .int .i64 tag], .bool b] w (CelO w (rgP tn (cls QL) tag b)) := by
  have hst := (St.nil w).push [.int .i64 tn, .slice p n cap, .int .i64 tag] 26
  have H1 : Hid (∀ W v, ppB tn (cls QL) tag = v → Below w.heap.size w W → Calls Tryz.prog 18 #[.agg #[.slice p n cap, .int .i64 tn, .int .i64 tag]] W fun e w' => e = .returned (.bool v) ∧ Below W.heap.size W w') := fun W v hv h => iPaper_v hv hn hb0 W (hR.step h)
  cases h1 : ppB tn (cls QL) tag
  · have HE : Hid (rgP tn (cls QL) tag b = []) := by unfold rgP; rw [h1]; exact rfl
    clear hn hR hpl
    go_enter Tryz.func6, Tryz.ntmps6
    go_wp2_with (first
      | (go_at_call 17; refine (heldAs_any tn tag p n cap _).mono ?_; rintro e w1 ⟨rfl, hb1⟩; have hs1 := hst.step hb1; have hs2 := hs1.push [.slice p n cap, .int .i64 tn, .int .i64 tag] 48)
      | (go_at_call 18; refine (H1.out _ _ h1 hs2.bel).mono ?_; rintro e w2 ⟨rfl, hb2⟩))
    go_ret
    rw [HE.out]
    exact ⟨none, 0, 0, rfl, rfl, ((Sg.nil w).nilRow kC).step (hs2.step hb2).bel⟩
  obtain ⟨_, hl, hcl, _⟩ := ppB_t h1
  rw [cls_len, hn] at hl
  have HE : Hid (rgP tn (cls QL) tag b = rgL (lsB b (cls QL))) := by unfold rgP; rw [h1]; exact rfl
  have H3 : Hid (∀ W, Below w.heap.size w W → Calls Tryz.prog 19 #[.slice p n cap, .bool b] W (CelO W (rgL (lsB b (cls QL))))) := fun W h => common_any b p cap n QL hn hl.2 hcl hpl W (hR.step h)
  clear hn hR hpl hcl
  go_enter Tryz.func6, Tryz.ntmps6
  go_wp2_with (first
    | (go_at_call 17; refine (heldAs_any tn tag p n cap _).mono ?_; rintro e w1 ⟨rfl, hb1⟩; have hs1 := hst.step hb1; have hs2 := hs1.push [.slice p n cap, .int .i64 tn, .int .i64 tag] 48)
    | (go_at_call 18; refine (H1.out _ _ h1 hs2.bel).mono ?_; rintro e w2 ⟨rfl, hb2⟩; have hs3 := hs2.step hb2; have hk := hs3.has; simp [Has, HasAt] at hk)
    | (go_at_call 19; refine (H3.out _ hs3.bel).mono ?_; rintro e w4 ⟨r4, m4, cp4, rfl, hl4, hS4⟩))
  go_ret
  rw [HE.out]
  exact ⟨r4, m4, cp4, rfl, hl4, (((Sg.nil w).step hs3.bel).addL hS4).sub (by simp)⟩

theorem infoX : (Tryz.prog.info? 29).map (fun i => (i.zero, i.size, i.bytes)) = some (some (.slice none 0 0), 1, 24) := by kernel_rfl
theorem appX : Ap kX 57 (.slice none 0 0) 24 := ⟨Tryz.underlying57, infoX, rfl, by decide, by decide⟩
def xs (b : Bool) (QL : List CQ) : List (Sv × List T3) := QL.map fun q => (sdV b q.2.1 q.2.2, sdL b q.1)
theorem xs_take {QL : List CQ} {k : Nat} (b : Bool) (hk : k < QL.length) : xs b (QL.take (k + 1)) = xs b (QL.take k) ++ [(sdV b (QL.getD k zq).2.1 (QL.getD k zq).2.2, sdL b (QL.getD k zq).1)] := by
  unfold xs; rw [List.take_add_one, getQ hk, List.map_append]; rfl
theorem lsX_xs (b : Bool) (QL : List CQ) : lsX (xs b QL) = lsB b (cls QL) := by unfold lsX xs lsB cls; simp [Function.comp_def]
theorem oneXs (L : List (Sv × List T3)) : ∀ u ∈ kX.flat L, u.oneCell' = true := fun u hu => by
  unfold Kd.flat at hu
  obtain ⟨s, _, hs⟩ := List.mem_flatMap.mp hu
  simp [kX] at hs
  subst hs; rfl
theorem sEnd {w w1 W : World} {q : Option Addr} {n cp : Nat} {QL : List CQ} {b : Bool} (hS : Sg w w1 [rG kX (.slice q n cp) (xs b QL)]) (hR : ∀ x ∈ QL, RdQ w x.1 x.2.1 x.2.2) (hcl : (cls QL).all clB = true) (hb : Below w1.heap.size w1 W) : LsR W.heap.size W q (xs b QL) := by
  have hw : Below w.heap.size w W := bstep hS.bel hb (Nat.le_refl _)
  refine ⟨?_, fun x hx => ?_⟩
  · have hsl := (OwG.sl (hS.mem (K := kX) (v := .slice q n cp) (L := xs b QL) (by simp))).step hb
    rcases hsl with h | ⟨g, off, h1, h2⟩
    · exact .inl h
    · exact .inr ⟨g, off, h1, h2.1, h2⟩
  · unfold xs at hx
    obtain ⟨y, hy, rfl⟩ := List.mem_map.mp hx
    have hc : clB y.1 = true := List.all_eq_true.mp hcl _ (List.mem_map.mpr ⟨y, hy, rfl⟩)
    obtain ⟨h1, h2, _⟩ := (hR y hy).sd b
    have h8 := sdL_ok hc b
    exact ⟨Sl.slb (h1.step hw).ms (Nat.le_refl _), h2, h8.1, okL_t h8.2⟩
theorem l10_v {X : List (Sv × List T3)} {q : Option Addr} {n cp g : Nat} (hn : X.length = n) (h6 : n ≤ 6) (w : World) (hg : w.heap.size = g) (hX : LsR w.heap.size w q X) :
    Calls Tryz.prog 23 #[.slice q n cp, .agg #[.int .i64 0, .int .i64 0, .int .i64 0], .slice (some ⟨g, 0, none⟩) 0 0] (w.alloc (.cells #[] 55)) (CelO w (rgL (lsX X))) := by
  subst hg
  have hb := below_alloc1 w (.cells #[] 55)
  refine (l10Region_any q n cp w.heap.size hn h6 8 zro _ [] (w.alloc (.cells #[] 55)) zro_ok zro_8 (own_empty w w.heap.size (Nat.le_refl _)) (hX.step hb) (by decide) hb.size).mono fun e w' ⟨v', h1, h2⟩ => ?_
  rw [List.nil_append] at h2
  refine CelO.of h1 h2.own ?_
  have hgr := h2.gr
  exact ⟨hgr.os.trans hb.os, hgr.tape.trans hb.tape, hgr.output.trans hb.output, Nat.le_trans hb.size hgr.size, fun k hk => (hgr.block k (Nat.lt_of_lt_of_le hk hb.size) (fun e => absurd (show k = w.heap.size from Option.some.inj e) (by omega))).trans (hb.block k hk)⟩
set_option maxRecDepth 100000 in
set_option maxHeartbeats 4000000 in
theorem sRegion_any (tn tag : Int) (b : Bool) (p : Option Addr) (cap n : Nat) (QL : List CQ) (hn : QL.length = n) (hb0 : n ≤ 10000000) (w : World) (hR : RdS w p QL) :
    Calls Tryz.prog 9 #[.agg #[.int .i64 tn, .slice p n cap, .int .i64 tag], .bool b] w (CelO w (rgP tn (cls QL) tag b)) := by
  have hst := (Sg.nil w).lit kP [⟨tn, ⟨p, n, cap⟩, tag⟩] 1 rfl (by decide) #[.int .i64 tn, .slice p n cap, .int .i64 tag] rfl
  change Sg w (w.alloc (.cells #[.int .i64 tn, .slice p n cap, .int .i64 tag] 26)) _ at hst
  have H1 : Hid (∀ W v, ppB tn (cls QL) tag = v → Below w.heap.size w W → Calls Tryz.prog 22 #[.agg #[.int .i64 tn, .slice p n cap, .int .i64 tag]] W fun e w' => e = .returned (.bool v) ∧ Below W.heap.size W w') := fun W v hv h => sPaper_v hv hn hb0 W (hR.step h)
  cases h1 : ppB tn (cls QL) tag
  · have HE : Hid (rgP tn (cls QL) tag b = []) := by unfold rgP; rw [h1]; exact rfl
    clear hn hR
    go_enter Tryz.func9, Tryz.ntmps9
    go_wp2_with (go_at_call 22; refine (H1.out _ _ h1 hst.bel).mono ?_; rintro e w2 ⟨rfl, hb2⟩; have hS2 := (hst.step hb2).lit kC [] 0 rfl (by decide) #[] rfl)
    go_ret
    rw [HE.out]
    exact ⟨_, 0, 0, rfl, rfl, hS2.sub (by simp)⟩
  obtain ⟨_, hl, hcl, _⟩ := ppB_t h1
  rw [cls_len, hn] at hl
  have HE : Hid (rgP tn (cls QL) tag b = rgL (lsB b (cls QL))) := by unfold rgP; rw [h1]; exact rfl
  have HN : Hid (QL.length = n ∧ RdS w p QL ∧ (cls QL).all clB = true) := ⟨hn, hR, hcl⟩
  clear hn hR hcl
  obtain ⟨x0, x1, x2, xf, xg⟩ := hst.three (K := kP) (g := w.heap.size) (n := 1) (p := ⟨tn, ⟨p, n, cap⟩, tag⟩) (by simp) rfl
  go_enter Tryz.func9, Tryz.ntmps9
  go_wp2_with (go_at_call 22; refine (H1.out _ _ h1 hst.bel).mono ?_; rintro e w2 ⟨rfl, hb2⟩; have hS2 := (hst.step hb2).lit kX [] 0 rfl (by decide) #[] rfl; clear x0 x1 x2 xf xg)
  go_loopw [5, 6] (fun lv i wr => ∃ (k : Nat) (q : Option Addr) (cp : Nat) (X : List (Sv × List T3)), k ≤ n ∧ i = .int .i64 k ∧ lv = .slice q k cp ∧ Hid (X = xs b (QL.take k) ∧ X.length = k) ∧ (¬ lv = .slice none 0 0) ∧ Sg w wr [rG kX (.slice q k cp) X, rG kP (.slice (some ⟨w.heap.size, 0, none⟩) 1 1) [⟨tn, ⟨p, n, cap⟩, tag⟩]]) (fun _ i _ => n - (intOf i).toNat)
  case atStart => exact ⟨0, _, _, [], by omega, rfl, rfl, ⟨rfl, rfl⟩, by simp, hS2⟩
  case round =>
    clear hS2 hst
    obtain ⟨k, q, cp, X, hk, rfl, rfl, hX, hnn, hS⟩ := hrel
    obtain ⟨x0, x1, x2, xf, xg⟩ := hS.three (K := kP) (g := w.heap.size) (n := 1) (p := ⟨tn, ⟨p, n, cap⟩, tag⟩) (by simp) rfl
    by_cases hlt : k < n
    · have hki : (k : Int) < n := by omega
      have hkL : k < QL.length := by rw [HN.out.1]; exact hlt
      obtain ⟨g, off, rfl, hC⟩ := (HN.out.2.1.1.step hS.bel).at hkL
      obtain ⟨c0, c1, c2⟩ := hC.q3 (getQ hkL)
      have hat := xs_take b hkL
      obtain ⟨⟨c, s, t⟩, hx⟩ : ∃ x : CQ, QL.getD k zq = x := ⟨_, rfl⟩
      rw [hx] at c0 c1 c2 hat
      simp only at c0 c1 c2 hat
      have HAT : Hid (xs b (QL.take (k + 1)) = X ++ [(sdV b s t, sdL b c)]) := by rw [hat, hX.out.1]; exact rfl
      clear hC hkL hx hat
      cases b
      · go_wp2_with (at_builtin; refine wpList_sgapp appX rfl _ _ rfl (A := []) (B := [(sdV false s t, sdL false c)]) (n := k) (m := 1) hS (below_alloc1 _ _) hX.out.2 rfl rfl ⟨wr.heap.size, 0, none⟩ 1 rfl (lit_src (xs := [.slice s.p s.n s.c]) rfl) (oneXs _) (.inl (by decide)) (by omega) ?_; intro g' cap' w4 hS4 _ _)
        go_roundw
        case rel => exact ⟨k + 1, some ⟨g', 0, none⟩, cap', _, by omega, by go_num, rfl, ⟨HAT.out.symm, by rw [List.length_append, hX.out.2]; rfl⟩, by simp, hS4⟩
        case measure => simp [intOf]; omega
      · go_wp2_with (at_builtin; refine wpList_sgapp appX rfl _ _ rfl (A := []) (B := [(sdV true s t, sdL true c)]) (n := k) (m := 1) hS (below_alloc1 _ _) hX.out.2 rfl rfl ⟨wr.heap.size, 0, none⟩ 1 rfl (lit_src (xs := [.slice t.p t.n t.c]) rfl) (oneXs _) (.inl (by decide)) (by omega) ?_; intro g' cap' w4 hS4 _ _)
        go_roundw
        case rel => exact ⟨k + 1, some ⟨g', 0, none⟩, cap', _, by omega, by go_num, rfl, ⟨HAT.out.symm, by rw [List.length_append, hX.out.2]; rfl⟩, by simp, hS4⟩
        case measure => simp [intOf]; omega
    · obtain rfl : k = n := by omega
      have hXX : X = xs b QL := by rw [hX.out.1, List.take_of_length_le (by rw [HN.out.1]; exact Nat.le_refl _)]
      subst hXX
      have HL : Hid (∀ W, Below wr.heap.size wr W → LsR W.heap.size W q (xs b QL)) := fun W h => sEnd (n := k) (cp := cp) (hS.sub (by simp)) HN.out.2.1.2 HN.out.2.2 h
      have HXL := hX.out.2
      go_wp2_with (go_at_call 23; refine (l10_v HXL hl.2 _ rfl (HL.out _ (Below.refl _ _))).mono ?_; rintro e w5 ⟨r5, m5, cp5, rfl, hl5, hS5⟩)
      go_ret
      rw [HE.out, ← lsX_xs]
      exact ⟨r5, m5, cp5, rfl, hl5, (hS.addL hS5).sub (by simp)⟩
end Go.Proofs.YtkinbgcnenieeaaGreat
