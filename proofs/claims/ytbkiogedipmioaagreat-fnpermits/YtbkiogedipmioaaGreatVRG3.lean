/-
  Region: the program's and the spec's.
-/
import Derived.Test.YtbkiogedipmioaaGreatVMV2
import Derived.Test.YtbkiogedipmioaaGreatVAL2
import Derived.Test.YtbkiogedipmioaaGreatVMV3
import Derived.Test.YtbkiogedipmioaaGreatVZ3
namespace Go.Proofs.YtbkiogedipmioaaGreat.V
open M

/-- How much of a Cell all lists have: 0 nothing, 1 some, 2 all. -/
def rgF (Ls : List (List T3)) (c : T3) : Int := Ls.foldl (fun a L => min a (muF L c)) 2
theorem muF_bd (L : List T3) (c : T3) : 0 ≤ muF L c ∧ muF L c ≤ 2 := by have := much_le L (8 - c.l).toNat c; unfold muF; omega
theorem rg_snoc (Ls : List (List T3)) (L : List T3) (c : T3) : rgF (Ls ++ [L]) c = min (rgF Ls c) (muF L c) := by unfold rgF; rw [List.foldl_append]; rfl
theorem fold_min (c : T3) : ∀ (Ls : List (List T3)) (a : Int), 0 ≤ a → a ≤ 2 → (0 ≤ Ls.foldl (fun a L => min a (muF L c)) a ∧ Ls.foldl (fun a L => min a (muF L c)) a ≤ 2)
    ∧ (Ls.foldl (fun a L => min a (muF L c)) a = 2 ↔ a = 2 ∧ ∀ L ∈ Ls, muF L c = 2)
    ∧ (Ls.foldl (fun a L => min a (muF L c)) a = 0 ↔ a = 0 ∨ ∃ L ∈ Ls, muF L c = 0)
  | [], a, h0, h2 => by simp [h0, h2]
  | L :: t, a, h0, h2 => by
    have hb := muF_bd L c
    obtain ⟨i1, i2, i3⟩ := fold_min c t (min a (muF L c)) (by omega) (by omega)
    rw [List.foldl_cons]
    refine ⟨i1, ?_, ?_⟩
    · rw [i2]
      simp only [List.mem_cons, forall_eq_or_imp]
      constructor
      · rintro ⟨h, k⟩; exact ⟨by omega, by omega, k⟩
      · rintro ⟨h, k, l⟩; exact ⟨by omega, l⟩
    · rw [i3]
      simp only [List.mem_cons, exists_eq_or_imp]
      constructor
      · rintro (h | h)
        · by_cases e : a = 0
          · exact .inl e
          · exact .inr (.inl (by omega))
        · exact .inr (.inr h)
      · rintro (h | h | h)
        · exact .inl (by omega)
        · exact .inl (by omega)
        · exact .inr h
theorem rg_bd (Ls : List (List T3)) (c : T3) : 0 ≤ rgF Ls c ∧ rgF Ls c ≤ 2 := (fold_min c Ls 2 (by omega) (by omega)).1
theorem rg_two (Ls : List (List T3)) (c : T3) : rgF Ls c = 2 ↔ ∀ L ∈ Ls, muF L c = 2 := by have := (fold_min c Ls 2 (by omega) (by omega)).2.1; unfold rgF; rw [this]; simp
theorem rg_nil (Ls : List (List T3)) (c : T3) : rgF Ls c = 0 ↔ ∃ L ∈ Ls, muF L c = 0 := by have := (fold_min c Ls 2 (by omega) (by omega)).2.2; unfold rgF; rw [this]; simp
/-- All Spots that each list has. -/
def covA (Ls : List (List T3)) (n : Int) : Prop := ∀ L ∈ Ls, cov L n
def okLs (Ls : List (List T3)) : Prop := ∀ L ∈ Ls, ∀ c ∈ L, c.ok = true
theorem rg_tells {Ls : List (List T3)} (h : okLs Ls) : Tells (rgF Ls) (covA Ls) := by
  refine ⟨fun c hc => ?_, fun c hc h0 n hn hcv => ?_, fun c hc h8 => ?_⟩
  · rw [rg_two]
    constructor
    · intro h2 n hn L hL; exact ((muF_tells (h L hL)).two c hc).mp (h2 L hL) n hn
    · intro hf L hL; exact ((muF_tells (h L hL)).two c hc).mpr fun n hn => hf n hn L hL
  · obtain ⟨L, hL, h1⟩ := (rg_nil Ls c).mp h0
    exact (muF_tells (h L hL)).nil c hc h1 n hn (hcv L hL)
  · by_cases h0 : ∃ L ∈ Ls, muF L c = 0
    · exact .inl ((rg_nil Ls c).mpr h0)
    · refine .inr ((rg_two Ls c).mpr fun L hL => ?_)
      rcases (muF_tells (h L hL)).spot c hc h8 with e | e
      · exact absurd ⟨L, hL, e⟩ h0
      · exact e
/-- The region of several lists. -/
def rgL (Ls : List (List T3)) : List T3 := dec (rgF Ls) 8 zro
theorem zro_8 : (8 - zro.l).toNat = 8 := by decide
theorem rgL_of {Ls : List (List T3)} (h : okLs Ls) : DecOf (covA Ls) zro (rgL Ls) := dec_of (rg_tells h) 8 zro zro_ok zro_8
theorem zro_mem {n : Int} : mem n zro ↔ 0 ≤ n ∧ n < 65536 := by unfold mem; rw [zro_lo, zro_hi]
theorem rgL_nil : rgL [] = [zro] := dec_full rfl
theorem rgL_ok {Ls : List (List T3)} (h : okLs Ls) : ∀ c ∈ rgL Ls, c.ok = true := (rgL_of h).ok
theorem nodup_le : ∀ {A B : List Int}, A.Nodup → (∀ x ∈ A, x ∈ B) → A.length ≤ B.length
  | [], _, _, _ => Nat.zero_le _
  | a :: t, B, hn, hs => by
    obtain ⟨s, u, rfl⟩ := List.append_of_mem (hs a (List.mem_cons_self ..))
    have hn' := List.nodup_cons.mp hn
    have := nodup_le (A := t) (B := s ++ u) hn'.2 fun x hx => by
      have := hs x (List.mem_cons_of_mem _ hx)
      simp only [List.mem_append, List.mem_cons] at this ⊢
      rcases this with h | rfl | h
      · exact .inl h
      · exact absurd hx hn'.1
      · exact .inr h
    simp only [List.length_cons, List.length_append] at this ⊢
    omega
theorem rgL_from {Ls : List (List T3)} (h : okLs Ls) {m : T3} (hm : m ∈ rgL Ls) (hz : m ≠ zro) : ∃ a ∈ Ls.flatten, a.lo = m.lo := by
  have hd := rgL_of h
  have hok := hd.ok m hm
  have hl : 0 < m.l := by
    have := (ok_iff.mp hok)
    rcases Int.lt_or_le 0 m.l with h | h
    · exact h
    · exfalso
      apply hz
      have e : m.l = 0 := by omega
      rw [e] at this
      have ex : m.x = 0 := by have h1 := this.2.2.1; have h2 := this.2.2.2.1; simp at h2; omega
      have ey : m.y = 0 := by have h1 := this.2.2.2.2.1; have h2 := this.2.2.2.2.2; simp at h2; omega
      obtain ⟨l, x, y⟩ := m
      simp only at e ex ey
      subst e ex ey
      rfl
  have hu := up_ok' hok hl
  have hul : m.up.l < 8 := by have := (ok_iff.mp hok).2.1; show m.l - 1 < 8; omega
  rcases hd.least m hm with e | hnf
  · exact absurd e hz
  · have hlo : mem m.lo m := ⟨Int.le_refl _, m.lt⟩
    apply Classical.byContradiction
    intro hno
    apply hnf
    intro n hn L hL
    have hfull : full (cov L) m := fun k hk => hd.full m hm k hk L hL
    obtain ⟨a, ha, a1, a2⟩ := hfull m.lo hlo
    have haok := h L hL a ha
    have hne : a.lo ≠ m.lo := fun e => hno ⟨a, List.mem_flatten.mpr ⟨L, hL, ha⟩, e⟩
    have hins : insT m a = true := by
      rcases lam haok hok with h1 | h1 | h1 | h1
      · have := m.lt; omega
      · have := m.lt; omega
      · have := (ins_iff haok hok).mp h1; omega
      · exact h1
    obtain ⟨i, hi, hq⟩ : ∃ i, i < 4 ∧ m.up.q i = m := ⟨_, by omega, up_q hl⟩
    rw [← hq] at hins
    rcases q_up_or hu hul haok hi hins with e | e
    · rw [hq] at e; exact absurd (by rw [e]) hne
    · have := (ins_iff hu haok).mp e
      exact ⟨a, ha, by have := hn.1; omega, by have := hn.2; omega⟩
theorem rgL_len {Ls : List (List T3)} (h : okLs Ls) (h8 : ∀ L ∈ Ls, L.length ≤ 8) : (rgL Ls).length ≤ 1 + 8 * Ls.length := by
  have hd := rgL_of h
  have hfl : Ls.flatten.length ≤ 8 * Ls.length := by
    clear hd h
    induction Ls with
    | nil => simp
    | cons L t ih =>
      have h1 := h8 L (List.mem_cons_self ..)
      have h2 := ih fun x hx => h8 x (List.mem_cons_of_mem _ hx)
      simp only [List.flatten_cons, List.length_append, List.length_cons]
      omega
  have hnd : ((rgL Ls).map T3.lo).Nodup := by
    unfold List.Nodup
    rw [List.pairwise_map]
    exact hd.srt.imp fun {a b} hab e => by have := a.lt; omega
  have hz0 : zro.lo = 0 := zro_lo
  have := nodup_le (A := (rgL Ls).map T3.lo) (B := zro.lo :: Ls.flatten.map T3.lo) hnd fun x hx => by
    obtain ⟨m, hm, rfl⟩ := List.mem_map.mp hx
    by_cases hz : m = zro
    · rw [hz]; exact List.mem_cons_self ..
    · obtain ⟨a, ha, e⟩ := rgL_from h hm hz
      rw [← e]
      exact List.mem_cons_of_mem _ (List.mem_map.mpr ⟨a, ha, rfl⟩)
  simp only [List.length_map, List.length_cons] at this
  omega
theorem rgL_okL {Ls : List (List T3)} (h : okLs Ls) (h8 : ∀ L ∈ Ls, L.length ≤ 8) (h6 : Ls.length ≤ 6) : okL (rgL Ls) = true := by
  have h1 := rgL_len h h8
  unfold okL
  rw [Bool.and_eq_true, decide_eq_true_iff, List.all_eq_true]
  exact ⟨by omega, rgL_ok h⟩
/-- One list more: what is common to the region and the list. -/
theorem rgL_snoc {Ls : List (List T3)} {L : List T3} (h : okLs Ls) (hL : okL L = true) (h8 : ∀ L ∈ Ls, L.length ≤ 8) (h6 : Ls.length ≤ 6) : comS (rgL Ls) L = rgL (Ls ++ [L]) := by
  have hLk : ∀ c ∈ L, c.ok = true := okL_t hL
  have hk : okLs (Ls ++ [L]) := fun K hK => by
    rcases List.mem_append.mp hK with hK | hK
    · exact h K hK
    · simp at hK; subst hK; exact hLk
  have hd := rgL_of h
  have hd2 := rgL_of hk
  have ht := cmF_tells (rgL_ok h) hLk
  unfold comS
  rw [rgL_okL h h8 h6, hL, Bool.true_and, if_pos rfl]
  refine (hd2.canon.is_dec ht fun n h0 h1 => ?_).symm
  have hm : mem n zro := zro_mem.mpr ⟨h0, h1⟩
  rw [← hd2.has n hm, ← hd.has n hm]
  constructor
  · intro hc; exact ⟨fun K hK => hc K (List.mem_append.mpr (.inl hK)), hc L (by simp)⟩
  · rintro ⟨a, b⟩ K hK
    rcases List.mem_append.mp hK with hK | hK
    · exact a K hK
    · simp at hK; subst hK; exact b
end Go.Proofs.YtbkiogedipmioaaGreat.V
namespace Go.Proofs.YtbkiogedipmioaaGreat.V.M
open Go.RowKit Go.Joins
attribute [local go_sem ↓] Go.wp_at_zero Go.wp_at_succ

/-- A list of lists of Cells: each as it lies in a cell, and what it reads. -/
def kX : Kd (Sv × List T3) := ⟨41, 1, fun x => [.slice x.1.p x.1.n x.1.c], fun _ => rfl⟩
structure LsR (base : Nat) (w : World) (p : Option Addr) (X : List (Sv × List T3)) : Prop where
  row : X = [] ∨ ∃ g off, p = some ⟨g, off, none⟩ ∧ g < base ∧ CsG kX w g off X
  each : ∀ x ∈ X, Slb base w x.1.p x.2 ∧ x.2.length = x.1.n ∧ x.2.length ≤ 8 ∧ ∀ c ∈ x.2, c.ok = true
theorem LsR.step {base : Nat} {w w' : World} {p : Option Addr} {X : List (Sv × List T3)} (h : LsR base w p X) (hb : Below w.heap.size w w') : LsR base w' p X := by
  refine ⟨?_, fun x hx => ⟨(h.each x hx).1.step hb, (h.each x hx).2⟩⟩
  rcases h.row with h | ⟨g, off, h1, h2, h3⟩
  · exact .inl h
  · exact .inr ⟨g, off, h1, h2, h3.step hb⟩
theorem CsG.grown {α : Type} {K : Kd α} {w w' : World} {g off : Nat} {L : List α} {row : Option Nat} (h : CsG K w g off L) (hg : w.grownBy w' row) (hne : row ≠ some g) : CsG K w' g off L :=
  ⟨Nat.lt_of_lt_of_le h.1 hg.size, fun j u hj => (World.cell?_of_block (hg.block g h.1 (fun e => hne e.symm))).trans (h.2 j u hj)⟩
theorem LsR.grown {base : Nat} {w w' : World} {p : Option Addr} {X : List (Sv × List T3)} {row : Option Nat} (h : LsR base w p X) (hg : w.grownBy w' row) (hr : ∀ r, row = some r → base ≤ r) : LsR base w' p X := by
  refine ⟨?_, fun x hx => ⟨(h.each x hx).1.grown hg hr, (h.each x hx).2⟩⟩
  rcases h.row with h | ⟨g, off, h1, h2, h3⟩
  · exact .inl h
  · exact .inr ⟨g, off, h1, h2, CsG.grown h3 hg (fun e => by have := hr g e; omega)⟩
def lsX (X : List (Sv × List T3)) : List (List T3) := X.map Prod.snd
theorem LsR.ok {base : Nat} {w : World} {p : Option Addr} {X : List (Sv × List T3)} (h : LsR base w p X) : okLs (lsX X) := fun L hL => by
  unfold lsX at hL
  obtain ⟨x, hx, rfl⟩ := List.mem_map.mp hL
  exact (h.each x hx).2.2.2
def zx : Sv × List T3 := (zsv, [])
theorem getX {L : List (Sv × List T3)} {k : Nat} (hk : k < L.length) : L[k]? = some (L.getD k zx) := by simp [List.getD, hk]
theorem lsX_take {X : List (Sv × List T3)} {k : Nat} (hk : k < X.length) : lsX (X.take (k + 1)) = lsX (X.take k) ++ [(X.getD k zx).2] := by
  unfold lsX; rw [List.take_add_one, getX hk, List.map_append]; rfl
theorem CsG.x1 {w : World} {g off : Nat} {L : List (Sv × List T3)} (h : CsG kX w g off L) {k : Nat} {x : Sv × List T3} (hk : L[k]? = some x) : w.cell? ⟨g, off + k, none⟩ = some (.slice x.1.p x.1.n x.1.c) := by
  have := h.at hk (i := 0) (u := .slice x.1.p x.1.n x.1.c) rfl
  simpa [kX] using this
theorem min_v {a b r : Int} (h : min a b = r) (w : World) : Calls Tryz.prog 136 #[.int .i64 a, .int .i64 b] w fun e w' => e = .returned (.int .i64 r) ∧ Below w.heap.size w w' := by
  subst h
  exact (sMin_any a b w).mono fun e w' ⟨h1, h2⟩ => ⟨h1, by subst h2; exact Below.refl _ _⟩
end Go.Proofs.YtbkiogedipmioaaGreat.V.M
namespace Go.Proofs.YtbkiogedipmioaaGreat.V
open Go.RowKit Go.Joins M
attribute [local go_sem] Oper.semAt_some

/-- Where a slice may start. -/
def plQ (QL : List CQ) : Prop := ∀ q ∈ QL, Pl q.2.1.p ∧ Pl q.2.2.p
theorem plQ_sd {QL : List CQ} (h : plQ QL) {q : CQ} (hq : q ∈ QL) (b : Bool) : Pl (sdV b q.2.1 q.2.2).p := by
  cases b
  · exact (h q hq).1
  · exact (h q hq).2
theorem Sg.plQ {w W : World} {rs : List Rw} {v : Value} {QL : List CQ} (h : Sg w W rs) (hm : ∀ r ∈ trX v QL [], r ∈ rs) : plQ QL := fun q hq => by
  have h1 : ∀ r ∈ clR q.1 q.2.1 q.2.2, r ∈ rs := fun r hr => hm r (by unfold trX; exact List.mem_cons_of_mem _ (List.mem_flatMap.mpr ⟨q, hq, hr⟩))
  have o1 := h.mem (K := kC) (v := .slice q.2.1.p q.2.1.n q.2.1.c) (L := q.1.rd) (h1 _ (by simp [clR, Sv.v]))
  have o2 := h.mem (K := kC) (v := .slice q.2.2.p q.2.2.n q.2.2.c) (L := q.1.wr) (h1 _ (by simp [clR, Sv.v]))
  exact ⟨Ow.pl (L := q.1.rd) o1, Ow.pl (L := q.1.wr) o2⟩
/-- A list of Cells is answered, in memory of its own. -/
def CelO (W : World) (R : List T3) (e : Ending) (w' : World) : Prop := ∃ r n cp, e = .returned (.slice r n cp) ∧ R.length = n ∧ Sg W w' [rG kC (.slice r n cp) R]
theorem CelO.of {W w' : World} {R : List T3} {v : Value} {e : Ending} (he : e = .returned v) (ho : OwG kC w' W.heap.size v R) (hb : Below W.heap.size W w') : CelO W R e w' := by
  obtain ⟨r, cp, rfl, _⟩ := OwG.form ho
  exact ⟨r, _, cp, he, rfl, (Sg.nil W).add (r := rG kC (.slice r R.length cp) R) ho hb⟩
theorem iCom_v {M K R : List T3} {p q : Option Addr} {m k cap cap2 : Nat} (h : comS M K = R) (hm : M.length = m) (hk : K.length = k) (hm1 : m ≤ 1048576) (hk1 : k ≤ 1048576) (w : World) (hM : SlG kC w p M) (hp : Pl p) (hK : SlG kC w q K) (hq : Pl q) :
    Calls Tryz.prog 84 #[.slice p m cap, .slice q k cap2] w (CelO w R) := by
  subst h hm hk
  exact (iCommon_any p q cap cap2 M K w hM.ms hp hm1 hK.ms hq hk1).mono fun e w' ⟨v, h1, h2, h3⟩ => CelO.of h1 h2 h3
/-- The lists for reading or for writing. -/
def lsB (b : Bool) (L : List Cl) : List (List T3) := L.map (sdL b)
theorem lsB_take {QL : List CQ} {k : Nat} (b : Bool) (hk : k < QL.length) : lsB b ((cls QL).take (k + 1)) = lsB b ((cls QL).take k) ++ [sdL b (QL.getD k zq).1] := by
  unfold lsB; rw [List.take_add_one, cls_get hk, List.map_append]; rfl
theorem lsB_ok {L : List Cl} (h : L.all clB = true) (b : Bool) : okLs (lsB b L) ∧ ∀ K ∈ lsB b L, K.length ≤ 8 := by
  refine ⟨fun K hK => ?_, fun K hK => ?_⟩ <;>
  · unfold lsB at hK
    obtain ⟨c, hc, rfl⟩ := List.mem_map.mp hK
    have := sdL_ok (List.all_eq_true.mp h c hc) b
    first | exact okL_t this.2 | exact this.1
theorem all_takeT {L : List Cl} {f : Cl → Bool} (h : L.all f = true) (k : Nat) : (L.take k).all f = true := by
  rw [List.all_eq_true] at h ⊢
  exact fun x hx => h x (List.mem_of_mem_take hx)
set_option maxRecDepth 100000 in
set_option maxHeartbeats 4000000 in
theorem common_any (b : Bool) (p : Option Addr) (cap n : Nat) (QL : List CQ) (hn : QL.length = n) (h6 : n ≤ 6) (hcl : (cls QL).all clB = true) (hpl : plQ QL) (w : World) (hR : RdS w p QL) :
    Calls Tryz.prog 46 #[.slice p n cap, .bool b] w (CelO w (rgL (lsB b (cls QL)))) := by
  have HN : Hid (QL.length = n ∧ RdS w p QL ∧ (cls QL).all clB = true ∧ plQ QL) := ⟨hn, hR, hcl, hpl⟩
  have hS0 := (Sg.nil w).lit kC [zro] 1 rfl (by decide) #[.int .i64 0, .int .i64 0, .int .i64 0] rfl
  change Sg w (w.alloc (.cells #[.int .i64 0, .int .i64 0, .int .i64 0] 89)) _ at hS0
  clear hn hR hcl hpl
  go_enter Tryz.func46, Tryz.ntmps46
  go_wp2
  go_loopw [5, 12] (fun cv i wr => ∃ (k : Nat) (r : Option Addr) (m cp : Nat) (M : List T3), k ≤ n ∧ i = .int .i64 k ∧ cv = .slice r m cp ∧ Hid (M = rgL (lsB b ((cls QL).take k)) ∧ M.length = m) ∧ Sg w wr [rG kC (.slice r m cp) M]) (fun _ i _ => n - (intOf i).toNat)
  case atStart => exact ⟨0, _, 1, 1, [zro], by omega, rfl, rfl, ⟨rgL_nil.symm, rfl⟩, hS0⟩
  case round =>
    clear hS0
    obtain ⟨k, r, m, cp, M, hk, rfl, rfl, hM, hS⟩ := hrel
    by_cases hlt : k < n
    · have hki : (k : Int) < n := by omega
      have hkL : k < QL.length := by rw [HN.out.1]; exact hlt
      obtain ⟨g, off, rfl, hC⟩ := (HN.out.2.1.1.step hS.bel).at hkL
      obtain ⟨c0, c1, c2⟩ := hC.q3 (getQ hkL)
      have hq := HN.out.2.1.2 _ (List.mem_of_getElem? (getQ hkL))
      have hcl : clB (QL.getD k zq).1 = true := List.all_eq_true.mp HN.out.2.2.1 _ (List.mem_of_getElem? (cls_get hkL))
      have hpl := plQ_sd HN.out.2.2.2 (List.mem_of_getElem? (getQ hkL)) b
      have hat := lsB_take b hkL
      have hok := lsB_ok (all_takeT HN.out.2.2.1 k) b
      have hl6 : (lsB b ((cls QL).take k)).length ≤ 6 := by unfold lsB; rw [List.length_map, List.length_take]; omega
      have hm49 := rgL_len hok.1 hok.2
      rw [← hM.out.1, hM.out.2] at hm49
      obtain ⟨⟨c, s, t⟩, hx⟩ : ∃ x : CQ, QL.getD k zq = x := ⟨_, rfl⟩
      rw [hx] at c0 c1 c2 hq hat hpl hcl
      simp only at c0 c1 c2 hq hat hpl hcl
      have hcom : comS M (sdL b c) = rgL (lsB b ((cls QL).take (k + 1))) := by rw [hM.out.1, hat]; exact rgL_snoc hok.1 (sdL_ok hcl b).2 hok.2 hl6
      obtain ⟨q1, q2, _⟩ := hq.sd b
      have h8 := (sdL_ok hcl b).1
      have hs1 := hS.step (below_alloc1 _ (.cells #[.slice s.p s.n s.c, .slice t.p t.n t.c, .int .i64 c.un] 110))
      have hown : OwG kC wr w.heap.size (.slice r m cp) M := hS.mem (by simp)
      have HC : Hid (∀ W, Below wr.heap.size wr W → Calls Tryz.prog 84 #[.slice r m cp, .slice (sdV b s t).p (sdV b s t).n (sdV b s t).c] W (CelO W (rgL (lsB b ((cls QL).take (k + 1)))))) := fun W h => iCom_v hcom hM.out.2 q2 (by omega) (by omega) W ((OwG.sl hown).step h) (Ow.pl (L := M) hown) (q1.step (bstep hS.bel h (Nat.le_refl _))) hpl
      clear hC hkL hq hat hx hcl hpl hok hl6 hm49 hcom q1 q2 h8 hown
      have hb0 := below_alloc1 wr (.cells #[.slice s.p s.n s.c, .slice t.p t.n t.c, .int .i64 c.un] 110)
      go_wp2_with (first
        | (go_at_call 83; refine (cellsTo_any s t c.un b _).mono ?_; rintro e w1 ⟨rfl, hb1⟩)
        | (go_at_call 84; refine (HC.out _ (bstep hb0 hb1 (Nat.le_refl _))).mono ?_; rintro e w2 ⟨r2, m2, cp2, rfl, hl2, hS2⟩))
      go_roundw
      case rel => exact ⟨k + 1, r2, m2, cp2, _, by omega, by go_num, rfl, ⟨rfl, hl2⟩, ((hs1.step hb1).addL hS2).sub (by simp)⟩
      case measure => simp [intOf]; omega
    · obtain rfl : k = n := by omega
      have HF : Hid (M = rgL (lsB b (cls QL)) ∧ M.length = m) := by
        have h := hM.out
        rw [List.take_of_length_le (by rw [cls_len, HN.out.1]; exact Nat.le_refl _)] at h
        exact h
      go_wp2
      go_ret
      exact ⟨r, m, cp, rfl, by rw [← HF.out.1]; exact HF.out.2, by rw [← HF.out.1]; exact hS⟩
/-- A Paper's region. -/
def rgP (tn : Int) (L : List Cl) (tag : Int) (b : Bool) : List T3 := bif ppB tn L tag then rgL (lsB b L) else []
set_option maxRecDepth 100000 in
set_option maxHeartbeats 2000000 in
theorem iRegion_any (tn tag : Int) (b : Bool) (p : Option Addr) (cap n : Nat) (QL : List CQ) (hn : QL.length = n) (hb0 : n ≤ 10000000) (hpl : plQ QL) (w : World) (hR : RdS w p QL) :
    Calls Tryz.prog 13 #[.agg #[.int .i64 tn, .slice p n cap, .int .i64 tag], .bool b] w (CelO w (rgP tn (cls QL) tag b)) := by
  have hst := (St.nil w).push [.int .i64 tn, .slice p n cap, .int .i64 tag] 26
  have H1 : Hid (∀ W v, ppB tn (cls QL) tag = v → Below w.heap.size w W → Calls Tryz.prog 33 #[.agg #[.slice p n cap, .int .i64 tn, .int .i64 tag]] W fun e w' => e = .returned (.bool v) ∧ Below W.heap.size W w') := fun W v hv h => iPaper_v hv hn hb0 W (hR.step h)
  cases h1 : ppB tn (cls QL) tag
  · have HE : Hid (rgP tn (cls QL) tag b = []) := by unfold rgP; rw [h1]; exact rfl
    clear hn hR hpl
    go_enter Tryz.func13, Tryz.ntmps13
    go_wp2_with (first
      | (go_at_call 32; refine (heldAs_any tn tag p n cap _).mono ?_; rintro e w1 ⟨rfl, hb1⟩; have hs1 := hst.step hb1; have hs2 := hs1.push [.slice p n cap, .int .i64 tn, .int .i64 tag] 71)
      | (go_at_call 33; refine (H1.out _ _ h1 hs2.bel).mono ?_; rintro e w2 ⟨rfl, hb2⟩))
    go_ret
    rw [HE.out]
    exact ⟨none, 0, 0, rfl, rfl, ((Sg.nil w).nilRow kC).step (hs2.step hb2).bel⟩
  obtain ⟨_, hl, hcl, _⟩ := ppB_t h1
  rw [cls_len, hn] at hl
  have HE : Hid (rgP tn (cls QL) tag b = rgL (lsB b (cls QL))) := by unfold rgP; rw [h1]; exact rfl
  have H3 : Hid (∀ W, Below w.heap.size w W → Calls Tryz.prog 46 #[.slice p n cap, .bool b] W (CelO W (rgL (lsB b (cls QL))))) := fun W h => common_any b p cap n QL hn hl.2 hcl hpl W (hR.step h)
  clear hn hR hpl hcl
  go_enter Tryz.func13, Tryz.ntmps13
  go_wp2_with (first
    | (go_at_call 32; refine (heldAs_any tn tag p n cap _).mono ?_; rintro e w1 ⟨rfl, hb1⟩; have hs1 := hst.step hb1; have hs2 := hs1.push [.slice p n cap, .int .i64 tn, .int .i64 tag] 71)
    | (go_at_call 33; refine (H1.out _ _ h1 hs2.bel).mono ?_; rintro e w2 ⟨rfl, hb2⟩; have hs3 := hs2.step hb2; have hk := hs3.has; simp [Has, HasAt] at hk)
    | (go_at_call 46; refine (H3.out _ hs3.bel).mono ?_; rintro e w4 ⟨r4, m4, cp4, rfl, hl4, hS4⟩))
  go_ret
  rw [HE.out]
  exact ⟨r4, m4, cp4, rfl, hl4, (((Sg.nil w).step hs3.bel).addL hS4).sub (by simp)⟩

theorem infoX : (Tryz.prog.info? 41).map (fun i => (i.zero, i.size, i.bytes)) = some (some (.slice none 0 0), 1, 24) := by kernel_rfl
def xs (b : Bool) (QL : List CQ) : List (Sv × List T3) := QL.map fun q => (sdV b q.2.1 q.2.2, sdL b q.1)
theorem xs_take {QL : List CQ} {k : Nat} (b : Bool) (hk : k < QL.length) : xs b (QL.take (k + 1)) = xs b (QL.take k) ++ [(sdV b (QL.getD k zq).2.1 (QL.getD k zq).2.2, sdL b (QL.getD k zq).1)] := by
  unfold xs; rw [List.take_add_one, getQ hk, List.map_append]; rfl
theorem lsX_xs (b : Bool) (QL : List CQ) : lsX (xs b QL) = lsB b (cls QL) := by unfold lsX xs lsB cls; simp [Function.comp_def]
theorem oneXs (L : List (Sv × List T3)) : ∀ u ∈ kX.flat L, u.oneCell' = true := fun u hu => by
  unfold Kd.flat at hu
  obtain ⟨s, _, hs⟩ := List.mem_flatMap.mp hu
  simp [kX] at hs
  subst hs; rfl
theorem sEnd {w w1 W : World} {q : Option Addr} {n cp : Nat} {QL : List CQ} {b : Bool} (hS : Sg w w1 [rG kX (.slice q n cp) (xs b QL)]) (hR : ∀ x ∈ QL, RdQ w x.1 x.2.1 x.2.2) (hcl : (cls QL).all clB = true) (hb : Below w1.heap.size w1 W) : LsR W.heap.size W q (xs b QL) := by
  have hw : Below w.heap.size w W := bstep hS.bel hb (Nat.le_refl _)
  refine ⟨?_, fun x hx => ?_⟩
  · have hsl := (OwG.sl (hS.mem (K := kX) (v := .slice q n cp) (L := xs b QL) (by simp))).step hb
    rcases hsl with h | ⟨g, off, h1, h2⟩
    · exact .inl h
    · exact .inr ⟨g, off, h1, h2.1, h2⟩
  · unfold xs at hx
    obtain ⟨y, hy, rfl⟩ := List.mem_map.mp hx
    have hc : clB y.1 = true := List.all_eq_true.mp hcl _ (List.mem_map.mpr ⟨y, hy, rfl⟩)
    obtain ⟨h1, h2, _⟩ := (hR y hy).sd b
    have h8 := sdL_ok hc b
    exact ⟨Sl.slb (h1.step hw).ms (Nat.le_refl _), h2, h8.1, okL_t h8.2⟩
end Go.Proofs.YtbkiogedipmioaaGreat.V
