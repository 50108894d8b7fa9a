/-
  The law of regions, walked.
-/
import Derived.Test.YtbkiogedipmioaaGreatVDC4
import Derived.Test.YtbkiogedipmioaaGreatVAL2
import Derived.Laws.StructEq
import Derived.Test.YtbkiogedipmioaaGreatVRG3
namespace Go.Proofs.YtbkiogedipmioaaGreat.V
open Go.RowKit Go.Joins M
attribute [local go_sem] Oper.semAt_some

theorem genB_mint {key tn : Int} {c : Cl} (h : mintB key tn c = true) : genB key tn [c] (mtag key tn c) = true := by
  unfold mintB at h
  rw [Bool.and_eq_true, Bool.and_eq_true] at h
  obtain ⟨h1, h2, h3⟩ := h
  have hin : inB (mtag key tn c) = true := (fold_hs (L := [tx c]) (mt_in h3 h1) (fun s hs => by simp at hs; subst hs; have := tx_size h2; omega)).2
  unfold genB
  rw [ppB_one, h1, h2, hin, mt_chain h1 h2 h3]
  simp
theorem genB_tag {key tn : Int} {L : List Cl} {tag : Int} (h : genB key tn L tag = true) : tag = chI key (dgS tn :: txs L) := by
  unfold genB at h
  rw [Bool.and_eq_true] at h
  exact eq_of_beq h.2
theorem genB_uniq {key tn : Int} {L : List Cl} {a b : Int} (ha : genB key tn L a = true) (hne : b ≠ a) : genB key tn L b = false := by
  cases hb : genB key tn L b
  · rfl
  · exact absurd ((genB_tag hb).trans (genB_tag ha).symm) hne
theorem genB_key {key tn : Int} {L : List Cl} {tag : Int} (h : genB key tn L tag = true) : inB key = true := by
  cases hk : inB key
  · rw [genB_no hk] at h; cases h
  · rfl
theorem genB_nar {key tn : Int} {L : List Cl} {tag : Int} {c : Cl} (h : genB key tn L tag = true) (hn : narB tn L tag c = true) : genB key tn (L ++ [c]) (hsF tag (tx c)) = true := by
  have hk := genB_key h
  have ht := genB_tag h
  unfold narB at hn
  rw [Bool.and_eq_true, Bool.and_eq_true, decide_eq_true_iff] at hn
  obtain ⟨hp, hc, h6⟩ := hn
  obtain ⟨p1, p2, p3, p4⟩ := ppB_t hp
  have htx := tx_size hc
  have hin : inB (hsF tag (tx c)) = true := (fold_hs (L := [tx c]) p4 (fun s hs => by simp at hs; subst hs; omega)).2
  have hpp : ppB tn (L ++ [c]) (hsF tag (tx c)) = true := by
    unfold ppB clsB
    rw [p1, hin, List.all_append, p3]
    simp [hc]
    omega
  have e : ctx c = tx c := by unfold ctx; rw [if_pos hc]
  have small : ∀ K : List Cl, ∀ s ∈ dgS tn :: txs K, s.size ≤ 200 := fun K s hs => by
    rcases List.mem_cons.mp hs with rfl | hs
    · exact dg_size p1
    · unfold txs at hs; obtain ⟨x, _, rfl⟩ := List.mem_map.mp hs; exact tx_small x
  rw [chI_hs hk (by unfold txs; simp; omega) (small L)] at ht
  unfold genB
  rw [hpp, chI_hs hk (by unfold txs; simp; omega) (small (L ++ [c])), Bool.true_and]
  have e2 : txs (L ++ [c]) = txs L ++ [tx c] := by unfold txs; rw [List.map_append]; simp [e]
  rw [e2, ← List.cons_append, List.foldl_append, ← ht]
  simp
theorem alB_nar {tn : Int} {L : List Cl} {tag tag' : Int} {c : Cl} {x y : Int} {b : Bool} {now : Int} (hn : narB tn L tag c = true) (h : alB tn (L ++ [c]) tag' x y b now = true) : alB tn L tag x y b now = true := by
  unfold narB at hn
  rw [Bool.and_eq_true] at hn
  unfold alB at h ⊢
  rw [Bool.and_eq_true, Bool.and_eq_true, Bool.and_eq_true, List.all_append, List.all_append, Bool.and_eq_true, Bool.and_eq_true] at h
  rw [hn.1, h.2.1, h.2.2.1.1, h.2.2.2.1]
  rfl

end Go.Proofs.YtbkiogedipmioaaGreat.V
namespace Go.Proofs.YtbkiogedipmioaaGreat.V
open Go.RowKit Go.Joins M
attribute [local go_sem] Oper.semAt_some

/-- A Spot. -/
def kSp : Kd (Int × Int) := ⟨40, 2, fun q => [.int .i64 q.1, .int .i64 q.2], fun _ => rfl⟩
theorem Sg.two {α : Type} {K : Kd α} {w W : World} {rs : List Rw} {g n : Nat} {p : α} {a b : Value} (h : Sg w W rs) (hm : rG K (.slice (some ⟨g, 0, none⟩) 1 n) [p] ∈ rs) (hv : K.vs p = [a, b]) :
    W.cell? ⟨g, 0, none⟩ = some a ∧ W.cell? ⟨g, 1, none⟩ = some b ∧ (∀ j, W.frozen? ⟨g, j, none⟩ = false) ∧ g < W.heap.size := by
  have ho := h.mem hm
  have h0 := (OwG.cs ho).at (k := 0) (a := p) rfl (i := 0) (u := a) (by rw [hv]; rfl)
  have h1 := (OwG.cs ho).at (k := 0) (a := p) rfl (i := 1) (u := b) (by rw [hv]; rfl)
  simp only [Nat.zero_mul, Nat.zero_add] at h0 h1
  exact ⟨h0, h1, OwG.fz ho, (OwG.cs ho).1⟩
theorem spotC {w W : World} {C : Cu} {rs : List Rw} (h : Sc w W C rs) :
    Calls Tryz.prog 104 #[.pointer (some ⟨C.g, 0, none⟩)] W fun e w' => ∃ x y : Int, e = .returned (.agg #[.int .i64 x, .int .i64 y]) ∧ Sc w w' C rs :=
  (drawSpot_any _ _ _ _ _ W h.cur).mono fun _ _ ⟨x, y, h1, h4, h5⟩ => ⟨x, y, h1, h.call h4 h5⟩
theorem Sc.setS {w W : World} {C : Cu} {A Bs : List Rw} {g n : Nat} {p : Int × Int} (h : Sc w W C (A ++ rG kSp (.slice (some ⟨g, 0, none⟩) 1 n) [p] :: Bs)) (x y : Int) :
    Sc w ((W.setCell ⟨g, 0, none⟩ (.int .i64 x)).setCell ⟨g, 1, none⟩ (.int .i64 y)) C (A ++ rG kSp (.slice (some ⟨g, 0, none⟩) 1 n) [(x, y)] :: Bs) := by
  have hn := OwG.len (h.sg.mem (K := kSp) (v := .slice (some ⟨g, 0, none⟩) 1 n) (L := [p]) (by simp))
  have h0 := h.raw 0 (.int .i64 x) (L' := [(x, p.2)]) (Sg.setRaw (xs := [.int .i64 p.1, .int .i64 p.2]) h.sg 0 (.int .i64 x))
  exact h0.raw 1 (.int .i64 y) (L' := [(x, y)]) (Sg.setRaw (xs := [.int .i64 x, .int .i64 p.2]) h0.sg 1 (.int .i64 y))
theorem mem_ins {m : T3} (hm : m.ok = true) {x y : Int} (hs : spB x y = true) : insT ⟨8, x, y⟩ m = true ↔ mem (⟨8, x, y⟩ : T3).lo m := by
  have hp : (⟨8, x, y⟩ : T3).ok = true := cell8_ok hs
  have hsz : (⟨8, x, y⟩ : T3).hi = (⟨8, x, y⟩ : T3).lo + 1 := rfl
  rw [ins_iff hp hm]
  unfold mem
  constructor
  · rintro ⟨h1, h2⟩; exact ⟨h1, by omega⟩
  · rintro ⟨h1, h2⟩; exact ⟨h1, by omega⟩
theorem have_cov {K : List T3} (hK : ∀ c ∈ K, c.ok = true) {x y : Int} (hs : spB x y = true) : haveB K ⟨8, x, y⟩ = true ↔ cov K (⟨8, x, y⟩ : T3).lo := by
  unfold haveB cov
  rw [List.any_eq_true]
  constructor
  · rintro ⟨m, hm, h⟩; exact ⟨m, hm, (mem_ins (hK m hm) hs).mp h⟩
  · rintro ⟨m, hm, h⟩; exact ⟨m, hm, (mem_ins (hK m hm) hs).mpr h⟩
/-- What all Clauses reach the region reaches, and nothing else. -/
theorem reach_all {tn : Int} {L : List Cl} {tag : Int} (hp : ppB tn L tag = true) (b : Bool) (x y : Int) : L.all (reB b x y) = reachI (rgL (lsB b L)) x y := by
  obtain ⟨_, hl, hcl, _⟩ := ppB_t hp
  obtain ⟨hok, h8⟩ := lsB_ok hcl b
  have hlen : (lsB b L).length ≤ 6 := by unfold lsB; rw [List.length_map]; exact hl.2
  have hkr := rgL_okL hok h8 hlen
  cases hs : spB x y
  · have h1 : L.all (reB b x y) = false := by
      match L, hl with
      | c :: t, _ =>
        have : reB b x y c = false := by unfold reB reachI; rw [hs, Bool.and_false, Bool.false_and]
        simp [this]
    rw [h1]
    unfold reachI
    rw [hs, Bool.and_false, Bool.false_and]
  · have hin := ok_in (c := ⟨8, x, y⟩) (cell8_ok hs)
    have hsz : (⟨8, x, y⟩ : T3).hi = (⟨8, x, y⟩ : T3).lo + 1 := rfl
    have hz : mem (⟨8, x, y⟩ : T3).lo zro := zro_mem.mpr ⟨hin.1, by omega⟩
    unfold reachI
    rw [hkr, hs, Bool.true_and, Bool.true_and, Bool.eq_iff_iff, List.all_eq_true, have_cov (rgL_ok hok) hs, ← (rgL_of hok).has _ hz]
    constructor
    · intro h K hK
      unfold lsB at hK
      obtain ⟨c, hc, rfl⟩ := List.mem_map.mp hK
      have h1 := h c hc
      have h2 := sdL_ok (List.all_eq_true.mp hcl c hc) b
      unfold reB reachI at h1
      rw [h2.2, hs, Bool.true_and, Bool.true_and, have_cov (okL_t h2.2) hs] at h1
      exact h1
    · intro h c hc
      have h2 := sdL_ok (List.all_eq_true.mp hcl c hc) b
      unfold reB reachI
      rw [h2.2, hs, Bool.true_and, Bool.true_and, have_cov (okL_t h2.2) hs]
      exact h _ (List.mem_map.mpr ⟨c, hc, rfl⟩)
theorem rgP_len {tn : Int} {L : List Cl} {tag : Int} {b : Bool} : (rgP tn L tag b).length ≤ 49 := by
  unfold rgP
  cases hp : ppB tn L tag
  · exact Nat.zero_le _
  · obtain ⟨_, hl, hcl, _⟩ := ppB_t hp
    obtain ⟨hok, h8⟩ := lsB_ok hcl b
    have := rgL_len hok h8
    have e : (lsB b L).length = L.length := by unfold lsB; rw [List.length_map]
    simp only [cond_true]
    omega
theorem allows_reach {tn : Int} {L : List Cl} {tag x y : Int} {b : Bool} {now : Int} (h : alB tn L tag x y b now = true) : reachI (rgP tn L tag b) x y = true := by
  unfold alB at h
  rw [Bool.and_eq_true, Bool.and_eq_true, Bool.and_eq_true] at h
  unfold rgP
  rw [h.1, cond_true, ← reach_all h.1 b x y]
  exact h.2.2.2
theorem reach_pos {K : List T3} {x y : Int} (h : reachI K x y = true) : K.length ≠ 0 := by
  unfold reachI haveB at h
  cases K with
  | nil => simp at h
  | cons a t => simp
theorem allows_lasts {tn : Int} {L : List Cl} {tag x y : Int} {b : Bool} (hl : L.all (laB 0) = true) : alB tn L tag x y b 0 = reachI (rgP tn L tag b) x y := by
  unfold alB rgP
  cases hp : ppB tn L tag
  · unfold reachI haveB; simp
  · rw [hl, cond_true, ← reach_all hp b x y]
    rfl
end Go.Proofs.YtbkiogedipmioaaGreat.V
namespace Go.Proofs.YtbkiogedipmioaaGreat.V
open Go.RowKit Go.Joins M
attribute [local go_sem] Oper.semAt_some

theorem Sc.toP {w W : World} {C : Cu} {A B : List Rw} {b : Nat} {x : Pv} (h : Sc w W C (A ++ rG kP (.slice (some ⟨b, 0, none⟩) 1 1) [x] :: B)) (v : Pv) :
    Sc w (((W.setCell ⟨b, 0, none⟩ (.int .i64 v.tn)).setCell ⟨b, 1, none⟩ (.slice v.s.p v.s.n v.s.c)).setCell ⟨b, 2, none⟩ (.int .i64 v.tag)) C (A ++ rG kP (.slice (some ⟨b, 0, none⟩) 1 1) [v] :: B) := Sc.setP h v
theorem Sc.toS {w W : World} {C : Cu} {A B : List Rw} {b : Nat} {r : Rw} {p : Int × Int} (h : Sc w W C (A ++ r :: rG kSp (.slice (some ⟨b, 0, none⟩) 1 1) [p] :: B)) (x y : Int) :
    Sc w ((W.setCell ⟨b, 0, none⟩ (.int .i64 x)).setCell ⟨b, 1, none⟩ (.int .i64 y)) C (A ++ r :: rG kSp (.slice (some ⟨b, 0, none⟩) 1 1) [(x, y)] :: B) := by
  have h1 := Sc.setS (A := A ++ [r]) (g := b) (n := 1) (p := p) (Bs := B) (by simpa [List.append_assoc] using h) x y
  simpa [List.append_assoc] using h1
theorem Sg.spot {w W : World} {rs : List Rw} {g n : Nat} {x y : Int} (h : Sg w W rs) (hm : rG kSp (.slice (some ⟨g, 0, none⟩) 1 n) [(x, y)] ∈ rs) :
    W.cell? ⟨g, 0, none⟩ = some (.int .i64 x) ∧ W.cell? ⟨g, 1, none⟩ = some (.int .i64 y) ∧ (∀ j, W.frozen? ⟨g, j, none⟩ = false) ∧ g < W.heap.size := h.two hm rfl
end Go.Proofs.YtbkiogedipmioaaGreat.V
namespace Go.Proofs.YtbkiogedipmioaaGreat.V
open Go.RowKit Go.Joins M
attribute [local go_sem] Oper.semAt_some

/-- A Paper's lists read these Clauses. -/
def LvP (X : List CQ) (cs : List Cl) (N : Nat) : Prop := cls X = cs ∧ sm6 X ∧ X.length = N ∧ N ≤ 7
theorem pOk.lv {X : List CQ} {n : Nat} (h : pOk X n) : LvP X (cls X) n := ⟨rfl, h.2.2, h.1, h.2.1⟩
section
variable {w W : World} {rs : List Rw} {q q' : Option Addr} {n cp cp' N : Nat} {X : List CQ} {L : List Cl} {M : List T3} {tn tag x y now : Int} {b v : Bool}
theorem iRegV (hM : rgP tn L tag b = M) (hN : M.length = N) (hS : Sg w W rs) (hX : Hid (LvP X L n)) (hm : ∀ r ∈ trX (.slice q n cp) X [], r ∈ rs) :
    Calls Tryz.prog 13 #[.agg #[.int .i64 tn, .slice q n cp, .int .i64 tag], .bool b] W fun e w' => ∃ r c, e = .returned (.slice r N c) ∧ Sg W w' [rG kC (.slice r N c) M] := by
  obtain ⟨x1, x2, x3, x4⟩ := hX.out
  subst x1 hM
  refine (iRegion_any tn tag b q cp n X x3 (by omega) (hS.plQ hm) W (hS.rdS x2.q hm)).mono ?_
  rintro e w' ⟨r, k, c, he, hk, h⟩
  rw [hN] at hk; subst hk
  exact ⟨r, c, he, h⟩
theorem iAllV (hv : alB tn L tag x y b now = v) (hS : Sg w W rs) (hX : Hid (LvP X L n)) (hm : ∀ r ∈ trX (.slice q n cp) X [], r ∈ rs) :
    Calls Tryz.prog 12 #[.agg #[.int .i64 tn, .slice q n cp, .int .i64 tag], .agg #[.int .i64 x, .int .i64 y], .bool b, .int .i64 now] W fun e w' => e = .returned (.bool v) ∧ Below W.heap.size W w' := by
  obtain ⟨x1, x2, x3, x4⟩ := hX.out
  subst x1
  exact iAllows_v hv x3 (by omega) W (hS.rdS x2.q hm)
theorem sAllV (hv : alB tn L tag x y b now = v) (hS : Sg w W rs) (hX : Hid (LvP X L n)) (hm : ∀ r ∈ trX (.slice q n cp) X [], r ∈ rs) :
    Calls Tryz.prog 39 #[.agg #[.int .i64 tn, .slice q n cp, .int .i64 tag], .agg #[.int .i64 x, .int .i64 y], .bool b, .int .i64 now] W fun e w' => e = .returned (.bool v) ∧ Below W.heap.size W w' := by
  obtain ⟨x1, x2, x3, x4⟩ := hX.out
  subst x1
  exact sAllows_v hv x3 (by omega) W (hS.rdS x2.q hm)
theorem iRchV (hv : reachI M x y = v) (hN : M.length = N) (hN2 : N ≤ 49) (hS : Sg w W rs) (m1 : rG kC (.slice q N cp) M ∈ rs) :
    Calls Tryz.prog 14 #[.slice q N cp, .agg #[.int .i64 x, .int .i64 y]] W fun e w' => e = .returned (.bool v) ∧ Below W.heap.size W w' := by
  have := iReaches_v hv q cp W (OwG.sl (hS.mem m1)).ms (by omega)
  rw [hN] at this
  exact this
end
end Go.Proofs.YtbkiogedipmioaaGreat.V
