/-
  The law's marks and looks: lists of Nodes.
-/
import Derived.Test.YtipfcmfcdfofmaaGreatX2
namespace Go.Proofs.YtipfcmfcdfofmaaGreat
open Go.RowKit Go.Joins
attribute [local go_sem] Oper.semAt_some

theorem Sg.setNdAt {w W : World} {A Bs : List Rw} {g n c : Nat} {X Y : List (Nd × Sv)} {p : Nd × Sv} (h : Sg w W (A ++ rG kN (.slice (some ⟨g, 0, none⟩) n c) (X ++ p :: Y) :: Bs)) (nd : Nd) {o : Nat} (ho : o = X.length * 6) :
    Sg w (((((W.setCell ⟨g, o, none⟩ (.int .i64 nd.b.x)).setCell ⟨g, o + 1, none⟩ (.int .i64 nd.b.y)).setCell ⟨g, o + 2, none⟩ (.int .i64 nd.b.w)).setCell ⟨g, o + 3, none⟩ (.int .i64 nd.b.h)).setCell ⟨g, o + 4, none⟩ (.bool nd.lf)) (A ++ rG kN (.slice (some ⟨g, 0, none⟩) n c) (X ++ (nd, p.2) :: Y) :: Bs) := by
  have hn := OwG.len (h.mem (K := kN) (v := .slice (some ⟨g, 0, none⟩) n c) (L := X ++ p :: Y) (by simp))
  subst hn
  have h1 := ((((Sg.setRaw h o (.int .i64 nd.b.x)).setRaw (o + 1) (.int .i64 nd.b.y)).setRaw (o + 2) (.int .i64 nd.b.w)).setRaw (o + 3) (.int .i64 nd.b.h)).setRaw (o + 4) (.bool nd.lf)
  have hl : (kN.flat X).length = o := by rw [Kd.flat_len, ho]; rfl
  have e : ∀ q : Nd × Sv, kN.flat (X ++ q :: Y) = kN.flat X ++ (kN.vs q ++ kN.flat Y) := fun q => by rw [Kd.flat_append, Kd.flat_cons]
  have e2 : rG kN (.slice (some ⟨g, 0, none⟩) (X ++ p :: Y).length c) (X ++ (nd, p.2) :: Y) = ⟨.slice (some ⟨g, 0, none⟩) (X ++ p :: Y).length c, 49, 6, (X ++ p :: Y).length, (((((kN.flat (X ++ p :: Y)).set o (.int .i64 nd.b.x)).set (o + 1) (.int .i64 nd.b.y)).set (o + 2) (.int .i64 nd.b.w)).set (o + 3) (.int .i64 nd.b.h)).set (o + 4) (.bool nd.lf)⟩ := by
    unfold rG
    rw [e, e]
    have s0 : ∀ (zs : List Value) (j : Nat) (u : Value), (kN.flat X ++ zs).set (o + j) u = kN.flat X ++ zs.set j u := fun zs j u => by
      rw [List.set_append_right _ _ (by omega), hl]; congr 2; omega
    have := s0 (kN.vs p ++ kN.flat Y) 0 (.int .i64 nd.b.x)
    rw [Nat.add_zero] at this
    rw [this, s0, s0, s0, s0]
    simp [kN]
  rw [e2]; exact h1
theorem eqNode_same (nd : Nd) (s t : Sv) (hs : s.n = nd.ps.length) (ht : t.n = nd.ps.length) (hb : nd.ps.length ≤ 1000) (w : World) (h1 : SlG kI w s.p nd.ps) (h2 : SlG kI w t.p nd.ps) :
    Calls Tryz.prog 98 #[.agg #[.int .i64 nd.b.x, .int .i64 nd.b.y, .int .i64 nd.b.w, .int .i64 nd.b.h, .bool nd.lf, .slice s.p s.n s.c], .agg #[.int .i64 nd.b.x, .int .i64 nd.b.y, .int .i64 nd.b.w, .int .i64 nd.b.h, .bool nd.lf, .slice t.p t.n t.c]] w fun e w' => e = .returned (.bool true) ∧ Below w.heap.size w w' := by
  have HE : Hid (∀ W, Below w.heap.size w W → Calls Tryz.prog 28 #[.slice s.p s.n s.c, .slice t.p t.n t.c] W fun e w' => e = .returned (.bool true) ∧ Below W.heap.size W w') := fun W h => by
    rw [hs, ht]; exact eqInt64S_same s.p t.p s.c t.c nd.ps _ rfl W (h1.step h) (h2.step h) (by omega)
  have hst := ((St.nil w).push [.int .i64 nd.b.x, .int .i64 nd.b.y, .int .i64 nd.b.w, .int .i64 nd.b.h, .bool nd.lf, .slice s.p s.n s.c] 49).push [.int .i64 nd.b.x, .int .i64 nd.b.y, .int .i64 nd.b.w, .int .i64 nd.b.h, .bool nd.lf, .slice t.p t.n t.c] 49
  simp only [World.size_alloc] at hst
  clear hs ht hb h1 h2
  go_enter Tryz.func98, Tryz.ntmps98
  go_wp2_with (first
    | (go_at_call 123; refine (eqRect_any _ _ _ _ _).mono ?_; rintro e w1 ⟨rfl, hb2⟩; have hs1 := hst.step hb2; have hk := hs1.has; simp [Has, HasAt] at hk)
    | (go_at_call 28; refine (HE.out _ hs1.bel).mono ?_; rintro e w2 ⟨rfl, hb3⟩))
  go_ret
  exact ⟨rfl, bstep hs1.bel hb3 (Nat.le_refl _)⟩
/-- What a list of Nodes tells a reader. -/
def RdN (W : World) (p : Option Addr) (NL : List (Nd × Sv)) : Prop := SlG kN W p NL ∧ ∀ q ∈ NL, SlG kI W q.2.p q.1.ps ∧ q.2.n = q.1.ps.length
theorem RdN.step {w w' : World} {p : Option Addr} {NL : List (Nd × Sv)} (h : RdN w p NL) (hb : Below w.heap.size w w') : RdN w' p NL := ⟨h.1.step hb, fun q hq => ⟨(h.2 q hq).1.step hb, (h.2 q hq).2⟩⟩
theorem Sg.rdN {w W : World} {rs : List Rw} {p : Option Addr} {n c : Nat} {NL : List (Nd × Sv)} (h : Sg w W rs) (hm : ∀ r ∈ trR (.slice p n c) NL, r ∈ rs) : RdN W p NL := by
  refine ⟨OwG.sl (h.mem (K := kN) (v := .slice p n c) (L := NL) (hm _ (by simp [trR]))), fun q hq => ?_⟩
  have ho := h.mem (K := kI) (v := .slice q.2.p q.2.n q.2.c) (L := q.1.ps) (hm _ (by unfold trR; exact List.mem_cons_of_mem _ (List.mem_map_of_mem (f := fun p : Nd × Sv => rG kI p.2.v p.1.ps) hq)))
  exact ⟨OwG.sl ho, OwG.len ho⟩
set_option maxRecDepth 100000 in
set_option maxHeartbeats 2000000 in
theorem eqNodeS_same (p q : Option Addr) (cap cap' : Nat) (A B : List (Nd × Sv)) (n : Nat) (hn : A.length = n) (he : A.map Prod.fst = B.map Prod.fst) (hb : n ≤ 1000) (hps : ∀ x ∈ A, x.1.ps.length ≤ 1000) (w : World) (hp : RdN w p A) (hq : RdN w q B) :
    Calls Tryz.prog 65 #[.slice p n cap, .slice q n cap'] w fun e w' => e = .returned (.bool true) ∧ Below w.heap.size w w' := by
  have hBl : B.length = n := by have := congrArg List.length he; simp at this; omega
  have HH : Hid (A.length = n ∧ B.length = n ∧ A.map Prod.fst = B.map Prod.fst ∧ RdN w p A ∧ RdN w q B ∧ ∀ x ∈ A, x.1.ps.length ≤ 1000) := ⟨hn, hBl, he, hp, hq, hps⟩
  clear hn hBl he hp hq hps
  go_enter Tryz.func65, Tryz.ntmps65
  go_wp2
  go_loopw [5] (fun i wr => ∃ k : Nat, k ≤ n ∧ i = .int .i64 k ∧ Below w.heap.size w wr) (fun i _ => n - (intOf i).toNat)
  case atStart => exact ⟨0, by omega, rfl, Below.refl _ _⟩
  case round =>
    obtain ⟨k, hk, rfl, hb1⟩ := hrel
    by_cases hlt : k < n
    · have hki : (k : Int) < n := by omega
      obtain ⟨a1, a2, a3, a4, a5, a6⟩ := HH.out
      obtain ⟨g, off, rfl, hC⟩ := (a4.1.step hb1).at (k := k) (by omega)
      obtain ⟨g2, off2, rfl, hC2⟩ := (a5.1.step hb1).at (k := k) (by omega)
      have ga := getN (L := A) (k := k) (by omega)
      have gb := getN (L := B) (k := k) (by omega)
      have hab : (A.getD k zn).1 = (B.getD k zn).1 := by
        have h1 : (A.map Prod.fst)[k]? = (B.map Prod.fst)[k]? := by rw [a3]
        rw [List.getElem?_map, List.getElem?_map, ga, gb] at h1
        exact Option.some.inj h1
      have r1 := a4.2 _ (List.mem_of_getElem? ga)
      have r2 := a5.2 _ (List.mem_of_getElem? gb)
      have hl := a6 _ (List.mem_of_getElem? ga)
      obtain ⟨c0, c1, c2, c3, c4, c5⟩ := hC.nd ga
      obtain ⟨d0, d1, d2, d3, d4, d5⟩ := hC2.nd gb
      rw [← hab] at d0 d1 d2 d3 d4 r2
      obtain ⟨nd, hnd⟩ : ∃ nd, (A.getD k zn).1 = nd := ⟨_, rfl⟩
      obtain ⟨s, hsv⟩ : ∃ s, (A.getD k zn).2 = s := ⟨_, rfl⟩
      obtain ⟨t, htv⟩ : ∃ t, (B.getD k zn).2 = t := ⟨_, rfl⟩
      rw [hnd] at c0 c1 c2 c3 c4 d0 d1 d2 d3 d4 r1 r2 hl
      rw [hsv] at c5 r1
      rw [htv] at d5 r2
      have HE : Hid (∀ W, Below w.heap.size w W → Calls Tryz.prog 98 #[.agg #[.int .i64 nd.b.x, .int .i64 nd.b.y, .int .i64 nd.b.w, .int .i64 nd.b.h, .bool nd.lf, .slice s.p s.n s.c], .agg #[.int .i64 nd.b.x, .int .i64 nd.b.y, .int .i64 nd.b.w, .int .i64 nd.b.h, .bool nd.lf, .slice t.p t.n t.c]] W fun e w' => e = .returned (.bool true) ∧ Below W.heap.size W w') := fun W h => eqNode_same nd s t r1.2 r2.2 hl W (r1.1.step h) (r2.1.step h)
      clear hC hC2 ga gb hab r1 r2 hl hnd hsv htv a1 a2 a3 a4 a5 a6
      go_wp2
      go_region_with ((go_at_call 98; refine (HE.out _ hb1.drew).mono ?_; rintro e w1 ⟨rfl, hb2⟩))
      all_goals
        go_wp2
        go_roundw
        case rel => exact ⟨k + 1, by omega, by go_num, bstep hb1.drew hb2 (Nat.le_refl _)⟩
        case measure => simp [intOf]; omega
    · obtain rfl : k = n := by omega
      go_wp2
      go_ret
      exact ⟨rfl, hb1⟩
/-- Nodes that are marked: every number its own. -/
def lfK (k : Int) : Bool := k % 3 == 0
def mkNd (k : Int) (p : Nd × Sv) : Nd × Sv := (⟨⟨k, k + 1, k + 1 + 1, k + 1 + 1 + 1⟩, lfK (k + 1 + 1 + 1 + 1), mk1 (k + 1 + 1 + 1 + 1 + 1) p.1.ps.length⟩, p.2)
def mkNs (k : Int) : List (Nd × Sv) → List (Nd × Sv)
  | [] => []
  | p :: t => mkNd k p :: mkNs (k + 1 + 1 + 1 + 1 + 1 + p.1.ps.length) t
def endK (k : Int) : List (Nd × Sv) → Int
  | [] => k
  | p :: t => endK (k + 1 + 1 + 1 + 1 + 1 + p.1.ps.length) t
theorem mkNs_len : ∀ (k : Int) (NL : List (Nd × Sv)), (mkNs k NL).length = NL.length
  | _, [] => rfl
  | k, p :: t => by simp [mkNs, mkNs_len _ t]
theorem mkNs_snoc : ∀ (k : Int) (X : List (Nd × Sv)) (p : Nd × Sv), mkNs k (X ++ [p]) = mkNs k X ++ [mkNd (endK k X) p]
  | _, [], _ => rfl
  | k, q :: t, p => by simp [mkNs, endK, mkNs_snoc _ t p]
theorem endK_snoc : ∀ (k : Int) (X : List (Nd × Sv)) (p : Nd × Sv), endK k (X ++ [p]) = endK k X + 1 + 1 + 1 + 1 + 1 + p.1.ps.length
  | _, [], _ => rfl
  | k, q :: t, p => by simp only [List.cons_append, endK]; exact endK_snoc _ t p
theorem endK_bd : ∀ (k : Int) (X : List (Nd × Sv)), (∀ x ∈ X, x.1.ps.length ≤ 1000) → k ≤ endK k X ∧ endK k X ≤ k + 1005 * X.length
  | k, [], _ => by simp [endK]
  | k, p :: t, h => by
    have h1 := h p (List.mem_cons_self ..)
    have := endK_bd (k + 1 + 1 + 1 + 1 + 1 + p.1.ps.length) t fun x hx => h x (List.mem_cons_of_mem _ hx)
    simp only [endK, List.length_cons]; omega
end Go.Proofs.YtipfcmfcdfofmaaGreat
