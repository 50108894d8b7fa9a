/-
  Region: the program's and the spec's.
-/
import Derived.Test.YtkinbgcnenieeaaRG2
import Derived.Test.YtkinbgcnenieeaaAL3
namespace Go.Proofs.Ytkinbgcnenieeaa
open Go.RowKit Go.Joins M
attribute [local go_sem] Oper.semAt_some

/-- Where a slice may start. -/
def plQ (QL : List CQ) : Prop := ∀ q ∈ QL, Pl q.2.1.p ∧ Pl q.2.2.p
theorem plQ_sd {QL : List CQ} (h : plQ QL) {q : CQ} (hq : q ∈ QL) (b : Bool) : Pl (sdV b q.2.1 q.2.2).p := by
  cases b
  · exact (h q hq).1
  · exact (h q hq).2
theorem Sg.plQ {w W : World} {rs : List Rw} {v : Value} {QL : List CQ} (h : Sg w W rs) (hm : ∀ r ∈ trX v QL [], r ∈ rs) : plQ QL := fun q hq => by
  have h1 : ∀ r ∈ clR q.1 q.2.1 q.2.2, r ∈ rs := fun r hr => hm r (by unfold trX; exact List.mem_cons_of_mem _ (List.mem_flatMap.mpr ⟨q, hq, hr⟩))
  have o1 := h.mem (K := kC) (v := .slice q.2.1.p q.2.1.n q.2.1.c) (L := q.1.rd) (h1 _ (by simp [clR, Sv.v]))
  have o2 := h.mem (K := kC) (v := .slice q.2.2.p q.2.2.n q.2.2.c) (L := q.1.wr) (h1 _ (by simp [clR, Sv.v]))
  exact ⟨Ow.pl (L := q.1.rd) o1, Ow.pl (L := q.1.wr) o2⟩
/-- A list of Cells is answered, in memory of its own. -/
def CelO (W : World) (R : List T3) (e : Ending) (w' : World) : Prop := ∃ r n cp, e = .returned (.slice r n cp) ∧ R.length = n ∧ Sg W w' [rG kC (.slice r n cp) R]
theorem CelO.of {W w' : World} {R : List T3} {v : Value} {e : Ending} (he : e = .returned v) (ho : OwG kC w' W.heap.size v R) (hb : Below W.heap.size W w') : CelO W R e w' := by
  obtain ⟨r, cp, rfl, _⟩ := OwG.form ho
  exact ⟨r, _, cp, he, rfl, (Sg.nil W).add (r := rG kC (.slice r R.length cp) R) ho hb⟩
theorem iCom_v {M K R : List T3} {p q : Option Addr} {m k cap cap2 : Nat} (h : comS M K = R) (hm : M.length = m) (hk : K.length = k) (hm1 : m ≤ 1048576) (hk1 : k ≤ 1048576) (w : World) (hM : SlG kC w p M) (hp : Pl p) (hK : SlG kC w q K) (hq : Pl q) :
    Calls Try.prog 47 #[.slice p m cap, .slice q k cap2] w (CelO w R) := by
  subst h hm hk
  exact (iCommon_any p q cap cap2 M K w hM.ms hp hm1 hK.ms hq hk1).mono fun e w' ⟨v, h1, h2, h3⟩ => CelO.of h1 h2 h3
/-- The lists for reading or for writing. -/
def lsB (b : Bool) (L : List Cl) : List (List T3) := L.map (sdL b)
theorem lsB_take {QL : List CQ} {k : Nat} (b : Bool) (hk : k < QL.length) : lsB b ((cls QL).take (k + 1)) = lsB b ((cls QL).take k) ++ [sdL b (QL.getD k zq).1] := by
  unfold lsB; rw [List.take_add_one, cls_get hk, List.map_append]; rfl
theorem lsB_ok {L : List Cl} (h : L.all clB = true) (b : Bool) : okLs (lsB b L) ∧ ∀ K ∈ lsB b L, K.length ≤ 8 := by
  refine ⟨fun K hK => ?_, fun K hK => ?_⟩ <;>
  · unfold lsB at hK
    obtain ⟨c, hc, rfl⟩ := List.mem_map.mp hK
    have := sdL_ok (List.all_eq_true.mp h c hc) b
    first | exact okL_t this.2 | exact this.1
theorem all_takeT {L : List Cl} {f : Cl → Bool} (h : L.all f = true) (k : Nat) : (L.take k).all f = true := by
  rw [List.all_eq_true] at h ⊢
  exact fun x hx => h x (List.mem_of_mem_take hx)
set_option maxRecDepth 100000 in
set_option maxHeartbeats 4000000 in
theorem common_any (b : Bool) (p : Option Addr) (cap n : Nat) (QL : List CQ) (hn : QL.length = n) (h6 : n ≤ 6) (hcl : (cls QL).all clB = true) (hpl : plQ QL) (w : World) (hR : RdS w p QL) :
    Calls Try.prog 30 #[.slice p n cap, .bool b] w (CelO w (rgL (lsB b (cls QL)))) := by
  have HN : Hid (QL.length = n ∧ RdS w p QL ∧ (cls QL).all clB = true ∧ plQ QL) := ⟨hn, hR, hcl, hpl⟩
  have hS0 := (Sg.nil w).lit kC [zro] 1 rfl (by decide) #[.int .i64 0, .int .i64 0, .int .i64 0] rfl
  change Sg w (w.alloc (.cells #[.int .i64 0, .int .i64 0, .int .i64 0] 62)) _ at hS0
  clear hn hR hcl hpl
  go_enter Try.func30, Try.ntmps30
  go_wp2
  go_loopw [5, 12] (fun cv i wr => ∃ (k : Nat) (r : Option Addr) (m cp : Nat) (M : List T3), k ≤ n ∧ i = .int .i64 k ∧ cv = .slice r m cp ∧ Hid (M = rgL (lsB b ((cls QL).take k)) ∧ M.length = m) ∧ Sg w wr [rG kC (.slice r m cp) M]) (fun _ i _ => n - (intOf i).toNat)
  case atStart => exact ⟨0, _, 1, 1, [zro], by omega, rfl, rfl, ⟨rgL_nil.symm, rfl⟩, hS0⟩
  case round =>
    clear hS0
    obtain ⟨k, r, m, cp, M, hk, rfl, rfl, hM, hS⟩ := hrel
    by_cases hlt : k < n
    · have hki : (k : Int) < n := by omega
      have hkL : k < QL.length := by rw [HN.out.1]; exact hlt
      obtain ⟨g, off, rfl, hC⟩ := (HN.out.2.1.1.step hS.bel).at hkL
      obtain ⟨c0, c1, c2⟩ := hC.q3 (getQ hkL)
      have hq := HN.out.2.1.2 _ (List.mem_of_getElem? (getQ hkL))
      have hcl : clB (QL.getD k zq).1 = true := List.all_eq_true.mp HN.out.2.2.1 _ (List.mem_of_getElem? (cls_get hkL))
      have hpl := plQ_sd HN.out.2.2.2 (List.mem_of_getElem? (getQ hkL)) b
      have hat := lsB_take b hkL
      have hok := lsB_ok (all_takeT HN.out.2.2.1 k) b
      have hl6 : (lsB b ((cls QL).take k)).length ≤ 6 := by unfold lsB; rw [List.length_map, List.length_take]; omega
      have hm49 := rgL_len hok.1 hok.2
      rw [← hM.out.1, hM.out.2] at hm49
      obtain ⟨⟨c, s, t⟩, hx⟩ : ∃ x : CQ, QL.getD k zq = x := ⟨_, rfl⟩
      rw [hx] at c0 c1 c2 hq hat hpl hcl
      simp only at c0 c1 c2 hq hat hpl hcl
      have hcom : comS M (sdL b c) = rgL (lsB b ((cls QL).take (k + 1))) := by rw [hM.out.1, hat]; exact rgL_snoc hok.1 (sdL_ok hcl b).2 hok.2 hl6
      obtain ⟨q1, q2, _⟩ := hq.sd b
      have h8 := (sdL_ok hcl b).1
      have hs1 := hS.step (below_alloc1 _ (.cells #[.slice s.p s.n s.c, .slice t.p t.n t.c, .int .i64 c.un] 48))
      have hown : OwG kC wr w.heap.size (.slice r m cp) M := hS.mem (by simp)
      have HC : Hid (∀ W, Below wr.heap.size wr W → Calls Try.prog 47 #[.slice r m cp, .slice (sdV b s t).p (sdV b s t).n (sdV b s t).c] W (CelO W (rgL (lsB b ((cls QL).take (k + 1)))))) := fun W h => iCom_v hcom hM.out.2 q2 (by omega) (by omega) W ((OwG.sl hown).step h) (Ow.pl (L := M) hown) (q1.step (bstep hS.bel h (Nat.le_refl _))) hpl
      clear hC hkL hq hat hx hcl hpl hok hl6 hm49 hcom q1 q2 h8 hown
      have hb0 := below_alloc1 wr (.cells #[.slice s.p s.n s.c, .slice t.p t.n t.c, .int .i64 c.un] 48)
      go_wp2_with (first
        | (go_at_call 42; refine (cellsTo_any s t c.un b _).mono ?_; rintro e w1 ⟨rfl, hb1⟩)
        | (go_at_call 47; refine (HC.out _ (bstep hb0 hb1 (Nat.le_refl _))).mono ?_; rintro e w2 ⟨r2, m2, cp2, rfl, hl2, hS2⟩))
      go_roundw
      case rel => exact ⟨k + 1, r2, m2, cp2, _, by omega, by go_num, rfl, ⟨rfl, hl2⟩, ((hs1.step hb1).addL hS2).sub (by simp)⟩
      case measure => simp [intOf]; omega
    · obtain rfl : k = n := by omega
      have HF : Hid (M = rgL (lsB b (cls QL)) ∧ M.length = m) := by
        have h := hM.out
        rw [List.take_of_length_le (by rw [cls_len, HN.out.1]; exact Nat.le_refl _)] at h
        exact h
      go_wp2
      go_ret
      exact ⟨r, m, cp, rfl, by rw [← HF.out.1]; exact HF.out.2, by rw [← HF.out.1]; exact hS⟩
/-- A Paper's region. -/
def rgP (tn : Int) (L : List Cl) (tag : Int) (b : Bool) : List T3 := bif ppB tn L tag then rgL (lsB b L) else []
set_option maxRecDepth 100000 in
set_option maxHeartbeats 2000000 in
theorem iRegion_any (tn tag : Int) (b : Bool) (p : Option Addr) (cap n : Nat) (QL : List CQ) (hn : QL.length = n) (hb0 : n ≤ 10000000) (hpl : plQ QL) (w : World) (hR : RdS w p QL) :
    Calls Try.prog 12 #[.agg #[.int .i64 tn, .slice p n cap, .int .i64 tag], .bool b] w (CelO w (rgP tn (cls QL) tag b)) := by
  have hst := (St.nil w).push [.int .i64 tn, .slice p n cap, .int .i64 tag] 31
  have H1 : Hid (∀ W v, ppB tn (cls QL) tag = v → Below w.heap.size w W → Calls Try.prog 24 #[.agg #[.slice p n cap, .int .i64 tn, .int .i64 tag]] W fun e w' => e = .returned (.bool v) ∧ Below W.heap.size W w') := fun W v hv h => iPaper_v hv hn hb0 W (hR.step h)
  cases h1 : ppB tn (cls QL) tag
  · have HE : Hid (rgP tn (cls QL) tag b = []) := by unfold rgP; rw [h1]; exact rfl
    clear hn hR hpl
    go_enter Try.func12, Try.ntmps12
    go_wp2_with (first
      | (go_at_call 23; refine (heldAs_any tn tag p n cap _).mono ?_; rintro e w1 ⟨rfl, hb1⟩; have hs1 := hst.step hb1; have hs2 := hs1.push [.slice p n cap, .int .i64 tn, .int .i64 tag] 53)
      | (go_at_call 24; refine (H1.out _ _ h1 hs2.bel).mono ?_; rintro e w2 ⟨rfl, hb2⟩))
    go_ret
    rw [HE.out]
    exact ⟨none, 0, 0, rfl, rfl, ((Sg.nil w).nilRow kC).step (hs2.step hb2).bel⟩
  obtain ⟨_, hl, hcl, _⟩ := ppB_t h1
  rw [cls_len, hn] at hl
  have HE : Hid (rgP tn (cls QL) tag b = rgL (lsB b (cls QL))) := by unfold rgP; rw [h1]; exact rfl
  have H3 : Hid (∀ W, Below w.heap.size w W → Calls Try.prog 30 #[.slice p n cap, .bool b] W (CelO W (rgL (lsB b (cls QL))))) := fun W h => common_any b p cap n QL hn hl.2 hcl hpl W (hR.step h)
  clear hn hR hpl hcl
  go_enter Try.func12, Try.ntmps12
  go_wp2_with (first
    | (go_at_call 23; refine (heldAs_any tn tag p n cap _).mono ?_; rintro e w1 ⟨rfl, hb1⟩; have hs1 := hst.step hb1; have hs2 := hs1.push [.slice p n cap, .int .i64 tn, .int .i64 tag] 53)
    | (go_at_call 24; refine (H1.out _ _ h1 hs2.bel).mono ?_; rintro e w2 ⟨rfl, hb2⟩; have hs3 := hs2.step hb2; have hk := hs3.has; simp [Has, HasAt] at hk)
    | (go_at_call 30; refine (H3.out _ hs3.bel).mono ?_; rintro e w4 ⟨r4, m4, cp4, rfl, hl4, hS4⟩))
  go_ret
  rw [HE.out]
  exact ⟨r4, m4, cp4, rfl, hl4, (((Sg.nil w).step hs3.bel).addL hS4).sub (by simp)⟩

theorem infoX : (Try.prog.info? 37).map (fun i => (i.zero, i.size, i.bytes)) = some (some (.slice none 0 0), 1, 24) := by kernel_rfl
theorem appX : Ap kX 59 (.slice none 0 0) 24 := ⟨Try.underlying59, infoX, rfl, by decide, by decide⟩
def xs (b : Bool) (QL : List CQ) : List (Sv × List T3) := QL.map fun q => (sdV b q.2.1 q.2.2, sdL b q.1)
theorem xs_take {QL : List CQ} {k : Nat} (b : Bool) (hk : k < QL.length) : xs b (QL.take (k + 1)) = xs b (QL.take k) ++ [(sdV b (QL.getD k zq).2.1 (QL.getD k zq).2.2, sdL b (QL.getD k zq).1)] := by
  unfold xs; rw [List.take_add_one, getQ hk, List.map_append]; rfl
theorem lsX_xs (b : Bool) (QL : List CQ) : lsX (xs b QL) = lsB b (cls QL) := by unfold lsX xs lsB cls; simp [Function.comp_def]
theorem oneXs (L : List (Sv × List T3)) : ∀ u ∈ kX.flat L, u.oneCell' = true := fun u hu => by
  unfold Kd.flat at hu
  obtain ⟨s, _, hs⟩ := List.mem_flatMap.mp hu
  simp [kX] at hs
  subst hs; rfl
theorem sEnd {w w1 W : World} {q : Option Addr} {n cp : Nat} {QL : List CQ} {b : Bool} (hS : Sg w w1 [rG kX (.slice q n cp) (xs b QL)]) (hR : ∀ x ∈ QL, RdQ w x.1 x.2.1 x.2.2) (hcl : (cls QL).all clB = true) (hb : Below w1.heap.size w1 W) : LsR W.heap.size W q (xs b QL) := by
  have hw : Below w.heap.size w W := bstep hS.bel hb (Nat.le_refl _)
  refine ⟨?_, fun x hx => ?_⟩
  · have hsl := (OwG.sl (hS.mem (K := kX) (v := .slice q n cp) (L := xs b QL) (by simp))).step hb
    rcases hsl with h | ⟨g, off, h1, h2⟩
    · exact .inl h
    · exact .inr ⟨g, off, h1, h2.1, h2⟩
  · unfold xs at hx
    obtain ⟨y, hy, rfl⟩ := List.mem_map.mp hx
    have hc : clB y.1 = true := List.all_eq_true.mp hcl _ (List.mem_map.mpr ⟨y, hy, rfl⟩)
    obtain ⟨h1, h2, _⟩ := (hR y hy).sd b
    have h8 := sdL_ok hc b
    exact ⟨Sl.slb (h1.step hw).ms (Nat.le_refl _), h2, h8.1, okL_t h8.2⟩
theorem l10_v {X : List (Sv × List T3)} {q : Option Addr} {n cp g : Nat} (hn : X.length = n) (h6 : n ≤ 6) (w : World) (hg : w.heap.size = g) (hX : LsR w.heap.size w q X) :
    Calls Try.prog 29 #[.slice q n cp, .agg #[.int .i64 0, .int .i64 0, .int .i64 0], .slice (some ⟨g, 0, none⟩) 0 0] (w.alloc (.cells #[] 62)) (CelO w (rgL (lsX X))) := by
  subst hg
  have hb := below_alloc1 w (.cells #[] 62)
  refine (l10Region_any q n cp w.heap.size hn h6 8 zro _ [] (w.alloc (.cells #[] 62)) zro_ok zro_8 (own_empty w w.heap.size (Nat.le_refl _)) (hX.step hb) (by decide) hb.size).mono fun e w' ⟨v', h1, h2⟩ => ?_
  rw [List.nil_append] at h2
  refine CelO.of h1 h2.own ?_
  have hgr := h2.gr
  exact ⟨hgr.os.trans hb.os, hgr.tape.trans hb.tape, hgr.output.trans hb.output, Nat.le_trans hb.size hgr.size, fun k hk => (hgr.block k (Nat.lt_of_lt_of_le hk hb.size) (fun e => absurd (show k = w.heap.size from Option.some.inj e) (by omega))).trans (hb.block k hk)⟩
set_option maxRecDepth 100000 in
set_option maxHeartbeats 4000000 in
theorem sRegion_any (tn tag : Int) (b : Bool) (p : Option Addr) (cap n : Nat) (QL : List CQ) (hn : QL.length = n) (hb0 : n ≤ 10000000) (w : World) (hR : RdS w p QL) :
    Calls Try.prog 11 #[.agg #[.int .i64 tn, .slice p n cap, .int .i64 tag], .bool b] w (CelO w (rgP tn (cls QL) tag b)) := by
  have hst := (Sg.nil w).lit kP [⟨tn, ⟨p, n, cap⟩, tag⟩] 1 rfl (by decide) #[.int .i64 tn, .slice p n cap, .int .i64 tag] rfl
  change Sg w (w.alloc (.cells #[.int .i64 tn, .slice p n cap, .int .i64 tag] 31)) _ at hst
  have H1 : Hid (∀ W v, ppB tn (cls QL) tag = v → Below w.heap.size w W → Calls Try.prog 18 #[.agg #[.int .i64 tn, .slice p n cap, .int .i64 tag]] W fun e w' => e = .returned (.bool v) ∧ Below W.heap.size W w') := fun W v hv h => sPaper_v hv hn hb0 W (hR.step h)
  cases h1 : ppB tn (cls QL) tag
  · have HE : Hid (rgP tn (cls QL) tag b = []) := by unfold rgP; rw [h1]; exact rfl
    clear hn hR
    go_enter Try.func11, Try.ntmps11
    go_wp2_with (go_at_call 18; refine (H1.out _ _ h1 hst.bel).mono ?_; rintro e w2 ⟨rfl, hb2⟩; have hS2 := (hst.step hb2).lit kC [] 0 rfl (by decide) #[] rfl)
    go_ret
    rw [HE.out]
    exact ⟨_, 0, 0, rfl, rfl, hS2.sub (by simp)⟩
  obtain ⟨_, hl, hcl, _⟩ := ppB_t h1
  rw [cls_len, hn] at hl
  have HE : Hid (rgP tn (cls QL) tag b = rgL (lsB b (cls QL))) := by unfold rgP; rw [h1]; exact rfl
  have HN : Hid (QL.length = n ∧ RdS w p QL ∧ (cls QL).all clB = true) := ⟨hn, hR, hcl⟩
  clear hn hR hcl
  obtain ⟨x0, x1, x2, xf, xg⟩ := hst.three (K := kP) (g := w.heap.size) (n := 1) (p := ⟨tn, ⟨p, n, cap⟩, tag⟩) (by simp) rfl
  go_enter Try.func11, Try.ntmps11
  go_wp2_with (go_at_call 18; refine (H1.out _ _ h1 hst.bel).mono ?_; rintro e w2 ⟨rfl, hb2⟩; have hS2 := (hst.step hb2).lit kX [] 0 rfl (by decide) #[] rfl; clear x0 x1 x2 xf xg)
  go_loopw [5, 6] (fun lv i wr => ∃ (k : Nat) (q : Option Addr) (cp : Nat) (X : List (Sv × List T3)), k ≤ n ∧ i = .int .i64 k ∧ lv = .slice q k cp ∧ Hid (X = xs b (QL.take k) ∧ X.length = k) ∧ (¬ lv = .slice none 0 0) ∧ Sg w wr [rG kX (.slice q k cp) X, rG kP (.slice (some ⟨w.heap.size, 0, none⟩) 1 1) [⟨tn, ⟨p, n, cap⟩, tag⟩]]) (fun _ i _ => n - (intOf i).toNat)
  case atStart => exact ⟨0, _, _, [], by omega, rfl, rfl, ⟨rfl, rfl⟩, by simp, hS2⟩
  case round =>
    clear hS2 hst
    obtain ⟨k, q, cp, X, hk, rfl, rfl, hX, hnn, hS⟩ := hrel
    obtain ⟨x0, x1, x2, xf, xg⟩ := hS.three (K := kP) (g := w.heap.size) (n := 1) (p := ⟨tn, ⟨p, n, cap⟩, tag⟩) (by simp) rfl
    by_cases hlt : k < n
    · have hki : (k : Int) < n := by omega
      have hkL : k < QL.length := by rw [HN.out.1]; exact hlt
      obtain ⟨g, off, rfl, hC⟩ := (HN.out.2.1.1.step hS.bel).at hkL
      obtain ⟨c0, c1, c2⟩ := hC.q3 (getQ hkL)
      have hat := xs_take b hkL
      obtain ⟨⟨c, s, t⟩, hx⟩ : ∃ x : CQ, QL.getD k zq = x := ⟨_, rfl⟩
      rw [hx] at c0 c1 c2 hat
      simp only at c0 c1 c2 hat
      have HAT : Hid (xs b (QL.take (k + 1)) = X ++ [(sdV b s t, sdL b c)]) := by rw [hat, hX.out.1]; exact rfl
      clear hC hkL hx hat
      cases b
      · go_wp2_with (at_builtin; refine wpList_sgapp appX rfl _ _ rfl (A := []) (B := [(sdV false s t, sdL false c)]) (n := k) (m := 1) hS (below_alloc1 _ _) hX.out.2 rfl rfl ⟨wr.heap.size, 0, none⟩ 1 rfl (lit_src (xs := [.slice s.p s.n s.c]) rfl) (oneXs _) (.inl (by decide)) (by omega) ?_; intro g' cap' w4 hS4 _ _)
        go_roundw
        case rel => exact ⟨k + 1, some ⟨g', 0, none⟩, cap', _, by omega, by go_num, rfl, ⟨HAT.out.symm, by rw [List.length_append, hX.out.2]; rfl⟩, by simp, hS4⟩
        case measure => simp [intOf]; omega
      · go_wp2_with (at_builtin; refine wpList_sgapp appX rfl _ _ rfl (A := []) (B := [(sdV true s t, sdL true c)]) (n := k) (m := 1) hS (below_alloc1 _ _) hX.out.2 rfl rfl ⟨wr.heap.size, 0, none⟩ 1 rfl (lit_src (xs := [.slice t.p t.n t.c]) rfl) (oneXs _) (.inl (by decide)) (by omega) ?_; intro g' cap' w4 hS4 _ _)
        go_roundw
        case rel => exact ⟨k + 1, some ⟨g', 0, none⟩, cap', _, by omega, by go_num, rfl, ⟨HAT.out.symm, by rw [List.length_append, hX.out.2]; rfl⟩, by simp, hS4⟩
        case measure => simp [intOf]; omega
    · obtain rfl : k = n := by omega
      have hXX : X = xs b QL := by rw [hX.out.1, List.take_of_length_le (by rw [HN.out.1]; exact Nat.le_refl _)]
      subst hXX
      have HL : Hid (∀ W, Below wr.heap.size wr W → LsR W.heap.size W q (xs b QL)) := fun W h => sEnd (n := k) (cp := cp) (hS.sub (by simp)) HN.out.2.1.2 HN.out.2.2 h
      have HXL := hX.out.2
      go_wp2_with (go_at_call 29; refine (l10_v HXL hl.2 _ rfl (HL.out _ (Below.refl _ _))).mono ?_; rintro e w5 ⟨r5, m5, cp5, rfl, hl5, hS5⟩)
      go_ret
      rw [HE.out, ← lsX_xs]
      exact ⟨r5, m5, cp5, rfl, hl5, (hS.addL hS5).sub (by simp)⟩
end Go.Proofs.Ytkinbgcnenieeaa
