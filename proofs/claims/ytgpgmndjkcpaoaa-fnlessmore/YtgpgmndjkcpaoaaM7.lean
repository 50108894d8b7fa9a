/-
  The mathematics of layers: cuts in order, pieces between them, how often each piece is covered.
-/
import Derived.Test.YtgpgmndjkcpaoaaW2
import Derived.Lib.SlicesCompact
namespace Go.Proofs.Ytgpgmndjkcpaoaa

structure T4 where
  x : Int
  y : Int
  w : Int
  h : Int
structure T2 where
  x : Int
  y : Int
def T4.ok (c : T4) : Bool := okB c.x c.y c.w c.h
def okL (L : List T4) : Bool := decide (L.length ≤ 12) && L.all T4.ok

/-- How many at the head are below z. -/
def lead (z : Int) : List Int → Nat
  | [] => 0
  | a :: t => if a < z then lead z t + 1 else 0
theorem lead_le (z : Int) : ∀ l : List Int, lead z l ≤ l.length
  | [] => Nat.le_refl _
  | a :: t => by have := lead_le z t; unfold lead; split <;> simp; omega
theorem lead_lt (z : Int) : ∀ (l : List Int) (k : Nat), k < lead z l → l.getD k 0 < z
  | [], k, h => by simp [lead] at h
  | a :: t, k, h => by
    unfold lead at h
    split at h
    · cases k with
      | zero => simpa
      | succ k => have := lead_lt z t k (by omega); simpa using this
    · omega
theorem lead_at (z : Int) : ∀ (l : List Int), lead z l < l.length → ¬ l.getD (lead z l) 0 < z
  | [], h => by simp [lead] at h
  | a :: t, h => by
    unfold lead at h ⊢
    split
    · rename_i h1
      rw [if_pos h1] at h
      have := lead_at z t (by simpa using h)
      simpa using this
    · simp; omega
theorem lead_is {z : Int} {l : List Int} {k : Nat} (h1 : k ≤ l.length) (h2 : ∀ j, j < k → l.getD j 0 < z) (h3 : k < l.length → ¬ l.getD k 0 < z) : k = lead z l := by
  have a := lead_le z l
  by_cases c : k < lead z l
  · exact absurd (lead_lt z l k c) (h3 (by omega))
  · by_cases d : lead z l < k
    · exact absurd (h2 _ d) (lead_at z l (by omega))
    · omega
def putL (l : List Int) (z : Int) : List Int := if lead z l < l.length ∧ l.getD (lead z l) 0 = z then l else l.take (lead z l) ++ [z] ++ l.drop (lead z l)
theorem putL_cons (a z : Int) (t : List Int) : putL (a :: t) z = if a < z then a :: putL t z else if a = z then a :: t else z :: a :: t := by
  have hl : lead z (a :: t) = if a < z then lead z t + 1 else 0 := rfl
  unfold putL
  rw [hl]
  by_cases h : a < z
  · simp only [if_pos h, List.length_cons, List.getD_cons_succ, List.take_succ_cons, List.drop_succ_cons, Nat.add_lt_add_iff_right, List.cons_append]
    split <;> rfl
  · simp only [if_neg h, List.length_cons, List.getD_cons_zero, List.take_zero, List.drop_zero, Nat.zero_lt_succ, true_and, List.nil_append, List.cons_append]
theorem putL_mem (z y : Int) : ∀ l : List Int, y ∈ putL l z ↔ y ∈ l ∨ y = z
  | [] => by simp [putL, lead]
  | a :: t => by
    rw [putL_cons]
    have ih := putL_mem z y t
    split
    · simp [ih, or_assoc]
    · split
      · rename_i h; subst h; simp; intro h; exact .inl h
      · simp only [List.mem_cons]
        constructor
        · rintro (h | h | h)
          · exact .inr h
          · exact .inl (.inl h)
          · exact .inl (.inr h)
        · rintro ((h | h) | h)
          · exact .inr (.inl h)
          · exact .inr (.inr h)
          · exact .inl h
theorem putL_srt (z : Int) : ∀ l : List Int, l.Pairwise (· < ·) → (putL l z).Pairwise (· < ·)
  | [], _ => by simp [putL, lead]
  | a :: t, h => by
    obtain ⟨h1, h2⟩ := List.pairwise_cons.1 h
    rw [putL_cons]
    split
    · rename_i hz
      refine List.pairwise_cons.2 ⟨fun y hy => ?_, putL_srt z t h2⟩
      rcases (putL_mem z y t).1 hy with hy | rfl
      · exact h1 y hy
      · exact hz
    · split
      · exact h
      · refine List.pairwise_cons.2 ⟨fun y hy => ?_, h⟩
        rcases List.mem_cons.1 hy with rfl | hy
        · omega
        · have := h1 y hy; omega
theorem putL_len (l : List Int) (z : Int) : (putL l z).length ≤ l.length + 1 := by
  unfold putL
  have := lead_le z l
  split
  · omega
  · simp; omega

/-- The cuts, in order, each once. -/
def cutL (zs : List Int) : List Int := zs.foldl putL []
theorem cut_go (zs : List Int) : ∀ acc : List Int, acc.Pairwise (· < ·) → (zs.foldl putL acc).Pairwise (· < ·) ∧ (∀ y, y ∈ zs.foldl putL acc ↔ y ∈ acc ∨ y ∈ zs) ∧ (zs.foldl putL acc).length ≤ acc.length + zs.length := by
  induction zs with
  | nil => intro acc h; exact ⟨h, fun y => by simp, by simp⟩
  | cons a t ih =>
    intro acc h
    obtain ⟨h1, h2, h3⟩ := ih (putL acc a) (putL_srt a acc h)
    refine ⟨h1, fun y => ?_, ?_⟩
    · rw [List.foldl_cons, h2 y, putL_mem]; simp [or_assoc]
    · have := putL_len acc a; simp only [List.foldl_cons, List.length_cons]; omega
theorem cutL_srt (zs : List Int) : (cutL zs).Pairwise (· < ·) := (cut_go zs [] .nil).1
theorem cutL_mem {zs : List Int} {y : Int} : y ∈ cutL zs ↔ y ∈ zs := by have := (cut_go zs [] .nil).2.1 y; simpa [cutL] using this
theorem cutL_len (zs : List Int) : (cutL zs).length ≤ zs.length := by have := (cut_go zs [] .nil).2.2; simpa [cutL] using this
theorem srt_uniq : ∀ {a b : List Int}, a.Pairwise (· < ·) → b.Pairwise (· < ·) → (∀ y, y ∈ a ↔ y ∈ b) → a = b
  | [], [], _, _, _ => rfl
  | [], x :: b, _, _, h => by have := (h x).2 (by simp); cases this
  | x :: a, [], _, _, h => by have := (h x).1 (by simp); cases this
  | x :: a, y :: b, ha, hb, h => by
    obtain ⟨a1, a2⟩ := List.pairwise_cons.1 ha
    obtain ⟨b1, b2⟩ := List.pairwise_cons.1 hb
    have e : x = y := by
      rcases List.mem_cons.1 ((h x).1 (by simp)) with e | e
      · exact e
      · rcases List.mem_cons.1 ((h y).2 (by simp)) with e2 | e2
        · exact e2.symm
        · have := b1 x e; have := a1 y e2; omega
    subst e
    rw [srt_uniq a2 b2 (fun z => ?_)]
    constructor
    · intro hz
      rcases List.mem_cons.1 ((h z).1 (by simp [hz])) with e | e
      · subst e; have := a1 z hz; omega
      · exact e
    · intro hz
      rcases List.mem_cons.1 ((h z).2 (by simp [hz])) with e | e
      · subst e; have := b1 z hz; omega
      · exact e
theorem cmp_go {zs : List Int} (hs : zs.Pairwise (· ≤ ·)) : ∀ m, m ≤ zs.length → (Lib.compactUpTo zs.toArray m).Pairwise (· < ·) ∧ (∀ y, y ∈ Lib.compactUpTo zs.toArray m ↔ ∃ j, j < m ∧ zs.getD j 0 = y) := by
  have gt : ∀ j, j < zs.length → zs.toArray[j]! = zs.getD j 0 := fun j hj => by
    rw [getElem!_pos zs.toArray j (by simpa using hj)]; simp [List.getD, hj]
  have le : ∀ i j, i ≤ j → j < zs.length → zs.getD i 0 ≤ zs.getD j 0 := fun i j hij hj => by
    by_cases e : i = j
    · subst e; exact Int.le_refl _
    · have := List.pairwise_iff_getElem.1 hs i j (by omega) hj (by omega)
      simpa [List.getD, hj, show i < zs.length by omega] using this
  intro m
  induction m with
  | zero => intro _; exact ⟨by simp [Lib.compactUpTo], fun y => by simp [Lib.compactUpTo]⟩
  | succ m ih =>
    intro hm
    obtain ⟨i1, i2⟩ := ih (by omega)
    rw [Lib.compactUpTo_succ]
    by_cases hk : Lib.keeps zs.toArray m = true
    · rw [if_pos hk, gt m (by omega)]
      refine ⟨List.pairwise_append.2 ⟨i1, by simp, fun a ha b hb => ?_⟩, fun y => ?_⟩
      · simp only [List.mem_singleton] at hb
        subst hb
        obtain ⟨j, hj, rfl⟩ := (i2 a).1 ha
        have h1 := le j (m - 1) (by omega) (by omega)
        have h2 := le (m - 1) m (by omega) (by omega)
        have h3 : zs.getD m 0 ≠ zs.getD (m - 1) 0 := by
          have := hk
          unfold Lib.keeps at this
          rw [gt m (by omega), gt (m - 1) (by omega)] at this
          have := of_decide_eq_true this
          rcases this with e | e
          · omega
          · exact e
        omega
      · rw [List.mem_append, i2]
        constructor
        · rintro (⟨j, hj, e⟩ | e)
          · exact ⟨j, by omega, e⟩
          · simp only [List.mem_singleton] at e; exact ⟨m, by omega, e.symm⟩
        · rintro ⟨j, hj, e⟩
          by_cases c : j = m
          · subst c; exact .inr (by simp [← e])
          · exact .inl ⟨j, by omega, e⟩
    · rw [if_neg hk, List.append_nil]
      refine ⟨i1, fun y => ?_⟩
      rw [i2]
      constructor
      · rintro ⟨j, hj, e⟩; exact ⟨j, by omega, e⟩
      · rintro ⟨j, hj, e⟩
        by_cases c : j = m
        · subst c
          have hk' : ¬ (j = 0 ∨ zs.toArray[j]! ≠ zs.toArray[j - 1]!) := fun h => hk (by unfold Lib.keeps; exact decide_eq_true h)
          have h0 : j ≠ 0 := fun h => hk' (.inl h)
          have h1 : zs.toArray[j]! = zs.toArray[j - 1]! := Classical.byContradiction fun h => hk' (.inr h)
          rw [gt j (by omega), gt (j - 1) (by omega)] at h1
          exact ⟨j - 1, by omega, by rw [← h1]; exact e⟩
        · exact ⟨j, by omega, e⟩
/-- What the program makes: sorted, then each once. -/
theorem sort_cut (zs : List Int) : Lib.compact (zs.mergeSort fun x y => decide (x ≤ y)) = cutL zs := by
  have hp := List.mergeSort_perm zs (fun x y => decide (x ≤ y))
  have hs : (zs.mergeSort fun x y => decide (x ≤ y)).Pairwise (· ≤ ·) := by
    have := List.pairwise_mergeSort (le := fun x y : Int => decide (x ≤ y)) (fun a b c h1 h2 => by simp at *; omega) (fun a b => by simp; omega) zs
    exact this.imp (fun h => by simpa using h)
  revert hp hs
  generalize (zs.mergeSort fun x y => decide (x ≤ y)) = M
  intro hp hs
  obtain ⟨h1, h2⟩ := cmp_go hs _ (Nat.le_refl _)
  refine srt_uniq h1 (cutL_srt zs) fun y => ?_
  rw [cutL_mem]
  unfold Lib.compact
  rw [h2, ← hp.mem_iff]
  constructor
  · rintro ⟨j, hj, rfl⟩
    simp [List.getD, hj]
  · intro hy
    obtain ⟨j, hj, e⟩ := List.mem_iff_getElem.1 hy
    exact ⟨j, hj, by simp [List.getD, hj, e]⟩

/-- The pieces between neighbouring cuts. -/
def pcs (cs : List Int) : List T2 := (List.range (cs.length - 1)).map fun i => ⟨cs.getD i 0, cs.getD (i + 1) 0⟩
theorem pcs_len (cs : List Int) : (pcs cs).length = cs.length - 1 := by simp [pcs]
theorem pcs_get {cs : List Int} {i : Nat} (h : i + 1 < cs.length) : (pcs cs)[i]? = some ⟨cs.getD i 0, cs.getD (i + 1) 0⟩ := by
  have : i < cs.length - 1 := by omega
  simp [pcs, this]
theorem pcs_mem {cs : List Int} {s : T2} (h : s ∈ pcs cs) : ∃ i, i + 1 < cs.length ∧ s = ⟨cs.getD i 0, cs.getD (i + 1) 0⟩ := by
  obtain ⟨i, hi, rfl⟩ := List.mem_map.1 h
  exact ⟨i, by have := List.mem_range.1 hi; omega, rfl⟩
theorem getD_mem {cs : List Int} {i : Nat} (h : i < cs.length) : cs.getD i 0 ∈ cs := by simp [List.getD, h]
theorem srt_get {cs : List Int} (hs : cs.Pairwise (· < ·)) {i j : Nat} (hij : i < j) (hj : j < cs.length) : cs.getD i 0 < cs.getD j 0 := by
  have := List.pairwise_iff_getElem.1 hs i j (by omega) hj hij
  simpa [List.getD, hj, show i < cs.length by omega] using this
/-- A piece is not empty, and no cut lies within it. -/
theorem pcs_gap {cs : List Int} (hs : cs.Pairwise (· < ·)) {s : T2} (h : s ∈ pcs cs) : s.x < s.y ∧ s.x ∈ cs ∧ s.y ∈ cs ∧ ∀ e ∈ cs, s.x < e → s.y ≤ e := by
  obtain ⟨i, hi, rfl⟩ := pcs_mem h
  refine ⟨srt_get hs (by omega) hi, getD_mem (by omega), getD_mem hi, fun e he hlt => ?_⟩
  obtain ⟨j, hj, rfl⟩ := List.mem_iff_getElem.1 he
  have ej : cs[j] = cs.getD j 0 := by simp [List.getD, hj]
  rw [ej] at hlt ⊢
  by_cases c : i + 1 < j
  · have := srt_get hs c hj; exact Int.le_of_lt this
  · by_cases d : j = i + 1
    · subst d; exact Int.le_refl _
    · by_cases f : j = i
      · subst f; exact absurd hlt (Int.lt_irrefl _)
      · have := srt_get hs (show j < i by omega) (by omega); simp only at hlt; omega

def acr (r : T4) : T2 := ⟨r.x, r.x + r.w⟩
def upr (r : T4) : T2 := ⟨r.y, r.y + r.h⟩
def hasS (s p : T2) : Bool := decide (s.x ≤ p.x ∧ p.y ≤ s.y)
def lenS (s : T2) : Int := s.y - s.x
def cutsX (L : List T4) : List Int := L.flatMap fun r => [r.x, r.x + r.w]
def cutsY (L : List T4) : List Int := L.flatMap fun r => [r.y, r.y + r.h]
def xsL (L : List T4) : List Int := cutL (cutsX L)
def ysL (L : List T4) : List Int := cutL (cutsY L)
/-- How many Rects have the piece of the strip s and the band b. -/
def dep (L : List T4) (s b : T2) : Nat := L.countP fun r => hasS (acr r) s && hasS (upr r) b
def sdep (L : List T4) (x y : Int) : Nat := L.countP fun r => inR r.x r.y r.w r.h x y
theorem cutsX_mem {L : List T4} {r : T4} (h : r ∈ L) : r.x ∈ xsL L ∧ r.x + r.w ∈ xsL L := by
  unfold xsL; rw [cutL_mem, cutL_mem]
  exact ⟨List.mem_flatMap.2 ⟨r, h, by simp⟩, List.mem_flatMap.2 ⟨r, h, by simp⟩⟩
theorem cutsY_mem {L : List T4} {r : T4} (h : r ∈ L) : r.y ∈ ysL L ∧ r.y + r.h ∈ ysL L := by
  unfold ysL; rw [cutL_mem, cutL_mem]
  exact ⟨List.mem_flatMap.2 ⟨r, h, by simp⟩, List.mem_flatMap.2 ⟨r, h, by simp⟩⟩
theorem has_iff {cs : List Int} (hs : cs.Pairwise (· < ·)) {s : T2} (h : s ∈ pcs cs) {a b : Int} (hb : b ∈ cs) : (a ≤ s.x ∧ s.y ≤ b) ↔ (a ≤ s.x ∧ s.x < b) := by
  obtain ⟨h1, _, _, h4⟩ := pcs_gap hs h
  constructor
  · rintro ⟨p, q⟩; exact ⟨p, by omega⟩
  · rintro ⟨p, q⟩; exact ⟨p, h4 b hb q⟩
theorem dep_sdep {L : List T4} {s b : T2} (h1 : s ∈ pcs (xsL L)) (h2 : b ∈ pcs (ysL L)) : dep L s b = sdep L s.x b.x := by
  refine List.countP_congr fun r hr => ?_
  have k1 := has_iff (cutL_srt _) h1 (a := r.x) (cutsX_mem hr).2
  have k2 := has_iff (cutL_srt _) h2 (a := r.y) (cutsY_mem hr).2
  unfold hasS inR acr upr
  simp only [Bool.and_eq_true, decide_eq_true_eq]
  constructor
  · rintro ⟨p, q⟩; have := k1.1 p; have := k2.1 q; omega
  · rintro ⟨p1, p2, p3, p4⟩; exact ⟨k1.2 ⟨p1, p2⟩, k2.2 ⟨p3, p4⟩⟩
theorem dep_le (L : List T4) (s b : T2) : dep L s b ≤ L.length := List.countP_le_length

/-- z more at place d. -/
def bump (o : List Int) (d : Nat) (z : Int) : List Int := o.set d (o.getD d 0 + z)
theorem bump_len (o : List Int) (d : Nat) (z : Int) : (bump o d z).length = o.length := by simp [bump]
theorem bump_drop (o : List Int) (d : Nat) (z : Int) : (bump o d z).drop 1 = if 0 < d then bump (o.drop 1) (d - 1) z else o.drop 1 := by
  unfold bump
  cases o with
  | nil => simp
  | cons a t => cases d with
    | zero => simp
    | succ d => simp
def accB (L : List T4) (s : T2) (bs : List T2) (o : List Int) : List Int := bs.foldl (fun o b => bump o (dep L s b) (lenS s * lenS b)) o
def accS (L : List T4) (ss bs : List T2) (o : List Int) : List Int := ss.foldl (fun o s => accB L s bs o) o
theorem accB_take {L : List T4} {s : T2} {bs : List T2} {o : List Int} {j : Nat} {b : T2} (h : bs[j]? = some b) : accB L s (bs.take (j + 1)) o = bump (accB L s (bs.take j) o) (dep L s b) (lenS s * lenS b) := by
  unfold accB
  rw [List.take_add_one, h]
  simp
theorem accS_take {L : List T4} {ss bs : List T2} {o : List Int} {j : Nat} {s : T2} (h : ss[j]? = some s) : accS L (ss.take (j + 1)) bs o = accB L s bs (accS L (ss.take j) bs o) := by
  unfold accS
  rw [List.take_add_one, h]
  simp
theorem accB_len (L : List T4) (s : T2) : ∀ (bs : List T2) (o : List Int), (accB L s bs o).length = o.length
  | [], o => rfl
  | b :: t, o => by have := accB_len L s t (bump o (dep L s b) (lenS s * lenS b)); rw [bump_len] at this; exact this
theorem accS_len (L : List T4) (bs : List T2) : ∀ (ss : List T2) (o : List Int), (accS L ss bs o).length = o.length
  | [], o => rfl
  | s :: t, o => by have := accS_len L bs t (accB L s bs o); rw [accB_len] at this; exact this
/-- How many Spots lie in just so many Rects, from 0 on. -/
def dpsL (L : List T4) : List Int := accS L (pcs (xsL L)) (pcs (ysL L)) (List.replicate (L.length + 1) 0)
theorem dpsL_len (L : List T4) : (dpsL L).length = L.length + 1 := by unfold dpsL; rw [accS_len]; simp
/-- Bounds. -/
def Bd (m : Nat) (o : List Int) : Prop := ∀ z ∈ o, 0 ≤ z ∧ z ≤ 65536 * (m : Int)
theorem Bd.bump {m : Nat} {o : List Int} (h : Bd m o) (d : Nat) {z : Int} (h0 : 0 ≤ z) (h1 : z ≤ 65536) : Bd (m + 1) (bump o d z) := by
  intro y hy
  by_cases hd : d < o.length
  · have hm : o.getD d 0 ∈ o := getD_mem hd
    have hb := h _ hm
    rcases List.mem_or_eq_of_mem_set hy with e | e
    · have := h y e; omega
    · subst e; omega
  · have e : Ytgpgmndjkcpaoaa.bump o d z = o := by unfold Ytgpgmndjkcpaoaa.bump; exact List.set_eq_of_length_le (by omega)
    rw [e] at hy
    have := h y hy; omega
theorem Bd.mono {m n : Nat} {o : List Int} (h : Bd m o) (hn : m ≤ n) : Bd n o := fun z hz => by have := h z hz; omega
/-- Pieces of the grid. -/
def Gr (bs : List T2) : Prop := ∀ b ∈ bs, 0 ≤ lenS b ∧ lenS b ≤ 256
theorem area_bd1 {s b : T2} (h1 : 0 ≤ lenS s ∧ lenS s ≤ 256) (h2 : 0 ≤ lenS b ∧ lenS b ≤ 256) : 0 ≤ lenS s * lenS b ∧ lenS s * lenS b ≤ 65536 := mul_bd h1.1 h1.2 h2.1 h2.2
theorem accB_bd {L : List T4} {s : T2} (hs : 0 ≤ lenS s ∧ lenS s ≤ 256) : ∀ {bs : List T2} {o : List Int} {m : Nat}, Gr bs → Bd m o → Bd (m + bs.length) (accB L s bs o)
  | [], o, m, _, h => h
  | b :: t, o, m, hb, h => by
    have a := area_bd1 hs (hb b (by simp))
    have := accB_bd (L := L) hs (bs := t) (m := m + 1) (fun x hx => hb x (by simp [hx])) (h.bump (dep L s b) a.1 a.2)
    rw [List.length_cons, show m + (t.length + 1) = m + 1 + t.length by omega]
    exact this
theorem accS_bd {L : List T4} {bs : List T2} (hb : Gr bs) : ∀ {ss : List T2} {o : List Int} {m : Nat}, Gr ss → Bd m o → Bd (m + ss.length * bs.length) (accS L ss bs o)
  | [], o, m, _, h => by rw [List.length_nil, Nat.zero_mul, Nat.add_zero]; exact h
  | s :: t, o, m, hs, h => by
    have := accS_bd (L := L) hb (ss := t) (fun x hx => hs x (by simp [hx])) (accB_bd (L := L) (hs s (by simp)) hb h)
    rw [List.length_cons, show m + (t.length + 1) * bs.length = m + bs.length + t.length * bs.length by rw [Nat.add_mul]; omega]
    exact this
theorem okL_all {L : List T4} (h : okL L = true) : ∀ r ∈ L, r.ok = true := by
  unfold okL at h
  rw [Bool.and_eq_true] at h
  exact List.all_eq_true.1 h.2
theorem okL_len {L : List T4} (h : okL L = true) : L.length ≤ 12 := by
  unfold okL at h
  rw [Bool.and_eq_true] at h
  exact of_decide_eq_true h.1
theorem xsL_in {L : List T4} (h : okL L = true) {z : Int} (hz : z ∈ xsL L) : 0 ≤ z ∧ z ≤ 256 := by
  unfold xsL at hz
  rw [cutL_mem] at hz
  obtain ⟨r, hr, e⟩ := List.mem_flatMap.1 hz
  have := okB_t.mp (okL_all h r hr)
  simp at e
  omega
theorem ysL_in {L : List T4} (h : okL L = true) {z : Int} (hz : z ∈ ysL L) : 0 ≤ z ∧ z ≤ 256 := by
  unfold ysL at hz
  rw [cutL_mem] at hz
  obtain ⟨r, hr, e⟩ := List.mem_flatMap.1 hz
  have := okB_t.mp (okL_all h r hr)
  simp at e
  omega
theorem flat2_len {α : Type} (f g : α → Int) : ∀ L : List α, (L.flatMap fun r => [f r, g r]).length = 2 * L.length
  | [] => rfl
  | a :: t => by have := flat2_len f g t; simp only [List.flatMap_cons, List.length_append, List.length_cons, List.length_nil]; omega
theorem xsL_len (L : List T4) : (xsL L).length ≤ 2 * L.length := by have := cutL_len (cutsX L); unfold cutsX at this; rw [flat2_len] at this; exact this
theorem ysL_len (L : List T4) : (ysL L).length ≤ 2 * L.length := by have := cutL_len (cutsY L); unfold cutsY at this; rw [flat2_len] at this; exact this
theorem gr_of {cs : List Int} (hs : cs.Pairwise (· < ·)) (h : ∀ z ∈ cs, 0 ≤ z ∧ z ≤ 256) : Gr (pcs cs) := fun b hb => by
  obtain ⟨h1, h2, h3, _⟩ := pcs_gap hs hb
  have := h _ h2
  have := h _ h3
  unfold lenS; omega
theorem gr_take {bs : List T2} (h : Gr bs) (k : Nat) : Gr (bs.take k) := fun b hb => h b (List.mem_of_mem_take hb)
theorem bd_zero (n : Nat) : Bd 0 (List.replicate n 0) := fun z hz => by have := (List.mem_replicate.1 hz).2; omega
theorem Bd.drop {m : Nat} {o : List Int} (h : Bd m o) (k : Nat) : Bd m (o.drop k) := fun z hz => h z (List.mem_of_mem_drop hz)
/-- The state of the counts in the midst of the work is bounded. -/
theorem mid_bd {L : List T4} (h : okL L = true) {i j : Nat} {s : T2} (hs : (pcs (xsL L))[i]? = some s) : Bd 600 (accB L s ((pcs (ysL L)).take j) (accS L ((pcs (xsL L)).take i) (pcs (ysL L)) (List.replicate (L.length + 1) 0))) := by
  have gx : Gr (pcs (xsL L)) := gr_of (cutL_srt (cutsX L)) (fun z hz => xsL_in h hz)
  have gy : Gr (pcs (ysL L)) := gr_of (cutL_srt (cutsY L)) (fun z hz => ysL_in h hz)
  have hn := okL_len h
  have lx := xsL_len L
  have ly := ysL_len L
  have px := pcs_len (xsL L)
  have py := pcs_len (ysL L)
  have hi : i < (pcs (xsL L)).length := (List.getElem?_eq_some_iff.1 hs).1
  have hsm : s ∈ pcs (xsL L) := List.mem_of_getElem? hs
  have a := accS_bd (L := L) gy (gr_take gx i) (bd_zero (L.length + 1))
  have b := accB_bd (L := L) (gx s hsm) (gr_take gy j) a
  refine b.mono ?_
  simp only [List.length_take]
  have h1 : min i (pcs (xsL L)).length ≤ 23 := by omega
  have h2 : (pcs (ysL L)).length ≤ 23 := by omega
  have := Nat.mul_le_mul h1 h2
  omega
theorem dps_bd {L : List T4} (h : okL L = true) : Bd 600 (dpsL L) := by
  have gx : Gr (pcs (xsL L)) := gr_of (cutL_srt (cutsX L)) (fun z hz => xsL_in h hz)
  have gy : Gr (pcs (ysL L)) := gr_of (cutL_srt (cutsY L)) (fun z hz => ysL_in h hz)
  have hn := okL_len h
  have lx := xsL_len L
  have ly := ysL_len L
  have px := pcs_len (xsL L)
  have py := pcs_len (ysL L)
  have a := accS_bd (L := L) gy gx (bd_zero (L.length + 1))
  refine Bd.mono a ?_
  have h1 : (pcs (xsL L)).length ≤ 23 := by omega
  have h2 : (pcs (ysL L)).length ≤ 23 := by omega
  have := Nat.mul_le_mul h1 h2
  omega
def sumI : List Int → Int
  | [] => 0
  | a :: t => a + sumI t
theorem sumI_app : ∀ (a b : List Int), sumI (a ++ b) = sumI a + sumI b
  | [], b => by simp [sumI]
  | x :: t, b => by simp only [List.cons_append, sumI, sumI_app t b]; omega
theorem sumI_take {l : List Int} {k : Nat} (h : k < l.length) : sumI (l.take (k + 1)) = sumI (l.take k) + l.getD k 0 := by
  rw [List.take_succ_eq_append_getElem h, sumI_app]
  simp [sumI, List.getD, h]
theorem sumI_bd {m : Nat} : ∀ {l : List Int}, Bd m l → 0 ≤ sumI l ∧ sumI l ≤ 65536 * (m : Int) * (l.length : Int)
  | [], _ => by simp [sumI]
  | a :: t, h => by
    have h1 := sumI_bd (l := t) (fun z hz => h z (by simp [hz]))
    have h2 := h a (by simp)
    simp only [sumI, List.length_cons]
    have : 65536 * (m : Int) * ((t.length + 1 : Nat) : Int) = 65536 * (m : Int) * (t.length : Int) + 65536 * (m : Int) := by rw [Int.natCast_add, Int.mul_add]; simp
    omega
/-- The last place, from 1 on, with more than nothing. -/
def dpK (l : List Int) : Nat → Int
  | 0 => 0
  | k + 1 => if 0 < l.getD k 0 then (k : Int) + 1 else dpK l k
def dcL (L : List T4) : List Int := if okL L then (dpsL L).drop 1 else []
def tgL (L : List T4) : Int := if okL L then sumI ((dpsL L).drop 1) else -1
def dpL (L : List T4) : Int := if okL L then dpK ((dpsL L).drop 1) L.length else -1
theorem drop_get (l : List Int) (k : Nat) : (l.drop 1).getD k 0 = l.getD (k + 1) 0 := by simp [List.getD]
theorem drop_len {L : List T4} : ((dpsL L).drop 1).length = L.length := by rw [List.length_drop, dpsL_len]; omega

/-- Which two meet, in order. -/
def mtB (a b : T4) : Bool := mB a.x a.y a.w a.h b.x b.y b.w b.h
def zr4 : T4 := ⟨0, 0, 0, 0⟩
def tcI (L : List T4) (i k : Nat) : List (Nat × Nat) := ((List.range k).filter fun j => decide (i < j) && mtB (L.getD i zr4) (L.getD j zr4)).map fun j => (i, j)
def tcO (L : List T4) (i : Nat) : List (Nat × Nat) := (List.range i).flatMap fun a => tcI L a L.length
def tcL (L : List T4) : List (Nat × Nat) := if okL L then tcO L L.length else []
theorem tcI_start (L : List T4) (i : Nat) : tcI L i (i + 1) = [] := by
  unfold tcI
  rw [List.map_eq_nil_iff, List.filter_eq_nil_iff]
  intro j hj
  have := List.mem_range.1 hj
  simp; omega
theorem tcI_step {L : List T4} {i k : Nat} (h : i < k) : tcI L i (k + 1) = if mtB (L.getD i zr4) (L.getD k zr4) then tcI L i k ++ [(i, k)] else tcI L i k := by
  unfold tcI
  rw [List.range_succ, List.filter_append, List.map_append]
  cases hm : mtB (L.getD i zr4) (L.getD k zr4)
  · rw [List.filter_cons_of_neg (by rw [hm]; simp)]; simp
  · rw [List.filter_cons_of_pos (by rw [hm]; simp [h])]; simp
theorem tcO_step (L : List T4) (i : Nat) : tcO L (i + 1) = tcO L i ++ tcI L i L.length := by
  unfold tcO
  rw [List.range_succ, List.flatMap_append]
  simp
end Go.Proofs.Ytgpgmndjkcpaoaa
