/-
  Papers: numbers with blanks between, a Clause's text, as the spec makes them.
-/
import Derived.Test.YtbkiogedipmioaaGreatVP1
import Derived.Lib.AppendIntMem
import Derived.Laws.IdiomStrings
import Derived.BigRegion
namespace Go.Proofs.YtbkiogedipmioaaGreat.V
open Go.RowKit Go.Joins M
attribute [local go_sem] Oper.semAt_some

/-- A Clause as one reads it: its lists at s and t. -/
structure RdQ (W : World) (c : Cl) (s t : Sv) : Prop where
  r1 : SlG kC W s.p c.rd
  n1 : c.rd.length = s.n
  r2 : SlG kC W t.p c.wr
  n2 : c.wr.length = t.n
  b1 : s.n ≤ 10000000
  b2 : t.n ≤ 10000000
theorem RdQ.step {w w' : World} {c : Cl} {s t : Sv} (h : RdQ w c s t) (hb : Below w.heap.size w w') : RdQ w' c s t := ⟨h.r1.step hb, h.n1, h.r2.step hb, h.n2, h.b1, h.b2⟩

set_option maxHeartbeats 1000000 in
theorem iClause_v {c : Cl} {s t : Sv} {v : Bool} (hv : clB c = v) (w : World) (hR : RdQ w c s t) :
    Calls Tryz.prog 112 #[.agg #[.slice s.p s.n s.c, .slice t.p t.n t.c, .int .i64 c.un]] w fun e w' => e = .returned (.bool v) ∧ Below w.heap.size w w' := by
  have hst := (St.nil w).push [.slice s.p s.n s.c, .slice t.p t.n t.c, .int .i64 c.un] 110
  have H1 : Hid (∀ W v, Below w.heap.size w W → ofB c.rd = v → Calls Tryz.prog 128 #[.slice s.p s.n s.c] W fun e w' => e = .returned (.bool v) ∧ Below W.heap.size W w') := fun W v h hv => isOfClause_v hv s.p s.c s.n hR.n1 W (hR.r1.step h) hR.b1
  have H2 : Hid (∀ W v, Below w.heap.size w W → ofB c.wr = v → Calls Tryz.prog 128 #[.slice t.p t.n t.c] W fun e w' => e = .returned (.bool v) ∧ Below W.heap.size W w') := fun W v h hv => isOfClause_v hv t.p t.c t.n hR.n2 W (hR.r2.step h) hR.b2
  clear hR
  unfold clB at hv
  cases h0 : timeB c.un
  · rw [h0, Bool.false_and] at hv
    subst hv
    go_enter Tryz.func112, Tryz.ntmps112
    go_wp2_with (go_at_call 34; refine (isTime_v h0 _).mono ?_; rintro e w1 ⟨rfl, hw1⟩; obtain rfl := hw1.symm)
    go_ret
    exact ⟨rfl, hst.bel⟩
  rw [h0, Bool.true_and] at hv
  cases h1 : ofB c.rd
  · rw [h1, Bool.false_and] at hv
    subst hv
    go_enter Tryz.func112, Tryz.ntmps112
    go_wp2_with (first
      | (go_at_call 34; refine (isTime_v h0 _).mono ?_; rintro e w1 ⟨rfl, hw1⟩; obtain rfl := hw1.symm)
      | (go_at_call 128; refine (H1.out _ _ hst.bel h1).mono ?_; rintro e w1 ⟨rfl, hb1⟩))
    go_ret
    exact ⟨rfl, (hst.step hb1).bel⟩
  rw [h1, Bool.true_and] at hv
  have h0' : True := trivial
  go_enter Tryz.func112, Tryz.ntmps112
  go_wp2_with (first
    | (go_at_call 34; refine (isTime_v h0 _).mono ?_; rintro e w1 ⟨rfl, hw1⟩; obtain rfl := hw1.symm)
    | (go_at_call 128; clear h0'; refine (H1.out _ _ hst.bel h1).mono ?_; rintro e w1 ⟨rfl, hb1⟩; have hs1 := hst.step hb1; have hk := hs1.has; simp [Has, HasAt] at hk)
    | (go_at_call 128; refine (H2.out _ _ hs1.bel hv).mono ?_; rintro e w2 ⟨rfl, hb2⟩))
  go_ret
  exact ⟨rfl, (hs1.step hb2).bel⟩

theorem sTime_v {n : Int} {v : Bool} (hv : timeB n = v) (w : World) : Calls Tryz.prog 37 #[.int .i64 n, .int .i64 0, .int .i64 100000] w fun e w' => e = .returned (.bool v) ∧ w' = w := hv ▸ l1In_any n 0 100000 w
set_option maxHeartbeats 1000000 in
theorem sClause_v {c : Cl} {s t : Sv} {v : Bool} (hv : clB c = v) (w : World) (hR : RdQ w c s t) :
    Calls Tryz.prog 79 #[.agg #[.slice s.p s.n s.c, .slice t.p t.n t.c, .int .i64 c.un]] w fun e w' => e = .returned (.bool v) ∧ Below w.heap.size w w' := by
  have hst := (St.nil w).push [.slice s.p s.n s.c, .slice t.p t.n t.c, .int .i64 c.un] 110
  have H1 : Hid (∀ W v, Below w.heap.size w W → okL c.rd = v → Calls Tryz.prog 115 #[.slice s.p s.n s.c] W fun e w' => e = .returned (.bool v) ∧ Below W.heap.size W w') := fun W v h hv => l3Cells_v hv s.p s.c s.n hR.n1 W (hR.r1.step h) hR.b1
  have H2 : Hid (∀ W v, Below w.heap.size w W → okL c.wr = v → Calls Tryz.prog 115 #[.slice t.p t.n t.c] W fun e w' => e = .returned (.bool v) ∧ Below W.heap.size W w') := fun W v h hv => l3Cells_v hv t.p t.c t.n hR.n2 W (hR.r2.step h) hR.b2
  unfold clB at hv
  rw [ofB_eq hR.n1, ofB_eq hR.n2] at hv
  clear hR
  by_cases h8 : s.n ≤ 8
  rotate_left
  · have h8' : ¬ (s.n : Int) ≤ 8 := by omega
    rw [decide_eq_false h8] at hv
    simp at hv
    subst hv
    go_enter Tryz.func79, Tryz.ntmps79
    go_wp2
    go_ret
    exact ⟨rfl, hst.bel⟩
  have h8' : (s.n : Int) ≤ 8 := by omega
  rw [decide_eq_true h8, Bool.true_and] at hv
  by_cases h9 : t.n ≤ 8
  rotate_left
  · have h9' : ¬ (t.n : Int) ≤ 8 := by omega
    rw [decide_eq_false h9] at hv
    simp at hv
    subst hv
    go_enter Tryz.func79, Tryz.ntmps79
    go_wp2
    go_ret
    exact ⟨rfl, hst.bel⟩
  have h9' : (t.n : Int) ≤ 8 := by omega
  rw [decide_eq_true h9, Bool.true_and] at hv
  cases h1 : okL c.rd
  · rw [h1] at hv
    simp at hv
    subst hv
    go_enter Tryz.func79, Tryz.ntmps79
    go_wp2_with (go_at_call 115; refine (H1.out _ _ hst.bel h1).mono ?_; rintro e w1 ⟨rfl, hb1⟩)
    go_ret
    exact ⟨rfl, (hst.step hb1).bel⟩
  rw [h1, Bool.true_and] at hv
  have h0' : True := trivial
  cases h2 : okL c.wr
  · rw [h2, Bool.and_false] at hv
    subst hv
    go_enter Tryz.func79, Tryz.ntmps79
    go_wp2_with (first
      | (go_at_call 115; clear h0'; refine (H1.out _ _ hst.bel h1).mono ?_; rintro e w1 ⟨rfl, hb1⟩; have hs1 := hst.step hb1; have hk := hs1.has; simp [Has, HasAt] at hk)
      | (go_at_call 115; refine (H2.out _ _ hs1.bel h2).mono ?_; rintro e w2 ⟨rfl, hb2⟩))
    go_ret
    exact ⟨rfl, (hs1.step hb2).bel⟩
  rw [h2, Bool.and_true] at hv
  go_enter Tryz.func79, Tryz.ntmps79
  go_wp2_with (first
    | (go_at_call 115; clear h0'; refine (H1.out _ _ hst.bel h1).mono ?_; rintro e w1 ⟨rfl, hb1⟩; have hs1 := hst.step hb1; have hk := hs1.has; simp [Has, HasAt] at hk)
    | (go_at_call 115; refine (H2.out _ _ hs1.bel h2).mono ?_; rintro e w2 ⟨rfl, hb2⟩; have hs2 := hs1.step hb2; clear hk; have hk := hs2.has; simp [Has, HasAt] at hk)
    | (go_at_call 37; refine (sTime_v hv _).mono ?_; rintro e w3 ⟨rfl, hw3⟩; obtain rfl := hw3.symm))
  go_ret
  exact ⟨rfl, hs2.bel⟩

/-- The library's table of tens stands. -/
def TB (W : World) : Prop := Lib.TabIs Tryz.prog W "internal/strconv.uint64pow10" .u64 Lib.pow10Tab
theorem TB.step {w w' : World} (h : TB w) (hb : Below w.heap.size w w') : TB w' := Lib.tabBelow_of_tabIs h w' hb
theorem below_grow (w : World) (q : Nat) (os : Array Obj) : Below w.heap.size w (Go.Sort.grow (w.drewN q) os) :=
  ⟨rfl, rfl, rfl, by simp [Go.Sort.grow], fun k hk => by simp [Go.Sort.grow, Array.getElem?_append_left hk]⟩
end Go.Proofs.YtbkiogedipmioaaGreat.V
namespace Go.Proofs.YtbkiogedipmioaaGreat.V
open Go.RowKit Go.Joins M
attribute [local go_sem] Oper.semAt_some

def emp : Value → Nat
  | .string s => if s.size = 0 then 1 else 0
  | _ => 0
/-- What the rounds keep: digits that are made, and the number that is left. -/
def dgI (n0 m : Nat) (t : List UInt8) : Prop := (t = [] ∧ m = n0) ∨ (t ≠ [] ∧ Lib.decDigits n0 = dd m ++ t)

theorem digit_cv (wr : World) (m : Nat) : (convert 22 9 (.slice (some ⟨wr.heap.size, 0, none⟩) 1 1)).run Tryz.prog (wr.alloc (.cells #[.int .u8 (48 + (m : Int) % 10)] 5)) = .ok (.string ⟨#[UInt8.ofNat (48 + m % 10)]⟩) (wr.alloc (.cells #[.int .u8 (48 + (m : Int) % 10)] 5)) := by
  refine run_convert_bytes_back (P := Tryz.prog) (wr.alloc (.cells #[.int .u8 (48 + (m : Int) % 10)] 5)) 22 9 5 ⟨wr.heap.size, 0, none⟩ 1 [UInt8.ofNat (48 + m % 10)] Tryz.underlying22 Tryz.underlying5 Tryz.underlying9 fun j hj => ?_
  have hj0 : j = 0 := by simp at hj; omega
  subst hj0
  have hm : m % 10 < 10 := Nat.mod_lt _ (by decide)
  have ea : (⟨wr.heap.size, 0, none⟩ : Addr).add 0 = ⟨wr.heap.size, 0, none⟩ := by unfold Addr.add; split <;> simp_all
  rw [ea, World.cell?_alloc_at _ _ _ _ rfl]
  simp
  omega
theorem cat_eq (l m : List UInt8) : (⟨l.toArray⟩ : ByteArray) ++ ⟨m.toArray⟩ = ⟨(l ++ m).toArray⟩ := by
  apply ByteArray.ext
  simp [ByteArray.data_append]
theorem dgI_step {n0 m : Nat} {t : List UInt8} (h : dgI n0 m t) (h2 : t = [] ∨ m ≠ 0) : dgI n0 (m / 10) (UInt8.ofNat (48 + m % 10) :: t) := by
  right
  refine ⟨by simp, ?_⟩
  rcases h with ⟨rfl, rfl⟩ | ⟨h3, h4⟩
  · exact dec_step m
  · rcases h2 with h2 | h2
    · exact absurd h2 h3
    · rw [h4, dd_step h2]; simp
theorem dgI_len {n0 m : Nat} {t : List UInt8} (h : dgI n0 m t) (hn : n0 ≤ 1000000000) : t.length ≤ 10 := by
  rcases h with ⟨rfl, rfl⟩ | ⟨h3, h4⟩
  · simp
  · have h5 := congrArg List.length h4
    have h6 := itoa_len (n := (n0 : Int)) (k := 10) (by omega) (by omega) (by omega)
    rw [Lib.itoa_nonneg] at h6
    rw [List.length_append] at h5
    omega
theorem dgI_end {n0 : Nat} {t : List UInt8} (h : dgI n0 0 t) (ht : t ≠ []) : (⟨t.toArray⟩ : ByteArray) = dgS n0 := by
  rcases h with ⟨h3, _⟩ | ⟨_, h4⟩
  · exact absurd h3 ht
  · unfold dgS
    rw [Lib.itoa_nonneg, h4]
    simp [dd]
set_option maxRecDepth 100000 in
set_option maxHeartbeats 1000000 in
theorem l1Int_any (n0 : Nat) (hn : n0 ≤ 1000000000) (w : World) :
    Calls Tryz.prog 98 #[.int .i64 (n0 : Int)] w fun e w' => e = .returned (.string (dgS n0)) ∧ Below w.heap.size w w' := by
  have hnn : ¬ (n0 : Int) < 0 := by omega
  go_enter Tryz.func98, Tryz.ntmps98
  go_wp2
  go_loopw [0, 3] (fun nv sv wr => ∃ (m : Nat) (t : List UInt8), m ≤ 1000000000 ∧ nv = .int .i64 (m : Int) ∧ sv = .string ⟨t.toArray⟩ ∧ Hid (dgI n0 m t) ∧ Below w.heap.size w wr) (fun nv sv _ => (intOf nv).toNat + emp sv)
  case atStart => exact ⟨n0, [], hn, rfl, rfl, .inl ⟨rfl, rfl⟩, Below.refl _ _⟩
  case round =>
    obtain ⟨m, t, hm, rfl, rfl, hI, hb⟩ := hrel
    have hl := dgI_len hI.out hn
    have hcv := digit_cv wr m
    have HS : Hid (∀ h2 : t = [] ∨ m ≠ 0, dgI n0 (m / 10) (UInt8.ofNat (48 + m % 10) :: t)) := fun h2 => dgI_step hI.out h2
    have hq0 : ¬ (m : Int) % 10 < 0 := by omega
    obtain ⟨b, hbb⟩ : ∃ b, UInt8.ofNat (48 + m % 10) = b := ⟨_, rfl⟩
    rw [hbb] at hcv HS
    clear hbb
    cases t with
    | nil =>
      go_wp2
      go_roundw
      case rel => exact ⟨m / 10, [b], by omega, by go_num, rfl, HS.out (.inl rfl), hb.alloc (by have := hb.size; omega) _⟩
      case measure => simp [intOf, emp, ByteArray.size]; omega
    | cons a r =>
      by_cases hm0 : m = 0
      · subst hm0
        have HE : Hid ((⟨(a :: r).toArray⟩ : ByteArray) = dgS n0) := dgI_end hI.out (by simp)
        go_wp2
        go_ret
        exact ⟨by rw [HE.out]; rfl, hb⟩
      · have hm1 : ((m : Int) != 0) = true := by simp [hm0]
        have hm2 : ¬ (m : Int) = 0 := by omega
        have hl2 : ¬ 9223372036854775807 < 1 + (r.length + 1) := by simp at hl; omega
        go_wp2
        go_roundw
        case rel => exact ⟨m / 10, b :: a :: r, by omega, by go_num, by rw [cat_eq [b] (a :: r)]; rfl, HS.out (.inr hm0), hb.alloc (by have := hb.size; omega) _⟩
        case measure => rw [cat_eq [b] (a :: r)]; simp [intOf, emp, ByteArray.size]; omega
end Go.Proofs.YtbkiogedipmioaaGreat.V
namespace Go.Proofs.YtbkiogedipmioaaGreat.V
open Go.RowKit Go.Joins M
attribute [local go_sem] Oper.semAt_some

def smallN (ns : List Int) : Prop := ∀ n ∈ ns, 0 ≤ n ∧ n ≤ 1000000000
theorem getI {L : List Int} {k : Nat} (hk : k < L.length) : L[k]? = some (L.getD k 0) := by simp [List.getD, hk]
theorem txL_le {ns : List Int} (h : smallN ns) : (txL ns).length ≤ 11 * ns.length := by
  have hl : ∀ L : List Int, smallN L → Lib.lens (L.map Lib.itoa) ≤ 10 * L.length := by
    intro L
    induction L with
    | nil => intro _; simp [Lib.lens]
    | cons a t ih =>
      intro hL
      have h1 := itoa_len (n := a) (k := 10) (hL a (by simp)).1 (by have := (hL a (by simp)).2; omega) (by omega)
      have h2 := ih fun x hx => hL x (List.mem_cons_of_mem _ hx)
      simp only [Lib.lens, List.map_cons, List.sum_cons, List.length_cons] at *
      omega
  cases ns with
  | nil => simp [txL, Lib.join_nil]
  | cons a t =>
    have h1 := hl _ h
    unfold txL
    rw [List.map_cons, Lib.join_length, List.length_map]
    rw [List.map_cons] at h1
    simp only [blank, List.length_cons, List.length_nil] at *
    omega
theorem txA_size (l : List UInt8) : (⟨l.toArray⟩ : ByteArray).size = l.length := by simp [ByteArray.size]
set_option maxRecDepth 100000 in
set_option maxHeartbeats 1000000 in
theorem l1Ints_any (p : Option Addr) (cap : Nat) (ns : List Int) (n : Nat) (hn : ns.length = n) (hb0 : n ≤ 100) (hs : smallN ns) (w : World) (hL : SlG kI w p ns) :
    Calls Tryz.prog 123 #[.slice p n cap] w fun e w' => e = .returned (.string ⟨(txL ns).toArray⟩) ∧ Below w.heap.size w w' := by
  have HN : Hid (ns.length = n ∧ smallN ns) := ⟨hn, hs⟩
  clear hn hs
  go_enter Tryz.func123, Tryz.ntmps123
  go_wp2
  go_loopw [3, 4] (fun sv iv wr => ∃ (k : Nat) (u : ByteArray), k ≤ n ∧ iv = .int .i64 k ∧ sv = .string u ∧ Hid (u = ⟨(txL (ns.take k)).toArray⟩) ∧ u.size ≤ 1100 ∧ Below w.heap.size w wr) (fun _ iv _ => n - (intOf iv).toNat)
  case atStart => exact ⟨0, ⟨#[]⟩, by omega, rfl, rfl, rfl, by decide, Below.refl _ _⟩
  case round =>
    obtain ⟨k, u, hk, rfl, rfl, hu, hus, hb⟩ := hrel
    by_cases hlt : k < n
    · have hki : (k : Int) < n := by omega
      have hkL : k < ns.length := by rw [HN.out.1]; exact hlt
      obtain ⟨g, off, rfl, hC⟩ := (hL.step hb).at hkL
      have c0 := hC.int (getI hkL)
      have hm := HN.out.2 _ (List.mem_of_getElem? (getI hkL))
      have htk : ns.take (k + 1) = ns.take k ++ [ns.getD k 0] := by rw [List.take_succ_eq_append_getElem hkL]; simp [List.getD, hkL]
      have hlen := txL_le (ns := ns.take (k + 1)) fun x hx => HN.out.2 x (List.mem_of_mem_take hx)
      have hl2 : (ns.take (k + 1)).length ≤ 100 := by rw [List.length_take]; omega
      obtain ⟨m, hmm⟩ : ∃ m : Nat, ns.getD k 0 = m := ⟨(ns.getD k 0).toNat, by omega⟩
      rw [hmm] at c0 hm htk
      have hm9 : m ≤ 1000000000 := by omega
      have hds : (dgS m).size ≤ 10 := by
        have := itoa_len (n := (m : Int)) (k := 10) (by omega) (by omega) (by omega)
        unfold dgS; rw [txA_size]; exact this
      have HE : Hid (ns.take (k + 1) = ns.take k ++ [(m : Int)] ∧ (txL (ns.take (k + 1))).length ≤ 1100 ∧ (ns.take k).length = k) := ⟨htk, by omega, by rw [List.length_take]; omega⟩
      clear hC hm htk hlen hl2 hmm hkL
      have hq1 : ¬ 9223372036854775807 < u.size + 1 := by omega
      have hq2 : ¬ 9223372036854775807 < u.size + (dgS m).size := by omega
      have hq3 : ¬ 9223372036854775807 < u.size + 1 + (dgS m).size := by omega
      by_cases hk0 : k = 0
      · subst hk0
        rw [Nat.add_zero] at c0
        go_wp2_with (go_at_call 98; refine (l1Int_any m hm9 _).mono ?_; rintro e w1 ⟨rfl, hb1⟩)
        go_roundw
        case rel =>
          have e1 : u ++ dgS m = ⟨(txL (ns.take (0 + 1))).toArray⟩ := by
            rw [hu.out, HE.out.1]
            simp only [List.take_zero, List.nil_append, txL_one]
            show (⟨([] : List UInt8).toArray⟩ : ByteArray) ++ ⟨(Lib.itoa m).toArray⟩ = _
            rw [cat_eq]; rfl
          exact ⟨0 + 1, _, by omega, by go_num, rfl, e1, by rw [e1, txA_size]; exact HE.out.2.1, bstep hb hb1 (Nat.le_refl _)⟩
        case measure => simp [intOf]; omega
      · have hk1 : (0 : Int) < k := by omega
        go_wp2_with (go_at_call 98; refine (l1Int_any m hm9 _).mono ?_; rintro e w1 ⟨rfl, hb1⟩)
        go_roundw
        case rel =>
          have e1 : u ++ ⟨#[32]⟩ ++ dgS m = ⟨(txL (ns.take (k + 1))).toArray⟩ := by
            rw [hu.out, HE.out.1, txL_snoc (fun h => by have h2 := HE.out.2.2; rw [h] at h2; exact hk0 (by simpa using h2.symm))]
            show (⟨(txL (ns.take k)).toArray⟩ : ByteArray) ++ ⟨[32].toArray⟩ ++ ⟨(Lib.itoa m).toArray⟩ = _
            rw [cat_eq, cat_eq]
          exact ⟨k + 1, _, by omega, by go_num, rfl, e1, by rw [e1, txA_size]; exact HE.out.2.1, bstep hb hb1 (Nat.le_refl _)⟩
        case measure => simp [intOf]; omega
    · obtain rfl : k = n := by omega
      have HF : Hid (u = ⟨(txL ns).toArray⟩) := by rw [hu.out, List.take_of_length_le (by rw [HN.out.1]; exact Nat.le_refl _)]; exact rfl
      clear hu
      go_wp2
      go_ret
      exact ⟨by rw [← HF.out]; rfl, hb⟩
end Go.Proofs.YtbkiogedipmioaaGreat.V
