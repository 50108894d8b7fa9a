/-
  FnSeals walked.
-/
import Derived.Test.YtmphjakdmknkhaaM1
import Derived.Test.YtmphjakdmknkhaaD2
import Derived.Deep.RegionHeld3
namespace Go.Proofs.Ytmphjakdmknkhaa
open Go.RowKit Go.Joins
attribute [local go_sem] Oper.semAt_some

theorem wpList_want {P : Program} {ops : Array Oper} {Q : Exit → Act → World → Prop} {a : Act} {w : World} {rest : List Oper} {o : Oper} (hw : Region.wanted o (yielded ops a.tmps) = true)
    (h : ∀ K : Act → World → Prop, (∀ a w, wpList P ops Q rest a w → K a w) → o.wp P a w K Q) : wpList P ops Q (o :: rest) a w :=
  wpList_step fun K hK => by rw [if_pos hw]; exact h K hK
theorem wpList_sgappW {α : Type} {K : Kd α} {ts : TypeId} {z : Value} {bytes : Nat} (hA : Ap K ts z bytes) {ops : Array Oper} {rest : List Oper} {o : Oper} {a : Act} {Q : Exit → Act → World → Prop} (hgd : Region.wanted o (yielded ops a.tmps) = true) (s x : Operand) (ho : o.op = .call { callee := .builtin .append, args := #[s, x], argTypes := #[ts, ts] })
    {w W0 W : World} {A Bs : List Rw} {v : Value} {M B : List α} {n m : Nat} (hS : Sg w W0 (A ++ rG K v M :: Bs)) (hb : Below W0.heap.size W0 W) (hn : M.length = n) (hm : B.length = m) (hs : a.eval s = v) (ad : Addr) (c : Nat) (hx : a.eval x = .slice (some ad) m c)
    (hsrc : ∀ j u, (K.flat B)[j]? = some u → W.cell? (ad.add j) = some u) (h1 : ∀ u ∈ K.flat B, u.oneCell' = true) (hne : 0 < m ∨ ¬ v = .slice none 0 0) (hl : n + m ≤ 1000000)
    (h : ∀ g cap w', Sg w w' (A ++ rG K (.slice (some ⟨g, 0, none⟩) (n + m) cap) (M ++ B) :: Bs) → W.grownBy w' v.ownBlock → (v.ownBlock = some g ∨ g = W.heap.size) → wpList Try.prog ops Q rest (a.put o.dst (.slice (some ⟨g, 0, none⟩) (n + m) cap)) w') : wpList Try.prog ops Q (o :: rest) a W :=
  wpList_want hgd fun _ hK => wp_sgapp hA s x ho hS hb hn hm hs ad c hx hsrc h1 hne hl fun g cap w' h2 h3 h4 => hK _ _ (h g cap w' h2 h3 h4)

theorem wpList_sgapp0W {α : Type} {K : Kd α} {ts : TypeId} {z : Value} {bytes : Nat} (hA : Ap K ts z bytes) {ops : Array Oper} {rest : List Oper} {o : Oper} {a : Act} {Q : Exit → Act → World → Prop} (hgd : Region.wanted o (yielded ops a.tmps) = true) (s x : Operand) (ho : o.op = .call { callee := .builtin .append, args := #[s, x], argTypes := #[ts, ts] })
    {w W0 W : World} {A Bs : List Rw} {v : Value} {B : List α} {m : Nat} (hS : Sg w W0 (A ++ rG K v [] :: Bs)) (hb : Below W0.heap.size W0 W) (hm : B.length = m) (hs : a.eval s = v) (ad : Addr) (c : Nat) (hx : a.eval x = .slice (some ad) m c)
    (hsrc : ∀ j u, (K.flat B)[j]? = some u → W.cell? (ad.add j) = some u) (h1 : ∀ u ∈ K.flat B, u.oneCell' = true) (hne : 0 < m ∨ ¬ v = .slice none 0 0) (hl : m ≤ 1000000)
    (h : ∀ g cap w', Sg w w' (A ++ rG K (.slice (some ⟨g, 0, none⟩) m cap) B :: Bs) → W.grownBy w' v.ownBlock → (v.ownBlock = some g ∨ g = W.heap.size) → wpList Try.prog ops Q rest (a.put o.dst (.slice (some ⟨g, 0, none⟩) m cap)) w') : wpList Try.prog ops Q (o :: rest) a W :=
  wpList_sgappW hA hgd s x ho (M := []) (n := 0) hS hb rfl hm hs ad c hx hsrc h1 hne (by omega) fun g cap w' h2 h3 h4 => by
    rw [Nat.zero_add] at h2 ⊢
    exact h g cap w' (by simpa using h2) h3 h4
theorem oneT (L : List ByteArray) : ∀ u ∈ kT.flat L, u.oneCell' = true := fun u hu => by
  unfold Kd.flat at hu
  obtain ⟨s, _, hs⟩ := List.mem_flatMap.mp hu
  simp [kT] at hs
  subst hs
  rfl
theorem iChain_v {key v : Int} {p : Option Addr} {n cap : Nat} {L : List ByteArray} {w : World} (hv : Hid (chI key L = v)) (hL : SlG kT w p L) (h : Hid (L.length = n ∧ n ≤ 11 ∧ ∀ s ∈ L, s.size ≤ 201)) :
    Calls Try.prog 9 #[.int .i64 key, .slice p n cap] w fun e w' => e = .returned (.int .i64 v) ∧ Below w.heap.size w w' :=
  hv.out ▸ iChain_any key p n cap L h.out.1 w hL (fun s hs => by have := h.out.2.2 s hs; omega) (by have := h.out.2.1; omega)
theorem sChain_v {key v : Int} {p : Option Addr} {n cap : Nat} {L : List ByteArray} {w : World} (hv : Hid (chI key L = v)) (hL : SlG kT w p L) (h : Hid (L.length = n ∧ n ≤ 11 ∧ ∀ s ∈ L, s.size ≤ 201)) :
    Calls Try.prog 14 #[.int .i64 key, .slice p n cap] w fun e w' => e = .returned (.int .i64 v) ∧ w' = w :=
  hv.out ▸ sChain_any key p n cap L h.out.1 w hL (by have := h.out.2.1; omega)
theorem iLonger_v {tag v : Int} {s : ByteArray} {w : World} (hv : Hid (lnI tag s = v)) (hn : s.size ≤ 201) : Calls Try.prog 11 #[.int .i64 tag, .string s] w fun e w' => e = .returned (.int .i64 v) ∧ Below w.heap.size w w' := hv.out ▸ iLonger_any tag s w (by omega)
theorem sLonger_v {tag v : Int} {s : ByteArray} {w : World} (hv : Hid (lnI tag s = v)) (hn : s.size ≤ 201) : Calls Try.prog 15 #[.int .i64 tag, .string s] w fun e w' => e = .returned (.int .i64 v) ∧ w' = w := hv.out ▸ sLonger_any tag s w (by omega)
theorem iSeal_v {tag v : Int} {s : ByteArray} {w : World} (hv : Hid (slI tag s = v)) (hn : s.size ≤ 201) : Calls Try.prog 13 #[.int .i64 tag, .string s] w fun e w' => e = .returned (.int .i64 v) ∧ Below w.heap.size w w' := hv.out ▸ iSeal_any tag s w (by omega)
theorem sSeal_v {tag v : Int} {s : ByteArray} {w : World} (hv : Hid (slI tag s = v)) (hn : s.size ≤ 201) : Calls Try.prog 16 #[.int .i64 tag, .string s] w fun e w' => e = .returned (.int .i64 v) ∧ w' = w := hv.out ▸ sSeal_any tag s w (by omega)

/-- A text whose byte at m is z. -/
def ch (s : ByteArray) (m : Nat) (z : Int) : List Int := (List.range s.size).map fun j => if j = m then z else bt s j
theorem ch_len (s : ByteArray) (m : Nat) (z : Int) : (ch s m z).length = s.size := by simp [ch]
theorem ch_get {s : ByteArray} {m : Nat} {z : Int} {j : Nat} (h : j < s.size) : (ch s m z).getD j 0 = if j = m then z else bt s j := by simp [ch, List.getD, h]
theorem bt_nums {xs : List Int} (h : ∀ j, 0 ≤ xs.getD j 0 ∧ xs.getD j 0 ≤ 255) (j : Nat) : bt (strOfNums xs) j = xs.getD j 0 := by
  by_cases hj : j < xs.length
  · have hz : j < (strOfNums xs).size := by rw [strOfNums_size]; exact hj
    have hb := h j
    rw [bt_at hz]
    have e1 : (strOfNums xs)[j] = (strOfNums xs).data[j]'hz := rfl
    have hg : xs.getD j 0 = xs[j] := by simp [List.getD, hj]
    rw [hg] at hb ⊢
    have e2 : (strOfNums xs).data[j]'hz = UInt8.ofNat (xs[j]).toNat := by simp [strOfNums]
    rw [e1, e2, UInt8.toNat_ofNat']
    omega
  · rw [bt_end (by rw [strOfNums_size]; omega)]
    simp [List.getD, hj]
theorem ch_bt {s : ByteArray} {m : Nat} {z : Int} (hm : m < s.size) (hz : 0 ≤ z ∧ z ≤ 255) : bt (strOfNums (ch s m z)) m = z ∧ ∀ j, j ≠ m → bt (strOfNums (ch s m z)) j = bt s j := by
  have hb : ∀ j, (ch s m z).getD j 0 = if j = m then z else bt s j := fun j => by
    by_cases h : j < s.size
    · exact ch_get h
    · have : (ch s m z).getD j 0 = 0 := by simp [ch, List.getD, h]
      rw [this, if_neg (by omega), bt_end (by omega)]
  have hr : ∀ j, 0 ≤ (ch s m z).getD j 0 ∧ (ch s m z).getD j 0 ≤ 255 := fun j => by
    rw [hb]
    split
    · exact hz
    · exact bt_bd s j
  refine ⟨by rw [bt_nums hr, hb, if_pos rfl], fun j hj => by rw [bt_nums hr, hb, if_neg hj]⟩
theorem ch_ne {a h z : Int} {s : ByteArray} {m : Nat} (hh : Hid (slI a s = h)) (h0 : 0 ≤ h) (hm : m < s.size) (hz : 0 ≤ z ∧ z ≤ 255) (hne : z ≠ bt s m) : ¬ slI a (strOfNums (ch s m z)) = h := by
  obtain ⟨e1, e2⟩ := ch_bt hm hz
  rw [← hh.out] at h0 ⊢
  exact slI_byte h0 (by rw [strOfNums_size, ch_len]) hm e2 (by rw [e1]; exact hne)
end Go.Proofs.Ytmphjakdmknkhaa
