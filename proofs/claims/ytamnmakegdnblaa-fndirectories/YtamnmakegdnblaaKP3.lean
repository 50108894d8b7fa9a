/-
  Where an Own stands that is asked for; whose a Spot is: the program's.
-/
import Derived.Test.YtamnmakegdnblaaKP2
import Derived.Test.YtamnmakegdnblaaKD6
import Derived.Deep.QuietTactic
import Derived.Deep.RegionWith
namespace Go.Proofs.Ytamnmakegdnblaa.K.D
open Go.Shelf Go.RowKit Go.Joins
attribute [local go_sem] Oper.semAt_some

/-- The first that is so; the list's length: none is. -/
def posF (f : On → Bool) : List On → Nat
  | [] => 0
  | o :: r => if f o then 0 else posF f r + 1
theorem posF_le (f : On → Bool) : ∀ L : List On, posF f L ≤ L.length
  | [] => Nat.le_refl _
  | o :: r => by
    have := posF_le f r
    unfold posF
    split <;> simp only [List.length_cons] <;> omega
theorem posF_yes {f : On → Bool} : ∀ {L : List On}, posF f L < L.length → f (L.getD (posF f L) zon) = true
  | [], h => by simp [posF] at h
  | o :: r, h => by
    unfold posF at h ⊢
    cases hf : f o
    · simp only [hf, Bool.false_eq_true, if_false, List.length_cons] at h ⊢
      have := posF_yes (f := f) (L := r) (by omega)
      simpa [List.getD] using this
    · simpa [List.getD] using hf
theorem posF_lt {f : On → Bool} : ∀ {L : List On} {k : Nat}, k < L.length → f (L.getD k zon) = true → posF f L ≤ k
  | [], _, h, _ => by simp at h
  | o :: r, 0, _, h => by
    have h' : f o = true := by simpa [List.getD] using h
    unfold posF; rw [h']; simp
  | o :: r, k + 1, hk, h => by
    have := posF_lt (f := f) (L := r) (k := k) (by simpa using hk) (by simpa [List.getD] using h)
    unfold posF
    split <;> omega
theorem posF_ext {f g : On → Bool} : ∀ {L : List On}, (∀ o ∈ L, f o = g o) → posF f L = posF g L
  | [], _ => rfl
  | o :: r, h => by
    unfold posF
    rw [h o (List.mem_cons_self ..), posF_ext (fun q hq => h q (List.mem_cons_of_mem _ hq))]
theorem posO_posF (l x y : Int) : ∀ L : List On, posO l x y L = posF (fun o => eqC o l x y) L
  | [] => rfl
  | o :: r => by unfold posO posF; rw [posO_posF l x y r]
def atF (f : On → Bool) (L : List On) : Int := if posF f L < L.length then (posF f L : Int) else -1

set_option maxHeartbeats 1000000 in
theorem isOf_any (o : On) (l x y : Int) (w : World) : Calls Try.prog 75 #[o.v, .agg #[.int .i64 l, .int .i64 x, .int .i64 y]] w fun e w' => e = .returned (.bool (eqC o l x y)) ∧ Below w.heap.size w w' := by
  obtain ⟨a, b, c, s⟩ := o
  have hst := ((St.nil w).push [.int .i64 a, .int .i64 b, .int .i64 c, .int .i64 s] 73).push [.int .i64 l, .int .i64 x, .int .i64 y] 28
  unfold eqC
  simp only
  by_cases h1 : a = l
  · by_cases h2 : b = x
    · by_cases h3 : c = y
      · subst h1 h2 h3
        rw [decide_eq_true (⟨rfl, rfl, rfl⟩ : a = a ∧ b = b ∧ c = c)]
        go_enter Try.func75, Try.ntmps75
        go_wp2
        go_ret
        exact ⟨rfl, hst.bel⟩
      · rw [decide_eq_false (by omega)]
        have h3' : (c == y) = false := by simpa using h3
        subst h1 h2
        go_enter Try.func75, Try.ntmps75
        go_wp2
        go_ret
        exact ⟨rfl, hst.bel⟩
    · rw [decide_eq_false (by omega)]
      have h2' : (b == x) = false := by simpa using h2
      subst h1
      go_enter Try.func75, Try.ntmps75
      go_wp2
      go_ret
      exact ⟨rfl, hst.bel⟩
  · rw [decide_eq_false (by omega)]
    have h1' : (a == l) = false := by simpa using h1
    go_enter Try.func75, Try.ntmps75
    go_wp2
    go_ret
    exact ⟨rfl, hst.bel⟩
def aroC (l x y : Int) (o : On) : Bool := M.insB l x y o.l o.x o.y
set_option maxHeartbeats 1000000 in
theorem isAround_any (o : On) (l x y : Int) (w : World) : Calls Try.prog 84 #[o.v, .agg #[.int .i64 l, .int .i64 x, .int .i64 y]] w fun e w' => e = .returned (.bool (aroC l x y o)) ∧ Below w.heap.size w w' := by
  obtain ⟨a, b, c, s⟩ := o
  have HI := Lib.hid (fun W => M.iInside_any l x y a b c W)
  have hst := ((St.nil w).push [.int .i64 a, .int .i64 b, .int .i64 c, .int .i64 s] 73).push [.int .i64 l, .int .i64 x, .int .i64 y] 28
  go_enter Try.func84, Try.ntmps84
  go_wp2_with (go_at_call 99; refine (HI.out _).mono ?_; rintro e w1 ⟨rfl, hb⟩)
  go_ret
  exact ⟨rfl, (hst.step hb).bel⟩
set_option maxHeartbeats 1000000 in
theorem indexFunc_any (p : Option Addr) (n c : Nat) (L : List On) (hn : L.length = n) (a b : Nat) (f : On → Bool) (w : World) (hL : SlG kO w p L) (hb0 : n ≤ 10000000)
    (HF : ∀ o W, Below w.heap.size w W → Calls Try.prog 94 #[o.v, .pointer (some ⟨a, 0, none⟩), .pointer (some ⟨b, 0, none⟩)] W fun e w' => e = .returned (.bool (f o)) ∧ Below W.heap.size W w') :
    Calls Try.prog 93 #[.slice p n c, .func (.func 94) #[] #[.pointer (some ⟨a, 0, none⟩), .pointer (some ⟨b, 0, none⟩)]] w fun e w' => e = .returned (.int .i64 (atF f L)) ∧ Below w.heap.size w w' := by
  have HN : Hid (L.length = n) := hn
  have HFF := Lib.hid HF
  have HLL := Lib.hid hL
  clear hn HF hL
  go_enter Try.func93, Try.ntmps93
  go_wp2
  go_loopw [8] (fun i wr => ∃ k : Nat, k ≤ n ∧ i = .int .i64 k ∧ Hid (posF f L = k + posF f (L.drop k)) ∧ Below w.heap.size w wr) (fun i _ => n - (intOf i).toNat)
  case atStart => exact ⟨0, by omega, rfl, (by simp : posF f L = 0 + posF f (L.drop 0)), Below.refl _ _⟩
  case round =>
    obtain ⟨k, hk, rfl, hK, hb⟩ := hrel
    by_cases hlt : k < n
    · have hki : (k : Int) < n := by omega
      have hkL : k < L.length := by rw [HN.out]; exact hlt
      obtain ⟨g, off, rfl, hC⟩ := (HLL.out.step hb).at hkL
      obtain ⟨c0, c1, c2, c3⟩ := CsG.o4 hC (getO hkL)
      have hdr := drop_getO hkL
      obtain ⟨⟨ol, ox, oy, os⟩, hm⟩ : ∃ m, L.getD k zon = m := ⟨_, rfl⟩
      rw [hm] at hdr c0 c1 c2 c3
      have HC := Lib.hid (fun W (h : Below w.heap.size w W) => HFF.out ⟨ol, ox, oy, os⟩ W h)
      obtain ⟨v, hv⟩ : ∃ v, f ⟨ol, ox, oy, os⟩ = v := ⟨_, rfl⟩
      rw [hv] at HC
      have HP : Hid (posF f L = if v then k else k + 1 + posF f (L.drop (k + 1))) := by
        show posF f L = if v then k else k + 1 + posF f (L.drop (k + 1))
        rw [hK.out, hdr]
        rw [show posF f (⟨ol, ox, oy, os⟩ :: L.drop (k + 1)) = (if f ⟨ol, ox, oy, os⟩ then 0 else posF f (L.drop (k + 1)) + 1) from rfl, hv]
        cases v
        · simp only [Bool.false_eq_true, if_false]; omega
        · simp only [if_true]; omega
      clear hC hdr hm hv hK
      cases v
      · go_wp2_with (go_at_call 94; refine (HC.out _ hb).mono ?_; rintro e w1 ⟨rfl, hb2⟩)
        go_roundw
        case rel => exact ⟨k + 1, by omega, by go_num, HP.out, M.bstep hb hb2 (Nat.le_refl _)⟩
        case measure => simp [intOf]; omega
      · have HV : Hid (atF f L = k) := by
          have := HP.out
          simp only [if_true] at this
          show atF f L = k
          unfold atF
          rw [this, if_pos hkL]
        clear HP
        go_wp2_with (go_at_call 94; refine (HC.out _ hb).mono ?_; rintro e w1 ⟨rfl, hb2⟩)
        go_ret
        exact ⟨M.ret_i64 HV.out.symm, M.bstep hb hb2 (Nat.le_refl _)⟩
    · obtain rfl : k = n := by omega
      have HV : Hid (atF f L = -1) := by
        have := hK.out
        rw [List.drop_of_length_le (by rw [HN.out]; exact Nat.le_refl _)] at this
        show atF f L = -1
        unfold atF
        rw [this, HN.out, if_neg (by simp [posF])]
      go_wp2
      go_ret
      exact ⟨M.ret_i64 HV.out.symm, hb⟩
set_option maxHeartbeats 1000000 in
theorem at1_of (a b : Nat) (l x y : Int) (w : World) (ha : w.cell? ⟨a, 0, none⟩ = some (.func (.func 75) #[] #[])) (hb : w.cell? ⟨b, 0, none⟩ = some (.int .i64 l) ∧ w.cell? ⟨b, 1, none⟩ = some (.int .i64 x) ∧ w.cell? ⟨b, 2, none⟩ = some (.int .i64 y)) (hla : a < w.heap.size) (hlb : b < w.heap.size) (o : On) :
    Calls Try.prog 94 #[o.v, .pointer (some ⟨a, 0, none⟩), .pointer (some ⟨b, 0, none⟩)] w fun e w' => e = .returned (.bool (eqC o l x y)) ∧ Below w.heap.size w w' := by
  have HI := Lib.hid (fun W => isOf_any o l x y W)
  obtain ⟨h0, h1, h2⟩ := hb
  obtain ⟨ol, ox, oy, os⟩ := o
  have hst := (St.nil w).push [.int .i64 ol, .int .i64 ox, .int .i64 oy, .int .i64 os] 73
  go_enter Try.func94, Try.ntmps94
  go_wp2_with (go_at_call 75; refine (HI.out _).mono ?_; rintro e w1 ⟨rfl, hb⟩)
  go_ret
  exact ⟨rfl, (hst.step hb).bel⟩
set_option maxHeartbeats 1000000 in
theorem at_of (e : Int) (p : Option Addr) (n c : Nat) (L : List On) (hn : L.length = n) (l x y : Int) (w : World) (hL : SlG kO w p L) (hb0 : n ≤ 10000000) :
    Calls Try.prog 74 #[Dv.v ⟨e, p, n, c⟩, .agg #[.int .i64 l, .int .i64 x, .int .i64 y], .func (.func 75) #[] #[]] w fun ee w' => ee = .returned (.int .i64 (atF (fun o => eqC o l x y) L)) ∧ Below w.heap.size w w' := by
  have hst := (((St.nil w).push [.int .i64 e, .slice p n c] 26).push [.int .i64 l, .int .i64 x, .int .i64 y] 28).push [.func (.func 75) #[] #[]] 103
  simp only [World.size_alloc] at hst
  have HC : Hid (∀ W, St w W [(w.heap.size + 1 + 1, [.func (.func 75) #[] #[]]), (w.heap.size + 1, [.int .i64 l, .int .i64 x, .int .i64 y]), (w.heap.size, [.int .i64 e, .slice p n c])] → Calls Try.prog 93 #[.slice p n c, .func (.func 94) #[] #[.pointer (some ⟨w.heap.size + 1 + 1, 0, none⟩), .pointer (some ⟨w.heap.size + 1, 0, none⟩)]] W fun ee w' => ee = .returned (.int .i64 (atF (fun o => eqC o l x y) L)) ∧ Below W.heap.size W w') := fun W hW => by
    refine indexFunc_any p n c L hn _ _ _ W (hL.step hW.bel) hb0 fun o X hX => ?_
    have hX' := (hW.step hX).has
    simp only [Has, HasAt] at hX'
    exact at1_of _ _ l x y X hX'.1.2.2.1 ⟨hX'.2.1.2.2.1, hX'.2.1.2.2.2.1, hX'.2.1.2.2.2.2.1⟩ hX'.1.1 hX'.2.1.1 o
  clear hn hL
  go_enter Try.func74, Try.ntmps74
  go_wp2_with (go_at_call 93; refine (HC.out _ hst).mono ?_; rintro ee w1 ⟨rfl, hb⟩)
  go_ret
  exact ⟨rfl, (hst.step hb).bel⟩
set_option maxHeartbeats 1000000 in
theorem at1_aro (a b : Nat) (l x y : Int) (w : World) (ha : w.cell? ⟨a, 0, none⟩ = some (.func (.func 84) #[] #[])) (hb : w.cell? ⟨b, 0, none⟩ = some (.int .i64 l) ∧ w.cell? ⟨b, 1, none⟩ = some (.int .i64 x) ∧ w.cell? ⟨b, 2, none⟩ = some (.int .i64 y)) (hla : a < w.heap.size) (hlb : b < w.heap.size) (o : On) :
    Calls Try.prog 94 #[o.v, .pointer (some ⟨a, 0, none⟩), .pointer (some ⟨b, 0, none⟩)] w fun e w' => e = .returned (.bool (aroC l x y o)) ∧ Below w.heap.size w w' := by
  have HI := Lib.hid (fun W => isAround_any o l x y W)
  obtain ⟨h0, h1, h2⟩ := hb
  obtain ⟨ol, ox, oy, os⟩ := o
  have hst := (St.nil w).push [.int .i64 ol, .int .i64 ox, .int .i64 oy, .int .i64 os] 73
  go_enter Try.func94, Try.ntmps94
  go_wp2_with (go_at_call 84; refine (HI.out _).mono ?_; rintro e w1 ⟨rfl, hb⟩)
  go_ret
  exact ⟨rfl, (hst.step hb).bel⟩
set_option maxHeartbeats 1000000 in
theorem at_aro (e : Int) (p : Option Addr) (n c : Nat) (L : List On) (hn : L.length = n) (l x y : Int) (w : World) (hL : SlG kO w p L) (hb0 : n ≤ 10000000) :
    Calls Try.prog 74 #[Dv.v ⟨e, p, n, c⟩, .agg #[.int .i64 l, .int .i64 x, .int .i64 y], .func (.func 84) #[] #[]] w fun ee w' => ee = .returned (.int .i64 (atF (fun o => aroC l x y o) L)) ∧ Below w.heap.size w w' := by
  have hst := (((St.nil w).push [.int .i64 e, .slice p n c] 26).push [.int .i64 l, .int .i64 x, .int .i64 y] 28).push [.func (.func 84) #[] #[]] 103
  simp only [World.size_alloc] at hst
  have HC : Hid (∀ W, St w W [(w.heap.size + 1 + 1, [.func (.func 84) #[] #[]]), (w.heap.size + 1, [.int .i64 l, .int .i64 x, .int .i64 y]), (w.heap.size, [.int .i64 e, .slice p n c])] → Calls Try.prog 93 #[.slice p n c, .func (.func 94) #[] #[.pointer (some ⟨w.heap.size + 1 + 1, 0, none⟩), .pointer (some ⟨w.heap.size + 1, 0, none⟩)]] W fun ee w' => ee = .returned (.int .i64 (atF (fun o => aroC l x y o) L)) ∧ Below W.heap.size W w') := fun W hW => by
    refine indexFunc_any p n c L hn _ _ _ W (hL.step hW.bel) hb0 fun o X hX => ?_
    have hX' := (hW.step hX).has
    simp only [Has, HasAt] at hX'
    exact at1_aro _ _ l x y X hX'.1.2.2.1 ⟨hX'.2.1.2.2.1, hX'.2.1.2.2.2.1, hX'.2.1.2.2.2.2.1⟩ hX'.1.1 hX'.2.1.1 o
  clear hn hL
  go_enter Try.func74, Try.ntmps74
  go_wp2_with (go_at_call 93; refine (HC.out _ hst).mono ?_; rintro ee w1 ⟨rfl, hb⟩)
  go_ret
  exact ⟨rfl, (hst.step hb).bel⟩
end Go.Proofs.Ytamnmakegdnblaa.K.D
