/-
  Where a Cell's Own stands; a Directory copied: the specification's.
-/
import Derived.Test.YtamnmakegdnblaaKD5
import Derived.Test.YtamnmakegdnblaaKB5
namespace Go.Proofs.Ytamnmakegdnblaa.K.D
open Go.Shelf Go.RowKit Go.Joins
attribute [local go_sem] Oper.semAt_some

def eqC (o : On) (l x y : Int) : Bool := decide (o.l = l ∧ o.x = x ∧ o.y = y)
/-- Where a Cell's Own stands; the list's length: nowhere. -/
def posO (l x y : Int) : List On → Nat
  | [] => 0
  | o :: r => if eqC o l x y then 0 else posO l x y r + 1
theorem posO_le (l x y : Int) : ∀ L : List On, posO l x y L ≤ L.length
  | [] => Nat.le_refl _
  | o :: r => by
    have := posO_le l x y r
    unfold posO
    split <;> simp only [List.length_cons] <;> omega
def atI (L : List On) (l x y : Int) : Int := if posO l x y L < L.length then posO l x y L else -1
set_option maxRecDepth 100000 in
set_option maxHeartbeats 4000000 in
theorem l15At_any (e : Int) (p : Option Addr) (n c : Nat) (L : List On) (hn : L.length = n) (cl cx cy : Int) (w : World) (hL : SlG kO w p L) (hnb : n ≤ 64) :
    Calls Try.prog 47 #[Dv.v ⟨e, p, n, c⟩, .agg #[.int .i64 cl, .int .i64 cx, .int .i64 cy]] w fun ee w' => ee = .returned (.int .i64 (atI L cl cx cy)) ∧ Below w.heap.size w w' := by
  have hst := ((St.nil w).push [.int .i64 e, .slice p n c] 26).push [.int .i64 cl, .int .i64 cx, .int .i64 cy] 28
  simp only [World.size_alloc] at hst
  have HN : Hid (L.length = n) := hn
  have HLL := Lib.hid hL
  clear hn hL
  go_enter Try.func47, Try.ntmps47
  go_wp2
  go_loopw [5] (fun i wr => ∃ (k : Nat), k ≤ n ∧ i = .int .i64 k ∧ Hid (posO cl cx cy L = k + posO cl cx cy (L.drop k)) ∧ St w wr [(w.heap.size + 1, [.int .i64 cl, .int .i64 cx, .int .i64 cy]), (w.heap.size, [.int .i64 e, .slice p n c])]) (fun i _ => n - (intOf i).toNat)
  case atStart => exact ⟨0, by omega, rfl, (by simp : posO cl cx cy L = 0 + posO cl cx cy (L.drop 0)), hst⟩
  case round =>
    clear hst
    obtain ⟨k, hk, rfl, hK, hst⟩ := hrel
    have hdir := hst.has
    simp [Has, HasAt] at hdir
    by_cases hlt : k < n
    · have hki : (k : Int) < n := by omega
      have hkL : k < L.length := by rw [HN.out]; exact hlt
      obtain ⟨g, off, rfl, hC⟩ := (HLL.out.step hst.bel).at hkL
      obtain ⟨c0, c1, c2, -⟩ := CsG.o4 hC (getO hkL)
      have hdr := drop_getO hkL
      obtain ⟨⟨l, x, y, q⟩, hm⟩ : ∃ m, L.getD k zon = m := ⟨_, rfl⟩
      rw [hm] at hdr c0 c1 c2
      dsimp only at c0 c1 c2
      obtain ⟨b, hb⟩ : ∃ b, eqC ⟨l, x, y, q⟩ cl cx cy = b := ⟨_, rfl⟩
      have HP : Hid (posO cl cx cy L = if b then k else k + 1 + posO cl cx cy (L.drop (k + 1))) := by
        show posO cl cx cy L = if b then k else k + 1 + posO cl cx cy (L.drop (k + 1))
        rw [hK.out, hdr]
        rw [show posO cl cx cy (⟨l, x, y, q⟩ :: L.drop (k + 1)) = (if eqC ⟨l, x, y, q⟩ cl cx cy then 0 else posO cl cx cy (L.drop (k + 1)) + 1) from rfl, hb]
        cases b
        · simp only [Bool.false_eq_true, if_false]; omega
        · simp only [if_true]; omega
      unfold eqC at hb
      simp only at hb
      clear hC hdr hm hK
      by_cases h1 : l = cl
      · by_cases h2 : x = cx
        · by_cases h3 : y = cy
          · subst h1 h2 h3
            have HV : Hid (atI L l x y = k) := by
              have := HP.out
              rw [← hb, decide_eq_true (⟨rfl, rfl, rfl⟩ : l = l ∧ x = x ∧ y = y)] at this
              show atI L l x y = k
              unfold atI
              simp only [if_true] at this
              rw [this, if_pos (by rw [HN.out]; exact hlt)]
            clear hb HP
            go_wp2
            go_quiet (fail)
            go_wp2
            go_ret
            exact ⟨ret_i64 HV.out.symm, (hst.step (M.bdrewN (Below.refl _ _) _)).bel⟩
          · have HV : Hid (posO cl cx cy L = k + 1 + posO cl cx cy (L.drop (k + 1))) := by
              have := HP.out
              rw [← hb, decide_eq_false (by omega)] at this
              exact this
            have h3' : (y == cy) = false := by simpa using h3
            subst h1 h2
            clear hb HP
            go_wp2
            go_quiet (fail)
            go_wp2
            go_roundw
            case rel => exact ⟨k + 1, by omega, by go_num, HV.out, hst.step (M.bdrewN (Below.refl _ _) _)⟩
            case measure => simp [intOf]; omega
        · have HV : Hid (posO cl cx cy L = k + 1 + posO cl cx cy (L.drop (k + 1))) := by
            have := HP.out
            rw [← hb, decide_eq_false (by omega)] at this
            exact this
          have h2' : (x == cx) = false := by simpa using h2
          subst h1
          clear hb HP
          go_wp2
          go_quiet (fail)
          go_wp2
          go_roundw
          case rel => exact ⟨k + 1, by omega, by go_num, HV.out, hst.step (M.bdrewN (Below.refl _ _) _)⟩
          case measure => simp [intOf]; omega
      · have HV : Hid (posO cl cx cy L = k + 1 + posO cl cx cy (L.drop (k + 1))) := by
          have := HP.out
          rw [← hb, decide_eq_false (by omega)] at this
          exact this
        have h1' : (l == cl) = false := by simpa using h1
        clear hb HP
        go_wp2
        go_quiet (fail)
        go_wp2
        go_roundw
        case rel => exact ⟨k + 1, by omega, by go_num, HV.out, hst.step (M.bdrewN (Below.refl _ _) _)⟩
        case measure => simp [intOf]; omega
    · obtain rfl : k = n := by omega
      have HV : Hid (atI L cl cx cy = -1) := by
        have := hK.out
        rw [List.drop_of_length_le (by rw [HN.out]; exact Nat.le_refl _)] at this
        show atI L cl cx cy = -1
        unfold atI
        rw [this, HN.out, if_neg (by simp [posO])]
      go_wp2
      go_ret
      exact ⟨ret_i64 HV.out.symm, hst.bel⟩
end Go.Proofs.Ytamnmakegdnblaa.K.D
