/-
  A standing: voted, decided, forgotten.
-/
import Derived.Test.YtobbankkfplooaaGreatKP5
namespace Go.Proofs.YtobbankkfplooaaGreat.K.G
open Go.Shelf Go.RowKit Go.Joins Y
attribute [local go_sem] Oper.semAt_some

theorem voteOf_any (yes : Bool) (w : World) : Calls Tryz.prog 66 #[.bool yes] w fun e w' => e = .returned (.int .i64 (voteN yes)) ∧ w' = w := by
  cases yes
  · go_enter Tryz.func66, Tryz.ntmps66
    go_wp2
    go_ret
    exact ⟨rfl, rfl⟩
  · go_enter Tryz.func66, Tryz.ntmps66
    go_wp2
    go_ret
    exact ⟨rfl, rfl⟩
set_option maxHeartbeats 1000000 in
theorem index_any (p : Option Addr) (cap : Nat) (L : List Int) (n : Nat) (x : Int) (hn : L.length = n) (w : World) (hL : SlG kI w p L) (hb0 : n ≤ 10000000) :
    Calls Tryz.prog 35 #[.slice p n cap, .int .i64 x] w fun e w' => e = .returned (.int .i64 (atN L x 0)) ∧ w' = w := by
  subst hn
  go_enter Tryz.func35, Tryz.ntmps35
  go_wp2
  go_loop [8] (fun i => ∃ k : Nat, k ≤ L.length ∧ i = .int .i64 k ∧ Hid (∀ (j : Nat) a, j < k → L[j]? = some a → a ≠ x)) (fun i => L.length - (intOf i).toNat)
  case atStart => exact ⟨0, by omega, rfl, fun j a hj => by omega⟩
  case round =>
    obtain ⟨k, hk, rfl, hall⟩ := hrel
    by_cases hlt : k < L.length
    · have hki : (k : Int) < L.length := by omega
      obtain ⟨g, off, rfl, hC⟩ := hL.at hlt
      have hg := List.getElem?_eq_getElem hlt
      generalize L[k] = r at hg
      have c0 := hC.int hg
      by_cases hr : x = r
      · subst hr
        go_wp2
        go_ret
        exact ⟨ret_i64 (by rw [atN_some hall.out hg]; omega), rfl⟩
      · have hr' : (x == r) = false := by simpa using hr
        go_wp2
        go_round
        case rel => exact ⟨k + 1, by omega, by go_num, Lib.hid fun j a hj ha => by
          by_cases e : j = k
          · subst e; rw [hg] at ha; cases ha; exact fun e => hr e.symm
          · exact hall.out j a (by omega) ha⟩
        case measure => simp [intOf]; omega
    · obtain rfl : k = L.length := by omega
      go_wp2
      go_ret
      refine ⟨ret_i64 ?_, rfl⟩
      rw [atN_none fun a ha => ?_]
      obtain ⟨j, hj, e⟩ := List.getElem_of_mem ha
      exact hall.out j a hj (by rw [← e]; exact List.getElem?_eq_getElem hj)
theorem atN_any {L : List Int} {x k : Int} (hk : 0 ≤ k) : (0 ≤ atN L x k) ↔ L.any (fun v => decide (v = x)) = true := by
  induction L generalizing k with
  | nil => simp [atN]
  | cons a t ih =>
    rw [atN, List.any_cons, Bool.or_eq_true, decide_eq_true_eq]
    by_cases e : a = x
    · rw [if_pos e]; exact ⟨fun _ => .inl e, fun _ => hk⟩
    · rw [if_neg e, ih (k := k + 1) (by omega)]; exact ⟨.inr, fun h => h.resolve_left e⟩
theorem contains_any (p : Option Addr) (cap : Nat) (L : List Int) (n : Nat) (x : Int) (hn : L.length = n) (w : World) (hL : SlG kI w p L) (hb0 : n ≤ 10000000) {v : Bool} (hv : L.any (fun v => decide (v = x)) = v) :
    Calls Tryz.prog 67 #[.slice p n cap, .int .i64 x] w fun e w' => e = .returned (.bool v) ∧ w' = w := by
  have HI := Lib.hid (index_any p cap L n x hn w hL hb0)
  have hd : decide (0 ≤ atN L x 0) = v := by
    rw [← hv, Bool.eq_iff_iff, decide_eq_true_eq]; exact atN_any (by decide)
  generalize atN L x 0 = k at HI hd
  clear hL hn hv
  subst hd
  go_enter Tryz.func67, Tryz.ntmps67
  go_wp2_with (go_at_call 35; refine HI.out.mono ?_; rintro e w1 ⟨rfl, hw1⟩; obtain rfl := hw1.symm)
  go_ret
  exact ⟨rfl, rfl⟩
/-- Four cells are a list of four numbers. -/
theorem sl_q {W : World} {g : Nat} {a b c d : Int} (hg : g < W.heap.size) (h0 : W.cell? ⟨g, 0, none⟩ = some (.int .i64 a)) (h1 : W.cell? ⟨g, 1, none⟩ = some (.int .i64 b)) (h2 : W.cell? ⟨g, 2, none⟩ = some (.int .i64 c)) (h3 : W.cell? ⟨g, 3, none⟩ = some (.int .i64 d)) : SlG kI W (some ⟨g, 0, none⟩) [a, b, c, d] := by
  refine .inr ⟨g, 0, rfl, hg, fun j u hj => ?_⟩
  rw [Nat.zero_add]
  have hlt : j < 4 := by have := (List.getElem?_eq_some_iff.1 hj).1; simpa [Kd.flat, kI] using this
  match j, hlt with
  | 0, _ => simp [Kd.flat, kI] at hj; subst hj; exact h0
  | 1, _ => simp [Kd.flat, kI] at hj; subst hj; exact h1
  | 2, _ => simp [Kd.flat, kI] at hj; subst hj; exact h2
  | 3, _ => simp [Kd.flat, kI] at hj; subst hj; exact h3
theorem below_alloc2 (w : World) (a b : Obj) : Below w.heap.size w ((w.alloc a).alloc b) := (below_alloc1 w a).alloc (Nat.le_trans (Nat.le_refl _) (below_alloc1 w a).size) b
set_option maxHeartbeats 1000000 in
theorem voted_m1 (a b c d s : Int) (yes : Bool) (w : World) {r : Q4} (hr : ⟨a, b, c, d⟩ = r) :
    Calls Tryz.prog 34 #[(Sd.mk ⟨a, b, c, d⟩ s).v, .int .i64 (-1), .bool yes] w fun e w' => e = .returned (Sd.mk r s).v ∧ Below w.heap.size w w' := by
  have hS0 := ((Sg.nil w).lit kD [⟨⟨a, b, c, d⟩, s⟩] 1 rfl (by decide) #[.int .i64 a, .int .i64 b, .int .i64 c, .int .i64 d, .int .i64 s] rfl).lit kD [⟨q0, 0⟩] 1 rfl (by decide) #[.int .i64 0, .int .i64 0, .int .i64 0, .int .i64 0, .int .i64 0] rfl
  change Sg w ((w.alloc (.cells #[.int .i64 a, .int .i64 b, .int .i64 c, .int .i64 d, .int .i64 s] 59)).alloc (.cells #[.int .i64 0, .int .i64 0, .int .i64 0, .int .i64 0, .int .i64 0] 59)) _ at hS0
  rw [World.size_alloc] at hS0
  subst hr
  go_enter Tryz.func34, Tryz.ntmps34
  go_wp2
  refine bodyPost_ret (v := .agg #[.int .i64 a, .int .i64 b, .int .i64 c, .int .i64 d, .int .i64 s]) (by simp [results, Tryz.results34, go_sem]) rfl ⟨rfl, ?_⟩
  exact below_alloc2 _ _ _
set_option maxHeartbeats 1000000 in
theorem voted_0 (a b c d s : Int) (yes : Bool) (w : World) {r : Q4} (hr : (if s = 0 ∧ a = 0 then ⟨voteN yes, b, c, d⟩ else ⟨a, b, c, d⟩) = r) :
    Calls Tryz.prog 34 #[(Sd.mk ⟨a, b, c, d⟩ s).v, .int .i64 0, .bool yes] w fun e w' => e = .returned (Sd.mk r s).v ∧ Below w.heap.size w w' := by
  have hS0 := ((Sg.nil w).lit kD [⟨⟨a, b, c, d⟩, s⟩] 1 rfl (by decide) #[.int .i64 a, .int .i64 b, .int .i64 c, .int .i64 d, .int .i64 s] rfl).lit kD [⟨q0, 0⟩] 1 rfl (by decide) #[.int .i64 0, .int .i64 0, .int .i64 0, .int .i64 0, .int .i64 0] rfl
  change Sg w ((w.alloc (.cells #[.int .i64 a, .int .i64 b, .int .i64 c, .int .i64 d, .int .i64 s] 59)).alloc (.cells #[.int .i64 0, .int .i64 0, .int .i64 0, .int .i64 0, .int .i64 0] 59)) _ at hS0
  rw [World.size_alloc] at hS0
  by_cases h1 : s = 0
  case neg =>
    rw [if_neg (fun h => h1 h.1)] at hr
    subst hr
    have h1' : (s == 0) = false := by simpa using h1
    go_enter Tryz.func34, Tryz.ntmps34
    go_wp2
    refine bodyPost_ret (v := .agg #[.int .i64 a, .int .i64 b, .int .i64 c, .int .i64 d, .int .i64 s]) (by simp [results, Tryz.results34, go_sem]) rfl ⟨rfl, ?_⟩
    exact below_alloc2 _ _ _
  subst h1
  by_cases h2 : a = 0
  case neg =>
    rw [if_neg (fun h => h2 h.2)] at hr
    subst hr
    have h2' : (a == 0) = false := by simpa using h2
    go_enter Tryz.func34, Tryz.ntmps34
    go_wp2
    refine bodyPost_ret (v := .agg #[.int .i64 a, .int .i64 b, .int .i64 c, .int .i64 d, .int .i64 0]) (by simp [results, Tryz.results34, go_sem]) rfl ⟨rfl, ?_⟩
    exact below_alloc2 _ _ _
  subst h2
  rw [if_pos ⟨rfl, rfl⟩] at hr
  subst hr
  go_enter Tryz.func34, Tryz.ntmps34
  go_wp2_with (go_at_call 66; refine (voteOf_any yes _).mono ?_; rintro e w1 ⟨rfl, hw1⟩; obtain rfl := hw1.symm)
  generalize voteN yes = z
  refine bodyPost_ret (v := .agg #[.int .i64 z, .int .i64 b, .int .i64 c, .int .i64 d, .int .i64 0]) (by simp [results, Tryz.results34, go_sem]) rfl ⟨rfl, ?_⟩
  exact below_alloc2 _ _ _
set_option maxHeartbeats 1000000 in
theorem voted_1 (a b c d s : Int) (yes : Bool) (w : World) {r : Q4} (hr : (if s = 0 ∧ b = 0 then ⟨a, voteN yes, c, d⟩ else ⟨a, b, c, d⟩) = r) :
    Calls Tryz.prog 34 #[(Sd.mk ⟨a, b, c, d⟩ s).v, .int .i64 1, .bool yes] w fun e w' => e = .returned (Sd.mk r s).v ∧ Below w.heap.size w w' := by
  have hS0 := ((Sg.nil w).lit kD [⟨⟨a, b, c, d⟩, s⟩] 1 rfl (by decide) #[.int .i64 a, .int .i64 b, .int .i64 c, .int .i64 d, .int .i64 s] rfl).lit kD [⟨q0, 0⟩] 1 rfl (by decide) #[.int .i64 0, .int .i64 0, .int .i64 0, .int .i64 0, .int .i64 0] rfl
  change Sg w ((w.alloc (.cells #[.int .i64 a, .int .i64 b, .int .i64 c, .int .i64 d, .int .i64 s] 59)).alloc (.cells #[.int .i64 0, .int .i64 0, .int .i64 0, .int .i64 0, .int .i64 0] 59)) _ at hS0
  rw [World.size_alloc] at hS0
  by_cases h1 : s = 0
  case neg =>
    rw [if_neg (fun h => h1 h.1)] at hr
    subst hr
    have h1' : (s == 0) = false := by simpa using h1
    go_enter Tryz.func34, Tryz.ntmps34
    go_wp2
    refine bodyPost_ret (v := .agg #[.int .i64 a, .int .i64 b, .int .i64 c, .int .i64 d, .int .i64 s]) (by simp [results, Tryz.results34, go_sem]) rfl ⟨rfl, ?_⟩
    exact below_alloc2 _ _ _
  subst h1
  by_cases h2 : b = 0
  case neg =>
    rw [if_neg (fun h => h2 h.2)] at hr
    subst hr
    have h2' : (b == 0) = false := by simpa using h2
    go_enter Tryz.func34, Tryz.ntmps34
    go_wp2
    refine bodyPost_ret (v := .agg #[.int .i64 a, .int .i64 b, .int .i64 c, .int .i64 d, .int .i64 0]) (by simp [results, Tryz.results34, go_sem]) rfl ⟨rfl, ?_⟩
    exact below_alloc2 _ _ _
  subst h2
  rw [if_pos ⟨rfl, rfl⟩] at hr
  subst hr
  go_enter Tryz.func34, Tryz.ntmps34
  go_wp2_with (go_at_call 66; refine (voteOf_any yes _).mono ?_; rintro e w1 ⟨rfl, hw1⟩; obtain rfl := hw1.symm)
  generalize voteN yes = z
  refine bodyPost_ret (v := .agg #[.int .i64 a, .int .i64 z, .int .i64 c, .int .i64 d, .int .i64 0]) (by simp [results, Tryz.results34, go_sem]) rfl ⟨rfl, ?_⟩
  exact below_alloc2 _ _ _
set_option maxHeartbeats 1000000 in
theorem voted_2 (a b c d s : Int) (yes : Bool) (w : World) {r : Q4} (hr : (if s = 0 ∧ c = 0 then ⟨a, b, voteN yes, d⟩ else ⟨a, b, c, d⟩) = r) :
    Calls Tryz.prog 34 #[(Sd.mk ⟨a, b, c, d⟩ s).v, .int .i64 2, .bool yes] w fun e w' => e = .returned (Sd.mk r s).v ∧ Below w.heap.size w w' := by
  have hS0 := ((Sg.nil w).lit kD [⟨⟨a, b, c, d⟩, s⟩] 1 rfl (by decide) #[.int .i64 a, .int .i64 b, .int .i64 c, .int .i64 d, .int .i64 s] rfl).lit kD [⟨q0, 0⟩] 1 rfl (by decide) #[.int .i64 0, .int .i64 0, .int .i64 0, .int .i64 0, .int .i64 0] rfl
  change Sg w ((w.alloc (.cells #[.int .i64 a, .int .i64 b, .int .i64 c, .int .i64 d, .int .i64 s] 59)).alloc (.cells #[.int .i64 0, .int .i64 0, .int .i64 0, .int .i64 0, .int .i64 0] 59)) _ at hS0
  rw [World.size_alloc] at hS0
  by_cases h1 : s = 0
  case neg =>
    rw [if_neg (fun h => h1 h.1)] at hr
    subst hr
    have h1' : (s == 0) = false := by simpa using h1
    go_enter Tryz.func34, Tryz.ntmps34
    go_wp2
    refine bodyPost_ret (v := .agg #[.int .i64 a, .int .i64 b, .int .i64 c, .int .i64 d, .int .i64 s]) (by simp [results, Tryz.results34, go_sem]) rfl ⟨rfl, ?_⟩
    exact below_alloc2 _ _ _
  subst h1
  by_cases h2 : c = 0
  case neg =>
    rw [if_neg (fun h => h2 h.2)] at hr
    subst hr
    have h2' : (c == 0) = false := by simpa using h2
    go_enter Tryz.func34, Tryz.ntmps34
    go_wp2
    refine bodyPost_ret (v := .agg #[.int .i64 a, .int .i64 b, .int .i64 c, .int .i64 d, .int .i64 0]) (by simp [results, Tryz.results34, go_sem]) rfl ⟨rfl, ?_⟩
    exact below_alloc2 _ _ _
  subst h2
  rw [if_pos ⟨rfl, rfl⟩] at hr
  subst hr
  go_enter Tryz.func34, Tryz.ntmps34
  go_wp2_with (go_at_call 66; refine (voteOf_any yes _).mono ?_; rintro e w1 ⟨rfl, hw1⟩; obtain rfl := hw1.symm)
  generalize voteN yes = z
  refine bodyPost_ret (v := .agg #[.int .i64 a, .int .i64 b, .int .i64 z, .int .i64 d, .int .i64 0]) (by simp [results, Tryz.results34, go_sem]) rfl ⟨rfl, ?_⟩
  exact below_alloc2 _ _ _
set_option maxHeartbeats 1000000 in
theorem voted_3 (a b c d s : Int) (yes : Bool) (w : World) {r : Q4} (hr : (if s = 0 ∧ d = 0 then ⟨a, b, c, voteN yes⟩ else ⟨a, b, c, d⟩) = r) :
    Calls Tryz.prog 34 #[(Sd.mk ⟨a, b, c, d⟩ s).v, .int .i64 3, .bool yes] w fun e w' => e = .returned (Sd.mk r s).v ∧ Below w.heap.size w w' := by
  have hS0 := ((Sg.nil w).lit kD [⟨⟨a, b, c, d⟩, s⟩] 1 rfl (by decide) #[.int .i64 a, .int .i64 b, .int .i64 c, .int .i64 d, .int .i64 s] rfl).lit kD [⟨q0, 0⟩] 1 rfl (by decide) #[.int .i64 0, .int .i64 0, .int .i64 0, .int .i64 0, .int .i64 0] rfl
  change Sg w ((w.alloc (.cells #[.int .i64 a, .int .i64 b, .int .i64 c, .int .i64 d, .int .i64 s] 59)).alloc (.cells #[.int .i64 0, .int .i64 0, .int .i64 0, .int .i64 0, .int .i64 0] 59)) _ at hS0
  rw [World.size_alloc] at hS0
  by_cases h1 : s = 0
  case neg =>
    rw [if_neg (fun h => h1 h.1)] at hr
    subst hr
    have h1' : (s == 0) = false := by simpa using h1
    go_enter Tryz.func34, Tryz.ntmps34
    go_wp2
    refine bodyPost_ret (v := .agg #[.int .i64 a, .int .i64 b, .int .i64 c, .int .i64 d, .int .i64 s]) (by simp [results, Tryz.results34, go_sem]) rfl ⟨rfl, ?_⟩
    exact below_alloc2 _ _ _
  subst h1
  by_cases h2 : d = 0
  case neg =>
    rw [if_neg (fun h => h2 h.2)] at hr
    subst hr
    have h2' : (d == 0) = false := by simpa using h2
    go_enter Tryz.func34, Tryz.ntmps34
    go_wp2
    refine bodyPost_ret (v := .agg #[.int .i64 a, .int .i64 b, .int .i64 c, .int .i64 d, .int .i64 0]) (by simp [results, Tryz.results34, go_sem]) rfl ⟨rfl, ?_⟩
    exact below_alloc2 _ _ _
  subst h2
  rw [if_pos ⟨rfl, rfl⟩] at hr
  subst hr
  go_enter Tryz.func34, Tryz.ntmps34
  go_wp2_with (go_at_call 66; refine (voteOf_any yes _).mono ?_; rintro e w1 ⟨rfl, hw1⟩; obtain rfl := hw1.symm)
  generalize voteN yes = z
  refine bodyPost_ret (v := .agg #[.int .i64 a, .int .i64 b, .int .i64 c, .int .i64 z, .int .i64 0]) (by simp [results, Tryz.results34, go_sem]) rfl ⟨rfl, ?_⟩
  exact below_alloc2 _ _ _
theorem voted_any {q : Q4} {s k : Int} {yes : Bool} {r : Q4} (hk : k = -1 ∨ (0 ≤ k ∧ k < 4)) (hr : q4 (votedS q.l s k yes).1 = r) (w : World) :
    Calls Tryz.prog 34 #[(Sd.mk q s).v, .int .i64 k, .bool yes] w fun e w' => e = .returned (Sd.mk r s).v ∧ Below w.heap.size w w' := by
  obtain ⟨a, b, c, d⟩ := q
  rcases hk with rfl | ⟨h0, h4⟩
  · exact voted_m1 a b c d s yes w (by rw [← hr]; rfl)
  · rcases (show k = 0 ∨ k = 1 ∨ k = 2 ∨ k = 3 by omega) with rfl | rfl | rfl | rfl
    · refine voted_0 a b c d s yes w ?_
      rw [← hr]; unfold votedS; simp only [Q4.l]; by_cases h : s = 0 ∧ a = 0 <;> simp [h, q4]
    · refine voted_1 a b c d s yes w ?_
      rw [← hr]; unfold votedS; simp only [Q4.l]; by_cases h : s = 0 ∧ b = 0 <;> simp [h, q4]
    · refine voted_2 a b c d s yes w ?_
      rw [← hr]; unfold votedS; simp only [Q4.l]; by_cases h : s = 0 ∧ c = 0 <;> simp [h, q4]
    · refine voted_3 a b c d s yes w ?_
      rw [← hr]; unfold votedS; simp only [Q4.l]; by_cases h : s = 0 ∧ d = 0 <;> simp [h, q4]
set_option maxHeartbeats 1000000 in
theorem forgotten_any {q : Q4} {s : Int} {r : Q4} (hr : q4 (forgottenS q.l s).1 = r) (w : World) :
    Calls Tryz.prog 52 #[(Sd.mk q s).v] w fun e w' => e = .returned (Sd.mk r s).v ∧ Below w.heap.size w w' := by
  obtain ⟨a, b, c, d⟩ := q
  by_cases h1 : s = 0
  · subst h1
    obtain rfl : q0 = r := by rw [← hr]; rfl
    go_enter Tryz.func52, Tryz.ntmps52
    go_wp2
    refine bodyPost_ret (v := .agg #[.int .i64 0, .int .i64 0, .int .i64 0, .int .i64 0, .int .i64 0]) (by simp [results, Tryz.results52, go_sem]) rfl ⟨rfl, ?_⟩
    exact below_alloc2 _ _ _
  · have h1' : (s == 0) = false := by simpa using h1
    obtain rfl : (⟨a, b, c, d⟩ : Q4) = r := by rw [← hr]; unfold forgottenS; rw [if_neg h1]; rfl
    go_enter Tryz.func52, Tryz.ntmps52
    go_wp2
    refine bodyPost_ret (v := .agg #[.int .i64 a, .int .i64 b, .int .i64 c, .int .i64 d, .int .i64 s]) (by simp [results, Tryz.results52, go_sem]) rfl ⟨rfl, ?_⟩
    exact below_alloc2 _ _ _
theorem below_alloc3 (w : World) (a b c : Obj) : Below w.heap.size w (((w.alloc a).alloc b).alloc c) := (below_alloc2 w a b).alloc (below_alloc2 w a b).size c
set_option maxHeartbeats 2000000 in
theorem decided_any {q al : Q4} {s z : Int} {off : Bool} (hr : (decidedS q.l s off al.l).2 = z) (w : World) :
    Calls Tryz.prog 36 #[(Sd.mk q s).v, .bool off, al.v] w fun e w' => e = .returned (Sd.mk q z).v ∧ Below w.heap.size w w' := by
  have hEq := run_eql57 q al
  rw [eq4_l] at hEq
  have HV : Hid (decidedS q.l s off al.l = decidedS q.l s off al.l) := rfl
  unfold decidedS at hr
  obtain ⟨dq, hd⟩ : ∃ d, decide (q.l = al.l) = d := ⟨_, rfl⟩
  rw [hd] at hEq
  obtain ⟨an, han⟩ : ∃ b, q.l.any (fun v => decide (v = 2)) = b := ⟨_, rfl⟩
  rw [han] at hr
  have hd' : (q.l = al.l) ↔ dq = true := by rw [← hd, decide_eq_true_eq]
  simp only [hd'] at hr
  clear hd hd' HV
  obtain ⟨a, b, c, d⟩ := q
  obtain ⟨la, lb, lc, ld⟩ := al
  simp only [Q4.l] at han
  simp only at hEq
  have hS0 := (((Sg.nil w).lit kD [⟨⟨a, b, c, d⟩, s⟩] 1 rfl (by decide) #[.int .i64 a, .int .i64 b, .int .i64 c, .int .i64 d, .int .i64 s] rfl).lit kV [⟨la, lb, lc, ld⟩] 1 rfl (by decide) #[.int .i64 la, .int .i64 lb, .int .i64 lc, .int .i64 ld] rfl).lit kD [⟨q0, 0⟩] 1 rfl (by decide) #[.int .i64 0, .int .i64 0, .int .i64 0, .int .i64 0, .int .i64 0] rfl
  change Sg w (((w.alloc (.cells #[.int .i64 a, .int .i64 b, .int .i64 c, .int .i64 d, .int .i64 s] 59)).alloc (.cells #[.int .i64 la, .int .i64 lb, .int .i64 lc, .int .i64 ld] 57)).alloc (.cells #[.int .i64 0, .int .i64 0, .int .i64 0, .int .i64 0, .int .i64 0] 59)) _ at hS0
  simp only [World.size_alloc] at hS0
  by_cases h1 : s = 0
  case neg =>
    rw [if_neg h1] at hr
    have h1' : (s != 0) = true := by simpa using h1
    obtain rfl : s = z := hr
    go_enter Tryz.func36, Tryz.ntmps36
    go_wp2
    refine bodyPost_ret (v := .agg #[.int .i64 a, .int .i64 b, .int .i64 c, .int .i64 d, .int .i64 s]) (by simp [results, Tryz.results36, go_sem]) rfl ⟨rfl, ?_⟩
    exact below_alloc3 _ _ _ _
  subst h1
  rw [if_pos rfl] at hr
  cases off
  case true =>
    obtain rfl : (2 : Int) = z := hr
    go_enter Tryz.func36, Tryz.ntmps36
    go_wp2
    refine bodyPost_ret (v := .agg #[.int .i64 a, .int .i64 b, .int .i64 c, .int .i64 d, .int .i64 2]) (by simp [results, Tryz.results36, go_sem]) rfl ⟨rfl, ?_⟩
    exact below_alloc3 _ _ _ _
  rw [Bool.false_or] at hr
  obtain ⟨c0, c1, c2, c3, c4, cf, cg⟩ := d5 hS0 (g := w.heap.size) (n := 1) (q := ⟨⟨a, b, c, d⟩, 0⟩) (by simp)
  have HC := Lib.hid (contains_any (some ⟨w.heap.size, 0, none⟩) 4 [a, b, c, d] 4 2 rfl _ (sl_q cg c0 c1 c2 c3) (by decide) han)
  cases an
  case true =>
    obtain rfl : (2 : Int) = z := hr
    go_enter Tryz.func36, Tryz.ntmps36
    go_wp2_with (go_at_call 67; refine HC.out.mono ?_; rintro e w1 ⟨rfl, hw1⟩; obtain rfl := hw1.symm)
    refine bodyPost_ret (v := .agg #[.int .i64 a, .int .i64 b, .int .i64 c, .int .i64 d, .int .i64 2]) (by simp [results, Tryz.results36, go_sem]) rfl ⟨rfl, ?_⟩
    exact below_alloc3 _ _ _ _
  cases dq
  case true =>
    obtain rfl : (1 : Int) = z := hr
    go_enter Tryz.func36, Tryz.ntmps36
    go_wp2_with (go_at_call 67; refine HC.out.mono ?_; rintro e w1 ⟨rfl, hw1⟩; obtain rfl := hw1.symm)
    refine bodyPost_ret (v := .agg #[.int .i64 a, .int .i64 b, .int .i64 c, .int .i64 d, .int .i64 1]) (by simp [results, Tryz.results36, go_sem]) rfl ⟨rfl, ?_⟩
    exact below_alloc3 _ _ _ _
  obtain rfl : (0 : Int) = z := hr
  go_enter Tryz.func36, Tryz.ntmps36
  go_wp2_with (go_at_call 67; refine HC.out.mono ?_; rintro e w1 ⟨rfl, hw1⟩; obtain rfl := hw1.symm)
  refine bodyPost_ret (v := .agg #[.int .i64 a, .int .i64 b, .int .i64 c, .int .i64 d, .int .i64 0]) (by simp [results, Tryz.results36, go_sem]) rfl ⟨rfl, ?_⟩
  exact below_alloc3 _ _ _ _
end Go.Proofs.YtobbankkfplooaaGreat.K.G
