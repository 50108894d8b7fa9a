/-
  The law's looks at a Directory: how big, made the program's, alike, marked, still marked.
-/
import Derived.Test.YtamnmakegdnblaaKD1
import Derived.Lib.Hide
namespace Go.Proofs.Ytamnmakegdnblaa.K.D
open Go.Shelf Go.RowKit Go.Joins
attribute [local go_sem] Oper.semAt_some

/-- A Directory's cells: its Epoch, its slice of Owns. -/
structure Dv where
  e : Int
  p : Option Addr
  n : Nat
  c : Nat
abbrev Dv.v (d : Dv) : Value := .agg #[.int .i64 d.e, .slice d.p d.n d.c]
def kD : Kd Dv := ⟨26, 2, fun d => [.int .i64 d.e, .slice d.p d.n d.c], fun _ => rfl⟩
def kLD : Kd Dv := ⟨52, 2, fun d => [.int .i64 d.e, .slice d.p d.n d.c], fun _ => rfl⟩
def zdv : Dv := ⟨0, none, 0, 0⟩
theorem dv2 {w W : World} {rs : List Rw} (h : Sg w W rs) {K : Kd Dv} {g n : Nat} {q : Dv} (hm : rG K (.slice (some ⟨g, 0, none⟩) 1 n) [q] ∈ rs) (hv : K.vs q = [.int .i64 q.e, .slice q.p q.n q.c]) :
    W.cell? ⟨g, 0, none⟩ = some (.int .i64 q.e) ∧ W.cell? ⟨g, 1, none⟩ = some (.slice q.p q.n q.c) ∧ (∀ o, W.frozen? ⟨g, o, none⟩ = false) ∧ g < W.heap.size := by
  have ho := h.mem hm
  have hC := OwG.cs ho
  have f := fun i u hu => hC.at (k := 0) (a := q) rfl (i := i) (u := u) hu
  simp only [Nat.zero_mul, Nat.zero_add, hv] at f
  exact ⟨f 0 _ rfl, f 1 _ rfl, OwG.fz ho, hC.1⟩
theorem Sg.setD0 {w W : World} {A Bs : List Rw} {g n : Nat} {a : Dv} (h : Sg w W (A ++ rG kD (.slice (some ⟨g, 0, none⟩) 1 n) [a] :: Bs)) (e : Int) : Sg w (W.setCell ⟨g, 0, none⟩ (.int .i64 e)) (A ++ rG kD (.slice (some ⟨g, 0, none⟩) 1 n) [⟨e, a.p, a.n, a.c⟩] :: Bs) := Sg.setRaw h 0 (.int .i64 e)
theorem Sg.setD1 {w W : World} {A Bs : List Rw} {g n : Nat} {a : Dv} (h : Sg w W (A ++ rG kD (.slice (some ⟨g, 0, none⟩) 1 n) [a] :: Bs)) (p : Option Addr) (m c : Nat) : Sg w (W.setCell ⟨g, 1, none⟩ (.slice p m c)) (A ++ rG kD (.slice (some ⟨g, 0, none⟩) 1 n) [⟨a.e, p, m, c⟩] :: Bs) := Sg.setRaw h 1 (.slice p m c)
theorem Sg.setD {w W : World} {A Bs : List Rw} {g n : Nat} {a : Dv} (h : Sg w W (A ++ rG kD (.slice (some ⟨g, 0, none⟩) 1 n) [a] :: Bs)) (q : Dv) : Sg w ((W.setCell ⟨g, 0, none⟩ (.int .i64 q.e)).setCell ⟨g, 1, none⟩ (.slice q.p q.n q.c)) (A ++ rG kD (.slice (some ⟨g, 0, none⟩) 1 n) [q] :: Bs) :=
  Sg.setD1 (Sg.setD0 h q.e) q.p q.n q.c
set_option maxHeartbeats 1000000 in
theorem szDirectory_v {d : Dv} {v : Int} (hv : (if 1048576 < d.n then -1 else 1048576 - (d.n : Int)) = v) (w : World) (hm : d.n ≤ maxLen) : Calls Try.prog 28 #[d.v, .int .i64 1048576] w fun e w' => e = .returned (.int .i64 v) ∧ Below w.heap.size w w' := by
  obtain ⟨e, p, n, c⟩ := d
  simp only at hv hm
  have hv' : (if (1048576 : Int) < n then -1 else 1048576 - (n : Int)) = v := by rw [← hv]; by_cases h : 1048576 < n <;> simp [h] <;> omega
  have HZ := Lib.hid (fun W => szOwnS_v (p := p) (n := n) (cap := c) hv' W (by decide) (by decide) hm)
  have hst := (St.nil w).push [.int .i64 e, .slice p n c] 52
  by_cases h : 1048576 < n
  · obtain rfl : v = -1 := by rw [← hv, if_pos h]
    clear hv hv'
    go_enter Try.func28, Try.ntmps28
    go_wp2_with (go_at_call 68; refine (HZ.out _).mono ?_; rintro e w1 ⟨rfl, rfl⟩)
    go_ret
    exact ⟨rfl, hst.bel⟩
  · have hn : ¬ v < 0 := by rw [← hv, if_neg h]; omega
    clear hv hv'
    go_enter Try.func28, Try.ntmps28
    go_wp2_with (go_at_call 68; refine (HZ.out _).mono ?_; rintro e w1 ⟨rfl, rfl⟩)
    go_ret
    exact ⟨rfl, hst.bel⟩
set_option maxRecDepth 100000 in
set_option maxHeartbeats 2000000 in
theorem toDirectory_any (e : Int) (p : Option Addr) (n c : Nat) (L : List On) (hn : L.length = n) (w : World) (hL : SlG kLO w p L) (hb : n ≤ 1048576) :
    Calls Try.prog 29 #[Dv.v ⟨e, p, n, c⟩] w fun ee w' => ∃ g, ee = .returned (Dv.v ⟨e, some ⟨g, 0, none⟩, n, n⟩) ∧ Sg w w' [rG kO (.slice (some ⟨g, 0, none⟩) n n) L] := by
  have HT := Lib.hid (fun W (h : Below w.heap.size w W) => toOwnS_any p c L n hn W (hL.step h) hb)
  have hS1 := (((Sg.nil w).lit kLD [⟨e, p, n, c⟩] 1 rfl (by decide) #[.int .i64 e, .slice p n c] rfl).lit kD [zdv] 1 rfl (by decide) #[.int .i64 0, .slice none 0 0] rfl).lit kD [⟨e, none, 0, 0⟩] 1 rfl (by decide) #[.int .i64 e, .slice none 0 0] rfl
  simp only [World.size_alloc] at hS1
  have hS2 := hS1
  clear hn hL
  go_enter Try.func29, Try.ntmps29
  go_wp2_with (go_at_call 69; refine (HT.out _ hS2.bel).mono ?_; rintro ee w2 ⟨g1, rfl, hw2⟩; have hS3 := hS2.addL hw2; obtain ⟨t0, t1, tf, tg⟩ := dv2 hS3 (K := kD) (g := w.heap.size + 1 + 1) (n := 1) (q := ⟨e, none, 0, 0⟩) (by simp [zdv]) rfl; obtain ⟨v0, v1, vf, vg⟩ := dv2 hS3 (K := kD) (g := w.heap.size + 1) (n := 1) (q := zdv) (by simp) rfl; simp only [zdv] at t0 t1 v0 v1)
  have hS4 := Sg.setD1 (A := [rG kO (.slice (some ⟨g1, 0, none⟩) n n) L]) hS3 (some ⟨g1, 0, none⟩) n n
  have hS5 := Sg.setD (A := [rG kO (.slice (some ⟨g1, 0, none⟩) n n) L, rG kD (.slice (some ⟨w.heap.size + 1 + 1, 0, none⟩) 1 1) [⟨e, some ⟨g1, 0, none⟩, n, n⟩]]) (g := w.heap.size + 1) (n := 1) (a := zdv) hS4 ⟨e, some ⟨g1, 0, none⟩, n, n⟩
  refine bodyPost_ret (v := .agg #[.int .i64 e, .slice (some ⟨g1, 0, none⟩) n n]) (by simp [results, Try.results29, go_sem, v0, v1]) rfl ⟨g1, rfl, ?_⟩
  exact hS5.sub (by simp)
set_option maxHeartbeats 1000000 in
theorem eqDirectory_same (e : Int) (p q : Option Addr) (c c' : Nat) (L : List On) (n : Nat) (hn : L.length = n) (w : World) (hp : SlG kO w p L) (hq : SlG kO w q L) (hb : n ≤ 10000000) :
    Calls Try.prog 30 #[Dv.v ⟨e, p, n, c⟩, Dv.v ⟨e, q, n, c'⟩] w fun ee w' => ee = .returned (.bool true) ∧ Below w.heap.size w w' := by
  have HE := Lib.hid (fun W (h : Below w.heap.size w W) => eqOwnS_same p q c c' L n hn W (hp.step h) (hq.step h) hb)
  have hst := ((St.nil w).push [.int .i64 e, .slice p n c] 26).push [.int .i64 e, .slice q n c'] 26
  clear hn hp hq
  go_enter Try.func30, Try.ntmps30
  go_wp2_with (go_at_call 70; refine (HE.out _ hst.bel).mono ?_; rintro ee w1 ⟨rfl, hb1⟩; have hs1 := hst.step hb1)
  go_ret
  exact ⟨rfl, hs1.bel⟩
set_option maxHeartbeats 1000000 in
theorem markDirectory_any (e : Int) (p : Option Addr) (n c : Nat) (M : List On) (A Bs : List Rw) (w W : World) (hS : Sg w W (A ++ rG kO (.slice p n c) M :: Bs)) (hb : n ≤ 1048576) :
    Calls Try.prog 31 #[Dv.v ⟨e, p, n, c⟩, .int .i64 1] W fun ee w' => ee = .returned (.int .i64 (1 + 4 * n)) ∧ Sg w w' (A ++ rG kO (.slice p n c) (mkOs 1 n) :: Bs) := by
  have hS1 : Sg w (W.alloc (.cells #[.int .i64 e, .slice p n c] 26)) ((rG kD (.slice (some ⟨W.heap.size, 0, none⟩) 1 1) [⟨e, p, n, c⟩] :: A) ++ rG kO (.slice p n c) M :: Bs) := hS.lit kD [⟨e, p, n, c⟩] 1 rfl (by decide) #[.int .i64 e, .slice p n c] rfl
  go_enter Try.func31, Try.ntmps31
  go_wp2_with (go_at_call 71; refine (markOwnS_any p n c 1 M _ _ w _ hS1 hb (by decide) (by decide)).mono ?_; rintro ee w1 ⟨rfl, hS2⟩)
  go_ret
  exact ⟨rfl, hS2.d0⟩
set_option maxHeartbeats 1000000 in
theorem heldDirectory_any (e : Int) (p : Option Addr) (n c : Nat) (w : World) (hL : SlG kO w p (mkOs 1 n)) (hb : n ≤ 10000000) :
    Calls Try.prog 32 #[Dv.v ⟨e, p, n, c⟩, .int .i64 1] w fun ee w' => ee = .returned (.int .i64 (1 + 4 * n)) ∧ Below w.heap.size w w' := by
  have HH := Lib.hid (fun W (h : Below w.heap.size w W) => heldOwnS_any p c 1 n W (hL.step h) hb (by decide) (by decide))
  have hst := (St.nil w).push [.int .i64 e, .slice p n c] 26
  have hk : ¬ (1 : Int) + 4 * (n : Int) < 0 := by omega
  clear hL
  go_enter Try.func32, Try.ntmps32
  go_wp2_with (go_at_call 72; refine (HH.out _ hst.bel).mono ?_; rintro ee w1 ⟨rfl, rfl⟩)
  go_ret
  exact ⟨rfl, hst.bel⟩
end Go.Proofs.Ytamnmakegdnblaa.K.D
