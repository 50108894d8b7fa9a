/-
  The law's looks at a Directory: how big, made the program's, alike, marked, still marked.
-/
import Derived.Test.YtmfbkbifoehoeaaKD1
import Derived.Lib.Hide
namespace Go.Proofs.Ytmfbkbifoehoeaa.K.D
open Go.Shelf Go.RowKit Go.Joins
attribute [local go_sem] Oper.semAt_some

/-- A Directory's cells: its Epoch, its slice of Owns. -/
structure Dv where
  e : Int
  p : Option Addr
  n : Nat
  c : Nat
abbrev Dv.v (d : Dv) : Value := .agg #[.int .i64 d.e, .slice d.p d.n d.c]
def kD : Kd Dv := ⟨24, 2, fun d => [.int .i64 d.e, .slice d.p d.n d.c], fun _ => rfl⟩
def zdv : Dv := ⟨0, none, 0, 0⟩
theorem dv2 {w W : World} {rs : List Rw} (h : Sg w W rs) {K : Kd Dv} {g n : Nat} {q : Dv} (hm : rG K (.slice (some ⟨g, 0, none⟩) 1 n) [q] ∈ rs) (hv : K.vs q = [.int .i64 q.e, .slice q.p q.n q.c]) :
    W.cell? ⟨g, 0, none⟩ = some (.int .i64 q.e) ∧ W.cell? ⟨g, 1, none⟩ = some (.slice q.p q.n q.c) ∧ (∀ o, W.frozen? ⟨g, o, none⟩ = false) ∧ g < W.heap.size := by
  have ho := h.mem hm
  have hC := OwG.cs ho
  have f := fun i u hu => hC.at (k := 0) (a := q) rfl (i := i) (u := u) hu
  simp only [Nat.zero_mul, Nat.zero_add, hv] at f
  exact ⟨f 0 _ rfl, f 1 _ rfl, OwG.fz ho, hC.1⟩
theorem Sg.setD0 {w W : World} {A Bs : List Rw} {g n : Nat} {a : Dv} (h : Sg w W (A ++ rG kD (.slice (some ⟨g, 0, none⟩) 1 n) [a] :: Bs)) (e : Int) : Sg w (W.setCell ⟨g, 0, none⟩ (.int .i64 e)) (A ++ rG kD (.slice (some ⟨g, 0, none⟩) 1 n) [⟨e, a.p, a.n, a.c⟩] :: Bs) := Sg.setRaw h 0 (.int .i64 e)
theorem Sg.setD1 {w W : World} {A Bs : List Rw} {g n : Nat} {a : Dv} (h : Sg w W (A ++ rG kD (.slice (some ⟨g, 0, none⟩) 1 n) [a] :: Bs)) (p : Option Addr) (m c : Nat) : Sg w (W.setCell ⟨g, 1, none⟩ (.slice p m c)) (A ++ rG kD (.slice (some ⟨g, 0, none⟩) 1 n) [⟨a.e, p, m, c⟩] :: Bs) := Sg.setRaw h 1 (.slice p m c)
theorem Sg.setD {w W : World} {A Bs : List Rw} {g n : Nat} {a : Dv} (h : Sg w W (A ++ rG kD (.slice (some ⟨g, 0, none⟩) 1 n) [a] :: Bs)) (q : Dv) : Sg w ((W.setCell ⟨g, 0, none⟩ (.int .i64 q.e)).setCell ⟨g, 1, none⟩ (.slice q.p q.n q.c)) (A ++ rG kD (.slice (some ⟨g, 0, none⟩) 1 n) [q] :: Bs) :=
  Sg.setD1 (Sg.setD0 h q.e) q.p q.n q.c
set_option maxHeartbeats 1000000 in
theorem eqDirectory_same (e : Int) (p q : Option Addr) (c c' : Nat) (L : List On) (n : Nat) (hn : L.length = n) (w : World) (hp : SlG kO w p L) (hq : SlG kO w q L) (hb : n ≤ 10000000) :
    Calls Try.prog 13 #[Dv.v ⟨e, p, n, c⟩, Dv.v ⟨e, q, n, c'⟩] w fun ee w' => ee = .returned (.bool true) ∧ Below w.heap.size w w' := by
  have HE := Lib.hid (fun W (h : Below w.heap.size w W) => eqOwnS_same p q c c' L n hn W (hp.step h) (hq.step h) hb)
  have hst := ((St.nil w).push [.int .i64 e, .slice p n c] 24).push [.int .i64 e, .slice q n c'] 24
  clear hn hp hq
  go_enter Try.func13, Try.ntmps13
  go_wp2_with (go_at_call 24; refine (HE.out _ hst.bel).mono ?_; rintro ee w1 ⟨rfl, hb1⟩; have hs1 := hst.step hb1)
  go_ret
  exact ⟨rfl, hs1.bel⟩
set_option maxHeartbeats 1000000 in
theorem markDirectory_any (e : Int) (p : Option Addr) (n c : Nat) (M : List On) (A Bs : List Rw) (w W : World) (hS : Sg w W (A ++ rG kO (.slice p n c) M :: Bs)) (hb : n ≤ 1048576) :
    Calls Try.prog 16 #[Dv.v ⟨e, p, n, c⟩, .int .i64 1] W fun ee w' => ee = .returned (.int .i64 (1 + 4 * n)) ∧ Sg w w' (A ++ rG kO (.slice p n c) (mkOs 1 n) :: Bs) := by
  have hS1 : Sg w (W.alloc (.cells #[.int .i64 e, .slice p n c] 24)) ((rG kD (.slice (some ⟨W.heap.size, 0, none⟩) 1 1) [⟨e, p, n, c⟩] :: A) ++ rG kO (.slice p n c) M :: Bs) := hS.lit kD [⟨e, p, n, c⟩] 1 rfl (by decide) #[.int .i64 e, .slice p n c] rfl
  go_enter Try.func16, Try.ntmps16
  go_wp2_with (go_at_call 27; refine (markOwnS_any p n c 1 M _ _ w _ hS1 hb (by decide) (by decide)).mono ?_; rintro ee w1 ⟨rfl, hS2⟩)
  go_ret
  exact ⟨rfl, hS2.d0⟩
set_option maxHeartbeats 1000000 in
theorem heldDirectory_any (e : Int) (p : Option Addr) (n c : Nat) (w : World) (hL : SlG kO w p (mkOs 1 n)) (hb : n ≤ 10000000) :
    Calls Try.prog 19 #[Dv.v ⟨e, p, n, c⟩, .int .i64 1] w fun ee w' => ee = .returned (.int .i64 (1 + 4 * n)) ∧ Below w.heap.size w w' := by
  have HH := Lib.hid (fun W (h : Below w.heap.size w W) => heldOwnS_any p c 1 n W (hL.step h) hb (by decide) (by decide))
  have hst := (St.nil w).push [.int .i64 e, .slice p n c] 24
  have hk : ¬ (1 : Int) + 4 * (n : Int) < 0 := by omega
  clear hL
  go_enter Try.func19, Try.ntmps19
  go_wp2_with (go_at_call 33; refine (HH.out _ hst.bel).mono ?_; rintro ee w1 ⟨rfl, rfl⟩)
  go_ret
  exact ⟨rfl, hst.bel⟩
end Go.Proofs.Ytmfbkbifoehoeaa.K.D
