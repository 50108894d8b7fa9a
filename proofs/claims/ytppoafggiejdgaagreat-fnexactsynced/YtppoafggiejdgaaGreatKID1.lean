/-
  The law's looks at a Batch: made the program's, how big, alike, marked.
-/
import Derived.Test.YtppoafggiejdgaaGreatKIL3
import Derived.Test.YtppoafggiejdgaaGreatKIB2
import Derived.Test.YtppoafggiejdgaaGreatKB5
namespace Go.Proofs.YtppoafggiejdgaaGreat.K.I
open Go.Shelf Go.RowKit Go.Joins
attribute [local go_sem] Oper.semAt_some

theorem bx3 {w W : World} {v0 v1 v2 : Value} {ty : TypeId} (h : Below (w.alloc (.cells #[v0, v1, v2] ty)).heap.size (w.alloc (.cells #[v0, v1, v2] ty)) W) : W.cell? ⟨w.heap.size, 0, none⟩ = some v0 ∧ W.cell? ⟨w.heap.size, 1, none⟩ = some v1 ∧ W.cell? ⟨w.heap.size, 2, none⟩ = some v2 := by
  have := (((St.nil w).push [v0, v1, v2] ty).step h).has
  simp [Has, HasAt] at this
  simp [this]
structure Bv where
  t : Int
  s : Int
  v : Sv
def zbv : Bv := ⟨0, 0, ⟨none, 0, 0⟩⟩
def kB : Kd Bv := ⟨65, 3, fun q => [.int .i64 q.t, .int .i64 q.s, .slice q.v.p q.v.n q.v.c], fun _ => rfl⟩
def kLB : Kd Bv := ⟨58, 3, fun q => [.int .i64 q.t, .int .i64 q.s, .slice q.v.p q.v.n q.v.c], fun _ => rfl⟩
theorem bat3 {w W : World} {rs : List Rw} (h : Sg w W rs) {K : Kd Bv} {g n : Nat} {q : Bv} (hm : rG K (.slice (some ⟨g, 0, none⟩) 1 n) [q] ∈ rs) (hv : K.vs q = [.int .i64 q.t, .int .i64 q.s, .slice q.v.p q.v.n q.v.c]) :
    W.cell? ⟨g, 0, none⟩ = some (.int .i64 q.t) ∧ W.cell? ⟨g, 1, none⟩ = some (.int .i64 q.s) ∧ W.cell? ⟨g, 2, none⟩ = some (.slice q.v.p q.v.n q.v.c) ∧ (∀ o, W.frozen? ⟨g, o, none⟩ = false) ∧ g < W.heap.size := by
  have ho := h.mem hm
  have hC := OwG.cs ho
  have f := fun i u hu => hC.at (k := 0) (a := q) rfl (i := i) (u := u) hu
  simp only [Nat.zero_mul, Nat.zero_add, hv] at f
  exact ⟨f 0 _ rfl, f 1 _ rfl, f 2 _ rfl, OwG.fz ho, hC.1⟩
theorem Sg.setB2 {w W : World} {A Bs : List Rw} {g n : Nat} {a : Bv} (h : Sg w W (A ++ rG kB (.slice (some ⟨g, 0, none⟩) 1 n) [a] :: Bs)) (u : Sv) :
    Sg w (W.setCell ⟨g, 2, none⟩ (.slice u.p u.n u.c)) (A ++ rG kB (.slice (some ⟨g, 0, none⟩) 1 n) [⟨a.t, a.s, u⟩] :: Bs) := Sg.setRaw h 2 (.slice u.p u.n u.c)
theorem Sg.setB {w W : World} {A Bs : List Rw} {g n : Nat} {a : Bv} (h : Sg w W (A ++ rG kB (.slice (some ⟨g, 0, none⟩) 1 n) [a] :: Bs)) (q : Bv) :
    Sg w (((W.setCell ⟨g, 0, none⟩ (.int .i64 q.t)).setCell ⟨g, 1, none⟩ (.int .i64 q.s)).setCell ⟨g, 2, none⟩ (.slice q.v.p q.v.n q.v.c)) (A ++ rG kB (.slice (some ⟨g, 0, none⟩) 1 n) [q] :: Bs) :=
  ((Sg.setRaw h 0 (.int .i64 q.t)).setRaw 1 (.int .i64 q.s)).setRaw 2 (.slice q.v.p q.v.n q.v.c)
set_option maxRecDepth 100000 in
set_option maxHeartbeats 4000000 in
theorem toBat_any (t s : Int) (p : Option Addr) (n c : Nat) (L : List Rc) (hn : L.length = n) (hb : n ≤ 1048576) (w : World) (hL : SlG kL w p L) :
    Calls Tryz.prog 39 #[batV t s p n c] w fun e w' => ∃ g, e = .returned (batV t s (some ⟨g, 0, none⟩) n n) ∧ Sg w w' [rG kR (.slice (some ⟨g, 0, none⟩) n n) L] := by
  have HC := Lib.hid (fun W (h : Below w.heap.size w W) => toRecS_any p c L n hn W (hL.step h) hb)
  have hS1 := ((((Sg.nil w).lit kLB [⟨t, s, ⟨p, n, c⟩⟩] 1 rfl (by decide) #[.int .i64 t, .int .i64 s, .slice p n c] rfl).lit kB [zbv] 1 rfl (by decide) #[.int .i64 0, .int .i64 0, .slice none 0 0] rfl).lit kB [⟨t, s, ⟨none, 0, 0⟩⟩] 1 rfl (by decide) #[.int .i64 t, .int .i64 s, .slice none 0 0] rfl)
  simp only [World.size_alloc] at hS1
  clear hn hL
  go_enter Tryz.func39, Tryz.ntmps39
  go_wp2_with (go_at_call 57; refine (HC.out _ hS1.bel).mono ?_; rintro e w2 ⟨h, rfl, hw2⟩; have hS3 := hS1.addL hw2; obtain ⟨t0, t1, t2, tf, tg⟩ := bat3 hS3 (K := kB) (g := w.heap.size + 1 + 1) (n := 1) (q := ⟨t, s, ⟨none, 0, 0⟩⟩) (by simp) rfl; obtain ⟨v0, v1, v2, vf, vg⟩ := bat3 hS3 (K := kB) (g := w.heap.size + 1) (n := 1) (q := zbv) (by simp) rfl; obtain ⟨x0, x1, x2, _, xg⟩ := bat3 hS3 (K := kLB) (g := w.heap.size) (n := 1) (q := ⟨t, s, ⟨p, n, c⟩⟩) (by simp) rfl)
  have hS4 := Sg.setB2 (A := [rG kR (.slice (some ⟨h, 0, none⟩) n n) L]) (g := w.heap.size + 1 + 1) (n := 1) (a := ⟨t, s, ⟨none, 0, 0⟩⟩) hS3 ⟨some ⟨h, 0, none⟩, n, n⟩
  have hS5 := Sg.setB (A := [rG kR (.slice (some ⟨h, 0, none⟩) n n) L, rG kB (.slice (some ⟨w.heap.size + 1 + 1, 0, none⟩) 1 1) [⟨t, s, ⟨some ⟨h, 0, none⟩, n, n⟩⟩]]) (g := w.heap.size + 1) (n := 1) (a := zbv) hS4 ⟨t, s, ⟨some ⟨h, 0, none⟩, n, n⟩⟩
  refine bodyPost_ret (v := .agg #[.int .i64 t, .int .i64 s, .slice (some ⟨h, 0, none⟩) n n]) (by simp [results, Tryz.results39, go_sem, v0, v1, v2]) rfl ⟨h, rfl, ?_⟩
  exact hS5.sub (by simp)
set_option maxHeartbeats 1000000 in
theorem szBat_any (t s : Int) (p : Option Addr) (n c : Nat) (L : List Rc) (hn : L.length = n) (a : Int) (w : World) (hL : SlG kL w p L) (ha : 0 ≤ a) (ha2 : a ≤ 1048576) (hm : n ≤ maxLen) (hms : ∀ r ∈ L, r.s.size ≤ maxLen) {v : Int} (hv : (if a < rsz L then -1 else a - (rsz L : Int)) = v) :
    Calls Tryz.prog 31 #[batV t s p n c, .int .i64 a] w fun e w' => e = .returned (.int .i64 v) ∧ Below w.heap.size w w' := by
  have HZ := Lib.hid (fun W (h : Below w.heap.size w W) => szRecS_any p c L n hn a W (hL.step h) ha ha2 hm hms hv)
  have hb00 := bx3 (Below.refl (w.alloc (.cells #[.int .i64 t, .int .i64 s, .slice p n c] 58)).heap.size (w.alloc (.cells #[.int .i64 t, .int .i64 s, .slice p n c] 58)))
  have h0 := below_alloc1 w (.cells #[.int .i64 t, .int .i64 s, .slice p n c] 58)
  have hv2 : v = -1 ∨ 0 ≤ v := by rw [← hv]; split <;> omega
  clear hn hL hm hms hv
  rcases hv2 with rfl | hv2
  · go_enter Tryz.func31, Tryz.ntmps31
    go_wp2_with (go_at_call 52; refine (HZ.out _ h0).mono ?_; rintro e w1 ⟨rfl, hb1⟩)
    go_ret
    exact ⟨rfl, ba1 hb1⟩
  · have hv3 : ¬ v < 0 := by omega
    go_enter Tryz.func31, Tryz.ntmps31
    go_wp2_with (go_at_call 52; refine (HZ.out _ h0).mono ?_; rintro e w1 ⟨rfl, hb1⟩)
    go_ret
    exact ⟨rfl, ba1 hb1⟩
set_option maxHeartbeats 1000000 in
theorem eqBat_same (t s : Int) (p q : Option Addr) (n c c' : Nat) (L : List Rc) (hn : L.length = n) (hb : n ≤ 1048576) (w : World) (hp : SlG kR w p L) (hq : SlG kR w q L) :
    Calls Tryz.prog 48 #[batV t s p n c, batV t s q n c'] w fun e w' => e = .returned (.bool true) ∧ Below w.heap.size w w' := by
  have HE := Lib.hid (fun W (h : Below w.heap.size w W) => eqRecS_same p q c c' L n hn W (hp.step h) (hq.step h) (by omega))
  have h0 := below_alloc2 w (.cells #[.int .i64 t, .int .i64 s, .slice p n c] 65) (.cells #[.int .i64 t, .int .i64 s, .slice q n c'] 65)
  clear hn hp hq
  go_enter Tryz.func48, Tryz.ntmps48
  go_wp2_with (go_at_call 73; refine (HE.out _ h0).mono ?_; rintro e w1 ⟨rfl, hb1⟩)
  go_ret
  exact ⟨rfl, ba2 hb1⟩
end Go.Proofs.YtppoafggiejdgaaGreat.K.I
