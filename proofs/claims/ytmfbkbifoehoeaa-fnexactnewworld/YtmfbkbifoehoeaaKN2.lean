/-
  The law's looks at a World that has no Deals, and whose Shards have nothing: alike, marked, still marked.
-/
import Derived.Test.YtmfbkbifoehoeaaKN1
namespace Go.Proofs.Ytmfbkbifoehoeaa.K.D
open Go.Shelf Go.RowKit Go.Joins
attribute [local go_sem] Oper.semAt_some

/-- Such a World's cells: Now, Key, Epoch, the Owns' slice, the Shards' slice. -/
structure Wv where
  n : Int
  k : Int
  e : Int
  p : Option Addr
  m : Nat
  c : Nat
  sp : Option Addr
  sn : Nat
  sc : Nat
abbrev Wv.v (h : Wv) : Value := .agg #[.int .i64 h.n, .int .i64 h.k, .int .i64 h.e, .slice h.p h.m h.c, .slice h.sp h.sn h.sc, .slice none 0 0]
def kW : Kd Wv := ⟨28, 6, fun h => [.int .i64 h.n, .int .i64 h.k, .int .i64 h.e, .slice h.p h.m h.c, .slice h.sp h.sn h.sc, .slice none 0 0], fun _ => rfl⟩
def zwv : Wv := ⟨0, 0, 0, none, 0, 0, none, 0, 0⟩
theorem w6 {w W : World} {rs : List Rw} (h : Sg w W rs) {g n : Nat} {q : Wv} (hm : rG kW (.slice (some ⟨g, 0, none⟩) 1 n) [q] ∈ rs) :
    W.cell? ⟨g, 0, none⟩ = some (.int .i64 q.n) ∧ W.cell? ⟨g, 1, none⟩ = some (.int .i64 q.k) ∧ W.cell? ⟨g, 2, none⟩ = some (.int .i64 q.e) ∧ W.cell? ⟨g, 3, none⟩ = some (.slice q.p q.m q.c) ∧ W.cell? ⟨g, 4, none⟩ = some (.slice q.sp q.sn q.sc) ∧ W.cell? ⟨g, 5, none⟩ = some (.slice none 0 0) ∧ (∀ o, W.frozen? ⟨g, o, none⟩ = false) ∧ g < W.heap.size := by
  have ho := h.mem hm
  have hC := OwG.cs ho
  have f := fun i u hu => hC.at (k := 0) (a := q) rfl (i := i) (u := u) hu
  simp only [Nat.zero_mul, Nat.zero_add] at f
  exact ⟨f 0 _ rfl, f 1 _ rfl, f 2 _ rfl, f 3 _ rfl, f 4 _ rfl, f 5 _ rfl, OwG.fz ho, hC.1⟩
set_option maxHeartbeats 1000000 in
theorem eqWorld_same (n k e : Int) (p q sp sq : Option Addr) (m c c' sn sc sc' : Nat) (L : List On) (Z : List Zs) (hL : L.length = m) (hZ : Z.length = sn) (w : World) (hp : SlG kO w p L) (hq : SlG kO w q L) (hs : SlG kZ w sp Z) (ht : SlG kZ w sq Z) (hm : m ≤ 10000000) (hsn : sn ≤ 10000000) :
    Calls Try.prog 6 #[Wv.v ⟨n, k, e, p, m, c, sp, sn, sc⟩, Wv.v ⟨n, k, e, q, m, c', sq, sn, sc'⟩] w fun ee w' => ee = .returned (.bool true) ∧ Below w.heap.size w w' := by
  have HD := Lib.hid (fun W (h : Below w.heap.size w W) => eqDirectory_same e p q c c' L m hL W (hp.step h) (hq.step h) hm)
  have HS := Lib.hid (fun W (h : Below w.heap.size w W) => eqShardS_same sp sq sc sc' Z sn hZ W (hs.step h) (ht.step h) hsn)
  have hx := ((Sg.nil w).lit kW [⟨n, k, e, p, m, c, sp, sn, sc⟩] 1 rfl (by decide) #[.int .i64 n, .int .i64 k, .int .i64 e, .slice p m c, .slice sp sn sc, .slice none 0 0] rfl).lit kW [⟨n, k, e, q, m, c', sq, sn, sc'⟩] 1 rfl (by decide) #[.int .i64 n, .int .i64 k, .int .i64 e, .slice q m c', .slice sq sn sc', .slice none 0 0] rfl
  simp only [World.size_alloc] at hx
  change Sg w ((w.alloc (.cells #[.int .i64 n, .int .i64 k, .int .i64 e, .slice p m c, .slice sp sn sc, .slice none 0 0] 28)).alloc (.cells #[.int .i64 n, .int .i64 k, .int .i64 e, .slice q m c', .slice sq sn sc', .slice none 0 0] 28)) _ at hx
  have HC := Lib.hid (fun W (h : Sg w W [rG kW (.slice (some ⟨w.heap.size + 1, 0, none⟩) 1 1) [⟨n, k, e, q, m, c', sq, sn, sc'⟩], rG kW (.slice (some ⟨w.heap.size, 0, none⟩) 1 1) [⟨n, k, e, p, m, c, sp, sn, sc⟩]]) => (⟨w6 h (g := w.heap.size) (n := 1) (q := ⟨n, k, e, p, m, c, sp, sn, sc⟩) (by simp), w6 h (g := w.heap.size + 1) (n := 1) (q := ⟨n, k, e, q, m, c', sq, sn, sc'⟩) (by simp)⟩ : _ ∧ _))
  clear hL hZ hp hq hs ht hm hsn
  have h0 := hx
  go_enter Try.func6, Try.ntmps6
  go_wp2_with (first
    | (go_at_call 13; refine (HD.out _ h0.bel).mono ?_; rintro ee w1 ⟨rfl, hb1⟩; have h1 := h0.step hb1; obtain ⟨⟨x0, x1, x2, x3, x4, x5, _, _⟩, ⟨y0, y1, y2, y3, y4, y5, _, _⟩⟩ := HC.out _ h1)
    | (go_at_call 14; refine (HS.out _ h1.bel).mono ?_; rintro ee w2 ⟨rfl, hb2⟩; have h2 := h1.step hb2; clear x0 x1 x2 x3 x4 x5 y0 y1 y2 y3 y4 y5; obtain ⟨⟨x0, x1, x2, x3, x4, x5, _, _⟩, ⟨y0, y1, y2, y3, y4, y5, _, _⟩⟩ := HC.out _ h2)
    | (go_at_call 15; refine (nil15 _).mono ?_; rintro ee w3 ⟨rfl, rfl⟩))
  go_ret
  exact ⟨rfl, h2.bel⟩
set_option maxHeartbeats 1000000 in
theorem markWorld_any (n k e : Int) (p sp : Option Addr) (m c sn sc : Nat) (M : List On) (Z : List Zs) (A Bs : List Rw) (w W : World) (hS : Sg w W (A ++ rG kO (.slice p m c) M :: rG kZ (.slice sp sn sc) Z :: Bs)) (hm : m ≤ 1048576) (hsn : sn ≤ 1048576) :
    Calls Try.prog 7 #[Wv.v ⟨n, k, e, p, m, c, sp, sn, sc⟩, .int .i64 1] W fun ee w' => ee = .returned (.int .i64 (1 + 4 * m + 2 * sn)) ∧ Sg w w' (A ++ rG kO (.slice p m c) (mkOs 1 m) :: rG kZ (.slice sp sn sc) (mkZs (1 + 4 * m) sn) :: Bs) := by
  have hx : Sg w (W.alloc (.cells #[.int .i64 n, .int .i64 k, .int .i64 e, .slice p m c, .slice sp sn sc, .slice none 0 0] 28)) ((rG kW (.slice (some ⟨W.heap.size, 0, none⟩) 1 1) [⟨n, k, e, p, m, c, sp, sn, sc⟩] :: A) ++ rG kO (.slice p m c) M :: rG kZ (.slice sp sn sc) Z :: Bs) := hS.lit kW [⟨n, k, e, p, m, c, sp, sn, sc⟩] 1 rfl (by decide) #[.int .i64 n, .int .i64 k, .int .i64 e, .slice p m c, .slice sp sn sc, .slice none 0 0] rfl
  clear hS
  go_enter Try.func7, Try.ntmps7
  go_wp2_with (first
    | (go_at_call 16; refine (markDirectory_any e p m c M _ _ w _ hx hm).mono ?_; rintro ee w1 ⟨rfl, h1⟩; clear hx; obtain ⟨x0, x1, x2, x3, x4, x5, _, _⟩ := w6 h1 (g := W.heap.size) (n := 1) (q := ⟨n, k, e, p, m, c, sp, sn, sc⟩) (by simp))
    | (go_at_call 17; refine (markShardS_any sp sn sc (1 + 4 * m) Z ((rG kW (.slice (some ⟨W.heap.size, 0, none⟩) 1 1) [⟨n, k, e, p, m, c, sp, sn, sc⟩] :: A) ++ [rG kO (.slice p m c) (mkOs 1 m)]) Bs w _ (by rw [List.append_assoc]; exact h1) hsn (by omega) (by omega)).mono ?_; rintro ee w2 ⟨rfl, h2⟩; clear x0 x1 x2 x3 x4 x5; obtain ⟨x0, x1, x2, x3, x4, x5, _, _⟩ := w6 h2 (g := W.heap.size) (n := 1) (q := ⟨n, k, e, p, m, c, sp, sn, sc⟩) (by simp))
    | (go_at_call 18; refine (nil18 _ _).mono ?_; rintro ee w3 ⟨rfl, rfl⟩))
  go_ret
  refine ⟨rfl, ?_⟩
  rw [List.append_assoc] at h2
  exact h2.sub (List.sublist_cons_self ..)
set_option maxHeartbeats 1000000 in
theorem heldWorld_any (n k e : Int) (p sp : Option Addr) (m c sn sc : Nat) (w : World) (hp : SlG kO w p (mkOs 1 m)) (hs : SlG kZ w sp (mkZs (1 + 4 * m) sn)) (hm : m ≤ 1048576) (hsn : sn ≤ 1048576) :
    Calls Try.prog 8 #[Wv.v ⟨n, k, e, p, m, c, sp, sn, sc⟩, .int .i64 1] w fun ee w' => ee = .returned (.int .i64 (1 + 4 * m + 2 * sn)) ∧ Below w.heap.size w w' := by
  have HD := Lib.hid (fun W (h : Below w.heap.size w W) => heldDirectory_any e p m c W (hp.step h) (by omega))
  have HS := Lib.hid (fun W (h : Below w.heap.size w W) => heldShardS_any sp sc (1 + 4 * m) sn W (hs.step h) hsn (by omega) (by omega))
  have hx : Sg w (w.alloc (.cells #[.int .i64 n, .int .i64 k, .int .i64 e, .slice p m c, .slice sp sn sc, .slice none 0 0] 28)) [rG kW (.slice (some ⟨w.heap.size, 0, none⟩) 1 1) [⟨n, k, e, p, m, c, sp, sn, sc⟩]] := (Sg.nil w).lit kW [⟨n, k, e, p, m, c, sp, sn, sc⟩] 1 rfl (by decide) #[.int .i64 n, .int .i64 k, .int .i64 e, .slice p m c, .slice sp sn sc, .slice none 0 0] rfl
  have g1 : ¬ (1 : Int) + 4 * (m : Int) < 0 := by omega
  have g2 : ¬ (1 : Int) + 4 * (m : Int) + 2 * (sn : Int) < 0 := by omega
  clear hp hs hm hsn
  go_enter Try.func8, Try.ntmps8
  go_wp2_with (first
    | (go_at_call 19; refine (HD.out _ hx.bel).mono ?_; rintro ee w1 ⟨rfl, hb1⟩; have h1 := hx.step hb1; obtain ⟨x0, x1, x2, x3, x4, x5, _, _⟩ := w6 h1 (g := w.heap.size) (n := 1) (q := ⟨n, k, e, p, m, c, sp, sn, sc⟩) (by simp))
    | (go_at_call 20; refine (HS.out _ h1.bel).mono ?_; rintro ee w2 ⟨rfl, hb2⟩; have h2 := h1.step hb2; clear x0 x1 x2 x3 x4 x5; obtain ⟨x0, x1, x2, x3, x4, x5, _, _⟩ := w6 h2 (g := w.heap.size) (n := 1) (q := ⟨n, k, e, p, m, c, sp, sn, sc⟩) (by simp))
    | (go_at_call 21; refine (nil21 _ _).mono ?_; rintro ee w3 ⟨rfl, rfl⟩))
  go_ret
  exact ⟨rfl, h2.bel⟩
end Go.Proofs.Ytmfbkbifoehoeaa.K.D
