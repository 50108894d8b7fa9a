/-
  A Shard in memory; whether it is right, the program's look and the spec's.
-/
import Derived.Test.YtobbankkfplooaaGreatKIL3
import Derived.Test.YtobbankkfplooaaGreatKB5
import Derived.Test.YtobbankkfplooaaGreatKY1
import Derived.Test.YtobbankkfplooaaGreatKNG
import Derived.Test.YtobbankkfplooaaGreatKIB3
namespace Go.Proofs.YtobbankkfplooaaGreat.K.I
open Go.Shelf Go.RowKit Go.Joins
attribute [local go_sem] Oper.semAt_some

theorem bx3 {w W : World} {v0 v1 v2 : Value} {ty : TypeId} (h : Below (w.alloc (.cells #[v0, v1, v2] ty)).heap.size (w.alloc (.cells #[v0, v1, v2] ty)) W) : W.cell? ⟨w.heap.size, 0, none⟩ = some v0 ∧ W.cell? ⟨w.heap.size, 1, none⟩ = some v1 ∧ W.cell? ⟨w.heap.size, 2, none⟩ = some v2 := by
  have := (((St.nil w).push [v0, v1, v2] ty).step h).has
  simp [Has, HasAt] at this
  simp [this]
structure Bv where
  t : Int
  s : Int
  v : Sv
def zbv : Bv := ⟨0, 0, ⟨none, 0, 0⟩⟩
def kB : Kd Bv := ⟨67, 3, fun q => [.int .i64 q.t, .int .i64 q.s, .slice q.v.p q.v.n q.v.c], fun _ => rfl⟩
def kLB : Kd Bv := ⟨111, 3, fun q => [.int .i64 q.t, .int .i64 q.s, .slice q.v.p q.v.n q.v.c], fun _ => rfl⟩
theorem bat3 {w W : World} {rs : List Rw} (h : Sg w W rs) {K : Kd Bv} {g n : Nat} {q : Bv} (hm : rG K (.slice (some ⟨g, 0, none⟩) 1 n) [q] ∈ rs) (hv : K.vs q = [.int .i64 q.t, .int .i64 q.s, .slice q.v.p q.v.n q.v.c]) :
    W.cell? ⟨g, 0, none⟩ = some (.int .i64 q.t) ∧ W.cell? ⟨g, 1, none⟩ = some (.int .i64 q.s) ∧ W.cell? ⟨g, 2, none⟩ = some (.slice q.v.p q.v.n q.v.c) ∧ (∀ o, W.frozen? ⟨g, o, none⟩ = false) ∧ g < W.heap.size := by
  have ho := h.mem hm
  have hC := OwG.cs ho
  have f := fun i u hu => hC.at (k := 0) (a := q) rfl (i := i) (u := u) hu
  simp only [Nat.zero_mul, Nat.zero_add, hv] at f
  exact ⟨f 0 _ rfl, f 1 _ rfl, f 2 _ rfl, OwG.fz ho, hC.1⟩
theorem Sg.setB2 {w W : World} {A Bs : List Rw} {g n : Nat} {a : Bv} (h : Sg w W (A ++ rG kB (.slice (some ⟨g, 0, none⟩) 1 n) [a] :: Bs)) (u : Sv) :
    Sg w (W.setCell ⟨g, 2, none⟩ (.slice u.p u.n u.c)) (A ++ rG kB (.slice (some ⟨g, 0, none⟩) 1 n) [⟨a.t, a.s, u⟩] :: Bs) := Sg.setRaw h 2 (.slice u.p u.n u.c)
theorem Sg.setB {w W : World} {A Bs : List Rw} {g n : Nat} {a : Bv} (h : Sg w W (A ++ rG kB (.slice (some ⟨g, 0, none⟩) 1 n) [a] :: Bs)) (q : Bv) :
    Sg w (((W.setCell ⟨g, 0, none⟩ (.int .i64 q.t)).setCell ⟨g, 1, none⟩ (.int .i64 q.s)).setCell ⟨g, 2, none⟩ (.slice q.v.p q.v.n q.v.c)) (A ++ rG kB (.slice (some ⟨g, 0, none⟩) 1 n) [q] :: Bs) :=
  ((Sg.setRaw h 0 (.int .i64 q.t)).setRaw 1 (.int .i64 q.s)).setRaw 2 (.slice q.v.p q.v.n q.v.c)
set_option maxRecDepth 100000 in
set_option maxHeartbeats 4000000 in
theorem toBat_any (t s : Int) (p : Option Addr) (n c : Nat) (L : List Rc) (hn : L.length = n) (hb : n ≤ 1048576) (w : World) (hL : SlG kL w p L) :
    Calls Tryz.prog 82 #[batV t s p n c] w fun e w' => ∃ g, e = .returned (batV t s (some ⟨g, 0, none⟩) n n) ∧ Sg w w' [rG kR (.slice (some ⟨g, 0, none⟩) n n) L] := by
  have HC := Lib.hid (fun W (h : Below w.heap.size w W) => toRecS_any p c L n hn W (hL.step h) hb)
  have hS1 := ((((Sg.nil w).lit kLB [⟨t, s, ⟨p, n, c⟩⟩] 1 rfl (by decide) #[.int .i64 t, .int .i64 s, .slice p n c] rfl).lit kB [zbv] 1 rfl (by decide) #[.int .i64 0, .int .i64 0, .slice none 0 0] rfl).lit kB [⟨t, s, ⟨none, 0, 0⟩⟩] 1 rfl (by decide) #[.int .i64 t, .int .i64 s, .slice none 0 0] rfl)
  simp only [World.size_alloc] at hS1
  clear hn hL
  go_enter Tryz.func82, Tryz.ntmps82
  go_wp2_with (go_at_call 94; refine (HC.out _ hS1.bel).mono ?_; rintro e w2 ⟨h, rfl, hw2⟩; have hS3 := hS1.addL hw2; obtain ⟨t0, t1, t2, tf, tg⟩ := bat3 hS3 (K := kB) (g := w.heap.size + 1 + 1) (n := 1) (q := ⟨t, s, ⟨none, 0, 0⟩⟩) (by simp) rfl; obtain ⟨v0, v1, v2, vf, vg⟩ := bat3 hS3 (K := kB) (g := w.heap.size + 1) (n := 1) (q := zbv) (by simp) rfl; obtain ⟨x0, x1, x2, _, xg⟩ := bat3 hS3 (K := kLB) (g := w.heap.size) (n := 1) (q := ⟨t, s, ⟨p, n, c⟩⟩) (by simp) rfl)
  have hS4 := Sg.setB2 (A := [rG kR (.slice (some ⟨h, 0, none⟩) n n) L]) (g := w.heap.size + 1 + 1) (n := 1) (a := ⟨t, s, ⟨none, 0, 0⟩⟩) hS3 ⟨some ⟨h, 0, none⟩, n, n⟩
  have hS5 := Sg.setB (A := [rG kR (.slice (some ⟨h, 0, none⟩) n n) L, rG kB (.slice (some ⟨w.heap.size + 1 + 1, 0, none⟩) 1 1) [⟨t, s, ⟨some ⟨h, 0, none⟩, n, n⟩⟩]]) (g := w.heap.size + 1) (n := 1) (a := zbv) hS4 ⟨t, s, ⟨some ⟨h, 0, none⟩, n, n⟩⟩
  refine bodyPost_ret (v := .agg #[.int .i64 t, .int .i64 s, .slice (some ⟨h, 0, none⟩) n n]) (by simp [results, Tryz.results82, go_sem, v0, v1, v2]) rfl ⟨h, rfl, ?_⟩
  exact hS5.sub (by simp)
set_option maxHeartbeats 1000000 in
theorem szBat_any (t s : Int) (p : Option Addr) (n c : Nat) (L : List Rc) (hn : L.length = n) (a : Int) (w : World) (hL : SlG kL w p L) (ha : 0 ≤ a) (ha2 : a ≤ 1048576) (hm : n ≤ maxLen) (hms : ∀ r ∈ L, r.s.size ≤ maxLen) {v : Int} (hv : (if a < rsz L then -1 else a - (rsz L : Int)) = v) :
    Calls Tryz.prog 81 #[batV t s p n c, .int .i64 a] w fun e w' => e = .returned (.int .i64 v) ∧ Below w.heap.size w w' := by
  have HZ := Lib.hid (fun W (h : Below w.heap.size w W) => szRecS_any p c L n hn a W (hL.step h) ha ha2 hm hms hv)
  have hb00 := bx3 (Below.refl (w.alloc (.cells #[.int .i64 t, .int .i64 s, .slice p n c] 111)).heap.size (w.alloc (.cells #[.int .i64 t, .int .i64 s, .slice p n c] 111)))
  have h0 := below_alloc1 w (.cells #[.int .i64 t, .int .i64 s, .slice p n c] 111)
  have hv2 : v = -1 ∨ 0 ≤ v := by rw [← hv]; split <;> omega
  clear hn hL hm hms hv
  rcases hv2 with rfl | hv2
  · go_enter Tryz.func81, Tryz.ntmps81
    go_wp2_with (go_at_call 93; refine (HZ.out _ h0).mono ?_; rintro e w1 ⟨rfl, hb1⟩)
    go_ret
    exact ⟨rfl, ba1 hb1⟩
  · have hv3 : ¬ v < 0 := by omega
    go_enter Tryz.func81, Tryz.ntmps81
    go_wp2_with (go_at_call 93; refine (HZ.out _ h0).mono ?_; rintro e w1 ⟨rfl, hb1⟩)
    go_ret
    exact ⟨rfl, ba1 hb1⟩
set_option maxHeartbeats 1000000 in
theorem eqBat_same (t s : Int) (p q : Option Addr) (n c c' : Nat) (L : List Rc) (hn : L.length = n) (hb : n ≤ 1048576) (w : World) (hp : SlG kR w p L) (hq : SlG kR w q L) :
    Calls Tryz.prog 83 #[batV t s p n c, batV t s q n c'] w fun e w' => e = .returned (.bool true) ∧ Below w.heap.size w w' := by
  have HE := Lib.hid (fun W (h : Below w.heap.size w W) => eqRecS_same p q c c' L n hn W (hp.step h) (hq.step h) (by omega))
  have h0 := below_alloc2 w (.cells #[.int .i64 t, .int .i64 s, .slice p n c] 67) (.cells #[.int .i64 t, .int .i64 s, .slice q n c'] 67)
  clear hn hp hq
  go_enter Tryz.func83, Tryz.ntmps83
  go_wp2_with (go_at_call 95; refine (HE.out _ h0).mono ?_; rintro e w1 ⟨rfl, hb1⟩)
  go_ret
  exact ⟨rfl, ba2 hb1⟩
end Go.Proofs.YtobbankkfplooaaGreat.K.I
namespace Go.Proofs.YtobbankkfplooaaGreat.K.Y
open Go.Shelf Go.RowKit Go.Joins
attribute [local go_sem] Oper.semAt_some

abbrev YQ := Yd × Sv
def zyq : YQ := (zyd, ⟨none, 0, 0⟩)
def kY : Kd YQ := ⟨67, 3, fun y => [.int .i64 y.1.t, .int .i64 y.1.q, .slice y.2.p y.2.n y.2.c], fun _ => rfl⟩
def kLY : Kd YQ := ⟨111, 3, fun y => [.int .i64 y.1.t, .int .i64 y.1.q, .slice y.2.p y.2.n y.2.c], fun _ => rfl⟩
theorem CsG.y3 {w : World} {g off : Nat} {L : List YQ} (h : CsG kY w g off L) {k : Nat} {y : YQ} (hk : L[k]? = some y) : w.cell? ⟨g, off + k * 3, none⟩ = some (.int .i64 y.1.t) ∧ w.cell? ⟨g, off + k * 3 + 1, none⟩ = some (.int .i64 y.1.q) ∧ w.cell? ⟨g, off + k * 3 + 2, none⟩ = some (.slice y.2.p y.2.n y.2.c) :=
  ⟨h.at hk (i := 0) rfl, h.at hk (i := 1) rfl, h.at hk (i := 2) rfl⟩
theorem CsG.ly3 {w : World} {g off : Nat} {L : List YQ} (h : CsG kLY w g off L) {k : Nat} {y : YQ} (hk : L[k]? = some y) : w.cell? ⟨g, off + k * 3, none⟩ = some (.int .i64 y.1.t) ∧ w.cell? ⟨g, off + k * 3 + 1, none⟩ = some (.int .i64 y.1.q) ∧ w.cell? ⟨g, off + k * 3 + 2, none⟩ = some (.slice y.2.p y.2.n y.2.c) :=
  ⟨h.at hk (i := 0) rfl, h.at hk (i := 1) rfl, h.at hk (i := 2) rfl⟩
theorem getY {L : List YQ} {k : Nat} (hk : k < L.length) : L[k]? = some (L.getD k zyq) := by simp [List.getD, hk]
/-- A Ready's Items as one reads them. -/
def RdI (K : Kd Rc) (W : World) (y : YQ) : Prop := SlG K W y.2.p y.1.L ∧ y.1.L.length = y.2.n
theorem RdI.step {K : Kd Rc} {w w' : World} {y : YQ} (h : RdI K w y) (hb : Below w.heap.size w w') : RdI K w' y := ⟨h.1.step hb, h.2⟩
/-- A list of Readies as one reads it: the program's, the law's. -/
def RdY (W : World) (p : Option Addr) (QL : List YQ) : Prop := SlG kY W p QL ∧ ∀ y ∈ QL, RdI I.kR W y
def RdLY (W : World) (p : Option Addr) (QL : List YQ) : Prop := SlG kLY W p QL ∧ ∀ y ∈ QL, RdI I.kL W y
theorem RdY.step {w w' : World} {p : Option Addr} {QL : List YQ} (h : RdY w p QL) (hb : Below w.heap.size w w') : RdY w' p QL := ⟨h.1.step hb, fun q hq => (h.2 q hq).step hb⟩
theorem RdLY.step {w w' : World} {p : Option Addr} {QL : List YQ} (h : RdLY w p QL) (hb : Below w.heap.size w w') : RdLY w' p QL := ⟨h.1.step hb, fun q hq => (h.2 q hq).step hb⟩
def yds (QL : List YQ) : List Yd := QL.map (·.1)
theorem yds_len (QL : List YQ) : (yds QL).length = QL.length := by simp [yds]
theorem yds_get {QL : List YQ} {k : Nat} (hk : k < QL.length) : (yds QL)[k]? = some (QL.getD k zyq).1 := by simp [yds, List.getD, hk]
theorem yds_take {QL : List YQ} {k : Nat} (hk : k < QL.length) : (yds QL).take (k + 1) = (yds QL).take k ++ [(QL.getD k zyq).1] := by
  rw [List.take_add_one, yds_get hk]; rfl

theorem batB_yB (y : Yd) : I.batB y.t y.q y.L = yB y := rfl
theorem take_ids {L : List Rc} {t : Int} {k : Nat} (hk : k < L.length) : (L.take (k + 1)).map (fun r => numN t r.i) = (L.take k).map (fun r => numN t r.i) ++ [numN t (L.getD k zrc).i] := by
  rw [List.take_add_one, getR hk]; simp
theorem sg_nil2 (w : World) : Sg w w [rG kI (.slice none 0 0) [], rG kI (.slice none 0 0) []] := by
  refine ⟨Below.refl _ _, fun r hr => ?_, ?_⟩
  · simp at hr
    subst hr
    exact ⟨rfl, .inl ⟨rfl, rfl⟩⟩
  · simp [rG, Value.ownBlock]
theorem flat_len6 : ∀ {Y : List Yd}, Y.all yB = true → (Y.flatMap idsN).length ≤ 6 * Y.length
  | [], _ => by simp
  | y :: t, h => by
    rw [List.all_cons, Bool.and_eq_true] at h
    have h1 := flat_len6 h.2
    have h2 := (yB_parts h.1).2.2.1
    rw [List.flatMap_cons, List.length_append, List.length_cons]
    have : (idsN y).length = y.L.length := by simp [idsN]
    omega
end Go.Proofs.YtobbankkfplooaaGreat.K.Y
namespace Go.Proofs.YtobbankkfplooaaGreat.K.Y
open Go.Shelf Go.RowKit Go.Joins
attribute [local go_sem] Oper.semAt_some

/-- A Shard's cells. -/
structure Hv where
  r : Sv
  y : Sv
  o : Sv
  g : ByteArray
  s : Int
abbrev Hv.v (h : Hv) : Value := .agg #[.slice h.r.p h.r.n h.r.c, .slice h.y.p h.y.n h.y.c, .slice h.o.p h.o.n h.o.c, .string h.g, .int .i64 h.s]
def zhv : Hv := ⟨⟨none, 0, 0⟩, ⟨none, 0, 0⟩, ⟨none, 0, 0⟩, ByteArray.empty, 0⟩
theorem sh5 {w W : World} {rs : List Rw} (h : Sg w W rs) {K : Kd Hv} {g n : Nat} {q : Hv} (hm : rG K (.slice (some ⟨g, 0, none⟩) 1 n) [q] ∈ rs) (hv : K.vs q = [.slice q.r.p q.r.n q.r.c, .slice q.y.p q.y.n q.y.c, .slice q.o.p q.o.n q.o.c, .string q.g, .int .i64 q.s]) :
    W.cell? ⟨g, 0, none⟩ = some (.slice q.r.p q.r.n q.r.c) ∧ W.cell? ⟨g, 1, none⟩ = some (.slice q.y.p q.y.n q.y.c) ∧ W.cell? ⟨g, 2, none⟩ = some (.slice q.o.p q.o.n q.o.c) ∧ W.cell? ⟨g, 3, none⟩ = some (.string q.g) ∧ W.cell? ⟨g, 4, none⟩ = some (.int .i64 q.s) ∧ (∀ o, W.frozen? ⟨g, o, none⟩ = false) ∧ g < W.heap.size := by
  have ho := h.mem hm
  have hC := OwG.cs ho
  have f := fun i u hu => hC.at (k := 0) (a := q) rfl (i := i) (u := u) hu
  simp only [Nat.zero_mul, Nat.zero_add, hv] at f
  exact ⟨f 0 _ rfl, f 1 _ rfl, f 2 _ rfl, f 3 _ rfl, f 4 _ rfl, OwG.fz ho, hC.1⟩
end Go.Proofs.YtobbankkfplooaaGreat.K.Y
