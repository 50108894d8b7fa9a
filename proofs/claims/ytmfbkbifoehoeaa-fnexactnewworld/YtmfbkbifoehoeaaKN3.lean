/-
  NewWorld: the program's.
-/
import Derived.Test.YtmfbkbifoehoeaaKN2
import Derived.Test.YtmfbkbifoehoeaaMA5
import Derived.Test.YtmfbkbifoehoeaaKP1
namespace Go.Proofs.Ytmfbkbifoehoeaa.K.D
open Go.Shelf Go.RowKit Go.Joins
attribute [local go_sem] Oper.semAt_some

theorem info59 : (Try.prog.info? 59).map (fun i => (i.zero, i.size, i.bytes)) = some (some (.agg #[.slice none 0 0, .slice none 0 0, .slice none 0 0, .string ByteArray.empty, .int .i64 0]), 5, 96) := by kernel_rfl
theorem made_flatZ (n : Nat) : (madeCells #[.slice none 0 0, .slice none 0 0, .slice none 0 0, .string ByteArray.empty, .int .i64 0] (n * 5)).toList = kZ.flat (List.replicate n zzs) := by
  refine List.ext_getElem? fun i => ?_
  have hl : (kZ.flat (List.replicate n zzs)).length = n * 5 := by rw [Kd.flat_len]; simp [kZ]
  by_cases hi : i < n * 5
  · have h6 : i / 5 < n := by omega
    have hk : (List.replicate n zzs)[i / 5]? = some zzs := by simp [h6]
    have hg := Kd.flat_get (K := kZ) hk (i := i % 5) (Nat.mod_lt _ (by decide))
    have e3 : i / 5 * kZ.n + i % 5 = i := by show i / 5 * 5 + i % 5 = i; omega
    rw [e3] at hg
    rw [hg]
    have hm : i % 5 = 0 ∨ i % 5 = 1 ∨ i % 5 = 2 ∨ i % 5 = 3 ∨ i % 5 = 4 := by omega
    rcases hm with hm | hm | hm | hm | hm <;> simp [madeCells, hi, hm, kZ, zzs]
  · rw [List.getElem?_eq_none (by simp [madeCells]; omega), List.getElem?_eq_none (by omega)]
theorem lit_madeZ {w W : World} {rs : List Rw} (h : Sg w W rs) {n : Nat} (hn : n ≤ 1000) : Sg w (W.alloc (.cells (madeCells #[.slice none 0 0, .slice none 0 0, .slice none 0 0, .string ByteArray.empty, .int .i64 0] (n * 5)) 59)) (rG kZ (.slice (some ⟨W.heap.size, 0, none⟩) n n) (List.replicate n zzs) :: rs) := by
  refine h.add (r := rG kZ (.slice (some ⟨W.heap.size, 0, none⟩) n n) (List.replicate n zzs)) ?_ (below_alloc1 _ _)
  have h1 := World.ownsRow_lit (base := W.heap.size) (e := 59) (size := 5) W (madeCells #[.slice none 0 0, .slice none 0 0, .slice none 0 0, .string ByteArray.empty, .int .i64 0] (n * 5)) n (Nat.le_refl _) (by unfold maxLen; omega) (size_madeCells _ _)
  rw [made_flatZ] at h1
  unfold Rw.own rG
  simp only [List.length_replicate]
  exact h1
/-- Cells in memory. -/
def kC : Kd (Int × Int × Int) := ⟨36, 3, fun a => [.int .i64 a.1, .int .i64 a.2.1, .int .i64 a.2.2], fun _ => rfl⟩
theorem c3 {w W : World} {rs : List Rw} (h : Sg w W rs) {g n : Nat} {a : Int × Int × Int} (hm : rG kC (.slice (some ⟨g, 0, none⟩) 1 n) [a] ∈ rs) :
    W.cell? ⟨g, 0, none⟩ = some (.int .i64 a.1) ∧ W.cell? ⟨g, 1, none⟩ = some (.int .i64 a.2.1) ∧ W.cell? ⟨g, 2, none⟩ = some (.int .i64 a.2.2) := by
  have ho := h.mem hm
  have hC := OwG.cs ho
  have f := fun i u hu => hC.at (k := 0) (a := a) rfl (i := i) (u := u) hu
  simp only [Nat.zero_mul, Nat.zero_add] at f
  exact ⟨f 0 _ rfl, f 1 _ rfl, f 2 _ rfl⟩
/-- The quarters of the whole grid. -/
def QL : List (Int × Int × Int) := [(1, 0, 0), (1, 1, 0), (1, 0, 1), (1, 1, 1)]
theorem quart_row {w W : World} {v : Value} {B : Nat} (hB : w.heap.size ≤ B) (h : W.ownsRow B 36 3 v 4 (M.qs 0 0 0 4)) (hb : Below w.heap.size w W) : Sg w W [rG kC v QL] := by
  refine ⟨hb, fun r hr => ?_, List.pairwise_singleton ..⟩
  obtain rfl := List.mem_singleton.mp hr
  have e : kC.flat QL = M.qs 0 0 0 4 := by simp [Kd.flat, kC, QL, M.qs, M.qc]
  unfold Rw.own rG
  rw [e]
  obtain ⟨h1, h2⟩ := h
  refine ⟨h1, ?_⟩
  rcases h2 with h2 | ⟨g, cap, cur, hv, hbg, hh⟩
  · exact .inl h2
  · exact .inr ⟨g, cap, cur, hv, by omega, hh⟩
theorem quart_cells {W : World} {base g cap : Nat} (h : OwG kC W base (.slice (some ⟨g, 0, none⟩) 4 cap) QL) {k : Nat} (hk : k < 4) : W.cell? ⟨g, k * 3, none⟩ = some (.int .i64 1) ∧ W.cell? ⟨g, k * 3 + 1, none⟩ = some (.int .i64 ((k % 2 : Nat) : Int)) ∧ W.cell? ⟨g, k * 3 + 2, none⟩ = some (.int .i64 ((k / 2 : Nat) : Int)) := by
  have hC := OwG.cs h
  have hq : QL[k]? = some (1, ((k % 2 : Nat) : Int), ((k / 2 : Nat) : Int)) := by
    have h5 : k = 0 ∨ k = 1 ∨ k = 2 ∨ k = 3 := by omega
    rcases h5 with rfl | rfl | rfl | rfl <;> rfl
  have f := fun i u hu => hC.at (k := k) hq (i := i) (u := u) hu
  simp only [Nat.zero_add] at f
  exact ⟨f 0 _ rfl, f 1 _ rfl, f 2 _ rfl⟩
/-- The k-th quarter's Own of a new World of n Shards. -/
def qO (n k : Nat) : On := ⟨1, ((k % 2 : Nat) : Int), ((k / 2 : Nat) : Int), ((k % n : Nat) : Int)⟩
def owN (n k : Nat) : List On := (List.range k).map (qO n)
theorem owN_succ (n k : Nat) : owN n (k + 1) = owN n k ++ [qO n k] := by simp [owN, List.range_succ]
theorem owN_len (n k : Nat) : (owN n k).length = k := by simp [owN]
set_option maxHeartbeats 400000 in
theorem iSeal_yes {k : Int} (h0 : 0 ≤ k) (h1 : k ≤ 2147483646) (w : World) : Calls Try.prog 11 #[.int .i64 k] w fun e w' => e = .returned (.bool true) ∧ w' = w := by
  go_enter Try.func11, Try.ntmps11
  go_wp2
  go_ret
  exact ⟨rfl, rfl⟩
set_option maxHeartbeats 400000 in
theorem iSeal_no {k : Int} (h : ¬ (0 ≤ k ∧ k ≤ 2147483646)) (w : World) : Calls Try.prog 11 #[.int .i64 k] w fun e w' => e = .returned (.bool false) ∧ w' = w := by
  by_cases h0 : 0 ≤ k
  · have h1 : ¬ k ≤ 2147483646 := fun h1 => h ⟨h0, h1⟩
    clear h
    go_enter Try.func11, Try.ntmps11
    go_wp2
    go_ret
    exact ⟨rfl, rfl⟩
  · clear h
    go_enter Try.func11, Try.ntmps11
    go_wp2
    go_ret
    exact ⟨rfl, rfl⟩
theorem Sg.setW3 {w W : World} {A Bs : List Rw} {g n : Nat} {a : Wv} (h : Sg w W (A ++ rG kW (.slice (some ⟨g, 0, none⟩) 1 n) [a] :: Bs)) (p : Option Addr) (m c : Nat) : Sg w (W.setCell ⟨g, 3, none⟩ (.slice p m c)) (A ++ rG kW (.slice (some ⟨g, 0, none⟩) 1 n) [⟨a.n, a.k, a.e, p, m, c, a.sp, a.sn, a.sc⟩] :: Bs) := Sg.setRaw h 3 (.slice p m c)
theorem Sg.setW {w W : World} {A Bs : List Rw} {g n : Nat} {a : Wv} (h : Sg w W (A ++ rG kW (.slice (some ⟨g, 0, none⟩) 1 n) [a] :: Bs)) (q : Wv) : Sg w ((((((W.setCell ⟨g, 0, none⟩ (.int .i64 q.n)).setCell ⟨g, 1, none⟩ (.int .i64 q.k)).setCell ⟨g, 2, none⟩ (.int .i64 q.e)).setCell ⟨g, 3, none⟩ (.slice q.p q.m q.c)).setCell ⟨g, 4, none⟩ (.slice q.sp q.sn q.sc)).setCell ⟨g, 5, none⟩ (.slice none 0 0)) (A ++ rG kW (.slice (some ⟨g, 0, none⟩) 1 n) [q] :: Bs) :=
  (((((Sg.setRaw h 0 (.int .i64 q.n)).setRaw 1 (.int .i64 q.k)).setRaw 2 (.int .i64 q.e)).setRaw 3 (.slice q.p q.m q.c)).setRaw 4 (.slice q.sp q.sn q.sc)).setRaw 5 (.slice none 0 0)
def BLo (o : On) (x : Value) (s : List Rw) : Prop := ∃ g, x = .slice (some ⟨g, 0, none⟩) 1 1 ∧ s = [rG kO (.slice (some ⟨g, 0, none⟩) 1 1) [o]]
def BAo (m : Nat) (L : List On) (x : Value) (s : List Rw) : Prop := ∃ q c, x = .slice q m c ∧ s = [rG kO (.slice q m c) L]
def BXo (m : Nat) (mk : Option Addr → Nat → Rw) (x : Value) (s : List Rw) : Prop := ∃ q c, x = .slice q m c ∧ s = [mk q c]
structure RW7 (b6 gz n k c : Nat) (key qx qy r : Int) (p : Option Addr) (L : List On) (l : Array Bool) (x34 x35 x36 x37 x38 x39 x40 x41 x42 x43 x44 x45 : Value) (s1 s2 s3 : List Rw) : Prop where
  f34 : Inv.D l 0 = true → x34 = .pointer (some ⟨b6, 2, none⟩)
  f35 : Inv.D l 1 = true → x35 = .pointer (some ⟨b6, 3, none⟩)
  f36 : Inv.D l 2 = true → x36 = .slice p k c
  f37 : Inv.D l 3 = true → x37 = .agg #[.int .i64 1, .int .i64 qx, .int .i64 qy]
  f38 : Inv.D l 4 = true → x38 = .int .i64 k
  f39 : Inv.D l 5 = true → x39 = .int .i64 n
  f40 : Inv.D l 6 = true → x40 = .int .i64 r
  f41 : Inv.D l 7 = true → x41 = On.v ⟨1, qx, qy, r⟩
  c8 : Inv.D l 8 = false → s1 = []
  f42 : Inv.D l 8 = true → BLo ⟨1, qx, qy, r⟩ x42 s1
  c9 : Inv.D l 9 = false → s2 = [rG kO (.slice p k c) L]
  f43 : Inv.D l 9 = true → BAo (k + 1) (L ++ [⟨1, qx, qy, r⟩]) x43 s2
  f44 : Inv.D l 10 = true → x44 = .pointer (some ⟨b6, 2, none⟩)
  f45 : Inv.D l 11 = true → x45 = .pointer (some ⟨b6, 3, none⟩)
  c12 : Inv.D l 12 = false → s3 = [rG kW (.slice (some ⟨b6, 0, none⟩) 1 1) [⟨0, key, 1, p, k, c, some ⟨gz, 0, none⟩, n, n⟩]]
  f12 : Inv.D l 12 = true → BXo (k + 1) (fun q c => rG kW (.slice (some ⟨b6, 0, none⟩) 1 1) [⟨0, key, 1, q, k + 1, c, some ⟨gz, 0, none⟩, n, n⟩]) x43 s3
  r12a : Inv.D l 12 = true → Inv.D l 2 = true
  r12b : Inv.D l 12 = true → Inv.D l 9 = true
  r9 : Inv.D l 9 = true → Inv.D l 8 = true
set_option maxRecDepth 100000 in
set_option maxHeartbeats 4000000 in
theorem iNew_any (key : Int) (n : Nat) (h1 : 1 ≤ n) (h4 : n ≤ 4) (hk0 : 0 ≤ key) (hk1 : key ≤ 2147483646) (w : World) :
    Calls Try.prog 5 #[.int .i64 key, .int .i64 n] w fun ee w' => ∃ (p : Option Addr) (c g : Nat), ee = .returned (.tuple #[Wv.v ⟨0, key, 1, p, 4, c, some ⟨g, 0, none⟩, n, n⟩, .bool true]) ∧ Sg w w' [rG kO (.slice p 4 c) (owN n 4), rG kZ (.slice (some ⟨g, 0, none⟩) n n) (List.replicate n zzs)] := by
  obtain ⟨i0, hi, hz0, hz1, hz2⟩ := info_parts info59
  have hmk := run_make (P := Try.prog) (w.alloc (.cells #[.int .i64 0, .int .i64 0, .int .i64 0, .slice none 0 0, .slice none 0 0, .slice none 0 0] 28)) 25 59 i0 _ Try.underlying25 hi hz0 .i64 .i64 (n : Int) (n : Int) (by omega) (by omega) (by rw [hz2]; omega) (by omega)
  rw [hz1, Int.toNat_natCast] at hmk
  clear hi hz0 hz1 hz2
  have hx := lit_madeZ ((Sg.nil w).lit kW [zwv] 1 rfl (by decide) #[.int .i64 0, .int .i64 0, .int .i64 0, .slice none 0 0, .slice none 0 0, .slice none 0 0] rfl) (n := n) (by omega)
  have hx2 := hx.lit kW [⟨0, key, 1, none, 0, 0, some ⟨w.heap.size + 1, 0, none⟩, n, n⟩] 1 rfl (by decide) #[.int .i64 0, .int .i64 key, .int .i64 1, .slice none 0 0, .slice (some ⟨w.heap.size + 1, 0, none⟩) n n, .slice none 0 0] rfl
  simp only [World.size_alloc] at hx2
  clear hx
  have hn1 : ¬ (n : Int) < 1 := by omega
  have hn2 : ¬ (n : Int) > 4 := by omega
  have HQ := Lib.hid (fun W => M.iQuarters_own (l := 0) (x := 0) (y := 0) (by decide) (by decide) W)
  go_enter Try.func5, Try.ntmps5
  go_wp2_with (first
    | (go_at_call 11; refine (iSeal_yes hk0 hk1 _).mono ?_; rintro ee w1 ⟨rfl, rfl⟩)
    | (go_at_call 12; refine (HQ.out _).mono ?_; rintro ee w2 ⟨g, cap, B, rfl, hB0, hq, hqb⟩))
  have hx := hx2.addL (quart_row hB0 hq hqb)
  clear hq hx2 hmk HQ hn1 hn2 hk0 hk1 hB0 hqb
  replace hx := (hx.perm (List.perm_middle (l₁ := [_]) (l₂ := _)).symm).addL (sg_nilrow w2)
  simp only [List.singleton_append] at hx
  have hb6 : w.heap.size + 1 + 1 < w2.heap.size := (w6 hx (g := w.heap.size + 1 + 1) (n := 1) (q := ⟨0, key, 1, none, 0, 0, some ⟨w.heap.size + 1, 0, none⟩, n, n⟩) (by simp)).2.2.2.2.2.2.2
  obtain ⟨b6, hb6e⟩ : ∃ b, w.heap.size + 1 + 1 = b := ⟨_, rfl⟩
  obtain ⟨gz, hgze⟩ : ∃ b, w.heap.size + 1 = b := ⟨_, rfl⟩
  rw [hgze] at hx
  rw [show gz + 1 = b6 by omega] at hx
  simp only [hgze]
  simp only [show gz + 1 = b6 by omega]
  obtain ⟨RZ, hRZ⟩ : ∃ R, [rG kZ (.slice (some ⟨gz, 0, none⟩) n n) (List.replicate n zzs), rG kW (.slice (some ⟨w.heap.size, 0, none⟩) 1 1) [zwv]] = R := ⟨_, rfl⟩
  have HRZ := Lib.hid hRZ.symm
  replace hx : Sg w w2 (rG kO (.slice none 0 0) (owN n 0) :: rG kW (.slice (some ⟨b6, 0, none⟩) 1 1) [⟨0, key, 1, none, 0, 0, some ⟨gz, 0, none⟩, n, n⟩] :: rG kC (.slice (some ⟨g, 0, none⟩) 4 cap) QL :: RZ) := by
    rw [← hRZ]
    exact hx
  clear hRZ hb6e hgze hb6
  have HN : Hid (1 ≤ n ∧ n ≤ 4) := ⟨h1, h4⟩
  clear h1 h4
  go_loopw [7, 8, 29] (fun _ _ iv wr => ∃ (k : Nat) (p : Option Addr) (c : Nat), k ≤ 4 ∧ iv = .int .i64 k ∧ Sg w wr (rG kO (.slice p k c) (owN n k) :: rG kW (.slice (some ⟨b6, 0, none⟩) 1 1) [⟨0, key, 1, p, k, c, some ⟨gz, 0, none⟩, n, n⟩] :: rG kC (.slice (some ⟨g, 0, none⟩) 4 cap) QL :: RZ)) (fun _ _ iv _ => 4 - (intOf iv).toNat)
  case atStart => exact ⟨0, none, 0, by omega, rfl, hx⟩
  case round =>
    clear hx
    obtain ⟨k, p, c, hk, rfl, hx⟩ := hrel
    by_cases hlt : k < 4
    · have hki : (k : Int) < 4 := by omega
      obtain ⟨q0, q1, q2⟩ := quart_cells (hx.mem (K := kC) (v := .slice (some ⟨g, 0, none⟩) 4 cap) (L := QL) (by simp)) hlt
      obtain ⟨qx, hqx⟩ : ∃ z, ((k % 2 : Nat) : Int) = z := ⟨_, rfl⟩
      obtain ⟨qy, hqy⟩ : ∃ z, ((k / 2 : Nat) : Int) = z := ⟨_, rfl⟩
      rw [hqx] at q1
      rw [hqy] at q2
      go_upto_region 7 with (fail)
      replace hx := (hx.lit kC [(1, qx, qy)] 1 rfl (by decide) #[.int .i64 1, .int .i64 qx, .int .i64 qy] rfl).perm (List.perm_middle (l₁ := [_, _])).symm
      replace hx : Sg w (wr.alloc (.cells #[.int .i64 1, .int .i64 qx, .int .i64 qy] 36)) ([rG kO (.slice p k c) (owN n k), rG kW (.slice (some ⟨b6, 0, none⟩) 1 1) [⟨0, key, 1, p, k, c, some ⟨gz, 0, none⟩, n, n⟩]] ++ rG kC (.slice (some ⟨wr.heap.size, 0, none⟩) 1 1) [(1, qx, qy)] :: rG kC (.slice (some ⟨g, 0, none⟩) 4 cap) QL :: RZ) := hx
      clear q0 q1 q2
      generalize wr.heap.size = b8 at *
      generalize wr.alloc (.cells #[.int .i64 1, .int .i64 qx, .int .i64 qy] 36) = w3 at *
      obtain ⟨r, hr⟩ : ∃ z, ((k % n : Nat) : Int) = z := ⟨_, rfl⟩
      have hr1 : (k : Int).tmod (n : Int) = r := by rw [← hr]; rfl
      have hr0 : 0 ≤ r ∧ r < 4 := by have := HN.out; have : k % n < n := Nat.mod_lt _ (by omega); omega
      have hr2 : IntKind.i64.wrap r = r := by rw [IntKind.wrap_i64] <;> omega
      have hn0 : ¬ (n : Int) = 0 := by have := HN.out; omega
      have hnn : ¬ n = 0 := by have := HN.out; omega
      have HO : Hid (owN n k ++ [⟨1, qx, qy, r⟩] = owN n (k + 1)) := by
        show owN n k ++ [⟨1, qx, qy, r⟩] = owN n (k + 1)
        rw [owN_succ]; unfold qO; rw [hqx, hqy, hr]
      have HLk : Hid ((owN n k).length = k ∧ k < 4) := ⟨owN_len n k, hlt⟩
      clear hqx hqy hr
      generalize owN n k = L at *
      refine Inv.wp_region_each (fun l a W => ∃ (x34 x35 x36 x37 x38 x39 x40 x41 x42 x43 x44 x45 : Value) (s1 s2 s3 : List Rw), a = ⟨#[Value.int IntKind.i64 key, Value.int IntKind.i64 (n : Int), undef, undef, Value.pointer (some { block := w.heap.size, off := 0 }), Value.bool false, Value.pointer (some { block := b6, off := 0 }), Value.int IntKind.i64 (k : Int), Value.pointer (some { block := b8, off := 0 }), Value.int IntKind.i64 key, Value.bool true, Value.bool false, Value.bool false, Value.int IntKind.i64 (n : Int), Value.bool (decide ((n : Int) < 1)), Value.bool (decide ((n : Int) < 1)), Value.bool (decide ((n : Int) < 1)), Value.int IntKind.i64 (n : Int), Value.bool (decide (4 < (n : Int))), Value.bool (decide ((n : Int) < 1) || decide (4 < (n : Int))), undef, Value.int IntKind.i64 key, Value.agg #[Value.int IntKind.i64 1, Value.slice none 0 0], Value.int IntKind.i64 (n : Int), Value.slice (some { block := gz, off := 0 }) n n, Value.agg #[Value.int IntKind.i64 0, Value.int IntKind.i64 key, Value.int IntKind.i64 1, Value.slice none 0 0, Value.slice (some { block := gz, off := 0 }) n n, Value.slice none 0 0], Value.agg #[Value.int IntKind.i64 0, Value.int IntKind.i64 0, Value.int IntKind.i64 0], Value.slice (some { block := g, off := 0 }) 4 cap, Value.int IntKind.i64 4, Value.int IntKind.i64 (k : Int), Value.bool true, Value.int IntKind.i64 (k : Int), Value.pointer (some { block := g, off := k * 3 }), Value.agg #[Value.int IntKind.i64 1, Value.int IntKind.i64 qx, Value.int IntKind.i64 qy], x34, x35, x36, x37, x38, x39, x40, x41, x42, x43, x44, x45, u46, undef], []⟩ ∧ Sg w W (s1 ++ (s2 ++ (s3 ++ (rG kC (.slice (some ⟨b8, 0, none⟩) 1 1) [(1, qx, qy)] :: rG kC (.slice (some ⟨g, 0, none⟩) 4 cap) QL :: RZ)))) ∧ RW7 b6 gz n k c key qx qy r p L l x34 x35 x36 x37 x38 x39 x40 x41 x42 x43 x44 x45 s1 s2 s3) (by kernel_rfl) (by kernel_rfl) ?_ ?_ ?_
      · refine ⟨u34, u35, u36, u37, u38, u39, u40, u41, u42, u43, u44, u45, [], [rG kO (.slice p k c) L], [rG kW (.slice (some ⟨b6, 0, none⟩) 1 1) [⟨0, key, 1, p, k, c, some ⟨gz, 0, none⟩, n, n⟩]], rfl, hx.step (Below.refl _ _).drew, ?_⟩
        constructor <;> simp [Inv.D]
      · rintro l a W hD ⟨x34, x35, x36, x37, x38, x39, x40, x41, x42, x43, x44, x45, s1, s2, s3, rfl, hS, hP⟩
        obtain ⟨q, cq, e43, rfl⟩ := hP.f43 (hD 9 (by decide))
        obtain ⟨q2, cq2, e43', rfl⟩ := hP.f12 (hD 12 (by decide))
        obtain ⟨gl, -, rfl⟩ := hP.f42 (hD 8 (by decide))
        rw [e43] at e43'
        injection e43' with e1 e2 e3
        subst e1 e3
        clear e43 e2 hP hD
        rw [HO.out] at hS
        try dsimp only
        go_wp2_with (fail)
        go_roundw
        case rel => exact ⟨k + 1, q, cq, by omega, by go_num, hS.sub (.cons _ (.cons_cons _ (.cons_cons _ (.cons _ (List.Sublist.refl _)))))⟩
        case measure => simp [intOf]; omega
      · refine ⟨?_, ?_, ?_, ?_, ?_, ?_, ?_, ?_, ?_, ?_, ?_, ?_, ?_, trivial⟩
        · rintro l a W hl hd ha ⟨x34, x35, x36, x37, x38, x39, x40, x41, x42, x43, x44, x45, s1, s2, s3, rfl, hS, hP⟩
          have hD : ∀ k, Inv.D (l.setIfInBounds 0 true) k = if k = 0 then true else Inv.D l k := fun k => Inv.D_set l 0 k (by rw [hl]; decide)
          simp [Inv.ahead, Region.binds] at ha
          refine Inv.wpOp_K rfl (fun K hK => ?_)
          go_simp
          refine hK _ _ ⟨_, x35, x36, x37, x38, x39, x40, x41, x42, x43, x44, x45, s1, s2, s3, rfl, ?_, ?_⟩
          · exact hS
          · constructor
            all_goals simp [hD]
            all_goals (first | exact hP.f34 | exact hP.f35 | exact hP.f36 | exact hP.f37 | exact hP.f38 | exact hP.f39 | exact hP.f40 | exact hP.f41 | exact hP.c8 | exact hP.f42 | exact hP.c9 | exact hP.f43 | exact hP.f44 | exact hP.f45 | exact hP.c12 | exact hP.f12 | exact hP.r12a | exact hP.r12b | exact hP.r9 | skip)
        · rintro l a W hl hd ha ⟨x34, x35, x36, x37, x38, x39, x40, x41, x42, x43, x44, x45, s1, s2, s3, rfl, hS, hP⟩
          have hD : ∀ k, Inv.D (l.setIfInBounds 1 true) k = if k = 1 then true else Inv.D l k := fun k => Inv.D_set l 1 k (by rw [hl]; decide)
          simp [Inv.ahead, Region.binds] at ha
          obtain rfl := hP.f34 (by simp [ha])
          refine Inv.wpOp_K rfl (fun K hK => ?_)
          go_simp
          refine hK _ _ ⟨_, _, x36, x37, x38, x39, x40, x41, x42, x43, x44, x45, s1, s2, s3, rfl, ?_, ?_⟩
          · exact hS
          · constructor
            all_goals simp [hD]
            all_goals (first | exact hP.f34 | exact hP.f35 | exact hP.f36 | exact hP.f37 | exact hP.f38 | exact hP.f39 | exact hP.f40 | exact hP.f41 | exact hP.c8 | exact hP.f42 | exact hP.c9 | exact hP.f43 | exact hP.f44 | exact hP.f45 | exact hP.c12 | exact hP.f12 | exact hP.r12a | exact hP.r12b | exact hP.r9 | skip)
        · rintro l a W hl hd ha ⟨x34, x35, x36, x37, x38, x39, x40, x41, x42, x43, x44, x45, s1, s2, s3, rfl, hS, hP⟩
          have hD : ∀ k, Inv.D (l.setIfInBounds 2 true) k = if k = 2 then true else Inv.D l k := fun k => Inv.D_set l 2 k (by rw [hl]; decide)
          simp [Inv.ahead, Region.binds] at ha
          have h12 : Inv.D l 12 = false := by
            cases h : Inv.D l 12
            · rfl
            · exact absurd (hP.r12a h) (by rw [hd]; decide)
          obtain rfl := hP.c12 h12
          obtain rfl := hP.f35 (by simp [ha])
          obtain ⟨t0, t1, t2, t3, t4, t5, _, _⟩ := w6 hS (g := b6) (n := 1) (q := ⟨0, key, 1, p, k, c, some ⟨gz, 0, none⟩, n, n⟩) (by simp)
          refine Inv.wpOp_K rfl (fun K hK => ?_)
          go_simp
          refine hK _ _ ⟨x34, _, _, x37, x38, x39, x40, x41, x42, x43, x44, x45, s1, s2, [rG kW (.slice (some ⟨b6, 0, none⟩) 1 1) [⟨0, key, 1, p, k, c, some ⟨gz, 0, none⟩, n, n⟩]], rfl, ?_, ?_⟩
          · exact hS
          · constructor
            all_goals simp [hD]
            all_goals (first | exact hP.f34 | exact hP.f35 | exact hP.f36 | exact hP.f37 | exact hP.f38 | exact hP.f39 | exact hP.f40 | exact hP.f41 | exact hP.c8 | exact hP.f42 | exact hP.c9 | exact hP.f43 | exact hP.f44 | exact hP.f45 | exact hP.c12 | exact hP.f12 | exact hP.r12a | exact hP.r12b | exact hP.r9 | skip)
        · rintro l a W hl hd ha ⟨x34, x35, x36, x37, x38, x39, x40, x41, x42, x43, x44, x45, s1, s2, s3, rfl, hS, hP⟩
          have hD : ∀ k, Inv.D (l.setIfInBounds 3 true) k = if k = 3 then true else Inv.D l k := fun k => Inv.D_set l 3 k (by rw [hl]; decide)
          simp [Inv.ahead, Region.binds] at ha
          obtain ⟨t0, t1, t2⟩ := c3 hS (g := b8) (n := 1) (a := (1, qx, qy)) (by simp)
          refine Inv.wpOp_K rfl (fun K hK => ?_)
          go_simp
          refine hK _ _ ⟨x34, x35, x36, _, x38, x39, x40, x41, x42, x43, x44, x45, s1, s2, s3, rfl, ?_, ?_⟩
          · exact hS
          · constructor
            all_goals simp [hD]
            all_goals (first | exact hP.f34 | exact hP.f35 | exact hP.f36 | exact hP.f37 | exact hP.f38 | exact hP.f39 | exact hP.f40 | exact hP.f41 | exact hP.c8 | exact hP.f42 | exact hP.c9 | exact hP.f43 | exact hP.f44 | exact hP.f45 | exact hP.c12 | exact hP.f12 | exact hP.r12a | exact hP.r12b | exact hP.r9 | skip)
        · rintro l a W hl hd ha ⟨x34, x35, x36, x37, x38, x39, x40, x41, x42, x43, x44, x45, s1, s2, s3, rfl, hS, hP⟩
          have hD : ∀ k, Inv.D (l.setIfInBounds 4 true) k = if k = 4 then true else Inv.D l k := fun k => Inv.D_set l 4 k (by rw [hl]; decide)
          simp [Inv.ahead, Region.binds] at ha
          refine Inv.wpOp_K rfl (fun K hK => ?_)
          go_simp
          refine hK _ _ ⟨x34, x35, x36, x37, _, x39, x40, x41, x42, x43, x44, x45, s1, s2, s3, rfl, ?_, ?_⟩
          · exact hS
          · constructor
            all_goals simp [hD]
            all_goals (first | exact hP.f34 | exact hP.f35 | exact hP.f36 | exact hP.f37 | exact hP.f38 | exact hP.f39 | exact hP.f40 | exact hP.f41 | exact hP.c8 | exact hP.f42 | exact hP.c9 | exact hP.f43 | exact hP.f44 | exact hP.f45 | exact hP.c12 | exact hP.f12 | exact hP.r12a | exact hP.r12b | exact hP.r9 | skip)
        · rintro l a W hl hd ha ⟨x34, x35, x36, x37, x38, x39, x40, x41, x42, x43, x44, x45, s1, s2, s3, rfl, hS, hP⟩
          have hD : ∀ k, Inv.D (l.setIfInBounds 5 true) k = if k = 5 then true else Inv.D l k := fun k => Inv.D_set l 5 k (by rw [hl]; decide)
          simp [Inv.ahead, Region.binds] at ha
          refine Inv.wpOp_K rfl (fun K hK => ?_)
          go_simp
          refine hK _ _ ⟨x34, x35, x36, x37, x38, _, x40, x41, x42, x43, x44, x45, s1, s2, s3, rfl, ?_, ?_⟩
          · exact hS
          · constructor
            all_goals simp [hD]
            all_goals (first | exact hP.f34 | exact hP.f35 | exact hP.f36 | exact hP.f37 | exact hP.f38 | exact hP.f39 | exact hP.f40 | exact hP.f41 | exact hP.c8 | exact hP.f42 | exact hP.c9 | exact hP.f43 | exact hP.f44 | exact hP.f45 | exact hP.c12 | exact hP.f12 | exact hP.r12a | exact hP.r12b | exact hP.r9 | skip)
        · rintro l a W hl hd ha ⟨x34, x35, x36, x37, x38, x39, x40, x41, x42, x43, x44, x45, s1, s2, s3, rfl, hS, hP⟩
          have hD : ∀ k, Inv.D (l.setIfInBounds 6 true) k = if k = 6 then true else Inv.D l k := fun k => Inv.D_set l 6 k (by rw [hl]; decide)
          simp [Inv.ahead, Region.binds] at ha
          obtain rfl := hP.f38 (by simp [ha])
          obtain rfl := hP.f39 (by simp [ha])
          refine Inv.wpOp_K rfl (fun K hK => ?_)
          go_simp
          refine hK _ _ ⟨x34, x35, x36, x37, _, _, _, x41, x42, x43, x44, x45, s1, s2, s3, rfl, ?_, ?_⟩
          · exact hS
          · constructor
            all_goals simp [hD]
            all_goals (first | exact hP.f34 | exact hP.f35 | exact hP.f36 | exact hP.f37 | exact hP.f38 | exact hP.f39 | exact hP.f40 | exact hP.f41 | exact hP.c8 | exact hP.f42 | exact hP.c9 | exact hP.f43 | exact hP.f44 | exact hP.f45 | exact hP.c12 | exact hP.f12 | exact hP.r12a | exact hP.r12b | exact hP.r9 | skip)
        · rintro l a W hl hd ha ⟨x34, x35, x36, x37, x38, x39, x40, x41, x42, x43, x44, x45, s1, s2, s3, rfl, hS, hP⟩
          have hD : ∀ k, Inv.D (l.setIfInBounds 7 true) k = if k = 7 then true else Inv.D l k := fun k => Inv.D_set l 7 k (by rw [hl]; decide)
          simp [Inv.ahead, Region.binds] at ha
          obtain rfl := hP.f37 (by simp [ha])
          obtain rfl := hP.f40 (by simp [ha])
          refine Inv.wpOp_K rfl (fun K hK => ?_)
          go_simp
          refine hK _ _ ⟨x34, x35, x36, _, x38, x39, _, _, x42, x43, x44, x45, s1, s2, s3, rfl, ?_, ?_⟩
          · exact hS
          · constructor
            all_goals simp [hD]
            all_goals (first | exact hP.f34 | exact hP.f35 | exact hP.f36 | exact hP.f37 | exact hP.f38 | exact hP.f39 | exact hP.f40 | exact hP.f41 | exact hP.c8 | exact hP.f42 | exact hP.c9 | exact hP.f43 | exact hP.f44 | exact hP.f45 | exact hP.c12 | exact hP.f12 | exact hP.r12a | exact hP.r12b | exact hP.r9 | skip)
        · rintro l a W hl hd ha ⟨x34, x35, x36, x37, x38, x39, x40, x41, x42, x43, x44, x45, s1, s2, s3, rfl, hS, hP⟩
          have hD : ∀ k, Inv.D (l.setIfInBounds 8 true) k = if k = 8 then true else Inv.D l k := fun k => Inv.D_set l 8 k (by rw [hl]; decide)
          simp [Inv.ahead, Region.binds] at ha
          obtain rfl := hP.f41 (by simp [ha])
          obtain rfl := hP.c8 hd
          refine Inv.wpOp_K rfl (fun K hK => ?_)
          go_simp
          refine hK _ _ ⟨x34, x35, x36, x37, x38, x39, x40, _, _, x43, x44, x45, [rG kO (.slice (some ⟨W.heap.size, 0, none⟩) 1 1) [⟨1, qx, qy, r⟩]], s2, s3, rfl, ?_, ?_⟩
          · exact hS.lit kO [⟨1, qx, qy, r⟩] 1 rfl (by decide) #[.int .i64 1, .int .i64 qx, .int .i64 qy, .int .i64 r] rfl
          · constructor
            all_goals simp [hD]
            all_goals (first | exact hP.f34 | exact hP.f35 | exact hP.f36 | exact hP.f37 | exact hP.f38 | exact hP.f39 | exact hP.f40 | exact hP.f41 | exact hP.c8 | exact hP.f42 | exact hP.c9 | exact hP.f43 | exact hP.f44 | exact hP.f45 | exact hP.c12 | exact hP.f12 | exact hP.r12a | exact hP.r12b | exact hP.r9 | skip)
            · exact ⟨_, rfl, rfl⟩
        · rintro l a W hl hd ha ⟨x34, x35, x36, x37, x38, x39, x40, x41, x42, x43, x44, x45, s1, s2, s3, rfl, hS, hP⟩
          have hD : ∀ k, Inv.D (l.setIfInBounds 9 true) k = if k = 9 then true else Inv.D l k := fun k => Inv.D_set l 9 k (by rw [hl]; decide)
          simp [Inv.ahead, Region.binds] at ha
          obtain rfl := hP.f36 (by simp [ha])
          obtain ⟨gl, rfl, rfl⟩ := hP.f42 (by simp [ha])
          obtain rfl := hP.c9 hd
          refine Inv.wpOp_K rfl (fun K hK => ?_)
          refine step_ap appO oneOs rfl (.tmp 36) (.tmp 42) rfl (A := [rG kO (.slice (some ⟨gl, 0, none⟩) 1 1) [⟨1, qx, qy, r⟩]]) (M := L) (L := [⟨1, qx, qy, r⟩]) (m := k) (s := ⟨some ⟨gl, 0, none⟩, 1, 1⟩) hS (Below.refl _ _) (OwG.sl (hS.mem (K := kO) (v := .slice (some ⟨gl, 0, none⟩) 1 1) (L := [⟨1, qx, qy, r⟩]) (by simp))) HLk.out.1 rfl (by have := HLk.out.2; simp only; omega) (.inl ⟨_, rfl⟩) rfl rfl (fun q cap w' h _ _ _ => hK _ _ ⟨x34, x35, _, x37, x38, x39, x40, x41, _, _, x44, x45, _, [rG kO (.slice q (k + 1) cap) (L ++ [⟨1, qx, qy, r⟩])], s3, rfl, h, ?_⟩)
          constructor
          all_goals simp [hD]
          all_goals (first | exact hP.f34 | exact hP.f35 | exact hP.f36 | exact hP.f37 | exact hP.f38 | exact hP.f39 | exact hP.f40 | exact hP.f41 | exact hP.c8 | exact hP.f42 | exact hP.c9 | exact hP.f43 | exact hP.f44 | exact hP.f45 | exact hP.c12 | exact hP.f12 | exact hP.r12a | exact hP.r12b | exact hP.r9 | skip)
          · exact (by simp [ha])
          · exact ⟨_, _, rfl, rfl⟩
          · exact fun h => absurd (hP.r12b h) (by rw [hd]; decide)
          · exact (by simp [ha])
        · rintro l a W hl hd ha ⟨x34, x35, x36, x37, x38, x39, x40, x41, x42, x43, x44, x45, s1, s2, s3, rfl, hS, hP⟩
          have hD : ∀ k, Inv.D (l.setIfInBounds 10 true) k = if k = 10 then true else Inv.D l k := fun k => Inv.D_set l 10 k (by rw [hl]; decide)
          simp [Inv.ahead, Region.binds] at ha
          refine Inv.wpOp_K rfl (fun K hK => ?_)
          go_simp
          refine hK _ _ ⟨x34, x35, x36, x37, x38, x39, x40, x41, x42, x43, _, x45, s1, s2, s3, rfl, ?_, ?_⟩
          · exact hS
          · constructor
            all_goals simp [hD]
            all_goals (first | exact hP.f34 | exact hP.f35 | exact hP.f36 | exact hP.f37 | exact hP.f38 | exact hP.f39 | exact hP.f40 | exact hP.f41 | exact hP.c8 | exact hP.f42 | exact hP.c9 | exact hP.f43 | exact hP.f44 | exact hP.f45 | exact hP.c12 | exact hP.f12 | exact hP.r12a | exact hP.r12b | exact hP.r9 | skip)
        · rintro l a W hl hd ha ⟨x34, x35, x36, x37, x38, x39, x40, x41, x42, x43, x44, x45, s1, s2, s3, rfl, hS, hP⟩
          have hD : ∀ k, Inv.D (l.setIfInBounds 11 true) k = if k = 11 then true else Inv.D l k := fun k => Inv.D_set l 11 k (by rw [hl]; decide)
          simp [Inv.ahead, Region.binds] at ha
          obtain rfl := hP.f44 (by simp [ha])
          refine Inv.wpOp_K rfl (fun K hK => ?_)
          go_simp
          refine hK _ _ ⟨x34, x35, x36, x37, x38, x39, x40, x41, x42, x43, _, _, s1, s2, s3, rfl, ?_, ?_⟩
          · exact hS
          · constructor
            all_goals simp [hD]
            all_goals (first | exact hP.f34 | exact hP.f35 | exact hP.f36 | exact hP.f37 | exact hP.f38 | exact hP.f39 | exact hP.f40 | exact hP.f41 | exact hP.c8 | exact hP.f42 | exact hP.c9 | exact hP.f43 | exact hP.f44 | exact hP.f45 | exact hP.c12 | exact hP.f12 | exact hP.r12a | exact hP.r12b | exact hP.r9 | skip)
        · rintro l a W hl hd ha ⟨x34, x35, x36, x37, x38, x39, x40, x41, x42, x43, x44, x45, s1, s2, s3, rfl, hS, hP⟩
          have hD : ∀ k, Inv.D (l.setIfInBounds 12 true) k = if k = 12 then true else Inv.D l k := fun k => Inv.D_set l 12 k (by rw [hl]; decide)
          simp [Inv.ahead, Region.binds] at ha
          obtain rfl := hP.f45 (by simp [ha])
          obtain ⟨q, cq, rfl, rfl⟩ := hP.f43 (by simp [ha])
          obtain rfl := hP.c12 hd
          obtain ⟨t0, t1, t2, t3, t4, t5, tf, tg⟩ := w6 hS (g := b6) (n := 1) (q := ⟨0, key, 1, p, k, c, some ⟨gz, 0, none⟩, n, n⟩) (by simp)
          have hS1 : Sg w W ((s1 ++ [rG kO (.slice q (k + 1) cq) (L ++ [⟨1, qx, qy, r⟩])]) ++ rG kW (.slice (some ⟨b6, 0, none⟩) 1 1) [⟨0, key, 1, p, k, c, some ⟨gz, 0, none⟩, n, n⟩] :: (rG kC (.slice (some ⟨b8, 0, none⟩) 1 1) [(1, qx, qy)] :: rG kC (.slice (some ⟨g, 0, none⟩) 4 cap) QL :: RZ)) := by rw [List.append_assoc]; exact hS
          have hS2 := Sg.setW3 hS1 q (k + 1) cq
          rw [List.append_assoc] at hS2
          refine Inv.wpOp_K rfl (fun K hK => ?_)
          go_simp
          refine hK _ _ ⟨x34, x35, x36, x37, x38, x39, x40, x41, x42, _, x44, _, s1, [rG kO (.slice q (k + 1) cq) (L ++ [⟨1, qx, qy, r⟩])], [rG kW (.slice (some ⟨b6, 0, none⟩) 1 1) [⟨0, key, 1, q, (k + 1), cq, some ⟨gz, 0, none⟩, n, n⟩]], rfl, ?_, ?_⟩
          · exact hS2
          · constructor
            all_goals simp [hD]
            all_goals (first | exact hP.f34 | exact hP.f35 | exact hP.f36 | exact hP.f37 | exact hP.f38 | exact hP.f39 | exact hP.f40 | exact hP.f41 | exact hP.c8 | exact hP.f42 | exact hP.c9 | exact hP.f43 | exact hP.f44 | exact hP.f45 | exact hP.c12 | exact hP.f12 | exact hP.r12a | exact hP.r12b | exact hP.r9 | skip)
            · intro h; rw [show Inv.D l 9 = true from (by simp [ha])] at h; cases h
            · exact ⟨_, _, rfl, rfl⟩
            · exact (by simp [ha])
            · exact (by simp [ha])
    · obtain rfl : k = 4 := by omega
      obtain ⟨y0, y1, y2, y3, y4, y5, _, _⟩ := w6 hx (g := b6) (n := 1) (q := ⟨0, key, 1, p, 4, c, some ⟨gz, 0, none⟩, n, n⟩) (by simp)
      rw [HRZ.out] at hx
      obtain ⟨z0, z1, z2, z3, z4, z5, zf, zg⟩ := w6 hx (g := w.heap.size) (n := 1) (q := zwv) (by simp)
      simp only [zwv] at z0 z1 z2 z3 z4 z5
      go_wp2
      have h9 := Sg.setW (A := [rG kO (.slice p 4 c) (owN n 4), rG kW (.slice (some ⟨b6, 0, none⟩) 1 1) [⟨0, key, 1, p, 4, c, some ⟨gz, 0, none⟩, n, n⟩], rG kC (.slice (some ⟨g, 0, none⟩) 4 cap) QL, rG kZ (.slice (some ⟨gz, 0, none⟩) n n) (List.replicate n zzs)]) (g := w.heap.size) (n := 1) (a := zwv) (Bs := []) hx ⟨0, key, 1, p, 4, c, some ⟨gz, 0, none⟩, n, n⟩
      exact bodyPost_ret (v := .tuple #[Wv.v ⟨0, key, 1, p, 4, c, some ⟨gz, 0, none⟩, n, n⟩, .bool true]) (by simp [results, Try.results5, go_sem, z0, z1, z2, z3, z4, z5]) rfl ⟨p, c, gz, rfl, h9.sub (.cons_cons _ (.cons _ (.cons _ (.cons_cons _ (.cons _ .slnil)))))⟩

end Go.Proofs.Ytmfbkbifoehoeaa.K.D
