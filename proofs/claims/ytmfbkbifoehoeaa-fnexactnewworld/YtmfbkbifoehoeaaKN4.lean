/-
  NewWorld: the specification's.
-/
import Derived.Test.YtmfbkbifoehoeaaKN3
namespace Go.Proofs.Ytmfbkbifoehoeaa.K.D
open Go.Shelf Go.RowKit Go.Joins
attribute [local go_sem] Oper.semAt_some

def BZ (n : Nat) (x : Value) (s : List Rw) : Prop := ∃ g, x = .slice (some ⟨g, 0, none⟩) n n ∧ s = [rG kZ (.slice (some ⟨g, 0, none⟩) n n) (List.replicate n zzs)]
def BW (b4 n c : Nat) (key : Int) (p : Option Addr) (x : Value) (s : List Rw) : Prop := ∃ g, x = .slice (some ⟨g, 0, none⟩) n n ∧ s = [rG kW (.slice (some ⟨b4, 0, none⟩) 1 1) [⟨0, key, 1, p, 4, c, some ⟨g, 0, none⟩, n, n⟩]]
theorem quarter_v {k : Nat} (hk : k < 4) {qx qy : Int} (hx : ((k % 2 : Nat) : Int) = qx) (hy : ((k / 2 : Nat) : Int) = qy) (w : World) : Calls Try.prog 10 #[.agg #[.int .i64 0, .int .i64 0, .int .i64 0], .int .i64 k] w fun e w' => e = .returned (.agg #[.int .i64 1, .int .i64 qx, .int .i64 qy]) ∧ Below w.heap.size w w' := by
  have h := M.l2Quarter_any (l := 0) (x := 0) (y := 0) (by decide) hk w
  simpa [hx, hy] using h
structure SW7 (b6 n k c : Nat) (qx qy r : Int) (p : Option Addr) (L : List On) (l : Array Bool) (x22 x23 x24 x25 x26 x27 x28 x29 x30 x31 x32 x33 : Value) (s1 s2 s3 : List Rw) : Prop where
  f22 : Inv.D l 0 = true → x22 = .pointer (some ⟨b6, 1, none⟩)
  f23 : Inv.D l 1 = true → x23 = .slice p k c
  f24 : Inv.D l 2 = true → x24 = .agg #[.int .i64 0, .int .i64 0, .int .i64 0]
  f25 : Inv.D l 3 = true → x25 = .int .i64 k
  f26 : Inv.D l 4 = true → x26 = .agg #[.int .i64 1, .int .i64 qx, .int .i64 qy]
  f27 : Inv.D l 5 = true → x27 = .int .i64 k
  f28 : Inv.D l 6 = true → x28 = .int .i64 n
  f29 : Inv.D l 7 = true → x29 = .int .i64 r
  f30 : Inv.D l 8 = true → x30 = On.v ⟨1, qx, qy, r⟩
  c9 : Inv.D l 9 = false → s1 = []
  f31 : Inv.D l 9 = true → BLo ⟨1, qx, qy, r⟩ x31 s1
  c10 : Inv.D l 10 = false → s2 = [rG kO (.slice p k c) L]
  f32 : Inv.D l 10 = true → BAo (k + 1) (L ++ [⟨1, qx, qy, r⟩]) x32 s2
  f33 : Inv.D l 11 = true → x33 = .pointer (some ⟨b6, 1, none⟩)
  c12 : Inv.D l 12 = false → s3 = [rG kD (.slice (some ⟨b6, 0, none⟩) 1 1) [⟨1, p, k, c⟩]]
  f12 : Inv.D l 12 = true → BXo (k + 1) (fun q c => rG kD (.slice (some ⟨b6, 0, none⟩) 1 1) [⟨1, q, k + 1, c⟩]) x32 s3
  r12a : Inv.D l 12 = true → Inv.D l 1 = true
  r12b : Inv.D l 12 = true → Inv.D l 10 = true
  r10 : Inv.D l 10 = true → Inv.D l 9 = true
structure SW8 (b4 n c : Nat) (key : Int) (p : Option Addr) (l : Array Bool) (x5 x34 x35 x36 x37 x38 : Value) (s1 s2 : List Rw) : Prop where
  f34 : Inv.D l 0 = true → x34 = .int .i64 key
  f35 : Inv.D l 1 = true → x35 = .agg #[.int .i64 1, .slice p 4 c]
  f36 : Inv.D l 2 = true → x36 = .int .i64 n
  c3 : Inv.D l 3 = false → s1 = []
  f37 : Inv.D l 3 = true → BZ n x37 s1
  f38 : Inv.D l 4 = true → x38 = .agg #[.int .i64 0, .int .i64 key, .int .i64 1, .slice p 4 c, x37, .slice none 0 0]
  r4 : Inv.D l 4 = true → Inv.D l 3 = true
  c5 : Inv.D l 5 = false → s2 = [rG kW (.slice (some ⟨b4, 0, none⟩) 1 1) [zwv]]
  f5 : Inv.D l 5 = true → BW b4 n c key p x37 s2
  r5 : Inv.D l 5 = true → Inv.D l 3 = true
  f6 : Inv.D l 6 = true → x5 = .bool true
set_option maxRecDepth 100000 in
set_option maxHeartbeats 4000000 in
theorem sNew_any (key : Int) (n : Nat) (h1 : 1 ≤ n) (h4 : n ≤ 4) (hk0 : 0 ≤ key) (hk1 : key ≤ 2147483646) (w : World) :
    Calls Try.prog 4 #[.int .i64 key, .int .i64 n] w fun ee w' => ∃ (p : Option Addr) (c g : Nat), ee = .returned (.tuple #[Wv.v ⟨0, key, 1, p, 4, c, some ⟨g, 0, none⟩, n, n⟩, .bool true]) ∧ Sg w w' [rG kO (.slice p 4 c) (owN n 4), rG kZ (.slice (some ⟨g, 0, none⟩) n n) (List.replicate n zzs)] := by
  have HMk : Hid (∀ W : World, (Instr.makeSlice 25 (.int .i64 (n : Int)) (.int .i64 (n : Int))).run Try.prog W = .ok (.slice (some ⟨W.heap.size, 0, none⟩) n n) (W.alloc (.cells (madeCells #[.slice none 0 0, .slice none 0 0, .slice none 0 0, .string ByteArray.empty, .int .i64 0] (n * 5)) 59))) := fun W => by
    obtain ⟨i0, hi, hz0, hz1, hz2⟩ := info_parts info59
    have hmk := run_make (P := Try.prog) W 25 59 i0 _ Try.underlying25 hi hz0 .i64 .i64 (n : Int) (n : Int) (by omega) (by omega) (by rw [hz2]; omega) (by omega)
    rw [hz1, Int.toNat_natCast] at hmk
    exact hmk
  have hx := ((Sg.nil w).lit kW [zwv] 1 rfl (by decide) #[.int .i64 0, .int .i64 0, .int .i64 0, .slice none 0 0, .slice none 0 0, .slice none 0 0] rfl).lit kD [⟨1, none, 0, 0⟩] 1 rfl (by decide) #[.int .i64 1, .slice none 0 0] rfl
  simp only [World.size_alloc] at hx
  have HI1 := Lib.hid (fun W => M.l1In_v (x := key) (a := 0) (b := 2147483646) (v := true) (by unfold M.inB; simp; omega) W)
  have HI2 := Lib.hid (fun W => M.l1In_v (x := (n : Int)) (a := 1) (b := 4) (v := true) (by unfold M.inB; simp; omega) W)
  have f1 : True := trivial
  have HN4 : Hid (n ≤ 1000) := (by omega : n ≤ 1000)
  go_enter Try.func4, Try.ntmps4
  go_wp2_with (first
    | (go_at_call 9; clear f1; refine (HI1.out _).mono ?_; rintro ee w1 ⟨rfl, rfl⟩)
    | (go_at_call 9; refine (HI2.out _).mono ?_; rintro ee w2 ⟨rfl, rfl⟩))
  replace hx := hx.addL (sg_nilrow _)
  simp only [List.singleton_append] at hx
  obtain ⟨b6, hb6e⟩ : ∃ b, w.heap.size + 1 = b := ⟨_, rfl⟩
  obtain ⟨b4, hb4e⟩ : ∃ b, w.heap.size = b := ⟨_, rfl⟩
  rw [hb6e] at hx
  simp only [hb6e]
  have hx : Sg w _ (rG kO (.slice none 0 0) (owN n 0) :: rG kD (.slice (some ⟨b6, 0, none⟩) 1 1) [⟨1, none, 0, 0⟩] :: [rG kW (.slice (some ⟨w.heap.size, 0, none⟩) 1 1) [zwv]]) := hx
  rw [hb4e] at hx
  simp only [hb4e]
  clear HI1 HI2 hb6e hb4e
  have HN : Hid (1 ≤ n ∧ n ≤ 4) := ⟨h1, h4⟩
  clear h1 h4 hk0 hk1
  go_loopw [7] (fun iv wr => ∃ (k : Nat) (p : Option Addr) (c : Nat), k ≤ 4 ∧ iv = .int .i64 k ∧ Sg w wr (rG kO (.slice p k c) (owN n k) :: rG kD (.slice (some ⟨b6, 0, none⟩) 1 1) [⟨1, p, k, c⟩] :: [rG kW (.slice (some ⟨b4, 0, none⟩) 1 1) [zwv]])) (fun iv _ => 4 - (intOf iv).toNat)
  case atStart => exact ⟨0, none, 0, by omega, rfl, hx⟩
  case round =>
    clear hx
    obtain ⟨k, p, c, hk, rfl, hx⟩ := hrel
    by_cases hlt : k < 4
    · have hki : (k : Int) < 4 := by omega
      go_upto_region 7 with (fail)
      obtain ⟨qx, hqx⟩ : ∃ z, ((k % 2 : Nat) : Int) = z := ⟨_, rfl⟩
      obtain ⟨qy, hqy⟩ : ∃ z, ((k / 2 : Nat) : Int) = z := ⟨_, rfl⟩
      have HQu := Lib.hid (fun W => quarter_v hlt hqx hqy W)
      obtain ⟨r, hr⟩ : ∃ z, ((k % n : Nat) : Int) = z := ⟨_, rfl⟩
      have hr1 : (k : Int).tmod (n : Int) = r := by rw [← hr]; rfl
      have hr0 : 0 ≤ r ∧ r < 4 := by have := HN.out; have : k % n < n := Nat.mod_lt _ (by omega); omega
      have hr2 : IntKind.i64.wrap r = r := by rw [IntKind.wrap_i64] <;> omega
      have hn0 : ¬ (n : Int) = 0 := by have := HN.out; omega
      have hnn : ¬ n = 0 := by have := HN.out; omega
      have HO : Hid (owN n k ++ [⟨1, qx, qy, r⟩] = owN n (k + 1)) := by
        show owN n k ++ [⟨1, qx, qy, r⟩] = owN n (k + 1)
        rw [owN_succ]; unfold qO; rw [hqx, hqy, hr]
      have HLk : Hid ((owN n k).length = k ∧ k < 4) := ⟨owN_len n k, hlt⟩
      clear hqx hqy hr
      generalize owN n k = L at *
      refine Inv.wp_region_each (fun l a W => ∃ (x22 x23 x24 x25 x26 x27 x28 x29 x30 x31 x32 x33 : Value) (s1 s2 s3 : List Rw), a = ⟨#[Value.int IntKind.i64 key, Value.int IntKind.i64 (n : Int), undef, undef, Value.pointer (some { block := b4, off := 0 }), Value.bool false, Value.pointer (some { block := b6, off := 0 }), Value.int IntKind.i64 (k : Int), Value.int IntKind.i64 key, Value.bool true, Value.bool false, Value.bool false, Value.int IntKind.i64 (n : Int), Value.bool true, Value.bool false, Value.bool false, undef, Value.agg #[Value.int IntKind.i64 1, Value.slice none 0 0], Value.int IntKind.i64 (k : Int), Value.bool true, u20, u21, x22, x23, x24, x25, x26, x27, x28, x29, x30, x31, x32, x33, undef, undef, undef, undef, undef], []⟩ ∧ Sg w W (s1 ++ (s2 ++ (s3 ++ [rG kW (.slice (some ⟨b4, 0, none⟩) 1 1) [zwv]]))) ∧ SW7 b6 n k c qx qy r p L l x22 x23 x24 x25 x26 x27 x28 x29 x30 x31 x32 x33 s1 s2 s3) (by kernel_rfl) (by kernel_rfl) ?_ ?_ ?_
      · refine ⟨u22, u23, u24, u25, u26, u27, u28, u29, u30, u31, u32, u33, [], [rG kO (.slice p k c) L], [rG kD (.slice (some ⟨b6, 0, none⟩) 1 1) [⟨1, p, k, c⟩]], rfl, hx.step (Below.refl _ _).drew, ?_⟩
        constructor <;> simp [Inv.D]
      · rintro l a W hD ⟨x22, x23, x24, x25, x26, x27, x28, x29, x30, x31, x32, x33, s1, s2, s3, rfl, hS, hP⟩
        obtain ⟨q, cq, e43, rfl⟩ := hP.f32 (hD 10 (by decide))
        obtain ⟨q2, cq2, e43', rfl⟩ := hP.f12 (hD 12 (by decide))
        obtain ⟨gl, -, rfl⟩ := hP.f31 (hD 9 (by decide))
        rw [e43] at e43'
        injection e43' with e1 e2 e3
        subst e1 e3
        clear e43 e2 hP hD
        rw [HO.out] at hS
        try dsimp only
        go_wp2_with (fail)
        go_roundw
        case rel => exact ⟨k + 1, q, cq, by omega, by go_num, hS.sub (.cons _ (List.Sublist.refl _))⟩
        case measure => simp [intOf]; omega
      · refine ⟨?_, ?_, ?_, ?_, ?_, ?_, ?_, ?_, ?_, ?_, ?_, ?_, ?_, trivial⟩
        · rintro l a W hl hd ha ⟨x22, x23, x24, x25, x26, x27, x28, x29, x30, x31, x32, x33, s1, s2, s3, rfl, hS, hP⟩
          have hD : ∀ k, Inv.D (l.setIfInBounds 0 true) k = if k = 0 then true else Inv.D l k := fun k => Inv.D_set l 0 k (by rw [hl]; decide)
          simp [Inv.ahead, Region.binds] at ha
          refine Inv.wpOp_K rfl (fun K hK => ?_)
          go_simp
          refine hK _ _ ⟨_, x23, x24, x25, x26, x27, x28, x29, x30, x31, x32, x33, s1, s2, s3, rfl, ?_, ?_⟩
          · exact hS
          · constructor
            all_goals simp [hD]
            all_goals (first | exact hP.f22 | exact hP.f23 | exact hP.f24 | exact hP.f25 | exact hP.f26 | exact hP.f27 | exact hP.f28 | exact hP.f29 | exact hP.f30 | exact hP.c9 | exact hP.f31 | exact hP.c10 | exact hP.f32 | exact hP.f33 | exact hP.c12 | exact hP.f12 | exact hP.r12a | exact hP.r12b | exact hP.r10 | skip)
        · rintro l a W hl hd ha ⟨x22, x23, x24, x25, x26, x27, x28, x29, x30, x31, x32, x33, s1, s2, s3, rfl, hS, hP⟩
          have hD : ∀ k, Inv.D (l.setIfInBounds 1 true) k = if k = 1 then true else Inv.D l k := fun k => Inv.D_set l 1 k (by rw [hl]; decide)
          simp [Inv.ahead, Region.binds] at ha
          have h12 : Inv.D l 12 = false := by
            cases h : Inv.D l 12
            · rfl
            · exact absurd (hP.r12a h) (by rw [hd]; decide)
          obtain rfl := hP.c12 h12
          obtain rfl := hP.f22 (by simp [ha])
          obtain ⟨t0, t1, _, _⟩ := dv2 hS (K := kD) (g := b6) (n := 1) (q := ⟨1, p, k, c⟩) (by simp) rfl
          refine Inv.wpOp_K rfl (fun K hK => ?_)
          go_simp
          refine hK _ _ ⟨_, _, x24, x25, x26, x27, x28, x29, x30, x31, x32, x33, s1, s2, [rG kD (.slice (some ⟨b6, 0, none⟩) 1 1) [⟨1, p, k, c⟩]], rfl, ?_, ?_⟩
          · exact hS
          · constructor
            all_goals simp [hD]
            all_goals (first | exact hP.f22 | exact hP.f23 | exact hP.f24 | exact hP.f25 | exact hP.f26 | exact hP.f27 | exact hP.f28 | exact hP.f29 | exact hP.f30 | exact hP.c9 | exact hP.f31 | exact hP.c10 | exact hP.f32 | exact hP.f33 | exact hP.c12 | exact hP.f12 | exact hP.r12a | exact hP.r12b | exact hP.r10 | skip)
        · rintro l a W hl hd ha ⟨x22, x23, x24, x25, x26, x27, x28, x29, x30, x31, x32, x33, s1, s2, s3, rfl, hS, hP⟩
          have hD : ∀ k, Inv.D (l.setIfInBounds 2 true) k = if k = 2 then true else Inv.D l k := fun k => Inv.D_set l 2 k (by rw [hl]; decide)
          simp [Inv.ahead, Region.binds] at ha
          refine Inv.wpOp_K rfl (fun K hK => ?_)
          go_simp
          refine hK _ _ ⟨x22, x23, _, x25, x26, x27, x28, x29, x30, x31, x32, x33, s1, s2, s3, rfl, ?_, ?_⟩
          · exact hS
          · constructor
            all_goals simp [hD]
            all_goals (first | exact hP.f22 | exact hP.f23 | exact hP.f24 | exact hP.f25 | exact hP.f26 | exact hP.f27 | exact hP.f28 | exact hP.f29 | exact hP.f30 | exact hP.c9 | exact hP.f31 | exact hP.c10 | exact hP.f32 | exact hP.f33 | exact hP.c12 | exact hP.f12 | exact hP.r12a | exact hP.r12b | exact hP.r10 | skip)
        · rintro l a W hl hd ha ⟨x22, x23, x24, x25, x26, x27, x28, x29, x30, x31, x32, x33, s1, s2, s3, rfl, hS, hP⟩
          have hD : ∀ k, Inv.D (l.setIfInBounds 3 true) k = if k = 3 then true else Inv.D l k := fun k => Inv.D_set l 3 k (by rw [hl]; decide)
          simp [Inv.ahead, Region.binds] at ha
          refine Inv.wpOp_K rfl (fun K hK => ?_)
          go_simp
          refine hK _ _ ⟨x22, x23, x24, _, x26, x27, x28, x29, x30, x31, x32, x33, s1, s2, s3, rfl, ?_, ?_⟩
          · exact hS
          · constructor
            all_goals simp [hD]
            all_goals (first | exact hP.f22 | exact hP.f23 | exact hP.f24 | exact hP.f25 | exact hP.f26 | exact hP.f27 | exact hP.f28 | exact hP.f29 | exact hP.f30 | exact hP.c9 | exact hP.f31 | exact hP.c10 | exact hP.f32 | exact hP.f33 | exact hP.c12 | exact hP.f12 | exact hP.r12a | exact hP.r12b | exact hP.r10 | skip)
        · rintro l a W hl hd ha ⟨x22, x23, x24, x25, x26, x27, x28, x29, x30, x31, x32, x33, s1, s2, s3, rfl, hS, hP⟩
          have hD : ∀ k, Inv.D (l.setIfInBounds 4 true) k = if k = 4 then true else Inv.D l k := fun k => Inv.D_set l 4 k (by rw [hl]; decide)
          simp [Inv.ahead, Region.binds] at ha
          obtain rfl := hP.f24 (by simp [ha])
          obtain rfl := hP.f25 (by simp [ha])
          refine Inv.wpOp_K rfl (fun K hK => ?_)
          go_simp
          go_at_call 10
          refine (HQu.out _).mono ?_
          rintro e w1 ⟨rfl, hb1⟩
          refine hK _ _ ⟨x22, x23, _, _, _, x27, x28, x29, x30, x31, x32, x33, s1, s2, s3, rfl, ?_, ?_⟩
          · exact hS.step hb1
          · constructor
            all_goals simp [hD]
            all_goals (first | exact hP.f22 | exact hP.f23 | exact hP.f24 | exact hP.f25 | exact hP.f26 | exact hP.f27 | exact hP.f28 | exact hP.f29 | exact hP.f30 | exact hP.c9 | exact hP.f31 | exact hP.c10 | exact hP.f32 | exact hP.f33 | exact hP.c12 | exact hP.f12 | exact hP.r12a | exact hP.r12b | exact hP.r10 | skip)
        · rintro l a W hl hd ha ⟨x22, x23, x24, x25, x26, x27, x28, x29, x30, x31, x32, x33, s1, s2, s3, rfl, hS, hP⟩
          have hD : ∀ k, Inv.D (l.setIfInBounds 5 true) k = if k = 5 then true else Inv.D l k := fun k => Inv.D_set l 5 k (by rw [hl]; decide)
          simp [Inv.ahead, Region.binds] at ha
          refine Inv.wpOp_K rfl (fun K hK => ?_)
          go_simp
          refine hK _ _ ⟨x22, x23, x24, x25, x26, _, x28, x29, x30, x31, x32, x33, s1, s2, s3, rfl, ?_, ?_⟩
          · exact hS
          · constructor
            all_goals simp [hD]
            all_goals (first | exact hP.f22 | exact hP.f23 | exact hP.f24 | exact hP.f25 | exact hP.f26 | exact hP.f27 | exact hP.f28 | exact hP.f29 | exact hP.f30 | exact hP.c9 | exact hP.f31 | exact hP.c10 | exact hP.f32 | exact hP.f33 | exact hP.c12 | exact hP.f12 | exact hP.r12a | exact hP.r12b | exact hP.r10 | skip)
        · rintro l a W hl hd ha ⟨x22, x23, x24, x25, x26, x27, x28, x29, x30, x31, x32, x33, s1, s2, s3, rfl, hS, hP⟩
          have hD : ∀ k, Inv.D (l.setIfInBounds 6 true) k = if k = 6 then true else Inv.D l k := fun k => Inv.D_set l 6 k (by rw [hl]; decide)
          simp [Inv.ahead, Region.binds] at ha
          refine Inv.wpOp_K rfl (fun K hK => ?_)
          go_simp
          refine hK _ _ ⟨x22, x23, x24, x25, x26, x27, _, x29, x30, x31, x32, x33, s1, s2, s3, rfl, ?_, ?_⟩
          · exact hS
          · constructor
            all_goals simp [hD]
            all_goals (first | exact hP.f22 | exact hP.f23 | exact hP.f24 | exact hP.f25 | exact hP.f26 | exact hP.f27 | exact hP.f28 | exact hP.f29 | exact hP.f30 | exact hP.c9 | exact hP.f31 | exact hP.c10 | exact hP.f32 | exact hP.f33 | exact hP.c12 | exact hP.f12 | exact hP.r12a | exact hP.r12b | exact hP.r10 | skip)
        · rintro l a W hl hd ha ⟨x22, x23, x24, x25, x26, x27, x28, x29, x30, x31, x32, x33, s1, s2, s3, rfl, hS, hP⟩
          have hD : ∀ k, Inv.D (l.setIfInBounds 7 true) k = if k = 7 then true else Inv.D l k := fun k => Inv.D_set l 7 k (by rw [hl]; decide)
          simp [Inv.ahead, Region.binds] at ha
          obtain rfl := hP.f27 (by simp [ha])
          obtain rfl := hP.f28 (by simp [ha])
          refine Inv.wpOp_K rfl (fun K hK => ?_)
          go_simp
          refine hK _ _ ⟨x22, x23, x24, x25, x26, _, _, _, x30, x31, x32, x33, s1, s2, s3, rfl, ?_, ?_⟩
          · exact hS
          · constructor
            all_goals simp [hD]
            all_goals (first | exact hP.f22 | exact hP.f23 | exact hP.f24 | exact hP.f25 | exact hP.f26 | exact hP.f27 | exact hP.f28 | exact hP.f29 | exact hP.f30 | exact hP.c9 | exact hP.f31 | exact hP.c10 | exact hP.f32 | exact hP.f33 | exact hP.c12 | exact hP.f12 | exact hP.r12a | exact hP.r12b | exact hP.r10 | skip)
        · rintro l a W hl hd ha ⟨x22, x23, x24, x25, x26, x27, x28, x29, x30, x31, x32, x33, s1, s2, s3, rfl, hS, hP⟩
          have hD : ∀ k, Inv.D (l.setIfInBounds 8 true) k = if k = 8 then true else Inv.D l k := fun k => Inv.D_set l 8 k (by rw [hl]; decide)
          simp [Inv.ahead, Region.binds] at ha
          obtain rfl := hP.f26 (by simp [ha])
          obtain rfl := hP.f29 (by simp [ha])
          refine Inv.wpOp_K rfl (fun K hK => ?_)
          go_simp
          refine hK _ _ ⟨x22, x23, x24, x25, _, x27, x28, _, _, x31, x32, x33, s1, s2, s3, rfl, ?_, ?_⟩
          · exact hS
          · constructor
            all_goals simp [hD]
            all_goals (first | exact hP.f22 | exact hP.f23 | exact hP.f24 | exact hP.f25 | exact hP.f26 | exact hP.f27 | exact hP.f28 | exact hP.f29 | exact hP.f30 | exact hP.c9 | exact hP.f31 | exact hP.c10 | exact hP.f32 | exact hP.f33 | exact hP.c12 | exact hP.f12 | exact hP.r12a | exact hP.r12b | exact hP.r10 | skip)
        · rintro l a W hl hd ha ⟨x22, x23, x24, x25, x26, x27, x28, x29, x30, x31, x32, x33, s1, s2, s3, rfl, hS, hP⟩
          have hD : ∀ k, Inv.D (l.setIfInBounds 9 true) k = if k = 9 then true else Inv.D l k := fun k => Inv.D_set l 9 k (by rw [hl]; decide)
          simp [Inv.ahead, Region.binds] at ha
          obtain rfl := hP.f30 (by simp [ha])
          obtain rfl := hP.c9 hd
          refine Inv.wpOp_K rfl (fun K hK => ?_)
          go_simp
          refine hK _ _ ⟨x22, x23, x24, x25, x26, x27, x28, x29, _, _, x32, x33, [rG kO (.slice (some ⟨W.heap.size, 0, none⟩) 1 1) [⟨1, qx, qy, r⟩]], s2, s3, rfl, ?_, ?_⟩
          · exact hS.lit kO [⟨1, qx, qy, r⟩] 1 rfl (by decide) #[.int .i64 1, .int .i64 qx, .int .i64 qy, .int .i64 r] rfl
          · constructor
            all_goals simp [hD]
            all_goals (first | exact hP.f22 | exact hP.f23 | exact hP.f24 | exact hP.f25 | exact hP.f26 | exact hP.f27 | exact hP.f28 | exact hP.f29 | exact hP.f30 | exact hP.c9 | exact hP.f31 | exact hP.c10 | exact hP.f32 | exact hP.f33 | exact hP.c12 | exact hP.f12 | exact hP.r12a | exact hP.r12b | exact hP.r10 | skip)
            · exact ⟨_, rfl, rfl⟩
        · rintro l a W hl hd ha ⟨x22, x23, x24, x25, x26, x27, x28, x29, x30, x31, x32, x33, s1, s2, s3, rfl, hS, hP⟩
          have hD : ∀ k, Inv.D (l.setIfInBounds 10 true) k = if k = 10 then true else Inv.D l k := fun k => Inv.D_set l 10 k (by rw [hl]; decide)
          simp [Inv.ahead, Region.binds] at ha
          obtain rfl := hP.f23 (by simp [ha])
          obtain ⟨gl, rfl, rfl⟩ := hP.f31 (by simp [ha])
          obtain rfl := hP.c10 hd
          refine Inv.wpOp_K rfl (fun K hK => ?_)
          refine step_ap appO oneOs rfl (.tmp 23) (.tmp 31) rfl (A := [rG kO (.slice (some ⟨gl, 0, none⟩) 1 1) [⟨1, qx, qy, r⟩]]) (M := L) (L := [⟨1, qx, qy, r⟩]) (m := k) (s := ⟨some ⟨gl, 0, none⟩, 1, 1⟩) hS (Below.refl _ _) (OwG.sl (hS.mem (K := kO) (v := .slice (some ⟨gl, 0, none⟩) 1 1) (L := [⟨1, qx, qy, r⟩]) (by simp))) HLk.out.1 rfl (by have := HLk.out.2; simp only; omega) (.inl ⟨_, rfl⟩) rfl rfl (fun q cap w' h _ _ _ => hK _ _ ⟨x22, _, x24, x25, x26, x27, x28, x29, x30, _, _, x33, _, [rG kO (.slice q (k + 1) cap) (L ++ [⟨1, qx, qy, r⟩])], s3, rfl, h, ?_⟩)
          constructor
          all_goals simp [hD]
          all_goals (first | exact hP.f22 | exact hP.f23 | exact hP.f24 | exact hP.f25 | exact hP.f26 | exact hP.f27 | exact hP.f28 | exact hP.f29 | exact hP.f30 | exact hP.c9 | exact hP.f31 | exact hP.c10 | exact hP.f32 | exact hP.f33 | exact hP.c12 | exact hP.f12 | exact hP.r12a | exact hP.r12b | exact hP.r10 | skip)
          · exact (by simp [ha])
          · exact ⟨_, _, rfl, rfl⟩
          · exact fun h => absurd (hP.r12b h) (by rw [hd]; decide)
          · exact (by simp [ha])
        · rintro l a W hl hd ha ⟨x22, x23, x24, x25, x26, x27, x28, x29, x30, x31, x32, x33, s1, s2, s3, rfl, hS, hP⟩
          have hD : ∀ k, Inv.D (l.setIfInBounds 11 true) k = if k = 11 then true else Inv.D l k := fun k => Inv.D_set l 11 k (by rw [hl]; decide)
          simp [Inv.ahead, Region.binds] at ha
          refine Inv.wpOp_K rfl (fun K hK => ?_)
          go_simp
          refine hK _ _ ⟨x22, x23, x24, x25, x26, x27, x28, x29, x30, x31, x32, _, s1, s2, s3, rfl, ?_, ?_⟩
          · exact hS
          · constructor
            all_goals simp [hD]
            all_goals (first | exact hP.f22 | exact hP.f23 | exact hP.f24 | exact hP.f25 | exact hP.f26 | exact hP.f27 | exact hP.f28 | exact hP.f29 | exact hP.f30 | exact hP.c9 | exact hP.f31 | exact hP.c10 | exact hP.f32 | exact hP.f33 | exact hP.c12 | exact hP.f12 | exact hP.r12a | exact hP.r12b | exact hP.r10 | skip)
        · rintro l a W hl hd ha ⟨x22, x23, x24, x25, x26, x27, x28, x29, x30, x31, x32, x33, s1, s2, s3, rfl, hS, hP⟩
          have hD : ∀ k, Inv.D (l.setIfInBounds 12 true) k = if k = 12 then true else Inv.D l k := fun k => Inv.D_set l 12 k (by rw [hl]; decide)
          simp [Inv.ahead, Region.binds] at ha
          obtain rfl := hP.f33 (by simp [ha])
          obtain ⟨q, cq, rfl, rfl⟩ := hP.f32 (by simp [ha])
          obtain rfl := hP.c12 hd
          obtain ⟨t0, t1, tf, tg⟩ := dv2 hS (K := kD) (g := b6) (n := 1) (q := ⟨1, p, k, c⟩) (by simp) rfl
          have hS1 : Sg w W ((s1 ++ [rG kO (.slice q (k + 1) cq) (L ++ [⟨1, qx, qy, r⟩])]) ++ rG kD (.slice (some ⟨b6, 0, none⟩) 1 1) [⟨1, p, k, c⟩] :: [rG kW (.slice (some ⟨b4, 0, none⟩) 1 1) [zwv]]) := by rw [List.append_assoc]; exact hS
          have hS2 := Sg.setD1 hS1 q (k + 1) cq
          rw [List.append_assoc] at hS2
          refine Inv.wpOp_K rfl (fun K hK => ?_)
          go_simp
          refine hK _ _ ⟨x22, x23, x24, x25, x26, x27, x28, x29, x30, x31, _, _, s1, [rG kO (.slice q (k + 1) cq) (L ++ [⟨1, qx, qy, r⟩])], [rG kD (.slice (some ⟨b6, 0, none⟩) 1 1) [⟨1, q, (k + 1), cq⟩]], rfl, ?_, ?_⟩
          · exact hS2
          · constructor
            all_goals simp [hD]
            all_goals (first | exact hP.f22 | exact hP.f23 | exact hP.f24 | exact hP.f25 | exact hP.f26 | exact hP.f27 | exact hP.f28 | exact hP.f29 | exact hP.f30 | exact hP.c9 | exact hP.f31 | exact hP.c10 | exact hP.f32 | exact hP.f33 | exact hP.c12 | exact hP.f12 | exact hP.r12a | exact hP.r12b | exact hP.r10 | skip)
            · intro h; rw [show Inv.D l 10 = true from (by simp [ha])] at h; cases h
            · exact ⟨_, _, rfl, rfl⟩
            · exact (by simp [ha])
            · exact (by simp [ha])
    · obtain rfl : k = 4 := by omega
      go_upto_region 8 with (fail)
      replace hx := hx.perm (show List.Perm _ (rG kW (.slice (some ⟨b4, 0, none⟩) 1 1) [zwv] :: [rG kO (.slice p 4 c) (owN n 4), rG kD (.slice (some ⟨b6, 0, none⟩) 1 1) [⟨1, p, 4, c⟩]]) from (List.perm_middle (l₁ := [_, _]) (l₂ := [])))
      refine Inv.wp_region_each (fun l a W => ∃ (x5 x34 x35 x36 x37 x38 : Value) (s1 s2 : List Rw), a = ⟨#[Value.int IntKind.i64 key, Value.int IntKind.i64 (n : Int), undef, undef, Value.pointer (some { block := b4, off := 0 }), x5, Value.pointer (some { block := b6, off := 0 }), Value.int IntKind.i64 (4 : Int), Value.int IntKind.i64 key, Value.bool true, Value.bool false, Value.bool false, Value.int IntKind.i64 (n : Int), Value.bool true, Value.bool false, Value.bool false, undef, Value.agg #[Value.int IntKind.i64 1, Value.slice none 0 0], Value.int IntKind.i64 (4 : Int), Value.bool false, u20, u21, u22, u23, u24, u25, u26, u27, u28, u29, u30, u31, u32, u33, x34, x35, x36, x37, x38], []⟩ ∧ Sg w W (s1 ++ (s2 ++ [rG kO (.slice p 4 c) (owN n 4), rG kD (.slice (some ⟨b6, 0, none⟩) 1 1) [⟨1, p, 4, c⟩]])) ∧ SW8 b4 n c key p l x5 x34 x35 x36 x37 x38 s1 s2) (by kernel_rfl) (by kernel_rfl) ?_ ?_ ?_
      · refine ⟨Value.bool false, undef, undef, undef, undef, undef, [], [rG kW (.slice (some ⟨b4, 0, none⟩) 1 1) [zwv]], rfl, hx.step (Below.refl _ _).drew, ?_⟩
        constructor <;> simp [Inv.D]
      · rintro l a W hD ⟨x5, x34, x35, x36, x37, x38, s1, s2, rfl, hS, hP⟩
        obtain rfl := hP.f6 (hD 6 (by decide))
        obtain ⟨gz, e1, rfl⟩ := hP.f37 (hD 3 (by decide))
        obtain ⟨g2, e2, rfl⟩ := hP.f5 (hD 5 (by decide))
        rw [e1] at e2
        obtain rfl : gz = g2 := by simpa using e2
        clear e1 e2 hP hD
        obtain ⟨z0, z1, z2, z3, z4, z5, zf, zg⟩ := w6 hS (g := b4) (n := 1) (q := ⟨0, key, 1, p, 4, c, some ⟨gz, 0, none⟩, n, n⟩) (by simp)
        try dsimp only
        go_wp2_with (fail)
        exact bodyPost_ret (v := .tuple #[Wv.v ⟨0, key, 1, p, 4, c, some ⟨gz, 0, none⟩, n, n⟩, .bool true]) (by simp [results, Try.results4, go_sem, z0, z1, z2, z3, z4, z5]) rfl ⟨p, c, gz, rfl, (hS.perm (List.Perm.refl _)).sub (.cons_cons _ (.cons _ (.cons_cons _ (.cons _ .slnil)))) |>.perm (List.Perm.swap _ _ _)⟩
      · refine ⟨?_, ?_, ?_, ?_, ?_, ?_, ?_, trivial⟩
        · rintro l a W hl hd ha ⟨x5, x34, x35, x36, x37, x38, s1, s2, rfl, hS, hP⟩
          have hD : ∀ k, Inv.D (l.setIfInBounds 0 true) k = if k = 0 then true else Inv.D l k := fun k => Inv.D_set l 0 k (by rw [hl]; decide)
          simp [Inv.ahead, Region.binds] at ha
          refine Inv.wpOp_K rfl (fun K hK => ?_)
          go_simp
          refine hK _ _ ⟨x5, _, x35, x36, x37, x38, s1, s2, rfl, ?_, ?_⟩
          · exact hS
          · constructor
            all_goals simp [hD]
            all_goals (first | exact hP.f34 | exact hP.f35 | exact hP.f36 | exact hP.c3 | exact hP.f37 | exact hP.f38 | exact hP.r4 | exact hP.c5 | exact hP.f5 | exact hP.r5 | exact hP.f6 | skip)
        · rintro l a W hl hd ha ⟨x5, x34, x35, x36, x37, x38, s1, s2, rfl, hS, hP⟩
          have hD : ∀ k, Inv.D (l.setIfInBounds 1 true) k = if k = 1 then true else Inv.D l k := fun k => Inv.D_set l 1 k (by rw [hl]; decide)
          simp [Inv.ahead, Region.binds] at ha
          obtain ⟨t0, t1, _, _⟩ := dv2 hS (K := kD) (g := b6) (n := 1) (q := ⟨1, p, 4, c⟩) (by simp) rfl
          refine Inv.wpOp_K rfl (fun K hK => ?_)
          go_simp
          refine hK _ _ ⟨x5, x34, _, x36, x37, x38, s1, s2, rfl, ?_, ?_⟩
          · exact hS
          · constructor
            all_goals simp [hD]
            all_goals (first | exact hP.f34 | exact hP.f35 | exact hP.f36 | exact hP.c3 | exact hP.f37 | exact hP.f38 | exact hP.r4 | exact hP.c5 | exact hP.f5 | exact hP.r5 | exact hP.f6 | skip)
        · rintro l a W hl hd ha ⟨x5, x34, x35, x36, x37, x38, s1, s2, rfl, hS, hP⟩
          have hD : ∀ k, Inv.D (l.setIfInBounds 2 true) k = if k = 2 then true else Inv.D l k := fun k => Inv.D_set l 2 k (by rw [hl]; decide)
          simp [Inv.ahead, Region.binds] at ha
          refine Inv.wpOp_K rfl (fun K hK => ?_)
          go_simp
          refine hK _ _ ⟨x5, x34, x35, _, x37, x38, s1, s2, rfl, ?_, ?_⟩
          · exact hS
          · constructor
            all_goals simp [hD]
            all_goals (first | exact hP.f34 | exact hP.f35 | exact hP.f36 | exact hP.c3 | exact hP.f37 | exact hP.f38 | exact hP.r4 | exact hP.c5 | exact hP.f5 | exact hP.r5 | exact hP.f6 | skip)
        · rintro l a W hl hd ha ⟨x5, x34, x35, x36, x37, x38, s1, s2, rfl, hS, hP⟩
          have hD : ∀ k, Inv.D (l.setIfInBounds 3 true) k = if k = 3 then true else Inv.D l k := fun k => Inv.D_set l 3 k (by rw [hl]; decide)
          simp [Inv.ahead, Region.binds] at ha
          obtain rfl := hP.f36 (by simp [ha])
          obtain rfl := hP.c3 hd
          have hmk := HMk.out W
          refine Inv.wpOp_K rfl (fun K hK => ?_)
          go_simp
          refine hK _ _ ⟨x5, x34, x35, _, _, x38, [rG kZ (.slice (some ⟨W.heap.size, 0, none⟩) n n) (List.replicate n zzs)], s2, rfl, ?_, ?_⟩
          · exact lit_madeZ hS HN4.out
          · constructor
            all_goals simp [hD]
            all_goals (first | exact hP.f34 | exact hP.f35 | exact hP.f36 | exact hP.c3 | exact hP.f37 | exact hP.f38 | exact hP.r4 | exact hP.c5 | exact hP.f5 | exact hP.r5 | exact hP.f6 | skip)
            · exact ⟨_, rfl, rfl⟩
            · exact fun h => absurd (hP.r4 h) (by rw [hd]; decide)
            · exact fun h => absurd (hP.r5 h) (by rw [hd]; decide)
        · rintro l a W hl hd ha ⟨x5, x34, x35, x36, x37, x38, s1, s2, rfl, hS, hP⟩
          have hD : ∀ k, Inv.D (l.setIfInBounds 4 true) k = if k = 4 then true else Inv.D l k := fun k => Inv.D_set l 4 k (by rw [hl]; decide)
          simp [Inv.ahead, Region.binds] at ha
          obtain rfl := hP.f34 (by simp [ha])
          obtain rfl := hP.f35 (by simp [ha])
          obtain ⟨gz, rfl, rfl⟩ := hP.f37 (by simp [ha])
          refine Inv.wpOp_K rfl (fun K hK => ?_)
          go_simp
          refine hK _ _ ⟨x5, _, _, x36, _, _, [rG kZ (.slice (some ⟨gz, 0, none⟩) n n) (List.replicate n zzs)], s2, rfl, ?_, ?_⟩
          · exact hS
          · constructor
            all_goals simp [hD]
            all_goals (first | exact hP.f34 | exact hP.f35 | exact hP.f36 | exact hP.c3 | exact hP.f37 | exact hP.f38 | exact hP.r4 | exact hP.c5 | exact hP.f5 | exact hP.r5 | exact hP.f6 | skip)
            all_goals first | exact (by simp [ha]) | exact ⟨_, rfl, rfl⟩
        · rintro l a W hl hd ha ⟨x5, x34, x35, x36, x37, x38, s1, s2, rfl, hS, hP⟩
          have hD : ∀ k, Inv.D (l.setIfInBounds 5 true) k = if k = 5 then true else Inv.D l k := fun k => Inv.D_set l 5 k (by rw [hl]; decide)
          simp [Inv.ahead, Region.binds] at ha
          obtain ⟨gz, rfl, rfl⟩ := hP.f37 (by simp [ha])
          obtain rfl := hP.f38 (by simp [ha])
          obtain rfl := hP.c5 hd
          obtain ⟨t0, t1, t2, t3, t4, t5, tf, tg⟩ := w6 hS (g := b4) (n := 1) (q := zwv) (by simp)
          simp only [zwv] at t0 t1 t2 t3 t4 t5
          have hS2 := Sg.setW (A := [rG kZ (.slice (some ⟨gz, 0, none⟩) n n) (List.replicate n zzs)]) hS ⟨0, key, 1, p, 4, c, some ⟨gz, 0, none⟩, n, n⟩
          refine Inv.wpOp_K rfl (fun K hK => ?_)
          go_simp
          refine hK _ _ ⟨x5, x34, x35, x36, _, _, [rG kZ (.slice (some ⟨gz, 0, none⟩) n n) (List.replicate n zzs)], [rG kW (.slice (some ⟨b4, 0, none⟩) 1 1) [⟨0, key, 1, p, 4, c, some ⟨gz, 0, none⟩, n, n⟩]], rfl, ?_, ?_⟩
          · exact hS2
          · constructor
            all_goals simp [hD]
            all_goals (first | exact hP.f34 | exact hP.f35 | exact hP.f36 | exact hP.c3 | exact hP.f37 | exact hP.f38 | exact hP.r4 | exact hP.c5 | exact hP.f5 | exact hP.r5 | exact hP.f6 | skip)
            all_goals first | exact (by simp [ha]) | exact ⟨_, rfl, rfl⟩
        · rintro l a W hl hd ha ⟨x5, x34, x35, x36, x37, x38, s1, s2, rfl, hS, hP⟩
          have hD : ∀ k, Inv.D (l.setIfInBounds 6 true) k = if k = 6 then true else Inv.D l k := fun k => Inv.D_set l 6 k (by rw [hl]; decide)
          simp [Inv.ahead, Region.binds] at ha
          refine Inv.wpOp_K rfl (fun K hK => ?_)
          go_simp
          refine hK _ _ ⟨_, x34, x35, x36, x37, x38, s1, s2, rfl, ?_, ?_⟩
          · exact hS
          · constructor
            all_goals simp [hD]
            all_goals (first | exact hP.f34 | exact hP.f35 | exact hP.f36 | exact hP.c3 | exact hP.f37 | exact hP.f38 | exact hP.r4 | exact hP.c5 | exact hP.f5 | exact hP.r5 | exact hP.f6 | skip)
end Go.Proofs.Ytmfbkbifoehoeaa.K.D
