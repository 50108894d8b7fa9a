/-
  The law FnDeals walked.
-/
import Derived.Test.YtobbankkfplooaaGreatKDL
import Derived.Test.YtobbankkfplooaaGreatKYI
namespace Go.Proofs.YtobbankkfplooaaGreat.K.G
open Go.Shelf Go.RowKit Go.Joins Y
attribute [local go_sem] Oper.semAt_some

/-- A Deal that was made: its value, its rows. -/
def BMk (d : Dd) (x : Value) (s : List Rw) : Prop := ∃ h, x = Gv.v h ∧ TD d h s
structure C11 (is db : Bool) (h1 h2 h5 h8 : Gv) (fd : Dd) (l : Array Bool) (x75 x76 x77 x78 x79 x80 x81 x82 x83 x84 x85 x86 x87 x88 x89 x90 x91 x92 x93 x94 x95 x96 x97 x98 : Value) (s1 s2 : List Rw) : Prop where
  f75 : Inv.D l 0 = true → x75 = .bool is
  f76 : Inv.D l 1 = true → x76 = .bool is
  f77 : Inv.D l 2 = true → x77 = .bool false
  f78 : Inv.D l 3 = true → x78 = .bool false
  f79 : Inv.D l 4 = true → x79 = Gv.v h2
  f80 : Inv.D l 5 = true → x80 = Gv.v h8
  f81 : Inv.D l 6 = true → x81 = .bool true
  f82 : Inv.D l 7 = true → x82 = .bool false
  f83 : Inv.D l 8 = true → x83 = .bool false
  f84 : Inv.D l 9 = true → x84 = .bool false
  f85 : Inv.D l 10 = true → x85 = Gv.v h1
  f86 : Inv.D l 11 = true → x86 = .bool db
  f87 : Inv.D l 12 = true → x87 = Gv.v h1
  f88 : Inv.D l 13 = true → x88 = .bool db
  f89 : Inv.D l 14 = true → x89 = .bool false
  f90 : Inv.D l 15 = true → x90 = .bool false
  f91 : Inv.D l 16 = true → x91 = .bool false
  f92 : Inv.D l 17 = true → x92 = Gv.v h5
  f94 : Inv.D l 19 = true → x94 = Gv.v h5
  f96 : Inv.D l 21 = true → x96 = .bool true
  f97 : Inv.D l 22 = true → x97 = .bool false
  f98 : Inv.D l 23 = true → x98 = .bool false
  c93 : Inv.D l 18 = false → s1 = []
  f93 : Inv.D l 18 = true → BMk fd x93 s1
  c95 : Inv.D l 20 = false → s2 = []
  f95 : Inv.D l 20 = true → BMk fd x95 s2
structure C31f (off : Bool) (b4 : Nat) (h4 : Gv) (yd : Dd) (l : Array Bool) (x2 x182 x183 x184 x185 x186 x187 x188 x189 x190 x191 x192 x193 x194 x195 x196 x197 x198 x199 x200 x201 x202 x203 x204 : Value) (s1 : List Rw) : Prop where
  f182 : Inv.D l 0 = true → x182 = Gv.v h4
  f183 : Inv.D l 1 = true → x183 = .bool true
  f184 : Inv.D l 2 = true → x184 = .bool true
  f185 : Inv.D l 3 = true → x185 = .bool false
  f186 : Inv.D l 4 = true → x186 = .bool true
  f187 : Inv.D l 5 = true → x187 = .bool true
  f188 : Inv.D l 6 = true → x188 = .bool true
  f189 : Inv.D l 7 = true → x189 = .pointer (some ⟨b4, 5, none⟩)
  f190 : Inv.D l 8 = true → x190 = .int .i64 h4.s
  f191 : Inv.D l 9 = true → x191 = .bool false
  f192 : Inv.D l 10 = true → x192 = .bool false
  f193 : Inv.D l 11 = true → x193 = .bool false
  f194 : Inv.D l 12 = true → x194 = undef
  f195 : Inv.D l 13 = true → x195 = undef
  f196 : Inv.D l 14 = true → x196 = .bool false
  f197 : Inv.D l 15 = true → x197 = .bool true
  f198 : Inv.D l 16 = true → x198 = .bool true
  f199 : Inv.D l 17 = true → x199 = .bool true
  f200 : Inv.D l 18 = true → x200 = Gv.v h4
  f202 : Inv.D l 20 = true → x202 = Gv.v h4
  f203 : Inv.D l 21 = true → x203 = .bool true
  f204 : Inv.D l 22 = true → x204 = .bool true
  f2 : Inv.D l 23 = true → x2 = .bool true
  c201 : Inv.D l 19 = false → s1 = []
  f201 : Inv.D l 19 = true → BMk yd x201 s1
structure C31t (off : Bool) (b4 : Nat) (h4 : Gv) (yd : Dd) (l : Array Bool) (x2 x182 x183 x184 x185 x186 x187 x188 x189 x190 x191 x192 x193 x194 x195 x196 x197 x198 x199 x200 x201 x202 x203 x204 : Value) (s1 : List Rw) : Prop where
  f182 : Inv.D l 0 = true → x182 = Gv.v h4
  f183 : Inv.D l 1 = true → x183 = .bool true
  f184 : Inv.D l 2 = true → x184 = .bool true
  f185 : Inv.D l 3 = true → x185 = .bool false
  f186 : Inv.D l 4 = true → x186 = .bool true
  f187 : Inv.D l 5 = true → x187 = .bool true
  f188 : Inv.D l 6 = true → x188 = .bool true
  f189 : Inv.D l 7 = true → x189 = .pointer (some ⟨b4, 5, none⟩)
  f190 : Inv.D l 8 = true → x190 = .int .i64 h4.s
  f191 : Inv.D l 9 = true → x191 = .bool (!off)
  f192 : Inv.D l 10 = true → x192 = .bool true
  f193 : Inv.D l 11 = true → x193 = .bool true
  f194 : Inv.D l 12 = true → x194 = .bool off
  f195 : Inv.D l 13 = true → x195 = .bool (!off)
  f196 : Inv.D l 14 = true → x196 = .bool (!off)
  f197 : Inv.D l 15 = true → x197 = .bool true
  f198 : Inv.D l 16 = true → x198 = .bool true
  f199 : Inv.D l 17 = true → x199 = .bool true
  f200 : Inv.D l 18 = true → x200 = Gv.v h4
  f202 : Inv.D l 20 = true → x202 = Gv.v h4
  f203 : Inv.D l 21 = true → x203 = .bool true
  f204 : Inv.D l 22 = true → x204 = .bool true
  f2 : Inv.D l 23 = true → x2 = .bool true
  c201 : Inv.D l 19 = false → s1 = []
  f201 : Inv.D l 19 = true → BMk yd x201 s1
set_option maxRecDepth 100000 in
set_option maxHeartbeats 8000000 in
theorem fnDeals (pa : Option Addr) (len cap : Nat) (zs : List Int) (w : World) (hr : M.Rd w w.heap.size pa len zs) :
    Calls Tryz.prog 3 #[.slice pa len cap] w fun ee w' => ee = .returned (.bool true) ∧ Below w.heap.size w w' := by
  by_cases hbig : 4096 < len
  · have hbi : decide (4096 < (len : Int)) = true := decide_eq_true (by omega)
    have HB := Lib.hid (fun W => M.big_any pa len cap W)
    rw [hbi] at HB
    clear hr hbi hbig
    go_enter Tryz.func3, Tryz.ntmps3
    go_wp2_with (go_at_call 7; refine (HB.out _).mono ?_; rintro ee w1 ⟨rfl, rfl⟩)
    go_ret
    exact ⟨rfl, Below.refl _ _⟩
  · have hl : len ≤ 4096 := by omega
    have hbi : decide (4096 < (len : Int)) = false := decide_eq_false (by omega)
    have HB := Lib.hid (fun W => M.big_any pa len cap W)
    rw [hbi] at HB
    have HD1 := Lib.hid (fun W rs (h : Sg w W rs) => drawVotedT (cap := cap) h hl hr)
    have HD2 := Lib.hid (fun W rs (h : Sg w W rs) => drawDecidedT (cap := cap) h hl hr)
    have HD3 := Lib.hid (fun W rs (h : Sg w W rs) => drawForgottenT (cap := cap) h hl hr)
    have HD4 := Lib.hid (fun W rs (h : Sg w W rs) => drawOpenedT (cap := cap) h hl hr)
    have hx := Sg.nil w
    clear hr hl hbi hbig
    go_enter Tryz.func3, Tryz.ntmps3
    go_upto_region 4 with (first
      | (go_at_call 7; refine (HB.out _).mono ?_; rintro ee w0 ⟨rfl, rfl⟩)
      | (go_at_call 8; refine (HD1.out _ _ hx).mono ?_; rintro ee w1 ⟨h1, d, S1, x, yes, rfl, T1, hx2⟩; clear hx; have hx := hx2; clear hx2))
    clear HD1 HB
    replace hx : Sg w (w1.alloc (.cells #[.int .i64 h1.t, .int .i64 h1.q, .slice h1.y.p h1.y.n h1.y.c, .slice h1.o.p h1.o.n h1.o.c, .slice h1.u.p h1.u.n h1.u.c, .int .i64 h1.s] 27)) (rG kG (.slice (some ⟨w1.heap.size, 0, none⟩) 1 1) [h1] :: (S1 ++ [])) := hx.lit kG [h1] 1 rfl (by decide) #[.int .i64 h1.t, .int .i64 h1.q, .slice h1.y.p h1.y.n h1.y.c, .slice h1.o.p h1.o.n h1.o.c, .slice h1.u.p h1.u.n h1.u.c, .int .i64 h1.s] rfl
    generalize w1.heap.size = b1 at *
    generalize (w1.alloc (.cells #[.int .i64 h1.t, .int .i64 h1.q, .slice h1.y.p h1.y.n h1.y.c, .slice h1.o.p h1.o.n h1.o.c, .slice h1.u.p h1.u.n h1.u.c, .int .i64 h1.s] 27)) = w2 at *
    obtain ⟨⟨xd, is⟩, hV⟩ : ∃ r, votedR d x yes = r := ⟨_, rfl⟩
    obtain ⟨y0, y1, y2, y3, y4, y5, _, _⟩ := g6 hx (K := kG) (g := b1) (n := 1) (q := h1) (by simp) rfl
    have HC := Lib.hid (iVotedT hx T1.out (fun r h => by simp [h]) x yes hV)
    go_upto_region 5 with (go_at_call 9; refine HC.out.mono ?_; rintro ee w3 ⟨h2, S2, rfl, T2, hS⟩; replace hx := hx.addL hS; clear hS y0 y1 y2 y3 y4 y5)
    clear HC
    replace hx : Sg w (w3.alloc (.cells #[.int .i64 h2.t, .int .i64 h2.q, .slice h2.y.p h2.y.n h2.y.c, .slice h2.o.p h2.o.n h2.o.c, .slice h2.u.p h2.u.n h2.u.c, .int .i64 h2.s] 27)) (rG kG (.slice (some ⟨w3.heap.size, 0, none⟩) 1 1) [h2] :: (S2 ++ (rG kG (.slice (some ⟨b1, 0, none⟩) 1 1) [h1] :: (S1 ++ [])))) := hx.lit kG [h2] 1 rfl (by decide) #[.int .i64 h2.t, .int .i64 h2.q, .slice h2.y.p h2.y.n h2.y.c, .slice h2.o.p h2.o.n h2.o.c, .slice h2.u.p h2.u.n h2.u.c, .int .i64 h2.s] rfl
    generalize w3.heap.size = b2 at *
    generalize (w3.alloc (.cells #[.int .i64 h2.t, .int .i64 h2.q, .slice h2.y.p h2.y.n h2.y.c, .slice h2.o.p h2.o.n h2.o.c, .slice h2.u.p h2.u.n h2.u.c, .int .i64 h2.s] 27)) = w4 at *
    go_upto_region 6 with (go_at_call 10; refine (HD2.out _ _ hx).mono ?_; rintro ee w5 ⟨h3, e, S3, off, rfl, T3, hx2⟩; clear hx; have hx := hx2; clear hx2)
    clear HD2
    replace hx : Sg w (w5.alloc (.cells #[.int .i64 h3.t, .int .i64 h3.q, .slice h3.y.p h3.y.n h3.y.c, .slice h3.o.p h3.o.n h3.o.c, .slice h3.u.p h3.u.n h3.u.c, .int .i64 h3.s] 27)) (rG kG (.slice (some ⟨w5.heap.size, 0, none⟩) 1 1) [h3] :: (S3 ++ (rG kG (.slice (some ⟨b2, 0, none⟩) 1 1) [h2] :: (S2 ++ (rG kG (.slice (some ⟨b1, 0, none⟩) 1 1) [h1] :: (S1 ++ [])))))) := hx.lit kG [h3] 1 rfl (by decide) #[.int .i64 h3.t, .int .i64 h3.q, .slice h3.y.p h3.y.n h3.y.c, .slice h3.o.p h3.o.n h3.o.c, .slice h3.u.p h3.u.n h3.u.c, .int .i64 h3.s] rfl
    generalize w5.heap.size = b3 at *
    generalize (w5.alloc (.cells #[.int .i64 h3.t, .int .i64 h3.q, .slice h3.y.p h3.y.n h3.y.c, .slice h3.o.p h3.o.n h3.o.c, .slice h3.u.p h3.u.n h3.u.c, .int .i64 h3.s] 27)) = w6 at *
    obtain ⟨⟨yd, fine⟩, hW⟩ : ∃ r, decidedR e off = r := ⟨_, rfl⟩
    obtain ⟨y0, y1, y2, y3, y4, y5, _, _⟩ := g6 hx (K := kG) (g := b3) (n := 1) (q := h3) (by simp) rfl
    have HC := Lib.hid (iDecidedT hx T3.out (fun r h => by simp [h]) off hW)
    go_upto_region 7 with (go_at_call 11; refine HC.out.mono ?_; rintro ee w7 ⟨h4, S4, rfl, T4, hS⟩; replace hx := hx.addL hS; clear hS y0 y1 y2 y3 y4 y5)
    clear HC
    replace hx : Sg w (w7.alloc (.cells #[.int .i64 h4.t, .int .i64 h4.q, .slice h4.y.p h4.y.n h4.y.c, .slice h4.o.p h4.o.n h4.o.c, .slice h4.u.p h4.u.n h4.u.c, .int .i64 h4.s] 27)) (rG kG (.slice (some ⟨w7.heap.size, 0, none⟩) 1 1) [h4] :: (S4 ++ (rG kG (.slice (some ⟨b3, 0, none⟩) 1 1) [h3] :: (S3 ++ (rG kG (.slice (some ⟨b2, 0, none⟩) 1 1) [h2] :: (S2 ++ (rG kG (.slice (some ⟨b1, 0, none⟩) 1 1) [h1] :: (S1 ++ [])))))))) := hx.lit kG [h4] 1 rfl (by decide) #[.int .i64 h4.t, .int .i64 h4.q, .slice h4.y.p h4.y.n h4.y.c, .slice h4.o.p h4.o.n h4.o.c, .slice h4.u.p h4.u.n h4.u.c, .int .i64 h4.s] rfl
    generalize w7.heap.size = b4 at *
    generalize (w7.alloc (.cells #[.int .i64 h4.t, .int .i64 h4.q, .slice h4.y.p h4.y.n h4.y.c, .slice h4.o.p h4.o.n h4.o.c, .slice h4.u.p h4.u.n h4.u.c, .int .i64 h4.s] 27)) = w8 at *
    go_upto_region 8 with (go_at_call 12; refine (HD3.out _ _ hx).mono ?_; rintro ee w9 ⟨h5, f, S5, rfl, T5, hx2⟩; clear hx; have hx := hx2; clear hx2)
    clear HD3
    replace hx : Sg w (w9.alloc (.cells #[.int .i64 h5.t, .int .i64 h5.q, .slice h5.y.p h5.y.n h5.y.c, .slice h5.o.p h5.o.n h5.o.c, .slice h5.u.p h5.u.n h5.u.c, .int .i64 h5.s] 27)) (rG kG (.slice (some ⟨w9.heap.size, 0, none⟩) 1 1) [h5] :: (S5 ++ (rG kG (.slice (some ⟨b4, 0, none⟩) 1 1) [h4] :: (S4 ++ (rG kG (.slice (some ⟨b3, 0, none⟩) 1 1) [h3] :: (S3 ++ (rG kG (.slice (some ⟨b2, 0, none⟩) 1 1) [h2] :: (S2 ++ (rG kG (.slice (some ⟨b1, 0, none⟩) 1 1) [h1] :: (S1 ++ [])))))))))) := hx.lit kG [h5] 1 rfl (by decide) #[.int .i64 h5.t, .int .i64 h5.q, .slice h5.y.p h5.y.n h5.y.c, .slice h5.o.p h5.o.n h5.o.c, .slice h5.u.p h5.u.n h5.u.c, .int .i64 h5.s] rfl
    generalize w9.heap.size = b5 at *
    generalize (w9.alloc (.cells #[.int .i64 h5.t, .int .i64 h5.q, .slice h5.y.p h5.y.n h5.y.c, .slice h5.o.p h5.o.n h5.o.c, .slice h5.u.p h5.u.n h5.u.c, .int .i64 h5.s] 27)) = w10 at *
    go_upto_region 9 with (go_at_call 13; refine (HD4.out _ _ hx).mono ?_; rintro ee w11 ⟨h6, od, S6, rfl, T6, hx2⟩; clear hx; have hx := hx2; clear hx2)
    clear HD4
    obtain ⟨⟨rd, made⟩, hO⟩ : ∃ r, openR od.Y od.O = r := ⟨_, rfl⟩
    have HC := Lib.hid (iOpenedT hx T6.out (fun r h => by simp [h]) hO)
    go_upto_region 10 with (go_at_call 14; refine HC.out.mono ?_; rintro ee w12 ⟨h7, S7, rfl, T7, hS⟩; replace hx := hx.addL hS; clear hS )
    clear HC
    replace hx : Sg w (w12.alloc (.cells #[.int .i64 h7.t, .int .i64 h7.q, .slice h7.y.p h7.y.n h7.y.c, .slice h7.o.p h7.o.n h7.o.c, .slice h7.u.p h7.u.n h7.u.c, .int .i64 h7.s] 27)) (rG kG (.slice (some ⟨w12.heap.size, 0, none⟩) 1 1) [h7] :: (S7 ++ (S6 ++ (rG kG (.slice (some ⟨b5, 0, none⟩) 1 1) [h5] :: (S5 ++ (rG kG (.slice (some ⟨b4, 0, none⟩) 1 1) [h4] :: (S4 ++ (rG kG (.slice (some ⟨b3, 0, none⟩) 1 1) [h3] :: (S3 ++ (rG kG (.slice (some ⟨b2, 0, none⟩) 1 1) [h2] :: (S2 ++ (rG kG (.slice (some ⟨b1, 0, none⟩) 1 1) [h1] :: (S1 ++ []))))))))))))) := hx.lit kG [h7] 1 rfl (by decide) #[.int .i64 h7.t, .int .i64 h7.q, .slice h7.y.p h7.y.n h7.y.c, .slice h7.o.p h7.o.n h7.o.c, .slice h7.u.p h7.u.n h7.u.c, .int .i64 h7.s] rfl
    generalize w12.heap.size = b7 at *
    generalize (w12.alloc (.cells #[.int .i64 h7.t, .int .i64 h7.q, .slice h7.y.p h7.y.n h7.y.c, .slice h7.o.p h7.o.n h7.o.c, .slice h7.u.p h7.u.n h7.u.c, .int .i64 h7.s] 27)) = w13 at *
    obtain ⟨y0, y1, y2, y3, y4, y5, _, _⟩ := g6 hx (K := kG) (g := b1) (n := 1) (q := h1) (by simp) rfl
    have HC := Lib.hid (sVotedT hx T1.out (fun r h => by simp [h]) x yes hV)
    go_upto_region 11 with (go_at_call 15; refine HC.out.mono ?_; rintro ee w14 ⟨h8, S8, rfl, T8, hS⟩; replace hx := hx.addL hS; clear hS y0 y1 y2 y3 y4 y5)
    clear HC
    replace hx : Sg w (w14.alloc (.cells #[.int .i64 h8.t, .int .i64 h8.q, .slice h8.y.p h8.y.n h8.y.c, .slice h8.o.p h8.o.n h8.o.c, .slice h8.u.p h8.u.n h8.u.c, .int .i64 h8.s] 27)) (rG kG (.slice (some ⟨w14.heap.size, 0, none⟩) 1 1) [h8] :: (S8 ++ (rG kG (.slice (some ⟨b7, 0, none⟩) 1 1) [h7] :: (S7 ++ (S6 ++ (rG kG (.slice (some ⟨b5, 0, none⟩) 1 1) [h5] :: (S5 ++ (rG kG (.slice (some ⟨b4, 0, none⟩) 1 1) [h4] :: (S4 ++ (rG kG (.slice (some ⟨b3, 0, none⟩) 1 1) [h3] :: (S3 ++ (rG kG (.slice (some ⟨b2, 0, none⟩) 1 1) [h2] :: (S2 ++ (rG kG (.slice (some ⟨b1, 0, none⟩) 1 1) [h1] :: (S1 ++ []))))))))))))))) := hx.lit kG [h8] 1 rfl (by decide) #[.int .i64 h8.t, .int .i64 h8.q, .slice h8.y.p h8.y.n h8.y.c, .slice h8.o.p h8.o.n h8.o.c, .slice h8.u.p h8.u.n h8.u.c, .int .i64 h8.s] rfl
    generalize w14.heap.size = b8 at *
    generalize (w14.alloc (.cells #[.int .i64 h8.t, .int .i64 h8.q, .slice h8.y.p h8.y.n h8.y.c, .slice h8.o.p h8.o.n h8.o.c, .slice h8.u.p h8.u.n h8.u.c, .int .i64 h8.s] 27)) = w15 at *
    obtain ⟨db, hdb⟩ : ∃ b, dB d = b := ⟨_, rfl⟩
    obtain ⟨fd, hF⟩ : ∃ r, forgottenR f = r := ⟨_, rfl⟩
    go_cut [98] from 75 to 97 (fun v98 wx => v98 = .bool false ∧ Sg w wx (rG kG (.slice (some ⟨b8, 0, none⟩) 1 1) [h8] :: (S8 ++ (rG kG (.slice (some ⟨b7, 0, none⟩) 1 1) [h7] :: (S7 ++ (S6 ++ (rG kG (.slice (some ⟨b5, 0, none⟩) 1 1) [h5] :: (S5 ++ (rG kG (.slice (some ⟨b4, 0, none⟩) 1 1) [h4] :: (S4 ++ (rG kG (.slice (some ⟨b3, 0, none⟩) 1 1) [h3] :: (S3 ++ (rG kG (.slice (some ⟨b2, 0, none⟩) 1 1) [h2] :: (S2 ++ (rG kG (.slice (some ⟨b1, 0, none⟩) 1 1) [h1] :: (S1 ++ []))))))))))))))))
    case first =>
      refine Inv.wp_region_each (fun l a W => ∃ (x75 x76 x77 x78 x79 x80 x81 x82 x83 x84 x85 x86 x87 x88 x89 x90 x91 x92 x93 x94 x95 x96 x97 x98 : Value) (s1 s2 : List Rw), a = ⟨#[Value.slice pa len cap, undef, Value.bool false, Value.pointer (some { block := b1, off := 0 }), Value.int IntKind.i64 x, Value.bool yes, Value.pointer (some { block := b2, off := 0 }), Value.bool is, Value.pointer (some { block := b3, off := 0 }), Value.bool off, Value.pointer (some { block := b4, off := 0 }), Value.bool fine, Value.pointer (some { block := b5, off := 0 }), Value.slice h6.y.p h6.y.n h6.y.c, Value.slice h6.o.p h6.o.n h6.o.c, Value.pointer (some { block := b7, off := 0 }), Value.bool made, Value.pointer (some { block := b8, off := 0 }), Value.bool is, undef, undef, undef, undef, undef, undef, undef, undef, undef, undef, Value.slice pa len cap, Value.bool false, Value.tuple #[h1.v, Value.int IntKind.i64 x, Value.bool yes], Value.slice pa len cap, Value.tuple #[h1.v, Value.int IntKind.i64 x, Value.bool yes], h1.v, Value.int IntKind.i64 x, Value.bool yes, Value.tuple #[h2.v, Value.bool is], Value.agg #[Value.int IntKind.i64 h1.t, Value.int IntKind.i64 h1.q, Value.slice h1.y.p h1.y.n h1.y.c, Value.slice h1.o.p h1.o.n h1.o.c, Value.slice h1.u.p h1.u.n h1.u.c, Value.int IntKind.i64 h1.s], Value.int IntKind.i64 x, Value.bool yes, Value.tuple #[h2.v, Value.bool is], h2.v, Value.bool is, Value.tuple #[h3.v, Value.bool off], Value.slice pa len cap, Value.tuple #[h3.v, Value.bool off], h3.v, Value.bool off, Value.tuple #[h4.v, Value.bool fine], Value.agg #[Value.int IntKind.i64 h3.t, Value.int IntKind.i64 h3.q, Value.slice h3.y.p h3.y.n h3.y.c, Value.slice h3.o.p h3.o.n h3.o.c, Value.slice h3.u.p h3.u.n h3.u.c, Value.int IntKind.i64 h3.s], Value.bool off, Value.tuple #[h4.v, Value.bool fine], h4.v, Value.bool fine, Value.slice pa len cap, h5.v, Value.tuple #[Value.slice h6.y.p h6.y.n h6.y.c, Value.slice h6.o.p h6.o.n h6.o.c], Value.slice pa len cap, Value.tuple #[Value.slice h6.y.p h6.y.n h6.y.c, Value.slice h6.o.p h6.o.n h6.o.c], Value.slice h6.y.p h6.y.n h6.y.c, Value.slice h6.o.p h6.o.n h6.o.c, Value.tuple #[h7.v, Value.bool made], Value.slice h6.y.p h6.y.n h6.y.c, Value.slice h6.o.p h6.o.n h6.o.c, Value.tuple #[h7.v, Value.bool made], h7.v, Value.bool made, Value.tuple #[h8.v, Value.bool is], Value.agg #[Value.int IntKind.i64 h1.t, Value.int IntKind.i64 h1.q, Value.slice h1.y.p h1.y.n h1.y.c, Value.slice h1.o.p h1.o.n h1.o.c, Value.slice h1.u.p h1.u.n h1.u.c, Value.int IntKind.i64 h1.s], Value.int IntKind.i64 x, Value.bool yes, Value.tuple #[h8.v, Value.bool is], h8.v, Value.bool is, x75, x76, x77, x78, x79, x80, x81, x82, x83, x84, x85, x86, x87, x88, x89, x90, x91, x92, x93, x94, x95, x96, x97, x98, undef, undef, undef, undef, undef, undef, undef, undef, undef, undef, undef, undef, undef, undef, undef, undef, undef, undef, undef, undef, undef, undef, undef, undef, undef, undef, undef, undef, undef, undef, undef, undef, undef, undef, undef, undef, undef, undef, undef, undef, undef, undef, undef, undef, undef, undef, undef, undef, undef, undef, undef, undef, undef, undef, undef, undef, undef, undef, undef, undef, undef, undef, undef, undef, undef, undef, undef, undef, undef, undef, undef, undef, undef, undef, undef, undef, undef, undef, undef, undef, undef, undef, undef, undef, undef, undef, undef, undef, undef, undef, undef, undef, undef, undef, undef, undef, undef, undef, undef, undef, undef, undef, undef, undef, undef, undef], []⟩ ∧ Sg w W (s1 ++ (s2 ++ ((rG kG (.slice (some ⟨b8, 0, none⟩) 1 1) [h8] :: (S8 ++ (rG kG (.slice (some ⟨b7, 0, none⟩) 1 1) [h7] :: (S7 ++ (S6 ++ (rG kG (.slice (some ⟨b5, 0, none⟩) 1 1) [h5] :: (S5 ++ (rG kG (.slice (some ⟨b4, 0, none⟩) 1 1) [h4] :: (S4 ++ (rG kG (.slice (some ⟨b3, 0, none⟩) 1 1) [h3] :: (S3 ++ (rG kG (.slice (some ⟨b2, 0, none⟩) 1 1) [h2] :: (S2 ++ (rG kG (.slice (some ⟨b1, 0, none⟩) 1 1) [h1] :: (S1 ++ [])))))))))))))))))) ∧ C11 is db h1 h2 h5 h8 fd l x75 x76 x77 x78 x79 x80 x81 x82 x83 x84 x85 x86 x87 x88 x89 x90 x91 x92 x93 x94 x95 x96 x97 x98 s1 s2) (by kernel_rfl) (by kernel_rfl) ?_ ?_ ?_
      · refine ⟨undef, undef, undef, undef, undef, undef, undef, undef, undef, undef, undef, undef, undef, undef, undef, undef, undef, undef, undef, undef, undef, undef, undef, undef, [], [], rfl, hx.step (Below.refl _ _).drew, ?_⟩
        constructor <;> simp [Inv.D]
      · rintro l a W hD ⟨x75, x76, x77, x78, x79, x80, x81, x82, x83, x84, x85, x86, x87, x88, x89, x90, x91, x92, x93, x94, x95, x96, x97, x98, s1, s2, rfl, hS, hP⟩
        obtain rfl := hP.f98 (hD 23 (by decide))
        have hx2 := hS.sub ((List.sublist_append_right s2 _).trans (List.sublist_append_right s1 _))
        clear hP hS hD
        try dsimp only
        go_wp2_with (fail)
        go_meet
        exact ⟨rfl, hx2⟩
      · refine ⟨?_, ?_, ?_, ?_, ?_, ?_, ?_, ?_, ?_, ?_, ?_, ?_, ?_, ?_, ?_, ?_, ?_, ?_, ?_, ?_, ?_, ?_, ?_, ?_, trivial⟩
        · rintro l a W hl hd ha ⟨x75, x76, x77, x78, x79, x80, x81, x82, x83, x84, x85, x86, x87, x88, x89, x90, x91, x92, x93, x94, x95, x96, x97, x98, s1, s2, rfl, hS, hP⟩
          have hD : ∀ k, Inv.D (l.setIfInBounds 0 true) k = if k = 0 then true else Inv.D l k := fun k => Inv.D_set l 0 k (by rw [hl]; decide)
          simp [Inv.ahead, Region.binds] at ha
          refine Inv.wpOp_K rfl (fun K hK => ?_)
          go_simp
          refine hK _ _ ⟨_, x76, x77, x78, x79, x80, x81, x82, x83, x84, x85, x86, x87, x88, x89, x90, x91, x92, x93, x94, x95, x96, x97, x98, s1, s2, rfl, ?_, ?_⟩
          · exact hS
          · constructor
            all_goals simp [hD]
            all_goals (first | exact hP.f75 | exact hP.f76 | exact hP.f77 | exact hP.f78 | exact hP.f79 | exact hP.f80 | exact hP.f81 | exact hP.f82 | exact hP.f83 | exact hP.f84 | exact hP.f85 | exact hP.f86 | exact hP.f87 | exact hP.f88 | exact hP.f89 | exact hP.f90 | exact hP.f91 | exact hP.f92 | exact hP.f94 | exact hP.f96 | exact hP.f97 | exact hP.f98 | exact hP.c93 | exact hP.f93 | exact hP.c95 | exact hP.f95 | skip)
        · rintro l a W hl hd ha ⟨x75, x76, x77, x78, x79, x80, x81, x82, x83, x84, x85, x86, x87, x88, x89, x90, x91, x92, x93, x94, x95, x96, x97, x98, s1, s2, rfl, hS, hP⟩
          have hD : ∀ k, Inv.D (l.setIfInBounds 1 true) k = if k = 1 then true else Inv.D l k := fun k => Inv.D_set l 1 k (by rw [hl]; decide)
          simp [Inv.ahead, Region.binds] at ha
          refine Inv.wpOp_K rfl (fun K hK => ?_)
          go_simp
          refine hK _ _ ⟨x75, _, x77, x78, x79, x80, x81, x82, x83, x84, x85, x86, x87, x88, x89, x90, x91, x92, x93, x94, x95, x96, x97, x98, s1, s2, rfl, ?_, ?_⟩
          · exact hS
          · constructor
            all_goals simp [hD]
            all_goals (first | exact hP.f75 | exact hP.f76 | exact hP.f77 | exact hP.f78 | exact hP.f79 | exact hP.f80 | exact hP.f81 | exact hP.f82 | exact hP.f83 | exact hP.f84 | exact hP.f85 | exact hP.f86 | exact hP.f87 | exact hP.f88 | exact hP.f89 | exact hP.f90 | exact hP.f91 | exact hP.f92 | exact hP.f94 | exact hP.f96 | exact hP.f97 | exact hP.f98 | exact hP.c93 | exact hP.f93 | exact hP.c95 | exact hP.f95 | skip)
        · rintro l a W hl hd ha ⟨x75, x76, x77, x78, x79, x80, x81, x82, x83, x84, x85, x86, x87, x88, x89, x90, x91, x92, x93, x94, x95, x96, x97, x98, s1, s2, rfl, hS, hP⟩
          have hD : ∀ k, Inv.D (l.setIfInBounds 2 true) k = if k = 2 then true else Inv.D l k := fun k => Inv.D_set l 2 k (by rw [hl]; decide)
          simp [Inv.ahead, Region.binds] at ha
          obtain rfl := hP.f75 (by simp [ha])
          obtain rfl := hP.f76 (by simp [ha])
          refine Inv.wpOp_K rfl (fun K hK => ?_)
          go_simp
          refine hK _ _ ⟨_, _, _, x78, x79, x80, x81, x82, x83, x84, x85, x86, x87, x88, x89, x90, x91, x92, x93, x94, x95, x96, x97, x98, s1, s2, rfl, ?_, ?_⟩
          · exact hS
          · constructor
            all_goals simp [hD]
            all_goals (first | exact hP.f75 | exact hP.f76 | exact hP.f77 | exact hP.f78 | exact hP.f79 | exact hP.f80 | exact hP.f81 | exact hP.f82 | exact hP.f83 | exact hP.f84 | exact hP.f85 | exact hP.f86 | exact hP.f87 | exact hP.f88 | exact hP.f89 | exact hP.f90 | exact hP.f91 | exact hP.f92 | exact hP.f94 | exact hP.f96 | exact hP.f97 | exact hP.f98 | exact hP.c93 | exact hP.f93 | exact hP.c95 | exact hP.f95 | skip)
        · rintro l a W hl hd ha ⟨x75, x76, x77, x78, x79, x80, x81, x82, x83, x84, x85, x86, x87, x88, x89, x90, x91, x92, x93, x94, x95, x96, x97, x98, s1, s2, rfl, hS, hP⟩
          have hD : ∀ k, Inv.D (l.setIfInBounds 3 true) k = if k = 3 then true else Inv.D l k := fun k => Inv.D_set l 3 k (by rw [hl]; decide)
          simp [Inv.ahead, Region.binds] at ha
          obtain rfl := hP.f77 (by simp [ha])
          refine Inv.wpOp_K rfl (fun K hK => ?_)
          go_simp
          refine hK _ _ ⟨x75, x76, _, _, x79, x80, x81, x82, x83, x84, x85, x86, x87, x88, x89, x90, x91, x92, x93, x94, x95, x96, x97, x98, s1, s2, rfl, ?_, ?_⟩
          · exact hS
          · constructor
            all_goals simp [hD]
            all_goals (first | exact hP.f75 | exact hP.f76 | exact hP.f77 | exact hP.f78 | exact hP.f79 | exact hP.f80 | exact hP.f81 | exact hP.f82 | exact hP.f83 | exact hP.f84 | exact hP.f85 | exact hP.f86 | exact hP.f87 | exact hP.f88 | exact hP.f89 | exact hP.f90 | exact hP.f91 | exact hP.f92 | exact hP.f94 | exact hP.f96 | exact hP.f97 | exact hP.f98 | exact hP.c93 | exact hP.f93 | exact hP.c95 | exact hP.f95 | skip)
        · rintro l a W hl hd ha ⟨x75, x76, x77, x78, x79, x80, x81, x82, x83, x84, x85, x86, x87, x88, x89, x90, x91, x92, x93, x94, x95, x96, x97, x98, s1, s2, rfl, hS, hP⟩
          have hD : ∀ k, Inv.D (l.setIfInBounds 4 true) k = if k = 4 then true else Inv.D l k := fun k => Inv.D_set l 4 k (by rw [hl]; decide)
          simp [Inv.ahead, Region.binds] at ha
          obtain rfl := hP.f78 (by simp [ha])
          obtain ⟨t0, t1, t2, t3, t4, t5, _, _⟩ := g6 hS (K := kG) (g := b2) (n := 1) (q := h2) (by simp) rfl
          refine Inv.wpOp_K rfl (fun K hK => ?_)
          go_simp
          refine hK _ _ ⟨x75, x76, x77, _, _, x80, x81, x82, x83, x84, x85, x86, x87, x88, x89, x90, x91, x92, x93, x94, x95, x96, x97, x98, s1, s2, rfl, ?_, ?_⟩
          · exact hS
          · constructor
            all_goals simp [hD]
            all_goals (first | exact hP.f75 | exact hP.f76 | exact hP.f77 | exact hP.f78 | exact hP.f79 | exact hP.f80 | exact hP.f81 | exact hP.f82 | exact hP.f83 | exact hP.f84 | exact hP.f85 | exact hP.f86 | exact hP.f87 | exact hP.f88 | exact hP.f89 | exact hP.f90 | exact hP.f91 | exact hP.f92 | exact hP.f94 | exact hP.f96 | exact hP.f97 | exact hP.f98 | exact hP.c93 | exact hP.f93 | exact hP.c95 | exact hP.f95 | skip)
        · rintro l a W hl hd ha ⟨x75, x76, x77, x78, x79, x80, x81, x82, x83, x84, x85, x86, x87, x88, x89, x90, x91, x92, x93, x94, x95, x96, x97, x98, s1, s2, rfl, hS, hP⟩
          have hD : ∀ k, Inv.D (l.setIfInBounds 5 true) k = if k = 5 then true else Inv.D l k := fun k => Inv.D_set l 5 k (by rw [hl]; decide)
          simp [Inv.ahead, Region.binds] at ha
          obtain rfl := hP.f78 (by simp [ha])
          obtain ⟨t0, t1, t2, t3, t4, t5, _, _⟩ := g6 hS (K := kG) (g := b8) (n := 1) (q := h8) (by simp) rfl
          refine Inv.wpOp_K rfl (fun K hK => ?_)
          go_simp
          refine hK _ _ ⟨x75, x76, x77, _, x79, _, x81, x82, x83, x84, x85, x86, x87, x88, x89, x90, x91, x92, x93, x94, x95, x96, x97, x98, s1, s2, rfl, ?_, ?_⟩
          · exact hS
          · constructor
            all_goals simp [hD]
            all_goals (first | exact hP.f75 | exact hP.f76 | exact hP.f77 | exact hP.f78 | exact hP.f79 | exact hP.f80 | exact hP.f81 | exact hP.f82 | exact hP.f83 | exact hP.f84 | exact hP.f85 | exact hP.f86 | exact hP.f87 | exact hP.f88 | exact hP.f89 | exact hP.f90 | exact hP.f91 | exact hP.f92 | exact hP.f94 | exact hP.f96 | exact hP.f97 | exact hP.f98 | exact hP.c93 | exact hP.f93 | exact hP.c95 | exact hP.f95 | skip)
        · rintro l a W hl hd ha ⟨x75, x76, x77, x78, x79, x80, x81, x82, x83, x84, x85, x86, x87, x88, x89, x90, x91, x92, x93, x94, x95, x96, x97, x98, s1, s2, rfl, hS, hP⟩
          have hD : ∀ k, Inv.D (l.setIfInBounds 6 true) k = if k = 6 then true else Inv.D l k := fun k => Inv.D_set l 6 k (by rw [hl]; decide)
          simp [Inv.ahead, Region.binds] at ha
          obtain rfl := hP.f78 (by simp [ha])
          obtain rfl := hP.f79 (by simp [ha])
          obtain rfl := hP.f80 (by simp [ha])
          refine Inv.wpOp_K rfl (fun K hK => ?_)
          go_simp
          go_at_call 16
          refine (likeT hS T2 (fun r h => by simp [h]) T8 (fun r h => by simp [h])).mono ?_
          rintro e w1 ⟨rfl, hb1⟩
          refine hK _ _ ⟨x75, x76, x77, _, _, _, _, x82, x83, x84, x85, x86, x87, x88, x89, x90, x91, x92, x93, x94, x95, x96, x97, x98, s1, s2, rfl, ?_, ?_⟩
          · exact hS.step hb1
          · constructor
            all_goals simp [hD]
            all_goals (first | exact hP.f75 | exact hP.f76 | exact hP.f77 | exact hP.f78 | exact hP.f79 | exact hP.f80 | exact hP.f81 | exact hP.f82 | exact hP.f83 | exact hP.f84 | exact hP.f85 | exact hP.f86 | exact hP.f87 | exact hP.f88 | exact hP.f89 | exact hP.f90 | exact hP.f91 | exact hP.f92 | exact hP.f94 | exact hP.f96 | exact hP.f97 | exact hP.f98 | exact hP.c93 | exact hP.f93 | exact hP.c95 | exact hP.f95 | skip)
        · rintro l a W hl hd ha ⟨x75, x76, x77, x78, x79, x80, x81, x82, x83, x84, x85, x86, x87, x88, x89, x90, x91, x92, x93, x94, x95, x96, x97, x98, s1, s2, rfl, hS, hP⟩
          have hD : ∀ k, Inv.D (l.setIfInBounds 7 true) k = if k = 7 then true else Inv.D l k := fun k => Inv.D_set l 7 k (by rw [hl]; decide)
          simp [Inv.ahead, Region.binds] at ha
          obtain rfl := hP.f78 (by simp [ha])
          obtain rfl := hP.f81 (by simp [ha])
          refine Inv.wpOp_K rfl (fun K hK => ?_)
          go_simp
          refine hK _ _ ⟨x75, x76, x77, _, x79, x80, _, _, x83, x84, x85, x86, x87, x88, x89, x90, x91, x92, x93, x94, x95, x96, x97, x98, s1, s2, rfl, ?_, ?_⟩
          · exact hS
          · constructor
            all_goals simp [hD]
            all_goals (first | exact hP.f75 | exact hP.f76 | exact hP.f77 | exact hP.f78 | exact hP.f79 | exact hP.f80 | exact hP.f81 | exact hP.f82 | exact hP.f83 | exact hP.f84 | exact hP.f85 | exact hP.f86 | exact hP.f87 | exact hP.f88 | exact hP.f89 | exact hP.f90 | exact hP.f91 | exact hP.f92 | exact hP.f94 | exact hP.f96 | exact hP.f97 | exact hP.f98 | exact hP.c93 | exact hP.f93 | exact hP.c95 | exact hP.f95 | skip)
        · rintro l a W hl hd ha ⟨x75, x76, x77, x78, x79, x80, x81, x82, x83, x84, x85, x86, x87, x88, x89, x90, x91, x92, x93, x94, x95, x96, x97, x98, s1, s2, rfl, hS, hP⟩
          have hD : ∀ k, Inv.D (l.setIfInBounds 8 true) k = if k = 8 then true else Inv.D l k := fun k => Inv.D_set l 8 k (by rw [hl]; decide)
          simp [Inv.ahead, Region.binds] at ha
          obtain rfl := hP.f78 (by simp [ha])
          obtain rfl := hP.f82 (by simp [ha])
          refine Inv.wpOp_K rfl (fun K hK => ?_)
          go_simp
          refine hK _ _ ⟨x75, x76, x77, _, x79, x80, x81, _, _, x84, x85, x86, x87, x88, x89, x90, x91, x92, x93, x94, x95, x96, x97, x98, s1, s2, rfl, ?_, ?_⟩
          · exact hS
          · constructor
            all_goals simp [hD]
            all_goals (first | exact hP.f75 | exact hP.f76 | exact hP.f77 | exact hP.f78 | exact hP.f79 | exact hP.f80 | exact hP.f81 | exact hP.f82 | exact hP.f83 | exact hP.f84 | exact hP.f85 | exact hP.f86 | exact hP.f87 | exact hP.f88 | exact hP.f89 | exact hP.f90 | exact hP.f91 | exact hP.f92 | exact hP.f94 | exact hP.f96 | exact hP.f97 | exact hP.f98 | exact hP.c93 | exact hP.f93 | exact hP.c95 | exact hP.f95 | skip)
        · rintro l a W hl hd ha ⟨x75, x76, x77, x78, x79, x80, x81, x82, x83, x84, x85, x86, x87, x88, x89, x90, x91, x92, x93, x94, x95, x96, x97, x98, s1, s2, rfl, hS, hP⟩
          have hD : ∀ k, Inv.D (l.setIfInBounds 9 true) k = if k = 9 then true else Inv.D l k := fun k => Inv.D_set l 9 k (by rw [hl]; decide)
          simp [Inv.ahead, Region.binds] at ha
          obtain rfl := hP.f83 (by simp [ha])
          refine Inv.wpOp_K rfl (fun K hK => ?_)
          go_simp
          refine hK _ _ ⟨x75, x76, x77, x78, x79, x80, x81, x82, _, _, x85, x86, x87, x88, x89, x90, x91, x92, x93, x94, x95, x96, x97, x98, s1, s2, rfl, ?_, ?_⟩
          · exact hS
          · constructor
            all_goals simp [hD]
            all_goals (first | exact hP.f75 | exact hP.f76 | exact hP.f77 | exact hP.f78 | exact hP.f79 | exact hP.f80 | exact hP.f81 | exact hP.f82 | exact hP.f83 | exact hP.f84 | exact hP.f85 | exact hP.f86 | exact hP.f87 | exact hP.f88 | exact hP.f89 | exact hP.f90 | exact hP.f91 | exact hP.f92 | exact hP.f94 | exact hP.f96 | exact hP.f97 | exact hP.f98 | exact hP.c93 | exact hP.f93 | exact hP.c95 | exact hP.f95 | skip)
        · rintro l a W hl hd ha ⟨x75, x76, x77, x78, x79, x80, x81, x82, x83, x84, x85, x86, x87, x88, x89, x90, x91, x92, x93, x94, x95, x96, x97, x98, s1, s2, rfl, hS, hP⟩
          have hD : ∀ k, Inv.D (l.setIfInBounds 10 true) k = if k = 10 then true else Inv.D l k := fun k => Inv.D_set l 10 k (by rw [hl]; decide)
          simp [Inv.ahead, Region.binds] at ha
          obtain rfl := hP.f84 (by simp [ha])
          obtain ⟨t0, t1, t2, t3, t4, t5, _, _⟩ := g6 hS (K := kG) (g := b1) (n := 1) (q := h1) (by simp) rfl
          refine Inv.wpOp_K rfl (fun K hK => ?_)
          go_simp
          refine hK _ _ ⟨x75, x76, x77, x78, x79, x80, x81, x82, x83, _, _, x86, x87, x88, x89, x90, x91, x92, x93, x94, x95, x96, x97, x98, s1, s2, rfl, ?_, ?_⟩
          · exact hS
          · constructor
            all_goals simp [hD]
            all_goals (first | exact hP.f75 | exact hP.f76 | exact hP.f77 | exact hP.f78 | exact hP.f79 | exact hP.f80 | exact hP.f81 | exact hP.f82 | exact hP.f83 | exact hP.f84 | exact hP.f85 | exact hP.f86 | exact hP.f87 | exact hP.f88 | exact hP.f89 | exact hP.f90 | exact hP.f91 | exact hP.f92 | exact hP.f94 | exact hP.f96 | exact hP.f97 | exact hP.f98 | exact hP.c93 | exact hP.f93 | exact hP.c95 | exact hP.f95 | skip)
        · rintro l a W hl hd ha ⟨x75, x76, x77, x78, x79, x80, x81, x82, x83, x84, x85, x86, x87, x88, x89, x90, x91, x92, x93, x94, x95, x96, x97, x98, s1, s2, rfl, hS, hP⟩
          have hD : ∀ k, Inv.D (l.setIfInBounds 11 true) k = if k = 11 then true else Inv.D l k := fun k => Inv.D_set l 11 k (by rw [hl]; decide)
          simp [Inv.ahead, Region.binds] at ha
          obtain rfl := hP.f84 (by simp [ha])
          obtain rfl := hP.f85 (by simp [ha])
          refine Inv.wpOp_K rfl (fun K hK => ?_)
          go_simp
          go_at_call 17
          refine (iDealOkT hS T1.out (fun r h => by simp [h]) hdb).mono ?_
          rintro e w1 ⟨rfl, hb1⟩
          refine hK _ _ ⟨x75, x76, x77, x78, x79, x80, x81, x82, x83, _, _, _, x87, x88, x89, x90, x91, x92, x93, x94, x95, x96, x97, x98, s1, s2, rfl, ?_, ?_⟩
          · exact hS.step hb1
          · constructor
            all_goals simp [hD]
            all_goals (first | exact hP.f75 | exact hP.f76 | exact hP.f77 | exact hP.f78 | exact hP.f79 | exact hP.f80 | exact hP.f81 | exact hP.f82 | exact hP.f83 | exact hP.f84 | exact hP.f85 | exact hP.f86 | exact hP.f87 | exact hP.f88 | exact hP.f89 | exact hP.f90 | exact hP.f91 | exact hP.f92 | exact hP.f94 | exact hP.f96 | exact hP.f97 | exact hP.f98 | exact hP.c93 | exact hP.f93 | exact hP.c95 | exact hP.f95 | skip)
        · rintro l a W hl hd ha ⟨x75, x76, x77, x78, x79, x80, x81, x82, x83, x84, x85, x86, x87, x88, x89, x90, x91, x92, x93, x94, x95, x96, x97, x98, s1, s2, rfl, hS, hP⟩
          have hD : ∀ k, Inv.D (l.setIfInBounds 12 true) k = if k = 12 then true else Inv.D l k := fun k => Inv.D_set l 12 k (by rw [hl]; decide)
          simp [Inv.ahead, Region.binds] at ha
          obtain rfl := hP.f84 (by simp [ha])
          obtain ⟨t0, t1, t2, t3, t4, t5, _, _⟩ := g6 hS (K := kG) (g := b1) (n := 1) (q := h1) (by simp) rfl
          refine Inv.wpOp_K rfl (fun K hK => ?_)
          go_simp
          refine hK _ _ ⟨x75, x76, x77, x78, x79, x80, x81, x82, x83, _, x85, x86, _, x88, x89, x90, x91, x92, x93, x94, x95, x96, x97, x98, s1, s2, rfl, ?_, ?_⟩
          · exact hS
          · constructor
            all_goals simp [hD]
            all_goals (first | exact hP.f75 | exact hP.f76 | exact hP.f77 | exact hP.f78 | exact hP.f79 | exact hP.f80 | exact hP.f81 | exact hP.f82 | exact hP.f83 | exact hP.f84 | exact hP.f85 | exact hP.f86 | exact hP.f87 | exact hP.f88 | exact hP.f89 | exact hP.f90 | exact hP.f91 | exact hP.f92 | exact hP.f94 | exact hP.f96 | exact hP.f97 | exact hP.f98 | exact hP.c93 | exact hP.f93 | exact hP.c95 | exact hP.f95 | skip)
        · rintro l a W hl hd ha ⟨x75, x76, x77, x78, x79, x80, x81, x82, x83, x84, x85, x86, x87, x88, x89, x90, x91, x92, x93, x94, x95, x96, x97, x98, s1, s2, rfl, hS, hP⟩
          have hD : ∀ k, Inv.D (l.setIfInBounds 13 true) k = if k = 13 then true else Inv.D l k := fun k => Inv.D_set l 13 k (by rw [hl]; decide)
          simp [Inv.ahead, Region.binds] at ha
          obtain rfl := hP.f84 (by simp [ha])
          obtain rfl := hP.f87 (by simp [ha])
          refine Inv.wpOp_K rfl (fun K hK => ?_)
          go_simp
          go_at_call 18
          refine (sDealOkT hS T1.out (fun r h => by simp [h]) hdb).mono ?_
          rintro e w1 ⟨rfl, hb1⟩
          refine hK _ _ ⟨x75, x76, x77, x78, x79, x80, x81, x82, x83, _, x85, x86, _, _, x89, x90, x91, x92, x93, x94, x95, x96, x97, x98, s1, s2, rfl, ?_, ?_⟩
          · exact hS.step hb1
          · constructor
            all_goals simp [hD]
            all_goals (first | exact hP.f75 | exact hP.f76 | exact hP.f77 | exact hP.f78 | exact hP.f79 | exact hP.f80 | exact hP.f81 | exact hP.f82 | exact hP.f83 | exact hP.f84 | exact hP.f85 | exact hP.f86 | exact hP.f87 | exact hP.f88 | exact hP.f89 | exact hP.f90 | exact hP.f91 | exact hP.f92 | exact hP.f94 | exact hP.f96 | exact hP.f97 | exact hP.f98 | exact hP.c93 | exact hP.f93 | exact hP.c95 | exact hP.f95 | skip)
        · rintro l a W hl hd ha ⟨x75, x76, x77, x78, x79, x80, x81, x82, x83, x84, x85, x86, x87, x88, x89, x90, x91, x92, x93, x94, x95, x96, x97, x98, s1, s2, rfl, hS, hP⟩
          have hD : ∀ k, Inv.D (l.setIfInBounds 14 true) k = if k = 14 then true else Inv.D l k := fun k => Inv.D_set l 14 k (by rw [hl]; decide)
          simp [Inv.ahead, Region.binds] at ha
          obtain rfl := hP.f84 (by simp [ha])
          obtain rfl := hP.f86 (by simp [ha])
          obtain rfl := hP.f88 (by simp [ha])
          refine Inv.wpOp_K rfl (fun K hK => ?_)
          go_simp
          refine hK _ _ ⟨x75, x76, x77, x78, x79, x80, x81, x82, x83, _, x85, _, x87, _, _, x90, x91, x92, x93, x94, x95, x96, x97, x98, s1, s2, rfl, ?_, ?_⟩
          · exact hS
          · constructor
            all_goals simp [hD]
            all_goals (first | exact hP.f75 | exact hP.f76 | exact hP.f77 | exact hP.f78 | exact hP.f79 | exact hP.f80 | exact hP.f81 | exact hP.f82 | exact hP.f83 | exact hP.f84 | exact hP.f85 | exact hP.f86 | exact hP.f87 | exact hP.f88 | exact hP.f89 | exact hP.f90 | exact hP.f91 | exact hP.f92 | exact hP.f94 | exact hP.f96 | exact hP.f97 | exact hP.f98 | exact hP.c93 | exact hP.f93 | exact hP.c95 | exact hP.f95 | skip)
        · rintro l a W hl hd ha ⟨x75, x76, x77, x78, x79, x80, x81, x82, x83, x84, x85, x86, x87, x88, x89, x90, x91, x92, x93, x94, x95, x96, x97, x98, s1, s2, rfl, hS, hP⟩
          have hD : ∀ k, Inv.D (l.setIfInBounds 15 true) k = if k = 15 then true else Inv.D l k := fun k => Inv.D_set l 15 k (by rw [hl]; decide)
          simp [Inv.ahead, Region.binds] at ha
          obtain rfl := hP.f84 (by simp [ha])
          obtain rfl := hP.f89 (by simp [ha])
          refine Inv.wpOp_K rfl (fun K hK => ?_)
          go_simp
          refine hK _ _ ⟨x75, x76, x77, x78, x79, x80, x81, x82, x83, _, x85, x86, x87, x88, _, _, x91, x92, x93, x94, x95, x96, x97, x98, s1, s2, rfl, ?_, ?_⟩
          · exact hS
          · constructor
            all_goals simp [hD]
            all_goals (first | exact hP.f75 | exact hP.f76 | exact hP.f77 | exact hP.f78 | exact hP.f79 | exact hP.f80 | exact hP.f81 | exact hP.f82 | exact hP.f83 | exact hP.f84 | exact hP.f85 | exact hP.f86 | exact hP.f87 | exact hP.f88 | exact hP.f89 | exact hP.f90 | exact hP.f91 | exact hP.f92 | exact hP.f94 | exact hP.f96 | exact hP.f97 | exact hP.f98 | exact hP.c93 | exact hP.f93 | exact hP.c95 | exact hP.f95 | skip)
        · rintro l a W hl hd ha ⟨x75, x76, x77, x78, x79, x80, x81, x82, x83, x84, x85, x86, x87, x88, x89, x90, x91, x92, x93, x94, x95, x96, x97, x98, s1, s2, rfl, hS, hP⟩
          have hD : ∀ k, Inv.D (l.setIfInBounds 16 true) k = if k = 16 then true else Inv.D l k := fun k => Inv.D_set l 16 k (by rw [hl]; decide)
          simp [Inv.ahead, Region.binds] at ha
          obtain rfl := hP.f90 (by simp [ha])
          refine Inv.wpOp_K rfl (fun K hK => ?_)
          go_simp
          refine hK _ _ ⟨x75, x76, x77, x78, x79, x80, x81, x82, x83, x84, x85, x86, x87, x88, x89, _, _, x92, x93, x94, x95, x96, x97, x98, s1, s2, rfl, ?_, ?_⟩
          · exact hS
          · constructor
            all_goals simp [hD]
            all_goals (first | exact hP.f75 | exact hP.f76 | exact hP.f77 | exact hP.f78 | exact hP.f79 | exact hP.f80 | exact hP.f81 | exact hP.f82 | exact hP.f83 | exact hP.f84 | exact hP.f85 | exact hP.f86 | exact hP.f87 | exact hP.f88 | exact hP.f89 | exact hP.f90 | exact hP.f91 | exact hP.f92 | exact hP.f94 | exact hP.f96 | exact hP.f97 | exact hP.f98 | exact hP.c93 | exact hP.f93 | exact hP.c95 | exact hP.f95 | skip)
        · rintro l a W hl hd ha ⟨x75, x76, x77, x78, x79, x80, x81, x82, x83, x84, x85, x86, x87, x88, x89, x90, x91, x92, x93, x94, x95, x96, x97, x98, s1, s2, rfl, hS, hP⟩
          have hD : ∀ k, Inv.D (l.setIfInBounds 17 true) k = if k = 17 then true else Inv.D l k := fun k => Inv.D_set l 17 k (by rw [hl]; decide)
          simp [Inv.ahead, Region.binds] at ha
          obtain rfl := hP.f91 (by simp [ha])
          obtain ⟨t0, t1, t2, t3, t4, t5, _, _⟩ := g6 hS (K := kG) (g := b5) (n := 1) (q := h5) (by simp) rfl
          refine Inv.wpOp_K rfl (fun K hK => ?_)
          go_simp
          refine hK _ _ ⟨x75, x76, x77, x78, x79, x80, x81, x82, x83, x84, x85, x86, x87, x88, x89, x90, _, _, x93, x94, x95, x96, x97, x98, s1, s2, rfl, ?_, ?_⟩
          · exact hS
          · constructor
            all_goals simp [hD]
            all_goals (first | exact hP.f75 | exact hP.f76 | exact hP.f77 | exact hP.f78 | exact hP.f79 | exact hP.f80 | exact hP.f81 | exact hP.f82 | exact hP.f83 | exact hP.f84 | exact hP.f85 | exact hP.f86 | exact hP.f87 | exact hP.f88 | exact hP.f89 | exact hP.f90 | exact hP.f91 | exact hP.f92 | exact hP.f94 | exact hP.f96 | exact hP.f97 | exact hP.f98 | exact hP.c93 | exact hP.f93 | exact hP.c95 | exact hP.f95 | skip)
        · rintro l a W hl hd ha ⟨x75, x76, x77, x78, x79, x80, x81, x82, x83, x84, x85, x86, x87, x88, x89, x90, x91, x92, x93, x94, x95, x96, x97, x98, s1, s2, rfl, hS, hP⟩
          have hD : ∀ k, Inv.D (l.setIfInBounds 18 true) k = if k = 18 then true else Inv.D l k := fun k => Inv.D_set l 18 k (by rw [hl]; decide)
          simp [Inv.ahead, Region.binds] at ha
          obtain rfl := hP.f91 (by simp [ha])
          obtain rfl := hP.f92 (by simp [ha])
          obtain rfl := hP.c93 hd
          refine Inv.wpOp_K rfl (fun K hK => ?_)
          go_simp
          go_at_call 19
          refine (iForgottenT hS T5.out (fun r h => by simp [h]) hF).mono ?_
          rintro e w1 ⟨h', S', rfl, T', hS'⟩
          refine hK _ _ ⟨x75, x76, x77, x78, x79, x80, x81, x82, x83, x84, x85, x86, x87, x88, x89, x90, _, _, _, x94, x95, x96, x97, x98, S', s2, rfl, ?_, ?_⟩
          · exact hS.addL hS'
          · constructor
            all_goals simp [hD]
            all_goals (first | exact hP.f75 | exact hP.f76 | exact hP.f77 | exact hP.f78 | exact hP.f79 | exact hP.f80 | exact hP.f81 | exact hP.f82 | exact hP.f83 | exact hP.f84 | exact hP.f85 | exact hP.f86 | exact hP.f87 | exact hP.f88 | exact hP.f89 | exact hP.f90 | exact hP.f91 | exact hP.f92 | exact hP.f94 | exact hP.f96 | exact hP.f97 | exact hP.f98 | exact hP.c93 | exact hP.f93 | exact hP.c95 | exact hP.f95 | skip)
            · exact ⟨_, rfl, T'⟩
        · rintro l a W hl hd ha ⟨x75, x76, x77, x78, x79, x80, x81, x82, x83, x84, x85, x86, x87, x88, x89, x90, x91, x92, x93, x94, x95, x96, x97, x98, s1, s2, rfl, hS, hP⟩
          have hD : ∀ k, Inv.D (l.setIfInBounds 19 true) k = if k = 19 then true else Inv.D l k := fun k => Inv.D_set l 19 k (by rw [hl]; decide)
          simp [Inv.ahead, Region.binds] at ha
          obtain rfl := hP.f91 (by simp [ha])
          obtain ⟨t0, t1, t2, t3, t4, t5, _, _⟩ := g6 hS (K := kG) (g := b5) (n := 1) (q := h5) (by simp) rfl
          refine Inv.wpOp_K rfl (fun K hK => ?_)
          go_simp
          refine hK _ _ ⟨x75, x76, x77, x78, x79, x80, x81, x82, x83, x84, x85, x86, x87, x88, x89, x90, _, x92, x93, _, x95, x96, x97, x98, s1, s2, rfl, ?_, ?_⟩
          · exact hS
          · constructor
            all_goals simp [hD]
            all_goals (first | exact hP.f75 | exact hP.f76 | exact hP.f77 | exact hP.f78 | exact hP.f79 | exact hP.f80 | exact hP.f81 | exact hP.f82 | exact hP.f83 | exact hP.f84 | exact hP.f85 | exact hP.f86 | exact hP.f87 | exact hP.f88 | exact hP.f89 | exact hP.f90 | exact hP.f91 | exact hP.f92 | exact hP.f94 | exact hP.f96 | exact hP.f97 | exact hP.f98 | exact hP.c93 | exact hP.f93 | exact hP.c95 | exact hP.f95 | skip)
        · rintro l a W hl hd ha ⟨x75, x76, x77, x78, x79, x80, x81, x82, x83, x84, x85, x86, x87, x88, x89, x90, x91, x92, x93, x94, x95, x96, x97, x98, s1, s2, rfl, hS, hP⟩
          have hD : ∀ k, Inv.D (l.setIfInBounds 20 true) k = if k = 20 then true else Inv.D l k := fun k => Inv.D_set l 20 k (by rw [hl]; decide)
          simp [Inv.ahead, Region.binds] at ha
          obtain rfl := hP.f91 (by simp [ha])
          obtain rfl := hP.f94 (by simp [ha])
          obtain rfl := hP.c95 hd
          refine Inv.wpOp_K rfl (fun K hK => ?_)
          go_simp
          go_at_call 20
          refine (sForgottenT hS T5.out (fun r h => by simp [h]) hF).mono ?_
          rintro e w1 ⟨h', S', rfl, T', hS'⟩
          refine hK _ _ ⟨x75, x76, x77, x78, x79, x80, x81, x82, x83, x84, x85, x86, x87, x88, x89, x90, _, x92, x93, _, _, x96, x97, x98, s1, S', rfl, ?_, ?_⟩
          · exact (hS.addL hS').perm (List.perm_append_comm_assoc ..)
          · constructor
            all_goals simp [hD]
            all_goals (first | exact hP.f75 | exact hP.f76 | exact hP.f77 | exact hP.f78 | exact hP.f79 | exact hP.f80 | exact hP.f81 | exact hP.f82 | exact hP.f83 | exact hP.f84 | exact hP.f85 | exact hP.f86 | exact hP.f87 | exact hP.f88 | exact hP.f89 | exact hP.f90 | exact hP.f91 | exact hP.f92 | exact hP.f94 | exact hP.f96 | exact hP.f97 | exact hP.f98 | exact hP.c93 | exact hP.f93 | exact hP.c95 | exact hP.f95 | skip)
            · exact ⟨_, rfl, T'⟩
        · rintro l a W hl hd ha ⟨x75, x76, x77, x78, x79, x80, x81, x82, x83, x84, x85, x86, x87, x88, x89, x90, x91, x92, x93, x94, x95, x96, x97, x98, s1, s2, rfl, hS, hP⟩
          have hD : ∀ k, Inv.D (l.setIfInBounds 21 true) k = if k = 21 then true else Inv.D l k := fun k => Inv.D_set l 21 k (by rw [hl]; decide)
          simp [Inv.ahead, Region.binds] at ha
          obtain rfl := hP.f91 (by simp [ha])
          obtain ⟨hm93, rfl, Tm93⟩ := hP.f93 (by simp [ha])
          obtain ⟨hm95, rfl, Tm95⟩ := hP.f95 (by simp [ha])
          refine Inv.wpOp_K rfl (fun K hK => ?_)
          go_simp
          go_at_call 16
          refine (likeT hS Tm93 (fun r h => by simp [h]) Tm95 (fun r h => by simp [h])).mono ?_
          rintro e w1 ⟨rfl, hb1⟩
          refine hK _ _ ⟨x75, x76, x77, x78, x79, x80, x81, x82, x83, x84, x85, x86, x87, x88, x89, x90, _, x92, _, x94, _, _, x97, x98, s1, s2, rfl, ?_, ?_⟩
          · exact hS.step hb1
          · constructor
            all_goals simp [hD]
            all_goals (first | exact hP.f75 | exact hP.f76 | exact hP.f77 | exact hP.f78 | exact hP.f79 | exact hP.f80 | exact hP.f81 | exact hP.f82 | exact hP.f83 | exact hP.f84 | exact hP.f85 | exact hP.f86 | exact hP.f87 | exact hP.f88 | exact hP.f89 | exact hP.f90 | exact hP.f91 | exact hP.f92 | exact hP.f94 | exact hP.f96 | exact hP.f97 | exact hP.f98 | exact hP.c93 | exact hP.f93 | exact hP.c95 | exact hP.f95 | skip)
        · rintro l a W hl hd ha ⟨x75, x76, x77, x78, x79, x80, x81, x82, x83, x84, x85, x86, x87, x88, x89, x90, x91, x92, x93, x94, x95, x96, x97, x98, s1, s2, rfl, hS, hP⟩
          have hD : ∀ k, Inv.D (l.setIfInBounds 22 true) k = if k = 22 then true else Inv.D l k := fun k => Inv.D_set l 22 k (by rw [hl]; decide)
          simp [Inv.ahead, Region.binds] at ha
          obtain rfl := hP.f91 (by simp [ha])
          obtain rfl := hP.f96 (by simp [ha])
          refine Inv.wpOp_K rfl (fun K hK => ?_)
          go_simp
          refine hK _ _ ⟨x75, x76, x77, x78, x79, x80, x81, x82, x83, x84, x85, x86, x87, x88, x89, x90, _, x92, x93, x94, x95, _, _, x98, s1, s2, rfl, ?_, ?_⟩
          · exact hS
          · constructor
            all_goals simp [hD]
            all_goals (first | exact hP.f75 | exact hP.f76 | exact hP.f77 | exact hP.f78 | exact hP.f79 | exact hP.f80 | exact hP.f81 | exact hP.f82 | exact hP.f83 | exact hP.f84 | exact hP.f85 | exact hP.f86 | exact hP.f87 | exact hP.f88 | exact hP.f89 | exact hP.f90 | exact hP.f91 | exact hP.f92 | exact hP.f94 | exact hP.f96 | exact hP.f97 | exact hP.f98 | exact hP.c93 | exact hP.f93 | exact hP.c95 | exact hP.f95 | skip)
        · rintro l a W hl hd ha ⟨x75, x76, x77, x78, x79, x80, x81, x82, x83, x84, x85, x86, x87, x88, x89, x90, x91, x92, x93, x94, x95, x96, x97, x98, s1, s2, rfl, hS, hP⟩
          have hD : ∀ k, Inv.D (l.setIfInBounds 23 true) k = if k = 23 then true else Inv.D l k := fun k => Inv.D_set l 23 k (by rw [hl]; decide)
          simp [Inv.ahead, Region.binds] at ha
          obtain rfl := hP.f91 (by simp [ha])
          obtain rfl := hP.f97 (by simp [ha])
          refine Inv.wpOp_K rfl (fun K hK => ?_)
          go_simp
          refine hK _ _ ⟨x75, x76, x77, x78, x79, x80, x81, x82, x83, x84, x85, x86, x87, x88, x89, x90, _, x92, x93, x94, x95, x96, _, _, s1, s2, rfl, ?_, ?_⟩
          · exact hS
          · constructor
            all_goals simp [hD]
            all_goals (first | exact hP.f75 | exact hP.f76 | exact hP.f77 | exact hP.f78 | exact hP.f79 | exact hP.f80 | exact hP.f81 | exact hP.f82 | exact hP.f83 | exact hP.f84 | exact hP.f85 | exact hP.f86 | exact hP.f87 | exact hP.f88 | exact hP.f89 | exact hP.f90 | exact hP.f91 | exact hP.f92 | exact hP.f94 | exact hP.f96 | exact hP.f97 | exact hP.f98 | exact hP.c93 | exact hP.f93 | exact hP.c95 | exact hP.f95 | skip)
    case rest =>
      clear hx
      obtain ⟨rfl, hx⟩ := hcut
      obtain ⟨y0, y1, y2, y3, y4, y5, _, _⟩ := g6 hx (K := kG) (g := b3) (n := 1) (q := h3) (by simp) rfl
      have HC := Lib.hid (sDecidedT hx T3.out (fun r h => by simp [h]) off hW)
      go_upto_region 14 with (go_at_call 21; refine HC.out.mono ?_; rintro ee w16 ⟨h9, S9, rfl, T9, hS⟩; replace hx := hx.addL hS; clear hS y0 y1 y2 y3 y4 y5)
      clear HC
      replace hx : Sg w (w16.alloc (.cells #[.int .i64 h9.t, .int .i64 h9.q, .slice h9.y.p h9.y.n h9.y.c, .slice h9.o.p h9.o.n h9.o.c, .slice h9.u.p h9.u.n h9.u.c, .int .i64 h9.s] 27)) (rG kG (.slice (some ⟨w16.heap.size, 0, none⟩) 1 1) [h9] :: (S9 ++ (rG kG (.slice (some ⟨b8, 0, none⟩) 1 1) [h8] :: (S8 ++ (rG kG (.slice (some ⟨b7, 0, none⟩) 1 1) [h7] :: (S7 ++ (S6 ++ (rG kG (.slice (some ⟨b5, 0, none⟩) 1 1) [h5] :: (S5 ++ (rG kG (.slice (some ⟨b4, 0, none⟩) 1 1) [h4] :: (S4 ++ (rG kG (.slice (some ⟨b3, 0, none⟩) 1 1) [h3] :: (S3 ++ (rG kG (.slice (some ⟨b2, 0, none⟩) 1 1) [h2] :: (S2 ++ (rG kG (.slice (some ⟨b1, 0, none⟩) 1 1) [h1] :: (S1 ++ []))))))))))))))))) := hx.lit kG [h9] 1 rfl (by decide) #[.int .i64 h9.t, .int .i64 h9.q, .slice h9.y.p h9.y.n h9.y.c, .slice h9.o.p h9.o.n h9.o.c, .slice h9.u.p h9.u.n h9.u.c, .int .i64 h9.s] rfl
      generalize w16.heap.size = b9 at *
      generalize (w16.alloc (.cells #[.int .i64 h9.t, .int .i64 h9.q, .slice h9.y.p h9.y.n h9.y.c, .slice h9.o.p h9.o.n h9.o.c, .slice h9.u.p h9.u.n h9.u.c, .int .i64 h9.s] 27)) = w17 at *
      obtain ⟨y0, y1, y2, y3, y4, y5, _, _⟩ := g6 hx (K := kG) (g := b4) (n := 1) (q := h4) (by simp) rfl
      obtain ⟨z0, z1, z2, z3, z4, z5, _, _⟩ := g6 hx (K := kG) (g := b9) (n := 1) (q := h9) (by simp) rfl
      go_upto_region 16 with (go_at_call 16; refine (likeT hx T4 (fun r h => by simp [h]) T9 (fun r h => by simp [h])).mono ?_; rintro ee w18 ⟨rfl, hb1⟩; replace hx := hx.step hb1; clear hb1)
      clear y0 y1 y2 y3 y4 y5 z0 z1 z2 z3 z4 z5
      have HC := Lib.hid (sOpenedT hx T6.out (fun r h => by simp [h]) hO)
      go_upto_region 17 with (go_at_call 22; refine HC.out.mono ?_; rintro ee w19 ⟨h10, S10, rfl, T10, hS⟩; replace hx := hx.addL hS; clear hS )
      clear HC
      replace hx : Sg w (w19.alloc (.cells #[.int .i64 h10.t, .int .i64 h10.q, .slice h10.y.p h10.y.n h10.y.c, .slice h10.o.p h10.o.n h10.o.c, .slice h10.u.p h10.u.n h10.u.c, .int .i64 h10.s] 27)) (rG kG (.slice (some ⟨w19.heap.size, 0, none⟩) 1 1) [h10] :: (S10 ++ (rG kG (.slice (some ⟨b9, 0, none⟩) 1 1) [h9] :: (S9 ++ (rG kG (.slice (some ⟨b8, 0, none⟩) 1 1) [h8] :: (S8 ++ (rG kG (.slice (some ⟨b7, 0, none⟩) 1 1) [h7] :: (S7 ++ (S6 ++ (rG kG (.slice (some ⟨b5, 0, none⟩) 1 1) [h5] :: (S5 ++ (rG kG (.slice (some ⟨b4, 0, none⟩) 1 1) [h4] :: (S4 ++ (rG kG (.slice (some ⟨b3, 0, none⟩) 1 1) [h3] :: (S3 ++ (rG kG (.slice (some ⟨b2, 0, none⟩) 1 1) [h2] :: (S2 ++ (rG kG (.slice (some ⟨b1, 0, none⟩) 1 1) [h1] :: (S1 ++ []))))))))))))))))))) := hx.lit kG [h10] 1 rfl (by decide) #[.int .i64 h10.t, .int .i64 h10.q, .slice h10.y.p h10.y.n h10.y.c, .slice h10.o.p h10.o.n h10.o.c, .slice h10.u.p h10.u.n h10.u.c, .int .i64 h10.s] rfl
      generalize w19.heap.size = b10 at *
      generalize (w19.alloc (.cells #[.int .i64 h10.t, .int .i64 h10.q, .slice h10.y.p h10.y.n h10.y.c, .slice h10.o.p h10.o.n h10.o.c, .slice h10.u.p h10.u.n h10.u.c, .int .i64 h10.s] 27)) = w20 at *
      obtain ⟨y0, y1, y2, y3, y4, y5, _, _⟩ := g6 hx (K := kG) (g := b7) (n := 1) (q := h7) (by simp) rfl
      obtain ⟨z0, z1, z2, z3, z4, z5, _, _⟩ := g6 hx (K := kG) (g := b10) (n := 1) (q := h10) (by simp) rfl
      go_cut [141] from 120 to 140 (fun v141 wx => v141 = .bool false ∧ Sg w wx (rG kG (.slice (some ⟨b10, 0, none⟩) 1 1) [h10] :: (S10 ++ (rG kG (.slice (some ⟨b9, 0, none⟩) 1 1) [h9] :: (S9 ++ (rG kG (.slice (some ⟨b8, 0, none⟩) 1 1) [h8] :: (S8 ++ (rG kG (.slice (some ⟨b7, 0, none⟩) 1 1) [h7] :: (S7 ++ (S6 ++ (rG kG (.slice (some ⟨b5, 0, none⟩) 1 1) [h5] :: (S5 ++ (rG kG (.slice (some ⟨b4, 0, none⟩) 1 1) [h4] :: (S4 ++ (rG kG (.slice (some ⟨b3, 0, none⟩) 1 1) [h3] :: (S3 ++ (rG kG (.slice (some ⟨b2, 0, none⟩) 1 1) [h2] :: (S2 ++ (rG kG (.slice (some ⟨b1, 0, none⟩) 1 1) [h1] :: (S1 ++ []))))))))))))))))))))
      case first =>
        cases made
        · go_wp2_with (go_at_call 16; refine (likeT hx T7 (fun r h => by simp [h]) T10 (fun r h => by simp [h])).mono ?_; rintro ee w21 ⟨rfl, hb1⟩; replace hx := hx.step hb1; clear hb1)
          go_meet
          exact ⟨rfl, hx⟩
        · have hr0 := open_right (Y := od.Y) (O := od.O) (by rw [hO])
          rw [hO] at hr0
          obtain ⟨hr1, hr2⟩ := hr0
          have HS0 : Hid (h7.s = 0) := T7.2.2.1.trans hr2
          have HR1 := Lib.hid hr1
          clear hr1 hr2
          go_wp2_with (first
            | (go_at_call 16; refine (likeT hx T7 (fun r h => by simp [h]) T10 (fun r h => by simp [h])).mono ?_; rintro ee w21 ⟨rfl, hb1⟩; replace hx := hx.step hb1; clear hb1 y0 y1 y2 y3 y4 y5; obtain ⟨y0, y1, y2, y3, y4, y5, _, _⟩ := g6 hx (K := kG) (g := b7) (n := 1) (q := h7) (by simp) rfl)
            | (go_at_call 17; refine (iDealOkT hx T7 (fun r h => by simp [h]) HR1.out).mono ?_; rintro ee w22 ⟨rfl, hb1⟩; replace hx := hx.step hb1; clear hb1 y0 y1 y2 y3 y4 y5; obtain ⟨y0, y1, y2, y3, y4, y5, _, _⟩ := g6 hx (K := kG) (g := b7) (n := 1) (q := h7) (by simp) rfl; rw [HS0.out] at y5))
          go_meet
          exact ⟨rfl, hx⟩
      case rest =>
        clear hx y0 y1 y2 y3 y4 y5 z0 z1 z2 z3 z4 z5
        obtain ⟨rfl, hx⟩ := hcut
        go_upto_if 142 with (fail)
        obtain ⟨y0, y1, y2, y3, y4, y5, _, _⟩ := g6 hx (K := kG) (g := b2) (n := 1) (q := h2) (by simp) rfl
        go_cut [23, 24] from 143 to 156 (fun v23 v24 wx => Sg w wx (rG kG (.slice (some ⟨b10, 0, none⟩) 1 1) [h10] :: (S10 ++ (rG kG (.slice (some ⟨b9, 0, none⟩) 1 1) [h9] :: (S9 ++ (rG kG (.slice (some ⟨b8, 0, none⟩) 1 1) [h8] :: (S8 ++ (rG kG (.slice (some ⟨b7, 0, none⟩) 1 1) [h7] :: (S7 ++ (S6 ++ (rG kG (.slice (some ⟨b5, 0, none⟩) 1 1) [h5] :: (S5 ++ (rG kG (.slice (some ⟨b4, 0, none⟩) 1 1) [h4] :: (S4 ++ (rG kG (.slice (some ⟨b3, 0, none⟩) 1 1) [h3] :: (S3 ++ (rG kG (.slice (some ⟨b2, 0, none⟩) 1 1) [h2] :: (S2 ++ (rG kG (.slice (some ⟨b1, 0, none⟩) 1 1) [h1] :: (S1 ++ []))))))))))))))))))))
        case first =>
          cases is
          · go_wp2
            go_meet
            exact hx
          · obtain ⟨⟨x2, again⟩, hV2⟩ : ∃ r, votedR xd x (!yes) = r := ⟨_, rfl⟩
            have hvr := voted_right (d := d) (x := x) (yes := yes) (by rw [hV])
            have hvo := voted_once (d := d) (x := x) (yes := yes) (no := !yes) (by rw [hV])
            rw [hV] at hvr hvo
            simp only at hvr hvo
            rw [hV2] at hvo
            obtain rfl : again = false := hvo
            have HVR := Lib.hid hvr
            clear hvr
            have HC := Lib.hid (iVotedT hx T2 (fun r h => by simp [h]) x (!yes) hV2)
            go_upto_region 21 with (go_at_call 9; refine HC.out.mono ?_; rintro ee w23 ⟨h11, S11, rfl, T11, hS⟩; replace hx := hx.addL hS; clear hS y0 y1 y2 y3 y4 y5)
            clear HC
            replace hx : Sg w (w23.alloc (.cells #[.int .i64 h11.t, .int .i64 h11.q, .slice h11.y.p h11.y.n h11.y.c, .slice h11.o.p h11.o.n h11.o.c, .slice h11.u.p h11.u.n h11.u.c, .int .i64 h11.s] 27)) (rG kG (.slice (some ⟨w23.heap.size, 0, none⟩) 1 1) [h11] :: (S11 ++ (rG kG (.slice (some ⟨b10, 0, none⟩) 1 1) [h10] :: (S10 ++ (rG kG (.slice (some ⟨b9, 0, none⟩) 1 1) [h9] :: (S9 ++ (rG kG (.slice (some ⟨b8, 0, none⟩) 1 1) [h8] :: (S8 ++ (rG kG (.slice (some ⟨b7, 0, none⟩) 1 1) [h7] :: (S7 ++ (S6 ++ (rG kG (.slice (some ⟨b5, 0, none⟩) 1 1) [h5] :: (S5 ++ (rG kG (.slice (some ⟨b4, 0, none⟩) 1 1) [h4] :: (S4 ++ (rG kG (.slice (some ⟨b3, 0, none⟩) 1 1) [h3] :: (S3 ++ (rG kG (.slice (some ⟨b2, 0, none⟩) 1 1) [h2] :: (S2 ++ (rG kG (.slice (some ⟨b1, 0, none⟩) 1 1) [h1] :: (S1 ++ []))))))))))))))))))))) := hx.lit kG [h11] 1 rfl (by decide) #[.int .i64 h11.t, .int .i64 h11.q, .slice h11.y.p h11.y.n h11.y.c, .slice h11.o.p h11.o.n h11.o.c, .slice h11.u.p h11.u.n h11.u.c, .int .i64 h11.s] rfl
            generalize w23.heap.size = b11 at *
            generalize (w23.alloc (.cells #[.int .i64 h11.t, .int .i64 h11.q, .slice h11.y.p h11.y.n h11.y.c, .slice h11.o.p h11.o.n h11.o.c, .slice h11.u.p h11.u.n h11.u.c, .int .i64 h11.s] 27)) = w24 at *
            obtain ⟨y0, y1, y2, y3, y4, y5, _, _⟩ := g6 hx (K := kG) (g := b2) (n := 1) (q := h2) (by simp) rfl
            go_wp2_with (go_at_call 17; refine (iDealOkT hx T2 (fun r h => by simp [h]) HVR.out).mono ?_; rintro ee w25 ⟨rfl, hb1⟩; replace hx := hx.step hb1; clear hb1)
            go_meet
            exact (hx.sub (List.sublist_cons_self ..)).sub (List.sublist_append_right ..)
        case rest =>
          clear hx y0 y1 y2 y3 y4 y5
          have hx := hcut
          clear hcut
          cases fine
          · go_wp2
            go_ret
            exact ⟨rfl, hx.bel⟩
          · have hdr := decided_right (d := e) (off := off) (by rw [hW])
            have hdk := decided_kept (d := e) (off := off) (by rw [hW])
            have hdd := decided_done (d := e) (off := off) (by rw [hW])
            have hds := decided_stays (d := e) (off := off) (on := !off) (by rw [hW])
            rw [hW] at hdr hdk hdd hds
            simp only at hdr hdk hdd hds
            obtain ⟨⟨y2, again⟩, hW2⟩ : ∃ r, decidedR yd (!off) = r := ⟨_, rfl⟩
            rw [hW2] at hds
            obtain rfl : again = false := hds
            have HDR := Lib.hid hdr
            have HDK := Lib.hid hdk
            have HDD := Lib.hid hdd
            clear hdr hdk hdd
            have hn4 := (td_votes hx T4 (fun r h => by simp [h])).2.2
            have HVn : Hid (yd.V.length = h4.u.n) := (td_votes hx T4 (fun r h => by simp [h])).2.1
            go_wp2
            go_loopw [25, 26] (fun av iv wr => ∃ k : Nat, k ≤ h4.u.n ∧ iv = .int .i64 k ∧ av = .bool ((yd.V.take k).all (fun v => decide (v = 1))) ∧ Sg w wr (rG kG (.slice (some ⟨b10, 0, none⟩) 1 1) [h10] :: (S10 ++ (rG kG (.slice (some ⟨b9, 0, none⟩) 1 1) [h9] :: (S9 ++ (rG kG (.slice (some ⟨b8, 0, none⟩) 1 1) [h8] :: (S8 ++ (rG kG (.slice (some ⟨b7, 0, none⟩) 1 1) [h7] :: (S7 ++ (S6 ++ (rG kG (.slice (some ⟨b5, 0, none⟩) 1 1) [h5] :: (S5 ++ (rG kG (.slice (some ⟨b4, 0, none⟩) 1 1) [h4] :: (S4 ++ (rG kG (.slice (some ⟨b3, 0, none⟩) 1 1) [h3] :: (S3 ++ (rG kG (.slice (some ⟨b2, 0, none⟩) 1 1) [h2] :: (S2 ++ (rG kG (.slice (some ⟨b1, 0, none⟩) 1 1) [h1] :: (S1 ++ [])))))))))))))))))))) (fun _ iv _ => h4.u.n - (intOf iv).toNat)
            case atStart => exact ⟨0, by omega, rfl, rfl, hx⟩
            case round =>
              clear hx
              obtain ⟨k, hk, rfl, rfl, hx⟩ := hrel
              obtain ⟨y0, y1, y2, y3, y4, y5, _, _⟩ := g6 hx (K := kG) (g := b4) (n := 1) (q := h4) (by simp) rfl
              by_cases hlt : k < h4.u.n
              · have hki : (k : Int) < h4.u.n := by omega
                have hkV : k < yd.V.length := by rw [HVn.out]; exact hlt
                obtain ⟨g, of, ep, hC⟩ := ((td_votes hx T4 (fun r h => by simp [h])).1).at hkV
                have hg0 : yd.V[k]? = some (yd.V.getD k 0) := by simp [List.getD, hkV]
                have hc := hC.int hg0
                rw [ep] at y4
                have htk : (yd.V.take (k + 1)).all (fun v => decide (v = 1)) = ((yd.V.take k).all (fun v => decide (v = 1)) && decide (yd.V.getD k 0 = 1)) := by
                  rw [List.take_add_one, List.all_append, List.getD_eq_getElem?_getD, List.getElem?_eq_getElem hkV]
                  simp
                clear hg0
                generalize yd.V.getD k 0 = v at hc htk
                have HT := Lib.hid htk
                clear htk hC ep hkV
                cases hal : (yd.V.take k).all (fun v => decide (v = 1))
                · go_wp2
                  go_roundw
                  case rel => exact ⟨k + 1, by omega, by go_num, by rw [HT.out, hal]; rfl, hx⟩
                  case measure => simp [intOf]; omega
                · go_wp2
                  go_roundw
                  case rel => exact ⟨k + 1, by omega, by go_num, by rw [HT.out, hal]; simp; rfl, hx⟩
                  case measure => simp [intOf]; omega
              · obtain rfl : k = h4.u.n := by omega
                have htl : yd.V.take h4.u.n = yd.V := by rw [← HVn.out, List.take_length]
                rw [htl]
                clear htl
                obtain ⟨al, hal⟩ : ∃ b, yd.V.all (fun v => decide (v = 1)) = b := ⟨_, rfl⟩
                have HE : Hid (decide (h4.s = 1) = (al && !off)) := by
                  show decide (h4.s = 1) = (al && !off)
                  rw [← hal, T4.2.2.1]; exact HDD.out
                have HC := Lib.hid (iDecidedT hx T4 (fun r h => by simp [h]) (!off) hW2)
                rw [hal]
                go_upto_region 31 with (go_at_call 11; refine HC.out.mono ?_; rintro ee w26 ⟨h12, S12, rfl, T12, hS⟩; replace hx := hx.addL hS; clear hS y0 y1 y2 y3 y4 y5)
                clear HC
                replace hx : Sg w (w26.alloc (.cells #[.int .i64 h12.t, .int .i64 h12.q, .slice h12.y.p h12.y.n h12.y.c, .slice h12.o.p h12.o.n h12.o.c, .slice h12.u.p h12.u.n h12.u.c, .int .i64 h12.s] 27)) (rG kG (.slice (some ⟨w26.heap.size, 0, none⟩) 1 1) [h12] :: (S12 ++ (rG kG (.slice (some ⟨b10, 0, none⟩) 1 1) [h10] :: (S10 ++ (rG kG (.slice (some ⟨b9, 0, none⟩) 1 1) [h9] :: (S9 ++ (rG kG (.slice (some ⟨b8, 0, none⟩) 1 1) [h8] :: (S8 ++ (rG kG (.slice (some ⟨b7, 0, none⟩) 1 1) [h7] :: (S7 ++ (S6 ++ (rG kG (.slice (some ⟨b5, 0, none⟩) 1 1) [h5] :: (S5 ++ (rG kG (.slice (some ⟨b4, 0, none⟩) 1 1) [h4] :: (S4 ++ (rG kG (.slice (some ⟨b3, 0, none⟩) 1 1) [h3] :: (S3 ++ (rG kG (.slice (some ⟨b2, 0, none⟩) 1 1) [h2] :: (S2 ++ (rG kG (.slice (some ⟨b1, 0, none⟩) 1 1) [h1] :: (S1 ++ []))))))))))))))))))))) := hx.lit kG [h12] 1 rfl (by decide) #[.int .i64 h12.t, .int .i64 h12.q, .slice h12.y.p h12.y.n h12.y.c, .slice h12.o.p h12.o.n h12.o.c, .slice h12.u.p h12.u.n h12.u.c, .int .i64 h12.s] rfl
                generalize w26.heap.size = b12 at *
                generalize (w26.alloc (.cells #[.int .i64 h12.t, .int .i64 h12.q, .slice h12.y.p h12.y.n h12.y.c, .slice h12.o.p h12.o.n h12.o.c, .slice h12.u.p h12.u.n h12.u.c, .int .i64 h12.s] 27)) = w27 at *
                replace hx := (hx.sub (List.sublist_cons_self ..)).sub (List.sublist_append_right ..)
                clear hV hW hO hW2 hal HVn
                cases al
                · have HE2 : decide (h4.s = 1) = false := HE.out
                  refine Inv.wp_region_each (fun l a W => ∃ (x2 x182 x183 x184 x185 x186 x187 x188 x189 x190 x191 x192 x193 x194 x195 x196 x197 x198 x199 x200 x201 x202 x203 x204 : Value) (s1 : List Rw), a = ⟨#[Value.slice pa len cap, undef, x2, Value.pointer (some { block := b1, off := 0 }), Value.int IntKind.i64 x, Value.bool yes, Value.pointer (some { block := b2, off := 0 }), Value.bool is, Value.pointer (some { block := b3, off := 0 }), Value.bool off, Value.pointer (some { block := b4, off := 0 }), Value.bool true, Value.pointer (some { block := b5, off := 0 }), Value.slice h6.y.p h6.y.n h6.y.c, Value.slice h6.o.p h6.o.n h6.o.c, Value.pointer (some { block := b7, off := 0 }), Value.bool made, Value.pointer (some { block := b8, off := 0 }), Value.bool is, Value.pointer (some { block := b9, off := 0 }), Value.bool true, Value.pointer (some { block := b10, off := 0 }), Value.bool made, u23, u24, .bool false, Value.int IntKind.i64 (h4.u.n : Int), Value.pointer (some { block := b12, off := 0 }), Value.bool false, Value.slice pa len cap, Value.bool false, Value.tuple #[h1.v, Value.int IntKind.i64 x, Value.bool yes], Value.slice pa len cap, Value.tuple #[h1.v, Value.int IntKind.i64 x, Value.bool yes], h1.v, Value.int IntKind.i64 x, Value.bool yes, Value.tuple #[h2.v, Value.bool is], Value.agg #[Value.int IntKind.i64 h1.t, Value.int IntKind.i64 h1.q, Value.slice h1.y.p h1.y.n h1.y.c, Value.slice h1.o.p h1.o.n h1.o.c, Value.slice h1.u.p h1.u.n h1.u.c, Value.int IntKind.i64 h1.s], Value.int IntKind.i64 x, Value.bool yes, Value.tuple #[h2.v, Value.bool is], h2.v, Value.bool is, Value.tuple #[h3.v, Value.bool off], Value.slice pa len cap, Value.tuple #[h3.v, Value.bool off], h3.v, Value.bool off, Value.tuple #[h4.v, Value.bool true], Value.agg #[Value.int IntKind.i64 h3.t, Value.int IntKind.i64 h3.q, Value.slice h3.y.p h3.y.n h3.y.c, Value.slice h3.o.p h3.o.n h3.o.c, Value.slice h3.u.p h3.u.n h3.u.c, Value.int IntKind.i64 h3.s], Value.bool off, Value.tuple #[h4.v, Value.bool true], h4.v, Value.bool true, Value.slice pa len cap, h5.v, Value.tuple #[Value.slice h6.y.p h6.y.n h6.y.c, Value.slice h6.o.p h6.o.n h6.o.c], Value.slice pa len cap, Value.tuple #[Value.slice h6.y.p h6.y.n h6.y.c, Value.slice h6.o.p h6.o.n h6.o.c], Value.slice h6.y.p h6.y.n h6.y.c, Value.slice h6.o.p h6.o.n h6.o.c, Value.tuple #[h7.v, Value.bool made], Value.slice h6.y.p h6.y.n h6.y.c, Value.slice h6.o.p h6.o.n h6.o.c, Value.tuple #[h7.v, Value.bool made], h7.v, Value.bool made, Value.tuple #[h8.v, Value.bool is], Value.agg #[Value.int IntKind.i64 h1.t, Value.int IntKind.i64 h1.q, Value.slice h1.y.p h1.y.n h1.y.c, Value.slice h1.o.p h1.o.n h1.o.c, Value.slice h1.u.p h1.u.n h1.u.c, Value.int IntKind.i64 h1.s], Value.int IntKind.i64 x, Value.bool yes, Value.tuple #[h8.v, Value.bool is], h8.v, Value.bool is, u75, u76, u77, u78, u79, u80, u81, u82, u83, u84, u85, u86, u87, u88, u89, u90, u91, u92, u93, u94, u95, u96, u97, Value.bool false, Value.tuple #[h9.v, Value.bool true], Value.agg #[Value.int IntKind.i64 h3.t, Value.int IntKind.i64 h3.q, Value.slice h3.y.p h3.y.n h3.y.c, Value.slice h3.o.p h3.o.n h3.o.c, Value.slice h3.u.p h3.u.n h3.u.c, Value.int IntKind.i64 h3.s], Value.bool off, Value.tuple #[h9.v, Value.bool true], h9.v, Value.bool true, Value.bool true, Value.bool true, Value.bool false, Value.bool false, Value.agg #[Value.int IntKind.i64 h4.t, Value.int IntKind.i64 h4.q, Value.slice h4.y.p h4.y.n h4.y.c, Value.slice h4.o.p h4.o.n h4.o.c, Value.slice h4.u.p h4.u.n h4.u.c, Value.int IntKind.i64 h4.s], Value.agg #[Value.int IntKind.i64 h9.t, Value.int IntKind.i64 h9.q, Value.slice h9.y.p h9.y.n h9.y.c, Value.slice h9.o.p h9.o.n h9.o.c, Value.slice h9.u.p h9.u.n h9.u.c, Value.int IntKind.i64 h9.s], Value.bool true, Value.bool false, Value.bool false, Value.tuple #[h10.v, Value.bool made], Value.slice h6.y.p h6.y.n h6.y.c, Value.slice h6.o.p h6.o.n h6.o.c, Value.tuple #[h10.v, Value.bool made], h10.v, Value.bool made, u120, u121, u122, u123, u124, u125, u126, u127, u128, u129, u130, u131, u132, u133, u134, u135, u136, u137, u138, u139, u140, Value.bool false, Value.bool is, u143, u144, u145, u146, u147, u148, u149, u150, u151, u152, u153, u154, u155, u156, Value.bool true, Value.bool false, Value.int IntKind.i64 (h4.u.n : Int), Value.pointer (some { block := b4, off := 4 }), Value.slice h4.u.p h4.u.n h4.u.c, Value.int IntKind.i64 (h4.u.n : Int), Value.bool false, u164, u165, u166, u167, u168, u169, u170, u171, u172, u173, u174, Value.tuple #[h12.v, Value.bool false], Value.agg #[Value.int IntKind.i64 h4.t, Value.int IntKind.i64 h4.q, Value.slice h4.y.p h4.y.n h4.y.c, Value.slice h4.o.p h4.o.n h4.o.c, Value.slice h4.u.p h4.u.n h4.u.c, Value.int IntKind.i64 h4.s], Value.bool off, Value.bool (!off), Value.tuple #[h12.v, Value.bool false], h12.v, Value.bool false, x182, x183, x184, x185, x186, x187, x188, x189, x190, x191, x192, x193, x194, x195, x196, x197, x198, x199, x200, x201, x202, x203, x204], []⟩ ∧ Sg w W (s1 ++ ((rG kG (.slice (some ⟨b10, 0, none⟩) 1 1) [h10] :: (S10 ++ (rG kG (.slice (some ⟨b9, 0, none⟩) 1 1) [h9] :: (S9 ++ (rG kG (.slice (some ⟨b8, 0, none⟩) 1 1) [h8] :: (S8 ++ (rG kG (.slice (some ⟨b7, 0, none⟩) 1 1) [h7] :: (S7 ++ (S6 ++ (rG kG (.slice (some ⟨b5, 0, none⟩) 1 1) [h5] :: (S5 ++ (rG kG (.slice (some ⟨b4, 0, none⟩) 1 1) [h4] :: (S4 ++ (rG kG (.slice (some ⟨b3, 0, none⟩) 1 1) [h3] :: (S3 ++ (rG kG (.slice (some ⟨b2, 0, none⟩) 1 1) [h2] :: (S2 ++ (rG kG (.slice (some ⟨b1, 0, none⟩) 1 1) [h1] :: (S1 ++ []))))))))))))))))))))) ∧ C31f off b4 h4 yd l x2 x182 x183 x184 x185 x186 x187 x188 x189 x190 x191 x192 x193 x194 x195 x196 x197 x198 x199 x200 x201 x202 x203 x204 s1) (by kernel_rfl) (by kernel_rfl) ?_ ?_ ?_
                  · refine ⟨u2, undef, undef, undef, undef, undef, undef, undef, undef, undef, undef, undef, undef, undef, undef, undef, undef, undef, undef, undef, undef, undef, undef, undef, [], rfl, hx.step (Below.refl _ _).drew, ?_⟩
                    constructor <;> simp [Inv.D]
                  · rintro l a W hD ⟨x2, x182, x183, x184, x185, x186, x187, x188, x189, x190, x191, x192, x193, x194, x195, x196, x197, x198, x199, x200, x201, x202, x203, x204, s1, rfl, hS, hP⟩
                    obtain rfl := hP.f2 (hD 23 (by decide))
                    clear hP hD
                    try dsimp only
                    go_wp2_with (fail)
                    exact bodyPost_ret (v := .bool true) (by simp [results, Tryz.results3, go_sem]) rfl ⟨rfl, hS.bel⟩
                  · refine ⟨?_, ?_, ?_, ?_, ?_, ?_, ?_, ?_, ?_, ?_, ?_, ?_, ?_, ?_, ?_, ?_, ?_, ?_, ?_, ?_, ?_, ?_, ?_, ?_, trivial⟩
                    · rintro l a W hl hd ha ⟨x2, x182, x183, x184, x185, x186, x187, x188, x189, x190, x191, x192, x193, x194, x195, x196, x197, x198, x199, x200, x201, x202, x203, x204, s1, rfl, hS, hP⟩
                      have hD : ∀ k, Inv.D (l.setIfInBounds 0 true) k = if k = 0 then true else Inv.D l k := fun k => Inv.D_set l 0 k (by rw [hl]; decide)
                      simp [Inv.ahead, Region.binds] at ha
                      obtain ⟨t0, t1, t2, t3, t4, t5, _, _⟩ := g6 hS (K := kG) (g := b4) (n := 1) (q := h4) (by simp) rfl
                      refine Inv.wpOp_K rfl (fun K hK => ?_)
                      go_simp
                      refine hK _ _ ⟨x2, _, x183, x184, x185, x186, x187, x188, x189, x190, x191, x192, x193, x194, x195, x196, x197, x198, x199, x200, x201, x202, x203, x204, s1, rfl, ?_, ?_⟩
                      · exact hS
                      · constructor
                        all_goals simp [hD]
                        all_goals (first | exact hP.f182 | exact hP.f183 | exact hP.f184 | exact hP.f185 | exact hP.f186 | exact hP.f187 | exact hP.f188 | exact hP.f189 | exact hP.f190 | exact hP.f191 | exact hP.f192 | exact hP.f193 | exact hP.f194 | exact hP.f195 | exact hP.f196 | exact hP.f197 | exact hP.f198 | exact hP.f199 | exact hP.f200 | exact hP.f202 | exact hP.f203 | exact hP.f204 | exact hP.f2 | exact hP.c201 | exact hP.f201 | skip)
                    · rintro l a W hl hd ha ⟨x2, x182, x183, x184, x185, x186, x187, x188, x189, x190, x191, x192, x193, x194, x195, x196, x197, x198, x199, x200, x201, x202, x203, x204, s1, rfl, hS, hP⟩
                      have hD : ∀ k, Inv.D (l.setIfInBounds 1 true) k = if k = 1 then true else Inv.D l k := fun k => Inv.D_set l 1 k (by rw [hl]; decide)
                      simp [Inv.ahead, Region.binds] at ha
                      obtain rfl := hP.f182 (by simp [ha])
                      refine Inv.wpOp_K rfl (fun K hK => ?_)
                      go_simp
                      go_at_call 17
                      refine (iDealOkT hS T4 (fun r h => by simp [h]) HDR.out).mono ?_
                      rintro e w1 ⟨rfl, hb1⟩
                      refine hK _ _ ⟨x2, _, _, x184, x185, x186, x187, x188, x189, x190, x191, x192, x193, x194, x195, x196, x197, x198, x199, x200, x201, x202, x203, x204, s1, rfl, ?_, ?_⟩
                      · exact hS.step hb1
                      · constructor
                        all_goals simp [hD]
                        all_goals (first | exact hP.f182 | exact hP.f183 | exact hP.f184 | exact hP.f185 | exact hP.f186 | exact hP.f187 | exact hP.f188 | exact hP.f189 | exact hP.f190 | exact hP.f191 | exact hP.f192 | exact hP.f193 | exact hP.f194 | exact hP.f195 | exact hP.f196 | exact hP.f197 | exact hP.f198 | exact hP.f199 | exact hP.f200 | exact hP.f202 | exact hP.f203 | exact hP.f204 | exact hP.f2 | exact hP.c201 | exact hP.f201 | skip)
                    · rintro l a W hl hd ha ⟨x2, x182, x183, x184, x185, x186, x187, x188, x189, x190, x191, x192, x193, x194, x195, x196, x197, x198, x199, x200, x201, x202, x203, x204, s1, rfl, hS, hP⟩
                      have hD : ∀ k, Inv.D (l.setIfInBounds 2 true) k = if k = 2 then true else Inv.D l k := fun k => Inv.D_set l 2 k (by rw [hl]; decide)
                      simp [Inv.ahead, Region.binds] at ha
                      obtain rfl := hP.f183 (by simp [ha])
                      refine Inv.wpOp_K rfl (fun K hK => ?_)
                      go_simp
                      refine hK _ _ ⟨x2, x182, _, _, x185, x186, x187, x188, x189, x190, x191, x192, x193, x194, x195, x196, x197, x198, x199, x200, x201, x202, x203, x204, s1, rfl, ?_, ?_⟩
                      · exact hS
                      · constructor
                        all_goals simp [hD]
                        all_goals (first | exact hP.f182 | exact hP.f183 | exact hP.f184 | exact hP.f185 | exact hP.f186 | exact hP.f187 | exact hP.f188 | exact hP.f189 | exact hP.f190 | exact hP.f191 | exact hP.f192 | exact hP.f193 | exact hP.f194 | exact hP.f195 | exact hP.f196 | exact hP.f197 | exact hP.f198 | exact hP.f199 | exact hP.f200 | exact hP.f202 | exact hP.f203 | exact hP.f204 | exact hP.f2 | exact hP.c201 | exact hP.f201 | skip)
                    · rintro l a W hl hd ha ⟨x2, x182, x183, x184, x185, x186, x187, x188, x189, x190, x191, x192, x193, x194, x195, x196, x197, x198, x199, x200, x201, x202, x203, x204, s1, rfl, hS, hP⟩
                      have hD : ∀ k, Inv.D (l.setIfInBounds 3 true) k = if k = 3 then true else Inv.D l k := fun k => Inv.D_set l 3 k (by rw [hl]; decide)
                      simp [Inv.ahead, Region.binds] at ha
                      obtain rfl := hP.f184 (by simp [ha])
                      refine Inv.wpOp_K rfl (fun K hK => ?_)
                      go_simp
                      refine hK _ _ ⟨x2, x182, x183, _, _, x186, x187, x188, x189, x190, x191, x192, x193, x194, x195, x196, x197, x198, x199, x200, x201, x202, x203, x204, s1, rfl, ?_, ?_⟩
                      · exact hS
                      · constructor
                        all_goals simp [hD]
                        all_goals (first | exact hP.f182 | exact hP.f183 | exact hP.f184 | exact hP.f185 | exact hP.f186 | exact hP.f187 | exact hP.f188 | exact hP.f189 | exact hP.f190 | exact hP.f191 | exact hP.f192 | exact hP.f193 | exact hP.f194 | exact hP.f195 | exact hP.f196 | exact hP.f197 | exact hP.f198 | exact hP.f199 | exact hP.f200 | exact hP.f202 | exact hP.f203 | exact hP.f204 | exact hP.f2 | exact hP.c201 | exact hP.f201 | skip)
                    · rintro l a W hl hd ha ⟨x2, x182, x183, x184, x185, x186, x187, x188, x189, x190, x191, x192, x193, x194, x195, x196, x197, x198, x199, x200, x201, x202, x203, x204, s1, rfl, hS, hP⟩
                      have hD : ∀ k, Inv.D (l.setIfInBounds 4 true) k = if k = 4 then true else Inv.D l k := fun k => Inv.D_set l 4 k (by rw [hl]; decide)
                      simp [Inv.ahead, Region.binds] at ha
                      obtain rfl := hP.f184 (by simp [ha])
                      obtain rfl := hP.f185 (by simp [ha])
                      refine Inv.wpOp_K rfl (fun K hK => ?_)
                      go_simp
                      refine hK _ _ ⟨x2, x182, x183, _, _, _, x187, x188, x189, x190, x191, x192, x193, x194, x195, x196, x197, x198, x199, x200, x201, x202, x203, x204, s1, rfl, ?_, ?_⟩
                      · exact hS
                      · constructor
                        all_goals simp [hD]
                        all_goals (first | exact hP.f182 | exact hP.f183 | exact hP.f184 | exact hP.f185 | exact hP.f186 | exact hP.f187 | exact hP.f188 | exact hP.f189 | exact hP.f190 | exact hP.f191 | exact hP.f192 | exact hP.f193 | exact hP.f194 | exact hP.f195 | exact hP.f196 | exact hP.f197 | exact hP.f198 | exact hP.f199 | exact hP.f200 | exact hP.f202 | exact hP.f203 | exact hP.f204 | exact hP.f2 | exact hP.c201 | exact hP.f201 | skip)
                    · rintro l a W hl hd ha ⟨x2, x182, x183, x184, x185, x186, x187, x188, x189, x190, x191, x192, x193, x194, x195, x196, x197, x198, x199, x200, x201, x202, x203, x204, s1, rfl, hS, hP⟩
                      have hD : ∀ k, Inv.D (l.setIfInBounds 5 true) k = if k = 5 then true else Inv.D l k := fun k => Inv.D_set l 5 k (by rw [hl]; decide)
                      simp [Inv.ahead, Region.binds] at ha
                      obtain rfl := hP.f184 (by simp [ha])
                      obtain rfl := hP.f186 (by simp [ha])
                      refine Inv.wpOp_K rfl (fun K hK => ?_)
                      go_simp
                      refine hK _ _ ⟨x2, x182, x183, _, x185, _, _, x188, x189, x190, x191, x192, x193, x194, x195, x196, x197, x198, x199, x200, x201, x202, x203, x204, s1, rfl, ?_, ?_⟩
                      · exact hS
                      · constructor
                        all_goals simp [hD]
                        all_goals (first | exact hP.f182 | exact hP.f183 | exact hP.f184 | exact hP.f185 | exact hP.f186 | exact hP.f187 | exact hP.f188 | exact hP.f189 | exact hP.f190 | exact hP.f191 | exact hP.f192 | exact hP.f193 | exact hP.f194 | exact hP.f195 | exact hP.f196 | exact hP.f197 | exact hP.f198 | exact hP.f199 | exact hP.f200 | exact hP.f202 | exact hP.f203 | exact hP.f204 | exact hP.f2 | exact hP.c201 | exact hP.f201 | skip)
                    · rintro l a W hl hd ha ⟨x2, x182, x183, x184, x185, x186, x187, x188, x189, x190, x191, x192, x193, x194, x195, x196, x197, x198, x199, x200, x201, x202, x203, x204, s1, rfl, hS, hP⟩
                      have hD : ∀ k, Inv.D (l.setIfInBounds 6 true) k = if k = 6 then true else Inv.D l k := fun k => Inv.D_set l 6 k (by rw [hl]; decide)
                      simp [Inv.ahead, Region.binds] at ha
                      obtain rfl := hP.f187 (by simp [ha])
                      refine Inv.wpOp_K rfl (fun K hK => ?_)
                      go_simp
                      refine hK _ _ ⟨x2, x182, x183, x184, x185, x186, _, _, x189, x190, x191, x192, x193, x194, x195, x196, x197, x198, x199, x200, x201, x202, x203, x204, s1, rfl, ?_, ?_⟩
                      · exact hS
                      · constructor
                        all_goals simp [hD]
                        all_goals (first | exact hP.f182 | exact hP.f183 | exact hP.f184 | exact hP.f185 | exact hP.f186 | exact hP.f187 | exact hP.f188 | exact hP.f189 | exact hP.f190 | exact hP.f191 | exact hP.f192 | exact hP.f193 | exact hP.f194 | exact hP.f195 | exact hP.f196 | exact hP.f197 | exact hP.f198 | exact hP.f199 | exact hP.f200 | exact hP.f202 | exact hP.f203 | exact hP.f204 | exact hP.f2 | exact hP.c201 | exact hP.f201 | skip)
                    · rintro l a W hl hd ha ⟨x2, x182, x183, x184, x185, x186, x187, x188, x189, x190, x191, x192, x193, x194, x195, x196, x197, x198, x199, x200, x201, x202, x203, x204, s1, rfl, hS, hP⟩
                      have hD : ∀ k, Inv.D (l.setIfInBounds 7 true) k = if k = 7 then true else Inv.D l k := fun k => Inv.D_set l 7 k (by rw [hl]; decide)
                      simp [Inv.ahead, Region.binds] at ha
                      obtain rfl := hP.f188 (by simp [ha])
                      refine Inv.wpOp_K rfl (fun K hK => ?_)
                      go_simp
                      refine hK _ _ ⟨x2, x182, x183, x184, x185, x186, x187, _, _, x190, x191, x192, x193, x194, x195, x196, x197, x198, x199, x200, x201, x202, x203, x204, s1, rfl, ?_, ?_⟩
                      · exact hS
                      · constructor
                        all_goals simp [hD]
                        all_goals (first | exact hP.f182 | exact hP.f183 | exact hP.f184 | exact hP.f185 | exact hP.f186 | exact hP.f187 | exact hP.f188 | exact hP.f189 | exact hP.f190 | exact hP.f191 | exact hP.f192 | exact hP.f193 | exact hP.f194 | exact hP.f195 | exact hP.f196 | exact hP.f197 | exact hP.f198 | exact hP.f199 | exact hP.f200 | exact hP.f202 | exact hP.f203 | exact hP.f204 | exact hP.f2 | exact hP.c201 | exact hP.f201 | skip)
                    · rintro l a W hl hd ha ⟨x2, x182, x183, x184, x185, x186, x187, x188, x189, x190, x191, x192, x193, x194, x195, x196, x197, x198, x199, x200, x201, x202, x203, x204, s1, rfl, hS, hP⟩
                      have hD : ∀ k, Inv.D (l.setIfInBounds 8 true) k = if k = 8 then true else Inv.D l k := fun k => Inv.D_set l 8 k (by rw [hl]; decide)
                      simp [Inv.ahead, Region.binds] at ha
                      obtain rfl := hP.f188 (by simp [ha])
                      obtain rfl := hP.f189 (by simp [ha])
                      obtain ⟨t0, t1, t2, t3, t4, t5, _, _⟩ := g6 hS (K := kG) (g := b4) (n := 1) (q := h4) (by simp) rfl
                      refine Inv.wpOp_K rfl (fun K hK => ?_)
                      go_simp
                      refine hK _ _ ⟨x2, x182, x183, x184, x185, x186, x187, _, _, _, x191, x192, x193, x194, x195, x196, x197, x198, x199, x200, x201, x202, x203, x204, s1, rfl, ?_, ?_⟩
                      · exact hS
                      · constructor
                        all_goals simp [hD]
                        all_goals (first | exact hP.f182 | exact hP.f183 | exact hP.f184 | exact hP.f185 | exact hP.f186 | exact hP.f187 | exact hP.f188 | exact hP.f189 | exact hP.f190 | exact hP.f191 | exact hP.f192 | exact hP.f193 | exact hP.f194 | exact hP.f195 | exact hP.f196 | exact hP.f197 | exact hP.f198 | exact hP.f199 | exact hP.f200 | exact hP.f202 | exact hP.f203 | exact hP.f204 | exact hP.f2 | exact hP.c201 | exact hP.f201 | skip)
                    · rintro l a W hl hd ha ⟨x2, x182, x183, x184, x185, x186, x187, x188, x189, x190, x191, x192, x193, x194, x195, x196, x197, x198, x199, x200, x201, x202, x203, x204, s1, rfl, hS, hP⟩
                      have hD : ∀ k, Inv.D (l.setIfInBounds 9 true) k = if k = 9 then true else Inv.D l k := fun k => Inv.D_set l 9 k (by rw [hl]; decide)
                      simp [Inv.ahead, Region.binds] at ha
                      obtain rfl := hP.f188 (by simp [ha])
                      obtain rfl := hP.f190 (by simp [ha])
                      refine Inv.wpOp_K rfl (fun K hK => ?_)
                      go_simp
                      refine hK _ _ ⟨x2, x182, x183, x184, x185, x186, x187, _, x189, _, _, x192, x193, x194, x195, x196, x197, x198, x199, x200, x201, x202, x203, x204, s1, rfl, ?_, ?_⟩
                      · exact hS
                      · constructor
                        all_goals simp [hD]
                        all_goals (first | exact hP.f182 | exact hP.f183 | exact hP.f184 | exact hP.f185 | exact hP.f186 | exact hP.f187 | exact hP.f188 | exact hP.f189 | exact hP.f190 | exact hP.f191 | exact hP.f192 | exact hP.f193 | exact hP.f194 | exact hP.f195 | exact hP.f196 | exact hP.f197 | exact hP.f198 | exact hP.f199 | exact hP.f200 | exact hP.f202 | exact hP.f203 | exact hP.f204 | exact hP.f2 | exact hP.c201 | exact hP.f201 | skip)
                        · first | exact HE2 | (rw [← HE2]; rfl) | (simpa using HE2) | simp [HE2]
                    · rintro l a W hl hd ha ⟨x2, x182, x183, x184, x185, x186, x187, x188, x189, x190, x191, x192, x193, x194, x195, x196, x197, x198, x199, x200, x201, x202, x203, x204, s1, rfl, hS, hP⟩
                      have hD : ∀ k, Inv.D (l.setIfInBounds 10 true) k = if k = 10 then true else Inv.D l k := fun k => Inv.D_set l 10 k (by rw [hl]; decide)
                      simp [Inv.ahead, Region.binds] at ha
                      obtain rfl := hP.f188 (by simp [ha])
                      refine Inv.wpOp_K rfl (fun K hK => ?_)
                      go_simp
                      refine hK _ _ ⟨x2, x182, x183, x184, x185, x186, x187, _, x189, x190, x191, _, x193, x194, x195, x196, x197, x198, x199, x200, x201, x202, x203, x204, s1, rfl, ?_, ?_⟩
                      · exact hS
                      · constructor
                        all_goals simp [hD]
                        all_goals (first | exact hP.f182 | exact hP.f183 | exact hP.f184 | exact hP.f185 | exact hP.f186 | exact hP.f187 | exact hP.f188 | exact hP.f189 | exact hP.f190 | exact hP.f191 | exact hP.f192 | exact hP.f193 | exact hP.f194 | exact hP.f195 | exact hP.f196 | exact hP.f197 | exact hP.f198 | exact hP.f199 | exact hP.f200 | exact hP.f202 | exact hP.f203 | exact hP.f204 | exact hP.f2 | exact hP.c201 | exact hP.f201 | skip)
                    · rintro l a W hl hd ha ⟨x2, x182, x183, x184, x185, x186, x187, x188, x189, x190, x191, x192, x193, x194, x195, x196, x197, x198, x199, x200, x201, x202, x203, x204, s1, rfl, hS, hP⟩
                      have hD : ∀ k, Inv.D (l.setIfInBounds 11 true) k = if k = 11 then true else Inv.D l k := fun k => Inv.D_set l 11 k (by rw [hl]; decide)
                      simp [Inv.ahead, Region.binds] at ha
                      obtain rfl := hP.f188 (by simp [ha])
                      obtain rfl := hP.f192 (by simp [ha])
                      refine Inv.wpOp_K rfl (fun K hK => ?_)
                      go_simp
                      refine hK _ _ ⟨x2, x182, x183, x184, x185, x186, x187, _, x189, x190, x191, _, _, x194, x195, x196, x197, x198, x199, x200, x201, x202, x203, x204, s1, rfl, ?_, ?_⟩
                      · exact hS
                      · constructor
                        all_goals simp [hD]
                        all_goals (first | exact hP.f182 | exact hP.f183 | exact hP.f184 | exact hP.f185 | exact hP.f186 | exact hP.f187 | exact hP.f188 | exact hP.f189 | exact hP.f190 | exact hP.f191 | exact hP.f192 | exact hP.f193 | exact hP.f194 | exact hP.f195 | exact hP.f196 | exact hP.f197 | exact hP.f198 | exact hP.f199 | exact hP.f200 | exact hP.f202 | exact hP.f203 | exact hP.f204 | exact hP.f2 | exact hP.c201 | exact hP.f201 | skip)
                    · rintro l a W hl hd ha ⟨x2, x182, x183, x184, x185, x186, x187, x188, x189, x190, x191, x192, x193, x194, x195, x196, x197, x198, x199, x200, x201, x202, x203, x204, s1, rfl, hS, hP⟩
                      have hD : ∀ k, Inv.D (l.setIfInBounds 12 true) k = if k = 12 then true else Inv.D l k := fun k => Inv.D_set l 12 k (by rw [hl]; decide)
                      simp [Inv.ahead, Region.binds] at ha
                      obtain rfl := hP.f193 (by simp [ha])
                      refine Inv.wpOp_K rfl (fun K hK => ?_)
                      go_simp
                      refine hK _ _ ⟨x2, x182, x183, x184, x185, x186, x187, x188, x189, x190, x191, x192, _, _, x195, x196, x197, x198, x199, x200, x201, x202, x203, x204, s1, rfl, ?_, ?_⟩
                      · exact hS
                      · constructor
                        all_goals simp [hD]
                        all_goals (first | exact hP.f182 | exact hP.f183 | exact hP.f184 | exact hP.f185 | exact hP.f186 | exact hP.f187 | exact hP.f188 | exact hP.f189 | exact hP.f190 | exact hP.f191 | exact hP.f192 | exact hP.f193 | exact hP.f194 | exact hP.f195 | exact hP.f196 | exact hP.f197 | exact hP.f198 | exact hP.f199 | exact hP.f200 | exact hP.f202 | exact hP.f203 | exact hP.f204 | exact hP.f2 | exact hP.c201 | exact hP.f201 | skip)
                    · rintro l a W hl hd ha ⟨x2, x182, x183, x184, x185, x186, x187, x188, x189, x190, x191, x192, x193, x194, x195, x196, x197, x198, x199, x200, x201, x202, x203, x204, s1, rfl, hS, hP⟩
                      have hD : ∀ k, Inv.D (l.setIfInBounds 13 true) k = if k = 13 then true else Inv.D l k := fun k => Inv.D_set l 13 k (by rw [hl]; decide)
                      simp [Inv.ahead, Region.binds] at ha
                      obtain rfl := hP.f193 (by simp [ha])
                      obtain rfl := hP.f194 (by simp [ha])
                      refine Inv.wpOp_K rfl (fun K hK => ?_)
                      go_simp
                      refine hK _ _ ⟨x2, x182, x183, x184, x185, x186, x187, x188, x189, x190, x191, x192, _, _, _, x196, x197, x198, x199, x200, x201, x202, x203, x204, s1, rfl, ?_, ?_⟩
                      · exact hS
                      · constructor
                        all_goals simp [hD]
                        all_goals (first | exact hP.f182 | exact hP.f183 | exact hP.f184 | exact hP.f185 | exact hP.f186 | exact hP.f187 | exact hP.f188 | exact hP.f189 | exact hP.f190 | exact hP.f191 | exact hP.f192 | exact hP.f193 | exact hP.f194 | exact hP.f195 | exact hP.f196 | exact hP.f197 | exact hP.f198 | exact hP.f199 | exact hP.f200 | exact hP.f202 | exact hP.f203 | exact hP.f204 | exact hP.f2 | exact hP.c201 | exact hP.f201 | skip)
                    · rintro l a W hl hd ha ⟨x2, x182, x183, x184, x185, x186, x187, x188, x189, x190, x191, x192, x193, x194, x195, x196, x197, x198, x199, x200, x201, x202, x203, x204, s1, rfl, hS, hP⟩
                      have hD : ∀ k, Inv.D (l.setIfInBounds 14 true) k = if k = 14 then true else Inv.D l k := fun k => Inv.D_set l 14 k (by rw [hl]; decide)
                      simp [Inv.ahead, Region.binds] at ha
                      obtain rfl := hP.f188 (by simp [ha])
                      obtain rfl := hP.f193 (by simp [ha])
                      obtain rfl := hP.f195 (by simp [ha])
                      refine Inv.wpOp_K rfl (fun K hK => ?_)
                      go_simp
                      refine hK _ _ ⟨x2, x182, x183, x184, x185, x186, x187, _, x189, x190, x191, x192, _, x194, _, _, x197, x198, x199, x200, x201, x202, x203, x204, s1, rfl, ?_, ?_⟩
                      · exact hS
                      · constructor
                        all_goals simp [hD]
                        all_goals (first | exact hP.f182 | exact hP.f183 | exact hP.f184 | exact hP.f185 | exact hP.f186 | exact hP.f187 | exact hP.f188 | exact hP.f189 | exact hP.f190 | exact hP.f191 | exact hP.f192 | exact hP.f193 | exact hP.f194 | exact hP.f195 | exact hP.f196 | exact hP.f197 | exact hP.f198 | exact hP.f199 | exact hP.f200 | exact hP.f202 | exact hP.f203 | exact hP.f204 | exact hP.f2 | exact hP.c201 | exact hP.f201 | skip)
                    · rintro l a W hl hd ha ⟨x2, x182, x183, x184, x185, x186, x187, x188, x189, x190, x191, x192, x193, x194, x195, x196, x197, x198, x199, x200, x201, x202, x203, x204, s1, rfl, hS, hP⟩
                      have hD : ∀ k, Inv.D (l.setIfInBounds 15 true) k = if k = 15 then true else Inv.D l k := fun k => Inv.D_set l 15 k (by rw [hl]; decide)
                      simp [Inv.ahead, Region.binds] at ha
                      obtain rfl := hP.f188 (by simp [ha])
                      obtain rfl := hP.f191 (by simp [ha])
                      obtain rfl := hP.f196 (by simp [ha])
                      refine Inv.wpOp_K rfl (fun K hK => ?_)
                      go_simp
                      refine hK _ _ ⟨x2, x182, x183, x184, x185, x186, x187, _, x189, x190, _, x192, x193, x194, x195, _, _, x198, x199, x200, x201, x202, x203, x204, s1, rfl, ?_, ?_⟩
                      · exact hS
                      · constructor
                        all_goals simp [hD]
                        all_goals (first | exact hP.f182 | exact hP.f183 | exact hP.f184 | exact hP.f185 | exact hP.f186 | exact hP.f187 | exact hP.f188 | exact hP.f189 | exact hP.f190 | exact hP.f191 | exact hP.f192 | exact hP.f193 | exact hP.f194 | exact hP.f195 | exact hP.f196 | exact hP.f197 | exact hP.f198 | exact hP.f199 | exact hP.f200 | exact hP.f202 | exact hP.f203 | exact hP.f204 | exact hP.f2 | exact hP.c201 | exact hP.f201 | skip)
                    · rintro l a W hl hd ha ⟨x2, x182, x183, x184, x185, x186, x187, x188, x189, x190, x191, x192, x193, x194, x195, x196, x197, x198, x199, x200, x201, x202, x203, x204, s1, rfl, hS, hP⟩
                      have hD : ∀ k, Inv.D (l.setIfInBounds 16 true) k = if k = 16 then true else Inv.D l k := fun k => Inv.D_set l 16 k (by rw [hl]; decide)
                      simp [Inv.ahead, Region.binds] at ha
                      obtain rfl := hP.f188 (by simp [ha])
                      obtain rfl := hP.f197 (by simp [ha])
                      refine Inv.wpOp_K rfl (fun K hK => ?_)
                      go_simp
                      refine hK _ _ ⟨x2, x182, x183, x184, x185, x186, x187, _, x189, x190, x191, x192, x193, x194, x195, x196, _, _, x199, x200, x201, x202, x203, x204, s1, rfl, ?_, ?_⟩
                      · exact hS
                      · constructor
                        all_goals simp [hD]
                        all_goals (first | exact hP.f182 | exact hP.f183 | exact hP.f184 | exact hP.f185 | exact hP.f186 | exact hP.f187 | exact hP.f188 | exact hP.f189 | exact hP.f190 | exact hP.f191 | exact hP.f192 | exact hP.f193 | exact hP.f194 | exact hP.f195 | exact hP.f196 | exact hP.f197 | exact hP.f198 | exact hP.f199 | exact hP.f200 | exact hP.f202 | exact hP.f203 | exact hP.f204 | exact hP.f2 | exact hP.c201 | exact hP.f201 | skip)
                    · rintro l a W hl hd ha ⟨x2, x182, x183, x184, x185, x186, x187, x188, x189, x190, x191, x192, x193, x194, x195, x196, x197, x198, x199, x200, x201, x202, x203, x204, s1, rfl, hS, hP⟩
                      have hD : ∀ k, Inv.D (l.setIfInBounds 17 true) k = if k = 17 then true else Inv.D l k := fun k => Inv.D_set l 17 k (by rw [hl]; decide)
                      simp [Inv.ahead, Region.binds] at ha
                      obtain rfl := hP.f198 (by simp [ha])
                      refine Inv.wpOp_K rfl (fun K hK => ?_)
                      go_simp
                      refine hK _ _ ⟨x2, x182, x183, x184, x185, x186, x187, x188, x189, x190, x191, x192, x193, x194, x195, x196, x197, _, _, x200, x201, x202, x203, x204, s1, rfl, ?_, ?_⟩
                      · exact hS
                      · constructor
                        all_goals simp [hD]
                        all_goals (first | exact hP.f182 | exact hP.f183 | exact hP.f184 | exact hP.f185 | exact hP.f186 | exact hP.f187 | exact hP.f188 | exact hP.f189 | exact hP.f190 | exact hP.f191 | exact hP.f192 | exact hP.f193 | exact hP.f194 | exact hP.f195 | exact hP.f196 | exact hP.f197 | exact hP.f198 | exact hP.f199 | exact hP.f200 | exact hP.f202 | exact hP.f203 | exact hP.f204 | exact hP.f2 | exact hP.c201 | exact hP.f201 | skip)
                    · rintro l a W hl hd ha ⟨x2, x182, x183, x184, x185, x186, x187, x188, x189, x190, x191, x192, x193, x194, x195, x196, x197, x198, x199, x200, x201, x202, x203, x204, s1, rfl, hS, hP⟩
                      have hD : ∀ k, Inv.D (l.setIfInBounds 18 true) k = if k = 18 then true else Inv.D l k := fun k => Inv.D_set l 18 k (by rw [hl]; decide)
                      simp [Inv.ahead, Region.binds] at ha
                      obtain rfl := hP.f199 (by simp [ha])
                      obtain ⟨t0, t1, t2, t3, t4, t5, _, _⟩ := g6 hS (K := kG) (g := b4) (n := 1) (q := h4) (by simp) rfl
                      refine Inv.wpOp_K rfl (fun K hK => ?_)
                      go_simp
                      refine hK _ _ ⟨x2, x182, x183, x184, x185, x186, x187, x188, x189, x190, x191, x192, x193, x194, x195, x196, x197, x198, _, _, x201, x202, x203, x204, s1, rfl, ?_, ?_⟩
                      · exact hS
                      · constructor
                        all_goals simp [hD]
                        all_goals (first | exact hP.f182 | exact hP.f183 | exact hP.f184 | exact hP.f185 | exact hP.f186 | exact hP.f187 | exact hP.f188 | exact hP.f189 | exact hP.f190 | exact hP.f191 | exact hP.f192 | exact hP.f193 | exact hP.f194 | exact hP.f195 | exact hP.f196 | exact hP.f197 | exact hP.f198 | exact hP.f199 | exact hP.f200 | exact hP.f202 | exact hP.f203 | exact hP.f204 | exact hP.f2 | exact hP.c201 | exact hP.f201 | skip)
                    · rintro l a W hl hd ha ⟨x2, x182, x183, x184, x185, x186, x187, x188, x189, x190, x191, x192, x193, x194, x195, x196, x197, x198, x199, x200, x201, x202, x203, x204, s1, rfl, hS, hP⟩
                      have hD : ∀ k, Inv.D (l.setIfInBounds 19 true) k = if k = 19 then true else Inv.D l k := fun k => Inv.D_set l 19 k (by rw [hl]; decide)
                      simp [Inv.ahead, Region.binds] at ha
                      obtain rfl := hP.f199 (by simp [ha])
                      obtain rfl := hP.f200 (by simp [ha])
                      obtain rfl := hP.c201 hd
                      refine Inv.wpOp_K rfl (fun K hK => ?_)
                      go_simp
                      go_at_call 19
                      refine (iForgottenT hS T4 (fun r h => by simp [h]) HDK.out).mono ?_
                      rintro e w1 ⟨h', S', rfl, T', hS'⟩
                      refine hK _ _ ⟨x2, x182, x183, x184, x185, x186, x187, x188, x189, x190, x191, x192, x193, x194, x195, x196, x197, x198, _, _, _, x202, x203, x204, S', rfl, ?_, ?_⟩
                      · exact hS.addL hS'
                      · constructor
                        all_goals simp [hD]
                        all_goals (first | exact hP.f182 | exact hP.f183 | exact hP.f184 | exact hP.f185 | exact hP.f186 | exact hP.f187 | exact hP.f188 | exact hP.f189 | exact hP.f190 | exact hP.f191 | exact hP.f192 | exact hP.f193 | exact hP.f194 | exact hP.f195 | exact hP.f196 | exact hP.f197 | exact hP.f198 | exact hP.f199 | exact hP.f200 | exact hP.f202 | exact hP.f203 | exact hP.f204 | exact hP.f2 | exact hP.c201 | exact hP.f201 | skip)
                        · exact ⟨_, rfl, T'⟩
                    · rintro l a W hl hd ha ⟨x2, x182, x183, x184, x185, x186, x187, x188, x189, x190, x191, x192, x193, x194, x195, x196, x197, x198, x199, x200, x201, x202, x203, x204, s1, rfl, hS, hP⟩
                      have hD : ∀ k, Inv.D (l.setIfInBounds 20 true) k = if k = 20 then true else Inv.D l k := fun k => Inv.D_set l 20 k (by rw [hl]; decide)
                      simp [Inv.ahead, Region.binds] at ha
                      obtain rfl := hP.f199 (by simp [ha])
                      obtain ⟨t0, t1, t2, t3, t4, t5, _, _⟩ := g6 hS (K := kG) (g := b4) (n := 1) (q := h4) (by simp) rfl
                      refine Inv.wpOp_K rfl (fun K hK => ?_)
                      go_simp
                      refine hK _ _ ⟨x2, x182, x183, x184, x185, x186, x187, x188, x189, x190, x191, x192, x193, x194, x195, x196, x197, x198, _, x200, x201, _, x203, x204, s1, rfl, ?_, ?_⟩
                      · exact hS
                      · constructor
                        all_goals simp [hD]
                        all_goals (first | exact hP.f182 | exact hP.f183 | exact hP.f184 | exact hP.f185 | exact hP.f186 | exact hP.f187 | exact hP.f188 | exact hP.f189 | exact hP.f190 | exact hP.f191 | exact hP.f192 | exact hP.f193 | exact hP.f194 | exact hP.f195 | exact hP.f196 | exact hP.f197 | exact hP.f198 | exact hP.f199 | exact hP.f200 | exact hP.f202 | exact hP.f203 | exact hP.f204 | exact hP.f2 | exact hP.c201 | exact hP.f201 | skip)
                    · rintro l a W hl hd ha ⟨x2, x182, x183, x184, x185, x186, x187, x188, x189, x190, x191, x192, x193, x194, x195, x196, x197, x198, x199, x200, x201, x202, x203, x204, s1, rfl, hS, hP⟩
                      have hD : ∀ k, Inv.D (l.setIfInBounds 21 true) k = if k = 21 then true else Inv.D l k := fun k => Inv.D_set l 21 k (by rw [hl]; decide)
                      simp [Inv.ahead, Region.binds] at ha
                      obtain rfl := hP.f199 (by simp [ha])
                      obtain ⟨hm201, rfl, Tm201⟩ := hP.f201 (by simp [ha])
                      obtain rfl := hP.f202 (by simp [ha])
                      refine Inv.wpOp_K rfl (fun K hK => ?_)
                      go_simp
                      go_at_call 16
                      refine (likeT hS Tm201 (fun r h => by simp [h]) T4 (fun r h => by simp [h])).mono ?_
                      rintro e w1 ⟨rfl, hb1⟩
                      refine hK _ _ ⟨x2, x182, x183, x184, x185, x186, x187, x188, x189, x190, x191, x192, x193, x194, x195, x196, x197, x198, _, x200, _, _, _, x204, s1, rfl, ?_, ?_⟩
                      · exact hS.step hb1
                      · constructor
                        all_goals simp [hD]
                        all_goals (first | exact hP.f182 | exact hP.f183 | exact hP.f184 | exact hP.f185 | exact hP.f186 | exact hP.f187 | exact hP.f188 | exact hP.f189 | exact hP.f190 | exact hP.f191 | exact hP.f192 | exact hP.f193 | exact hP.f194 | exact hP.f195 | exact hP.f196 | exact hP.f197 | exact hP.f198 | exact hP.f199 | exact hP.f200 | exact hP.f202 | exact hP.f203 | exact hP.f204 | exact hP.f2 | exact hP.c201 | exact hP.f201 | skip)
                    · rintro l a W hl hd ha ⟨x2, x182, x183, x184, x185, x186, x187, x188, x189, x190, x191, x192, x193, x194, x195, x196, x197, x198, x199, x200, x201, x202, x203, x204, s1, rfl, hS, hP⟩
                      have hD : ∀ k, Inv.D (l.setIfInBounds 22 true) k = if k = 22 then true else Inv.D l k := fun k => Inv.D_set l 22 k (by rw [hl]; decide)
                      simp [Inv.ahead, Region.binds] at ha
                      obtain rfl := hP.f199 (by simp [ha])
                      obtain rfl := hP.f203 (by simp [ha])
                      refine Inv.wpOp_K rfl (fun K hK => ?_)
                      go_simp
                      refine hK _ _ ⟨x2, x182, x183, x184, x185, x186, x187, x188, x189, x190, x191, x192, x193, x194, x195, x196, x197, x198, _, x200, x201, x202, _, _, s1, rfl, ?_, ?_⟩
                      · exact hS
                      · constructor
                        all_goals simp [hD]
                        all_goals (first | exact hP.f182 | exact hP.f183 | exact hP.f184 | exact hP.f185 | exact hP.f186 | exact hP.f187 | exact hP.f188 | exact hP.f189 | exact hP.f190 | exact hP.f191 | exact hP.f192 | exact hP.f193 | exact hP.f194 | exact hP.f195 | exact hP.f196 | exact hP.f197 | exact hP.f198 | exact hP.f199 | exact hP.f200 | exact hP.f202 | exact hP.f203 | exact hP.f204 | exact hP.f2 | exact hP.c201 | exact hP.f201 | skip)
                    · rintro l a W hl hd ha ⟨x2, x182, x183, x184, x185, x186, x187, x188, x189, x190, x191, x192, x193, x194, x195, x196, x197, x198, x199, x200, x201, x202, x203, x204, s1, rfl, hS, hP⟩
                      have hD : ∀ k, Inv.D (l.setIfInBounds 23 true) k = if k = 23 then true else Inv.D l k := fun k => Inv.D_set l 23 k (by rw [hl]; decide)
                      simp [Inv.ahead, Region.binds] at ha
                      obtain rfl := hP.f204 (by simp [ha])
                      refine Inv.wpOp_K rfl (fun K hK => ?_)
                      go_simp
                      refine hK _ _ ⟨_, x182, x183, x184, x185, x186, x187, x188, x189, x190, x191, x192, x193, x194, x195, x196, x197, x198, x199, x200, x201, x202, x203, _, s1, rfl, ?_, ?_⟩
                      · exact hS
                      · constructor
                        all_goals simp [hD]
                        all_goals (first | exact hP.f182 | exact hP.f183 | exact hP.f184 | exact hP.f185 | exact hP.f186 | exact hP.f187 | exact hP.f188 | exact hP.f189 | exact hP.f190 | exact hP.f191 | exact hP.f192 | exact hP.f193 | exact hP.f194 | exact hP.f195 | exact hP.f196 | exact hP.f197 | exact hP.f198 | exact hP.f199 | exact hP.f200 | exact hP.f202 | exact hP.f203 | exact hP.f204 | exact hP.f2 | exact hP.c201 | exact hP.f201 | skip)
                · have HE2 : decide (h4.s = 1) = !off := HE.out.trans (Bool.true_and _)
                  refine Inv.wp_region_each (fun l a W => ∃ (x2 x182 x183 x184 x185 x186 x187 x188 x189 x190 x191 x192 x193 x194 x195 x196 x197 x198 x199 x200 x201 x202 x203 x204 : Value) (s1 : List Rw), a = ⟨#[Value.slice pa len cap, undef, x2, Value.pointer (some { block := b1, off := 0 }), Value.int IntKind.i64 x, Value.bool yes, Value.pointer (some { block := b2, off := 0 }), Value.bool is, Value.pointer (some { block := b3, off := 0 }), Value.bool off, Value.pointer (some { block := b4, off := 0 }), Value.bool true, Value.pointer (some { block := b5, off := 0 }), Value.slice h6.y.p h6.y.n h6.y.c, Value.slice h6.o.p h6.o.n h6.o.c, Value.pointer (some { block := b7, off := 0 }), Value.bool made, Value.pointer (some { block := b8, off := 0 }), Value.bool is, Value.pointer (some { block := b9, off := 0 }), Value.bool true, Value.pointer (some { block := b10, off := 0 }), Value.bool made, u23, u24, .bool true, Value.int IntKind.i64 (h4.u.n : Int), Value.pointer (some { block := b12, off := 0 }), Value.bool false, Value.slice pa len cap, Value.bool false, Value.tuple #[h1.v, Value.int IntKind.i64 x, Value.bool yes], Value.slice pa len cap, Value.tuple #[h1.v, Value.int IntKind.i64 x, Value.bool yes], h1.v, Value.int IntKind.i64 x, Value.bool yes, Value.tuple #[h2.v, Value.bool is], Value.agg #[Value.int IntKind.i64 h1.t, Value.int IntKind.i64 h1.q, Value.slice h1.y.p h1.y.n h1.y.c, Value.slice h1.o.p h1.o.n h1.o.c, Value.slice h1.u.p h1.u.n h1.u.c, Value.int IntKind.i64 h1.s], Value.int IntKind.i64 x, Value.bool yes, Value.tuple #[h2.v, Value.bool is], h2.v, Value.bool is, Value.tuple #[h3.v, Value.bool off], Value.slice pa len cap, Value.tuple #[h3.v, Value.bool off], h3.v, Value.bool off, Value.tuple #[h4.v, Value.bool true], Value.agg #[Value.int IntKind.i64 h3.t, Value.int IntKind.i64 h3.q, Value.slice h3.y.p h3.y.n h3.y.c, Value.slice h3.o.p h3.o.n h3.o.c, Value.slice h3.u.p h3.u.n h3.u.c, Value.int IntKind.i64 h3.s], Value.bool off, Value.tuple #[h4.v, Value.bool true], h4.v, Value.bool true, Value.slice pa len cap, h5.v, Value.tuple #[Value.slice h6.y.p h6.y.n h6.y.c, Value.slice h6.o.p h6.o.n h6.o.c], Value.slice pa len cap, Value.tuple #[Value.slice h6.y.p h6.y.n h6.y.c, Value.slice h6.o.p h6.o.n h6.o.c], Value.slice h6.y.p h6.y.n h6.y.c, Value.slice h6.o.p h6.o.n h6.o.c, Value.tuple #[h7.v, Value.bool made], Value.slice h6.y.p h6.y.n h6.y.c, Value.slice h6.o.p h6.o.n h6.o.c, Value.tuple #[h7.v, Value.bool made], h7.v, Value.bool made, Value.tuple #[h8.v, Value.bool is], Value.agg #[Value.int IntKind.i64 h1.t, Value.int IntKind.i64 h1.q, Value.slice h1.y.p h1.y.n h1.y.c, Value.slice h1.o.p h1.o.n h1.o.c, Value.slice h1.u.p h1.u.n h1.u.c, Value.int IntKind.i64 h1.s], Value.int IntKind.i64 x, Value.bool yes, Value.tuple #[h8.v, Value.bool is], h8.v, Value.bool is, u75, u76, u77, u78, u79, u80, u81, u82, u83, u84, u85, u86, u87, u88, u89, u90, u91, u92, u93, u94, u95, u96, u97, Value.bool false, Value.tuple #[h9.v, Value.bool true], Value.agg #[Value.int IntKind.i64 h3.t, Value.int IntKind.i64 h3.q, Value.slice h3.y.p h3.y.n h3.y.c, Value.slice h3.o.p h3.o.n h3.o.c, Value.slice h3.u.p h3.u.n h3.u.c, Value.int IntKind.i64 h3.s], Value.bool off, Value.tuple #[h9.v, Value.bool true], h9.v, Value.bool true, Value.bool true, Value.bool true, Value.bool false, Value.bool false, Value.agg #[Value.int IntKind.i64 h4.t, Value.int IntKind.i64 h4.q, Value.slice h4.y.p h4.y.n h4.y.c, Value.slice h4.o.p h4.o.n h4.o.c, Value.slice h4.u.p h4.u.n h4.u.c, Value.int IntKind.i64 h4.s], Value.agg #[Value.int IntKind.i64 h9.t, Value.int IntKind.i64 h9.q, Value.slice h9.y.p h9.y.n h9.y.c, Value.slice h9.o.p h9.o.n h9.o.c, Value.slice h9.u.p h9.u.n h9.u.c, Value.int IntKind.i64 h9.s], Value.bool true, Value.bool false, Value.bool false, Value.tuple #[h10.v, Value.bool made], Value.slice h6.y.p h6.y.n h6.y.c, Value.slice h6.o.p h6.o.n h6.o.c, Value.tuple #[h10.v, Value.bool made], h10.v, Value.bool made, u120, u121, u122, u123, u124, u125, u126, u127, u128, u129, u130, u131, u132, u133, u134, u135, u136, u137, u138, u139, u140, Value.bool false, Value.bool is, u143, u144, u145, u146, u147, u148, u149, u150, u151, u152, u153, u154, u155, u156, Value.bool true, Value.bool false, Value.int IntKind.i64 (h4.u.n : Int), Value.pointer (some { block := b4, off := 4 }), Value.slice h4.u.p h4.u.n h4.u.c, Value.int IntKind.i64 (h4.u.n : Int), Value.bool false, u164, u165, u166, u167, u168, u169, u170, u171, u172, u173, u174, Value.tuple #[h12.v, Value.bool false], Value.agg #[Value.int IntKind.i64 h4.t, Value.int IntKind.i64 h4.q, Value.slice h4.y.p h4.y.n h4.y.c, Value.slice h4.o.p h4.o.n h4.o.c, Value.slice h4.u.p h4.u.n h4.u.c, Value.int IntKind.i64 h4.s], Value.bool off, Value.bool (!off), Value.tuple #[h12.v, Value.bool false], h12.v, Value.bool false, x182, x183, x184, x185, x186, x187, x188, x189, x190, x191, x192, x193, x194, x195, x196, x197, x198, x199, x200, x201, x202, x203, x204], []⟩ ∧ Sg w W (s1 ++ ((rG kG (.slice (some ⟨b10, 0, none⟩) 1 1) [h10] :: (S10 ++ (rG kG (.slice (some ⟨b9, 0, none⟩) 1 1) [h9] :: (S9 ++ (rG kG (.slice (some ⟨b8, 0, none⟩) 1 1) [h8] :: (S8 ++ (rG kG (.slice (some ⟨b7, 0, none⟩) 1 1) [h7] :: (S7 ++ (S6 ++ (rG kG (.slice (some ⟨b5, 0, none⟩) 1 1) [h5] :: (S5 ++ (rG kG (.slice (some ⟨b4, 0, none⟩) 1 1) [h4] :: (S4 ++ (rG kG (.slice (some ⟨b3, 0, none⟩) 1 1) [h3] :: (S3 ++ (rG kG (.slice (some ⟨b2, 0, none⟩) 1 1) [h2] :: (S2 ++ (rG kG (.slice (some ⟨b1, 0, none⟩) 1 1) [h1] :: (S1 ++ []))))))))))))))))))))) ∧ C31t off b4 h4 yd l x2 x182 x183 x184 x185 x186 x187 x188 x189 x190 x191 x192 x193 x194 x195 x196 x197 x198 x199 x200 x201 x202 x203 x204 s1) (by kernel_rfl) (by kernel_rfl) ?_ ?_ ?_
                  · refine ⟨u2, undef, undef, undef, undef, undef, undef, undef, undef, undef, undef, undef, undef, undef, undef, undef, undef, undef, undef, undef, undef, undef, undef, undef, [], rfl, hx.step (Below.refl _ _).drew, ?_⟩
                    constructor <;> simp [Inv.D]
                  · rintro l a W hD ⟨x2, x182, x183, x184, x185, x186, x187, x188, x189, x190, x191, x192, x193, x194, x195, x196, x197, x198, x199, x200, x201, x202, x203, x204, s1, rfl, hS, hP⟩
                    obtain rfl := hP.f2 (hD 23 (by decide))
                    clear hP hD
                    try dsimp only
                    go_wp2_with (fail)
                    exact bodyPost_ret (v := .bool true) (by simp [results, Tryz.results3, go_sem]) rfl ⟨rfl, hS.bel⟩
                  · refine ⟨?_, ?_, ?_, ?_, ?_, ?_, ?_, ?_, ?_, ?_, ?_, ?_, ?_, ?_, ?_, ?_, ?_, ?_, ?_, ?_, ?_, ?_, ?_, ?_, trivial⟩
                    · rintro l a W hl hd ha ⟨x2, x182, x183, x184, x185, x186, x187, x188, x189, x190, x191, x192, x193, x194, x195, x196, x197, x198, x199, x200, x201, x202, x203, x204, s1, rfl, hS, hP⟩
                      have hD : ∀ k, Inv.D (l.setIfInBounds 0 true) k = if k = 0 then true else Inv.D l k := fun k => Inv.D_set l 0 k (by rw [hl]; decide)
                      simp [Inv.ahead, Region.binds] at ha
                      obtain ⟨t0, t1, t2, t3, t4, t5, _, _⟩ := g6 hS (K := kG) (g := b4) (n := 1) (q := h4) (by simp) rfl
                      refine Inv.wpOp_K rfl (fun K hK => ?_)
                      go_simp
                      refine hK _ _ ⟨x2, _, x183, x184, x185, x186, x187, x188, x189, x190, x191, x192, x193, x194, x195, x196, x197, x198, x199, x200, x201, x202, x203, x204, s1, rfl, ?_, ?_⟩
                      · exact hS
                      · constructor
                        all_goals simp [hD]
                        all_goals (first | exact hP.f182 | exact hP.f183 | exact hP.f184 | exact hP.f185 | exact hP.f186 | exact hP.f187 | exact hP.f188 | exact hP.f189 | exact hP.f190 | exact hP.f191 | exact hP.f192 | exact hP.f193 | exact hP.f194 | exact hP.f195 | exact hP.f196 | exact hP.f197 | exact hP.f198 | exact hP.f199 | exact hP.f200 | exact hP.f202 | exact hP.f203 | exact hP.f204 | exact hP.f2 | exact hP.c201 | exact hP.f201 | skip)
                    · rintro l a W hl hd ha ⟨x2, x182, x183, x184, x185, x186, x187, x188, x189, x190, x191, x192, x193, x194, x195, x196, x197, x198, x199, x200, x201, x202, x203, x204, s1, rfl, hS, hP⟩
                      have hD : ∀ k, Inv.D (l.setIfInBounds 1 true) k = if k = 1 then true else Inv.D l k := fun k => Inv.D_set l 1 k (by rw [hl]; decide)
                      simp [Inv.ahead, Region.binds] at ha
                      obtain rfl := hP.f182 (by simp [ha])
                      refine Inv.wpOp_K rfl (fun K hK => ?_)
                      go_simp
                      go_at_call 17
                      refine (iDealOkT hS T4 (fun r h => by simp [h]) HDR.out).mono ?_
                      rintro e w1 ⟨rfl, hb1⟩
                      refine hK _ _ ⟨x2, _, _, x184, x185, x186, x187, x188, x189, x190, x191, x192, x193, x194, x195, x196, x197, x198, x199, x200, x201, x202, x203, x204, s1, rfl, ?_, ?_⟩
                      · exact hS.step hb1
                      · constructor
                        all_goals simp [hD]
                        all_goals (first | exact hP.f182 | exact hP.f183 | exact hP.f184 | exact hP.f185 | exact hP.f186 | exact hP.f187 | exact hP.f188 | exact hP.f189 | exact hP.f190 | exact hP.f191 | exact hP.f192 | exact hP.f193 | exact hP.f194 | exact hP.f195 | exact hP.f196 | exact hP.f197 | exact hP.f198 | exact hP.f199 | exact hP.f200 | exact hP.f202 | exact hP.f203 | exact hP.f204 | exact hP.f2 | exact hP.c201 | exact hP.f201 | skip)
                    · rintro l a W hl hd ha ⟨x2, x182, x183, x184, x185, x186, x187, x188, x189, x190, x191, x192, x193, x194, x195, x196, x197, x198, x199, x200, x201, x202, x203, x204, s1, rfl, hS, hP⟩
                      have hD : ∀ k, Inv.D (l.setIfInBounds 2 true) k = if k = 2 then true else Inv.D l k := fun k => Inv.D_set l 2 k (by rw [hl]; decide)
                      simp [Inv.ahead, Region.binds] at ha
                      obtain rfl := hP.f183 (by simp [ha])
                      refine Inv.wpOp_K rfl (fun K hK => ?_)
                      go_simp
                      refine hK _ _ ⟨x2, x182, _, _, x185, x186, x187, x188, x189, x190, x191, x192, x193, x194, x195, x196, x197, x198, x199, x200, x201, x202, x203, x204, s1, rfl, ?_, ?_⟩
                      · exact hS
                      · constructor
                        all_goals simp [hD]
                        all_goals (first | exact hP.f182 | exact hP.f183 | exact hP.f184 | exact hP.f185 | exact hP.f186 | exact hP.f187 | exact hP.f188 | exact hP.f189 | exact hP.f190 | exact hP.f191 | exact hP.f192 | exact hP.f193 | exact hP.f194 | exact hP.f195 | exact hP.f196 | exact hP.f197 | exact hP.f198 | exact hP.f199 | exact hP.f200 | exact hP.f202 | exact hP.f203 | exact hP.f204 | exact hP.f2 | exact hP.c201 | exact hP.f201 | skip)
                    · rintro l a W hl hd ha ⟨x2, x182, x183, x184, x185, x186, x187, x188, x189, x190, x191, x192, x193, x194, x195, x196, x197, x198, x199, x200, x201, x202, x203, x204, s1, rfl, hS, hP⟩
                      have hD : ∀ k, Inv.D (l.setIfInBounds 3 true) k = if k = 3 then true else Inv.D l k := fun k => Inv.D_set l 3 k (by rw [hl]; decide)
                      simp [Inv.ahead, Region.binds] at ha
                      obtain rfl := hP.f184 (by simp [ha])
                      refine Inv.wpOp_K rfl (fun K hK => ?_)
                      go_simp
                      refine hK _ _ ⟨x2, x182, x183, _, _, x186, x187, x188, x189, x190, x191, x192, x193, x194, x195, x196, x197, x198, x199, x200, x201, x202, x203, x204, s1, rfl, ?_, ?_⟩
                      · exact hS
                      · constructor
                        all_goals simp [hD]
                        all_goals (first | exact hP.f182 | exact hP.f183 | exact hP.f184 | exact hP.f185 | exact hP.f186 | exact hP.f187 | exact hP.f188 | exact hP.f189 | exact hP.f190 | exact hP.f191 | exact hP.f192 | exact hP.f193 | exact hP.f194 | exact hP.f195 | exact hP.f196 | exact hP.f197 | exact hP.f198 | exact hP.f199 | exact hP.f200 | exact hP.f202 | exact hP.f203 | exact hP.f204 | exact hP.f2 | exact hP.c201 | exact hP.f201 | skip)
                    · rintro l a W hl hd ha ⟨x2, x182, x183, x184, x185, x186, x187, x188, x189, x190, x191, x192, x193, x194, x195, x196, x197, x198, x199, x200, x201, x202, x203, x204, s1, rfl, hS, hP⟩
                      have hD : ∀ k, Inv.D (l.setIfInBounds 4 true) k = if k = 4 then true else Inv.D l k := fun k => Inv.D_set l 4 k (by rw [hl]; decide)
                      simp [Inv.ahead, Region.binds] at ha
                      obtain rfl := hP.f184 (by simp [ha])
                      obtain rfl := hP.f185 (by simp [ha])
                      refine Inv.wpOp_K rfl (fun K hK => ?_)
                      go_simp
                      refine hK _ _ ⟨x2, x182, x183, _, _, _, x187, x188, x189, x190, x191, x192, x193, x194, x195, x196, x197, x198, x199, x200, x201, x202, x203, x204, s1, rfl, ?_, ?_⟩
                      · exact hS
                      · constructor
                        all_goals simp [hD]
                        all_goals (first | exact hP.f182 | exact hP.f183 | exact hP.f184 | exact hP.f185 | exact hP.f186 | exact hP.f187 | exact hP.f188 | exact hP.f189 | exact hP.f190 | exact hP.f191 | exact hP.f192 | exact hP.f193 | exact hP.f194 | exact hP.f195 | exact hP.f196 | exact hP.f197 | exact hP.f198 | exact hP.f199 | exact hP.f200 | exact hP.f202 | exact hP.f203 | exact hP.f204 | exact hP.f2 | exact hP.c201 | exact hP.f201 | skip)
                    · rintro l a W hl hd ha ⟨x2, x182, x183, x184, x185, x186, x187, x188, x189, x190, x191, x192, x193, x194, x195, x196, x197, x198, x199, x200, x201, x202, x203, x204, s1, rfl, hS, hP⟩
                      have hD : ∀ k, Inv.D (l.setIfInBounds 5 true) k = if k = 5 then true else Inv.D l k := fun k => Inv.D_set l 5 k (by rw [hl]; decide)
                      simp [Inv.ahead, Region.binds] at ha
                      obtain rfl := hP.f184 (by simp [ha])
                      obtain rfl := hP.f186 (by simp [ha])
                      refine Inv.wpOp_K rfl (fun K hK => ?_)
                      go_simp
                      refine hK _ _ ⟨x2, x182, x183, _, x185, _, _, x188, x189, x190, x191, x192, x193, x194, x195, x196, x197, x198, x199, x200, x201, x202, x203, x204, s1, rfl, ?_, ?_⟩
                      · exact hS
                      · constructor
                        all_goals simp [hD]
                        all_goals (first | exact hP.f182 | exact hP.f183 | exact hP.f184 | exact hP.f185 | exact hP.f186 | exact hP.f187 | exact hP.f188 | exact hP.f189 | exact hP.f190 | exact hP.f191 | exact hP.f192 | exact hP.f193 | exact hP.f194 | exact hP.f195 | exact hP.f196 | exact hP.f197 | exact hP.f198 | exact hP.f199 | exact hP.f200 | exact hP.f202 | exact hP.f203 | exact hP.f204 | exact hP.f2 | exact hP.c201 | exact hP.f201 | skip)
                    · rintro l a W hl hd ha ⟨x2, x182, x183, x184, x185, x186, x187, x188, x189, x190, x191, x192, x193, x194, x195, x196, x197, x198, x199, x200, x201, x202, x203, x204, s1, rfl, hS, hP⟩
                      have hD : ∀ k, Inv.D (l.setIfInBounds 6 true) k = if k = 6 then true else Inv.D l k := fun k => Inv.D_set l 6 k (by rw [hl]; decide)
                      simp [Inv.ahead, Region.binds] at ha
                      obtain rfl := hP.f187 (by simp [ha])
                      refine Inv.wpOp_K rfl (fun K hK => ?_)
                      go_simp
                      refine hK _ _ ⟨x2, x182, x183, x184, x185, x186, _, _, x189, x190, x191, x192, x193, x194, x195, x196, x197, x198, x199, x200, x201, x202, x203, x204, s1, rfl, ?_, ?_⟩
                      · exact hS
                      · constructor
                        all_goals simp [hD]
                        all_goals (first | exact hP.f182 | exact hP.f183 | exact hP.f184 | exact hP.f185 | exact hP.f186 | exact hP.f187 | exact hP.f188 | exact hP.f189 | exact hP.f190 | exact hP.f191 | exact hP.f192 | exact hP.f193 | exact hP.f194 | exact hP.f195 | exact hP.f196 | exact hP.f197 | exact hP.f198 | exact hP.f199 | exact hP.f200 | exact hP.f202 | exact hP.f203 | exact hP.f204 | exact hP.f2 | exact hP.c201 | exact hP.f201 | skip)
                    · rintro l a W hl hd ha ⟨x2, x182, x183, x184, x185, x186, x187, x188, x189, x190, x191, x192, x193, x194, x195, x196, x197, x198, x199, x200, x201, x202, x203, x204, s1, rfl, hS, hP⟩
                      have hD : ∀ k, Inv.D (l.setIfInBounds 7 true) k = if k = 7 then true else Inv.D l k := fun k => Inv.D_set l 7 k (by rw [hl]; decide)
                      simp [Inv.ahead, Region.binds] at ha
                      obtain rfl := hP.f188 (by simp [ha])
                      refine Inv.wpOp_K rfl (fun K hK => ?_)
                      go_simp
                      refine hK _ _ ⟨x2, x182, x183, x184, x185, x186, x187, _, _, x190, x191, x192, x193, x194, x195, x196, x197, x198, x199, x200, x201, x202, x203, x204, s1, rfl, ?_, ?_⟩
                      · exact hS
                      · constructor
                        all_goals simp [hD]
                        all_goals (first | exact hP.f182 | exact hP.f183 | exact hP.f184 | exact hP.f185 | exact hP.f186 | exact hP.f187 | exact hP.f188 | exact hP.f189 | exact hP.f190 | exact hP.f191 | exact hP.f192 | exact hP.f193 | exact hP.f194 | exact hP.f195 | exact hP.f196 | exact hP.f197 | exact hP.f198 | exact hP.f199 | exact hP.f200 | exact hP.f202 | exact hP.f203 | exact hP.f204 | exact hP.f2 | exact hP.c201 | exact hP.f201 | skip)
                    · rintro l a W hl hd ha ⟨x2, x182, x183, x184, x185, x186, x187, x188, x189, x190, x191, x192, x193, x194, x195, x196, x197, x198, x199, x200, x201, x202, x203, x204, s1, rfl, hS, hP⟩
                      have hD : ∀ k, Inv.D (l.setIfInBounds 8 true) k = if k = 8 then true else Inv.D l k := fun k => Inv.D_set l 8 k (by rw [hl]; decide)
                      simp [Inv.ahead, Region.binds] at ha
                      obtain rfl := hP.f188 (by simp [ha])
                      obtain rfl := hP.f189 (by simp [ha])
                      obtain ⟨t0, t1, t2, t3, t4, t5, _, _⟩ := g6 hS (K := kG) (g := b4) (n := 1) (q := h4) (by simp) rfl
                      refine Inv.wpOp_K rfl (fun K hK => ?_)
                      go_simp
                      refine hK _ _ ⟨x2, x182, x183, x184, x185, x186, x187, _, _, _, x191, x192, x193, x194, x195, x196, x197, x198, x199, x200, x201, x202, x203, x204, s1, rfl, ?_, ?_⟩
                      · exact hS
                      · constructor
                        all_goals simp [hD]
                        all_goals (first | exact hP.f182 | exact hP.f183 | exact hP.f184 | exact hP.f185 | exact hP.f186 | exact hP.f187 | exact hP.f188 | exact hP.f189 | exact hP.f190 | exact hP.f191 | exact hP.f192 | exact hP.f193 | exact hP.f194 | exact hP.f195 | exact hP.f196 | exact hP.f197 | exact hP.f198 | exact hP.f199 | exact hP.f200 | exact hP.f202 | exact hP.f203 | exact hP.f204 | exact hP.f2 | exact hP.c201 | exact hP.f201 | skip)
                    · rintro l a W hl hd ha ⟨x2, x182, x183, x184, x185, x186, x187, x188, x189, x190, x191, x192, x193, x194, x195, x196, x197, x198, x199, x200, x201, x202, x203, x204, s1, rfl, hS, hP⟩
                      have hD : ∀ k, Inv.D (l.setIfInBounds 9 true) k = if k = 9 then true else Inv.D l k := fun k => Inv.D_set l 9 k (by rw [hl]; decide)
                      simp [Inv.ahead, Region.binds] at ha
                      obtain rfl := hP.f188 (by simp [ha])
                      obtain rfl := hP.f190 (by simp [ha])
                      refine Inv.wpOp_K rfl (fun K hK => ?_)
                      go_simp
                      refine hK _ _ ⟨x2, x182, x183, x184, x185, x186, x187, _, x189, _, _, x192, x193, x194, x195, x196, x197, x198, x199, x200, x201, x202, x203, x204, s1, rfl, ?_, ?_⟩
                      · exact hS
                      · constructor
                        all_goals simp [hD]
                        all_goals (first | exact hP.f182 | exact hP.f183 | exact hP.f184 | exact hP.f185 | exact hP.f186 | exact hP.f187 | exact hP.f188 | exact hP.f189 | exact hP.f190 | exact hP.f191 | exact hP.f192 | exact hP.f193 | exact hP.f194 | exact hP.f195 | exact hP.f196 | exact hP.f197 | exact hP.f198 | exact hP.f199 | exact hP.f200 | exact hP.f202 | exact hP.f203 | exact hP.f204 | exact hP.f2 | exact hP.c201 | exact hP.f201 | skip)
                        · first | exact HE2 | (rw [← HE2]; rfl) | (simpa using HE2) | simp [HE2]
                    · rintro l a W hl hd ha ⟨x2, x182, x183, x184, x185, x186, x187, x188, x189, x190, x191, x192, x193, x194, x195, x196, x197, x198, x199, x200, x201, x202, x203, x204, s1, rfl, hS, hP⟩
                      have hD : ∀ k, Inv.D (l.setIfInBounds 10 true) k = if k = 10 then true else Inv.D l k := fun k => Inv.D_set l 10 k (by rw [hl]; decide)
                      simp [Inv.ahead, Region.binds] at ha
                      obtain rfl := hP.f188 (by simp [ha])
                      refine Inv.wpOp_K rfl (fun K hK => ?_)
                      go_simp
                      refine hK _ _ ⟨x2, x182, x183, x184, x185, x186, x187, _, x189, x190, x191, _, x193, x194, x195, x196, x197, x198, x199, x200, x201, x202, x203, x204, s1, rfl, ?_, ?_⟩
                      · exact hS
                      · constructor
                        all_goals simp [hD]
                        all_goals (first | exact hP.f182 | exact hP.f183 | exact hP.f184 | exact hP.f185 | exact hP.f186 | exact hP.f187 | exact hP.f188 | exact hP.f189 | exact hP.f190 | exact hP.f191 | exact hP.f192 | exact hP.f193 | exact hP.f194 | exact hP.f195 | exact hP.f196 | exact hP.f197 | exact hP.f198 | exact hP.f199 | exact hP.f200 | exact hP.f202 | exact hP.f203 | exact hP.f204 | exact hP.f2 | exact hP.c201 | exact hP.f201 | skip)
                    · rintro l a W hl hd ha ⟨x2, x182, x183, x184, x185, x186, x187, x188, x189, x190, x191, x192, x193, x194, x195, x196, x197, x198, x199, x200, x201, x202, x203, x204, s1, rfl, hS, hP⟩
                      have hD : ∀ k, Inv.D (l.setIfInBounds 11 true) k = if k = 11 then true else Inv.D l k := fun k => Inv.D_set l 11 k (by rw [hl]; decide)
                      simp [Inv.ahead, Region.binds] at ha
                      obtain rfl := hP.f188 (by simp [ha])
                      obtain rfl := hP.f192 (by simp [ha])
                      refine Inv.wpOp_K rfl (fun K hK => ?_)
                      go_simp
                      refine hK _ _ ⟨x2, x182, x183, x184, x185, x186, x187, _, x189, x190, x191, _, _, x194, x195, x196, x197, x198, x199, x200, x201, x202, x203, x204, s1, rfl, ?_, ?_⟩
                      · exact hS
                      · constructor
                        all_goals simp [hD]
                        all_goals (first | exact hP.f182 | exact hP.f183 | exact hP.f184 | exact hP.f185 | exact hP.f186 | exact hP.f187 | exact hP.f188 | exact hP.f189 | exact hP.f190 | exact hP.f191 | exact hP.f192 | exact hP.f193 | exact hP.f194 | exact hP.f195 | exact hP.f196 | exact hP.f197 | exact hP.f198 | exact hP.f199 | exact hP.f200 | exact hP.f202 | exact hP.f203 | exact hP.f204 | exact hP.f2 | exact hP.c201 | exact hP.f201 | skip)
                    · rintro l a W hl hd ha ⟨x2, x182, x183, x184, x185, x186, x187, x188, x189, x190, x191, x192, x193, x194, x195, x196, x197, x198, x199, x200, x201, x202, x203, x204, s1, rfl, hS, hP⟩
                      have hD : ∀ k, Inv.D (l.setIfInBounds 12 true) k = if k = 12 then true else Inv.D l k := fun k => Inv.D_set l 12 k (by rw [hl]; decide)
                      simp [Inv.ahead, Region.binds] at ha
                      obtain rfl := hP.f193 (by simp [ha])
                      refine Inv.wpOp_K rfl (fun K hK => ?_)
                      go_simp
                      refine hK _ _ ⟨x2, x182, x183, x184, x185, x186, x187, x188, x189, x190, x191, x192, _, _, x195, x196, x197, x198, x199, x200, x201, x202, x203, x204, s1, rfl, ?_, ?_⟩
                      · exact hS
                      · constructor
                        all_goals simp [hD]
                        all_goals (first | exact hP.f182 | exact hP.f183 | exact hP.f184 | exact hP.f185 | exact hP.f186 | exact hP.f187 | exact hP.f188 | exact hP.f189 | exact hP.f190 | exact hP.f191 | exact hP.f192 | exact hP.f193 | exact hP.f194 | exact hP.f195 | exact hP.f196 | exact hP.f197 | exact hP.f198 | exact hP.f199 | exact hP.f200 | exact hP.f202 | exact hP.f203 | exact hP.f204 | exact hP.f2 | exact hP.c201 | exact hP.f201 | skip)
                    · rintro l a W hl hd ha ⟨x2, x182, x183, x184, x185, x186, x187, x188, x189, x190, x191, x192, x193, x194, x195, x196, x197, x198, x199, x200, x201, x202, x203, x204, s1, rfl, hS, hP⟩
                      have hD : ∀ k, Inv.D (l.setIfInBounds 13 true) k = if k = 13 then true else Inv.D l k := fun k => Inv.D_set l 13 k (by rw [hl]; decide)
                      simp [Inv.ahead, Region.binds] at ha
                      obtain rfl := hP.f193 (by simp [ha])
                      obtain rfl := hP.f194 (by simp [ha])
                      refine Inv.wpOp_K rfl (fun K hK => ?_)
                      go_simp
                      refine hK _ _ ⟨x2, x182, x183, x184, x185, x186, x187, x188, x189, x190, x191, x192, _, _, _, x196, x197, x198, x199, x200, x201, x202, x203, x204, s1, rfl, ?_, ?_⟩
                      · exact hS
                      · constructor
                        all_goals simp [hD]
                        all_goals (first | exact hP.f182 | exact hP.f183 | exact hP.f184 | exact hP.f185 | exact hP.f186 | exact hP.f187 | exact hP.f188 | exact hP.f189 | exact hP.f190 | exact hP.f191 | exact hP.f192 | exact hP.f193 | exact hP.f194 | exact hP.f195 | exact hP.f196 | exact hP.f197 | exact hP.f198 | exact hP.f199 | exact hP.f200 | exact hP.f202 | exact hP.f203 | exact hP.f204 | exact hP.f2 | exact hP.c201 | exact hP.f201 | skip)
                    · rintro l a W hl hd ha ⟨x2, x182, x183, x184, x185, x186, x187, x188, x189, x190, x191, x192, x193, x194, x195, x196, x197, x198, x199, x200, x201, x202, x203, x204, s1, rfl, hS, hP⟩
                      have hD : ∀ k, Inv.D (l.setIfInBounds 14 true) k = if k = 14 then true else Inv.D l k := fun k => Inv.D_set l 14 k (by rw [hl]; decide)
                      simp [Inv.ahead, Region.binds] at ha
                      obtain rfl := hP.f188 (by simp [ha])
                      obtain rfl := hP.f193 (by simp [ha])
                      obtain rfl := hP.f195 (by simp [ha])
                      refine Inv.wpOp_K rfl (fun K hK => ?_)
                      go_simp
                      refine hK _ _ ⟨x2, x182, x183, x184, x185, x186, x187, _, x189, x190, x191, x192, _, x194, _, _, x197, x198, x199, x200, x201, x202, x203, x204, s1, rfl, ?_, ?_⟩
                      · exact hS
                      · constructor
                        all_goals simp [hD]
                        all_goals (first | exact hP.f182 | exact hP.f183 | exact hP.f184 | exact hP.f185 | exact hP.f186 | exact hP.f187 | exact hP.f188 | exact hP.f189 | exact hP.f190 | exact hP.f191 | exact hP.f192 | exact hP.f193 | exact hP.f194 | exact hP.f195 | exact hP.f196 | exact hP.f197 | exact hP.f198 | exact hP.f199 | exact hP.f200 | exact hP.f202 | exact hP.f203 | exact hP.f204 | exact hP.f2 | exact hP.c201 | exact hP.f201 | skip)
                    · rintro l a W hl hd ha ⟨x2, x182, x183, x184, x185, x186, x187, x188, x189, x190, x191, x192, x193, x194, x195, x196, x197, x198, x199, x200, x201, x202, x203, x204, s1, rfl, hS, hP⟩
                      have hD : ∀ k, Inv.D (l.setIfInBounds 15 true) k = if k = 15 then true else Inv.D l k := fun k => Inv.D_set l 15 k (by rw [hl]; decide)
                      simp [Inv.ahead, Region.binds] at ha
                      obtain rfl := hP.f188 (by simp [ha])
                      obtain rfl := hP.f191 (by simp [ha])
                      obtain rfl := hP.f196 (by simp [ha])
                      refine Inv.wpOp_K rfl (fun K hK => ?_)
                      go_simp
                      refine hK _ _ ⟨x2, x182, x183, x184, x185, x186, x187, _, x189, x190, _, x192, x193, x194, x195, _, _, x198, x199, x200, x201, x202, x203, x204, s1, rfl, ?_, ?_⟩
                      · exact hS
                      · constructor
                        all_goals simp [hD]
                        all_goals (first | exact hP.f182 | exact hP.f183 | exact hP.f184 | exact hP.f185 | exact hP.f186 | exact hP.f187 | exact hP.f188 | exact hP.f189 | exact hP.f190 | exact hP.f191 | exact hP.f192 | exact hP.f193 | exact hP.f194 | exact hP.f195 | exact hP.f196 | exact hP.f197 | exact hP.f198 | exact hP.f199 | exact hP.f200 | exact hP.f202 | exact hP.f203 | exact hP.f204 | exact hP.f2 | exact hP.c201 | exact hP.f201 | skip)
                    · rintro l a W hl hd ha ⟨x2, x182, x183, x184, x185, x186, x187, x188, x189, x190, x191, x192, x193, x194, x195, x196, x197, x198, x199, x200, x201, x202, x203, x204, s1, rfl, hS, hP⟩
                      have hD : ∀ k, Inv.D (l.setIfInBounds 16 true) k = if k = 16 then true else Inv.D l k := fun k => Inv.D_set l 16 k (by rw [hl]; decide)
                      simp [Inv.ahead, Region.binds] at ha
                      obtain rfl := hP.f188 (by simp [ha])
                      obtain rfl := hP.f197 (by simp [ha])
                      refine Inv.wpOp_K rfl (fun K hK => ?_)
                      go_simp
                      refine hK _ _ ⟨x2, x182, x183, x184, x185, x186, x187, _, x189, x190, x191, x192, x193, x194, x195, x196, _, _, x199, x200, x201, x202, x203, x204, s1, rfl, ?_, ?_⟩
                      · exact hS
                      · constructor
                        all_goals simp [hD]
                        all_goals (first | exact hP.f182 | exact hP.f183 | exact hP.f184 | exact hP.f185 | exact hP.f186 | exact hP.f187 | exact hP.f188 | exact hP.f189 | exact hP.f190 | exact hP.f191 | exact hP.f192 | exact hP.f193 | exact hP.f194 | exact hP.f195 | exact hP.f196 | exact hP.f197 | exact hP.f198 | exact hP.f199 | exact hP.f200 | exact hP.f202 | exact hP.f203 | exact hP.f204 | exact hP.f2 | exact hP.c201 | exact hP.f201 | skip)
                    · rintro l a W hl hd ha ⟨x2, x182, x183, x184, x185, x186, x187, x188, x189, x190, x191, x192, x193, x194, x195, x196, x197, x198, x199, x200, x201, x202, x203, x204, s1, rfl, hS, hP⟩
                      have hD : ∀ k, Inv.D (l.setIfInBounds 17 true) k = if k = 17 then true else Inv.D l k := fun k => Inv.D_set l 17 k (by rw [hl]; decide)
                      simp [Inv.ahead, Region.binds] at ha
                      obtain rfl := hP.f198 (by simp [ha])
                      refine Inv.wpOp_K rfl (fun K hK => ?_)
                      go_simp
                      refine hK _ _ ⟨x2, x182, x183, x184, x185, x186, x187, x188, x189, x190, x191, x192, x193, x194, x195, x196, x197, _, _, x200, x201, x202, x203, x204, s1, rfl, ?_, ?_⟩
                      · exact hS
                      · constructor
                        all_goals simp [hD]
                        all_goals (first | exact hP.f182 | exact hP.f183 | exact hP.f184 | exact hP.f185 | exact hP.f186 | exact hP.f187 | exact hP.f188 | exact hP.f189 | exact hP.f190 | exact hP.f191 | exact hP.f192 | exact hP.f193 | exact hP.f194 | exact hP.f195 | exact hP.f196 | exact hP.f197 | exact hP.f198 | exact hP.f199 | exact hP.f200 | exact hP.f202 | exact hP.f203 | exact hP.f204 | exact hP.f2 | exact hP.c201 | exact hP.f201 | skip)
                    · rintro l a W hl hd ha ⟨x2, x182, x183, x184, x185, x186, x187, x188, x189, x190, x191, x192, x193, x194, x195, x196, x197, x198, x199, x200, x201, x202, x203, x204, s1, rfl, hS, hP⟩
                      have hD : ∀ k, Inv.D (l.setIfInBounds 18 true) k = if k = 18 then true else Inv.D l k := fun k => Inv.D_set l 18 k (by rw [hl]; decide)
                      simp [Inv.ahead, Region.binds] at ha
                      obtain rfl := hP.f199 (by simp [ha])
                      obtain ⟨t0, t1, t2, t3, t4, t5, _, _⟩ := g6 hS (K := kG) (g := b4) (n := 1) (q := h4) (by simp) rfl
                      refine Inv.wpOp_K rfl (fun K hK => ?_)
                      go_simp
                      refine hK _ _ ⟨x2, x182, x183, x184, x185, x186, x187, x188, x189, x190, x191, x192, x193, x194, x195, x196, x197, x198, _, _, x201, x202, x203, x204, s1, rfl, ?_, ?_⟩
                      · exact hS
                      · constructor
                        all_goals simp [hD]
                        all_goals (first | exact hP.f182 | exact hP.f183 | exact hP.f184 | exact hP.f185 | exact hP.f186 | exact hP.f187 | exact hP.f188 | exact hP.f189 | exact hP.f190 | exact hP.f191 | exact hP.f192 | exact hP.f193 | exact hP.f194 | exact hP.f195 | exact hP.f196 | exact hP.f197 | exact hP.f198 | exact hP.f199 | exact hP.f200 | exact hP.f202 | exact hP.f203 | exact hP.f204 | exact hP.f2 | exact hP.c201 | exact hP.f201 | skip)
                    · rintro l a W hl hd ha ⟨x2, x182, x183, x184, x185, x186, x187, x188, x189, x190, x191, x192, x193, x194, x195, x196, x197, x198, x199, x200, x201, x202, x203, x204, s1, rfl, hS, hP⟩
                      have hD : ∀ k, Inv.D (l.setIfInBounds 19 true) k = if k = 19 then true else Inv.D l k := fun k => Inv.D_set l 19 k (by rw [hl]; decide)
                      simp [Inv.ahead, Region.binds] at ha
                      obtain rfl := hP.f199 (by simp [ha])
                      obtain rfl := hP.f200 (by simp [ha])
                      obtain rfl := hP.c201 hd
                      refine Inv.wpOp_K rfl (fun K hK => ?_)
                      go_simp
                      go_at_call 19
                      refine (iForgottenT hS T4 (fun r h => by simp [h]) HDK.out).mono ?_
                      rintro e w1 ⟨h', S', rfl, T', hS'⟩
                      refine hK _ _ ⟨x2, x182, x183, x184, x185, x186, x187, x188, x189, x190, x191, x192, x193, x194, x195, x196, x197, x198, _, _, _, x202, x203, x204, S', rfl, ?_, ?_⟩
                      · exact hS.addL hS'
                      · constructor
                        all_goals simp [hD]
                        all_goals (first | exact hP.f182 | exact hP.f183 | exact hP.f184 | exact hP.f185 | exact hP.f186 | exact hP.f187 | exact hP.f188 | exact hP.f189 | exact hP.f190 | exact hP.f191 | exact hP.f192 | exact hP.f193 | exact hP.f194 | exact hP.f195 | exact hP.f196 | exact hP.f197 | exact hP.f198 | exact hP.f199 | exact hP.f200 | exact hP.f202 | exact hP.f203 | exact hP.f204 | exact hP.f2 | exact hP.c201 | exact hP.f201 | skip)
                        · exact ⟨_, rfl, T'⟩
                    · rintro l a W hl hd ha ⟨x2, x182, x183, x184, x185, x186, x187, x188, x189, x190, x191, x192, x193, x194, x195, x196, x197, x198, x199, x200, x201, x202, x203, x204, s1, rfl, hS, hP⟩
                      have hD : ∀ k, Inv.D (l.setIfInBounds 20 true) k = if k = 20 then true else Inv.D l k := fun k => Inv.D_set l 20 k (by rw [hl]; decide)
                      simp [Inv.ahead, Region.binds] at ha
                      obtain rfl := hP.f199 (by simp [ha])
                      obtain ⟨t0, t1, t2, t3, t4, t5, _, _⟩ := g6 hS (K := kG) (g := b4) (n := 1) (q := h4) (by simp) rfl
                      refine Inv.wpOp_K rfl (fun K hK => ?_)
                      go_simp
                      refine hK _ _ ⟨x2, x182, x183, x184, x185, x186, x187, x188, x189, x190, x191, x192, x193, x194, x195, x196, x197, x198, _, x200, x201, _, x203, x204, s1, rfl, ?_, ?_⟩
                      · exact hS
                      · constructor
                        all_goals simp [hD]
                        all_goals (first | exact hP.f182 | exact hP.f183 | exact hP.f184 | exact hP.f185 | exact hP.f186 | exact hP.f187 | exact hP.f188 | exact hP.f189 | exact hP.f190 | exact hP.f191 | exact hP.f192 | exact hP.f193 | exact hP.f194 | exact hP.f195 | exact hP.f196 | exact hP.f197 | exact hP.f198 | exact hP.f199 | exact hP.f200 | exact hP.f202 | exact hP.f203 | exact hP.f204 | exact hP.f2 | exact hP.c201 | exact hP.f201 | skip)
                    · rintro l a W hl hd ha ⟨x2, x182, x183, x184, x185, x186, x187, x188, x189, x190, x191, x192, x193, x194, x195, x196, x197, x198, x199, x200, x201, x202, x203, x204, s1, rfl, hS, hP⟩
                      have hD : ∀ k, Inv.D (l.setIfInBounds 21 true) k = if k = 21 then true else Inv.D l k := fun k => Inv.D_set l 21 k (by rw [hl]; decide)
                      simp [Inv.ahead, Region.binds] at ha
                      obtain rfl := hP.f199 (by simp [ha])
                      obtain ⟨hm201, rfl, Tm201⟩ := hP.f201 (by simp [ha])
                      obtain rfl := hP.f202 (by simp [ha])
                      refine Inv.wpOp_K rfl (fun K hK => ?_)
                      go_simp
                      go_at_call 16
                      refine (likeT hS Tm201 (fun r h => by simp [h]) T4 (fun r h => by simp [h])).mono ?_
                      rintro e w1 ⟨rfl, hb1⟩
                      refine hK _ _ ⟨x2, x182, x183, x184, x185, x186, x187, x188, x189, x190, x191, x192, x193, x194, x195, x196, x197, x198, _, x200, _, _, _, x204, s1, rfl, ?_, ?_⟩
                      · exact hS.step hb1
                      · constructor
                        all_goals simp [hD]
                        all_goals (first | exact hP.f182 | exact hP.f183 | exact hP.f184 | exact hP.f185 | exact hP.f186 | exact hP.f187 | exact hP.f188 | exact hP.f189 | exact hP.f190 | exact hP.f191 | exact hP.f192 | exact hP.f193 | exact hP.f194 | exact hP.f195 | exact hP.f196 | exact hP.f197 | exact hP.f198 | exact hP.f199 | exact hP.f200 | exact hP.f202 | exact hP.f203 | exact hP.f204 | exact hP.f2 | exact hP.c201 | exact hP.f201 | skip)
                    · rintro l a W hl hd ha ⟨x2, x182, x183, x184, x185, x186, x187, x188, x189, x190, x191, x192, x193, x194, x195, x196, x197, x198, x199, x200, x201, x202, x203, x204, s1, rfl, hS, hP⟩
                      have hD : ∀ k, Inv.D (l.setIfInBounds 22 true) k = if k = 22 then true else Inv.D l k := fun k => Inv.D_set l 22 k (by rw [hl]; decide)
                      simp [Inv.ahead, Region.binds] at ha
                      obtain rfl := hP.f199 (by simp [ha])
                      obtain rfl := hP.f203 (by simp [ha])
                      refine Inv.wpOp_K rfl (fun K hK => ?_)
                      go_simp
                      refine hK _ _ ⟨x2, x182, x183, x184, x185, x186, x187, x188, x189, x190, x191, x192, x193, x194, x195, x196, x197, x198, _, x200, x201, x202, _, _, s1, rfl, ?_, ?_⟩
                      · exact hS
                      · constructor
                        all_goals simp [hD]
                        all_goals (first | exact hP.f182 | exact hP.f183 | exact hP.f184 | exact hP.f185 | exact hP.f186 | exact hP.f187 | exact hP.f188 | exact hP.f189 | exact hP.f190 | exact hP.f191 | exact hP.f192 | exact hP.f193 | exact hP.f194 | exact hP.f195 | exact hP.f196 | exact hP.f197 | exact hP.f198 | exact hP.f199 | exact hP.f200 | exact hP.f202 | exact hP.f203 | exact hP.f204 | exact hP.f2 | exact hP.c201 | exact hP.f201 | skip)
                    · rintro l a W hl hd ha ⟨x2, x182, x183, x184, x185, x186, x187, x188, x189, x190, x191, x192, x193, x194, x195, x196, x197, x198, x199, x200, x201, x202, x203, x204, s1, rfl, hS, hP⟩
                      have hD : ∀ k, Inv.D (l.setIfInBounds 23 true) k = if k = 23 then true else Inv.D l k := fun k => Inv.D_set l 23 k (by rw [hl]; decide)
                      simp [Inv.ahead, Region.binds] at ha
                      obtain rfl := hP.f204 (by simp [ha])
                      refine Inv.wpOp_K rfl (fun K hK => ?_)
                      go_simp
                      refine hK _ _ ⟨_, x182, x183, x184, x185, x186, x187, x188, x189, x190, x191, x192, x193, x194, x195, x196, x197, x198, x199, x200, x201, x202, x203, _, s1, rfl, ?_, ?_⟩
                      · exact hS
                      · constructor
                        all_goals simp [hD]
                        all_goals (first | exact hP.f182 | exact hP.f183 | exact hP.f184 | exact hP.f185 | exact hP.f186 | exact hP.f187 | exact hP.f188 | exact hP.f189 | exact hP.f190 | exact hP.f191 | exact hP.f192 | exact hP.f193 | exact hP.f194 | exact hP.f195 | exact hP.f196 | exact hP.f197 | exact hP.f198 | exact hP.f199 | exact hP.f200 | exact hP.f202 | exact hP.f203 | exact hP.f204 | exact hP.f2 | exact hP.c201 | exact hP.f201 | skip)
end Go.Proofs.YtobbankkfplooaaGreat.K.G
