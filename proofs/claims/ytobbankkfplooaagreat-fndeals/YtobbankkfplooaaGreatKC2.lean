/-
  A Deal copied: the specification's.
-/
import Derived.Test.YtobbankkfplooaaGreatKC1
import Derived.Test.YtobbankkfplooaaGreatKYI
namespace Go.Proofs.YtobbankkfplooaaGreat.K.G
open Go.Shelf Go.RowKit Go.Joins Y
attribute [local go_sem] Oper.semAt_some

section
variable {α : Type} {K : Kd α} {ts : TypeId} {z : Value} {bytes : Nat}
theorem step_cp (hA : Ap K ts z bytes) (hone : ∀ L : List α, ∀ u ∈ K.flat L, u.oneCell' = true) {ops : Array Oper} {o : Oper} {a : Act} {KK : Act → World → Prop} {Q : Exit → Act → World → Prop} {E : Prop} (hgd : o.guard = none) (x y : Operand) (hop : o.op = .call { callee := .builtin .append, args := #[x, y], argTypes := #[ts, ts] })
    {w W0 W : World} {A Bs : List Rw} {v : Value} {L : List α} {s : Sv} (hS : Sg w W0 (A ++ rG K v [] :: Bs)) (hb : Below W0.heap.size W0 W) (hL : SlG K W s.p L) (hn : L.length = s.n) (hb0 : s.n ≤ 1100000) (ho : okv s) (hx : a.eval x = v) (hy : a.eval y = .slice s.p s.n s.c)
    (h : ∀ q cap w', Sg w w' (A ++ rG K (.slice q s.n cap) L :: Bs) → KK (a.put o.dst (.slice q s.n cap)) w') :
    if Region.wanted o (yielded ops a.tmps) = true then Oper.wp Tryz.prog o a W KK Q else E :=
  step_ap hA hone hgd x y hop (M := []) (m := 0) hS hb hL rfl hn (by omega) ho hx hy fun q cap w' h2 _ _ _ => by
    rw [Nat.zero_add] at h2 ⊢
    exact h q cap w' (by simpa using h2)
theorem wpList_cp (hA : Ap K ts z bytes) (hone : ∀ L : List α, ∀ u ∈ K.flat L, u.oneCell' = true) {ops : Array Oper} {rest : List Oper} {o : Oper} {a : Act} {Q : Exit → Act → World → Prop} (hgd : o.guard = none) (x y : Operand) (hop : o.op = .call { callee := .builtin .append, args := #[x, y], argTypes := #[ts, ts] })
    {w W0 W : World} {A Bs : List Rw} {v : Value} {L : List α} {s : Sv} (hS : Sg w W0 (A ++ rG K v [] :: Bs)) (hb : Below W0.heap.size W0 W) (hL : SlG K W s.p L) (hn : L.length = s.n) (hb0 : s.n ≤ 1100000) (ho : okv s) (hx : a.eval x = v) (hy : a.eval y = .slice s.p s.n s.c)
    (h : ∀ q cap w', Sg w w' (A ++ rG K (.slice q s.n cap) L :: Bs) → wpList Tryz.prog ops Q rest (a.put o.dst (.slice q s.n cap)) w') : wpList Tryz.prog ops Q (o :: rest) a W :=
  wpList_ap hA hone hgd x y hop (M := []) (m := 0) hS hb hL rfl hn (by omega) ho hx hy fun q cap w' h2 _ _ _ => by
    rw [Nat.zero_add] at h2 ⊢
    exact h q cap w' (by simpa using h2)
end
theorem pm1 {α : Type} (a b c : α) (t : List α) : (a :: c :: b :: t).Perm (a :: b :: c :: t) := (List.Perm.swap _ _ _).cons _
theorem pm2 {α : Type} (a b c : α) (t : List α) : (b :: a :: c :: t).Perm (a :: b :: c :: t) := List.Perm.swap _ _ _
theorem pm3 {α : Type} (a b c : α) (t : List α) : (b :: c :: a :: t).Perm (a :: b :: c :: t) := (pm1 b a c t).trans (pm2 a b c t)
theorem pm5 {α : Type} (a b c : α) (t : List α) : (c :: b :: a :: t).Perm (a :: b :: c :: t) := (pm2 b c a t).trans (pm3 a b c t)
/-- What has become of region 1's rows. -/
def A2 {α : Type} (K : Kd α) (L : List α) (n : Nat) (x : Value) (s : List Rw) : Prop := ∃ q c, x = .slice q n c ∧ s = [rG K (.slice q n c) L]
def C1 (x : Value) (s : List Rw) : Prop := ∃ b, x = .pointer (some ⟨b, 0, none⟩) ∧ s = [rG kG (.slice (some ⟨b, 0, none⟩) 1 1) [zgv]]
def C2 (dt dq : Int) (on un : Nat) (s : Int) (x3 x13 x17 : Value) (s3 : List Rw) : Prop := ∃ b q1 c1 q2 c2, x3 = .pointer (some ⟨b, 0, none⟩) ∧ x13 = .slice q1 on c1 ∧ x17 = .slice q2 un c2 ∧ s3 = [rG kG (.slice (some ⟨b, 0, none⟩) 1 1) [⟨dt, dq, ⟨none, 0, 0⟩, ⟨q1, on, c1⟩, ⟨q2, un, c2⟩, s⟩]]
def B20 (dt dq : Int) (x13 x17 : Value) (s : Int) (x20 : Value) : Prop := x20 = .agg #[.int .i64 dt, .int .i64 dq, .slice none 0 0, x13, x17, .int .i64 s]
/-- What holds of region 1's slots and rows, whatever of it is done. -/
structure CP (w : World) (O V : List Int) (dt dq : Int) (op : Option Addr) (on oc : Nat) (up : Option Addr) (un uc : Nat) (s : Int) (l : Array Bool) (x3 x6 x7 x8 x9 x10 x11 x12 x13 x14 x15 x16 x17 x18 x19 x20 : Value) (s1 s2 s3 : List Rw) : Prop where
  r7 : Inv.D l 7 = true → Inv.D l 4 = true
  r11 : Inv.D l 11 = true → Inv.D l 8 = true
  r14a : Inv.D l 14 = true → Inv.D l 7 = true
  r14b : Inv.D l 14 = true → Inv.D l 11 = true
  r16a : Inv.D l 16 = true → Inv.D l 14 = true
  r16b : Inv.D l 16 = true → Inv.D l 15 = true
  a0 : Inv.D l 4 = false → s1 = []
  a1 : Inv.D l 4 = true → Inv.D l 7 = false → s1 = [rG kI x10 []]
  a2 : Inv.D l 7 = true → A2 kI O on x13 s1
  b0 : Inv.D l 8 = false → s2 = []
  b1 : Inv.D l 8 = true → Inv.D l 11 = false → s2 = [rG kI x14 []]
  b2 : Inv.D l 11 = true → A2 kI V un x17 s2
  c0 : Inv.D l 15 = false → s3 = []
  c1 : Inv.D l 15 = true → Inv.D l 16 = false → C1 x3 s3
  c2 : Inv.D l 16 = true → C2 dt dq on un s x3 x13 x17 s3
  l0 : Inv.D l 0 = true → x6 = .pointer (some ⟨w.heap.size, 0, none⟩)
  l1 : Inv.D l 1 = true → x7 = .int .i64 dt
  l2 : Inv.D l 2 = true → x8 = .pointer (some ⟨w.heap.size, 1, none⟩)
  l3 : Inv.D l 3 = true → x9 = .int .i64 dq
  l5 : Inv.D l 5 = true → x11 = .pointer (some ⟨w.heap.size, 3, none⟩)
  l6 : Inv.D l 6 = true → x12 = .slice op on oc
  l9 : Inv.D l 9 = true → x15 = .pointer (some ⟨w.heap.size, 4, none⟩)
  l10 : Inv.D l 10 = true → x16 = .slice up un uc
  l12 : Inv.D l 12 = true → x18 = .pointer (some ⟨w.heap.size, 5, none⟩)
  l13 : Inv.D l 13 = true → x19 = .int .i64 s
  l14 : Inv.D l 14 = true → B20 dt dq x13 x17 s x20
set_option maxRecDepth 100000 in
set_option maxHeartbeats 4000000 in
theorem sCopy_any (h : Gv) (QL : List YQ) (O V : List Int) (w : World) (H : RdG w h QL O V) (hk : OkG h QL) (hy : h.y.n ≤ 1000) (ho : h.o.n ≤ 1000) (hu : h.u.n ≤ 1000) (hsm : ∀ q ∈ QL, q.2.n ≤ 1000) :
    Calls Tryz.prog 40 #[h.v] w fun e w' => ∃ (y o u : Sv) (Q2 : List YQ), e = .returned (Gv.v ⟨h.t, h.q, y, o, u, h.s⟩) ∧ yds Q2 = yds QL ∧ (∀ q ∈ Q2, q.2.n ≤ 1000 ∧ q.1.L.length = q.2.n) ∧ Sg w w' (gR ⟨h.t, h.q, y, o, u, h.s⟩ Q2 O V) := by
  have HO := Lib.hid (fun W (hb : Below w.heap.size w W) => H.o.step hb)
  have HU := Lib.hid (fun W (hb : Below w.heap.size w W) => H.u.step hb)
  have HL : Hid (O.length = h.o.n ∧ V.length = h.u.n) := ⟨H.on, H.un⟩
  have HK : Hid (okv h.o ∧ okv h.u) := ⟨hk.1, hk.2.1⟩
  have HY : Hid (QL.length = h.y.n ∧ RdY w h.y.p QL ∧ (∀ q ∈ QL, q.2.n ≤ 1000 ∧ okv q.2)) := ⟨H.yn, H.y, fun q hq => ⟨hsm q hq, hk.2.2 q hq⟩⟩
  clear H hk hsm
  obtain ⟨dt, dq, ⟨yp, yn, yc⟩, ⟨op, on, oc⟩, ⟨up, un, uc⟩, s⟩ := h
  simp only at HO HU HL HK HY hy ho hu ⊢
  have hrow := (((Sg.nil w).lit kG [⟨dt, dq, ⟨yp, yn, yc⟩, ⟨op, on, oc⟩, ⟨up, un, uc⟩, s⟩] 1 rfl (by decide) #[.int .i64 dt, .int .i64 dq, .slice yp yn yc, .slice op on oc, .slice up un uc, .int .i64 s] rfl).lit kG [zgv] 1 rfl (by decide) #[.int .i64 0, .int .i64 0, .slice none 0 0, .slice none 0 0, .slice none 0 0, .int .i64 0] rfl)
  simp only [World.size_alloc] at hrow
  change Sg w ((w.alloc (.cells #[.int .i64 dt, .int .i64 dq, .slice yp yn yc, .slice op on oc, .slice up un uc, .int .i64 s] 27)).alloc (.cells #[.int .i64 0, .int .i64 0, .slice none 0 0, .slice none 0 0, .slice none 0 0, .int .i64 0] 27)) _ at hrow
  go_enter Tryz.func40, Tryz.ntmps40
  go_upto_region 1 with (fail)
  go_cut [3] from 6 (fun v3 wx => ∃ (b3 : Nat) (q1 q2 : Option Addr) (c1 c2 : Nat), v3 = .pointer (some ⟨b3, 0, none⟩) ∧ Sg w wx (rG kG (.slice (some ⟨b3, 0, none⟩) 1 1) [⟨dt, dq, ⟨none, 0, 0⟩, ⟨q1, on, c1⟩, ⟨q2, un, c2⟩, s⟩] :: (rG kI (.slice q2 un c2) V :: rG kI (.slice q1 on c1) O :: [rG kG (.slice (some ⟨w.heap.size + 1, 0, none⟩) 1 1) [zgv], rG kG (.slice (some ⟨w.heap.size, 0, none⟩) 1 1) [⟨dt, dq, ⟨yp, yn, yc⟩, ⟨op, on, oc⟩, ⟨up, un, uc⟩, s⟩]])))
  case first =>
    refine Inv.wp_region_each (fun l a W => ∃ (x3 x6 x7 x8 x9 x10 x11 x12 x13 x14 x15 x16 x17 x18 x19 x20 : Value) (s1 s2 s3 : List Rw), a = ⟨#[Gv.v ⟨dt, dq, ⟨yp, yn, yc⟩, ⟨op, on, oc⟩, ⟨up, un, uc⟩, s⟩, .pointer (some ⟨w.heap.size, 0, none⟩), .pointer (some ⟨w.heap.size + 1, 0, none⟩), x3, undef, undef, x6, x7, x8, x9, x10, x11, x12, x13, x14, x15, x16, x17, x18, x19, x20, undef, undef, undef, undef, undef, undef, undef, undef, undef, undef, undef, undef, undef, undef, undef, undef, undef, undef, undef, undef, undef, undef, undef, undef], []⟩ ∧ Sg w W (s1 ++ (s2 ++ (s3 ++ [rG kG (.slice (some ⟨w.heap.size + 1, 0, none⟩) 1 1) [zgv], rG kG (.slice (some ⟨w.heap.size, 0, none⟩) 1 1) [⟨dt, dq, ⟨yp, yn, yc⟩, ⟨op, on, oc⟩, ⟨up, un, uc⟩, s⟩]]))) ∧ CP w O V dt dq op on oc up un uc s l x3 x6 x7 x8 x9 x10 x11 x12 x13 x14 x15 x16 x17 x18 x19 x20 s1 s2 s3) (by kernel_rfl) (by kernel_rfl) ?_ ?_ ?_
    · refine ⟨undef, undef, undef, undef, undef, undef, undef, undef, undef, undef, undef, undef, undef, undef, undef, undef, [], [], [], rfl, hrow.step (Below.refl _ _).drew, ?_⟩
      constructor <;> simp [Inv.D]
    · rintro l a W hD ⟨x3, x6, x7, x8, x9, x10, x11, x12, x13, x14, x15, x16, x17, x18, x19, x20, s1, s2, s3, rfl, hS, hP⟩
      obtain ⟨b, q1, c1, q2, c2, rfl, e9, e13, rfl⟩ := hP.c2 (hD 16 (by decide))
      obtain ⟨_, _, e9', rfl⟩ := hP.a2 (hD 7 (by decide))
      obtain ⟨_, _, e13', rfl⟩ := hP.b2 (hD 11 (by decide))
      rw [e9] at e9'
      rw [e13] at e13'
      cases e9'
      cases e13'
      clear hP hD
      dsimp only
      go_wp2_with (fail)
      go_meet
      case rel => exact ⟨b, q1, q2, c1, c2, rfl, hS.perm (pm5 _ _ _ _)⟩
    · refine ⟨?_, ?_, ?_, ?_, ?_, ?_, ?_, ?_, ?_, ?_, ?_, ?_, ?_, ?_, ?_, ?_, ?_, trivial⟩
      · rintro l a W hl hd ha ⟨x3, x6, x7, x8, x9, x10, x11, x12, x13, x14, x15, x16, x17, x18, x19, x20, s1, s2, s3, rfl, hS, hP⟩
        have hD : ∀ k, Inv.D (l.setIfInBounds 0 true) k = if k = 0 then true else Inv.D l k := fun k => Inv.D_set l 0 k (by rw [hl]; decide)
        simp [Inv.ahead, Region.binds] at ha
        refine Inv.wpOp_K rfl (fun K hK => ?_)
        go_simp
        refine hK _ _ ⟨x3, _, x7, x8, x9, x10, x11, x12, x13, x14, x15, x16, x17, x18, x19, x20, s1, s2, s3, rfl, ?_, ?_⟩
        · exact hS
        · constructor
          all_goals simp [hD]
          all_goals (first | exact hP.r7 | exact hP.r11 | exact hP.r14a | exact hP.r14b | exact hP.r16a | exact hP.r16b | exact hP.a0 | exact hP.a1 | exact hP.a2 | exact hP.b0 | exact hP.b1 | exact hP.b2 | exact hP.c0 | exact hP.c1 | exact hP.c2 | exact hP.l0 | exact hP.l1 | exact hP.l2 | exact hP.l3 | exact hP.l5 | exact hP.l6 | exact hP.l9 | exact hP.l10 | exact hP.l12 | exact hP.l13 | exact hP.l14 | skip)
      · rintro l a W hl hd ha ⟨x3, x6, x7, x8, x9, x10, x11, x12, x13, x14, x15, x16, x17, x18, x19, x20, s1, s2, s3, rfl, hS, hP⟩
        have hD : ∀ k, Inv.D (l.setIfInBounds 1 true) k = if k = 1 then true else Inv.D l k := fun k => Inv.D_set l 1 k (by rw [hl]; decide)
        simp [Inv.ahead, Region.binds] at ha
        obtain rfl := hP.l0 ha
        obtain ⟨y0, y1, y2, y3, y4, y5, yf, yg⟩ := g6 hS (K := kG) (g := w.heap.size) (n := 1) (q := ⟨dt, dq, ⟨yp, yn, yc⟩, ⟨op, on, oc⟩, ⟨up, un, uc⟩, s⟩) (by simp) rfl
        simp only at y0 y1 y2 y3 y4 y5
        refine Inv.wpOp_K rfl (fun K hK => ?_)
        go_simp
        refine hK _ _ ⟨x3, _, _, x8, x9, x10, x11, x12, x13, x14, x15, x16, x17, x18, x19, x20, s1, s2, s3, rfl, ?_, ?_⟩
        · exact hS
        · constructor
          all_goals simp [hD]
          all_goals (first | exact hP.r7 | exact hP.r11 | exact hP.r14a | exact hP.r14b | exact hP.r16a | exact hP.r16b | exact hP.a0 | exact hP.a1 | exact hP.a2 | exact hP.b0 | exact hP.b1 | exact hP.b2 | exact hP.c0 | exact hP.c1 | exact hP.c2 | exact hP.l0 | exact hP.l1 | exact hP.l2 | exact hP.l3 | exact hP.l5 | exact hP.l6 | exact hP.l9 | exact hP.l10 | exact hP.l12 | exact hP.l13 | exact hP.l14 | skip)
      · rintro l a W hl hd ha ⟨x3, x6, x7, x8, x9, x10, x11, x12, x13, x14, x15, x16, x17, x18, x19, x20, s1, s2, s3, rfl, hS, hP⟩
        have hD : ∀ k, Inv.D (l.setIfInBounds 2 true) k = if k = 2 then true else Inv.D l k := fun k => Inv.D_set l 2 k (by rw [hl]; decide)
        simp [Inv.ahead, Region.binds] at ha
        refine Inv.wpOp_K rfl (fun K hK => ?_)
        go_simp
        refine hK _ _ ⟨x3, x6, x7, _, x9, x10, x11, x12, x13, x14, x15, x16, x17, x18, x19, x20, s1, s2, s3, rfl, ?_, ?_⟩
        · exact hS
        · constructor
          all_goals simp [hD]
          all_goals (first | exact hP.r7 | exact hP.r11 | exact hP.r14a | exact hP.r14b | exact hP.r16a | exact hP.r16b | exact hP.a0 | exact hP.a1 | exact hP.a2 | exact hP.b0 | exact hP.b1 | exact hP.b2 | exact hP.c0 | exact hP.c1 | exact hP.c2 | exact hP.l0 | exact hP.l1 | exact hP.l2 | exact hP.l3 | exact hP.l5 | exact hP.l6 | exact hP.l9 | exact hP.l10 | exact hP.l12 | exact hP.l13 | exact hP.l14 | skip)
      · rintro l a W hl hd ha ⟨x3, x6, x7, x8, x9, x10, x11, x12, x13, x14, x15, x16, x17, x18, x19, x20, s1, s2, s3, rfl, hS, hP⟩
        have hD : ∀ k, Inv.D (l.setIfInBounds 3 true) k = if k = 3 then true else Inv.D l k := fun k => Inv.D_set l 3 k (by rw [hl]; decide)
        simp [Inv.ahead, Region.binds] at ha
        obtain rfl := hP.l2 ha
        obtain ⟨y0, y1, y2, y3, y4, y5, yf, yg⟩ := g6 hS (K := kG) (g := w.heap.size) (n := 1) (q := ⟨dt, dq, ⟨yp, yn, yc⟩, ⟨op, on, oc⟩, ⟨up, un, uc⟩, s⟩) (by simp) rfl
        simp only at y0 y1 y2 y3 y4 y5
        refine Inv.wpOp_K rfl (fun K hK => ?_)
        go_simp
        refine hK _ _ ⟨x3, x6, x7, _, _, x10, x11, x12, x13, x14, x15, x16, x17, x18, x19, x20, s1, s2, s3, rfl, ?_, ?_⟩
        · exact hS
        · constructor
          all_goals simp [hD]
          all_goals (first | exact hP.r7 | exact hP.r11 | exact hP.r14a | exact hP.r14b | exact hP.r16a | exact hP.r16b | exact hP.a0 | exact hP.a1 | exact hP.a2 | exact hP.b0 | exact hP.b1 | exact hP.b2 | exact hP.c0 | exact hP.c1 | exact hP.c2 | exact hP.l0 | exact hP.l1 | exact hP.l2 | exact hP.l3 | exact hP.l5 | exact hP.l6 | exact hP.l9 | exact hP.l10 | exact hP.l12 | exact hP.l13 | exact hP.l14 | skip)
      · rintro l a W hl hd ha ⟨x3, x6, x7, x8, x9, x10, x11, x12, x13, x14, x15, x16, x17, x18, x19, x20, s1, s2, s3, rfl, hS, hP⟩
        have hD : ∀ k, Inv.D (l.setIfInBounds 4 true) k = if k = 4 then true else Inv.D l k := fun k => Inv.D_set l 4 k (by rw [hl]; decide)
        simp [Inv.ahead, Region.binds] at ha
        obtain rfl := hP.a0 hd
        refine Inv.wpOp_K rfl (fun K hK => ?_)
        go_simp
        refine hK _ _ ⟨x3, x6, x7, x8, x9, _, x11, x12, x13, x14, x15, x16, x17, x18, x19, x20, [rG kI (.slice (some ⟨W.heap.size, 0, none⟩) 0 0) []], s2, s3, rfl, ?_, ?_⟩
        · exact hS.lit kI [] 0 rfl (by decide) #[] rfl
        · constructor
          all_goals simp [hD]
          all_goals (first | exact hP.r7 | exact hP.r11 | exact hP.r14a | exact hP.r14b | exact hP.r16a | exact hP.r16b | exact hP.a0 | exact hP.a1 | exact hP.a2 | exact hP.b0 | exact hP.b1 | exact hP.b2 | exact hP.c0 | exact hP.c1 | exact hP.c2 | exact hP.l0 | exact hP.l1 | exact hP.l2 | exact hP.l3 | exact hP.l5 | exact hP.l6 | exact hP.l9 | exact hP.l10 | exact hP.l12 | exact hP.l13 | exact hP.l14 | skip)
          exact fun h => absurd (hP.r7 h) (by rw [hd]; decide)
      · rintro l a W hl hd ha ⟨x3, x6, x7, x8, x9, x10, x11, x12, x13, x14, x15, x16, x17, x18, x19, x20, s1, s2, s3, rfl, hS, hP⟩
        have hD : ∀ k, Inv.D (l.setIfInBounds 5 true) k = if k = 5 then true else Inv.D l k := fun k => Inv.D_set l 5 k (by rw [hl]; decide)
        simp [Inv.ahead, Region.binds] at ha
        refine Inv.wpOp_K rfl (fun K hK => ?_)
        go_simp
        refine hK _ _ ⟨x3, x6, x7, x8, x9, x10, _, x12, x13, x14, x15, x16, x17, x18, x19, x20, s1, s2, s3, rfl, ?_, ?_⟩
        · exact hS
        · constructor
          all_goals simp [hD]
          all_goals (first | exact hP.r7 | exact hP.r11 | exact hP.r14a | exact hP.r14b | exact hP.r16a | exact hP.r16b | exact hP.a0 | exact hP.a1 | exact hP.a2 | exact hP.b0 | exact hP.b1 | exact hP.b2 | exact hP.c0 | exact hP.c1 | exact hP.c2 | exact hP.l0 | exact hP.l1 | exact hP.l2 | exact hP.l3 | exact hP.l5 | exact hP.l6 | exact hP.l9 | exact hP.l10 | exact hP.l12 | exact hP.l13 | exact hP.l14 | skip)
      · rintro l a W hl hd ha ⟨x3, x6, x7, x8, x9, x10, x11, x12, x13, x14, x15, x16, x17, x18, x19, x20, s1, s2, s3, rfl, hS, hP⟩
        have hD : ∀ k, Inv.D (l.setIfInBounds 6 true) k = if k = 6 then true else Inv.D l k := fun k => Inv.D_set l 6 k (by rw [hl]; decide)
        simp [Inv.ahead, Region.binds] at ha
        obtain rfl := hP.l5 ha
        obtain ⟨y0, y1, y2, y3, y4, y5, yf, yg⟩ := g6 hS (K := kG) (g := w.heap.size) (n := 1) (q := ⟨dt, dq, ⟨yp, yn, yc⟩, ⟨op, on, oc⟩, ⟨up, un, uc⟩, s⟩) (by simp) rfl
        simp only at y0 y1 y2 y3 y4 y5
        refine Inv.wpOp_K rfl (fun K hK => ?_)
        go_simp
        refine hK _ _ ⟨x3, x6, x7, x8, x9, x10, _, _, x13, x14, x15, x16, x17, x18, x19, x20, s1, s2, s3, rfl, ?_, ?_⟩
        · exact hS
        · constructor
          all_goals simp [hD]
          all_goals (first | exact hP.r7 | exact hP.r11 | exact hP.r14a | exact hP.r14b | exact hP.r16a | exact hP.r16b | exact hP.a0 | exact hP.a1 | exact hP.a2 | exact hP.b0 | exact hP.b1 | exact hP.b2 | exact hP.c0 | exact hP.c1 | exact hP.c2 | exact hP.l0 | exact hP.l1 | exact hP.l2 | exact hP.l3 | exact hP.l5 | exact hP.l6 | exact hP.l9 | exact hP.l10 | exact hP.l12 | exact hP.l13 | exact hP.l14 | skip)
      · rintro l a W hl hd ha ⟨x3, x6, x7, x8, x9, x10, x11, x12, x13, x14, x15, x16, x17, x18, x19, x20, s1, s2, s3, rfl, hS, hP⟩
        have hD : ∀ k, Inv.D (l.setIfInBounds 7 true) k = if k = 7 then true else Inv.D l k := fun k => Inv.D_set l 7 k (by rw [hl]; decide)
        simp [Inv.ahead, Region.binds] at ha
        obtain rfl := hP.a1 ha.1 hd
        obtain rfl := hP.l6 (by first | exact ha.2 | exact ha.2.1)
        refine Inv.wpOp_K rfl (fun K hK => ?_)
        refine step_cp appI N.oneIs rfl (.tmp 10) (.tmp 12) rfl (A := []) (L := O) (s := ⟨op, on, oc⟩) hS (Below.refl _ _) (HO.out _ hS.bel) HL.out.1 (by simp only; omega) HK.out.1 rfl rfl (fun q cap w' h => hK _ _ ⟨x3, x6, x7, x8, x9, x10, x11, _, _, x14, x15, x16, x17, x18, x19, x20, [rG kI (.slice q on cap) O], s2, s3, rfl, h, ?_⟩)
        · constructor
          all_goals simp [hD]
          all_goals (first | exact hP.r7 | exact hP.r11 | exact hP.r14a | exact hP.r14b | exact hP.r16a | exact hP.r16b | exact hP.a0 | exact hP.a1 | exact hP.a2 | exact hP.b0 | exact hP.b1 | exact hP.b2 | exact hP.c0 | exact hP.c1 | exact hP.c2 | exact hP.l0 | exact hP.l1 | exact hP.l2 | exact hP.l3 | exact hP.l5 | exact hP.l6 | exact hP.l9 | exact hP.l10 | exact hP.l12 | exact hP.l13 | exact hP.l14 | skip)
          · exact ha.1
          · exact ha.1
          · exact ⟨q, cap, rfl, rfl⟩
          · exact fun h => absurd (hP.r14a (hP.r16a h)) (by rw [hd]; decide)
          · exact fun h => absurd (hP.r14a h) (by rw [hd]; decide)
      · rintro l a W hl hd ha ⟨x3, x6, x7, x8, x9, x10, x11, x12, x13, x14, x15, x16, x17, x18, x19, x20, s1, s2, s3, rfl, hS, hP⟩
        have hD : ∀ k, Inv.D (l.setIfInBounds 8 true) k = if k = 8 then true else Inv.D l k := fun k => Inv.D_set l 8 k (by rw [hl]; decide)
        simp [Inv.ahead, Region.binds] at ha
        obtain rfl := hP.b0 hd
        refine Inv.wpOp_K rfl (fun K hK => ?_)
        go_simp
        refine hK _ _ ⟨x3, x6, x7, x8, x9, x10, x11, x12, x13, _, x15, x16, x17, x18, x19, x20, s1, [rG kI (.slice (some ⟨W.heap.size, 0, none⟩) 0 0) []], s3, rfl, ?_, ?_⟩
        · exact (hS.lit kI [] 0 rfl (by decide) #[] rfl).perm (by simpa using List.perm_middle.symm)
        · constructor
          all_goals simp [hD]
          all_goals (first | exact hP.r7 | exact hP.r11 | exact hP.r14a | exact hP.r14b | exact hP.r16a | exact hP.r16b | exact hP.a0 | exact hP.a1 | exact hP.a2 | exact hP.b0 | exact hP.b1 | exact hP.b2 | exact hP.c0 | exact hP.c1 | exact hP.c2 | exact hP.l0 | exact hP.l1 | exact hP.l2 | exact hP.l3 | exact hP.l5 | exact hP.l6 | exact hP.l9 | exact hP.l10 | exact hP.l12 | exact hP.l13 | exact hP.l14 | skip)
          exact fun h => absurd (hP.r11 h) (by rw [hd]; decide)
      · rintro l a W hl hd ha ⟨x3, x6, x7, x8, x9, x10, x11, x12, x13, x14, x15, x16, x17, x18, x19, x20, s1, s2, s3, rfl, hS, hP⟩
        have hD : ∀ k, Inv.D (l.setIfInBounds 9 true) k = if k = 9 then true else Inv.D l k := fun k => Inv.D_set l 9 k (by rw [hl]; decide)
        simp [Inv.ahead, Region.binds] at ha
        refine Inv.wpOp_K rfl (fun K hK => ?_)
        go_simp
        refine hK _ _ ⟨x3, x6, x7, x8, x9, x10, x11, x12, x13, x14, _, x16, x17, x18, x19, x20, s1, s2, s3, rfl, ?_, ?_⟩
        · exact hS
        · constructor
          all_goals simp [hD]
          all_goals (first | exact hP.r7 | exact hP.r11 | exact hP.r14a | exact hP.r14b | exact hP.r16a | exact hP.r16b | exact hP.a0 | exact hP.a1 | exact hP.a2 | exact hP.b0 | exact hP.b1 | exact hP.b2 | exact hP.c0 | exact hP.c1 | exact hP.c2 | exact hP.l0 | exact hP.l1 | exact hP.l2 | exact hP.l3 | exact hP.l5 | exact hP.l6 | exact hP.l9 | exact hP.l10 | exact hP.l12 | exact hP.l13 | exact hP.l14 | skip)
      · rintro l a W hl hd ha ⟨x3, x6, x7, x8, x9, x10, x11, x12, x13, x14, x15, x16, x17, x18, x19, x20, s1, s2, s3, rfl, hS, hP⟩
        have hD : ∀ k, Inv.D (l.setIfInBounds 10 true) k = if k = 10 then true else Inv.D l k := fun k => Inv.D_set l 10 k (by rw [hl]; decide)
        simp [Inv.ahead, Region.binds] at ha
        obtain rfl := hP.l9 ha
        obtain ⟨y0, y1, y2, y3, y4, y5, yf, yg⟩ := g6 hS (K := kG) (g := w.heap.size) (n := 1) (q := ⟨dt, dq, ⟨yp, yn, yc⟩, ⟨op, on, oc⟩, ⟨up, un, uc⟩, s⟩) (by simp) rfl
        simp only at y0 y1 y2 y3 y4 y5
        refine Inv.wpOp_K rfl (fun K hK => ?_)
        go_simp
        refine hK _ _ ⟨x3, x6, x7, x8, x9, x10, x11, x12, x13, x14, _, _, x17, x18, x19, x20, s1, s2, s3, rfl, ?_, ?_⟩
        · exact hS
        · constructor
          all_goals simp [hD]
          all_goals (first | exact hP.r7 | exact hP.r11 | exact hP.r14a | exact hP.r14b | exact hP.r16a | exact hP.r16b | exact hP.a0 | exact hP.a1 | exact hP.a2 | exact hP.b0 | exact hP.b1 | exact hP.b2 | exact hP.c0 | exact hP.c1 | exact hP.c2 | exact hP.l0 | exact hP.l1 | exact hP.l2 | exact hP.l3 | exact hP.l5 | exact hP.l6 | exact hP.l9 | exact hP.l10 | exact hP.l12 | exact hP.l13 | exact hP.l14 | skip)
      · rintro l a W hl hd ha ⟨x3, x6, x7, x8, x9, x10, x11, x12, x13, x14, x15, x16, x17, x18, x19, x20, s1, s2, s3, rfl, hS, hP⟩
        have hD : ∀ k, Inv.D (l.setIfInBounds 11 true) k = if k = 11 then true else Inv.D l k := fun k => Inv.D_set l 11 k (by rw [hl]; decide)
        simp [Inv.ahead, Region.binds] at ha
        obtain rfl := hP.b1 ha.1 hd
        obtain rfl := hP.l10 (by first | exact ha.2 | exact ha.2.1)
        refine Inv.wpOp_K rfl (fun K hK => ?_)
        refine step_cp appI N.oneIs rfl (.tmp 14) (.tmp 16) rfl (A := s1) (L := V) (s := ⟨up, un, uc⟩) hS (Below.refl _ _) (HU.out _ hS.bel) HL.out.2 (by simp only; omega) HK.out.2 rfl rfl (fun q cap w' h => hK _ _ ⟨x3, x6, x7, x8, x9, x10, x11, x12, x13, x14, x15, _, _, x18, x19, x20, s1, [rG kI (.slice q un cap) V], s3, rfl, h, ?_⟩)
        · constructor
          all_goals simp [hD]
          all_goals (first | exact hP.r7 | exact hP.r11 | exact hP.r14a | exact hP.r14b | exact hP.r16a | exact hP.r16b | exact hP.a0 | exact hP.a1 | exact hP.a2 | exact hP.b0 | exact hP.b1 | exact hP.b2 | exact hP.c0 | exact hP.c1 | exact hP.c2 | exact hP.l0 | exact hP.l1 | exact hP.l2 | exact hP.l3 | exact hP.l5 | exact hP.l6 | exact hP.l9 | exact hP.l10 | exact hP.l12 | exact hP.l13 | exact hP.l14 | skip)
          · exact ha.1
          · exact ha.1
          · exact ⟨q, cap, rfl, rfl⟩
          · exact fun h => absurd (hP.r14b (hP.r16a h)) (by rw [hd]; decide)
          · exact fun h => absurd (hP.r14b h) (by rw [hd]; decide)
      · rintro l a W hl hd ha ⟨x3, x6, x7, x8, x9, x10, x11, x12, x13, x14, x15, x16, x17, x18, x19, x20, s1, s2, s3, rfl, hS, hP⟩
        have hD : ∀ k, Inv.D (l.setIfInBounds 12 true) k = if k = 12 then true else Inv.D l k := fun k => Inv.D_set l 12 k (by rw [hl]; decide)
        simp [Inv.ahead, Region.binds] at ha
        refine Inv.wpOp_K rfl (fun K hK => ?_)
        go_simp
        refine hK _ _ ⟨x3, x6, x7, x8, x9, x10, x11, x12, x13, x14, x15, x16, x17, _, x19, x20, s1, s2, s3, rfl, ?_, ?_⟩
        · exact hS
        · constructor
          all_goals simp [hD]
          all_goals (first | exact hP.r7 | exact hP.r11 | exact hP.r14a | exact hP.r14b | exact hP.r16a | exact hP.r16b | exact hP.a0 | exact hP.a1 | exact hP.a2 | exact hP.b0 | exact hP.b1 | exact hP.b2 | exact hP.c0 | exact hP.c1 | exact hP.c2 | exact hP.l0 | exact hP.l1 | exact hP.l2 | exact hP.l3 | exact hP.l5 | exact hP.l6 | exact hP.l9 | exact hP.l10 | exact hP.l12 | exact hP.l13 | exact hP.l14 | skip)
      · rintro l a W hl hd ha ⟨x3, x6, x7, x8, x9, x10, x11, x12, x13, x14, x15, x16, x17, x18, x19, x20, s1, s2, s3, rfl, hS, hP⟩
        have hD : ∀ k, Inv.D (l.setIfInBounds 13 true) k = if k = 13 then true else Inv.D l k := fun k => Inv.D_set l 13 k (by rw [hl]; decide)
        simp [Inv.ahead, Region.binds] at ha
        obtain rfl := hP.l12 ha
        obtain ⟨y0, y1, y2, y3, y4, y5, yf, yg⟩ := g6 hS (K := kG) (g := w.heap.size) (n := 1) (q := ⟨dt, dq, ⟨yp, yn, yc⟩, ⟨op, on, oc⟩, ⟨up, un, uc⟩, s⟩) (by simp) rfl
        simp only at y0 y1 y2 y3 y4 y5
        refine Inv.wpOp_K rfl (fun K hK => ?_)
        go_simp
        refine hK _ _ ⟨x3, x6, x7, x8, x9, x10, x11, x12, x13, x14, x15, x16, x17, _, _, x20, s1, s2, s3, rfl, ?_, ?_⟩
        · exact hS
        · constructor
          all_goals simp [hD]
          all_goals (first | exact hP.r7 | exact hP.r11 | exact hP.r14a | exact hP.r14b | exact hP.r16a | exact hP.r16b | exact hP.a0 | exact hP.a1 | exact hP.a2 | exact hP.b0 | exact hP.b1 | exact hP.b2 | exact hP.c0 | exact hP.c1 | exact hP.c2 | exact hP.l0 | exact hP.l1 | exact hP.l2 | exact hP.l3 | exact hP.l5 | exact hP.l6 | exact hP.l9 | exact hP.l10 | exact hP.l12 | exact hP.l13 | exact hP.l14 | skip)
      · rintro l a W hl hd ha ⟨x3, x6, x7, x8, x9, x10, x11, x12, x13, x14, x15, x16, x17, x18, x19, x20, s1, s2, s3, rfl, hS, hP⟩
        have hD : ∀ k, Inv.D (l.setIfInBounds 14 true) k = if k = 14 then true else Inv.D l k := fun k => Inv.D_set l 14 k (by rw [hl]; decide)
        simp [Inv.ahead, Region.binds] at ha
        obtain rfl := hP.l1 ha.1
        obtain rfl := hP.l3 ha.2.1
        obtain ⟨q1, c1, rfl, rfl⟩ := hP.a2 ha.2.2.1
        obtain ⟨q2, c2, rfl, rfl⟩ := hP.b2 ha.2.2.2.1
        obtain rfl := hP.l13 ha.2.2.2.2
        refine Inv.wpOp_K rfl (fun K hK => ?_)
        go_simp
        refine hK _ _ ⟨x3, x6, _, x8, _, x10, x11, x12, _, x14, x15, x16, _, x18, _, _, [rG kI (.slice q1 on c1) O], [rG kI (.slice q2 un c2) V], s3, rfl, ?_, ?_⟩
        · exact hS
        · constructor
          all_goals simp [hD]
          all_goals (first | exact hP.r7 | exact hP.r11 | exact hP.r14a | exact hP.r14b | exact hP.r16a | exact hP.r16b | exact hP.a0 | exact hP.a1 | exact hP.a2 | exact hP.b0 | exact hP.b1 | exact hP.b2 | exact hP.c0 | exact hP.c1 | exact hP.c2 | exact hP.l0 | exact hP.l1 | exact hP.l2 | exact hP.l3 | exact hP.l5 | exact hP.l6 | exact hP.l9 | exact hP.l10 | exact hP.l12 | exact hP.l13 | exact hP.l14 | skip)
          · exact ha.2.2.1
          · exact ha.2.2.2.1
          · exact hP.r7 ha.2.2.1
          · exact fun _ h => absurd ha.2.2.1 (by rw [h]; decide)
          · exact hP.r11 ha.2.2.2.1
          · exact fun _ h => absurd ha.2.2.2.1 (by rw [h]; decide)
          · exact rfl
      · rintro l a W hl hd ha ⟨x3, x6, x7, x8, x9, x10, x11, x12, x13, x14, x15, x16, x17, x18, x19, x20, s1, s2, s3, rfl, hS, hP⟩
        have hD : ∀ k, Inv.D (l.setIfInBounds 15 true) k = if k = 15 then true else Inv.D l k := fun k => Inv.D_set l 15 k (by rw [hl]; decide)
        simp [Inv.ahead, Region.binds] at ha
        obtain rfl := hP.c0 hd
        refine Inv.wpOp_K rfl (fun K hK => ?_)
        go_simp
        refine hK _ _ ⟨_, x6, x7, x8, x9, x10, x11, x12, x13, x14, x15, x16, x17, x18, x19, x20, s1, s2, [rG kG (.slice (some ⟨W.heap.size, 0, none⟩) 1 1) [zgv]], rfl, ?_, ?_⟩
        · exact (hS.lit kG [zgv] 1 rfl (by decide) #[.int .i64 0, .int .i64 0, .slice none 0 0, .slice none 0 0, .slice none 0 0, .int .i64 0] rfl).perm (by simpa using (List.perm_middle (l₁ := s1 ++ s2)).symm)
        · constructor
          all_goals simp [hD]
          all_goals (first | exact hP.r7 | exact hP.r11 | exact hP.r14a | exact hP.r14b | exact hP.r16a | exact hP.r16b | exact hP.a0 | exact hP.a1 | exact hP.a2 | exact hP.b0 | exact hP.b1 | exact hP.b2 | exact hP.c0 | exact hP.c1 | exact hP.c2 | exact hP.l0 | exact hP.l1 | exact hP.l2 | exact hP.l3 | exact hP.l5 | exact hP.l6 | exact hP.l9 | exact hP.l10 | exact hP.l12 | exact hP.l13 | exact hP.l14 | skip)
          · exact fun _ => ⟨_, rfl, rfl⟩
          · exact fun h => absurd (hP.r16b h) (by rw [hd]; decide)
      · rintro l a W hl hd ha ⟨x3, x6, x7, x8, x9, x10, x11, x12, x13, x14, x15, x16, x17, x18, x19, x20, s1, s2, s3, rfl, hS, hP⟩
        have hD : ∀ k, Inv.D (l.setIfInBounds 16 true) k = if k = 16 then true else Inv.D l k := fun k => Inv.D_set l 16 k (by rw [hl]; decide)
        simp [Inv.ahead, Region.binds] at ha
        obtain ⟨b, rfl, rfl⟩ := hP.c1 ha.1 hd
        obtain ⟨q1, c1, rfl, rfl⟩ := hP.a2 (hP.r14a ha.2.1)
        obtain ⟨q2, c2, rfl, rfl⟩ := hP.b2 (hP.r14b ha.2.1)
        obtain rfl := hP.l14 ha.2.1
        obtain ⟨t0, t1, t2, t3, t4, t5, tf, tg⟩ := g6 hS (K := kG) (g := b) (n := 1) (q := zgv) (by simp) rfl
        simp only [zgv] at t0 t1 t2 t3 t4 t5
        have hS2 := Sg.setG (A := [rG kI (.slice q1 on c1) O, rG kI (.slice q2 un c2) V]) (g := b) (n := 1) (a := zgv) hS ⟨dt, dq, ⟨none, 0, 0⟩, ⟨q1, on, c1⟩, ⟨q2, un, c2⟩, s⟩
        refine Inv.wpOp_K rfl (fun K hK => ?_)
        go_simp
        refine hK _ _ ⟨_, x6, x7, x8, x9, x10, x11, x12, _, x14, x15, x16, _, x18, x19, _, [rG kI (.slice q1 on c1) O], [rG kI (.slice q2 un c2) V], [rG kG (.slice (some ⟨b, 0, none⟩) 1 1) [⟨dt, dq, ⟨none, 0, 0⟩, ⟨q1, on, c1⟩, ⟨q2, un, c2⟩, s⟩]], rfl, ?_, ?_⟩
        · exact hS2
        · constructor
          all_goals simp [hD]
          all_goals (first | exact hP.r7 | exact hP.r11 | exact hP.r14a | exact hP.r14b | exact hP.r16a | exact hP.r16b | exact hP.a0 | exact hP.a1 | exact hP.a2 | exact hP.b0 | exact hP.b1 | exact hP.b2 | exact hP.c0 | exact hP.c1 | exact hP.c2 | exact hP.l0 | exact hP.l1 | exact hP.l2 | exact hP.l3 | exact hP.l5 | exact hP.l6 | exact hP.l9 | exact hP.l10 | exact hP.l12 | exact hP.l13 | exact hP.l14 | skip)
          · exact ha.2.1
          · exact ha.1
          · exact hP.r7 (hP.r14a ha.2.1)
          · exact fun _ h => absurd (hP.r14a ha.2.1) (by rw [h]; decide)
          · exact hP.r11 (hP.r14b ha.2.1)
          · exact fun _ h => absurd (hP.r14b ha.2.1) (by rw [h]; decide)
          · exact ha.1
          · exact ⟨_, _, _, _, _, rfl, rfl, rfl, rfl⟩
  case rest =>
    obtain ⟨b3, q1, q2, c1, c2, rfl, hS⟩ := hcut
    clear hrow HO HU HL HK ho hu
    have hS0 : Sg w wc (rG kG (.slice (some ⟨b3, 0, none⟩) 1 1) [⟨dt, dq, ⟨none, 0, 0⟩, ⟨q1, on, c1⟩, ⟨q2, un, c2⟩, s⟩] :: (trY (.slice none 0 0) [] [] ++ (rG kI (.slice q2 un c2) V :: rG kI (.slice q1 on c1) O :: [rG kG (.slice (some ⟨w.heap.size + 1, 0, none⟩) 1 1) [zgv], rG kG (.slice (some ⟨w.heap.size, 0, none⟩) 1 1) [⟨dt, dq, ⟨yp, yn, yc⟩, ⟨op, on, oc⟩, ⟨up, un, uc⟩, s⟩]]))) :=
      (hS.add (r := rG kY (.slice none 0 0) []) ⟨rfl, .inl ⟨rfl, rfl⟩⟩ (Below.refl _ _)).perm (List.Perm.swap _ _ _)
    clear hS
    go_wp2
    go_loopw [4] (fun i wr => ∃ (k : Nat) (X : List YQ) (p3 : Option Addr) (c3 : Nat), k ≤ yn ∧ i = .int .i64 k ∧ Hid (X.length = k ∧ yds X = (yds QL).take k ∧ ∀ q ∈ X, q.2.n ≤ 1000 ∧ q.1.L.length = q.2.n) ∧ Sg w wr (rG kG (.slice (some ⟨b3, 0, none⟩) 1 1) [⟨dt, dq, ⟨p3, k, c3⟩, ⟨q1, on, c1⟩, ⟨q2, un, c2⟩, s⟩] :: (trY (.slice p3 k c3) X [] ++ (rG kI (.slice q2 un c2) V :: rG kI (.slice q1 on c1) O :: [rG kG (.slice (some ⟨w.heap.size + 1, 0, none⟩) 1 1) [zgv], rG kG (.slice (some ⟨w.heap.size, 0, none⟩) 1 1) [⟨dt, dq, ⟨yp, yn, yc⟩, ⟨op, on, oc⟩, ⟨up, un, uc⟩, s⟩]])))) (fun i _ => yn - (intOf i).toNat)
    case atStart => exact ⟨0, [], none, 0, by omega, rfl, ⟨rfl, rfl, by simp⟩, hS0⟩
    case round =>
      clear hS0
      obtain ⟨k, X, p3, c3, hk, rfl, hK, hS⟩ := hrel
      obtain ⟨y0, y1, y2, y3, y4, y5, yf, yg⟩ := g6 hS (K := kG) (g := w.heap.size) (n := 1) (q := ⟨dt, dq, ⟨yp, yn, yc⟩, ⟨op, on, oc⟩, ⟨up, un, uc⟩, s⟩) (by simp) rfl; simp only at y0 y1 y2 y3 y4 y5
      obtain ⟨x0, x1, x2, x3, x4, x5, xf, xg⟩ := g6 hS (K := kG) (g := b3) (n := 1) (q := ⟨dt, dq, ⟨p3, k, c3⟩, ⟨q1, on, c1⟩, ⟨q2, un, c2⟩, s⟩) (by simp) rfl; simp only at x0 x1 x2 x3 x4 x5
      by_cases hlt : k < yn
      · have hki : (k : Int) < yn := by omega
        have hkL : k < QL.length := by rw [HY.out.1]; exact hlt
        obtain ⟨g5, off, rfl, hC⟩ := (HY.out.2.1.1.step hS.bel).at hkL
        obtain ⟨d0, d1, d2⟩ := CsG.y3 hC (getY hkL)
        have hq := HY.out.2.1.2 _ (List.mem_of_getElem? (getY hkL))
        have hbd := HY.out.2.2 _ (List.mem_of_getElem? (getY hkL))
        have hct := yds_take hkL
        obtain ⟨⟨⟨t, q, L⟩, ⟨sp, sn, sc⟩⟩, hx⟩ : ∃ x : YQ, QL.getD k zyq = x := ⟨_, rfl⟩
        rw [hx] at d0 d1 d2 hq hbd hct
        simp only at d0 d1 d2 hct
        have HX : Hid (X.length = k ∧ yds X ++ [⟨t, q, L⟩] = (yds QL).take (k + 1) ∧ (∀ q ∈ X, q.2.n ≤ 1000 ∧ q.1.L.length = q.2.n) ∧ sn ≤ 1000 ∧ L.length = sn) := ⟨hK.out.1, by rw [hK.out.2.1, hct], hK.out.2.2, hbd.1, hq.2⟩
        have HI : Hid (∀ W, Below w.heap.size w W → SlG I.kR W sp L) := fun W h => hq.1.step h
        have HO : Hid (okv ⟨sp, sn, sc⟩) := hbd.2
        have etr : trY (.slice p3 k c3) X [] = rG kY (.slice p3 k c3) X :: X.map yR := by simp [trY]
        rw [etr] at hS
        have hlit := hS.lit I.kB [⟨t, q, ⟨sp, sn, sc⟩⟩] 1 rfl (by decide) #[.int .i64 t, .int .i64 q, .slice sp sn sc] rfl
        have hl2 := hlit.lit I.kR [] 0 rfl (by decide) #[] rfl
        simp only [World.size_alloc] at hl2
        have hne : ¬ b3 = wr.heap.size := by omega
        have hne2 : ¬ wr.heap.size = b3 := by omega
        have f1 : True := trivial
        clear hC hkL hq hbd hct hx hK
        go_wp2_with (first
          | (at_builtin; clear f1; refine wpList_cp I.appR I.oneRs rfl _ _ rfl (A := []) (L := L) (s := ⟨sp, sn, sc⟩) hl2 (Below.refl _ _) (HI.out _ hl2.bel) HX.out.2.2.2.2 (by have := HX.out.2.2.2.1; simp only; omega) HO.out rfl rfl ?_; intro q5 c5 w5 hS5; have hS6 := I.Sg.setB2 (A := [rG I.kR (.slice q5 sn c5) L]) (g := wr.heap.size) (n := 1) (a := ⟨t, q, ⟨sp, sn, sc⟩⟩) hS5 ⟨q5, sn, c5⟩; obtain ⟨e0, e1, e2, ef, eg⟩ := I.bat3 hS5 (K := I.kB) (g := wr.heap.size) (n := 1) (q := ⟨t, q, ⟨sp, sn, sc⟩⟩) (by simp) rfl; simp only at e0 e1 e2; clear y0 y1 y2 y3 y4 y5 yf yg x0 x1 x2 x3 x4 x5 xf xg; obtain ⟨y0, y1, y2, y3, y4, y5, yf, yg⟩ := g6 hS5 (K := kG) (g := w.heap.size) (n := 1) (q := ⟨dt, dq, ⟨some ⟨g5, off, none⟩, yn, yc⟩, ⟨op, on, oc⟩, ⟨up, un, uc⟩, s⟩) (by simp) rfl; simp only at y0 y1 y2 y3 y4 y5; obtain ⟨x0, x1, x2, x3, x4, x5, xf, xg⟩ := g6 hS5 (K := kG) (g := b3) (n := 1) (q := ⟨dt, dq, ⟨p3, k, c3⟩, ⟨q1, on, c1⟩, ⟨q2, un, c2⟩, s⟩) (by simp) rfl; simp only at x0 x1 x2 x3 x4 x5)
          | (at_builtin; refine wpList_sgapp appY rfl _ _ rfl (A := [rG I.kR (.slice q5 sn c5) L, rG I.kB (.slice (some ⟨wr.heap.size, 0, none⟩) 1 1) [⟨t, q, ⟨q5, sn, c5⟩⟩], rG kG (.slice (some ⟨b3, 0, none⟩) 1 1) [⟨dt, dq, ⟨p3, k, c3⟩, ⟨q1, on, c1⟩, ⟨q2, un, c2⟩, s⟩]]) (M := X) (B := [(⟨t, q, L⟩, ⟨q5, sn, c5⟩)]) (n := k) (m := 1) hS6 (below_alloc1 _ _) HX.out.1 rfl rfl ⟨_, 0, none⟩ 1 rfl (fun j u hj => lit_src (xs := [.int .i64 t, .int .i64 q, .slice q5 sn c5]) (t := 67) (by simp) j u hj) (oneYs _) (.inl (by decide)) (by omega) ?_; intro gn6 cp6 w6 hS7 _ _; clear x0 x1 x2 x3 x4 x5 xf xg; obtain ⟨x0, x1, x2, x3, x4, x5, xf, xg⟩ := g6 hS7 (K := kG) (g := b3) (n := 1) (q := ⟨dt, dq, ⟨p3, k, c3⟩, ⟨q1, on, c1⟩, ⟨q2, un, c2⟩, s⟩) (by simp) rfl; simp only at x0 x1 x2 x3 x4 x5))
        have hS8 := Sg.setG2 (A := [rG I.kR (.slice q5 sn c5) L, rG I.kB (.slice (some ⟨wr.heap.size, 0, none⟩) 1 1) [⟨t, q, ⟨q5, sn, c5⟩⟩]]) (g := b3) (n := 1) (a := ⟨dt, dq, ⟨p3, k, c3⟩, ⟨q1, on, c1⟩, ⟨q2, un, c2⟩, s⟩) hS7 ⟨some ⟨gn6, 0, none⟩, k + 1, cp6⟩
        go_roundw
        case rel =>
          refine ⟨k + 1, X ++ [(⟨t, q, L⟩, ⟨q5, sn, c5⟩)], some ⟨gn6, 0, none⟩, cp6, by omega, by go_num, ⟨by simp [HX.out.1], by rw [← HX.out.2.1]; simp [yds], fun q hq => ?_⟩, ?_⟩
          · rcases List.mem_append.mp hq with hq | hq
            · exact HX.out.2.2.1 q hq
            · simp at hq; subst hq; exact HX.out.2.2.2
          · have h9 := hS8.d1
            have h10 := trY_snoc (v := .slice (some ⟨gn6, 0, none⟩) (k + 1) cp6) (X := X) (q := (⟨t, q, L⟩, ⟨q5, sn, c5⟩)) (Bs := [rG kG (.slice (some ⟨b3, 0, none⟩) 1 1) [⟨dt, dq, ⟨some ⟨gn6, 0, none⟩, k + 1, cp6⟩, ⟨q1, on, c1⟩, ⟨q2, un, c2⟩, s⟩]] ++ (rG kI (.slice q2 un c2) V :: rG kI (.slice q1 on c1) O :: [rG kG (.slice (some ⟨w.heap.size + 1, 0, none⟩) 1 1) [zgv], rG kG (.slice (some ⟨w.heap.size, 0, none⟩) 1 1) [⟨dt, dq, ⟨some ⟨g5, off, none⟩, yn, yc⟩, ⟨op, on, oc⟩, ⟨up, un, uc⟩, s⟩]])) (h9.perm (by
              simp only [yR, List.cons_append, List.nil_append]
              refine List.Perm.cons _ ?_
              refine (List.perm_append_comm (l₁ := [_]) (l₂ := _ :: X.map yR)).append_right _ |>.trans ?_
              simp))
            refine h10.perm ?_
            rw [← List.append_assoc]
            exact (List.perm_append_comm (l₂ := [_])).append_right _
        case measure => simp [intOf]; omega
      · obtain rfl : k = yn := by omega
        have HF : Hid (yds X = yds QL ∧ ∀ q ∈ X, q.2.n ≤ 1000 ∧ q.1.L.length = q.2.n) := ⟨by rw [hK.out.2.1]; exact List.take_of_length_le (by rw [yds_len, HY.out.1]; exact Nat.le_refl _), hK.out.2.2⟩
        obtain ⟨v0, v1, v2, v3, v4, v5, vf, vg⟩ := g6 hS (K := kG) (g := w.heap.size + 1) (n := 1) (q := zgv) (by simp) rfl; simp only [zgv] at v0 v1 v2 v3 v4 v5
        clear hK
        go_wp2
        have hS9 := Sg.setG (A := rG kG (.slice (some ⟨b3, 0, none⟩) 1 1) [⟨dt, dq, ⟨p3, k, c3⟩, ⟨q1, on, c1⟩, ⟨q2, un, c2⟩, s⟩] :: (trY (.slice p3 k c3) X [] ++ [rG kI (.slice q2 un c2) V, rG kI (.slice q1 on c1) O])) (g := w.heap.size + 1) (n := 1) (a := zgv) (by simpa using hS) ⟨dt, dq, ⟨p3, k, c3⟩, ⟨q1, on, c1⟩, ⟨q2, un, c2⟩, s⟩
        refine bodyPost_ret (v := .agg #[.int .i64 dt, .int .i64 dq, .slice p3 k c3, .slice q1 on c1, .slice q2 un c2, .int .i64 s]) (by simp [results, Tryz.results40, go_sem, v0, v1, v2, v3, v4, v5]) rfl ⟨⟨p3, k, c3⟩, ⟨q1, on, c1⟩, ⟨q2, un, c2⟩, X, rfl, HF.out.1, HF.out.2, ?_⟩
        refine (hS9.sub (List.Sublist.trans (List.sublist_cons_self ..) (List.sublist_append_left ..))).perm ?_
        unfold gR
        exact List.perm_append_comm (l₁ := trY (.slice p3 k c3) X []) (l₂ := [rG kI (.slice q2 un c2) V, rG kI (.slice q1 on c1) O])
end Go.Proofs.YtobbankkfplooaaGreat.K.G
