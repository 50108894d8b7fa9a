/-
  A Directory drawn.
-/
import Derived.Test.YtamnmakegdnblaaKDC
import Derived.Test.YtamnmakegdnblaaKQ30
namespace Go.Proofs.Ytamnmakegdnblaa.K.D
open Go.Shelf Go.RowKit Go.Joins
attribute [local go_sem] Oper.semAt_some

theorem Sc.setO1 {w W : World} {C : Cu} {A Bs : List Rw} {g n c : Nat} {M : List On} (h : Sc w W C (A ++ rG kO (.slice (some ⟨g, 0, none⟩) n c) M :: Bs)) {k i : Nat} (hk : k < M.length) (hi : i < 4) (u : Value) (m : On) (hm : kO.vs m = (kO.vs (M.getD k zon)).set i u) :
    Sc w (W.setCell ⟨g, k * 4 + i, none⟩ u) C (A ++ rG kO (.slice (some ⟨g, 0, none⟩) n c) (M.set k m) :: Bs) := Sc.raw h (k * 4 + i) u (Sg.set1 h.sg hk hi u m hm)
theorem Sc.setO {w W : World} {C : Cu} {A Bs : List Rw} {g c : Nat} {a : On} (h : Sc w W C (A ++ rG kO (.slice (some ⟨g, 0, none⟩) 1 c) [a] :: Bs)) (m : On) :
    Sc w ((((W.setCell ⟨g, 0, none⟩ (.int .i64 m.l)).setCell ⟨g, 1, none⟩ (.int .i64 m.x)).setCell ⟨g, 2, none⟩ (.int .i64 m.y)).setCell ⟨g, 3, none⟩ (.int .i64 m.s)) C (A ++ rG kO (.slice (some ⟨g, 0, none⟩) 1 c) [m] :: Bs) := by
  obtain ⟨l, x, y, s⟩ := a
  have h1 := Sc.setO1 h (k := 0) (i := 0) (by simp) (by decide) (.int .i64 m.l) ⟨m.l, x, y, s⟩ rfl
  have h2 := Sc.setO1 h1 (k := 0) (i := 1) (by simp) (by decide) (.int .i64 m.x) ⟨m.l, m.x, y, s⟩ rfl
  have h3 := Sc.setO1 h2 (k := 0) (i := 2) (by simp) (by decide) (.int .i64 m.y) ⟨m.l, m.x, m.y, s⟩ rfl
  have h4 := Sc.setO1 h3 (k := 0) (i := 3) (by simp) (by decide) (.int .i64 m.s) m rfl
  simpa using h4
theorem Sc.setD0 {w W : World} {C : Cu} {A Bs : List Rw} {g n : Nat} {a : Dv} (h : Sc w W C (A ++ rG kD (.slice (some ⟨g, 0, none⟩) 1 n) [a] :: Bs)) (e : Int) : Sc w (W.setCell ⟨g, 0, none⟩ (.int .i64 e)) C (A ++ rG kD (.slice (some ⟨g, 0, none⟩) 1 n) [⟨e, a.p, a.n, a.c⟩] :: Bs) := Sc.raw h 0 (.int .i64 e) (Sg.setD0 h.sg e)
theorem Sc.setD1 {w W : World} {C : Cu} {A Bs : List Rw} {g n : Nat} {a : Dv} (h : Sc w W C (A ++ rG kD (.slice (some ⟨g, 0, none⟩) 1 n) [a] :: Bs)) (p : Option Addr) (m c : Nat) : Sc w (W.setCell ⟨g, 1, none⟩ (.slice p m c)) C (A ++ rG kD (.slice (some ⟨g, 0, none⟩) 1 n) [⟨a.e, p, m, c⟩] :: Bs) := Sc.raw h 1 (.slice p m c) (Sg.setD1 h.sg p m c)
theorem Sc.setD {w W : World} {C : Cu} {A Bs : List Rw} {g n : Nat} {a : Dv} (h : Sc w W C (A ++ rG kD (.slice (some ⟨g, 0, none⟩) 1 n) [a] :: Bs)) (q : Dv) : Sc w ((W.setCell ⟨g, 0, none⟩ (.int .i64 q.e)).setCell ⟨g, 1, none⟩ (.slice q.p q.n q.c)) C (A ++ rG kD (.slice (some ⟨g, 0, none⟩) 1 n) [q] :: Bs) := Sc.setD1 (Sc.setD0 h q.e) q.p q.n q.c
theorem Sc.litD {w W : World} {C : Cu} {rs : List Rw} (h : Sc w W C rs) (d : Dv) : Sc w (W.alloc (.cells #[.int .i64 d.e, .slice d.p d.n d.c] 26)) C (rG kD (.slice (some ⟨W.heap.size, 0, none⟩) 1 1) [d] :: rs) := h.lit kD [d] 1 rfl (by decide) #[.int .i64 d.e, .slice d.p d.n d.c] rfl
theorem Sc.litO {w W : World} {C : Cu} {rs : List Rw} (h : Sc w W C rs) (o : On) : Sc w (W.alloc (.cells #[.int .i64 o.l, .int .i64 o.x, .int .i64 o.y, .int .i64 o.s] 73)) C (rG kO (.slice (some ⟨W.heap.size, 0, none⟩) 1 1) [o] :: rs) := h.lit kO [o] 1 rfl (by decide) #[.int .i64 o.l, .int .i64 o.x, .int .i64 o.y, .int .i64 o.s] rfl
theorem Sc.litZ {w W : World} {C : Cu} {rs : List Rw} (h : Sc w W C rs) : Sc w (W.alloc (.cells #[.int .i64 0, .slice none 0 0] 26)) C (rG kD (.slice (some ⟨W.heap.size, 0, none⟩) 1 1) [zdv] :: rs) := Sc.litD h zdv
theorem Sc.litZO {w W : World} {C : Cu} {rs : List Rw} (h : Sc w W C rs) : Sc w (W.alloc (.cells #[.int .i64 0, .int .i64 0, .int .i64 0, .int .i64 0] 73)) C (rG kO (.slice (some ⟨W.heap.size, 0, none⟩) 1 1) [zon] :: rs) := Sc.litO h zon
/-- A right Directory whose Owns lie in a row of one's own: somewhere. -/
theorem some_at {w W : World} {rs : List Rw} {q : Option Addr} {n c : Nat} {e : Int} {L : List On} (h : Sg w W rs) (hm : rG kO (.slice q n c) L ∈ rs) (hd : dirB e L = true) : ∃ g, q = some ⟨g, 0, none⟩ ∧ n = L.length ∧ 1 ≤ n ∧ n ≤ 64 ∧ n ≤ c := by
  have ho := h.mem hm
  have hl := OwG.len ho
  obtain ⟨h1, h2⟩ := dir_on hd
  have hp : 1 ≤ L.length := by
    have := (dir_whole hd).2.2.2.2
    rcases Nat.eq_zero_or_pos L.length with h0 | h0
    · rw [h0, arS_zero] at this; omega
    · exact h0
  obtain ⟨g, hg⟩ := ow_some ho (by omega)
  subst hg
  refine ⟨g, rfl, hl, by omega, by omega, ?_⟩
  rcases ho.2 with ⟨h3, _⟩ | ⟨g', cap, cur, h3, _, _, h4, h5, _⟩
  · injection h3 with a b; cases a
  · injection h3 with a b d
    omega
/-- A Directory that a draw gives: what its row tells, wherever it stands. -/
structure DrD (q : Option Addr) (n c : Nat) (L : List On) (row : Rw) : Prop where
  len : L.length = n
  n64 : n ≤ 64
  nc : n ≤ c
  ok : okv ⟨q, n, c⟩
  rd : ∀ w W rs, Sg w W rs → row ∈ rs → SlG kO W q L
/-- What a draw of a Directory gives. -/
def DrP (w w' : World) (C : Cu) (rs : List Rw) (ee : Ending) : Prop := ∃ (e : Int) (q : Option Addr) (n c : Nat) (L : List On) (row : Rw), ee = .returned (Dv.v ⟨e, q, n, c⟩) ∧ DrD q n c L row ∧ Sc w w' C (row :: rs)
theorem ch_dir {f : On → List On} {e : Int} {L : List On} {l x y : Int} (h : chB f e L l x y = true) : dirB (chE f e L l x y) (chL f e L l x y) = true := by
  have h2 := h
  unfold chB at h2
  simp only [Bool.and_eq_true] at h2
  unfold chE chL
  rw [h2.1, h]
  exact h2.2.2
theorem spl_dir {e : Int} {L : List On} {l x y : Int} (h : splB e L l x y = true) : dirB (splE e L l x y) (splL e L l x y) = true := by
  rw [← split_chE, ← split_chL]; exact ch_dir (by rw [split_ch]; exact h)
theorem giv_dir {e : Int} {L : List On} {l x y s : Int} (h : givB e L l x y s = true) : dirB (givE e L l x y s) (givL e L l x y s) = true := by
  rw [← given_chE, ← given_chL]; exact ch_dir (by rw [given_ch]; exact h)
theorem Sg.ne01 {α β : Type} {K : Kd α} {K' : Kd β} {w W : World} {a b o o' n c n' c' : Nat} {L : List α} {L' : List β} {rs : List Rw} (h : Sg w W (rG K (.slice (some ⟨a, o, none⟩) n c) L :: rG K' (.slice (some ⟨b, o', none⟩) n' c') L' :: rs)) : ¬ a = b := by
  have h1 := (List.pairwise_cons.mp h.dis).1 _ (List.mem_cons_self ..)
  rcases h1 with e | e
  · simp [rG, Value.ownBlock] at e
  · exact fun h2 => e (by simp [rG, Value.ownBlock, h2])
theorem Sc.litI3 {w W : World} {C : Cu} {rs : List Rw} (h : Sc w W C rs) (a b c : Int) : Sc w (W.alloc (.cells #[.int .i64 a, .int .i64 b, .int .i64 c] 2)) C (rG kI (.slice (some ⟨W.heap.size, 0, none⟩) 3 3) [a, b, c] :: rs) := h.lit kI [a, b, c] 3 rfl (by decide) #[.int .i64 a, .int .i64 b, .int .i64 c] rfl
theorem pick3 (a b c : Rw) (T : List Rw) : T.Sublist (a :: b :: c :: T) := .cons _ (.cons _ (.cons _ (List.Sublist.refl _)))
theorem Sc.pick6 {w W : World} {C : Cu} {a d o b t z : Rw} {rs : List Rw} (h : Sc w W C ([a, d, o] ++ b :: t :: z :: rs)) : Sc w W C (b :: d :: z :: rs) := by
  have h1 : Sc w W C (b :: a :: d :: o :: t :: z :: rs) := h.perm List.perm_middle
  exact h1.sub (.cons_cons _ (.cons _ (.cons_cons _ (.cons _ (.cons _ (List.Sublist.refl _))))))
set_option maxRecDepth 100000 in
set_option maxHeartbeats 4000000 in
theorem dirC {w W : World} {C : Cu} {rs : List Rw} (h : Sc w W C rs) :
    Calls Try.prog 36 #[.pointer (some ⟨C.g, 0, none⟩)] W fun ee w' => DrP w w' C rs ee := by
  have hx := Sc.litZ h
  have hd0 : dirB 1 [zon] = true := by decide
  go_enter Try.func36, Try.ntmps36
  go_upto_region 2 with (go_at_call 22; refine (sNewDirectory_any _).mono ?_; rintro ee w1 ⟨g1, rfl, hS1⟩; replace hx := hx.addL hS1)
  replace hx : Sc w (w1.alloc (.cells #[.int .i64 1, .slice (some ⟨g1, 0, none⟩) 1 1] 26)) C _ := Sc.litD hx ⟨1, some ⟨g1, 0, none⟩, 1, 1⟩
  replace hx : Sc w (w1.alloc (.cells #[.int .i64 1, .slice (some ⟨g1, 0, none⟩) 1 1] 26)) C (rG kD (.slice (some ⟨w1.heap.size, 0, none⟩) 1 1) [⟨1, some ⟨g1, 0, none⟩, 1, 1⟩] :: rG kO (.slice (some ⟨g1, 0, none⟩) 1 1) [zon] :: rG kD (.slice (some ⟨W.heap.size, 0, none⟩) 1 1) [zdv] :: rs) := hx
  generalize w1.heap.size = b3 at *
  generalize w1.alloc (.cells #[.int .i64 1, .slice (some ⟨g1, 0, none⟩) 1 1] 26) = w2 at *
  generalize W.heap.size = b2 at *
  clear h
  go_upto_region 3 with (go_at_call 44; refine (belowC hx 7 (by decide) (by decide)).mono ?_; rintro ee w3 ⟨m0, rfl, hm0, hm7, hx3⟩)
  clear hx
  go_loopw [4] (fun iv wr => ∃ (k e : Int) (g n c : Nat) (L : List On), 0 ≤ k ∧ k ≤ 7 ∧ iv = .int .i64 k ∧ Hid (dirB e L = true) ∧ Sc w wr C (rG kD (.slice (some ⟨b3, 0, none⟩) 1 1) [⟨e, some ⟨g, 0, none⟩, n, c⟩] :: rG kO (.slice (some ⟨g, 0, none⟩) n c) L :: rG kD (.slice (some ⟨b2, 0, none⟩) 1 1) [zdv] :: rs)) (fun iv _ => (intOf iv).toNat)
  case atStart => exact ⟨m0, 1, g1, 1, 1, [zon], hm0, by omega, rfl, hd0, hx3⟩
  case round =>
    clear hx3
    obtain ⟨k, e, g, n, c, L, hk0, hk7, rfl, HD, hx⟩ := hrel
    obtain ⟨_, hge, hnl, hn1, hn64, hnc⟩ := some_at hx.sg (q := some ⟨g, 0, none⟩) (n := n) (c := c) (e := e) (L := L) (by simp) HD.out
    have HN : Hid (n = L.length) := hnl
    clear hge hnl
    have hni : (1 : Int) ≤ n := by omega
    have hni2 : (n : Int) ≤ 256 := by omega
    by_cases hk : 0 < k
    · obtain ⟨d0, d1, df, dg⟩ := dv2 hx.sg (K := kD) (g := b3) (n := 1) (q := ⟨e, some ⟨g, 0, none⟩, n, c⟩) (by simp) rfl
      dsimp only at d0 d1
      go_upto_region 5 with (fail)
      go_cut [5] from 17 to 25 (fun v5 wx => ∃ (b5 j : Nat), j < n ∧ v5 = .pointer (some ⟨b5, 0, none⟩) ∧ Sc w wx C (rG kO (.slice (some ⟨b5, 0, none⟩) 1 1) [L.getD j zon] :: rG kD (.slice (some ⟨b3, 0, none⟩) 1 1) [⟨e, some ⟨g, 0, none⟩, n, c⟩] :: rG kO (.slice (some ⟨g, 0, none⟩) n c) L :: rG kD (.slice (some ⟨b2, 0, none⟩) 1 1) [zdv] :: rs))
      case first =>
        have HS : Hid (∀ w' rs', Sc w w' C rs' → rG kD (.slice (some ⟨b3, 0, none⟩) 1 1) [⟨e, some ⟨g, 0, none⟩, n, c⟩] ∈ rs' → rG kO (.slice (some ⟨g, 0, none⟩) n c) L ∈ rs' → ((w'.cell? ⟨b3, 0, none⟩ = some (.int .i64 e) ∧ w'.cell? ⟨b3, 1, none⟩ = some (.slice (some ⟨g, 0, none⟩) n c)) ∧ (∀ j, j < n → (w'.cell? ⟨g, j * 4, none⟩ = some (.int .i64 (L.getD j zon).l) ∧ w'.cell? ⟨g, j * 4 + 1, none⟩ = some (.int .i64 (L.getD j zon).x) ∧ w'.cell? ⟨g, j * 4 + 2, none⟩ = some (.int .i64 (L.getD j zon).y) ∧ w'.cell? ⟨g, j * 4 + 3, none⟩ = some (.int .i64 (L.getD j zon).s))))) := fun w' rs' h m1 m2 => by
          obtain ⟨y0, y1, _, _⟩ := dv2 h.sg (K := kD) (g := b3) (n := 1) (q := ⟨e, some ⟨g, 0, none⟩, n, c⟩) m1 rfl
          refine ⟨⟨y0, y1⟩, fun j hj => ?_⟩
          obtain ⟨c0, c1, c2, c3⟩ := CsG.o4 (OwG.cs (h.sg.mem m2)) (getO (show j < L.length by rw [← HN.out]; exact hj))
          simp only [Nat.zero_add] at c0 c1 c2 c3
          exact ⟨c0, c1, c2, c3⟩
        have hr := hx
        clear d0 d1
        go_region_held3 (fun w' => ((w'.cell? ⟨b3, 0, none⟩ = some (.int .i64 e) ∧ w'.cell? ⟨b3, 1, none⟩ = some (.slice (some ⟨g, 0, none⟩) n c)) ∧ (∀ j, j < n → (w'.cell? ⟨g, j * 4, none⟩ = some (.int .i64 (L.getD j zon).l) ∧ w'.cell? ⟨g, j * 4 + 1, none⟩ = some (.int .i64 (L.getD j zon).x) ∧ w'.cell? ⟨g, j * 4 + 2, none⟩ = some (.int .i64 (L.getD j zon).y) ∧ w'.cell? ⟨g, j * 4 + 3, none⟩ = some (.int .i64 (L.getD j zon).s)))))
          (first
            | assumption
            | with_reducible exact HS.out _ _ hr (by simp) (by simp)
            | with_reducible exact HS.out _ _ (Sc.dr hr) (by simp) (by simp)
            | with_reducible exact HS.out _ _ (Sc.al hr _) (by simp) (by simp)
            | with_reducible exact HS.out _ _ (Sc.dr (Sc.al hr _)) (by simp) (by simp)
            | with_reducible exact HS.out _ _ h7 (by simp) (by simp))
          (first | (go_at_call 44; (first | refine (belowC hr n hni hni2).mono ?_ | refine (belowC (Sc.dr hr) n hni hni2).mono ?_ | refine (belowC (Sc.litZO hr) n hni hni2).mono ?_ | refine (belowC (Sc.dr (Sc.litZO hr)) n hni hni2).mono ?_); rintro ee w4 ⟨z, rfl, hz0, hz1, hx4⟩; obtain ⟨j, rfl⟩ := Int.eq_ofNat_of_zero_le hz0; have hj : j < n := (by omega); replace hr := hx4; (first | (have hzo := hr.sg.mem (K := kO) (v := .slice (some ⟨wr.heap.size, 0, none⟩) 1 1) (L := [zon]) (List.mem_cons_self ..); obtain ⟨v0, v1, v2, v3⟩ := CsG.o4 (OwG.cs hzo) (k := 0) rfl; have vf := OwG.fz hzo; have h7 := Sc.setO (A := []) hr (L[j]?.getD zon); simp only [Nat.zero_mul, Nat.zero_add] at v0 v1 v2 v3; clear hzo) | skip)))
        all_goals go_wp2
        all_goals go_meet
        all_goals first
          | exact ⟨w4.heap.size, j, hj, rfl, Sc.litO hr (L[j]?.getD zon)⟩
          | exact ⟨wr.heap.size, j, hj, rfl, h7⟩
      case rest =>
        clear hx d0 d1 df
        obtain ⟨b5, j, hj, rfl, hx⟩ := hcut
        obtain ⟨⟨ol, ox, oy, os⟩, ho⟩ : ∃ o, L.getD j zon = o := ⟨_, rfl⟩
        rw [ho] at hx
        clear ho hj j
        have HSp : Hid (∀ W' rs', Sg w W' rs' → rG kO (.slice (some ⟨g, 0, none⟩) n c) L ∈ rs' → Calls Try.prog 15 #[Dv.v ⟨e, some ⟨g, 0, none⟩, n, c⟩, .agg #[.int .i64 ol, .int .i64 ox, .int .i64 oy]] W' fun ee w' => ∃ (q : Option Addr) (m c' : Nat) (e' : Int) (L' : List On) (y : Bool), ee = .returned (.tuple #[Dv.v ⟨e', q, m, c'⟩, .bool y]) ∧ Hid (y = true → dirB e' L' = true) ∧ Sg W' w' [rG kO (.slice q m c') L']) := fun W' rs' h hm => (sSplit_any e _ n c L HN.out.symm ol ox oy W' (OwG.sl (h.mem hm)) hnc (.inl ⟨_, rfl⟩)).mono fun ee w' ⟨q, m, c', h1, h2⟩ => ⟨q, m, c', _, _, _, h1, fun hy => spl_dir hy, h2⟩
        have HGv : Hid (∀ W' rs' (s : Int), Sg w W' rs' → rG kO (.slice (some ⟨g, 0, none⟩) n c) L ∈ rs' → Calls Try.prog 23 #[Dv.v ⟨e, some ⟨g, 0, none⟩, n, c⟩, .agg #[.int .i64 ol, .int .i64 ox, .int .i64 oy], .int .i64 s] W' fun ee w' => ∃ (q : Option Addr) (m c' : Nat) (e' : Int) (L' : List On) (y : Bool), ee = .returned (.tuple #[Dv.v ⟨e', q, m, c'⟩, .bool y]) ∧ Hid (y = true → dirB e' L' = true) ∧ Sg W' w' [rG kO (.slice q m c') L']) := fun W' rs' s h hm => (sGiven_any e _ n c L HN.out.symm ol ox oy s W' (OwG.sl (h.mem hm)) hnc (.inl ⟨_, rfl⟩)).mono fun ee w' ⟨q, m, c', h1, h2⟩ => ⟨q, m, c', _, _, _, h1, fun hy => giv_dir hy, h2⟩
        have HC5 : Hid (∀ W' rs', Sg w W' rs' → rG kO (.slice (some ⟨b5, 0, none⟩) 1 1) [⟨ol, ox, oy, os⟩] ∈ rs' → rG kD (.slice (some ⟨b3, 0, none⟩) 1 1) [⟨e, some ⟨g, 0, none⟩, n, c⟩] ∈ rs' → ((W'.cell? ⟨b3, 0, none⟩ = some (.int .i64 e) ∧ W'.cell? ⟨b3, 1, none⟩ = some (.slice (some ⟨g, 0, none⟩) n c)) ∧ (W'.cell? ⟨b5, 0, none⟩ = some (.int .i64 ol) ∧ W'.cell? ⟨b5, 1, none⟩ = some (.int .i64 ox) ∧ W'.cell? ⟨b5, 2, none⟩ = some (.int .i64 oy)))) := fun W' rs' h m1 m2 => by
          obtain ⟨y0, y1, _, _⟩ := dv2 h (K := kD) (g := b3) (n := 1) (q := ⟨e, some ⟨g, 0, none⟩, n, c⟩) m2 rfl
          obtain ⟨z0, z1, z2, _⟩ := CsG.o4 (OwG.cs (h.mem m1)) (k := 0) rfl
          simp only [Nat.zero_mul, Nat.zero_add] at z0 z1 z2
          exact ⟨⟨y0, y1⟩, z0, z1, z2⟩
        go_upto_if 27 with (go_at_call 43; refine (onceC hx 2 (by decide) (by decide)).mono ?_; rintro ee w5 ⟨yb, rfl, hx5⟩)
        clear hx
        cases yb
        · go_upto_region 10 with (fail)
          go_cut [8, 9] from 37 to 45 (fun v8 v9 wx => ∃ (b8 : Nat) (q : Option Addr) (m c' : Nat) (e' : Int) (L' : List On) (y : Bool), v8 = .pointer (some ⟨b8, 0, none⟩) ∧ v9 = .bool y ∧ Hid (y = true → dirB e' L' = true) ∧ Sc w wx C (rG kD (.slice (some ⟨b8, 0, none⟩) 1 1) [⟨e', q, m, c'⟩] :: rG kO (.slice q m c') L' :: rG kO (.slice (some ⟨b5, 0, none⟩) 1 1) [⟨ol, ox, oy, os⟩] :: rG kD (.slice (some ⟨b3, 0, none⟩) 1 1) [⟨e, some ⟨g, 0, none⟩, n, c⟩] :: rG kO (.slice (some ⟨g, 0, none⟩) n c) L :: rG kD (.slice (some ⟨b2, 0, none⟩) 1 1) [zdv] :: rs))
          case first =>
            have hr := hx5
            clear hx5
            go_region_held3 (fun w' => ((w'.cell? ⟨b3, 0, none⟩ = some (.int .i64 e) ∧ w'.cell? ⟨b3, 1, none⟩ = some (.slice (some ⟨g, 0, none⟩) n c)) ∧ (w'.cell? ⟨b5, 0, none⟩ = some (.int .i64 ol) ∧ w'.cell? ⟨b5, 1, none⟩ = some (.int .i64 ox) ∧ w'.cell? ⟨b5, 2, none⟩ = some (.int .i64 oy))))
              (first
                | assumption
                | with_reducible exact HC5.out _ _ hr.sg (by simp) (by simp)
                | with_reducible exact HC5.out _ _ (Sc.dr hr).sg (by simp) (by simp)
                | with_reducible exact HC5.out _ _ (Sc.al hr _).sg (by simp) (by simp)
                | with_reducible exact HC5.out _ _ (Sc.dr (Sc.al hr _)).sg (by simp) (by simp)
                | with_reducible exact HC5.out _ _ h7.sg (by simp) (by simp))
              (first
                | (go_at_call 44; (first | refine (belowC hr 3 (by decide) (by decide)).mono ?_ | refine (belowC (Sc.dr hr) 3 (by decide) (by decide)).mono ?_ | refine (belowC (Sc.litZ hr) 3 (by decide) (by decide)).mono ?_ | refine (belowC (Sc.dr (Sc.litZ hr)) 3 (by decide) (by decide)).mono ?_); rintro ee v4 ⟨sz, rfl, hs0, hs1, hr4⟩; replace hr := hr4)
                | (go_at_call 23; (first | refine (HGv.out _ _ sz hr.sg (by simp)).mono ?_ | refine (HGv.out _ _ sz (Sc.litZ hr).sg (by simp)).mono ?_); rintro ee v6 ⟨q6, m6, c6, e6, L6, y6, rfl, H6, hS6⟩; (first | with_reducible (replace hr := hr.addL hS6) | with_reducible (replace hr := (Sc.litZ hr).addL hS6)); clear hS6; (first
                    | (obtain ⟨u0, u1, uf, ug⟩ := dv2 hr.sg (K := kD) (g := w5.heap.size) (n := 1) (q := zdv) (by simp) rfl; have h7 := Sc.setD (A := [rG kO (.slice q6 m6 c6) L6]) (g := w5.heap.size) (n := 1) (a := zdv) hr ⟨e6, q6, m6, c6⟩)
                    | (obtain ⟨u0, u1, uf, ug⟩ := dv2 hr.sg (K := kD) (g := v4.heap.size) (n := 1) (q := zdv) (by simp) rfl; have h7 := Sc.setD (A := [rG kO (.slice q6 m6 c6) L6]) (g := v4.heap.size) (n := 1) (a := zdv) hr ⟨e6, q6, m6, c6⟩)
                    | skip)))
            all_goals go_wp2
            all_goals go_meet
            all_goals first
              | exact ⟨v6.heap.size, q6, m6, c6, e6, L6, y6, rfl, rfl, H6, Sc.litD hr ⟨e6, q6, m6, c6⟩⟩
              | exact ⟨w5.heap.size, q6, m6, c6, e6, L6, y6, rfl, rfl, H6, h7.perm (permB _ _ _)⟩
              | exact ⟨v4.heap.size, q6, m6, c6, e6, L6, y6, rfl, rfl, H6, h7.perm (permB _ _ _)⟩
          case rest =>
            clear hx5
            obtain ⟨b8, q6, m6, c6, e6, L6, y6, rfl, rfl, H6, hx6⟩ := hcut
            cases y6
            · go_wp2
              go_roundw
              case rel => exact ⟨k - 1, e, g, n, c, L, by omega, by omega, by go_num, HD.out, hx6.sub (pick3 _ _ _ _)⟩
              case measure => simp [intOf]; omega
            · have hd6 := H6.out rfl
              obtain ⟨g6, rfl, -, -, -, -⟩ := some_at hx6.sg (q := q6) (n := m6) (c := c6) (e := e6) (L := L6) (by simp) hd6
              have HD6 : Hid (dirB e6 L6 = true) := hd6
              clear hd6 H6
              obtain ⟨y0, y1, yf, yg⟩ := dv2 hx6.sg (K := kD) (g := b3) (n := 1) (q := ⟨e, some ⟨g, 0, none⟩, n, c⟩) (by simp) rfl
              obtain ⟨x0, x1, _, _⟩ := dv2 hx6.sg (K := kD) (g := b8) (n := 1) (q := ⟨e6, some ⟨g6, 0, none⟩, m6, c6⟩) (by simp) rfl
              dsimp only at y0 y1 x0 x1
              have hx9 := Sc.setD (A := [rG kD (.slice (some ⟨b8, 0, none⟩) 1 1) [⟨e6, some ⟨g6, 0, none⟩, m6, c6⟩], rG kO (.slice (some ⟨g6, 0, none⟩) m6 c6) L6, rG kO (.slice (some ⟨b5, 0, none⟩) 1 1) [⟨ol, ox, oy, os⟩]]) (g := b3) (n := 1) (a := ⟨e, some ⟨g, 0, none⟩, n, c⟩) hx6 ⟨e6, some ⟨g6, 0, none⟩, m6, c6⟩
              go_wp2
              go_roundw
              case rel => exact ⟨k - 1, e6, g6, m6, c6, L6, by omega, by omega, by go_num, HD6.out, Sc.pick6 hx9⟩
              case measure => simp [intOf]; omega
        · obtain ⟨⟨d0, d1⟩, z0, z1, z2⟩ := HC5.out _ _ hx5.sg (by simp) (by simp)
          go_upto_region 8 with (go_at_call 15; refine (HSp.out _ _ hx5.sg (by simp)).mono ?_; rintro ee w6 ⟨q6, m6, c6, e6, L6, y6, rfl, H6, hS6⟩; have hx6 := hx5.addL hS6; clear d0 d1 z0 z1 z2)
          clear hx5
          replace hx6 : Sc w (w6.alloc (.cells #[.int .i64 e6, .slice q6 m6 c6] 26)) C _ := Sc.litD hx6 ⟨e6, q6, m6, c6⟩
          replace hx6 : Sc w (w6.alloc (.cells #[.int .i64 e6, .slice q6 m6 c6] 26)) C (rG kD (.slice (some ⟨w6.heap.size, 0, none⟩) 1 1) [⟨e6, q6, m6, c6⟩] :: rG kO (.slice q6 m6 c6) L6 :: rG kO (.slice (some ⟨b5, 0, none⟩) 1 1) [⟨ol, ox, oy, os⟩] :: rG kD (.slice (some ⟨b3, 0, none⟩) 1 1) [⟨e, some ⟨g, 0, none⟩, n, c⟩] :: rG kO (.slice (some ⟨g, 0, none⟩) n c) L :: rG kD (.slice (some ⟨b2, 0, none⟩) 1 1) [zdv] :: rs) := hx6
          cases y6
          · go_wp2
            go_roundw
            case rel => exact ⟨k - 1, e, g, n, c, L, by omega, by omega, by go_num, HD.out, hx6.sub (pick3 _ _ _ _)⟩
            case measure => simp [intOf]; omega
          · have hd6 := H6.out rfl
            obtain ⟨g6, rfl, -, -, -, -⟩ := some_at hx6.sg (q := q6) (n := m6) (c := c6) (e := e6) (L := L6) (by simp) hd6
            have HD6 : Hid (dirB e6 L6 = true) := hd6
            clear hd6 H6
            obtain ⟨y0, y1, yf, yg⟩ := dv2 hx6.sg (K := kD) (g := b3) (n := 1) (q := ⟨e, some ⟨g, 0, none⟩, n, c⟩) (by simp) rfl
            obtain ⟨x0, x1, _, _⟩ := dv2 hx6.sg (K := kD) (g := w6.heap.size) (n := 1) (q := ⟨e6, some ⟨g6, 0, none⟩, m6, c6⟩) (by simp) rfl
            dsimp only at y0 y1 x0 x1
            have hx9 := Sc.setD (A := [rG kD (.slice (some ⟨w6.heap.size, 0, none⟩) 1 1) [⟨e6, some ⟨g6, 0, none⟩, m6, c6⟩], rG kO (.slice (some ⟨g6, 0, none⟩) m6 c6) L6, rG kO (.slice (some ⟨b5, 0, none⟩) 1 1) [⟨ol, ox, oy, os⟩]]) (g := b3) (n := 1) (a := ⟨e, some ⟨g, 0, none⟩, n, c⟩) hx6 ⟨e6, some ⟨g6, 0, none⟩, m6, c6⟩
            go_wp2
            go_roundw
            case rel => exact ⟨k - 1, e6, g6, m6, c6, L6, by omega, by omega, by go_num, HD6.out, Sc.pick6 hx9⟩
            case measure => simp [intOf]; omega
    · go_upto_if 49 with (go_at_call 43; refine (onceC hx 12 (by decide) (by decide)).mono ?_; rintro ee w5 ⟨yb, rfl, hx5⟩)
      clear hx
      cases yb
      · obtain ⟨y0, y1, yf, yg⟩ := dv2 hx5.sg (K := kD) (g := b3) (n := 1) (q := ⟨e, some ⟨g, 0, none⟩, n, c⟩) (by simp) rfl
        obtain ⟨z0, z1, zf, zg⟩ := dv2 hx5.sg (K := kD) (g := b2) (n := 1) (q := zdv) (by simp) rfl
        dsimp only at y0 y1
        simp only [zdv] at z0 z1
        have hx9 := Sc.setD (A := [rG kD (.slice (some ⟨b3, 0, none⟩) 1 1) [⟨e, some ⟨g, 0, none⟩, n, c⟩], rG kO (.slice (some ⟨g, 0, none⟩) n c) L]) (g := b2) (n := 1) (a := zdv) hx5 ⟨e, some ⟨g, 0, none⟩, n, c⟩
        go_wp2
        refine bodyPost_ret (v := .agg #[.int .i64 (e), .slice (some ⟨g, 0, none⟩) (n) (c)]) (by simp [results, Try.results36, go_sem, z0, z1]) rfl ⟨e, some ⟨g, 0, none⟩, n, c, L, rG kO (.slice (some ⟨g, 0, none⟩) n c) L, rfl, ⟨HN.out.symm, hn64, hnc, .inl ⟨_, rfl⟩, fun w W rs h hm => OwG.sl (h.mem hm)⟩, hx9.sub (.cons _ (.cons_cons _ (.cons _ (List.Sublist.refl _))))⟩
      · go_upto_region 15 with (go_at_call 44; refine (belowC hx5 4 (by decide) (by decide)).mono ?_; rintro ee w6 ⟨z, rfl, hz0, hz3, hx⟩)
        clear hx5
        have hz : z = 0 ∨ z = 1 ∨ z = 2 ∨ z = 3 := by omega
        rcases hz with rfl | rfl | rfl | rfl
        · clear hz0 hz3
          obtain ⟨y0, y1, yf, yg⟩ := dv2 hx.sg (K := kD) (g := b3) (n := 1) (q := ⟨e, some ⟨g, 0, none⟩, n, c⟩) (by simp) rfl
          go_upto_region 23 with (go_at_call 44; refine (belowC (hx.lit kI [0, 100000, 100001] 3 rfl (by decide) #[.int .i64 0, .int .i64 100000, .int .i64 100001] rfl) 3 (by decide) (by decide)).mono ?_; rintro ee w7 ⟨z, rfl, hz0, hz1, hx7⟩; obtain ⟨jz, rfl⟩ := Int.eq_ofNat_of_zero_le hz0; have hjz : jz < 3 := (by omega); obtain ⟨v, hv⟩ : ∃ v, ([0, 100000, 100001] : List Int)[jz]? = some v := ⟨_, List.getElem?_eq_getElem hjz⟩; have hcv := CsG.int (OwG.cs (hx7.sg.mem (K := kI) (v := .slice (some ⟨w6.heap.size, 0, none⟩) 3 3) (L := [0, 100000, 100001]) (List.mem_cons_self ..))) hv; simp only [Nat.zero_add] at hcv; clear y0 y1 yf yg; obtain ⟨y0, y1, yf, yg⟩ := dv2 hx7.sg (K := kD) (g := b3) (n := 1) (q := ⟨e, some ⟨g, 0, none⟩, n, c⟩) (by simp) rfl)
          replace hx7 : Sc w w7 C ([rG kI (.slice (some ⟨w6.heap.size, 0, none⟩) 3 3) [0, 100000, 100001]] ++ rG kD (.slice (some ⟨b3, 0, none⟩) 1 1) [⟨e, some ⟨g, 0, none⟩, n, c⟩] :: rG kO (.slice (some ⟨g, 0, none⟩) n c) L :: rG kD (.slice (some ⟨b2, 0, none⟩) 1 1) [zdv] :: rs) := hx7
          have hx8 : Sc w _ C _ := (Sc.setD0 hx7 v).sub (List.sublist_cons_self ..)
          clear y0 y1 yf yg hx hx7
          obtain ⟨y0, y1, yf, yg⟩ := dv2 hx8.sg (K := kD) (g := b3) (n := 1) (q := ⟨v, some ⟨g, 0, none⟩, n, c⟩) (by simp) rfl
          obtain ⟨z0, z1, zf, zg⟩ := dv2 hx8.sg (K := kD) (g := b2) (n := 1) (q := zdv) (by simp) rfl
          dsimp only at y0 y1
          simp only [zdv] at z0 z1
          have hx9 := Sc.setD (A := [rG kD (.slice (some ⟨b3, 0, none⟩) 1 1) [⟨v, some ⟨g, 0, none⟩, n, c⟩], rG kO (.slice (some ⟨g, 0, none⟩) n c) L]) (g := b2) (n := 1) (a := zdv) hx8 ⟨v, some ⟨g, 0, none⟩, n, c⟩
          go_wp2
          refine bodyPost_ret (v := .agg #[.int .i64 (v), .slice (some ⟨g, 0, none⟩) (n) (c)]) (by simp [results, Try.results36, go_sem, z0, z1]) rfl ⟨v, some ⟨g, 0, none⟩, n, c, L, rG kO (.slice (some ⟨g, 0, none⟩) n c) L, rfl, ⟨HN.out.symm, hn64, hnc, .inl ⟨_, rfl⟩, fun w W rs h hm => OwG.sl (h.mem hm)⟩, hx9.sub (.cons _ (.cons_cons _ (.cons _ (List.Sublist.refl _))))⟩
        · clear hz0 hz3
          obtain ⟨y0, y1, yf, yg⟩ := dv2 hx.sg (K := kD) (g := b3) (n := 1) (q := ⟨e, some ⟨g, 0, none⟩, n, c⟩) (by simp) rfl
          dsimp only at y0 y1
          by_cases hc1 : c = 1
          · subst hc1
            obtain rfl : n = 1 := by omega
            go_upto_region 23 with (fail)
            have hx8 := Sc.setD1 (A := []) hx (some ⟨g, 0, none⟩) 0 0
            clear y0 y1 yf yg hx
            replace hx8 : Sc w (w6.setCell ⟨b3, 1, none⟩ (.slice (some ⟨g, 0, none⟩) 0 0)) C (rG kD (.slice (some ⟨b3, 0, none⟩) 1 1) [⟨e, some ⟨g, 0, none⟩, 0, 0⟩] :: rG kO (.slice (some ⟨g, 0, none⟩) 1 1) L :: rG kD (.slice (some ⟨b2, 0, none⟩) 1 1) [zdv] :: rs) := hx8
            obtain ⟨y0, y1, yf, yg⟩ := dv2 hx8.sg (K := kD) (g := b3) (n := 1) (q := ⟨e, some ⟨g, 0, none⟩, 0, 0⟩) (by simp) rfl
            obtain ⟨z0, z1, zf, zg⟩ := dv2 hx8.sg (K := kD) (g := b2) (n := 1) (q := zdv) (by simp) rfl
            dsimp only at y0 y1
            simp only [zdv] at z0 z1
            have hx9 := Sc.setD (A := [rG kD (.slice (some ⟨b3, 0, none⟩) 1 1) [⟨e, some ⟨g, 0, none⟩, 0, 0⟩], rG kO (.slice (some ⟨g, 0, none⟩) 1 1) L]) (g := b2) (n := 1) (a := zdv) hx8 ⟨e, some ⟨g, 0, none⟩, 0, 0⟩
            go_wp2
            refine bodyPost_ret (v := .agg #[.int .i64 (e), .slice (some ⟨g, 0, none⟩) (0) (0)]) (by simp [results, Try.results36, go_sem, z0, z1]) rfl ⟨e, some ⟨g, 0, none⟩, 0, 0, [], rG kO (.slice (some ⟨g, 0, none⟩) 1 1) L, rfl, ⟨rfl, by omega, Nat.le_refl _, .inl ⟨_, rfl⟩, fun w W rs h hm => .inl rfl⟩, hx9.sub (.cons _ (.cons_cons _ (.cons _ (List.Sublist.refl _))))⟩
          · have hnc' : (n : Int) ≤ c := by omega
            go_upto_region 23 with (fail)
            have hx8 := Sc.setD1 (A := []) hx (some ⟨g, 4, none⟩) (n - 1) (c - 1)
            clear y0 y1 yf yg hx
            replace hx8 : Sc w (w6.setCell ⟨b3, 1, none⟩ (.slice (some ⟨g, 4, none⟩) (n - 1) (c - 1))) C (rG kD (.slice (some ⟨b3, 0, none⟩) 1 1) [⟨e, some ⟨g, 4, none⟩, n - 1, c - 1⟩] :: rG kO (.slice (some ⟨g, 0, none⟩) n c) L :: rG kD (.slice (some ⟨b2, 0, none⟩) 1 1) [zdv] :: rs) := hx8
            obtain ⟨n1, hn1'⟩ : ∃ z, n - 1 = z := ⟨_, rfl⟩
            obtain ⟨c1, hc1'⟩ : ∃ z, c - 1 = z := ⟨_, rfl⟩
            rw [hn1', hc1'] at hx8 ⊢
            have HL1 : Hid ((L.drop 1).length = n1 ∧ n1 ≤ 64 ∧ n1 ≤ c1) := ⟨by rw [List.length_drop, ← HN.out]; exact hn1', by omega, by omega⟩
            clear hn1' hc1'
            obtain ⟨y0, y1, yf, yg⟩ := dv2 hx8.sg (K := kD) (g := b3) (n := 1) (q := ⟨e, some ⟨g, 4, none⟩, n1, c1⟩) (by simp) rfl
            obtain ⟨z0, z1, zf, zg⟩ := dv2 hx8.sg (K := kD) (g := b2) (n := 1) (q := zdv) (by simp) rfl
            dsimp only at y0 y1
            simp only [zdv] at z0 z1
            have hx9 := Sc.setD (A := [rG kD (.slice (some ⟨b3, 0, none⟩) 1 1) [⟨e, some ⟨g, 4, none⟩, n1, c1⟩], rG kO (.slice (some ⟨g, 0, none⟩) n c) L]) (g := b2) (n := 1) (a := zdv) hx8 ⟨e, some ⟨g, 4, none⟩, n1, c1⟩
            go_wp2
            refine bodyPost_ret (v := .agg #[.int .i64 (e), .slice (some ⟨g, 4, none⟩) (n1) (c1)]) (by simp [results, Try.results36, go_sem, z0, z1]) rfl ⟨e, some ⟨g, 4, none⟩, n1, c1, L.drop 1, rG kO (.slice (some ⟨g, 0, none⟩) n c) L, rfl, ⟨HL1.out.1, HL1.out.2.1, HL1.out.2.2, .inl ⟨_, rfl⟩, fun w W rs h hm => .inr ⟨g, 4, rfl, (OwG.cs (h.mem hm)).drop 1⟩⟩, hx9.sub (.cons _ (.cons_cons _ (.cons _ (List.Sublist.refl _))))⟩
        · clear hz0 hz3
          obtain ⟨y0, y1, yf, yg⟩ := dv2 hx.sg (K := kD) (g := b3) (n := 1) (q := ⟨e, some ⟨g, 0, none⟩, n, c⟩) (by simp) rfl
          dsimp only at y0 y1
          have ne1 : ¬ b3 = g := Sg.ne01 hx.sg
          have ne2 : ¬ g = b3 := fun h => ne1 h.symm
          have ne3 : ¬ g = b2 := Sg.ne01 hx.sg.d0
          have ne4 : ¬ b2 = g := fun h => ne3 h.symm
          have hg6 := (OwG.cs (hx.sg.mem (K := kO) (v := .slice (some ⟨g, 0, none⟩) n c) (L := L) (by simp))).1
          have ne5 : ¬ g = w6.heap.size := by omega
          have ne6 : ¬ w6.heap.size = g := by omega
          go_upto_region 20 with (fail)
          have hr := hx
          clear hx
          go_region_with ((go_at_call 44; refine (belowC (by first | with_reducible exact hr | with_reducible exact Sc.dr hr | with_reducible exact Sc.litI3 hr (-1) 3 4 | with_reducible exact Sc.dr (Sc.litI3 hr (-1) 3 4)) 3 (by decide) (by decide)).mono ?_; rintro ee w7 ⟨z, rfl, hz0, hz1, hx7⟩; obtain ⟨jz, rfl⟩ := Int.eq_ofNat_of_zero_le hz0; have hjz : jz < 3 := (by omega); obtain ⟨v, hv⟩ : ∃ v, ([-1, 3, 4] : List Int)[jz]? = some v := ⟨_, List.getElem?_eq_getElem hjz⟩; clear y0 y1 yf yg; obtain ⟨y0, y1, yf, yg⟩ := dv2 hx7.sg (K := kD) (g := b3) (n := 1) (q := ⟨e, some ⟨g, 0, none⟩, n, c⟩) (by simp) rfl; dsimp only at y0 y1; obtain ⟨z0, z1, zf, zg⟩ := dv2 hx7.sg (K := kD) (g := b2) (n := 1) (q := zdv) (by simp) rfl; simp only [zdv] at z0 z1; have hcs := OwG.cs (hx7.sg.mem (K := kO) (v := .slice (some ⟨g, 0, none⟩) n c) (L := L) (by simp)); have hfz := OwG.fz (hx7.sg.mem (K := kO) (v := .slice (some ⟨g, 0, none⟩) n c) (L := L) (by simp)); obtain ⟨c0, c1, c2, c3⟩ := CsG.o4 hcs (getO (show 0 < L.length by rw [← HN.out]; omega)); simp only [Nat.zero_mul, Nat.zero_add] at c0 c1 c2 c3; have hgl := hcs.1; clear hcs; have ne7 : ¬ g = w7.heap.size := (by omega); have ne8 : ¬ w7.heap.size = g := (by omega); have ne9 : ¬ b2 = w7.heap.size := (by omega); have ne10 : ¬ w7.heap.size = b2 := (by omega); (first
            | (have hli := hx7.sg.mem (K := kI) (v := .slice (some ⟨w6.heap.size, 0, none⟩) 3 3) (L := [-1, 3, 4]) (List.mem_cons_self ..); have hcv := CsG.int (OwG.cs hli) hv; simp only [Nat.zero_add] at hcv; have hxA := hx7.sub (List.sublist_cons_self ..))
            | (have hxL := Sc.litI3 hx7 (-1) 3 4; have hcv := CsG.int (OwG.cs (hxL.sg.mem (K := kI) (v := .slice (some ⟨w7.heap.size, 0, none⟩) 3 3) (L := [-1, 3, 4]) (List.mem_cons_self ..))) hv; simp only [Nat.zero_add] at hcv; have hxA := hx7; have hcs := OwG.cs (hxL.sg.mem (K := kO) (v := .slice (some ⟨g, 0, none⟩) n c) (L := L) (by simp)); have hfz' := OwG.fz (hxL.sg.mem (K := kO) (v := .slice (some ⟨g, 0, none⟩) n c) (L := L) (by simp)); obtain ⟨_, _, _, c3'⟩ := CsG.o4 hcs (getO (show 0 < L.length by rw [← HN.out]; omega)); simp only [Nat.zero_mul, Nat.zero_add] at c3'; clear hcs))))
          all_goals
            go_wp2
            have hk0 : 0 < L.length := by rw [← HN.out]; omega
            have h8 := Sc.setO1 (A := [rG kD (.slice (some ⟨b3, 0, none⟩) 1 1) [⟨e, some ⟨g, 0, none⟩, n, c⟩]]) hxA (k := 0) (i := 3) hk0 (by decide) (.int .i64 v) ⟨(L.getD 0 zon).l, (L.getD 0 zon).x, (L.getD 0 zon).y, v⟩ rfl
            obtain ⟨L9, hL9⟩ : ∃ X, L.set 0 ⟨(L.getD 0 zon).l, (L.getD 0 zon).x, (L.getD 0 zon).y, v⟩ = X := ⟨_, rfl⟩
            have HL9 : Hid (L9.length = n) := by show L9.length = n; rw [← hL9, List.length_set, HN.out]
            rw [hL9] at h8
            simp only [Nat.zero_mul, Nat.zero_add] at h8
            replace h8 : Sc w _ C (rG kD (.slice (some ⟨b3, 0, none⟩) 1 1) [⟨e, some ⟨g, 0, none⟩, n, c⟩] :: rG kO (.slice (some ⟨g, 0, none⟩) n c) L9 :: rG kD (.slice (some ⟨b2, 0, none⟩) 1 1) [zdv] :: rs) := h8
            have hx9 := Sc.setD (A := [rG kD (.slice (some ⟨b3, 0, none⟩) 1 1) [⟨e, some ⟨g, 0, none⟩, n, c⟩], rG kO (.slice (some ⟨g, 0, none⟩) n c) L9]) (g := b2) (n := 1) (a := zdv) h8 ⟨e, some ⟨g, 0, none⟩, n, c⟩
            refine bodyPost_ret (v := .agg #[.int .i64 e, .slice (some ⟨g, 0, none⟩) n c]) ?_ rfl ⟨e, some ⟨g, 0, none⟩, n, c, L9, rG kO (.slice (some ⟨g, 0, none⟩) n c) L9, rfl, ⟨HL9.out, hn64, hnc, .inl ⟨_, rfl⟩, fun w W rs h hm => OwG.sl (h.mem hm)⟩, ?_⟩
            · first
                | (simp [results, Try.results36, go_sem, z0, z1]; done)
                | (simp [results, Try.results36, go_sem, z0, z1, zg]; done)
            · first
                | exact hx9.sub (.cons _ (.cons_cons _ (.cons _ (List.Sublist.refl _))))
                | exact (Sc.al hx9 _).sub (.cons _ (.cons_cons _ (.cons _ (List.Sublist.refl _))))
        · clear hz0 hz3
          obtain ⟨y0, y1, yf, yg⟩ := dv2 hx.sg (K := kD) (g := b3) (n := 1) (q := ⟨e, some ⟨g, 0, none⟩, n, c⟩) (by simp) rfl
          dsimp only at y0 y1
          have ne1 : ¬ b3 = g := Sg.ne01 hx.sg
          have ne2 : ¬ g = b3 := fun h => ne1 h.symm
          have ne3 : ¬ g = b2 := Sg.ne01 hx.sg.d0
          have ne4 : ¬ b2 = g := fun h => ne3 h.symm
          go_upto_region 22 with (fail)
          have hr := hx
          clear hx
          go_region_with ((go_at_call 73; (first | refine (cellC hr).mono ?_ | refine (cellC (Sc.dr hr)).mono ?_); rintro ee w7 ⟨cl, cx, cy, rfl, hx7⟩; clear y0 y1 yf yg; obtain ⟨y0, y1, yf, yg⟩ := dv2 hx7.sg (K := kD) (g := b3) (n := 1) (q := ⟨e, some ⟨g, 0, none⟩, n, c⟩) (by simp) rfl; dsimp only at y0 y1; obtain ⟨z0, z1, zf, zg⟩ := dv2 hx7.sg (K := kD) (g := b2) (n := 1) (q := zdv) (by simp) rfl; simp only [zdv] at z0 z1; have hcs := OwG.cs (hx7.sg.mem (K := kO) (v := .slice (some ⟨g, 0, none⟩) n c) (L := L) (by simp)); have hfz := OwG.fz (hx7.sg.mem (K := kO) (v := .slice (some ⟨g, 0, none⟩) n c) (L := L) (by simp)); obtain ⟨c0, c1, c2, c3⟩ := CsG.o4 hcs (getO (show 0 < L.length by rw [← HN.out]; omega)); simp only [Nat.zero_mul, Nat.zero_add] at c0 c1 c2 c3; have hgl := hcs.1; clear hcs))
          all_goals
            go_wp2
            have hk0 : 0 < L.length := by rw [← HN.out]; omega
            have h8 := Sc.setO1 (A := [rG kD (.slice (some ⟨b3, 0, none⟩) 1 1) [⟨e, some ⟨g, 0, none⟩, n, c⟩]]) hx7 (k := 0) (i := 0) hk0 (by decide) (.int .i64 cl) ⟨cl, (L.getD 0 zon).x, (L.getD 0 zon).y, (L.getD 0 zon).s⟩ rfl
            have hgd : ∀ m : On, (L.set 0 m).getD 0 zon = m := fun m => by simp [List.getD, hk0]
            have h9 := Sc.setO1 (A := [rG kD (.slice (some ⟨b3, 0, none⟩) 1 1) [⟨e, some ⟨g, 0, none⟩, n, c⟩]]) h8 (k := 0) (i := 1) (by simpa using hk0) (by decide) (.int .i64 cx) ⟨cl, cx, (L.getD 0 zon).y, (L.getD 0 zon).s⟩ (by rw [hgd]; rfl)
            rw [List.set_set] at h9
            have h10 := Sc.setO1 (A := [rG kD (.slice (some ⟨b3, 0, none⟩) 1 1) [⟨e, some ⟨g, 0, none⟩, n, c⟩]]) h9 (k := 0) (i := 2) (by simpa using hk0) (by decide) (.int .i64 cy) ⟨cl, cx, cy, (L.getD 0 zon).s⟩ (by rw [hgd]; rfl)
            rw [List.set_set] at h10
            clear hx7 h8 h9 hgd c0 c1 c2 c3 hfz hgl y0 y1 yf yg
            obtain ⟨L9, hL9⟩ : ∃ X, L.set 0 ⟨cl, cx, cy, (L.getD 0 zon).s⟩ = X := ⟨_, rfl⟩
            have HL9 : Hid (L9.length = n) := by show L9.length = n; rw [← hL9, List.length_set, HN.out]
            rw [hL9] at h10
            clear hL9 hk0
            simp only [Nat.zero_mul, Nat.zero_add] at h10
            replace h10 : Sc w _ C (rG kD (.slice (some ⟨b3, 0, none⟩) 1 1) [⟨e, some ⟨g, 0, none⟩, n, c⟩] :: rG kO (.slice (some ⟨g, 0, none⟩) n c) L9 :: rG kD (.slice (some ⟨b2, 0, none⟩) 1 1) [zdv] :: rs) := h10
            have hx9 := Sc.setD (A := [rG kD (.slice (some ⟨b3, 0, none⟩) 1 1) [⟨e, some ⟨g, 0, none⟩, n, c⟩], rG kO (.slice (some ⟨g, 0, none⟩) n c) L9]) (g := b2) (n := 1) (a := zdv) h10 ⟨e, some ⟨g, 0, none⟩, n, c⟩
            refine bodyPost_ret (v := .agg #[.int .i64 e, .slice (some ⟨g, 0, none⟩) n c]) (by simp [results, Try.results36, go_sem, z0, z1]) rfl ⟨e, some ⟨g, 0, none⟩, n, c, L9, rG kO (.slice (some ⟨g, 0, none⟩) n c) L9, rfl, ⟨HL9.out, hn64, hnc, .inl ⟨_, rfl⟩, fun w W rs h hm => OwG.sl (h.mem hm)⟩, hx9.sub (.cons _ (.cons_cons _ (.cons _ (List.Sublist.refl _))))⟩
end Go.Proofs.Ytamnmakegdnblaa.K.D
