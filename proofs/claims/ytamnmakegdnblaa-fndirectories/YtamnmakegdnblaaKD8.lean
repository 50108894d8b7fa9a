/-
  Given: the specification's.
-/
import Derived.Test.YtamnmakegdnblaaKD7
namespace Go.Proofs.Ytamnmakegdnblaa.K.D
open Go.Shelf Go.RowKit Go.Joins
attribute [local go_sem] Oper.semAt_some

def kC : Kd (Int × Int × Int) := ⟨28, 3, fun a => [.int .i64 a.1, .int .i64 a.2.1, .int .i64 a.2.2], fun _ => rfl⟩
theorem c3 {w W : World} {rs : List Rw} (h : Sg w W rs) {g n : Nat} {a : Int × Int × Int} (hm : rG kC (.slice (some ⟨g, 0, none⟩) 1 n) [a] ∈ rs) :
    W.cell? ⟨g, 0, none⟩ = some (.int .i64 a.1) ∧ W.cell? ⟨g, 1, none⟩ = some (.int .i64 a.2.1) ∧ W.cell? ⟨g, 2, none⟩ = some (.int .i64 a.2.2) := by
  have hC := OwG.cs (h.mem hm)
  have f := fun i u hu => hC.at (k := 0) (a := a) rfl (i := i) (u := u) hu
  simp only [Nat.zero_mul, Nat.zero_add] at f
  exact ⟨f 0 _ rfl, f 1 _ rfl, f 2 _ rfl⟩
/-- Is it Given? -/
def givB (e : Int) (L : List On) (l x y s : Int) : Bool := dirB e L && (decide (posO l x y L < L.length) && (M.inB s 0 3 && (!decide ((L.getD (posO l x y L) zon).s = s) && !decide (e = 100000))))
def givO (o : On) (s : Int) : On := ⟨o.l, o.x, o.y, s⟩
def givE (e : Int) (L : List On) (l x y s : Int) : Int := if dirB e L then (if givB e L l x y s then e + 1 else e) else 0
def givL (e : Int) (L : List On) (l x y s : Int) : List On := if dirB e L then (if givB e L l x y s then L.set (posO l x y L) (givO (L.getD (posO l x y L) zon) s) else L) else []
theorem dir_e {e : Int} {L : List On} (h : dirB e L = true) : 1 ≤ e ∧ e ≤ 100000 := by
  unfold dirB at h
  exact M.inB_t.mp (Bool.and_eq_true_iff.mp h).1
set_option maxRecDepth 100000 in
set_option maxHeartbeats 4000000 in
theorem sGiven_any (e : Int) (p : Option Addr) (n c : Nat) (L : List On) (hn : L.length = n) (l x y s : Int) (w : World) (hL : SlG kO w p L) (hnc : n ≤ c) (ho : okv ⟨p, n, c⟩) :
    Calls Try.prog 23 #[Dv.v ⟨e, p, n, c⟩, .agg #[.int .i64 l, .int .i64 x, .int .i64 y], .int .i64 s] w fun ee w' => ∃ q m c', ee = .returned (.tuple #[Dv.v ⟨givE e L l x y s, q, m, c'⟩, .bool (givB e L l x y s)]) ∧ Sg w w' [rG kO (.slice q m c') (givL e L l x y s)] := by
  have hx := (((Sg.nil w).lit kD [⟨e, p, n, c⟩] 1 rfl (by decide) #[.int .i64 e, .slice p n c] rfl).lit kC [(l, x, y)] 1 rfl (by decide) #[.int .i64 l, .int .i64 x, .int .i64 y] rfl).lit kD [zdv] 1 rfl (by decide) #[.int .i64 0, .slice none 0 0] rfl
  simp only [World.size_alloc] at hx
  have HF : Hid (∀ W rs, Sg w W rs → rG kD (.slice (some ⟨w.heap.size, 0, none⟩) 1 1) [⟨e, p, n, c⟩] ∈ rs → rG kC (.slice (some ⟨w.heap.size + 1, 0, none⟩) 1 1) [(l, x, y)] ∈ rs → rG kD (.slice (some ⟨w.heap.size + 2, 0, none⟩) 1 1) [zdv] ∈ rs → (W.cell? ⟨w.heap.size, 0, none⟩ = some (.int .i64 e) ∧ W.cell? ⟨w.heap.size, 1, none⟩ = some (.slice p n c)) ∧ (W.cell? ⟨w.heap.size + 1, 0, none⟩ = some (.int .i64 l) ∧ W.cell? ⟨w.heap.size + 1, 1, none⟩ = some (.int .i64 x) ∧ W.cell? ⟨w.heap.size + 1, 2, none⟩ = some (.int .i64 y)) ∧ (W.cell? ⟨w.heap.size + 2, 0, none⟩ = some (.int .i64 0) ∧ W.cell? ⟨w.heap.size + 2, 1, none⟩ = some (.slice none 0 0)) ∧ (∀ o, W.frozen? ⟨w.heap.size + 2, o, none⟩ = false) ∧ w.heap.size + 2 < W.heap.size) := fun W rs h h1 h2 h3 => by
    obtain ⟨a0, a1, _, _⟩ := dv2 h h1 rfl
    obtain ⟨b0, b1, b2⟩ := c3 h h2
    obtain ⟨d0, d1, d2, d3⟩ := dv2 h h3 rfl
    exact ⟨⟨a0, a1⟩, ⟨b0, b1, b2⟩, ⟨d0, d1⟩, d2, d3⟩
  have HD := Lib.hid (fun W (h : Below w.heap.size w W) => sDirectoryOk_any e p n c L hn W (hL.step h) hnc)
  obtain ⟨bd, hbd⟩ : ∃ b, dirB e L = b := ⟨_, rfl⟩
  rw [hbd] at HD
  cases bd
  · have hg : givB e L l x y s = false := by unfold givB; rw [hbd]; rfl
    have hge : givE e L l x y s = 0 := by unfold givE; rw [hbd]; rfl
    have hgl : givL e L l x y s = [] := by unfold givL; rw [hbd]; rfl
    rw [hg, hge, hgl]
    clear hn hL hbd hg hge hgl
    go_enter Try.func23, Try.ntmps23
    go_wp2_with (go_at_call 18; refine (HD.out _ hx.bel).mono ?_; rintro ee w1 ⟨rfl, hb1⟩; replace hx := hx.step hb1; obtain ⟨⟨a0, a1⟩, ⟨b0, b1, b2⟩, ⟨d0, d1⟩, d2, d3⟩ := HF.out _ _ hx (by simp) (by simp) (by simp))
    have hx2 := Sg.setD (A := []) (g := w.heap.size + 2) (n := 1) (a := zdv) hx zdv
    simp only [zdv] at hx2
    obtain ⟨t0, t1, _, _⟩ := dv2 hx2 (K := kD) (g := w.heap.size + 2) (n := 1) (q := ⟨0, none, 0, 0⟩) (by simp) rfl
    dsimp only at t0 t1
    refine bodyPost_ret (v := .tuple #[.agg #[.int .i64 0, .slice none 0 0], .bool false]) (by simp [results, Try.results23, go_sem, t0, t1]) rfl ⟨none, 0, 0, rfl, ?_⟩
    refine ⟨hx2.bel, fun r hr => ?_, by simp⟩
    obtain rfl := List.mem_singleton.mp hr
    exact ⟨rfl, .inl ⟨rfl, rfl⟩⟩
  obtain ⟨hn64, hon⟩ := dir_on hbd
  have hne : 1 ≤ e ∧ e ≤ 100000 := dir_e hbd
  have HC := Lib.hid (fun W (h : Below w.heap.size w W) => l15Copy_any e p n c L hn W (hL.step h) (by omega) ho)
  have HA := Lib.hid (fun W (h : Below w.heap.size w W) => l15At_any e p n c L hn l x y W (hL.step h) (by omega))
  by_cases hi : posO l x y L < L.length
  case neg =>
    have hat : atI L l x y = -1 := by unfold atI; rw [if_neg hi]
    rw [hat] at HA
    have hg : givB e L l x y s = false := by unfold givB; rw [hbd]; rw [decide_eq_false hi]; rfl
    have hge : givE e L l x y s = e := by unfold givE; rw [hbd, hg]; rfl
    have hgl : givL e L l x y s = L := by unfold givL; rw [hbd, hg]; rfl
    rw [hg, hge, hgl]
    clear hn hL hg hge hgl ho
    clear hbd
    go_enter Try.func23, Try.ntmps23
    go_wp2_with (first
      | (go_at_call 18; refine (HD.out _ hx.bel).mono ?_; rintro ee w1 ⟨rfl, hb1⟩; replace hx := hx.step hb1; obtain ⟨⟨a0, a1⟩, ⟨b0, b1, b2⟩, ⟨d0, d1⟩, d2, d3⟩ := HF.out _ _ hx (by simp) (by simp) (by simp))
      | (go_at_call 46; refine (HC.out _ hx.bel).mono ?_; rintro ee w2 ⟨q, cq, rfl, hq⟩; replace hx := hx.addL hq; clear a0 a1 b0 b1 b2 d0 d1 d2 d3; obtain ⟨⟨a0, a1⟩, ⟨b0, b1, b2⟩, ⟨d0, d1⟩, d2, d3⟩ := HF.out _ _ hx (by simp) (by simp) (by simp); have hx8 : Sg w (w2.alloc (.cells #[.int .i64 e, .slice q n cq] 26)) _ := hx.lit kD [⟨e, q, n, cq⟩] 1 rfl (by decide) #[.int .i64 e, .slice q n cq] rfl; clear a0 a1 b0 b1 b2 d0 d1 d2 d3; obtain ⟨⟨a0, a1⟩, ⟨b0, b1, b2⟩, ⟨d0, d1⟩, d2, d3⟩ := HF.out _ _ hx8 (by simp) (by simp) (by simp))
      | (go_at_call 47; refine (HA.out _ hx8.bel).mono ?_; rintro ee w3 ⟨rfl, hb3⟩; replace hx8 := hx8.step hb3; clear a0 a1 b0 b1 b2 d0 d1 d2 d3; obtain ⟨⟨a0, a1⟩, ⟨b0, b1, b2⟩, ⟨d0, d1⟩, d2, d3⟩ := HF.out _ _ hx8 (by simp) (by simp) (by simp); obtain ⟨z0, z1, zf, zg⟩ := dv2 hx8 (K := kD) (g := w2.heap.size) (n := 1) (q := ⟨e, q, n, cq⟩) (by simp) rfl; dsimp only at z0 z1))
    have hx9 := Sg.setD (A := [rG kD (.slice (some ⟨w2.heap.size, 0, none⟩) 1 1) [⟨e, q, n, cq⟩], rG kO (.slice q n cq) L]) (g := w.heap.size + 2) (n := 1) (a := zdv) hx8 ⟨e, q, n, cq⟩
    obtain ⟨t0, t1, _, _⟩ := dv2 hx9 (K := kD) (g := w.heap.size + 2) (n := 1) (q := ⟨e, q, n, cq⟩) (by simp) rfl
    dsimp only at t0 t1
    refine bodyPost_ret (v := .tuple #[.agg #[.int .i64 e, .slice q n cq], .bool false]) (by simp [results, Try.results23, go_sem, t0, t1]) rfl ⟨q, n, cq, rfl, ?_⟩
    exact hx9.sub (by simp)
  case pos =>
    obtain ⟨g, off, rfl, hC⟩ := hL.at hi
    have hgk := getO hi
    have hat : atI L l x y = (posO l x y L : Int) := by unfold atI; rw [if_pos hi]
    rw [hat] at HA
    obtain ⟨i, hii⟩ : ∃ i, posO l x y L = i := ⟨_, rfl⟩
    have hgB : givB e L l x y s = (M.inB s 0 3 && (!decide ((L.getD i zon).s = s) && !decide (e = 100000))) := by unfold givB; rw [hbd, decide_eq_true hi, hii]; rfl
    have hgL : givL e L l x y s = if givB e L l x y s then L.set i (givO (L.getD i zon) s) else L := by unfold givL; rw [hbd, hii]; rfl
    have hgE : givE e L l x y s = if givB e L l x y s then e + 1 else e := by unfold givE; rw [hbd]; rfl
    rw [hii] at HA hgk hi hat
    have hin : (i : Int) < n := by omega
    obtain ⟨⟨ol, ox, oy, os⟩, hm⟩ : ∃ m, L.getD i zon = m := ⟨_, rfl⟩
    have HM := Lib.hid hm
    rw [hm] at hgB hgL
    simp only at hgB
    have HG : Hid (L[i]? = some (L.getD i zon)) := hgk
    have HE : Hid (∀ W, Below w.heap.size w W → CsG kO W g off L) := fun W hb => by
      obtain ⟨g', off', e', h5⟩ := (hL.step hb).at hi
      injection e' with e'
      injection e' with e1 e2
      subst e1 e2
      exact h5
    have HLi : Hid (i < L.length) := hi
    obtain ⟨sb, hsb⟩ : ∃ b, M.inB s 0 3 = b := ⟨_, rfl⟩
    have HS := Lib.hid (fun W => M.l1In_v hsb W)
    rw [hsb] at hgB
    clear hC hgk hii hat hm hn hL ho hi hbd
    cases sb
    · rw [Bool.false_and] at hgB
      rw [hgB] at hgL hgE
      rw [hgB, hgL, hgE]
      simp only [Bool.false_eq_true, if_false]
      clear hgB hgL hgE
      go_enter Try.func23, Try.ntmps23
      go_wp2_with (first
        | (go_at_call 18; refine (HD.out _ hx.bel).mono ?_; rintro ee w1 ⟨rfl, hb1⟩; replace hx := hx.step hb1; obtain ⟨⟨a0, a1⟩, ⟨b0, b1, b2⟩, ⟨d0, d1⟩, d2, d3⟩ := HF.out _ _ hx (by simp) (by simp) (by simp))
        | (go_at_call 46; refine (HC.out _ hx.bel).mono ?_; rintro ee w2 ⟨q, cq, rfl, hq⟩; replace hx := hx.addL hq; clear a0 a1 b0 b1 b2 d0 d1 d2 d3; obtain ⟨⟨a0, a1⟩, ⟨b0, b1, b2⟩, ⟨d0, d1⟩, d2, d3⟩ := HF.out _ _ hx (by simp) (by simp) (by simp); have hx8 : Sg w (w2.alloc (.cells #[.int .i64 e, .slice q n cq] 26)) _ := hx.lit kD [⟨e, q, n, cq⟩] 1 rfl (by decide) #[.int .i64 e, .slice q n cq] rfl; clear a0 a1 b0 b1 b2 d0 d1 d2 d3; obtain ⟨⟨a0, a1⟩, ⟨b0, b1, b2⟩, ⟨d0, d1⟩, d2, d3⟩ := HF.out _ _ hx8 (by simp) (by simp) (by simp))
        | (go_at_call 47; refine (HA.out _ hx8.bel).mono ?_; rintro ee w3 ⟨rfl, hb3⟩; replace hx8 := hx8.step hb3; clear a0 a1 b0 b1 b2 d0 d1 d2 d3; obtain ⟨⟨a0, a1⟩, ⟨b0, b1, b2⟩, ⟨d0, d1⟩, d2, d3⟩ := HF.out _ _ hx8 (by simp) (by simp) (by simp); obtain ⟨z0, z1, zf, zg⟩ := dv2 hx8 (K := kD) (g := w2.heap.size) (n := 1) (q := ⟨e, q, n, cq⟩) (by simp) rfl; dsimp only at z0 z1; obtain ⟨-, -, -, l3⟩ := CsG.o4 (HE.out _ hx8.bel) HG.out; rw [HM.out] at l3; dsimp only at l3)
        | (go_at_call 53; refine (HS.out _).mono ?_; rintro ee w4 ⟨rfl, rfl⟩))
      have hx9 := Sg.setD (A := [rG kD (.slice (some ⟨w2.heap.size, 0, none⟩) 1 1) [⟨e, q, n, cq⟩], rG kO (.slice q n cq) L]) (g := w.heap.size + 2) (n := 1) (a := zdv) hx8 ⟨e, q, n, cq⟩
      obtain ⟨t0, t1, _, _⟩ := dv2 hx9 (K := kD) (g := w.heap.size + 2) (n := 1) (q := ⟨e, q, n, cq⟩) (by simp) rfl
      dsimp only at t0 t1
      refine bodyPost_ret (v := .tuple #[.agg #[.int .i64 e, .slice q n cq], .bool false]) (by simp [results, Try.results23, go_sem, t0, t1]) rfl ⟨q, n, cq, rfl, ?_⟩
      exact hx9.sub (by simp)
    by_cases hos : os = s
    · rw [decide_eq_true hos] at hgB
      simp only [Bool.not_true, Bool.false_and, Bool.and_false] at hgB
      rw [hgB] at hgL hgE
      rw [hgB, hgL, hgE]
      simp only [Bool.false_eq_true, if_false]
      subst hos
      clear hgB hgL hgE
      go_enter Try.func23, Try.ntmps23
      go_wp2_with (first
        | (go_at_call 18; refine (HD.out _ hx.bel).mono ?_; rintro ee w1 ⟨rfl, hb1⟩; replace hx := hx.step hb1; obtain ⟨⟨a0, a1⟩, ⟨b0, b1, b2⟩, ⟨d0, d1⟩, d2, d3⟩ := HF.out _ _ hx (by simp) (by simp) (by simp))
        | (go_at_call 46; refine (HC.out _ hx.bel).mono ?_; rintro ee w2 ⟨q, cq, rfl, hq⟩; replace hx := hx.addL hq; clear a0 a1 b0 b1 b2 d0 d1 d2 d3; obtain ⟨⟨a0, a1⟩, ⟨b0, b1, b2⟩, ⟨d0, d1⟩, d2, d3⟩ := HF.out _ _ hx (by simp) (by simp) (by simp); have hx8 : Sg w (w2.alloc (.cells #[.int .i64 e, .slice q n cq] 26)) _ := hx.lit kD [⟨e, q, n, cq⟩] 1 rfl (by decide) #[.int .i64 e, .slice q n cq] rfl; clear a0 a1 b0 b1 b2 d0 d1 d2 d3; obtain ⟨⟨a0, a1⟩, ⟨b0, b1, b2⟩, ⟨d0, d1⟩, d2, d3⟩ := HF.out _ _ hx8 (by simp) (by simp) (by simp))
        | (go_at_call 47; refine (HA.out _ hx8.bel).mono ?_; rintro ee w3 ⟨rfl, hb3⟩; replace hx8 := hx8.step hb3; clear a0 a1 b0 b1 b2 d0 d1 d2 d3; obtain ⟨⟨a0, a1⟩, ⟨b0, b1, b2⟩, ⟨d0, d1⟩, d2, d3⟩ := HF.out _ _ hx8 (by simp) (by simp) (by simp); obtain ⟨z0, z1, zf, zg⟩ := dv2 hx8 (K := kD) (g := w2.heap.size) (n := 1) (q := ⟨e, q, n, cq⟩) (by simp) rfl; dsimp only at z0 z1; obtain ⟨-, -, -, l3⟩ := CsG.o4 (HE.out _ hx8.bel) HG.out; rw [HM.out] at l3; dsimp only at l3)
        | (go_at_call 53; refine (HS.out _).mono ?_; rintro ee w4 ⟨rfl, rfl⟩))
      have hx9 := Sg.setD (A := [rG kD (.slice (some ⟨w2.heap.size, 0, none⟩) 1 1) [⟨e, q, n, cq⟩], rG kO (.slice q n cq) L]) (g := w.heap.size + 2) (n := 1) (a := zdv) hx8 ⟨e, q, n, cq⟩
      obtain ⟨t0, t1, _, _⟩ := dv2 hx9 (K := kD) (g := w.heap.size + 2) (n := 1) (q := ⟨e, q, n, cq⟩) (by simp) rfl
      dsimp only at t0 t1
      refine bodyPost_ret (v := .tuple #[.agg #[.int .i64 e, .slice q n cq], .bool false]) (by simp [results, Try.results23, go_sem, t0, t1]) rfl ⟨q, n, cq, rfl, ?_⟩
      exact hx9.sub (by simp)
    have hos' : (os == s) = false := by simpa using hos
    rw [decide_eq_false hos] at hgB
    by_cases hmax : e = 100000
    · subst hmax
      simp only [decide_true, Bool.not_true, Bool.and_false] at hgB
      rw [hgB] at hgL hgE
      rw [hgB, hgL, hgE]
      simp only [Bool.false_eq_true, if_false]
      clear hgB hgL hgE
      go_enter Try.func23, Try.ntmps23
      go_wp2_with (first
        | (go_at_call 18; refine (HD.out _ hx.bel).mono ?_; rintro ee w1 ⟨rfl, hb1⟩; replace hx := hx.step hb1; obtain ⟨⟨a0, a1⟩, ⟨b0, b1, b2⟩, ⟨d0, d1⟩, d2, d3⟩ := HF.out _ _ hx (by simp) (by simp) (by simp))
        | (go_at_call 46; refine (HC.out _ hx.bel).mono ?_; rintro ee w2 ⟨q, cq, rfl, hq⟩; replace hx := hx.addL hq; clear a0 a1 b0 b1 b2 d0 d1 d2 d3; obtain ⟨⟨a0, a1⟩, ⟨b0, b1, b2⟩, ⟨d0, d1⟩, d2, d3⟩ := HF.out _ _ hx (by simp) (by simp) (by simp); have hx8 : Sg w (w2.alloc (.cells #[.int .i64 100000, .slice q n cq] 26)) _ := hx.lit kD [⟨100000, q, n, cq⟩] 1 rfl (by decide) #[.int .i64 100000, .slice q n cq] rfl; clear a0 a1 b0 b1 b2 d0 d1 d2 d3; obtain ⟨⟨a0, a1⟩, ⟨b0, b1, b2⟩, ⟨d0, d1⟩, d2, d3⟩ := HF.out _ _ hx8 (by simp) (by simp) (by simp))
        | (go_at_call 47; refine (HA.out _ hx8.bel).mono ?_; rintro ee w3 ⟨rfl, hb3⟩; replace hx8 := hx8.step hb3; clear a0 a1 b0 b1 b2 d0 d1 d2 d3; obtain ⟨⟨a0, a1⟩, ⟨b0, b1, b2⟩, ⟨d0, d1⟩, d2, d3⟩ := HF.out _ _ hx8 (by simp) (by simp) (by simp); obtain ⟨z0, z1, zf, zg⟩ := dv2 hx8 (K := kD) (g := w2.heap.size) (n := 1) (q := ⟨100000, q, n, cq⟩) (by simp) rfl; dsimp only at z0 z1; obtain ⟨-, -, -, l3⟩ := CsG.o4 (HE.out _ hx8.bel) HG.out; rw [HM.out] at l3; dsimp only at l3)
        | (go_at_call 53; refine (HS.out _).mono ?_; rintro ee w4 ⟨rfl, rfl⟩))
      have hx9 := Sg.setD (A := [rG kD (.slice (some ⟨w2.heap.size, 0, none⟩) 1 1) [⟨100000, q, n, cq⟩], rG kO (.slice q n cq) L]) (g := w.heap.size + 2) (n := 1) (a := zdv) hx8 ⟨100000, q, n, cq⟩
      obtain ⟨t0, t1, _, _⟩ := dv2 hx9 (K := kD) (g := w.heap.size + 2) (n := 1) (q := ⟨100000, q, n, cq⟩) (by simp) rfl
      dsimp only at t0 t1
      refine bodyPost_ret (v := .tuple #[.agg #[.int .i64 100000, .slice q n cq], .bool false]) (by simp [results, Try.results23, go_sem, t0, t1]) rfl ⟨q, n, cq, rfl, ?_⟩
      exact hx9.sub (by simp)
    have hmax' : (e == 100000) = false := by simpa using hmax
    rw [decide_eq_false hmax] at hgB
    simp only [Bool.not_false, Bool.and_true] at hgB
    rw [hgB] at hgL hgE
    rw [hgB, hgL, hgE]
    simp only [if_true]
    have hw1 : wrap64 (e + 1) = e + 1 := by unfold wrap64; omega
    clear hgB hgL hgE hos hmax
    go_enter Try.func23, Try.ntmps23
    go_wp2_with (first
      | (go_at_call 18; refine (HD.out _ hx.bel).mono ?_; rintro ee w1 ⟨rfl, hb1⟩; replace hx := hx.step hb1; obtain ⟨⟨a0, a1⟩, ⟨b0, b1, b2⟩, ⟨d0, d1⟩, d2, d3⟩ := HF.out _ _ hx (by simp) (by simp) (by simp))
      | (go_at_call 46; refine (HC.out _ hx.bel).mono ?_; rintro ee w2 ⟨q, cq, rfl, hq⟩; replace hx := hx.addL hq; clear a0 a1 b0 b1 b2 d0 d1 d2 d3; obtain ⟨⟨a0, a1⟩, ⟨b0, b1, b2⟩, ⟨d0, d1⟩, d2, d3⟩ := HF.out _ _ hx (by simp) (by simp) (by simp); have hx8 : Sg w (w2.alloc (.cells #[.int .i64 e, .slice q n cq] 26)) _ := hx.lit kD [⟨e, q, n, cq⟩] 1 rfl (by decide) #[.int .i64 e, .slice q n cq] rfl; clear a0 a1 b0 b1 b2 d0 d1 d2 d3; obtain ⟨⟨a0, a1⟩, ⟨b0, b1, b2⟩, ⟨d0, d1⟩, d2, d3⟩ := HF.out _ _ hx8 (by simp) (by simp) (by simp))
      | (go_at_call 47; refine (HA.out _ hx8.bel).mono ?_; rintro ee w3 ⟨rfl, hb3⟩; replace hx8 := hx8.step hb3; clear a0 a1 b0 b1 b2 d0 d1 d2 d3; obtain ⟨⟨a0, a1⟩, ⟨b0, b1, b2⟩, ⟨d0, d1⟩, d2, d3⟩ := HF.out _ _ hx8 (by simp) (by simp) (by simp); obtain ⟨z0, z1, zf, zg⟩ := dv2 hx8 (K := kD) (g := w2.heap.size) (n := 1) (q := ⟨e, q, n, cq⟩) (by simp) rfl; dsimp only at z0 z1; obtain ⟨-, -, -, l3⟩ := CsG.o4 (HE.out _ hx8.bel) HG.out; rw [HM.out] at l3; dsimp only at l3; have hown := hx8.mem (K := kO) (v := .slice q n cq) (L := L) (by simp); obtain ⟨gq, rfl⟩ := ow_some hown (by omega); obtain ⟨-, -, -, k3⟩ := CsG.o4 (OwG.cs hown) HG.out; rw [HM.out] at k3; simp only [Nat.zero_add] at k3; have kf := OwG.fz hown; have hdis := hx8.dis; simp [rG, Value.ownBlock] at hdis; have m0 : ¬ gq = w.heap.size + 1 + 1 := (by omega); have k0' : ¬ w.heap.size + 1 + 1 = gq := (by omega); have m1 : ¬ gq = w.heap.size + 2 := (by omega); have k1' : ¬ w.heap.size + 2 = gq := (by omega); have m2 : ¬ gq = w.heap.size := (by omega); have k2' : ¬ w.heap.size = gq := (by omega); have m3 : ¬ gq = w2.heap.size := (by omega); have k3' : ¬ w2.heap.size = gq := (by omega); have m4 : ¬ w2.heap.size = w.heap.size + 1 + 1 := (by omega); have k4' : ¬ w.heap.size + 1 + 1 = w2.heap.size := (by omega); have m5 : ¬ w2.heap.size = w.heap.size + 2 := (by omega); have k5' : ¬ w.heap.size + 2 = w2.heap.size := (by omega); have m6 : ¬ w2.heap.size = w.heap.size := (by omega); have k6' : ¬ w.heap.size = w2.heap.size := (by omega); clear hown hdis)
      | (go_at_call 53; refine (HS.out _).mono ?_; rintro ee w4 ⟨rfl, rfl⟩))
    have hA1 := Sg.set1 (A := [rG kD (.slice (some ⟨w2.heap.size, 0, none⟩) 1 1) [⟨e, some ⟨gq, 0, none⟩, n, cq⟩]]) (M := L) hx8 (k := i) (i := 3) HLi.out (by decide) (.int .i64 s) (givO ⟨ol, ox, oy, os⟩ s) (by rw [HM.out]; rfl)
    have hA2 := Sg.setD0 (A := []) (g := w2.heap.size) (n := 1) (a := ⟨e, some ⟨gq, 0, none⟩, n, cq⟩) hA1 (e + 1)
    have hx9 := Sg.setD (A := [rG kD (.slice (some ⟨w2.heap.size, 0, none⟩) 1 1) [⟨e + 1, some ⟨gq, 0, none⟩, n, cq⟩], rG kO (.slice (some ⟨gq, 0, none⟩) n cq) (L.set i (givO ⟨ol, ox, oy, os⟩ s))]) (g := w.heap.size + 2) (n := 1) (a := zdv) hA2 ⟨e + 1, some ⟨gq, 0, none⟩, n, cq⟩
    obtain ⟨t0, t1, _, _⟩ := dv2 hx9 (K := kD) (g := w.heap.size + 2) (n := 1) (q := ⟨e + 1, some ⟨gq, 0, none⟩, n, cq⟩) (by simp) rfl
    dsimp only at t0 t1
    refine bodyPost_ret (v := .tuple #[.agg #[.int .i64 (e + 1), .slice (some ⟨gq, 0, none⟩) n cq], .bool true]) (by simp [results, Try.results23, go_sem, t0, t1]) rfl ⟨some ⟨gq, 0, none⟩, n, cq, rfl, ?_⟩
    exact hx9.sub (by simp)
end Go.Proofs.Ytamnmakegdnblaa.K.D
