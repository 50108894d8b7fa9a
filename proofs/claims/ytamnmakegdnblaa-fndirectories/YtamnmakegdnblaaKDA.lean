/-
  Split: the specification's.
-/
import Derived.Test.YtamnmakegdnblaaKD8
import Derived.Test.YtamnmakegdnblaaKDB
import Derived.Deep.RegionHeld3
namespace Go.Proofs.Ytamnmakegdnblaa.K.D
open Go.Shelf Go.RowKit Go.Joins
attribute [local go_sem] Oper.semAt_some

def quO (l x y s : Int) (k : Nat) : On := ⟨l + 1, 2 * x + ((k % 2 : Nat) : Int), 2 * y + ((k / 2 : Nat) : Int), s⟩
def quL (l x y s : Int) (j : Nat) : List On := (List.range j).map (quO l x y s)
/-- Is it Split? -/
def splB (e : Int) (L : List On) (l x y : Int) : Bool := dirB e L && (decide (posO l x y L < L.length) && (!decide (l = 8) && (!decide (61 < L.length) && !decide (e = 100000))))
def splE (e : Int) (L : List On) (l x y : Int) : Int := if dirB e L then (if splB e L l x y then e + 1 else e) else 0
def splL (e : Int) (L : List On) (l x y : Int) : List On := if dirB e L then (if splB e L l x y then L.take (posO l x y L) ++ quL l x y (L.getD (posO l x y L) zon).s 4 ++ L.drop (posO l x y L + 1) else L) else []
set_option maxRecDepth 100000 in
set_option maxHeartbeats 4000000 in
theorem sSplit_any (e : Int) (p : Option Addr) (n c : Nat) (L : List On) (hn : L.length = n) (l x y : Int) (w : World) (hL : SlG kO w p L) (hnc : n ≤ c) (ho : okv ⟨p, n, c⟩) :
    Calls Try.prog 15 #[Dv.v ⟨e, p, n, c⟩, .agg #[.int .i64 l, .int .i64 x, .int .i64 y]] w fun ee w' => ∃ q m c', ee = .returned (.tuple #[Dv.v ⟨splE e L l x y, q, m, c'⟩, .bool (splB e L l x y)]) ∧ Sg w w' [rG kO (.slice q m c') (splL e L l x y)] := by
  have hx := (((Sg.nil w).lit kD [⟨e, p, n, c⟩] 1 rfl (by decide) #[.int .i64 e, .slice p n c] rfl).lit kC [(l, x, y)] 1 rfl (by decide) #[.int .i64 l, .int .i64 x, .int .i64 y] rfl).lit kD [zdv] 1 rfl (by decide) #[.int .i64 0, .slice none 0 0] rfl
  simp only [World.size_alloc] at hx
  have HF : Hid (∀ W rs, Sg w W rs → rG kD (.slice (some ⟨w.heap.size, 0, none⟩) 1 1) [⟨e, p, n, c⟩] ∈ rs → rG kC (.slice (some ⟨w.heap.size + 1, 0, none⟩) 1 1) [(l, x, y)] ∈ rs → rG kD (.slice (some ⟨w.heap.size + 2, 0, none⟩) 1 1) [zdv] ∈ rs → (W.cell? ⟨w.heap.size, 0, none⟩ = some (.int .i64 e) ∧ W.cell? ⟨w.heap.size, 1, none⟩ = some (.slice p n c)) ∧ (W.cell? ⟨w.heap.size + 1, 0, none⟩ = some (.int .i64 l) ∧ W.cell? ⟨w.heap.size + 1, 1, none⟩ = some (.int .i64 x) ∧ W.cell? ⟨w.heap.size + 1, 2, none⟩ = some (.int .i64 y)) ∧ (W.cell? ⟨w.heap.size + 2, 0, none⟩ = some (.int .i64 0) ∧ W.cell? ⟨w.heap.size + 2, 1, none⟩ = some (.slice none 0 0)) ∧ (∀ o, W.frozen? ⟨w.heap.size + 2, o, none⟩ = false) ∧ w.heap.size + 2 < W.heap.size) := fun W rs h h1 h2 h3 => by
    obtain ⟨a0, a1, _, _⟩ := dv2 h h1 rfl
    obtain ⟨b0, b1, b2⟩ := c3 h h2
    obtain ⟨d0, d1, d2, d3⟩ := dv2 h h3 rfl
    exact ⟨⟨a0, a1⟩, ⟨b0, b1, b2⟩, ⟨d0, d1⟩, d2, d3⟩
  have HD := Lib.hid (fun W (h : Below w.heap.size w W) => sDirectoryOk_any e p n c L hn W (hL.step h) hnc)
  obtain ⟨bd, hbd⟩ : ∃ b, dirB e L = b := ⟨_, rfl⟩
  rw [hbd] at HD
  cases bd
  · have hg : splB e L l x y = false := by unfold splB; rw [hbd]; rfl
    have hge : splE e L l x y = 0 := by unfold splE; rw [hbd]; rfl
    have hgl : splL e L l x y = [] := by unfold splL; rw [hbd]; rfl
    rw [hg, hge, hgl]
    clear hn hL hbd hg hge hgl
    go_enter Try.func15, Try.ntmps15
    go_wp2_with (go_at_call 18; refine (HD.out _ hx.bel).mono ?_; rintro ee w1 ⟨rfl, hb1⟩; replace hx := hx.step hb1; obtain ⟨⟨a0, a1⟩, ⟨b0, b1, b2⟩, ⟨d0, d1⟩, d2, d3⟩ := HF.out _ _ hx (by simp) (by simp) (by simp))
    have hx2 := Sg.setD (A := []) (g := w.heap.size + 2) (n := 1) (a := zdv) hx zdv
    simp only [zdv] at hx2
    obtain ⟨t0, t1, _, _⟩ := dv2 hx2 (K := kD) (g := w.heap.size + 2) (n := 1) (q := ⟨0, none, 0, 0⟩) (by simp) rfl
    dsimp only at t0 t1
    refine bodyPost_ret (v := .tuple #[.agg #[.int .i64 0, .slice none 0 0], .bool false]) (by simp [results, Try.results15, go_sem, t0, t1]) rfl ⟨none, 0, 0, rfl, ?_⟩
    refine ⟨hx2.bel, fun r hr => ?_, by simp⟩
    obtain rfl := List.mem_singleton.mp hr
    exact ⟨rfl, .inl ⟨rfl, rfl⟩⟩
  obtain ⟨hn64, hon⟩ := dir_on hbd
  have hne : 1 ≤ e ∧ e ≤ 100000 := dir_e hbd
  have HC := Lib.hid (fun W (h : Below w.heap.size w W) => l15Copy_any e p n c L hn W (hL.step h) (by omega) ho)
  have HA := Lib.hid (fun W (h : Below w.heap.size w W) => l15At_any e p n c L hn l x y W (hL.step h) (by omega))
  by_cases hi : posO l x y L < L.length
  case neg =>
    have hat : atI L l x y = -1 := by unfold atI; rw [if_neg hi]
    rw [hat] at HA
    have hg : splB e L l x y = false := by unfold splB; rw [hbd]; rw [decide_eq_false hi]; rfl
    have hge : splE e L l x y = e := by unfold splE; rw [hbd, hg]; rfl
    have hgl : splL e L l x y = L := by unfold splL; rw [hbd, hg]; rfl
    rw [hg, hge, hgl]
    clear hn hL hg hge hgl ho
    clear hbd
    go_enter Try.func15, Try.ntmps15
    go_wp2_with (first
      | (go_at_call 18; refine (HD.out _ hx.bel).mono ?_; rintro ee w1 ⟨rfl, hb1⟩; replace hx := hx.step hb1; obtain ⟨⟨a0, a1⟩, ⟨b0, b1, b2⟩, ⟨d0, d1⟩, d2, d3⟩ := HF.out _ _ hx (by simp) (by simp) (by simp))
      | (go_at_call 46; refine (HC.out _ hx.bel).mono ?_; rintro ee w2 ⟨q, cq, rfl, hq⟩; replace hx := hx.addL hq; clear a0 a1 b0 b1 b2 d0 d1 d2 d3; obtain ⟨⟨a0, a1⟩, ⟨b0, b1, b2⟩, ⟨d0, d1⟩, d2, d3⟩ := HF.out _ _ hx (by simp) (by simp) (by simp); have hx8 : Sg w (w2.alloc (.cells #[.int .i64 e, .slice q n cq] 26)) _ := hx.lit kD [⟨e, q, n, cq⟩] 1 rfl (by decide) #[.int .i64 e, .slice q n cq] rfl; clear a0 a1 b0 b1 b2 d0 d1 d2 d3; obtain ⟨⟨a0, a1⟩, ⟨b0, b1, b2⟩, ⟨d0, d1⟩, d2, d3⟩ := HF.out _ _ hx8 (by simp) (by simp) (by simp))
      | (go_at_call 47; refine (HA.out _ hx8.bel).mono ?_; rintro ee w3 ⟨rfl, hb3⟩; replace hx8 := hx8.step hb3; clear a0 a1 b0 b1 b2 d0 d1 d2 d3; obtain ⟨⟨a0, a1⟩, ⟨b0, b1, b2⟩, ⟨d0, d1⟩, d2, d3⟩ := HF.out _ _ hx8 (by simp) (by simp) (by simp); obtain ⟨z0, z1, zf, zg⟩ := dv2 hx8 (K := kD) (g := w2.heap.size) (n := 1) (q := ⟨e, q, n, cq⟩) (by simp) rfl; dsimp only at z0 z1))
    have hx9 := Sg.setD (A := [rG kD (.slice (some ⟨w2.heap.size, 0, none⟩) 1 1) [⟨e, q, n, cq⟩], rG kO (.slice q n cq) L]) (g := w.heap.size + 2) (n := 1) (a := zdv) hx8 ⟨e, q, n, cq⟩
    obtain ⟨t0, t1, _, _⟩ := dv2 hx9 (K := kD) (g := w.heap.size + 2) (n := 1) (q := ⟨e, q, n, cq⟩) (by simp) rfl
    dsimp only at t0 t1
    refine bodyPost_ret (v := .tuple #[.agg #[.int .i64 e, .slice q n cq], .bool false]) (by simp [results, Try.results15, go_sem, t0, t1]) rfl ⟨q, n, cq, rfl, ?_⟩
    exact hx9.sub (by simp)
  case pos =>
    have hat : atI L l x y = (posO l x y L : Int) := by unfold atI; rw [if_pos hi]
    rw [hat] at HA
    have hgB : splB e L l x y = (!decide (l = 8) && (!decide (61 < n) && !decide (e = 100000))) := by unfold splB; rw [hbd, decide_eq_true hi, hn]; rfl
    have hgE : splE e L l x y = if splB e L l x y then e + 1 else e := by unfold splE; rw [hbd]; rfl
    have hgL : splL e L l x y = if splB e L l x y then L.take (posO l x y L) ++ quL l x y (L.getD (posO l x y L) zon).s 4 ++ L.drop (posO l x y L + 1) else L := by unfold splL; rw [hbd]; rfl
    obtain ⟨i, hii⟩ : ∃ i, posO l x y L = i := ⟨_, rfl⟩
    rw [hii] at HA hi hgL hat
    have hin : (i : Int) < n := by omega
    have hi0 : ¬ (i : Int) < 0 := by omega
    by_cases h8 : l = 8
    · subst h8
      simp only [decide_true, Bool.not_true, Bool.false_and] at hgB
      rw [hgB] at hgL hgE
      rw [hgB, hgL, hgE]
      simp only [Bool.false_eq_true, if_false]
      clear hgB hgL hgE hat hii hbd hn hL ho hi
      go_enter Try.func15, Try.ntmps15
      go_wp2_with (first
        | (go_at_call 18; refine (HD.out _ hx.bel).mono ?_; rintro ee w1 ⟨rfl, hb1⟩; replace hx := hx.step hb1; obtain ⟨⟨a0, a1⟩, ⟨b0, b1, b2⟩, ⟨d0, d1⟩, d2, d3⟩ := HF.out _ _ hx (by simp) (by simp) (by simp))
        | (go_at_call 46; refine (HC.out _ hx.bel).mono ?_; rintro ee w2 ⟨q, cq, rfl, hq⟩; replace hx := hx.addL hq; clear a0 a1 b0 b1 b2 d0 d1 d2 d3; obtain ⟨⟨a0, a1⟩, ⟨b0, b1, b2⟩, ⟨d0, d1⟩, d2, d3⟩ := HF.out _ _ hx (by simp) (by simp) (by simp); have hx8 : Sg w (w2.alloc (.cells #[.int .i64 e, .slice q n cq] 26)) _ := hx.lit kD [⟨e, q, n, cq⟩] 1 rfl (by decide) #[.int .i64 e, .slice q n cq] rfl; clear a0 a1 b0 b1 b2 d0 d1 d2 d3; obtain ⟨⟨a0, a1⟩, ⟨b0, b1, b2⟩, ⟨d0, d1⟩, d2, d3⟩ := HF.out _ _ hx8 (by simp) (by simp) (by simp))
        | (go_at_call 47; refine (HA.out _ hx8.bel).mono ?_; rintro ee w3 ⟨rfl, hb3⟩; replace hx8 := hx8.step hb3; clear a0 a1 b0 b1 b2 d0 d1 d2 d3; obtain ⟨⟨a0, a1⟩, ⟨b0, b1, b2⟩, ⟨d0, d1⟩, d2, d3⟩ := HF.out _ _ hx8 (by simp) (by simp) (by simp); obtain ⟨z0, z1, zf, zg⟩ := dv2 hx8 (K := kD) (g := w2.heap.size) (n := 1) (q := ⟨e, q, n, cq⟩) (by simp) rfl; dsimp only at z0 z1))
      have hx9 := Sg.setD (A := [rG kD (.slice (some ⟨w2.heap.size, 0, none⟩) 1 1) [⟨e, q, n, cq⟩], rG kO (.slice q n cq) L]) (g := w.heap.size + 2) (n := 1) (a := zdv) hx8 ⟨e, q, n, cq⟩
      obtain ⟨t0, t1, _, _⟩ := dv2 hx9 (K := kD) (g := w.heap.size + 2) (n := 1) (q := ⟨e, q, n, cq⟩) (by simp) rfl
      dsimp only at t0 t1
      refine bodyPost_ret (v := .tuple #[.agg #[.int .i64 e, .slice q n cq], .bool false]) (by simp [results, Try.results15, go_sem, t0, t1]) rfl ⟨q, n, cq, rfl, ?_⟩
      exact hx9.sub (by simp)
    have h8' : (l == 8) = false := by simpa using h8
    rw [decide_eq_false h8] at hgB
    by_cases h61 : 61 < n
    · have h61' : (61 : Int) < n := by omega
      simp only [h61, decide_true, Bool.not_true, Bool.false_and, Bool.and_false] at hgB
      rw [hgB] at hgL hgE
      rw [hgB, hgL, hgE]
      simp only [Bool.false_eq_true, if_false]
      clear hgB hgL hgE hat hii hbd hn hL ho hi h8
      go_enter Try.func15, Try.ntmps15
      go_wp2_with (first
        | (go_at_call 18; refine (HD.out _ hx.bel).mono ?_; rintro ee w1 ⟨rfl, hb1⟩; replace hx := hx.step hb1; obtain ⟨⟨a0, a1⟩, ⟨b0, b1, b2⟩, ⟨d0, d1⟩, d2, d3⟩ := HF.out _ _ hx (by simp) (by simp) (by simp))
        | (go_at_call 46; refine (HC.out _ hx.bel).mono ?_; rintro ee w2 ⟨q, cq, rfl, hq⟩; replace hx := hx.addL hq; clear a0 a1 b0 b1 b2 d0 d1 d2 d3; obtain ⟨⟨a0, a1⟩, ⟨b0, b1, b2⟩, ⟨d0, d1⟩, d2, d3⟩ := HF.out _ _ hx (by simp) (by simp) (by simp); have hx8 : Sg w (w2.alloc (.cells #[.int .i64 e, .slice q n cq] 26)) _ := hx.lit kD [⟨e, q, n, cq⟩] 1 rfl (by decide) #[.int .i64 e, .slice q n cq] rfl; clear a0 a1 b0 b1 b2 d0 d1 d2 d3; obtain ⟨⟨a0, a1⟩, ⟨b0, b1, b2⟩, ⟨d0, d1⟩, d2, d3⟩ := HF.out _ _ hx8 (by simp) (by simp) (by simp))
        | (go_at_call 47; refine (HA.out _ hx8.bel).mono ?_; rintro ee w3 ⟨rfl, hb3⟩; replace hx8 := hx8.step hb3; clear a0 a1 b0 b1 b2 d0 d1 d2 d3; obtain ⟨⟨a0, a1⟩, ⟨b0, b1, b2⟩, ⟨d0, d1⟩, d2, d3⟩ := HF.out _ _ hx8 (by simp) (by simp) (by simp); obtain ⟨z0, z1, zf, zg⟩ := dv2 hx8 (K := kD) (g := w2.heap.size) (n := 1) (q := ⟨e, q, n, cq⟩) (by simp) rfl; dsimp only at z0 z1))
      have hx9 := Sg.setD (A := [rG kD (.slice (some ⟨w2.heap.size, 0, none⟩) 1 1) [⟨e, q, n, cq⟩], rG kO (.slice q n cq) L]) (g := w.heap.size + 2) (n := 1) (a := zdv) hx8 ⟨e, q, n, cq⟩
      obtain ⟨t0, t1, _, _⟩ := dv2 hx9 (K := kD) (g := w.heap.size + 2) (n := 1) (q := ⟨e, q, n, cq⟩) (by simp) rfl
      dsimp only at t0 t1
      refine bodyPost_ret (v := .tuple #[.agg #[.int .i64 e, .slice q n cq], .bool false]) (by simp [results, Try.results15, go_sem, t0, t1]) rfl ⟨q, n, cq, rfl, ?_⟩
      exact hx9.sub (by simp)
    have h61' : ¬ (61 : Int) < n := by omega
    rw [decide_eq_false h61] at hgB
    by_cases hmax : e = 100000
    · subst hmax
      simp only [decide_true, Bool.not_true, Bool.and_false] at hgB
      rw [hgB] at hgL hgE
      rw [hgB, hgL, hgE]
      simp only [Bool.false_eq_true, if_false]
      clear hgB hgL hgE hat hii hbd hn hL ho hi h8
      go_enter Try.func15, Try.ntmps15
      go_wp2_with (first
        | (go_at_call 18; refine (HD.out _ hx.bel).mono ?_; rintro ee w1 ⟨rfl, hb1⟩; replace hx := hx.step hb1; obtain ⟨⟨a0, a1⟩, ⟨b0, b1, b2⟩, ⟨d0, d1⟩, d2, d3⟩ := HF.out _ _ hx (by simp) (by simp) (by simp))
        | (go_at_call 46; refine (HC.out _ hx.bel).mono ?_; rintro ee w2 ⟨q, cq, rfl, hq⟩; replace hx := hx.addL hq; clear a0 a1 b0 b1 b2 d0 d1 d2 d3; obtain ⟨⟨a0, a1⟩, ⟨b0, b1, b2⟩, ⟨d0, d1⟩, d2, d3⟩ := HF.out _ _ hx (by simp) (by simp) (by simp); have hx8 : Sg w (w2.alloc (.cells #[.int .i64 100000, .slice q n cq] 26)) _ := hx.lit kD [⟨100000, q, n, cq⟩] 1 rfl (by decide) #[.int .i64 100000, .slice q n cq] rfl; clear a0 a1 b0 b1 b2 d0 d1 d2 d3; obtain ⟨⟨a0, a1⟩, ⟨b0, b1, b2⟩, ⟨d0, d1⟩, d2, d3⟩ := HF.out _ _ hx8 (by simp) (by simp) (by simp))
        | (go_at_call 47; refine (HA.out _ hx8.bel).mono ?_; rintro ee w3 ⟨rfl, hb3⟩; replace hx8 := hx8.step hb3; clear a0 a1 b0 b1 b2 d0 d1 d2 d3; obtain ⟨⟨a0, a1⟩, ⟨b0, b1, b2⟩, ⟨d0, d1⟩, d2, d3⟩ := HF.out _ _ hx8 (by simp) (by simp) (by simp); obtain ⟨z0, z1, zf, zg⟩ := dv2 hx8 (K := kD) (g := w2.heap.size) (n := 1) (q := ⟨100000, q, n, cq⟩) (by simp) rfl; dsimp only at z0 z1))
      have hx9 := Sg.setD (A := [rG kD (.slice (some ⟨w2.heap.size, 0, none⟩) 1 1) [⟨100000, q, n, cq⟩], rG kO (.slice q n cq) L]) (g := w.heap.size + 2) (n := 1) (a := zdv) hx8 ⟨100000, q, n, cq⟩
      obtain ⟨t0, t1, _, _⟩ := dv2 hx9 (K := kD) (g := w.heap.size + 2) (n := 1) (q := ⟨100000, q, n, cq⟩) (by simp) rfl
      dsimp only at t0 t1
      refine bodyPost_ret (v := .tuple #[.agg #[.int .i64 100000, .slice q n cq], .bool false]) (by simp [results, Try.results15, go_sem, t0, t1]) rfl ⟨q, n, cq, rfl, ?_⟩
      exact hx9.sub (by simp)
    have hmax' : (e == 100000) = false := by simpa using hmax
    rw [decide_eq_false hmax] at hgB
    simp only [Bool.not_false, Bool.and_true] at hgB
    rw [hgB] at hgL hgE
    rw [hgB, hgL, hgE]
    simp only [if_true]
    obtain ⟨g, off, rfl, hC⟩ := hL.at hi
    have hgk := getO hi
    have hpe := posO_eq l x y L (by rw [hii]; exact hi)
    rw [hii] at hpe
    have honi := hon _ (List.mem_of_getElem? hgk)
    obtain ⟨s, hm⟩ : ∃ s, L.getD i zon = ⟨l, x, y, s⟩ := ⟨(L.getD i zon).s, by
      obtain ⟨e1, e2, e3⟩ := hpe
      cases hq : L.getD i zon
      rw [hq] at e1 e2 e3
      simp only at e1 e2 e3
      subst e1 e2 e3
      rfl⟩
    rw [hm] at honi hgk
    rw [hm]
    have hcell : M.cellB l x y = true := (Bool.and_eq_true_iff.mp honi).1
    obtain ⟨c0, c8, cx0, cx1, cy0, cy1⟩ := M.cellB_t.mp hcell
    have hp2 := (M.pw c0 c8).2
    have HQ : Hid (∀ (k : Nat) W, k < 4 → Calls Try.prog 48 #[.agg #[.int .i64 l, .int .i64 x, .int .i64 y], .int .i64 k] W fun e w' => e = .returned (.agg #[.int .i64 (l + 1), .int .i64 (2 * x + ((k % 2 : Nat) : Int)), .int .i64 (2 * y + ((k / 2 : Nat) : Int))]) ∧ Below W.heap.size W w') := fun k W hk => l2Quarter_any l x y k hk ⟨c0, c8⟩ ⟨cx0, by omega⟩ ⟨cy0, by omega⟩ W
    have HE : Hid (∀ W, Below w.heap.size w W → CsG kO W g off L) := fun W hb => by
      obtain ⟨g', off', e', h5⟩ := (hL.step hb).at hi
      injection e' with e'
      injection e' with e1 e2
      subst e1 e2
      exact h5
    have HLi : Hid (i < L.length ∧ L.length = n ∧ (L.take i).length = i ∧ L[i]? = some ⟨l, x, y, s⟩) := ⟨hi, hn, by rw [List.length_take]; omega, hgk⟩
    have HS2 : Hid (∀ w' rs, Sg w w' rs → rG kC (.slice (some ⟨w.heap.size + 1, 0, none⟩) 1 1) [(l, x, y)] ∈ rs → rG kD (.slice (some ⟨w.heap.size, 0, none⟩) 1 1) [⟨e, some ⟨g, off, none⟩, n, c⟩] ∈ rs → ((w'.cell? ⟨w.heap.size, 0, none⟩ = some (.int .i64 e) ∧ w'.cell? ⟨w.heap.size, 1, none⟩ = some (.slice (some ⟨g, off, none⟩) n c)) ∧ (w'.cell? ⟨w.heap.size + 1, 0, none⟩ = some (.int .i64 l) ∧ w'.cell? ⟨w.heap.size + 1, 1, none⟩ = some (.int .i64 x) ∧ w'.cell? ⟨w.heap.size + 1, 2, none⟩ = some (.int .i64 y)) ∧ w'.cell? ⟨g, off + i * 4 + 3, none⟩ = some (.int .i64 s))) := fun w' rs h h2 h1 => by
      obtain ⟨a0, a1, _, _⟩ := dv2 h h1 rfl
      obtain ⟨-, -, -, k3⟩ := CsG.o4 (HE.out w' h.bel) hgk
      exact ⟨⟨a0, a1⟩, c3 h h2, k3⟩
    have hw1 : wrap64 (e + 1) = e + 1 := by unfold wrap64; omega
    have hile : (i : Int) ≤ c := by omega
    have hiln : (i : Int) ≤ n := by omega
    clear hgB hgL hgE hat hii hbd hL hC hgk hpe honi hm hcell ho hi h8 h61 hmax cx1 cy1
    go_enter Try.func15, Try.ntmps15
    go_upto_region 7 with (first
      | (go_at_call 18; refine (HD.out _ hx.bel).mono ?_; rintro ee w1 ⟨rfl, hb1⟩; replace hx := hx.step hb1; obtain ⟨⟨a0, a1⟩, ⟨b0, b1, b2⟩, ⟨d0, d1⟩, d2, d3⟩ := HF.out _ _ hx (by simp) (by simp) (by simp))
      | (go_at_call 46; refine (HC.out _ hx.bel).mono ?_; rintro ee w2 ⟨q, cq, rfl, hq⟩; replace hx := hx.addL hq; clear a0 a1 b0 b1 b2 d0 d1 d2 d3; obtain ⟨⟨a0, a1⟩, ⟨b0, b1, b2⟩, ⟨d0, d1⟩, d2, d3⟩ := HF.out _ _ hx (by simp) (by simp) (by simp); have hx8 : Sg w (w2.alloc (.cells #[.int .i64 e, .slice q n cq] 26)) _ := hx.lit kD [⟨e, q, n, cq⟩] 1 rfl (by decide) #[.int .i64 e, .slice q n cq] rfl; clear a0 a1 b0 b1 b2 d0 d1 d2 d3; obtain ⟨⟨a0, a1⟩, ⟨b0, b1, b2⟩, ⟨d0, d1⟩, d2, d3⟩ := HF.out _ _ hx8 (by simp) (by simp) (by simp))
      | (go_at_call 47; refine (HA.out _ hx8.bel).mono ?_; rintro ee w3 ⟨rfl, hb3⟩; replace hx8 := hx8.step hb3; clear a0 a1 b0 b1 b2 d0 d1 d2 d3; obtain ⟨⟨a0, a1⟩, ⟨b0, b1, b2⟩, ⟨d0, d1⟩, d2, d3⟩ := HF.out _ _ hx8 (by simp) (by simp) (by simp); obtain ⟨z0, z1, zf, zg⟩ := dv2 hx8 (K := kD) (g := w2.heap.size) (n := 1) (q := ⟨e, q, n, cq⟩) (by simp) rfl; dsimp only at z0 z1))
    have hx10 : Sg w (w3.alloc (.cells #[] 73)) _ := hx8.lit kO [] 0 rfl (by decide) #[] rfl
    clear a0 a1 b0 b1 b2 d0 d1 d2 d3
    obtain ⟨⟨a0, a1⟩, ⟨b0, b1, b2⟩, ⟨d0, d1⟩, d2, d3⟩ := HF.out _ _ hx10 (by simp) (by simp) (by simp)
    go_upto_region 8 with (at_builtin; refine wpList_cp appO oneOs rfl _ _ rfl (A := []) (L := L.take i) (s := ⟨some ⟨g, off, none⟩, i, c⟩) hx10 (Below.refl _ _) (.inr ⟨g, off, rfl, (HE.out _ hx10.bel).take i⟩) HLi.out.2.2.1 (by simp only; omega) (.inl ⟨_, rfl⟩) rfl rfl ?_; intro q4 c4 w4 hx11)
    have hx12 : Sg w w4 (rG kO (.slice q4 i c4) (L.take i ++ quL l x y s 0) :: [rG kD (.slice (some ⟨w2.heap.size, 0, none⟩) 1 1) [⟨e, q, n, cq⟩], rG kO (.slice q n cq) L, rG kD (.slice (some ⟨w.heap.size + 2, 0, none⟩) 1 1) [zdv], rG kC (.slice (some ⟨w.heap.size + 1, 0, none⟩) 1 1) [(l, x, y)], rG kD (.slice (some ⟨w.heap.size, 0, none⟩) 1 1) [⟨e, some ⟨g, off, none⟩, n, c⟩]]) := by simpa [quL] using hx11
    clear hx11 hx10 hx8 hx a0 a1 b0 b1 b2 d0 d1 d2 d3 z0 z1 zf zg
    go_wp2
    go_loopw [8, 9] (fun lv iv wr => ∃ (j : Nat) (q5 : Option Addr) (c5 : Nat), j ≤ 4 ∧ iv = .int .i64 j ∧ lv = .slice q5 (i + j) c5 ∧ Sg w wr (rG kO (.slice q5 (i + j) c5) (L.take i ++ quL l x y s j) :: [rG kD (.slice (some ⟨w2.heap.size, 0, none⟩) 1 1) [⟨e, q, n, cq⟩], rG kO (.slice q n cq) L, rG kD (.slice (some ⟨w.heap.size + 2, 0, none⟩) 1 1) [zdv], rG kC (.slice (some ⟨w.heap.size + 1, 0, none⟩) 1 1) [(l, x, y)], rG kD (.slice (some ⟨w.heap.size, 0, none⟩) 1 1) [⟨e, some ⟨g, off, none⟩, n, c⟩]])) (fun _ iv _ => 4 - (intOf iv).toNat)
    case atStart => exact ⟨0, q4, c4, by omega, rfl, rfl, hx12⟩
    case round =>
      clear hx12
      obtain ⟨j, q5, c5, hj, rfl, rfl, hrow⟩ := hrel
      by_cases hj4 : j < 4
      · have hji : (j : Int) < 4 := by omega
        have HLn : Hid ((L.take i ++ quL l x y s j).length = i + j) := by
          show (L.take i ++ quL l x y s j).length = i + j
          rw [List.length_append, HLi.out.2.2.1]; simp [quL]
        have hk0 := HS2.out _ _ hrow (by simp) (by simp)
        go_upto_region 11 with (fail)
        go_region_held3 (fun w' => (w'.cell? ⟨w.heap.size, 0, none⟩ = some (.int .i64 e) ∧ w'.cell? ⟨w.heap.size, 1, none⟩ = some (.slice (some ⟨g, off, none⟩) n c)) ∧ (w'.cell? ⟨w.heap.size + 1, 0, none⟩ = some (.int .i64 l) ∧ w'.cell? ⟨w.heap.size + 1, 1, none⟩ = some (.int .i64 x) ∧ w'.cell? ⟨w.heap.size + 1, 2, none⟩ = some (.int .i64 y)) ∧ w'.cell? ⟨g, off + i * 4 + 3, none⟩ = some (.int .i64 s))
          (first
            | assumption
            | with_reducible exact HS2.out _ _ hrow (by simp) (by simp)
            | with_reducible exact HS2.out _ _ (hrow.step (Below.refl _ _).drew) (by simp) (by simp)
            | with_reducible exact HS2.out _ _ (hrow.step (below_alloc1 _ _)) (by simp) (by simp))
          (first
            | (go_at_call 48; refine (HQ.out j _ hj4).mono ?_; rintro ee w5 ⟨rfl, hb5⟩; (first | with_reducible (replace hrow := hrow.step hb5) | with_reducible (replace hrow := (hrow.step (Below.refl _ _).drew).step hb5)); clear hb5)
            | (refine step_sgapp appO (by rfl) _ _ (by rfl) (A := []) (M := L.take i ++ quL l x y s j) (B := [quO l x y s j]) (n := i + j) (m := 1) hrow (below_alloc1 _ _) HLn.out rfl (by rfl) ⟨_, 0, none⟩ 1 (by rfl) (fun j' u hj' => lit_src (xs := [.int .i64 (l + 1), .int .i64 (2 * x + ((j % 2 : Nat) : Int)), .int .i64 (2 * y + ((j / 2 : Nat) : Int)), .int .i64 s]) (t := 73) rfl j' u hj') (oneOs _) (.inl (by decide)) (by omega) ?_; intro g6 cp6 w6 hx6 _ _; replace hrow := hx6; clear hx6))
        all_goals
          go_wp2
          go_roundw
          case rel => exact ⟨j + 1, some ⟨g6, 0, none⟩, cp6, by omega, by go_num, rfl, by simpa [quL, List.range_succ, Nat.add_assoc] using hrow⟩
          case measure => simp [intOf]; omega
      · obtain rfl : j = 4 := by omega
        obtain ⟨⟨a0, a1⟩, ⟨b0, b1, b2⟩, ⟨d0, d1⟩, d2, d3⟩ := HF.out _ _ hrow (by simp) (by simp) (by simp)
        obtain ⟨z0, z1, zf, zg⟩ := dv2 hrow (K := kD) (g := w2.heap.size) (n := 1) (q := ⟨e, q, n, cq⟩) (by simp) rfl
        dsimp only at z0 z1
        have HL4 : Hid ((L.take i ++ quL l x y s 4).length = i + 4) := by
          show (L.take i ++ quL l x y s 4).length = i + 4
          rw [List.length_append, HLi.out.2.2.1]; simp [quL]
        have HLd : Hid ((L.drop (i + 1)).length = n - (i + 1)) := by show (L.drop (i + 1)).length = n - (i + 1); rw [List.length_drop, HLi.out.2.1]
        have hi1 : (i : Int) + 1 ≤ n := by omega
        have hi2 : (i : Int) + 1 ≤ c := by omega
        have hdis := hrow.dis
        simp [rG, Value.ownBlock] at hdis
        have m0 : ¬ w2.heap.size = w.heap.size + 1 + 1 := by omega
        have k0' : ¬ w.heap.size + 1 + 1 = w2.heap.size := by omega
        have m1 : ¬ w2.heap.size = w.heap.size + 2 := by omega
        have k1' : ¬ w.heap.size + 2 = w2.heap.size := by omega
        have m2 : ¬ w2.heap.size = w.heap.size := by omega
        have k2' : ¬ w.heap.size = w2.heap.size := by omega
        have m3 : ¬ w2.heap.size = w.heap.size + 1 := by omega
        have k3' : ¬ w.heap.size + 1 = w2.heap.size := by omega
        by_cases hc : c = i + 1
        · have hc' : (c : Int) = i + 1 := by omega
          have hn0 : n - (i + 1) = 0 := by omega
          go_wp2_with (at_builtin; refine wpList_ap appO oneOs rfl _ _ rfl (A := []) (M := L.take i ++ quL l x y s 4) (L := L.drop (i + 1)) (m := i + 4) (s := ⟨some ⟨g, off, none⟩, 0, 0⟩) hrow (Below.refl _ _) (.inl (List.eq_nil_of_length_eq_zero (by rw [HLd.out]; exact hn0))) HL4.out (HLd.out.trans hn0) (by simp only; omega) (.inl ⟨_, rfl⟩) rfl (by simp [Act.eval]; done) ?_; intro q6 c6 w6 hx6 _ _ _; clear a0 a1 b0 b1 b2 d0 d1 d2 d3 z0 z1 zf zg; obtain ⟨⟨a0, a1⟩, ⟨b0, b1, b2⟩, ⟨d0, d1⟩, d2, d3⟩ := HF.out _ _ hx6 (by simp) (by simp) (by simp); obtain ⟨z0, z1, zf, zg⟩ := dv2 hx6 (K := kD) (g := w2.heap.size) (n := 1) (q := ⟨e, q, n, cq⟩) (by simp) rfl; dsimp only at z0 z1)
          have hA2 := Sg.setD1 (A := [rG kO (.slice q6 (i + 4 + 0) c6) (L.take i ++ quL l x y s 4 ++ L.drop (i + 1))]) (g := w2.heap.size) (n := 1) (a := ⟨e, q, n, cq⟩) hx6 q6 (i + 4 + 0) c6
          have hA3 := Sg.setD0 hA2 (e + 1)
          have hx9 := Sg.setD (A := [rG kO (.slice q6 (i + 4 + 0) c6) (L.take i ++ quL l x y s 4 ++ L.drop (i + 1)), rG kD (.slice (some ⟨w2.heap.size, 0, none⟩) 1 1) [⟨e + 1, q6, i + 4 + 0, c6⟩], rG kO (.slice q n cq) L]) (g := w.heap.size + 2) (n := 1) (a := zdv) hA3 ⟨e + 1, q6, i + 4 + 0, c6⟩
          obtain ⟨t0, t1, _, _⟩ := dv2 hx9 (K := kD) (g := w.heap.size + 2) (n := 1) (q := ⟨e + 1, q6, i + 4 + 0, c6⟩) (by simp) rfl
          dsimp only at t0 t1
          refine bodyPost_ret (v := .tuple #[.agg #[.int .i64 (e + 1), .slice q6 (i + 4 + 0) c6], .bool true]) (by simp [results, Try.results15, go_sem, t0, t1]) rfl ⟨q6, i + 4 + 0, c6, rfl, ?_⟩
          rw [← List.append_assoc]
          exact hx9.sub (List.Sublist.cons_cons _ (List.nil_sublist _))
        · have hc' : ¬ (c : Int) = i + 1 := by omega
          go_wp2_with (at_builtin; refine wpList_ap appO oneOs rfl _ _ rfl (A := []) (M := L.take i ++ quL l x y s 4) (L := L.drop (i + 1)) (m := i + 4) (s := ⟨some ⟨g, off + (i + 1) * 4, none⟩, n - (i + 1), c - (i + 1)⟩) hrow (Below.refl _ _) (.inr ⟨g, off + (i + 1) * 4, rfl, (HE.out _ hrow.bel).drop (i + 1)⟩) HL4.out HLd.out (by simp only; omega) (.inl ⟨_, rfl⟩) rfl (by simp [Act.eval]; done) ?_; intro q6 c6 w6 hx6 _ _ _; clear a0 a1 b0 b1 b2 d0 d1 d2 d3 z0 z1 zf zg; obtain ⟨⟨a0, a1⟩, ⟨b0, b1, b2⟩, ⟨d0, d1⟩, d2, d3⟩ := HF.out _ _ hx6 (by simp) (by simp) (by simp); obtain ⟨z0, z1, zf, zg⟩ := dv2 hx6 (K := kD) (g := w2.heap.size) (n := 1) (q := ⟨e, q, n, cq⟩) (by simp) rfl; dsimp only at z0 z1)
          have hA2 := Sg.setD1 (A := [rG kO (.slice q6 (i + 4 + (n - (i + 1))) c6) (L.take i ++ quL l x y s 4 ++ L.drop (i + 1))]) (g := w2.heap.size) (n := 1) (a := ⟨e, q, n, cq⟩) hx6 q6 (i + 4 + (n - (i + 1))) c6
          have hA3 := Sg.setD0 hA2 (e + 1)
          have hx9 := Sg.setD (A := [rG kO (.slice q6 (i + 4 + (n - (i + 1))) c6) (L.take i ++ quL l x y s 4 ++ L.drop (i + 1)), rG kD (.slice (some ⟨w2.heap.size, 0, none⟩) 1 1) [⟨e + 1, q6, i + 4 + (n - (i + 1)), c6⟩], rG kO (.slice q n cq) L]) (g := w.heap.size + 2) (n := 1) (a := zdv) hA3 ⟨e + 1, q6, i + 4 + (n - (i + 1)), c6⟩
          obtain ⟨t0, t1, _, _⟩ := dv2 hx9 (K := kD) (g := w.heap.size + 2) (n := 1) (q := ⟨e + 1, q6, i + 4 + (n - (i + 1)), c6⟩) (by simp) rfl
          dsimp only at t0 t1
          refine bodyPost_ret (v := .tuple #[.agg #[.int .i64 (e + 1), .slice q6 (i + 4 + (n - (i + 1))) c6], .bool true]) (by simp [results, Try.results15, go_sem, t0, t1]) rfl ⟨q6, i + 4 + (n - (i + 1)), c6, rfl, ?_⟩
          rw [← List.append_assoc]
          exact hx9.sub (List.Sublist.cons_cons _ (List.nil_sublist _))
end Go.Proofs.Ytamnmakegdnblaa.K.D
