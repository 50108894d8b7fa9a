/-
  Planted, the spec's: its leaves.
-/
import Derived.Test.YtipfcmfcdfofmaaGreatS1
import Derived.Test.YtipfcmfcdfofmaaGreatS2
import Derived.Test.YtipfcmfcdfofmaaGreatPL
namespace Go.Proofs.YtipfcmfcdfofmaaGreat
open Go.RowKit Go.Joins
attribute [local go_sem] Oper.semAt_some

theorem l1Around_t {a b c : T4} (ha : a.ok = true) (hb : b.ok = true) (hc : aro a b = c) (w : World) :
    Calls Tryz.prog 50 #[.agg #[.int .i64 a.x, .int .i64 a.y, .int .i64 a.w, .int .i64 a.h], .agg #[.int .i64 b.x, .int .i64 b.y, .int .i64 b.w, .int .i64 b.h]] w fun e w' => e = .returned (.agg #[.int .i64 c.x, .int .i64 c.y, .int .i64 c.w, .int .i64 c.h]) ∧ Below w.heap.size w w' := by
  refine (sl1Around_any a.x a.y a.w a.h b.x b.y b.w b.h w ha hb).mono ?_
  rintro e w' ⟨rfl, h⟩
  subst hc
  exact ⟨rfl, h⟩
def partsR (NL : List (Nd × Sv)) : List Rw := NL.map fun p => rG kI p.2.v p.1.ps
/-- The rows while a tree is planted. -/
def plR (tn : Sv) (NL : List (Nd × Sv)) (v5 : Value) (rw : List Int) (rS : Rw) (bt : Nat) (tm : Sv) (R : List Rw) : List Rw := rG kN tn.v NL :: rG kI v5 rw :: rS :: rG kT (.slice (some ⟨bt, 0, none⟩) 1 1) [(tm, tn)] :: (partsR NL ++ R)
theorem pl_snoc {w W : World} {v : Value} {NL : List (Nd × Sv)} {nd : Nd} {s : Sv} {X a b c : Rw} {R : List Rw} (h : Sg w W (rG kI s.v nd.ps :: X :: rG kN v (NL ++ [(nd, s)]) :: a :: b :: c :: (partsR NL ++ R))) : Sg w W (rG kN v (NL ++ [(nd, s)]) :: a :: b :: c :: (partsR (NL ++ [(nd, s)]) ++ R)) := by
  have h1 := h.sub (rs' := rG kI s.v nd.ps :: rG kN v (NL ++ [(nd, s)]) :: a :: b :: c :: (partsR NL ++ R)) (by simp)
  refine h1.perm ?_
  have e : partsR (NL ++ [(nd, s)]) = partsR NL ++ [rG kI s.v nd.ps] := by simp [partsR]
  rw [e, List.append_assoc]
  generalize rG kI s.v nd.ps = x
  generalize rG kN v (NL ++ [(nd, s)]) = y
  have e2 : y :: a :: b :: c :: (partsR NL ++ ([x] ++ R)) = (y :: a :: b :: c :: partsR NL) ++ x :: R := by simp
  have e3 : x :: y :: a :: b :: c :: (partsR NL ++ R) = x :: ((y :: a :: b :: c :: partsR NL) ++ R) := by simp
  rw [e2, e3]
  exact List.perm_middle.symm
theorem upto0_succ (k : Nat) : upto 0 (k + 1) = upto 0 k ++ [(k : Int)] := by rw [upto_succ]; simp
theorem leafN_of {C : List Mk} {a0 : Mk} (h : C[0]? = some a0) : leafN C = ⟨boxF (uni a0) (C.map uni), true, C.map Mk.i⟩ := by
  have : (C.map uni).getD 0 zt4 = uni a0 := by simp [List.getD, h]
  unfold leafN boxL; rw [this]
theorem drop_at {S : List Mk} {i e : Nat} {a : Mk} (h : S[i + e]? = some a) (he : e < 4) : ((S.drop i).take 4)[e]? = some a := by
  rw [List.getElem?_take_of_lt he, List.getElem?_drop]; exact h

set_option maxRecDepth 100000 in
set_option maxHeartbeats 8000000 in
theorem sPlanted_any (ad : Addr) (cap : Nat) (L : List Mk) (m : Nat) (hm : L.length = m) (hb : m ≤ 10000000) (w : World) (hL : SlG kM w (some ad) L) {M : List Mk} {ts : List Nd} (hM : plM L = M) (hts : plN L = ts) :
    Calls Tryz.prog 15 #[.slice (some ad) m cap] w fun e w' => ∃ q c q2 c2 NL, e = .returned (.agg #[.slice q M.length c, .slice q2 ts.length c2]) ∧ NL.map Prod.fst = ts ∧ Sg w w' (treeR (.slice q M.length c) (.slice q2 ts.length c2) M NL) := by
  have hS0 := (Sg.nil w).lit kT [(⟨none, 0, 0⟩, ⟨none, 0, 0⟩)] 1 rfl (by decide) #[.slice none 0 0, .slice none 0 0] rfl
  have hb0 := below_alloc1 w (.cells #[.slice none 0 0, .slice none 0 0] 28)
  cases hv : mksB L
  · have e1 : M = [] := by rw [← hM]; simp [plM, hv]
    have e2 : ts = [] := by rw [← hts]; simp [plN, hv]
    subst e1 e2
    have HAM : Hid (∀ W, Below w.heap.size w W → Calls Tryz.prog 48 #[.slice (some ad) m cap] W fun e w' => e = .returned (.bool false) ∧ Below W.heap.size W w') := fun W h => l8Marks_v hv (some ad) cap m hm W (hL.step h) hb
    clear hM hts hL
    go_enter Tryz.func15, Tryz.ntmps15
    go_wp2_with (go_at_call 48; refine (HAM.out _ hb0).mono ?_; rintro e w1 ⟨rfl, hb2⟩; have hS1 := hS0.step hb2; obtain ⟨t0, t1, tf, tg⟩ := hS1.two (K := kT) (g := w.heap.size) (c := 1) (p := (⟨none, 0, 0⟩, ⟨none, 0, 0⟩)) (by simp) rfl)
    have hS2 := ((Sg.setT (A := []) hS1 (⟨none, 0, 0⟩, ⟨none, 0, 0⟩)).sub (List.nil_sublist _)).nilRow kN |>.nilRow kM
    refine bodyPost_ret (v := .agg #[.slice none 0 0, .slice none 0 0]) (by simp [results, Tryz.results15, go_sem, t0, t1]) rfl ⟨none, 0, none, 0, [], rfl, rfl, ?_⟩
    exact hS2
  · have e1 : M = L := by rw [← hM]; simp [plM, hv]
    have e2 : nodesOf (srtM fO L) = ts := by rw [← hts]; simp [plN, hv]
    subst e1
    have hmk : M.length ≤ 60 ∧ mkR 0 M = true := by simpa [mksB] using hv
    obtain ⟨hall, hpw⟩ := mkR_all hmk.2
    have h60 : m ≤ 60 := by omega
    have hsok : ∀ c ∈ M, spB c.x c.y = true := fun c hc => (hall c hc).2.2
    rw [hm]
    have HAM : Hid (∀ W, Below w.heap.size w W → Calls Tryz.prog 48 #[.slice (some ad) m cap] W fun e w' => e = .returned (.bool true) ∧ Below W.heap.size W w') := fun W h => l8Marks_v hv (some ad) cap m hm W (hL.step h) hb
    have HSO : Hid (∀ W, Below w.heap.size w W → Calls Tryz.prog 49 #[.slice (some ad) m cap] W fun e w' => ∃ q c, e = .returned (.slice (some ⟨q, 0, none⟩) m c) ∧ Sg W w' [rG kM (.slice (some ⟨q, 0, none⟩) m c) (srtM fO M)]) := fun W h => l8Sorted_any (some ad) cap M m hm W (hL.step h) (by omega) hsok
    have HSR : Hid (∀ W, Below w.heap.size w W → ∀ j u, (kM.flat M)[j]? = some u → W.cell? (ad.add j) = some u) := fun W h => by
      rcases hL.step h with h | ⟨g, off, h, hC⟩
      · subst h; intro j u hj; simp [Kd.flat] at hj
      · injection h with h
        subst h
        exact cs_src hC
    have hSl : (srtM fO M).length = m := by rw [srtM_len]; exact hm
    have hSo : ∀ c ∈ srtM fO M, spB c.x c.y = true := fun c hc => hsok c ((srtM_perm M).mem_iff.mp hc)
    have HT : Hid (grow (leafs (srtM fO M)) 0 = ts) := e2
    generalize srtM fO M = S at HSO hSl hSo HT
    have HLO : Hid (∀ nd ∈ leafs S, nd.b.ok = true) := leafs_ok hSo
    have HS : Hid (S.length = m ∧ ∀ c ∈ S, spB c.x c.y = true) := ⟨hSl, hSo⟩
    have HML : Hid (M.length = m) := hm
    clear hM hts hL hv e2 hm hmk hall hpw hsok hSl hSo
    go_enter Tryz.func15, Tryz.ntmps15
    go_wp2_with (first
      | (go_at_call 48; refine (HAM.out _ hb0).mono ?_; rintro e w1 ⟨rfl, hb2⟩; have hS1 : Sg w (w1.alloc (.cells #[] 45)) ([] ++ rG kM (.slice (some ⟨w1.heap.size, 0, none⟩) 0 0) [] :: [rG kT (.slice (some ⟨w.heap.size, 0, none⟩) 1 1) [(⟨none, 0, 0⟩, ⟨none, 0, 0⟩)]]) := (hS0.step hb2).lit kM [] 0 rfl (by decide) #[] rfl)
      | (at_builtin; refine wpList_sgapp0 appM rfl _ _ rfl (A := []) (B := M) (m := m) hS1 (Below.refl _ _) HML.out rfl ad cap rfl (HSR.out _ hS1.bel) (oneM _) (.inr (by simp)) (by omega) ?_; intro gm cm w2 hS2 _ _; have hS3 := hS2.lit kT [(⟨some ⟨gm, 0, none⟩, m, cm⟩, ⟨none, 0, 0⟩)] 1 rfl (by decide) #[.slice (some ⟨gm, 0, none⟩) m cm, .slice none 0 0] rfl)
      | (go_at_call 49; refine (HSO.out _ hS3.bel).mono ?_; rintro e w3 ⟨gs, cs, rfl, h4⟩; have hS4 := hS3.addL h4))
    have hS5 : Sg w (w3.alloc (.cells #[] 2)) (plR ⟨none, 0, 0⟩ [] (.slice (some ⟨w3.heap.size, 0, none⟩) 0 0) [] (rG kM (.slice (some ⟨gs, 0, none⟩) m cs) S) w2.heap.size ⟨some ⟨gm, 0, none⟩, m, cm⟩ [rG kM (.slice (some ⟨gm, 0, none⟩) m cm) M, rG kT (.slice (some ⟨w.heap.size, 0, none⟩) 1 1) [(⟨none, 0, 0⟩, ⟨none, 0, 0⟩)]]) := (hS4.lit kI [] 0 rfl (by decide) #[] rfl).nilRow kN
    obtain ⟨bt, hbt⟩ : ∃ b, w2.heap.size = b := ⟨_, rfl⟩
    rw [hbt] at hS5 ⊢
    obtain ⟨tm, htm⟩ : ∃ t : Sv, t = ⟨some ⟨gm, 0, none⟩, m, cm⟩ := ⟨_, rfl⟩
    obtain ⟨R, hR⟩ : ∃ R, R = [rG kM (.slice (some ⟨gm, 0, none⟩) m cm) M, rG kT (.slice (some ⟨w.heap.size, 0, none⟩) 1 1) [(⟨none, 0, 0⟩, ⟨none, 0, 0⟩)]] := ⟨_, rfl⟩
    rw [← htm, ← hR] at hS5
    have HTM : Hid (tm = ⟨some ⟨gm, 0, none⟩, m, cm⟩ ∧ R = [rG kM (.slice (some ⟨gm, 0, none⟩) m cm) M, rG kT (.slice (some ⟨w.heap.size, 0, none⟩) 1 1) [(⟨none, 0, 0⟩, ⟨none, 0, 0⟩)]]) := ⟨htm, hR⟩
    clear hS4 h4 hS3 hS2 hS1 hS0 hb2 hb0 hbt htm hR HAM HSO HSR
    go_loopw [5, 6] (fun v5 iv wr => ∃ (j i : Nat) (q5 : Option Addr) (c5 : Nat) (q : Option Addr) (c : Nat) (NL : List (Nd × Sv)), v5 = .slice q5 j c5 ∧ iv = .int .i64 i ∧ Hid (i = 4 * j ∧ j ≤ cnt m ∧ NL.map Prod.fst = (leafs S).take j ∧ NL.length = j) ∧ Sg w wr (plR ⟨q, j, c⟩ NL (.slice q5 j c5) (upto 0 j) (rG kM (.slice (some ⟨gs, 0, none⟩) m cs) S) bt tm R)) (fun _ iv _ => m + 4 - (intOf iv).toNat)
    case atStart => exact ⟨0, 0, _, _, none, 0, [], rfl, rfl, ⟨rfl, Nat.zero_le _, by simp, rfl⟩, hS5⟩
    case round =>
      clear hS5
      rename World => wo
      obtain ⟨j, i, q5, c5, q, c, NL, rfl, rfl, hJ, hS⟩ := hrel
      by_cases hlt : i < m
      · have hii : (i : Int) < m := by omega
        have hiS : i < S.length := by rw [HS.out.1]; exact hlt
        have hjc : j < cnt m := by have := hJ.out; unfold cnt; omega
        have hCS : CsG kM wo gs 0 S := OwG.cs (hS.mem (K := kM) (v := .slice (some ⟨gs, 0, none⟩) m cs) (L := S) (by simp [plR]))
        have hx := hCS.mk (getM hiS)
        simp only [Nat.zero_add] at hx
        obtain ⟨x0, x1, x2⟩ := hx
        have hgl := hCS.1
        obtain ⟨a0, ha0⟩ : ∃ a, S.getD i zmk = a := ⟨_, rfl⟩
        rw [ha0] at x0 x1 x2
        have hfour : four S 0 j = (S.drop i).take 4 := by unfold four; rw [hJ.out.1, Nat.zero_add]
        obtain ⟨C, hC⟩ : ∃ C, (S.drop i).take 4 = C := ⟨_, rfl⟩
        rw [hC] at hfour
        have hCl : C.length = min 4 (m - i) := by rw [← hC]; simp [HS.out.1]
        have hC0 : C[0]? = some a0 := by rw [← hC]; exact drop_at (e := 0) (by rw [Nat.add_zero, getM hiS, ha0]) (by decide)
        have hCo : ∀ b ∈ C, spB b.x b.y = true := fun b hb => HS.out.2 b (by rw [← hC] at hb; exact List.mem_of_mem_drop (List.mem_of_mem_take hb))
        have HC : Hid (four S 0 j = C ∧ C.length = min 4 (m - i) ∧ C[0]? = some a0 ∧ (∀ b ∈ C, spB b.x b.y = true) ∧ (S.drop i).take 4 = C) := ⟨hfour, hCl, hC0, hCo, hC⟩
        clear hfour hCl hC0 hCo hC ha0 hCS hiS
        go_wp2
        go_cut [7] from 30 to 43 (fun s7 wx => ∃ b7 : Nat, s7 = .pointer (some ⟨b7, 0, none⟩) ∧ Sg w wx (rG kN (.slice (some ⟨b7, 0, none⟩) 1 1) [(⟨uni a0, true, []⟩, ⟨none, 0, 0⟩)] :: plR ⟨q, j, c⟩ NL (.slice q5 j c5) (upto 0 j) (rG kM (.slice (some ⟨gs, 0, none⟩) m cs) S) bt tm R))
        case first =>
          go_region_with (fail)
          all_goals
            go_wp2
            go_meet
            exact ⟨_, rfl, (hS.lit kN [(⟨uni a0, true, []⟩, ⟨none, 0, 0⟩)] 1 rfl (by decide) #[.int .i64 a0.x, .int .i64 a0.y, .int .i64 1, .int .i64 1, .bool true, .slice none 0 0] rfl).step (Below.refl _ _).drew⟩
        case rest =>
          obtain ⟨b7, rfl, hSc⟩ := hcut
          have hS6 := hSc.nilRow kI
          clear hS hSc x0 x1 x2 hgl
          go_wp2
          go_loopw [8] (fun kv wr => ∃ (e k : Nat) (q7 : Option Addr) (c7 : Nat), kv = .int .i64 k ∧ Hid (k = i + e ∧ e ≤ C.length) ∧ Sg w wr (rG kI (.slice q7 e c7) ((C.take e).map Mk.i) :: rG kN (.slice (some ⟨b7, 0, none⟩) 1 1) [(⟨boxF (uni a0) ((C.map uni).take e), true, []⟩, ⟨q7, e, c7⟩)] :: plR ⟨q, j, c⟩ NL (.slice q5 j c5) (upto 0 j) (rG kM (.slice (some ⟨gs, 0, none⟩) m cs) S) bt tm R)) (fun kv _ => m + 4 - (intOf kv).toNat)
          case atStart => exact ⟨0, i, none, 0, rfl, ⟨rfl, Nat.zero_le _⟩, by simpa [boxF] using hS6⟩
          case round =>
            clear hS6
            obtain ⟨e, k, q7, c7, rfl, hE, hSk⟩ := hrel
            by_cases hcon : k < m ∧ k < i + 4
            · obtain ⟨h1, h2⟩ := hcon
              have h1i : (k : Int) < m := by omega
              have h2i : (k : Int) < (i : Int) + 4 := by omega
              have heC : e < C.length := by have a := hE.out; have b := HC.out.2.1; omega
              have hkS : k < S.length := by rw [HS.out.1]; exact h1
              have hgk := getM hkS
              have hck : C[e]? = some (S.getD k zmk) := by
                have a := HC.out.2.2.2.2; rw [← a]
                exact drop_at (by rw [← hE.out.1]; exact hgk) (by have b := HC.out.2.1; omega)
              obtain ⟨a, ha⟩ : ∃ a, S.getD k zmk = a := ⟨_, rfl⟩
              rw [ha] at hgk hck
              have hbt := boxF_take (b0 := uni a0) (L := C.map uni) (k := e) (a := uni a) (by rw [List.getElem?_map, hck]; rfl)
              have hit := take_map Mk.i hck
              have hok0 : (uni a0).ok = true := uni_ok (HC.out.2.2.2.1 a0 (List.mem_of_getElem? HC.out.2.2.1))
              have hbk : (boxF (uni a0) ((C.map uni).take e)).ok = true := boxF_ok hok0 fun t ht => by
                obtain ⟨b, hb, rfl⟩ := List.mem_map.mp (List.mem_of_mem_take ht)
                exact uni_ok (HC.out.2.2.2.1 b hb)
              have hua : (uni a).ok = true := uni_ok (HC.out.2.2.2.1 a (List.mem_of_getElem? hck))
              obtain ⟨bk, hbv⟩ : ∃ b, boxF (uni a0) ((C.map uni).take e) = b := ⟨_, rfl⟩
              rw [hbv] at hbk hbt hSk
              obtain ⟨b2, hbv2⟩ : ∃ b, aro bk (uni a) = b := ⟨_, rfl⟩
              rw [hbv2] at hbt
              have HA : Hid (∀ w, Calls Tryz.prog 50 #[.agg #[.int .i64 bk.x, .int .i64 bk.y, .int .i64 bk.w, .int .i64 bk.h], .agg #[.int .i64 a.x, .int .i64 a.y, .int .i64 1, .int .i64 1]] w fun e w' => e = .returned (.agg #[.int .i64 b2.x, .int .i64 b2.y, .int .i64 b2.w, .int .i64 b2.h]) ∧ Below w.heap.size w w') := fun w => l1Around_t hbk hua hbv2 w
              have HB : Hid (boxF (uni a0) ((C.map uni).take (e + 1)) = b2 ∧ (C.take (e + 1)).map Mk.i = (C.take e).map Mk.i ++ [a.i] ∧ ((C.take e).map Mk.i).length = e ∧ e < C.length) := ⟨hbt, hit, by simp; omega, heC⟩
              have HX : Hid (∀ W rs, Sg w W rs → rG kM (.slice (some ⟨gs, 0, none⟩) m cs) S ∈ rs → W.cell? ⟨gs, k * 3, none⟩ = some (.int .i64 a.i) ∧ W.cell? ⟨gs, k * 3 + 1, none⟩ = some (.int .i64 a.x) ∧ W.cell? ⟨gs, k * 3 + 2, none⟩ = some (.int .i64 a.y) ∧ gs < W.heap.size) := fun W rs h hm => by
                have hC := OwG.cs (h.mem (K := kM) hm)
                have := hC.mk hgk
                simp only [Nat.zero_add] at this
                exact ⟨this.1, this.2.1, this.2.2, hC.1⟩
              generalize hPS : (C.take e).map Mk.i = PS at hSk HB
              clear hbt hit hbk hua hbv hbv2 hck hgk ha hkS heC hok0 hPS
              obtain ⟨y0, y1, y2, yg⟩ := HX.out _ _ hSk (by simp [plR])
              obtain ⟨⟨n0, n1, n2, n3, n4, n5⟩, nf, ng⟩ := hSk.nd1 (g := b7) (c := 1) (p := (⟨bk, true, []⟩, ⟨q7, e, c7⟩)) (by simp)
              simp only at n0 n1 n2 n3 n4 n5
              go_wp2
              go_cut [] from 57 to 73 (fun wx => Sg w wx (rG kI (.slice q7 e c7) PS :: rG kN (.slice (some ⟨b7, 0, none⟩) 1 1) [(⟨b2, true, []⟩, ⟨q7, e, c7⟩)] :: plR ⟨q, j, c⟩ NL (.slice q5 j c5) (upto 0 j) (rG kM (.slice (some ⟨gs, 0, none⟩) m cs) S) bt tm R))
              case first =>
                go_region_with (go_at_call 50; refine (HA.out _).mono ?_; rintro ee w1 ⟨rfl, hb2⟩; have hS1 := (hSk.step (Below.refl _ _).drew).step hb2; clear n0 n1 n2 n3 n4 n5 nf ng; obtain ⟨⟨n0, n1, n2, n3, n4, n5⟩, nf, ng⟩ := hS1.nd1 (g := b7) (c := 1) (p := (⟨bk, true, []⟩, ⟨q7, e, c7⟩)) (by simp); simp only at n0 n1 n2 n3 n4 n5)
                all_goals
                  go_wp2
                  go_meet
                  exact Sg.setBox (A := [_]) hS1 b2
              case rest =>
                have hS2 := hcut
                clear hSk y0 y1 y2 yg n0 n1 n2 n3 n4 n5 nf ng HA
                obtain ⟨y0, y1, y2, yg⟩ := HX.out _ _ hS2 (by simp [plR])
                obtain ⟨⟨n0, n1, n2, n3, n4, n5⟩, nf, ng⟩ := hS2.nd1 (g := b7) (c := 1) (p := (⟨b2, true, []⟩, ⟨q7, e, c7⟩)) (by simp)
                simp only at n0 n1 n2 n3 n4 n5
                go_wp2
                go_region_law (refine step_sgapp appI (by rfl) _ _ (by rfl) (A := []) (B := [a.i]) (n := e) (m := 1) hS2 ((below_alloc1 _ _).drew) HB.out.2.2.1 rfl (by rfl) ⟨wc.heap.size, 0, none⟩ 1 (by rfl) (fun j u hj => lit_src (W := wc) (xs := [.int .i64 a.i]) (t := 2) rfl j u hj) (oneI _) (.inl (by decide)) (by have := HB.out.2.2.2; have := HC.out.2.1; omega) ?_; intro g' cap' w4 hS4 _ _; clear n0 n1 n2 n3 n4 n5 nf ng; obtain ⟨⟨n0, n1, n2, n3, n4, n5⟩, nf, ng⟩ := hS4.nd1 (g := b7) (c := 1) (p := (⟨b2, true, []⟩, ⟨q7, e, c7⟩)) (by simp); simp only at n0 n1 n2 n3 n4 n5)
                all_goals
                  try simp only [List.getElem_toArray, List.getElem_cons_succ, List.getElem_cons_zero, Act.put, List.setIfInBounds_toArray, List.set_cons_succ, List.set_cons_zero]
                  go_wp2
                  go_roundw
                  case rel =>
                    refine ⟨e + 1, k + 1, some ⟨g', 0, none⟩, cap', by go_num, ⟨by have := hE.out.1; omega, HB.out.2.2.2⟩, ?_⟩
                    rw [HB.out.1, HB.out.2.1]; exact Sg.setPart (A := [_]) hS4 ⟨some ⟨g', 0, none⟩, e + 1, cap'⟩
                  case measure => simp [intOf]; omega
            · have heC : e = C.length := by have a := hE.out; have b := HC.out.2.1; omega
              subst heC
              have e1 : (C.map uni).take C.length = C.map uni := List.take_of_length_le (by simp)
              rw [List.take_length, e1] at hSk
              have hlf := leafN_of HC.out.2.2.1
              have hpl : C.length ≤ 4 := by have b := HC.out.2.1; omega
              obtain ⟨nb, hnb⟩ : ∃ b, boxF (uni a0) (C.map uni) = b := ⟨_, rfl⟩
              rw [hnb] at hSk hlf
              obtain ⟨el, hel⟩ : ∃ e, C.length = e := ⟨_, rfl⟩
              have HLF : Hid (leafN C = ⟨nb, true, C.map Mk.i⟩ ∧ C.length = el) := ⟨hlf, hel⟩
              have hkk : k = i + el := by rw [← hel]; exact hE.out.1
              rw [hel] at hSk hpl
              obtain ⟨u0, u1, uf, ug⟩ := hSk.two (K := kT) (g := bt) (c := 1) (p := (tm, ⟨q, j, c⟩)) (by simp [plR]) rfl
              obtain ⟨⟨n0, n1, n2, n3, n4, n5⟩, nf, ng⟩ := hSk.nd1 (g := b7) (c := 1) (p := (⟨nb, true, []⟩, ⟨q7, el, c7⟩)) (by simp)
              simp only at n0 n1 n2 n3 n4 n5 u0 u1
              have hj15 : j ≤ 15 := by have := hJ.out.2.1; unfold cnt at this; omega
              have HJL : Hid ((upto 0 j).length = j ∧ NL.length = j) := ⟨upto_len _ _, hJ.out.2.2.2⟩
              clear hlf hel hnb e1 hE
              have hSk' : Sg w wr ([rG kI (.slice q7 el c7) (C.map Mk.i), rG kN (.slice (some ⟨b7, 0, none⟩) 1 1) [(⟨nb, true, []⟩, ⟨q7, el, c7⟩)], rG kN (.slice q j c) NL] ++ rG kI (.slice q5 j c5) (upto 0 j) :: (rG kM (.slice (some ⟨gs, 0, none⟩) m cs) S :: rG kT (.slice (some ⟨bt, 0, none⟩) 1 1) [(tm, ⟨q, j, c⟩)] :: (partsR NL ++ R))) := hSk
              by_cases h1 : k < m
              · have h1i : (k : Int) < m := by omega
                have h2i : ¬ (k : Int) < (i : Int) + 4 := by omega
                go_wp2_with (first
                  | (at_builtin; refine wpList_sgapp appI rfl _ _ rfl (B := [(j : Int)]) (n := j) (m := 1) hSk' (below_alloc1 _ _) HJL.out.1 rfl rfl ⟨wr.heap.size, 0, none⟩ 1 rfl (lit_src (xs := [.int .i64 (j : Int)]) rfl) (oneI _) (.inl (by decide)) (by omega) ?_; intro g9 c9 w9 hS9 _ _; clear n0 n1 n2 n3 n4 n5 nf ng u0 u1 uf ug hSk'; obtain ⟨u0, u1, uf, ug⟩ := hS9.two (K := kT) (g := bt) (c := 1) (p := (tm, ⟨q, j, c⟩)) (by simp) rfl; obtain ⟨⟨n0, n1, n2, n3, n4, n5⟩, nf, ng⟩ := hS9.nd1 (g := b7) (c := 1) (p := (⟨nb, true, []⟩, ⟨q7, el, c7⟩)) (by simp); simp only at n0 n1 n2 n3 n4 n5 u0 u1; have hS9' : Sg w w9 ([rG kI (.slice q7 el c7) (C.map Mk.i), rG kN (.slice (some ⟨b7, 0, none⟩) 1 1) [(⟨nb, true, []⟩, ⟨q7, el, c7⟩)]] ++ rG kN (.slice q j c) NL :: (rG kI (.slice (some ⟨g9, 0, none⟩) (j + 1) c9) (upto 0 j ++ [(j : Int)]) :: rG kM (.slice (some ⟨gs, 0, none⟩) m cs) S :: rG kT (.slice (some ⟨bt, 0, none⟩) 1 1) [(tm, ⟨q, j, c⟩)] :: (partsR NL ++ R))) := hS9)
                  | (at_builtin; refine wpList_sgapp appN rfl _ _ rfl (B := [(⟨nb, true, C.map Mk.i⟩, ⟨q7, el, c7⟩)]) (n := j) (m := 1) hS9' (below_alloc1 _ _) HJL.out.2 rfl rfl ⟨w9.heap.size, 0, none⟩ 1 rfl (lit_src (xs := [.int .i64 nb.x, .int .i64 nb.y, .int .i64 nb.w, .int .i64 nb.h, .bool true, .slice q7 el c7]) rfl) (oneN _) (.inl (by decide)) (by omega) ?_; intro g10 c10 w10 hS10 _ _; clear u0 u1 uf ug; obtain ⟨u0, u1, uf, ug⟩ := hS10.two (K := kT) (g := bt) (c := 1) (p := (tm, ⟨q, j, c⟩)) (by simp) rfl; simp only at u0 u1))
                have hS11 := Sg.setT1 (A := [_, _, _, _, _]) hS10 ⟨some ⟨g10, 0, none⟩, j + 1, c10⟩
                have hS12 := pl_snoc (nd := ⟨nb, true, C.map Mk.i⟩) (s := ⟨q7, el, c7⟩) hS11
                refine ⟨⟨j + 1, i + 4, some ⟨g9, 0, none⟩, c9, some ⟨g10, 0, none⟩, c10, NL ++ [(⟨nb, true, C.map Mk.i⟩, ⟨q7, el, c7⟩)], rfl, by go_num, ⟨?_, ?_, ?_, ?_⟩, ?_⟩, by simp [intOf]; omega⟩
                · have := hJ.out.1; omega
                · omega
                · rw [List.map_append, hJ.out.2.2.1, take_getNd (by rw [leafs_len, HS.out.1]; exact hjc), getD_leafs (by rw [HS.out.1]; exact hjc), HC.out.1, HLF.out.1]; rfl
                · simp [HJL.out.2]
                · rw [upto0_succ]; exact hS12
              · have h1i : ¬ (k : Int) < m := by omega
                go_wp2_with (first
                  | (at_builtin; refine wpList_sgapp appI rfl _ _ rfl (B := [(j : Int)]) (n := j) (m := 1) hSk' (below_alloc1 _ _) HJL.out.1 rfl rfl ⟨wr.heap.size, 0, none⟩ 1 rfl (lit_src (xs := [.int .i64 (j : Int)]) rfl) (oneI _) (.inl (by decide)) (by omega) ?_; intro g9 c9 w9 hS9 _ _; clear n0 n1 n2 n3 n4 n5 nf ng u0 u1 uf ug hSk'; obtain ⟨u0, u1, uf, ug⟩ := hS9.two (K := kT) (g := bt) (c := 1) (p := (tm, ⟨q, j, c⟩)) (by simp) rfl; obtain ⟨⟨n0, n1, n2, n3, n4, n5⟩, nf, ng⟩ := hS9.nd1 (g := b7) (c := 1) (p := (⟨nb, true, []⟩, ⟨q7, el, c7⟩)) (by simp); simp only at n0 n1 n2 n3 n4 n5 u0 u1; have hS9' : Sg w w9 ([rG kI (.slice q7 el c7) (C.map Mk.i), rG kN (.slice (some ⟨b7, 0, none⟩) 1 1) [(⟨nb, true, []⟩, ⟨q7, el, c7⟩)]] ++ rG kN (.slice q j c) NL :: (rG kI (.slice (some ⟨g9, 0, none⟩) (j + 1) c9) (upto 0 j ++ [(j : Int)]) :: rG kM (.slice (some ⟨gs, 0, none⟩) m cs) S :: rG kT (.slice (some ⟨bt, 0, none⟩) 1 1) [(tm, ⟨q, j, c⟩)] :: (partsR NL ++ R))) := hS9)
                  | (at_builtin; refine wpList_sgapp appN rfl _ _ rfl (B := [(⟨nb, true, C.map Mk.i⟩, ⟨q7, el, c7⟩)]) (n := j) (m := 1) hS9' (below_alloc1 _ _) HJL.out.2 rfl rfl ⟨w9.heap.size, 0, none⟩ 1 rfl (lit_src (xs := [.int .i64 nb.x, .int .i64 nb.y, .int .i64 nb.w, .int .i64 nb.h, .bool true, .slice q7 el c7]) rfl) (oneN _) (.inl (by decide)) (by omega) ?_; intro g10 c10 w10 hS10 _ _; clear u0 u1 uf ug; obtain ⟨u0, u1, uf, ug⟩ := hS10.two (K := kT) (g := bt) (c := 1) (p := (tm, ⟨q, j, c⟩)) (by simp) rfl; simp only at u0 u1))
                have hS11 := Sg.setT1 (A := [_, _, _, _, _]) hS10 ⟨some ⟨g10, 0, none⟩, j + 1, c10⟩
                have hS12 := pl_snoc (nd := ⟨nb, true, C.map Mk.i⟩) (s := ⟨q7, el, c7⟩) hS11
                refine ⟨⟨j + 1, i + 4, some ⟨g9, 0, none⟩, c9, some ⟨g10, 0, none⟩, c10, NL ++ [(⟨nb, true, C.map Mk.i⟩, ⟨q7, el, c7⟩)], rfl, by go_num, ⟨?_, ?_, ?_, ?_⟩, ?_⟩, by simp [intOf]; omega⟩
                · have := hJ.out.1; omega
                · omega
                · rw [List.map_append, hJ.out.2.2.1, take_getNd (by rw [leafs_len, HS.out.1]; exact hjc), getD_leafs (by rw [HS.out.1]; exact hjc), HC.out.1, HLF.out.1]; rfl
                · simp [HJL.out.2]
                · rw [upto0_succ]; exact hS12
      · have hjm : j = cnt m := by have := hJ.out; unfold cnt at this ⊢; omega
        have hii : ¬ (i : Int) < m := by omega
        have HN : Hid (NL.map Prod.fst = leafs S ∧ NL.length = j ∧ cnt m = j) := ⟨by rw [hJ.out.2.2.1, hjm]; exact List.take_of_length_le (by rw [leafs_len, HS.out.1]; exact Nat.le_refl _), hJ.out.2.2.2, hjm.symm⟩
        clear hJ hjm
        go_wp2
        clear HS
        have hS5 : ∃ X, Sg w wo (plR ⟨q, j, c⟩ NL (.slice q5 j c5) (upto 0 j) X bt tm R) := ⟨_, hS⟩
        have HG0 : Hid (grow (NL.map Prod.fst) 0 = ts ∧ NL.length = j ∧ ∀ nd ∈ NL.map Prod.fst, nd.b.ok = true) := ⟨by rw [HN.out.1]; exact HT.out, HN.out.2.1, by rw [HN.out.1]; exact HLO.out⟩
        have hj15 : j ≤ 15 := by have := HN.out.2.2; unfold cnt at this; omega
        clear HN hS HT HLO hlt hii
        go_loopw [5] (fun v5 wr => ∃ (fr r : Nat) (q5 : Option Addr) (c5 : Nat) (q : Option Addr) (c : Nat) (NL : List (Nd × Sv)) (X : Rw), v5 = .slice q5 r c5 ∧ fr + r + r ≤ 30 ∧ Hid (grow (NL.map Prod.fst) fr = ts ∧ NL.length = fr + r ∧ ∀ nd ∈ NL.map Prod.fst, nd.b.ok = true) ∧ Sg w wr (plR ⟨q, fr + r, c⟩ NL (.slice q5 r c5) (upto fr r) X bt tm R)) (fun v5 _ => lenV v5)
        case atStart =>
          obtain ⟨X, hS5⟩ := hS5
          refine ⟨0, j, q5, c5, q, c, NL, X, rfl, by omega, ⟨HG0.out.1, by rw [HG0.out.2.1]; omega, HG0.out.2.2⟩, ?_⟩
          rw [Nat.zero_add]; exact hS5
        case round =>
          clear hS5 HG0 hj15
          rename World => wb
          obtain ⟨fr, r, q5, c5, q, c, NL, X, rfl, h30, hG, hS⟩ := hrel
          by_cases hr1 : 1 < r
          · have hr1i : (1 : Int) < r := by omega
            obtain ⟨ns, hns⟩ : ∃ ns, NL.map Prod.fst = ns := ⟨_, rfl⟩
            obtain ⟨g1, g2, g3⟩ := hG.out
            rw [hns] at g1 g3
            have hnsl : ns.length = fr + r := by rw [← hns]; simpa using g2
            rw [grow_on (by rw [hnsl]; omega), hnsl] at g1
            have hrl : (rowUp ns fr).length = cnt r := by rw [rowUp_len, hnsl, show fr + r - fr = r by omega]
            have HG : Hid (grow (ns ++ rowUp ns fr) (fr + r) = ts ∧ ns.length = fr + r ∧ (∀ nd ∈ ns, nd.b.ok = true) ∧ (rowUp ns fr).length = cnt r) := ⟨g1, hnsl, g3, hrl⟩
            obtain ⟨g5, hq5⟩ : ∃ g5, q5 = some ⟨g5, 0, none⟩ := by
              have ho := hS.mem (K := kI) (v := .slice q5 r c5) (L := upto fr r) (by simp [plR])
              obtain ⟨g, off, rfl, _⟩ := (OwG.sl ho).at (k := 0) (by rw [upto_len]; omega)
              have hz := OwG.zero ho
              subst hz
              exact ⟨g, rfl⟩
            subst hq5
            have hS6 : Sg w (wb.alloc (.cells #[] 2)) (plR ⟨q, fr + r + 0, c⟩ NL (.slice (some ⟨wb.heap.size, 0, none⟩) 0 0) (upto (fr + r) 0) (rG kI (.slice (some ⟨g5, 0, none⟩) r c5) (upto fr r)) bt tm R) := by
              have h1 := hS.lit kI [] 0 rfl (by decide) #[] rfl
              have h2 := h1.sub (rs' := rG kI (.slice (some ⟨wb.heap.size, 0, none⟩) 0 0) [] :: rG kN (.slice q (fr + r) c) NL :: rG kI (.slice (some ⟨g5, 0, none⟩) r c5) (upto fr r) :: rG kT (.slice (some ⟨bt, 0, none⟩) 1 1) [(tm, ⟨q, fr + r, c⟩)] :: (partsR NL ++ R)) (by simp [plR, Sv.v])
              exact h2.perm (List.Perm.swap _ _ _)
            have HN0 : Hid (NL.map Prod.fst = ns ++ (rowUp ns fr).take 0 ∧ NL.length = fr + r + 0) := ⟨by simp [hns], by omega⟩
            clear g1 g2 g3 hnsl hrl hns hG hS X
            go_wp2
            go_loopw [9, 10] (fun v9 iv wr => ∃ (j i : Nat) (q9 : Option Addr) (c9 : Nat) (q : Option Addr) (c : Nat) (NL : List (Nd × Sv)), v9 = .slice q9 j c9 ∧ iv = .int .i64 i ∧ Hid (i = 4 * j ∧ j ≤ cnt r ∧ NL.map Prod.fst = ns ++ (rowUp ns fr).take j ∧ NL.length = fr + r + j) ∧ Sg w wr (plR ⟨q, fr + r + j, c⟩ NL (.slice q9 j c9) (upto (fr + r) j) (rG kI (.slice (some ⟨g5, 0, none⟩) r c5) (upto fr r)) bt tm R)) (fun _ iv _ => r + 4 - (intOf iv).toNat)
            case atStart => exact ⟨0, 0, _, _, q, c, NL, rfl, rfl, ⟨rfl, Nat.zero_le _, HN0.out.1, HN0.out.2⟩, hS6⟩
            case round =>
              clear hS6 HN0
              rename World => wo
              obtain ⟨j, i, q9, c9, q, c, NL, rfl, rfl, hJ, hS⟩ := hrel
              by_cases hlt : i < r
              · have hii : (i : Int) < r := by omega
                have hjc : j < cnt r := by have := hJ.out; unfold cnt; omega
                have hj15 : j ≤ 15 := by unfold cnt at hjc; omega
                obtain ⟨gn, hqn⟩ : ∃ g, q = some ⟨g, 0, none⟩ := by
                  have ho := hS.mem (K := kN) (v := .slice q (fr + r + j) c) (L := NL) (by simp [plR, Sv.v])
                  obtain ⟨g, off, rfl, _⟩ := (OwG.sl ho).at (k := 0) (by rw [hJ.out.2.2.2]; omega)
                  have hz := OwG.zero ho
                  subst hz
                  exact ⟨g, rfl⟩
                subst hqn
                have hgn : ∀ e, e < r → ns[fr + e]? = some (ns.getD (fr + e) znd) := fun e he => getNd (by rw [HG.out.2.1]; omega)
                have hNLn : ∀ e, e < r → ∃ s, NL[fr + e]? = some (ns.getD (fr + e) znd, s) := fun e he => by
                  have h1 : (NL.map Prod.fst)[fr + e]? = some (ns.getD (fr + e) znd) := by rw [hJ.out.2.2.1, List.getElem?_append_left (by rw [HG.out.2.1]; omega)]; exact hgn e he
                  rw [List.getElem?_map] at h1
                  cases h2 : NL[fr + e]? with
                  | none => rw [h2] at h1; cases h1
                  | some p => rw [h2] at h1; injection h1 with h1; exact ⟨p.2, by rw [← h1]⟩
                have HX : Hid (∀ W rs, Sg w W rs → rG kI (.slice (some ⟨g5, 0, none⟩) r c5) (upto fr r) ∈ rs → rG kN (.slice (some ⟨gn, 0, none⟩) (fr + r + j) c) NL ∈ rs → ∀ e, e < r → W.cell? ⟨g5, e, none⟩ = some (.int .i64 ((fr : Int) + (e : Int))) ∧ (W.cell? ⟨gn, (fr + e) * 6, none⟩ = some (.int .i64 (ns.getD (fr + e) znd).b.x) ∧ W.cell? ⟨gn, (fr + e) * 6 + 1, none⟩ = some (.int .i64 (ns.getD (fr + e) znd).b.y) ∧ W.cell? ⟨gn, (fr + e) * 6 + 2, none⟩ = some (.int .i64 (ns.getD (fr + e) znd).b.w) ∧ W.cell? ⟨gn, (fr + e) * 6 + 3, none⟩ = some (.int .i64 (ns.getD (fr + e) znd).b.h)) ∧ g5 < W.heap.size ∧ gn < W.heap.size) := fun W rs h hm1 hm2 e he => by
                  have c1 := OwG.cs (h.mem (K := kI) hm1)
                  have c2 := OwG.cs (h.mem (K := kN) hm2)
                  obtain ⟨s, hs⟩ := hNLn e he
                  have d1 := c1.int (k := e) (n := (fr : Int) + (e : Int)) (by simp [upto, he])
                  have d2 := c2.nd hs
                  simp only [Nat.zero_add] at d1 d2
                  exact ⟨d1, ⟨d2.1, d2.2.1, d2.2.2.1, d2.2.2.2.1⟩, c1.1, c2.1⟩
                have hfour : four ns fr j = (ns.drop (fr + i)).take 4 := by unfold four; rw [hJ.out.1]
                obtain ⟨C, hC⟩ : ∃ C, (ns.drop (fr + i)).take 4 = C := ⟨_, rfl⟩
                rw [hC] at hfour
                have hCl : C.length = min 4 (r - i) := by rw [← hC]; simp [HG.out.2.1]; omega
                have hCe : ∀ e, e < 4 → i + e < r → C[e]? = some (ns.getD (fr + (i + e)) znd) := fun e he hr => by
                  rw [← hC, List.getElem?_take_of_lt he, List.getElem?_drop, Nat.add_assoc]; exact hgn (i + e) hr
                have hCo : ∀ b ∈ C, b.b.ok = true := fun b hb => HG.out.2.2.1 b (by rw [← hC] at hb; exact List.mem_of_mem_drop (List.mem_of_mem_take hb))
                have hC0 := hCe 0 (by decide) (by omega)
                rw [Nat.add_zero] at hC0
                obtain ⟨z5, ⟨z0, z1, z2, z3⟩, zg5, zgn⟩ := HX.out _ _ hS (by simp [plR]) (by simp [plR, Sv.v]) i hlt
                obtain ⟨u0, u1, uf, ug⟩ := hS.two (K := kT) (g := bt) (c := 1) (p := (tm, ⟨some ⟨gn, 0, none⟩, fr + r + j, c⟩)) (by simp [plR]) rfl
                simp only at u0 u1
                obtain ⟨a0, ha0⟩ : ∃ a, (ns.getD (fr + i) znd).b = a := ⟨_, rfl⟩
                rw [ha0] at z0 z1 z2 z3
                have HC : Hid (four ns fr j = C ∧ C.length = min 4 (r - i) ∧ (C.map Nd.b).getD 0 zt4 = a0 ∧ (∀ b ∈ C, b.b.ok = true) ∧ (∀ e, e < 4 → i + e < r → C[e]? = some (ns.getD (fr + (i + e)) znd)) ∧ a0.ok = true) := ⟨hfour, hCl, by rw [← ha0, List.getD, List.getElem?_map, hC0]; rfl, hCo, hCe, by rw [← ha0]; exact hCo _ (List.mem_of_getElem? hC0)⟩
                have hq1 : ((fr : Int) + (i : Int)).toNat = fr + i := by omega
                have hq2 : (0 : Int) ≤ (fr : Int) + (i : Int) := by omega
                have hq3 : (fr : Int) + (i : Int) < (fr : Int) + (r : Int) + (j : Int) := by omega
                clear hfour hCl hC0 hCo hCe hC ha0 hgn hNLn
                go_wp2
                go_cut [11] from 106 to 115 (fun s7 wx => ∃ b7 : Nat, s7 = .pointer (some ⟨b7, 0, none⟩) ∧ Sg w wx (rG kN (.slice (some ⟨b7, 0, none⟩) 1 1) [(⟨a0, false, []⟩, ⟨none, 0, 0⟩)] :: plR ⟨some ⟨gn, 0, none⟩, fr + r + j, c⟩ NL (.slice q9 j c9) (upto (fr + r) j) (rG kI (.slice (some ⟨g5, 0, none⟩) r c5) (upto fr r)) bt tm R))
                case first =>
                  go_region_with (fail)
                  all_goals
                    go_wp2
                    go_meet
                    exact ⟨_, rfl, (hS.lit kN [(⟨a0, false, []⟩, ⟨none, 0, 0⟩)] 1 rfl (by decide) #[.int .i64 a0.x, .int .i64 a0.y, .int .i64 a0.w, .int .i64 a0.h, .bool false, .slice none 0 0] rfl).step (Below.refl _ _).drew⟩
                case rest =>
                  obtain ⟨b7, rfl, hSc⟩ := hcut
                  have hS6 := hSc.nilRow kI
                  clear hS hSc z5 z0 z1 z2 z3 zg5 zgn u0 u1 uf ug hq1 hq2 hq3
                  go_wp2
                  go_loopw [12] (fun kv wr => ∃ (e k : Nat) (q7 : Option Addr) (c7 : Nat), kv = .int .i64 k ∧ Hid (k = i + e ∧ e ≤ C.length) ∧ Sg w wr (rG kI (.slice q7 e c7) (upto (fr + i) e) :: rG kN (.slice (some ⟨b7, 0, none⟩) 1 1) [(⟨boxF a0 ((C.map Nd.b).take e), false, []⟩, ⟨q7, e, c7⟩)] :: plR ⟨some ⟨gn, 0, none⟩, fr + r + j, c⟩ NL (.slice q9 j c9) (upto (fr + r) j) (rG kI (.slice (some ⟨g5, 0, none⟩) r c5) (upto fr r)) bt tm R)) (fun kv _ => r + 4 - (intOf kv).toNat)
                  case atStart => exact ⟨0, i, none, 0, rfl, ⟨rfl, Nat.zero_le _⟩, by simpa [boxF, upto] using hS6⟩
                  case round =>
                    clear hS6
                    obtain ⟨e, k, q7, c7, rfl, hE, hSk⟩ := hrel
                    by_cases hcon : k < r ∧ k < i + 4
                    · obtain ⟨h1, h2⟩ := hcon
                      have h1i : (k : Int) < r := by omega
                      have h2i : (k : Int) < (i : Int) + 4 := by omega
                      have hke := hE.out.1
                      have heC : e < C.length := by have b := HC.out.2.1; omega
                      have hck := HC.out.2.2.2.2.1 e (by omega) (by omega)
                      rw [← hke] at hck
                      have hbt := boxF_take (b0 := a0) (L := C.map Nd.b) (k := e) (a := (ns.getD (fr + k) znd).b) (by rw [List.getElem?_map, hck]; rfl)
                      have hbk : (boxF a0 ((C.map Nd.b).take e)).ok = true := boxF_ok HC.out.2.2.2.2.2 fun t ht => by
                        obtain ⟨b, hb, rfl⟩ := List.mem_map.mp (List.mem_of_mem_take ht)
                        exact HC.out.2.2.2.1 b hb
                      have hua : (ns.getD (fr + k) znd).b.ok = true := HC.out.2.2.2.1 _ (List.mem_of_getElem? hck)
                      have HX2 : Hid (∀ W rs, Sg w W rs → rG kI (.slice (some ⟨g5, 0, none⟩) r c5) (upto fr r) ∈ rs → rG kN (.slice (some ⟨gn, 0, none⟩) (fr + r + j) c) NL ∈ rs → W.cell? ⟨g5, k, none⟩ = some (.int .i64 ((fr : Int) + (k : Int))) ∧ (W.cell? ⟨gn, (fr + k) * 6, none⟩ = some (.int .i64 (ns.getD (fr + k) znd).b.x) ∧ W.cell? ⟨gn, (fr + k) * 6 + 1, none⟩ = some (.int .i64 (ns.getD (fr + k) znd).b.y) ∧ W.cell? ⟨gn, (fr + k) * 6 + 2, none⟩ = some (.int .i64 (ns.getD (fr + k) znd).b.w) ∧ W.cell? ⟨gn, (fr + k) * 6 + 3, none⟩ = some (.int .i64 (ns.getD (fr + k) znd).b.h)) ∧ g5 < W.heap.size ∧ gn < W.heap.size) := fun W rs h a b => HX.out W rs h a b k h1
                      obtain ⟨a, ha⟩ : ∃ a, (ns.getD (fr + k) znd).b = a := ⟨_, rfl⟩
                      rw [ha] at hbt hua HX2
                      obtain ⟨bk, hbv⟩ : ∃ b, boxF a0 ((C.map Nd.b).take e) = b := ⟨_, rfl⟩
                      rw [hbv] at hbk hbt hSk
                      obtain ⟨b2, hbv2⟩ : ∃ b, aro bk a = b := ⟨_, rfl⟩
                      rw [hbv2] at hbt
                      have HA : Hid (∀ w, Calls Tryz.prog 50 #[.agg #[.int .i64 bk.x, .int .i64 bk.y, .int .i64 bk.w, .int .i64 bk.h], .agg #[.int .i64 a.x, .int .i64 a.y, .int .i64 a.w, .int .i64 a.h]] w fun e w' => e = .returned (.agg #[.int .i64 b2.x, .int .i64 b2.y, .int .i64 b2.w, .int .i64 b2.h]) ∧ Below w.heap.size w w') := fun w => l1Around_t hbk hua hbv2 w
                      have HB : Hid (boxF a0 ((C.map Nd.b).take (e + 1)) = b2 ∧ upto (fr + i) (e + 1) = upto (fr + i) e ++ [(fr : Int) + (k : Int)] ∧ (upto (fr + i) e).length = e ∧ e < C.length) := ⟨hbt, by rw [upto_succ, hke]; congr 2; omega, upto_len _ _, heC⟩
                      generalize hPS : upto (fr + i) e = PS at hSk HB
                      have hq1 : ((fr : Int) + (k : Int)).toNat = fr + k := by omega
                      have hq2 : (0 : Int) ≤ (fr : Int) + (k : Int) := by omega
                      have hq3 : (fr : Int) + (k : Int) < (fr : Int) + (r : Int) + (j : Int) := by omega
                      clear hbt hbk hua hbv hbv2 hck ha heC hPS hke
                      obtain ⟨z5, ⟨z0, z1, z2, z3⟩, zg5, zgn⟩ := HX2.out _ _ hSk (by simp [plR]) (by simp [plR, Sv.v])
                      obtain ⟨u0, u1, uf, ug⟩ := hSk.two (K := kT) (g := bt) (c := 1) (p := (tm, ⟨some ⟨gn, 0, none⟩, fr + r + j, c⟩)) (by simp [plR]) rfl
                      obtain ⟨⟨n0, n1, n2, n3, n4, n5⟩, nf, ng⟩ := hSk.nd1 (g := b7) (c := 1) (p := (⟨bk, false, []⟩, ⟨q7, e, c7⟩)) (by simp)
                      simp only at n0 n1 n2 n3 n4 n5 u0 u1
                      go_wp2
                      go_cut [] from 129 to 141 (fun wx => Sg w wx (rG kI (.slice q7 e c7) PS :: rG kN (.slice (some ⟨b7, 0, none⟩) 1 1) [(⟨b2, false, []⟩, ⟨q7, e, c7⟩)] :: plR ⟨some ⟨gn, 0, none⟩, fr + r + j, c⟩ NL (.slice q9 j c9) (upto (fr + r) j) (rG kI (.slice (some ⟨g5, 0, none⟩) r c5) (upto fr r)) bt tm R))
                      case first =>
                        go_region_with (go_at_call 50; refine (HA.out _).mono ?_; rintro ee w1 ⟨rfl, hb2⟩; have hS1 := (hSk.step (Below.refl _ _).drew).step hb2; clear n0 n1 n2 n3 n4 n5 nf ng; obtain ⟨⟨n0, n1, n2, n3, n4, n5⟩, nf, ng⟩ := hS1.nd1 (g := b7) (c := 1) (p := (⟨bk, false, []⟩, ⟨q7, e, c7⟩)) (by simp); simp only at n0 n1 n2 n3 n4 n5)
                        all_goals
                          go_wp2
                          go_meet
                          exact Sg.setBox (A := [_]) hS1 b2
                      case rest =>
                        have hS2 := hcut
                        clear hSk z5 z0 z1 z2 z3 zg5 zgn u0 u1 uf ug n0 n1 n2 n3 n4 n5 nf ng HA
                        obtain ⟨z5, _, zg5, zgn⟩ := HX2.out _ _ hS2 (by simp [plR]) (by simp [plR, Sv.v])
                        obtain ⟨⟨n0, n1, n2, n3, n4, n5⟩, nf, ng⟩ := hS2.nd1 (g := b7) (c := 1) (p := (⟨b2, false, []⟩, ⟨q7, e, c7⟩)) (by simp)
                        simp only at n0 n1 n2 n3 n4 n5
                        go_wp2
                        go_region_law (refine step_sgapp appI (by rfl) _ _ (by rfl) (A := []) (B := [(fr : Int) + (k : Int)]) (n := e) (m := 1) hS2 ((below_alloc1 _ _).drew) HB.out.2.2.1 rfl (by rfl) ⟨wc.heap.size, 0, none⟩ 1 (by rfl) (fun j u hj => lit_src (W := wc) (xs := [.int .i64 ((fr : Int) + (k : Int))]) (t := 2) rfl j u hj) (oneI _) (.inl (by decide)) (by have := HB.out.2.2.2; have := HC.out.2.1; omega) ?_; intro g' cap' w4 hS4 _ _; clear n0 n1 n2 n3 n4 n5 nf ng; obtain ⟨⟨n0, n1, n2, n3, n4, n5⟩, nf, ng⟩ := hS4.nd1 (g := b7) (c := 1) (p := (⟨b2, false, []⟩, ⟨q7, e, c7⟩)) (by simp); simp only at n0 n1 n2 n3 n4 n5)
                        all_goals
                          try simp only [List.getElem_toArray, List.getElem_cons_succ, List.getElem_cons_zero, Act.put, List.setIfInBounds_toArray, List.set_cons_succ, List.set_cons_zero]
                          go_wp2
                          go_roundw
                          case rel =>
                            refine ⟨e + 1, k + 1, some ⟨g', 0, none⟩, cap', by go_num, ⟨by have := hE.out.1; omega, HB.out.2.2.2⟩, ?_⟩
                            rw [HB.out.1, HB.out.2.1]; exact Sg.setPart (A := [_]) hS4 ⟨some ⟨g', 0, none⟩, e + 1, cap'⟩
                          case measure => simp [intOf]; omega
                    · have heC : e = C.length := by have a := hE.out; have b := HC.out.2.1; omega
                      subst heC
                      have e1 : (C.map Nd.b).take C.length = C.map Nd.b := List.take_of_length_le (by simp)
                      rw [e1] at hSk
                      have hlf : forkN (fr + i) C = ⟨boxF a0 (C.map Nd.b), false, upto (fr + i) C.length⟩ := by
                        have := forkN_ps (fr + i) C
                        unfold forkN at this ⊢
                        simp only at this
                        rw [this, boxL, HC.out.2.2.1]
                      have hpl : C.length ≤ 4 := by have b := HC.out.2.1; omega
                      obtain ⟨nb, hnb⟩ : ∃ b, boxF a0 (C.map Nd.b) = b := ⟨_, rfl⟩
                      rw [hnb] at hSk hlf
                      obtain ⟨el, hel⟩ : ∃ e, C.length = e := ⟨_, rfl⟩
                      rw [hel] at hSk hpl hlf
                      obtain ⟨PS, hPS⟩ : ∃ P, upto (fr + i) el = P := ⟨_, rfl⟩
                      rw [hPS] at hSk hlf
                      have HLF : Hid (forkN (fr + i) C = ⟨nb, false, PS⟩ ∧ i = 4 * j) := ⟨hlf, hJ.out.1⟩
                      have hkk : k = i + el := by rw [← hel]; exact hE.out.1
                      obtain ⟨u0, u1, uf, ug⟩ := hSk.two (K := kT) (g := bt) (c := 1) (p := (tm, ⟨some ⟨gn, 0, none⟩, fr + r + j, c⟩)) (by simp [plR]) rfl
                      obtain ⟨⟨n0, n1, n2, n3, n4, n5⟩, nf, ng⟩ := hSk.nd1 (g := b7) (c := 1) (p := (⟨nb, false, []⟩, ⟨q7, el, c7⟩)) (by simp)
                      simp only at n0 n1 n2 n3 n4 n5 u0 u1
                      have HJL : Hid ((upto (fr + r) j).length = j ∧ NL.length = fr + r + j) := ⟨upto_len _ _, hJ.out.2.2.2⟩
                      clear hlf hel hnb e1 hE hPS
                      obtain ⟨kk, hkd⟩ : ∃ kk, fr + r + j = kk := ⟨_, rfl⟩
                      have hkd2 : (fr : Int) + (r : Int) + (j : Int) = (kk : Int) := by omega
                      have HKD : Hid (fr + r + j = kk) := hkd
                      simp only [hkd] at hSk u0 u1 HJL
                      have hSk' : Sg w wr ([rG kI (.slice q7 el c7) PS, rG kN (.slice (some ⟨b7, 0, none⟩) 1 1) [(⟨nb, false, []⟩, ⟨q7, el, c7⟩)], rG kN (.slice (some ⟨gn, 0, none⟩) kk c) NL] ++ rG kI (.slice q9 j c9) (upto (fr + r) j) :: (rG kI (.slice (some ⟨g5, 0, none⟩) r c5) (upto fr r) :: rG kT (.slice (some ⟨bt, 0, none⟩) 1 1) [(tm, ⟨some ⟨gn, 0, none⟩, kk, c⟩)] :: (partsR NL ++ R))) := by
                        have := hSk; unfold plR at this; exact this
                      have hkk2 : kk ≤ 100 := by omega
                      clear hkd
                      by_cases h1 : k < r
                      · have h1i : (k : Int) < r := by omega
                        have h2i : ¬ (k : Int) < (i : Int) + 4 := by omega
                        go_wp2_with (first
                          | (at_builtin; refine wpList_sgapp appI rfl _ _ rfl (B := [(kk : Int)]) (n := j) (m := 1) hSk' (below_alloc1 _ _) HJL.out.1 rfl rfl ⟨wr.heap.size, 0, none⟩ 1 rfl (lit_src (xs := [.int .i64 (kk : Int)]) rfl) (oneI _) (.inl (by decide)) (by omega) ?_; intro g9 cc9 w9 hS9 _ _; clear n0 n1 n2 n3 n4 n5 nf ng u0 u1 uf ug hSk'; obtain ⟨u0, u1, uf, ug⟩ := hS9.two (K := kT) (g := bt) (c := 1) (p := (tm, ⟨some ⟨gn, 0, none⟩, kk, c⟩)) (by simp) rfl; obtain ⟨⟨n0, n1, n2, n3, n4, n5⟩, nf, ng⟩ := hS9.nd1 (g := b7) (c := 1) (p := (⟨nb, false, []⟩, ⟨q7, el, c7⟩)) (by simp); simp only at n0 n1 n2 n3 n4 n5 u0 u1; have hS9' : Sg w w9 ([rG kI (.slice q7 el c7) PS, rG kN (.slice (some ⟨b7, 0, none⟩) 1 1) [(⟨nb, false, []⟩, ⟨q7, el, c7⟩)]] ++ rG kN (.slice (some ⟨gn, 0, none⟩) kk c) NL :: (rG kI (.slice (some ⟨g9, 0, none⟩) (j + 1) cc9) (upto (fr + r) j ++ [(kk : Int)]) :: rG kI (.slice (some ⟨g5, 0, none⟩) r c5) (upto fr r) :: rG kT (.slice (some ⟨bt, 0, none⟩) 1 1) [(tm, ⟨some ⟨gn, 0, none⟩, kk, c⟩)] :: (partsR NL ++ R))) := hS9)
                          | (at_builtin; refine wpList_sgapp appN rfl _ _ rfl (B := [(⟨nb, false, PS⟩, ⟨q7, el, c7⟩)]) (n := kk) (m := 1) hS9' (below_alloc1 _ _) HJL.out.2 rfl rfl ⟨w9.heap.size, 0, none⟩ 1 rfl (lit_src (xs := [.int .i64 nb.x, .int .i64 nb.y, .int .i64 nb.w, .int .i64 nb.h, .bool false, .slice q7 el c7]) rfl) (oneN _) (.inl (by decide)) (by omega) ?_; intro g10 c10 w10 hS10 _ _; clear u0 u1 uf ug; obtain ⟨u0, u1, uf, ug⟩ := hS10.two (K := kT) (g := bt) (c := 1) (p := (tm, ⟨some ⟨gn, 0, none⟩, kk, c⟩)) (by simp) rfl; simp only at u0 u1))
                        have hS11 := Sg.setT1 (A := [_, _, _, _, _]) hS10 ⟨some ⟨g10, 0, none⟩, kk + 1, c10⟩
                        have hS12 := pl_snoc (nd := ⟨nb, false, PS⟩) (s := ⟨q7, el, c7⟩) hS11
                        refine ⟨⟨j + 1, i + 4, some ⟨g9, 0, none⟩, cc9, some ⟨g10, 0, none⟩, c10, NL ++ [(⟨nb, false, PS⟩, ⟨q7, el, c7⟩)], rfl, by go_num, ⟨?_, ?_, ?_, ?_⟩, ?_⟩, by simp [intOf]; omega⟩
                        · have := hJ.out.1; omega
                        · omega
                        · rw [List.map_append, hJ.out.2.2.1, take_getNd (by rw [HG.out.2.2.2]; exact hjc), getD_rowUp (by rw [HG.out.2.1]; rwa [show fr + r - fr = r by omega]), HC.out.1, ← HLF.out.2, HLF.out.1, List.append_assoc]; rfl
                        · rw [List.length_append, HJL.out.2]; have := HKD.out; simp; omega
                        · have e3 : fr + r + (j + 1) = kk + 1 := by have := HKD.out; omega
                          have e4 : upto (fr + r) (j + 1) = upto (fr + r) j ++ [(kk : Int)] := by
                            have h := HKD.out
                            have h2 : ((fr + r : Nat) : Int) + (j : Int) = (kk : Int) := by omega
                            rw [upto_succ, h2]
                          rw [e3, e4]; exact hS12
                      · have h1i : ¬ (k : Int) < r := by omega
                        go_wp2_with (first
                          | (at_builtin; refine wpList_sgapp appI rfl _ _ rfl (B := [(kk : Int)]) (n := j) (m := 1) hSk' (below_alloc1 _ _) HJL.out.1 rfl rfl ⟨wr.heap.size, 0, none⟩ 1 rfl (lit_src (xs := [.int .i64 (kk : Int)]) rfl) (oneI _) (.inl (by decide)) (by omega) ?_; intro g9 cc9 w9 hS9 _ _; clear n0 n1 n2 n3 n4 n5 nf ng u0 u1 uf ug hSk'; obtain ⟨u0, u1, uf, ug⟩ := hS9.two (K := kT) (g := bt) (c := 1) (p := (tm, ⟨some ⟨gn, 0, none⟩, kk, c⟩)) (by simp) rfl; obtain ⟨⟨n0, n1, n2, n3, n4, n5⟩, nf, ng⟩ := hS9.nd1 (g := b7) (c := 1) (p := (⟨nb, false, []⟩, ⟨q7, el, c7⟩)) (by simp); simp only at n0 n1 n2 n3 n4 n5 u0 u1; have hS9' : Sg w w9 ([rG kI (.slice q7 el c7) PS, rG kN (.slice (some ⟨b7, 0, none⟩) 1 1) [(⟨nb, false, []⟩, ⟨q7, el, c7⟩)]] ++ rG kN (.slice (some ⟨gn, 0, none⟩) kk c) NL :: (rG kI (.slice (some ⟨g9, 0, none⟩) (j + 1) cc9) (upto (fr + r) j ++ [(kk : Int)]) :: rG kI (.slice (some ⟨g5, 0, none⟩) r c5) (upto fr r) :: rG kT (.slice (some ⟨bt, 0, none⟩) 1 1) [(tm, ⟨some ⟨gn, 0, none⟩, kk, c⟩)] :: (partsR NL ++ R))) := hS9)
                          | (at_builtin; refine wpList_sgapp appN rfl _ _ rfl (B := [(⟨nb, false, PS⟩, ⟨q7, el, c7⟩)]) (n := kk) (m := 1) hS9' (below_alloc1 _ _) HJL.out.2 rfl rfl ⟨w9.heap.size, 0, none⟩ 1 rfl (lit_src (xs := [.int .i64 nb.x, .int .i64 nb.y, .int .i64 nb.w, .int .i64 nb.h, .bool false, .slice q7 el c7]) rfl) (oneN _) (.inl (by decide)) (by omega) ?_; intro g10 c10 w10 hS10 _ _; clear u0 u1 uf ug; obtain ⟨u0, u1, uf, ug⟩ := hS10.two (K := kT) (g := bt) (c := 1) (p := (tm, ⟨some ⟨gn, 0, none⟩, kk, c⟩)) (by simp) rfl; simp only at u0 u1))
                        have hS11 := Sg.setT1 (A := [_, _, _, _, _]) hS10 ⟨some ⟨g10, 0, none⟩, kk + 1, c10⟩
                        have hS12 := pl_snoc (nd := ⟨nb, false, PS⟩) (s := ⟨q7, el, c7⟩) hS11
                        refine ⟨⟨j + 1, i + 4, some ⟨g9, 0, none⟩, cc9, some ⟨g10, 0, none⟩, c10, NL ++ [(⟨nb, false, PS⟩, ⟨q7, el, c7⟩)], rfl, by go_num, ⟨?_, ?_, ?_, ?_⟩, ?_⟩, by simp [intOf]; omega⟩
                        · have := hJ.out.1; omega
                        · omega
                        · rw [List.map_append, hJ.out.2.2.1, take_getNd (by rw [HG.out.2.2.2]; exact hjc), getD_rowUp (by rw [HG.out.2.1]; rwa [show fr + r - fr = r by omega]), HC.out.1, ← HLF.out.2, HLF.out.1, List.append_assoc]; rfl
                        · rw [List.length_append, HJL.out.2]; have := HKD.out; simp; omega
                        · have e3 : fr + r + (j + 1) = kk + 1 := by have := HKD.out; omega
                          have e4 : upto (fr + r) (j + 1) = upto (fr + r) j ++ [(kk : Int)] := by
                            have h := HKD.out
                            have h2 : ((fr + r : Nat) : Int) + (j : Int) = (kk : Int) := by omega
                            rw [upto_succ, h2]
                          rw [e3, e4]; exact hS12
              · have hjm : j = cnt r := by have := hJ.out; unfold cnt at this ⊢; omega
                have hii : ¬ (i : Int) < r := by omega
                have hcr : 0 < cnt r ∧ 2 * cnt r ≤ r := by unfold cnt; omega
                rw [← hjm] at hcr
                have HF : Hid (NL.map Prod.fst = ns ++ rowUp ns fr ∧ NL.length = fr + r + j) := ⟨by rw [hJ.out.2.2.1, hjm, List.take_of_length_le (by rw [HG.out.2.2.2]; exact Nat.le_refl _)], hJ.out.2.2.2⟩
                clear hJ hjm
                go_wp2
                refine ⟨⟨fr + r, j, q9, c9, q, c, NL, rG kI (.slice (some ⟨g5, 0, none⟩) r c5) (upto fr r), rfl, by omega, ⟨?_, HF.out.2, ?_⟩, hS⟩, by simp [lenV]; omega⟩
                · rw [HF.out.1]; exact HG.out.1
                · rw [HF.out.1]; intro nd hnd
                  rcases List.mem_append.mp hnd with h | h
                  · exact HG.out.2.2.1 nd h
                  · exact rowUp_ok HG.out.2.2.1 nd h
          · have hr1i : ¬ (1 : Int) < r := by omega
            have HE : Hid (NL.map Prod.fst = ts ∧ ts.length = fr + r) := by
              have h := hG.out
              have e : NL.map Prod.fst = ts := by rw [← h.1]; exact (grow_end (by simp [h.2.1]; omega)).symm
              exact ⟨e, by rw [← e]; simp [h.2.1]⟩
            obtain ⟨htm, hR⟩ := HTM.out
            rw [htm, hR] at hS
            obtain ⟨u0, u1, uf, ug⟩ := hS.two (K := kT) (g := bt) (c := 1) (p := (⟨some ⟨gm, 0, none⟩, m, cm⟩, ⟨q, fr + r, c⟩)) (by simp [plR]) rfl
            obtain ⟨v0, v1, vf, vg⟩ := hS.two (K := kT) (g := w.heap.size) (c := 1) (p := (⟨none, 0, 0⟩, ⟨none, 0, 0⟩)) (by simp [plR]) rfl
            simp only at u0 u1 v0 v1
            have hSz : Sg w wb ((rG kN (.slice q (fr + r) c) NL :: rG kI (.slice q5 r c5) (upto fr r) :: X :: rG kT (.slice (some ⟨bt, 0, none⟩) 1 1) [(⟨some ⟨gm, 0, none⟩, m, cm⟩, ⟨q, fr + r, c⟩)] :: (partsR NL ++ [rG kM (.slice (some ⟨gm, 0, none⟩) m cm) M])) ++ rG kT (.slice (some ⟨w.heap.size, 0, none⟩) 1 1) [(⟨none, 0, 0⟩, ⟨none, 0, 0⟩)] :: []) := by
              have := hS; unfold plR at this; simpa [Sv.v] using this
            have hSy := Sg.setT hSz (⟨some ⟨gm, 0, none⟩, m, cm⟩, ⟨q, fr + r, c⟩)
            have hSx : Sg w _ (treeR (.slice (some ⟨gm, 0, none⟩) m cm) (.slice q (fr + r) c) M NL) := (hSy.sub (rs' := (rG kN (.slice q (fr + r) c) NL :: partsR NL) ++ [rG kM (.slice (some ⟨gm, 0, none⟩) m cm) M]) (by
              simp only [List.append_assoc, List.cons_append, List.cons_sublist_cons, List.nil_append]
              refine List.Sublist.cons _ (List.Sublist.cons _ (List.Sublist.cons _ ?_))
              exact List.Sublist.append (List.Sublist.refl _) (by simp))).perm (List.perm_append_comm (l₂ := [_]))
            clear hSz hSy hS hG HTM
            go_wp2
            refine bodyPost_ret (v := .agg #[.slice (some ⟨gm, 0, none⟩) m cm, .slice q (fr + r) c]) (by simp [results, Tryz.results15, go_sem, v0, v1]) rfl ⟨some ⟨gm, 0, none⟩, cm, q, c, by rw [HE.out.2], NL, HE.out.1, ?_⟩
            rw [HE.out.2]; exact hSx
end Go.Proofs.YtipfcmfcdfofmaaGreat
