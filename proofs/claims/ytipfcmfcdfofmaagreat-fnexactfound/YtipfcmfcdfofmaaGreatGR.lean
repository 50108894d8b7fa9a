/-
  All Nodes of a tree: the program's.
-/
import Derived.Test.YtipfcmfcdfofmaaGreatMU
namespace Go.Proofs.YtipfcmfcdfofmaaGreat
open Go.RowKit Go.Joins
attribute [local go_sem] Oper.semAt_some

theorem Sg.base {w W W' : World} {rs rs' : List Rw} (h : Sg w W rs) (h' : Sg W W' rs') : Sg w W' rs' := (h.addL h').sub (List.sublist_append_left ..)
theorem oneNL (L : List (Nd × Sv)) : ∀ u ∈ kN.flat L, u.oneCell' = true := fun u hu => by
  simp only [Kd.flat, List.mem_flatMap, kN] at hu
  obtain ⟨p, _, hu⟩ := hu
  simp at hu
  rcases hu with rfl | rfl | rfl | rfl | rfl | rfl <;> rfl
theorem tr_app {w W : World} {v v2 : Value} {NL NL2 : List (Nd × Sv)} (h : Sg w W (trR v2 NL2 ++ rG kN v (NL ++ NL2) :: NL.map fun p => rG kI p.2.v p.1.ps)) : Sg w W (trR v (NL ++ NL2)) := by
  have h1 : Sg w W ((NL2.map fun p => rG kI p.2.v p.1.ps) ++ rG kN v (NL ++ NL2) :: NL.map fun p => rG kI p.2.v p.1.ps) := h.sub (by unfold trR; exact List.Sublist.append (List.sublist_cons_self ..) (List.Sublist.refl _))
  refine h1.perm ?_
  unfold trR
  rw [List.map_append]
  exact List.perm_middle.trans (List.Perm.cons _ List.perm_append_comm)
theorem tr_at {w W : World} {A Bs : List Rw} {q : Option Addr} {n c : Nat} {NL : List (Nd × Sv)} (h : Sg w W (A ++ trR (.slice q n c) NL ++ Bs)) (h0 : 0 < n) : NL.length = n ∧ n ≤ c ∧ ∃ g, q = some ⟨g, 0, none⟩ ∧ CsG kN W g 0 NL := by
  have ho := h.mem (K := kN) (v := .slice q n c) (L := NL) (by simp [trR])
  have hn := OwG.len ho
  obtain ⟨g, off, rfl, hC⟩ := (OwG.sl ho).at (k := 0) (by omega)
  have hz := OwG.zero ho
  subst hz
  exact ⟨hn.symm, OwG.cap ho, g, rfl, hC⟩
def lenV : Value → Nat
  | .slice _ n _ => n
  | _ => 0

set_option maxRecDepth 100000 in
set_option maxHeartbeats 4000000 in
theorem grown_any (p : Option Addr) (cap : Nat) (L : List Mk) (m : Nat) (hm : L.length = m) (hok : mksB L = true) (w : World) (hL : SlG kM w p L) {ts : List Nd} (hts : nodesOf (srtM fO L) = ts) {N : Nat} (hN : ts.length = N) :
    Calls Tryz.prog 40 #[.slice p m cap] w fun e w' => ∃ q c NL, e = .returned (.slice q N c) ∧ NL.map Prod.fst = ts ∧ Sg w w' (trR (.slice q N c) NL) := by
  have hmk : L.length ≤ 60 ∧ mkR 0 L = true := by simpa [mksB] using hok
  obtain ⟨hall, hpw⟩ := mkR_all hmk.2
  have hm60 : m ≤ 60 := by omega
  obtain ⟨S, hS⟩ : ∃ S, srtM fO L = S := ⟨_, rfl⟩
  have hSl : S.length = m := by rw [← hS, srtM_len]; exact hm
  have hSo : ∀ c ∈ S, spB c.x c.y = true := fun c hc => (hall c ((srtM_perm L).mem_iff.mp (by rw [hS]; exact hc))).2.2
  rw [hS] at hts
  have HLV : Hid (Calls Tryz.prog 81 #[.slice p m cap] w fun e w' => ∃ q c g cs, e = .returned (.slice q (cnt m) c) ∧ Sg w w' [rG kV (.slice q (cnt m) c) (leafVs g m (cnt m)), rG kM (.slice (some ⟨g, 0, none⟩) m cs) S]) := leaves_any p cap L m hm (by omega) hpw w hL hS
  have HTS : Hid (grow (leafs S) 0 = ts ∧ ts.length = N) := ⟨hts, hN⟩
  have HLO : Hid (∀ nd ∈ leafs S, nd.b.ok = true) := leafs_ok hSo
  have HLL : Hid ((leafs S).length = cnt m) := (show _ = cnt m by rw [leafs_len, hSl])
  have HLC : Hid (∀ (W : World) (g : Nat), CsG kM W g 0 S → ∀ k, k < cnt m → Calls Tryz.prog 171 #[chV g 0 3 m k] W fun e w' => ∃ q c, e = .returned (.agg #[.int .i64 ((leafs S).getD k znd).b.x, .int .i64 ((leafs S).getD k znd).b.y, .int .i64 ((leafs S).getD k znd).b.w, .int .i64 ((leafs S).getD k znd).b.h, .bool ((leafs S).getD k znd).lf, .slice q ((leafs S).getD k znd).ps.length c]) ∧ Sg W w' [rG kI (.slice q ((leafs S).getD k znd).ps.length c) ((leafs S).getD k znd).ps]) := fun W g hC k hk => leaf_at hSl hSo hC hk
  have hcm : cnt m ≤ 15 := by unfold cnt; omega
  clear hm hok hL hts hN hmk hall hpw hSo
  generalize leafs S = l0 at HTS HLO HLL HLC
  go_enter Tryz.func40, Tryz.ntmps40
  go_wp2_with (first
    | (go_at_call 81; refine HLV.out.mono ?_; rintro e w1 ⟨q0, c0, g, cs, rfl, hS1⟩)
    | (go_at_call 80; refine (madeL_any q0 c0 (leafVs g m (cnt m)) l0 (cnt m) (leafVs_len _ _ _) HLL.out (by omega) (chV g 0 3 m) (fun k hk => by simp [leafVs, List.getD, hk, leafV]) w1 (OwG.sl (hS1.mem (K := kV) (v := .slice q0 (cnt m) c0) (L := leafVs g m (cnt m)) (by simp))) (fun k W hk hb => HLC.out W g ((OwG.cs (hS1.mem (K := kM) (v := .slice (some ⟨g, 0, none⟩) m cs) (L := S) (by simp))).step hb) k hk)).mono ?_; rintro e w2 ⟨q, c, NL, rfl, hNL, hS2⟩; have hS3 := hS1.base hS2))
  have HN0 : Hid (NL.map Prod.fst = l0) := hNL
  clear hS1 hS2 hNL
  generalize cnt m = k0 at hcm HLL hS3 ⊢
  go_loopw [3, 4] (fun v fv wr => ∃ (q : Option Addr) (k c fr : Nat) (NL : List (Nd × Sv)), v = .slice q k c ∧ fv = .int .i64 fr ∧ fr ≤ k ∧ k + (k - fr) ≤ 30 ∧ Hid (grow (NL.map Prod.fst) fr = ts ∧ NL.length = k ∧ ∀ nd ∈ NL.map Prod.fst, nd.b.ok = true) ∧ Sg w wr (trR (.slice q k c) NL)) (fun v fv _ => lenV v - (intOf fv).toNat)
  case atStart =>
    refine ⟨q, k0, c, 0, NL, rfl, rfl, by omega, by omega, ⟨by rw [HN0.out]; exact HTS.out.1, ?_, ?_⟩, hS3⟩
    · have := HLL.out; rw [← HN0.out] at this; simpa using this
    · rw [HN0.out]; exact HLO.out
  case round =>
    clear hS3 HLV HLO HLL HLC HN0
    obtain ⟨q, k, c, fr, NL, rfl, rfl, hfr, hk30, hN, hS⟩ := hrel
    obtain ⟨r, hr⟩ : ∃ r, k = fr + r := ⟨k - fr, by omega⟩
    subst hr
    by_cases hlt : 1 < r
    · have hci : (1 : Int) < ((fr + r : Nat) : Int) - (fr : Int) := by omega
      have hci2 : (1 : Int) < (fr : Int) + (r : Int) - (fr : Int) := by omega
      obtain ⟨hnl, hcap, g, rfl, hC⟩ := tr_at (A := []) (Bs := []) (by simpa using hS) (by omega : 0 < fr + r)
      obtain ⟨ns, hns⟩ : ∃ ns, NL.map Prod.fst = ns := ⟨_, rfl⟩
      obtain ⟨hg1, hg2, hg3⟩ := hN.out
      rw [hns] at hg1 hg3
      have hnsl : ns.length = fr + r := by rw [← hns]; simpa using hnl
      have hsub : fr + r - fr = r := by omega
      rw [grow_on (by rw [hnsl]; omega), hnsl] at hg1
      have hrl : (rowUp ns fr).length = cnt r := by rw [rowUp_len, hnsl, hsub]
      have HFK : Hid (∀ W, Below wr.heap.size wr W → ∀ k, k < cnt r → Calls Tryz.prog 174 #[.agg #[.int .i64 ((fr + 4 * k : Nat) : Int), chV g (0 + fr * 6) 6 r k]] W fun e w' => ∃ q c, e = .returned (.agg #[.int .i64 ((rowUp ns fr).getD k znd).b.x, .int .i64 ((rowUp ns fr).getD k znd).b.y, .int .i64 ((rowUp ns fr).getD k znd).b.w, .int .i64 ((rowUp ns fr).getD k znd).b.h, .bool ((rowUp ns fr).getD k znd).lf, .slice q ((rowUp ns fr).getD k znd).ps.length c]) ∧ Sg W w' [rG kI (.slice q ((rowUp ns fr).getD k znd).ps.length c) ((rowUp ns fr).getD k znd).ps]) := fun W hb k hk => fork_at hns hnl (by omega) (by omega) hg3 (hC.step hb) hk
      have HFO : Hid (∀ W, Calls Tryz.prog 82 #[.slice (some ⟨g, 0, none⟩) (fr + r) c, .int .i64 fr] W fun e w' => ∃ q c, e = .returned (.slice q (cnt r) c) ∧ Sg W w' [rG kV (.slice q (cnt r) c) (forkVs g (0 + fr * 6) fr r (cnt r))]) := fun W => forks_any g 0 c fr r (by omega) (by omega) (by omega) hcap W
      have HG : Hid (grow (ns ++ rowUp ns fr) (fr + r) = ts ∧ NL.map Prod.fst = ns ∧ (rowUp ns fr).length = cnt r ∧ (∀ nd ∈ ns, nd.b.ok = true) ∧ NL.length = fr + r) := ⟨hg1, hns, hrl, hg3, hnl⟩
      have hcr : 0 < cnt r ∧ 2 * cnt r ≤ r := by unfold cnt; omega
      obtain ⟨m2, hm2⟩ : ∃ m2, cnt r = m2 := ⟨_, rfl⟩
      have HM2 : Hid (cnt r = m2) := hm2
      simp only [hm2] at HFK HFO HG hcr
      clear hm2 hg1 hg2 hg3 hns hnsl hrl hnl hN hC hsub
      go_wp2_with (first
        | (go_at_call 82; refine (HFO.out _).mono ?_; rintro e w1 ⟨q1, c1, rfl, hS1⟩)
        | (go_at_call 80; refine (madeF_any q1 c1 (forkVs g (0 + fr * 6) fr r m2) (rowUp ns fr) m2 (forkVs_len _ _ _ _ _) HG.out.2.2.1 (by omega) (fun k => .agg #[.int .i64 ((fr + 4 * k : Nat) : Int), chV g (0 + fr * 6) 6 r k]) (fun k hk => by simp [forkVs, List.getD, hk, forkV]) w1 (OwG.sl (hS1.mem (K := kV) (v := .slice q1 m2 c1) (L := forkVs g (0 + fr * 6) fr r m2) (by simp))) (fun k W hk hb => HFK.out W (bstep hS1.bel hb (Nat.le_refl _)) k hk)).mono ?_; rintro e w2 ⟨q2, c2, NL2, rfl, hNL2, hS2⟩; have hS3 : Sg w w2 (trR (.slice q2 m2 c2) NL2 ++ rG kN (.slice (some ⟨g, 0, none⟩) (fr + r) c) NL :: NL.map fun p => rG kI p.2.v p.1.ps) := (hS.step hS1.bel).addL hS2; obtain ⟨hl2, _, g2, rfl, hC2⟩ := tr_at (A := []) (Bs := []) (by simpa using hS2) hcr.1; have HNL2 : Hid (NL2.map Prod.fst = rowUp ns fr ∧ NL2.length = m2) := ⟨hNL2, hl2⟩; clear hNL2 hl2)
        | (at_builtin; refine wpList_sgapp appN rfl _ _ rfl (A := trR (.slice (some ⟨g2, 0, none⟩) m2 c2) NL2) (B := NL2) (n := fr + r) (m := m2) hS3 (Below.refl _ _) HG.out.2.2.2.2 HNL2.out.2 rfl ⟨g2, 0, none⟩ c2 rfl (cs_src hC2) (oneNL _) (.inl hcr.1) (by omega) ?_; intro g' cap' w4 hS4 _ _))
      have hS5 := tr_app hS4
      go_roundw
      case rel =>
        refine ⟨some ⟨g', 0, none⟩, fr + r + m2, cap', fr + r, NL ++ NL2, rfl, by simp, by omega, by omega, ⟨?_, ?_, ?_⟩, hS5⟩
        · rw [List.map_append, HG.out.2.1, HNL2.out.1]; exact HG.out.1
        · rw [List.length_append, HG.out.2.2.2.2, HNL2.out.2]
        · rw [List.map_append, HG.out.2.1, HNL2.out.1]
          intro nd hnd
          rcases List.mem_append.mp hnd with h | h
          · exact HG.out.2.2.2.1 nd h
          · exact rowUp_ok HG.out.2.2.2.1 nd h
      case measure => simp [intOf, lenV]; omega
    · have hci : ¬ (1 : Int) < ((fr + r : Nat) : Int) - (fr : Int) := by omega
      have hci2 : ¬ (1 : Int) < (fr : Int) + (r : Int) - (fr : Int) := by omega
      have HE : Hid (NL.map Prod.fst = ts ∧ fr + r = N) := by
        have h := hN.out
        have e : NL.map Prod.fst = ts := by rw [← h.1]; exact (grow_end (by simp [h.2.1]; omega)).symm
        exact ⟨e, by rw [← HTS.out.2, ← e]; simp [h.2.1]⟩
      go_wp2
      go_ret
      exact ⟨q, c, by rw [← HE.out.2]; rfl, NL, HE.out.1, by rw [← HE.out.2]; exact hS⟩
end Go.Proofs.YtipfcmfcdfofmaaGreat
