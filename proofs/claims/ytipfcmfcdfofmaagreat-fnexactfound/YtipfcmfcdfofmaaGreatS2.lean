/-
  The spec's order of Marks.
-/
import Derived.Test.YtipfcmfcdfofmaaGreatSB
import Derived.Test.YtipfcmfcdfofmaaGreatOZ4
import Derived.Test.YtipfcmfcdfofmaaGreatFq
import Derived.Test.YtipfcmfcdfofmaaGreatL8
import Derived.Deep.RegionLaw
import Derived.Test.YtipfcmfcdfofmaaGreatSC
namespace Go.Proofs.YtipfcmfcdfofmaaGreat
open Go.RowKit Go.Joins
attribute [local go_sem] Oper.semAt_some

theorem l2Order_v {x y v : Int} (h : spB x y = true) (hv : O.ordI x y = v) (w : World) : Calls Tryz.prog 89 #[.agg #[.int .i64 x, .int .i64 y]] w fun e w' => e = .returned (.int .i64 v) ∧ Below w.heap.size w w' := by
  subst hv; exact O.l2Order_v h w

set_option maxRecDepth 100000 in
set_option maxHeartbeats 4000000 in
theorem l8Sorted_any (p : Option Addr) (cap : Nat) (L : List Mk) (n : Nat) (hn : L.length = n) (w : World) (hL : SlG kM w p L) (hb : n ≤ 1000) (hok : ∀ m ∈ L, spB m.x m.y = true) :
    Calls Tryz.prog 49 #[.slice p n cap] w fun e w' => ∃ q c, e = .returned (.slice (some ⟨q, 0, none⟩) n c) ∧ Sg w w' [rG kM (.slice (some ⟨q, 0, none⟩) n c) (srtM fO L)] := by
  have HN : Hid (L.length = n ∧ (∀ m ∈ L, spB m.x m.y = true) ∧ SlG kM w p L) := ⟨hn, hok, hL⟩
  clear hn hok hL
  have hS0 := (Sg.nil w).lit kM [] 0 rfl (by decide) #[] rfl
  go_enter Tryz.func49, Tryz.ntmps49
  go_wp2
  go_loopw [3, 4] (fun ov iv wr => ∃ (i go co : Nat), i ≤ n ∧ iv = .int .i64 i ∧ ov = .slice (some ⟨go, 0, none⟩) i co ∧ Sg w wr [rG kM (.slice (some ⟨go, 0, none⟩) i co) (srtM fO (L.take i))]) (fun _ iv _ => n - (intOf iv).toNat)
  case atStart => exact ⟨0, _, _, by omega, rfl, rfl, hS0⟩
  case round =>
    clear hS0
    rename World => wo
    obtain ⟨i, go, co, hi, rfl, rfl, hS⟩ := hrel
    by_cases hlt : i < n
    · have hii : (i : Int) < n := by omega
      have hiL : i < L.length := by rw [HN.out.1]; exact hlt
      obtain ⟨g, off, rfl, hC⟩ := HN.out.2.2.at hiL
      have hgm := getM hiL
      have hst := srtM_take (f := fO) hiL
      have hmo := HN.out.2.1 _ (List.mem_of_getElem? hgm)
      obtain ⟨m, hm⟩ : ∃ m, L.getD i zmk = m := ⟨_, rfl⟩
      rw [hm] at hgm hst hmo
      have hOl : (srtM fO (L.take i)).length = i := by rw [srtM_len]; simp; omega
      have hOo : ∀ a ∈ srtM fO (L.take i), spB a.x a.y = true := fun a ha => HN.out.2.1 a (List.mem_of_mem_take ((srtM_perm _).mem_iff.mp ha))
      obtain ⟨O, hO⟩ : ∃ O, srtM fO (L.take i) = O := ⟨_, rfl⟩
      rw [hO] at hst hOl hOo hS
      have HCC : Hid (CsG kM w g off L ∧ L[i]? = some m) := ⟨hC, hgm⟩
      have HST : Hid (srtM fO (L.take (i + 1)) = insM fO m O) := hst
      have HOL : Hid (O.length = i ∧ ∀ a ∈ O, spB a.x a.y = true) := ⟨hOl, hOo⟩
      obtain ⟨zm, hzm⟩ : ∃ z, fO m = z := ⟨_, rfl⟩
      have HOM : Hid (∀ w, Calls Tryz.prog 89 #[.agg #[.int .i64 m.x, .int .i64 m.y]] w fun e w' => e = .returned (.int .i64 zm) ∧ Below w.heap.size w w') := fun w => l2Order_v hmo hzm w
      have HZM : Hid (fO m = zm) := hzm
      clear hC hgm hst hmo hm hOl hOo hO hzm
      go_wp2
      go_loopw [5] (fun kv wr => ∃ k : Nat, k ≤ i ∧ kv = .int .i64 k ∧ Hid (∀ j, j < k → fO (O.getD j zmk) ≤ fO m) ∧ Sg w wr [rG kM (.slice (some ⟨go, 0, none⟩) i co) O]) (fun kv _ => i - (intOf kv).toNat)
      case atStart => exact ⟨0, by omega, rfl, fun j hj => by omega, hS⟩
      case round =>
        clear hS
        obtain ⟨k, hk, rfl, hH, hSk⟩ := hrel
        have hS : ∀ w', Sg w w' [rG kM (.slice (some ⟨go, 0, none⟩) i co) O] → (w'.cell? ⟨g, off + i * 3, none⟩ = some (.int .i64 m.i) ∧ w'.cell? ⟨g, off + i * 3 + 1, none⟩ = some (.int .i64 m.x) ∧ w'.cell? ⟨g, off + i * 3 + 2, none⟩ = some (.int .i64 m.y)) := fun w' h => (HCC.out.1.step h.bel).mk HCC.out.2
        by_cases hki' : k < i
        · have hki : (k : Int) < i := by omega
          have hkO : k < O.length := by rw [HOL.out.1]; exact hki'
          have hga := getM hkO
          have hao := HOL.out.2 _ (List.mem_of_getElem? hga)
          obtain ⟨a, ha⟩ : ∃ a, O.getD k zmk = a := ⟨_, rfl⟩
          rw [ha] at hga hao
          obtain ⟨za, hza⟩ : ∃ z, fO a = z := ⟨_, rfl⟩
          have HOA : Hid (∀ w, Calls Tryz.prog 89 #[.agg #[.int .i64 a.x, .int .i64 a.y]] w fun e w' => e = .returned (.int .i64 za) ∧ Below w.heap.size w w') := fun w => l2Order_v hao hza w
          have HZA : Hid (fO a = za ∧ O.getD k zmk = a) := ⟨hza, ha⟩
          have HGA : Hid (O[k]? = some a) := hga
          have hS : ∀ w', Sg w w' [rG kM (.slice (some ⟨go, 0, none⟩) i co) O] → ((w'.cell? ⟨g, off + i * 3, none⟩ = some (.int .i64 m.i) ∧ w'.cell? ⟨g, off + i * 3 + 1, none⟩ = some (.int .i64 m.x) ∧ w'.cell? ⟨g, off + i * 3 + 2, none⟩ = some (.int .i64 m.y)) ∧ (w'.cell? ⟨go, k * 3, none⟩ = some (.int .i64 a.i) ∧ w'.cell? ⟨go, k * 3 + 1, none⟩ = some (.int .i64 a.x) ∧ w'.cell? ⟨go, k * 3 + 2, none⟩ = some (.int .i64 a.y))) := fun w' h => by
            refine ⟨hS w' h, ?_⟩
            have := (OwG.cs (h.mem (K := kM) (v := .slice (some ⟨go, 0, none⟩) i co) (L := O) (by simp))).mk HGA.out
            simpa only [Nat.zero_add] using this
          clear hga hao ha hza
          by_cases hle : za ≤ zm
          · go_wp2
            refine wp_region_quiet (C := fun w' => Sg w w' [rG kM (.slice (some ⟨go, 0, none⟩) i co) O]) (by kernel_rfl) (by kernel_rfl) ((hSk.step (Below.refl _ _).drew)) ?_
            refine q_intro (fun A hA => ?_)
            have hf : Fr 54 A [(0, .slice (some ⟨g, off, none⟩) n cap), (3, .slice (some ⟨go, 0, none⟩) i co), (4, .int .i64 (i : Int)), (5, .int .i64 (k : Int))] := by subst hA; exact ⟨rfl, by simp⟩
            refine q_step hf (d := 14) (v := .int .i64 (k : Int)) rfl rfl (by decide) (by simp) (fun w' hw' => ?_) (fun A hA14 hf => ?_)
            · have f5 := hf.get (d := 5) (v := .int .i64 (k : Int)) (by simp)
              clear hf
              simp [Oper.quietAt, Oper.quietUpon, go_sem, f5]
            refine q_step hf (d := 15) (v := .slice (some ⟨go, 0, none⟩) i co) rfl rfl (by decide) (by simp) (fun w' hw' => ?_) (fun A hA15 hf => ?_)
            · have f3 := hf.get (d := 3) (v := .slice (some ⟨go, 0, none⟩) i co) (by simp)
              clear hf
              simp [Oper.quietAt, Oper.quietUpon, go_sem, f3]
            refine q_step hf (d := 16) (v := .int .i64 (i : Int)) rfl rfl (by decide) (by simp) (fun w' hw' => ?_) (fun A hA16 hf => ?_)
            · have f15 := hf.get (d := 15) (v := .slice (some ⟨go, 0, none⟩) i co) (by simp)
              clear hf
              simp [Oper.quietAt, Oper.quietUpon, go_sem, f15]
            refine q_step hf (d := 17) (v := .bool true) rfl rfl (by decide) (by simp) (fun w' hw' => ?_) (fun A hA17 hf => ?_)
            · have f14 := hf.get (d := 14) (v := .int .i64 (k : Int)) (by simp)
              have f16 := hf.get (d := 16) (v := .int .i64 (i : Int)) (by simp)
              clear hf
              simp [Oper.quietAt, Oper.quietUpon, go_sem, f14, f16, hki]
            refine q_step hf (d := 18) (v := .bool true) rfl rfl (by decide) (by simp) (fun w' hw' => ?_) (fun A hA18 hf => ?_)
            · have f17 := hf.get (d := 17) (v := .bool true) (by simp)
              clear hf
              simp [Oper.quietAt, Oper.quietUpon, go_sem, f17]
            refine q_want hf (d := 19) (v := .slice (some ⟨go, 0, none⟩) i co) (e := 18) rfl rfl (by simp) rfl (by decide) (by simp) (fun w' hw' => ?_) (fun A hA19 hf => ?_)
            · have f3 := hf.get (d := 3) (v := .slice (some ⟨go, 0, none⟩) i co) (by simp)
              clear hf
              simp [Oper.quietAt, Oper.quietUpon, go_sem, f3]
            refine q_want hf (d := 20) (v := .int .i64 (k : Int)) (e := 18) rfl rfl (by simp) rfl (by decide) (by simp) (fun w' hw' => ?_) (fun A hA20 hf => ?_)
            · have f5 := hf.get (d := 5) (v := .int .i64 (k : Int)) (by simp)
              clear hf
              simp [Oper.quietAt, Oper.quietUpon, go_sem, f5]
            refine q_want hf (d := 21) (v := .pointer (some ⟨go, k * 3, none⟩)) (e := 18) rfl rfl (by simp) rfl (by decide) (by simp) (fun w' hw' => ?_) (fun A hA21 hf => ?_)
            · have f19 := hf.get (d := 19) (v := .slice (some ⟨go, 0, none⟩) i co) (by simp)
              have f20 := hf.get (d := 20) (v := .int .i64 (k : Int)) (by simp)
              clear hf
              simp [Oper.quietAt, Oper.quietUpon, go_sem, f19, f20, hki]
            refine q_want hf (d := 22) (v := .pointer (some ⟨go, k * 3 + 1, none⟩)) (e := 18) rfl rfl (by simp) rfl (by decide) (by simp) (fun w' hw' => ?_) (fun A hA22 hf => ?_)
            · have f21 := hf.get (d := 21) (v := .pointer (some ⟨go, k * 3, none⟩)) (by simp)
              clear hf
              simp [Oper.quietAt, Oper.quietUpon, go_sem, f21]
            refine q_want hf (d := 23) (v := .agg #[.int .i64 a.x, .int .i64 a.y]) (e := 18) rfl rfl (by simp) rfl (by decide) (by simp) (fun w' hw' => ?_) (fun A hA23 hf => ?_)
            · have hc := hS _ hw'
              have f22 := hf.get (d := 22) (v := .pointer (some ⟨go, k * 3 + 1, none⟩)) (by simp)
              clear hf
              simp [Oper.quietAt, Oper.quietUpon, go_sem, f22, hc]
            refine q_want hf (d := 24) (v := .int .i64 za) (e := 18) rfl rfl (by simp) rfl (by decide) (by simp) (fun w' hw' => ?_) (fun A hA24 hf => ?_)
            · have f23 := hf.get (d := 23) (v := .agg #[.int .i64 a.x, .int .i64 a.y]) (by simp)
              clear hf
              simp [Oper.quietAt, Oper.quietUpon, go_sem, f23]
              exact (HOA.out _).mono (fun e w'' hq => ⟨hq.1, hw'.step hq.2⟩)
            refine q_want hf (d := 25) (v := .slice (some ⟨g, off, none⟩) n cap) (e := 18) rfl rfl (by simp) rfl (by decide) (by simp) (fun w' hw' => ?_) (fun A hA25 hf => ?_)
            · have f0 := hf.get (d := 0) (v := .slice (some ⟨g, off, none⟩) n cap) (by simp)
              clear hf
              simp [Oper.quietAt, Oper.quietUpon, go_sem, f0]
            refine q_want hf (d := 26) (v := .int .i64 (i : Int)) (e := 18) rfl rfl (by simp) rfl (by decide) (by simp) (fun w' hw' => ?_) (fun A hA26 hf => ?_)
            · have f4 := hf.get (d := 4) (v := .int .i64 (i : Int)) (by simp)
              clear hf
              simp [Oper.quietAt, Oper.quietUpon, go_sem, f4]
            refine q_want hf (d := 27) (v := .pointer (some ⟨g, off + i * 3, none⟩)) (e := 18) rfl rfl (by simp) rfl (by decide) (by simp) (fun w' hw' => ?_) (fun A hA27 hf => ?_)
            · have f25 := hf.get (d := 25) (v := .slice (some ⟨g, off, none⟩) n cap) (by simp)
              have f26 := hf.get (d := 26) (v := .int .i64 (i : Int)) (by simp)
              clear hf
              simp [Oper.quietAt, Oper.quietUpon, go_sem, f25, f26, hii]
            refine q_want hf (d := 28) (v := .pointer (some ⟨g, off + i * 3 + 1, none⟩)) (e := 18) rfl rfl (by simp) rfl (by decide) (by simp) (fun w' hw' => ?_) (fun A hA28 hf => ?_)
            · have f27 := hf.get (d := 27) (v := .pointer (some ⟨g, off + i * 3, none⟩)) (by simp)
              clear hf
              simp [Oper.quietAt, Oper.quietUpon, go_sem, f27]
            refine q_want hf (d := 29) (v := .agg #[.int .i64 m.x, .int .i64 m.y]) (e := 18) rfl rfl (by simp) rfl (by decide) (by simp) (fun w' hw' => ?_) (fun A hA29 hf => ?_)
            · have hc := hS _ hw'
              have f28 := hf.get (d := 28) (v := .pointer (some ⟨g, off + i * 3 + 1, none⟩)) (by simp)
              clear hf
              simp [Oper.quietAt, Oper.quietUpon, go_sem, f28, hc]
            refine q_want hf (d := 30) (v := .int .i64 zm) (e := 18) rfl rfl (by simp) rfl (by decide) (by simp) (fun w' hw' => ?_) (fun A hA30 hf => ?_)
            · have f29 := hf.get (d := 29) (v := .agg #[.int .i64 m.x, .int .i64 m.y]) (by simp)
              clear hf
              simp [Oper.quietAt, Oper.quietUpon, go_sem, f29]
              exact (HOM.out _).mono (fun e w'' hq => ⟨hq.1, hw'.step hq.2⟩)
            refine q_want hf (d := 31) (v := .bool true) (e := 18) rfl rfl (by simp) rfl (by decide) (by simp) (fun w' hw' => ?_) (fun A hA31 hf => ?_)
            · have f24 := hf.get (d := 24) (v := .int .i64 za) (by simp)
              have f30 := hf.get (d := 30) (v := .int .i64 zm) (by simp)
              clear hf
              simp [Oper.quietAt, Oper.quietUpon, go_sem, f24, f30, hle]
            refine q_step hf (d := 32) (v := .bool true) rfl rfl (by decide) (by simp) (fun w' hw' => ?_) (fun A hA32 hf => ?_)
            · have f18 := hf.get (d := 18) (v := .bool true) (by simp)
              have f31 := hf.get (d := 31) (v := .bool true) (by simp)
              clear hf
              simp [Oper.quietAt, Oper.quietUpon, go_sem, f18, f31]
            refine wpQuiet_nil (fun w' hw' => ?_)
            clear hf
            subst hA32 hA31 hA30 hA29 hA28 hA27 hA26 hA25 hA24 hA23 hA22 hA21 hA20 hA19 hA18 hA17 hA16 hA15 hA14 hA
            simp only [Act.put, List.setIfInBounds_toArray, List.set_cons_succ, List.set_cons_zero]
            go_wp2
            go_roundw
            case rel =>
              refine ⟨k + 1, by omega, by go_num, (fun j hj => ?_), hw'⟩
              rcases Nat.lt_or_ge j k with h | h
              · exact hH.out j h
              · obtain rfl : j = k := by omega
                rw [HZA.out.2, HZA.out.1, HZM.out]; exact hle
            case measure => simp [intOf]; omega
          · have HHE : Hid (k = headM fO m O) := headM_is (by omega) hH.out (fun _ => by rw [HZA.out.2, HZA.out.1, HZM.out]; exact hle)
            go_wp2
            refine wp_region_quiet (C := fun w' => Sg w w' [rG kM (.slice (some ⟨go, 0, none⟩) i co) O]) (by kernel_rfl) (by kernel_rfl) ((hSk.step (Below.refl _ _).drew)) ?_
            refine q_intro (fun A hA => ?_)
            have hf : Fr 54 A [(0, .slice (some ⟨g, off, none⟩) n cap), (3, .slice (some ⟨go, 0, none⟩) i co), (4, .int .i64 (i : Int)), (5, .int .i64 (k : Int))] := by subst hA; exact ⟨rfl, by simp⟩
            refine q_step hf (d := 14) (v := .int .i64 (k : Int)) rfl rfl (by decide) (by simp) (fun w' hw' => ?_) (fun A hA14 hf => ?_)
            · have f5 := hf.get (d := 5) (v := .int .i64 (k : Int)) (by simp)
              clear hf
              simp [Oper.quietAt, Oper.quietUpon, go_sem, f5]
            refine q_step hf (d := 15) (v := .slice (some ⟨go, 0, none⟩) i co) rfl rfl (by decide) (by simp) (fun w' hw' => ?_) (fun A hA15 hf => ?_)
            · have f3 := hf.get (d := 3) (v := .slice (some ⟨go, 0, none⟩) i co) (by simp)
              clear hf
              simp [Oper.quietAt, Oper.quietUpon, go_sem, f3]
            refine q_step hf (d := 16) (v := .int .i64 (i : Int)) rfl rfl (by decide) (by simp) (fun w' hw' => ?_) (fun A hA16 hf => ?_)
            · have f15 := hf.get (d := 15) (v := .slice (some ⟨go, 0, none⟩) i co) (by simp)
              clear hf
              simp [Oper.quietAt, Oper.quietUpon, go_sem, f15]
            refine q_step hf (d := 17) (v := .bool true) rfl rfl (by decide) (by simp) (fun w' hw' => ?_) (fun A hA17 hf => ?_)
            · have f14 := hf.get (d := 14) (v := .int .i64 (k : Int)) (by simp)
              have f16 := hf.get (d := 16) (v := .int .i64 (i : Int)) (by simp)
              clear hf
              simp [Oper.quietAt, Oper.quietUpon, go_sem, f14, f16, hki]
            refine q_step hf (d := 18) (v := .bool true) rfl rfl (by decide) (by simp) (fun w' hw' => ?_) (fun A hA18 hf => ?_)
            · have f17 := hf.get (d := 17) (v := .bool true) (by simp)
              clear hf
              simp [Oper.quietAt, Oper.quietUpon, go_sem, f17]
            refine q_want hf (d := 19) (v := .slice (some ⟨go, 0, none⟩) i co) (e := 18) rfl rfl (by simp) rfl (by decide) (by simp) (fun w' hw' => ?_) (fun A hA19 hf => ?_)
            · have f3 := hf.get (d := 3) (v := .slice (some ⟨go, 0, none⟩) i co) (by simp)
              clear hf
              simp [Oper.quietAt, Oper.quietUpon, go_sem, f3]
            refine q_want hf (d := 20) (v := .int .i64 (k : Int)) (e := 18) rfl rfl (by simp) rfl (by decide) (by simp) (fun w' hw' => ?_) (fun A hA20 hf => ?_)
            · have f5 := hf.get (d := 5) (v := .int .i64 (k : Int)) (by simp)
              clear hf
              simp [Oper.quietAt, Oper.quietUpon, go_sem, f5]
            refine q_want hf (d := 21) (v := .pointer (some ⟨go, k * 3, none⟩)) (e := 18) rfl rfl (by simp) rfl (by decide) (by simp) (fun w' hw' => ?_) (fun A hA21 hf => ?_)
            · have f19 := hf.get (d := 19) (v := .slice (some ⟨go, 0, none⟩) i co) (by simp)
              have f20 := hf.get (d := 20) (v := .int .i64 (k : Int)) (by simp)
              clear hf
              simp [Oper.quietAt, Oper.quietUpon, go_sem, f19, f20, hki]
            refine q_want hf (d := 22) (v := .pointer (some ⟨go, k * 3 + 1, none⟩)) (e := 18) rfl rfl (by simp) rfl (by decide) (by simp) (fun w' hw' => ?_) (fun A hA22 hf => ?_)
            · have f21 := hf.get (d := 21) (v := .pointer (some ⟨go, k * 3, none⟩)) (by simp)
              clear hf
              simp [Oper.quietAt, Oper.quietUpon, go_sem, f21]
            refine q_want hf (d := 23) (v := .agg #[.int .i64 a.x, .int .i64 a.y]) (e := 18) rfl rfl (by simp) rfl (by decide) (by simp) (fun w' hw' => ?_) (fun A hA23 hf => ?_)
            · have hc := hS _ hw'
              have f22 := hf.get (d := 22) (v := .pointer (some ⟨go, k * 3 + 1, none⟩)) (by simp)
              clear hf
              simp [Oper.quietAt, Oper.quietUpon, go_sem, f22, hc]
            refine q_want hf (d := 24) (v := .int .i64 za) (e := 18) rfl rfl (by simp) rfl (by decide) (by simp) (fun w' hw' => ?_) (fun A hA24 hf => ?_)
            · have f23 := hf.get (d := 23) (v := .agg #[.int .i64 a.x, .int .i64 a.y]) (by simp)
              clear hf
              simp [Oper.quietAt, Oper.quietUpon, go_sem, f23]
              exact (HOA.out _).mono (fun e w'' hq => ⟨hq.1, hw'.step hq.2⟩)
            refine q_want hf (d := 25) (v := .slice (some ⟨g, off, none⟩) n cap) (e := 18) rfl rfl (by simp) rfl (by decide) (by simp) (fun w' hw' => ?_) (fun A hA25 hf => ?_)
            · have f0 := hf.get (d := 0) (v := .slice (some ⟨g, off, none⟩) n cap) (by simp)
              clear hf
              simp [Oper.quietAt, Oper.quietUpon, go_sem, f0]
            refine q_want hf (d := 26) (v := .int .i64 (i : Int)) (e := 18) rfl rfl (by simp) rfl (by decide) (by simp) (fun w' hw' => ?_) (fun A hA26 hf => ?_)
            · have f4 := hf.get (d := 4) (v := .int .i64 (i : Int)) (by simp)
              clear hf
              simp [Oper.quietAt, Oper.quietUpon, go_sem, f4]
            refine q_want hf (d := 27) (v := .pointer (some ⟨g, off + i * 3, none⟩)) (e := 18) rfl rfl (by simp) rfl (by decide) (by simp) (fun w' hw' => ?_) (fun A hA27 hf => ?_)
            · have f25 := hf.get (d := 25) (v := .slice (some ⟨g, off, none⟩) n cap) (by simp)
              have f26 := hf.get (d := 26) (v := .int .i64 (i : Int)) (by simp)
              clear hf
              simp [Oper.quietAt, Oper.quietUpon, go_sem, f25, f26, hii]
            refine q_want hf (d := 28) (v := .pointer (some ⟨g, off + i * 3 + 1, none⟩)) (e := 18) rfl rfl (by simp) rfl (by decide) (by simp) (fun w' hw' => ?_) (fun A hA28 hf => ?_)
            · have f27 := hf.get (d := 27) (v := .pointer (some ⟨g, off + i * 3, none⟩)) (by simp)
              clear hf
              simp [Oper.quietAt, Oper.quietUpon, go_sem, f27]
            refine q_want hf (d := 29) (v := .agg #[.int .i64 m.x, .int .i64 m.y]) (e := 18) rfl rfl (by simp) rfl (by decide) (by simp) (fun w' hw' => ?_) (fun A hA29 hf => ?_)
            · have hc := hS _ hw'
              have f28 := hf.get (d := 28) (v := .pointer (some ⟨g, off + i * 3 + 1, none⟩)) (by simp)
              clear hf
              simp [Oper.quietAt, Oper.quietUpon, go_sem, f28, hc]
            refine q_want hf (d := 30) (v := .int .i64 zm) (e := 18) rfl rfl (by simp) rfl (by decide) (by simp) (fun w' hw' => ?_) (fun A hA30 hf => ?_)
            · have f29 := hf.get (d := 29) (v := .agg #[.int .i64 m.x, .int .i64 m.y]) (by simp)
              clear hf
              simp [Oper.quietAt, Oper.quietUpon, go_sem, f29]
              exact (HOM.out _).mono (fun e w'' hq => ⟨hq.1, hw'.step hq.2⟩)
            refine q_want hf (d := 31) (v := .bool false) (e := 18) rfl rfl (by simp) rfl (by decide) (by simp) (fun w' hw' => ?_) (fun A hA31 hf => ?_)
            · have f24 := hf.get (d := 24) (v := .int .i64 za) (by simp)
              have f30 := hf.get (d := 30) (v := .int .i64 zm) (by simp)
              clear hf
              simp [Oper.quietAt, Oper.quietUpon, go_sem, f24, f30, hle]
            refine q_step hf (d := 32) (v := .bool false) rfl rfl (by decide) (by simp) (fun w' hw' => ?_) (fun A hA32 hf => ?_)
            · have f18 := hf.get (d := 18) (v := .bool true) (by simp)
              have f31 := hf.get (d := 31) (v := .bool false) (by simp)
              clear hf
              simp [Oper.quietAt, Oper.quietUpon, go_sem, f18, f31]
            refine wpQuiet_nil (fun w' hw' => ?_)
            clear hf
            subst hA32 hA31 hA30 hA29 hA28 hA27 hA26 hA25 hA24 hA23 hA22 hA21 hA20 hA19 hA18 hA17 hA16 hA15 hA14 hA
            simp only [Act.put, List.setIfInBounds_toArray, List.set_cons_succ, List.set_cons_zero]
            have hcap : i ≤ co := OwG.cap (hw'.mem (K := kM) (v := .slice (some ⟨go, 0, none⟩) i co) (L := O) (by simp))
            have hkco : k ≤ co := by omega
            have hco : ¬ co = k := by omega
            have hS1 : Sg w (w'.alloc (.cells #[] 45)) ([] ++ rG kM (.slice (some ⟨w'.heap.size, 0, none⟩) 0 0) [] :: [rG kM (.slice (some ⟨go, 0, none⟩) i co) O]) := hw'.lit kM [] 0 rfl (by decide) #[] rfl
            have HSR : Hid (∀ j u, (kM.flat (O.drop k))[j]? = some u → (w'.alloc (.cells #[] 45)).cell? ((⟨go, k * 3, none⟩ : Addr).add j) = some u) := (by have hh := cs_src ((OwG.cs (hS1.mem (K := kM) (v := .slice (some ⟨go, 0, none⟩) i co) (L := O) (by simp))).drop k); rw [Nat.zero_add] at hh; exact hh)
            have HDL : Hid ((O.drop k).length = (i - k)) := (show _ = (i - k) by rw [List.length_drop, HOL.out.1])
            have HTL : Hid ((O.take k).length = k) := (show _ = k by rw [List.length_take, HOL.out.1]; omega)
            clear hSk hH HOA HOM HZA HGA hS
            go_wp2_with (at_builtin; refine wpList_sgapp0 appM rfl _ _ rfl (A := []) (B := O.drop k) (m := (i - k)) hS1 (Below.refl _ _) HDL.out rfl ⟨go, k * 3, none⟩ (co - k) rfl HSR.out (oneM _) (.inr (by simp)) (by omega) ?_; intro gr cr w8 hS8 _ _)
            simp only [List.nil_append] at hS8
            have mc : ∀ W, Below w.heap.size w W → (W.cell? ⟨g, off + i * 3, none⟩ = some (.int .i64 m.i) ∧ W.cell? ⟨g, off + i * 3 + 1, none⟩ = some (.int .i64 m.x) ∧ W.cell? ⟨g, off + i * 3 + 2, none⟩ = some (.int .i64 m.y)) := fun W h => (HCC.out.1.step h).mk HCC.out.2
            have b0 := hS8.bel
            have mc0 := mc _ b0.drew
            have mc1 := mc _ ((b0.alloc b0.size (.cells #[] 45)).drew)
            -- the two literals, in either order
            have hSa : Sg w (w8.alloc (.cells #[] 45)) ([] ++ rG kM (.slice (some ⟨w8.heap.size, 0, none⟩) 0 0) [] :: [rG kM (.slice (some ⟨gr, 0, none⟩) (i - k) cr) (O.drop k), rG kM (.slice (some ⟨go, 0, none⟩) i co) O]) := hS8.lit kM [] 0 rfl (by decide) #[] rfl
            have hSb : Sg w ((w8.alloc (.cells #[] 45)).alloc (.cells #[.int .i64 m.i, .int .i64 m.x, .int .i64 m.y] 45)) ([rG kM (.slice (some ⟨w8.heap.size + 1, 0, none⟩) 1 1) [m]] ++ rG kM (.slice (some ⟨w8.heap.size, 0, none⟩) 0 0) [] :: [rG kM (.slice (some ⟨gr, 0, none⟩) (i - k) cr) (O.drop k), rG kM (.slice (some ⟨go, 0, none⟩) i co) O]) := by
              have := Sg.lit hSa kM [m] 1 rfl (by decide) #[.int .i64 m.i, .int .i64 m.x, .int .i64 m.y] rfl
              rw [World.size_alloc] at this; exact this
            have hSc : Sg w ((w8.alloc (.cells #[.int .i64 m.i, .int .i64 m.x, .int .i64 m.y] 45)).alloc (.cells #[] 45)) ([] ++ rG kM (.slice (some ⟨w8.heap.size + 1, 0, none⟩) 0 0) [] :: [rG kM (.slice (some ⟨w8.heap.size, 0, none⟩) 1 1) [m], rG kM (.slice (some ⟨gr, 0, none⟩) (i - k) cr) (O.drop k), rG kM (.slice (some ⟨go, 0, none⟩) i co) O]) := by
              have := Sg.lit (Sg.lit hS8 kM [m] 1 rfl (by decide) #[.int .i64 m.i, .int .i64 m.x, .int .i64 m.y] rfl) kM [] 0 rfl (by decide) #[] rfl
              rw [World.size_alloc] at this; exact this
            have HTK : Hid (∀ W rs, Sg w W rs → rG kM (.slice (some ⟨go, 0, none⟩) i co) O ∈ rs → ∀ j u, (kM.flat (O.take k))[j]? = some u → W.cell? ((⟨go, 0, none⟩ : Addr).add j) = some u) := fun W rs h hm => cs_src ((OwG.cs (h.mem (K := kM) hm)).take k)
            have HRS : Hid (∀ W rs, Sg w W rs → rG kM (.slice (some ⟨gr, 0, none⟩) (i - k) cr) (O.drop k) ∈ rs → ∀ j u, (kM.flat (O.drop k))[j]? = some u → W.cell? ((⟨gr, 0, none⟩ : Addr).add j) = some u) := fun W rs h hm => cs_src (OwG.cs (h.mem (K := kM) hm))
            have f1 : True := trivial
            clear hS1 HSR
            go_region_law (first
              | (clear f1; refine step_sgapp0 appM (by rfl) _ _ (by rfl) (A := []) (B := O.take k) (m := k) hSa ((Below.refl _ _).drew) HTL.out (by rfl) ⟨go, 0, none⟩ co (by rfl) (HTK.out _ _ (hSa.step (Below.refl _ _).drew) (by simp)) (oneM _) (.inr (by simp)) (by omega) ?_; intro g1 c1 w4 hS4 _ _; have f2 : True := trivial; have mc2 := mc _ hS4.bel)
              | (clear f1; refine step_sgapp0 appM (by rfl) _ _ (by rfl) (A := [_]) (B := O.take k) (m := k) hSb ((Below.refl _ _).drew) HTL.out (by rfl) ⟨go, 0, none⟩ co (by rfl) (HTK.out _ _ (hSb.step (Below.refl _ _).drew) (by simp)) (oneM _) (.inr (by simp)) (by omega) ?_; intro g1 c1 w4 hS4 _ _; have f3 : True := trivial; have mc2 := mc _ hS4.bel)
              | (clear f1; refine step_sgapp0 appM (by rfl) _ _ (by rfl) (A := []) (B := O.take k) (m := k) hSc ((Below.refl _ _).drew) HTL.out (by rfl) ⟨go, 0, none⟩ co (by rfl) (HTK.out _ _ (hSc.step (Below.refl _ _).drew) (by simp)) (oneM _) (.inr (by simp)) (by omega) ?_; intro g1 c1 w4 hS4 _ _; have f4 : True := trivial; have mc2 := mc _ hS4.bel)
              | (clear f2; refine step_sgapp appM (by rfl) _ _ (by rfl) (A := []) (B := [m]) (n := k) (m := 1) hS4 (below_alloc1 _ _) HTL.out rfl (by rfl) ⟨w4.heap.size, 0, none⟩ 1 (by rfl) (lit_src (xs := [.int .i64 m.i, .int .i64 m.x, .int .i64 m.y]) rfl) (oneM _) (.inl (by decide)) (by omega) ?_; intro g2 c2 w5 hS5 _ _; have f5 : True := trivial)
              | (clear f3; refine step_sgapp appM (by rfl) _ _ (by rfl) (A := [_]) (B := [m]) (n := k) (m := 1) hS4 (Below.refl _ _) HTL.out rfl (by rfl) ⟨w8.heap.size + 1, 0, none⟩ 1 (by rfl) (cs_src (OwG.cs (hS4.mem (K := kM) (v := .slice (some ⟨w8.heap.size + 1, 0, none⟩) 1 1) (L := [m]) (by simp)))) (oneM _) (.inl (by decide)) (by omega) ?_; intro g2 c2 w5 hS5 _ _; have f5 : True := trivial)
              | (clear f4; refine step_sgapp appM (by rfl) _ _ (by rfl) (A := []) (B := [m]) (n := k) (m := 1) hS4 (Below.refl _ _) HTL.out rfl (by rfl) ⟨w8.heap.size, 0, none⟩ 1 (by rfl) (cs_src (OwG.cs (hS4.mem (K := kM) (v := .slice (some ⟨w8.heap.size, 0, none⟩) 1 1) (L := [m]) (by simp)))) (oneM _) (.inl (by decide)) (by omega) ?_; intro g2 c2 w5 hS5 _ _; have f5 : True := trivial)
              | (clear f5; refine step_sgapp appM (by rfl) _ _ (by rfl) (A := []) (B := O.drop k) (n := k + 1) (m := (i - k)) hS5 (Below.refl _ _) (by rw [List.length_append, HTL.out]; rfl) HDL.out (by rfl) ⟨gr, 0, none⟩ cr (by rfl) (HRS.out _ _ hS5 (by simp)) (oneM _) (.inr (by simp)) (by omega) ?_; intro g3 c3 w6 hS6 _ _)
              | (clear f5; refine step_sgapp appM (by rfl) _ _ (by rfl) (A := [_]) (B := O.drop k) (n := k + 1) (m := (i - k)) hS5 (Below.refl _ _) (by rw [List.length_append, HTL.out]; rfl) HDL.out (by rfl) ⟨gr, 0, none⟩ cr (by rfl) (HRS.out _ _ hS5 (by simp)) (oneM _) (.inr (by simp)) (by omega) ?_; intro g3 c3 w6 hS6 _ _))
            all_goals
              simp only [List.getElem_toArray, List.getElem_cons_succ, List.getElem_cons_zero, Act.put, List.setIfInBounds_toArray, List.set_cons_succ, List.set_cons_zero]
              go_wp2
              have hfin : O.take k ++ [m] ++ O.drop k = srtM fO (L.take (i + 1)) := by
                rw [HST.out, insM_cut, ← HHE.out, List.append_assoc]; rfl
              have hlen : k + 1 + (i - k) = i + 1 := by omega
              rw [hfin, hlen] at hS6
              go_roundw
              case rel => exact ⟨i + 1, g3, c3, by omega, by go_num, by rw [← hlen], hS6.sub (by simp)⟩
              case measure => simp [intOf]; omega
        · have hki : ¬ (k : Int) < i := by omega
          have HHE : Hid (k = headM fO m O) := headM_is (by rw [HOL.out.1]; omega) hH.out (fun h => by rw [HOL.out.1] at h; omega)
          obtain rfl : k = i := by omega
          have hsub0 : k - k = 0 := by omega
          go_wp2
          refine wp_region_quiet (C := fun w' => Sg w w' [rG kM (.slice (some ⟨go, 0, none⟩) k co) O]) (by kernel_rfl) (by kernel_rfl) ((hSk.step (Below.refl _ _).drew)) ?_
          refine q_intro (fun A hA => ?_)
          have hf : Fr 54 A [(0, .slice (some ⟨g, off, none⟩) n cap), (3, .slice (some ⟨go, 0, none⟩) k co), (4, .int .i64 (k : Int)), (5, .int .i64 (k : Int))] := by subst hA; exact ⟨rfl, by simp⟩
          refine q_step hf (d := 14) (v := .int .i64 (k : Int)) rfl rfl (by decide) (by simp) (fun w' hw' => ?_) (fun A hA14 hf => ?_)
          · have f5 := hf.get (d := 5) (v := .int .i64 (k : Int)) (by simp)
            clear hf
            simp [Oper.quietAt, Oper.quietUpon, go_sem, f5]
          refine q_step hf (d := 15) (v := .slice (some ⟨go, 0, none⟩) k co) rfl rfl (by decide) (by simp) (fun w' hw' => ?_) (fun A hA15 hf => ?_)
          · have f3 := hf.get (d := 3) (v := .slice (some ⟨go, 0, none⟩) k co) (by simp)
            clear hf
            simp [Oper.quietAt, Oper.quietUpon, go_sem, f3]
          refine q_step hf (d := 16) (v := .int .i64 (k : Int)) rfl rfl (by decide) (by simp) (fun w' hw' => ?_) (fun A hA16 hf => ?_)
          · have f15 := hf.get (d := 15) (v := .slice (some ⟨go, 0, none⟩) k co) (by simp)
            clear hf
            simp [Oper.quietAt, Oper.quietUpon, go_sem, f15]
          refine q_step hf (d := 17) (v := .bool false) rfl rfl (by decide) (by simp) (fun w' hw' => ?_) (fun A hA17 hf => ?_)
          · have f14 := hf.get (d := 14) (v := .int .i64 (k : Int)) (by simp)
            have f16 := hf.get (d := 16) (v := .int .i64 (k : Int)) (by simp)
            clear hf
            simp [Oper.quietAt, Oper.quietUpon, go_sem, f14, f16]
          refine q_step hf (d := 18) (v := .bool false) rfl rfl (by decide) (by simp) (fun w' hw' => ?_) (fun A hA18 hf => ?_)
          · have f17 := hf.get (d := 17) (v := .bool false) (by simp)
            clear hf
            simp [Oper.quietAt, Oper.quietUpon, go_sem, f17]
          refine q_skip hf (d := 19) (e := 18) (b := false) rfl rfl (by simp) rfl rfl (by decide) (by simp) (fun A hA19 hf => ?_)
          refine q_skip hf (d := 20) (e := 18) (b := false) rfl rfl (by simp) rfl rfl (by decide) (by simp) (fun A hA20 hf => ?_)
          refine q_skip hf (d := 21) (e := 18) (b := false) rfl rfl (by simp) rfl rfl (by decide) (by simp) (fun A hA21 hf => ?_)
          refine q_skip hf (d := 22) (e := 18) (b := false) rfl rfl (by simp) rfl rfl (by decide) (by simp) (fun A hA22 hf => ?_)
          refine q_skip hf (d := 23) (e := 18) (b := false) rfl rfl (by simp) rfl rfl (by decide) (by simp) (fun A hA23 hf => ?_)
          refine q_skip hf (d := 24) (e := 18) (b := false) rfl rfl (by simp) rfl rfl (by decide) (by simp) (fun A hA24 hf => ?_)
          refine q_skip hf (d := 25) (e := 18) (b := false) rfl rfl (by simp) rfl rfl (by decide) (by simp) (fun A hA25 hf => ?_)
          refine q_skip hf (d := 26) (e := 18) (b := false) rfl rfl (by simp) rfl rfl (by decide) (by simp) (fun A hA26 hf => ?_)
          refine q_skip hf (d := 27) (e := 18) (b := false) rfl rfl (by simp) rfl rfl (by decide) (by simp) (fun A hA27 hf => ?_)
          refine q_skip hf (d := 28) (e := 18) (b := false) rfl rfl (by simp) rfl rfl (by decide) (by simp) (fun A hA28 hf => ?_)
          refine q_skip hf (d := 29) (e := 18) (b := false) rfl rfl (by simp) rfl rfl (by decide) (by simp) (fun A hA29 hf => ?_)
          refine q_skip hf (d := 30) (e := 18) (b := false) rfl rfl (by simp) rfl rfl (by decide) (by simp) (fun A hA30 hf => ?_)
          refine q_skip hf (d := 31) (e := 18) (b := false) rfl rfl (by simp) rfl rfl (by decide) (by simp) (fun A hA31 hf => ?_)
          refine q_step hf (d := 32) (v := .bool false) rfl rfl (by decide) (by simp) (fun w' hw' => ?_) (fun A hA32 hf => ?_)
          · have f18 := hf.get (d := 18) (v := .bool false) (by simp)
            clear hf
            simp [Oper.quietAt, Oper.quietUpon, go_sem, f18]
          refine wpQuiet_nil (fun w' hw' => ?_)
          clear hf
          subst hA32 hA31 hA30 hA29 hA28 hA27 hA26 hA25 hA24 hA23 hA22 hA21 hA20 hA19 hA18 hA17 hA16 hA15 hA14 hA
          simp only [Act.put, List.setIfInBounds_toArray, List.set_cons_succ, List.set_cons_zero]
          have hcap : k ≤ co := OwG.cap (hw'.mem (K := kM) (v := .slice (some ⟨go, 0, none⟩) k co) (L := O) (by simp))
          by_cases hco : co = k
          · subst hco
            have hkco : co ≤ co := by omega
            
            have hS1 : Sg w (w'.alloc (.cells #[] 45)) ([] ++ rG kM (.slice (some ⟨w'.heap.size, 0, none⟩) 0 0) [] :: [rG kM (.slice (some ⟨go, 0, none⟩) co co) O]) := hw'.lit kM [] 0 rfl (by decide) #[] rfl
            have HSR : Hid (∀ j u, (kM.flat (O.drop co))[j]? = some u → (w'.alloc (.cells #[] 45)).cell? ((⟨go, 0, none⟩ : Addr).add j) = some u) := (fun j u hj => by rw [List.drop_eq_nil_of_le (by rw [HOL.out.1]; exact Nat.le_refl _)] at hj; simp [Kd.flat] at hj)
            have HDL : Hid ((O.drop co).length = 0) := (show _ = 0 by rw [List.length_drop, HOL.out.1]; omega)
            have HTL : Hid ((O.take co).length = co) := (show _ = co by rw [List.length_take, HOL.out.1]; omega)
            clear hSk hH HOM hS
            go_wp2_with (at_builtin; refine wpList_sgapp0 appM rfl _ _ rfl (A := []) (B := O.drop co) (m := 0) hS1 (Below.refl _ _) HDL.out rfl ⟨go, 0, none⟩ 0 rfl HSR.out (oneM _) (.inr (by simp)) (by omega) ?_; intro gr cr w8 hS8 _ _)
            simp only [List.nil_append] at hS8
            have mc : ∀ W, Below w.heap.size w W → (W.cell? ⟨g, off + co * 3, none⟩ = some (.int .i64 m.i) ∧ W.cell? ⟨g, off + co * 3 + 1, none⟩ = some (.int .i64 m.x) ∧ W.cell? ⟨g, off + co * 3 + 2, none⟩ = some (.int .i64 m.y)) := fun W h => (HCC.out.1.step h).mk HCC.out.2
            have b0 := hS8.bel
            have mc0 := mc _ b0.drew
            have mc1 := mc _ ((b0.alloc b0.size (.cells #[] 45)).drew)
            -- the two literals, in either order
            have hSa : Sg w (w8.alloc (.cells #[] 45)) ([] ++ rG kM (.slice (some ⟨w8.heap.size, 0, none⟩) 0 0) [] :: [rG kM (.slice (some ⟨gr, 0, none⟩) 0 cr) (O.drop co), rG kM (.slice (some ⟨go, 0, none⟩) co co) O]) := hS8.lit kM [] 0 rfl (by decide) #[] rfl
            have hSb : Sg w ((w8.alloc (.cells #[] 45)).alloc (.cells #[.int .i64 m.i, .int .i64 m.x, .int .i64 m.y] 45)) ([rG kM (.slice (some ⟨w8.heap.size + 1, 0, none⟩) 1 1) [m]] ++ rG kM (.slice (some ⟨w8.heap.size, 0, none⟩) 0 0) [] :: [rG kM (.slice (some ⟨gr, 0, none⟩) 0 cr) (O.drop co), rG kM (.slice (some ⟨go, 0, none⟩) co co) O]) := by
              have := Sg.lit hSa kM [m] 1 rfl (by decide) #[.int .i64 m.i, .int .i64 m.x, .int .i64 m.y] rfl
              rw [World.size_alloc] at this; exact this
            have hSc : Sg w ((w8.alloc (.cells #[.int .i64 m.i, .int .i64 m.x, .int .i64 m.y] 45)).alloc (.cells #[] 45)) ([] ++ rG kM (.slice (some ⟨w8.heap.size + 1, 0, none⟩) 0 0) [] :: [rG kM (.slice (some ⟨w8.heap.size, 0, none⟩) 1 1) [m], rG kM (.slice (some ⟨gr, 0, none⟩) 0 cr) (O.drop co), rG kM (.slice (some ⟨go, 0, none⟩) co co) O]) := by
              have := Sg.lit (Sg.lit hS8 kM [m] 1 rfl (by decide) #[.int .i64 m.i, .int .i64 m.x, .int .i64 m.y] rfl) kM [] 0 rfl (by decide) #[] rfl
              rw [World.size_alloc] at this; exact this
            have HTK : Hid (∀ W rs, Sg w W rs → rG kM (.slice (some ⟨go, 0, none⟩) co co) O ∈ rs → ∀ j u, (kM.flat (O.take co))[j]? = some u → W.cell? ((⟨go, 0, none⟩ : Addr).add j) = some u) := fun W rs h hm => cs_src ((OwG.cs (h.mem (K := kM) hm)).take co)
            have HRS : Hid (∀ W rs, Sg w W rs → rG kM (.slice (some ⟨gr, 0, none⟩) 0 cr) (O.drop co) ∈ rs → ∀ j u, (kM.flat (O.drop co))[j]? = some u → W.cell? ((⟨gr, 0, none⟩ : Addr).add j) = some u) := fun W rs h hm => cs_src (OwG.cs (h.mem (K := kM) hm))
            have f1 : True := trivial
            clear hS1 HSR
            go_region_law (first
              | (clear f1; refine step_sgapp0 appM (by rfl) _ _ (by rfl) (A := []) (B := O.take co) (m := co) hSa ((Below.refl _ _).drew) HTL.out (by rfl) ⟨go, 0, none⟩ co (by rfl) (HTK.out _ _ (hSa.step (Below.refl _ _).drew) (by simp)) (oneM _) (.inr (by simp)) (by omega) ?_; intro g1 c1 w4 hS4 _ _; have f2 : True := trivial; have mc2 := mc _ hS4.bel)
              | (clear f1; refine step_sgapp0 appM (by rfl) _ _ (by rfl) (A := [_]) (B := O.take co) (m := co) hSb ((Below.refl _ _).drew) HTL.out (by rfl) ⟨go, 0, none⟩ co (by rfl) (HTK.out _ _ (hSb.step (Below.refl _ _).drew) (by simp)) (oneM _) (.inr (by simp)) (by omega) ?_; intro g1 c1 w4 hS4 _ _; have f3 : True := trivial; have mc2 := mc _ hS4.bel)
              | (clear f1; refine step_sgapp0 appM (by rfl) _ _ (by rfl) (A := []) (B := O.take co) (m := co) hSc ((Below.refl _ _).drew) HTL.out (by rfl) ⟨go, 0, none⟩ co (by rfl) (HTK.out _ _ (hSc.step (Below.refl _ _).drew) (by simp)) (oneM _) (.inr (by simp)) (by omega) ?_; intro g1 c1 w4 hS4 _ _; have f4 : True := trivial; have mc2 := mc _ hS4.bel)
              | (clear f2; refine step_sgapp appM (by rfl) _ _ (by rfl) (A := []) (B := [m]) (n := co) (m := 1) hS4 (below_alloc1 _ _) HTL.out rfl (by rfl) ⟨w4.heap.size, 0, none⟩ 1 (by rfl) (lit_src (xs := [.int .i64 m.i, .int .i64 m.x, .int .i64 m.y]) rfl) (oneM _) (.inl (by decide)) (by omega) ?_; intro g2 c2 w5 hS5 _ _; have f5 : True := trivial)
              | (clear f3; refine step_sgapp appM (by rfl) _ _ (by rfl) (A := [_]) (B := [m]) (n := co) (m := 1) hS4 (Below.refl _ _) HTL.out rfl (by rfl) ⟨w8.heap.size + 1, 0, none⟩ 1 (by rfl) (cs_src (OwG.cs (hS4.mem (K := kM) (v := .slice (some ⟨w8.heap.size + 1, 0, none⟩) 1 1) (L := [m]) (by simp)))) (oneM _) (.inl (by decide)) (by omega) ?_; intro g2 c2 w5 hS5 _ _; have f5 : True := trivial)
              | (clear f4; refine step_sgapp appM (by rfl) _ _ (by rfl) (A := []) (B := [m]) (n := co) (m := 1) hS4 (Below.refl _ _) HTL.out rfl (by rfl) ⟨w8.heap.size, 0, none⟩ 1 (by rfl) (cs_src (OwG.cs (hS4.mem (K := kM) (v := .slice (some ⟨w8.heap.size, 0, none⟩) 1 1) (L := [m]) (by simp)))) (oneM _) (.inl (by decide)) (by omega) ?_; intro g2 c2 w5 hS5 _ _; have f5 : True := trivial)
              | (clear f5; refine step_sgapp appM (by rfl) _ _ (by rfl) (A := []) (B := O.drop co) (n := co + 1) (m := 0) hS5 (Below.refl _ _) (by rw [List.length_append, HTL.out]; rfl) HDL.out (by rfl) ⟨gr, 0, none⟩ cr (by rfl) (HRS.out _ _ hS5 (by simp)) (oneM _) (.inr (by simp)) (by omega) ?_; intro g3 c3 w6 hS6 _ _)
              | (clear f5; refine step_sgapp appM (by rfl) _ _ (by rfl) (A := [_]) (B := O.drop co) (n := co + 1) (m := 0) hS5 (Below.refl _ _) (by rw [List.length_append, HTL.out]; rfl) HDL.out (by rfl) ⟨gr, 0, none⟩ cr (by rfl) (HRS.out _ _ hS5 (by simp)) (oneM _) (.inr (by simp)) (by omega) ?_; intro g3 c3 w6 hS6 _ _))
            all_goals
              simp only [List.getElem_toArray, List.getElem_cons_succ, List.getElem_cons_zero, Act.put, List.setIfInBounds_toArray, List.set_cons_succ, List.set_cons_zero]
              go_wp2
              have hfin : O.take co ++ [m] ++ O.drop co = srtM fO (L.take (co + 1)) := by
                rw [HST.out, insM_cut, ← HHE.out, List.append_assoc]; rfl
              have hlen : co + 1 + 0 = co + 1 := by omega
              rw [hfin, hlen] at hS6
              go_roundw
              case rel => exact ⟨co + 1, g3, c3, by omega, by go_num, by rw [← hlen], hS6.sub (by simp)⟩
              case measure => simp [intOf]; omega
          · skip
            have hkco : k ≤ co := by omega
            
            have hS1 : Sg w (w'.alloc (.cells #[] 45)) ([] ++ rG kM (.slice (some ⟨w'.heap.size, 0, none⟩) 0 0) [] :: [rG kM (.slice (some ⟨go, 0, none⟩) k co) O]) := hw'.lit kM [] 0 rfl (by decide) #[] rfl
            have HSR : Hid (∀ j u, (kM.flat (O.drop k))[j]? = some u → (w'.alloc (.cells #[] 45)).cell? ((⟨go, k * 3, none⟩ : Addr).add j) = some u) := (by have hh := cs_src ((OwG.cs (hS1.mem (K := kM) (v := .slice (some ⟨go, 0, none⟩) k co) (L := O) (by simp))).drop k); rw [Nat.zero_add] at hh; exact hh)
            have HDL : Hid ((O.drop k).length = 0) := (show _ = 0 by rw [List.length_drop, HOL.out.1]; omega)
            have HTL : Hid ((O.take k).length = k) := (show _ = k by rw [List.length_take, HOL.out.1]; omega)
            clear hSk hH HOM hS
            go_wp2_with (at_builtin; refine wpList_sgapp0 appM rfl _ _ rfl (A := []) (B := O.drop k) (m := 0) hS1 (Below.refl _ _) HDL.out rfl ⟨go, k * 3, none⟩ (co - k) rfl HSR.out (oneM _) (.inr (by simp)) (by omega) ?_; intro gr cr w8 hS8 _ _)
            simp only [List.nil_append] at hS8
            have mc : ∀ W, Below w.heap.size w W → (W.cell? ⟨g, off + k * 3, none⟩ = some (.int .i64 m.i) ∧ W.cell? ⟨g, off + k * 3 + 1, none⟩ = some (.int .i64 m.x) ∧ W.cell? ⟨g, off + k * 3 + 2, none⟩ = some (.int .i64 m.y)) := fun W h => (HCC.out.1.step h).mk HCC.out.2
            have b0 := hS8.bel
            have mc0 := mc _ b0.drew
            have mc1 := mc _ ((b0.alloc b0.size (.cells #[] 45)).drew)
            -- the two literals, in either order
            have hSa : Sg w (w8.alloc (.cells #[] 45)) ([] ++ rG kM (.slice (some ⟨w8.heap.size, 0, none⟩) 0 0) [] :: [rG kM (.slice (some ⟨gr, 0, none⟩) 0 cr) (O.drop k), rG kM (.slice (some ⟨go, 0, none⟩) k co) O]) := hS8.lit kM [] 0 rfl (by decide) #[] rfl
            have hSb : Sg w ((w8.alloc (.cells #[] 45)).alloc (.cells #[.int .i64 m.i, .int .i64 m.x, .int .i64 m.y] 45)) ([rG kM (.slice (some ⟨w8.heap.size + 1, 0, none⟩) 1 1) [m]] ++ rG kM (.slice (some ⟨w8.heap.size, 0, none⟩) 0 0) [] :: [rG kM (.slice (some ⟨gr, 0, none⟩) 0 cr) (O.drop k), rG kM (.slice (some ⟨go, 0, none⟩) k co) O]) := by
              have := Sg.lit hSa kM [m] 1 rfl (by decide) #[.int .i64 m.i, .int .i64 m.x, .int .i64 m.y] rfl
              rw [World.size_alloc] at this; exact this
            have hSc : Sg w ((w8.alloc (.cells #[.int .i64 m.i, .int .i64 m.x, .int .i64 m.y] 45)).alloc (.cells #[] 45)) ([] ++ rG kM (.slice (some ⟨w8.heap.size + 1, 0, none⟩) 0 0) [] :: [rG kM (.slice (some ⟨w8.heap.size, 0, none⟩) 1 1) [m], rG kM (.slice (some ⟨gr, 0, none⟩) 0 cr) (O.drop k), rG kM (.slice (some ⟨go, 0, none⟩) k co) O]) := by
              have := Sg.lit (Sg.lit hS8 kM [m] 1 rfl (by decide) #[.int .i64 m.i, .int .i64 m.x, .int .i64 m.y] rfl) kM [] 0 rfl (by decide) #[] rfl
              rw [World.size_alloc] at this; exact this
            have HTK : Hid (∀ W rs, Sg w W rs → rG kM (.slice (some ⟨go, 0, none⟩) k co) O ∈ rs → ∀ j u, (kM.flat (O.take k))[j]? = some u → W.cell? ((⟨go, 0, none⟩ : Addr).add j) = some u) := fun W rs h hm => cs_src ((OwG.cs (h.mem (K := kM) hm)).take k)
            have HRS : Hid (∀ W rs, Sg w W rs → rG kM (.slice (some ⟨gr, 0, none⟩) 0 cr) (O.drop k) ∈ rs → ∀ j u, (kM.flat (O.drop k))[j]? = some u → W.cell? ((⟨gr, 0, none⟩ : Addr).add j) = some u) := fun W rs h hm => cs_src (OwG.cs (h.mem (K := kM) hm))
            have f1 : True := trivial
            clear hS1 HSR
            go_region_law (first
              | (clear f1; refine step_sgapp0 appM (by rfl) _ _ (by rfl) (A := []) (B := O.take k) (m := k) hSa ((Below.refl _ _).drew) HTL.out (by rfl) ⟨go, 0, none⟩ co (by rfl) (HTK.out _ _ (hSa.step (Below.refl _ _).drew) (by simp)) (oneM _) (.inr (by simp)) (by omega) ?_; intro g1 c1 w4 hS4 _ _; have f2 : True := trivial; have mc2 := mc _ hS4.bel)
              | (clear f1; refine step_sgapp0 appM (by rfl) _ _ (by rfl) (A := [_]) (B := O.take k) (m := k) hSb ((Below.refl _ _).drew) HTL.out (by rfl) ⟨go, 0, none⟩ co (by rfl) (HTK.out _ _ (hSb.step (Below.refl _ _).drew) (by simp)) (oneM _) (.inr (by simp)) (by omega) ?_; intro g1 c1 w4 hS4 _ _; have f3 : True := trivial; have mc2 := mc _ hS4.bel)
              | (clear f1; refine step_sgapp0 appM (by rfl) _ _ (by rfl) (A := []) (B := O.take k) (m := k) hSc ((Below.refl _ _).drew) HTL.out (by rfl) ⟨go, 0, none⟩ co (by rfl) (HTK.out _ _ (hSc.step (Below.refl _ _).drew) (by simp)) (oneM _) (.inr (by simp)) (by omega) ?_; intro g1 c1 w4 hS4 _ _; have f4 : True := trivial; have mc2 := mc _ hS4.bel)
              | (clear f2; refine step_sgapp appM (by rfl) _ _ (by rfl) (A := []) (B := [m]) (n := k) (m := 1) hS4 (below_alloc1 _ _) HTL.out rfl (by rfl) ⟨w4.heap.size, 0, none⟩ 1 (by rfl) (lit_src (xs := [.int .i64 m.i, .int .i64 m.x, .int .i64 m.y]) rfl) (oneM _) (.inl (by decide)) (by omega) ?_; intro g2 c2 w5 hS5 _ _; have f5 : True := trivial)
              | (clear f3; refine step_sgapp appM (by rfl) _ _ (by rfl) (A := [_]) (B := [m]) (n := k) (m := 1) hS4 (Below.refl _ _) HTL.out rfl (by rfl) ⟨w8.heap.size + 1, 0, none⟩ 1 (by rfl) (cs_src (OwG.cs (hS4.mem (K := kM) (v := .slice (some ⟨w8.heap.size + 1, 0, none⟩) 1 1) (L := [m]) (by simp)))) (oneM _) (.inl (by decide)) (by omega) ?_; intro g2 c2 w5 hS5 _ _; have f5 : True := trivial)
              | (clear f4; refine step_sgapp appM (by rfl) _ _ (by rfl) (A := []) (B := [m]) (n := k) (m := 1) hS4 (Below.refl _ _) HTL.out rfl (by rfl) ⟨w8.heap.size, 0, none⟩ 1 (by rfl) (cs_src (OwG.cs (hS4.mem (K := kM) (v := .slice (some ⟨w8.heap.size, 0, none⟩) 1 1) (L := [m]) (by simp)))) (oneM _) (.inl (by decide)) (by omega) ?_; intro g2 c2 w5 hS5 _ _; have f5 : True := trivial)
              | (clear f5; refine step_sgapp appM (by rfl) _ _ (by rfl) (A := []) (B := O.drop k) (n := k + 1) (m := 0) hS5 (Below.refl _ _) (by rw [List.length_append, HTL.out]; rfl) HDL.out (by rfl) ⟨gr, 0, none⟩ cr (by rfl) (HRS.out _ _ hS5 (by simp)) (oneM _) (.inr (by simp)) (by omega) ?_; intro g3 c3 w6 hS6 _ _)
              | (clear f5; refine step_sgapp appM (by rfl) _ _ (by rfl) (A := [_]) (B := O.drop k) (n := k + 1) (m := 0) hS5 (Below.refl _ _) (by rw [List.length_append, HTL.out]; rfl) HDL.out (by rfl) ⟨gr, 0, none⟩ cr (by rfl) (HRS.out _ _ hS5 (by simp)) (oneM _) (.inr (by simp)) (by omega) ?_; intro g3 c3 w6 hS6 _ _))
            all_goals
              simp only [List.getElem_toArray, List.getElem_cons_succ, List.getElem_cons_zero, Act.put, List.setIfInBounds_toArray, List.set_cons_succ, List.set_cons_zero]
              go_wp2
              have hfin : O.take k ++ [m] ++ O.drop k = srtM fO (L.take (k + 1)) := by
                rw [HST.out, insM_cut, ← HHE.out, List.append_assoc]; rfl
              have hlen : k + 1 + 0 = k + 1 := by omega
              rw [hfin, hlen] at hS6
              go_roundw
              case rel => exact ⟨k + 1, g3, c3, by omega, by go_num, by rw [← hlen], hS6.sub (by simp)⟩
              case measure => simp [intOf]; omega
    · obtain rfl : i = n := by omega
      rw [List.take_of_length_le (by rw [HN.out.1]; exact Nat.le_refl _)] at hS
      go_wp2
      go_ret
      exact ⟨go, co, rfl, hS⟩
end Go.Proofs.YtipfcmfcdfofmaaGreat
