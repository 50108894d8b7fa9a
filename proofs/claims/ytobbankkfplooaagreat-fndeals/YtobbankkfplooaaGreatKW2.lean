/-
  Lists of Batches and Deals that are alike, as the law holds them against each other.
-/
import Derived.Test.YtobbankkfplooaaGreatKW1
namespace Go.Proofs.YtobbankkfplooaaGreat.K.G
open Go.Shelf Go.RowKit Go.Joins Y
attribute [local go_sem] Oper.semAt_some

set_option maxHeartbeats 2000000 in
theorem likeBatches_same (p q : Option Addr) (cp cq : Nat) (A B : List YQ) (n : Nat) (hn : A.length = n) (he : yds A = yds B) (hsm : ∀ y ∈ A, y.2.n ≤ 1000000) (w : World) (hp : RdY w p A) (hq : RdY w q B) (hb0 : n ≤ 1000000) :
    Calls Tryz.prog 42 #[.slice p n cp, .slice q n cq] w fun e w' => e = .returned (.bool true) ∧ Below w.heap.size w w' := by
  have hl : B.length = n := by rw [← yds_len, ← he, yds_len, hn]
  have HN : Hid (A.length = n ∧ B.length = n ∧ yds A = yds B ∧ (∀ y ∈ A, y.2.n ≤ 1000000) ∧ RdY w p A ∧ RdY w q B) := ⟨hn, hl, he, hsm, hp, hq⟩
  clear hn hl he hsm hp hq
  go_enter Tryz.func42, Tryz.ntmps42
  go_wp2
  go_loopw [5] (fun i wr => ∃ k : Nat, i = .int .i64 k ∧ k ≤ n ∧ Below w.heap.size w wr) (fun i _ => n - (intOf i).toNat)
  case atStart => exact ⟨0, rfl, by omega, Below.refl _ _⟩
  case round =>
    obtain ⟨k, rfl, hk, hb⟩ := hrel
    by_cases hlt : k < n
    · have hki : (k : Int) < n := by omega
      have hkA : k < A.length := by rw [HN.out.1]; exact hlt
      have hkB : k < B.length := by rw [HN.out.2.1]; exact hlt
      obtain ⟨g, off, rfl, _⟩ := (HN.out.2.2.2.2.1.1.step hb).at hkA
      obtain ⟨g2, off2, rfl, _⟩ := (HN.out.2.2.2.2.2.1.step hb).at hkB
      have e1 := yds_get hkA
      have e2 := yds_get hkB
      rw [HN.out.2.2.1] at e1
      have hqa := HN.out.2.2.2.2.1.2 _ (List.mem_of_getElem? (getY hkA))
      have hqb := HN.out.2.2.2.2.2.2 _ (List.mem_of_getElem? (getY hkB))
      have hsa := HN.out.2.2.2.1 _ (List.mem_of_getElem? (getY hkA))
      have ga := getY hkA
      have gb := getY hkB
      obtain ⟨⟨⟨t, q, L⟩, ⟨sp, sn, sc⟩⟩, hx⟩ : ∃ x : YQ, A.getD k zyq = x := ⟨_, rfl⟩
      obtain ⟨⟨⟨t2, q2, L2⟩, ⟨sp2, sn2, sc2⟩⟩, hx2⟩ : ∃ x : YQ, B.getD k zyq = x := ⟨_, rfl⟩
      rw [hx] at e1 hqa hsa ga
      rw [hx2] at e2 hqb gb
      rw [e1] at e2
      simp only [Option.some.injEq, Yd.mk.injEq] at e2
      obtain ⟨rfl, rfl, rfl⟩ := e2
      obtain rfl : sn2 = sn := by have h1 := hqa.2; have h2 := hqb.2; simp only at h1 h2; omega
      have HI := Lib.hid (fun W (hW : Below w.heap.size w W) => likeItems_same sp sp2 sc sc2 L sn2 hqa.2 W (hqa.1.step hW) (hqb.1.step hW) hsa)
      have hS : ∀ W, Below w.heap.size w W → (W.cell? ⟨g, off + k * 3, none⟩ = some (.int .i64 t) ∧ W.cell? ⟨g, off + k * 3 + 1, none⟩ = some (.int .i64 q) ∧ W.cell? ⟨g, off + k * 3 + 2, none⟩ = some (.slice sp sn2 sc)) ∧ (W.cell? ⟨g2, off2 + k * 3, none⟩ = some (.int .i64 t) ∧ W.cell? ⟨g2, off2 + k * 3 + 1, none⟩ = some (.int .i64 q) ∧ W.cell? ⟨g2, off2 + k * 3 + 2, none⟩ = some (.slice sp2 sn2 sc2)) := fun W hW => by
        obtain ⟨g', o', e, hC⟩ := (HN.out.2.2.2.2.1.1.step hW).at hkA
        obtain ⟨g3, o3, e3, hC3⟩ := (HN.out.2.2.2.2.2.1.step hW).at hkB
        cases e
        cases e3
        exact ⟨CsG.y3 hC ga, CsG.y3 hC3 gb⟩
      clear e1 hqa hqb hsa ga gb hx hx2 hkA hkB
      go_upto_region 6 with (fail)
      refine wp_region_quiet (C := fun w' => Below w.heap.size w w') (by kernel_rfl) (by kernel_rfl) (hb.drew) ?_
      refine q_intro (fun A hA => ?_)
      have hf : Fr 55 A [(0, .slice (some ⟨g, off, none⟩) n cp), (1, .slice (some ⟨g2, off2, none⟩) n cq), (5, .int .i64 (k : Int))] := by subst hA; exact ⟨rfl, by simp⟩
      refine q_step hf (d := 17) (v := .slice (some ⟨g, off, none⟩) n cp) rfl rfl (by decide) (by simp) (fun w' hw' => ?_) (fun A hA17 hf => ?_)
      · have f0 := hf.get (d := 0) (v := .slice (some ⟨g, off, none⟩) n cp) (by simp)
        clear hf
        simp [Oper.quietAt, Oper.quietUpon, go_sem, f0]
      refine q_step hf (d := 18) (v := .int .i64 (k : Int)) rfl rfl (by decide) (by simp) (fun w' hw' => ?_) (fun A hA18 hf => ?_)
      · have f5 := hf.get (d := 5) (v := .int .i64 (k : Int)) (by simp)
        clear hf
        simp [Oper.quietAt, Oper.quietUpon, go_sem, f5]
      refine q_step hf (d := 19) (v := .pointer (some ⟨g, off + k * 3, none⟩)) rfl rfl (by decide) (by simp) (fun w' hw' => ?_) (fun A hA19 hf => ?_)
      · have f17 := hf.get (d := 17) (v := .slice (some ⟨g, off, none⟩) n cp) (by simp)
        have f18 := hf.get (d := 18) (v := .int .i64 (k : Int)) (by simp)
        clear hf
        simp [Oper.quietAt, Oper.quietUpon, go_sem, f17, f18, hki]
      refine q_step hf (d := 20) (v := .pointer (some ⟨g, off + k * 3, none⟩)) rfl rfl (by decide) (by simp) (fun w' hw' => ?_) (fun A hA20 hf => ?_)
      · have f19 := hf.get (d := 19) (v := .pointer (some ⟨g, off + k * 3, none⟩)) (by simp)
        clear hf
        simp [Oper.quietAt, Oper.quietUpon, go_sem, f19]
      refine q_step hf (d := 21) (v := .int .i64 t) rfl rfl (by decide) (by simp) (fun w' hw' => ?_) (fun A hA21 hf => ?_)
      · have hc := hS _ hw'
        have f20 := hf.get (d := 20) (v := .pointer (some ⟨g, off + k * 3, none⟩)) (by simp)
        clear hf
        simp [Oper.quietAt, Oper.quietUpon, go_sem, f20, hc]
      refine q_step hf (d := 22) (v := .slice (some ⟨g2, off2, none⟩) n cq) rfl rfl (by decide) (by simp) (fun w' hw' => ?_) (fun A hA22 hf => ?_)
      · have f1 := hf.get (d := 1) (v := .slice (some ⟨g2, off2, none⟩) n cq) (by simp)
        clear hf
        simp [Oper.quietAt, Oper.quietUpon, go_sem, f1]
      refine q_step hf (d := 23) (v := .int .i64 (k : Int)) rfl rfl (by decide) (by simp) (fun w' hw' => ?_) (fun A hA23 hf => ?_)
      · have f5 := hf.get (d := 5) (v := .int .i64 (k : Int)) (by simp)
        clear hf
        simp [Oper.quietAt, Oper.quietUpon, go_sem, f5]
      refine q_step hf (d := 24) (v := .pointer (some ⟨g2, off2 + k * 3, none⟩)) rfl rfl (by decide) (by simp) (fun w' hw' => ?_) (fun A hA24 hf => ?_)
      · have f22 := hf.get (d := 22) (v := .slice (some ⟨g2, off2, none⟩) n cq) (by simp)
        have f23 := hf.get (d := 23) (v := .int .i64 (k : Int)) (by simp)
        clear hf
        simp [Oper.quietAt, Oper.quietUpon, go_sem, f22, f23, hki]
      refine q_step hf (d := 25) (v := .pointer (some ⟨g2, off2 + k * 3, none⟩)) rfl rfl (by decide) (by simp) (fun w' hw' => ?_) (fun A hA25 hf => ?_)
      · have f24 := hf.get (d := 24) (v := .pointer (some ⟨g2, off2 + k * 3, none⟩)) (by simp)
        clear hf
        simp [Oper.quietAt, Oper.quietUpon, go_sem, f24]
      refine q_step hf (d := 26) (v := .int .i64 t) rfl rfl (by decide) (by simp) (fun w' hw' => ?_) (fun A hA26 hf => ?_)
      · have hc := hS _ hw'
        have f25 := hf.get (d := 25) (v := .pointer (some ⟨g2, off2 + k * 3, none⟩)) (by simp)
        clear hf
        simp [Oper.quietAt, Oper.quietUpon, go_sem, f25, hc]
      refine q_step hf (d := 27) (v := .bool false) rfl rfl (by decide) (by simp) (fun w' hw' => ?_) (fun A hA27 hf => ?_)
      · have f21 := hf.get (d := 21) (v := .int .i64 t) (by simp)
        have f26 := hf.get (d := 26) (v := .int .i64 t) (by simp)
        clear hf
        simp [Oper.quietAt, Oper.quietUpon, go_sem, f21, f26]
      refine q_step hf (d := 28) (v := .bool false) rfl rfl (by decide) (by simp) (fun w' hw' => ?_) (fun A hA28 hf => ?_)
      · have f27 := hf.get (d := 27) (v := .bool false) (by simp)
        clear hf
        simp [Oper.quietAt, Oper.quietUpon, go_sem, f27]
      refine q_want hf (d := 29) (v := .slice (some ⟨g, off, none⟩) n cp) (e := 28) rfl rfl (by simp) rfl (by decide) (by simp) (fun w' hw' => ?_) (fun A hA29 hf => ?_)
      · have f0 := hf.get (d := 0) (v := .slice (some ⟨g, off, none⟩) n cp) (by simp)
        clear hf
        simp [Oper.quietAt, Oper.quietUpon, go_sem, f0]
      refine q_want hf (d := 30) (v := .int .i64 (k : Int)) (e := 28) rfl rfl (by simp) rfl (by decide) (by simp) (fun w' hw' => ?_) (fun A hA30 hf => ?_)
      · have f5 := hf.get (d := 5) (v := .int .i64 (k : Int)) (by simp)
        clear hf
        simp [Oper.quietAt, Oper.quietUpon, go_sem, f5]
      refine q_want hf (d := 31) (v := .pointer (some ⟨g, off + k * 3, none⟩)) (e := 28) rfl rfl (by simp) rfl (by decide) (by simp) (fun w' hw' => ?_) (fun A hA31 hf => ?_)
      · have f29 := hf.get (d := 29) (v := .slice (some ⟨g, off, none⟩) n cp) (by simp)
        have f30 := hf.get (d := 30) (v := .int .i64 (k : Int)) (by simp)
        clear hf
        simp [Oper.quietAt, Oper.quietUpon, go_sem, f29, f30, hki]
      refine q_want hf (d := 32) (v := .pointer (some ⟨g, off + k * 3 + 1, none⟩)) (e := 28) rfl rfl (by simp) rfl (by decide) (by simp) (fun w' hw' => ?_) (fun A hA32 hf => ?_)
      · have f31 := hf.get (d := 31) (v := .pointer (some ⟨g, off + k * 3, none⟩)) (by simp)
        clear hf
        simp [Oper.quietAt, Oper.quietUpon, go_sem, f31]
      refine q_want hf (d := 33) (v := .int .i64 q) (e := 28) rfl rfl (by simp) rfl (by decide) (by simp) (fun w' hw' => ?_) (fun A hA33 hf => ?_)
      · have hc := hS _ hw'
        have f32 := hf.get (d := 32) (v := .pointer (some ⟨g, off + k * 3 + 1, none⟩)) (by simp)
        clear hf
        simp [Oper.quietAt, Oper.quietUpon, go_sem, f32, hc]
      refine q_want hf (d := 34) (v := .slice (some ⟨g2, off2, none⟩) n cq) (e := 28) rfl rfl (by simp) rfl (by decide) (by simp) (fun w' hw' => ?_) (fun A hA34 hf => ?_)
      · have f1 := hf.get (d := 1) (v := .slice (some ⟨g2, off2, none⟩) n cq) (by simp)
        clear hf
        simp [Oper.quietAt, Oper.quietUpon, go_sem, f1]
      refine q_want hf (d := 35) (v := .int .i64 (k : Int)) (e := 28) rfl rfl (by simp) rfl (by decide) (by simp) (fun w' hw' => ?_) (fun A hA35 hf => ?_)
      · have f5 := hf.get (d := 5) (v := .int .i64 (k : Int)) (by simp)
        clear hf
        simp [Oper.quietAt, Oper.quietUpon, go_sem, f5]
      refine q_want hf (d := 36) (v := .pointer (some ⟨g2, off2 + k * 3, none⟩)) (e := 28) rfl rfl (by simp) rfl (by decide) (by simp) (fun w' hw' => ?_) (fun A hA36 hf => ?_)
      · have f34 := hf.get (d := 34) (v := .slice (some ⟨g2, off2, none⟩) n cq) (by simp)
        have f35 := hf.get (d := 35) (v := .int .i64 (k : Int)) (by simp)
        clear hf
        simp [Oper.quietAt, Oper.quietUpon, go_sem, f34, f35, hki]
      refine q_want hf (d := 37) (v := .pointer (some ⟨g2, off2 + k * 3 + 1, none⟩)) (e := 28) rfl rfl (by simp) rfl (by decide) (by simp) (fun w' hw' => ?_) (fun A hA37 hf => ?_)
      · have f36 := hf.get (d := 36) (v := .pointer (some ⟨g2, off2 + k * 3, none⟩)) (by simp)
        clear hf
        simp [Oper.quietAt, Oper.quietUpon, go_sem, f36]
      refine q_want hf (d := 38) (v := .int .i64 q) (e := 28) rfl rfl (by simp) rfl (by decide) (by simp) (fun w' hw' => ?_) (fun A hA38 hf => ?_)
      · have hc := hS _ hw'
        have f37 := hf.get (d := 37) (v := .pointer (some ⟨g2, off2 + k * 3 + 1, none⟩)) (by simp)
        clear hf
        simp [Oper.quietAt, Oper.quietUpon, go_sem, f37, hc]
      refine q_want hf (d := 39) (v := .bool false) (e := 28) rfl rfl (by simp) rfl (by decide) (by simp) (fun w' hw' => ?_) (fun A hA39 hf => ?_)
      · have f33 := hf.get (d := 33) (v := .int .i64 q) (by simp)
        have f38 := hf.get (d := 38) (v := .int .i64 q) (by simp)
        clear hf
        simp [Oper.quietAt, Oper.quietUpon, go_sem, f33, f38]
      refine q_step hf (d := 40) (v := .bool false) rfl rfl (by decide) (by simp) (fun w' hw' => ?_) (fun A hA40 hf => ?_)
      · have f28 := hf.get (d := 28) (v := .bool false) (by simp)
        have f39 := hf.get (d := 39) (v := .bool false) (by simp)
        clear hf
        simp [Oper.quietAt, Oper.quietUpon, go_sem, f28, f39]
      refine q_step hf (d := 41) (v := .bool false) rfl rfl (by decide) (by simp) (fun w' hw' => ?_) (fun A hA41 hf => ?_)
      · have f40 := hf.get (d := 40) (v := .bool false) (by simp)
        clear hf
        simp [Oper.quietAt, Oper.quietUpon, go_sem, f40]
      refine q_want hf (d := 42) (v := .slice (some ⟨g, off, none⟩) n cp) (e := 41) rfl rfl (by simp) rfl (by decide) (by simp) (fun w' hw' => ?_) (fun A hA42 hf => ?_)
      · have f0 := hf.get (d := 0) (v := .slice (some ⟨g, off, none⟩) n cp) (by simp)
        clear hf
        simp [Oper.quietAt, Oper.quietUpon, go_sem, f0]
      refine q_want hf (d := 43) (v := .int .i64 (k : Int)) (e := 41) rfl rfl (by simp) rfl (by decide) (by simp) (fun w' hw' => ?_) (fun A hA43 hf => ?_)
      · have f5 := hf.get (d := 5) (v := .int .i64 (k : Int)) (by simp)
        clear hf
        simp [Oper.quietAt, Oper.quietUpon, go_sem, f5]
      refine q_want hf (d := 44) (v := .pointer (some ⟨g, off + k * 3, none⟩)) (e := 41) rfl rfl (by simp) rfl (by decide) (by simp) (fun w' hw' => ?_) (fun A hA44 hf => ?_)
      · have f42 := hf.get (d := 42) (v := .slice (some ⟨g, off, none⟩) n cp) (by simp)
        have f43 := hf.get (d := 43) (v := .int .i64 (k : Int)) (by simp)
        clear hf
        simp [Oper.quietAt, Oper.quietUpon, go_sem, f42, f43, hki]
      refine q_want hf (d := 45) (v := .pointer (some ⟨g, off + k * 3 + 2, none⟩)) (e := 41) rfl rfl (by simp) rfl (by decide) (by simp) (fun w' hw' => ?_) (fun A hA45 hf => ?_)
      · have f44 := hf.get (d := 44) (v := .pointer (some ⟨g, off + k * 3, none⟩)) (by simp)
        clear hf
        simp [Oper.quietAt, Oper.quietUpon, go_sem, f44]
      refine q_want hf (d := 46) (v := .slice sp sn2 sc) (e := 41) rfl rfl (by simp) rfl (by decide) (by simp) (fun w' hw' => ?_) (fun A hA46 hf => ?_)
      · have hc := hS _ hw'
        have f45 := hf.get (d := 45) (v := .pointer (some ⟨g, off + k * 3 + 2, none⟩)) (by simp)
        clear hf
        simp [Oper.quietAt, Oper.quietUpon, go_sem, f45, hc]
      refine q_want hf (d := 47) (v := .slice (some ⟨g2, off2, none⟩) n cq) (e := 41) rfl rfl (by simp) rfl (by decide) (by simp) (fun w' hw' => ?_) (fun A hA47 hf => ?_)
      · have f1 := hf.get (d := 1) (v := .slice (some ⟨g2, off2, none⟩) n cq) (by simp)
        clear hf
        simp [Oper.quietAt, Oper.quietUpon, go_sem, f1]
      refine q_want hf (d := 48) (v := .int .i64 (k : Int)) (e := 41) rfl rfl (by simp) rfl (by decide) (by simp) (fun w' hw' => ?_) (fun A hA48 hf => ?_)
      · have f5 := hf.get (d := 5) (v := .int .i64 (k : Int)) (by simp)
        clear hf
        simp [Oper.quietAt, Oper.quietUpon, go_sem, f5]
      refine q_want hf (d := 49) (v := .pointer (some ⟨g2, off2 + k * 3, none⟩)) (e := 41) rfl rfl (by simp) rfl (by decide) (by simp) (fun w' hw' => ?_) (fun A hA49 hf => ?_)
      · have f47 := hf.get (d := 47) (v := .slice (some ⟨g2, off2, none⟩) n cq) (by simp)
        have f48 := hf.get (d := 48) (v := .int .i64 (k : Int)) (by simp)
        clear hf
        simp [Oper.quietAt, Oper.quietUpon, go_sem, f47, f48, hki]
      refine q_want hf (d := 50) (v := .pointer (some ⟨g2, off2 + k * 3 + 2, none⟩)) (e := 41) rfl rfl (by simp) rfl (by decide) (by simp) (fun w' hw' => ?_) (fun A hA50 hf => ?_)
      · have f49 := hf.get (d := 49) (v := .pointer (some ⟨g2, off2 + k * 3, none⟩)) (by simp)
        clear hf
        simp [Oper.quietAt, Oper.quietUpon, go_sem, f49]
      refine q_want hf (d := 51) (v := .slice sp2 sn2 sc2) (e := 41) rfl rfl (by simp) rfl (by decide) (by simp) (fun w' hw' => ?_) (fun A hA51 hf => ?_)
      · have hc := hS _ hw'
        have f50 := hf.get (d := 50) (v := .pointer (some ⟨g2, off2 + k * 3 + 2, none⟩)) (by simp)
        clear hf
        simp [Oper.quietAt, Oper.quietUpon, go_sem, f50, hc]
      refine q_want hf (d := 52) (v := .bool true) (e := 41) rfl rfl (by simp) rfl (by decide) (by simp) (fun w' hw' => ?_) (fun A hA52 hf => ?_)
      · have f46 := hf.get (d := 46) (v := .slice sp sn2 sc) (by simp)
        have f51 := hf.get (d := 51) (v := .slice sp2 sn2 sc2) (by simp)
        clear hf
        simp [Oper.quietAt, Oper.quietUpon, go_sem, f46, f51]
        exact (HI.out _ hw').mono fun e w1 h => ⟨h.1, bstep hw' h.2 (Nat.le_refl _)⟩
      refine q_want hf (d := 53) (v := .bool false) (e := 41) rfl rfl (by simp) rfl (by decide) (by simp) (fun w' hw' => ?_) (fun A hA53 hf => ?_)
      · have f52 := hf.get (d := 52) (v := .bool true) (by simp)
        clear hf
        simp [Oper.quietAt, Oper.quietUpon, go_sem, f52]
      refine q_step hf (d := 54) (v := .bool false) rfl rfl (by decide) (by simp) (fun w' hw' => ?_) (fun A hA54 hf => ?_)
      · have f41 := hf.get (d := 41) (v := .bool false) (by simp)
        have f53 := hf.get (d := 53) (v := .bool false) (by simp)
        clear hf
        simp [Oper.quietAt, Oper.quietUpon, go_sem, f41, f53]
      refine wpQuiet_nil (fun w' hw' => ?_)
      clear hf
      subst hA54 hA53 hA52 hA51 hA50 hA49 hA48 hA47 hA46 hA45 hA44 hA43 hA42 hA41 hA40 hA39 hA38 hA37 hA36 hA35 hA34 hA33 hA32 hA31 hA30 hA29 hA28 hA27 hA26 hA25 hA24 hA23 hA22 hA21 hA20 hA19 hA18 hA17 hA
      simp only [Act.put, List.setIfInBounds_toArray, List.set_cons_succ, List.set_cons_zero]
      go_wp2
      go_roundw
      case rel => exact ⟨k + 1, by go_num, by omega, hw'⟩
      case measure => simp [intOf]; omega
    · have hki : ¬ (k : Int) < n := by omega
      go_wp2
      go_ret
      exact ⟨rfl, hb⟩
set_option maxRecDepth 100000 in
set_option maxHeartbeats 2000000 in
theorem likeDeal_same (a b : Gv) (A B : List YQ) (O V : List Int) (w : World) (Ha : RdG w a A O V) (Hb : RdG w b B O V) (he : yds A = yds B) (ht : a.t = b.t) (hq : a.q = b.q) (hs : a.s = b.s) (hsm : ∀ y ∈ A, y.2.n ≤ 1000000) (hbb : a.y.n ≤ 1000000 ∧ a.o.n ≤ 1000000 ∧ a.u.n ≤ 1000000) :
    Calls Tryz.prog 16 #[a.v, b.v] w fun e w' => e = .returned (.bool true) ∧ Below w.heap.size w w' := by
  have e2 : b.y.n = a.y.n := by rw [← Ha.yn, ← Hb.yn, ← yds_len, ← yds_len, he]
  have e3 : b.o.n = a.o.n := by rw [← Ha.on, ← Hb.on]
  have e4 : b.u.n = a.u.n := by rw [← Ha.un, ← Hb.un]
  have HY := Lib.hid (fun W (h : Below w.heap.size w W) => likeBatches_same a.y.p b.y.p a.y.c b.y.c A B a.y.n Ha.yn he hsm W (Ha.y.step h) (Hb.y.step h) hbb.1)
  have HO := Lib.hid (fun W (h : Below w.heap.size w W) => likeInts_same a.o.p b.o.p a.o.c b.o.c O a.o.n Ha.on W (Ha.o.step h) (Hb.o.step h) hbb.2.1)
  have HU := Lib.hid (fun W (h : Below w.heap.size w W) => likeInts_same a.u.p b.u.p a.u.c b.u.c V a.u.n Ha.un W (Ha.u.step h) (Hb.u.step h) hbb.2.2)
  clear Ha Hb he hsm hbb
  obtain ⟨t, q, ⟨yp, yn, yc⟩, ⟨op, on, oc⟩, ⟨up, un, uc⟩, s⟩ := a
  obtain ⟨t2, q2, ⟨yp2, yn2, yc2⟩, ⟨op2, on2, oc2⟩, ⟨up2, un2, uc2⟩, s2⟩ := b
  simp only at e2 e3 e4 ht hq hs HY HO HU
  subst e2 e3 e4 ht hq hs
  have hS0 := ((Sg.nil w).lit kG [⟨t, q, ⟨yp, yn2, yc⟩, ⟨op, on2, oc⟩, ⟨up, un2, uc⟩, s⟩] 1 rfl (by decide) #[.int .i64 t, .int .i64 q, .slice yp yn2 yc, .slice op on2 oc, .slice up un2 uc, .int .i64 s] rfl).lit kG [⟨t, q, ⟨yp2, yn2, yc2⟩, ⟨op2, on2, oc2⟩, ⟨up2, un2, uc2⟩, s⟩] 1 rfl (by decide) #[.int .i64 t, .int .i64 q, .slice yp2 yn2 yc2, .slice op2 on2 oc2, .slice up2 un2 uc2, .int .i64 s] rfl
  simp only [World.size_alloc] at hS0
  change Sg w ((w.alloc (.cells #[.int .i64 t, .int .i64 q, .slice yp yn2 yc, .slice op on2 oc, .slice up un2 uc, .int .i64 s] 27)).alloc (.cells #[.int .i64 t, .int .i64 q, .slice yp2 yn2 yc2, .slice op2 on2 oc2, .slice up2 un2 uc2, .int .i64 s] 27)) _ at hS0
  have HC := Lib.hid (fun W (hb : Sg w W [rG kG (.slice (some ⟨w.heap.size + 1, 0, none⟩) 1 1) [⟨t, q, ⟨yp2, yn2, yc2⟩, ⟨op2, on2, oc2⟩, ⟨up2, un2, uc2⟩, s⟩], rG kG (.slice (some ⟨w.heap.size, 0, none⟩) 1 1) [⟨t, q, ⟨yp, yn2, yc⟩, ⟨op, on2, oc⟩, ⟨up, un2, uc⟩, s⟩]]) => (⟨g6 hb (K := kG) (g := w.heap.size) (n := 1) (q := ⟨t, q, ⟨yp, yn2, yc⟩, ⟨op, on2, oc⟩, ⟨up, un2, uc⟩, s⟩) (by simp) rfl, g6 hb (K := kG) (g := w.heap.size + 1) (n := 1) (q := ⟨t, q, ⟨yp2, yn2, yc2⟩, ⟨op2, on2, oc2⟩, ⟨up2, un2, uc2⟩, s⟩) (by simp) rfl⟩ : _ ∧ _))
  simp only at HC
  have f1 : True := trivial
  go_enter Tryz.func16, Tryz.ntmps16
  go_wp2_with (first
    | (go_at_call 42; refine (HY.out _ hS0.bel).mono ?_; rintro e w1 ⟨rfl, hb1⟩; have hS1 := hS0.step hb1; obtain ⟨⟨x0, x1, x2, x3, x4, x5, _, _⟩, ⟨y0, y1, y2, y3, y4, y5, _, _⟩⟩ := HC.out _ hS1)
    | (go_at_call 43; clear f1; refine (HO.out _ hS1.bel).mono ?_; rintro e w2 ⟨rfl, hb2⟩; have hS2 := hS1.step hb2; clear x0 x1 x2 x3 x4 x5 y0 y1 y2 y3 y4 y5; obtain ⟨⟨x0, x1, x2, x3, x4, x5, _, _⟩, ⟨y0, y1, y2, y3, y4, y5, _, _⟩⟩ := HC.out _ hS2)
    | (go_at_call 43; refine (HU.out _ hS2.bel).mono ?_; rintro e w3 ⟨rfl, hb3⟩; have hS3 := hS2.step hb3; clear x0 x1 x2 x3 x4 x5 y0 y1 y2 y3 y4 y5; obtain ⟨⟨x0, x1, x2, x3, x4, x5, _, _⟩, ⟨y0, y1, y2, y3, y4, y5, _, _⟩⟩ := HC.out _ hS3))
  go_ret
  exact ⟨rfl, hS3.bel⟩
end Go.Proofs.YtobbankkfplooaaGreat.K.G
