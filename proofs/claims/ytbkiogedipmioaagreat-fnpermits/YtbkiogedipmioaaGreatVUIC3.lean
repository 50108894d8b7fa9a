/-
  The Spots that an Item touches, and those of a Batch: the program's.
-/
import Derived.Test.YtbkiogedipmioaaGreatVUIB3
import Derived.Test.YtbkiogedipmioaaGreatVUL1
import Derived.Test.YtbkiogedipmioaaGreatVUS1
namespace Go.Proofs.YtbkiogedipmioaaGreat.V.U.I
open Go.Shelf Go.RowKit Go.Joins
attribute [local go_sem] Oper.semAt_some

theorem lit_ci (W : World) (z : Int) : CsG kI (W.alloc (.cells #[.int .i64 z] 2)) W.heap.size 0 [z] :=
  OwG.cs (((Sg.nil W).lit kI [z] 1 rfl (by decide) #[.int .i64 z] rfl).mem (K := kI) (v := .slice (some ⟨W.heap.size, 0, none⟩) 1 1) (L := [z]) (by simp))
theorem dropI {w : World} {g : Nat} {L : List Int} (h : CsG kI w g 0 L) (k : Nat) : CsG kI w g k (L.drop k) := by
  have := h.drop k
  simpa [kI] using this
theorem putI_here {L : List Int} {z : Int} {k : Nat} (hk : k < L.length) (hlo : ∀ j, j < k → L.getD j 0 < z) (h : L.getD k 0 = z) : putI L z = L := by
  induction L generalizing k with
  | nil => simp at hk
  | cons a t ih =>
    cases k with
    | zero => simp at h; subst h; simp [putI]
    | succ k =>
      have h0 := hlo 0 (by omega)
      simp at h0
      rw [putI, if_pos h0, ih (k := k) (by simp at hk; omega) (fun j hj => by have := hlo (j + 1) (by omega); simpa using this) (by simpa using h)]
theorem putI_new {L : List Int} {z : Int} {k : Nat} (hk : k ≤ L.length) (hlo : ∀ j, j < k → L.getD j 0 < z) (h : k < L.length → z < L.getD k 0) : putI L z = L.take k ++ [z] ++ L.drop k := by
  induction L generalizing k with
  | nil => simp at hk; subst hk; simp [putI]
  | cons a t ih =>
    cases k with
    | zero =>
      have h0 := h (by simp)
      simp at h0
      rw [putI, if_neg (by omega), if_neg (by omega)]; simp
    | succ k =>
      have h0 := hlo 0 (by omega)
      simp at h0
      rw [putI, if_pos h0, ih (k := k) (by simp at hk; omega) (fun j hj => by have := hlo (j + 1) (by omega); simpa using this) (fun hl => by have := h (by simp; omega); simpa using this)]; simp
end Go.Proofs.YtbkiogedipmioaaGreat.V.U.I
namespace Go.Proofs.YtbkiogedipmioaaGreat.V.U.I
open Go.Shelf Go.RowKit Go.Joins
attribute [local go_sem] Oper.semAt_some

theorem bx3 {w W : World} {v0 v1 v2 : Value} {ty : TypeId} (h : Below (w.alloc (.cells #[v0, v1, v2] ty)).heap.size (w.alloc (.cells #[v0, v1, v2] ty)) W) : W.cell? ⟨w.heap.size, 0, none⟩ = some v0 ∧ W.cell? ⟨w.heap.size, 1, none⟩ = some v1 ∧ W.cell? ⟨w.heap.size, 2, none⟩ = some v2 := by
  have := (((St.nil w).push [v0, v1, v2] ty).step h).has
  simp [Has, HasAt] at this
  simp [this]
theorem putI_pos (L : List Int) (z : Int) : 1 ≤ (putI L z).length := by
  cases L with
  | nil => simp [putI]
  | cons a t => unfold putI; split <;> (try split) <;> simp
theorem idsF_len (L : List Rc) : (idsF L).length ≤ L.length := by
  have hh : ∀ (L : List Rc) (A : List Int), (L.foldl (fun A r => putI A r.i) A).length ≤ A.length + L.length := by
    intro L
    induction L with
    | nil => intro A; simp
    | cons a t ih => intro A; rw [List.foldl_cons]; have := ih (putI A a.i); have := putI_len A a.i; simp; omega
  have := hh L []
  simpa [idsF] using this
theorem bat_len {t s : Int} {L : List Rc} (h : batB t s L = true) : L.length ≤ 6 := by
  unfold batB at h
  rw [Bool.and_eq_true, its_mk] at h
  exact h.2.2.1
theorem sg_nilI (w : World) : Sg w w [rG kI (.slice none 0 0) []] := by
  refine ⟨Below.refl _ _, fun r hr => ?_, List.pairwise_singleton _ _⟩
  obtain rfl := List.mem_singleton.mp hr
  exact ⟨rfl, .inl ⟨rfl, rfl⟩⟩
theorem mapI_take {S : List Rc} {k : Nat} {r : Rc} (hk : S[k]? = some r) : (S.take (k + 1)).map (fun r => r.i) = (S.take k).map (fun r => r.i) ++ [r.i] := by
  rw [List.take_add_one, hk, List.map_append]; rfl
end Go.Proofs.YtbkiogedipmioaaGreat.V.U.I
namespace Go.Proofs.YtbkiogedipmioaaGreat.V.U.I
open Go.Shelf Go.RowKit Go.Joins
attribute [local go_sem] Oper.semAt_some

def kS : Kd (Int × Int) := ⟨40, 2, fun c => [.int .i64 c.1, .int .i64 c.2], fun _ => rfl⟩
theorem info40 : (Tryz.prog.info? 40).map (fun i => (i.zero, i.size, i.bytes)) = some (some (.agg #[.int .i64 0, .int .i64 0]), 2, 16) := by kernel_rfl
theorem appS : Ap kS 34 (.agg #[.int .i64 0, .int .i64 0]) 16 := ⟨Tryz.underlying34, info40, rfl, by decide, by decide⟩
theorem oneSs (L : List (Int × Int)) : ∀ u ∈ kS.flat L, u.oneCell' = true := fun u hu => by
  unfold Kd.flat at hu
  obtain ⟨s, _, hs⟩ := List.mem_flatMap.mp hu
  simp [kS] at hs
  rcases hs with rfl | rfl <;> rfl
theorem lit_cp (W : World) (x y : Int) : CsG kS (W.alloc (.cells #[.int .i64 x, .int .i64 y] 40)) W.heap.size 0 [(x, y)] :=
  OwG.cs (((Sg.nil W).lit kS [(x, y)] 1 rfl (by decide) #[.int .i64 x, .int .i64 y] rfl).mem (K := kS) (v := .slice (some ⟨W.heap.size, 0, none⟩) 1 1) (L := [(x, y)]) (by simp))
theorem sg_nilS (w : World) : Sg w w [rG kS (.slice none 0 0) []] := by
  refine ⟨Below.refl _ _, fun r hr => ?_, List.pairwise_singleton _ _⟩
  obtain rfl := List.mem_singleton.mp hr
  exact ⟨rfl, .inl ⟨rfl, rfl⟩⟩
theorem bx5 {w W : World} {v0 v1 v2 v3 v4 : Value} {ty : TypeId} (h : Below (w.alloc (.cells #[v0, v1, v2, v3, v4] ty)).heap.size (w.alloc (.cells #[v0, v1, v2, v3, v4] ty)) W) : W.cell? ⟨w.heap.size, 0, none⟩ = some v0 ∧ W.cell? ⟨w.heap.size, 1, none⟩ = some v1 ∧ W.cell? ⟨w.heap.size, 2, none⟩ = some v2 ∧ W.cell? ⟨w.heap.size, 3, none⟩ = some v3 ∧ W.cell? ⟨w.heap.size, 4, none⟩ = some v4 := by
  have := (((St.nil w).push [v0, v1, v2, v3, v4] ty).step h).has
  simp [Has, HasAt] at this
  simp [this]
theorem recOf_any (r : Rc) (t : Int) (w : World) : Calls Tryz.prog 114 #[r.v, .int .i64 t] w fun e w' => e = .returned (Rc.v ⟨t, r.i, r.x, r.y, r.s⟩) ∧ Below w.heap.size w w' := by
  obtain ⟨rt, ri, rx, ry, rs⟩ := r
  go_enter Tryz.func114, Tryz.ntmps114
  go_wp2
  refine bodyPost_ret (v := .agg #[.int .i64 t, .int .i64 ri, .int .i64 rx, .int .i64 ry, .string rs]) (by simp [results, Tryz.results114, go_sem]) rfl ⟨rfl, ?_⟩
  first | exact below_alloc2 _ _ _ | exact below_alloc3 _ _ _ _
set_option maxRecDepth 100000 in
set_option maxHeartbeats 4000000 in
theorem iSpI_any (r : Rc) (g off cap : Nat) (L : List Rc) (n : Nat) (hn : L.length = n) (w : World) (hL : CsG YtbkiogedipmioaaGreat.V.U.kR w g off L) (hcap : n ≤ cap) (hb0 : n ≤ 10000000) (t : Int) (hr : YtbkiogedipmioaaGreat.V.U.riseB L = true) {X : List (Int × Int)} (hX : spI L t r = X) :
    Calls Tryz.prog 78 #[r.v, .slice (some ⟨g, off, none⟩) n cap, .int .i64 t] w fun e w' => ∃ q m c, X.length = m ∧ e = .returned (.slice q m c) ∧ Sg w w' [rG kS (.slice q m c) X] := by
  obtain ⟨rt, ri, rx, ry, rs⟩ := r
  have h0 := sg_bel (below_alloc1 w (.cells #[.int .i64 rt, .int .i64 ri, .int .i64 rx, .int .i64 ry, .string rs] 117))
  obtain ⟨kf, hkf⟩ : ∃ kf, pos L (kq t ri) = kf := ⟨_, rfl⟩
  obtain ⟨kp, hkp⟩ : ∃ kp, past L (kq t ri) = kp := ⟨_, rfl⟩
  have hpk := pos_key (L := L) (a := ⟨t, ri, rx, ry, rs⟩) (b := kq t ri) (sameK_iff.2 ⟨rfl, rfl⟩)
  have HA := Lib.hid (fun W (h : Below w.heap.size w W) => alike_any (some ⟨g, off, none⟩) cap L n hn W (.inr ⟨g, off, rfl, hL.step h⟩) hb0 ⟨t, ri, rx, ry, rs⟩ hr (hpk.1.trans hkf) (hpk.2.trans hkp))
  have hle := past_le L (kq t ri)
  rw [hkf, hkp, hn] at hle
  have HL := Lib.hid hL
  have hb00 := bx5 (Below.refl (w.alloc (.cells #[.int .i64 rt, .int .i64 ri, .int .i64 rx, .int .i64 ry, .string rs] 117)).heap.size (w.alloc (.cells #[.int .i64 rt, .int .i64 ri, .int .i64 rx, .int .i64 ry, .string rs] 117)))
  cases hi : isAt L (kq t ri)
  · have hpp : kp = kf := by rw [← hkf, ← hkp]; unfold past; rw [hi]; simp
    subst hpp
    rw [spI_no hi] at hX
    have i1 : (kp : Int) ≤ n := by omega
    have i2 : (kp : Int) ≤ cap := by omega
    clear hn hL hr hpk hkf hkp hi hle
    by_cases ht : rt = 1
    · subst ht
      simp only [if_pos] at hX
      subst hX
      by_cases hck : cap = kp
      · subst hck
        have hSn : Sg (w.alloc (.cells #[.int .i64 1, .int .i64 ri, .int .i64 rx, .int .i64 ry, .string rs] 117)) (w.alloc (.cells #[.int .i64 1, .int .i64 ri, .int .i64 rx, .int .i64 ry, .string rs] 117)) [rG kS (.slice none 0 0) []] := sg_nilS _
        go_enter Tryz.func78, Tryz.ntmps78
        go_upto_region 4 with (at_builtin; refine wpList_ap appS oneSs rfl _ _ rfl (A := []) (M := ([] : List (Int × Int))) (L := [(rx, ry)]) (m := 0) (s := ⟨some ⟨w.heap.size + 1, 0, none⟩, 1, 1⟩) hSn (below_alloc1 _ _) (.inr ⟨_, 0, rfl, by have := lit_cp (w.alloc (.cells #[.int .i64 1, .int .i64 ri, .int .i64 rx, .int .i64 ry, .string rs] 117)) rx ry; rw [World.size_alloc] at this; exact this⟩) rfl rfl (by simp only; omega) (.inl ⟨_, rfl⟩) rfl rfl ?_; intro q2 c2 w2 hS _ _ _; simp only [Nat.zero_add, List.nil_append] at hS; obtain ⟨b0, b1, b2, b3, b4⟩ := bx5 hS.bel)
        clear hSn hb00
        go_upto_region 5 with (first
          | (go_at_call 114; refine (recOf_any ⟨1, ri, rx, ry, rs⟩ t _).mono ?_; rintro e w3 ⟨rfl, hb3⟩; replace hS := hS.step hb3)
          | (go_at_call 113; refine (HA.out _ (h0.addL hS).bel).mono ?_; rintro e w4 ⟨rfl, hb4⟩; replace hS := hS.step hb4))
        go_wp2
        refine wp_loop_rounds 1 ?_
        rw [rounds_succ]
        go_wp2
        go_ret
        exact ⟨_, 1, _, rfl, rfl, by simpa using h0.addL hS⟩
      · have hSn : Sg (w.alloc (.cells #[.int .i64 1, .int .i64 ri, .int .i64 rx, .int .i64 ry, .string rs] 117)) (w.alloc (.cells #[.int .i64 1, .int .i64 ri, .int .i64 rx, .int .i64 ry, .string rs] 117)) [rG kS (.slice none 0 0) []] := sg_nilS _
        go_enter Tryz.func78, Tryz.ntmps78
        go_upto_region 4 with (at_builtin; refine wpList_ap appS oneSs rfl _ _ rfl (A := []) (M := ([] : List (Int × Int))) (L := [(rx, ry)]) (m := 0) (s := ⟨some ⟨w.heap.size + 1, 0, none⟩, 1, 1⟩) hSn (below_alloc1 _ _) (.inr ⟨_, 0, rfl, by have := lit_cp (w.alloc (.cells #[.int .i64 1, .int .i64 ri, .int .i64 rx, .int .i64 ry, .string rs] 117)) rx ry; rw [World.size_alloc] at this; exact this⟩) rfl rfl (by simp only; omega) (.inl ⟨_, rfl⟩) rfl rfl ?_; intro q2 c2 w2 hS _ _ _; simp only [Nat.zero_add, List.nil_append] at hS; obtain ⟨b0, b1, b2, b3, b4⟩ := bx5 hS.bel)
        clear hSn hb00
        go_upto_region 5 with (first
          | (go_at_call 114; refine (recOf_any ⟨1, ri, rx, ry, rs⟩ t _).mono ?_; rintro e w3 ⟨rfl, hb3⟩; replace hS := hS.step hb3)
          | (go_at_call 113; refine (HA.out _ (h0.addL hS).bel).mono ?_; rintro e w4 ⟨rfl, hb4⟩; replace hS := hS.step hb4))
        go_wp2
        refine wp_loop_rounds 1 ?_
        rw [rounds_succ]
        go_wp2
        go_ret
        exact ⟨_, 1, _, rfl, rfl, by simpa using h0.addL hS⟩
    · simp only [if_neg ht] at hX
      subst hX
      by_cases hck : cap = kp
      · subst hck
        have hS : Sg (w.alloc (.cells #[.int .i64 rt, .int .i64 ri, .int .i64 rx, .int .i64 ry, .string rs] 117)) (w.alloc (.cells #[.int .i64 rt, .int .i64 ri, .int .i64 rx, .int .i64 ry, .string rs] 117)) [rG kS (.slice none 0 0) []] := sg_nilS _
        have htb : (rt == 1) = false := by simp [ht]
        go_enter Tryz.func78, Tryz.ntmps78
        go_upto_region 5 with (first
          | (go_at_call 114; refine (recOf_any ⟨rt, ri, rx, ry, rs⟩ t _).mono ?_; rintro e w3 ⟨rfl, hb3⟩; replace hS := hS.step hb3)
          | (go_at_call 113; refine (HA.out _ (h0.addL hS).bel).mono ?_; rintro e w4 ⟨rfl, hb4⟩; replace hS := hS.step hb4))
        go_wp2
        refine wp_loop_rounds 1 ?_
        rw [rounds_succ]
        go_wp2
        go_ret
        exact ⟨_, 0, _, rfl, rfl, by simpa using h0.addL hS⟩
      · have hS : Sg (w.alloc (.cells #[.int .i64 rt, .int .i64 ri, .int .i64 rx, .int .i64 ry, .string rs] 117)) (w.alloc (.cells #[.int .i64 rt, .int .i64 ri, .int .i64 rx, .int .i64 ry, .string rs] 117)) [rG kS (.slice none 0 0) []] := sg_nilS _
        have htb : (rt == 1) = false := by simp [ht]
        go_enter Tryz.func78, Tryz.ntmps78
        go_upto_region 5 with (first
          | (go_at_call 114; refine (recOf_any ⟨rt, ri, rx, ry, rs⟩ t _).mono ?_; rintro e w3 ⟨rfl, hb3⟩; replace hS := hS.step hb3)
          | (go_at_call 113; refine (HA.out _ (h0.addL hS).bel).mono ?_; rintro e w4 ⟨rfl, hb4⟩; replace hS := hS.step hb4))
        go_wp2
        refine wp_loop_rounds 1 ?_
        rw [rounds_succ]
        go_wp2
        go_ret
        exact ⟨_, 0, _, rfl, rfl, by simpa using h0.addL hS⟩
  · have hlt := isAt_lt hi
    rw [hkf] at hlt
    have hpp : kp = kf + 1 := by rw [← hkf, ← hkp]; unfold past; rw [hi]; simp
    subst hpp
    have hga := List.getElem?_eq_getElem hlt
    rw [spI_at hi (a := L[kf]) (by rw [hkf]; exact hga)] at hX
    generalize L[kf] = a at hga hX
    have HG := Lib.hid hga
    rw [hn] at hlt
    have i0 : (kf : Int) ≤ kf + 1 := by omega
    have i1 : (kf : Int) + 1 ≤ n := by omega
    have i2 : (kf : Int) + 1 ≤ cap := by omega
    have i3 : (kf : Int) ≤ cap := by omega
    have hck : ¬ cap = kf := by omega
    have i4 : kf + 1 - kf = 1 := by omega
    clear hn hL hr hpk hkf hkp hi hle hga
    by_cases ht : rt = 1
    · subst ht
      simp only [if_pos, List.singleton_append] at hX
      subst hX
      have hSn : Sg (w.alloc (.cells #[.int .i64 1, .int .i64 ri, .int .i64 rx, .int .i64 ry, .string rs] 117)) (w.alloc (.cells #[.int .i64 1, .int .i64 ri, .int .i64 rx, .int .i64 ry, .string rs] 117)) [rG kS (.slice none 0 0) []] := sg_nilS _
      go_enter Tryz.func78, Tryz.ntmps78
      go_upto_region 4 with (at_builtin; refine wpList_ap appS oneSs rfl _ _ rfl (A := []) (M := ([] : List (Int × Int))) (L := [(rx, ry)]) (m := 0) (s := ⟨some ⟨w.heap.size + 1, 0, none⟩, 1, 1⟩) hSn (below_alloc1 _ _) (.inr ⟨_, 0, rfl, by have := lit_cp (w.alloc (.cells #[.int .i64 1, .int .i64 ri, .int .i64 rx, .int .i64 ry, .string rs] 117)) rx ry; rw [World.size_alloc] at this; exact this⟩) rfl rfl (by simp only; omega) (.inl ⟨_, rfl⟩) rfl rfl ?_; intro q2 c2 w2 hS _ _ _; simp only [Nat.zero_add, List.nil_append] at hS; obtain ⟨b0, b1, b2, b3, b4⟩ := bx5 hS.bel)
      clear hSn hb00
      go_upto_region 5 with (first
        | (go_at_call 114; refine (recOf_any ⟨1, ri, rx, ry, rs⟩ t _).mono ?_; rintro e w3 ⟨rfl, hb3⟩; replace hS := hS.step hb3)
        | (go_at_call 113; refine (HA.out _ (h0.addL hS).bel).mono ?_; rintro e w4 ⟨rfl, hb4⟩; replace hS := hS.step hb4))
      obtain ⟨d0, d1, d2, d3, d4⟩ := (HL.out.step (h0.addL hS).bel).r5 HG.out
      go_wp2
      refine wp_loop_rounds 2 ?_
      rw [rounds_succ]
      have hS2 := hS.step (below_alloc1 w4 (.cells #[.int .i64 a.t, .int .i64 a.i, .int .i64 a.x, .int .i64 a.y, .string a.s] 79))
      go_wp2_with (at_builtin; refine wpList_ap appS oneSs rfl _ _ rfl (A := []) (M := [(rx, ry)]) (L := [(a.x, a.y)]) (m := 1) (s := ⟨some ⟨w4.heap.size + 1, 0, none⟩, 1, 1⟩) hS2 (below_alloc1 _ _) (.inr ⟨_, 0, rfl, by have := lit_cp (w4.alloc (.cells #[.int .i64 a.t, .int .i64 a.i, .int .i64 a.x, .int .i64 a.y, .string a.s] 79)) a.x a.y; rw [World.size_alloc] at this; exact this⟩) rfl rfl (by simp only; omega) (.inl ⟨_, rfl⟩) rfl rfl ?_; intro q5 c5 w5 hS5 _ _ _)
      rw [rounds_succ]
      go_wp2
      go_ret
      exact ⟨q5, _, c5, rfl, rfl, by simpa using h0.addL hS5⟩
    · simp only [if_neg ht, List.nil_append] at hX
      subst hX
      have hS : Sg (w.alloc (.cells #[.int .i64 rt, .int .i64 ri, .int .i64 rx, .int .i64 ry, .string rs] 117)) (w.alloc (.cells #[.int .i64 rt, .int .i64 ri, .int .i64 rx, .int .i64 ry, .string rs] 117)) [rG kS (.slice none 0 0) []] := sg_nilS _
      have htb : (rt == 1) = false := by simp [ht]
      go_enter Tryz.func78, Tryz.ntmps78
      go_upto_region 5 with (first
        | (go_at_call 114; refine (recOf_any ⟨rt, ri, rx, ry, rs⟩ t _).mono ?_; rintro e w3 ⟨rfl, hb3⟩; replace hS := hS.step hb3)
        | (go_at_call 113; refine (HA.out _ (h0.addL hS).bel).mono ?_; rintro e w4 ⟨rfl, hb4⟩; replace hS := hS.step hb4))
      obtain ⟨d0, d1, d2, d3, d4⟩ := (HL.out.step (h0.addL hS).bel).r5 HG.out
      go_wp2
      refine wp_loop_rounds 2 ?_
      rw [rounds_succ]
      have hS2 := hS.step (below_alloc1 w4 (.cells #[.int .i64 a.t, .int .i64 a.i, .int .i64 a.x, .int .i64 a.y, .string a.s] 79))
      go_wp2_with (at_builtin; refine wpList_ap appS oneSs rfl _ _ rfl (A := []) (M := ([] : List (Int × Int))) (L := [(a.x, a.y)]) (m := 0) (s := ⟨some ⟨w4.heap.size + 1, 0, none⟩, 1, 1⟩) hS2 (below_alloc1 _ _) (.inr ⟨_, 0, rfl, by have := lit_cp (w4.alloc (.cells #[.int .i64 a.t, .int .i64 a.i, .int .i64 a.x, .int .i64 a.y, .string a.s] 79)) a.x a.y; rw [World.size_alloc] at this; exact this⟩) rfl rfl (by simp only; omega) (.inl ⟨_, rfl⟩) rfl rfl ?_; intro q5 c5 w5 hS5 _ _ _)
      rw [rounds_succ]
      go_wp2
      go_ret
      exact ⟨q5, _, c5, rfl, rfl, by simpa using h0.addL hS5⟩
end Go.Proofs.YtbkiogedipmioaaGreat.V.U.I
