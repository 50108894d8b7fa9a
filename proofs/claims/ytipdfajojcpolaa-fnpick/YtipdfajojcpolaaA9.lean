/-
  The spec's ShapeOk.
-/
import Derived.Test.YtipdfajojcpolaaA8
import Derived.Test.YtipdfajojcpolaaA3C
import Derived.Deep.CutBlock
namespace Go.Proofs.Ytipdfajojcpolaa
open Go.RowKit Go.Joins
attribute [local go_sem ↓] Go.wp_at_zero Go.wp_at_succ

theorem tmod2 (i n : Nat) : ((i : Int) + 2).tmod (n : Int) = (((i + 2) % n : Nat) : Int) := by
  have : ((i : Int) + 2) = ((i + 2 : Nat) : Int) := by omega
  rw [this, Int.ofNat_tmod]
theorem l4Cut_v {a b c d : T2} {v : Bool} (hv : cutB a b c d = v) (ha : a.ok = true) (hb : b.ok = true) (hc : c.ok = true) (hd : d.ok = true) (w : World) :
    Calls Try.prog 42 #[.agg #[.int .i64 a.x, .int .i64 a.y], .agg #[.int .i64 b.x, .int .i64 b.y], .agg #[.int .i64 c.x, .int .i64 c.y], .agg #[.int .i64 d.x, .int .i64 d.y]] w fun e w' => e = .returned (.bool v) ∧ Below w.heap.size w w' := by subst hv; exact l4Cut_any ha hb hc hd w
theorem Cs.nth {w : World} {g off : Nat} {L : List T2} (h : Cs w g off L) {i : Nat} (hi : i < L.length) : w.cell? ⟨g, off + i * 2, none⟩ = some (.int .i64 (nth L i).x) ∧ w.cell? ⟨g, off + i * 2 + 1, none⟩ = some (.int .i64 (nth L i).y) := by
  rw [nth_lt hi]; exact h.2 i _ (List.getElem?_eq_getElem hi)

set_option maxHeartbeats 4000000 in
theorem sShapeOk_any (p : Option Addr) (cap : Nat) (L : List T2) (w : World) (hL : Sl w p L) (hn : L.length ≤ 1048576) :
    Calls Try.prog 19 #[.slice p L.length cap] w fun e w' => e = .returned (.bool (shB L)) ∧ Below w.heap.size w w' := by
  by_cases h3 : L.length < 3
  · have hi : (L.length : Int) < 3 := by omega
    have hf : lenB L = false := by rw [Bool.eq_false_iff]; intro h; have := lenB_t.mp h; omega
    go_enter Try.func19, Try.ntmps19
    go_wp2
    go_ret
    exact ⟨ret_bool (by rw [sh_no1 (by rw [rtB, hf]; rfl)]), Below.refl _ _⟩
  by_cases h12 : 12 < L.length
  · have hi : ¬ (L.length : Int) < 3 := by omega
    have hi2 : (12 : Int) < L.length := by omega
    have hf : lenB L = false := by rw [Bool.eq_false_iff]; intro h; have := lenB_t.mp h; omega
    go_enter Try.func19, Try.ntmps19
    go_wp2
    go_ret
    exact ⟨ret_bool (by rw [sh_no1 (by rw [rtB, hf]; rfl)]), Below.refl _ _⟩
  have hi3 : ¬ (L.length : Int) < 3 := by omega
  have hi12 : ¬ (12 : Int) < L.length := by omega
  have hf : lenB L = true := lenB_t.mpr (by omega)
  have hne0 : ¬ L = [] := by intro h; subst h; simp at h3
  have hne1 : ((L.length : Int) == 0) = false := by simp [hne0]
  obtain ⟨g, off, rfl, hC⟩ := sl_cs hL (by omega)
  go_enter Try.func19, Try.ntmps19
  go_wp2
  go_loopw [4] (fun i wr => ∃ k : Nat, k ≤ L.length ∧ i = .int .i64 k ∧ (L.take k).all T2.ok = true ∧ Below w.heap.size w wr) (fun i _ => L.length - (intOf i).toNat)
  case atStart => exact ⟨0, by omega, rfl, rfl, Below.refl _ _⟩
  case round =>
    obtain ⟨k, hk, rfl, hall, hb⟩ := hrel
    by_cases hlt : k < L.length
    · have hki : (k : Int) < L.length := by omega
      obtain ⟨c0, c1⟩ := (hC.step hb).2 k L[k] (List.getElem?_eq_getElem hlt)
      cases hv : T2.ok L[k]
      · go_wp2_with (go_at_call 40; refine (sSpot_v hv _).mono ?_; rintro e w1 ⟨rfl, hb2⟩)
        go_ret
        exact ⟨ret_bool (by rw [sh_no1 (by rw [rtB, all_no hlt hv, Bool.and_false])]), bstep hb hb2 (Nat.le_refl _)⟩
      · go_wp2_with (go_at_call 40; refine (sSpot_v hv _).mono ?_; rintro e w1 ⟨rfl, hb2⟩)
        go_roundw
        case rel => exact ⟨k + 1, by omega, by go_num, by rw [all_take hlt, hall, hv]; rfl, bstep hb hb2 (Nat.le_refl _)⟩
        case measure => simp [intOf]; omega
    · obtain rfl : k = L.length := by omega
      rw [List.take_length] at hall
      have hr : rtB L = true := by rw [rtB, hf, hall]; rfl
      have hki : ¬ (L.length : Int) < L.length := by omega
      clear hall
      go_wp2_with fail
      go_loopw [5] (fun i wr => ∃ k : Nat, k ≤ L.length ∧ i = .int .i64 k ∧ (∀ j, j < k → crN L j ≠ 0 ∧ ∀ m, m < L.length → badK L j m = false) ∧ Below w.heap.size w wr) (fun i _ => L.length - (intOf i).toNat)
      case atStart => exact ⟨0, by omega, rfl, fun j h => by omega, hb⟩
      case round =>
        clear hb
        obtain ⟨k, hk, rfl, hgood, hb⟩ := hrel
        by_cases hlt : k < L.length
        · have hki : (k : Int) < L.length := by omega
          have hki2 : (k : Int) < 12 := by omega
          have hm : (k + 1) % L.length < L.length := Nat.mod_lt _ (by omega)
          have hm2 : (k + 2) % L.length < L.length := Nat.mod_lt _ (by omega)
          have hmi : (((k + 1) % L.length : Nat) : Int) < L.length := by omega
          have hmi2 : (((k + 2) % L.length : Nat) : Int) < L.length := by omega
          have hT := tmod1 k L.length
          have hT2 : (IntKind.i64.wrap ((k : Int) + 2)).tmod (L.length : Int) = (((k + 2) % L.length : Nat) : Int) := by rw [Go.Proofs.Ytipdfajojcpolaa.wr (by omega) (by omega)]; exact tmod2 k L.length
          obtain ⟨c0, c1⟩ := (hC.step hb).nth hlt
          obtain ⟨d0, d1⟩ := (hC.step hb).nth hm
          have hA := nth_ok hr hlt
          have hA2 := nth_ok hr hm
          have hA3 := nth_ok hr hm2
          have hE := fun (W : World) (h : Below w.heap.size w W) => (hC.step h).nth hm2
          have hcrN : crN L k = crT (nth L k) (nth L ((k + 1) % L.length)) (nth L ((k + 2) % L.length)) := rfl
          have hcut : ∀ j, cutN L k j = cutB (nth L k) (nth L ((k + 1) % L.length)) (nth L j) (nth L ((j + 1) % L.length)) := fun j => rfl
          generalize hmm : (k + 1) % L.length = m at hm hmi d0 d1 hT hA2 hcrN hcut
          generalize hmm2 : (k + 2) % L.length = m2 at hm2 hmi2 hE hT2 hA3 hcrN
          generalize nth L k = a at c0 c1 hA hcrN hcut
          generalize nth L m = b at d0 d1 hA2 hcrN hcut
          generalize nth L m2 = c at hE hA3 hcrN
          have hst := (((St.nil w).step hb).push a.vs 28).push b.vs 28
          simp only [World.size_alloc, T2.vs] at hst
          have hgw : g < wr.heap.size := (hC.step hb).1
          go_upto_region 14 with fail
          generalize hW : (wr.alloc (Obj.cells #[.int .i64 a.x, .int .i64 a.y] 28)).alloc (Obj.cells #[.int .i64 b.x, .int .i64 b.y] 28) = W at hst ⊢
          clear hW c0 c1 d0 d1 hgw hb
          generalize wr.heap.size = b6 at hst ⊢
          have hS : ∀ w', St w w' [(b6 + 1, [.int .i64 b.x, .int .i64 b.y]), (b6, [.int .i64 a.x, .int .i64 a.y])] → (w'.cell? ⟨b6, 0, none⟩ = some (.int .i64 a.x) ∧ w'.cell? ⟨b6, 1, none⟩ = some (.int .i64 a.y) ∧ w'.cell? ⟨b6 + 1, 0, none⟩ = some (.int .i64 b.x) ∧ w'.cell? ⟨b6 + 1, 1, none⟩ = some (.int .i64 b.y)) := fun w' h => by have := h.has; simp [Has, HasAt] at this; simp [this]
          have hS1 : ∀ w', St w w' [(b6 + 1, [.int .i64 b.x, .int .i64 b.y]), (b6, [.int .i64 a.x, .int .i64 a.y])] → (w'.cell? ⟨b6, 0, none⟩ = some (.int .i64 a.x) ∧ w'.cell? ⟨b6, 1, none⟩ = some (.int .i64 a.y) ∧ w'.cell? ⟨b6 + 1, 0, none⟩ = some (.int .i64 b.x) ∧ w'.cell? ⟨b6 + 1, 1, none⟩ = some (.int .i64 b.y)) ∧ (w'.cell? ⟨g, off + m2 * 2, none⟩ = some (.int .i64 c.x) ∧ w'.cell? ⟨g, off + m2 * 2 + 1, none⟩ = some (.int .i64 c.y)) := fun w' h => ⟨hS w' h, hE w' h.bel⟩
          generalize hs : crT a b c = s
          go_cut [54] from 44 to 53 (fun s54 wx => s54 = .bool (s == 0) ∧ St w wx [(b6 + 1, [.int .i64 b.x, .int .i64 b.y]), (b6, [.int .i64 a.x, .int .i64 a.y])])
          case first =>
            have hcc := hS1 _ hst
            go_region_held3 (fun w' => St w w' [(b6 + 1, [.int .i64 b.x, .int .i64 b.y]), (b6, [.int .i64 a.x, .int .i64 a.y])] ∧ (w'.cell? ⟨b6, 0, none⟩ = some (.int .i64 a.x) ∧ w'.cell? ⟨b6, 1, none⟩ = some (.int .i64 a.y) ∧ w'.cell? ⟨b6 + 1, 0, none⟩ = some (.int .i64 b.x) ∧ w'.cell? ⟨b6 + 1, 1, none⟩ = some (.int .i64 b.y)) ∧ (w'.cell? ⟨g, off + m2 * 2, none⟩ = some (.int .i64 c.x) ∧ w'.cell? ⟨g, off + m2 * 2 + 1, none⟩ = some (.int .i64 c.y))) (first | exact ‹St _ _ _ ∧ _› | exact keepS hS1 ((‹St _ _ _ ∧ _›).1.step hb3) | exact keepS hS1 (hst.step (Below.refl _ _).drew) | fail)
              (first | (go_at_call 41; refine (l4Cross_v hs hA hA2 hA3 _).mono ?_; rintro e w3 ⟨rfl, hb3⟩))
            clear hst hcc
            obtain ⟨hst, _⟩ := ‹St _ _ _ ∧ _›
            go_wp2_with fail
            go_meet
            exact ⟨rfl, hst⟩
          case rest =>
          clear hst
          obtain ⟨rfl, hst⟩ := hcut
          have HZ : Hid ((s == 0) = true ↔ s = 0) := (by simp : (s == 0) = true ↔ s = 0)
          generalize (s == 0) = zb at HZ ⊢
          cases zb
          case true =>
            have hz : s = 0 := HZ.out.mp rfl
            go_wp2
            go_ret
            exact ⟨ret_bool (sh_no2 hlt (hcrN.trans (hs.trans hz))).symm, hst.bel⟩
          case false =>
          have hz : ¬ s = 0 := fun h => by have := HZ.out.mpr h; cases this
          clear HZ
          go_wp2_with fail
          go_loopw [8] (fun jv wq => ∃ j : Nat, k + 2 ≤ j ∧ j ≤ 13 ∧ jv = .int .i64 j ∧ (∀ m, m < L.length → m < j → badK L k m = false) ∧ St w wq [(b6 + 1, [.int .i64 b.x, .int .i64 b.y]), (b6, [.int .i64 a.x, .int .i64 a.y])]) (fun jv _ => 13 - (intOf jv).toNat)
          case atStart => exact ⟨k + 2, by omega, by omega, by go_num, fun m _ h => by rw [badK, decide_eq_false (by omega)]; rfl, hst⟩
          case round =>
            obtain ⟨j, hj2, hj13, rfl, hno, hsq⟩ := hrel
            by_cases hjl : j < L.length
            · have hji : (j : Int) < L.length := by omega
              have hD1 := nth_ok hr hjl
              have hmj : (j + 1) % L.length < L.length := Nat.mod_lt _ (by omega)
              have hmji : (((j + 1) % L.length : Nat) : Int) < L.length := by omega
              have hD2 := nth_ok hr hmj
              have hTj : (IntKind.i64.wrap ((j : Int) + 1)).tmod (L.length : Int) = (((j + 1) % L.length : Nat) : Int) := by rw [Go.Proofs.Ytipdfajojcpolaa.wr (by omega) (by omega)]; exact tmod1 j L.length
              have hcj := hcut j
              by_cases hcl : k = 0 ∧ j + 1 = L.length
              · have hkb : ((k : Int) == 0) = true := by simp [hcl.1]
                have hjb : ((j : Int) == (L.length : Int) - 1) = true := by simp; omega
                have HC : Hid (k = 0 ∧ j + 1 = L.length) := hcl
                clear hcl hcj
                go_wp2
                go_roundw
                case rel =>
                  refine ⟨j + 1, by omega, by omega, by go_num, fun m hm1 hm2 => ?_, hsq⟩
                  by_cases e : m = j
                  · subst e; have := HC.out; rw [badK, decide_eq_false (by omega)]; rfl
                  · exact hno m hm1 (by omega)
                case measure => simp [intOf]; omega
              · have hbd : badK L k j = cutB a b (nth L j) (nth L ((j + 1) % L.length)) := by
                  rw [badK, hcut, decide_eq_true ⟨hj2, hcl⟩, Bool.true_and]
                clear hcj
                generalize hmm3 : (j + 1) % L.length = mj at hmj hmji hD2 hTj hbd
                have HB : Hid (badK L k j = cutB a b (nth L j) (nth L mj)) := hbd
                clear hbd
                by_cases hk0 : k = 0
                · have hkb : ((k : Int) == 0) = true := by simp [hk0]
                  have hjb : ((j : Int) == (L.length : Int) - 1) = false := by simp; omega
                  clear hk0 hcl
                  cases hv : cutB a b (nth L j) (nth L mj)
                  · obtain ⟨p0, p1⟩ := (hC.step hsq.bel).nth hjl
                    obtain ⟨q0, q1⟩ := (hC.step hsq.bel).nth hmj
                    have hS2 : ∀ w', St w w' [(b6 + 1, [.int .i64 b.x, .int .i64 b.y]), (b6, [.int .i64 a.x, .int .i64 a.y])] → (w'.cell? ⟨b6, 0, none⟩ = some (.int .i64 a.x) ∧ w'.cell? ⟨b6, 1, none⟩ = some (.int .i64 a.y) ∧ w'.cell? ⟨b6 + 1, 0, none⟩ = some (.int .i64 b.x) ∧ w'.cell? ⟨b6 + 1, 1, none⟩ = some (.int .i64 b.y)) ∧ (w'.cell? ⟨g, off + j * 2, none⟩ = some (.int .i64 (nth L j).x) ∧ w'.cell? ⟨g, off + j * 2 + 1, none⟩ = some (.int .i64 (nth L j).y) ∧ w'.cell? ⟨g, off + mj * 2, none⟩ = some (.int .i64 (nth L mj).x) ∧ w'.cell? ⟨g, off + mj * 2 + 1, none⟩ = some (.int .i64 (nth L mj).y)) := by
                      intro w' h
                      obtain ⟨p0, p1⟩ := (hC.step h.bel).nth hjl
                      obtain ⟨q0, q1⟩ := (hC.step h.bel).nth hmj
                      exact ⟨hS w' h, p0, p1, q0, q1⟩
                    have hcc := hS2 _ hsq
                    go_wp2_with fail
                    go_region_held3 (fun w' => St w w' [(b6 + 1, [.int .i64 b.x, .int .i64 b.y]), (b6, [.int .i64 a.x, .int .i64 a.y])] ∧ (w'.cell? ⟨b6, 0, none⟩ = some (.int .i64 a.x) ∧ w'.cell? ⟨b6, 1, none⟩ = some (.int .i64 a.y) ∧ w'.cell? ⟨b6 + 1, 0, none⟩ = some (.int .i64 b.x) ∧ w'.cell? ⟨b6 + 1, 1, none⟩ = some (.int .i64 b.y)) ∧ (w'.cell? ⟨g, off + j * 2, none⟩ = some (.int .i64 (nth L j).x) ∧ w'.cell? ⟨g, off + j * 2 + 1, none⟩ = some (.int .i64 (nth L j).y) ∧ w'.cell? ⟨g, off + mj * 2, none⟩ = some (.int .i64 (nth L mj).x) ∧ w'.cell? ⟨g, off + mj * 2 + 1, none⟩ = some (.int .i64 (nth L mj).y))) (first | exact ‹St _ _ _ ∧ _› | exact keepS hS2 ((‹St _ _ _ ∧ _›).1.step hb3) | exact keepS hS2 (hsq.step (Below.refl _ _).drew) | fail)
                      (first | (go_at_call 42; refine (l4Cut_v hv hA hA2 hD1 hD2 _).mono ?_; rintro e w3 ⟨rfl, hb3⟩))
                    obtain ⟨hsf, _⟩ := ‹St _ _ _ ∧ _›
                    go_wp2
                    go_roundw
                    case rel =>
                      refine ⟨j + 1, by omega, by omega, by go_num, fun m hm1 hm2 => ?_, hsf⟩
                      by_cases e : m = j
                      · subst e; exact HB.out.trans hv
                      · exact hno m hm1 (by omega)
                    case measure => simp [intOf]; omega
                  · obtain ⟨p0, p1⟩ := (hC.step hsq.bel).nth hjl
                    obtain ⟨q0, q1⟩ := (hC.step hsq.bel).nth hmj
                    have hS2 : ∀ w', St w w' [(b6 + 1, [.int .i64 b.x, .int .i64 b.y]), (b6, [.int .i64 a.x, .int .i64 a.y])] → (w'.cell? ⟨b6, 0, none⟩ = some (.int .i64 a.x) ∧ w'.cell? ⟨b6, 1, none⟩ = some (.int .i64 a.y) ∧ w'.cell? ⟨b6 + 1, 0, none⟩ = some (.int .i64 b.x) ∧ w'.cell? ⟨b6 + 1, 1, none⟩ = some (.int .i64 b.y)) ∧ (w'.cell? ⟨g, off + j * 2, none⟩ = some (.int .i64 (nth L j).x) ∧ w'.cell? ⟨g, off + j * 2 + 1, none⟩ = some (.int .i64 (nth L j).y) ∧ w'.cell? ⟨g, off + mj * 2, none⟩ = some (.int .i64 (nth L mj).x) ∧ w'.cell? ⟨g, off + mj * 2 + 1, none⟩ = some (.int .i64 (nth L mj).y)) := by
                      intro w' h
                      obtain ⟨p0, p1⟩ := (hC.step h.bel).nth hjl
                      obtain ⟨q0, q1⟩ := (hC.step h.bel).nth hmj
                      exact ⟨hS w' h, p0, p1, q0, q1⟩
                    have hcc := hS2 _ hsq
                    go_wp2_with fail
                    go_region_held3 (fun w' => St w w' [(b6 + 1, [.int .i64 b.x, .int .i64 b.y]), (b6, [.int .i64 a.x, .int .i64 a.y])] ∧ (w'.cell? ⟨b6, 0, none⟩ = some (.int .i64 a.x) ∧ w'.cell? ⟨b6, 1, none⟩ = some (.int .i64 a.y) ∧ w'.cell? ⟨b6 + 1, 0, none⟩ = some (.int .i64 b.x) ∧ w'.cell? ⟨b6 + 1, 1, none⟩ = some (.int .i64 b.y)) ∧ (w'.cell? ⟨g, off + j * 2, none⟩ = some (.int .i64 (nth L j).x) ∧ w'.cell? ⟨g, off + j * 2 + 1, none⟩ = some (.int .i64 (nth L j).y) ∧ w'.cell? ⟨g, off + mj * 2, none⟩ = some (.int .i64 (nth L mj).x) ∧ w'.cell? ⟨g, off + mj * 2 + 1, none⟩ = some (.int .i64 (nth L mj).y))) (first | exact ‹St _ _ _ ∧ _› | exact keepS hS2 ((‹St _ _ _ ∧ _›).1.step hb3) | exact keepS hS2 (hsq.step (Below.refl _ _).drew) | fail)
                      (first | (go_at_call 42; refine (l4Cut_v hv hA hA2 hD1 hD2 _).mono ?_; rintro e w3 ⟨rfl, hb3⟩))
                    obtain ⟨hsf, _⟩ := ‹St _ _ _ ∧ _›
                    go_wp2
                    go_ret
                    exact ⟨ret_bool (sh_no3 hlt hjl (HB.out.trans hv)).symm, hsf.bel⟩
                · have hkb : ((k : Int) == 0) = false := by simp; omega
                  clear hk0 hcl
                  cases hv : cutB a b (nth L j) (nth L mj)
                  · obtain ⟨p0, p1⟩ := (hC.step hsq.bel).nth hjl
                    obtain ⟨q0, q1⟩ := (hC.step hsq.bel).nth hmj
                    have hS2 : ∀ w', St w w' [(b6 + 1, [.int .i64 b.x, .int .i64 b.y]), (b6, [.int .i64 a.x, .int .i64 a.y])] → (w'.cell? ⟨b6, 0, none⟩ = some (.int .i64 a.x) ∧ w'.cell? ⟨b6, 1, none⟩ = some (.int .i64 a.y) ∧ w'.cell? ⟨b6 + 1, 0, none⟩ = some (.int .i64 b.x) ∧ w'.cell? ⟨b6 + 1, 1, none⟩ = some (.int .i64 b.y)) ∧ (w'.cell? ⟨g, off + j * 2, none⟩ = some (.int .i64 (nth L j).x) ∧ w'.cell? ⟨g, off + j * 2 + 1, none⟩ = some (.int .i64 (nth L j).y) ∧ w'.cell? ⟨g, off + mj * 2, none⟩ = some (.int .i64 (nth L mj).x) ∧ w'.cell? ⟨g, off + mj * 2 + 1, none⟩ = some (.int .i64 (nth L mj).y)) := by
                      intro w' h
                      obtain ⟨p0, p1⟩ := (hC.step h.bel).nth hjl
                      obtain ⟨q0, q1⟩ := (hC.step h.bel).nth hmj
                      exact ⟨hS w' h, p0, p1, q0, q1⟩
                    have hcc := hS2 _ hsq
                    go_wp2_with fail
                    go_region_held3 (fun w' => St w w' [(b6 + 1, [.int .i64 b.x, .int .i64 b.y]), (b6, [.int .i64 a.x, .int .i64 a.y])] ∧ (w'.cell? ⟨b6, 0, none⟩ = some (.int .i64 a.x) ∧ w'.cell? ⟨b6, 1, none⟩ = some (.int .i64 a.y) ∧ w'.cell? ⟨b6 + 1, 0, none⟩ = some (.int .i64 b.x) ∧ w'.cell? ⟨b6 + 1, 1, none⟩ = some (.int .i64 b.y)) ∧ (w'.cell? ⟨g, off + j * 2, none⟩ = some (.int .i64 (nth L j).x) ∧ w'.cell? ⟨g, off + j * 2 + 1, none⟩ = some (.int .i64 (nth L j).y) ∧ w'.cell? ⟨g, off + mj * 2, none⟩ = some (.int .i64 (nth L mj).x) ∧ w'.cell? ⟨g, off + mj * 2 + 1, none⟩ = some (.int .i64 (nth L mj).y))) (first | exact ‹St _ _ _ ∧ _› | exact keepS hS2 ((‹St _ _ _ ∧ _›).1.step hb3) | exact keepS hS2 (hsq.step (Below.refl _ _).drew) | fail)
                      (first | (go_at_call 42; refine (l4Cut_v hv hA hA2 hD1 hD2 _).mono ?_; rintro e w3 ⟨rfl, hb3⟩))
                    obtain ⟨hsf, _⟩ := ‹St _ _ _ ∧ _›
                    go_wp2
                    go_roundw
                    case rel =>
                      refine ⟨j + 1, by omega, by omega, by go_num, fun m hm1 hm2 => ?_, hsf⟩
                      by_cases e : m = j
                      · subst e; exact HB.out.trans hv
                      · exact hno m hm1 (by omega)
                    case measure => simp [intOf]; omega
                  · obtain ⟨p0, p1⟩ := (hC.step hsq.bel).nth hjl
                    obtain ⟨q0, q1⟩ := (hC.step hsq.bel).nth hmj
                    have hS2 : ∀ w', St w w' [(b6 + 1, [.int .i64 b.x, .int .i64 b.y]), (b6, [.int .i64 a.x, .int .i64 a.y])] → (w'.cell? ⟨b6, 0, none⟩ = some (.int .i64 a.x) ∧ w'.cell? ⟨b6, 1, none⟩ = some (.int .i64 a.y) ∧ w'.cell? ⟨b6 + 1, 0, none⟩ = some (.int .i64 b.x) ∧ w'.cell? ⟨b6 + 1, 1, none⟩ = some (.int .i64 b.y)) ∧ (w'.cell? ⟨g, off + j * 2, none⟩ = some (.int .i64 (nth L j).x) ∧ w'.cell? ⟨g, off + j * 2 + 1, none⟩ = some (.int .i64 (nth L j).y) ∧ w'.cell? ⟨g, off + mj * 2, none⟩ = some (.int .i64 (nth L mj).x) ∧ w'.cell? ⟨g, off + mj * 2 + 1, none⟩ = some (.int .i64 (nth L mj).y)) := by
                      intro w' h
                      obtain ⟨p0, p1⟩ := (hC.step h.bel).nth hjl
                      obtain ⟨q0, q1⟩ := (hC.step h.bel).nth hmj
                      exact ⟨hS w' h, p0, p1, q0, q1⟩
                    have hcc := hS2 _ hsq
                    go_wp2_with fail
                    go_region_held3 (fun w' => St w w' [(b6 + 1, [.int .i64 b.x, .int .i64 b.y]), (b6, [.int .i64 a.x, .int .i64 a.y])] ∧ (w'.cell? ⟨b6, 0, none⟩ = some (.int .i64 a.x) ∧ w'.cell? ⟨b6, 1, none⟩ = some (.int .i64 a.y) ∧ w'.cell? ⟨b6 + 1, 0, none⟩ = some (.int .i64 b.x) ∧ w'.cell? ⟨b6 + 1, 1, none⟩ = some (.int .i64 b.y)) ∧ (w'.cell? ⟨g, off + j * 2, none⟩ = some (.int .i64 (nth L j).x) ∧ w'.cell? ⟨g, off + j * 2 + 1, none⟩ = some (.int .i64 (nth L j).y) ∧ w'.cell? ⟨g, off + mj * 2, none⟩ = some (.int .i64 (nth L mj).x) ∧ w'.cell? ⟨g, off + mj * 2 + 1, none⟩ = some (.int .i64 (nth L mj).y))) (first | exact ‹St _ _ _ ∧ _› | exact keepS hS2 ((‹St _ _ _ ∧ _›).1.step hb3) | exact keepS hS2 (hsq.step (Below.refl _ _).drew) | fail)
                      (first | (go_at_call 42; refine (l4Cut_v hv hA hA2 hD1 hD2 _).mono ?_; rintro e w3 ⟨rfl, hb3⟩))
                    obtain ⟨hsf, _⟩ := ‹St _ _ _ ∧ _›
                    go_wp2
                    go_ret
                    exact ⟨ret_bool (sh_no3 hlt hjl (HB.out.trans hv)).symm, hsf.bel⟩
            · have hji : ¬ (j : Int) < L.length := by omega
              go_wp2
              go_roundw
              case rel =>
                refine ⟨k + 1, by omega, by go_num, fun q hq => ?_, hsq.bel⟩
                by_cases e : q = k
                · subst e; exact ⟨fun h => hz (hs.symm.trans (hcrN.symm.trans h)), fun m hm1 => hno m hm1 (by omega)⟩
                · exact hgood q (by omega)
              case measure => simp [intOf]; omega
        · obtain rfl : k = L.length := by omega
          go_wp2
          go_ret
          exact ⟨ret_bool (sh_yes hr hgood).symm, hb⟩
end Go.Proofs.Ytipdfajojcpolaa
