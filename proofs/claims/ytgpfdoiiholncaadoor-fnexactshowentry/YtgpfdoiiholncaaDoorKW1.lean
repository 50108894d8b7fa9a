/-
  A Text's word, an Item's words: the program's; a Text's word, the spec's.
-/
import Derived.Test.YtgpfdoiiholncaaDoorKH2
import Derived.Test.YtgpfdoiiholncaaDoorKP4
import Derived.Test.YtgpfdoiiholncaaDoorKE1
namespace Go.Proofs.YtgpfdoiiholncaaDoor.K
open Go.Shelf Go.RowKit Go.Joins
attribute [local go_sem] Oper.semAt_some

theorem appT : Ap kT 37 (.string ByteArray.empty) 16 := ⟨Tryd.underlying37, info9, rfl, by decide, by decide⟩
theorem oneTs (L : List ByteArray) : ∀ u ∈ kT.flat L, u.oneCell' = true := fun u hu => by
  unfold Kd.flat at hu
  obtain ⟨s, _, hs⟩ := List.mem_flatMap.mp hu
  simp [kT] at hs
  subst hs; rfl
theorem keepG {A B : World → Prop} (h : Hid (∀ w', A w' → B w')) {w' : World} (ha : A w') : A w' ∧ B w' := ⟨ha, h.out w' ha⟩
/-- A Text's word. -/
def hxS (s : ByteArray) : ByteArray := ⟨(J.hexW s.data.toList).toArray⟩
theorem size0 {s : ByteArray} (h : s.size = 0) : s = ByteArray.empty := ByteArray.ext (Array.eq_empty_of_size_eq_zero h)
theorem hxS_pos {s : ByteArray} (h : ¬ s.size = 0) : hxS s = ⟨(J.hexL s.data.toList).toArray⟩ := by
  unfold hxS J.hexW
  rw [if_neg]
  intro e
  have := congrArg List.length e
  exact h this
theorem ne_list {s : ByteArray} (h : ¬ s.size = 0) : s.toList.isEmpty = false := by
  cases e : s.toList with
  | nil => exact absurd (congrArg ByteArray.size (I.toList_inj (e.trans I.no_bytes.symm) : s = ByteArray.empty)) h
  | cons a t => rfl
theorem iHexW_any (s : ByteArray) (w : World) (hn : s.size ≤ 1000) :
    Calls Tryd.prog 42 #[.string s] w fun e w' => e = .returned (.string (hxS s)) ∧ Below w.heap.size w w' := by
  by_cases h : s.size = 0
  · obtain rfl := size0 h
    go_enter Tryd.func42, Tryd.ntmps42
    go_wp2
    go_ret
    exact ⟨rfl, Below.refl _ _⟩
  · rw [hxS_pos h]
    exact iHex_any s w hn (ne_list h) (by omega)
theorem sHexW_any (s : ByteArray) (w : World) (hn : s.size ≤ 1000) :
    Calls Tryd.prog 24 #[.string s] w fun e w' => e = .returned (.string (hxS s)) ∧ Below w.heap.size w w' := by
  by_cases h : s.size = 0
  · obtain rfl := size0 h
    go_enter Tryd.func24, Tryd.ntmps24
    go_wp2
    go_ret
    exact ⟨rfl, Below.refl _ _⟩
  · rw [hxS_pos h]
    exact sHex_any s w hn (ne_list h) (by omega)
/-- An Item's words. -/
def itS (r : Rc) : List ByteArray := [dgS r.t, dgS r.i, dgS r.x, dgS r.y, dgS (r.s.size : Int), hxS r.s]
theorem rec5 {w W : World} {rs : List Rw} (h : Sg w W rs) {g n : Nat} {q : Rc} (hm : rG I.kR (.slice (some ⟨g, 0, none⟩) 1 n) [q] ∈ rs) :
    W.cell? ⟨g, 0, none⟩ = some (.int .i64 q.t) ∧ W.cell? ⟨g, 1, none⟩ = some (.int .i64 q.i) ∧ W.cell? ⟨g, 2, none⟩ = some (.int .i64 q.x) ∧ W.cell? ⟨g, 3, none⟩ = some (.int .i64 q.y) ∧ W.cell? ⟨g, 4, none⟩ = some (.string q.s) := by
  have hC := OwG.cs (h.mem hm)
  have f := fun i u hu => hC.at (k := 0) (a := q) rfl (i := i) (u := u) hu
  simp only [Nat.zero_mul, Nat.zero_add] at f
  exact ⟨f 0 _ rfl, f 1 _ rfl, f 2 _ rfl, f 3 _ rfl, f 4 _ rfl⟩
set_option maxRecDepth 100000 in
set_option maxHeartbeats 4000000 in
theorem iItem_any (r : Rc) (w : World) (hr : I.recB r = true) (hT : TB w) :
    Calls Tryd.prog 34 #[r.v] w fun e w' => ∃ g, e = .returned (.slice (some ⟨g, 0, none⟩) 6 6) ∧ Sg w w' [rG kT (.slice (some ⟨g, 0, none⟩) 6 6) (itS r)] := by
  obtain ⟨h1, h2, h3, h4, h5⟩ := J.rec_in hr
  clear hr
  obtain ⟨t, i, x, y, s⟩ := r
  simp only at h1 h2 h3 h4 h5
  have hrow := (Sg.nil w).lit I.kR [⟨t, i, x, y, s⟩] 1 rfl (by decide) #[.int .i64 t, .int .i64 i, .int .i64 x, .int .i64 y, .string s] rfl
  change Sg w (w.alloc (.cells #[.int .i64 t, .int .i64 i, .int .i64 x, .int .i64 y, .string s] 54)) _ at hrow
  have HK : Hid (∀ w', Sg w w' [rG I.kR (.slice (some ⟨w.heap.size, 0, none⟩) 1 1) [⟨t, i, x, y, s⟩]] → ((w'.cell? ⟨w.heap.size, 0, none⟩ = some (.int .i64 t) ∧ w'.cell? ⟨w.heap.size, 1, none⟩ = some (.int .i64 i) ∧ w'.cell? ⟨w.heap.size, 2, none⟩ = some (.int .i64 x) ∧ w'.cell? ⟨w.heap.size, 3, none⟩ = some (.int .i64 y) ∧ w'.cell? ⟨w.heap.size, 4, none⟩ = some (.string s)) ∧ TB w')) := fun w' h => ⟨rec5 h (g := w.heap.size) (n := 1) (q := ⟨t, i, x, y, s⟩) (by simp), hT.step h.bel⟩
  go_enter Tryd.func34, Tryd.ntmps34
  go_wp2
  go_region_held3 (fun w' => Sg w w' [rG I.kR (.slice (some ⟨w.heap.size, 0, none⟩) 1 1) [⟨t, i, x, y, s⟩]] ∧ ((w'.cell? ⟨w.heap.size, 0, none⟩ = some (.int .i64 t) ∧ w'.cell? ⟨w.heap.size, 1, none⟩ = some (.int .i64 i) ∧ w'.cell? ⟨w.heap.size, 2, none⟩ = some (.int .i64 x) ∧ w'.cell? ⟨w.heap.size, 3, none⟩ = some (.int .i64 y) ∧ w'.cell? ⟨w.heap.size, 4, none⟩ = some (.string s)) ∧ TB w'))
    (first | exact ‹Sg _ _ _ ∧ _› | exact keepG HK hrow | exact keepG HK (hrow.step (below_alloc1 _ _)) | exact keepG HK (hrow.step ((Below.refl _ _).drew)) | fail)
    (first
      | (go_at_call 16; refine (decimal_any _ (by omega) (by omega) _ (‹Sg _ _ _ ∧ _ ∧ _›).2.2).mono ?_; rintro e w2 ⟨rfl, hb2⟩; (first | (replace hrow := hrow.step hb2) | (replace hrow := (hrow.step (Below.refl _ _).drew).step hb2)))
      | (go_at_call 42; refine (iHexW_any s _ (by omega)).mono ?_; rintro e w2 ⟨rfl, hb2⟩; (first | (replace hrow := hrow.step hb2) | (replace hrow := (hrow.step (Below.refl _ _).drew).step hb2))))
  all_goals
    have hL := hrow.lit kT (itS ⟨t, i, x, y, s⟩) 6 rfl (by decide) #[.string (dgS t), .string (dgS i), .string (dgS x), .string (dgS y), .string (dgS s.size), .string (hxS s)] rfl
    go_wp2
    go_ret
    exact ⟨_, rfl, hL.sub (by simp)⟩
end Go.Proofs.YtgpfdoiiholncaaDoor.K
