/-
  The functions of Records where rows stand.
-/
import Derived.Test.YtjjnmeahcjpinaaD3
namespace Go.Proofs.Ytjjnmeahcjpinaa
open Go.Shelf Go.RowKit Go.Joins

section
variable {w W : World} {rs : List Rw} {g n c : Nat} {L : List Rc}
abbrev lsR (g n c : Nat) (L : List Rc) : Rw := rG kR (.slice (some ⟨g, 0, none⟩) n c) L
theorem iSetV (h : Sg w W rs) (hm : lsR g n c L ∈ rs) (hn : n ≤ 10) (r : Rc) {M : List Rc} {b : Bool} (hM : setL L r = M) (hb : setB L r = b) :
    Calls Try.prog 12 #[.slice (some ⟨g, 0, none⟩) n c, r.v] W fun e w' => ∃ q m c', Hid (M.length = m) ∧ e = .returned (.tuple #[.slice q m c', .bool b]) ∧ Sg w w' (rG kR (.slice q m c') M :: rs) := by
  have ho := h.mem hm
  exact (iSet_any g 0 c L n (OwG.len ho).symm W (OwG.cs ho) (OwG.cap ho) (by omega) r hM hb).mono fun e w' ⟨q, m, c', h0, h1, h2⟩ => ⟨q, m, c', h0, h1, h.addL h2⟩
theorem sSetV (h : Sg w W rs) (hm : lsR g n c L ∈ rs) (hn : n ≤ 10) (r : Rc) {M : List Rc} {b : Bool} (hM : setL L r = M) (hb : setB L r = b) :
    Calls Try.prog 20 #[.slice (some ⟨g, 0, none⟩) n c, r.v] W fun e w' => ∃ q m c', Hid (M.length = m) ∧ e = .returned (.tuple #[.slice q m c', .bool b]) ∧ Sg w w' (rG kR (.slice q m c') M :: rs) := by
  have ho := h.mem hm
  exact (sSet_any ⟨g, 0, none⟩ c L n (OwG.len ho).symm W (OwG.sl ho) (by omega) r hM hb).mono fun e w' ⟨q, m, c', h0, h1, h2⟩ => ⟨q, m, c', h0, h1, h.addL h2⟩
theorem iCutV (h : Sg w W rs) (hm : lsR g n c L ∈ rs) (hn : n ≤ 10) (t i : Int) {M : List Rc} {b : Bool} (hM : cutL L t i = M) (hb : cutB L t i = b) :
    Calls Try.prog 14 #[.slice (some ⟨g, 0, none⟩) n c, .int .i64 t, .int .i64 i] W fun e w' => ∃ q m c', Hid (M.length = m) ∧ e = .returned (.tuple #[.slice q m c', .bool b]) ∧ Sg w w' (rG kR (.slice q m c') M :: rs) := by
  have ho := h.mem hm
  exact (iCut_any g 0 c L n (OwG.len ho).symm W (OwG.cs ho) (OwG.cap ho) (by omega) t i hM hb).mono fun e w' ⟨q, m, c', h0, h1, h2⟩ => ⟨q, m, c', h0, h1, h.addL h2⟩
theorem sCutV (h : Sg w W rs) (hm : lsR g n c L ∈ rs) (hn : n ≤ 10) (t i : Int) {M : List Rc} {b : Bool} (hM : cutL L t i = M) (hb : cutB L t i = b) :
    Calls Try.prog 29 #[.slice (some ⟨g, 0, none⟩) n c, .int .i64 t, .int .i64 i] W fun e w' => ∃ q m c', Hid (M.length = m) ∧ e = .returned (.tuple #[.slice q m c', .bool b]) ∧ Sg w w' (rG kR (.slice q m c') M :: rs) := by
  have ho := h.mem hm
  exact (sCut_any ⟨g, 0, none⟩ c L n (OwG.len ho).symm W (OwG.sl ho) (by omega) t i hM hb).mono fun e w' ⟨q, m, c', h0, h1, h2⟩ => ⟨q, m, c', h0, h1, h.addL h2⟩
theorem iOfV (h : Sg w W rs) (hm : lsR g n c L ∈ rs) (hn : n ≤ 10) (t : Int) {M : List Rc} (hM : ofL L t = M) :
    Calls Try.prog 16 #[.slice (some ⟨g, 0, none⟩) n c, .int .i64 t] W fun e w' => ∃ q m c', Hid (M.length = m) ∧ e = .returned (.slice q m c') ∧ Sg w w' (rG kR (.slice q m c') M :: rs) := by
  have ho := h.mem hm
  exact (iOf_any (some ⟨g, 0, none⟩) c L n (OwG.len ho).symm W (OwG.sl ho) (by omega) t hM).mono fun e w' ⟨q, m, c', h0, h1, h2⟩ => ⟨q, m, c', h0, h1, h.addL h2⟩
theorem sOfV (h : Sg w W rs) (hm : lsR g n c L ∈ rs) (hn : n ≤ 10) (t : Int) {M : List Rc} (hM : ofL L t = M) :
    Calls Try.prog 24 #[.slice (some ⟨g, 0, none⟩) n c, .int .i64 t] W fun e w' => ∃ q m c', Hid (M.length = m) ∧ e = .returned (.slice q m c') ∧ Sg w w' (rG kR (.slice q m c') M :: rs) := by
  have ho := h.mem hm
  exact (sOf_any (some ⟨g, 0, none⟩) c L n (OwG.len ho).symm W (OwG.sl ho) (by omega) t hM).mono fun e w' ⟨q, m, c', h0, h1, h2⟩ => ⟨q, m, c', h0, h1, h.addL h2⟩
theorem iInV (h : Sg w W rs) (hm : lsR g n c L ∈ rs) (hn : n ≤ 10) (t : Int) {cp : Option Addr} {cn cc : Nat} {cs : List M.T3} (hc : rG kC (.slice cp cn cc) cs ∈ rs) (hcn : cn ≤ 10) {I : List Int} (hI : inL L t cs = I) :
    Calls Try.prog 18 #[.slice (some ⟨g, 0, none⟩) n c, .int .i64 t, .slice cp cn cc] W fun e w' => ∃ q m c', Hid (I.length = m) ∧ e = .returned (.slice q m c') ∧ Sg w w' (rG kI (.slice q m c') I :: rs) := by
  have ho := h.mem hm
  have hoc := h.mem hc
  exact (iIn_any (some ⟨g, 0, none⟩) c L n (OwG.len ho).symm W (OwG.sl ho) (by omega) t cp cc cs cn (OwG.len hoc).symm (sl_of (OwG.sl hoc)) (by omega) hI).mono fun e w' ⟨q, m, c', h0, h1, h2⟩ => ⟨q, m, c', h0, h1, h.addL h2⟩
theorem sInV (h : Sg w W rs) (hm : lsR g n c L ∈ rs) (hn : n ≤ 10) (t : Int) {cp : Option Addr} {cn cc : Nat} {cs : List M.T3} (hc : rG kC (.slice cp cn cc) cs ∈ rs) (hcn : cn ≤ 10) {I : List Int} (hI : inL L t cs = I) :
    Calls Try.prog 26 #[.slice (some ⟨g, 0, none⟩) n c, .int .i64 t, .slice cp cn cc] W fun e w' => ∃ q m c', Hid (I.length = m) ∧ e = .returned (.slice q m c') ∧ Sg w w' (rG kI (.slice q m c') I :: rs) := by
  have ho := h.mem hm
  have hoc := h.mem hc
  exact (sIn_any (some ⟨g, 0, none⟩) c L n (OwG.len ho).symm W (OwG.sl ho) (by omega) t cp cc cs cn (OwG.len hoc).symm (sl_of (OwG.sl hoc)) (by omega) hI).mono fun e w' ⟨q, m, c', h0, h1, h2⟩ => ⟨q, m, c', h0, h1, h.addL h2⟩
theorem iSameV (h : Sg w W rs) (hm : lsR g n c L ∈ rs) (hn : n ≤ 10) {g2 n2 c2 : Nat} {L2 : List Rc} (hm2 : lsR g2 n2 c2 L2 ∈ rs) (hn2 : n2 ≤ 10) {v : Bool} (hv : (recsB L = true ∧ L = L2) ↔ v = true) :
    Calls Try.prog 27 #[.slice (some ⟨g, 0, none⟩) n c, .slice (some ⟨g2, 0, none⟩) n2 c2] W fun e w' => e = .returned (.bool v) ∧ Sg w w' rs := by
  have ho := h.mem hm
  have ho2 := h.mem hm2
  exact (iSame_any _ _ c c2 L L2 n n2 (OwG.len ho).symm (OwG.len ho2).symm W (OwG.sl ho) (OwG.sl ho2) (by omega) (by omega) hv).mono fun e w' ⟨h1, h2⟩ => ⟨h1, h.step h2⟩
theorem sSameV (h : Sg w W rs) (hm : lsR g n c L ∈ rs) (hn : n ≤ 10) {g2 n2 c2 : Nat} {L2 : List Rc} (hm2 : lsR g2 n2 c2 L2 ∈ rs) (hn2 : n2 ≤ 10) {v : Bool} (hv : (recsB L = true ∧ L = L2) ↔ v = true) :
    Calls Try.prog 28 #[.slice (some ⟨g, 0, none⟩) n c, .slice (some ⟨g2, 0, none⟩) n2 c2] W fun e w' => e = .returned (.bool v) ∧ Sg w w' rs := by
  have ho := h.mem hm
  have ho2 := h.mem hm2
  exact (sSame_any _ _ c c2 L L2 n n2 (OwG.len ho).symm (OwG.len ho2).symm W (OwG.sl ho) (OwG.sl ho2) (by omega) (by omega) hv).mono fun e w' ⟨h1, h2⟩ => ⟨h1, h.step h2⟩
end
section
variable {w W : World} {rs : List Rw} {q q2 : Option Addr} {m c c2 : Nat} {L : List Rc}
theorem likeRV (h : Sg w W rs) (hm : rG kR (.slice q m c) L ∈ rs) (hm2 : rG kR (.slice q2 m c2) L ∈ rs) (hl : m ≤ 1000) :
    Calls Try.prog 21 #[.slice q m c, .slice q2 m c2] W fun e w' => e = .returned (.bool true) ∧ Sg w w' rs := by
  have ho := h.mem hm
  exact (likeR_same _ _ c c2 L m (OwG.len ho).symm W (OwG.sl ho) (OwG.sl (h.mem hm2)) (by omega)).mono fun e w' ⟨h1, h2⟩ => ⟨h1, h.step h2⟩
theorem likeIV {I : List Int} (h : Sg w W rs) (hm : rG kI (.slice q m c) I ∈ rs) (hm2 : rG kI (.slice q2 m c2) I ∈ rs) (hl : m ≤ 1000) :
    Calls Try.prog 25 #[.slice q m c, .slice q2 m c2] W fun e w' => e = .returned (.bool true) ∧ Sg w w' rs := by
  have ho := h.mem hm
  exact (likeI_same _ _ c c2 I m (OwG.len ho).symm W (OwG.sl ho) (OwG.sl (h.mem hm2)) (by omega)).mono fun e w' ⟨h1, h2⟩ => ⟨h1, h.step h2⟩
theorem iOkV (h : Sg w W rs) (hm : rG kR (.slice q m c) L ∈ rs) (hl : m ≤ 1000) {v : Bool} (hv : recsB L = v) :
    Calls Try.prog 22 #[.slice q m c] W fun e w' => e = .returned (.bool v) ∧ Sg w w' rs := by
  have ho := h.mem hm
  exact (iOk_v hv q c m (OwG.len ho).symm W (OwG.sl ho) (by omega)).mono fun e w' ⟨h1, h2⟩ => ⟨h1, h.step h2⟩
theorem sOkV (h : Sg w W rs) (hm : rG kR (.slice q m c) L ∈ rs) (hl : m ≤ 1000) {v : Bool} (hv : recsB L = v) :
    Calls Try.prog 23 #[.slice q m c] W fun e w' => e = .returned (.bool v) ∧ Sg w w' rs := by
  have ho := h.mem hm
  exact (sOk_v hv q c m (OwG.len ho).symm W (OwG.sl ho) (by omega)).mono fun e w' ⟨h1, h2⟩ => ⟨h1, h.step h2⟩
/-- Cut of a list that is its own, nil too: what is gone can't be cut again. -/
theorem iCutN (h : Sg w W rs) (hm : rG kR (.slice q m c) L ∈ rs) (hl : m ≤ 1000) (t i : Int) (hb : cutB L t i = false) :
    Calls Try.prog 14 #[.slice q m c, .int .i64 t, .int .i64 i] W fun e w' => ∃ q' m' c', e = .returned (.tuple #[.slice q' m' c', .bool false]) ∧ Sg w w' rs := by
  have ho := h.mem hm
  have hn := OwG.len ho
  subst hn
  rcases ho.2 with ⟨h1, _⟩ | ⟨g, cap, cur, h1, _⟩
  · injection h1 with a b d
    subst a d
    rw [b]
    exact (iCut_nil t i W).mono fun e w' ⟨q', m', c', h1, h2⟩ => ⟨q', m', c', h1, h.step h2⟩
  · injection h1 with a b d
    subst a d
    exact (iCut_any g 0 c L L.length rfl W (OwG.cs ho) (OwG.cap ho) (by omega) t i rfl hb).mono fun e w' ⟨q', m', c', _, h1, h2⟩ => ⟨q', m', c', h1, h.step h2.bel⟩
end
theorem cut_len {L : List Rc} {t i : Int} (h : cutB L t i = true) : (cutL L t i).length = L.length - 1 ∧ 1 ≤ L.length ∧ recsB (cutL L t i) = true ∧ cutB (cutL L t i) t i = false := by
  unfold cutB at h
  rw [Bool.and_eq_true] at h
  have e : cutL L t i = swL L (kq t i) [] := by unfold cutL; rw [if_pos h.1]
  have hp := isAt_lt h.2
  have hl := swL_len L (kq t i) []
  unfold past at hl
  rw [h.2] at hl
  simp at hl
  rw [e]
  refine ⟨by omega, by omega, sw_ok0 h.1, ?_⟩
  unfold cutB
  rw [sw_gone (ok_rise h.1), Bool.and_false]
theorem ofL_ten {L : List Rc} {t : Int} {r : Rc} (h : r ∈ ofL L t) : r.t = t := by
  unfold ofL at h
  split at h
  · have := (List.mem_filter.1 h).2; exact of_decide_eq_true this
  · simp at h
theorem set_facts {L : List Rc} {r : Rc} (hok : recsB L = true) (h : setB L r = true) : setL L r = swL L r [r] ∧ r ∈ setL L r ∧ recsB (setL L r) = true ∧ L.length ≤ (setL L r).length ∧ (setL L r).length ≤ L.length + 1 ∧ ∀ a ∈ L, a ∈ setL L r ∨ (a.t = r.t ∧ a.i = r.i) := by
  have e : setL L r = swL L r [r] := by unfold setL; rw [if_pos hok, if_pos h]
  have h' := h
  unfold setB at h'
  simp only [Bool.and_eq_true, decide_eq_true_eq] at h'
  have hl := @sw_len1 L r
  rw [e]
  refine ⟨rfl, by unfold swL; simp, sw_ok1 hok h'.2.1 h'.2.2, by split at hl <;> omega, by split at hl <;> omega, fun a ha => ?_⟩
  cases hk : sameK a r
  · exact .inl (sw_kept ha hk)
  · exact .inr (sameK_iff.1 hk)
theorem set_none {L : List Rc} {r : Rc} (hok : recsB L = true) (h : setB L r = false) : setL L r = L := by unfold setL; rw [if_pos hok, h]; rfl
end Go.Proofs.Ytjjnmeahcjpinaa
