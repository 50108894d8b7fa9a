/-
  What FnDeals calls, told of Deals whatever lies beside them.
-/
import Derived.Test.YtobbankkfplooaaGreatKQ1S
import Derived.Test.YtobbankkfplooaaGreatKDX
import Derived.Test.YtobbankkfplooaaGreatKW2
import Derived.Test.YtobbankkfplooaaGreatKP10
import Derived.Test.YtobbankkfplooaaGreatKP11
import Derived.Test.YtobbankkfplooaaGreatKS4
import Derived.Test.YtobbankkfplooaaGreatKE0
namespace Go.Proofs.YtobbankkfplooaaGreat.K.G
open Y

def votedR (d : Dd) (x : Int) (yes : Bool) : Dd × Bool := if dB d = true then votedD d x yes else (zdd, false)
def decidedR (d : Dd) (off : Bool) : Dd × Bool := if dB d = true then decidedD d off else (zdd, false)
def forgottenR (d : Dd) : Dd := if dB d = true then forgottenD d else zdd
theorem voted_yes {d : Dd} {x : Int} {yes : Bool} (h : (votedR d x yes).2 = true) : DP d ∧ d.s = 0 ∧ 0 ≤ atN d.O x 0 ∧ (atN d.O x 0).toNat < d.V.length ∧ (votedR d x yes).1 = {d with V := d.V.set (atN d.O x 0).toNat (voteN yes)} := by
  unfold votedR at h ⊢
  by_cases hd : dB d = true
  · rw [if_pos hd] at h ⊢
    have hp := dB_iff.1 hd
    have hb := atN_bd (L := d.O) (x := x) (k := 0) (by decide)
    have h1 := hp.on
    have h2 := hp.un
    unfold votedD at h ⊢
    dsimp only at h ⊢
    by_cases c : d.s = 0 ∧ 0 ≤ atN d.O x 0 ∧ d.V.getD (atN d.O x 0).toNat 0 = 0
    · rw [if_pos c]
      exact ⟨hp, c.1, c.2.1, by omega, rfl⟩
    · rw [if_neg c] at h; cases h
  · rw [if_neg hd] at h; cases h
theorem vote_12 (yes : Bool) : voteN yes = 1 ∨ voteN yes = 2 := by cases yes <;> simp [voteN]
theorem voted_right {d : Dd} {x : Int} {yes : Bool} (h : (votedR d x yes).2 = true) : dB (votedR d x yes).1 = true := by
  obtain ⟨hp, hs, hk, hl, e⟩ := voted_yes h
  rw [e, dB_iff]
  refine ⟨hp.tn, hp.qn, hp.n, hp.on, by simpa using hp.un, hp.st, hp.r, hp.o, hp.y, fun v hv => ?_, fun h1 => ?_⟩
  · simp only at hv
    rcases List.mem_or_eq_of_mem_set hv with hv | rfl
    · exact hp.u v hv
    · have := vote_12 yes; omega
  · simp only at h1; omega
/-- A vote counts once. -/
theorem voted_once {d : Dd} {x : Int} {yes no : Bool} (h : (votedR d x yes).2 = true) : (votedR (votedR d x yes).1 x no).2 = false := by
  have hr := voted_right h
  obtain ⟨hp, hs, hk, hl, e⟩ := voted_yes h
  rw [e] at hr ⊢
  unfold votedR
  rw [if_pos hr]
  unfold votedD
  dsimp only
  rw [if_neg]
  intro c
  have := c.2.2
  rw [List.getD_eq_getElem?_getD, List.getElem?_set_self hl] at this
  simp only [Option.getD_some] at this
  have := vote_12 yes
  omega
theorem decided_yes {d : Dd} {off : Bool} (h : (decidedR d off).2 = true) : DP d ∧ d.s = 0 ∧ (((off || d.V.any (fun v => decide (v = 2))) = true ∧ (decidedR d off).1 = {d with s := 2}) ∨ ((off || d.V.any (fun v => decide (v = 2))) = false ∧ d.V.all (fun v => decide (v = 1)) = true ∧ (decidedR d off).1 = {d with s := 1})) := by
  unfold decidedR at h ⊢
  by_cases hd : dB d = true
  · rw [if_pos hd] at h ⊢
    unfold decidedD at h ⊢
    by_cases c : d.s = 0
    · rw [if_pos c] at h ⊢
      cases e : (off || d.V.any (fun v => decide (v = 2)))
      · rw [e] at h
        rw [if_neg (by decide)] at h ⊢
        cases e2 : d.V.all (fun v => decide (v = 1))
        · rw [e2, if_neg (by decide)] at h; cases h
        · exact ⟨dB_iff.1 hd, c, .inr ⟨rfl, rfl, rfl⟩⟩
      · exact ⟨dB_iff.1 hd, c, .inl ⟨rfl, rfl⟩⟩
    · rw [if_neg c] at h; cases h
  · rw [if_neg hd] at h; cases h
theorem decided_state {d : Dd} {off : Bool} (h : (decidedR d off).2 = true) : (decidedR d off).1.s = 1 ∨ (decidedR d off).1.s = 2 := by
  obtain ⟨hp, hs, ⟨_, e⟩ | ⟨_, _, e⟩⟩ := decided_yes h <;> rw [e] <;> simp
theorem decided_right {d : Dd} {off : Bool} (h : (decidedR d off).2 = true) : dB (decidedR d off).1 = true := by
  obtain ⟨hp, hs, ⟨_, e⟩ | ⟨_, ha, e⟩⟩ := decided_yes h
  · rw [e, dB_iff]
    exact ⟨hp.tn, hp.qn, hp.n, hp.on, hp.un, .inr (.inr rfl), hp.r, hp.o, hp.y, hp.u, fun h1 => by simp at h1⟩
  · rw [e, dB_iff]
    refine ⟨hp.tn, hp.qn, hp.n, hp.on, hp.un, .inr (.inl rfl), hp.r, hp.o, hp.y, hp.u, fun _ v hv => ?_⟩
    rw [List.all_eq_true] at ha
    simpa using ha v hv
/-- What is decided stays. -/
theorem decided_stays {d : Dd} {off on : Bool} (h : (decidedR d off).2 = true) : (decidedR (decidedR d off).1 on).2 = false := by
  have hr := decided_right h
  have hs := decided_state h
  generalize (decidedR d off).1 = y at hr hs
  unfold decidedR decidedD
  rw [if_pos hr, if_neg (by omega)]
theorem decided_kept {d : Dd} {off : Bool} (h : (decidedR d off).2 = true) : forgottenR (decidedR d off).1 = (decidedR d off).1 := by
  have hr := decided_right h
  have hs := decided_state h
  generalize (decidedR d off).1 = y at hr hs
  unfold forgottenR forgottenD
  rw [if_pos hr, if_neg (by omega)]
/-- Done are only Deals of which all said yes. -/
theorem decided_done {d : Dd} {off : Bool} (h : (decidedR d off).2 = true) : decide ((decidedR d off).1.s = 1) = ((decidedR d off).1.V.all (fun v => decide (v = 1)) && !off) := by
  obtain ⟨hp, hs, ⟨h1, e⟩ | ⟨h1, ha, e⟩⟩ := decided_yes h
  · rw [e]
    simp only
    cases off
    · rw [Bool.false_or, List.any_eq_true] at h1
      obtain ⟨v, hv, h2⟩ := h1
      have : d.V.all (fun v => decide (v = 1)) = false := by
        rw [Bool.eq_false_iff]
        intro ha
        rw [List.all_eq_true] at ha
        have := ha v hv
        simp at h2 this
        omega
      rw [this]; rfl
    · simp
  · rw [e]
    simp only [ha]
    cases off
    · rfl
    · simp at h1
theorem open_right {Y : List Yd} {O : List Int} (h : (openR Y O).2 = true) : dB (openR Y O).1 = true ∧ (openR Y O).1.s = 0 := by
  unfold openR at h ⊢
  by_cases hd : dB (openD Y O) = true
  · rw [if_pos hd]; exact ⟨hd, rfl⟩
  · rw [if_neg hd] at h; cases h
end Go.Proofs.YtobbankkfplooaaGreat.K.G
namespace Go.Proofs.YtobbankkfplooaaGreat.K.G
open Go.Shelf Go.RowKit Go.Joins Y M
attribute [local go_sem] Oper.semAt_some

/-- The rows S tell the Deal d, whose cells are h. -/
def TD (d : Dd) (h : Gv) (S : List Rw) : Prop := h.t = d.t ∧ h.q = d.q ∧ h.s = d.s ∧ ∃ QL, DrG h QL d.O d.V S ∧ yds QL = d.Y
/-- A Deal's lists are of one length, at most four. -/
def fits (d : Dd) : Prop := d.Y.length ≤ 4 ∧ d.O.length = d.Y.length ∧ d.V.length = d.Y.length
theorem td_draw {h : Gv} {QL : List YQ} {O V : List Int} {S : List Rw} (hd : DrG h QL O V S) : TD ⟨h.t, h.q, yds QL, O, V, h.s⟩ h S := ⟨rfl, rfl, rfl, QL, hd, rfl⟩
theorem td_rd {d : Dd} {h : Gv} {S rs : List Rw} {w W : World} (hT : TD d h S) (hS : Sg w W rs) (hm : ∀ r ∈ S, r ∈ rs) : ∃ QL, RdG W h QL d.O d.V ∧ OkG h QL ∧ (⟨h.t, h.q, yds QL, d.O, d.V, h.s⟩ : Dd) = d ∧ (∀ y ∈ QL, y.2.n ≤ 1000) ∧ h.y.n ≤ 4 ∧ h.o.n ≤ 4 ∧ h.u.n ≤ 4 := by
  obtain ⟨e1, e2, e3, QL, hD, e4⟩ := hT
  obtain ⟨h1, h2⟩ := hD.1 w W rs hS hm
  refine ⟨QL, h1, h2, ?_, fun y hy => (hD.2.2.2.2 y hy).1, hD.2.1, by rw [hD.2.2.1]; exact hD.2.1, by rw [hD.2.2.2.1]; exact hD.2.1⟩
  rw [e1, e2, e3, e4]
theorem td_of {d : Dd} {w w' : World} {v : Value} (hd : fits d) (h : DlO d w w' v) : ∃ h S, v = Gv.v h ∧ TD d h S ∧ Sg w w' S := by
  obtain ⟨y, o, u, Q2, rfl, hq1, hq2, hS⟩ := h
  have hl := gR_len hS (fun r hr => hr)
  simp only at hl
  have e0 : Q2.length = d.Y.length := by rw [← hq1, yds_len]
  obtain ⟨f1, f2, f3⟩ := hd
  exact ⟨⟨d.t, d.q, y, o, u, d.s⟩, _, rfl, ⟨rfl, rfl, rfl, Q2, drG_of ⟨by simp only; omega, by simp only; omega, by simp only; omega, hq2⟩, hq1⟩, hS⟩
theorem fits_z : fits zdd := by unfold fits zdd; decide
theorem fits_v (d : Dd) (x : Int) (yes : Bool) : fits (votedR d x yes).1 := by
  unfold votedR
  by_cases hd : dB d = true
  · rw [if_pos hd]
    have hp := dB_iff.1 hd
    obtain ⟨V', b, e⟩ := voted_fix d x yes rfl
    have hv : (votedD d x yes).1.V.length = d.V.length := by
      unfold votedD; dsimp only; split <;> simp
    have h2 : (votedD d x yes).1.Y = d.Y ∧ (votedD d x yes).1.O = d.O := by rw [e]; exact ⟨rfl, rfl⟩
    exact ⟨by rw [h2.1]; exact hp.n.2, by rw [h2.1, h2.2]; exact hp.on, by rw [h2.1, hv]; exact hp.un⟩
  · rw [if_neg hd]; exact fits_z
theorem fits_d (d : Dd) (off : Bool) : fits (decidedR d off).1 := by
  unfold decidedR
  by_cases hd : dB d = true
  · rw [if_pos hd]
    have hp := dB_iff.1 hd
    obtain ⟨z, b, e⟩ := decided_fix d off rfl
    rw [e]
    exact ⟨hp.n.2, hp.on, hp.un⟩
  · rw [if_neg hd]; exact fits_z
theorem fits_f (d : Dd) : fits (forgottenR d) := by
  unfold forgottenR
  by_cases hd : dB d = true
  · rw [if_pos hd]
    have hp := dB_iff.1 hd
    unfold forgottenD
    split
    · exact ⟨hp.n.2, hp.on, by simp only [List.length_replicate]; exact hp.un⟩
    · exact ⟨hp.n.2, hp.on, hp.un⟩
  · rw [if_neg hd]; exact fits_z
theorem fits_o (Y : List Yd) (O : List Int) : fits (openR Y O).1 := by
  unfold openR
  by_cases hd : dB (openD Y O) = true
  · rw [if_pos hd]
    have hp := dB_iff.1 hd
    exact ⟨hp.n.2, hp.on, hp.un⟩
  · rw [if_neg hd]; exact fits_z
section
variable {w W : World} {rs : List Rw} {d : Dd} {h : Gv} {S : List Rw}
theorem iVotedT (hS : Sg w W rs) (hT : TD d h S) (hm : ∀ r ∈ S, r ∈ rs) (x : Int) (yes : Bool) {r1 : Dd} {r2 : Bool} (hr : votedR d x yes = (r1, r2)) :
    Calls Tryz.prog 9 #[Gv.v h, .int .i64 x, .bool yes] W fun e w' => ∃ h' S', e = .returned (.tuple #[Gv.v h', .bool r2]) ∧ TD r1 h' S' ∧ Sg W w' S' := by
  obtain ⟨QL, h1, h2, h3, _⟩ := td_rd hT hS hm
  refine (iVoted_any h QL d.O d.V x yes W h1 h2 rfl).mono ?_
  rw [h3]
  rintro e w' ⟨v, rfl, hv⟩
  rw [show (if dB d = true then votedD d x yes else (zdd, false)) = (r1, r2) from hr] at hv ⊢
  obtain ⟨h', S', rfl, a1, a2⟩ := td_of (d := r1) (by have h := fits_v d x yes; rw [hr] at h; exact h) hv
  exact ⟨h', S', rfl, a1, a2⟩
theorem sVotedT (hS : Sg w W rs) (hT : TD d h S) (hm : ∀ r ∈ S, r ∈ rs) (x : Int) (yes : Bool) {r1 : Dd} {r2 : Bool} (hr : votedR d x yes = (r1, r2)) :
    Calls Tryz.prog 15 #[Gv.v h, .int .i64 x, .bool yes] W fun e w' => ∃ h' S', e = .returned (.tuple #[Gv.v h', .bool r2]) ∧ TD r1 h' S' ∧ Sg W w' S' := by
  obtain ⟨QL, h1, h2, h3, _⟩ := td_rd hT hS hm
  refine (sVoted_any h QL d.O d.V x yes W h1 h2 rfl).mono ?_
  rw [h3]
  rintro e w' ⟨v, rfl, hv⟩
  rw [show (if dB d = true then votedD d x yes else (zdd, false)) = (r1, r2) from hr] at hv ⊢
  obtain ⟨h', S', rfl, a1, a2⟩ := td_of (d := r1) (by have h := fits_v d x yes; rw [hr] at h; exact h) hv
  exact ⟨h', S', rfl, a1, a2⟩
theorem iDecidedT (hS : Sg w W rs) (hT : TD d h S) (hm : ∀ r ∈ S, r ∈ rs) (off : Bool) {r1 : Dd} {r2 : Bool} (hr : decidedR d off = (r1, r2)) :
    Calls Tryz.prog 11 #[Gv.v h, .bool off] W fun e w' => ∃ h' S', e = .returned (.tuple #[Gv.v h', .bool r2]) ∧ TD r1 h' S' ∧ Sg W w' S' := by
  obtain ⟨QL, h1, h2, h3, _⟩ := td_rd hT hS hm
  refine (iDecided_any h QL d.O d.V off W h1 h2 rfl).mono ?_
  rw [h3]
  rintro e w' ⟨v, rfl, hv⟩
  rw [show (if dB d = true then decidedD d off else (zdd, false)) = (r1, r2) from hr] at hv ⊢
  obtain ⟨h', S', rfl, a1, a2⟩ := td_of (d := r1) (by have h := fits_d d off; rw [hr] at h; exact h) hv
  exact ⟨h', S', rfl, a1, a2⟩
theorem sDecidedT (hS : Sg w W rs) (hT : TD d h S) (hm : ∀ r ∈ S, r ∈ rs) (off : Bool) {r1 : Dd} {r2 : Bool} (hr : decidedR d off = (r1, r2)) :
    Calls Tryz.prog 21 #[Gv.v h, .bool off] W fun e w' => ∃ h' S', e = .returned (.tuple #[Gv.v h', .bool r2]) ∧ TD r1 h' S' ∧ Sg W w' S' := by
  obtain ⟨QL, h1, h2, h3, _⟩ := td_rd hT hS hm
  refine (sDecided_any h QL d.O d.V off W h1 h2 rfl).mono ?_
  rw [h3]
  rintro e w' ⟨v, rfl, hv⟩
  rw [show (if dB d = true then decidedD d off else (zdd, false)) = (r1, r2) from hr] at hv ⊢
  obtain ⟨h', S', rfl, a1, a2⟩ := td_of (d := r1) (by have h := fits_d d off; rw [hr] at h; exact h) hv
  exact ⟨h', S', rfl, a1, a2⟩
theorem iForgottenT (hS : Sg w W rs) (hT : TD d h S) (hm : ∀ r ∈ S, r ∈ rs) {r : Dd} (hr : forgottenR d = r) :
    Calls Tryz.prog 19 #[Gv.v h] W fun e w' => ∃ h' S', e = .returned (Gv.v h') ∧ TD r h' S' ∧ Sg W w' S' := by
  obtain ⟨QL, h1, h2, h3, _⟩ := td_rd hT hS hm
  refine (iForgotten_any h QL d.O d.V W h1 h2 rfl).mono ?_
  rw [h3]
  rintro e w' ⟨v, rfl, hv⟩
  rw [show (if dB d = true then forgottenD d else zdd) = r from hr] at hv
  obtain ⟨h', S', rfl, a1, a2⟩ := td_of (hr ▸ fits_f d) hv
  exact ⟨h', S', rfl, a1, a2⟩
theorem sForgottenT (hS : Sg w W rs) (hT : TD d h S) (hm : ∀ r ∈ S, r ∈ rs) {r : Dd} (hr : forgottenR d = r) :
    Calls Tryz.prog 20 #[Gv.v h] W fun e w' => ∃ h' S', e = .returned (Gv.v h') ∧ TD r h' S' ∧ Sg W w' S' := by
  obtain ⟨QL, h1, h2, h3, _⟩ := td_rd hT hS hm
  refine (sForgotten_any h QL d.O d.V W h1 h2 rfl).mono ?_
  rw [h3]
  rintro e w' ⟨v, rfl, hv⟩
  rw [show (if dB d = true then forgottenD d else zdd) = r from hr] at hv
  obtain ⟨h', S', rfl, a1, a2⟩ := td_of (hr ▸ fits_f d) hv
  exact ⟨h', S', rfl, a1, a2⟩
theorem iOpenedT (hS : Sg w W rs) (hT : TD d h S) (hm : ∀ r ∈ S, r ∈ rs) {r1 : Dd} {r2 : Bool} (hr : openR d.Y d.O = (r1, r2)) :
    Calls Tryz.prog 14 #[.slice h.y.p h.y.n h.y.c, .slice h.o.p h.o.n h.o.c] W fun e w' => ∃ h' S', e = .returned (.tuple #[Gv.v h', .bool r2]) ∧ TD r1 h' S' ∧ Sg W w' S' := by
  obtain ⟨QL, h1, h2, h3, h4, h5, h6, h7⟩ := td_rd hT hS hm
  refine (iOpened_any QL d.O h.y h.o W h1.y h1.yn h1.ys h1.o h1.on ⟨by omega, by omega⟩ ⟨h2.1, h2.2.2⟩).mono ?_
  rw [show yds QL = d.Y from congrArg Dd.Y h3, hr]
  rintro e w' ⟨v, rfl, hv⟩
  obtain ⟨h', S', rfl, a1, a2⟩ := td_of (d := r1) (by have h := fits_o d.Y d.O; rw [hr] at h; exact h) hv
  exact ⟨h', S', rfl, a1, a2⟩
theorem sOpenedT (hS : Sg w W rs) (hT : TD d h S) (hm : ∀ r ∈ S, r ∈ rs) {r1 : Dd} {r2 : Bool} (hr : openR d.Y d.O = (r1, r2)) :
    Calls Tryz.prog 22 #[.slice h.y.p h.y.n h.y.c, .slice h.o.p h.o.n h.o.c] W fun e w' => ∃ h' S', e = .returned (.tuple #[Gv.v h', .bool r2]) ∧ TD r1 h' S' ∧ Sg W w' S' := by
  obtain ⟨QL, h1, h2, h3, h4, h5, h6, h7⟩ := td_rd hT hS hm
  refine (sOpened_any QL d.O h.y h.o W h1.y h1.yn h1.ys h1.o h1.on ⟨by omega, by omega⟩ ⟨h2.1, h2.2.2⟩).mono ?_
  rw [show yds QL = d.Y from congrArg Dd.Y h3, hr]
  rintro e w' ⟨v, rfl, hv⟩
  obtain ⟨h', S', rfl, a1, a2⟩ := td_of (d := r1) (by have h := fits_o d.Y d.O; rw [hr] at h; exact h) hv
  exact ⟨h', S', rfl, a1, a2⟩
theorem iDealOkT (hS : Sg w W rs) (hT : TD d h S) (hm : ∀ r ∈ S, r ∈ rs) {b : Bool} (hb : dB d = b) :
    Calls Tryz.prog 17 #[Gv.v h] W fun e w' => e = .returned (.bool b) ∧ Below W.heap.size W w' := by
  obtain ⟨QL, h1, h2, h3, _⟩ := td_rd hT hS hm
  exact iDealOk_v (h := h) (QL := QL) (O := d.O) (V := d.V) (show dB ⟨h.t, h.q, yds QL, d.O, d.V, h.s⟩ = b by rw [h3]; exact hb) W h1
theorem sDealOkT (hS : Sg w W rs) (hT : TD d h S) (hm : ∀ r ∈ S, r ∈ rs) {b : Bool} (hb : dB d = b) :
    Calls Tryz.prog 18 #[Gv.v h] W fun e w' => e = .returned (.bool b) ∧ Below W.heap.size W w' := by
  obtain ⟨QL, h1, h2, h3, _⟩ := td_rd hT hS hm
  exact sDealOk_v (h := h) (QL := QL) (O := d.O) (V := d.V) (show dB ⟨h.t, h.q, yds QL, d.O, d.V, h.s⟩ = b by rw [h3]; exact hb) W h1
theorem likeT {h2 : Gv} {S2 : List Rw} (hS : Sg w W rs) (hT : TD d h S) (hm : ∀ r ∈ S, r ∈ rs) (hT2 : TD d h2 S2) (hm2 : ∀ r ∈ S2, r ∈ rs) :
    Calls Tryz.prog 16 #[Gv.v h, Gv.v h2] W fun e w' => e = .returned (.bool true) ∧ Below W.heap.size W w' := by
  obtain ⟨A, a1, a2, a3, a4, a5, a6, a7⟩ := td_rd hT hS hm
  obtain ⟨B, b1, b2, b3, _⟩ := td_rd hT2 hS hm2
  have e := a3.trans b3.symm
  simp only [Dd.mk.injEq] at e
  exact likeDeal_same h h2 A B d.O d.V W a1 b1 e.2.2.1 e.1 e.2.1 e.2.2.2.2.2 (fun y hy => by have := a4 y hy; omega) ⟨by omega, by omega, by omega⟩
/-- The Votes that stand there. -/
theorem td_votes (hS : Sg w W rs) (hT : TD d h S) (hm : ∀ r ∈ S, r ∈ rs) : SlG kI W h.u.p d.V ∧ d.V.length = h.u.n ∧ h.u.n ≤ 4 := by
  obtain ⟨A, a1, a2, a3, a4, a5, a6, a7⟩ := td_rd hT hS hm
  exact ⟨a1.u, a1.un, a7⟩
end
section
variable {w W : World} {rs : List Rw} {a : Option Addr} {len cap : Nat} {zs : List Int} {g : Nat}
theorem drawVotedT (hS : Sg w W rs) (hl : len ≤ 4096) (hr : Rd w g a len zs) :
    Calls Tryz.prog 8 #[.slice a len cap] W fun e w' => ∃ (h : Gv) (d : Dd) (S : List Rw) (x : Int) (yes : Bool), e = .returned (.tuple #[Gv.v h, .int .i64 x, .bool yes]) ∧ Hid (TD d h S) ∧ Sg w w' (S ++ rs) :=
  (drawVoted_any hS hl hr).mono fun _ _ ⟨t, q, yp, yn, yc, op, on, oc, up, un, uc, s, _, _, _, S, x, yes, h1, h2, h3⟩ => ⟨⟨t, q, ⟨yp, yn, yc⟩, ⟨op, on, oc⟩, ⟨up, un, uc⟩, s⟩, _, S, x, yes, h1, td_draw h2.out, h3⟩
theorem drawDecidedT (hS : Sg w W rs) (hl : len ≤ 4096) (hr : Rd w g a len zs) :
    Calls Tryz.prog 10 #[.slice a len cap] W fun e w' => ∃ (h : Gv) (d : Dd) (S : List Rw) (off : Bool), e = .returned (.tuple #[Gv.v h, .bool off]) ∧ Hid (TD d h S) ∧ Sg w w' (S ++ rs) :=
  (drawDecided_any hS hl hr).mono fun _ _ ⟨t, q, yp, yn, yc, op, on, oc, up, un, uc, s, _, _, _, S, off, h1, h2, h3⟩ => ⟨⟨t, q, ⟨yp, yn, yc⟩, ⟨op, on, oc⟩, ⟨up, un, uc⟩, s⟩, _, S, off, h1, td_draw h2.out, h3⟩
theorem drawForgottenT (hS : Sg w W rs) (hl : len ≤ 4096) (hr : Rd w g a len zs) :
    Calls Tryz.prog 12 #[.slice a len cap] W fun e w' => ∃ (h : Gv) (d : Dd) (S : List Rw), e = .returned (Gv.v h) ∧ Hid (TD d h S) ∧ Sg w w' (S ++ rs) :=
  (drawForgotten_any hS hl hr).mono fun _ _ ⟨t, q, yp, yn, yc, op, on, oc, up, un, uc, s, _, _, _, S, h1, h2, h3⟩ => ⟨⟨t, q, ⟨yp, yn, yc⟩, ⟨op, on, oc⟩, ⟨up, un, uc⟩, s⟩, _, S, h1, td_draw h2.out, h3⟩
theorem drawOpenedT (hS : Sg w W rs) (hl : len ≤ 4096) (hr : Rd w g a len zs) :
    Calls Tryz.prog 13 #[.slice a len cap] W fun e w' => ∃ (h : Gv) (d : Dd) (S : List Rw), e = .returned (.tuple #[.slice h.y.p h.y.n h.y.c, .slice h.o.p h.o.n h.o.c]) ∧ Hid (TD d h S) ∧ Sg w w' (S ++ rs) :=
  (drawOpened_any hS hl hr).mono fun _ _ ⟨t, q, yp, yn, yc, op, on, oc, up, un, uc, s, _, _, _, S, h1, h2, h3⟩ => ⟨⟨t, q, ⟨yp, yn, yc⟩, ⟨op, on, oc⟩, ⟨up, un, uc⟩, s⟩, _, S, h1, td_draw h2.out, h3⟩
end
end Go.Proofs.YtobbankkfplooaaGreat.K.G
