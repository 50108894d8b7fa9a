/-
  The law of Allows, walked.
-/
import Derived.Test.YtkinbgcnenieeaaAL2
import Derived.Test.YtkinbgcnenieeaaZ3
namespace Go.Proofs.Ytkinbgcnenieeaa
open Go.Shelf Go.RowKit Go.Joins M
attribute [local go_sem] Oper.semAt_some

theorem Sg.dr {w W : World} {rs : List Rw} (h : Sg w W rs) : Sg w W.drew rs := h.step (Below.refl _ _).drew
/-- A Spot of the laws. -/
def kLS : Kd (Int × Int) := ⟨26, 2, fun q => [.int .i64 q.1, .int .i64 q.2], fun _ => rfl⟩
theorem Sg.two {α : Type} {K : Kd α} {w W : World} {rs : List Rw} {g n : Nat} {p : α} {a b : Value} (h : Sg w W rs) (hm : rG K (.slice (some ⟨g, 0, none⟩) 1 n) [p] ∈ rs) (hv : K.vs p = [a, b]) :
    W.cell? ⟨g, 0, none⟩ = some a ∧ W.cell? ⟨g, 1, none⟩ = some b ∧ (∀ j, W.frozen? ⟨g, j, none⟩ = false) ∧ g < W.heap.size := by
  have ho := h.mem hm
  have h0 := (OwG.cs ho).at (k := 0) (a := p) rfl (i := 0) (u := a) (by rw [hv]; rfl)
  have h1 := (OwG.cs ho).at (k := 0) (a := p) rfl (i := 1) (u := b) (by rw [hv]; rfl)
  simp only [Nat.zero_mul, Nat.zero_add] at h0 h1
  exact ⟨h0, h1, OwG.fz ho, (OwG.cs ho).1⟩
set_option maxRecDepth 100000 in
set_option maxHeartbeats 8000000 in
theorem exactAllows (tn tag x y now : Int) (b : Bool) (p : Option Addr) (n cap : Nat) (QL : List CQ) (hn : QL.length = n) (hm : n ≤ maxLen) (hp : ∀ q ∈ QL, q.2.1.n ≤ maxLen ∧ q.2.2.n ≤ maxLen) (w : World) (hR : RdLS w p QL) :
    Calls Try.prog 3 #[.agg #[.int .i64 tn, .slice p n cap, .int .i64 tag], .agg #[.int .i64 x, .int .i64 y], .bool b, .int .i64 now] w fun e w' => e = .returned (.bool true) ∧ Below w.heap.size w w' := by
  have hS0 := ((Sg.nil w).lit kLP [⟨tn, ⟨p, n, cap⟩, tag⟩] 1 rfl (by decide) #[.int .i64 tn, .slice p n cap, .int .i64 tag] rfl).lit kLS [(x, y)] 1 rfl (by decide) #[.int .i64 x, .int .i64 y] rfl
  simp only [World.size_alloc] at hS0
  change Sg w ((w.alloc (.cells #[.int .i64 tn, .slice p n cap, .int .i64 tag] 24)).alloc (.cells #[.int .i64 x, .int .i64 y] 26)) _ at hS0
  have HZ := szPaper_any p n cap tn tag QL hn hm 1048576 (by omega) (by omega) ((w.alloc (.cells #[.int .i64 tn, .slice p n cap, .int .i64 tag] 24)).alloc (.cells #[.int .i64 x, .int .i64 y] 26)) (hR.1.step hS0.bel) hp
  have HH : Hid (RdLS w p QL ∧ QL.length = n) := ⟨hR, hn⟩
  clear hR hn hm hp
  go_enter Try.func3, Try.ntmps3
  go_upto_region 3 with (go_at_call 5; refine HZ.mono ?_; rintro e w1 ⟨r, rfl, hr, hb1⟩; have hrow := hS0.step hb1)
  by_cases hneg : r < 0
  · go_wp2
    go_ret
    exact ⟨rfl, hrow.bel⟩
  obtain ⟨_, _, hn1, hsm⟩ : 0 ≤ r ∧ r ≤ 1048576 ∧ n ≤ 1048576 ∧ smQ QL := by
    rcases hr with hr | hr
    · omega
    · exact hr
  have hnb : n ≤ 10000000 := by omega
  have HTC : Hid (∀ W, Below w.heap.size w W → Calls Try.prog 7 #[.agg #[.int .i64 tn, .slice p n cap, .int .i64 tag]] W fun e w' => ∃ g QL', e = .returned (.agg #[.int .i64 tn, .slice (some ⟨g, 0, none⟩) n n, .int .i64 tag]) ∧ cls QL' = cls QL ∧ smQ QL' ∧ Sg W w' (trX (.slice (some ⟨g, 0, none⟩) n n) QL' [])) := fun W h => toPaper_any p n cap tn tag QL HH.out.2 hn1 hsm W (HH.out.1.step h)
  have HLN : ∀ X : List CQ, cls X = cls QL → X.length = n := fun X h => by have := congrArg List.length h; rw [cls_len, cls_len, HH.out.2] at this; exact this
  obtain ⟨v, hv⟩ : ∃ v, alB tn (cls QL) tag x y b now = v := ⟨_, rfl⟩
  have H6 : Hid (∀ W rs g X, Sg w W rs → cls X = cls QL → smQ X → (∀ r ∈ trX (.slice (some ⟨g, 0, none⟩) n n) X [], r ∈ rs) → Calls Try.prog 6 #[.agg #[.int .i64 tn, .slice (some ⟨g, 0, none⟩) n n, .int .i64 tag], .agg #[.int .i64 x, .int .i64 y], .bool b, .int .i64 now] W fun e w' => e = .returned (.bool v) ∧ Below W.heap.size W w') := fun W rs g X hS hx hsx hm => sAllows_v (by rw [hx]; exact hv) (HLN X hx) hnb W (hS.rdS (n := n) (c := n) hsx hm)
  have H9 : Hid (∀ W rs g X, Sg w W rs → cls X = cls QL → smQ X → (∀ r ∈ trX (.slice (some ⟨g, 0, none⟩) n n) X [], r ∈ rs) → Calls Try.prog 9 #[.agg #[.int .i64 tn, .slice (some ⟨g, 0, none⟩) n n, .int .i64 tag], .agg #[.int .i64 x, .int .i64 y], .bool b, .int .i64 now] W fun e w' => e = .returned (.bool v) ∧ Below W.heap.size W w') := fun W rs g X hS hx hsx hm => iAllows_v (by rw [hx]; exact hv) (HLN X hx) hnb W (hS.rdS (n := n) (c := n) hsx hm)
  have H10 : Hid (∀ W rs g X g' X', Sg w W rs → cls X = cls QL → smQ X → cls X' = cls QL → smQ X' → (∀ r ∈ trX (.slice (some ⟨g, 0, none⟩) n n) X [], r ∈ rs) → (∀ r ∈ trX (.slice (some ⟨g', 0, none⟩) n n) X' [], r ∈ rs) → Calls Try.prog 10 #[.agg #[.int .i64 tn, .slice (some ⟨g, 0, none⟩) n n, .int .i64 tag], .agg #[.int .i64 tn, .slice (some ⟨g', 0, none⟩) n n, .int .i64 tag]] W fun e w' => e = .returned (.bool true) ∧ Below W.heap.size W w') := fun W rs g X g' X' hS hx hsx hx' hsx' hm hm' => eqPaper_same tn tag (some ⟨g, 0, none⟩) (some ⟨g', 0, none⟩) n n n X X' (HLN X hx) (hx.trans hx'.symm) hnb W (hS.rdS (n := n) (c := n) hsx hm) (hS.rdS (n := n) (c := n) hsx' hm')
  clear hv hr HLN hsm HH hb1 hS0 HZ
  have HK : Hid (∀ w' rs, Sg w w' rs → rG kLP (.slice (some ⟨w.heap.size, 0, none⟩) 1 1) [⟨tn, ⟨p, n, cap⟩, tag⟩] ∈ rs → rG kLS (.slice (some ⟨w.heap.size + 1, 0, none⟩) 1 1) [(x, y)] ∈ rs → (w'.cell? ⟨w.heap.size, 0, none⟩ = some (.int .i64 tn) ∧ w'.cell? ⟨w.heap.size, 1, none⟩ = some (.slice p n cap) ∧ w'.cell? ⟨w.heap.size, 2, none⟩ = some (.int .i64 tag) ∧ w'.cell? ⟨w.heap.size + 1, 0, none⟩ = some (.int .i64 x) ∧ w'.cell? ⟨w.heap.size + 1, 1, none⟩ = some (.int .i64 y))) := fun w' rs h m1 m2 => by
    obtain ⟨y0, y1, y2, _, _⟩ := h.three (K := kLP) (g := w.heap.size) (n := 1) (p := ⟨tn, ⟨p, n, cap⟩, tag⟩) m1 rfl
    obtain ⟨z0, z1, _, _⟩ := h.two (K := kLS) (g := w.heap.size + 1) (n := 1) (p := (x, y)) m2 rfl
    exact ⟨y0, y1, y2, z0, z1⟩
  cases v
  all_goals
    go_wp2
    go_region_held3 (fun w' => w'.cell? ⟨w.heap.size, 0, none⟩ = some (.int .i64 tn) ∧ w'.cell? ⟨w.heap.size, 1, none⟩ = some (.slice p n cap) ∧ w'.cell? ⟨w.heap.size, 2, none⟩ = some (.int .i64 tag) ∧ w'.cell? ⟨w.heap.size + 1, 0, none⟩ = some (.int .i64 x) ∧ w'.cell? ⟨w.heap.size + 1, 1, none⟩ = some (.int .i64 y))
      (first
        | assumption
        | with_reducible exact HK.out _ _ hrow (by simp) (by simp)
        | with_reducible exact HK.out _ _ hrow.dr (by simp) (by simp))
      (first
        | (go_at_call 7; refine (HTC.out _ (by first | with_reducible exact hrow.bel | with_reducible exact hrow.dr.bel)).mono ?_; rintro e w2 ⟨g2, X2, rfl, hx2, hs2, hw2⟩; (first | with_reducible (replace hrow := hrow.addL hw2) | with_reducible (replace hrow := hrow.dr.addL hw2)); clear hw2)
        | (go_at_call 8; refine (toSpot_any x y _).mono ?_; rintro e w3 ⟨rfl, hb3⟩; replace hrow := hrow.step hb3; clear hb3)
        | (go_at_call 6; refine (H6.out _ _ g2 X2 hrow hx2 hs2 (fun r hr => by simp [hr])).mono ?_; rintro e w4 ⟨rfl, hb4⟩; replace hrow := hrow.step hb4; clear hb4))
    rename_i hHeld
    obtain ⟨x0, x1, x2, x3, x4⟩ := hHeld
    go_upto_region 7 with (go_at_call 7; refine (HTC.out _ hrow.bel).mono ?_; rintro e w5 ⟨g5, X5, rfl, hx5, hs5, hw5⟩; have hS5a := hrow.addL hw5; have hS5 := hS5a.lit kP [⟨tn, ⟨some ⟨g5, 0, none⟩, n, n⟩, tag⟩] 1 rfl (by decide) #[.int .i64 tn, .slice (some ⟨g5, 0, none⟩) n n, .int .i64 tag] rfl; change Sg w (w5.alloc (.cells #[.int .i64 tn, .slice (some ⟨g5, 0, none⟩) n n, .int .i64 tag] 31)) _ at hS5)
    clear hrow x0 x1 x2 x3 x4 hS5a hw5
    have hrow := hS5
    clear hS5
    generalize w5.heap.size = b5 at *
    have HK2 : Hid (∀ w' rs, Sg w w' rs → rG kLP (.slice (some ⟨w.heap.size, 0, none⟩) 1 1) [⟨tn, ⟨p, n, cap⟩, tag⟩] ∈ rs → rG kLS (.slice (some ⟨w.heap.size + 1, 0, none⟩) 1 1) [(x, y)] ∈ rs → rG kP (.slice (some ⟨b5, 0, none⟩) 1 1) [⟨tn, ⟨some ⟨g5, 0, none⟩, n, n⟩, tag⟩] ∈ rs → (w'.cell? ⟨b5, 0, none⟩ = some (.int .i64 tn) ∧ w'.cell? ⟨b5, 1, none⟩ = some (.slice (some ⟨g5, 0, none⟩) n n) ∧ w'.cell? ⟨b5, 2, none⟩ = some (.int .i64 tag) ∧ w'.cell? ⟨w.heap.size, 0, none⟩ = some (.int .i64 tn) ∧ w'.cell? ⟨w.heap.size, 1, none⟩ = some (.slice p n cap) ∧ w'.cell? ⟨w.heap.size, 2, none⟩ = some (.int .i64 tag) ∧ w'.cell? ⟨w.heap.size + 1, 0, none⟩ = some (.int .i64 x) ∧ w'.cell? ⟨w.heap.size + 1, 1, none⟩ = some (.int .i64 y))) := fun w' rs h m1 m2 m3 => by
      obtain ⟨y0, y1, y2, _, _⟩ := h.three (K := kP) (g := b5) (n := 1) (p := ⟨tn, ⟨some ⟨g5, 0, none⟩, n, n⟩, tag⟩) m3 rfl
      exact ⟨y0, y1, y2, HK.out _ _ h m1 m2⟩
    go_region_held3 (fun w' => w'.cell? ⟨b5, 0, none⟩ = some (.int .i64 tn) ∧ w'.cell? ⟨b5, 1, none⟩ = some (.slice (some ⟨g5, 0, none⟩) n n) ∧ w'.cell? ⟨b5, 2, none⟩ = some (.int .i64 tag) ∧ w'.cell? ⟨w.heap.size, 0, none⟩ = some (.int .i64 tn) ∧ w'.cell? ⟨w.heap.size, 1, none⟩ = some (.slice p n cap) ∧ w'.cell? ⟨w.heap.size, 2, none⟩ = some (.int .i64 tag) ∧ w'.cell? ⟨w.heap.size + 1, 0, none⟩ = some (.int .i64 x) ∧ w'.cell? ⟨w.heap.size + 1, 1, none⟩ = some (.int .i64 y))
      (first
        | assumption
        | with_reducible exact HK2.out _ _ hrow (by simp) (by simp) (by simp)
        | with_reducible exact HK2.out _ _ hrow.dr (by simp) (by simp) (by simp))
      (first
        | (go_at_call 8; refine (toSpot_any x y _).mono ?_; rintro e w6 ⟨rfl, hb6⟩; (first | with_reducible (replace hrow := hrow.step hb6) | with_reducible (replace hrow := hrow.dr.step hb6)); clear hb6)
        | (go_at_call 9; refine (H9.out _ _ g5 X5 hrow hx5 hs5 (fun r hr => by simp [hr])).mono ?_; rintro e w7 ⟨rfl, hb7⟩; replace hrow := hrow.step hb7; clear hb7))
    rename_i hHeld
    clear hHeld
    go_wp2
    go_region_held3 (fun w' => w'.cell? ⟨b5, 0, none⟩ = some (.int .i64 tn) ∧ w'.cell? ⟨b5, 1, none⟩ = some (.slice (some ⟨g5, 0, none⟩) n n) ∧ w'.cell? ⟨b5, 2, none⟩ = some (.int .i64 tag) ∧ w'.cell? ⟨w.heap.size, 0, none⟩ = some (.int .i64 tn) ∧ w'.cell? ⟨w.heap.size, 1, none⟩ = some (.slice p n cap) ∧ w'.cell? ⟨w.heap.size, 2, none⟩ = some (.int .i64 tag) ∧ w'.cell? ⟨w.heap.size + 1, 0, none⟩ = some (.int .i64 x) ∧ w'.cell? ⟨w.heap.size + 1, 1, none⟩ = some (.int .i64 y))
      (first
        | assumption
        | with_reducible exact HK2.out _ _ hrow (by simp) (by simp) (by simp)
        | with_reducible exact HK2.out _ _ hrow.dr (by simp) (by simp) (by simp))
      (first
        | (go_at_call 7; refine (HTC.out _ (by first | with_reducible exact hrow.bel | with_reducible exact hrow.dr.bel)).mono ?_; rintro e w8 ⟨g8, X8, rfl, hx8, hs8, hw8⟩; (first | with_reducible (replace hrow := hrow.addL hw8) | with_reducible (replace hrow := hrow.dr.addL hw8)); clear hw8)
        | (go_at_call 10; refine (H10.out _ _ g5 X5 g8 X8 hrow hx5 hs5 hx8 hs8 (fun r hr => by simp [hr]) (fun r hr => by simp [hr])).mono ?_; rintro e w9 ⟨rfl, hb9⟩; replace hrow := hrow.step hb9; clear hb9))
    go_wp2
    go_ret
    exact ⟨rfl, hrow.bel⟩
end Go.Proofs.Ytkinbgcnenieeaa
