/-
  Draws: Papers.
-/
import Derived.Test.YtkinbgcnenieeaaGreatDoorDC2
namespace Go.Proofs.YtkinbgcnenieeaaGreatDoor
open Go.RowKit Go.Joins M
attribute [local go_sem] Oper.semAt_some

section
variable {w W : World} {C : Cu} {A Bs rs : List Rw}
theorem Sc.setP0 {g n : Nat} {a : Pv} (h : Sc w W C (A ++ rG kP (.slice (some ⟨g, 0, none⟩) 1 n) [a] :: Bs)) (x : Int) : Sc w (W.setCell ⟨g, 0, none⟩ (.int .i64 x)) C (A ++ rG kP (.slice (some ⟨g, 0, none⟩) 1 n) [⟨x, a.s, a.tag⟩] :: Bs) := h.raw 0 _ (Sg.setP0 h.sg x)
theorem Sc.setP1 {g n : Nat} {a : Pv} (h : Sc w W C (A ++ rG kP (.slice (some ⟨g, 0, none⟩) 1 n) [a] :: Bs)) (u : Sv) : Sc w (W.setCell ⟨g, 1, none⟩ (.slice u.p u.n u.c)) C (A ++ rG kP (.slice (some ⟨g, 0, none⟩) 1 n) [⟨a.tn, u, a.tag⟩] :: Bs) := h.raw 1 _ (Sg.setP1 h.sg u)
theorem Sc.setP2 {g n : Nat} {a : Pv} (h : Sc w W C (A ++ rG kP (.slice (some ⟨g, 0, none⟩) 1 n) [a] :: Bs)) (x : Int) : Sc w (W.setCell ⟨g, 2, none⟩ (.int .i64 x)) C (A ++ rG kP (.slice (some ⟨g, 0, none⟩) 1 n) [⟨a.tn, a.s, x⟩] :: Bs) := h.raw 2 _ (Sg.setP2 h.sg x)
theorem Sc.setP {g n : Nat} {a : Pv} (h : Sc w W C (A ++ rG kP (.slice (some ⟨g, 0, none⟩) 1 n) [a] :: Bs)) (q : Pv) : Sc w (((W.setCell ⟨g, 0, none⟩ (.int .i64 q.tn)).setCell ⟨g, 1, none⟩ (.slice q.s.p q.s.n q.s.c)).setCell ⟨g, 2, none⟩ (.int .i64 q.tag)) C (A ++ rG kP (.slice (some ⟨g, 0, none⟩) 1 n) [q] :: Bs) := ((h.setP0 q.tn).setP1 q.s).setP2 q.tag
theorem Sc.litZ (h : Sc w W C rs) : Sc w (W.alloc (.cells #[.int .i64 0, .slice none 0 0, .int .i64 0] 26)) C (rG kP (.slice (some ⟨W.heap.size, 0, none⟩) 1 1) [zpv] :: rs) := h.lit kP [zpv] 1 rfl (by decide) #[.int .i64 0, .slice none 0 0, .int .i64 0] rfl
end
theorem Sg.okQ {w W : World} {rs : List Rw} {v : Value} {X : List CQ} (h : Sg w W rs) (hm : ∀ r ∈ trX v X [], r ∈ rs) : okQ X := fun q hq => by
  have m : ∀ r ∈ clR q.1 q.2.1 q.2.2, r ∈ rs := fun r hr => hm r (List.mem_cons_of_mem _ (List.mem_flatMap.mpr ⟨q, hq, hr⟩))
  exact ⟨own_okv (h.mem (K := kC) (v := .slice q.2.1.p q.2.1.n q.2.1.c) (L := q.1.rd) (m _ (by simp [clR, Sv.v]))), own_okv (h.mem (K := kC) (v := .slice q.2.2.p q.2.2.n q.2.2.c) (L := q.1.wr) (m _ (by simp [clR, Sv.v])))⟩
theorem Sg.okC {w W : World} {rs : List Rw} {c : Cl} {s t : Sv} (h : Sg w W rs) (hm : ∀ r ∈ clR c s t, r ∈ rs) : okv s ∧ okv t :=
  ⟨own_okv (h.mem (K := kC) (v := .slice s.p s.n s.c) (L := c.rd) (hm _ (by simp [clR, Sv.v]))), own_okv (h.mem (K := kC) (v := .slice t.p t.n t.c) (L := c.wr) (hm _ (by simp [clR, Sv.v])))⟩
theorem sm6.q {X : List CQ} (h : sm6 X) : smQ X := fun q hq => ⟨by have := (h q hq).1; omega, by have := (h q hq).2; omega⟩
theorem mintP_len (key tn : Int) (c : Cl) : (mintP key tn c).cs.length ≤ 1 := by
  unfold mintP; split
  · exact Nat.le_refl _
  · exact Nat.zero_le _
theorem narP_len (tn : Int) (L : List Cl) (tag : Int) (c : Cl) : (narP tn L tag c).cs.length ≤ 7 := by
  unfold narP; split
  · rename_i h
    unfold narB at h
    rw [Bool.and_eq_true] at h
    obtain ⟨_, ⟨_, h2⟩, _, _⟩ := ppB_t h.1
    show (L ++ [c]).length ≤ 7
    rw [List.length_append]; simp; omega
  · exact Nat.zero_le _
/-- What is known of the Clauses of a drawn Paper. -/
def pOk (X : List CQ) (n : Nat) : Prop := X.length = n ∧ n ≤ 7 ∧ sm6 X
/-- Some Paper and a flag are answered, in memory of their own. -/
def PapA (W : World) (e : Ending) (w' : World) : Prop := ∃ (tn tag : Int) (ok : Bool) (q : Option Addr) (n cp : Nat) (X : List CQ), e = .returned (.tuple #[.agg #[.int .i64 tn, .slice q n cp, .int .i64 tag], .bool ok]) ∧ Hid (pOk X n) ∧ Sg W w' (trX (.slice q n cp) X [])
theorem PapO.a {W : World} {P : Pp} {b : Bool} {e : Ending} {w' : World} (h : PapO W P b e w') (h7 : P.cs.length ≤ 7) : PapA W e w' := by
  obtain ⟨q, n, cp, X, he, hn, hx, h6, _, hS⟩ := h
  exact ⟨P.tn, P.tag, b, q, n, cp, X, he, ⟨by rw [← hn, ← hx, cls_len], by omega, h6⟩, hS⟩
theorem sMintA (key tn : Int) {w W : World} {rs : List Rw} {c : Cl} {s t : Sv} (hS : Sg w W rs) (hb : Hid (s.n ≤ 10 ∧ t.n ≤ 10)) (hm : ∀ r ∈ clR c s t, r ∈ rs) :
    Calls Tryz.prog 12 #[.int .i64 key, .int .i64 tn, .agg #[.slice s.p s.n s.c, .slice t.p t.n t.c, .int .i64 c.un]] W (PapA W) := by
  have h1 := hb.out
  have ho := hS.okC hm
  exact (sMinted_any key tn c s t (by omega) (by omega) ho.1 ho.2 W (hS.rdQ hm (by omega) (by omega))).mono fun _ _ h => h.a (by have := mintP_len key tn c; omega)
theorem sNarA (tn tag : Int) {q : Option Addr} {n cp : Nat} {X : List CQ} {w W : World} {rs : List Rw} {c : Cl} {s t : Sv} (hS : Sg w W rs) (hX : Hid (pOk X n)) (hb : Hid (s.n ≤ 10 ∧ t.n ≤ 10)) (hm : ∀ r ∈ clR c s t, r ∈ rs) (hmX : ∀ r ∈ trX (.slice q n cp) X [], r ∈ rs) :
    Calls Tryz.prog 10 #[.agg #[.int .i64 tn, .slice q n cp, .int .i64 tag], .agg #[.slice s.p s.n s.c, .slice t.p t.n t.c, .int .i64 c.un]] W (PapA W) := by
  have h1 := hb.out
  have ho := hS.okC hm
  obtain ⟨x1, x2, x3⟩ := hX.out
  exact (sNarrowed_any tn tag q cp n X x1 (by omega) x3 (hS.okQ hmX) c s t (by omega) (by omega) ho.1 ho.2 W (hS.rdS x3.q hmX) (hS.rdQ hm (by omega) (by omega))).mono fun _ _ h => h.a (narP_len ..)
theorem pick_a {r2 r5 r3 : Rw} (T c0 T0 rs : List Rw) : (r2 :: (T ++ (r5 :: (T0 ++ (r3 :: rs))))).Sublist (r2 :: (T ++ (c0 ++ (r5 :: (T0 ++ (r3 :: rs)))))) :=
  .cons_cons _ (List.Sublist.append (List.Sublist.refl _) (List.sublist_append_right _ _))
theorem pick_b {r2 : Rw} (T c0 Y : List Rw) : (r2 :: (T ++ Y)).Sublist (r2 :: ((T ++ c0) ++ Y)) :=
  .cons_cons _ (List.Sublist.append (List.sublist_append_left _ _) (List.Sublist.refl _))
set_option maxRecDepth 100000 in
set_option maxHeartbeats 8000000 in
theorem paperC {w W : World} {C : Cu} {rs : List Rw} (h : Sc w W C rs) :
    Calls Tryz.prog 20 #[.pointer (some ⟨C.g, 0, none⟩)] W fun e w' => ∃ (key tn tag : Int) (q : Option Addr) (n cp : Nat) (X : List CQ), e = .returned (.tuple #[.int .i64 key, .agg #[.int .i64 tn, .slice q n cp, .int .i64 tag]]) ∧ Hid (pOk X n) ∧ Sc w w' C (trX (.slice q n cp) X [] ++ rs) := by
  have hS0 := h.litZ
  clear h
  have f0 : True := trivial
  go_enter Tryz.func20, Tryz.ntmps20
  go_upto_region 3 with (first
    | (go_at_call 31; refine (keyC hS0).mono ?_; rintro e w1 ⟨key, rfl, hS1⟩)
    | (go_at_call 32; refine (belowC hS1 3 (by decide) (by decide)).mono ?_; rintro e w2 ⟨x2, rfl, x20, x21, hS2⟩)
    | (go_at_call 22; refine (clauseC hS2).mono ?_; rintro e w3 ⟨c3, s3, t3, rfl, hb3, hS3⟩)
    | (go_at_call 12; refine (sMintA _ _ hS3.sg hb3 (fun r hr => by simp [hr])).mono ?_; rintro e w4 ⟨tn4, tag4, ok4, q4, n4, cp4, X4, rfl, hX4, hw4⟩; have hS4 := hS3.addL hw4; have hS5 := hS4.lit kP [⟨tn4, ⟨q4, n4, cp4⟩, tag4⟩] 1 rfl (by decide) #[.int .i64 tn4, .slice q4 n4 cp4, .int .i64 tag4] rfl; change Sc w (w4.alloc (.cells #[.int .i64 tn4, .slice q4 n4 cp4, .int .i64 tag4] 26)) _ _ at hS5))
  have hS6 : Sc w (w4.alloc (.cells #[.int .i64 tn4, .slice q4 n4 cp4, .int .i64 tag4] 26)) C (rG kP (.slice (some ⟨w4.heap.size, 0, none⟩) 1 1) [⟨tn4, ⟨q4, n4, cp4⟩, tag4⟩] :: (trX (.slice q4 n4 cp4) X4 [] ++ rG kP (.slice (some ⟨W.heap.size, 0, none⟩) 1 1) [zpv] :: rs)) :=
    hS5.sub (.cons_cons _ (List.Sublist.append (List.Sublist.refl _) (List.sublist_append_right _ _)))
  clear hS0 hS1 hS2 hS3 hS4 hS5 hw4
  go_upto_region 4 with (go_at_call 32; refine (belowC hS6 3 (by decide) (by decide)).mono ?_; rintro e w5 ⟨x5, rfl, x50, x51, hS7⟩)
  clear hS6
  generalize w4.heap.size = b5 at *
  generalize W.heap.size = b3 at *
  obtain ⟨k0, hk0⟩ : ∃ k0 : Nat, x5 = k0 := ⟨x5.toNat, by omega⟩
  subst hk0
  go_loopw [7, 8, 9] (fun i _ _ wr => ∃ (k : Nat) (tn tag : Int) (q : Option Addr) (n cp : Nat) (X : List CQ), k ≤ 3 ∧ i = .int .i64 k ∧ Hid (pOk X n) ∧ Sc w wr C (rG kP (.slice (some ⟨b5, 0, none⟩) 1 1) [⟨tn, ⟨q, n, cp⟩, tag⟩] :: (trX (.slice q n cp) X [] ++ rG kP (.slice (some ⟨b3, 0, none⟩) 1 1) [zpv] :: rs))) (fun i _ _ _ => (intOf i).toNat)
  case atStart => exact ⟨k0, tn4, tag4, q4, n4, cp4, X4, by omega, rfl, hX4, hS7⟩
  case round =>
    clear hS7
    obtain ⟨k, tn, tag, q, n, cp, X, hk3, rfl, hX, hrow⟩ := hrel
    by_cases hgo : 0 < k ∧ ok4 = true
    · obtain ⟨hk, rfl⟩ := hgo
      have hki : (0 : Int) < k := by omega
      have HK : Hid (∀ w' rs', Sc w w' C rs' → rG kP (.slice (some ⟨b5, 0, none⟩) 1 1) [⟨tn, ⟨q, n, cp⟩, tag⟩] ∈ rs' → (w'.cell? ⟨b5, 0, none⟩ = some (.int .i64 tn) ∧ w'.cell? ⟨b5, 1, none⟩ = some (.slice q n cp) ∧ w'.cell? ⟨b5, 2, none⟩ = some (.int .i64 tag))) := fun w' rs' h m => by
        obtain ⟨y0, y1, y2, _, _⟩ := h.sg.three (K := kP) (g := b5) (n := 1) (p := ⟨tn, ⟨q, n, cp⟩, tag⟩) m rfl
        exact ⟨y0, y1, y2⟩
      go_upto_region 6 with (fail)
      go_cut [8, 9] from 31 to 38 (fun v8 v9 wx => ∃ (b8 : Nat) (tn' tag' : Int) (ok' : Bool) (q' : Option Addr) (n' cp' : Nat) (X' : List CQ), v8 = .pointer (some ⟨b8, 0, none⟩) ∧ v9 = .bool ok' ∧ Hid (pOk X' n') ∧ Sc w wx C (rG kP (.slice (some ⟨b8, 0, none⟩) 1 1) [⟨tn', ⟨q', n', cp'⟩, tag'⟩] :: (trX (.slice q' n' cp') X' [] ++ (rG kP (.slice (some ⟨b5, 0, none⟩) 1 1) [⟨tn, ⟨q, n, cp⟩, tag⟩] :: (trX (.slice q n cp) X [] ++ rG kP (.slice (some ⟨b3, 0, none⟩) 1 1) [zpv] :: rs)))))
      case first =>
        go_region_held3 (fun w' => w'.cell? ⟨b5, 0, none⟩ = some (.int .i64 tn) ∧ w'.cell? ⟨b5, 1, none⟩ = some (.slice q n cp) ∧ w'.cell? ⟨b5, 2, none⟩ = some (.int .i64 tag))
          (first
            | assumption
            | with_reducible exact HK.out _ _ hrow (by simp)
            | with_reducible exact HK.out _ _ hrow.dr (by simp)
            | with_reducible exact HK.out _ _ (hrow.al _) (by simp)
            | with_reducible exact HK.out _ _ (hrow.al _).dr (by simp)
            | with_reducible exact HK.out _ _ hS8 (by simp))
          (first
            | (go_at_call 22; refine (clauseC (w := w) (C := C) (by first | with_reducible exact hrow | with_reducible exact hrow.dr | with_reducible exact hrow.litZ | with_reducible exact hrow.litZ.dr)).mono ?_; rintro e w6 ⟨c6, s6, t6, rfl, hb6, hrow6⟩; clear hrow; have hrow := hrow6; clear hrow6)
            | (go_at_call 10; (first | refine (sNarA tn tag hrow.sg hX hb6 (fun r hr => by simp [hr]) (fun r hr => by simp [hr])).mono ?_ | refine (sNarA tn tag hrow.litZ.sg hX hb6 (fun r hr => by simp [hr]) (fun r hr => by simp [hr])).mono ?_); rintro e w7 ⟨tn7, tag7, ok7, q7, n7, cp7, X7, rfl, hX7, hw7⟩; (first | with_reducible (replace hrow := hrow.addL hw7) | with_reducible (replace hrow := hrow.litZ.addL hw7)); (first
                | (obtain ⟨v0, v1, v2, vf, vg⟩ := hrow.sg.three (K := kP) (g := wr.heap.size) (n := 1) (p := zpv) (by simp) rfl; have hS8 := Sc.setP (A := trX (.slice q7 n7 cp7) X7 [] ++ clR c6 s6 t6) (g := wr.heap.size) (n := 1) (a := zpv) (by simpa [List.append_assoc] using hrow) ⟨tn7, ⟨q7, n7, cp7⟩, tag7⟩)
                | (obtain ⟨v0, v1, v2, vf, vg⟩ := hrow.sg.three (K := kP) (g := w6.heap.size) (n := 1) (p := zpv) (by simp) rfl; have hS8 := Sc.setP (A := trX (.slice q7 n7 cp7) X7 []) (g := w6.heap.size) (n := 1) (a := zpv) hrow ⟨tn7, ⟨q7, n7, cp7⟩, tag7⟩)
                | skip)))
        all_goals go_wp2
        all_goals go_meet
        all_goals first
          | (refine ⟨w7.heap.size, tn7, tag7, ok7, q7, n7, cp7, X7, rfl, rfl, hX7, ?_⟩; have h9 := (hrow.lit kP [⟨tn7, ⟨q7, n7, cp7⟩, tag7⟩] 1 rfl (by decide) #[.int .i64 tn7, .slice q7 n7 cp7, .int .i64 tag7] rfl); change Sc w (w7.alloc (.cells #[.int .i64 tn7, .slice q7 n7 cp7, .int .i64 tag7] 26)) _ _ at h9; with_reducible exact h9.sub (pick_a _ _ _ _))
          | (refine ⟨wr.heap.size, tn7, tag7, ok7, q7, n7, cp7, X7, rfl, rfl, hX7, ?_⟩; with_reducible exact (hS8.perm List.perm_middle).sub (pick_b _ _ _))
          | (refine ⟨w6.heap.size, tn7, tag7, ok7, q7, n7, cp7, X7, rfl, rfl, hX7, ?_⟩; with_reducible exact (hS8.perm List.perm_middle).sub (pick_a _ _ _ _))
      case rest =>
        clear hrow HK
        obtain ⟨b8, tn8, tag8, ok8, q8, n8, cp8, X8, rfl, rfl, hX8, hS8⟩ := hcut
        obtain ⟨y0, y1, y2, yf, yg⟩ := hS8.sg.three (K := kP) (g := b8) (n := 1) (p := ⟨tn8, ⟨q8, n8, cp8⟩, tag8⟩) (by simp) rfl
        obtain ⟨z0, z1, z2, zf, zg⟩ := hS8.sg.three (K := kP) (g := b5) (n := 1) (p := ⟨tn, ⟨q, n, cp⟩, tag⟩) (by simp) rfl
        cases ok8
        · go_wp2
          go_roundw
          case rel => exact ⟨k - 1, tn, tag, q, n, cp, X, by omega, by go_num, hX, hS8.sub (.cons _ (List.sublist_append_right _ _))⟩
          case measure => simp [intOf]; omega
        · have hS9 := Sc.setP (A := rG kP (.slice (some ⟨b8, 0, none⟩) 1 1) [⟨tn8, ⟨q8, n8, cp8⟩, tag8⟩] :: trX (.slice q8 n8 cp8) X8 []) (g := b5) (n := 1) hS8 ⟨tn8, ⟨q8, n8, cp8⟩, tag8⟩
          go_wp2
          go_roundw
          case rel => exact ⟨k - 1, tn8, tag8, q8, n8, cp8, X8, by omega, by go_num, hX8, (hS9.perm List.perm_middle).sub (.cons_cons _ (.cons _ (List.Sublist.append (List.Sublist.refl _) (List.sublist_append_right _ _))))⟩
          case measure => simp [intOf]; omega
    · have hno : k = 0 ∨ (0 < k ∧ ok4 = false) := by
        rcases Nat.eq_zero_or_pos k with h | h
        · exact .inl h
        · refine .inr ⟨h, ?_⟩
          cases ok4
          · rfl
          · exact absurd ⟨h, rfl⟩ hgo
      clear hgo
      obtain ⟨k, hkk⟩ : ∃ k' : Int, (k : Int) = k' := ⟨_, rfl⟩
      have hno' : k = 0 ∨ (0 < k ∧ ok4 = false) := by rcases hno with h | h; exact .inl (by omega); exact .inr ⟨by omega, h.2⟩
      rw [hkk]
      clear hno hkk
      rcases hno' with rfl | ⟨hki, rfl⟩
      all_goals
        go_upto_if 41 with (go_at_call 21; refine (onceC hrow 10 (by decide) (by decide)).mono ?_; rintro e w9 ⟨b9, rfl, hS9⟩)
        clear hrow
        go_cut [] from 6 (fun wx => ∃ (tn tag : Int) (q : Option Addr) (n cp : Nat) (X : List CQ), Hid (pOk X n) ∧ Sc w wx C (rG kP (.slice (some ⟨b5, 0, none⟩) 1 1) [⟨tn, ⟨q, n, cp⟩, tag⟩] :: (trX (.slice q n cp) X [] ++ rG kP (.slice (some ⟨b3, 0, none⟩) 1 1) [zpv] :: rs)))
        case first =>
          cases b9
          · go_wp2
            go_meet
            exact ⟨tn, tag, q, n, cp, X, hX, hS9⟩
          · go_upto_region 11 with (go_at_call 32; refine (belowC hS9 4 (by decide) (by decide)).mono ?_; rintro e w10 ⟨x10, rfl, x100, x101, hS10⟩)
            clear hS9
            obtain ⟨y0, y1, y2, yf, yg⟩ := hS10.sg.three (K := kP) (g := b5) (n := 1) (p := ⟨tn, ⟨q, n, cp⟩, tag⟩) (by simp) rfl
            have h4 : x10 = 0 ∨ x10 = 1 ∨ x10 = 2 ∨ x10 = 3 := by omega
            rcases h4 with rfl | rfl | rfl | rfl
            · go_wp2
              go_meet
              exact ⟨tn, _, q, n, cp, X, hX, Sc.setP2 (A := []) hS10 _⟩
            · go_wp2_with (go_at_call 51; refine (fromC hS10 0 4 (by decide) (by decide) (by decide) (by decide)).mono ?_; rintro e w11 ⟨x11, rfl, _, _, hS11⟩; clear y0 y1 y2 yf yg; obtain ⟨y0, y1, y2, yf, yg⟩ := hS11.sg.three (K := kP) (g := b5) (n := 1) (p := ⟨tn, ⟨q, n, cp⟩, tag⟩) (by simp) rfl)
              go_meet
              exact ⟨x11, tag, q, n, cp, X, hX, Sc.setP0 (A := []) hS11 x11⟩
            · by_cases hn0 : n = 0
              · subst hn0
                go_wp2
                go_meet
                exact ⟨tn, tag, q, 0, cp, X, hX, hS10⟩
              · have hni : (0 : Int) < n := by omega
                obtain ⟨g, hg⟩ := ow_some (hS10.sg.mem (K := kQ) (v := .slice q n cp) (L := X ++ []) (by simp [trX])) (by omega)
                subst hg
                obtain ⟨⟨c, s, t⟩, X', hX'⟩ : ∃ x X', X = x :: X' := by
                  have := hX.out.1
                  cases X with
                  | nil => simp at this; omega
                  | cons x X' => exact ⟨x, X', rfl⟩
                subst hX'
                have ho := hS10.sg.mem (K := kQ) (v := .slice (some ⟨g, 0, none⟩) n cp) (L := (c, s, t) :: X' ++ []) (by simp [trX])
                have hfz := OwG.fz ho
                obtain ⟨d0, d1, d2⟩ := (OwG.cs ho).q3 (k := 0) (q := (c, s, t)) rfl
                simp only [Nat.zero_mul, Nat.zero_add] at d0 d1 d2
                clear ho
                have hkk2 : Sc w (w10.setCell ⟨g, 2, none⟩ (.int .i64 (IntKind.i64.wrap (c.un + 1)))) C (rG kP (.slice (some ⟨b5, 0, none⟩) 1 1) [⟨tn, ⟨some ⟨g, 0, none⟩, n, cp⟩, tag⟩] :: (trX (.slice (some ⟨g, 0, none⟩) n cp) ((⟨c.rd, c.wr, IntKind.i64.wrap (c.un + 1)⟩, s, t) :: X') [] ++ rG kP (.slice (some ⟨b3, 0, none⟩) 1 1) [zpv] :: rs)) :=
                  Sc.raw (A := [rG kP (.slice (some ⟨b5, 0, none⟩) 1 1) [⟨tn, ⟨some ⟨g, 0, none⟩, n, cp⟩, tag⟩]]) (K := kQ) (g := g) (n := n) (c := cp) (L := (c, s, t) :: X' ++ []) (Bs := ((c, s, t) :: X').flatMap (fun q => clR q.1 q.2.1 q.2.2) ++ rG kP (.slice (some ⟨b3, 0, none⟩) 1 1) [zpv] :: rs) hS10 2 _
                    (Sg.set (A := [rG kP (.slice (some ⟨b5, 0, none⟩) 1 1) [⟨tn, ⟨some ⟨g, 0, none⟩, n, cp⟩, tag⟩]]) (L := (c, s, t) :: X' ++ []) hS10.sg 2 (.int .i64 (IntKind.i64.wrap (c.un + 1))) rfl rfl)
                go_wp2
                go_region_with fail
                all_goals
                  go_wp2
                  go_meet
                  exact ⟨tn, tag, some ⟨g, 0, none⟩, n, cp, (⟨c.rd, c.wr, IntKind.i64.wrap (c.un + 1)⟩, s, t) :: X', ⟨hX.out.1, hX.out.2.1, fun y hy => by
                    rcases List.mem_cons.mp hy with rfl | hy
                    · exact hX.out.2.2 (c, s, t) (List.mem_cons_self ..)
                    · exact hX.out.2.2 y (List.mem_cons_of_mem _ hy)⟩, by first | exact hkk2.dr | exact hkk2⟩
            · have hS11 := hS10.lit kI [-1, 2147483646, 2147483647] 3 rfl (by decide) #[.int .i64 (-1), .int .i64 2147483646, .int .i64 2147483647] rfl
              change Sc w (w10.alloc (.cells #[.int .i64 (-1), .int .i64 2147483646, .int .i64 2147483647] 2)) _ _ at hS11
              have hw10 := hS10.cur.hg
              go_wp2_with (go_at_call 32; refine (below_any _ _ _ _ _ 3 _ hS11.cur (by decide) (by decide)).mono ?_; rintro e w12 ⟨x12, rfl, x120, x121, ht12, hc12⟩; have hS12 := hS11.call ht12 hc12; have hcell := (ht12.cell (b := w10.heap.size) (o := x12.toNat) (by simp) (by omega)).trans (cell3_at x12 x120 x121); clear y0 y1 y2 yf yg; obtain ⟨y0, y1, y2, yf, yg⟩ := hS12.sg.three (K := kP) (g := b5) (n := 1) (p := ⟨tn, ⟨q, n, cp⟩, tag⟩) (by simp) rfl)
              go_meet
              exact ⟨tn, sel x12 [-1, 2147483646, 2147483647], q, n, cp, X, hX, Sc.setP2 (A := []) (hS12.sub (List.sublist_cons_self ..)) (sel x12 [-1, 2147483646, 2147483647])⟩
        case rest =>
          clear hS9 hX
          obtain ⟨tn, tag, q, n, cp, X, hX, hS10⟩ := hcut
          obtain ⟨y0, y1, y2, yf, yg⟩ := hS10.sg.three (K := kP) (g := b5) (n := 1) (p := ⟨tn, ⟨q, n, cp⟩, tag⟩) (by simp) rfl
          obtain ⟨z0, z1, z2, zf, zg⟩ := hS10.sg.three (K := kP) (g := b3) (n := 1) (p := zpv) (by simp) rfl
          have hS11 := Sc.setP (A := rG kP (.slice (some ⟨b5, 0, none⟩) 1 1) [⟨tn, ⟨q, n, cp⟩, tag⟩] :: trX (.slice q n cp) X []) (g := b3) (n := 1) hS10 ⟨tn, ⟨q, n, cp⟩, tag⟩
          have hS12 := hS11.dr
          obtain ⟨u0, u1, u2, uf, ug⟩ := hS11.sg.three (K := kP) (g := b3) (n := 1) (p := ⟨tn, ⟨q, n, cp⟩, tag⟩) (by simp) rfl
          go_wp2
          go_region_with fail
          all_goals
            go_wp2
            refine bodyPost_ret (v := .tuple #[.int .i64 key, .agg #[.int .i64 tn, .slice q n cp, .int .i64 tag]]) (by simp [results, Tryz.results20, go_sem, u0, u1, u2]) rfl ⟨key, tn, tag, q, n, cp, X, rfl, hX, ?_⟩
            first
              | exact hS11.sub (.cons _ (List.Sublist.append (List.Sublist.refl _) (.cons _ (List.Sublist.refl _))))
              | exact hS12.sub (.cons _ (List.Sublist.append (List.Sublist.refl _) (.cons _ (List.Sublist.refl _))))
end Go.Proofs.YtkinbgcnenieeaaGreatDoor
