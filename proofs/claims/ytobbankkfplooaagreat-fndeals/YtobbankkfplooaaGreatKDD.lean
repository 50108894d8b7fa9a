/-
  A Deal drawn.
-/
import Derived.Test.YtobbankkfplooaaGreatKDR
namespace Go.Proofs.YtobbankkfplooaaGreat.K.G
open Go.Shelf Go.RowKit Go.Joins Y
attribute [local go_sem] Oper.semAt_some

def fewI (QL : List YQ) (O : List Int) (n : Nat) : Prop := QL.length = n ∧ O.length = n ∧ ∀ y ∈ QL, y.2.n = 1
theorem Sc.litG {w W : World} {C : Cu} {rs : List Rw} (h : Sc w W C rs) (d : Gv) : Sc w (W.alloc (.cells #[.int .i64 d.t, .int .i64 d.q, .slice d.y.p d.y.n d.y.c, .slice d.o.p d.o.n d.o.c, .slice d.u.p d.u.n d.u.c, .int .i64 d.s] 27)) C (rG kG (.slice (some ⟨W.heap.size, 0, none⟩) 1 1) [d] :: rs) := h.lit kG [d] 1 rfl (by decide) #[.int .i64 d.t, .int .i64 d.q, .slice d.y.p d.y.n d.y.c, .slice d.o.p d.o.n d.o.c, .slice d.u.p d.u.n d.u.c, .int .i64 d.s] rfl
theorem Sc.setG0 {w W : World} {C : Cu} {A Bs : List Rw} {g n : Nat} {a : Gv} (h : Sc w W C (A ++ rG kG (.slice (some ⟨g, 0, none⟩) 1 n) [a] :: Bs)) (u : Int) : Sc w (W.setCell ⟨g, 0, none⟩ (.int .i64 u)) C (A ++ rG kG (.slice (some ⟨g, 0, none⟩) 1 n) [⟨u, a.q, a.y, a.o, a.u, a.s⟩] :: Bs) := Sc.raw h 0 (.int .i64 u) (Sg.setG0 h.sg u)
theorem Sc.setG1 {w W : World} {C : Cu} {A Bs : List Rw} {g n : Nat} {a : Gv} (h : Sc w W C (A ++ rG kG (.slice (some ⟨g, 0, none⟩) 1 n) [a] :: Bs)) (u : Int) : Sc w (W.setCell ⟨g, 1, none⟩ (.int .i64 u)) C (A ++ rG kG (.slice (some ⟨g, 0, none⟩) 1 n) [⟨a.t, u, a.y, a.o, a.u, a.s⟩] :: Bs) := Sc.raw h 1 (.int .i64 u) (Sg.setG1 h.sg u)
theorem Sc.setG2 {w W : World} {C : Cu} {A Bs : List Rw} {g n : Nat} {a : Gv} (h : Sc w W C (A ++ rG kG (.slice (some ⟨g, 0, none⟩) 1 n) [a] :: Bs)) (u : Sv) : Sc w (W.setCell ⟨g, 2, none⟩ (.slice u.p u.n u.c)) C (A ++ rG kG (.slice (some ⟨g, 0, none⟩) 1 n) [⟨a.t, a.q, u, a.o, a.u, a.s⟩] :: Bs) := Sc.raw h 2 (.slice u.p u.n u.c) (Sg.setG2 h.sg u)
theorem Sc.setG3 {w W : World} {C : Cu} {A Bs : List Rw} {g n : Nat} {a : Gv} (h : Sc w W C (A ++ rG kG (.slice (some ⟨g, 0, none⟩) 1 n) [a] :: Bs)) (u : Sv) : Sc w (W.setCell ⟨g, 3, none⟩ (.slice u.p u.n u.c)) C (A ++ rG kG (.slice (some ⟨g, 0, none⟩) 1 n) [⟨a.t, a.q, a.y, u, a.u, a.s⟩] :: Bs) := Sc.raw h 3 (.slice u.p u.n u.c) (Sg.setG3 h.sg u)
theorem Sc.setG4 {w W : World} {C : Cu} {A Bs : List Rw} {g n : Nat} {a : Gv} (h : Sc w W C (A ++ rG kG (.slice (some ⟨g, 0, none⟩) 1 n) [a] :: Bs)) (u : Sv) : Sc w (W.setCell ⟨g, 4, none⟩ (.slice u.p u.n u.c)) C (A ++ rG kG (.slice (some ⟨g, 0, none⟩) 1 n) [⟨a.t, a.q, a.y, a.o, u, a.s⟩] :: Bs) := Sc.raw h 4 (.slice u.p u.n u.c) (Sg.setG4 h.sg u)
theorem Sc.setG5 {w W : World} {C : Cu} {A Bs : List Rw} {g n : Nat} {a : Gv} (h : Sc w W C (A ++ rG kG (.slice (some ⟨g, 0, none⟩) 1 n) [a] :: Bs)) (u : Int) : Sc w (W.setCell ⟨g, 5, none⟩ (.int .i64 u)) C (A ++ rG kG (.slice (some ⟨g, 0, none⟩) 1 n) [⟨a.t, a.q, a.y, a.o, a.u, u⟩] :: Bs) := Sc.raw h 5 (.int .i64 u) (Sg.setG5 h.sg u)
theorem Sc.setG {w W : World} {C : Cu} {A Bs : List Rw} {g n : Nat} {a : Gv} (h : Sc w W C (A ++ rG kG (.slice (some ⟨g, 0, none⟩) 1 n) [a] :: Bs)) (q : Gv) : Sc w ((((((W.setCell ⟨g, 0, none⟩ (.int .i64 q.t)).setCell ⟨g, 1, none⟩ (.int .i64 q.q)).setCell ⟨g, 2, none⟩ (.slice q.y.p q.y.n q.y.c)).setCell ⟨g, 3, none⟩ (.slice q.o.p q.o.n q.o.c)).setCell ⟨g, 4, none⟩ (.slice q.u.p q.u.n q.u.c)).setCell ⟨g, 5, none⟩ (.int .i64 q.s)) C (A ++ rG kG (.slice (some ⟨g, 0, none⟩) 1 n) [q] :: Bs) :=
  Sc.setG5 (Sc.setG4 (Sc.setG3 (Sc.setG2 (Sc.setG1 (Sc.setG0 h q.t) q.q) q.y) q.o) q.u) q.s
theorem Sc.setV {w W : World} {C : Cu} {A Bs : List Rw} {g n c : Nat} {V : List Int} (h : Sc w W C (A ++ rG kI (.slice (some ⟨g, 0, none⟩) n c) V :: Bs)) (z : Int) : Sc w (W.setCell ⟨g, 0, none⟩ (.int .i64 z)) C (A ++ rG kI (.slice (some ⟨g, 0, none⟩) n c) (V.set 0 z) :: Bs) := Sc.raw h 0 (.int .i64 z) (Sg.setI h.sg (OwG.len (h.sg.mem (K := kI) (v := .slice (some ⟨g, 0, none⟩) n c) (L := V) (by simp))).symm 0 z)
theorem Sc.setQ {w W : World} {C : Cu} {A Bs : List Rw} {g n c : Nat} {y : Yd} {s : Sv} {T : List YQ} (h : Sc w W C (A ++ rG kY (.slice (some ⟨g, 0, none⟩) n c) ((y, s) :: T) :: Bs)) (z : Int) : Sc w (W.setCell ⟨g, 1, none⟩ (.int .i64 z)) C (A ++ rG kY (.slice (some ⟨g, 0, none⟩) n c) ((⟨y.t, z, y.L⟩, s) :: T) :: Bs) := Sc.raw h 1 (.int .i64 z) (Sg.set h.sg 1 (.int .i64 z) rfl rfl)
theorem own_someY {W : World} {base : Nat} {p : Option Addr} {n c : Nat} {L : List YQ} (h : OwG kY W base (.slice p n c) L) (hn : 0 < n) : ∃ g, p = some ⟨g, 0, none⟩ := by
  rcases h.2 with ⟨e, _⟩ | ⟨g, cap, cur, e, _⟩
  · cases e; omega
  · cases e; exact ⟨g, rfl⟩
theorem cellI {w W : World} {rs : List Rw} {g n c : Nat} {L : List Int} (h : Sg w W rs) (hm : rG kI (.slice (some ⟨g, 0, none⟩) n c) L ∈ rs) (hn : 0 < n) : ∃ a, W.cell? ⟨g, 0, none⟩ = some (.int .i64 a) := by
  have ho := h.mem hm
  have hl := OwG.len ho
  cases L with
  | nil => simp only [List.length_nil] at hl; omega
  | cons a T =>
    have := (OwG.cs ho).at (k := 0) (a := a) rfl (i := 0) (u := .int .i64 a) rfl
    simp only [Nat.zero_mul, Nat.zero_add] at this
    exact ⟨a, this⟩
theorem perm_in (a b c : Rw) (M T : List Rw) : (a :: b :: c :: (M ++ T)).Perm (c :: a :: ((M ++ [b]) ++ T)) := by
  refine (List.perm_middle (l₁ := [a, b])).trans (.cons _ (.cons _ ?_))
  rw [List.append_assoc]
  exact (List.perm_middle (l₁ := M)).symm
/-- What a drawn Deal's lists are. -/
def fewD (h : Gv) (QL : List YQ) : Prop := h.y.n ≤ 4 ∧ h.o.n = h.y.n ∧ h.u.n = h.y.n ∧ ∀ y ∈ QL, y.2.n ≤ 1000 ∧ y.1.L.length = y.2.n
/-- What Opened is asked in a draw, and what it answers. -/
theorem openC {w W : World} {C : Cu} {n gp cp gs cs b : Nat} {QL : List YQ} {O : List Int} (hn : n ≤ 3) (hF : fewI QL O n) (hS : Sc w W C (rG kI (.slice (some ⟨gs, 0, none⟩) n cs) O :: rG kY (.slice (some ⟨gp, 0, none⟩) n cp) QL :: (QL.map yR ++ [rG kG (.slice (some ⟨b, 0, none⟩) 1 1) [zgv]]))) :
    Calls Tryz.prog 22 #[.slice (some ⟨gp, 0, none⟩) n cp, .slice (some ⟨gs, 0, none⟩) n cs] W fun e w' => ∃ (h : Gv) (x : Bool) (Q2 : List YQ) (O2 V2 : List Int), e = .returned (.tuple #[h.v, .bool x]) ∧ Hid (fewD h Q2) ∧ Hid (Past W.heap.size (gR h Q2 O2 V2)) ∧ W.heap.size ≤ w'.heap.size ∧ Sc w w' C (gR h Q2 O2 V2 ++ [rG kG (.slice (some ⟨b, 0, none⟩) 1 1) [zgv]]) := by
  obtain ⟨h1, h2, h3⟩ := hF
  have hY : RdY W (some ⟨gp, 0, none⟩) QL := ⟨OwG.sl (hS.sg.mem (K := kY) (v := .slice (some ⟨gp, 0, none⟩) n cp) (L := QL) (by simp)), fun y hy => by
    have := hS.sg.mem (K := I.kR) (v := .slice y.2.p y.2.n y.2.c) (L := y.1.L) (List.mem_cons_of_mem _ (List.mem_cons_of_mem _ (List.mem_append_left _ (List.mem_map_of_mem hy))))
    exact ⟨OwG.sl this, (OwG.len this).symm⟩⟩
  refine (sOpened_any QL O ⟨some ⟨gp, 0, none⟩, n, cp⟩ ⟨some ⟨gs, 0, none⟩, n, cs⟩ W hY h1 (fun y hy => by have := h3 y hy; omega) (OwG.sl (hS.sg.mem (K := kI) (v := .slice (some ⟨gs, 0, none⟩) n cs) (L := O) (by simp))) h2 ⟨by simp only; omega, by simp only; omega⟩ ⟨.inl ⟨_, rfl⟩, fun y hy => own_okv' (hS.sg.mem (K := I.kR) (v := .slice y.2.p y.2.n y.2.c) (L := y.1.L) (List.mem_cons_of_mem _ (List.mem_cons_of_mem _ (List.mem_append_left _ (List.mem_map_of_mem hy)))))⟩).mono ?_
  rintro e w' ⟨v, rfl, y, o, u, Q2, rfl, hq1, hq2, hS2⟩
  have hSc := hS.addL hS2
  have hr : (openR (yds QL) O).1.Y.length ≤ 3 ∧ (openR (yds QL) O).1.O.length = (openR (yds QL) O).1.Y.length ∧ (openR (yds QL) O).1.V.length = (openR (yds QL) O).1.Y.length := by
    by_cases hd : dB (openD (yds QL) O) = true
    · rw [show openR (yds QL) O = (openD (yds QL) O, true) from if_pos hd]
      exact ⟨by show (yds QL).length ≤ 3; rw [yds_len]; omega, by show O.length = (yds QL).length; rw [yds_len]; omega, by show (List.replicate (yds QL).length (0 : Int)).length = (yds QL).length; rw [List.length_replicate]⟩
    · rw [show openR (yds QL) O = (zdd, false) from if_neg hd]
      decide
  refine ⟨⟨(openR (yds QL) O).1.t, (openR (yds QL) O).1.q, y, o, u, (openR (yds QL) O).1.s⟩, (openR (yds QL) O).2, Q2, (openR (yds QL) O).1.O, (openR (yds QL) O).1.V, rfl, ?_, fun r hr g hg => own_low (hS2.own r hr) hg, hS2.bel.size, ?_⟩
  · have e1 := OwG.len (hS2.mem (K := kY) (v := .slice y.p y.n y.c) (L := Q2) (by simp [gR, trY]))
    have e2 := OwG.len (hS2.mem (K := kI) (v := .slice o.p o.n o.c) (L := (openR (yds QL) O).1.O) (by simp [gR]))
    have e3 := OwG.len (hS2.mem (K := kI) (v := .slice u.p u.n u.c) (L := (openR (yds QL) O).1.V) (by simp [gR]))
    have e4 : Q2.length = (openR (yds QL) O).1.Y.length := by rw [← hq1, yds_len]
    exact ⟨by simp only; omega, by simp only; omega, by simp only; omega, hq2⟩
  · refine hSc.sub (List.Sublist.append (List.Sublist.refl _) ?_)
    exact .cons _ (.cons _ (List.sublist_append_right _ _))
set_option maxRecDepth 100000 in
set_option maxHeartbeats 4000000 in
theorem dealC {w W : World} {C : Cu} (h : Sc w W C []) (hg : C.g = w.heap.size) :
    Calls Tryz.prog 29 #[.pointer (some ⟨C.g, 0, none⟩)] W fun e w' => ∃ (h : Gv) (QL : List YQ) (O V : List Int), e = .returned h.v ∧ Hid (fewD h QL) ∧ Sc w w' C (gR h QL O V) := by
  have hS0 := ((h.lit kG [zgv] 1 rfl (by decide) #[.int .i64 0, .int .i64 0, .slice none 0 0, .slice none 0 0, .slice none 0 0, .int .i64 0] rfl).lit kY [] 0 rfl (by decide) #[] rfl).lit kI [] 0 rfl (by decide) #[] rfl
  have HG : Hid (C.g = w.heap.size) := hg
  clear h hg
  go_enter Tryz.func29, Tryz.ntmps29
  go_wp2_with (go_at_call 64; refine (belowC hS0 4 (by decide) (by decide)).mono ?_; rintro e w1 ⟨x1, rfl, hx10, hx11, hS1⟩; have hw1 : IntKind.i64.wrap (1 + x1) = 1 + x1 := wrapI (by omega) (by omega))
  clear hS0
  have hS2 : Sc w w1 C (rG kI (.slice (some ⟨W.heap.size + 1 + 1, 0, none⟩) 0 0) [] :: rG kY (.slice (some ⟨W.heap.size + 1, 0, none⟩) 0 0) [] :: (([] : List YQ).map yR ++ [rG kG (.slice (some ⟨W.heap.size, 0, none⟩) 1 1) [zgv]])) := by
    simpa only [World.alloc, Array.size_push, List.map_nil, List.nil_append] using hS1
  clear hS1
  generalize W.heap.size + 1 + 1 = b3 at *
  generalize W.heap.size + 1 = b2 at *
  generalize W.heap.size = b1 at *
  go_loopw [3, 4, 6] (fun pv sv iv wr => ∃ (k n gp cp gs cs : Nat) (QL : List YQ) (O : List Int), iv = .int .i64 k ∧ pv = .slice (some ⟨gp, 0, none⟩) n cp ∧ sv = .slice (some ⟨gs, 0, none⟩) n cs ∧ k ≤ 3 ∧ n ≤ k ∧ Hid (fewI QL O n) ∧ Sc w wr C (rG kI (.slice (some ⟨gs, 0, none⟩) n cs) O :: rG kY (.slice (some ⟨gp, 0, none⟩) n cp) QL :: (QL.map yR ++ [rG kG (.slice (some ⟨b1, 0, none⟩) 1 1) [zgv]]))) (fun _ _ iv _ => 3 - (intOf iv).toNat)
  case atStart => exact ⟨0, 0, b2, 0, b3, 0, [], [], rfl, rfl, rfl, by omega, by omega, ⟨rfl, rfl, by simp⟩, hS2⟩
  case round =>
    clear hS2
    obtain ⟨k, n, gp, cp, gs, cs, QL, O, rfl, rfl, rfl, hk3, hnk, HF, hS⟩ := hrel
    have hwk : IntKind.i64.wrap ((k : Int) + 1) = ((k + 1 : Nat) : Int) := by rw [IntKind.wrap_i64]; omega
    by_cases hk : k < 3
    · have hki : (k : Int) < 3 := by omega
      go_upto_if 20 with (go_at_call 31; refine (onceC hS 2 (by decide) (by decide)).mono ?_; rintro e w2 ⟨xb, rfl, hS2⟩; clear hS; cases xb)
      · go_wp2
        go_roundw
        case rel => exact ⟨k + 1, n, gp, cp, gs, cs, QL, O, rfl, rfl, rfl, by omega, by omega, HF, hS2⟩
        case measure => simp [intOf]; omega
      · have m0 : True := trivial
        have hFl : O.length = n := HF.out.2.1
        have HL : Hid (QL.length = n ∧ O.length = n) := ⟨HF.out.1, hFl⟩
        clear hFl
        go_wp2_with (first
          | (go_at_call 64; clear m0; refine (belowC hS2 4 (by decide) (by decide)).mono ?_; rintro e w3 ⟨x, rfl, hx0, hx1, hS3⟩; have hwx : IntKind.i64.wrap (1 + x) = 1 + x := wrapI (by omega) (by omega); have hS4 := (hS3.lit I.kR [⟨1, 1 + x, 0, 0, ByteArray.empty⟩] 1 rfl (by decide) #[.int .i64 1, .int .i64 (1 + x), .int .i64 0, .int .i64 0, .string ByteArray.empty] rfl).perm (List.perm_middle (l₁ := [_, _])); have m1 : True := trivial)
          | (at_builtin; (clear m1; refine wpList_sgapp appY rfl _ _ rfl (A := []) (B := [(⟨2, 1 + x1, [⟨1, 1 + x, 0, 0, ByteArray.empty⟩]⟩, ⟨some ⟨w3.heap.size, 0, none⟩, 1, 1⟩)]) (n := n) (m := 1) hS4.sg (below_alloc1 _ _) HL.out.1 rfl rfl ⟨w3.heap.size + 1, 0, none⟩ 1 rfl (lit_src (xs := [.int .i64 2, .int .i64 (1 + x1), .slice (some ⟨w3.heap.size, 0, none⟩) 1 1]) (by simp only [World.alloc, Array.size_push])) (oneYs _) (.inl (by decide)) (by omega) ?_; intro g' cap2 w6 hS8 hgr hat; have hS9 := ((hS4.al _).app hS8 hgr hat).perm (perm_in _ _ _ (QL.map yR) _); have m2 : True := trivial))
          | (at_builtin; (clear m2; refine wpList_sgapp appI rfl _ _ rfl (A := []) (B := [(k : Int)]) (n := n) (m := 1) hS9.sg (below_alloc1 _ _) HL.out.2 rfl rfl ⟨w6.heap.size, 0, none⟩ 1 rfl (lit_src (xs := [.int .i64 (k : Int)]) rfl) (oneIs _) (.inl (by decide)) (by omega) ?_; intro g2 cap3 w7 hSa hgr2 hat2)))
        have hSb := (hS9.al _).app hSa hgr2 hat2
        go_roundw
        case rel => exact ⟨k + 1, n + 1, g', cap2, g2, cap3, QL ++ [(⟨2, 1 + x1, [⟨1, 1 + x, 0, 0, ByteArray.empty⟩]⟩, ⟨some ⟨w3.heap.size, 0, none⟩, 1, 1⟩)], O ++ [(k : Int)], rfl, rfl, rfl, by omega, by omega, ⟨by rw [List.length_append, HL.out.1]; rfl, by rw [List.length_append, HL.out.2]; rfl, by
            intro y hy
            rcases List.mem_append.mp hy with hy | hy
            · exact HF.out.2.2 y hy
            · have e := List.mem_singleton.mp hy
              subst e; rfl⟩, by rw [List.map_append]; exact hSb⟩
        case measure => simp [intOf]; omega
    · have hki : ¬ (k : Int) < 3 := by omega
      have HO := Lib.hid (openC (by omega) HF.out hS)
      have hm1 : C.g < wr.heap.size := hS.cur.hg
      have hm2 : b1 < wr.heap.size := (World.ownsRow.lt (hS.sg.own (rG kG (.slice (some ⟨b1, 0, none⟩) 1 1) [zgv]) (by simp)) _ rfl).2
      clear hS
      have m0 : True := trivial
      go_wp2_with (first
        | (go_at_call 22; clear m0; refine HO.out.mono ?_; rintro e w2 ⟨⟨dt, dq, ⟨yp, yn, yc⟩, ⟨op, on, oc⟩, ⟨up, un, uc⟩, ds⟩, xb, Q2, O2, V2, rfl, HD, HP, hm3, hS2⟩; have hS3 := Sc.litG hS2 ⟨dt, dq, ⟨yp, yn, yc⟩, ⟨op, on, oc⟩, ⟨up, un, uc⟩, ds⟩; have m1 : True := trivial)
        | (go_at_call 64; clear m1; refine (belowC hS3 5 (by decide) (by decide)).mono ?_; rintro e w4 ⟨r0, rfl, hr0, hr1, hS4⟩))
      clear hS3 hS2 HO HF
      generalize w2.heap.size = b7 at *
      have HM : Hid (C.g < wr.heap.size ∧ b1 < wr.heap.size ∧ wr.heap.size ≤ b7) := ⟨hm1, hm2, hm3⟩
      clear hm1 hm2 hm3
      generalize wr.heap.size = m at *
      go_loopw [9] (fun iv wr => ∃ (r : Int) (h : Gv) (QL : List YQ) (O V : List Int), iv = .int .i64 r ∧ 0 ≤ r ∧ r ≤ 4 ∧ Hid (fewD h QL) ∧ Hid (Past m (gR h QL O V)) ∧ Sc w wr C ((rG kG (.slice (some ⟨b7, 0, none⟩) 1 1) [h] :: gR h QL O V) ++ [rG kG (.slice (some ⟨b1, 0, none⟩) 1 1) [zgv]])) (fun iv _ => (intOf iv).toNat)
      case atStart => exact ⟨r0, _, Q2, O2, V2, rfl, hr0, by omega, HD, HP, hS4⟩
      case round =>
        clear hS4 HD HP
        obtain ⟨r, ⟨dt, dq, ⟨yp, yn, yc⟩, ⟨op, on, oc⟩, ⟨up, un, uc⟩, ds⟩, QL, O, V, rfl, hr0, hr4, HD, HP, hS⟩ := hrel
        have hwr : IntKind.i64.wrap (r - 1) = r - 1 := wrapI (by omega) (by omega)
        have HB : Hid (∀ r ∈ [rG kG (.slice (some ⟨b1, 0, none⟩) 1 1) [zgv]], ∀ g, r.v.ownBlock = some g → g < m) := fun r hr g hg => by
          rw [List.mem_singleton.mp hr] at hg
          have e : b1 = g := Option.some.inj hg
          have := HM.out.2.1
          omega
        have HW : Hid (∀ W' V', Sc w W' C ((rG kG (.slice (some ⟨b7, 0, none⟩) 1 1) [⟨dt, dq, ⟨yp, yn, yc⟩, ⟨op, on, oc⟩, ⟨up, un, uc⟩, ds⟩] :: gR ⟨dt, dq, ⟨yp, yn, yc⟩, ⟨op, on, oc⟩, ⟨up, un, uc⟩, ds⟩ QL O V') ++ [rG kG (.slice (some ⟨b1, 0, none⟩) 1 1) [zgv]]) → m ≤ W'.heap.size) := fun W' V' h => by
          have h1 := (World.ownsRow.lt (h.sg.own (rG kG (.slice (some ⟨b7, 0, none⟩) 1 1) [⟨dt, dq, ⟨yp, yn, yc⟩, ⟨op, on, oc⟩, ⟨up, un, uc⟩, ds⟩]) (by simp)) _ rfl).2
          have h2 : b7 < W'.heap.size := h1
          have := HM.out.2.2
          omega
        obtain ⟨v0, v1, v2, v3, v4, v5, vf, vg⟩ := g6 hS.sg (K := kG) (g := b7) (n := 1) (q := ⟨dt, dq, ⟨yp, yn, yc⟩, ⟨op, on, oc⟩, ⟨up, un, uc⟩, ds⟩) (by simp) rfl
        dsimp only at v0 v1 v2 v3 v4 v5
        by_cases hc : 0 < r ∧ 0 < yn
        · obtain ⟨hrp, hyp⟩ := hc
          have hyi : (0 : Int) < yn := by omega
          obtain ⟨hd1, hd2, hd3, hd4⟩ := HD.out
          dsimp only at hd1 hd2 hd3
          have HV : Hid (∀ W' (x : Int) (yes : Bool), Sc w W' C ((rG kG (.slice (some ⟨b7, 0, none⟩) 1 1) [⟨dt, dq, ⟨yp, yn, yc⟩, ⟨op, on, oc⟩, ⟨up, un, uc⟩, ds⟩] :: gR ⟨dt, dq, ⟨yp, yn, yc⟩, ⟨op, on, oc⟩, ⟨up, un, uc⟩, ds⟩ QL O V) ++ [rG kG (.slice (some ⟨b1, 0, none⟩) 1 1) [zgv]]) → Calls Tryz.prog 41 #[.pointer (some ⟨b7, 0, none⟩), .int .i64 x, .bool yes] W' fun e w' => ∃ (y : Bool) (V' : List Int), e = .returned (.bool y) ∧ Sc w w' C ((rG kG (.slice (some ⟨b7, 0, none⟩) 1 1) [⟨dt, dq, ⟨yp, yn, yc⟩, ⟨op, on, oc⟩, ⟨up, un, uc⟩, ds⟩] :: gR ⟨dt, dq, ⟨yp, yn, yc⟩, ⟨op, on, oc⟩, ⟨up, un, uc⟩, ds⟩ QL O V') ++ [rG kG (.slice (some ⟨b1, 0, none⟩) 1 1) [zgv]])) := fun W' x yes h => (voteC _ QL O V x yes w W' C b7 m _ h (HW.out _ _ h) HM.out.1 HM.out.2.2 HP.out HB.out ⟨by dsimp only; omega, by dsimp only; omega⟩ (by dsimp only; omega) rfl).mono fun _ _ ⟨h1, h2⟩ => ⟨_, _, h1, h2⟩
          have HK : Hid (∀ W' (off : Bool), Sc w W' C ((rG kG (.slice (some ⟨b7, 0, none⟩) 1 1) [⟨dt, dq, ⟨yp, yn, yc⟩, ⟨op, on, oc⟩, ⟨up, un, uc⟩, ds⟩] :: gR ⟨dt, dq, ⟨yp, yn, yc⟩, ⟨op, on, oc⟩, ⟨up, un, uc⟩, ds⟩ QL O V) ++ [rG kG (.slice (some ⟨b1, 0, none⟩) 1 1) [zgv]]) → Calls Tryz.prog 53 #[.pointer (some ⟨b7, 0, none⟩), .bool off] W' fun e w' => ∃ (y : Bool) (s' : Int), e = .returned (.bool y) ∧ Sc w w' C ((rG kG (.slice (some ⟨b7, 0, none⟩) 1 1) [⟨dt, dq, ⟨yp, yn, yc⟩, ⟨op, on, oc⟩, ⟨up, un, uc⟩, s'⟩] :: gR ⟨dt, dq, ⟨yp, yn, yc⟩, ⟨op, on, oc⟩, ⟨up, un, uc⟩, s'⟩ QL O V) ++ [rG kG (.slice (some ⟨b1, 0, none⟩) 1 1) [zgv]])) := fun W' off h => (decideC _ QL O V off w W' C b7 m _ h (HW.out _ _ h) HM.out.1 HM.out.2.2 HP.out HB.out ⟨by dsimp only; omega, by dsimp only; omega⟩ rfl).mono fun _ _ ⟨h1, h2⟩ => ⟨_, _, h1, h2⟩
          clear hd1 hd2 hd3 hd4
          go_upto_region 15 with (go_at_call 64; refine (belowC hS 4 (by decide) (by decide)).mono ?_; rintro e w5 ⟨x, rfl, hx0, hx1, hS5⟩)
          clear v0 v1 v2 v3 v4 v5 vf vg hS
          have hx : x = 0 ∨ x = 1 ∨ x = 2 ∨ x = 3 := by omega
          have m0 : True := trivial
          rcases hx with rfl | rfl | rfl | rfl
          iterate 3
            · go_wp2_with (first
                | (go_at_call 64; clear m0; refine (belowC hS5 3 (by decide) (by decide)).mono ?_; rintro e w6 ⟨z, rfl, hz0, hz1, hS6⟩; have m1 : True := trivial)
                | (go_at_call 31; clear m1; refine (onceC hS6 5 (by decide) (by decide)).mono ?_; rintro e w7 ⟨zb, rfl, hS7⟩; have m2 : True := trivial)
                | (go_at_call 41; clear m2; refine (HV.out _ _ _ hS7).mono ?_; rintro e w8 ⟨y8, V8, rfl, hS8⟩))
              go_roundw
              case rel => exact ⟨r - 1, _, QL, O, V8, rfl, by omega, by omega, HD, gR_past HP.out, hS8⟩
              case measure => simp [intOf]; omega
          · go_wp2_with (first
              | (go_at_call 31; clear m0; refine (onceC hS5 5 (by decide) (by decide)).mono ?_; rintro e w7 ⟨zb, rfl, hS7⟩; have m2 : True := trivial)
              | (go_at_call 53; clear m2; refine (HK.out _ _ hS7).mono ?_; rintro e w8 ⟨y8, s8, rfl, hS8⟩))
            go_roundw
            case rel => exact ⟨r - 1, ⟨dt, dq, ⟨yp, yn, yc⟩, ⟨op, on, oc⟩, ⟨up, un, uc⟩, s8⟩, QL, O, V, rfl, by omega, by omega, HD, HP, hS8⟩
            case measure => simp [intOf]; omega
        · by_cases hrp : 0 < r
          · obtain rfl : yn = 0 := by omega
            clear hc v0 v1 v3 v4 v5
            go_upto_if 77 with (go_at_call 31; refine (onceC hS 12 (by decide) (by decide)).mono ?_; rintro e w5 ⟨xb, rfl, hS5⟩; clear v2 vf vg hS; obtain ⟨v0, v1, v2, v3, v4, v5, vf, vg⟩ := g6 hS5.sg (K := kG) (g := b7) (n := 1) (q := ⟨dt, dq, ⟨yp, 0, yc⟩, ⟨op, on, oc⟩, ⟨up, un, uc⟩, ds⟩) (by simp) rfl; obtain ⟨z0, z1, z2, z3, z4, z5, zf, zg⟩ := g6 hS5.sg (K := kG) (g := b1) (n := 1) (q := zgv) (by simp) rfl; dsimp only [zgv] at v0 v1 v2 v3 v4 v5 z0 z1 z2 z3 z4 z5; cases xb)
            all_goals
              go_wp2
              have hE := Sc.setG (A := rG kG (.slice (some ⟨b7, 0, none⟩) 1 1) [⟨dt, dq, ⟨yp, 0, yc⟩, ⟨op, on, oc⟩, ⟨up, un, uc⟩, ds⟩] :: gR ⟨dt, dq, ⟨yp, 0, yc⟩, ⟨op, on, oc⟩, ⟨up, un, uc⟩, ds⟩ QL O V) (g := b1) (n := 1) (a := zgv) (Bs := []) hS5 ⟨dt, dq, ⟨yp, 0, yc⟩, ⟨op, on, oc⟩, ⟨up, un, uc⟩, ds⟩
              exact bodyPost_ret (v := .agg #[.int .i64 dt, .int .i64 dq, .slice yp 0 yc, .slice op on oc, .slice up un uc, .int .i64 ds]) (by simp [results, Tryz.results29, go_sem, z0, z1, z2, z3, z4, z5]) rfl ⟨⟨dt, dq, ⟨yp, 0, yc⟩, ⟨op, on, oc⟩, ⟨up, un, uc⟩, ds⟩, QL, O, V, rfl, HD, hE.sub (.cons _ (List.sublist_append_left _ _))⟩
          · by_cases hyp : 0 < yn
            · have hyi : (0 : Int) < yn := by omega
              clear hc v0 v1 v3 v4 v5
              go_upto_if 77 with (go_at_call 31; refine (onceC hS 12 (by decide) (by decide)).mono ?_; rintro e w5 ⟨xb, rfl, hS5⟩; clear v2 vf vg hS; obtain ⟨v0, v1, v2, v3, v4, v5, vf, vg⟩ := g6 hS5.sg (K := kG) (g := b7) (n := 1) (q := ⟨dt, dq, ⟨yp, yn, yc⟩, ⟨op, on, oc⟩, ⟨up, un, uc⟩, ds⟩) (by simp) rfl; obtain ⟨z0, z1, z2, z3, z4, z5, zf, zg⟩ := g6 hS5.sg (K := kG) (g := b1) (n := 1) (q := zgv) (by simp) rfl; dsimp only [zgv] at v0 v1 v2 v3 v4 v5 z0 z1 z2 z3 z4 z5; cases xb)
              · go_wp2
                have hE := Sc.setG (A := rG kG (.slice (some ⟨b7, 0, none⟩) 1 1) [⟨dt, dq, ⟨yp, yn, yc⟩, ⟨op, on, oc⟩, ⟨up, un, uc⟩, ds⟩] :: gR ⟨dt, dq, ⟨yp, yn, yc⟩, ⟨op, on, oc⟩, ⟨up, un, uc⟩, ds⟩ QL O V) (g := b1) (n := 1) (a := zgv) (Bs := []) hS5 ⟨dt, dq, ⟨yp, yn, yc⟩, ⟨op, on, oc⟩, ⟨up, un, uc⟩, ds⟩
                exact bodyPost_ret (v := .agg #[.int .i64 dt, .int .i64 dq, .slice yp yn yc, .slice op on oc, .slice up un uc, .int .i64 ds]) (by simp [results, Tryz.results29, go_sem, z0, z1, z2, z3, z4, z5]) rfl ⟨⟨dt, dq, ⟨yp, yn, yc⟩, ⟨op, on, oc⟩, ⟨up, un, uc⟩, ds⟩, QL, O, V, rfl, HD, hE.sub (.cons _ (List.sublist_append_left _ _))⟩
              · go_upto_region 23 with (go_at_call 64; refine (belowC hS5 4 (by decide) (by decide)).mono ?_; rintro e w6 ⟨x, rfl, hx0, hx1, hS6⟩)
                clear v0 v1 v2 v3 v4 v5 vf vg z0 z1 z2 z3 z4 z5 zf zg hS5
                have hx : x = 0 ∨ x = 1 ∨ x = 2 ∨ x = 3 := by omega
                rcases hx with rfl | rfl | rfl | rfl
                · obtain ⟨gu, rfl⟩ := own_some (hS6.sg.mem (K := kI) (v := .slice up un uc) (L := V) (by simp [gR])) (by have := HD.out.2.1; have := HD.out.2.2.1; simp only at *; omega)
                  have HN : Hid (0 < un) := by have := HD.out.2.1; have := HD.out.2.2.1; simp only at *; show 0 < un; omega
                  have hn0 : (0 : Int) < un := by have := HN.out; omega
                  have HS : Hid (∀ w' L', Sc w w' C ((rG kG (.slice (some ⟨b7, 0, none⟩) 1 1) [⟨dt, dq, ⟨yp, yn, yc⟩, ⟨op, on, oc⟩, ⟨(some ⟨gu, 0, none⟩), un, uc⟩, ds⟩] :: gR ⟨dt, dq, ⟨yp, yn, yc⟩, ⟨op, on, oc⟩, ⟨(some ⟨gu, 0, none⟩), un, uc⟩, ds⟩ QL O L') ++ [rG kG (.slice (some ⟨b1, 0, none⟩) 1 1) [zgv]]) → w'.cell? ⟨b7, 4, none⟩ = some (.slice (some ⟨gu, 0, none⟩) un uc) ∧ (∀ j, w'.frozen? ⟨gu, j, none⟩ = false) ∧ ∃ a, w'.cell? ⟨gu, 0, none⟩ = some (.int .i64 a)) := fun w' L' hq => by
                    obtain ⟨y0, y1, y2, y3, y4, y5, _, _⟩ := g6 hq.sg (K := kG) (g := b7) (n := 1) (q := ⟨dt, dq, ⟨yp, yn, yc⟩, ⟨op, on, oc⟩, ⟨(some ⟨gu, 0, none⟩), un, uc⟩, ds⟩) (by simp) rfl
                    exact ⟨y4, OwG.fz (hq.sg.mem (K := kI) (v := .slice (some ⟨gu, 0, none⟩) un uc) (L := L') (by simp [gR])), cellI hq.sg (g := gu) (n := un) (c := uc) (L := L') (by simp [gR]) HN.out⟩
                  go_upto_region 24 with (fail)
                  obtain ⟨vc, vf, va, vd⟩ := HS.out _ _ hS6
                  go_region_with (first | (go_at_call 30; (first | refine (from5C hS6).mono ?_ | refine (from5C (Sc.dr hS6)).mono ?_); rintro ee w7 ⟨x, rfl, hx0, hx1, hx7⟩; clear vc vf vd va; obtain ⟨vc, vf, va, vd⟩ := HS.out _ _ hx7; have h7 := Sc.setV (A := [rG kG (.slice (some ⟨b7, 0, none⟩) 1 1) [⟨dt, dq, ⟨yp, yn, yc⟩, ⟨op, on, oc⟩, ⟨(some ⟨gu, 0, none⟩), un, uc⟩, ds⟩]]) hx7 x))
                  all_goals
                    have hS5 := h7
                    clear vc vf vd va HS h7 hx7
                    obtain ⟨v0, v1, v2, v3, v4, v5, vf, vg⟩ := g6 hS5.sg (K := kG) (g := b7) (n := 1) (q := ⟨dt, dq, ⟨yp, yn, yc⟩, ⟨op, on, oc⟩, ⟨(some ⟨gu, 0, none⟩), un, uc⟩, ds⟩) (by simp) rfl
                    obtain ⟨z0, z1, z2, z3, z4, z5, zf, zg⟩ := g6 hS5.sg (K := kG) (g := b1) (n := 1) (q := zgv) (by simp) rfl
                    dsimp only [zgv] at v0 v1 v2 v3 v4 v5 z0 z1 z2 z3 z4 z5
                    go_wp2
                    have hE := Sc.setG (A := rG kG (.slice (some ⟨b7, 0, none⟩) 1 1) [⟨dt, dq, ⟨yp, yn, yc⟩, ⟨op, on, oc⟩, ⟨(some ⟨gu, 0, none⟩), un, uc⟩, ds⟩] :: gR ⟨dt, dq, ⟨yp, yn, yc⟩, ⟨op, on, oc⟩, ⟨(some ⟨gu, 0, none⟩), un, uc⟩, ds⟩ QL O (V.set 0 x)) (g := b1) (n := 1) (a := zgv) (Bs := []) hS5 ⟨dt, dq, ⟨yp, yn, yc⟩, ⟨op, on, oc⟩, ⟨(some ⟨gu, 0, none⟩), un, uc⟩, ds⟩
                    exact bodyPost_ret (v := .agg #[.int .i64 dt, .int .i64 dq, .slice yp yn yc, .slice op on oc, .slice (some ⟨gu, 0, none⟩) un uc, .int .i64 ds]) (by simp [results, Tryz.results29, go_sem, z0, z1, z2, z3, z4, z5]) rfl ⟨⟨dt, dq, ⟨yp, yn, yc⟩, ⟨op, on, oc⟩, ⟨(some ⟨gu, 0, none⟩), un, uc⟩, ds⟩, QL, O, (V.set 0 x), rfl, HD, hE.sub (.cons _ (List.sublist_append_left _ _))⟩
                · have m0 : True := trivial
                  obtain ⟨v0, v1, v2, v3, v4, v5, vf, vg⟩ := g6 hS6.sg (K := kG) (g := b7) (n := 1) (q := ⟨dt, dq, ⟨yp, yn, yc⟩, ⟨op, on, oc⟩, ⟨up, un, uc⟩, ds⟩) (by simp) rfl
                  clear v0 v1 v2 v3 v4 v5
                  go_upto_region 31 with (go_at_call 30; clear m0; refine (from5C hS6).mono ?_; rintro e w7 ⟨x, rfl, hx0, hx1, hS7⟩; clear vf vg; obtain ⟨v0, v1, v2, v3, v4, v5, vf, vg⟩ := g6 hS7.sg (K := kG) (g := b7) (n := 1) (q := ⟨dt, dq, ⟨yp, yn, yc⟩, ⟨op, on, oc⟩, ⟨up, un, uc⟩, ds⟩) (by simp) rfl; dsimp only at v0 v1 v2 v3 v4 v5)
                  clear v0 v1 v2 v3 v4 v5 vf vg hS6
                  have hS5 := Sc.setG5 (A := []) hS7 x
                  generalize w7.setCell ⟨b7, 5, none⟩ (.int .i64 x) = w8 at *
                  clear hS7
                  replace hS5 : Sc w w8 C ((rG kG (.slice (some ⟨b7, 0, none⟩) 1 1) [⟨dt, dq, ⟨yp, yn, yc⟩, ⟨op, on, oc⟩, ⟨up, un, uc⟩, x⟩] :: gR ⟨dt, dq, ⟨yp, yn, yc⟩, ⟨op, on, oc⟩, ⟨up, un, uc⟩, x⟩ QL O V) ++ [rG kG (.slice (some ⟨b1, 0, none⟩) 1 1) [zgv]]) := hS5
                  obtain ⟨v0, v1, v2, v3, v4, v5, vf, vg⟩ := g6 hS5.sg (K := kG) (g := b7) (n := 1) (q := ⟨dt, dq, ⟨yp, yn, yc⟩, ⟨op, on, oc⟩, ⟨up, un, uc⟩, x⟩) (by simp) rfl
                  obtain ⟨z0, z1, z2, z3, z4, z5, zf, zg⟩ := g6 hS5.sg (K := kG) (g := b1) (n := 1) (q := zgv) (by simp) rfl
                  dsimp only [zgv] at v0 v1 v2 v3 v4 v5 z0 z1 z2 z3 z4 z5
                  go_wp2
                  have hE := Sc.setG (A := rG kG (.slice (some ⟨b7, 0, none⟩) 1 1) [⟨dt, dq, ⟨yp, yn, yc⟩, ⟨op, on, oc⟩, ⟨up, un, uc⟩, x⟩] :: gR ⟨dt, dq, ⟨yp, yn, yc⟩, ⟨op, on, oc⟩, ⟨up, un, uc⟩, x⟩ QL O V) (g := b1) (n := 1) (a := zgv) (Bs := []) hS5 ⟨dt, dq, ⟨yp, yn, yc⟩, ⟨op, on, oc⟩, ⟨up, un, uc⟩, x⟩
                  exact bodyPost_ret (v := .agg #[.int .i64 dt, .int .i64 dq, .slice yp yn yc, .slice op on oc, .slice up un uc, .int .i64 x]) (by simp [results, Tryz.results29, go_sem, z0, z1, z2, z3, z4, z5]) rfl ⟨⟨dt, dq, ⟨yp, yn, yc⟩, ⟨op, on, oc⟩, ⟨up, un, uc⟩, x⟩, QL, O, V, rfl, HD, hE.sub (.cons _ (List.sublist_append_left _ _))⟩
                · obtain ⟨gu, rfl⟩ := own_some (hS6.sg.mem (K := kI) (v := .slice op on oc) (L := O) (by simp [gR])) (by have := HD.out.2.1; have := HD.out.2.2.1; simp only at *; omega)
                  have HN : Hid (0 < on) := by have := HD.out.2.1; have := HD.out.2.2.1; simp only at *; show 0 < on; omega
                  have hn0 : (0 : Int) < on := by have := HN.out; omega
                  have HS : Hid (∀ w' L', Sc w w' C ((rG kG (.slice (some ⟨b7, 0, none⟩) 1 1) [⟨dt, dq, ⟨yp, yn, yc⟩, ⟨(some ⟨gu, 0, none⟩), on, oc⟩, ⟨up, un, uc⟩, ds⟩] :: gR ⟨dt, dq, ⟨yp, yn, yc⟩, ⟨(some ⟨gu, 0, none⟩), on, oc⟩, ⟨up, un, uc⟩, ds⟩ QL L' V) ++ [rG kG (.slice (some ⟨b1, 0, none⟩) 1 1) [zgv]]) → w'.cell? ⟨b7, 3, none⟩ = some (.slice (some ⟨gu, 0, none⟩) on oc) ∧ (∀ j, w'.frozen? ⟨gu, j, none⟩ = false) ∧ ∃ a, w'.cell? ⟨gu, 0, none⟩ = some (.int .i64 a)) := fun w' L' hq => by
                    obtain ⟨y0, y1, y2, y3, y4, y5, _, _⟩ := g6 hq.sg (K := kG) (g := b7) (n := 1) (q := ⟨dt, dq, ⟨yp, yn, yc⟩, ⟨(some ⟨gu, 0, none⟩), on, oc⟩, ⟨up, un, uc⟩, ds⟩) (by simp) rfl
                    exact ⟨y3, OwG.fz (hq.sg.mem (K := kI) (v := .slice (some ⟨gu, 0, none⟩) on oc) (L := L') (by simp [gR])), cellI hq.sg (g := gu) (n := on) (c := oc) (L := L') (by simp [gR]) HN.out⟩
                  go_upto_region 28 with (fail)
                  obtain ⟨vc, vf, va, vd⟩ := HS.out _ _ hS6
                  go_region_with (first | (go_at_call 30; (first | refine (from6C hS6).mono ?_ | refine (from6C (Sc.dr hS6)).mono ?_); rintro ee w7 ⟨x, rfl, hx0, hx1, hx7⟩; clear vc vf vd va; obtain ⟨vc, vf, va, vd⟩ := HS.out _ _ hx7; have h7 := Sc.setV (A := [rG kG (.slice (some ⟨b7, 0, none⟩) 1 1) [⟨dt, dq, ⟨yp, yn, yc⟩, ⟨(some ⟨gu, 0, none⟩), on, oc⟩, ⟨up, un, uc⟩, ds⟩], rG kI (.slice up un uc) V]) hx7 x))
                  all_goals
                    have hS5 := h7
                    clear vc vf vd va HS h7 hx7
                    obtain ⟨v0, v1, v2, v3, v4, v5, vf, vg⟩ := g6 hS5.sg (K := kG) (g := b7) (n := 1) (q := ⟨dt, dq, ⟨yp, yn, yc⟩, ⟨(some ⟨gu, 0, none⟩), on, oc⟩, ⟨up, un, uc⟩, ds⟩) (by simp) rfl
                    obtain ⟨z0, z1, z2, z3, z4, z5, zf, zg⟩ := g6 hS5.sg (K := kG) (g := b1) (n := 1) (q := zgv) (by simp) rfl
                    dsimp only [zgv] at v0 v1 v2 v3 v4 v5 z0 z1 z2 z3 z4 z5
                    go_wp2
                    have hE := Sc.setG (A := rG kG (.slice (some ⟨b7, 0, none⟩) 1 1) [⟨dt, dq, ⟨yp, yn, yc⟩, ⟨(some ⟨gu, 0, none⟩), on, oc⟩, ⟨up, un, uc⟩, ds⟩] :: gR ⟨dt, dq, ⟨yp, yn, yc⟩, ⟨(some ⟨gu, 0, none⟩), on, oc⟩, ⟨up, un, uc⟩, ds⟩ QL (O.set 0 x) V) (g := b1) (n := 1) (a := zgv) (Bs := []) hS5 ⟨dt, dq, ⟨yp, yn, yc⟩, ⟨(some ⟨gu, 0, none⟩), on, oc⟩, ⟨up, un, uc⟩, ds⟩
                    exact bodyPost_ret (v := .agg #[.int .i64 dt, .int .i64 dq, .slice yp yn yc, .slice (some ⟨gu, 0, none⟩) on oc, .slice up un uc, .int .i64 ds]) (by simp [results, Tryz.results29, go_sem, z0, z1, z2, z3, z4, z5]) rfl ⟨⟨dt, dq, ⟨yp, yn, yc⟩, ⟨(some ⟨gu, 0, none⟩), on, oc⟩, ⟨up, un, uc⟩, ds⟩, QL, (O.set 0 x), V, rfl, HD, hE.sub (.cons _ (List.sublist_append_left _ _))⟩
                · obtain ⟨gy, rfl⟩ := own_someY (hS6.sg.mem (K := kY) (v := .slice yp yn yc) (L := QL) (by simp [gR, trY])) hyp
                  have hl := OwG.len (hS6.sg.mem (K := kY) (v := .slice (some ⟨gy, 0, none⟩) yn yc) (L := QL) (by simp [gR, trY]))
                  cases QL with
                  | nil => exact absurd hl (by simp only [List.length_nil]; omega)
                  | cons q0 T =>
                    obtain ⟨y0, s0⟩ := q0
                    clear hl
                    obtain ⟨v0, v1, v2, v3, v4, v5, vf, vg⟩ := g6 hS6.sg (K := kG) (g := b7) (n := 1) (q := ⟨dt, dq, ⟨(some ⟨gy, 0, none⟩), yn, yc⟩, ⟨op, on, oc⟩, ⟨up, un, uc⟩, ds⟩) (by simp) rfl
                    dsimp only at v0 v1 v2 v3 v4 v5
                    have hfy := OwG.fz (hS6.sg.mem (K := kY) (v := .slice (some ⟨gy, 0, none⟩) yn yc) (L := (y0, s0) :: T) (by simp [gR, trY]))
                    obtain ⟨c0, c1, c2⟩ := CsG.y3 (OwG.cs (hS6.sg.mem (K := kY) (v := .slice (some ⟨gy, 0, none⟩) yn yc) (L := (y0, s0) :: T) (by simp [gR, trY]))) (k := 0) rfl
                    simp only [Nat.zero_mul, Nat.zero_add] at c0 c1 c2
                    go_upto_region 31 with (fail)
                    clear v0 v1 v2 v3 v4 v5 vf vg hfy c0 c1 c2
                    have hS5 := Sc.setQ (A := [rG kG (.slice (some ⟨b7, 0, none⟩) 1 1) [⟨dt, dq, ⟨(some ⟨gy, 0, none⟩), yn, yc⟩, ⟨op, on, oc⟩, ⟨up, un, uc⟩, ds⟩], rG kI (.slice up un uc) V, rG kI (.slice op on oc) O]) (T := T ++ []) hS6 9
                    generalize w6.setCell ⟨gy, 1, none⟩ (.int .i64 9) = w8 at *
                    clear hS6
                    replace hS5 : Sc w w8 C ((rG kG (.slice (some ⟨b7, 0, none⟩) 1 1) [⟨dt, dq, ⟨(some ⟨gy, 0, none⟩), yn, yc⟩, ⟨op, on, oc⟩, ⟨up, un, uc⟩, ds⟩] :: gR ⟨dt, dq, ⟨(some ⟨gy, 0, none⟩), yn, yc⟩, ⟨op, on, oc⟩, ⟨up, un, uc⟩, ds⟩ ((⟨y0.t, 9, y0.L⟩, s0) :: T) O V) ++ [rG kG (.slice (some ⟨b1, 0, none⟩) 1 1) [zgv]]) := hS5
                    obtain ⟨v0, v1, v2, v3, v4, v5, vf, vg⟩ := g6 hS5.sg (K := kG) (g := b7) (n := 1) (q := ⟨dt, dq, ⟨(some ⟨gy, 0, none⟩), yn, yc⟩, ⟨op, on, oc⟩, ⟨up, un, uc⟩, ds⟩) (by simp) rfl
                    obtain ⟨z0, z1, z2, z3, z4, z5, zf, zg⟩ := g6 hS5.sg (K := kG) (g := b1) (n := 1) (q := zgv) (by simp) rfl
                    dsimp only [zgv] at v0 v1 v2 v3 v4 v5 z0 z1 z2 z3 z4 z5
                    go_wp2
                    have hE := Sc.setG (A := rG kG (.slice (some ⟨b7, 0, none⟩) 1 1) [⟨dt, dq, ⟨(some ⟨gy, 0, none⟩), yn, yc⟩, ⟨op, on, oc⟩, ⟨up, un, uc⟩, ds⟩] :: gR ⟨dt, dq, ⟨(some ⟨gy, 0, none⟩), yn, yc⟩, ⟨op, on, oc⟩, ⟨up, un, uc⟩, ds⟩ ((⟨y0.t, 9, y0.L⟩, s0) :: T) O V) (g := b1) (n := 1) (a := zgv) (Bs := []) hS5 ⟨dt, dq, ⟨(some ⟨gy, 0, none⟩), yn, yc⟩, ⟨op, on, oc⟩, ⟨up, un, uc⟩, ds⟩
                    exact bodyPost_ret (v := .agg #[.int .i64 dt, .int .i64 dq, .slice (some ⟨gy, 0, none⟩) yn yc, .slice op on oc, .slice up un uc, .int .i64 ds]) (by simp [results, Tryz.results29, go_sem, z0, z1, z2, z3, z4, z5]) rfl ⟨⟨dt, dq, ⟨(some ⟨gy, 0, none⟩), yn, yc⟩, ⟨op, on, oc⟩, ⟨up, un, uc⟩, ds⟩, (⟨y0.t, 9, y0.L⟩, s0) :: T, O, V, rfl, ⟨HD.out.1, HD.out.2.1, HD.out.2.2.1, fun y hy => (List.mem_cons.mp hy).elim (fun e => by subst e; exact HD.out.2.2.2 (y0, s0) (List.mem_cons_self ..)) (fun h => HD.out.2.2.2 y (List.mem_cons_of_mem _ h))⟩, hE.sub (.cons _ (List.sublist_append_left _ _))⟩
            · obtain rfl : yn = 0 := by omega
              clear hc v0 v1 v3 v4 v5
              go_upto_if 77 with (go_at_call 31; refine (onceC hS 12 (by decide) (by decide)).mono ?_; rintro e w5 ⟨xb, rfl, hS5⟩; clear v2 vf vg hS; obtain ⟨v0, v1, v2, v3, v4, v5, vf, vg⟩ := g6 hS5.sg (K := kG) (g := b7) (n := 1) (q := ⟨dt, dq, ⟨yp, 0, yc⟩, ⟨op, on, oc⟩, ⟨up, un, uc⟩, ds⟩) (by simp) rfl; obtain ⟨z0, z1, z2, z3, z4, z5, zf, zg⟩ := g6 hS5.sg (K := kG) (g := b1) (n := 1) (q := zgv) (by simp) rfl; dsimp only [zgv] at v0 v1 v2 v3 v4 v5 z0 z1 z2 z3 z4 z5; cases xb)
              all_goals
                go_wp2
                have hE := Sc.setG (A := rG kG (.slice (some ⟨b7, 0, none⟩) 1 1) [⟨dt, dq, ⟨yp, 0, yc⟩, ⟨op, on, oc⟩, ⟨up, un, uc⟩, ds⟩] :: gR ⟨dt, dq, ⟨yp, 0, yc⟩, ⟨op, on, oc⟩, ⟨up, un, uc⟩, ds⟩ QL O V) (g := b1) (n := 1) (a := zgv) (Bs := []) hS5 ⟨dt, dq, ⟨yp, 0, yc⟩, ⟨op, on, oc⟩, ⟨up, un, uc⟩, ds⟩
                exact bodyPost_ret (v := .agg #[.int .i64 dt, .int .i64 dq, .slice yp 0 yc, .slice op on oc, .slice up un uc, .int .i64 ds]) (by simp [results, Tryz.results29, go_sem, z0, z1, z2, z3, z4, z5]) rfl ⟨⟨dt, dq, ⟨yp, 0, yc⟩, ⟨op, on, oc⟩, ⟨up, un, uc⟩, ds⟩, QL, O, V, rfl, HD, hE.sub (.cons _ (List.sublist_append_left _ _))⟩
end Go.Proofs.YtobbankkfplooaaGreat.K.G
