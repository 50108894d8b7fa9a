/-
  The draws of FnDeals.
-/
import Derived.Test.YtobbankkfplooaaGreatKDD
namespace Go.Proofs.YtobbankkfplooaaGreat.K.G
open Go.Shelf Go.RowKit Go.Joins Y M
attribute [local go_sem] Oper.semAt_some

theorem new0D {w w1 : World} {a : Option Addr} {len cap : Nat} {zs : List Int} {g : Nat} (hl : len ≤ 4096) (hr : Rd w g a len zs) (hb : Below w.heap.size w w1) :
    Calls Tryz.prog 28 #[.slice a len cap] w1 fun e w' => ∃ C : Cu, e = .returned (.pointer (some ⟨C.g, 0, none⟩)) ∧ Sc w1 w' C [] ∧ C.g = w1.heap.size ∧ Rd w C.g C.a C.len C.zs :=
  (new_any a len cap zs w1 hl (hr.up hb hb.size)).mono fun _ _ ⟨h, h1, h2⟩ => ⟨⟨w1.heap.size, a, len, cap, zs⟩, h1, by subst h2; exact Sc.start (Sg.nil w1) hl (hr.up hb hb.size), rfl, hr.up (Below.refl _ _) hb.size⟩
theorem Sc.rebase {w w1 W : World} {C : Cu} {rs rs' : List Rw} (hA : Sg w w1 rs) (hr0 : Rd w C.g C.a C.len C.zs) (h : Sc w1 W C rs') : Sc w W C (rs' ++ rs) :=
  ⟨hA.addL h.sg, h.cur, Nat.le_trans hA.bel.size h.new, fun r hr => by
    rcases List.mem_append.mp hr with hr | hr
    · exact h.dis r hr
    · intro e
      have := World.ownsRow.lt (hA.own r hr) _ e
      have := h.new
      omega, hr0⟩
/-- What a Deal's rows tell, whatever lies beside them. -/
def DrG (h : Gv) (QL : List YQ) (O V : List Int) (S : List Rw) : Prop := (∀ w W rs, Sg w W rs → (∀ r ∈ S, r ∈ rs) → RdG W h QL O V ∧ OkG h QL) ∧ h.y.n ≤ 4 ∧ h.o.n = h.y.n ∧ h.u.n = h.y.n ∧ ∀ y ∈ QL, y.2.n ≤ 1000 ∧ y.1.L.length = y.2.n
theorem drG_of {h : Gv} {QL : List YQ} {O V : List Int} (hf : fewD h QL) : DrG h QL O V (gR h QL O V) :=
  ⟨fun w W rs hS hm => ⟨gR_rd hS hm (fun q hq => ⟨by have := (hf.2.2.2 q hq).1; omega, (hf.2.2.2 q hq).2⟩) ⟨by have := hf.1; omega, by have := hf.1; have := hf.2.1; omega, by have := hf.1; have := hf.2.2.1; omega⟩, gR_ok hS hm⟩, hf.1, hf.2.1, hf.2.2.1, hf.2.2.2⟩
/-- A Deal drawn behind a new cursor. -/
theorem dealC' {w W : World} {C : Cu} (h : Sc w W C []) (hg : C.g = w.heap.size) :
    Calls Tryz.prog 29 #[.pointer (some ⟨C.g, 0, none⟩)] W fun e w' => ∃ (t q : Int) (yp : Option Addr) (yn yc : Nat) (op : Option Addr) (on oc : Nat) (up : Option Addr) (un uc : Nat) (s : Int) (QL : List YQ) (O V : List Int) (S : List Rw), e = .returned (.agg #[.int .i64 t, .int .i64 q, .slice yp yn yc, .slice op on oc, .slice up un uc, .int .i64 s]) ∧ Hid (DrG ⟨t, q, ⟨yp, yn, yc⟩, ⟨op, on, oc⟩, ⟨up, un, uc⟩, s⟩ QL O V S) ∧ Sc w w' C S :=
  (dealC h hg).mono fun _ _ ⟨⟨t, q, ⟨yp, yn, yc⟩, ⟨op, on, oc⟩, ⟨up, un, uc⟩, s⟩, QL, O, V, h1, h2, h3⟩ => ⟨t, q, yp, yn, yc, op, on, oc, up, un, uc, s, QL, O, V, _, h1, drG_of h2.out, h3⟩
set_option maxRecDepth 100000 in
set_option maxHeartbeats 4000000 in
theorem drawVoted_any {w W : World} {rs : List Rw} {a : Option Addr} {len cap : Nat} {zs : List Int} {g : Nat} (hS : Sg w W rs) (hl : len ≤ 4096) (hr : Rd w g a len zs) :
    Calls Tryz.prog 8 #[.slice a len cap] W fun e w' => ∃ (t q : Int) (yp : Option Addr) (yn yc : Nat) (op : Option Addr) (on oc : Nat) (up : Option Addr) (un uc : Nat) (s : Int) (QL : List YQ) (O V : List Int) (S : List Rw) (x : Int) (yes : Bool), e = .returned (.tuple #[.agg #[.int .i64 t, .int .i64 q, .slice yp yn yc, .slice op on oc, .slice up un uc, .int .i64 s], .int .i64 x, .bool yes]) ∧ Hid (DrG ⟨t, q, ⟨yp, yn, yc⟩, ⟨op, on, oc⟩, ⟨up, un, uc⟩, s⟩ QL O V S) ∧ Sg w w' (S ++ rs) := by
  have hS1 := hS.lit kG [zgv] 1 rfl (by decide) #[.int .i64 0, .int .i64 0, .slice none 0 0, .slice none 0 0, .slice none 0 0, .int .i64 0] rfl
  have HN := Lib.hid (new0D (w1 := W.alloc (.cells #[.int .i64 0, .int .i64 0, .slice none 0 0, .slice none 0 0, .slice none 0 0, .int .i64 0] 27)) (a := a) (len := len) (cap := cap) (zs := zs) hl hr hS1.bel)
  clear hS hr
  go_enter Tryz.func8, Tryz.ntmps8
  go_upto_region 3 with (first
    | (go_at_call 28; refine HN.out.mono ?_; rintro ee w1 ⟨C, rfl, hx, hg0, hr0⟩; have hg := Lib.hid hg0; clear hg0)
    | (go_at_call 29; refine (dealC' hx hg.out).mono ?_; rintro ee w2 ⟨t, q, yp, yn, yc, op, on, oc, up, un, uc, s, QL, O, V, S, rfl, hD, hx2⟩; clear hx))
  clear HN
  have hgw : W.heap.size < w2.heap.size := by have := hx2.sg.bel.size; simp only [World.size_alloc] at this; omega
  have hr := Sc.rebase hS1 hr0 (Sc.litG hx2 ⟨t, q, ⟨yp, yn, yc⟩, ⟨op, on, oc⟩, ⟨up, un, uc⟩, s⟩)
  clear hx2 hS1
  have ne1 : ¬ w2.heap.size = W.heap.size := by omega
  have ne2 : ¬ W.heap.size = w2.heap.size := by omega
  generalize hb6 : w2.heap.size = b6 at *
  generalize w2.alloc (.cells #[.int .i64 t, .int .i64 q, .slice yp yn yc, .slice op on oc, .slice up un uc, .int .i64 s] 27) = w3 at *
  go_upto_region 4 with (go_at_call 30; refine (from5C hr).mono ?_; rintro ee w4 ⟨x, rfl, hx0, hx1, hr4⟩)
  clear hr
  have hr := hr4
  clear hr4
  obtain ⟨y0, y1, y2, y3, y4, y5, yf, yg⟩ := g6 hr.sg (K := kG) (g := b6) (n := 1) (q := ⟨t, q, ⟨yp, yn, yc⟩, ⟨op, on, oc⟩, ⟨up, un, uc⟩, s⟩) (by simp) rfl; dsimp only at y0 y1 y2 y3 y4 y5
  go_region_with ((go_at_call 31; refine (onceC (by first | with_reducible exact hr | with_reducible exact Sc.dr hr) 3 (by decide) (by decide)).mono ?_; rintro ee w6 ⟨yb, rfl, hx3⟩; clear y0 y1 y2 y3 y4 y5 yf yg; obtain ⟨y0, y1, y2, y3, y4, y5, yf, yg⟩ := g6 hx3.sg (K := kG) (g := b6) (n := 1) (q := ⟨t, q, ⟨yp, yn, yc⟩, ⟨op, on, oc⟩, ⟨up, un, uc⟩, s⟩) (by simp) rfl; dsimp only at y0 y1 y2 y3 y4 y5; obtain ⟨z0, z1, z2, z3, z4, z5, zf, zg⟩ := g6 hx3.sg (K := kG) (g := W.heap.size) (n := 1) (q := zgv) (by simp) rfl; simp only [zgv] at z0 z1 z2 z3 z4 z5))
  all_goals
    go_wp2
    have h7 := Sc.setG (A := rG kG (.slice (some ⟨b6, 0, none⟩) 1 1) [⟨t, q, ⟨yp, yn, yc⟩, ⟨op, on, oc⟩, ⟨up, un, uc⟩, s⟩] :: S) (g := W.heap.size) (n := 1) (a := zgv) (Bs := rs) hx3 ⟨t, q, ⟨yp, yn, yc⟩, ⟨op, on, oc⟩, ⟨up, un, uc⟩, s⟩
    exact bodyPost_ret (v := .tuple #[.agg #[.int .i64 t, .int .i64 q, .slice yp yn yc, .slice op on oc, .slice up un uc, .int .i64 s], .int .i64 x, .bool (!yb)]) (by simp [results, Tryz.results8, go_sem, z0, z1, z2, z3, z4, z5]) rfl ⟨t, q, yp, yn, yc, op, on, oc, up, un, uc, s, QL, O, V, S, x, !yb, rfl, hD, h7.sg.sub (.cons _ (List.Sublist.append (List.Sublist.refl _) (List.sublist_cons_self ..)))⟩
set_option maxRecDepth 100000 in
set_option maxHeartbeats 4000000 in
theorem drawDecided_any {w W : World} {rs : List Rw} {a : Option Addr} {len cap : Nat} {zs : List Int} {g : Nat} (hS : Sg w W rs) (hl : len ≤ 4096) (hr : Rd w g a len zs) :
    Calls Tryz.prog 10 #[.slice a len cap] W fun e w' => ∃ (t q : Int) (yp : Option Addr) (yn yc : Nat) (op : Option Addr) (on oc : Nat) (up : Option Addr) (un uc : Nat) (s : Int) (QL : List YQ) (O V : List Int) (S : List Rw) (off : Bool), e = .returned (.tuple #[.agg #[.int .i64 t, .int .i64 q, .slice yp yn yc, .slice op on oc, .slice up un uc, .int .i64 s], .bool off]) ∧ Hid (DrG ⟨t, q, ⟨yp, yn, yc⟩, ⟨op, on, oc⟩, ⟨up, un, uc⟩, s⟩ QL O V S) ∧ Sg w w' (S ++ rs) := by
  have hS1 := hS.lit kG [zgv] 1 rfl (by decide) #[.int .i64 0, .int .i64 0, .slice none 0 0, .slice none 0 0, .slice none 0 0, .int .i64 0] rfl
  have HN := Lib.hid (new0D (w1 := W.alloc (.cells #[.int .i64 0, .int .i64 0, .slice none 0 0, .slice none 0 0, .slice none 0 0, .int .i64 0] 27)) (a := a) (len := len) (cap := cap) (zs := zs) hl hr hS1.bel)
  clear hS hr
  go_enter Tryz.func10, Tryz.ntmps10
  go_upto_region 3 with (first
    | (go_at_call 28; refine HN.out.mono ?_; rintro ee w1 ⟨C, rfl, hx, hg0, hr0⟩; have hg := Lib.hid hg0; clear hg0)
    | (go_at_call 29; refine (dealC' hx hg.out).mono ?_; rintro ee w2 ⟨t, q, yp, yn, yc, op, on, oc, up, un, uc, s, QL, O, V, S, rfl, hD, hx2⟩; clear hx))
  clear HN
  have hgw : W.heap.size < w2.heap.size := by have := hx2.sg.bel.size; simp only [World.size_alloc] at this; omega
  have hr := Sc.rebase hS1 hr0 (Sc.litG hx2 ⟨t, q, ⟨yp, yn, yc⟩, ⟨op, on, oc⟩, ⟨up, un, uc⟩, s⟩)
  clear hx2 hS1
  have ne1 : ¬ w2.heap.size = W.heap.size := by omega
  have ne2 : ¬ W.heap.size = w2.heap.size := by omega
  generalize hb6 : w2.heap.size = b6 at *
  generalize w2.alloc (.cells #[.int .i64 t, .int .i64 q, .slice yp yn yc, .slice op on oc, .slice up un uc, .int .i64 s] 27) = w3 at *
  obtain ⟨y0, y1, y2, y3, y4, y5, yf, yg⟩ := g6 hr.sg (K := kG) (g := b6) (n := 1) (q := ⟨t, q, ⟨yp, yn, yc⟩, ⟨op, on, oc⟩, ⟨up, un, uc⟩, s⟩) (by simp) rfl; dsimp only at y0 y1 y2 y3 y4 y5
  go_region_with ((go_at_call 31; refine (onceC (by first | with_reducible exact hr | with_reducible exact Sc.dr hr) 3 (by decide) (by decide)).mono ?_; rintro ee w6 ⟨yb, rfl, hx3⟩; clear y0 y1 y2 y3 y4 y5 yf yg; obtain ⟨y0, y1, y2, y3, y4, y5, yf, yg⟩ := g6 hx3.sg (K := kG) (g := b6) (n := 1) (q := ⟨t, q, ⟨yp, yn, yc⟩, ⟨op, on, oc⟩, ⟨up, un, uc⟩, s⟩) (by simp) rfl; dsimp only at y0 y1 y2 y3 y4 y5; obtain ⟨z0, z1, z2, z3, z4, z5, zf, zg⟩ := g6 hx3.sg (K := kG) (g := W.heap.size) (n := 1) (q := zgv) (by simp) rfl; simp only [zgv] at z0 z1 z2 z3 z4 z5))
  all_goals
    go_wp2
    have h7 := Sc.setG (A := rG kG (.slice (some ⟨b6, 0, none⟩) 1 1) [⟨t, q, ⟨yp, yn, yc⟩, ⟨op, on, oc⟩, ⟨up, un, uc⟩, s⟩] :: S) (g := W.heap.size) (n := 1) (a := zgv) (Bs := rs) hx3 ⟨t, q, ⟨yp, yn, yc⟩, ⟨op, on, oc⟩, ⟨up, un, uc⟩, s⟩
    exact bodyPost_ret (v := .tuple #[.agg #[.int .i64 t, .int .i64 q, .slice yp yn yc, .slice op on oc, .slice up un uc, .int .i64 s], .bool yb]) (by simp [results, Tryz.results10, go_sem, z0, z1, z2, z3, z4, z5]) rfl ⟨t, q, yp, yn, yc, op, on, oc, up, un, uc, s, QL, O, V, S, yb, rfl, hD, h7.sg.sub (.cons _ (List.Sublist.append (List.Sublist.refl _) (List.sublist_cons_self ..)))⟩
set_option maxRecDepth 100000 in
set_option maxHeartbeats 4000000 in
theorem drawDealOk_any {w W : World} {rs : List Rw} {a : Option Addr} {len cap : Nat} {zs : List Int} {g : Nat} (hS : Sg w W rs) (hl : len ≤ 4096) (hr : Rd w g a len zs) :
    Calls Tryz.prog 38 #[.slice a len cap] W fun e w' => ∃ (t q : Int) (yp : Option Addr) (yn yc : Nat) (op : Option Addr) (on oc : Nat) (up : Option Addr) (un uc : Nat) (s : Int) (QL : List YQ) (O V : List Int) (S : List Rw), e = .returned (.agg #[.int .i64 t, .int .i64 q, .slice yp yn yc, .slice op on oc, .slice up un uc, .int .i64 s]) ∧ Hid (DrG ⟨t, q, ⟨yp, yn, yc⟩, ⟨op, on, oc⟩, ⟨up, un, uc⟩, s⟩ QL O V S) ∧ Sg w w' (S ++ rs) := by
  have hS1 := hS.lit kG [zgv] 1 rfl (by decide) #[.int .i64 0, .int .i64 0, .slice none 0 0, .slice none 0 0, .slice none 0 0, .int .i64 0] rfl
  have HN := Lib.hid (new0D (w1 := W.alloc (.cells #[.int .i64 0, .int .i64 0, .slice none 0 0, .slice none 0 0, .slice none 0 0, .int .i64 0] 27)) (a := a) (len := len) (cap := cap) (zs := zs) hl hr hS1.bel)
  clear hS hr
  go_enter Tryz.func38, Tryz.ntmps38
  go_upto_region 2 with (go_at_call 28; refine HN.out.mono ?_; rintro ee w1 ⟨C, rfl, hx, hg0, hr0⟩; have hg := Lib.hid hg0; clear hg0)
  clear HN
  have HX := Lib.hid (dealC' hx hg.out)
  have hgw : W.heap.size < w1.heap.size := by have := hx.sg.bel.size; simp only [World.size_alloc] at this; omega
  clear hx hg
  have hz := fun w2 S (h : Sc (W.alloc (.cells #[.int .i64 0, .int .i64 0, .slice none 0 0, .slice none 0 0, .slice none 0 0, .int .i64 0] 27)) w2 C S) => g6 (Sc.rebase hS1 hr0 h).sg (K := kG) (g := W.heap.size) (n := 1) (q := zgv) (by simp) rfl
  simp only [zgv] at hz
  go_wp2_with (go_at_call 29; refine HX.out.mono ?_; rintro ee w2 ⟨t, q, yp, yn, yc, op, on, oc, up, un, uc, s, QL, O, V, S, rfl, hD, hx2⟩; obtain ⟨z0, z1, z2, z3, z4, z5, zf, zg⟩ := hz _ _ hx2; clear hz HX)
  have h7 := Sc.setG (A := S) (g := W.heap.size) (n := 1) (a := zgv) (Bs := rs) (Sc.rebase hS1 hr0 hx2) ⟨t, q, ⟨yp, yn, yc⟩, ⟨op, on, oc⟩, ⟨up, un, uc⟩, s⟩
  exact bodyPost_ret (v := .agg #[.int .i64 t, .int .i64 q, .slice yp yn yc, .slice op on oc, .slice up un uc, .int .i64 s]) (by simp [results, Tryz.results38, go_sem, z0, z1, z2, z3, z4, z5]) rfl ⟨t, q, yp, yn, yc, op, on, oc, up, un, uc, s, QL, O, V, S, rfl, hD, h7.sg.sub (List.Sublist.append (List.Sublist.refl _) (List.sublist_cons_self ..))⟩
set_option maxRecDepth 100000 in
set_option maxHeartbeats 4000000 in
theorem drawForgotten_any {w W : World} {rs : List Rw} {a : Option Addr} {len cap : Nat} {zs : List Int} {g : Nat} (hS : Sg w W rs) (hl : len ≤ 4096) (hr : Rd w g a len zs) :
    Calls Tryz.prog 12 #[.slice a len cap] W fun e w' => ∃ (t q : Int) (yp : Option Addr) (yn yc : Nat) (op : Option Addr) (on oc : Nat) (up : Option Addr) (un uc : Nat) (s : Int) (QL : List YQ) (O V : List Int) (S : List Rw), e = .returned (.agg #[.int .i64 t, .int .i64 q, .slice yp yn yc, .slice op on oc, .slice up un uc, .int .i64 s]) ∧ Hid (DrG ⟨t, q, ⟨yp, yn, yc⟩, ⟨op, on, oc⟩, ⟨up, un, uc⟩, s⟩ QL O V S) ∧ Sg w w' (S ++ rs) := by
  have hS1 := hS.lit kG [zgv] 1 rfl (by decide) #[.int .i64 0, .int .i64 0, .slice none 0 0, .slice none 0 0, .slice none 0 0, .int .i64 0] rfl
  have HN := Lib.hid (drawDealOk_any (cap := cap) hS1 hl hr)
  clear hS hr
  go_enter Tryz.func12, Tryz.ntmps12
  go_wp2_with (go_at_call 38; refine HN.out.mono ?_; rintro ee w2 ⟨t, q, yp, yn, yc, op, on, oc, up, un, uc, s, QL, O, V, S, rfl, hD, hx2⟩; obtain ⟨z0, z1, z2, z3, z4, z5, zf, zg⟩ := g6 hx2 (K := kG) (g := W.heap.size) (n := 1) (q := zgv) (by simp) rfl; simp only [zgv] at z0 z1 z2 z3 z4 z5)
  have h7 := Sg.setG (A := S) (g := W.heap.size) (n := 1) (a := zgv) (Bs := rs) hx2 ⟨t, q, ⟨yp, yn, yc⟩, ⟨op, on, oc⟩, ⟨up, un, uc⟩, s⟩
  exact bodyPost_ret (v := .agg #[.int .i64 t, .int .i64 q, .slice yp yn yc, .slice op on oc, .slice up un uc, .int .i64 s]) (by simp [results, Tryz.results12, go_sem, z0, z1, z2, z3, z4, z5]) rfl ⟨t, q, yp, yn, yc, op, on, oc, up, un, uc, s, QL, O, V, S, rfl, hD, h7.sub (List.Sublist.append (List.Sublist.refl _) (List.sublist_cons_self ..))⟩
set_option maxRecDepth 100000 in
set_option maxHeartbeats 4000000 in
theorem drawOpened_any {w W : World} {rs : List Rw} {a : Option Addr} {len cap : Nat} {zs : List Int} {g : Nat} (hS : Sg w W rs) (hl : len ≤ 4096) (hr : Rd w g a len zs) :
    Calls Tryz.prog 13 #[.slice a len cap] W fun e w' => ∃ (t q : Int) (yp : Option Addr) (yn yc : Nat) (op : Option Addr) (on oc : Nat) (up : Option Addr) (un uc : Nat) (s : Int) (QL : List YQ) (O V : List Int) (S : List Rw), e = .returned (.tuple #[.slice yp yn yc, .slice op on oc]) ∧ Hid (DrG ⟨t, q, ⟨yp, yn, yc⟩, ⟨op, on, oc⟩, ⟨up, un, uc⟩, s⟩ QL O V S) ∧ Sg w w' (S ++ rs) := by
  have HN := Lib.hid (new0D (w1 := W) (a := a) (len := len) (cap := cap) (zs := zs) hl hr hS.bel)
  clear hr
  go_enter Tryz.func13, Tryz.ntmps13
  go_upto_region 3 with (first
    | (go_at_call 28; refine HN.out.mono ?_; rintro ee w1 ⟨C, rfl, hx, hg0, hr0⟩; have hg := Lib.hid hg0; clear hg0)
    | (go_at_call 29; refine (dealC' hx hg.out).mono ?_; rintro ee w2 ⟨t, q, yp, yn, yc, op, on, oc, up, un, uc, s, QL, O, V, S, rfl, hD, hx2⟩; clear hx))
  clear HN
  have hr := Sc.rebase hS hr0 (Sc.litG hx2 ⟨t, q, ⟨yp, yn, yc⟩, ⟨op, on, oc⟩, ⟨up, un, uc⟩, s⟩)
  clear hx2 hS
  obtain ⟨y0, y1, y2, y3, y4, y5, yf, yg⟩ := g6 hr.sg (K := kG) (g := w2.heap.size) (n := 1) (q := ⟨t, q, ⟨yp, yn, yc⟩, ⟨op, on, oc⟩, ⟨up, un, uc⟩, s⟩) (by simp) rfl; dsimp only at y0 y1 y2 y3 y4 y5
  generalize w2.heap.size = b6 at *
  generalize w2.alloc (.cells #[.int .i64 t, .int .i64 q, .slice yp yn yc, .slice op on oc, .slice up un uc, .int .i64 s] 27) = w3 at *
  go_quiet (fail)
  go_wp2
  exact bodyPost_ret (v := .tuple #[.slice yp yn yc, .slice op on oc]) (by simp [results, Tryz.results13, go_sem]) rfl ⟨t, q, yp, yn, yc, op, on, oc, up, un, uc, s, QL, O, V, S, rfl, hD, (hr.sg.step (show Below w3.heap.size w3 (w3.drewN nq) from ⟨rfl, rfl, rfl, Nat.le_refl _, fun _ _ => rfl⟩)).sub (.cons _ (List.Sublist.refl _))⟩
end Go.Proofs.YtobbankkfplooaaGreat.K.G
