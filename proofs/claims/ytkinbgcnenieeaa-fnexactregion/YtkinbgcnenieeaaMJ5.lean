/-
  The law of Joined, walked: the program's list is the spec's, it is new memory, the list that was handed in reads as before, and a second call answers as the first.
-/
import Derived.Test.YtkinbgcnenieeaaMJ4
namespace Go.Proofs.Ytkinbgcnenieeaa.M
open Go.RowKit Go.Joins
attribute [local go_sem ↓] Go.wp_at_zero Go.wp_at_succ

theorem Sx.o0 {w W : World} {a : Value × List T3} {l : List (Value × List T3)} (h : Sx w W (a :: l)) : Ow W w.heap.size a.1 a.2 := h.own _ (by simp)
theorem Sx.o1 {w W : World} {a b : Value × List T3} {l : List (Value × List T3)} (h : Sx w W (a :: b :: l)) : Ow W w.heap.size b.1 b.2 := h.own _ (by simp)
theorem Sx.o2 {w W : World} {a b c : Value × List T3} {l : List (Value × List T3)} (h : Sx w W (a :: b :: c :: l)) : Ow W w.heap.size c.1 c.2 := h.own _ (by simp)
theorem Sx.o3 {w W : World} {a b c d : Value × List T3} {l : List (Value × List T3)} (h : Sx w W (a :: b :: c :: d :: l)) : Ow W w.heap.size d.1 d.2 := h.own _ (by simp)
theorem Sx.o4 {w W : World} {a b c d e : Value × List T3} {l : List (Value × List T3)} (h : Sx w W (a :: b :: c :: d :: e :: l)) : Ow W w.heap.size e.1 e.2 := h.own _ (by simp)
/-- The second of the lists, or the first, goes out of sight. -/
theorem Sx.d0 {w W : World} {a : Value × List T3} {l : List (Value × List T3)} (h : Sx w W (a :: l)) : Sx w W l := h.sub (List.sublist_cons_self ..)
theorem Sx.d1 {w W : World} {a b : Value × List T3} {l : List (Value × List T3)} (h : Sx w W (a :: b :: l)) : Sx w W (a :: l) := h.sub ((List.sublist_cons_self ..).cons_cons _)

end Go.Proofs.Ytkinbgcnenieeaa.M
