/-
  Drawn numbers: a cursor that is new.
-/
import Derived.Test.YthmpemamagjeeaaD4
namespace Go.Proofs.Ythmpemamagjeeaa
open Go.RowKit Go.Joins
attribute [local go_sem ↓] Go.wp_at_zero Go.wp_at_succ
theorem StC.ofCur {wc : World} {g : Nat} {a : Option Addr} {len cap : Nat} {zs : List Int} {l : List (Nat × List Value)} (h : Cur wc g a len cap zs) (hh : Has wc l) (hn : ∀ p ∈ l, p.1 ≠ g) : StC wc wc g a len cap zs l := ⟨h.rd, Turn.refl _ _, h, hh, hn⟩
end Go.Proofs.Ythmpemamagjeeaa
