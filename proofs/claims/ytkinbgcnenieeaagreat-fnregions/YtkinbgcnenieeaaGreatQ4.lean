/-
  Papers: Minted, the program's and the spec's.
-/
import Derived.Test.YtkinbgcnenieeaaGreatQ3
namespace Go.Proofs.YtkinbgcnenieeaaGreat
open Go.Shelf Go.RowKit Go.Joins M
attribute [local go_sem] Oper.semAt_some

def mintB (key tn : Int) (c : Cl) : Bool := tenB tn && (clB c && inB key)
def mtag (key tn : Int) (c : Cl) : Int := hsF (hsF key (dgS tn)) (tx c)
def zpp : Pp := ⟨0, [], 0⟩
def mintP (key tn : Int) (c : Cl) : Pp := if mintB key tn c = true then ⟨tn, [c], mtag key tn c⟩ else zpp
/-- A Paper and a flag are answered, in memory of their own. -/
def PapO (w : World) (P : Pp) (b : Bool) (e : Ending) (w' : World) : Prop := ∃ q n cp X, e = .returned (.tuple #[.agg #[.int .i64 P.tn, .slice q n cp, .int .i64 P.tag], .bool b]) ∧ P.cs.length = n ∧ cls X = P.cs ∧ sm6 X ∧ okQ X ∧ Sg w w' (trX (.slice q n cp) X [])
theorem papO_zero {w w' : World} {rs : List Rw} (h : Sg w w' rs) : PapO w zpp false (.returned (.tuple #[.agg #[.int .i64 0, .slice none 0 0, .int .i64 0], .bool false])) w' :=
  ⟨none, 0, 0, [], rfl, rfl, rfl, fun q hq => by simp at hq, fun q hq => by simp at hq, (h.sub (List.nil_sublist _)).nilRow kQ⟩
theorem ppB_one (tn tag : Int) (c : Cl) : ppB tn [c] tag = (tenB tn && (clB c && inB tag)) := by
  unfold ppB clsB; simp
theorem mt_chain {key tn : Int} {c : Cl} (ht : tenB tn = true) (hc : clB c = true) (hk : inB key = true) : chI key (dgS tn :: txs [c]) = mtag key tn c := by
  have e : ctx c = tx c := by unfold ctx; rw [if_pos hc]
  rw [chI_hs hk (by simp [txs]) (fun s hs => by
    rcases List.mem_cons.mp hs with rfl | hs
    · exact dg_size ht
    · simp [txs] at hs; subst hs; exact tx_small c)]
  show hsF (hsF key (dgS tn)) (ctx c) = _
  rw [e]; rfl
theorem mt_in {key tn : Int} (hk : inB key = true) (ht : tenB tn = true) : inB (hsF key (dgS tn)) = true := (fold_hs (L := [dgS tn]) hk (fun s hs => by simp at hs; subst hs; exact dg_size ht)).2
end Go.Proofs.YtkinbgcnenieeaaGreat
