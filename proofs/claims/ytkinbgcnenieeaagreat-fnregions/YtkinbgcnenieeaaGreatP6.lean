/-
  Papers: ClauseText, the spec's and the program's.
-/
import Derived.Test.YtkinbgcnenieeaaGreatP5
namespace Go.Proofs.YtkinbgcnenieeaaGreat
open Go.RowKit Go.Joins M
attribute [local go_sem] Oper.semAt_some

def wdL (L : List T3) : List ByteArray := (nL L).map dgS
theorem wd_take {L : List T3} {k : Nat} (hk : k < L.length) : ((L.take (k + 1)).flatMap n3).map dgS = ((L.take k).flatMap n3).map dgS ++ [dgS (L.getD k z3).l, dgS (L.getD k z3).x, dgS (L.getD k z3).y] := by
  rw [fm_take hk, List.map_append]; rfl
theorem OwG.cap {α : Type} {K : Kd α} {W : World} {base g n c : Nat} {L : List α} (h : OwG K W base (.slice (some ⟨g, 0, none⟩) n c) L) : n ≤ c := by
  have hn := OwG.len h
  subst hn
  rcases h.2 with ⟨h1, _⟩ | ⟨_, _, _, h1, _, _, h2, _⟩
  · cases h1
  · injection h1 with _ _ h1; omega
/-- All words of a Clause's text. -/
theorem join_words (c : Cl) : Lib.join ((dgS c.un :: (wdL c.rd ++ wdL c.wr)).map (·.data.toList)) (⟨#[32]⟩ : ByteArray).data.toList = txL (nums c) := by
  unfold txL nums wdL
  show Lib.join _ [32] = Lib.join _ [32]
  congr 1
  simp [dgS, Function.comp_def]
end Go.Proofs.YtkinbgcnenieeaaGreat
