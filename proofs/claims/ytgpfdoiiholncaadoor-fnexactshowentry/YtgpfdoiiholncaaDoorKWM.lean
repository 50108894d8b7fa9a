/-
  Lines: what the loops and the concatenations make of them.
-/
import Derived.Test.YtgpfdoiiholncaaDoorKW1
import Derived.Test.YtgpfdoiiholncaaDoorKC1
import Derived.Test.YtgpfdoiiholncaaDoorKJN
namespace Go.Proofs.YtgpfdoiiholncaaDoor.K
open Go.Shelf Go.RowKit Go.Joins

theorem ck_take {s : ByteArray} : ∀ k, k ≤ s.size → ck s k = J.chk (s.data.toList.take k)
  | 0, _ => rfl
  | k + 1, h => by
    have hl : s.data.toList.length = s.size := rfl
    have e : s.data.toList[k]'(by omega) = s[k]'(by omega) := rfl
    rw [List.take_succ_eq_append_getElem (by omega), J.chk_snoc, ← ck_take k (by omega), e]
    show (53 * ck s k + bt s k) % 999983 = (53 * ck s k + ((s[k]'(by omega)).toNat : Int)) % 999983
    rw [bt_at (by omega)]
theorem ck_all (l : List UInt8) : ck ⟨l.toArray⟩ (⟨l.toArray⟩ : ByteArray).size = J.chk l := by
  rw [ck_take _ (Nat.le_refl _)]
  congr 1
  exact List.take_of_length_le (by simp [ByteArray.size])
theorem join_app (a b : List UInt8) (r q : List (List UInt8)) : Lib.join (a :: (r ++ b :: q)) [32] = Lib.join (a :: r) [32] ++ [32] ++ Lib.join (b :: q) [32] := by
  rw [Lib.join_cons, Lib.join_cons, Lib.join_cons]
  simp [Lib.joinTail]
theorem lin_eq (e : J.En) : J.lin e = Lib.itoa (J.chk (J.body e)) ++ [32] ++ J.body e := by
  unfold J.lin J.liW
  rw [show J.body e = Lib.join (J.enW e) [32] from rfl]
  unfold J.enW
  have := join_app (Lib.itoa (J.chk (J.body e))) (Lib.itoa e.k) [] (Lib.itoa e.t :: Lib.itoa e.q :: e.its.flatMap J.itW)
  rw [List.nil_append, Lib.join_one] at this
  exact this
/-- The line of an Entry, as a text. -/
def lnS (k t s : Int) (L : List Rc) : ByteArray := ⟨(J.shL ⟨k, t, s, L⟩).toArray⟩
def bdS (k t s : Int) (L : List Rc) : ByteArray := ⟨(J.body ⟨k, t, s, L⟩).toArray⟩
theorem lnS_eq (k t s : Int) (L : List Rc) : dgS (J.chk (J.body ⟨k, t, s, L⟩)) ++ ⟨#[32]⟩ ++ bdS k t s L ++ ⟨#[10]⟩ = lnS k t s L := by
  unfold lnS J.shL
  rw [lin_eq]
  show (⟨(Lib.itoa (J.chk (J.body ⟨k, t, s, L⟩))).toArray⟩ : ByteArray) ++ ⟨[32].toArray⟩ ++ ⟨(J.body ⟨k, t, s, L⟩).toArray⟩ ++ ⟨[10].toArray⟩ = _
  rw [cat_eq, cat_eq, cat_eq]
/-- What ShowEntry gives. -/
def shS (k t s : Int) (L : List Rc) : ByteArray := if I.entB k t s L = true then lnS k t s L else ⟨#[]⟩
theorem join_it (r : Rc) : Lib.join (J.itW r) [32] = txL [r.t, r.i, r.x, r.y, (r.s.size : Int)] ++ [32] ++ J.hexW r.s.data.toList := by
  have := join_app (Lib.itoa r.t) (J.hexW r.s.data.toList) [Lib.itoa r.i, Lib.itoa r.x, Lib.itoa r.y, Lib.itoa (r.s.size : Int)] []
  rw [Lib.join_one] at this
  exact this
theorem body_snoc (k t s : Int) (A : List Rc) (r : Rc) : J.body ⟨k, t, s, A ++ [r]⟩ = J.body ⟨k, t, s, A⟩ ++ [32] ++ txL [r.t, r.i, r.x, r.y, (r.s.size : Int)] ++ [32] ++ J.hexW r.s.data.toList := by
  unfold J.body J.enW
  simp only
  rw [J.its_snoc]
  have := join_app (Lib.itoa k) (Lib.itoa r.t) (Lib.itoa t :: Lib.itoa s :: A.flatMap J.itW) [Lib.itoa r.i, Lib.itoa r.x, Lib.itoa r.y, Lib.itoa (r.s.size : Int), J.hexW r.s.data.toList]
  rw [show Lib.join [Lib.itoa r.t, Lib.itoa r.i, Lib.itoa r.x, Lib.itoa r.y, Lib.itoa (r.s.size : Int), J.hexW r.s.data.toList] [32] = txL [r.t, r.i, r.x, r.y, (r.s.size : Int)] ++ [32] ++ J.hexW r.s.data.toList from join_it r] at this
  simp only [List.append_assoc] at this ⊢
  exact this
theorem body_nil (k t s : Int) : J.body ⟨k, t, s, []⟩ = txL [k, t, s] := rfl
theorem bd_take {k t s : Int} {L : List Rc} {j : Nat} (hj : j < L.length) : bdS k t s (L.take (j + 1)) = bdS k t s (L.take j) ++ ⟨#[32]⟩ ++ ⟨(txL [(L.getD j zrc).t, (L.getD j zrc).i, (L.getD j zrc).x, (L.getD j zrc).y, ((L.getD j zrc).s.size : Int)]).toArray⟩ ++ ⟨#[32]⟩ ++ hxS (L.getD j zrc).s := by
  have e : L.take (j + 1) = L.take j ++ [L.getD j zrc] := by rw [List.take_succ_eq_append_getElem hj]; simp [List.getD, hj]
  unfold bdS hxS
  rw [e, body_snoc]
  show _ = (⟨(J.body ⟨k, t, s, L.take j⟩).toArray⟩ : ByteArray) ++ ⟨[32].toArray⟩ ++ ⟨_⟩ ++ ⟨[32].toArray⟩ ++ ⟨_⟩
  rw [cat_eq, cat_eq, cat_eq, cat_eq]
theorem body_len {k t s : Int} {L : List Rc} (hk : 0 ≤ k ∧ k ≤ 3) (ht : 0 ≤ t ∧ t ≤ 99) (hs : 0 ≤ s ∧ s ≤ 100000) (hn : L.length ≤ 6) (hz : ∀ r ∈ L, I.recB r = true) : (J.body ⟨k, t, s, L⟩).length ≤ 400 := by
  have hi := J.lens_its hz
  have a2 := J.itoa_len (n := k) (k := 0) (by omega) (by omega)
  have a3 := J.itoa_len (n := t) (k := 1) (by omega) (by omega)
  have a4 := J.itoa_len (n := s) (k := 5) (by omega) (by omega)
  have hw := J.liW_len ⟨k, t, s, L⟩
  unfold J.liW at hw
  unfold J.body
  unfold J.enW at hw ⊢
  rw [Lib.join_length]
  simp only [J.lens_cons, List.length_cons, List.length_nil] at hw ⊢
  omega
theorem bdS_size (k t s : Int) (L : List Rc) : (bdS k t s L).size = (J.body ⟨k, t, s, L⟩).length := by unfold bdS; exact txA_size _
theorem join_enS (k t s : Int) (L : List Rc) : Lib.join ((dgS k :: dgS t :: dgS s :: L.flatMap itS).map (·.data.toList)) (⟨#[32]⟩ : ByteArray).data.toList = J.body ⟨k, t, s, L⟩ := by
  show Lib.join _ [32] = Lib.join _ [32]
  congr 1
  have e : (L.flatMap itS).map (·.data.toList) = L.flatMap J.itW := by
    rw [List.map_flatMap]
    congr 1
  unfold J.enW
  rw [List.map_cons, List.map_cons, List.map_cons, e]
  simp [dgS]
end Go.Proofs.YtgpfdoiiholncaaDoor.K
