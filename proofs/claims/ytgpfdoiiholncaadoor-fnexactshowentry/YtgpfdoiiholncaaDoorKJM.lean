/-
  The mathematics of a journal's lines: the Check, hexadecimal digits, words and blanks, a line shown, a line told again.
-/
import Derived.Lib.ItoaNum
import Derived.Lib.Atoi
import Derived.Lib.Join
import Derived.Test.YtgpfdoiiholncaaDoorKIX
namespace Go.Proofs.YtgpfdoiiholncaaDoor.K.J

/-! ### Words with a sign between -/

def spl (b : UInt8) : List UInt8 → List (List UInt8)
  | [] => [[]]
  | c :: t => if c = b then [] :: spl b t else match spl b t with
    | [] => [[c]]
    | w :: ws => (c :: w) :: ws
theorem spl_word {b : UInt8} : ∀ {w : List UInt8} (_ : b ∉ w) (t : List UInt8), spl b (w ++ b :: t) = w :: spl b t
  | [], _, t => by simp [spl]
  | c :: w, h, t => by
    have hc : c ≠ b := fun e => h (by rw [e]; exact List.mem_cons_self ..)
    have ih := spl_word (w := w) (fun m => h (List.mem_cons_of_mem _ m)) t
    rw [List.cons_append, spl, if_neg hc, ih]
theorem spl_last {b : UInt8} : ∀ {w : List UInt8} (_ : b ∉ w), spl b w = [w]
  | [], _ => rfl
  | c :: w, h => by
    have hc : c ≠ b := fun e => h (by rw [e]; exact List.mem_cons_self ..)
    have ih := spl_last (w := w) (fun m => h (List.mem_cons_of_mem _ m))
    rw [spl, if_neg hc, ih]
theorem spl_join {b : UInt8} : ∀ {x : List UInt8} {r : List (List UInt8)} (_ : ∀ w ∈ x :: r, b ∉ w), spl b (Lib.join (x :: r) [b]) = x :: r
  | x, [], h => by rw [Lib.join_one]; exact spl_last (h x (by simp))
  | x, y :: r, h => by
    have ih := spl_join (x := y) (r := r) (fun w hw => h w (List.mem_cons_of_mem _ hw))
    have e : Lib.join (x :: y :: r) [b] = x ++ b :: Lib.join (y :: r) [b] := by
      rw [Lib.join_cons, Lib.join_cons]; simp [Lib.joinTail]
    rw [e, spl_word (h x (by simp)), ih]

/-! ### Numbers -/

theorem dec_mem (u : Nat) : ∀ c ∈ Lib.decDigits u, 48 ≤ c.toNat ∧ c.toNat ≤ 57 := by
  intro c hc
  rw [Lib.decDigits_eq] at hc
  obtain ⟨t, _, rfl⟩ := List.mem_map.1 hc
  unfold Lib.dg
  rw [UInt8.toNat_ofNat']
  omega
theorem itoa_mem (n : Int) : ∀ c ∈ Lib.itoa n, c.toNat = 45 ∨ 48 ≤ c.toNat ∧ c.toNat ≤ 57 := by
  intro c hc
  unfold Lib.itoa at hc
  split at hc
  · rcases List.mem_cons.1 hc with rfl | h
    · exact .inl rfl
    · exact .inr (dec_mem _ c h)
  · exact .inr (dec_mem _ c hc)
theorem itoa_no {b : UInt8} (hb : b.toNat < 45) (n : Int) : b ∉ Lib.itoa n := fun h => by
  have := itoa_mem n b h
  omega
theorem decFrom_app : ∀ (a b : List UInt8) (acc n : Nat), Lib.decFrom acc a = some n → Lib.decFrom acc (a ++ b) = Lib.decFrom n b
  | [], b, acc, n, h => by simp only [Lib.decFrom, Option.some.injEq] at h; rw [h]; rfl
  | c :: a, b, acc, n, h => by
    rw [List.cons_append]
    rw [Lib.decFrom] at h ⊢
    cases e : Lib.digitVal c with
    | none => rw [e] at h; cases h
    | some d => rw [e] at h; exact decFrom_app a b _ n h
theorem digit_of {d : Nat} (h : d < 10) : Lib.digitVal (UInt8.ofNat (48 + d)) = some d := by
  unfold Lib.digitVal
  rw [UInt8.toNat_ofNat']
  have : (48 + d) % 2 ^ 8 = 48 + d := by omega
  rw [this, if_pos (by omega)]
  congr 1; omega
theorem decFrom_dec (u : Nat) : Lib.decFrom 0 (Lib.decDigits u) = some u := by
  induction u using Nat.strongRecOn with
  | _ u ih =>
    rw [Lib.decDigits]
    split
    · rename_i h
      unfold Lib.decFrom
      rw [digit_of h]
      show some (0 * 10 + u) = some u
      congr 1; omega
    · rename_i h
      rw [decFrom_app _ _ 0 _ (ih (u / 10) (by omega))]
      unfold Lib.decFrom
      rw [digit_of (by omega)]
      show some (u / 10 * 10 + u % 10) = some u
      congr 1; omega

/-! ### Hexadecimal digits -/

def hx (n : Nat) : UInt8 := if n < 10 then UInt8.ofNat (48 + n) else UInt8.ofNat (87 + n)
def hexL (s : List UInt8) : List UInt8 := s.flatMap fun c => [hx (c.toNat / 16), hx (c.toNat % 16)]
def hxV (b : UInt8) : Nat := if 48 ≤ b.toNat ∧ b.toNat ≤ 57 then b.toNat - 48 else if 97 ≤ b.toNat ∧ b.toNat ≤ 102 then b.toNat - 87 else 0
def unhex : List UInt8 → List UInt8
  | a :: b :: t => UInt8.ofNat (hxV a * 16 + hxV b) :: unhex t
  | _ => []
theorem hx_nat {n : Nat} (h : n < 16) : (hx n).toNat = if n < 10 then 48 + n else 87 + n := by
  unfold hx
  split
  · rw [UInt8.toNat_ofNat']; omega
  · rw [UInt8.toNat_ofNat']; omega
theorem hxV_hx {n : Nat} (h : n < 16) : hxV (hx n) = n := by
  have e := hx_nat h
  unfold hxV
  rw [e]
  split
  · rw [if_pos (by omega)]; omega
  · rw [if_neg (by omega), if_pos (by omega)]; omega
theorem unhex_hex : ∀ s : List UInt8, unhex (hexL s) = s
  | [] => rfl
  | c :: t => by
    have ih := unhex_hex t
    have hc := c.toNat_lt
    have e : hexL (c :: t) = hx (c.toNat / 16) :: hx (c.toNat % 16) :: hexL t := by unfold hexL; rw [List.flatMap_cons]; rfl
    rw [e]
    show UInt8.ofNat (hxV (hx (c.toNat / 16)) * 16 + hxV (hx (c.toNat % 16))) :: unhex (hexL t) = _
    rw [ih, hxV_hx (by omega), hxV_hx (by omega)]
    congr 1
    have : c.toNat / 16 * 16 + c.toNat % 16 = c.toNat := by omega
    rw [this]
    exact UInt8.ofNat_toNat
theorem hex_len (s : List UInt8) : (hexL s).length = 2 * s.length := by
  induction s with
  | nil => rfl
  | cons c t ih => unfold hexL at ih ⊢; rw [List.flatMap_cons, List.length_append, ih]; simp; omega
theorem hex_mem {s : List UInt8} {c : UInt8} (h : c ∈ hexL s) : 48 ≤ c.toNat := by
  unfold hexL at h
  obtain ⟨d, _, hd⟩ := List.mem_flatMap.1 h
  have h256 := d.toNat_lt
  rcases List.mem_cons.1 hd with rfl | hd
  · rw [hx_nat (by omega)]; split <;> omega
  · rw [List.mem_singleton.1 hd, hx_nat (by omega)]; split <;> omega
/-- A Text's word: '-' for one of no byte. -/
def hexW (s : List UInt8) : List UInt8 := if s = [] then [45] else hexL s
def unW (w : List UInt8) : List UInt8 := if w = [45] then [] else unhex w
theorem unW_hexW (s : List UInt8) : unW (hexW s) = s := by
  unfold hexW
  split
  · rename_i h; rw [h]; rfl
  · rename_i h
    unfold unW
    rw [if_neg, unhex_hex]
    intro e
    have := congrArg List.length e
    rw [hex_len] at this
    simp only [List.length_singleton] at this
    omega
theorem hexW_no {b : UInt8} (hb : b.toNat < 45) (s : List UInt8) : b ∉ hexW s := fun h => by
  unfold hexW at h
  split at h
  · have := List.mem_singleton.1 h
    rw [this] at hb
    exact absurd hb (by decide)
  · have := hex_mem h
    omega

/-! ### The Check -/

def chS (h : Int) (c : UInt8) : Int := (53 * h + (c.toNat : Int)) % 999983
def chk (s : List UInt8) : Int := s.foldl chS 13
theorem chk_bd (s : List UInt8) : 0 ≤ chk s ∧ chk s < 999983 := by
  have : ∀ (s : List UInt8) (h : Int), 0 ≤ h ∧ h < 999983 → 0 ≤ s.foldl chS h ∧ s.foldl chS h < 999983 := by
    intro s
    induction s with
    | nil => intro h hh; exact hh
    | cons c t ih => intro h hh; rw [List.foldl_cons]; apply ih; unfold chS; omega
  exact this s 13 (by decide)
theorem chk_snoc (s : List UInt8) (c : UInt8) : chk (s ++ [c]) = chS (chk s) c := by unfold chk; rw [List.foldl_append]; rfl

/-! ### Lines -/

structure En where
  k : Int
  t : Int
  q : Int
  its : List Rc
def itW (r : Rc) : List (List UInt8) := [Lib.itoa r.t, Lib.itoa r.i, Lib.itoa r.x, Lib.itoa r.y, Lib.itoa (r.s.size : Int), hexW r.s.data.toList]
def enW (e : En) : List (List UInt8) := Lib.itoa e.k :: Lib.itoa e.t :: Lib.itoa e.q :: e.its.flatMap itW
def body (e : En) : List UInt8 := Lib.join (enW e) [32]
/-- The words of a line. -/
def liW (e : En) : List (List UInt8) := Lib.itoa (chk (body e)) :: enW e
/-- A line, without its byte 10. -/
def lin (e : En) : List UInt8 := Lib.join (liW e) [32]
def shL (e : En) : List UInt8 := lin e ++ [10]
theorem itW_no {b : UInt8} (hb : b.toNat < 45) {r : Rc} : ∀ w ∈ itW r, b ∉ w := by
  intro w hw
  unfold itW at hw
  simp only [List.mem_cons, List.not_mem_nil, or_false] at hw
  rcases hw with rfl | rfl | rfl | rfl | rfl | rfl
  all_goals first
    | exact itoa_no hb _
    | exact hexW_no hb _
theorem liW_no {b : UInt8} (hb : b.toNat < 45) {e : En} : ∀ w ∈ liW e, b ∉ w := by
  intro w hw
  unfold liW enW at hw
  rcases List.mem_cons.1 hw with rfl | hw
  · exact itoa_no hb _
  rcases List.mem_cons.1 hw with rfl | hw
  · exact itoa_no hb _
  rcases List.mem_cons.1 hw with rfl | hw
  · exact itoa_no hb _
  rcases List.mem_cons.1 hw with rfl | hw
  · exact itoa_no hb _
  obtain ⟨r, _, hr⟩ := List.mem_flatMap.1 hw
  exact itW_no hb w hr
theorem spl_lin (e : En) : spl 32 (lin e) = liW e := spl_join (liW_no (by decide))
theorem join_no {b : UInt8} : ∀ {x : List UInt8} {r : List (List UInt8)} {s : UInt8} (_ : s ≠ b) (_ : ∀ w ∈ x :: r, b ∉ w), b ∉ Lib.join (x :: r) [s]
  | x, [], s, _, h => by rw [Lib.join_one]; exact h x (by simp)
  | x, y :: r, s, hs, h => by
    have ih := join_no (x := y) (r := r) hs (fun w hw => h w (List.mem_cons_of_mem _ hw))
    have e : Lib.join (x :: y :: r) [s] = x ++ s :: Lib.join (y :: r) [s] := by
      rw [Lib.join_cons, Lib.join_cons]; simp [Lib.joinTail]
    rw [e]
    intro m
    rcases List.mem_append.1 m with m | m
    · exact h x (by simp) m
    · rcases List.mem_cons.1 m with m | m
      · exact hs m.symm
      · exact ih m
/-- No byte 10 in a line but its last. -/
theorem lin_no (e : En) : (10 : UInt8) ∉ lin e := join_no (by decide) (liW_no (by decide))

/-! ### A line told again -/

def rdN (w : List UInt8) : Option Int :=
  if (if w.head? = some 45 then w.tail else w).length < 1 ∨ 9 < (if w.head? = some 45 then w.tail else w).length then none else
  match Lib.decFrom 0 (if w.head? = some 45 then w.tail else w) with
  | none => none
  | some n => if (if w.head? = some 45 then w.tail else w).head? = some 48 ∧ (w.head? = some 45 ∨ 1 < w.length) then none else some (if w.head? = some 45 then -(n : Int) else (n : Int))
def rdV (w : List UInt8) : Int := (rdN w).getD 0
theorem dec_head (u : Nat) : u < 10 ∨ (Lib.decDigits u).head? ≠ some 48 := by
  induction u using Nat.strongRecOn with
  | _ u ih =>
    by_cases h : u < 10
    · exact .inl h
    · right
      rw [Lib.decDigits, dif_neg h]
      rcases ih (u / 10) (by omega) with h1 | h1
      · rw [Lib.decDigits_one h1]
        simp only [List.cons_append, List.head?_cons]
        intro e
        have e := congrArg UInt8.toNat (Option.some.inj e)
        rw [UInt8.toNat_ofNat'] at e
        have : (48 : UInt8).toNat = 48 := rfl
        omega
      · have hl := Lib.decDigits_length (u / 10)
        have hp := Lib.nDigits_pos (u / 10)
        cases e : Lib.decDigits (u / 10) with
        | nil => rw [e] at hl; simp at hl; omega
        | cons c t => rw [e] at h1; exact h1
theorem nDig_le : ∀ {k u : Nat}, u < 10 ^ (k + 1) → Lib.nDigits u ≤ k + 1
  | 0, u, h => by rw [Lib.nDigits_small (by simpa using h)]; omega
  | k + 1, u, h => by
    by_cases h10 : u < 10
    · rw [Lib.nDigits_small h10]; omega
    · rw [Lib.nDigits_big h10]
      have := nDig_le (k := k) (u := u / 10) (by rw [Nat.pow_succ] at h; omega)
      omega
theorem rdN_itoa {n : Int} (h0 : 0 ≤ n) (h : n < 1000000000) : rdN (Lib.itoa n) = some n := by
  obtain ⟨u, rfl⟩ : ∃ u : Nat, n = u := ⟨n.toNat, by omega⟩
  have e : Lib.itoa (u : Int) = Lib.decDigits u := by unfold Lib.itoa; rw [if_neg (by omega)]; rfl
  have hl := Lib.decDigits_length u
  have hp := Lib.nDigits_pos u
  have h9 := nDig_le (k := 8) (u := u) (by omega)
  have hh : (Lib.decDigits u).head? ≠ some 45 := fun e => by
    have := dec_mem u 45 (List.mem_of_mem_head? e)
    exact absurd this (by decide)
  unfold rdN
  rw [e]
  simp only [if_neg hh]
  rw [if_neg (by omega), decFrom_dec]
  simp only
  rw [if_neg]
  rintro ⟨h1, h2⟩
  rcases h2 with h2 | h2
  · exact hh h2
  · rcases dec_head u with h3 | h3
    · rw [hl, Lib.nDigits_small h3] at h2; omega
    · exact h3 h1
theorem rdV_itoa {n : Int} (h0 : 0 ≤ n) (h : n < 1000000000) : rdV (Lib.itoa n) = n := by unfold rdV; rw [rdN_itoa h0 h]; rfl

def itP : List (List UInt8) → List Rc
  | a :: b :: c :: d :: _ :: f :: t => ⟨rdV a, rdV b, rdV c, rdV d, ⟨(unW f).toArray⟩⟩ :: itP t
  | _ => []
def enP : List (List UInt8) → En
  | _ :: a :: b :: c :: t => ⟨rdV a, rdV b, rdV c, itP t⟩
  | _ => ⟨0, 0, 0, []⟩
/-- Is it a right Entry? -/
def enB (e : En) : Bool := (rgB e.t 1 99 && rgB e.q 1 100000) && (if e.k = 1 then I.itsB e.its else (decide (e.k = 2 ∨ e.k = 3) && decide (e.its.length = 0)))
theorem rec_bd {r : Rc} (h : I.recB r = true) : (0 ≤ r.t ∧ r.t < 1000000000) ∧ (0 ≤ r.i ∧ r.i < 1000000000) ∧ (0 ≤ r.x ∧ r.x < 1000000000) ∧ 0 ≤ r.y ∧ r.y < 1000000000 := by
  unfold I.recB rgB at h
  rw [Bool.and_eq_true, decide_eq_true_iff] at h
  obtain ⟨h1, h2⟩ := h
  split at h2
  · rename_i ht
    rw [spotB_eq, Bool.and_eq_true, decide_eq_true_iff] at h2
    omega
  · split at h2
    · rename_i ht
      rw [decide_eq_true_iff] at h2
      omega
    · cases h2
theorem itP_its : ∀ {L : List Rc} (_ : ∀ r ∈ L, I.recB r = true), itP (L.flatMap itW) = L
  | [], _ => rfl
  | r :: L, h => by
    have ih := itP_its (L := L) fun x hx => h x (List.mem_cons_of_mem _ hx)
    have hr := rec_bd (h r (List.mem_cons_self ..))
    rw [List.flatMap_cons]
    show ⟨rdV _, rdV _, rdV _, rdV _, ⟨(unW _).toArray⟩⟩ :: itP (L.flatMap itW) = _
    rw [ih, rdV_itoa hr.1.1 hr.1.2, rdV_itoa hr.2.1.1 hr.2.1.2, rdV_itoa hr.2.2.1.1 hr.2.2.1.2, rdV_itoa hr.2.2.2.1 hr.2.2.2.2, unW_hexW]

theorem enB_t {e : En} (h : enB e = true) : (1 ≤ e.t ∧ e.t ≤ 99) ∧ (1 ≤ e.q ∧ e.q ≤ 100000) ∧ (1 ≤ e.k ∧ e.k ≤ 3) ∧ e.its.length ≤ 6 ∧ ∀ r ∈ e.its, I.recB r = true := by
  unfold enB rgB at h
  rw [Bool.and_eq_true, Bool.and_eq_true, decide_eq_true_iff, decide_eq_true_iff] at h
  obtain ⟨⟨h1, h2⟩, h3⟩ := h
  refine ⟨h1, h2, ?_⟩
  split at h3
  · rename_i hk
    unfold I.itsB at h3
    rw [Bool.and_eq_true, Bool.and_eq_true, Bool.and_eq_true, decide_eq_true_iff, decide_eq_true_iff] at h3
    exact ⟨by omega, h3.2.1, List.all_eq_true.mp h3.2.2.1⟩
  · rw [Bool.and_eq_true, decide_eq_true_iff, decide_eq_true_iff] at h3
    obtain ⟨hk, hl⟩ := h3
    rw [List.eq_nil_of_length_eq_zero hl]
    exact ⟨by omega, by simp, by simp⟩
theorem enP_liW {e : En} (h : enB e = true) : enP (liW e) = e := by
  obtain ⟨h1, h2, h3, _, h4⟩ := enB_t h
  show (⟨rdV _, rdV _, rdV _, itP (e.its.flatMap itW)⟩ : En) = e
  rw [rdV_itoa (by omega) (by omega), rdV_itoa (by omega) (by omega), rdV_itoa (by omega) (by omega), itP_its h4]
theorem its_len (L : List Rc) : (L.flatMap itW).length = 6 * L.length := by
  induction L with
  | nil => rfl
  | cons r t ih => rw [List.flatMap_cons, List.length_append, ih, List.length_cons]; simp only [itW, List.length_cons, List.length_nil]; omega
theorem liW_len (e : En) : (liW e).length = 4 + 6 * e.its.length := by
  unfold liW enW
  simp only [List.length_cons, its_len]; omega
/-- May a line of so many words be one? -/
def wdB (n : Nat) : Bool := decide (4 ≤ n ∧ (n - 4) % 6 = 0 ∧ n ≤ 40)
/-- The Entry of a line (without its byte 10). -/
def linE (l : List UInt8) : Option En :=
  if wdB (spl 32 l).length = true ∧ enB (enP (spl 32 l)) = true ∧ lin (enP (spl 32 l)) = l then some (enP (spl 32 l)) else none
theorem linE_lin {e : En} (h : enB e = true) : linE (lin e) = some e := by
  unfold linE
  rw [spl_lin, enP_liW h, if_pos]
  refine ⟨?_, h, rfl⟩
  have := (enB_t h).2.2.2.1
  unfold wdB
  rw [liW_len, decide_eq_true_iff]
  omega
theorem linE_some {l : List UInt8} {e : En} : linE l = some e ↔ enB e = true ∧ lin e = l := by
  constructor
  · intro h
    unfold linE at h
    split at h
    · rename_i c
      rw [← Option.some.inj h]
      exact c.2
    · cases h
  · rintro ⟨h, rfl⟩
    exact linE_lin h

/-! ### A disk -/

def goE : List (List UInt8) → List En × Nat
  | [] => ([], 0)
  | [_] => ([], 0)
  | l :: m :: r => match linE l with
    | none => ([], 0)
    | some e => (e :: (goE (m :: r)).1, l.length + 1 + (goE (m :: r)).2)
/-- The Entries of a disk, and how many bytes they take. -/
def ens (d : List UInt8) : List En × Nat := goE (spl 10 d)
theorem spl_ne (b : UInt8) : ∀ d : List UInt8, spl b d ≠ []
  | [] => by simp [spl]
  | c :: t => by
    rw [spl]
    split
    · simp
    · split <;> simp
theorem ens_none {d : List UInt8} (h : (10 : UInt8) ∉ d) : ens d = ([], 0) := by unfold ens; rw [spl_last h]; rfl
theorem ens_line {l : List UInt8} (h : (10 : UInt8) ∉ l) (t : List UInt8) : ens (l ++ 10 :: t) = match linE l with
    | none => ([], 0)
    | some e => (e :: (ens t).1, l.length + 1 + (ens t).2) := by
  unfold ens
  rw [spl_word h]
  have := spl_ne 10 t
  cases e : spl 10 t with
  | nil => exact absurd e this
  | cons m r => rfl
theorem ens_shown {e : En} (h : enB e = true) (t : List UInt8) : ens (shL e ++ t) = (e :: (ens t).1, (shL e).length + (ens t).2) := by
  have e1 : shL e ++ t = lin e ++ 10 :: t := by unfold shL; simp
  rw [e1, ens_line (lin_no e), linE_lin h]
  simp [shL]
def shA (L : List En) : List UInt8 := L.flatMap shL
theorem ens_all : ∀ {L : List En} (_ : ∀ e ∈ L, enB e = true) (t : List UInt8), ens (shA L ++ t) = (L ++ (ens t).1, (shA L).length + (ens t).2)
  | [], _, t => by simp [shA]
  | e :: L, h, t => by
    have ih := ens_all (L := L) (fun x hx => h x (List.mem_cons_of_mem _ hx)) t
    have e1 : shA (e :: L) = shL e ++ shA L := by unfold shA; rw [List.flatMap_cons]
    rw [e1, List.append_assoc, ens_shown (h e (List.mem_cons_self ..)), ih]
    simp [Nat.add_assoc]
theorem first_cut {b : UInt8} : ∀ {d : List UInt8}, b ∈ d → ∃ l t, d = l ++ b :: t ∧ b ∉ l
  | [], h => by cases h
  | c :: d, h => by
    by_cases hc : c = b
    · exact ⟨[], d, by rw [hc]; rfl, by simp⟩
    · obtain ⟨l, t, e, h1⟩ := first_cut (d := d) (by rcases List.mem_cons.1 h with h | h; exact absurd h.symm hc; exact h)
      refine ⟨c :: l, t, by rw [e]; rfl, fun m => ?_⟩
      rcases List.mem_cons.1 m with m | m
      · exact hc m.symm
      · exact h1 m
/-- Every disk is its Entries' lines, and what is no line behind. -/
theorem ens_cut (d : List UInt8) : ∃ t, d = shA (ens d).1 ++ t ∧ (ens d).2 = (shA (ens d).1).length ∧ (∀ e ∈ (ens d).1, enB e = true) ∧ ens t = ([], 0) := by
  generalize hn : d.length = n
  induction n using Nat.strongRecOn generalizing d with
  | _ n ih =>
    by_cases hm : (10 : UInt8) ∈ d
    · obtain ⟨l, t, e1, h1⟩ : ∃ l t, d = l ++ 10 :: t ∧ (10 : UInt8) ∉ l := first_cut hm
      cases hl : linE l with
      | none =>
        have : ens d = ([], 0) := by rw [e1, ens_line h1, hl]
        exact ⟨d, by rw [this]; rfl, by rw [this]; rfl, by rw [this]; simp, this⟩
      | some e =>
        obtain ⟨h2, h3⟩ := linE_some.1 hl
        have : ens d = (e :: (ens t).1, l.length + 1 + (ens t).2) := by rw [e1, ens_line h1, hl]
        obtain ⟨u, a1, a2, a3, a4⟩ := ih t.length (by rw [← hn, e1]; simp; omega) t rfl
        have e2 : shA (e :: (ens t).1) = l ++ 10 :: shA (ens t).1 := by
          unfold shA; rw [List.flatMap_cons]; unfold shL; rw [h3]; simp
        refine ⟨u, ?_, ?_, ?_, a4⟩
        · rw [this]
          show d = shA (e :: (ens t).1) ++ u
          rw [e2, e1, List.append_assoc, List.cons_append, ← a1]
        · rw [this]
          show l.length + 1 + (ens t).2 = (shA (e :: (ens t).1)).length
          rw [e2, a2]; simp; omega
        · rw [this]
          intro x hx
          rcases List.mem_cons.1 hx with rfl | hx
          · exact h2
          · exact a3 x hx
    · have := ens_none hm
      exact ⟨d, by rw [this]; rfl, by rw [this]; rfl, by rw [this]; simp, this⟩
/-- A disk of lines, cut anywhere: the first Entries. -/
theorem ens_short : ∀ {L : List En} (_ : ∀ e ∈ L, enB e = true) (k : Nat), k ≤ (shA L).length → ∃ j, j ≤ L.length ∧ (ens ((shA L).take k)).1 = L.take j ∧ (ens ((shA L).take k)).2 ≤ k
  | [], _, k, hk => ⟨0, by simp, by simp [shA]; rfl, by simp [shA]; exact Nat.zero_le _⟩
  | e :: L, h, k, hk => by
    have e1 : shA (e :: L) = shL e ++ shA L := by unfold shA; rw [List.flatMap_cons]
    rw [e1] at hk ⊢
    by_cases hs : (shL e).length ≤ k
    · obtain ⟨j, h1, h2, h3⟩ := ens_short (L := L) (fun x hx => h x (List.mem_cons_of_mem _ hx)) (k - (shL e).length) (by rw [List.length_append] at hk; omega)
      refine ⟨j + 1, by simpa using h1, ?_, ?_⟩
      · rw [List.take_append, List.take_of_length_le hs, ens_shown (h e (List.mem_cons_self ..)), h2]; rfl
      · rw [List.take_append, List.take_of_length_le hs, ens_shown (h e (List.mem_cons_self ..))]
        show (shL e).length + _ ≤ k
        omega
    · have e2 : (shL e ++ shA L).take k = (lin e).take k := by
        have hl : (shL e).length = (lin e).length + 1 := by unfold shL; simp
        unfold shL
        rw [List.append_assoc, List.take_append_of_le_length (by omega)]
      have := ens_none (d := (lin e).take k) (fun m => lin_no e (List.mem_of_mem_take m))
      exact ⟨0, by simp, by rw [e2, this]; rfl, by rw [e2, this]; exact Nat.zero_le _⟩

end Go.Proofs.YtgpfdoiiholncaaDoor.K.J
