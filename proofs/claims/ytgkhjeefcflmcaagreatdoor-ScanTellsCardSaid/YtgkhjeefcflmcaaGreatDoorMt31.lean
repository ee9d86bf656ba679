/-
  Layer 11 (scan) as mathematics: the piece at the head of a list of bytes, and the tokens of a list of bytes.
-/
import Derived.Test.YtgkhjeefcflmcaaGreatDoorMt22
import Derived.Test.YtgkhjeefcflmcaaGreatDoorMt30
import Derived.Test.YtgkhjeefcflmcaaGreatDoorMt23
namespace Go.Proofs.YtgkhjeefcflmcaaGreatDoor
open Go.RowKit Go.Sort
set_option linter.unusedSimpArgs false
def letB (r : Int) : Bool := if r = 95 ∨ (97 ≤ r ∧ r ≤ 122) ∨ (65 ≤ r ∧ r ≤ 90) then true else decide (192 ≤ r ∧ r ≤ 591 ∧ r ≠ 215 ∧ r ≠ 247)
def digB (r : Int) : Bool := decide (48 ≤ r ∧ r ≤ 57)
def dcF (l : List UInt8) : Option (Int × Nat) := U.dec (bi l)
theorem dcF_size {l : List UInt8} {r : Int} {n : Nat} (h : dcF l = some (r, n)) : 1 ≤ n ∧ n ≤ 4 ∧ n ≤ l.length := by
 obtain ⟨h1, h2, t, h3⟩ := U.enc_dec h
 have := U.rlen_pos r
 have h4 := congrArg List.length h3
 rw [bi_length, List.length_append, U.enc_length] at h4
 omega
theorem dcF_take {l : List UInt8} {r : Int} {n m : Nat} (h : dcF l = some (r, n)) (hm : n ≤ m) : dcF (l.take m) = some (r, n) := by
 obtain ⟨h1, h2, t, h3⟩ := U.enc_dec h
 have h4 : bi (l.take m) = U.enc r ++ t.take (m - n) := by
  rw [← bi_take, h3, List.take_append, U.enc_length, ← h2, List.take_of_length_le (by rw [U.enc_length, ← h2]; exact hm)]
 show U.dec (bi (l.take m)) = _
 rw [h4, h2]
 exact U.dec_enc h1 _
theorem dcF_app {l : List UInt8} {r : Int} {n : Nat} (h : dcF l = some (r, n)) (u : List UInt8) : dcF (l ++ u) = some (r, n) := by
 obtain ⟨h1, h2, t, h3⟩ := U.enc_dec h
 show U.dec (bi (l ++ u)) = _
 rw [← bi_app, h3, h2, List.append_assoc]
 exact U.dec_enc h1 _
theorem dcF_ascii {c : UInt8} (h : c.toNat < 128) (t : List UInt8) : dcF (c :: t) = some ((c.toNat : Int), 1) := by
 have h1 : U.isRune (c.toNat : Int) = true := U.isRune_iff.2 (by omega)
 have h2 : U.enc (c.toNat : Int) = [(c.toNat : Int)] := by unfold U.enc; rw [if_pos (by omega)]
 have h3 := U.dec_enc h1 (bi t)
 have h4 : U.rlen (c.toNat : Int) = 1 := by unfold U.rlen; rw [if_pos (by omega)]
 rw [h2, h4] at h3
 exact h3
theorem dcF_none1 {c : UInt8} {t : List UInt8} (h : dcF (c :: t) = none) : dcF [c] = none := by
 cases h1 : dcF [c] with
 | none => rfl
 | some p =>
  have h2 := dcF_app (r := p.1) (n := p.2) h1 t
  rw [List.singleton_append, h] at h2
  cases h2
def stepW (p : Option (Int × Nat)) (k : Nat → Nat) : Nat :=
 match p with
 | none => 0
 | some (r, n) => if letB r = true ∨ digB r = true then k n + n else 0
def wordG : Nat → List UInt8 → Nat
 | 0, _ => 0
 | _ + 1, [] => 0
 | f + 1, c :: t => stepW (dcF (c :: t)) fun n => wordG f (t.drop (n - 1))
theorem wordG_nil : ∀ f : Nat, wordG f [] = 0
 | 0 => rfl
 | _ + 1 => rfl
theorem wordG_cons (f : Nat) (c : UInt8) (t : List UInt8) : wordG (f + 1) (c :: t) = stepW (dcF (c :: t)) fun n => wordG f (t.drop (n - 1)) := rfl
theorem wordG_none {f : Nat} {c : UInt8} {t : List UInt8} (h : dcF (c :: t) = none) : wordG (f + 1) (c :: t) = 0 := by
 rw [wordG_cons, h]; rfl
theorem wordG_some {f : Nat} {c : UInt8} {t : List UInt8} {r : Int} {n : Nat} (h : dcF (c :: t) = some (r, n)) : wordG (f + 1) (c :: t) = if letB r = true ∨ digB r = true then wordG f (t.drop (n - 1)) + n else 0 := by
 rw [wordG_cons, h]; rfl
theorem wordG_fuel : ∀ (f g : Nat) (l : List UInt8), l.length ≤ f → l.length ≤ g → wordG f l = wordG g l
 | f, g, [], _, _ => by rw [wordG_nil, wordG_nil]
 | 0, _, _ :: _, h, _ => by simp at h
 | _ + 1, 0, _ :: _, _, h => by simp at h
 | f + 1, g + 1, c :: t, hf, hg => by
  cases hd : dcF (c :: t) with
  | none => rw [wordG_none hd, wordG_none hd]
  | some p =>
   obtain ⟨r, n⟩ := p
   rw [wordG_some hd, wordG_some hd, wordG_fuel f g (t.drop (n - 1)) (by rw [List.length_drop]; simp only [List.length_cons] at hf; omega) (by rw [List.length_drop]; simp only [List.length_cons] at hg; omega)]
def wordF (l : List UInt8) : Nat := wordG l.length l
theorem wordF_nil : wordF [] = 0 := rfl
theorem wordF_none {c : UInt8} {t : List UInt8} (h : dcF (c :: t) = none) : wordF (c :: t) = 0 := wordG_none h
theorem wordF_no {c : UInt8} {t : List UInt8} {r : Int} {n : Nat} (h : dcF (c :: t) = some (r, n)) (h2 : ¬ (letB r = true ∨ digB r = true)) : wordF (c :: t) = 0 := (wordG_some h).trans (if_neg h2)
theorem wordF_go {c : UInt8} {t : List UInt8} {r : Int} {n : Nat} (h : dcF (c :: t) = some (r, n)) (h2 : letB r = true ∨ digB r = true) : wordF (c :: t) = wordF ((c :: t).drop n) + n := by
 obtain ⟨m, rfl⟩ : ∃ m, n = m + 1 := ⟨n - 1, by have := dcF_size h; omega⟩
 refine ((wordG_some h).trans (if_pos h2)).trans ?_
 show wordG t.length (t.drop m) + (m + 1) = wordG (t.drop m).length (t.drop m) + (m + 1)
 rw [wordG_fuel t.length (t.drop m).length (t.drop m) (by rw [List.length_drop]; omega) (Nat.le_refl _)]
theorem wordF_le : ∀ (f : Nat) (l : List UInt8), l.length ≤ f → wordF l ≤ l.length
 | _, [], _ => by rw [wordF_nil]; exact Nat.le_refl _
 | 0, _ :: _, h => by simp at h
 | f + 1, c :: t, h => by
  cases hd : dcF (c :: t) with
  | none => rw [wordF_none hd]; omega
  | some p =>
   obtain ⟨r, n⟩ := p
   by_cases h2 : letB r = true ∨ digB r = true
   ·have hs := dcF_size hd
    rw [wordF_go hd h2]
    have := wordF_le f ((c :: t).drop n) (by rw [List.length_drop]; omega)
    rw [List.length_drop] at this
    omega
   ·rw [wordF_no hd h2]; omega
theorem wordF_alone : ∀ (f : Nat) (l : List UInt8), l.length ≤ f → wordF (l.take (wordF l)) = wordF l
 | _, [], _ => rfl
 | 0, _ :: _, h => by simp at h
 | f + 1, c :: t, h => by
  cases hd : dcF (c :: t) with
  | none => rw [wordF_none hd]; exact wordF_nil
  | some p =>
   obtain ⟨r, n⟩ := p
   by_cases h2 : letB r = true ∨ digB r = true
   ·have hs := dcF_size hd
    have h1 := wordF_go hd h2
    have h3 := dcF_take hd (m := wordF (c :: t)) (by omega)
    have ih := wordF_alone f ((c :: t).drop n) (by rw [List.length_drop]; omega)
    have h4 : ((c :: t).take (wordF (c :: t))).drop n = ((c :: t).drop n).take (wordF ((c :: t).drop n)) := by rw [List.drop_take, h1, Nat.add_sub_cancel]
    obtain ⟨m, hm⟩ : ∃ m, wordF (c :: t) = m + 1 := ⟨wordF (c :: t) - 1, by omega⟩
    rw [hm, List.take_succ_cons] at h3 h4
    rw [hm, List.take_succ_cons, wordF_go h3 h2, h4, ih, ← h1, hm]
   ·rw [wordF_no hd h2]; exact wordF_nil
def lineN : List UInt8 → Nat
 | [] => 0
 | c :: t => if c = 10 then 0 else lineN t + 1
theorem lineN_le : ∀ l : List UInt8, lineN l ≤ l.length
 | [] => Nat.le_refl _
 | c :: t => by
  unfold lineN
  split
  ·omega
  ·have := lineN_le t; simp only [List.length_cons]; omega
theorem lineN_take : ∀ (l : List UInt8) (m : Nat), lineN l ≤ m → lineN (l.take m) = lineN l
 | [], _, _ => by rw [List.take_nil]
 | c :: t, 0, h => by rw [List.take_zero]; exact (Nat.le_zero.1 h).symm
 | c :: t, m + 1, h => by
  rw [List.take_succ_cons]
  unfold lineN at h ⊢
  split
  ·rfl
  ·next hc =>
   rw [if_neg hc] at h
   rw [lineN_take t m (by omega)]
def genF : List UInt8 → Nat × Bool × Bool
 | [] => (0, false, false)
 | c :: t => if c = 42 ∧ t.head? = some 47 then (2, true, false) else ((genF t).1 + 1, (genF t).2.1, (c == 10) || (genF t).2.2)
theorem genF_le : ∀ l : List UInt8, (genF l).1 ≤ l.length ∧ ((genF l).2.1 = false → (genF l).1 = l.length)
 | [] => ⟨Nat.le_refl _, fun _ => rfl⟩
 | c :: t => by
  unfold genF
  split
  ·next h =>
   cases t with
   | nil => cases h.2
   | cons d t => exact ⟨by simp, fun h => by cases h⟩
  ·have := genF_le t
   simp only [List.length_cons]
   exact ⟨by omega, fun h => by rw [this.2 h]⟩
theorem genF_take : ∀ (l : List UInt8) (m : Nat), (genF l).2.1 = true → (genF l).1 ≤ m → genF (l.take m) = genF l
 | [], _, h, _ => by cases h
 | c :: t, m, h, hm => by
  unfold genF at h hm
  by_cases hc : c = 42 ∧ t.head? = some 47
  ·rw [if_pos hc] at hm
   obtain ⟨j, rfl⟩ : ∃ j, m = j + 2 := ⟨m - 2, by simp only at hm; omega⟩
   cases t with
   | nil => cases hc.2
   | cons d t =>
    rw [List.take_succ_cons, List.take_succ_cons]
    unfold genF
    rw [if_pos hc, if_pos ⟨hc.1, hc.2⟩]
  ·rw [if_neg hc] at h hm
   obtain ⟨j, rfl⟩ : ∃ j, m = j + 1 := ⟨m - 1, by simp only at hm; omega⟩
   have ih := genF_take t j h (by simp only at hm; omega)
   rw [List.take_succ_cons]
   unfold genF
   rw [if_neg hc, if_neg (fun e => hc ⟨e.1, by
    cases t with
    | nil => rw [List.take_nil] at e; cases e.2
    | cons d t => cases j with
     | zero => cases e.2
     | succ j => exact e.2⟩), ih]
theorem genF_pos {l : List UInt8} (h : (genF l).2.1 = true) : 2 ≤ (genF l).1 := by
 induction l with
 | nil => cases h
 | cons c t ih =>
  unfold genF at h ⊢
  split
  ·exact Nat.le_refl _
  ·next hc =>
   rw [if_neg hc] at h
   have := ih h
   simp only
   omega
def cmtF : List UInt8 → Option (Nat × Bool × Bool)
 | a :: c :: t => if a = 47 then (if c = 47 then some (lineN t + 2, true, false) else if c = 42 then some ((genF t).1 + 2, (genF t).2.1, (genF t).2.2) else none) else none
 | _ => none
theorem cmtF_head {c : UInt8} (t : List UInt8) (h : c ≠ 47) : cmtF (c :: t) = none := by
 cases t with
 | nil => rfl
 | cons d t => exact if_neg h
theorem cmtF_line (t : List UInt8) : cmtF (47 :: 47 :: t) = some (lineN t + 2, true, false) := rfl
theorem cmtF_gen (t : List UInt8) : cmtF (47 :: 42 :: t) = some ((genF t).1 + 2, (genF t).2.1, (genF t).2.2) := rfl
theorem cmtF_no {c : UInt8} (t : List UInt8) (h : c ≠ 47) (h2 : c ≠ 42) : cmtF (47 :: c :: t) = none := by
 have e : cmtF (47 :: c :: t) = if (47 : UInt8) = 47 then (if c = 47 then some (lineN t + 2, true, false) else if c = 42 then some ((genF t).1 + 2, (genF t).2.1, (genF t).2.2) else none) else none := rfl
 rw [e, if_pos rfl, if_neg h, if_neg h2]
theorem cmtF_cases (l : List UInt8) : cmtF l = none ∨ (∃ t, l = 47 :: 47 :: t) ∨ ∃ t, l = 47 :: 42 :: t := by
 cases l with
 | nil => exact .inl rfl
 | cons a t =>
  by_cases ha : a = 47
  ·subst ha
   cases t with
   | nil => exact .inl rfl
   | cons c t =>
    by_cases h1 : c = 47
    ·subst h1; exact .inr (.inl ⟨t, rfl⟩)
    ·by_cases h2 : c = 42
     ·subst h2; exact .inr (.inr ⟨t, rfl⟩)
     ·exact .inl (cmtF_no t h1 h2)
  ·exact .inl (cmtF_head t ha)
theorem cmtF_size {l : List UInt8} {n : Nat} {k b : Bool} (h : cmtF l = some (n, k, b)) : 2 ≤ n ∧ n ≤ l.length ∧ (k = false → n = l.length) := by
 rcases cmtF_cases l with h1 | ⟨t, rfl⟩ | ⟨t, rfl⟩
 ·rw [h1] at h; cases h
 ·have := lineN_le t
  rw [cmtF_line] at h
  cases h
  exact ⟨by omega, by simp only [List.length_cons]; omega, fun h => by cases h⟩
 ·have := genF_le t
  rw [cmtF_gen] at h
  cases h
  exact ⟨by omega, by simp only [List.length_cons]; omega, fun h2 => by have h3 := this.2 h2; simp only [List.length_cons]; omega⟩
theorem cmtF_take {l : List UInt8} {n m : Nat} {b : Bool} (h : cmtF l = some (n, true, b)) (hm : n ≤ m) : cmtF (l.take m) = some (n, true, b) := by
 have hs := cmtF_size h
 obtain ⟨j, rfl⟩ : ∃ j, m = j + 2 := ⟨m - 2, by omega⟩
 rcases cmtF_cases l with h1 | ⟨t, rfl⟩ | ⟨t, rfl⟩
 ·rw [h1] at h; cases h
 ·rw [cmtF_line] at h
  cases h
  rw [List.take_succ_cons, List.take_succ_cons, cmtF_line, lineN_take t j (by omega)]
 ·rw [cmtF_gen] at h
  obtain ⟨h1, h2⟩ := Prod.mk.inj (Option.some.inj h)
  obtain ⟨h3, h4⟩ := Prod.mk.inj h2
  rw [List.take_succ_cons, List.take_succ_cons, cmtF_gen, genF_take t j h3 (by omega), h1, h3, h4]
end Go.Proofs.YtgkhjeefcflmcaaGreatDoor
namespace Go.Proofs.YtgkhjeefcflmcaaGreatDoor
open Go.RowKit Go.Sort
set_option linter.unusedSimpArgs false
theorem endF_shut {q : UInt8} : ∀ {t : List UInt8} {E : Nat}, endF q t = (E, false) → endF q (t.take E) = (E, false)
 | [], E, h => by cases h; rfl
 | [c], E, h => by
  have h0 := h
  unfold endF at h
  split at h
  ·cases h; rfl
  ·split at h
   ·cases h
   ·cases h; exact h0
 | c :: d :: t, E, h => by
  rw [endF] at h
  split at h
  ·cases h; rfl
  ·rename_i n1
   split at h
   ·cases h
   ·rename_i n2
    split at h
    ·rename_i n3
     cases hE : endF q t with
     | mk E' K' =>
      rw [hE] at h
      cases h
      have i1 := endF_shut hE
      show endF q (c :: d :: t.take E') = _
      rw [endF, if_neg n1, if_neg n2, if_pos n3, i1]
    ·rename_i n3
     cases hE : endF q (d :: t) with
     | mk E' K' =>
      rw [hE] at h
      cases h
      have i1 := endF_shut hE
      cases E' with
      | zero =>
       show endF q [c] = _
       rw [endF, if_neg n1, if_neg n2]
      | succ j =>
       show endF q (c :: d :: t.take j) = _
       rw [endF, if_neg n1, if_neg n2, if_neg n3]
       have i3 : endF q (d :: t.take j) = (j + 1, false) := i1
       rw [i3]
theorem endF_both {q : UInt8} (t : List UInt8) : endF q (t.take (endF q t).1) = endF q t := by
 cases h : endF q t with
 | mk E K =>
  cases K with
  | true => exact (endF_alone h).1
  | false => exact endF_shut h
theorem scanL_no {c : UInt8} (t : List UInt8) (h : ¬ (c = 39 ∨ c = 34 ∨ c = 96)) : scanL (c :: t) = (0, 0, 7) := if_neg h
theorem litA_eqn (q : UInt8) (t : List UInt8) : litA q (q :: t) = (kindN q, (endF q t).1 + 1, if (endF q t).2 = true then litE q (q :: t.take (endF q t).1) else 12) := by
 show (if (endF q t).2 = true then _ else _) = _
 split <;> rfl
theorem litA_alone (q : UInt8) (t : List UInt8) : litA q (q :: t.take (endF q t).1) = litA q (q :: t) := by
 rw [litA_eqn, litA_eqn, endF_both, List.take_take, Nat.min_self]
theorem scanL_alone (l : List UInt8) : scanL (l.take (scanL l).2.1) = scanL l ∨ (scanL l).2.1 = 0 := by
 cases l with
 | nil => exact .inr rfl
 | cons c t =>
  by_cases hc : c = 39 ∨ c = 34 ∨ c = 96
  ·refine .inl ?_
   rw [scanL_q _ hc]
   have h1 : (litA c (c :: t)).2.1 = (endF c t).1 + 1 := by rw [litA_eqn]
   rw [h1, List.take_succ_cons, scanL_q _ hc, litA_alone]
  ·exact .inr (by rw [scanL_no _ hc])
theorem scanL_le (l : List UInt8) : (scanL l).2.1 ≤ l.length := by
 cases l with
 | nil => exact Nat.le_refl _
 | cons c t =>
  by_cases hc : c = 39 ∨ c = 34 ∨ c = 96
  ·rw [scanL_q _ hc, litA_eqn]
   have := endF_le c t
   simp only [List.length_cons]
   omega
  ·rw [scanL_no _ hc]; exact Nat.zero_le _
theorem scanL_kind (l : List UInt8) : (scanL l).2.1 ≠ 0 → (scanL l).1 = 4 ∨ (scanL l).1 = 5 := by
 cases l with
 | nil => intro h; exact absurd rfl h
 | cons c t =>
  by_cases hc : c = 39 ∨ c = 34 ∨ c = 96
  ·intro _
   rw [scanL_q _ hc, litA_eqn]
   show kindN c = 4 ∨ kindN c = 5
   unfold kindN
   split
   ·exact .inl rfl
   ·exact .inr rfl
  ·rw [scanL_no _ hc]; intro h; exact absurd rfl h
theorem okAt_pre (sg : Bool) {l m : List UInt8} {n i : Nat} (h : ∀ j, j < n → l.getD j 0 = m.getD j 0) (hi : i < n) : okAt sg l i = okAt sg m i := by
 unfold okAt
 rw [h i hi, h (i - 1) (by omega)]
theorem getD_take (l : List UInt8) (n j : Nat) (h : j < n) : (l.take n).getD j 0 = l.getD j 0 := by
 rw [List.getD_eq_getElem?_getD, List.getD_eq_getElem?_getD, List.getElem?_take, if_pos h]
theorem body_take {sg : Bool} {l : List UInt8} {k : Nat} (h : BodyN sg l k) : BodyN sg (l.take k) k := by
 obtain ⟨h1, h2, _⟩ := h
 refine ⟨by rw [List.length_take]; omega, fun i hi => ?_, fun hk => by rw [List.length_take] at hk; omega⟩
 rw [okAt_pre sg (n := k) (fun j hj => getD_take l k j hj) hi]
 exact h2 i hi
theorem sgOf_take {l : List UInt8} {k : Nat} (h : BodyN (sgOf l) l k) (h0 : k ≠ 0) : sgOf (l.take k) = sgOf l := by
 by_cases hk : 2 ≤ k
 ·unfold sgOf
  rw [List.take_take, Nat.min_eq_left hk]
 ·have e : k = 1 := by omega
  subst e
  have h1 : sgOf (l.take 1) = true := by
   cases l with
   | nil => rfl
   | cons c t => rfl
  rw [h1]
  cases hs : sgOf l with
  | true => rfl
  | false =>
   exfalso
   match l, h, hs with
   | [], h, hs => exact absurd h.1 (by decide)
   | [c], h, hs => cases hs
   | c :: d :: t, h, hs =>
    have h3 := h.2.2 (by simp)
    have h4 : pfxB [c, d] = 16 := by
     have : (!decide (pfxB [c, d] = 16)) = false := hs
     simpa using this
    have h5 : (if c = 48 then (if d = 120 ∨ d = 88 then 16 else if d = 98 ∨ d = 66 then 2 else if d = 111 ∨ d = 79 then 8 else 0) else 0) = 16 := h4
    have h6 : d = 120 ∨ d = 88 := by
     by_cases hd : d = 120 ∨ d = 88
     ·exact hd
     ·rw [if_neg hd] at h5
      split at h5
      ·split at h5
       ·cases h5
       ·split at h5 <;> cases h5
      ·cases h5
    have h7 : isPart d.toNat = true := by rcases h6 with rfl | rfl <;> rfl
    unfold okAt at h3
    rw [show (c :: d :: t).getD 1 0 = d from rfl, h7, Bool.true_or] at h3
    cases h3
theorem begL_take {l : List UInt8} {k : Nat} (hb : begL l = true) (h : BodyN (sgOf l) l k) : begL (l.take k) = true := by
 have h0 := beg_pos hb h
 match l, hb, h with
 | [], hb, _ => cases hb
 | [c], hb, h =>
  rw [List.take_of_length_le (by simp only [List.length_cons, List.length_nil]; omega)]
  exact hb
 | c :: d :: t, hb, h =>
  by_cases hk : 2 ≤ k
  ·obtain ⟨j, rfl⟩ : ∃ j, k = j + 2 := ⟨k - 2, by omega⟩
   exact hb
  ·have e : k = 1 := by omega
   subst e
   show (isDig c.toNat || (c == 46 && false)) = true
   have hb' : (isDig c.toNat || (c == 46 && isDig d.toNat)) = true := hb
   cases h1 : isDig c.toNat with
   | true => rfl
   | false =>
    exfalso
    rw [h1, Bool.false_or, Bool.and_eq_true] at hb'
    have h3 := h.2.2 (by simp)
    have h7 : isPart d.toNat = true := by
     have := hb'.2
     unfold isDig at this
     have := of_decide_eq_true this
     unfold isPart clsN
     rw [if_pos this]
     rfl
    unfold okAt at h3
    rw [show (c :: d :: t).getD 1 0 = d from rfl, h7, Bool.true_or] at h3
    cases h3
open Classical in
noncomputable def bodyZ (l : List UInt8) : Nat := Classical.choose (bodyN_is (sgOf l) l)
theorem bodyZ_is (l : List UInt8) : BodyN (sgOf l) l (bodyZ l) := Classical.choose_spec (bodyN_is (sgOf l) l)
theorem bodyZ_take {l : List UInt8} (h : begL l = true) : bodyZ (l.take (bodyZ l)) = bodyZ l := by
 have h1 := bodyZ_is (l.take (bodyZ l))
 rw [sgOf_take (bodyZ_is l) (beg_pos h (bodyZ_is l))] at h1
 exact bodyN_uniq h1 (body_take (bodyZ_is l))
open Classical in
noncomputable def valE (x : List UInt8) : Nat := if h : ∃ y, ValueIs (kndZ x) x y then (Classical.choose h).k else 0
theorem kndZ_is (x : List UInt8) : kndZ x = 2 ∨ kndZ x = 3 := by unfold kndZ; split <;> simp
theorem numZ_is {l : List UInt8} {a : Nat} (ha : a < l.length) (h : begL (l.drop a) = true) :
  ScanIs l (a : Int) (kndZ ((l.drop a).take (bodyZ (l.drop a)))) (bodyZ (l.drop a)) (valE ((l.drop a).take (bodyZ (l.drop a)))) := by
 refine .inr ⟨by omega, by omega, by rw [Int.toNat_natCast]; exact h, by rw [Int.toNat_natCast]; exact bodyZ_is _, by rw [Int.toNat_natCast], ?_⟩
 rw [Int.toNat_natCast]
 have he : ∃ y, ValueIs (kndZ ((l.drop a).take (bodyZ (l.drop a)))) ((l.drop a).take (bodyZ (l.drop a))) y := by
  obtain ⟨kind, k, e, hs⟩ := scan_is l (a : Int)
  rcases hs with ⟨h1, _⟩ | ⟨_, _, _, h4, h5, y, h6, _⟩
  ·rw [Int.toNat_natCast, h] at h1
   rcases h1 with h1 | h1 | h1
   ·omega
   ·omega
   ·cases h1
  ·rw [Int.toNat_natCast] at h4 h5 h6
   rw [bodyN_uniq h4 (bodyZ_is _)] at h5 h6
   rw [h5] at h6
   exact ⟨y, h6⟩
 unfold valE
 rw [dif_pos he]
 exact ⟨_, Classical.choose_spec he, rfl⟩
theorem numZ_no {l : List UInt8} {a : Nat} (h : begL (l.drop a) = false) : ScanIs l (a : Int) 0 0 7 := .inl ⟨.inr (.inr (by rw [Int.toNat_natCast]; exact h)), rfl, rfl, rfl⟩
noncomputable def kwZ (x : List UInt8) : Nat := Classical.choose (kw_ex (bs x))
theorem kwZ_is (x : List UInt8) : KwIs (bs x) (kwZ x) := Classical.choose_spec (kw_ex (bs x))
noncomputable def kwK (x : List UInt8) : Nat := if kwZ x = 0 then 1 else kwZ x
theorem kwK_is (x : List UInt8) : kwK x = 1 ∨ (10 ≤ kwK x ∧ kwK x < 35) := by
 unfold kwK
 split
 ·exact .inl rfl
 ·next h =>
  rcases kwZ_is x with ⟨h1, _⟩ | ⟨h1, h2, _⟩
  ·exact absurd h1 h
  ·exact .inr ⟨h1, h2⟩
theorem bi_inj : ∀ {a b : List UInt8}, bi a = bi b → a = b
 | [], [], _ => rfl
 | [], _ :: _, h => by cases h
 | _ :: _, [], h => by cases h
 | x :: a, y :: b, h => by
  obtain ⟨h1, h2⟩ := List.cons.inj h
  rw [UInt8.toNat_inj.1 (Int.ofNat.inj h1), bi_inj h2]
theorem beg_pre {l : List UInt8} {j : Nat} : Beg (bi l) j ↔ txl j <+: l := by
 constructor
 ·rintro ⟨t, ht⟩
  have h1 : bi (txl j) ++ t = bi l := ht
  have h2 : bi (l.take (txl j).length) = bi (txl j) := by
   rw [← bi_take, ← h1, List.take_append_of_le_length (by rw [bi_length]; exact Nat.le_refl _), List.take_of_length_le (by rw [bi_length]; exact Nat.le_refl _)]
  rw [← bi_inj h2]
  exact List.take_prefix ..
 ·rintro ⟨t, rfl⟩
  exact ⟨bi t, by rw [← bi_app]; rfl⟩
noncomputable def opK (l : List UInt8) : Nat := Classical.choose (op_ex (bi l))
noncomputable def opN (l : List UInt8) : Nat := Classical.choose (Classical.choose_spec (op_ex (bi l)))
theorem op_is (l : List UInt8) : OpIs (bi l) (opK l) (opN l) := Classical.choose_spec (Classical.choose_spec (op_ex (bi l)))
theorem opN_pos {l : List UInt8} (h : opN l ≠ 0) : 40 ≤ opK l ∧ opK l < 88 ∧ opN l = (txl (opK l)).length ∧ l.take (opN l) = txl (opK l) := by
 rcases op_is l with ⟨_, h2, _⟩ | ⟨h1, h2, h3, h4, _⟩
 ·exact absurd h2 h
 ·rw [tx_size] at h3
  refine ⟨h1, h2, h3, ?_⟩
  obtain ⟨t, ht⟩ := beg_pre.1 h4
  have e : l.take (opN l) = (txl (opK l) ++ t).take (opN l) := by rw [ht]
  rw [e, List.take_append_of_le_length (by omega), List.take_of_length_le (by omega)]
theorem opN_zero {l : List UInt8} (h : opN l = 0) : ∀ j, 40 ≤ j → j < 88 → ¬ txl j <+: l := by
 rcases op_is l with ⟨_, _, h3⟩ | ⟨h1, h2, h3, _, _⟩
 ·intro j a b hb
  exact h3 j a b (beg_pre.2 hb)
 ·rw [tx_size] at h3
  have := txl_op h1 h2
  omega
theorem opN_le (l : List UInt8) : opN l ≤ l.length := by
 rcases op_is l with ⟨_, h2, _⟩ | ⟨h1, h2, h3, h4, _⟩
 ·omega
 ·have := (beg_pre.1 h4).length_le
  rw [tx_size] at h3
  omega
theorem op_alone {l : List UInt8} (h : opN l ≠ 0) : opK (l.take (opN l)) = opK l ∧ opN (l.take (opN l)) = opN l := by
 refine OpIs.uniq (op_is _) ?_
 obtain ⟨h1, h2, h3, h4⟩ := opN_pos h
 refine .inr ⟨h1, h2, by rw [tx_size]; exact h3, beg_pre.2 (by rw [h4]; exact List.prefix_refl _), fun j a b hb => ?_⟩
 have := (beg_pre.1 hb).length_le
 rw [tx_size]
 rw [List.length_take] at this
 omega
end Go.Proofs.YtgkhjeefcflmcaaGreatDoor
namespace Go.Proofs.YtgkhjeefcflmcaaGreatDoor
open Go.RowKit Go.Sort
set_option linter.unusedSimpArgs false
structure Pc where
 k : Nat
 s : Nat
 e : Nat
 b : Bool
noncomputable def numP (l : List UInt8) : Pc := ⟨if valE (l.take (bodyZ l)) ≠ 0 then 6 else (kndZ (l.take (bodyZ l))).toNat, bodyZ l, valE (l.take (bodyZ l)), false⟩
def litP (l : List UInt8) : Pc := ⟨if (scanL l).2.2 ≠ 0 then 6 else (scanL l).1, (scanL l).2.1, (scanL l).2.2, false⟩
open Classical in
noncomputable def litF (l : List UInt8) (z : Pc) : Pc :=
 if begL l = true then numP l else if (scanL l).2.1 ≠ 0 then litP l else if opN l ≠ 0 then ⟨opK l, opN l, 0, false⟩ else z
noncomputable def oneF (l : List UInt8) : Pc :=
 match dcF l with
 | some (r, n) => if letB r = true then ⟨kwK (l.take (wordF l)), wordF l, 0, false⟩ else litF l ⟨6, n, 15, false⟩
 | none => litF l ⟨6, 1, 3, false⟩
theorem oneF_name {l : List UInt8} {r : Int} {n : Nat} (h : dcF l = some (r, n)) (h2 : letB r = true) : oneF l = ⟨kwK (l.take (wordF l)), wordF l, 0, false⟩ := by
 unfold oneF; rw [h]; exact if_pos h2
theorem oneF_rune {l : List UInt8} {r : Int} {n : Nat} (h : dcF l = some (r, n)) (h2 : ¬ letB r = true) : oneF l = litF l ⟨6, n, 15, false⟩ := by
 unfold oneF; rw [h]; exact if_neg h2
theorem oneF_none {l : List UInt8} (h : dcF l = none) : oneF l = litF l ⟨6, 1, 3, false⟩ := by
 unfold oneF; rw [h]
theorem litF_num {l : List UInt8} (z : Pc) (h : begL l = true) : litF l z = numP l := if_pos h
theorem litF_lit {l : List UInt8} (z : Pc) (h : ¬ begL l = true) (h2 : (scanL l).2.1 ≠ 0) : litF l z = litP l := by unfold litF; rw [if_neg h, if_pos h2]
theorem litF_op {l : List UInt8} (z : Pc) (h : ¬ begL l = true) (h2 : (scanL l).2.1 = 0) (h3 : opN l ≠ 0) : litF l z = ⟨opK l, opN l, 0, false⟩ := by
 unfold litF; rw [if_neg h, if_neg (by omega), if_pos h3]
theorem litF_no {l : List UInt8} (z : Pc) (h : ¬ begL l = true) (h2 : (scanL l).2.1 = 0) (h3 : opN l = 0) : litF l z = z := by
 unfold litF; rw [if_neg h, if_neg (by omega), if_neg (by omega)]
theorem litF_all (P : Pc → Prop) {l : List UInt8} {z : Pc} (h1 : begL l = true → P (numP l)) (h2 : ¬ begL l = true → (scanL l).2.1 ≠ 0 → P (litP l))
  (h3 : ¬ begL l = true → (scanL l).2.1 = 0 → opN l ≠ 0 → P ⟨opK l, opN l, 0, false⟩) (h4 : ¬ begL l = true → (scanL l).2.1 = 0 → opN l = 0 → P z) : P (litF l z) := by
 by_cases a : begL l = true
 ·rw [litF_num _ a]; exact h1 a
 ·by_cases b : (scanL l).2.1 = 0
  ·by_cases c : opN l = 0
   ·rw [litF_no _ a b c]; exact h4 a b c
   ·rw [litF_op _ a b c]; exact h3 a b c
  ·rw [litF_lit _ a b]; exact h2 a b
structure TokP (l : List UInt8) (p : Pc) : Prop where
 k0 : p.k ≠ 0
 s0 : 1 ≤ p.s
 sl : p.s ≤ l.length
 bd : p.k = 6 ↔ p.e ≠ 0
 nb : p.b = false
 ke : p.k < 88
theorem TokP.of {l : List UInt8} {k s e : Nat} (h1 : k ≠ 0) (h2 : 1 ≤ s) (h3 : s ≤ l.length) (h4 : k = 6 ↔ e ≠ 0) (h5 : k < 88) : TokP l ⟨k, s, e, false⟩ := ⟨h1, h2, h3, h4, rfl, h5⟩
theorem numP_tok {l : List UInt8} (h : begL l = true) : TokP l (numP l) := by
 have h0 := beg_pos h (bodyZ_is l)
 have h1 := (bodyZ_is l).1
 unfold numP
 rcases kndZ_is (l.take (bodyZ l)) with hk | hk <;> rw [hk] <;>
 ·by_cases he : valE (l.take (bodyZ l)) = 0
  ·exact ⟨by simp [he], Nat.one_le_iff_ne_zero.2 h0, h1, by simp [he], rfl, by simp [he]⟩
  ·exact ⟨by simp [he], Nat.one_le_iff_ne_zero.2 h0, h1, by simp [he], rfl, by simp [he]⟩
theorem litP_tok {l : List UInt8} (h : (scanL l).2.1 ≠ 0) : TokP l (litP l) := by
 have h1 := scanL_le l
 have h2 := scanL_kind l h
 unfold litP
 by_cases he : (scanL l).2.2 = 0
 ·refine ⟨?_, Nat.one_le_iff_ne_zero.2 h, h1, ?_, rfl, ?_⟩ <;> simp only [he, ne_eq, not_true_eq_false, if_false] <;> rcases h2 with h2 | h2 <;> rw [h2] <;> simp
 ·refine ⟨?_, Nat.one_le_iff_ne_zero.2 h, h1, ?_, rfl, ?_⟩ <;> simp only [he, ne_eq, not_false_eq_true, if_true] <;> simp [he]
theorem litF_tok {l : List UInt8} {z : Pc} (hz : TokP l z) : TokP l (litF l z) := by
 refine litF_all (TokP l) numP_tok (fun _ h => litP_tok h) (fun _ _ h => ?_) (fun _ _ _ => hz)
 obtain ⟨h1, h2, h3, _⟩ := opN_pos h
 exact ⟨by show opK l ≠ 0; omega, by show 1 ≤ opN l; omega, opN_le l, ⟨fun e => by have : opK l = 6 := e; omega, fun e => absurd rfl e⟩, rfl, h2⟩
theorem oneF_tok {c : UInt8} {t : List UInt8} : TokP (c :: t) (oneF (c :: t)) := by
 cases hd : dcF (c :: t) with
 | none =>
  rw [oneF_none hd]
  exact litF_tok ⟨by decide, Nat.le_refl _, by simp, by decide, rfl, by decide⟩
 | some p =>
  obtain ⟨r, n⟩ := p
  have hs := dcF_size hd
  by_cases hl : letB r = true
  ·rw [oneF_name hd hl]
   have h1 := wordF_go hd (.inl hl)
   have h2 := wordF_le _ (c :: t) (Nat.le_refl _)
   have h3 := kwK_is ((c :: t).take (wordF (c :: t)))
   generalize kwK ((c :: t).take (wordF (c :: t))) = K at h3 ⊢
   generalize wordF ((c :: t).drop n) = V at h1
   generalize wordF (c :: t) = W at h1 h2 ⊢
   exact TokP.of (by omega) (by omega) h2 ⟨fun e => by omega, fun e => absurd rfl e⟩ (by omega)
  ·rw [oneF_rune hd hl]
   exact litF_tok (TokP.of (by decide) hs.1 hs.2.2 (by decide) (by decide))
theorem takeS_cons {c : UInt8} {t : List UInt8} {s : Nat} (h : 1 ≤ s) : (c :: t).take s = c :: t.take (s - 1) := by
 obtain ⟨j, rfl⟩ : ∃ j, s = j + 1 := ⟨s - 1, by omega⟩
 rfl
def headB (p : UInt8 → Bool) : List UInt8 → Bool
 | [] => false
 | c :: _ => p c
theorem begL_cons (c : UInt8) (t : List UInt8) : begL (c :: t) = (isDig c.toNat || (c == 46 && headB (fun d => isDig d.toNat) t)) := by
 cases t <;> rfl
theorem begL_digs {c : UInt8} {t : List UInt8} (h : begL (c :: t) = true) : c.toNat < 128 := by
 rw [begL_cons] at h
 have h1 := h
 rw [Bool.or_eq_true] at h1
 rcases h1 with h1 | h1
 ·have := of_decide_eq_true h1
  omega
 ·rw [Bool.and_eq_true] at h1
  have : c = 46 := by simpa using h1.1
  subst this
  decide
theorem quote_asc {c : UInt8} {t : List UInt8} (h : (scanL (c :: t)).2.1 ≠ 0) : c = 39 ∨ c = 34 ∨ c = 96 := by
 by_cases hc : c = 39 ∨ c = 34 ∨ c = 96
 ·exact hc
 ·rw [scanL_no _ hc] at h; exact absurd rfl h
def noOther (x : List UInt8) : Bool := headB (fun c => c.toNat < 128 && !letB c.toNat && !(c == 32 || c == 9 || c == 13 || c == 10) && !(c == 39 || c == 34 || c == 96)) x && !begL x && (cmtF x).isNone
theorem txl_other {j : Nat} (h : 40 ≤ j) (h2 : j < 88) : noOther (txl j) = true := by
 have := tab_all (p := fun k => decide (k < 40) || noOther (txl k)) (n := 88) (by decide +kernel) h2
 rw [Bool.or_eq_true] at this
 rcases this with h3 | h3
 ·have := of_decide_eq_true h3; omega
 ·exact h3
theorem oneF_alone {c : UInt8} {t : List UInt8} : oneF ((c :: t).take (oneF (c :: t)).s) = oneF (c :: t) := by
 have hT := oneF_tok (c := c) (t := t)
 have hnum : ¬ (∃ r n, dcF (c :: t) = some (r, n) ∧ letB r = true) → begL (c :: t) = true → oneF ((c :: t).take (numP (c :: t)).s) = numP (c :: t) := by
  intro hw hb
  have hc := begL_digs hb
  have h0 : 1 ≤ bodyZ (c :: t) := Nat.one_le_iff_ne_zero.2 (beg_pos hb (bodyZ_is _))
  have hd := dcF_ascii hc t
  have hl : ¬ letB (c.toNat : Int) = true := fun e => hw ⟨_, _, hd, e⟩
  have h1 : begL ((c :: t).take (bodyZ (c :: t))) = true := begL_take hb (bodyZ_is _)
  have h2 := bodyZ_take hb
  show oneF ((c :: t).take (bodyZ (c :: t))) = _
  have hd2 : dcF ((c :: t).take (bodyZ (c :: t))) = some ((c.toNat : Int), 1) := by rw [takeS_cons h0]; exact dcF_ascii hc _
  rw [oneF_rune hd2 hl, litF_num _ h1]
  unfold numP
  rw [h2, List.take_take, Nat.min_self]
 have hlit : ¬ (∃ r n, dcF (c :: t) = some (r, n) ∧ letB r = true) → ¬ begL (c :: t) = true → (scanL (c :: t)).2.1 ≠ 0 → oneF ((c :: t).take (litP (c :: t)).s) = litP (c :: t) := by
  intro hw hb hq
  have hc := quote_asc hq
  have hc1 : c.toNat < 128 := by rcases hc with rfl | rfl | rfl <;> decide
  have hd := dcF_ascii hc1 t
  have hl : ¬ letB (c.toNat : Int) = true := fun e => hw ⟨_, _, hd, e⟩
  have h1 : scanL ((c :: t).take (scanL (c :: t)).2.1) = scanL (c :: t) := (scanL_alone (c :: t)).resolve_right hq
  have h0 : 1 ≤ (scanL (c :: t)).2.1 := Nat.one_le_iff_ne_zero.2 hq
  show oneF ((c :: t).take (scanL (c :: t)).2.1) = _
  have hd2 : dcF ((c :: t).take (scanL (c :: t)).2.1) = some ((c.toNat : Int), 1) := by rw [takeS_cons h0]; exact dcF_ascii hc1 _
  have hb2 : ¬ begL ((c :: t).take (scanL (c :: t)).2.1) = true := by
   rw [takeS_cons h0]
   intro e
   rcases hc with rfl | rfl | rfl <;> cases e
  rw [oneF_rune hd2 hl, litF_lit _ hb2 (by rw [h1]; exact hq)]
  unfold litP
  rw [h1]
 have hop : opN (c :: t) ≠ 0 → oneF ((c :: t).take (opN (c :: t))) = ⟨opK (c :: t), opN (c :: t), 0, false⟩ := by
  intro ho
  obtain ⟨h1, h2, h3, h4⟩ := opN_pos ho
  have h5 := op_alone ho
  have h6 := txl_other h1 h2
  rw [← h4] at h6
  rw [takeS_cons (by omega)] at h6 h5 ⊢
  unfold noOther at h6
  have h7 : (((decide (c.toNat < 128) && !letB c.toNat && !(c == 32 || c == 9 || c == 13 || c == 10) && !(c == 39 || c == 34 || c == 96)) && !begL (c :: t.take (opN (c :: t) - 1))) && (cmtF (c :: t.take (opN (c :: t) - 1))).isNone) = true := h6
  simp only [Bool.and_eq_true, Bool.not_eq_true'] at h7
  obtain ⟨⟨⟨⟨⟨g1, g2⟩, g3⟩, g4⟩, g5⟩, g6⟩ := h7
  have g1' := of_decide_eq_true g1
  have g7 : ¬ (c = 39 ∨ c = 34 ∨ c = 96) := by
   rintro (rfl | rfl | rfl) <;> cases g4
  rw [oneF_rune (dcF_ascii g1' _) (by rw [g2]; exact Bool.false_ne_true), litF_op _ (by rw [g5]; exact Bool.false_ne_true) (by rw [scanL_no _ g7]) (by rw [h5.2]; exact ho), h5.1, h5.2]
 have hno : ∀ (n : Nat), 1 ≤ n → (128 ≤ c.toNat ∨ n = 1) → ¬ begL (c :: t) = true → (scanL (c :: t)).2.1 = 0 → opN (c :: t) = 0 →
   ∀ z : Pc, litF ((c :: t).take n) z = z := by
  intro n h1 hn hb hq ho z
  refine litF_no _ ?_ ?_ ?_
  ·intro e
   apply hb
   rw [takeS_cons h1] at e
   have hlow := begL_digs e
   have hn1 : n = 1 := by rcases hn with h | h <;> omega
   subst hn1
   have e' : (isDig c.toNat || (c == 46 && false)) = true := e
   rw [Bool.and_false, Bool.or_false] at e'
   show (isDig c.toNat || _) = true
   rw [e', Bool.true_or]
  ·rw [takeS_cons h1]
   have : ¬ (c = 39 ∨ c = 34 ∨ c = 96) := fun e => by
    rw [scanL_q _ e, litA_eqn] at hq
    cases hq
   rw [scanL_no _ this]
  ·by_cases h3 : opN ((c :: t).take n) = 0
   ·exact h3
   ·obtain ⟨g1, g2, g3, g4⟩ := opN_pos h3
    have := opN_zero ho _ g1 g2
    rw [← g4] at this
    exact absurd ((List.take_prefix ..).trans (List.take_prefix ..)) this
 cases hd : dcF (c :: t) with
 | none =>
  have hw : ¬ (∃ r n, dcF (c :: t) = some (r, n) ∧ letB r = true) := by rintro ⟨r, n, e, _⟩; rw [hd] at e; cases e
  rw [oneF_none hd]
  refine litF_all (fun p => oneF ((c :: t).take p.s) = p) (hnum hw) (hlit hw) (fun _ _ => hop) (fun a b d => ?_)
  show oneF [c] = _
  have h1 := hno 1 (Nat.le_refl _) (.inr rfl) a b d ⟨6, 1, 3, false⟩
  rw [oneF_none (dcF_none1 hd)]
  exact h1
 | some p =>
  obtain ⟨r, n⟩ := p
  have hs := dcF_size hd
  by_cases hl : letB r = true
  ·rw [oneF_name hd hl]
   have h1 := wordF_go hd (.inl hl)
   have h2 := wordF_alone _ (c :: t) (Nat.le_refl _)
   dsimp only
   have h3 := oneF_name (dcF_take hd (m := wordF (c :: t)) (by omega)) hl
   rw [h2, List.take_take, Nat.min_self] at h3
   exact h3
  ·have hw : ¬ (∃ r n, dcF (c :: t) = some (r, n) ∧ letB r = true) := by
    rintro ⟨r', n', e, e2⟩
    rw [hd] at e
    cases e
    exact hl e2
   rw [oneF_rune hd hl]
   refine litF_all (fun p => oneF ((c :: t).take p.s) = p) (hnum hw) (hlit hw) (fun _ _ => hop) (fun a b d => ?_)
   show oneF ((c :: t).take n) = _
   rw [oneF_rune (dcF_take hd (Nat.le_refl _)) hl]
   refine hno n hs.1 ?_ a b d _
   by_cases hc : 128 ≤ c.toNat
   ·exact .inl hc
   ·rw [dcF_ascii (by omega)] at hd
    cases hd
    exact .inr rfl
end Go.Proofs.YtgkhjeefcflmcaaGreatDoor
