/-
  Layer 11 (scan) as mathematics: the piece at the head of a list of bytes, and the tokens of a list of bytes.
-/
import Derived.Test.YtgkhjeefcflmcaaGreatDoorMx22
import Derived.Test.YtgkhjeefcflmcaaGreatDoorMx30
import Derived.Test.YtgkhjeefcflmcaaGreatDoorMx23
namespace Go.Proofs.YtgkhjeefcflmcaaGreatDoor
open Go.RowKit Go.Sort
set_option linter.unusedSimpArgs false
def letB (r : Int) : Bool := if r = 95 ∨ (97 ≤ r ∧ r ≤ 122) ∨ (65 ≤ r ∧ r ≤ 90) then true else decide (192 ≤ r ∧ r ≤ 591 ∧ r ≠ 215 ∧ r ≠ 247)
def digB (r : Int) : Bool := decide (48 ≤ r ∧ r ≤ 57)
def dcF (l : List UInt8) : Option (Int × Nat) := U.dec (bi l)
theorem dcF_size {l : List UInt8} {r : Int} {n : Nat} (h : dcF l = some (r, n)) : 1 ≤ n ∧ n ≤ 4 ∧ n ≤ l.length := by
 obtain ⟨h1, h2, t, h3⟩ := U.enc_dec h
 have := U.rlen_pos r
 have h4 := congrArg List.length h3
 rw [bi_length, List.length_append, U.enc_length] at h4
 omega
theorem dcF_take {l : List UInt8} {r : Int} {n m : Nat} (h : dcF l = some (r, n)) (hm : n ≤ m) : dcF (l.take m) = some (r, n) := by
 obtain ⟨h1, h2, t, h3⟩ := U.enc_dec h
 have h4 : bi (l.take m) = U.enc r ++ t.take (m - n) := by
  rw [← bi_take, h3, List.take_append, U.enc_length, ← h2, List.take_of_length_le (by rw [U.enc_length, ← h2]; exact hm)]
 show U.dec (bi (l.take m)) = _
 rw [h4, h2]
 exact U.dec_enc h1 _
theorem dcF_app {l : List UInt8} {r : Int} {n : Nat} (h : dcF l = some (r, n)) (u : List UInt8) : dcF (l ++ u) = some (r, n) := by
 obtain ⟨h1, h2, t, h3⟩ := U.enc_dec h
 show U.dec (bi (l ++ u)) = _
 rw [← bi_app, h3, h2, List.append_assoc]
 exact U.dec_enc h1 _
theorem dcF_ascii {c : UInt8} (h : c.toNat < 128) (t : List UInt8) : dcF (c :: t) = some ((c.toNat : Int), 1) := by
 have h1 : U.isRune (c.toNat : Int) = true := U.isRune_iff.2 (by omega)
 have h2 : U.enc (c.toNat : Int) = [(c.toNat : Int)] := by unfold U.enc; rw [if_pos (by omega)]
 have h3 := U.dec_enc h1 (bi t)
 have h4 : U.rlen (c.toNat : Int) = 1 := by unfold U.rlen; rw [if_pos (by omega)]
 rw [h2, h4] at h3
 exact h3
theorem dcF_none1 {c : UInt8} {t : List UInt8} (h : dcF (c :: t) = none) : dcF [c] = none := by
 cases h1 : dcF [c] with
 | none => rfl
 | some p =>
  have h2 := dcF_app (r := p.1) (n := p.2) h1 t
  rw [List.singleton_append, h] at h2
  cases h2
theorem dcF_in {c : UInt8} {r u : List UInt8} {v : Int} {n : Nat} (h : dcF (c :: (r ++ 10 :: u)) = some (v, n)) : n ≤ r.length + 1 := by
 obtain ⟨h1, h2, t, h3⟩ := U.enc_dec h
 obtain ⟨c0, t0, h4, _, h6, _, h8⟩ := U.enc_head h1
 by_cases hn : n ≤ r.length + 1
 ·exact hn
 ·have h9 : (bi (c :: (r ++ 10 :: u)))[r.length + 1]? = some 10 := by
   show (bi (r ++ 10 :: u))[r.length]? = some 10
   rw [← bi_app, List.getElem?_append_right (by rw [bi_length]; exact Nat.le_refl _), bi_length, Nat.sub_self]
   rfl
  rw [h3, h4, List.cons_append, List.getElem?_cons_succ, List.getElem?_append_left (by omega)] at h9
  exact absurd (h6 10 (List.mem_of_getElem? h9)) (by decide)
theorem dcF_lf (c : UInt8) (r u : List UInt8) : dcF (c :: (r ++ 10 :: u)) = dcF (c :: r) := by
 cases h : dcF (c :: (r ++ 10 :: u)) with
 | none =>
  cases h1 : dcF (c :: r) with
  | none => rfl
  | some p =>
   have h2 := dcF_app (r := p.1) (n := p.2) h1 (10 :: u)
   rw [List.cons_append, h] at h2
   cases h2
 | some p =>
  have h2 := dcF_take (r := p.1) (n := p.2) h (dcF_in (v := p.1) (n := p.2) h)
  rw [List.take_succ_cons, List.take_left'] at h2
  ·exact h2.symm
  ·rfl
def stepW (p : Option (Int × Nat)) (k : Nat → Nat) : Nat :=
 match p with
 | none => 0
 | some (r, n) => if letB r = true ∨ digB r = true then k n + n else 0
def wordG : Nat → List UInt8 → Nat
 | 0, _ => 0
 | _ + 1, [] => 0
 | f + 1, c :: t => stepW (dcF (c :: t)) fun n => wordG f (t.drop (n - 1))
theorem wordG_nil : ∀ f : Nat, wordG f [] = 0
 | 0 => rfl
 | _ + 1 => rfl
theorem wordG_cons (f : Nat) (c : UInt8) (t : List UInt8) : wordG (f + 1) (c :: t) = stepW (dcF (c :: t)) fun n => wordG f (t.drop (n - 1)) := rfl
theorem wordG_none {f : Nat} {c : UInt8} {t : List UInt8} (h : dcF (c :: t) = none) : wordG (f + 1) (c :: t) = 0 := by
 rw [wordG_cons, h]; rfl
theorem wordG_some {f : Nat} {c : UInt8} {t : List UInt8} {r : Int} {n : Nat} (h : dcF (c :: t) = some (r, n)) : wordG (f + 1) (c :: t) = if letB r = true ∨ digB r = true then wordG f (t.drop (n - 1)) + n else 0 := by
 rw [wordG_cons, h]; rfl
theorem wordG_fuel : ∀ (f g : Nat) (l : List UInt8), l.length ≤ f → l.length ≤ g → wordG f l = wordG g l
 | f, g, [], _, _ => by rw [wordG_nil, wordG_nil]
 | 0, _, _ :: _, h, _ => by simp at h
 | _ + 1, 0, _ :: _, _, h => by simp at h
 | f + 1, g + 1, c :: t, hf, hg => by
  cases hd : dcF (c :: t) with
  | none => rw [wordG_none hd, wordG_none hd]
  | some p =>
   obtain ⟨r, n⟩ := p
   rw [wordG_some hd, wordG_some hd, wordG_fuel f g (t.drop (n - 1)) (by rw [List.length_drop]; simp only [List.length_cons] at hf; omega) (by rw [List.length_drop]; simp only [List.length_cons] at hg; omega)]
def wordF (l : List UInt8) : Nat := wordG l.length l
theorem wordF_nil : wordF [] = 0 := rfl
theorem wordF_none {c : UInt8} {t : List UInt8} (h : dcF (c :: t) = none) : wordF (c :: t) = 0 := wordG_none h
theorem wordF_no {c : UInt8} {t : List UInt8} {r : Int} {n : Nat} (h : dcF (c :: t) = some (r, n)) (h2 : ¬ (letB r = true ∨ digB r = true)) : wordF (c :: t) = 0 := (wordG_some h).trans (if_neg h2)
theorem wordF_go {c : UInt8} {t : List UInt8} {r : Int} {n : Nat} (h : dcF (c :: t) = some (r, n)) (h2 : letB r = true ∨ digB r = true) : wordF (c :: t) = wordF ((c :: t).drop n) + n := by
 obtain ⟨m, rfl⟩ : ∃ m, n = m + 1 := ⟨n - 1, by have := dcF_size h; omega⟩
 refine ((wordG_some h).trans (if_pos h2)).trans ?_
 show wordG t.length (t.drop m) + (m + 1) = wordG (t.drop m).length (t.drop m) + (m + 1)
 rw [wordG_fuel t.length (t.drop m).length (t.drop m) (by rw [List.length_drop]; omega) (Nat.le_refl _)]
theorem wordF_le : ∀ (f : Nat) (l : List UInt8), l.length ≤ f → wordF l ≤ l.length
 | _, [], _ => by rw [wordF_nil]; exact Nat.le_refl _
 | 0, _ :: _, h => by simp at h
 | f + 1, c :: t, h => by
  cases hd : dcF (c :: t) with
  | none => rw [wordF_none hd]; omega
  | some p =>
   obtain ⟨r, n⟩ := p
   by_cases h2 : letB r = true ∨ digB r = true
   ·have hs := dcF_size hd
    rw [wordF_go hd h2]
    have := wordF_le f ((c :: t).drop n) (by rw [List.length_drop]; omega)
    rw [List.length_drop] at this
    omega
   ·rw [wordF_no hd h2]; omega
theorem wordF_lf : ∀ (f : Nat) (r u : List UInt8), r.length ≤ f → wordF (r ++ 10 :: u) = wordF r
 | _, [], u, _ => by
  rw [wordF_nil, List.nil_append]
  exact wordF_no (dcF_ascii (by decide) u) (by decide)
 | 0, _ :: _, _, h => by simp at h
 | f + 1, c :: t, u, h => by
  have hd1 := dcF_lf c t u
  rw [List.cons_append]
  cases hd : dcF (c :: t) with
  | none => rw [wordF_none hd, wordF_none (hd1.trans hd)]
  | some p =>
   obtain ⟨r, n⟩ := p
   by_cases h2 : letB r = true ∨ digB r = true
   ·have hs := dcF_size hd
    rw [wordF_go hd h2, wordF_go (hd1.trans hd) h2, ← List.cons_append, List.drop_append_of_le_length hs.2.2, wordF_lf f ((c :: t).drop n) u (by rw [List.length_drop]; omega)]
   ·rw [wordF_no hd h2, wordF_no (hd1.trans hd) h2]
theorem wordF_alone : ∀ (f : Nat) (l : List UInt8), l.length ≤ f → wordF (l.take (wordF l)) = wordF l
 | _, [], _ => rfl
 | 0, _ :: _, h => by simp at h
 | f + 1, c :: t, h => by
  cases hd : dcF (c :: t) with
  | none => rw [wordF_none hd]; exact wordF_nil
  | some p =>
   obtain ⟨r, n⟩ := p
   by_cases h2 : letB r = true ∨ digB r = true
   ·have hs := dcF_size hd
    have h1 := wordF_go hd h2
    have h3 := dcF_take hd (m := wordF (c :: t)) (by omega)
    have ih := wordF_alone f ((c :: t).drop n) (by rw [List.length_drop]; omega)
    have h4 : ((c :: t).take (wordF (c :: t))).drop n = ((c :: t).drop n).take (wordF ((c :: t).drop n)) := by rw [List.drop_take, h1, Nat.add_sub_cancel]
    obtain ⟨m, hm⟩ : ∃ m, wordF (c :: t) = m + 1 := ⟨wordF (c :: t) - 1, by omega⟩
    rw [hm, List.take_succ_cons] at h3 h4
    rw [hm, List.take_succ_cons, wordF_go h3 h2, h4, ih, ← h1, hm]
   ·rw [wordF_no hd h2]; exact wordF_nil
def lineN : List UInt8 → Nat
 | [] => 0
 | c :: t => if c = 10 then 0 else lineN t + 1
theorem lineN_le : ∀ l : List UInt8, lineN l ≤ l.length
 | [] => Nat.le_refl _
 | c :: t => by
  unfold lineN
  split
  ·omega
  ·have := lineN_le t; simp only [List.length_cons]; omega
theorem lineN_lf : ∀ r u : List UInt8, lineN (r ++ 10 :: u) = lineN r
 | [], _ => rfl
 | c :: t, u => by
  rw [List.cons_append]
  unfold lineN
  rw [lineN_lf t u]
theorem lineN_take : ∀ (l : List UInt8) (m : Nat), lineN l ≤ m → lineN (l.take m) = lineN l
 | [], _, _ => by rw [List.take_nil]
 | c :: t, 0, h => by rw [List.take_zero]; exact (Nat.le_zero.1 h).symm
 | c :: t, m + 1, h => by
  rw [List.take_succ_cons]
  unfold lineN at h ⊢
  split
  ·rfl
  ·next hc =>
   rw [if_neg hc] at h
   rw [lineN_take t m (by omega)]
def genF : List UInt8 → Nat × Bool × Bool
 | [] => (0, false, false)
 | c :: t => if c = 42 ∧ t.head? = some 47 then (2, true, false) else ((genF t).1 + 1, (genF t).2.1, (c == 10) || (genF t).2.2)
theorem genF_le : ∀ l : List UInt8, (genF l).1 ≤ l.length ∧ ((genF l).2.1 = false → (genF l).1 = l.length)
 | [] => ⟨Nat.le_refl _, fun _ => rfl⟩
 | c :: t => by
  unfold genF
  split
  ·next h =>
   cases t with
   | nil => cases h.2
   | cons d t => exact ⟨by simp, fun h => by cases h⟩
  ·have := genF_le t
   simp only [List.length_cons]
   exact ⟨by omega, fun h => by rw [this.2 h]⟩
theorem genF_ext : ∀ (l u : List UInt8), (genF l).2.1 = true → genF (l ++ u) = genF l
 | [], _, h => by cases h
 | c :: t, u, h => by
  rw [List.cons_append]
  unfold genF at h ⊢
  by_cases hc : c = 42 ∧ t.head? = some 47
  ·rw [if_pos hc, if_pos ⟨hc.1, by cases t with | nil => cases hc.2 | cons d t => exact hc.2⟩]
  ·rw [if_neg hc] at h
   have ht : t ≠ [] := fun e => by subst e; cases h
   rw [if_neg hc, if_neg (fun e => hc ⟨e.1, by cases t with | nil => exact absurd rfl ht | cons d t => exact e.2⟩), genF_ext t u h]
theorem genF_take : ∀ (l : List UInt8) (m : Nat), (genF l).2.1 = true → (genF l).1 ≤ m → genF (l.take m) = genF l
 | [], _, h, _ => by cases h
 | c :: t, m, h, hm => by
  unfold genF at h hm
  by_cases hc : c = 42 ∧ t.head? = some 47
  ·rw [if_pos hc] at hm
   obtain ⟨j, rfl⟩ : ∃ j, m = j + 2 := ⟨m - 2, by simp only at hm; omega⟩
   cases t with
   | nil => cases hc.2
   | cons d t =>
    rw [List.take_succ_cons, List.take_succ_cons]
    unfold genF
    rw [if_pos hc, if_pos ⟨hc.1, hc.2⟩]
  ·rw [if_neg hc] at h hm
   obtain ⟨j, rfl⟩ : ∃ j, m = j + 1 := ⟨m - 1, by simp only at hm; omega⟩
   have ih := genF_take t j h (by simp only at hm; omega)
   rw [List.take_succ_cons]
   unfold genF
   rw [if_neg hc, if_neg (fun e => hc ⟨e.1, by
    cases t with
    | nil => rw [List.take_nil] at e; cases e.2
    | cons d t => cases j with
     | zero => cases e.2
     | succ j => exact e.2⟩), ih]
theorem genF_lf : ∀ (r : List UInt8), (genF r).2.1 = false → (genF (r ++ [10])).2.1 = false
 | [], _ => rfl
 | c :: t, h => by
  rw [List.cons_append]
  unfold genF at h ⊢
  by_cases hc : c = 42 ∧ t.head? = some 47
  ·rw [if_pos hc] at h; cases h
  ·rw [if_neg hc] at h
   rw [if_neg (fun e => hc ⟨e.1, by cases t with | nil => cases e.2 | cons d t => exact e.2⟩)]
   exact genF_lf t h
theorem genF_pos {l : List UInt8} (h : (genF l).2.1 = true) : 2 ≤ (genF l).1 := by
 induction l with
 | nil => cases h
 | cons c t ih =>
  unfold genF at h ⊢
  split
  ·exact Nat.le_refl _
  ·next hc =>
   rw [if_neg hc] at h
   have := ih h
   simp only
   omega
def cmtF : List UInt8 → Option (Nat × Bool × Bool)
 | a :: c :: t => if a = 47 then (if c = 47 then some (lineN t + 2, true, false) else if c = 42 then some ((genF t).1 + 2, (genF t).2.1, (genF t).2.2) else none) else none
 | _ => none
theorem cmtF_head {c : UInt8} (t : List UInt8) (h : c ≠ 47) : cmtF (c :: t) = none := by
 cases t with
 | nil => rfl
 | cons d t => exact if_neg h
theorem cmtF_line (t : List UInt8) : cmtF (47 :: 47 :: t) = some (lineN t + 2, true, false) := rfl
theorem cmtF_gen (t : List UInt8) : cmtF (47 :: 42 :: t) = some ((genF t).1 + 2, (genF t).2.1, (genF t).2.2) := rfl
theorem cmtF_no {c : UInt8} (t : List UInt8) (h : c ≠ 47) (h2 : c ≠ 42) : cmtF (47 :: c :: t) = none := by
 have e : cmtF (47 :: c :: t) = if (47 : UInt8) = 47 then (if c = 47 then some (lineN t + 2, true, false) else if c = 42 then some ((genF t).1 + 2, (genF t).2.1, (genF t).2.2) else none) else none := rfl
 rw [e, if_pos rfl, if_neg h, if_neg h2]
theorem cmtF_cases (l : List UInt8) : cmtF l = none ∨ (∃ t, l = 47 :: 47 :: t) ∨ ∃ t, l = 47 :: 42 :: t := by
 cases l with
 | nil => exact .inl rfl
 | cons a t =>
  by_cases ha : a = 47
  ·subst ha
   cases t with
   | nil => exact .inl rfl
   | cons c t =>
    by_cases h1 : c = 47
    ·subst h1; exact .inr (.inl ⟨t, rfl⟩)
    ·by_cases h2 : c = 42
     ·subst h2; exact .inr (.inr ⟨t, rfl⟩)
     ·exact .inl (cmtF_no t h1 h2)
  ·exact .inl (cmtF_head t ha)
theorem cmtF_size {l : List UInt8} {n : Nat} {k b : Bool} (h : cmtF l = some (n, k, b)) : 2 ≤ n ∧ n ≤ l.length ∧ (k = false → n = l.length) := by
 rcases cmtF_cases l with h1 | ⟨t, rfl⟩ | ⟨t, rfl⟩
 ·rw [h1] at h; cases h
 ·have := lineN_le t
  rw [cmtF_line] at h
  cases h
  exact ⟨by omega, by simp only [List.length_cons]; omega, fun h => by cases h⟩
 ·have := genF_le t
  rw [cmtF_gen] at h
  cases h
  exact ⟨by omega, by simp only [List.length_cons]; omega, fun h2 => by have h3 := this.2 h2; simp only [List.length_cons]; omega⟩
theorem cmtF_take {l : List UInt8} {n m : Nat} {b : Bool} (h : cmtF l = some (n, true, b)) (hm : n ≤ m) : cmtF (l.take m) = some (n, true, b) := by
 have hs := cmtF_size h
 obtain ⟨j, rfl⟩ : ∃ j, m = j + 2 := ⟨m - 2, by omega⟩
 rcases cmtF_cases l with h1 | ⟨t, rfl⟩ | ⟨t, rfl⟩
 ·rw [h1] at h; cases h
 ·rw [cmtF_line] at h
  cases h
  rw [List.take_succ_cons, List.take_succ_cons, cmtF_line, lineN_take t j (by omega)]
 ·rw [cmtF_gen] at h
  obtain ⟨h1, h2⟩ := Prod.mk.inj (Option.some.inj h)
  obtain ⟨h3, h4⟩ := Prod.mk.inj h2
  rw [List.take_succ_cons, List.take_succ_cons, cmtF_gen, genF_take t j h3 (by omega), h1, h3, h4]
def OpenC (r : List UInt8) : Prop := ∃ t, r = 47 :: 42 :: t ∧ (genF t).2.1 = false
theorem cmtF_lf {c : UInt8} {r : List UInt8} (u : List UInt8) (h : ¬ OpenC (c :: r)) : cmtF (c :: (r ++ 10 :: u)) = cmtF (c :: r) := by
 by_cases hc : c = 47
 ·subst hc
  cases r with
  | nil => rfl
  | cons d t =>
   by_cases h1 : d = 47
   ·subst h1
    show cmtF (47 :: 47 :: (t ++ 10 :: u)) = _
    rw [cmtF_line, cmtF_line, lineN_lf]
   ·by_cases h2 : d = 42
    ·subst h2
     show cmtF (47 :: 42 :: (t ++ 10 :: u)) = _
     have h3 : (genF t).2.1 = true := by
      cases h4 : (genF t).2.1 with
      | true => rfl
      | false => exact absurd ⟨t, rfl, h4⟩ h
     rw [cmtF_gen, cmtF_gen, genF_ext t _ h3]
    ·rw [List.cons_append, cmtF_no _ h1 h2, cmtF_no _ h1 h2]
 ·rw [cmtF_head _ hc, cmtF_head _ hc]
end Go.Proofs.YtgkhjeefcflmcaaGreatDoor
namespace Go.Proofs.YtgkhjeefcflmcaaGreatDoor
open Go.RowKit Go.Sort
set_option linter.unusedSimpArgs false
theorem endF_shut {q : UInt8} : ∀ {t : List UInt8} {E : Nat}, endF q t = (E, false) → endF q (t.take E) = (E, false)
 | [], E, h => by cases h; rfl
 | [c], E, h => by
  have h0 := h
  unfold endF at h
  split at h
  ·cases h; rfl
  ·split at h
   ·cases h
   ·cases h; exact h0
 | c :: d :: t, E, h => by
  rw [endF] at h
  split at h
  ·cases h; rfl
  ·rename_i n1
   split at h
   ·cases h
   ·rename_i n2
    split at h
    ·rename_i n3
     cases hE : endF q t with
     | mk E' K' =>
      rw [hE] at h
      cases h
      have i1 := endF_shut hE
      show endF q (c :: d :: t.take E') = _
      rw [endF, if_neg n1, if_neg n2, if_pos n3, i1]
    ·rename_i n3
     cases hE : endF q (d :: t) with
     | mk E' K' =>
      rw [hE] at h
      cases h
      have i1 := endF_shut hE
      cases E' with
      | zero =>
       show endF q [c] = _
       rw [endF, if_neg n1, if_neg n2]
      | succ j =>
       show endF q (c :: d :: t.take j) = _
       rw [endF, if_neg n1, if_neg n2, if_neg n3]
       have i3 : endF q (d :: t.take j) = (j + 1, false) := i1
       rw [i3]
theorem endF_both {q : UInt8} (t : List UInt8) : endF q (t.take (endF q t).1) = endF q t := by
 cases h : endF q t with
 | mk E K =>
  cases K with
  | true => exact (endF_alone h).1
  | false => exact endF_shut h
theorem endF_ext {q : UInt8} (hq : q ≠ 96) : ∀ r u : List UInt8, endF q (r ++ 10 :: u) = endF q r
 | [], u => endF_lf u hq
 | [c], u => by
  show endF q (c :: 10 :: u) = _
  rw [endF, endF]
  split
  ·rfl
  ·split
   ·rfl
   ·rw [if_neg (by intro e; exact e.2.2 rfl), endF_lf u hq]
 | c :: d :: t, u => by
  show endF q (c :: d :: (t ++ 10 :: u)) = _
  have h1 := endF_ext hq t u
  have h2 := endF_ext hq (d :: t) u
  rw [List.cons_append] at h2
  rw [endF, endF, h1, h2]
theorem endF_raw (c : UInt8) (t : List UInt8) (h : c ≠ 96) : endF 96 (c :: t) = ((endF 96 t).1 + 1, (endF 96 t).2) :=
 endF_one t (fun e => e.1 rfl) h (fun e => e.1 rfl)
theorem endF_rawext : ∀ r u : List UInt8, (endF 96 r).2 = true → endF 96 (r ++ u) = endF 96 r
 | [], _, h => by cases h
 | c :: t, u, h => by
  by_cases hc : c = 96
  ·subst hc
   rw [List.cons_append, endF_hit _ (by decide), endF_hit _ (by decide)]
  ·rw [endF_raw c t hc] at h
   rw [List.cons_append, endF_raw c _ hc, endF_raw c t hc, endF_rawext t u h]
theorem endF_rawlen : ∀ r : List UInt8, (endF 96 r).2 = false → (endF 96 r).1 = r.length
 | [], _ => rfl
 | c :: t, h => by
  by_cases hc : c = 96
  ·subst hc
   rw [endF_hit _ (by decide)] at h
   cases h
  ·rw [endF_raw c t hc] at h ⊢
   show (endF 96 t).1 + 1 = _
   rw [endF_rawlen t h]; rfl
theorem endF_rawlf : ∀ r : List UInt8, (endF 96 r).2 = false → (endF 96 (r ++ [10])).2 = false
 | [], _ => by
  show (endF 96 [10]).2 = false
  rw [endF_raw 10 [] (by decide)]; rfl
 | c :: t, h => by
  by_cases hc : c = 96
  ·subst hc
   rw [endF_hit _ (by decide)] at h
   cases h
  ·rw [endF_raw c t hc] at h
   rw [List.cons_append, endF_raw c _ hc]
   exact endF_rawlf t h
theorem scanL_no {c : UInt8} (t : List UInt8) (h : ¬ (c = 39 ∨ c = 34 ∨ c = 96)) : scanL (c :: t) = (0, 0, 7) := if_neg h
theorem litA_eqn (q : UInt8) (t : List UInt8) : litA q (q :: t) = (kindN q, (endF q t).1 + 1, if (endF q t).2 = true then litE q (q :: t.take (endF q t).1) else 12) := by
 show (if (endF q t).2 = true then _ else _) = _
 split <;> rfl
theorem litA_alone (q : UInt8) (t : List UInt8) : litA q (q :: t.take (endF q t).1) = litA q (q :: t) := by
 rw [litA_eqn, litA_eqn, endF_both, List.take_take, Nat.min_self]
def OpenR (r : List UInt8) : Prop := ∃ t, r = 96 :: t ∧ (endF 96 t).2 = false
theorem litA_lf {q : UInt8} {r : List UInt8} (u : List UInt8) (h : ¬ OpenR (q :: r)) : litA q (q :: (r ++ 10 :: u)) = litA q (q :: r) := by
 have h1 : endF q (r ++ 10 :: u) = endF q r := by
  by_cases hq : q = 96
  ·subst hq
   refine endF_rawext r _ ?_
   cases h2 : (endF 96 r).2 with
   | true => rfl
   | false => exact absurd ⟨r, rfl, h2⟩ h
  ·exact endF_ext hq r u
 rw [litA_eqn, litA_eqn, h1, List.take_append_of_le_length (endF_le q r)]
theorem scanL_lf {c : UInt8} {r : List UInt8} (u : List UInt8) (h : ¬ OpenR (c :: r)) : scanL (c :: (r ++ 10 :: u)) = scanL (c :: r) := by
 by_cases hc : c = 39 ∨ c = 34 ∨ c = 96
 ·rw [scanL_q _ hc, scanL_q _ hc, litA_lf u h]
 ·rw [scanL_no _ hc, scanL_no _ hc]
theorem scanL_raw {r : List UInt8} (h : (endF 96 r).2 = false) : scanL (96 :: r) = (5, r.length + 1, 12) := by
 rw [scanL_q _ (.inr (.inr rfl)), litA_eqn, endF_rawlen r h, h]
 rfl
theorem scanL_alone (l : List UInt8) : scanL (l.take (scanL l).2.1) = scanL l ∨ (scanL l).2.1 = 0 := by
 cases l with
 | nil => exact .inr rfl
 | cons c t =>
  by_cases hc : c = 39 ∨ c = 34 ∨ c = 96
  ·refine .inl ?_
   rw [scanL_q _ hc]
   have h1 : (litA c (c :: t)).2.1 = (endF c t).1 + 1 := by rw [litA_eqn]
   rw [h1, List.take_succ_cons, scanL_q _ hc, litA_alone]
  ·exact .inr (by rw [scanL_no _ hc])
theorem scanL_le (l : List UInt8) : (scanL l).2.1 ≤ l.length := by
 cases l with
 | nil => exact Nat.le_refl _
 | cons c t =>
  by_cases hc : c = 39 ∨ c = 34 ∨ c = 96
  ·rw [scanL_q _ hc, litA_eqn]
   have := endF_le c t
   simp only [List.length_cons]
   omega
  ·rw [scanL_no _ hc]; exact Nat.zero_le _
theorem scanL_kind (l : List UInt8) : (scanL l).2.1 ≠ 0 → (scanL l).1 = 4 ∨ (scanL l).1 = 5 := by
 cases l with
 | nil => intro h; exact absurd rfl h
 | cons c t =>
  by_cases hc : c = 39 ∨ c = 34 ∨ c = 96
  ·intro _
   rw [scanL_q _ hc, litA_eqn]
   show kindN c = 4 ∨ kindN c = 5
   unfold kindN
   split
   ·exact .inl rfl
   ·exact .inr rfl
  ·rw [scanL_no _ hc]; intro h; exact absurd rfl h
theorem begL_lf (c : UInt8) (r u : List UInt8) : begL (c :: (r ++ 10 :: u)) = begL (c :: r) := by
 cases r with
 | nil => rfl
 | cons d t => rfl
theorem okAt_pre (sg : Bool) {l m : List UInt8} {n i : Nat} (h : ∀ j, j < n → l.getD j 0 = m.getD j 0) (hi : i < n) : okAt sg l i = okAt sg m i := by
 unfold okAt
 rw [h i hi, h (i - 1) (by omega)]
theorem getD_app (r u : List UInt8) (j : Nat) (h : j < r.length) : (r ++ u).getD j 0 = r.getD j 0 := by
 rw [List.getD_eq_getElem?_getD, List.getD_eq_getElem?_getD, List.getElem?_append_left h]
theorem getD_take (l : List UInt8) (n j : Nat) (h : j < n) : (l.take n).getD j 0 = l.getD j 0 := by
 rw [List.getD_eq_getElem?_getD, List.getD_eq_getElem?_getD, List.getElem?_take, if_pos h]
theorem body_lf {sg : Bool} {r : List UInt8} (u : List UInt8) {k : Nat} (h : BodyN sg r k) : BodyN sg (r ++ 10 :: u) k := by
 obtain ⟨h1, h2, h3⟩ := h
 refine ⟨by rw [List.length_append]; omega, fun i hi => ?_, fun _ => ?_⟩
 ·rw [okAt_pre sg (n := r.length) (fun j hj => getD_app r _ j hj) (by omega)]
  exact h2 i hi
 ·by_cases hk : k < r.length
  ·rw [okAt_pre sg (n := r.length) (fun j hj => getD_app r _ j hj) hk]
   exact h3 hk
  ·have e : k = r.length := by omega
   have e2 : (r ++ 10 :: u).getD k 0 = 10 := by
    rw [List.getD_eq_getElem?_getD, e, List.getElem?_append_right (Nat.le_refl _), Nat.sub_self]
    rfl
   unfold okAt
   rw [e2]
   cases sg
   ·rfl
   ·show (false || (true && (decide (0 < k) && (false && _)))) = false
    simp
theorem body_take {sg : Bool} {l : List UInt8} {k : Nat} (h : BodyN sg l k) : BodyN sg (l.take k) k := by
 obtain ⟨h1, h2, _⟩ := h
 refine ⟨by rw [List.length_take]; omega, fun i hi => ?_, fun hk => by rw [List.length_take] at hk; omega⟩
 rw [okAt_pre sg (n := k) (fun j hj => getD_take l k j hj) hi]
 exact h2 i hi
theorem sgOf_lf (c : UInt8) (r u : List UInt8) : sgOf (c :: (r ++ 10 :: u)) = sgOf (c :: r) := by
 cases r with
 | nil =>
  show (!decide (pfxB [c, 10] = 16)) = (!decide (pfxB [c] = 16))
  have : pfxB [c, 10] ≠ 16 := by
   show (if c = 48 then (if (10 : UInt8) = 120 ∨ (10 : UInt8) = 88 then 16 else if (10 : UInt8) = 98 ∨ (10 : UInt8) = 66 then 2 else if (10 : UInt8) = 111 ∨ (10 : UInt8) = 79 then 8 else 0) else 0) ≠ 16
   split <;> decide
  rw [decide_eq_false this]
  rfl
 | cons d t => rfl
theorem sgOf_take {l : List UInt8} {k : Nat} (h : BodyN (sgOf l) l k) (h0 : k ≠ 0) : sgOf (l.take k) = sgOf l := by
 by_cases hk : 2 ≤ k
 ·unfold sgOf
  rw [List.take_take, Nat.min_eq_left hk]
 ·have e : k = 1 := by omega
  subst e
  have h1 : sgOf (l.take 1) = true := by
   cases l with
   | nil => rfl
   | cons c t => rfl
  rw [h1]
  cases hs : sgOf l with
  | true => rfl
  | false =>
   exfalso
   match l, h, hs with
   | [], h, hs => exact absurd h.1 (by decide)
   | [c], h, hs => cases hs
   | c :: d :: t, h, hs =>
    have h3 := h.2.2 (by simp)
    have h4 : pfxB [c, d] = 16 := by
     have : (!decide (pfxB [c, d] = 16)) = false := hs
     simpa using this
    have h5 : (if c = 48 then (if d = 120 ∨ d = 88 then 16 else if d = 98 ∨ d = 66 then 2 else if d = 111 ∨ d = 79 then 8 else 0) else 0) = 16 := h4
    have h6 : d = 120 ∨ d = 88 := by
     by_cases hd : d = 120 ∨ d = 88
     ·exact hd
     ·rw [if_neg hd] at h5
      split at h5
      ·split at h5
       ·cases h5
       ·split at h5 <;> cases h5
      ·cases h5
    have h7 : isPart d.toNat = true := by rcases h6 with rfl | rfl <;> rfl
    unfold okAt at h3
    rw [show (c :: d :: t).getD 1 0 = d from rfl, h7, Bool.true_or] at h3
    cases h3
theorem begL_take {l : List UInt8} {k : Nat} (hb : begL l = true) (h : BodyN (sgOf l) l k) : begL (l.take k) = true := by
 have h0 := beg_pos hb h
 match l, hb, h with
 | [], hb, _ => cases hb
 | [c], hb, h =>
  rw [List.take_of_length_le (by simp only [List.length_cons, List.length_nil]; omega)]
  exact hb
 | c :: d :: t, hb, h =>
  by_cases hk : 2 ≤ k
  ·obtain ⟨j, rfl⟩ : ∃ j, k = j + 2 := ⟨k - 2, by omega⟩
   exact hb
  ·have e : k = 1 := by omega
   subst e
   show (isDig c.toNat || (c == 46 && false)) = true
   have hb' : (isDig c.toNat || (c == 46 && isDig d.toNat)) = true := hb
   cases h1 : isDig c.toNat with
   | true => rfl
   | false =>
    exfalso
    rw [h1, Bool.false_or, Bool.and_eq_true] at hb'
    have h3 := h.2.2 (by simp)
    have h7 : isPart d.toNat = true := by
     have := hb'.2
     unfold isDig at this
     have := of_decide_eq_true this
     unfold isPart clsN
     rw [if_pos this]
     rfl
    unfold okAt at h3
    rw [show (c :: d :: t).getD 1 0 = d from rfl, h7, Bool.true_or] at h3
    cases h3
open Classical in
noncomputable def bodyZ (l : List UInt8) : Nat := Classical.choose (bodyN_is (sgOf l) l)
theorem bodyZ_is (l : List UInt8) : BodyN (sgOf l) l (bodyZ l) := Classical.choose_spec (bodyN_is (sgOf l) l)
theorem bodyZ_lf (c : UInt8) (r u : List UInt8) : bodyZ (c :: (r ++ 10 :: u)) = bodyZ (c :: r) := by
 have h1 := bodyZ_is (c :: (r ++ 10 :: u))
 rw [sgOf_lf] at h1
 have h2 := body_lf u (bodyZ_is (c :: r))
 rw [List.cons_append] at h2
 exact bodyN_uniq h1 h2
theorem bodyZ_take {l : List UInt8} (h : begL l = true) : bodyZ (l.take (bodyZ l)) = bodyZ l := by
 have h1 := bodyZ_is (l.take (bodyZ l))
 rw [sgOf_take (bodyZ_is l) (beg_pos h (bodyZ_is l))] at h1
 exact bodyN_uniq h1 (body_take (bodyZ_is l))
open Classical in
noncomputable def valE (x : List UInt8) : Nat := if h : ∃ y, ValueIs (kndZ x) x y then (Classical.choose h).k else 0
theorem kndZ_is (x : List UInt8) : kndZ x = 2 ∨ kndZ x = 3 := by unfold kndZ; split <;> simp
theorem numZ_is {l : List UInt8} {a : Nat} (ha : a < l.length) (h : begL (l.drop a) = true) :
  ScanIs l (a : Int) (kndZ ((l.drop a).take (bodyZ (l.drop a)))) (bodyZ (l.drop a)) (valE ((l.drop a).take (bodyZ (l.drop a)))) := by
 refine .inr ⟨by omega, by omega, by rw [Int.toNat_natCast]; exact h, by rw [Int.toNat_natCast]; exact bodyZ_is _, by rw [Int.toNat_natCast], ?_⟩
 rw [Int.toNat_natCast]
 have he : ∃ y, ValueIs (kndZ ((l.drop a).take (bodyZ (l.drop a)))) ((l.drop a).take (bodyZ (l.drop a))) y := by
  obtain ⟨kind, k, e, hs⟩ := scan_is l (a : Int)
  rcases hs with ⟨h1, _⟩ | ⟨_, _, _, h4, h5, y, h6, _⟩
  ·rw [Int.toNat_natCast, h] at h1
   rcases h1 with h1 | h1 | h1
   ·omega
   ·omega
   ·cases h1
  ·rw [Int.toNat_natCast] at h4 h5 h6
   rw [bodyN_uniq h4 (bodyZ_is _)] at h5 h6
   rw [h5] at h6
   exact ⟨y, h6⟩
 unfold valE
 rw [dif_pos he]
 exact ⟨_, Classical.choose_spec he, rfl⟩
theorem numZ_no {l : List UInt8} {a : Nat} (h : begL (l.drop a) = false) : ScanIs l (a : Int) 0 0 7 := .inl ⟨.inr (.inr (by rw [Int.toNat_natCast]; exact h)), rfl, rfl, rfl⟩
noncomputable def kwZ (x : List UInt8) : Nat := Classical.choose (kw_ex (bs x))
theorem kwZ_is (x : List UInt8) : KwIs (bs x) (kwZ x) := Classical.choose_spec (kw_ex (bs x))
noncomputable def kwK (x : List UInt8) : Nat := if kwZ x = 0 then 1 else kwZ x
theorem kwK_is (x : List UInt8) : kwK x = 1 ∨ (10 ≤ kwK x ∧ kwK x < 35) := by
 unfold kwK
 split
 ·exact .inl rfl
 ·next h =>
  rcases kwZ_is x with ⟨h1, _⟩ | ⟨h1, h2, _⟩
  ·exact absurd h1 h
  ·exact .inr ⟨h1, h2⟩
theorem bi_inj : ∀ {a b : List UInt8}, bi a = bi b → a = b
 | [], [], _ => rfl
 | [], _ :: _, h => by cases h
 | _ :: _, [], h => by cases h
 | x :: a, y :: b, h => by
  obtain ⟨h1, h2⟩ := List.cons.inj h
  rw [UInt8.toNat_inj.1 (Int.ofNat.inj h1), bi_inj h2]
theorem beg_pre {l : List UInt8} {j : Nat} : Beg (bi l) j ↔ txl j <+: l := by
 constructor
 ·rintro ⟨t, ht⟩
  have h1 : bi (txl j) ++ t = bi l := ht
  have h2 : bi (l.take (txl j).length) = bi (txl j) := by
   rw [← bi_take, ← h1, List.take_append_of_le_length (by rw [bi_length]; exact Nat.le_refl _), List.take_of_length_le (by rw [bi_length]; exact Nat.le_refl _)]
  rw [← bi_inj h2]
  exact List.take_prefix ..
 ·rintro ⟨t, rfl⟩
  exact ⟨bi t, by rw [← bi_app]; rfl⟩
noncomputable def opK (l : List UInt8) : Nat := Classical.choose (op_ex (bi l))
noncomputable def opN (l : List UInt8) : Nat := Classical.choose (Classical.choose_spec (op_ex (bi l)))
theorem op_is (l : List UInt8) : OpIs (bi l) (opK l) (opN l) := Classical.choose_spec (Classical.choose_spec (op_ex (bi l)))
theorem op_congr {l m : List UInt8} (h : ∀ j, 40 ≤ j → j < 88 → (Beg (bi l) j ↔ Beg (bi m) j)) : opK l = opK m ∧ opN l = opN m := by
 refine OpIs.uniq (op_is l) ?_
 rcases op_is m with ⟨h1, h2, h3⟩ | ⟨h1, h2, h3, h4, h5⟩
 ·exact .inl ⟨h1, h2, fun j a b hb => h3 j a b ((h j a b).1 hb)⟩
 ·exact .inr ⟨h1, h2, h3, (h _ h1 h2).2 h4, fun j a b hb => h5 j a b ((h j a b).1 hb)⟩
theorem txl_lf {j : Nat} (h : j < 88) : (10 : UInt8) ∉ txl j := by
 have := tab_all (p := fun k => !(txl k).contains 10) (n := 88) (by decide +kernel) h
 simpa using this
theorem op_lf (r u : List UInt8) : opK (r ++ 10 :: u) = opK r ∧ opN (r ++ 10 :: u) = opN r := by
 refine op_congr fun j _ h => ?_
 rw [beg_pre, beg_pre]
 constructor
 ·intro hp
  rcases List.prefix_or_prefix_of_prefix hp (List.prefix_append r (10 :: u)) with h1 | h1
  ·exact h1
  ·obtain ⟨t, ht⟩ := h1
   rw [← ht] at hp
   have h2 := (List.prefix_append_right_inj r).1 hp
   cases t with
   | nil => rw [← ht, List.append_nil]; exact List.prefix_refl r
   | cons a t =>
    obtain ⟨t', ht'⟩ := h2
    have : a = 10 := (List.cons.inj ht').1
    subst this
    exact absurd (ht ▸ List.mem_append_right r (List.mem_cons_self ..)) (txl_lf h)
 ·intro hp
  exact hp.trans (List.prefix_append ..)
theorem opN_pos {l : List UInt8} (h : opN l ≠ 0) : 40 ≤ opK l ∧ opK l < 88 ∧ opN l = (txl (opK l)).length ∧ l.take (opN l) = txl (opK l) := by
 rcases op_is l with ⟨_, h2, _⟩ | ⟨h1, h2, h3, h4, _⟩
 ·exact absurd h2 h
 ·rw [tx_size] at h3
  refine ⟨h1, h2, h3, ?_⟩
  obtain ⟨t, ht⟩ := beg_pre.1 h4
  have e : l.take (opN l) = (txl (opK l) ++ t).take (opN l) := by rw [ht]
  rw [e, List.take_append_of_le_length (by omega), List.take_of_length_le (by omega)]
theorem opN_zero {l : List UInt8} (h : opN l = 0) : ∀ j, 40 ≤ j → j < 88 → ¬ txl j <+: l := by
 rcases op_is l with ⟨_, _, h3⟩ | ⟨h1, h2, h3, _, _⟩
 ·intro j a b hb
  exact h3 j a b (beg_pre.2 hb)
 ·rw [tx_size] at h3
  have := txl_op h1 h2
  omega
theorem opN_le (l : List UInt8) : opN l ≤ l.length := by
 rcases op_is l with ⟨_, h2, _⟩ | ⟨h1, h2, h3, h4, _⟩
 ·omega
 ·have := (beg_pre.1 h4).length_le
  rw [tx_size] at h3
  omega
theorem op_alone {l : List UInt8} (h : opN l ≠ 0) : opK (l.take (opN l)) = opK l ∧ opN (l.take (opN l)) = opN l := by
 refine OpIs.uniq (op_is _) ?_
 obtain ⟨h1, h2, h3, h4⟩ := opN_pos h
 refine .inr ⟨h1, h2, by rw [tx_size]; exact h3, beg_pre.2 (by rw [h4]; exact List.prefix_refl _), fun j a b hb => ?_⟩
 have := (beg_pre.1 hb).length_le
 rw [tx_size]
 rw [List.length_take] at this
 omega
end Go.Proofs.YtgkhjeefcflmcaaGreatDoor
