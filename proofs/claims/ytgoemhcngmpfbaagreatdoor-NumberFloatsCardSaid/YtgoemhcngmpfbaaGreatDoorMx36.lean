/-
  The document's answers of layer 9: a float, as mathematics.
-/
import Derived.Test.YtgoemhcngmpfbaaGreatDoorMx34
import Derived.Test.YtgoemhcngmpfbaaGreatDoorMx22
import Derived.Test.YtgoemhcngmpfbaaGreatDoorMx35
import Derived.Test.YtgoemhcngmpfbaaGreatDoorMx25
namespace Go.Proofs.YtgoemhcngmpfbaaGreatDoor
open Go.RowKit Go.Sort
set_option linter.unusedSimpArgs false
theorem field_rat0 (s : Bool) (n : Nat) (t : Bool) (d : Nat) (w : World) : (Instr.field 27 (ratV s n t d) 0).run Tryz.prog w = .ok (intV s n) w := by
 unfold ratV intV
 kernel_rfl
theorem fld_rat0 {op : Oper} {a : Act} {w : World} {x : Operand} (ho : op.op = .field 27 x 0) {s t : Bool} {n d : Nat} (hx : a.eval x = ratV s n t d) : (execOp a.eval op).run Tryz.prog w = .ok (.value (intV s n)) w := by
 unfold execOp
 simp only [ho, hx, Sem.run_bind, field_rat0, Result.andThen_ok, Sem.run_pure]
theorem enters_Of9 : EntersP Tryz.prog 15 := entersP_of Tryz.func15 (by kernel_rfl) rfl
theorem enters_Scl9 : EntersP Tryz.prog 72 := entersP_of Tryz.func72 (by kernel_rfl) rfl
def q8 : Q4 := ⟨false, 0, 0, 8⟩
def FinIs (y : Q4) (D : List UInt8) (bh : Nat) (ng : Bool) (X : List UInt8) : Prop :=
 (parK 10 D = 9 ∧ y = ⟨false, 0, 0, 9⟩) ∨ (parK 10 D = 0 ∧ ((5 < X.length ∧ y = ⟨false, 0, 0, 9⟩) ∨
  (X.length ≤ 5 ∧ scl false (parN 10 D) false 1 10 ((if ng = true then -(num 10 X : Int) else (num 10 X : Int)) - (bh : Int)) = y)))
structure DocF (t : List UInt8) (y : Q4) : Prop where
 e1 : ∀ i, Stop t i → i = t.length → (allD (t.take i) = [] ∨ (t.take i).any isP = false) → y = q8
 e2 : ∀ i, Stop t i → i = t.length → allD (t.take i) ≠ [] → (t.take i).any isP = true → FinIs y (allD (t.take i)) (postP isP (t.take i)).length false []
 m1 : ∀ i c, Stop t i → t[i]? = some c → isM c = true → allD (t.take i) = [] → y = q8
 m2 : ∀ i c, Stop t i → t[i]? = some c → isM c = true → decB (restL (t.drop (i + 1))) = false → y = q8
 m3 : ∀ i c, Stop t i → t[i]? = some c → isM c = true → allD (t.take i) ≠ [] → decB (restL (t.drop (i + 1))) = true → FinIs y (allD (t.take i)) (postP isP (t.take i)).length (decide (sgnL (t.drop (i + 1)) = [45])) (restL (t.drop (i + 1)))
 n1 : ∀ i c, Stop t i → t[i]? = some c → isM c = false → y = q8
theorem doc_f {l : List UInt8} {y : Q4} (h : FloatIs l y) (hs : Sep isDig l) : DocF (unsc l) y where
 e1 i hst hi hb := float_no h (by
  rw [(fl_end hst hi hs).2.2.2.2.2]
  rintro ⟨g1, g2⟩
  rcases hb with hb | hb
  ·exact g2 hb
  ·rw [g1] at hb; cases hb)
 e2 i hst hi h1 h2 := by
  obtain ⟨_, hW, hF, hS, hX, hok⟩ := fl_end hst hi hs
  have g := float_yes h (hok.2 ⟨h2, h1⟩)
  rw [hW, hF, hS, hX] at g
  rcases g with g | ⟨g1, g | ⟨_, g⟩⟩
  ·exact .inl g
  ·exact absurd g.1 (by decide)
  ·exact .inr ⟨g1, .inr ⟨by decide, g⟩⟩
 m1 i c hst hc hm hb := float_no h (by
  rw [(fl_mark hst hc hm hs).2.2.2.2]
  exact fun g => g.1 hb)
 m2 i c hst hc hm hb := float_no h (by
  rw [(fl_mark hst hc hm hs).2.2.2.2]
  intro g
  rw [hb] at g
  cases g.2)
 m3 i c hst hc hm h1 h2 := by
  obtain ⟨hW, hF, hS, hX, hok⟩ := fl_mark hst hc hm hs
  have g := float_yes h (hok.2 ⟨h1, h2⟩)
  rw [hW, hF, hS, hX] at g
  have e : powZ (sgnL ((unsc l).drop (i + 1))) (restL ((unsc l).drop (i + 1))) = if decide (sgnL ((unsc l).drop (i + 1)) = [45]) = true then -(num 10 (restL ((unsc l).drop (i + 1))) : Int) else (num 10 (restL ((unsc l).drop (i + 1))) : Int) := by
   unfold powZ
   by_cases e : sgnL ((unsc l).drop (i + 1)) = [45]
   ·rw [if_pos e, if_pos (decide_eq_true e)]
   ·rw [if_neg e, if_neg (by rw [decide_eq_false e]; decide)]
  rw [e] at g
  exact g
 n1 i c hst hc hm := float_no h (fl_not hst hc hm)
def TailIs (y : Q4) (D : List UInt8) (bh : Nat) (dot : Bool) (n j : Nat) (ng ee : Bool) (X : List UInt8) : Prop :=
 ((j < n ∨ D = [] ∨ (dot = false ∧ ee = false)) ∧ y = q8) ∨ (j = n ∧ D ≠ [] ∧ ¬ (dot = false ∧ ee = false) ∧ FinIs y D bh ng X)
theorem tail_end {t : List UInt8} {y : Q4} {i : Nat} (h : DocF t y) (hst : Stop t i) (hm : ∀ c, t[i]? = some c → isM c = false) :
  TailIs y (allD (t.take i)) (postP isP (t.take i)).length ((t.take i).any isP) t.length i false false [] := by
 by_cases hi : i = t.length
 ·by_cases h1 : allD (t.take i) = []
  ·exact .inl ⟨.inr (.inl h1), h.e1 i hst hi (.inl h1)⟩
  ·cases h2 : (t.take i).any isP
   ·exact .inl ⟨.inr (.inr ⟨rfl, rfl⟩), h.e1 i hst hi (.inr h2)⟩
   ·exact .inr ⟨hi, h1, by simp, h.e2 i hst hi h1 h2⟩
 ·have hlt : i < t.length := Nat.lt_of_le_of_ne hst.1 hi
  have hc : t[i]? = some t[i] := List.getElem?_eq_getElem hlt
  exact .inl ⟨.inl hlt, h.n1 i _ hst hc (hm _ hc)⟩
theorem sgn_rest (R : List UInt8) : sgnL R ++ restL R = R := by
 cases R with
 | nil => rfl
 | cons a m =>
  show (if isSgn a.toNat = true then [a] else []) ++ (if isSgn a.toNat = true then m else a :: m) = _
  split <;> rfl
theorem rest_drop {t : List UInt8} {i j : Nat} (h : j = i + 1 + (sgnL (t.drop (i + 1))).length) : restL (t.drop (i + 1)) = t.drop j := by
 have e := congrArg (List.drop (sgnL (t.drop (i + 1))).length) (sgn_rest (t.drop (i + 1)))
 rw [List.drop_left, List.drop_drop] at e
 rw [e, h]
theorem tail_exp {t : List UInt8} {y : Q4} {i j k : Nat} {c : UInt8} {ng : Bool} (h : DocF t y) (hst : Stop t i) (hc : t[i]? = some c) (hm : isM c = true) (hng : ng = decide (sgnL (t.drop (i + 1)) = [45])) (hj : j = i + 1 + (sgnL (t.drop (i + 1))).length)
  (hk : k ≤ (t.drop j).length) (hd : ∀ c ∈ (t.drop j).take k, isDig c.toNat = true) (hs : ∀ c, (t.drop j)[k]? = some c → isDig c.toNat = false) (h0 : k ≠ 0) :
  TailIs y (allD (t.take i)) (postP isP (t.take i)).length ((t.take i).any isP) t.length (j + k) ng true ((t.drop j).take k) := by
 have hX := rest_drop hj
 have hl : (t.drop j).length = t.length - j := List.length_drop ..
 by_cases h1 : allD (t.take i) = []
 ·exact .inl ⟨.inr (.inl h1), h.m1 i c hst hc hm h1⟩
 by_cases h2 : decB (t.drop j) = true
 ·have hkk := ((decB_stop hk hd hs).1 h2).2
  rw [hkk, List.take_length]
  have g := h.m3 i c hst hc hm h1 (by rw [hX]; exact h2)
  rw [hX, ← hng] at g
  exact .inr ⟨by omega, h1, by simp, g⟩
 ·have hlt : k < (t.drop j).length := by
   rcases Nat.lt_or_eq_of_le hk with g | g
   ·exact g
   ·exact absurd ((decB_stop hk hd hs).2 ⟨h0, g⟩) h2
  refine .inl ⟨.inl (by omega), h.m2 i c hst hc hm ?_⟩
  rw [hX]
  simpa using h2
theorem tail_no {t : List UInt8} {y : Q4} {i j : Nat} {c : UInt8} (h : DocF t y) (hst : Stop t i) (hc : t[i]? = some c) (hm : isM c = true) (hj : j = i + 1 + (sgnL (t.drop (i + 1))).length)
  (hs : ∀ c, (t.drop j)[0]? = some c → isDig c.toNat = false) : y = q8 := by
 have hX := rest_drop hj
 refine h.m2 i c hst hc hm ?_
 rw [hX]
 cases e : decB (t.drop j)
 ·rfl
 ·exact absurd rfl ((decB_stop (X := t.drop j) (k := 0) (Nat.zero_le _) (fun c hc => by simp at hc) hs).1 e).1
theorem isSgn_iff {c : UInt8} : isSgn c.toNat = true ↔ (c = 43 ∨ c = 45) := by
 unfold isSgn
 rw [decide_eq_true_eq]
 constructor
 ·rintro (h | h)
  ·exact .inl (UInt8.toNat_inj.1 h)
  ·exact .inr (UInt8.toNat_inj.1 h)
 ·rintro (rfl | rfl)
  ·exact .inl rfl
  ·exact .inr rfl
theorem sgn_of {t : List UInt8} {i : Nat} {c : UInt8} (h : t[i]? = some c) : sgnL (t.drop i) = if isSgn c.toNat = true then [c] else [] := by
 rw [drop_cons_of h]
 rfl
theorem sgn_end {t : List UInt8} {i : Nat} (h : t.length ≤ i) : sgnL (t.drop i) = [] := by
 rw [List.drop_of_length_le h]
 rfl
theorem isM_iff {c : UInt8} : isM c = true ↔ (c = 101 ∨ c = 69) := by
 unfold isM
 rw [List.contains_iff_mem]
 simp
theorem allD_len (P : List UInt8) : (allD P).length ≤ 2 * P.length := by
 unfold allD
 have h1 := preP_len isP P
 have h2 := postP_len isP P
 rw [List.length_append]
 omega
theorem num_dig {X : List UInt8} {k : Nat} {c : UInt8} (h : X[k]? = some c) (hd : isDig c.toNat = true) : num 10 (X.take (k + 1)) = 10 * num 10 (X.take k) + (c.toNat - 48) ∧ 48 ≤ c.toNat ∧ c.toNat ≤ 57 := by
 have h2 := dv10 (isDig_lt.1 hd)
 refine ⟨?_, h2.1, h2.2.1⟩
 rw [take_succ_of h, num_snoc, h2.2.2]
 omega
end Go.Proofs.YtgoemhcngmpfbaaGreatDoor
