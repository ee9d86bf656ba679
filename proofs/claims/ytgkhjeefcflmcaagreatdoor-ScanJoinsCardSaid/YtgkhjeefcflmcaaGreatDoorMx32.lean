/-
  Layer 11 (scan) as mathematics: the piece at the head; alone and ahead of a line feed.
-/
import Derived.Test.YtgkhjeefcflmcaaGreatDoorMx31
namespace Go.Proofs.YtgkhjeefcflmcaaGreatDoor
open Go.RowKit Go.Sort
set_option linter.unusedSimpArgs false
structure Pc where
 k : Nat
 s : Nat
 e : Nat
 b : Bool
noncomputable def numP (l : List UInt8) : Pc := ⟨if valE (l.take (bodyZ l)) ≠ 0 then 6 else (kndZ (l.take (bodyZ l))).toNat, bodyZ l, valE (l.take (bodyZ l)), false⟩
def litP (l : List UInt8) : Pc := ⟨if (scanL l).2.2 ≠ 0 then 6 else (scanL l).1, (scanL l).2.1, (scanL l).2.2, false⟩
open Classical in
noncomputable def litF (l : List UInt8) (z : Pc) : Pc :=
 if begL l = true then numP l else if (scanL l).2.1 ≠ 0 then litP l else if opN l ≠ 0 then ⟨opK l, opN l, 0, false⟩ else z
noncomputable def oneF (l : List UInt8) : Pc :=
 match dcF l with
 | some (r, n) => if letB r = true then ⟨kwK (l.take (wordF l)), wordF l, 0, false⟩ else litF l ⟨6, n, 15, false⟩
 | none => litF l ⟨6, 1, 3, false⟩
theorem oneF_name {l : List UInt8} {r : Int} {n : Nat} (h : dcF l = some (r, n)) (h2 : letB r = true) : oneF l = ⟨kwK (l.take (wordF l)), wordF l, 0, false⟩ := by
 unfold oneF; rw [h]; exact if_pos h2
theorem oneF_rune {l : List UInt8} {r : Int} {n : Nat} (h : dcF l = some (r, n)) (h2 : ¬ letB r = true) : oneF l = litF l ⟨6, n, 15, false⟩ := by
 unfold oneF; rw [h]; exact if_neg h2
theorem oneF_none {l : List UInt8} (h : dcF l = none) : oneF l = litF l ⟨6, 1, 3, false⟩ := by
 unfold oneF; rw [h]
theorem litF_num {l : List UInt8} (z : Pc) (h : begL l = true) : litF l z = numP l := if_pos h
theorem litF_lit {l : List UInt8} (z : Pc) (h : ¬ begL l = true) (h2 : (scanL l).2.1 ≠ 0) : litF l z = litP l := by unfold litF; rw [if_neg h, if_pos h2]
theorem litF_op {l : List UInt8} (z : Pc) (h : ¬ begL l = true) (h2 : (scanL l).2.1 = 0) (h3 : opN l ≠ 0) : litF l z = ⟨opK l, opN l, 0, false⟩ := by
 unfold litF; rw [if_neg h, if_neg (by omega), if_pos h3]
theorem litF_no {l : List UInt8} (z : Pc) (h : ¬ begL l = true) (h2 : (scanL l).2.1 = 0) (h3 : opN l = 0) : litF l z = z := by
 unfold litF; rw [if_neg h, if_neg (by omega), if_neg (by omega)]
theorem litF_all (P : Pc → Prop) {l : List UInt8} {z : Pc} (h1 : begL l = true → P (numP l)) (h2 : ¬ begL l = true → (scanL l).2.1 ≠ 0 → P (litP l))
  (h3 : ¬ begL l = true → (scanL l).2.1 = 0 → opN l ≠ 0 → P ⟨opK l, opN l, 0, false⟩) (h4 : ¬ begL l = true → (scanL l).2.1 = 0 → opN l = 0 → P z) : P (litF l z) := by
 by_cases a : begL l = true
 ·rw [litF_num _ a]; exact h1 a
 ·by_cases b : (scanL l).2.1 = 0
  ·by_cases c : opN l = 0
   ·rw [litF_no _ a b c]; exact h4 a b c
   ·rw [litF_op _ a b c]; exact h3 a b c
  ·rw [litF_lit _ a b]; exact h2 a b
structure TokP (l : List UInt8) (p : Pc) : Prop where
 k0 : p.k ≠ 0
 s0 : 1 ≤ p.s
 sl : p.s ≤ l.length
 bd : p.k = 6 ↔ p.e ≠ 0
 nb : p.b = false
 ke : p.k < 88
theorem TokP.of {l : List UInt8} {k s e : Nat} (h1 : k ≠ 0) (h2 : 1 ≤ s) (h3 : s ≤ l.length) (h4 : k = 6 ↔ e ≠ 0) (h5 : k < 88) : TokP l ⟨k, s, e, false⟩ := ⟨h1, h2, h3, h4, rfl, h5⟩
theorem numP_tok {l : List UInt8} (h : begL l = true) : TokP l (numP l) := by
 have h0 := beg_pos h (bodyZ_is l)
 have h1 := (bodyZ_is l).1
 unfold numP
 rcases kndZ_is (l.take (bodyZ l)) with hk | hk <;> rw [hk] <;>
 ·by_cases he : valE (l.take (bodyZ l)) = 0
  ·exact ⟨by simp [he], Nat.one_le_iff_ne_zero.2 h0, h1, by simp [he], rfl, by simp [he]⟩
  ·exact ⟨by simp [he], Nat.one_le_iff_ne_zero.2 h0, h1, by simp [he], rfl, by simp [he]⟩
theorem litP_tok {l : List UInt8} (h : (scanL l).2.1 ≠ 0) : TokP l (litP l) := by
 have h1 := scanL_le l
 have h2 := scanL_kind l h
 unfold litP
 by_cases he : (scanL l).2.2 = 0
 ·refine ⟨?_, Nat.one_le_iff_ne_zero.2 h, h1, ?_, rfl, ?_⟩ <;> simp only [he, ne_eq, not_true_eq_false, if_false] <;> rcases h2 with h2 | h2 <;> rw [h2] <;> simp
 ·refine ⟨?_, Nat.one_le_iff_ne_zero.2 h, h1, ?_, rfl, ?_⟩ <;> simp only [he, ne_eq, not_false_eq_true, if_true] <;> simp [he]
theorem litF_tok {l : List UInt8} {z : Pc} (hz : TokP l z) : TokP l (litF l z) := by
 refine litF_all (TokP l) numP_tok (fun _ h => litP_tok h) (fun _ _ h => ?_) (fun _ _ _ => hz)
 obtain ⟨h1, h2, h3, _⟩ := opN_pos h
 exact ⟨by show opK l ≠ 0; omega, by show 1 ≤ opN l; omega, opN_le l, ⟨fun e => by have : opK l = 6 := e; omega, fun e => absurd rfl e⟩, rfl, h2⟩
theorem oneF_tok {c : UInt8} {t : List UInt8} : TokP (c :: t) (oneF (c :: t)) := by
 cases hd : dcF (c :: t) with
 | none =>
  rw [oneF_none hd]
  exact litF_tok ⟨by decide, Nat.le_refl _, by simp, by decide, rfl, by decide⟩
 | some p =>
  obtain ⟨r, n⟩ := p
  have hs := dcF_size hd
  by_cases hl : letB r = true
  ·rw [oneF_name hd hl]
   have h1 := wordF_go hd (.inl hl)
   have h2 := wordF_le _ (c :: t) (Nat.le_refl _)
   have h3 := kwK_is ((c :: t).take (wordF (c :: t)))
   generalize kwK ((c :: t).take (wordF (c :: t))) = K at h3 ⊢
   generalize wordF ((c :: t).drop n) = V at h1
   generalize wordF (c :: t) = W at h1 h2 ⊢
   exact TokP.of (by omega) (by omega) h2 ⟨fun e => by omega, fun e => absurd rfl e⟩ (by omega)
  ·rw [oneF_rune hd hl]
   exact litF_tok (TokP.of (by decide) hs.1 hs.2.2 (by decide) (by decide))
theorem litF_lf {c : UInt8} {r : List UInt8} (u : List UInt8) (z : Pc) (h : ¬ OpenR (c :: r)) : litF (c :: (r ++ 10 :: u)) z = litF (c :: r) z := by
 have h1 := begL_lf c r u
 have h2 := scanL_lf u h
 have h3 := op_lf (c :: r) u
 rw [List.cons_append] at h3
 refine litF_all (fun p => p = litF (c :: r) z) ?_ ?_ ?_ ?_
 ·intro a
  rw [litF_num z (h1 ▸ a)]
  have h4 := (bodyZ_is (c :: r)).1
  have h5 : (c :: (r ++ 10 :: u)).take (bodyZ (c :: r)) = (c :: r).take (bodyZ (c :: r)) := by
   rw [← List.cons_append, List.take_append_of_le_length h4]
  unfold numP
  rw [bodyZ_lf, h5]
 ·intro a b
  rw [litF_lit z (h1 ▸ a) (h2 ▸ b)]
  unfold litP
  rw [h2]
 ·intro a b d
  rw [litF_op z (h1 ▸ a) (h2 ▸ b) (h3.2 ▸ d), h3.1, h3.2]
 ·intro a b d
  rw [litF_no z (h1 ▸ a) (h2 ▸ b) (h3.2 ▸ d)]
theorem oneF_lf {c : UInt8} {r : List UInt8} (u : List UInt8) (h : ¬ OpenR (c :: r)) : oneF (c :: (r ++ 10 :: u)) = oneF (c :: r) := by
 have hd := dcF_lf c r u
 cases h1 : dcF (c :: r) with
 | none => rw [oneF_none h1, oneF_none (hd.trans h1), litF_lf u _ h]
 | some p =>
  obtain ⟨v, n⟩ := p
  by_cases hl : letB v = true
  ·have h2 := wordF_lf _ (c :: r) u (Nat.le_refl _)
   have h3 := wordF_le _ (c :: r) (Nat.le_refl _)
   rw [List.cons_append] at h2
   rw [oneF_name h1 hl, oneF_name (hd.trans h1) hl, h2]
   have e : (c :: (r ++ 10 :: u)).take (wordF (c :: r)) = (c :: r).take (wordF (c :: r)) := by rw [← List.cons_append, List.take_append_of_le_length h3]
   rw [e]
  ·rw [oneF_rune h1 hl, oneF_rune (hd.trans h1) hl, litF_lf u _ h]
theorem takeS_cons {c : UInt8} {t : List UInt8} {s : Nat} (h : 1 ≤ s) : (c :: t).take s = c :: t.take (s - 1) := by
 obtain ⟨j, rfl⟩ : ∃ j, s = j + 1 := ⟨s - 1, by omega⟩
 rfl
def headB (p : UInt8 → Bool) : List UInt8 → Bool
 | [] => false
 | c :: _ => p c
theorem begL_cons (c : UInt8) (t : List UInt8) : begL (c :: t) = (isDig c.toNat || (c == 46 && headB (fun d => isDig d.toNat) t)) := by
 cases t <;> rfl
theorem begL_digs {c : UInt8} {t : List UInt8} (h : begL (c :: t) = true) : c.toNat < 128 := by
 rw [begL_cons] at h
 have h1 := h
 rw [Bool.or_eq_true] at h1
 rcases h1 with h1 | h1
 ·have := of_decide_eq_true h1
  omega
 ·rw [Bool.and_eq_true] at h1
  have : c = 46 := by simpa using h1.1
  subst this
  decide
theorem quote_asc {c : UInt8} {t : List UInt8} (h : (scanL (c :: t)).2.1 ≠ 0) : c = 39 ∨ c = 34 ∨ c = 96 := by
 by_cases hc : c = 39 ∨ c = 34 ∨ c = 96
 ·exact hc
 ·rw [scanL_no _ hc] at h; exact absurd rfl h
def noOther (x : List UInt8) : Bool := headB (fun c => c.toNat < 128 && !letB c.toNat && !(c == 32 || c == 9 || c == 13 || c == 10) && !(c == 39 || c == 34 || c == 96)) x && !begL x && (cmtF x).isNone
theorem txl_other {j : Nat} (h : 40 ≤ j) (h2 : j < 88) : noOther (txl j) = true := by
 have := tab_all (p := fun k => decide (k < 40) || noOther (txl k)) (n := 88) (by decide +kernel) h2
 rw [Bool.or_eq_true] at this
 rcases this with h3 | h3
 ·have := of_decide_eq_true h3; omega
 ·exact h3
theorem oneF_alone {c : UInt8} {t : List UInt8} : oneF ((c :: t).take (oneF (c :: t)).s) = oneF (c :: t) := by
 have hT := oneF_tok (c := c) (t := t)
 have hnum : ¬ (∃ r n, dcF (c :: t) = some (r, n) ∧ letB r = true) → begL (c :: t) = true → oneF ((c :: t).take (numP (c :: t)).s) = numP (c :: t) := by
  intro hw hb
  have hc := begL_digs hb
  have h0 : 1 ≤ bodyZ (c :: t) := Nat.one_le_iff_ne_zero.2 (beg_pos hb (bodyZ_is _))
  have hd := dcF_ascii hc t
  have hl : ¬ letB (c.toNat : Int) = true := fun e => hw ⟨_, _, hd, e⟩
  have h1 : begL ((c :: t).take (bodyZ (c :: t))) = true := begL_take hb (bodyZ_is _)
  have h2 := bodyZ_take hb
  show oneF ((c :: t).take (bodyZ (c :: t))) = _
  have hd2 : dcF ((c :: t).take (bodyZ (c :: t))) = some ((c.toNat : Int), 1) := by rw [takeS_cons h0]; exact dcF_ascii hc _
  rw [oneF_rune hd2 hl, litF_num _ h1]
  unfold numP
  rw [h2, List.take_take, Nat.min_self]
 have hlit : ¬ (∃ r n, dcF (c :: t) = some (r, n) ∧ letB r = true) → ¬ begL (c :: t) = true → (scanL (c :: t)).2.1 ≠ 0 → oneF ((c :: t).take (litP (c :: t)).s) = litP (c :: t) := by
  intro hw hb hq
  have hc := quote_asc hq
  have hc1 : c.toNat < 128 := by rcases hc with rfl | rfl | rfl <;> decide
  have hd := dcF_ascii hc1 t
  have hl : ¬ letB (c.toNat : Int) = true := fun e => hw ⟨_, _, hd, e⟩
  have h1 : scanL ((c :: t).take (scanL (c :: t)).2.1) = scanL (c :: t) := (scanL_alone (c :: t)).resolve_right hq
  have h0 : 1 ≤ (scanL (c :: t)).2.1 := Nat.one_le_iff_ne_zero.2 hq
  show oneF ((c :: t).take (scanL (c :: t)).2.1) = _
  have hd2 : dcF ((c :: t).take (scanL (c :: t)).2.1) = some ((c.toNat : Int), 1) := by rw [takeS_cons h0]; exact dcF_ascii hc1 _
  have hb2 : ¬ begL ((c :: t).take (scanL (c :: t)).2.1) = true := by
   rw [takeS_cons h0]
   intro e
   rcases hc with rfl | rfl | rfl <;> cases e
  rw [oneF_rune hd2 hl, litF_lit _ hb2 (by rw [h1]; exact hq)]
  unfold litP
  rw [h1]
 have hop : opN (c :: t) ≠ 0 → oneF ((c :: t).take (opN (c :: t))) = ⟨opK (c :: t), opN (c :: t), 0, false⟩ := by
  intro ho
  obtain ⟨h1, h2, h3, h4⟩ := opN_pos ho
  have h5 := op_alone ho
  have h6 := txl_other h1 h2
  rw [← h4] at h6
  rw [takeS_cons (by omega)] at h6 h5 ⊢
  unfold noOther at h6
  have h7 : (((decide (c.toNat < 128) && !letB c.toNat && !(c == 32 || c == 9 || c == 13 || c == 10) && !(c == 39 || c == 34 || c == 96)) && !begL (c :: t.take (opN (c :: t) - 1))) && (cmtF (c :: t.take (opN (c :: t) - 1))).isNone) = true := h6
  simp only [Bool.and_eq_true, Bool.not_eq_true'] at h7
  obtain ⟨⟨⟨⟨⟨g1, g2⟩, g3⟩, g4⟩, g5⟩, g6⟩ := h7
  have g1' := of_decide_eq_true g1
  have g7 : ¬ (c = 39 ∨ c = 34 ∨ c = 96) := by
   rintro (rfl | rfl | rfl) <;> cases g4
  rw [oneF_rune (dcF_ascii g1' _) (by rw [g2]; exact Bool.false_ne_true), litF_op _ (by rw [g5]; exact Bool.false_ne_true) (by rw [scanL_no _ g7]) (by rw [h5.2]; exact ho), h5.1, h5.2]
 have hno : ∀ (n : Nat), 1 ≤ n → (128 ≤ c.toNat ∨ n = 1) → ¬ begL (c :: t) = true → (scanL (c :: t)).2.1 = 0 → opN (c :: t) = 0 →
   ∀ z : Pc, litF ((c :: t).take n) z = z := by
  intro n h1 hn hb hq ho z
  refine litF_no _ ?_ ?_ ?_
  ·intro e
   apply hb
   rw [takeS_cons h1] at e
   have hlow := begL_digs e
   have hn1 : n = 1 := by rcases hn with h | h <;> omega
   subst hn1
   have e' : (isDig c.toNat || (c == 46 && false)) = true := e
   rw [Bool.and_false, Bool.or_false] at e'
   show (isDig c.toNat || _) = true
   rw [e', Bool.true_or]
  ·rw [takeS_cons h1]
   have : ¬ (c = 39 ∨ c = 34 ∨ c = 96) := fun e => by
    rw [scanL_q _ e, litA_eqn] at hq
    cases hq
   rw [scanL_no _ this]
  ·by_cases h3 : opN ((c :: t).take n) = 0
   ·exact h3
   ·obtain ⟨g1, g2, g3, g4⟩ := opN_pos h3
    have := opN_zero ho _ g1 g2
    rw [← g4] at this
    exact absurd ((List.take_prefix ..).trans (List.take_prefix ..)) this
 cases hd : dcF (c :: t) with
 | none =>
  have hw : ¬ (∃ r n, dcF (c :: t) = some (r, n) ∧ letB r = true) := by rintro ⟨r, n, e, _⟩; rw [hd] at e; cases e
  rw [oneF_none hd]
  refine litF_all (fun p => oneF ((c :: t).take p.s) = p) (hnum hw) (hlit hw) (fun _ _ => hop) (fun a b d => ?_)
  show oneF [c] = _
  have h1 := hno 1 (Nat.le_refl _) (.inr rfl) a b d ⟨6, 1, 3, false⟩
  rw [oneF_none (dcF_none1 hd)]
  exact h1
 | some p =>
  obtain ⟨r, n⟩ := p
  have hs := dcF_size hd
  by_cases hl : letB r = true
  ·rw [oneF_name hd hl]
   have h1 := wordF_go hd (.inl hl)
   have h2 := wordF_alone _ (c :: t) (Nat.le_refl _)
   dsimp only
   have h3 := oneF_name (dcF_take hd (m := wordF (c :: t)) (by omega)) hl
   rw [h2, List.take_take, Nat.min_self] at h3
   exact h3
  ·have hw : ¬ (∃ r n, dcF (c :: t) = some (r, n) ∧ letB r = true) := by
    rintro ⟨r', n', e, e2⟩
    rw [hd] at e
    cases e
    exact hl e2
   rw [oneF_rune hd hl]
   refine litF_all (fun p => oneF ((c :: t).take p.s) = p) (hnum hw) (hlit hw) (fun _ _ => hop) (fun a b d => ?_)
   show oneF ((c :: t).take n) = _
   rw [oneF_rune (dcF_take hd (Nat.le_refl _)) hl]
   refine hno n hs.1 ?_ a b d _
   by_cases hc : 128 ≤ c.toNat
   ·exact .inl hc
   ·rw [dcF_ascii (by omega)] at hd
    cases hd
    exact .inr rfl
end Go.Proofs.YtgkhjeefcflmcaaGreatDoor
namespace Go.Proofs.YtgkhjeefcflmcaaGreatDoor
open Go.RowKit Go.Sort
set_option linter.unusedSimpArgs false
def isBl (c : UInt8) : Bool := c == 32 || c == 9 || c == 13
def cmtP (o : Option (Nat × Bool × Bool)) (z : Pc) : Pc :=
 match o with
 | some (n, true, b) => ⟨0, n, 0, b⟩
 | some (n, false, _) => ⟨6, n, 12, false⟩
 | none => z
theorem cmtP_none (z : Pc) : cmtP none z = z := rfl
noncomputable def pcF : List UInt8 → Pc
 | [] => ⟨0, 0, 0, true⟩
 | c :: t => if isBl c = true then ⟨0, 1, 0, false⟩ else if c = 10 then ⟨0, 1, 0, true⟩ else cmtP (cmtF (c :: t)) (oneF (c :: t))
theorem pcF_cons (c : UInt8) (t : List UInt8) : pcF (c :: t) = if isBl c = true then ⟨0, 1, 0, false⟩ else if c = 10 then ⟨0, 1, 0, true⟩ else cmtP (cmtF (c :: t)) (oneF (c :: t)) := rfl
theorem pcF_bl {c : UInt8} (t : List UInt8) (h : isBl c = true) : pcF (c :: t) = ⟨0, 1, 0, false⟩ := if_pos h
theorem pcF_lf10 (t : List UInt8) : pcF (10 :: t) = ⟨0, 1, 0, true⟩ := by
 rw [pcF_cons, if_neg (by decide), if_pos rfl]
theorem pcF_cmt {c : UInt8} {t : List UInt8} {n : Nat} {b : Bool} (h : cmtF (c :: t) = some (n, true, b)) : pcF (c :: t) = ⟨0, n, 0, b⟩ := by
 have hc : c = 47 := by
  by_cases hc : c = 47
  ·exact hc
  ·rw [cmtF_head t hc] at h; cases h
 subst hc
 rw [pcF_cons, if_neg (by decide), if_neg (by decide), h]
 rfl
theorem pcF_cut {c : UInt8} {t : List UInt8} {n : Nat} {b : Bool} (h : cmtF (c :: t) = some (n, false, b)) : pcF (c :: t) = ⟨6, n, 12, false⟩ := by
 have hc : c = 47 := by
  by_cases hc : c = 47
  ·exact hc
  ·rw [cmtF_head t hc] at h; cases h
 subst hc
 rw [pcF_cons, if_neg (by decide), if_neg (by decide), h]
 rfl
theorem pcF_one {c : UInt8} {t : List UInt8} (h1 : ¬ isBl c = true) (h2 : c ≠ 10) (h3 : cmtF (c :: t) = none) : pcF (c :: t) = oneF (c :: t) := by
 rw [pcF_cons, if_neg h1, if_neg h2, h3, cmtP_none]
theorem pcF_all (P : Pc → Prop) {c : UInt8} {t : List UInt8} (h1 : isBl c = true → P ⟨0, 1, 0, false⟩) (h2 : c = 10 → P ⟨0, 1, 0, true⟩)
  (h3 : ∀ n b, cmtF (c :: t) = some (n, true, b) → P ⟨0, n, 0, b⟩) (h4 : ∀ n b, cmtF (c :: t) = some (n, false, b) → P ⟨6, n, 12, false⟩)
  (h5 : ¬ isBl c = true → c ≠ 10 → cmtF (c :: t) = none → P (oneF (c :: t))) : P (pcF (c :: t)) := by
 by_cases a : isBl c = true
 ·rw [pcF_bl t a]; exact h1 a
 ·by_cases b : c = 10
  ·subst b; rw [pcF_lf10]; exact h2 rfl
  ·cases hc : cmtF (c :: t) with
   | none => rw [pcF_one a b hc]; exact h5 a b hc
   | some p =>
    obtain ⟨n, k, d⟩ := p
    cases k with
    | true => rw [pcF_cmt hc]; exact h3 _ _ hc
    | false => rw [pcF_cut hc]; exact h4 _ _ hc
theorem pcF_size (c : UInt8) (t : List UInt8) : 1 ≤ (pcF (c :: t)).s ∧ (pcF (c :: t)).s ≤ t.length + 1 := by
 refine pcF_all (fun p => 1 ≤ p.s ∧ p.s ≤ t.length + 1) (fun _ => ⟨Nat.le_refl _, by simp⟩) (fun _ => ⟨Nat.le_refl _, by simp⟩) (fun n b h => ?_) (fun n b h => ?_) (fun _ _ _ => ?_)
 ·have := cmtF_size h; simp only [List.length_cons] at this ⊢; omega
 ·have := cmtF_size h; simp only [List.length_cons] at this ⊢; omega
 ·have := oneF_tok (c := c) (t := t); exact ⟨this.s0, this.sl⟩
theorem pcF_tok {c : UInt8} {t : List UInt8} (h : (pcF (c :: t)).k ≠ 0) : TokP (c :: t) (pcF (c :: t)) := by
 refine pcF_all (fun p => p.k ≠ 0 → TokP (c :: t) p) (fun _ h => absurd rfl h) (fun _ h => absurd rfl h) (fun n b _ h => absurd rfl h) (fun n b h _ => ?_) (fun _ _ _ _ => oneF_tok) h
 have := cmtF_size h
 exact TokP.of (by decide) (by omega) this.2.1 (by simp) (by decide)
theorem pcF_take {c : UInt8} {t : List UInt8} {m : Nat} (h : (pcF (c :: t)).k = 0) (hm : (pcF (c :: t)).s ≤ m) : pcF ((c :: t).take m) = pcF (c :: t) := by
 have hs := pcF_size c t
 obtain ⟨j, rfl⟩ : ∃ j, m = j + 1 := ⟨m - 1, by omega⟩
 refine pcF_all (fun p => p.k = 0 → p.s ≤ j + 1 → pcF ((c :: t).take (j + 1)) = p) (fun a _ _ => pcF_bl _ a) (fun a _ _ => by subst a; exact pcF_lf10 _) (fun n b a _ g => ?_) (fun n b a g => by cases g) (fun _ _ _ h => absurd h oneF_tok.k0) h hm
 exact pcF_cmt (cmtF_take a g)
theorem pcF_alone (c : UInt8) (t : List UInt8) : pcF ((c :: t).take (pcF (c :: t)).s) = pcF (c :: t) := by
 by_cases h : (pcF (c :: t)).k = 0
 ·exact pcF_take h (Nat.le_refl _)
 ·refine pcF_all (fun p => p.k ≠ 0 → pcF ((c :: t).take p.s) = p) (fun _ h => absurd rfl h) (fun _ h => absurd rfl h) (fun n b _ h => absurd rfl h) (fun n b h _ => ?_) (fun a b d _ => ?_) h
  ·show pcF ((c :: t).take n) = _
   have e := (cmtF_size h).2.2 rfl
   rw [List.take_of_length_le (by rw [e]; exact Nat.le_refl _)]
   exact pcF_cut h
  ·have hs := (oneF_tok (c := c) (t := t)).s0
   have ha := oneF_alone (c := c) (t := t)
   have hc : cmtF ((c :: t).take (oneF (c :: t)).s) = none := by
    rcases cmtF_cases ((c :: t).take (oneF (c :: t)).s) with g | ⟨x, g⟩ | ⟨x, g⟩
    ·exact g
    ·have e := List.take_append_drop (oneF (c :: t)).s (c :: t)
     rw [g] at e
     rw [← e] at d
     cases d
    ·have e := List.take_append_drop (oneF (c :: t)).s (c :: t)
     rw [g] at e
     rw [← e] at d
     cases d
   generalize (oneF (c :: t)).s = s at hs ha hc ⊢
   rw [takeS_cons hs] at ha hc ⊢
   rw [pcF_one a b hc]
   exact ha
theorem pcF_lf {c : UInt8} {r : List UInt8} (u : List UInt8) (h1 : ¬ OpenC (c :: r)) (h2 : ¬ OpenR (c :: r)) : pcF (c :: (r ++ 10 :: u)) = pcF (c :: r) := by
 have hc := cmtF_lf u h1
 refine pcF_all (fun p => pcF (c :: (r ++ 10 :: u)) = p) (fun a => pcF_bl _ a) (fun a => by subst a; exact pcF_lf10 _) (fun n b a => pcF_cmt (hc.trans a)) (fun n b a => ?_) (fun a b d => ?_)
 ·exact pcF_cut (hc.trans a)
 ·rw [pcF_one a b (hc.trans d), oneF_lf u h2]
theorem pcF_open {c : UInt8} {r : List UInt8} (h : OpenC (c :: r) ∨ OpenR (c :: r)) : pcF (c :: (r ++ [10])) = ⟨6, r.length + 2, 12, false⟩ := by
 rcases h with ⟨t, h1, h2⟩ | ⟨t, h1, h2⟩
 ·cases h1
  have h3 := genF_lf t h2
  have h4 := (genF_le (t ++ [10])).2 h3
  rw [List.length_append] at h4
  refine (pcF_cut (n := (t.length + 1) + 2) (b := (genF (t ++ [10])).2.2) ?_).trans ?_
  ·show cmtF (47 :: 42 :: (t ++ [10])) = _
   rw [cmtF_gen, h3, h4]; rfl
  ·rfl
 ·cases h1
  have h3 := endF_rawlf r h2
  have h4 := scanL_raw h3
  rw [pcF_one (by decide) (by decide) (cmtF_head _ (by decide)), oneF_rune (dcF_ascii (by decide) _) (by decide), litF_lit _ (by rintro ⟨⟩) (by rw [h4]; exact Nat.succ_ne_zero _)]
  unfold litP
  rw [h4, List.length_append]
  rfl
noncomputable def gapG : Nat → List UInt8 → Bool
 | 0, _ => true
 | _ + 1, [] => true
 | f + 1, c :: t => if (pcF (c :: t)).k = 0 then gapG f (t.drop ((pcF (c :: t)).s - 1)) else false
theorem gapG_nil : ∀ f : Nat, gapG f [] = true
 | 0 => rfl
 | _ + 1 => rfl
theorem gapG_cons (f : Nat) (c : UInt8) (t : List UInt8) : gapG (f + 1) (c :: t) = if (pcF (c :: t)).k = 0 then gapG f (t.drop ((pcF (c :: t)).s - 1)) else false := by rw [gapG]
theorem gapG_fuel : ∀ (f g : Nat) (l : List UInt8), l.length ≤ f → l.length ≤ g → gapG f l = gapG g l
 | f, g, [], _, _ => by rw [gapG_nil, gapG_nil]
 | 0, _, _ :: _, h, _ => by simp at h
 | _ + 1, 0, _ :: _, _, h => by simp at h
 | f + 1, g + 1, c :: t, hf, hg => by
  rw [gapG_cons, gapG_cons, gapG_fuel f g _ (by rw [List.length_drop]; simp only [List.length_cons] at hf; omega) (by rw [List.length_drop]; simp only [List.length_cons] at hg; omega)]
noncomputable def gapF (l : List UInt8) : Bool := gapG l.length l
theorem gapF_nil : gapF [] = true := rfl
theorem dropS_cons {c : UInt8} {t : List UInt8} {s : Nat} (h : 1 ≤ s) : (c :: t).drop s = t.drop (s - 1) := by
 obtain ⟨j, rfl⟩ : ∃ j, s = j + 1 := ⟨s - 1, by omega⟩
 rfl
theorem gapF_cons (c : UInt8) (t : List UInt8) : gapF (c :: t) = if (pcF (c :: t)).k = 0 then gapF ((c :: t).drop (pcF (c :: t)).s) else false := by
 refine (gapG_cons t.length c t).trans ?_
 rw [dropS_cons (pcF_size c t).1]
 unfold gapF
 rw [gapG_fuel t.length _ _ (by rw [List.length_drop]; omega) (Nat.le_refl _)]
theorem gapF_go {c : UInt8} {t : List UInt8} (h : (pcF (c :: t)).k = 0) : gapF (c :: t) = gapF ((c :: t).drop (pcF (c :: t)).s) := by
 rw [gapF_cons, if_pos h]
structure TkN where
 k : Nat
 f : Nat
 t : Nat
 a : Bool
 e : Nat
def stO (p : Pc) (x last : Nat) : List TkN := if p.k = 0 then (if p.b = true ∧ endsA last = true then [⟨86, x, x, true, 0⟩] else []) else [⟨p.k, x, x + p.s, false, p.e⟩]
def stL (p : Pc) (last : Nat) : Nat := if p.k = 0 then (if p.b = true ∧ endsA last = true then 86 else last) else p.k
noncomputable def tokG : Nat → List UInt8 → Nat → Nat → List TkN
 | 0, _, x, last => stO ⟨0, 0, 0, true⟩ x last
 | _ + 1, [], x, last => stO ⟨0, 0, 0, true⟩ x last
 | f + 1, c :: t, x, last => stO (pcF (c :: t)) x last ++ tokG f (t.drop ((pcF (c :: t)).s - 1)) (x + (pcF (c :: t)).s) (stL (pcF (c :: t)) last)
theorem tokG_nil : ∀ (f x last : Nat), tokG f [] x last = stO ⟨0, 0, 0, true⟩ x last
 | 0, _, _ => rfl
 | _ + 1, _, _ => rfl
theorem tokG_cons (f : Nat) (c : UInt8) (t : List UInt8) (x last : Nat) : tokG (f + 1) (c :: t) x last = stO (pcF (c :: t)) x last ++ tokG f (t.drop ((pcF (c :: t)).s - 1)) (x + (pcF (c :: t)).s) (stL (pcF (c :: t)) last) := by rw [tokG]
theorem tokG_fuel : ∀ (f g : Nat) (l : List UInt8) (x last : Nat), l.length ≤ f → l.length ≤ g → tokG f l x last = tokG g l x last
 | f, g, [], _, _, _, _ => by rw [tokG_nil, tokG_nil]
 | 0, _, _ :: _, _, _, h, _ => by simp at h
 | _ + 1, 0, _ :: _, _, _, _, h => by simp at h
 | f + 1, g + 1, c :: t, x, last, hf, hg => by
  rw [tokG_cons, tokG_cons, tokG_fuel f g _ _ _ (by rw [List.length_drop]; simp only [List.length_cons] at hf; omega) (by rw [List.length_drop]; simp only [List.length_cons] at hg; omega)]
noncomputable def toks (l : List UInt8) (x last : Nat) : List TkN := tokG l.length l x last
theorem toks_nil (x last : Nat) : toks [] x last = stO ⟨0, 0, 0, true⟩ x last := rfl
theorem toks_go (c : UInt8) (t : List UInt8) (x last : Nat) :
  toks (c :: t) x last = stO (pcF (c :: t)) x last ++ toks ((c :: t).drop (pcF (c :: t)).s) (x + (pcF (c :: t)).s) (stL (pcF (c :: t)) last) := by
 refine (tokG_cons t.length c t x last).trans ?_
 rw [dropS_cons (pcF_size c t).1]
 unfold toks
 rw [tokG_fuel t.length _ _ _ _ (by rw [List.length_drop]; omega) (Nat.le_refl _)]
theorem toks_last : ∀ (f : Nat) (l : List UInt8) (x a b : Nat), l.length ≤ f → endsA a = endsA b → toks l x a = toks l x b
 | _, [], x, a, b, _, h => by
  rw [toks_nil, toks_nil]
  unfold stO
  rw [h]
 | 0, _ :: _, _, _, _, h, _ => by simp at h
 | f + 1, c :: t, x, a, b, hf, h => by
  have hs := pcF_size c t
  rw [toks_go, toks_go]
  have h1 : stO (pcF (c :: t)) x a = stO (pcF (c :: t)) x b := by unfold stO; rw [h]
  rw [h1]
  refine congrArg _ (toks_last f _ _ _ _ (by rw [List.length_drop]; simp only [List.length_cons] at hf ⊢; omega) ?_)
  unfold stL
  split
  ·rw [h]
   split
   ·rfl
   ·exact h
  ·rfl
def TkN.sh (d : Nat) (t : TkN) : TkN := ⟨t.k, d + t.f, d + t.t, t.a, t.e⟩
theorem stO_sh (p : Pc) (d x last : Nat) : stO p (d + x) last = (stO p x last).map (TkN.sh d) := by
 unfold stO
 split
 ·split <;> rfl
 ·simp [TkN.sh, Nat.add_assoc]
theorem toks_sh : ∀ (f : Nat) (l : List UInt8) (d x last : Nat), l.length ≤ f → toks l (d + x) last = (toks l x last).map (TkN.sh d)
 | _, [], d, x, last, _ => by rw [toks_nil, toks_nil, stO_sh]
 | 0, _ :: _, _, _, _, h => by simp at h
 | f + 1, c :: t, d, x, last, hf => by
  have hs := pcF_size c t
  rw [toks_go, toks_go, List.map_append, ← stO_sh, Nat.add_assoc, toks_sh f _ _ _ _ (by rw [List.length_drop]; simp only [List.length_cons] at hf ⊢; omega)]
theorem stL_no {p : Pc} {last : Nat} (hk : p.k = 0) (hb : p.b = true) : endsA (stL p last) = false := by
 unfold stL
 rw [if_pos hk]
 split
 ·decide
 ·next h =>
  cases he : endsA last with
  | false => rfl
  | true => exact absurd ⟨hb, he⟩ h
theorem stO_no {p : Pc} {x last : Nat} (hk : p.k = 0) (he : endsA last = false) : stO p x last = [] := by
 unfold stO
 rw [if_pos hk, if_neg (fun h => by rw [he] at h; cases h.2)]
theorem toks_join : ∀ (f : Nat) (r u : List UInt8) (x last : Nat), r.length ≤ f →
  (∃ L0 t, toks (r ++ [10]) x last = L0 ++ [t] ∧ t.e = 12 ∧ t.t = x + r.length + 1) ∨ toks (r ++ 10 :: u) x last = toks (r ++ [10]) x last ++ toks u (x + r.length + 1) 0
 | _, [], u, x, last, _ => by
  refine .inr ?_
  rw [List.nil_append, List.nil_append, toks_go, toks_go, pcF_lf10, pcF_lf10]
  have h1 : endsA (stL ⟨0, 1, 0, true⟩ last) = false := stL_no rfl rfl
  show _ ++ toks u (x + 1) _ = (_ ++ toks [] (x + 1) _) ++ toks u (x + 1) 0
  rw [toks_nil, stO_no rfl h1, List.append_nil, toks_last _ u (x + 1) _ 0 (Nat.le_refl _) h1]
 | 0, _ :: _, _, _, _, h => by simp at h
 | f + 1, c :: r, u, x, last, hf => by
  by_cases ho : OpenC (c :: r) ∨ OpenR (c :: r)
  ·refine .inl ⟨[], ⟨6, x, x + (r.length + 2), false, 12⟩, ?_, rfl, by simp only [List.length_cons]; omega⟩
   have h1 := pcF_open ho
   rw [List.cons_append, toks_go, h1]
   have h2 : (c :: (r ++ [10])).drop (r.length + 2) = [] := List.drop_of_length_le (by simp)
   show [_] ++ toks ((c :: (r ++ [10])).drop (r.length + 2)) _ _ = _
   rw [h2, toks_nil, stO_no rfl (show endsA ((stL ⟨6, r.length + 2, 12, false⟩ last : Nat) : Int) = false from rfl)]
   rfl
  ·have h1 : ¬ OpenC (c :: r) := fun e => ho (.inl e)
   have h2 : ¬ OpenR (c :: r) := fun e => ho (.inr e)
   have hs := pcF_size c r
   have hd : ∀ y, (c :: (r ++ y)).drop (pcF (c :: r)).s = (c :: r).drop (pcF (c :: r)).s ++ y := fun y => by
    rw [← List.cons_append, List.drop_append_of_le_length (by simp only [List.length_cons]; omega)]
   rw [List.cons_append, List.cons_append, toks_go, toks_go, pcF_lf u h1 h2, pcF_lf [] h1 h2, hd, hd]
   have hl : ((c :: r).drop (pcF (c :: r)).s).length = r.length + 1 - (pcF (c :: r)).s := by rw [List.length_drop]; rfl
   rcases toks_join f ((c :: r).drop (pcF (c :: r)).s) u (x + (pcF (c :: r)).s) (stL (pcF (c :: r)) last) (by simp only [List.length_cons] at hf; omega) with ⟨L0, t, g1, g2, g3⟩ | g
   ·refine .inl ⟨stO (pcF (c :: r)) x last ++ L0, t, by rw [g1, List.append_assoc], g2, ?_⟩
    rw [g3, hl]
    simp only [List.length_cons]
    omega
   ·refine .inr ?_
    rw [g, List.append_assoc, hl, show x + (pcF (c :: r)).s + (r.length + 1 - (pcF (c :: r)).s) + 1 = x + (c :: r).length + 1 by simp only [List.length_cons]; omega]
inductive GapRun (all : List UInt8) : Nat → Nat → Prop
 | nil (e : Nat) : GapRun all e e
 | cons {e m : Nat} : e < all.length → (pcF (all.drop e)).k = 0 → GapRun all (e + (pcF (all.drop e)).s) m → GapRun all e m
theorem GapRun.snoc {all : List UInt8} {e m : Nat} (h : GapRun all e m) (hm : m < all.length) (hk : (pcF (all.drop m)).k = 0) : GapRun all e (m + (pcF (all.drop m)).s) := by
 induction h with
 | nil e => exact .cons hm hk (.nil _)
 | cons h1 h2 _ ih => exact .cons h1 h2 (ih hm hk)
theorem GapRun.gap {all : List UInt8} {e m : Nat} (h : GapRun all e m) : e ≤ m ∧ gapF ((all.drop e).take (m - e)) = true := by
 induction h with
 | nil e => exact ⟨Nat.le_refl _, by rw [Nat.sub_self, List.take_zero, gapF_nil]⟩
 | @cons e m h1 h2 _ ih =>
  obtain ⟨i1, i2⟩ := ih
  have hd : ∃ c t, all.drop e = c :: t := by
   cases hx : all.drop e with
   | nil => have := congrArg List.length hx; rw [List.length_drop] at this; simp only [List.length_nil] at this; omega
   | cons c t => exact ⟨c, t, rfl⟩
  obtain ⟨c, t, hd⟩ := hd
  rw [hd] at h2 i1 i2 ⊢
  have hs := pcF_size c t
  have h3 := pcF_take (m := m - e) h2 (by omega)
  refine ⟨by omega, ?_⟩
  have e1 : (c :: t).drop (pcF (c :: t)).s = all.drop (e + (pcF (c :: t)).s) := by
   generalize (pcF (c :: t)).s = s
   rw [← hd, List.drop_drop]
  rw [takeS_cons (by omega)] at h3 ⊢
  rw [gapF_go (by rw [h3]; exact h2), h3, ← takeS_cons (by omega), List.drop_take, e1, show m - e - (pcF (c :: t)).s = m - (e + (pcF (c :: t)).s) by omega]
  exact i2
def GoodT (all : List UInt8) : Nat → Bool → List TkN → Prop
  | e, _, [] => gapF (all.drop e) = true
  | e, pa, t :: L => (e ≤ t.f ∧ t.f ≤ t.t ∧ t.t ≤ all.length ∧ gapF ((all.drop e).take (t.f - e)) = true) ∧
    ((t.a = true ∧ t.f = t.t ∧ t.k = 86 ∧ t.e = 0 ∧ pa = false) ∨
     (t.a = false ∧ t.f < t.t ∧ (t.k = 6 ↔ t.e ≠ 0) ∧ t.k ≠ 0 ∧ t.k < 88 ∧ pcF ((all.drop t.f).take (t.t - t.f)) = ⟨t.k, t.t - t.f, t.e, false⟩)) ∧
    GoodT all t.t t.a L
theorem toks_good (all : List UInt8) : ∀ (f : Nat) (l : List UInt8) (x last e : Nat) (pa : Bool), l.length ≤ f → all.drop x = l → x ≤ all.length → GapRun all e x → (pa = true → endsA last = false) →
  GoodT all e pa (toks l x last)
 | _, [], x, last, e, pa, _, hd, hx, hg, hp => by
  have hx2 : x = all.length := by have := congrArg List.length hd; rw [List.length_drop] at this; simp only [List.length_nil] at this; omega
  obtain ⟨g1, g2⟩ := hg.gap
  rw [toks_nil]
  unfold stO
  rw [if_pos rfl]
  split
  ·next h =>
   refine ⟨⟨g1, Nat.le_refl _, hx, g2⟩, .inl ⟨rfl, rfl, rfl, rfl, ?_⟩, ?_⟩
   ·cases pa with
    | false => rfl
    | true => rw [hp rfl] at h; cases h.2
   ·show gapF (all.drop x) = true
    rw [hd, gapF_nil]
  ·show gapF (all.drop e) = true
   rw [List.take_of_length_le (by rw [List.length_drop]; omega)] at g2
   exact g2
 | 0, _ :: _, _, _, _, _, h, _, _, _, _ => by simp at h
 | f + 1, c :: t, x, last, e, pa, hf, hd, hx, hg, hp => by
  have hs := pcF_size c t
  have hlen : x + (t.length + 1) = all.length := by have := congrArg List.length hd; rw [List.length_drop] at this; simp only [List.length_cons] at this; omega
  have hd2 : all.drop (x + (pcF (c :: t)).s) = (c :: t).drop (pcF (c :: t)).s := by rw [← hd, List.drop_drop]
  have hf2 : ((c :: t).drop (pcF (c :: t)).s).length ≤ f := by rw [List.length_drop]; simp only [List.length_cons] at hf ⊢; omega
  obtain ⟨g1, g2⟩ := hg.gap
  rw [toks_go]
  by_cases hk : (pcF (c :: t)).k = 0
  ·by_cases hb : (pcF (c :: t)).b = true ∧ endsA last = true
   ·have e1 : stO (pcF (c :: t)) x last = [⟨86, x, x, true, 0⟩] := by unfold stO; rw [if_pos hk, if_pos hb]
    have e2 : stL (pcF (c :: t)) last = 86 := by unfold stL; rw [if_pos hk, if_pos hb]
    rw [e1, e2]
    refine ⟨⟨g1, Nat.le_refl _, hx, g2⟩, .inl ⟨rfl, rfl, rfl, rfl, ?_⟩, ?_⟩
    ·cases pa with
     | false => rfl
     | true => have := hp rfl; rw [hb.2] at this; cases this
    ·have hr : GapRun all x (x + (pcF (c :: t)).s) := by
      have := GapRun.snoc (GapRun.nil (all := all) x) (by omega) (by rw [hd]; exact hk)
      rw [hd] at this
      exact this
     exact toks_good all f _ _ 86 x true hf2 hd2 (by omega) hr (fun _ => by decide)
   ·have e1 : stO (pcF (c :: t)) x last = [] := by unfold stO; rw [if_pos hk, if_neg hb]
    have e2 : stL (pcF (c :: t)) last = last := by unfold stL; rw [if_pos hk, if_neg hb]
    rw [e1, e2]
    have hr : GapRun all e (x + (pcF (c :: t)).s) := by
     have := GapRun.snoc hg (by omega) (by rw [hd]; exact hk)
     rw [hd] at this
     exact this
    exact toks_good all f _ _ last e pa hf2 hd2 (by omega) hr hp
  ·have e1 : stO (pcF (c :: t)) x last = [⟨(pcF (c :: t)).k, x, x + (pcF (c :: t)).s, false, (pcF (c :: t)).e⟩] := by unfold stO; rw [if_neg hk]
   have e2 : stL (pcF (c :: t)) last = (pcF (c :: t)).k := by unfold stL; rw [if_neg hk]
   have hT := pcF_tok hk
   rw [e1, e2]
   refine ⟨⟨g1, Nat.le_add_right _ _, by show x + (pcF (c :: t)).s ≤ _; omega, g2⟩, .inr ⟨rfl, by show x < x + (pcF (c :: t)).s; omega, hT.bd, hT.k0, hT.ke, ?_⟩, ?_⟩
   ·show pcF ((all.drop x).take (x + (pcF (c :: t)).s - x)) = ⟨_, x + (pcF (c :: t)).s - x, _, _⟩
    rw [Nat.add_sub_cancel_left, hd, pcF_alone]
    have := hT.nb
    cases hpp : pcF (c :: t) with
    | mk k s e b => rw [hpp] at this; cases this; rfl
   ·exact toks_good all f _ _ _ (x + (pcF (c :: t)).s) false hf2 hd2 (by omega) (.nil _) (fun h => by cases h)
theorem toks_is (all : List UInt8) : GoodT all 0 true (toks all 0 0) :=
 toks_good all _ all 0 0 0 true (Nat.le_refl _) rfl (Nat.zero_le _) (.nil _) (fun _ => rfl)
theorem toks_many : ∀ (f : Nat) (l : List UInt8) (x last : Nat), l.length ≤ f → (toks l x last).length ≤ l.length + 1
 | _, [], x, last, _ => by
  rw [toks_nil]; unfold stO; rw [if_pos rfl]; split <;> simp
 | 0, _ :: _, _, _, h => by simp at h
 | f + 1, c :: t, x, last, hf => by
  have hs := pcF_size c t
  rw [toks_go, List.length_append]
  have h1 := toks_many f ((c :: t).drop (pcF (c :: t)).s) (x + (pcF (c :: t)).s) (stL (pcF (c :: t)) last) (by rw [List.length_drop]; simp only [List.length_cons] at hf ⊢; omega)
  have h2 : (stO (pcF (c :: t)) x last).length ≤ 1 := by
   unfold stO
   split
   ·split <;> simp
   ·simp
  rw [List.length_drop] at h1
  simp only [List.length_cons] at h1 ⊢
  omega
def blkN : List UInt8 → Nat
 | [] => 0
 | c :: t => if isBl c = true then blkN t + 1 else 0
theorem blkN_le : ∀ l, blkN l ≤ l.length
 | [] => Nat.le_refl _
 | c :: t => by
  unfold blkN
  have := blkN_le t
  split <;> simp only [List.length_cons] <;> omega
theorem toks_blk : ∀ (l : List UInt8) (x last : Nat), toks l x last = toks (l.drop (blkN l)) (x + blkN l) last
 | [], x, last => rfl
 | c :: t, x, last => by
  by_cases h : isBl c = true
  ·have e : blkN (c :: t) = blkN t + 1 := if_pos h
   rw [e, toks_go, pcF_bl t h, stO_no2, stL_no2, List.nil_append]
   show toks t (x + 1) last = toks (t.drop (blkN t)) (x + (blkN t + 1)) last
   rw [toks_blk t (x + 1) last, show x + 1 + blkN t = x + (blkN t + 1) by omega]
  ·have e : blkN (c :: t) = 0 := if_neg h
   rw [e]; rfl
where
 stO_no2 {s e x last : Nat} : stO ⟨0, s, e, false⟩ x last = [] := by unfold stO; rw [if_pos rfl, if_neg (fun h => by cases h.1)]
 stL_no2 {s e last : Nat} : stL ⟨0, s, e, false⟩ last = last := by unfold stL; rw [if_pos rfl, if_neg (fun h => by cases h.1)]
end Go.Proofs.YtgkhjeefcflmcaaGreatDoor
