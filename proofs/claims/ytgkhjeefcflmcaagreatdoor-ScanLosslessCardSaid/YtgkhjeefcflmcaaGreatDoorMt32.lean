/-
  Layer 11 (scan) as mathematics: tokens, gaps, soundness; nothing is lost; bytes behind a line feed.
-/
import Derived.Test.YtgkhjeefcflmcaaGreatDoorMt31
namespace Go.Proofs.YtgkhjeefcflmcaaGreatDoor
open Go.RowKit Go.Sort
set_option linter.unusedSimpArgs false
def isBl (c : UInt8) : Bool := c == 32 || c == 9 || c == 13
def cmtP (o : Option (Nat × Bool × Bool)) (z : Pc) : Pc :=
 match o with
 | some (n, true, b) => ⟨0, n, 0, b⟩
 | some (n, false, _) => ⟨6, n, 12, false⟩
 | none => z
theorem cmtP_none (z : Pc) : cmtP none z = z := rfl
noncomputable def pcF : List UInt8 → Pc
 | [] => ⟨0, 0, 0, true⟩
 | c :: t => if isBl c = true then ⟨0, 1, 0, false⟩ else if c = 10 then ⟨0, 1, 0, true⟩ else cmtP (cmtF (c :: t)) (oneF (c :: t))
theorem pcF_cons (c : UInt8) (t : List UInt8) : pcF (c :: t) = if isBl c = true then ⟨0, 1, 0, false⟩ else if c = 10 then ⟨0, 1, 0, true⟩ else cmtP (cmtF (c :: t)) (oneF (c :: t)) := rfl
theorem pcF_bl {c : UInt8} (t : List UInt8) (h : isBl c = true) : pcF (c :: t) = ⟨0, 1, 0, false⟩ := if_pos h
theorem pcF_lf10 (t : List UInt8) : pcF (10 :: t) = ⟨0, 1, 0, true⟩ := by
 rw [pcF_cons, if_neg (by decide), if_pos rfl]
theorem pcF_cmt {c : UInt8} {t : List UInt8} {n : Nat} {b : Bool} (h : cmtF (c :: t) = some (n, true, b)) : pcF (c :: t) = ⟨0, n, 0, b⟩ := by
 have hc : c = 47 := by
  by_cases hc : c = 47
  ·exact hc
  ·rw [cmtF_head t hc] at h; cases h
 subst hc
 rw [pcF_cons, if_neg (by decide), if_neg (by decide), h]
 rfl
theorem pcF_cut {c : UInt8} {t : List UInt8} {n : Nat} {b : Bool} (h : cmtF (c :: t) = some (n, false, b)) : pcF (c :: t) = ⟨6, n, 12, false⟩ := by
 have hc : c = 47 := by
  by_cases hc : c = 47
  ·exact hc
  ·rw [cmtF_head t hc] at h; cases h
 subst hc
 rw [pcF_cons, if_neg (by decide), if_neg (by decide), h]
 rfl
theorem pcF_one {c : UInt8} {t : List UInt8} (h1 : ¬ isBl c = true) (h2 : c ≠ 10) (h3 : cmtF (c :: t) = none) : pcF (c :: t) = oneF (c :: t) := by
 rw [pcF_cons, if_neg h1, if_neg h2, h3, cmtP_none]
theorem pcF_all (P : Pc → Prop) {c : UInt8} {t : List UInt8} (h1 : isBl c = true → P ⟨0, 1, 0, false⟩) (h2 : c = 10 → P ⟨0, 1, 0, true⟩)
  (h3 : ∀ n b, cmtF (c :: t) = some (n, true, b) → P ⟨0, n, 0, b⟩) (h4 : ∀ n b, cmtF (c :: t) = some (n, false, b) → P ⟨6, n, 12, false⟩)
  (h5 : ¬ isBl c = true → c ≠ 10 → cmtF (c :: t) = none → P (oneF (c :: t))) : P (pcF (c :: t)) := by
 by_cases a : isBl c = true
 ·rw [pcF_bl t a]; exact h1 a
 ·by_cases b : c = 10
  ·subst b; rw [pcF_lf10]; exact h2 rfl
  ·cases hc : cmtF (c :: t) with
   | none => rw [pcF_one a b hc]; exact h5 a b hc
   | some p =>
    obtain ⟨n, k, d⟩ := p
    cases k with
    | true => rw [pcF_cmt hc]; exact h3 _ _ hc
    | false => rw [pcF_cut hc]; exact h4 _ _ hc
theorem pcF_size (c : UInt8) (t : List UInt8) : 1 ≤ (pcF (c :: t)).s ∧ (pcF (c :: t)).s ≤ t.length + 1 := by
 refine pcF_all (fun p => 1 ≤ p.s ∧ p.s ≤ t.length + 1) (fun _ => ⟨Nat.le_refl _, by simp⟩) (fun _ => ⟨Nat.le_refl _, by simp⟩) (fun n b h => ?_) (fun n b h => ?_) (fun _ _ _ => ?_)
 ·have := cmtF_size h; simp only [List.length_cons] at this ⊢; omega
 ·have := cmtF_size h; simp only [List.length_cons] at this ⊢; omega
 ·have := oneF_tok (c := c) (t := t); exact ⟨this.s0, this.sl⟩
theorem pcF_tok {c : UInt8} {t : List UInt8} (h : (pcF (c :: t)).k ≠ 0) : TokP (c :: t) (pcF (c :: t)) := by
 refine pcF_all (fun p => p.k ≠ 0 → TokP (c :: t) p) (fun _ h => absurd rfl h) (fun _ h => absurd rfl h) (fun n b _ h => absurd rfl h) (fun n b h _ => ?_) (fun _ _ _ _ => oneF_tok) h
 have := cmtF_size h
 exact TokP.of (by decide) (by omega) this.2.1 (by simp) (by decide)
theorem pcF_take {c : UInt8} {t : List UInt8} {m : Nat} (h : (pcF (c :: t)).k = 0) (hm : (pcF (c :: t)).s ≤ m) : pcF ((c :: t).take m) = pcF (c :: t) := by
 have hs := pcF_size c t
 obtain ⟨j, rfl⟩ : ∃ j, m = j + 1 := ⟨m - 1, by omega⟩
 refine pcF_all (fun p => p.k = 0 → p.s ≤ j + 1 → pcF ((c :: t).take (j + 1)) = p) (fun a _ _ => pcF_bl _ a) (fun a _ _ => by subst a; exact pcF_lf10 _) (fun n b a _ g => ?_) (fun n b a g => by cases g) (fun _ _ _ h => absurd h oneF_tok.k0) h hm
 exact pcF_cmt (cmtF_take a g)
theorem pcF_alone (c : UInt8) (t : List UInt8) : pcF ((c :: t).take (pcF (c :: t)).s) = pcF (c :: t) := by
 by_cases h : (pcF (c :: t)).k = 0
 ·exact pcF_take h (Nat.le_refl _)
 ·refine pcF_all (fun p => p.k ≠ 0 → pcF ((c :: t).take p.s) = p) (fun _ h => absurd rfl h) (fun _ h => absurd rfl h) (fun n b _ h => absurd rfl h) (fun n b h _ => ?_) (fun a b d _ => ?_) h
  ·show pcF ((c :: t).take n) = _
   have e := (cmtF_size h).2.2 rfl
   rw [List.take_of_length_le (by rw [e]; exact Nat.le_refl _)]
   exact pcF_cut h
  ·have hs := (oneF_tok (c := c) (t := t)).s0
   have ha := oneF_alone (c := c) (t := t)
   have hc : cmtF ((c :: t).take (oneF (c :: t)).s) = none := by
    rcases cmtF_cases ((c :: t).take (oneF (c :: t)).s) with g | ⟨x, g⟩ | ⟨x, g⟩
    ·exact g
    ·have e := List.take_append_drop (oneF (c :: t)).s (c :: t)
     rw [g] at e
     rw [← e] at d
     cases d
    ·have e := List.take_append_drop (oneF (c :: t)).s (c :: t)
     rw [g] at e
     rw [← e] at d
     cases d
   generalize (oneF (c :: t)).s = s at hs ha hc ⊢
   rw [takeS_cons hs] at ha hc ⊢
   rw [pcF_one a b hc]
   exact ha
noncomputable def gapG : Nat → List UInt8 → Bool
 | 0, _ => true
 | _ + 1, [] => true
 | f + 1, c :: t => if (pcF (c :: t)).k = 0 then gapG f (t.drop ((pcF (c :: t)).s - 1)) else false
theorem gapG_nil : ∀ f : Nat, gapG f [] = true
 | 0 => rfl
 | _ + 1 => rfl
theorem gapG_cons (f : Nat) (c : UInt8) (t : List UInt8) : gapG (f + 1) (c :: t) = if (pcF (c :: t)).k = 0 then gapG f (t.drop ((pcF (c :: t)).s - 1)) else false := by rw [gapG]
theorem gapG_fuel : ∀ (f g : Nat) (l : List UInt8), l.length ≤ f → l.length ≤ g → gapG f l = gapG g l
 | f, g, [], _, _ => by rw [gapG_nil, gapG_nil]
 | 0, _, _ :: _, h, _ => by simp at h
 | _ + 1, 0, _ :: _, _, h => by simp at h
 | f + 1, g + 1, c :: t, hf, hg => by
  rw [gapG_cons, gapG_cons, gapG_fuel f g _ (by rw [List.length_drop]; simp only [List.length_cons] at hf; omega) (by rw [List.length_drop]; simp only [List.length_cons] at hg; omega)]
noncomputable def gapF (l : List UInt8) : Bool := gapG l.length l
theorem gapF_nil : gapF [] = true := rfl
theorem dropS_cons {c : UInt8} {t : List UInt8} {s : Nat} (h : 1 ≤ s) : (c :: t).drop s = t.drop (s - 1) := by
 obtain ⟨j, rfl⟩ : ∃ j, s = j + 1 := ⟨s - 1, by omega⟩
 rfl
theorem gapF_cons (c : UInt8) (t : List UInt8) : gapF (c :: t) = if (pcF (c :: t)).k = 0 then gapF ((c :: t).drop (pcF (c :: t)).s) else false := by
 refine (gapG_cons t.length c t).trans ?_
 rw [dropS_cons (pcF_size c t).1]
 unfold gapF
 rw [gapG_fuel t.length _ _ (by rw [List.length_drop]; omega) (Nat.le_refl _)]
theorem gapF_go {c : UInt8} {t : List UInt8} (h : (pcF (c :: t)).k = 0) : gapF (c :: t) = gapF ((c :: t).drop (pcF (c :: t)).s) := by
 rw [gapF_cons, if_pos h]
theorem gapF_no {c : UInt8} {t : List UInt8} (h : (pcF (c :: t)).k ≠ 0) : gapF (c :: t) = false := by
 rw [gapF_cons, if_neg h]
structure TkN where
 k : Nat
 f : Nat
 t : Nat
 a : Bool
 e : Nat
def stO (p : Pc) (x last : Nat) : List TkN := if p.k = 0 then (if p.b = true ∧ endsA last = true then [⟨86, x, x, true, 0⟩] else []) else [⟨p.k, x, x + p.s, false, p.e⟩]
def stL (p : Pc) (last : Nat) : Nat := if p.k = 0 then (if p.b = true ∧ endsA last = true then 86 else last) else p.k
noncomputable def tokG : Nat → List UInt8 → Nat → Nat → List TkN
 | 0, _, x, last => stO ⟨0, 0, 0, true⟩ x last
 | _ + 1, [], x, last => stO ⟨0, 0, 0, true⟩ x last
 | f + 1, c :: t, x, last => stO (pcF (c :: t)) x last ++ tokG f (t.drop ((pcF (c :: t)).s - 1)) (x + (pcF (c :: t)).s) (stL (pcF (c :: t)) last)
theorem tokG_nil : ∀ (f x last : Nat), tokG f [] x last = stO ⟨0, 0, 0, true⟩ x last
 | 0, _, _ => rfl
 | _ + 1, _, _ => rfl
theorem tokG_cons (f : Nat) (c : UInt8) (t : List UInt8) (x last : Nat) : tokG (f + 1) (c :: t) x last = stO (pcF (c :: t)) x last ++ tokG f (t.drop ((pcF (c :: t)).s - 1)) (x + (pcF (c :: t)).s) (stL (pcF (c :: t)) last) := by rw [tokG]
theorem tokG_fuel : ∀ (f g : Nat) (l : List UInt8) (x last : Nat), l.length ≤ f → l.length ≤ g → tokG f l x last = tokG g l x last
 | f, g, [], _, _, _, _ => by rw [tokG_nil, tokG_nil]
 | 0, _, _ :: _, _, _, h, _ => by simp at h
 | _ + 1, 0, _ :: _, _, _, _, h => by simp at h
 | f + 1, g + 1, c :: t, x, last, hf, hg => by
  rw [tokG_cons, tokG_cons, tokG_fuel f g _ _ _ (by rw [List.length_drop]; simp only [List.length_cons] at hf; omega) (by rw [List.length_drop]; simp only [List.length_cons] at hg; omega)]
noncomputable def toks (l : List UInt8) (x last : Nat) : List TkN := tokG l.length l x last
theorem toks_nil (x last : Nat) : toks [] x last = stO ⟨0, 0, 0, true⟩ x last := rfl
theorem toks_go (c : UInt8) (t : List UInt8) (x last : Nat) :
  toks (c :: t) x last = stO (pcF (c :: t)) x last ++ toks ((c :: t).drop (pcF (c :: t)).s) (x + (pcF (c :: t)).s) (stL (pcF (c :: t)) last) := by
 refine (tokG_cons t.length c t x last).trans ?_
 rw [dropS_cons (pcF_size c t).1]
 unfold toks
 rw [tokG_fuel t.length _ _ _ _ (by rw [List.length_drop]; omega) (Nat.le_refl _)]
theorem stO_no {p : Pc} {x last : Nat} (hk : p.k = 0) (he : endsA last = false) : stO p x last = [] := by
 unfold stO
 rw [if_pos hk, if_neg (fun h => by rw [he] at h; cases h.2)]
inductive GapRun (all : List UInt8) : Nat → Nat → Prop
 | nil (e : Nat) : GapRun all e e
 | cons {e m : Nat} : e < all.length → (pcF (all.drop e)).k = 0 → GapRun all (e + (pcF (all.drop e)).s) m → GapRun all e m
theorem GapRun.snoc {all : List UInt8} {e m : Nat} (h : GapRun all e m) (hm : m < all.length) (hk : (pcF (all.drop m)).k = 0) : GapRun all e (m + (pcF (all.drop m)).s) := by
 induction h with
 | nil e => exact .cons hm hk (.nil _)
 | cons h1 h2 _ ih => exact .cons h1 h2 (ih hm hk)
theorem GapRun.gap {all : List UInt8} {e m : Nat} (h : GapRun all e m) : e ≤ m ∧ gapF ((all.drop e).take (m - e)) = true := by
 induction h with
 | nil e => exact ⟨Nat.le_refl _, by rw [Nat.sub_self, List.take_zero, gapF_nil]⟩
 | @cons e m h1 h2 _ ih =>
  obtain ⟨i1, i2⟩ := ih
  have hd : ∃ c t, all.drop e = c :: t := by
   cases hx : all.drop e with
   | nil => have := congrArg List.length hx; rw [List.length_drop] at this; simp only [List.length_nil] at this; omega
   | cons c t => exact ⟨c, t, rfl⟩
  obtain ⟨c, t, hd⟩ := hd
  rw [hd] at h2 i1 i2 ⊢
  have hs := pcF_size c t
  have h3 := pcF_take (m := m - e) h2 (by omega)
  refine ⟨by omega, ?_⟩
  have e1 : (c :: t).drop (pcF (c :: t)).s = all.drop (e + (pcF (c :: t)).s) := by
   generalize (pcF (c :: t)).s = s
   rw [← hd, List.drop_drop]
  rw [takeS_cons (by omega)] at h3 ⊢
  rw [gapF_go (by rw [h3]; exact h2), h3, ← takeS_cons (by omega), List.drop_take, e1, show m - e - (pcF (c :: t)).s = m - (e + (pcF (c :: t)).s) by omega]
  exact i2
def GoodT (all : List UInt8) : Nat → Bool → List TkN → Prop
  | e, _, [] => gapF (all.drop e) = true
  | e, pa, t :: L => (e ≤ t.f ∧ t.f ≤ t.t ∧ t.t ≤ all.length ∧ gapF ((all.drop e).take (t.f - e)) = true) ∧
    ((t.a = true ∧ t.f = t.t ∧ t.k = 86 ∧ t.e = 0 ∧ pa = false) ∨
     (t.a = false ∧ t.f < t.t ∧ (t.k = 6 ↔ t.e ≠ 0) ∧ t.k ≠ 0 ∧ t.k < 88 ∧ pcF ((all.drop t.f).take (t.t - t.f)) = ⟨t.k, t.t - t.f, t.e, false⟩)) ∧
    GoodT all t.t t.a L
theorem toks_good (all : List UInt8) : ∀ (f : Nat) (l : List UInt8) (x last e : Nat) (pa : Bool), l.length ≤ f → all.drop x = l → x ≤ all.length → GapRun all e x → (pa = true → endsA last = false) →
  GoodT all e pa (toks l x last)
 | _, [], x, last, e, pa, _, hd, hx, hg, hp => by
  have hx2 : x = all.length := by have := congrArg List.length hd; rw [List.length_drop] at this; simp only [List.length_nil] at this; omega
  obtain ⟨g1, g2⟩ := hg.gap
  rw [toks_nil]
  unfold stO
  rw [if_pos rfl]
  split
  ·next h =>
   refine ⟨⟨g1, Nat.le_refl _, hx, g2⟩, .inl ⟨rfl, rfl, rfl, rfl, ?_⟩, ?_⟩
   ·cases pa with
    | false => rfl
    | true => rw [hp rfl] at h; cases h.2
   ·show gapF (all.drop x) = true
    rw [hd, gapF_nil]
  ·show gapF (all.drop e) = true
   rw [List.take_of_length_le (by rw [List.length_drop]; omega)] at g2
   exact g2
 | 0, _ :: _, _, _, _, _, h, _, _, _, _ => by simp at h
 | f + 1, c :: t, x, last, e, pa, hf, hd, hx, hg, hp => by
  have hs := pcF_size c t
  have hlen : x + (t.length + 1) = all.length := by have := congrArg List.length hd; rw [List.length_drop] at this; simp only [List.length_cons] at this; omega
  have hd2 : all.drop (x + (pcF (c :: t)).s) = (c :: t).drop (pcF (c :: t)).s := by rw [← hd, List.drop_drop]
  have hf2 : ((c :: t).drop (pcF (c :: t)).s).length ≤ f := by rw [List.length_drop]; simp only [List.length_cons] at hf ⊢; omega
  obtain ⟨g1, g2⟩ := hg.gap
  rw [toks_go]
  by_cases hk : (pcF (c :: t)).k = 0
  ·by_cases hb : (pcF (c :: t)).b = true ∧ endsA last = true
   ·have e1 : stO (pcF (c :: t)) x last = [⟨86, x, x, true, 0⟩] := by unfold stO; rw [if_pos hk, if_pos hb]
    have e2 : stL (pcF (c :: t)) last = 86 := by unfold stL; rw [if_pos hk, if_pos hb]
    rw [e1, e2]
    refine ⟨⟨g1, Nat.le_refl _, hx, g2⟩, .inl ⟨rfl, rfl, rfl, rfl, ?_⟩, ?_⟩
    ·cases pa with
     | false => rfl
     | true => have := hp rfl; rw [hb.2] at this; cases this
    ·have hr : GapRun all x (x + (pcF (c :: t)).s) := by
      have := GapRun.snoc (GapRun.nil (all := all) x) (by omega) (by rw [hd]; exact hk)
      rw [hd] at this
      exact this
     exact toks_good all f _ _ 86 x true hf2 hd2 (by omega) hr (fun _ => by decide)
   ·have e1 : stO (pcF (c :: t)) x last = [] := by unfold stO; rw [if_pos hk, if_neg hb]
    have e2 : stL (pcF (c :: t)) last = last := by unfold stL; rw [if_pos hk, if_neg hb]
    rw [e1, e2]
    have hr : GapRun all e (x + (pcF (c :: t)).s) := by
     have := GapRun.snoc hg (by omega) (by rw [hd]; exact hk)
     rw [hd] at this
     exact this
    exact toks_good all f _ _ last e pa hf2 hd2 (by omega) hr hp
  ·have e1 : stO (pcF (c :: t)) x last = [⟨(pcF (c :: t)).k, x, x + (pcF (c :: t)).s, false, (pcF (c :: t)).e⟩] := by unfold stO; rw [if_neg hk]
   have e2 : stL (pcF (c :: t)) last = (pcF (c :: t)).k := by unfold stL; rw [if_neg hk]
   have hT := pcF_tok hk
   rw [e1, e2]
   refine ⟨⟨g1, Nat.le_add_right _ _, by show x + (pcF (c :: t)).s ≤ _; omega, g2⟩, .inr ⟨rfl, by show x < x + (pcF (c :: t)).s; omega, hT.bd, hT.k0, hT.ke, ?_⟩, ?_⟩
   ·show pcF ((all.drop x).take (x + (pcF (c :: t)).s - x)) = ⟨_, x + (pcF (c :: t)).s - x, _, _⟩
    rw [Nat.add_sub_cancel_left, hd, pcF_alone]
    have := hT.nb
    cases hpp : pcF (c :: t) with
    | mk k s e b => rw [hpp] at this; cases this; rfl
   ·exact toks_good all f _ _ _ (x + (pcF (c :: t)).s) false hf2 hd2 (by omega) (.nil _) (fun h => by cases h)
theorem toks_is (all : List UInt8) : GoodT all 0 true (toks all 0 0) :=
 toks_good all _ all 0 0 0 true (Nat.le_refl _) rfl (Nat.zero_le _) (.nil _) (fun _ => rfl)
theorem toks_own {c : UInt8} {t : List UInt8} {k e : Nat} (h : pcF (c :: t) = ⟨k, t.length + 1, e, false⟩) (hk : k ≠ 0) :
  toks (c :: t) 0 0 = ⟨k, 0, t.length + 1, false, e⟩ :: (if endsA k = true then [⟨86, t.length + 1, t.length + 1, true, 0⟩] else []) := by
 rw [toks_go, h]
 have e1 : stO ⟨k, t.length + 1, e, false⟩ 0 0 = [⟨k, 0, 0 + (t.length + 1), false, e⟩] := if_neg hk
 have e2 : stL ⟨k, t.length + 1, e, false⟩ 0 = k := if_neg hk
 have e3 : (c :: t).drop (t.length + 1) = [] := List.drop_of_length_le (by simp)
 rw [e1, e2]
 show [_] ++ toks ((c :: t).drop (t.length + 1)) _ _ = _
 rw [e3, toks_nil, Nat.zero_add]
 unfold stO
 rw [if_pos rfl]
 by_cases he : endsA k = true
 ·rw [if_pos ⟨rfl, he⟩, if_pos he]; rfl
 ·rw [if_neg (fun h => he h.2), if_neg he]; rfl
theorem toks_many : ∀ (f : Nat) (l : List UInt8) (x last : Nat), l.length ≤ f → (toks l x last).length ≤ l.length + 1
 | _, [], x, last, _ => by
  rw [toks_nil]; unfold stO; rw [if_pos rfl]; split <;> simp
 | 0, _ :: _, _, _, h => by simp at h
 | f + 1, c :: t, x, last, hf => by
  have hs := pcF_size c t
  rw [toks_go, List.length_append]
  have h1 := toks_many f ((c :: t).drop (pcF (c :: t)).s) (x + (pcF (c :: t)).s) (stL (pcF (c :: t)) last) (by rw [List.length_drop]; simp only [List.length_cons] at hf ⊢; omega)
  have h2 : (stO (pcF (c :: t)) x last).length ≤ 1 := by
   unfold stO
   split
   ·split <;> simp
   ·simp
  rw [List.length_drop] at h1
  simp only [List.length_cons] at h1 ⊢
  omega
def blkN : List UInt8 → Nat
 | [] => 0
 | c :: t => if isBl c = true then blkN t + 1 else 0
theorem blkN_le : ∀ l, blkN l ≤ l.length
 | [] => Nat.le_refl _
 | c :: t => by
  unfold blkN
  have := blkN_le t
  split <;> simp only [List.length_cons] <;> omega
theorem toks_blk : ∀ (l : List UInt8) (x last : Nat), toks l x last = toks (l.drop (blkN l)) (x + blkN l) last
 | [], x, last => rfl
 | c :: t, x, last => by
  by_cases h : isBl c = true
  ·have e : blkN (c :: t) = blkN t + 1 := if_pos h
   rw [e, toks_go, pcF_bl t h, stO_no2, stL_no2, List.nil_append]
   show toks t (x + 1) last = toks (t.drop (blkN t)) (x + (blkN t + 1)) last
   rw [toks_blk t (x + 1) last, show x + 1 + blkN t = x + (blkN t + 1) by omega]
  ·have e : blkN (c :: t) = 0 := if_neg h
   rw [e]; rfl
where
 stO_no2 {s e x last : Nat} : stO ⟨0, s, e, false⟩ x last = [] := by unfold stO; rw [if_pos rfl, if_neg (fun h => by cases h.1)]
 stL_no2 {s e last : Nat} : stL ⟨0, s, e, false⟩ last = last := by unfold stL; rw [if_pos rfl, if_neg (fun h => by cases h.1)]
theorem gapF_blk : ∀ l : List UInt8, gapF l = gapF (l.drop (blkN l))
 | [] => rfl
 | c :: t => by
  by_cases h : isBl c = true
  ·have e : blkN (c :: t) = blkN t + 1 := if_pos h
   rw [e, gapF_go (by rw [pcF_bl t h]), pcF_bl t h]
   exact gapF_blk t
  ·have e : blkN (c :: t) = 0 := if_neg h
   rw [e]; rfl
end Go.Proofs.YtgkhjeefcflmcaaGreatDoor
namespace Go.Proofs.YtgkhjeefcflmcaaGreatDoor
open Go.RowKit Go.Sort
set_option linter.unusedSimpArgs false
noncomputable def nextF (l : List UInt8) : Pc := if blkN l ≠ 0 then ⟨0, blkN l, 0, false⟩ else pcF l
theorem nextF_blk {l : List UInt8} (h : blkN l ≠ 0) : nextF l = ⟨0, blkN l, 0, false⟩ := if_pos h
theorem nextF_pc {l : List UInt8} (h : blkN l = 0) : nextF l = pcF l := if_neg (by omega)
theorem blkN_zero {c : UInt8} {t : List UInt8} (h : blkN (c :: t) = 0) : isBl c = false := by
 cases hb : isBl c with
 | false => rfl
 | true => rw [show blkN (c :: t) = blkN t + 1 from if_pos hb] at h; omega
theorem nextF_size (c : UInt8) (t : List UInt8) : 1 ≤ (nextF (c :: t)).s ∧ (nextF (c :: t)).s ≤ t.length + 1 := by
 by_cases h : blkN (c :: t) = 0
 ·rw [nextF_pc h]; exact pcF_size c t
 ·rw [nextF_blk h]
  have := blkN_le (c :: t)
  exact ⟨by show 1 ≤ blkN _; omega, this⟩
structure Pi where
 x : Nat
 p : Pc
noncomputable def pcsG : Nat → List UInt8 → Nat → List Pi
 | 0, _, x => [⟨x, ⟨0, 0, 0, true⟩⟩]
 | _ + 1, [], x => [⟨x, ⟨0, 0, 0, true⟩⟩]
 | f + 1, c :: t, x => ⟨x, nextF (c :: t)⟩ :: pcsG f (t.drop ((nextF (c :: t)).s - 1)) (x + (nextF (c :: t)).s)
theorem pcsG_nil : ∀ (f x : Nat), pcsG f [] x = [⟨x, ⟨0, 0, 0, true⟩⟩]
 | 0, _ => rfl
 | _ + 1, _ => rfl
theorem pcsG_cons (f : Nat) (c : UInt8) (t : List UInt8) (x : Nat) : pcsG (f + 1) (c :: t) x = ⟨x, nextF (c :: t)⟩ :: pcsG f (t.drop ((nextF (c :: t)).s - 1)) (x + (nextF (c :: t)).s) := by rw [pcsG]
theorem pcsG_fuel : ∀ (f g : Nat) (l : List UInt8) (x : Nat), l.length ≤ f → l.length ≤ g → pcsG f l x = pcsG g l x
 | f, g, [], _, _, _ => by rw [pcsG_nil, pcsG_nil]
 | 0, _, _ :: _, _, h, _ => by simp at h
 | _ + 1, 0, _ :: _, _, _, h => by simp at h
 | f + 1, g + 1, c :: t, x, hf, hg => by
  rw [pcsG_cons, pcsG_cons, pcsG_fuel f g _ _ (by rw [List.length_drop]; simp only [List.length_cons] at hf; omega) (by rw [List.length_drop]; simp only [List.length_cons] at hg; omega)]
noncomputable def pcsF (l : List UInt8) (x : Nat) : List Pi := pcsG l.length l x
theorem pcsF_nil (x : Nat) : pcsF [] x = [⟨x, ⟨0, 0, 0, true⟩⟩] := rfl
theorem pcsF_go (c : UInt8) (t : List UInt8) (x : Nat) : pcsF (c :: t) x = ⟨x, nextF (c :: t)⟩ :: pcsF ((c :: t).drop (nextF (c :: t)).s) (x + (nextF (c :: t)).s) := by
 refine (pcsG_cons t.length c t x).trans ?_
 rw [dropS_cons (nextF_size c t).1]
 unfold pcsF
 rw [pcsG_fuel t.length _ _ _ (by rw [List.length_drop]; omega) (Nat.le_refl _)]
def tkO : List Pi → Nat → List TkN
 | [], _ => []
 | y :: r, last => stO y.p y.x last ++ tkO r (stL y.p last)
def lastO : List Pi → Nat → Nat
 | [], last => last
 | y :: r, last => lastO r (stL y.p last)
theorem tkO_snoc : ∀ (pre : List Pi) (y : Pi) (last : Nat), tkO (pre ++ [y]) last = tkO pre last ++ stO y.p y.x (lastO pre last)
 | [], y, last => by
  show stO y.p y.x last ++ [] = [] ++ stO y.p y.x last
  rw [List.append_nil, List.nil_append]
 | z :: r, y, last => by
  show stO z.p z.x last ++ tkO (r ++ [y]) (stL z.p last) = (stO z.p z.x last ++ tkO r (stL z.p last)) ++ stO y.p y.x (lastO r (stL z.p last))
  rw [tkO_snoc r y, List.append_assoc]
def lastK (L : List TkN) : Nat := match L.getLast? with | none => 0 | some t => t.k
theorem lastK_snoc (L : List TkN) (t : TkN) : lastK (L ++ [t]) = t.k := by
 unfold lastK; rw [List.getLast?_concat]
theorem lastK_stO (L : List TkN) (p : Pc) (x : Nat) : lastK (L ++ stO p x (lastK L)) = stL p (lastK L) := by
 unfold stO stL
 split
 ·split
  ·rw [lastK_snoc]
  ·rw [List.append_nil]
 ·rw [lastK_snoc]
theorem lastO_all : ∀ (r : List Pi) (L : List TkN), lastK (L ++ tkO r (lastK L)) = lastO r (lastK L)
 | [], L => by
  show lastK (L ++ []) = lastK L
  rw [List.append_nil]
 | y :: r, L => by
  show lastK (L ++ (stO y.p y.x (lastK L) ++ tkO r (stL y.p (lastK L)))) = lastO r (stL y.p (lastK L))
  rw [← List.append_assoc, ← lastK_stO L y.p y.x]
  exact lastO_all r (L ++ stO y.p y.x (lastK L))
theorem lastO_is (pre : List Pi) : lastO pre 0 = lastK (tkO pre 0) := by
 have := lastO_all pre []
 rw [List.nil_append] at this
 exact this.symm
theorem stO_many (p : Pc) (x last : Nat) : (stO p x last).length ≤ 1 := by
 unfold stO
 split
 ·split <;> simp
 ·simp
theorem tkO_many : ∀ (pre : List Pi) (last : Nat), (tkO pre last).length ≤ pre.length
 | [], _ => Nat.le_refl _
 | y :: r, last => by
  show (stO y.p y.x last ++ tkO r _).length ≤ _
  rw [List.length_append, List.length_cons]
  have := stO_many y.p y.x last
  have := tkO_many r (stL y.p last)
  omega
theorem toks_pcs : ∀ (f : Nat) (l : List UInt8) (x last : Nat), l.length ≤ f → tkO (pcsF l x) last = toks l x last
 | _, [], x, last, _ => by
  rw [pcsF_nil, toks_nil]
  show stO _ _ _ ++ [] = _
  rw [List.append_nil]
 | 0, _ :: _, _, _, h => by simp at h
 | f + 1, c :: t, x, last, hf => by
  have hs := nextF_size c t
  have ih := toks_pcs f ((c :: t).drop (nextF (c :: t)).s) (x + (nextF (c :: t)).s) (stL (nextF (c :: t)) last) (by rw [List.length_drop]; simp only [List.length_cons] at hf ⊢; omega)
  rw [pcsF_go]
  show stO (nextF (c :: t)) x last ++ tkO _ (stL (nextF (c :: t)) last) = _
  rw [ih]
  by_cases hb : blkN (c :: t) = 0
  ·rw [nextF_pc hb, toks_go]
  ·rw [nextF_blk hb, toks_blk.stO_no2, toks_blk.stL_no2, List.nil_append]
   exact (toks_blk (c :: t) x last).symm
theorem gap_pcs : ∀ (f : Nat) (l : List UInt8) (x : Nat), l.length ≤ f → ((pcsF l x).all fun y => y.p.k == 0) = gapF l
 | _, [], x, _ => by rw [pcsF_nil, gapF_nil]; rfl
 | 0, _ :: _, _, h => by simp at h
 | f + 1, c :: t, x, hf => by
  have hs := nextF_size c t
  have ih := gap_pcs f ((c :: t).drop (nextF (c :: t)).s) (x + (nextF (c :: t)).s) (by rw [List.length_drop]; simp only [List.length_cons] at hf ⊢; omega)
  rw [pcsF_go, List.all_cons, ih]
  by_cases hb : blkN (c :: t) = 0
  ·rw [nextF_pc hb]
   by_cases hk : (pcF (c :: t)).k = 0
   ·rw [gapF_go hk, hk]; rfl
   ·rw [gapF_no hk, show ((pcF (c :: t)).k == 0) = false by simpa using hk]; rfl
  ·rw [nextF_blk hb]
   exact (Bool.true_and _).trans (gapF_blk (c :: t)).symm
theorem pcs_many : ∀ (f : Nat) (l : List UInt8) (x : Nat), l.length ≤ f → (pcsF l x).length ≤ l.length + 1
 | _, [], x, _ => by rw [pcsF_nil]; simp
 | 0, _ :: _, _, h => by simp at h
 | f + 1, c :: t, x, hf => by
  have hs := nextF_size c t
  have ih := pcs_many f ((c :: t).drop (nextF (c :: t)).s) (x + (nextF (c :: t)).s) (by rw [List.length_drop]; simp only [List.length_cons] at hf ⊢; omega)
  rw [pcsF_go, List.length_cons]
  rw [List.length_drop] at ih
  simp only [List.length_cons] at ih ⊢
  omega
structure Tk where
 k : Int
 f : Int
 t : Int
 a : Bool
 e : Int
def TkN.up (t : TkN) : Tk := ⟨t.k, t.f, t.t, t.a, t.e⟩
noncomputable def soundF (all : List UInt8) : Nat → Nat → List Tk → Nat × Int
 | e, i, [] => if gapF (all.drop e) = true then (0, -1) else (8, (i : Int))
 | e, i, t :: L => if t.f > t.t ∨ t.f < e ∨ t.t > all.length then (5, (i : Int))
  else if gapF ((all.drop e).take (t.f.toNat - e)) = true then soundF all t.t.toNat (i + 1) L else (8, (i : Int))
theorem good_sound (all : List UInt8) : ∀ (L : List TkN) (e i : Nat) (pa : Bool), GoodT all e pa L → soundF all e i (L.map TkN.up) = (0, -1)
 | [], e, i, pa, h => by
  show (if gapF (all.drop e) = true then _ else _) = _
  rw [if_pos (show gapF (all.drop e) = true from h)]
 | t :: L, e, i, pa, ⟨⟨h1, h2, h3, h4⟩, _, h6⟩ => by
  show (if (t.f : Int) > t.t ∨ (t.f : Int) < e ∨ (t.t : Int) > all.length then _ else if gapF ((all.drop e).take ((t.f : Int).toNat - e)) = true then soundF all (t.t : Int).toNat (i + 1) (L.map TkN.up) else _) = _
  rw [if_neg (by omega), Int.toNat_natCast, Int.toNat_natCast, if_pos h4]
  exact good_sound all L t.t (i + 1) t.a h6
theorem sound_e {all : List UInt8} : ∀ (L : List Tk) (e i : Nat), (soundF all e i L).1 = 0 ∨ (soundF all e i L).1 = 5 ∨ (soundF all e i L).1 = 8
 | [], e, i => by unfold soundF; split <;> simp
 | t :: L, e, i => by
  unfold soundF
  split
  ·simp
  ·split
   ·exact sound_e L _ _
   ·simp
end Go.Proofs.YtgkhjeefcflmcaaGreatDoor
