/-
  Layer 13 (tree): the steps of a walk through a tree, in order of position, and what comes of them. No program.
-/
import Derived.Test.YtkgaaabecdbidaaDoorMx04
import Derived.Test.YtkgaaabecdbidaaDoorMx06
import Derived.Test.YtkgaaabecdbidaaDoorMx01
import Derived.Laws.EntriesVeiled
import Derived.Test.YtkgaaabecdbidaaDoorMx03
import Derived.WalkSmall
namespace Go.Proofs.YtkgaaabecdbidaaDoor
open Go.RowKit
set_option linter.unusedSimpArgs false
set_option linter.unusedVariables false
structure Stp where
 c : Int
 j : Nat
 f : Int
 t : Int
def bodyW (T : List Nd) (i : Nat) (l : List Int) (tok : Int) : List Stp :=
 match l with
 | [] => [⟨1, i, tok, (nd T i).t⟩, ⟨2, i, 0, 0⟩]
 | c :: r => ⟨1, i, tok, (kd T c).f⟩ :: ⟨0, c.toNat, 0, 0⟩ :: ((if c.toNat < i then bodyW T c.toNat (kd T c).kids (kd T c).f else []) ++ bodyW T i r (kd T c).t)
termination_by (i, l.length)
decreasing_by
 ·exact Prod.Lex.left _ _ (by assumption)
 ·exact Prod.Lex.right _ (by simp)
theorem bodyW_nil (T : List Nd) (i : Nat) (tok : Int) : bodyW T i [] tok = [⟨1, i, tok, (nd T i).t⟩, ⟨2, i, 0, 0⟩] := by rw [bodyW]
theorem bodyW_cons (T : List Nd) {i : Nat} {c : Int} (r : List Int) (tok : Int) (h : c.toNat < i) : bodyW T i (c :: r) tok = ⟨1, i, tok, (kd T c).f⟩ :: ⟨0, c.toNat, 0, 0⟩ :: (bodyW T c.toNat (kd T c).kids (kd T c).f ++ bodyW T i r (kd T c).t) := by rw [bodyW, if_pos h]
def stepsW (T : List Nd) (i : Nat) : List Stp := ⟨0, i, 0, 0⟩ :: bodyW T i (nd T i).kids (nd T i).f
structure LeftW (T : List Nd) (i : Nat) (l : List Int) (tok : Int) : Prop where
 lt : i < T.length
 sub : ∃ p, (nd T i).kids = p ++ l ∧ ∀ c ∈ p, (kd T c).t ≤ tok
 ord : ∃ e, ordAt T tok l = some e ∧ e ≤ (nd T i).t
 from_ : (nd T i).f ≤ tok
section
variable {T : List Nd} {m : Int}
theorem LeftW.start (hV : Valid T m) {i : Nat} (hi : i < T.length) : LeftW T i (nd T i).kids (nd T i).f :=
 ⟨hi, ⟨[], by simp, fun c hc => by cases hc⟩, hV.ord i hi, Int.le_refl _⟩
theorem LeftW.kids {i : Nat} {l : List Int} {tok : Int} (h : LeftW T i l tok) : ∀ c ∈ l, c ∈ (nd T i).kids := fun c hc => by
 obtain ⟨p, hp, _⟩ := h.sub
 rw [hp]
 exact List.mem_append_right _ hc
theorem LeftW.kid (hV : Valid T m) {i : Nat} {c : Int} {r : List Int} {tok : Int} (h : LeftW T i (c :: r) tok) : 0 ≤ c ∧ c.toNat < i ∧ LeftW T c.toNat (kd T c).kids (kd T c).f ∧ LeftW T i r (kd T c).t ∧ tok ≤ (kd T c).f ∧ (kd T c).f ≤ (kd T c).t := by
 have hc := h.kids c (List.mem_cons_self ..)
 have hk := hV.kid i h.lt c hc
 have hlt := h.lt
 have hft := hV.kidT h.lt c hc
 obtain ⟨e, he, hle⟩ := h.ord
 unfold ordAt at he
 split at he
 ·cases he
 ·next hf =>
  obtain ⟨p, hp, hpt⟩ := h.sub
  have hfr := h.from_
  refine ⟨hk.1, by omega, LeftW.start hV (by omega), ⟨h.lt, ⟨p ++ [c], by rw [hp]; simp, fun d hd => ?_⟩, ⟨e, he, hle⟩, by omega⟩, by omega, hft⟩
  rcases List.mem_append.1 hd with hd | hd
  ·have := hpt d hd; omega
  ·rw [List.mem_singleton.1 hd]; exact Int.le_refl _
theorem LeftW.own (hV : Valid T m) {i : Nat} {l : List Int} {tok x : Int} (h : LeftW T i l tok) (h1 : tok ≤ x) (h2 : x < (nd T i).t) (h3 : ∀ c ∈ l, x < (kd T c).f) : ownB T i x = true := by
 have hfr := h.from_
 refine own_iff.2 ⟨⟨by omega, h2⟩, ?_⟩
 rintro ⟨c, hc, hcx⟩
 obtain ⟨p, hp, hpt⟩ := h.sub
 rw [hp] at hc
 rcases List.mem_append.1 hc with hc | hc
 ·have := hpt c hc; omega
 ·have := h3 c hc; omega
theorem LeftW.next (hV : Valid T m) {i : Nat} {l : List Int} {tok : Int} (h : LeftW T i l tok) : ∀ c ∈ l, tok ≤ (kd T c).f := fun c hc => by
 obtain ⟨e, he, _⟩ := h.ord
 exact (ord_mem (fun d hd => hV.kidT h.lt d (h.kids d hd)) he c hc).1
theorem LeftW.end_ (hV : Valid T m) {i : Nat} {l : List Int} {tok : Int} (h : LeftW T i l tok) : tok ≤ (nd T i).t := by
 obtain ⟨e, he, h1⟩ := h.ord
 have := ord_le (fun d hd => hV.kidT h.lt d (h.kids d hd)) he
 omega
def runW : Nat → Int → List Int
 | 0, _ => []
 | n + 1, f => f :: runW n (f + 1)
theorem runW_add : ∀ (a b : Nat) (f : Int), runW (a + b) f = runW a f ++ runW b (f + a)
 | 0, b, f => by simp [runW]
 | a + 1, b, f => by
  rw [show a + 1 + b = (a + b) + 1 by omega, runW, runW, runW_add a b (f + 1), List.cons_append, show f + 1 + (a : Int) = f + ((a + 1 : Nat) : Int) by omega]
theorem runW_mem : ∀ {n : Nat} {f x : Int}, x ∈ runW n f ↔ f ≤ x ∧ x < f + n
 | 0, f, x => by
  simp only [runW, List.not_mem_nil, false_iff]
  omega
 | n + 1, f, x => by
  rw [runW, List.mem_cons, runW_mem]
  omega
def spanW (f t : Int) : List Int := runW (t - f).toNat f
theorem spanW_mem {f t x : Int} : x ∈ spanW f t ↔ f ≤ x ∧ x < t := by
 unfold spanW
 rw [runW_mem]
 omega
theorem spanW_cat {f g t : Int} (h1 : f ≤ g) (h2 : g ≤ t) : spanW f g ++ spanW g t = spanW f t := by
 unfold spanW
 have := runW_add (g - f).toNat (t - g).toNat f
 rw [show (g - f).toNat + (t - g).toNat = (t - f).toNat by omega, show f + ((g - f).toNat : Int) = g by omega] at this
 exact this.symm
def pairW (s : Stp) : List (Int × Int) := (spanW s.f s.t).map fun x => (x, (s.j : Int))
theorem pairW_in (j : Nat) : pairW ⟨0, j, 0, 0⟩ = [] := rfl
theorem pairW_out (j : Nat) : pairW ⟨2, j, 0, 0⟩ = [] := rfl
theorem pair_own {i : Nat} {f t : Int} (h : ∀ x, f ≤ x → x < t → ownerF T x = (i : Int)) : pairW ⟨1, i, f, t⟩ = (spanW f t).map fun x => (x, ownerF T x) := by
 unfold pairW
 apply List.map_congr_left
 intro x hx
 have := spanW_mem.1 hx
 rw [h x this.1 this.2]
theorem pairs_body (hV : Valid T m) (i : Nat) (l : List Int) (tok : Int) (h : LeftW T i l tok) : (bodyW T i l tok).flatMap pairW = (spanW tok (nd T i).t).map fun x => (x, ownerF T x) := by
 match l, h with
 | [], h =>
  rw [bodyW_nil, List.flatMap_cons, List.flatMap_cons, pairW_out, List.flatMap_nil, List.append_nil, List.append_nil]
  exact pair_own fun x h1 h2 => hV.owner h.lt (h.own hV h1 h2 (fun c hc => by cases hc))
 | c :: r, h =>
  obtain ⟨hc0, hci, hk, hr, h1, h2⟩ := h.kid hV
  rw [bodyW_cons T r tok hci, List.flatMap_cons, List.flatMap_cons, pairW_in, List.nil_append, List.flatMap_append, pairs_body hV c.toNat _ _ hk, pairs_body hV i r _ hr]
  have hn := hr.next hV
  have hin := hV.within h.lt (h.kids c (List.mem_cons_self ..))
  rw [pair_own (T := T) (i := i) (f := tok) (t := (kd T c).f) fun x h3 h4 => hV.owner h.lt (h.own hV h3 (by omega) (fun d hd => by
   rcases List.mem_cons.1 hd with rfl | hd
   ·exact h4
   ·have := hn d hd; omega))]
  rw [← List.map_append, ← List.map_append, show (nd T c.toNat).t = (kd T c).t from rfl, spanW_cat h2 (hr.end_ hV), spanW_cat h1 (by have := hr.end_ hV; omega)]
termination_by (i, l.length)
decreasing_by
 ·exact Prod.Lex.left _ _ (by assumption)
 ·exact Prod.Lex.right _ (by simp)
theorem pairs_all (hV : Valid T m) : (stepsW T (T.length - 1)).flatMap pairW = (spanW (rootOf T).f (rootOf T).t).map fun x => (x, ownerF T x) := by
 unfold stepsW
 rw [List.flatMap_cons, pairW_in, List.nil_append]
 exact pairs_body hV _ _ _ (LeftW.start hV (by have := hV.pos; omega))
def depS (p : Int × Int) (s : Stp) : Int × Int := if s.c = 0 then (p.1 + 1, max p.2 (p.1 + 1)) else if s.c = 2 then (p.1 - 1, p.2) else p
theorem dep_body (hV : Valid T m) (i : Nat) (l : List Int) (tok : Int) (h : LeftW T i l tok) (d g : Int) (b : Nat) : (bodyW T i l tok).foldl depS (d, max g (d + b)) = (d - 1, max g (d + (deepK T i l b : Nat))) := by
 match l, h with
 | [], h => rw [bodyW_nil]; rfl
 | c :: r, h =>
  obtain ⟨hc0, hci, hk, hr, h1, h2⟩ := h.kid hV
  rw [bodyW_cons T r tok hci, List.foldl_cons, List.foldl_cons, List.foldl_append, deepK_cons T r b hci]
  have e1 : depS (depS (d, max g (d + b)) ⟨1, i, tok, (kd T c).f⟩) ⟨0, c.toNat, 0, 0⟩ = (d + 1, max (max g (d + b)) ((d + 1) + (0 : Nat))) := by
   show (d + 1, max (max g (d + b)) (d + 1)) = _
   simp
  rw [e1, dep_body hV c.toNat _ _ hk]
  have e2 : ((d + 1 - 1 : Int), max (max g (d + b)) (d + 1 + (deepK T c.toNat (kd T c).kids 0 : Nat))) = (d, max g (d + (max b (deepF T c.toNat) : Nat))) := by
   rw [deepF_eq, show nd T c.toNat = kd T c from rfl]
   ext
   ·simp
   ·show max (max g (d + b)) (d + 1 + (deepK T c.toNat (kd T c).kids 0 : Nat)) = max g (d + (max b (1 + deepK T c.toNat (kd T c).kids 0) : Nat))
    omega
  rw [e2, dep_body hV i r _ hr]
termination_by (i, l.length)
decreasing_by
 ·exact Prod.Lex.left _ _ (by assumption)
 ·exact Prod.Lex.right _ (by simp)
theorem dep_all (hV : Valid T m) : (stepsW T (T.length - 1)).foldl depS (0, 0) = ((0 : Int), ((deepF T (T.length - 1) : Nat) : Int)) := by
 unfold stepsW
 rw [List.foldl_cons]
 have := dep_body hV (T.length - 1) _ _ (LeftW.start hV (i := T.length - 1) (by have := hV.pos; omega)) 1 0 0
 rw [show depS (0, 0) ⟨0, T.length - 1, 0, 0⟩ = ((1 : Int), max 0 ((1 : Int) + (0 : Nat))) from rfl, this, deepF_eq]
 ext
 ·rfl
 ·show max 0 (1 + (deepK T (T.length - 1) (nd T (T.length - 1)).kids 0 : Nat) : Int) = ((1 + deepK T (T.length - 1) (nd T (T.length - 1)).kids 0 : Nat) : Int)
  omega
theorem own_filter (j : Nat) : ∀ (h : Nat) (f : Int), ownsF T j h f = (runW h f).filter fun x => ownB T j x
 | 0, f => rfl
 | h + 1, f => by
  rw [ownsF, runW, List.filter_cons, own_filter j h]
theorem filter_none {p : Int → Bool} {l : List Int} (h : ∀ x ∈ l, p x = false) : l.filter p = [] := List.filter_eq_nil_iff.2 fun x hx => by simp [h x hx]
theorem ownL_filter (hV : Valid T m) {j : Nat} (hj : j < T.length) : ownL T j = (spanW (rootOf T).f (rootOf T).t).filter fun x => decide (ownerF T x = (j : Int)) := by
 have hn := hV.num j hj
 have hb : (rootOf T).f ≤ (nd T j).f ∧ (nd T j).t ≤ (rootOf T).t ∨ (nd T j).t = (nd T j).f := by
  rcases Int.lt_or_le (nd T j).f (nd T j).t with h | h
  ·have r1 := hV.root _ j rfl hj (tok := (nd T j).f) ⟨Int.le_refl _, h⟩
   have r2 := hV.root _ j rfl hj (tok := (nd T j).t - 1) ⟨by omega, by omega⟩
   exact .inl ⟨r1.1, by have : (nd T j).t - 1 < (rootOf T).t := r2.2; omega⟩
  ·exact .inr (by omega)
 have heq : ∀ x, (rootOf T).f ≤ x → x < (rootOf T).t → decide (ownerF T x = (j : Int)) = ownB T j x := fun x h1 h2 => by
  obtain ⟨i, hi, ho⟩ := hV.owned h1 h2
  rw [hV.owner hi ho]
  cases hx : ownB T j x with
  | true => exact decide_eq_true (by rw [hV.one hi hj ho hx])
  | false =>
   refine decide_eq_false fun e => ?_
   have e2 : i = j := by omega
   subst e2
   rw [hx] at ho
   cases ho
 have hfc : (spanW (rootOf T).f (rootOf T).t).filter (fun x => decide (ownerF T x = (j : Int))) = (spanW (rootOf T).f (rootOf T).t).filter fun x => ownB T j x :=
  List.filter_congr fun x hx => by
   have := spanW_mem.1 hx
   exact heq x this.1 this.2
 have hno : ∀ x, (x < (nd T j).f ∨ (nd T j).t ≤ x) → ownB T j x = false := fun x hx => by
  cases ho : ownB T j x with
  | false => rfl
  | true =>
   have h1 : (nd T j).f ≤ x := (own_iff.1 ho).1.1
   have h2 : x < (nd T j).t := (own_iff.1 ho).1.2
   omega
 rw [hfc]
 unfold ownL
 rw [own_filter]
 rcases hb with ⟨h1, h2⟩ | h
 ·rw [← spanW_cat h1 (show (nd T j).f ≤ (rootOf T).t by omega), ← spanW_cat (show (nd T j).f ≤ (nd T j).t by omega) h2, List.filter_append, List.filter_append, filter_none (l := spanW (rootOf T).f (nd T j).f) fun x hx => hno x (.inl (spanW_mem.1 hx).2), filter_none (l := spanW (nd T j).t (rootOf T).t) fun x hx => hno x (.inr (spanW_mem.1 hx).1), List.nil_append, List.append_nil]
  rfl
 ·rw [show ((nd T j).t - (nd T j).f).toNat = 0 by omega, filter_none (l := spanW (rootOf T).f (rootOf T).t) fun x hx => hno x (by omega)]
  rfl
def ownS (j : Nat) (s : Stp) : List Int := if s.j = j then spanW s.f s.t else []
theorem ownS_pair (j : Nat) : ∀ L : List Stp, L.flatMap (ownS j) = ((L.flatMap pairW).filter fun p => decide (p.2 = (j : Int))).map Prod.fst
 | [] => rfl
 | s :: L => by
  rw [List.flatMap_cons, List.flatMap_cons, List.filter_append, List.map_append, ownS_pair j L]
  congr 1
  unfold ownS pairW
  rw [List.filter_map, List.map_map]
  by_cases e : s.j = j
  ·rw [if_pos e, List.filter_eq_self.2 fun x _ => by simp [Function.comp, e]]
   simp [Function.comp_def]
  ·rw [if_neg e, List.filter_eq_nil_iff.2 fun x _ => by simp [Function.comp]; omega]
   rfl
theorem own_all (hV : Valid T m) {j : Nat} (hj : j < T.length) : (stepsW T (T.length - 1)).flatMap (ownS j) = ownL T j := by
 rw [ownS_pair, pairs_all hV, List.filter_map, List.map_map, ownL_filter hV hj]
 simp [Function.comp_def]
def atS (tok : Int) (o : Int) (s : Stp) : Int := if s.f ≤ tok ∧ tok < s.t then (s.j : Int) else o
def atP (tok : Int) (o : Int) (p : Int × Int) : Int := if p.1 = tok then p.2 else o
theorem atP_run (tok : Int) (g : Int → Int) : ∀ (n : Nat) (f o : Int), ((runW n f).map fun x => (x, g x)).foldl (atP tok) o = if f ≤ tok ∧ tok < f + n then g tok else o
 | 0, f, o => by rw [if_neg (by omega)]; rfl
 | n + 1, f, o => by
  rw [runW, List.map_cons, List.foldl_cons, atP_run tok g n (f + 1)]
  unfold atP
  by_cases e : f = tok
  ·subst e
   rw [if_neg (by omega), if_pos rfl, if_pos (by omega)]
  ·rw [if_neg e]
   by_cases h : f + 1 ≤ tok ∧ tok < f + 1 + n
   ·rw [if_pos h, if_pos (by omega)]
   ·rw [if_neg h, if_neg (by omega)]
theorem atS_pair (tok : Int) (o : Int) (s : Stp) : atS tok o s = (pairW s).foldl (atP tok) o := by
 unfold pairW spanW
 rw [atP_run tok (fun _ => (s.j : Int))]
 unfold atS
 by_cases h : s.f ≤ tok ∧ tok < s.t
 ·rw [if_pos h, if_pos (by omega)]
 ·rw [if_neg h, if_neg (by omega)]
theorem atS_pairs (tok : Int) : ∀ (L : List Stp) (o : Int), L.foldl (atS tok) o = (L.flatMap pairW).foldl (atP tok) o
 | [], o => rfl
 | s :: L, o => by rw [List.foldl_cons, List.flatMap_cons, List.foldl_append, ← atS_pair, atS_pairs tok L]
theorem at_all (hV : Valid T m) (tok : Int) : (stepsW T (T.length - 1)).foldl (atS tok) (-1) = ownerF T tok := by
 rw [atS_pairs, pairs_all hV]
 unfold spanW
 rw [atP_run]
 have hr := hV.num (T.length - 1) (by have := hV.pos; omega)
 have h3 : (rootOf T).f ≤ (rootOf T).t := hr.2.2.2.1
 by_cases h : (rootOf T).f ≤ tok ∧ tok < (rootOf T).t
 ·rw [if_pos (by omega)]
 ·rw [if_neg (by omega)]
  refine (owner_none fun i hi => ?_).symm
  cases ho : ownB T i tok with
  | false => rfl
  | true =>
   have := hV.root _ i rfl hi (own_iff.1 ho).1
   have h4 : (rootOf T).f ≤ tok := this.1
   have h5 : tok < (rootOf T).t := this.2
   omega
def setP (L : List Int) (p : Int × Int) : List Int := L.set p.1.toNat p.2
def setS (L : List Int) (s : Stp) : List Int := (pairW s).foldl setP L
theorem setS_pairs : ∀ (K : List Stp) (L : List Int), K.foldl setS L = (K.flatMap pairW).foldl setP L
 | [], L => rfl
 | s :: K, L => by rw [List.foldl_cons, List.flatMap_cons, List.foldl_append]; exact setS_pairs K _
theorem setP_len : ∀ (K : List (Int × Int)) (L : List Int), (K.foldl setP L).length = L.length
 | [], L => rfl
 | p :: K, L => by rw [List.foldl_cons, setP_len K]; simp [setP]
theorem setS_len (K : List Stp) (L : List Int) : (K.foldl setS L).length = L.length := by rw [setS_pairs, setP_len]
theorem setP_run (g : Int → Int) : ∀ (n : Nat) (f : Int) (L : List Int) (k : Nat), 0 ≤ f → k < L.length → (((runW n f).map fun x => (x, g x)).foldl setP L)[k]? = if f ≤ (k : Int) ∧ (k : Int) < f + n then some (g k) else L[k]?
 | 0, f, L, k, _, _ => by rw [if_neg (by omega)]; rfl
 | n + 1, f, L, k, hf, hk => by
  rw [runW, List.map_cons, List.foldl_cons, setP_run g n (f + 1) _ k (by omega) (by simp [setP]; exact hk)]
  unfold setP
  by_cases e : f = (k : Int)
  ·subst e
   rw [if_neg (by omega), if_pos (by omega)]
   simp [hk]
  ·have e2 : ¬ f.toNat = k := by omega
   rw [List.getElem?_set_ne (by simpa using e2)]
   by_cases h : f + 1 ≤ (k : Int) ∧ (k : Int) < f + 1 + n
   ·rw [if_pos h, if_pos (by omega)]
   ·rw [if_neg h, if_neg (by omega)]
theorem owners_all (hV : Valid T m) : (stepsW T (T.length - 1)).foldl setS (List.replicate (rootOf T).t.toNat (-1)) = (List.range (rootOf T).t.toNat).map fun (i : Nat) => ownerF T (i : Int) := by
 have hr := hV.num (T.length - 1) (by have := hV.pos; omega)
 have h0 : 0 ≤ (rootOf T).f := hr.2.2.1
 have h3 : (rootOf T).f ≤ (rootOf T).t := hr.2.2.2.1
 apply List.ext_getElem?
 intro k
 rcases Nat.lt_or_ge k (rootOf T).t.toNat with hk | hk
 ·rw [setS_pairs, pairs_all hV]
  unfold spanW
  rw [setP_run (ownerF T) _ _ _ k h0 (by simpa using hk), List.getElem?_map, List.getElem?_range hk]
  by_cases h : (rootOf T).f ≤ (k : Int)
  ·rw [if_pos (by omega)]; rfl
  ·rw [if_neg (by omega)]
   show _ = some (ownerF T (k : Int))
   rw [owner_none fun i hi => hV.ahead (by omega) hi]
   simp [hk]
 ·rw [List.getElem?_eq_none (by rw [setS_len]; simpa using hk), List.getElem?_eq_none (by simpa using hk)]
theorem step_in (hV : Valid T m) {s : Stp} (hs : s ∈ stepsW T (T.length - 1)) {x : Int} (h1 : s.f ≤ x) (h2 : x < s.t) : (rootOf T).f ≤ x ∧ x < (rootOf T).t := by
 have hm : (x, (s.j : Int)) ∈ (stepsW T (T.length - 1)).flatMap pairW := List.mem_flatMap.2 ⟨s, hs, List.mem_map.2 ⟨x, spanW_mem.2 ⟨h1, h2⟩, rfl⟩⟩
 rw [pairs_all hV] at hm
 obtain ⟨y, hy, e⟩ := List.mem_map.1 hm
 have e2 : y = x := congrArg Prod.fst e
 subst e2
 exact spanW_mem.1 hy
end
end Go.Proofs.YtkgaaabecdbidaaDoor
namespace Go.Proofs.YtkgaaabecdbidaaDoor
open Go.RowKit
structure But (w w' : World) (bs : List Nat) : Prop where
 os : w'.os = w.os
 tape : w'.tape = w.tape
 output : w'.output = w.output
 size : w.heap.size ≤ w'.heap.size
 block : ∀ k, k < w.heap.size → k ∉ bs → w'.heap[k]? = w.heap[k]?
theorem But.refl (w : World) (bs : List Nat) : But w w bs := ⟨rfl, rfl, rfl, Nat.le_refl _, fun _ _ _ => rfl⟩
theorem But.trans {a b c : World} {bs : List Nat} (h : But a b bs) (k : But b c bs) : But a c bs :=
 ⟨k.os.trans h.os, k.tape.trans h.tape, k.output.trans h.output, Nat.le_trans h.size k.size, fun i hi hn => (k.block i (Nat.lt_of_lt_of_le hi h.size) hn).trans (h.block i hi hn)⟩
theorem But.more {w w' : World} {bs cs : List Nat} (h : But w w' bs) (hs : ∀ b ∈ bs, b ∈ cs) : But w w' cs := ⟨h.os, h.tape, h.output, h.size, fun k hk hn => h.block k hk fun hb => hn (hs k hb)⟩
theorem But.alloc {a w : World} {bs : List Nat} (h : But a w bs) (o : Obj) : But a (w.alloc o) bs :=
 h.trans ⟨rfl, rfl, rfl, by simp, fun k hk _ => Below.heap_alloc _ _ _ hk⟩
theorem But.setCell {a w : World} {bs : List Nat} (h : But a w bs) {p : Addr} (hp : p.block ∈ bs) (u : Value) : But a (w.setCell p u) bs :=
 h.trans ⟨rfl, rfl, rfl, by simp [World.setCell], fun k _ hn => Below.heap_setCell _ _ _ _ fun e => hn (e ▸ hp)⟩
theorem _root_.Go.RowKit.Below.but {B : Nat} {a w w' : World} {bs : List Nat} (h : Below B a w) (k : But w w' bs) (hb : ∀ b ∈ bs, B ≤ b) (hs : B ≤ w.heap.size) : Below B a w' :=
 h.trans ⟨k.os, k.tape, k.output, k.size, fun i hi => k.block i (by omega) fun hm => by have := hb i hm; omega⟩
theorem But.of_below {w w' : World} {bs : List Nat} (h : Below w.heap.size w w') : But w w' bs := ⟨h.os, h.tape, h.output, h.size, fun k hk _ => h.block k hk⟩
theorem But.below {w w' : World} (h : But w w' []) : Below w.heap.size w w' := ⟨h.os, h.tape, h.output, h.size, fun k hk => h.block k hk (by simp)⟩
theorem But.cell {w w' : World} {bs : List Nat} (h : But w w' bs) {p : Addr} (hp : p.block < w.heap.size) (hn : p.block ∉ bs) : w'.cell? p = w.cell? p := World.cell?_of_block (w := w) (h.block _ hp hn)
theorem But.frozen {w w' : World} {bs : List Nat} (h : But w w' bs) {p : Addr} (hp : p.block < w.heap.size) (hn : p.block ∉ bs) : w'.frozen? p = w.frozen? p := World.frozen?_of_block (w := w) (h.block _ hp hn)
theorem ownsRow_but {w w' : World} {base : Nat} {e : TypeId} {size : Nat} {v : Value} {n : Nat} {xs : List Value} {bs : List Nat} (h : w.ownsRow base e size v n xs) (k : But w w' bs) (hn : ∀ g, v.ownBlock = some g → g ∉ bs) : w'.ownsRow base e size v n xs := by
 obtain ⟨h1, h2⟩ := h
 refine ⟨h1, ?_⟩
 rcases h2 with h2 | ⟨g, cap, cur, hv, hg, hh, r⟩
 ·exact .inl h2
 ·refine .inr ⟨g, cap, cur, hv, hg, ?_, r⟩
  rw [k.block g (Array.getElem?_eq_some_iff.1 hh).1 (hn g (by rw [hv]; rfl))]
  exact hh
def VarAt (w : World) (b : Nat) (v : Value) : Prop := w.cell? ⟨b, 0, none⟩ = some v ∧ w.frozen? ⟨b, 0, none⟩ = false
theorem VarAt.lt {w : World} {b : Nat} {v : Value} (h : VarAt w b v) : b < w.heap.size := by
 rcases Nat.lt_or_ge b w.heap.size with h1 | h1
 ·exact h1
 ·have := h.1
  simp [World.cell?, Array.getElem?_eq_none h1] at this
theorem VarAt.but {w w' : World} {b : Nat} {v : Value} {bs : List Nat} (h : VarAt w b v) (k : But w w' bs) (hn : b ∉ bs) : VarAt w' b v :=
 ⟨(k.cell (p := ⟨b, 0, none⟩) h.lt hn).trans h.1, (k.frozen (p := ⟨b, 0, none⟩) h.lt hn).trans h.2⟩
theorem VarAt.new (w : World) (v : Value) (T : TypeId) : VarAt (w.alloc (.cells #[v] T)) w.heap.size v := ⟨by simp, by simp⟩
theorem VarAt.below {w w' : World} {b : Nat} {v : Value} (h : VarAt w b v) (k : Below w.heap.size w w') : VarAt w' b v := h.but (bs := []) (But.of_below k) (by simp)
theorem hmf : ∀ (fn : Fn) (first cap : Array Value) (w : World), (Instr.makeFunc fn first cap).run Tryd.prog w = .ok (.func fn first cap) w := fun _ _ _ _ => rfl
theorem VarAt.alloc {w : World} {b : Nat} {v : Value} (h : VarAt w b v) (o : Obj) : VarAt (w.alloc o) b v := h.but ((But.refl w []).alloc o) (by simp)
theorem VarAt.set {w : World} {b : Nat} {v : Value} (h : VarAt w b v) (u : Value) : VarAt (w.setCell ⟨b, 0, none⟩ u) b u := ⟨World.cell?_setCell_same' _ _ _ (by rw [h.1]; rfl), by simpa using h.2⟩
end Go.Proofs.YtkgaaabecdbidaaDoor
namespace Go.Proofs.YtkgaaabecdbidaaDoor
open Go.RowKit
set_option linter.unusedSimpArgs false
set_option linter.unusedVariables false
structure Pl where
 j : Nat
 k : Nat
 tok : Int
def plCells (p : Pl) : List Value := [.int .i64 p.j, .int .i64 p.k, .int .i64 p.tok]
theorem pl_enc : EncOk plCells 3 := ⟨by omega, fun p => ⟨rfl, fun u hu => by simp [plCells] at hu; rcases hu with rfl | rfl | rfl <;> rfl⟩⟩
theorem pl_slice : SliceV plCells 3 88 90 := ⟨pl_enc, Tryd.underlying88, .agg #[.int .i64 0, .int .i64 0, .int .i64 0], 24, by omega, by kernel_rfl, by kernel_rfl⟩
theorem one_pl (w : World) (p : Pl) (T : TypeId) : CellsV plCells (w.alloc (.cells #[.int .i64 p.j, .int .i64 p.k, .int .i64 p.tok] T)) (w.heap.size + 1) (some ⟨w.heap.size, 0, none⟩) [p] := fun _ => by
 refine ⟨_, _, rfl, by omega, fun j u hu => ?_⟩
 match j, hu with
 | 0, hu => cases hu; rw [World.cell?_alloc_at _ _ _ _ rfl]; rfl
 | 1, hu => cases hu; rw [World.cell?_alloc_at _ _ _ _ rfl]; rfl
 | 2, hu => cases hu; rw [World.cell?_alloc_at _ _ _ _ rfl]; rfl
theorem OwnV.lastP {w : World} {base : Nat} {v : Value} {l : List Pl} {x : Pl} (h : OwnV plCells 3 90 w base v (l ++ [x])) :
  ∃ g cap, v = .slice (some ⟨g, 0, none⟩) (l.length + 1) cap ∧ base ≤ g ∧ g < w.heap.size ∧ l.length + 1 ≤ cap ∧ cap ≤ 9223372036854775807 ∧ w.cell? ⟨g, l.length * 3, none⟩ = some (.int .i64 x.j) ∧ w.cell? ⟨g, l.length * 3 + 1, none⟩ = some (.int .i64 x.k) ∧ w.cell? ⟨g, l.length * 3 + 2, none⟩ = some (.int .i64 x.tok) ∧ ∀ i, w.frozen? ⟨g, i, none⟩ = false := by
 rcases h.2 with ⟨hv, h0⟩ | ⟨g, cap, cur, hv, _, _, hnc, hcm, _⟩
 ·simp at h0
 ·unfold maxLen at hcm
  simp only [List.length_append, List.length_cons, List.length_nil] at hv hnc
  subst hv
  have hlt := World.ownsRow.lt h g rfl
  have hc := World.ownsRow.cells h (g := g) rfl
  have hx : (l ++ [x])[l.length]? = some x := by simp
  have k0 := hc _ _ (flat_get pl_enc (j := 0) hx rfl)
  have k1 := hc _ _ (flat_get pl_enc (j := 1) hx rfl)
  have k2 := hc _ _ (flat_get pl_enc (j := 2) hx rfl)
  have hp : ∀ i, (⟨g, 0, none⟩ : Addr).add i = ⟨g, i, none⟩ := fun i => by unfold Addr.add; split <;> simp_all
  rw [hp] at k0 k1 k2
  have h' : w.ownsRow base 90 3 (.slice (some ⟨g, 0, none⟩) (l.length + 1) cap) (l.length + 1) ((l ++ [x]).flatMap plCells) := by simpa [OwnV] using h
  exact ⟨g, cap, by simp, hlt.1, hlt.2, by omega, by omega, k0, k1, k2, fun i => World.ownsRow.frozenAt h' _⟩
theorem OwnV.setK {w : World} {base g cap : Nat} {l : List Pl} {p : Pl} (h : OwnV plCells 3 90 w base (.slice (some ⟨g, 0, none⟩) (l.length + 1) cap) (l ++ [p])) (k : Nat) (z : Int) (hz : (k : Int) = z) :
  OwnV plCells 3 90 (w.setCell ⟨g, l.length * 3 + 1, none⟩ (.int .i64 z)) base (.slice (some ⟨g, 0, none⟩) (l.length + 1) cap) (l ++ [⟨p.j, k, p.tok⟩]) := by
 subst hz
 have hl := flat_length pl_enc l
 have h' : w.ownsRow base 90 3 (.slice (some ⟨g, 0, none⟩) (l.length + 1) cap) (l.length + 1) ((l ++ [p]).flatMap plCells) := by simpa [OwnV] using h
 have := (World.ownsRow.stored h' (l.length * 3 + 1) (.int .i64 k)).1
 have e : (((l ++ [p]).flatMap plCells).set (l.length * 3 + 1) (.int .i64 k)) = (l ++ [(⟨p.j, k, p.tok⟩ : Pl)]).flatMap plCells := by
  rw [List.flatMap_append, List.flatMap_append, List.set_append_right _ _ (by omega), hl, show l.length * 3 + 1 - l.length * 3 = 1 by omega]
  rfl
 rw [e] at this
 simpa [OwnV] using this
theorem OwnV.setTok {w : World} {base g cap : Nat} {l : List Pl} {p : Pl} (h : OwnV plCells 3 90 w base (.slice (some ⟨g, 0, none⟩) (l.length + 1) cap) (l ++ [p])) (t : Int) :
  OwnV plCells 3 90 (w.setCell ⟨g, l.length * 3 + 2, none⟩ (.int .i64 t)) base (.slice (some ⟨g, 0, none⟩) (l.length + 1) cap) (l ++ [⟨p.j, p.k, t⟩]) := by
 have hl := flat_length pl_enc l
 have h' : w.ownsRow base 90 3 (.slice (some ⟨g, 0, none⟩) (l.length + 1) cap) (l.length + 1) ((l ++ [p]).flatMap plCells) := by simpa [OwnV] using h
 have := (World.ownsRow.stored h' (l.length * 3 + 2) (.int .i64 t)).1
 have e : (((l ++ [p]).flatMap plCells).set (l.length * 3 + 2) (.int .i64 t)) = (l ++ [(⟨p.j, p.k, t⟩ : Pl)]).flatMap plCells := by
  rw [List.flatMap_append, List.flatMap_append, List.set_append_right _ _ (by omega), hl, show l.length * 3 + 2 - l.length * 3 = 2 by omega]
  rfl
 rw [e] at this
 simpa [OwnV] using this
theorem OwnV.popP {w : World} {base g cap : Nat} {l : List Pl} {p : Pl} (h : OwnV plCells 3 90 w base (.slice (some ⟨g, 0, none⟩) (l.length + 1) cap) (l ++ [p])) :
  OwnV plCells 3 90 w base (.slice (some ⟨g, 0, none⟩) l.length cap) l := by
 have h' : w.ownsRow base 90 3 (.slice (some ⟨g, 0, none⟩) (l.length + 1) cap) (l.length + 1) (l.flatMap plCells ++ plCells p) := by simpa [OwnV] using h
 exact ownsRow_pop (flat_length pl_enc l) h'
def remW (T : List Nd) (P : List Pl) : List Stp := P.flatMap fun p => bodyW T p.j ((nd T p.j).kids.drop p.k) p.tok
def OkW (T : List Nd) : List Pl → Prop
 | [] => True
 | p :: r => p.j + r.length < T.length ∧ p.k ≤ (nd T p.j).kids.length ∧ OkW T r
def stpV (s : Stp) : Value := .agg #[.int .i64 s.c, .int .i64 s.j, .int .i64 s.f, .int .i64 s.t]
structure Apart (S : Nat) (bs : List Nat) (w w' : World) : Prop where
 os : w'.os = w.os
 tape : w'.tape = w.tape
 output : w'.output = w.output
 size : w.heap.size ≤ w'.heap.size
 block : ∀ k, k < w.heap.size → (k ∈ bs ∨ k < S) → w'.heap[k]? = w.heap[k]?
theorem Apart.of {S : Nat} {bs : List Nat} {w w' : World} (h : Below w.heap.size w w') : Apart S bs w w' := ⟨h.os, h.tape, h.output, h.size, fun k hk _ => h.block k hk⟩
structure ActW (T : List Nd) (S g : Nat) (cb : Array Value) (I : List Stp → List Nat → World → Prop) : Prop where
 eg : ∀ args w, (callFunc g args).run Tryd.prog w = .ok (.enter g args) w
 step : ∀ D s R bs w, D ++ s :: R = stepsW T (T.length - 1) → I D bs w → S ≤ w.heap.size → Calls Tryd.prog g (#[stpV s] ++ cb) w fun e w' => e = .returned (.tuple #[]) ∧ ∃ bs', I (D ++ [s]) bs' w' ∧ But w w' bs ∧ ∀ b ∈ bs', (b ∈ bs ∨ w.heap.size ≤ b) ∧ b < w'.heap.size
 keep : ∀ D bs w w', I D bs w → Apart S bs w w' → I D bs w'
section
variable {T : List Nd} {A : Option Addr} {n cap B g : Nat} {cb : Array Value} {I : List Stp → List Nat → World → Prop} {W : World} {bs0 : List Nat}
structure RunW (T : List Nd) (A : Option Addr) (n cap B g : Nat) (cb : Array Value) (I : List Stp → List Nat → World → Prop) (W : World) (bs0 : List Nat) (D : List Stp) (P : List Pl) (v : Value) (w : World) : Prop where
 c0 : VarAt w W.heap.size (.slice A n cap)
 c1 : VarAt w (W.heap.size + 1) (.func (.func g) #[] cb)
 c2 : VarAt w (W.heap.size + 2) v
 own : OwnV plCells 3 90 w (W.heap.size + 3) v P.reverse
 nds : NdsAt w B A T
 lt : B ≤ W.heap.size
 low : ∀ b ∈ bs0, B ≤ b ∧ b < W.heap.size
 act : ∃ bs, I D bs w ∧ (∀ b ∈ bs, b ∈ bs0 ∨ W.heap.size + 3 ≤ b) ∧ (∀ b ∈ bs, v.ownBlock ≠ some b) ∧ ∀ b ∈ bs, b < w.heap.size
 os : w.os = W.os
 tape : w.tape = W.tape
 output : w.output = W.output
 keep : ∀ k, k < W.heap.size → k ∉ bs0 → w.heap[k]? = W.heap[k]?
theorem RunW.size {D : List Stp} {P : List Pl} {v : Value} {w : World} (h : RunW T A n cap B g cb I W bs0 D P v w) : W.heap.size + 3 ≤ w.heap.size := h.c2.lt
theorem RunW.below {D : List Stp} {P : List Pl} {v : Value} {w w' : World} (hA : ActW T W.heap.size g cb I) (h : RunW T A n cap B g cb I W bs0 D P v w) (hb : Below w.heap.size w w') : RunW T A n cap B g cb I W bs0 D P v w' := by
 obtain ⟨bs, h1, h2, h3, h5⟩ := h.act
 have hs := h.size
 have hl := h.lt
 exact ⟨h.c0.below hb, h.c1.below hb, h.c2.below hb, h.own.below hb, h.nds.below hb (by omega), h.lt, h.low, ⟨bs, hA.keep D bs w w' h1 (Apart.of hb), h2, h3, fun b hb2 => Nat.lt_of_lt_of_le (h5 b hb2) hb.size⟩, hb.os.trans h.os, hb.tape.trans h.tape, hb.output.trans h.output, fun k hk hn => (hb.block k (by omega)).trans (h.keep k hk hn)⟩
theorem RunW.drew {D : List Stp} {P : List Pl} {v : Value} {w : World} (hA : ActW T W.heap.size g cb I) (h : RunW T A n cap B g cb I W bs0 D P v w) : RunW T A n cap B g cb I W bs0 D P v w.drew := h.below hA (Below.refl _ _).drew
theorem RunW.alloc {D : List Stp} {P : List Pl} {v : Value} {w : World} (hA : ActW T W.heap.size g cb I) (h : RunW T A n cap B g cb I W bs0 D P v w) (o : Obj) : RunW T A n cap B g cb I W bs0 D P v (w.alloc o) := h.below hA ((Below.refl _ _).alloc (Nat.le_refl _) _)
theorem RunW.call {D : List Stp} {P : List Pl} {v : Value} {w : World} {s : Stp} {R : List Stp} (hA : ActW T W.heap.size g cb I) (h : RunW T A n cap B g cb I W bs0 D P v w) (hs : D ++ s :: R = stepsW T (T.length - 1)) :
  Calls Tryd.prog g (#[stpV s] ++ cb) w fun e w' => e = .returned (.tuple #[]) ∧ RunW T A n cap B g cb I W bs0 (D ++ [s]) P v w' := by
 obtain ⟨bs, h1, h2, h3, h9⟩ := h.act
 have hsz := h.size
 have hl := h.lt
 refine (hA.step D s R bs w hs h1 (by omega)).mono ?_
 rintro e w' ⟨rfl, bs', k1, k2, k3⟩
 have hn : ∀ j, j < 3 → W.heap.size + j ∉ bs := fun j hj hm => by
  rcases h2 _ hm with h4 | h4
  ·have := (h.low _ h4).2; omega
  ·omega
 have hB : Below B w w' := ⟨k2.os, k2.tape, k2.output, k2.size, fun k hk => k2.block k (by omega) fun hm => by
  rcases h2 _ hm with h4 | h4
  ·have := (h.low _ h4).1; omega
  ·omega⟩
 refine ⟨rfl, h.c0.but k2 (hn 0 (by omega)), h.c1.but k2 (hn 1 (by omega)), h.c2.but k2 (hn 2 (by omega)), ownsRow_but h.own k2 fun b hb hm => h3 b hm hb, h.nds.below hB (Nat.le_refl _), h.lt, h.low, ⟨bs', k1, fun b hb => ?_, fun b hb hv => ?_, fun b hb => (k3 b hb).2⟩, k2.os.trans h.os, k2.tape.trans h.tape, k2.output.trans h.output, fun k hk hn => ?_⟩
 ·rcases (k3 b hb).1 with h4 | h4
  ·exact h2 b h4
  ·exact .inr (by omega)
 ·rcases (k3 b hb).1 with h4 | h4
  ·exact h3 b h4 hv
  ·have := (World.ownsRow.lt h.own b hv).2; omega
 ·exact (k2.block k (by omega) fun hm => by
   rcases h2 _ hm with h4 | h4
   ·exact hn h4
   ·omega).trans (h.keep k hk hn)
theorem RunW.turn {D : List Stp} {P P' : List Pl} {v v' : Value} {w w' : World} (hA : ActW T W.heap.size g cb I) (h : RunW T A n cap B g cb I W bs0 D P v w) {row : List Nat} (hb : But w w' row) (hr : ∀ b ∈ row, b = W.heap.size + 2 ∨ v.ownBlock = some b)
  (c2 : VarAt w' (W.heap.size + 2) v') (own : OwnV plCells 3 90 w' (W.heap.size + 3) v' P'.reverse) (hv : v'.ownBlock = v.ownBlock ∨ ∃ b, v'.ownBlock = some b ∧ w.heap.size ≤ b) : RunW T A n cap B g cb I W bs0 D P' v' w' := by
 obtain ⟨bs, h1, h2, h3, h9⟩ := h.act
 have hsz := h.size
 have hl := h.lt
 have hge : ∀ b ∈ row, W.heap.size + 2 ≤ b := fun b hm => by
  rcases hr b hm with h4 | h4
  ·omega
  ·have := (World.ownsRow.lt h.own b h4).1; omega
 have hno : ∀ b ∈ bs, b ∉ row := fun b hm hm2 => by
  rcases hr b hm2 with h4 | h4
  ·rcases h2 b hm with h5 | h5
   ·have := (h.low b h5).2; omega
   ·omega
  ·exact h3 b hm h4
 have hBl : Below B w w' := ⟨hb.os, hb.tape, hb.output, hb.size, fun k hk => hb.block k (by omega) fun hm => by have := hge k hm; omega⟩
 refine ⟨h.c0.but hb fun hm => by have := hge _ hm; omega, h.c1.but hb fun hm => by have := hge _ hm; omega, c2, own, h.nds.below hBl (Nat.le_refl _), h.lt, h.low, ⟨bs, hA.keep D bs w w' h1 ⟨hb.os, hb.tape, hb.output, hb.size, fun k hk hc => hb.block k hk fun hm => ?_⟩, h2, fun b hm he => ?_, fun b hm => Nat.lt_of_lt_of_le (h9 b hm) hb.size⟩, hb.os.trans h.os, hb.tape.trans h.tape, hb.output.trans h.output, fun k hk hn => (hb.block k (by omega) fun hm => by have := hge k hm; omega).trans (h.keep k hk hn)⟩
 ·rcases hc with hc | hc
  ·exact hno k hc hm
  ·have := hge k hm; omega
 ·rcases hv with hv | ⟨c, hv, hc⟩
  ·exact h3 b hm (hv ▸ he)
  ·rw [hv] at he
   cases he
   have := h9 b hm; omega
theorem RunW.top {D : List Stp} {p : Pl} {P : List Pl} {gb q : Nat} {w : World} (h : RunW T A n cap B g cb I W bs0 D (p :: P) (.slice (some ⟨gb, 0, none⟩) (P.length + 1) q) w) :
  W.heap.size + 3 ≤ gb ∧ gb < w.heap.size ∧ P.length + 1 ≤ q ∧ q ≤ 9223372036854775807 ∧ w.cell? ⟨gb, P.length * 3, none⟩ = some (.int .i64 p.j) ∧ w.cell? ⟨gb, P.length * 3 + 1, none⟩ = some (.int .i64 p.k) ∧ w.cell? ⟨gb, P.length * 3 + 2, none⟩ = some (.int .i64 p.tok) ∧ ∀ i, w.frozen? ⟨gb, i, none⟩ = false := by
 have ho := h.own
 rw [List.reverse_cons] at ho
 obtain ⟨g', q', hv, h1, h2, h3, h4, h5, h6, h7, h8⟩ := ho.lastP
 rw [List.length_reverse] at hv h3 h5 h6 h7
 cases hv
 exact ⟨h1, h2, h3, h4, h5, h6, h7, h8⟩
theorem RunW.pop {D : List Stp} {p : Pl} {P : List Pl} {gb q : Nat} {w : World} (hA : ActW T W.heap.size g cb I) (h : RunW T A n cap B g cb I W bs0 D (p :: P) (.slice (some ⟨gb, 0, none⟩) (P.length + 1) q) w) :
  RunW T A n cap B g cb I W bs0 D P (.slice (some ⟨gb, 0, none⟩) P.length q) (w.setCell ⟨W.heap.size + 2, 0, none⟩ (.slice (some ⟨gb, 0, none⟩) P.length q)) := by
 have ho := h.own
 rw [List.reverse_cons] at ho
 have ho2 : OwnV plCells 3 90 w (W.heap.size + 3) (.slice (some ⟨gb, 0, none⟩) (P.reverse.length + 1) q) (P.reverse ++ [p]) := by rw [List.length_reverse]; exact ho
 have ho3 := ho2.popP
 rw [List.length_reverse] at ho3
 exact h.turn hA (row := [W.heap.size + 2]) ((But.refl _ _).setCell (by simp) _) (fun b hb => .inl (by simpa using hb)) (h.c2.set _) (ho3.setCell (by show W.heap.size + 2 < _; omega) _) (.inl rfl)
theorem RunW.past {D : List Stp} {p : Pl} {P : List Pl} {gb q : Nat} {w : World} (hA : ActW T W.heap.size g cb I) (h : RunW T A n cap B g cb I W bs0 D (p :: P) (.slice (some ⟨gb, 0, none⟩) (P.length + 1) q) w) (k : Nat) (z t : Int) (hz : (k : Int) = z) :
  RunW T A n cap B g cb I W bs0 D (⟨p.j, k, t⟩ :: P) (.slice (some ⟨gb, 0, none⟩) (P.length + 1) q) ((w.setCell ⟨gb, P.length * 3 + 1, none⟩ (.int .i64 z)).setCell ⟨gb, P.length * 3 + 2, none⟩ (.int .i64 t)) := by
 have ho := h.own
 have htop := h.top
 rw [List.reverse_cons] at ho
 have ho2 : OwnV plCells 3 90 w (W.heap.size + 3) (.slice (some ⟨gb, 0, none⟩) (P.reverse.length + 1) q) (P.reverse ++ [p]) := by rw [List.length_reverse]; exact ho
 have ho3 := (ho2.setK k z hz).setTok t
 rw [List.length_reverse] at ho3
 have hB : But w ((w.setCell ⟨gb, P.length * 3 + 1, none⟩ (.int .i64 z)).setCell ⟨gb, P.length * 3 + 2, none⟩ (.int .i64 t)) [gb] := ((But.refl _ _).setCell (by simp) _).setCell (by simp) _
 exact h.turn hA hB (fun b hb => .inr (by rw [List.mem_singleton.1 hb]; rfl)) (h.c2.but hB (by have := htop.1; simp; omega)) (by rw [List.reverse_cons]; exact ho3) (.inl rfl)
end
end Go.Proofs.YtkgaaabecdbidaaDoor
namespace Go.Proofs.YtkgaaabecdbidaaDoor
open Go.RowKit
set_option linter.unusedSimpArgs false
set_option linter.unusedVariables false
set_option maxHeartbeats 1000000 in
theorem root_run (A : Option Addr) (n cap : Nat) (w : World) (hn : 1 ≤ n) (hn2 : n ≤ 40) : Calls Tryd.prog 31 #[trV A n cap] w fun e w' => e = .returned (.int .i64 ((n - 1 : Nat) : Int)) ∧ w' = w.alloc (.cells #[.slice A n cap] 24) := by
 unfold trV
 have e : ((n - 1 : Nat) : Int) = (n : Int) - 1 := by omega
 rw [e]
 go_enter Tryd.func31, Tryd.ntmps31
 go_wp2_with fail
 go_ret
 exact ⟨rfl, rfl⟩
theorem root_runB (A : Option Addr) (n cap : Nat) (w : World) (hn : 1 ≤ n) (hn2 : n ≤ 40) : Calls Tryd.prog 31 #[trV A n cap] w fun e w' => e = .returned (.int .i64 ((n - 1 : Nat) : Int)) ∧ Below w.heap.size w w' :=
 (root_run A n cap w hn hn2).mono fun e w' h => ⟨h.1, by rw [h.2]; exact (Below.refl _ _).alloc (Nat.le_refl _) _⟩
end Go.Proofs.YtkgaaabecdbidaaDoor
