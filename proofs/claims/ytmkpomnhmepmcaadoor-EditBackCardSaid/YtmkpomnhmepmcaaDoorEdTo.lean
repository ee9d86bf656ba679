/-
  Where edits lead a place, there and back, and how much they make a file longer: in int's arithmetic, any edits. One function of mathematics for the program and for the reference.
-/
import Derived.Test.YtmkpomnhmepmcaaDoorEdGrow
namespace Go.Proofs.YtmkpomnhmepmcaaDoor
open Go.RowKit

theorem drop_at {α : Type} {l : List α} {i : Nat} {x : α} (h : l[i]? = some x) : l.drop i = x :: l.drop (i + 1) := by
  obtain ⟨hi, rfl⟩ := List.getElem?_eq_some_iff.1 h
  exact List.drop_eq_getElem_cons hi
theorem take_at {α : Type} {l : List α} {i : Nat} {x : α} (h : l[i]? = some x) : l.take (i + 1) = l.take i ++ [x] := by
  rw [List.take_add_one, h, Option.toList_some]
/-- By how much edits make a file longer. -/
def growI : List Ei → Int
  | [] => 0
  | e :: r => dgI e.f e.t e.s + growI r
theorem growI_append : ∀ l m : List Ei, growI (l ++ m) = growI l + growI m
  | [], m => by simp [growI]
  | e :: r, m => by simp only [List.cons_append, growI, growI_append r m]; omega
theorem growI_one (e : Ei) : growI [e] = dgI e.f e.t e.s := by simp [growI]
theorem growI_at {l : List Ei} {i : Nat} {x : Ei} (h : l[i]? = some x) : growI (l.take (i + 1)) = growI (l.take i) + dgI x.f x.t x.s := by
  rw [take_at h, growI_append, growI_one]
/-- The growth of the edits that end at the place or ahead. -/
def filI (off : Int) (l : List Ei) : Int := growI (l.filter fun e => decide (e.t ≤ off))
theorem filI_at {off : Int} {l : List Ei} {i : Nat} {x : Ei} (h : l[i]? = some x) : filI off (l.take (i + 1)) = filI off (l.take i) + (if x.t ≤ off then dgI x.f x.t x.s else 0) := by
  rw [filI, take_at h, List.filter_append, growI_append, ← filI]
  congr 1
  by_cases hx : x.t ≤ off
  · simp [hx, growI]
  · simp [hx, growI]
/-- Map's walk: g is the growth of the edits before, m that of those of them that end at the place or ahead. -/
def mapGo (off : Int) : List Ei → Int → Int → Int × Bool
  | [], _, m => (Wr.w (off + m), true)
  | e :: r, g, m => if e.f ≤ off ∧ off < e.t then (Wr.w (e.f + g), false) else mapGo off r (g + dgI e.f e.t e.s) (m + (if e.t ≤ off then dgI e.f e.t e.s else 0))
def mapOut (off : Int) (l : List Ei) : Int × Bool := mapGo off l 0 0
def AtMap (off : Int) (l : List Ei) (i : Nat) (g m : Int) : Prop := mapOut off l = mapGo off (l.drop i) g m ∧ g = growI (l.take i) ∧ m = filI off (l.take i)
theorem AtMap.start (off : Int) (l : List Ei) : AtMap off l 0 0 0 := ⟨rfl, rfl, rfl⟩
theorem AtMap.hit {off : Int} {l : List Ei} {i : Nat} {g m : Int} {x : Ei} (h : AtMap off l i g m) (hx : l[i]? = some x) (h1 : x.f ≤ off) (h2 : off < x.t) : mapOut off l = (Wr.w (x.f + g), false) := by
  rw [h.1, drop_at hx, mapGo, if_pos ⟨h1, h2⟩]
theorem AtMap.next {off : Int} {l : List Ei} {i : Nat} {g m : Int} {x : Ei} (h : AtMap off l i g m) (hx : l[i]? = some x) (hn : ¬ (x.f ≤ off ∧ off < x.t)) : AtMap off l (i + 1) (g + dgI x.f x.t x.s) (m + (if x.t ≤ off then dgI x.f x.t x.s else 0)) := by
  refine ⟨?_, by rw [growI_at hx, h.2.1], by rw [filI_at hx, h.2.2]⟩
  rw [h.1, drop_at hx, mapGo, if_neg hn]
theorem AtMap.past {off : Int} {l : List Ei} {i : Nat} {g m : Int} {x : Ei} (h : AtMap off l i g m) (hx : l[i]? = some x) (hn : ¬ (x.f ≤ off ∧ off < x.t)) (ht : x.t ≤ off) : AtMap off l (i + 1) (g + dgI x.f x.t x.s) (m + dgI x.f x.t x.s) := by
  have := h.next hx hn
  rwa [if_pos ht] at this
theorem AtMap.skip {off : Int} {l : List Ei} {i : Nat} {g m : Int} {x : Ei} (h : AtMap off l i g m) (hx : l[i]? = some x) (hn : ¬ (x.f ≤ off ∧ off < x.t)) (ht : ¬ x.t ≤ off) : AtMap off l (i + 1) (g + dgI x.f x.t x.s) m := by
  have := h.next hx hn
  rwa [if_neg ht, Int.add_zero] at this
theorem AtMap.done {off : Int} {l : List Ei} {i : Nat} {g m : Int} (h : AtMap off l i g m) (hi : l.length ≤ i) : mapOut off l = (Wr.w (off + m), true) := by
  rw [h.1, List.drop_of_length_le hi, mapGo]
/-- Back's walk. -/
def backGo (off : Int) : List Ei → Int → Int → Int × Bool
  | [], _, m => (Wr.w (off - m), true)
  | e :: r, g, m => if Wr.w (e.f + g) ≤ off ∧ off < Wr.w (e.f + g + e.s.size) then (e.f, false) else backGo off r (g + dgI e.f e.t e.s) (m + (if Wr.w (e.f + g + e.s.size) ≤ off then dgI e.f e.t e.s else 0))
def backOut (off : Int) (l : List Ei) : Int × Bool := backGo off l 0 0
/-- The growth of the edits whose text ends at the place or ahead; g: what the edits before grew. -/
def lossI (off : Int) : Int → List Ei → Int
  | _, [] => 0
  | g, e :: r => (if Wr.w (e.f + g + e.s.size) ≤ off then dgI e.f e.t e.s else 0) + lossI off (g + dgI e.f e.t e.s) r
theorem lossI_append (off : Int) : ∀ (g : Int) (l m : List Ei), lossI off g (l ++ m) = lossI off g l + lossI off (g + growI l) m
  | g, [], m => by simp [lossI, growI]
  | g, e :: r, m => by
    simp only [List.cons_append, lossI, growI, lossI_append off _ r m]
    rw [show g + dgI e.f e.t e.s + growI r = g + (dgI e.f e.t e.s + growI r) by omega]
    omega
theorem lossI_at {off : Int} {l : List Ei} {i : Nat} {x : Ei} (h : l[i]? = some x) : lossI off 0 (l.take (i + 1)) = lossI off 0 (l.take i) + (if Wr.w (x.f + growI (l.take i) + x.s.size) ≤ off then dgI x.f x.t x.s else 0) := by
  rw [take_at h, lossI_append]
  simp [lossI]
def AtBack (off : Int) (l : List Ei) (i : Nat) (g m : Int) : Prop := backOut off l = backGo off (l.drop i) g m ∧ g = growI (l.take i) ∧ m = lossI off 0 (l.take i)
theorem AtBack.start (off : Int) (l : List Ei) : AtBack off l 0 0 0 := ⟨rfl, rfl, rfl⟩
theorem AtBack.hit {off : Int} {l : List Ei} {i : Nat} {g m : Int} {x : Ei} (h : AtBack off l i g m) (hx : l[i]? = some x) (h1 : Wr.w (x.f + g) ≤ off) (h2 : off < Wr.w (x.f + g + x.s.size)) : backOut off l = (x.f, false) := by
  rw [h.1, drop_at hx, backGo, if_pos ⟨h1, h2⟩]
theorem AtBack.next {off : Int} {l : List Ei} {i : Nat} {g m : Int} {x : Ei} (h : AtBack off l i g m) (hx : l[i]? = some x) (hn : ¬ (Wr.w (x.f + g) ≤ off ∧ off < Wr.w (x.f + g + x.s.size))) : AtBack off l (i + 1) (g + dgI x.f x.t x.s) (m + (if Wr.w (x.f + g + x.s.size) ≤ off then dgI x.f x.t x.s else 0)) := by
  refine ⟨?_, by rw [growI_at hx, h.2.1], by rw [lossI_at hx, h.2.2, h.2.1]⟩
  rw [h.1, drop_at hx, backGo, if_neg hn]
theorem AtBack.past {off : Int} {l : List Ei} {i : Nat} {g m : Int} {x : Ei} (h : AtBack off l i g m) (hx : l[i]? = some x) (hn : ¬ (Wr.w (x.f + g) ≤ off ∧ off < Wr.w (x.f + g + x.s.size))) (ht : Wr.w (x.f + g + x.s.size) ≤ off) : AtBack off l (i + 1) (g + dgI x.f x.t x.s) (m + dgI x.f x.t x.s) := by
  have := h.next hx hn
  rwa [if_pos ht] at this
theorem AtBack.skip {off : Int} {l : List Ei} {i : Nat} {g m : Int} {x : Ei} (h : AtBack off l i g m) (hx : l[i]? = some x) (hn : ¬ (Wr.w (x.f + g) ≤ off ∧ off < Wr.w (x.f + g + x.s.size))) (ht : ¬ Wr.w (x.f + g + x.s.size) ≤ off) : AtBack off l (i + 1) (g + dgI x.f x.t x.s) m := by
  have := h.next hx hn
  rwa [if_neg ht, Int.add_zero] at this
theorem AtBack.done {off : Int} {l : List Ei} {i : Nat} {g m : Int} (h : AtBack off l i g m) (hi : l.length ≤ i) : backOut off l = (Wr.w (off - m), true) := by
  rw [h.1, List.drop_of_length_le hi, backGo]
end Go.Proofs.YtmkpomnhmepmcaaDoor
