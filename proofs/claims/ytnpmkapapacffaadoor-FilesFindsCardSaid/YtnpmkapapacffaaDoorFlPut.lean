/-
  One text put anew in a row of files of the call's own, in packages of the call's own.
-/
import Derived.Test.YtnpmkapapacffaaDoorFlTurn
namespace Go.Proofs.YtnpmkapapacffaaDoor
open Go.Shelf Go.RowKit Go.Lib Go.Sort Fm

theorem But.setCell {a w : World} {bs : List Nat} (h : But a w bs) {p : Addr} (hp : p.block ∈ bs) (v : Value) : But a (w.setCell p v) bs :=
  ⟨h.os, h.tape, h.output, by rw [World.size_setCell]; exact h.size, fun k hk hn => (Below.heap_setCell w p v k (fun e => hn (e ▸ hp))).trans (h.block k hk hn)⟩
theorem modify_set {α : Type} (f : α → α) {l : List α} {i : Nat} {x : α} (h : l[i]? = some x) : l.modify i f = l.set i (f x) := by
  apply List.ext_getElem?
  intro j
  rw [List.getElem?_modify, List.getElem?_set]
  by_cases e : i = j
  · subst e
    obtain ⟨hi, hx⟩ := List.getElem?_eq_some_iff.1 h
    simp [hi, hx]
  · simp [e]
theorem flat_set (B : Option Addr) (m d : Nat) : ∀ (ys : List Re) (k : Nat) (y : Re), ys[k]? = some y → (ys.flatMap reCells).set (k * 2 + 1) (.slice B m d) = (ys.set k ⟨y.s, B, m, d⟩).flatMap reCells
  | [], k, y, h => by simp at h
  | x :: r, 0, y, h => by
    obtain rfl : x = y := by simpa using h
    rfl
  | x :: r, k + 1, y, h => by
    have ih := flat_set B m d r k y (by simpa using h)
    rw [show (k + 1) * 2 + 1 = (k * 2 + 1) + 2 by omega]
    show (reCells x ++ r.flatMap reCells).set _ _ = reCells x ++ (r.set k _).flatMap reCells
    rw [← ih]
    rfl
/-- A store of a text into a row of files of the call's own. -/
theorem own_text {E : TypeId} {w : World} {base g n c : Nat} {ys : List Re} (h : OwnV reCells 2 E w base (.slice (some ⟨g, 0, none⟩) n c) ys) {k : Nat} {y : Re} (hy : ys[k]? = some y) (B : Option Addr) (m d : Nat) :
    OwnV reCells 2 E (w.setCell ⟨g, k * 2 + 1, none⟩ (.slice B m d)) base (.slice (some ⟨g, 0, none⟩) n c) (ys.set k ⟨y.s, B, m, d⟩) := by
  have hl := (own_blk h).2.2.1
  subst hl
  have := (World.ownsRow.stored h (k * 2 + 1) (.slice B m d)).1
  rw [flat_set B m d ys k y hy] at this
  unfold OwnV
  rw [List.length_set]
  exact this
theorem own_frozen {E : TypeId} {w : World} {base g n c : Nat} {ys : List Re} (h : OwnV reCells 2 E w base (.slice (some ⟨g, 0, none⟩) n c) ys) (j : Nat) : w.frozen? ⟨g, j, none⟩ = false := by
  have hl := (own_blk h).2.2.1
  subst hl
  exact World.ownsRow.frozenAt h j
theorem own_two {E : TypeId} {w : World} {base g n c : Nat} {ys : List Re} (h : OwnV reCells 2 E w base (.slice (some ⟨g, 0, none⟩) n c) ys) {k : Nat} {y : Re} (hy : ys[k]? = some y) : w.cell? ⟨g, k * 2, none⟩ = some (.string y.s) ∧ w.cell? ⟨g, k * 2 + 1, none⟩ = some (.slice y.A y.n y.c) := by
  obtain ⟨A, cap, hv, _, _, hc⟩ := h.cells
  cases hv
  obtain ⟨b, o, x, e, _, hx, c0, c1⟩ := res_at hc (List.getElem?_eq_some_iff.1 hy).1
  cases e
  rw [hy] at hx
  cases hx
  rw [Nat.zero_add] at c0 c1
  exact ⟨c0, c1⟩
/-- The packages behind such a store. -/
theorem OwnX.text {w w1 : World} {base g n c : Nat} {xs : List Re} {ps : List Pk} (h : OwnX w base (.slice (some ⟨g, 0, none⟩) n c) xs ps) {i k gi : Nat} {x y : Re} {p : Pk} {f : Fl} {ys : List Re} (hx : xs[i]? = some x) (hp : ps[i]? = some p) (hg : x.A = some ⟨gi, 0, none⟩)
    (ho : OwnV reCells 2 39 w base (.slice (some ⟨gi, 0, none⟩) x.n x.c) ys) (hz : Zip (IsFlT w base) ys p.files) (hy : ys[k]? = some y) (hf : p.files[k]? = some f) (hw : Below w.heap.size w w1) {B : Option Addr} {m d : Nat} {txt : List Int}
    (hm : m = txt.length) (hmd : m ≤ d) (hd : d ≤ 9223372036854775807) (ht : TxtAt w1 base B txt) :
    OwnX (w1.setCell ⟨gi, k * 2 + 1, none⟩ (.slice B m d)) base (.slice (some ⟨g, 0, none⟩) n c) xs (put ps i k txt) ∧ But w (w1.setCell ⟨gi, k * 2 + 1, none⟩ (.slice B m d)) [gi] := by
  have hb := own_blk ho
  have hk := ownV_blk (.inl rfl) ho
  have o1 : OwnV reCells 2 39 w1 base (.slice (some ⟨gi, 0, none⟩) x.n x.c) ys := ho.below hw
  have K : But w (w1.setCell ⟨gi, k * 2 + 1, none⟩ (.slice B m d)) [gi] := (But.of_below hw).setCell (by simp) _
  have K1 : But w1 (w1.setCell ⟨gi, k * 2 + 1, none⟩ (.slice B m d)) [gi] := (But.refl w1 [gi]).setCell (by simp) _
  have hk1 := ownV_blk (.inl rfl) o1
  have hk1' : ∀ b ∈ [gi], RowBlk w1 base b := by simpa [Value.ownBlock] using hk1
  have hk' : ∀ b ∈ [gi], RowBlk w base b := by simpa [Value.ownBlock] using hk
  have o2 := own_text o1 hy B m d
  have hys : y.s = f.name := (hz.rel k y f hy hf).1
  have z2 : Zip (IsFlT (w1.setCell ⟨gi, k * 2 + 1, none⟩ (.slice B m d)) base) (ys.set k ⟨y.s, B, m, d⟩) (p.files.set k ⟨f.name, txt⟩) :=
    hz.set (fun j a b _ _ _ hr => hr.but K hk') ⟨hys, hm, hmd, hd, ht.but K1 hk1'⟩
  have e1 : p.files.modify k (fun f => Fl.mk f.name txt) = p.files.set k ⟨f.name, txt⟩ := modify_set _ hf
  have e2 : put ps i k txt = ps.set i ⟨p.path, p.files.set k ⟨f.name, txt⟩⟩ := by
    unfold put
    rw [modify_set _ hp, e1]
  refine ⟨?_, K⟩
  rw [e2]
  exact h.turn hx hp hg K rfl (by simp) ⟨_, o2, by rw [List.length_set]; exact hb.2.2.1, z2⟩
end Go.Proofs.YtnpmkapapacffaaDoor
