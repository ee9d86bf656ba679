/-
  Lists whose elements go together, place by place; sorting and picking keep that. No program.
-/
import Derived.Test.YtnpmkapapacffaaDoorFilesMath
namespace Go.Proofs.YtnpmkapapacffaaDoor
open Go.Sort

/-- Two lists of one length, their elements related place by place. -/
structure Zip {α β : Type} (R : α → β → Prop) (xs : List α) (ys : List β) : Prop where
  len : xs.length = ys.length
  rel : ∀ (i : Nat) (x : α) (y : β), xs[i]? = some x → ys[i]? = some y → R x y
section
variable {α β : Type} {R S : α → β → Prop} {xs : List α} {ys : List β}
theorem Zip.nil : Zip R ([] : List α) ([] : List β) := ⟨rfl, fun i x y h => by simp at h⟩
theorem Zip.mono (h : Zip R xs ys) (hm : ∀ x y, R x y → S x y) : Zip S xs ys := ⟨h.len, fun i x y hx hy => hm _ _ (h.rel i x y hx hy)⟩
theorem Zip.get (h : Zip R xs ys) {i : Nat} {x : α} (hx : xs[i]? = some x) : ∃ y, ys[i]? = some y ∧ R x y := by
  have hi := (List.getElem?_eq_some_iff.1 hx).1
  have hj : i < ys.length := by rw [← h.len]; exact hi
  exact ⟨ys[i], List.getElem?_eq_getElem hj, h.rel i x _ hx (List.getElem?_eq_getElem hj)⟩
theorem Zip.getR (h : Zip R xs ys) {i : Nat} {y : β} (hy : ys[i]? = some y) : ∃ x, xs[i]? = some x ∧ R x y := by
  have hi := (List.getElem?_eq_some_iff.1 hy).1
  have hj : i < xs.length := by rw [h.len]; exact hi
  exact ⟨xs[i], List.getElem?_eq_getElem hj, h.rel i _ y (List.getElem?_eq_getElem hj) hy⟩
theorem Zip.snoc (h : Zip R xs ys) {x : α} {y : β} (hr : R x y) : Zip R (xs ++ [x]) (ys ++ [y]) := by
  refine ⟨by simp [h.len], fun i a b ha hb => ?_⟩
  rcases Nat.lt_trichotomy i xs.length with hi | hi | hi
  · rw [List.getElem?_append_left hi] at ha
    rw [List.getElem?_append_left (by rw [← h.len]; exact hi)] at hb
    exact h.rel i a b ha hb
  · subst hi
    rw [List.getElem?_append_right (Nat.le_refl _), Nat.sub_self] at ha
    rw [List.getElem?_append_right (by rw [h.len]; exact Nat.le_refl _), h.len, Nat.sub_self] at hb
    simp at ha hb
    rw [← ha, ← hb]
    exact hr
  · rw [List.getElem?_eq_none (by simp; omega)] at ha
    cases ha
theorem Zip.set {i : Nat} (h : Zip R xs ys) (hS : ∀ (j : Nat) (x : α) (y : β), j ≠ i → xs[j]? = some x → ys[j]? = some y → R x y → S x y) {x' : α} {y' : β} (hr : S x' y') : Zip S (xs.set i x') (ys.set i y') := by
  refine ⟨by simp [h.len], fun j a b ha hb => ?_⟩
  rw [List.getElem?_set] at ha hb
  by_cases e : i = j
  · rw [if_pos e] at ha hb
    split at ha
    · split at hb
      · cases ha; cases hb; exact hr
      · cases hb
    · cases ha
  · rw [if_neg e] at ha hb
    exact hS j a b (fun e' => e e'.symm) ha hb (h.rel j a b ha hb)
theorem Zip.pairs (h : Zip R xs ys) : ∃ zs : List (α × β), zs.map Prod.fst = xs ∧ zs.map Prod.snd = ys ∧ ∀ z ∈ zs, R z.1 z.2 := by
  refine ⟨xs.zip ys, List.map_fst_zip (by rw [h.len]; exact Nat.le_refl _), List.map_snd_zip (by rw [h.len]; exact Nat.le_refl _), fun z hz => ?_⟩
  obtain ⟨i, hi, e⟩ := List.mem_iff_getElem.1 hz
  rw [List.getElem_zip] at e
  rw [List.length_zip] at hi
  have h1 : i < xs.length := by omega
  have h2 : i < ys.length := by omega
  have := h.rel i xs[i] ys[i] (List.getElem?_eq_getElem h1) (List.getElem?_eq_getElem h2)
  rw [← e]
  exact this
theorem Zip.of_pairs (zs : List (α × β)) (h : ∀ z ∈ zs, R z.1 z.2) : Zip R (zs.map Prod.fst) (zs.map Prod.snd) := by
  refine ⟨by simp, fun i x y hx hy => ?_⟩
  rw [List.getElem?_map] at hx hy
  cases hz : zs[i]? with
  | none => rw [hz] at hx; cases hx
  | some z =>
    rw [hz] at hx hy
    cases hx; cases hy
    exact h z (List.mem_of_getElem? hz)
theorem Zip.take (h : Zip R xs ys) (n : Nat) : Zip R (xs.take n) (ys.take n) := by
  refine ⟨by simp [h.len], fun i x y hx hy => ?_⟩
  rw [List.getElem?_take] at hx hy
  split at hx
  · rename_i hi
    rw [if_pos hi] at hy
    exact h.rel i x y hx hy
  · cases hx
variable [Inhabited α] [Inhabited β]
instance : Inhabited (α × β) := ⟨(default, default)⟩
theorem Zip.ord {ka : α → List UInt8} {kb : β → List UInt8} (hk : ∀ x y, R x y → ka x = kb y) (h : Zip R xs ys) : Zip R (Fm.ordL ka xs) (Fm.ordL kb ys) := by
  obtain ⟨zs, rfl, rfl, hz⟩ := h.pairs
  -- the keys of both agree on zs; a key of pairs
  have e1 : Fm.ordL ka (zs.map Prod.fst) = (Fm.ordL (fun z : α × β => ka z.1) zs).map Prod.fst := Fm.ordL_map Prod.fst (fun _ => rfl) zs
  have e2 : Fm.ordL kb (zs.map Prod.snd) = (Fm.ordL (fun z : α × β => kb z.2) zs).map Prod.snd := Fm.ordL_map Prod.snd (fun _ => rfl) zs
  have e3 : Fm.ordL (fun z : α × β => kb z.2) zs = Fm.ordL (fun z : α × β => ka z.1) zs := by
    refine (Fm.ordL_unique (key := fun z : α × β => kb z.2) ?_ ?_).symm
    · have hs := Fm.ordL_sorted (fun z : α × β => ka z.1) zs
      rw [Stb.Sorted] at hs ⊢
      refine hs.imp_of_mem fun {a b} ha hb hab => ?_
      have ea := hk _ _ (hz a (Fm.ordL_mem.1 ha))
      have eb := hk _ _ (hz b (Fm.ordL_mem.1 hb))
      simpa [Stb.lt, ea, eb] using hab
    · intro c
      have hs := Fm.ordL_same (fun z : α × β => ka z.1) zs c
      have f1 : zs.filter (fun x => kb x.2 == c) = zs.filter (fun x => ka x.1 == c) := List.filter_congr fun x hx => by rw [hk _ _ (hz x hx)]
      have f2 : (Fm.ordL (fun z : α × β => ka z.1) zs).filter (fun x => kb x.2 == c) = (Fm.ordL (fun z : α × β => ka z.1) zs).filter (fun x => ka x.1 == c) := List.filter_congr fun x hx => by rw [hk _ _ (hz x (Fm.ordL_mem.1 hx))]
      rw [f1, f2]
      exact hs
  rw [e1, e2, e3]
  exact Zip.of_pairs _ fun z h => hz z (Fm.ordL_mem.1 h)
omit [Inhabited α] [Inhabited β] in
theorem getElem!_map_lt {γ δ : Type} [Inhabited γ] [Inhabited δ] (f : γ → δ) (d : Array γ) (i : Nat) (h : i < d.size) : (d.map f)[i]! = f d[i]! := by
  rw [getElem!_pos (d.map f) i (by simpa using h), getElem!_pos d i h]
  simp
omit [Inhabited α] [Inhabited β] in
theorem swp_map {γ δ : Type} [Inhabited γ] [Inhabited δ] (f : γ → δ) (d : Array γ) (i j : Nat) (hi : i < d.size) (hj : j < d.size) : swp (d.map f) i j = (swp d i j).map f := by
  apply Array.ext
  · simp [size_swp]
  · intro k h1 h2
    have hk : k < d.size := by simpa [size_swp] using h1
    have e1 := swp_get (d.map f) (i := i) (j := j) (by simpa using hi) (by simpa using hj) k
    have e2 := swp_get d hi hj k
    rw [getElem!_pos _ k h1] at e1
    rw [e1]
    have e3 : ((swp d i j).map f)[k] = f (swp d i j)[k]! := by
      rw [getElem!_pos (swp d i j) k (by rw [size_swp]; exact hk)]
      simp
    rw [e3, e2]
    split
    · exact getElem!_map_lt f d i hi
    · split
      · exact getElem!_map_lt f d j hj
      · exact getElem!_map_lt f d k hk
omit [Inhabited α] [Inhabited β] in
theorem permTo_map {γ δ : Type} [Inhabited γ] [Inhabited δ] (f : γ → δ) (d : Array γ) (pick : List Int) : ∀ n, Fm.permTo (d.map f) pick n = (Fm.permTo d pick n).map f
  | 0 => rfl
  | i + 1 => by
    unfold Fm.permTo
    rw [permTo_map f d pick i]
    simp only [Array.size_map]
    split
    · rename_i h
      split
      · rename_i x _
        exact swp_map f _ _ _ (by rw [Fm.permTo_size]; exact h) (by rw [Fm.permTo_size]; exact (Fm.tgt_lt x h).2)
      · rfl
    · rfl
omit [Inhabited α] [Inhabited β] in
theorem permL_map {γ δ : Type} [Inhabited γ] [Inhabited δ] (f : γ → δ) (l : List γ) (pick : List Int) : Fm.permL (l.map f) pick = (Fm.permL l pick).map f := by
  unfold Fm.permL
  rw [← List.map_toArray, permTo_map, List.length_map]
  simp
theorem Zip.picks (h : Zip R xs ys) (pick : List Int) : Zip R (Fm.permL xs pick) (Fm.permL ys pick) := by
  obtain ⟨zs, rfl, rfl, hz⟩ := h.pairs
  rw [permL_map, permL_map]
  exact Zip.of_pairs _ fun z h => hz z ((Fm.permL_perm zs pick).mem_iff.2 h)
end
end Go.Proofs.YtnpmkapapacffaaDoor
