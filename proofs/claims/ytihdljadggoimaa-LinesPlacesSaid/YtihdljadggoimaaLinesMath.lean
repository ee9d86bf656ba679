/-
  Lines as plain mathematics over lists of integers: where the lines of bytes begin, which tables are valid, the line and the column of an offset, and the offset of these. Nothing of the program is named here.
-/
namespace Go.Proofs.Ytihdljadggoimaa
namespace Ln

/-- Strictly increasing, with a first element of 0 and a last of at most z. -/
def Sorted (S : List Int) : Prop := ∀ i j : Nat, ∀ x y : Int, i < j → S[i]? = some x → S[j]? = some y → x < y
def Valid (S : List Int) (z : Int) : Prop := S[0]? = some 0 ∧ (∀ i x, i + 1 = S.length → S[i]? = some x → x ≤ z) ∧ Sorted S
/-- Neighbours that increase do so everywhere. -/
theorem sorted_of_next {S : List Int} (h : ∀ i : Nat, ∀ x y : Int, S[i]? = some x → S[i + 1]? = some y → x < y) : Sorted S := by
  intro i j
  induction j with
  | zero => intro x y hij; omega
  | succ j ih =>
    intro x y hij hx hy
    rcases Nat.lt_or_ge i j with hlt | hge
    · have hj : j < S.length := by have := (List.getElem?_eq_some_iff.1 hy).1; omega
      have h1 := ih x S[j] hlt hx (List.getElem?_eq_getElem hj)
      have h2 := h j S[j] y (List.getElem?_eq_getElem hj) hy
      omega
    · obtain rfl : i = j := by omega
      exact h i x y hx hy
/-- How many lines begin at or before off. -/
def lineOf (S : List Int) (off : Int) : Nat := S.countP (fun x => decide (x ≤ off))
theorem lineOf_le (S : List Int) (off : Int) : lineOf S off ≤ S.length := List.countP_le_length
/-- What is at most off stands ahead of what is not. -/
theorem lineOf_split : ∀ (k : Nat) (S : List Int) (off : Int), k ≤ S.length → (∀ i x, i < k → S[i]? = some x → x ≤ off) → (∀ i x, k ≤ i → S[i]? = some x → off < x) → lineOf S off = k
  | 0, S, off, _, _, h2 => by
    unfold lineOf
    rw [List.countP_eq_zero]
    intro x hx
    obtain ⟨i, hi⟩ := List.getElem?_of_mem hx
    have := h2 i x (Nat.zero_le _) hi
    simp
    omega
  | k + 1, [], _, hk, _, _ => by simp at hk
  | k + 1, c :: t, off, hk, h1, h2 => by
    have hc : c ≤ off := h1 0 c (by omega) rfl
    have ih := lineOf_split k t off (by simpa using hk) (fun i x hi hx => h1 (i + 1) x (by omega) (by simpa using hx)) (fun i x hi hx => h2 (i + 1) x (by omega) (by simpa using hx))
    unfold lineOf at ih ⊢
    rw [List.countP_cons, ih]
    simp [hc]
/-- The same, told at the border alone. -/
theorem lineOf_border {S : List Int} {off : Int} {k : Nat} (hs : Sorted S) (hk : k ≤ S.length) (h1 : ∀ i x, i + 1 = k → S[i]? = some x → x ≤ off) (h2 : ∀ x, S[k]? = some x → off < x) : lineOf S off = k := by
  refine lineOf_split k S off hk ?_ ?_
  · intro i x hi hx
    rcases Nat.lt_or_ge (i + 1) k with hlt | hge
    · have hj : k - 1 < S.length := by omega
      have a := h1 (k - 1) S[k - 1] (by omega) (List.getElem?_eq_getElem hj)
      have b := hs i (k - 1) x S[k - 1] (by omega) hx (List.getElem?_eq_getElem hj)
      omega
    · exact h1 i x (by omega) hx
  · intro i x hi hx
    rcases Nat.lt_or_ge k i with hlt | hge
    · have hj : k < S.length := by have := (List.getElem?_eq_some_iff.1 hx).1; omega
      have a := h2 S[k] (List.getElem?_eq_getElem hj)
      have b := hs k i S[k] x hlt (List.getElem?_eq_getElem hj) hx
      omega
    · obtain rfl : i = k := by omega
      exact h2 x hx
/-- Line k's start is at most off just if the line of off is k or a later one. -/
theorem lineOf_iff {S : List Int} {off : Int} (hs : Sorted S) {i : Nat} {x : Int} (hx : S[i]? = some x) : x ≤ off ↔ i < lineOf S off := by
  induction S generalizing i with
  | nil => simp at hx
  | cons c t ih =>
    have hst : Sorted t := fun a b y z hab hy hz => hs (a + 1) (b + 1) y z (by omega) (by simpa using hy) (by simpa using hz)
    unfold lineOf at ih ⊢
    rw [List.countP_cons]
    by_cases hc : c ≤ off
    · cases i with
      | zero =>
        simp at hx
        subst hx
        simp [hc]
      | succ i =>
        have := ih hst (i := i) (by simpa using hx)
        simp only [hc, decide_true, if_true]
        rw [this]
        omega
    · have h0 : t.countP (fun x => decide (x ≤ off)) = 0 := by
        rw [List.countP_eq_zero]
        intro y hy
        obtain ⟨j, hj⟩ := List.getElem?_of_mem hy
        have := hs 0 (j + 1) c y (by omega) rfl (by simpa using hj)
        simp
        omega
      rw [h0]
      cases i with
      | zero =>
        simp at hx
        subst hx
        simp [hc]
      | succ i =>
        have := hs 0 (i + 1) c x (by omega) rfl hx
        simp [hc]
        omega
theorem lineOf_pos {S : List Int} {z off : Int} (hv : Valid S z) (h0 : 0 ≤ off) : 1 ≤ lineOf S off := by
  have := (lineOf_iff hv.2.2 (i := 0) (x := 0) hv.1 (off := off)).1 h0
  omega

/-- Where the lines of bytes begin, behind i bytes. -/
def from_ : List Int → Int → List Int
  | [], _ => []
  | c :: t, i => if c = 10 then (i + 1) :: from_ t (i + 1) else from_ t (i + 1)
def starts (b : List Int) : List Int := 0 :: from_ b 0
theorem from_append : ∀ (a c : List Int) (i : Int), from_ (a ++ c) i = from_ a i ++ from_ c (i + a.length)
  | [], c, i => by simp [from_]
  | x :: a, c, i => by
    have ih := from_append a c (i + 1)
    have e : i + 1 + (a.length : Int) = i + ((x :: a).length : Int) := by simp; omega
    rw [e] at ih
    simp only [List.cons_append, from_]
    split
    · rw [ih]; rfl
    · exact ih
/-- One byte more. -/
theorem starts_take {b : List Int} {p : Nat} {c : Int} (h : b[p]? = some c) : starts (b.take (p + 1)) = starts (b.take p) ++ (if c = 10 then [(p : Int) + 1] else []) := by
  have hp := (List.getElem?_eq_some_iff.1 h).1
  rw [List.take_add_one, h]
  unfold starts
  rw [from_append]
  simp only [Option.toList, from_, List.length_take, Nat.min_eq_left (Nat.le_of_lt hp), List.cons_append]
  split <;> simp
theorem mem_from {x : Int} : ∀ {b : List Int} {i : Int}, x ∈ from_ b i ↔ ∃ k : Nat, b[k]? = some 10 ∧ x = i + k + 1
  | [], i => by simp [from_]
  | c :: t, i => by
    have ih := mem_from (x := x) (b := t) (i := i + 1)
    constructor
    · intro h
      unfold from_ at h
      split at h
      · next hc =>
        rcases List.mem_cons.1 h with rfl | h
        · exact ⟨0, by simp [hc], by simp⟩
        · obtain ⟨k, hk, e⟩ := ih.1 h
          exact ⟨k + 1, by simpa using hk, by rw [e]; push_cast; omega⟩
      · obtain ⟨k, hk, e⟩ := ih.1 h
        exact ⟨k + 1, by simpa using hk, by rw [e]; push_cast; omega⟩
    · rintro ⟨k, hk, e⟩
      unfold from_
      cases k with
      | zero =>
        simp at hk
        subst hk
        rw [if_pos rfl]
        exact List.mem_cons.2 (.inl (by simpa using e))
      | succ k =>
        have hm := ih.2 ⟨k, by simpa using hk, by rw [e]; push_cast; omega⟩
        split
        · exact List.mem_cons_of_mem _ hm
        · exact hm
theorem mem_starts {x : Int} {b : List Int} : x ∈ starts b ↔ x = 0 ∨ ∃ k : Nat, b[k]? = some 10 ∧ x = (k : Int) + 1 := by
  unfold starts
  rw [List.mem_cons, mem_from]
  constructor
  · rintro (h | ⟨k, h, e⟩)
    · exact .inl h
    · exact .inr ⟨k, h, by omega⟩
  · rintro (h | ⟨k, h, e⟩)
    · exact .inl h
    · exact .inr ⟨k, h, by omega⟩
theorem starts_pair (b : List Int) : (starts b).Pairwise (· < ·) := by
  have hf : ∀ (b : List Int) (i : Int), (from_ b i).Pairwise (· < ·) := by
    intro b
    induction b with
    | nil => intro i; simp [from_]
    | cons c t ih =>
      intro i
      unfold from_
      split
      · refine List.pairwise_cons.2 ⟨fun y hy => ?_, ih _⟩
        obtain ⟨k, _, e⟩ := mem_from.1 hy
        omega
      · exact ih _
  refine List.pairwise_cons.2 ⟨fun y hy => ?_, hf b 0⟩
  obtain ⟨k, _, e⟩ := mem_from.1 hy
  omega
theorem sorted_of_pair {S : List Int} (h : S.Pairwise (· < ·)) : Sorted S := by
  intro i j x y hij hx hy
  obtain ⟨hi, rfl⟩ := List.getElem?_eq_some_iff.1 hx
  obtain ⟨hj, rfl⟩ := List.getElem?_eq_some_iff.1 hy
  exact List.pairwise_iff_getElem.1 h i j hi hj hij
theorem starts_valid (b : List Int) : Valid (starts b) b.length := by
  refine ⟨rfl, fun i x _ hx => ?_, sorted_of_pair (starts_pair b)⟩
  rcases mem_starts.1 (List.mem_of_getElem? hx) with rfl | ⟨k, hk, rfl⟩
  · omega
  · have := (List.getElem?_eq_some_iff.1 hk).1
    omega
theorem starts_length (b : List Int) : (starts b).length ≤ b.length + 1 := by
  have hf : ∀ (b : List Int) (i : Int), (from_ b i).length ≤ b.length := by
    intro b
    induction b with
    | nil => intro i; simp [from_]
    | cons c t ih =>
      intro i
      have := ih (i + 1)
      unfold from_
      split <;> simp <;> omega
  have := hf b 0
  simp [starts]
  exact this
/-- One offset on: the next line just if it begins there. -/
theorem count_step : ∀ {S : List Int} (_ : S.Pairwise (· < ·)) (off : Int), S.countP (fun x => decide (x ≤ off + 1)) = S.countP (fun x => decide (x ≤ off)) + (if (off + 1) ∈ S then 1 else 0)
  | [], _, off => by simp
  | c :: t, h, off => by
    obtain ⟨h1, h2⟩ := List.pairwise_cons.1 h
    have ih := count_step h2 off
    rw [List.countP_cons, List.countP_cons, ih]
    by_cases e : c = off + 1
    · have hn : off + 1 ∉ t := fun hm => by have := h1 _ hm; omega
      simp [hn, e]
      omega
    · have e' : ¬ (off + 1 = c) := fun q => e q.symm
      by_cases hle : c ≤ off
      · have : c ≤ off + 1 := by omega
        simp only [List.mem_cons, e', false_or, hle, this, decide_true, if_true]
        omega
      · have : ¬ c ≤ off + 1 := by omega
        simp only [List.mem_cons, e', false_or, hle, this, decide_false]
        omega
theorem lineOf_step (b : List Int) (p : Nat) : lineOf (starts b) (p + 1) = lineOf (starts b) p + (if b[p]? = some 10 then 1 else 0) := by
  unfold lineOf
  rw [count_step (starts_pair b) p]
  congr 1
  by_cases h : b[p]? = some 10
  · rw [if_pos h, if_pos (mem_starts.2 (.inr ⟨p, h, rfl⟩))]
  · rw [if_neg h, if_neg]
    intro hm
    rcases mem_starts.1 hm with e | ⟨k, hk, e⟩
    · omega
    · obtain rfl : k = p := by omega
      exact h hk
theorem lineOf_zero (b : List Int) : lineOf (starts b) 0 = 1 := by
  unfold lineOf starts
  rw [List.countP_cons]
  have : (from_ b 0).countP (fun x => decide (x ≤ 0)) = 0 := by
    rw [List.countP_eq_zero]
    intro y hy
    obtain ⟨k, _, e⟩ := mem_from.1 hy
    simp
    omega
  rw [this]
  rfl
end Ln
end Go.Proofs.Ytihdljadggoimaa
