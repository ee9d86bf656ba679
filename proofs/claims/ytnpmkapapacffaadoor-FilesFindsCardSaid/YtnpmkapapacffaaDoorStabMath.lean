/-
  Stable sorting by a key, without any program: a sorted list whose elements of each key stand in the old order is the only one; exchanges of neighbours that stand the wrong way round keep that order; insertion sort and the changing of neighbours do it; where all keys part, every permutation is sorted the same.
-/
import Derived.Sort.Walk0
import Derived.Sort.LotA
namespace Go.Proofs.YtnpmkapapacffaaDoor.Stb
open Go.Sort
variable {α : Type}

/-- Elements of each key, in their order. -/
def Same (key : α → List UInt8) (l m : List α) : Prop := ∀ c, (l.filter fun x => key x == c) = m.filter fun x => key x == c
theorem Same.refl {key : α → List UInt8} (l : List α) : Same key l l := fun _ => rfl
theorem Same.symm {key : α → List UInt8} {l m : List α} (h : Same key l m) : Same key m l := fun c => (h c).symm
theorem Same.trans {key : α → List UInt8} {l m n : List α} (h : Same key l m) (h' : Same key m n) : Same key l n := fun c => (h c).trans (h' c)
theorem Same.mem {key : α → List UInt8} {l m : List α} (h : Same key l m) {x : α} (hx : x ∈ l) : x ∈ m := by
  have : x ∈ l.filter fun y => key y == key x := List.mem_filter.2 ⟨hx, by simp⟩
  rw [h] at this
  exact (List.mem_filter.1 this).1
theorem Same.swap {key : α → List UInt8} (p : List α) {x y : α} (r : List α) (h : key x ≠ key y) : Same key (p ++ x :: y :: r) (p ++ y :: x :: r) := fun c => by
  simp only [List.filter_append, List.filter_cons]
  by_cases hx : key x = c
  · have hy : ¬ key y = c := fun e => h (hx.trans e.symm)
    simp [hx, hy]
  · simp [hx]
theorem Same.nil {key : α → List UInt8} {m : List α} (h : Same key [] m) : m = [] := by
  cases m with
  | nil => rfl
  | cons y r => exact absurd (h.symm.mem (List.mem_cons_self)) (by simp)
/-- The order by the key's bytes. -/
def lt (key : α → List UInt8) (x y : α) : Bool := Op.bytesLess (key x) (key y)
theorem lt_iff {key : α → List UInt8} {x y : α} : lt key x y = true ↔ key x < key y := by rw [lt, bytesLess_eq]; simp
theorem lt_no {key : α → List UInt8} {x y : α} : lt key x y = false ↔ ¬ key x < key y := by rw [lt, bytesLess_eq]; simp
theorem swo (key : α → List UInt8) : SWO (lt key) where
  irrefl x := by simp [lt, bytesLess_eq]
  trans x y z := by have := swo_ltStr.trans (key x) (key y) (key z); simpa [lt, bytesLess_eq, ltStr] using this
  ntrans x y z := by have := swo_ltStr.ntrans (key x) (key y) (key z); simpa [lt, bytesLess_eq, ltStr] using this
theorem total {key : α → List UInt8} {x y : α} (h : lt key x y = false) (h' : lt key y x = false) : key x = key y := by
  rw [lt_no] at h h'
  exact List.le_antisymm (List.not_lt.1 h') (List.not_lt.1 h)
def Sorted (key : α → List UInt8) (l : List α) : Prop := l.Pairwise fun x y => lt key y x = false
/-- There is one stable sorting only. -/
theorem unique {key : α → List UInt8} : ∀ {l m : List α}, Sorted key l → Sorted key m → Same key l m → l = m
  | [], m, _, _, h => (h.nil).symm
  | x :: r, m, hl, hm, h => by
    cases m with
    | nil => exact absurd (h.mem List.mem_cons_self) (by simp)
    | cons y s =>
      have h1 : lt key y x = false := by
        rcases List.mem_cons.1 (h.symm.mem (List.mem_cons_self (a := y) (l := s))) with e | e
        · rw [e]; exact (swo key).irrefl _
        · exact (List.pairwise_cons.1 hl).1 _ e
      have h2 : lt key x y = false := by
        rcases List.mem_cons.1 (h.mem (List.mem_cons_self (a := x) (l := r))) with e | e
        · rw [e]; exact (swo key).irrefl _
        · exact (List.pairwise_cons.1 hm).1 _ e
      have hk := total h1 h2
      have hx := h (key x)
      simp only [List.filter_cons, hk, beq_self_eq_true, if_true] at hx
      obtain ⟨rfl, _⟩ := List.cons.inj hx
      have : Same key r s := fun c => by
        have hc := h c
        simp only [List.filter_cons] at hc
        by_cases e : key x = c
        · simpa [e] using hc
        · simpa [e] using hc
      rw [unique (List.pairwise_cons.1 hl).2 (List.pairwise_cons.1 hm).2 this]
/-- Where all keys part, a permutation has each key's elements in the same order. -/
theorem Same.of_perm {key : α → List UInt8} {l m : List α} (hp : l.Perm m) (hd : (l.map key).Nodup) : Same key l m := fun c => by
  have h1 : ((l.filter fun x => key x == c)).Perm (m.filter fun x => key x == c) := hp.filter _
  have h2 : (l.filter fun x => key x == c).length ≤ 1 := by
    clear h1 hp
    induction l with
    | nil => simp
    | cons x r ih =>
      rw [List.map_cons, List.nodup_cons] at hd
      rw [List.filter_cons]
      by_cases e : key x = c
      · have : (r.filter fun x => key x == c) = [] := by
          rw [List.filter_eq_nil_iff]
          intro y hy hc
          exact hd.1 (List.mem_map.2 ⟨y, hy, by rw [e]; simpa using hc⟩)
        simp [e, this]
      · simpa [e] using ih hd.2
  revert h1 h2
  cases (l.filter fun x => key x == c) with
  | nil => exact fun h1 _ => (List.nil_perm.1 h1).symm
  | cons x r =>
    intro h1 h2
    obtain rfl : r = [] := by cases r with | nil => rfl | cons _ _ => simp at h2
    exact (List.singleton_perm.1 h1).symm ▸ rfl

variable [Inhabited α]
/-- Exchanges of neighbours that stand the wrong way round, one after another. -/
inductive Nb (key : α → List UInt8) (d : Array α) : Array α → Prop
  | refl : Nb key d d
  | step {d' : Array α} {j : Nat} : Nb key d d' → j + 1 < d'.size → lt key d'[j + 1]! d'[j]! = true → Nb key d (swp d' (j + 1) j)
theorem Nb.trans {key : α → List UInt8} {d e f : Array α} (h : Nb key d e) (h' : Nb key e f) : Nb key d f := by
  induction h' with
  | refl => exact h
  | step _ hj hl ih => exact ih.step hj hl
theorem Nb.size {key : α → List UInt8} {d e : Array α} (h : Nb key d e) : e.size = d.size := by
  induction h with
  | refl => rfl
  | step _ _ _ ih => rw [size_swp, ih]
theorem swp_comm (d : Array α) {i j : Nat} (hi : i < d.size) (hj : j < d.size) : swp d i j = swp d j i := by
  apply Array.ext
  · rw [size_swp, size_swp]
  · intro k h1 h2
    have e1 := swp_get d hi hj k
    have e2 := swp_get d hj hi k
    rw [getElem!_pos (swp d i j) k h1] at e1
    rw [getElem!_pos (swp d j i) k h2] at e2
    rw [e1, e2]
    by_cases a : k = j
    · by_cases b : k = i
      · rw [if_pos a, if_pos b, ← a, ← b]
      · rw [if_pos a, if_neg b, if_pos a]
    · rw [if_neg a, if_neg a]
theorem swp_list (d : Array α) {j : Nat} (h : j + 1 < d.size) : ∃ p r, d.toList = p ++ d[j]! :: d[j + 1]! :: r ∧ (swp d (j + 1) j).toList = p ++ d[j + 1]! :: d[j]! :: r := by
  refine ⟨d.toList.take j, d.toList.drop (j + 2), ?_, ?_⟩
  · rw [getElem!_pos d j (by omega), getElem!_pos d (j + 1) h]
    have e1 : d.toList.drop j = d[j] :: d.toList.drop (j + 1) := by rw [List.drop_eq_getElem_cons (by simpa using by omega)]; simp
    have e2 : d.toList.drop (j + 1) = d[j + 1] :: d.toList.drop (j + 2) := by rw [List.drop_eq_getElem_cons (by simpa using h)]; simp
    rw [← e2, ← e1, List.take_append_drop]
  · apply List.ext_getElem?
    intro k
    have hsz : (swp d (j + 1) j).size = d.size := size_swp _ _ _
    have hlen : (d.toList.take j).length = j := by simp; omega
    by_cases hk : k < d.size
    · have hg := swp_get d (i := j + 1) (j := j) h (by omega) k
      rw [getElem!_pos (swp d (j + 1) j) k (by omega)] at hg
      have : (swp d (j + 1) j).toList[k]? = some (if k = j then d[j + 1]! else if k = j + 1 then d[j]! else d[k]!) := by
        rw [← hg]; simp [hsz, hk]
      rw [this]
      rcases Nat.lt_trichotomy k j with h1 | h1 | h1
      · rw [List.getElem?_append_left (by omega), List.getElem?_take_of_lt h1]
        rw [if_neg (by omega), if_neg (by omega), getElem!_pos d k hk]
        simp [hk]
      · subst h1
        rw [List.getElem?_append_right (by omega), hlen, Nat.sub_self, if_pos rfl]; rfl
      · rw [List.getElem?_append_right (by omega), hlen, if_neg (by omega)]
        obtain ⟨q, rfl⟩ : ∃ q, k = j + 1 + q := ⟨k - (j + 1), by omega⟩
        rw [show j + 1 + q - j = q + 1 by omega, List.getElem?_cons_succ]
        cases q with
        | zero => simp
        | succ q =>
          rw [if_neg (by omega), List.getElem?_cons_succ, List.getElem?_drop, getElem!_pos d _ hk, show j + 2 + q = j + 1 + (q + 1) by omega]
          simp [hk]
    · rw [List.getElem?_eq_none (by simpa [hsz] using by omega), List.getElem?_eq_none]
      simp only [List.length_append, List.length_cons, List.length_drop, hlen, Array.length_toList]
      omega
theorem Nb.same {key : α → List UInt8} {d e : Array α} (h : Nb key d e) : Same key d.toList e.toList := by
  induction h with
  | refl => exact .refl _
  | @step d' j _ hj hl ih =>
    obtain ⟨p, r, e1, e2⟩ := swp_list d' hj
    rw [e2]
    refine ih.trans ?_
    rw [e1]
    exact .swap p r fun e => by
      have := lt_iff.1 hl
      rw [e] at this
      exact List.lt_irrefl _ this
theorem sorted_toList {key : α → List UInt8} {d : Array α} (h : SortedIn (lt key) 0 d.size d) : Sorted key d.toList := by
  rw [Sorted, List.pairwise_iff_getElem]
  intro i j hi hj hij
  have := h i j (Nat.zero_le _) hij (by simpa using hj)
  rw [getElem!_pos d i (by simpa using hi), getElem!_pos d j (by simpa using hj)] at this
  simpa using this
/-- Two stable sortings of one row are the same. -/
theorem Nb.unique {key : α → List UInt8} {d e f : Array α} (he : Nb key d e) (hf : Nb key d f) (se : SortedIn (lt key) 0 d.size e) (sf : SortedIn (lt key) 0 d.size f) : e = f := by
  rw [← he.size] at se
  rw [← hf.size] at sf
  exact Array.ext' (Stb.unique (sorted_toList se) (sorted_toList sf) (he.same.symm.trans hf.same))
theorem nb_inner (key : α → List UInt8) (a : Nat) : ∀ (j : Nat) (d : Array α), j < d.size → Nb key d (insInner (lt key) a j d)
  | 0, d, _ => by unfold insInner; exact .refl
  | j + 1, d, h => by
    unfold insInner
    by_cases hc : (j + 1 > a && lt key d[j + 1]! d[j]!) = true
    · rw [if_pos hc]
      simp only [Bool.and_eq_true] at hc
      exact (Nb.refl.step h hc.2).trans (nb_inner key a j _ (by rw [size_swp]; omega))
    · rw [if_neg hc]; exact .refl
theorem nb_outer (key : α → List UInt8) (a b : Nat) : ∀ (n i : Nat) (d : Array α), b - i = n → b ≤ d.size → Nb key d (insOuter (lt key) a b i d)
  | 0, i, d, hn, hb => by rw [insOuter, if_neg (by omega)]; exact .refl
  | n + 1, i, d, hn, hb => by
    rw [insOuter, if_pos (by omega)]
    have h1 := nb_inner key a i d (by omega)
    exact h1.trans (nb_outer key a b n (i + 1) _ (by omega) (by rw [h1.size]; exact hb))
/-- Insertion sort is stable. -/
theorem nb_insertion (key : α → List UInt8) (d : Array α) (a b : Nat) (hb : b ≤ d.size) : Nb key d (insertionSort (lt key) d a b) := nb_outer key a b _ _ _ rfl hb
/-- The stable sorting of a row. -/
def ord (key : α → List UInt8) (d : Array α) : Array α := insertionSort (lt key) d 0 d.size
theorem ord_sorted (key : α → List UInt8) (d : Array α) : SortedIn (lt key) 0 d.size (ord key d) := (insertionSort_holds (lt := lt key) (swo key) d 0 d.size (Nat.zero_le _) (Nat.le_refl _)).2
theorem ord_nb (key : α → List UInt8) (d : Array α) : Nb key d (ord key d) := nb_insertion key d 0 d.size (Nat.le_refl _)
theorem ord_size (key : α → List UInt8) (d : Array α) : (ord key d).size = d.size := (ord_nb key d).size
theorem Nb.ord {key : α → List UInt8} {d e : Array α} (h : Nb key d e) (s : SortedIn (lt key) 0 d.size e) : e = Stb.ord key d := h.unique (ord_nb key d) s (ord_sorted key d)
/-- Where all keys part, every permutation is sorted the same. -/
theorem ord_perm {key : α → List UInt8} {d e : Array α} (hp : d.toList.Perm e.toList) (hd : (d.toList.map key).Nodup) : ord key e = ord key d := by
  refine Array.ext' (Stb.unique (key := key) (sorted_toList ?_) (sorted_toList ?_) ?_)
  · rw [ord_size]; exact ord_sorted key e
  · rw [ord_size]; exact ord_sorted key d
  · exact (ord_nb key e).same.symm.trans ((Same.of_perm hp hd).symm.trans (ord_nb key d).same)

/-! ### By changing neighbours -/
/-- Behind n rounds: each of the last n places holds none that is less than one ahead of it. -/
def Out (key : α → List UInt8) (n : Nat) (d : Array α) : Prop := ∀ i j, i < j → j < d.size → d.size ≤ j + n → lt key d[j]! d[i]! = false
/-- In a round, up to the place i: what stands ahead of i is the greatest so far, or the round's place is passed. -/
def In (key : α → List UInt8) (n i : Nat) (d : Array α) : Prop := Out key n d ∧ (i + n ≤ d.size → ∀ a, a + 1 < i → lt key d[i - 1]! d[a]! = false) ∧ (d.size < i + n → Out key (n + 1) d)
theorem Out.start (key : α → List UInt8) (d : Array α) : Out key 0 d := fun i j h1 h2 h3 => by omega
theorem Out.enter {key : α → List UInt8} {n : Nat} {d : Array α} (h : Out key n d) (hn : n < d.size) : In key n 1 d := by
  refine ⟨h, fun _ a ha => by omega, fun hh i j h1 h2 h3 => h i j h1 h2 (by omega)⟩
theorem In.exit {key : α → List UInt8} {n i : Nat} {d : Array α} (h : In key n i d) (hi : d.size ≤ i) : Out key (n + 1) d := by
  by_cases hn : d.size < i + n
  · exact h.2.2 hn
  · intro p q h1 h2 h3
    by_cases e : q + 1 = i
    · have := h.2.1 (by omega) p (by omega)
      rwa [show i - 1 = q by omega] at this
    · omega
theorem Out.sorted {key : α → List UInt8} {n : Nat} {d : Array α} (h : Out key n d) (hn : d.size ≤ n + 1) : SortedIn (lt key) 0 d.size d := fun i j _ h1 h2 => h i j h1 h2 (by omega)
theorem In.keep {key : α → List UInt8} {n i : Nat} {d : Array α} (h : In key n i d) (h0 : 0 < i) (hi : i < d.size) (hl : lt key d[i]! d[i - 1]! = false) : In key n (i + 1) d := by
  refine ⟨h.1, fun hh a ha => ?_, fun hh => ?_⟩
  · rw [Nat.add_sub_cancel]
    by_cases e : a + 1 = i
    · rwa [show a = i - 1 by omega]
    · exact (swo key).ntrans _ _ _ hl (h.2.1 (by omega) a (by omega))
  · by_cases hh' : d.size < i + n
    · exact h.2.2 hh'
    · intro p q h1 h2 h3
      by_cases e : q + n = d.size - 1
      · have hq : q = i - 1 := by omega
        have := h.2.1 (by omega) p (by omega)
        rwa [← hq] at this
      · exact h.1 p q h1 h2 (by omega)
theorem In.change {key : α → List UInt8} {n i : Nat} {d : Array α} (h : In key n i d) (h0 : 0 < i) (hi : i < d.size) (hl : lt key d[i]! d[i - 1]! = true) : In key n (i + 1) (swp d i (i - 1)) := by
  have hlt : i + n < d.size := by
    apply Classical.byContradiction
    intro hn
    have := h.1 (i - 1) i (by omega) hi (by omega)
    rw [this] at hl; cases hl
  have g := fun k => swp_get d (i := i) (j := i - 1) hi (by omega) k
  refine ⟨fun p q h1 h2 h3 => ?_, fun hh a ha => ?_, fun hh => by rw [size_swp] at hh; omega⟩
  · rw [size_swp] at h2 h3
    rw [g q, g p, if_neg (show ¬ q = i - 1 by omega), if_neg (show ¬ q = i by omega)]
    by_cases e1 : p = i - 1
    · rw [if_pos e1]; exact h.1 i q (by omega) h2 h3
    · rw [if_neg e1]
      by_cases e2 : p = i
      · rw [if_pos e2]; exact h.1 (i - 1) q (by omega) h2 h3
      · rw [if_neg e2]; exact h.1 p q h1 h2 h3
  · rw [Nat.add_sub_cancel, g i, g a, if_neg (show ¬ i = i - 1 by omega), if_pos rfl]
    by_cases e : a = i - 1
    · rw [if_pos e]; exact (swo key).asymmA hl
    · rw [if_neg e, if_neg (by omega)]
      exact h.2.1 (by omega) a (by omega)
/-- The exchange of a round, as one step of the stable order. -/
theorem Nb.change {key : α → List UInt8} {d0 d : Array α} {i : Nat} (h : Nb key d0 d) (h0 : 0 < i) (hi : i < d.size) (hl : lt key d[i]! d[i - 1]! = true) : Nb key d0 (swp d i (i - 1)) := by
  obtain ⟨j, rfl⟩ : ∃ j, i = j + 1 := ⟨i - 1, by omega⟩
  exact h.step hi hl
end Go.Proofs.YtnpmkapapacffaaDoor.Stb
