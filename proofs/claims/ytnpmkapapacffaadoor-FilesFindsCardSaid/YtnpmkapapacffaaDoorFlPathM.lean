/-
  Paths: what stands between slashes, by strings.Split and by places. No program.
-/
import Derived.Test.YtnpmkapapacffaaDoorFlSplit
namespace Go.Proofs.YtnpmkapapacffaaDoor
open Go.Lib Go.Sort Fm

theorem parts_ne (l : List UInt8) : ∃ p q, parts l = p :: q := by
  cases l with
  | nil => exact ⟨_, _, rfl⟩
  | cons c r =>
    unfold parts
    split
    · exact ⟨_, _, rfl⟩
    · split
      · exact ⟨_, _, rfl⟩
      · exact ⟨_, _, rfl⟩
/-- Cutting at the first slash, as often as there are slashes. -/
theorem splitK_parts : ∀ (l : List UInt8) (k : Nat), l.count 47 = k → splitK [47] 0 k l = parts l
  | [], k, h => by
    have : k = 0 := by simpa using h.symm
    subst this
    rfl
  | c :: r, k, h => by
    by_cases hc : c = 47
    · subst hc
      rw [List.count_cons_self] at h
      subst h
      have hi : Lib.index ((47 : UInt8) :: r) [47] = 0 := by rw [index_one]; simp [Lib.indexByte]
      rw [splitK, hi]
      simp only [parts, if_true]
      have : ((0 : Int) == -1) = false := rfl
      rw [this]
      simp [splitK_parts r _ rfl]
    · rw [List.count_cons_of_ne hc] at h
      have ih := splitK_parts r k h
      have hi : Lib.index (c :: r) [47] = if Lib.index r [47] == -1 then -1 else Lib.index r [47] + 1 := by
        rw [index_one, index_one, Lib.indexByte, if_neg (by simpa using hc)]
      rw [parts, if_neg hc, ← ih]
      cases k with
      | zero => rfl
      | succ k =>
        unfold splitK
        rw [hi]
        by_cases hm : Lib.index r [47] = -1
        · simp [hm]
        · have hge := Lib.index_ge r [47]
          obtain ⟨j, hj⟩ : ∃ j : Nat, Lib.index r [47] = j := ⟨(Lib.index r [47]).toNat, by omega⟩
          have e1 : ((j : Int) == -1) = false := beq_eq_false_iff_ne.2 (by omega)
          have e2 : (((j : Int) + 1) == -1) = false := beq_eq_false_iff_ne.2 (by omega)
          rw [hj, e1]
          simp only [Bool.false_eq_true, if_false, e2]
          have e3 : (((j : Int) + 1).toNat) = j + 1 := by omega
          have e4 : ((j : Int)).toNat = j := by omega
          rw [e3, e4]
          simp only [Nat.add_zero, List.length_cons, List.length_nil, Nat.zero_add, List.take_succ_cons]
          rfl
/-- The pieces of a string. -/
def pieces (s : ByteArray) : List ByteArray := Lib.splitB ⟨#[47]⟩ 0 (Lib.countB s ⟨#[47]⟩) s
theorem pieces_parts (s : ByteArray) : (pieces s).map (fun x : ByteArray => x.data.toList) = parts s.data.toList := by
  unfold pieces
  rw [Lib.splitB_data]
  exact splitK_parts _ _ (Lib.count_one 47 _).symm
theorem parts_mem : ∀ (l : List UInt8) (c : UInt8), c ∈ l → c ≠ 47 → ∃ p ∈ parts l, c ∈ p
  | [], c, h, _ => by simp at h
  | a :: r, c, h, hc => by
    unfold parts
    by_cases ha : a = 47
    · rw [if_pos ha]
      rcases List.mem_cons.1 h with h | h
      · exact absurd (h.trans ha) hc
      · obtain ⟨p, hp, hcp⟩ := parts_mem r c h hc
        exact ⟨p, List.mem_cons_of_mem _ hp, hcp⟩
    · rw [if_neg ha]
      obtain ⟨p, q, hpq⟩ := parts_ne r
      rw [hpq]
      rcases List.mem_cons.1 h with h | h
      · exact ⟨a :: p, List.mem_cons_self, by rw [h]; exact List.mem_cons_self⟩
      · obtain ⟨x, hx, hcx⟩ := parts_mem r c h hc
        rw [hpq] at hx
        rcases List.mem_cons.1 hx with hx | hx
        · exact ⟨a :: p, List.mem_cons_self, List.mem_cons_of_mem _ (hx ▸ hcx)⟩
        · exact ⟨x, List.mem_cons_of_mem _ hx, hcx⟩
theorem parts_sub : ∀ (l : List UInt8) (p : List UInt8), p ∈ parts l → ∀ c ∈ p, c ∈ l
  | [], p, h, c, hc => by
    simp [parts] at h
    rw [h] at hc
    exact hc
  | a :: r, p, h, c, hc => by
    unfold parts at h
    by_cases ha : a = 47
    · rw [if_pos ha] at h
      rcases List.mem_cons.1 h with h | h
      · rw [h] at hc; simp at hc
      · exact List.mem_cons_of_mem _ (parts_sub r p h c hc)
    · rw [if_neg ha] at h
      obtain ⟨x, q, hpq⟩ := parts_ne r
      rw [hpq] at h
      rcases List.mem_cons.1 h with h | h
      · rw [h] at hc
        rcases List.mem_cons.1 hc with hc | hc
        · rw [hc]; exact List.mem_cons_self
        · exact List.mem_cons_of_mem _ (parts_sub r x (by rw [hpq]; exact List.mem_cons_self) c hc)
      · exact List.mem_cons_of_mem _ (parts_sub r p (by rw [hpq]; exact List.mem_cons_of_mem _ h) c hc)
theorem all_eq {α : Type} {p q : α → Bool} : ∀ {l : List α}, (∀ x ∈ l, p x = q x) → l.all p = l.all q
  | [], _ => rfl
  | a :: l, h => by rw [List.all_cons, List.all_cons, h a List.mem_cons_self, all_eq fun x hx => h x (List.mem_cons_of_mem _ hx)]
theorem nameOk_dots {l : List UInt8} (h : ∀ c ∈ l, c ≠ 46) : nameOk true l = nameOk false l := by
  have h2 : l.all (signOk true) = l.all (signOk false) := all_eq fun c hc => by
    unfold signOk
    have : (c == (46 : UInt8)) = false := beq_eq_false_iff_ne.2 (h c hc)
    rw [this]
    rfl
  cases l with
  | nil => rfl
  | cons a r =>
    show (decide ((a :: r).length ≤ 64) && Fm.letter a && (a :: r).all (signOk true)) = (decide ((a :: r).length ≤ 64) && Fm.letter a && (a :: r).all (signOk false))
    rw [h2]
/-- A path by its pieces. -/
theorem path_pieces (s : ByteArray) (h : ¬ 128 < s.size) (hd : ∀ c ∈ s.data.toList, c ≠ 46) : pathOk (s.data.toList) = (pieces s).all fun x => nameOk true x.data.toList := by
  have e : s.data.toList.length = s.size := by simp
  unfold pathOk
  rw [decide_eq_true (by omega), Bool.true_and, ← pieces_parts, List.all_map]
  refine all_eq fun x hx => (nameOk_dots fun c hc => hd c ?_).symm
  exact parts_sub _ (x.data.toList) (by rw [← pieces_parts]; exact List.mem_map.2 ⟨x, hx, rfl⟩) c hc
theorem path_dot {s : ByteArray} (h : (46 : UInt8) ∈ s.data.toList) : pathOk (s.data.toList) = false := by
  obtain ⟨p, hp, hc⟩ := parts_mem _ _ h (by decide)
  unfold pathOk
  have : (parts s.data.toList).all (nameOk false) = false := by
    rw [List.all_eq_false]
    refine ⟨p, hp, ?_⟩
    obtain ⟨i, hi, hic⟩ := List.mem_iff_getElem.1 hc
    rw [nameOk_bad (c := 46) (i := i) (by rw [List.getElem?_eq_getElem hi, hic]) (by decide)]
    simp
  rw [this, Bool.and_false]
theorem path_long {l : List UInt8} (h : 128 < l.length) : pathOk l = false := by
  unfold pathOk
  rw [decide_eq_false (by omega), Bool.false_and]
theorem pieces_size (s x : ByteArray) (h : x ∈ pieces s) : x.size ≤ s.size + 0 := by
  have h1 : x.data.toList ∈ parts s.data.toList := by rw [← pieces_parts]; exact List.mem_map.2 ⟨x, h, rfl⟩
  have h2 : ∀ (l p : List UInt8), p ∈ parts l → p.length ≤ l.length := by
    intro l
    induction l with
    | nil => intro p hp; simp [parts] at hp; simp [hp]
    | cons a r ih =>
      intro p hp
      unfold parts at hp
      by_cases ha : a = 47
      · rw [if_pos ha] at hp
        rcases List.mem_cons.1 hp with hp | hp
        · simp [hp]
        · have := ih p hp; simp; omega
      · rw [if_neg ha] at hp
        obtain ⟨x, q, hpq⟩ := parts_ne r
        rw [hpq] at hp
        rcases List.mem_cons.1 hp with hp | hp
        · have := ih x (by rw [hpq]; exact List.mem_cons_self); simp [hp]; omega
        · have := ih p (by rw [hpq]; exact List.mem_cons_of_mem _ hp); simp; omega
  have h3 := h2 _ _ h1
  have e1 : x.data.toList.length = x.size := by simp
  have e2 : s.data.toList.length = s.size := by simp
  omega
/-- Up to the place i, the piece under way starting at j: how the reference looks. -/
def pathFrom (l : List UInt8) (j : Nat) : Bool := (parts (l.drop j)).all (nameOk false)
theorem parts_at {l : List UInt8} {j i : Nat} (hji : j ≤ i) (hi : l[i]? = some 47) (hn : ∀ k, j ≤ k → k < i → l[k]? ≠ some 47) : parts (l.drop j) = (l.drop j).take (i - j) :: parts (l.drop (i + 1)) := by
  have h1 : (l.drop j).drop (i - j) = 47 :: l.drop (i + 1) := by
    obtain ⟨hl, he⟩ := List.getElem?_eq_some_iff.1 hi
    rw [List.drop_drop, show j + (i - j) = i by omega, List.drop_eq_getElem_cons hl, he]
  have h2 : l.drop j = (l.drop j).take (i - j) ++ 47 :: l.drop (i + 1) := by rw [← h1, List.take_append_drop]
  rw [h2, parts_cons]
  · congr 1
    rw [List.take_append_of_le_length (by simp; have := (List.getElem?_eq_some_iff.1 hi).1; omega), List.take_take, Nat.min_self]
  · intro c hc
    obtain ⟨k, hk, rfl⟩ := List.mem_iff_getElem.1 hc
    intro e
    rw [List.length_take, List.length_drop] at hk
    refine hn (j + k) (by omega) (by omega) ?_
    rw [List.getElem_take, List.getElem_drop] at e
    rw [List.getElem?_eq_getElem (by omega), e]
theorem parts_end {l : List UInt8} {j : Nat} (hn : ∀ k, j ≤ k → l[k]? ≠ some 47) : parts (l.drop j) = [l.drop j] := by
  apply parts_last
  intro c hc
  obtain ⟨k, hk, rfl⟩ := List.mem_iff_getElem.1 hc
  intro e
  rw [List.length_drop] at hk
  refine hn (j + k) (by omega) ?_
  rw [List.getElem_drop] at e
  rw [List.getElem?_eq_getElem (by omega), e]
end Go.Proofs.YtnpmkapapacffaaDoor
