/-
  The mathematics of the stable sort's merge (slices.symMergeCmpFunc and its fellows) over arrays: rotations by exchanges, and that the merge of two sorted parts is sorted. Nothing of the program is named here.
-/
import Derived.Sort.LotA
namespace Go.Proofs.Ytnbnohphdehfoaa
open Go.Sort
namespace Srt
variable {α : Type} [Inhabited α]

/-- Where the element that comes to place x lay: the parts [p, p+i) and [p+i, p+i+j) change places. -/
def rotI (p i j x : Nat) : Nat := if x < p then x else if x < p + j then x + i else if x < p + j + i then x - j else x
/-- d' is d with the parts [p, p+i) and [p+i, p+i+j) put in each other's place. -/
def IsRot (d d' : Array α) (p i j : Nat) : Prop := d'.size = d.size ∧ PermIn p (p + i + j) d d' ∧ ∀ x, d'[x]! = d[rotI p i j x]!
theorem rotI_none (p i x : Nat) : rotI p i 0 x = x := by
  unfold rotI
  repeat' split
  all_goals omega
theorem rotI_none' (p j x : Nat) : rotI p 0 j x = x := by
  unfold rotI
  repeat' split
  all_goals omega
theorem isRot_none (d : Array α) (p i : Nat) : IsRot d d p i 0 := ⟨rfl, permIn_refl _ _ _, fun x => by rw [rotI_none]⟩
theorem isRot_none' (d : Array α) (p j : Nat) : IsRot d d p 0 j := ⟨rfl, permIn_refl _ _ _, fun x => by rw [rotI_none']⟩

/-- 'n' exchanges of data[a+i] and data[b+i]. -/
def swapR (d : Array α) (a b : Nat) : Nat → Array α
  | 0 => d
  | n + 1 => swp (swapR d a b n) (a + n) (b + n)
theorem swapR_size (d : Array α) (a b : Nat) : ∀ n, (swapR d a b n).size = d.size
  | 0 => rfl
  | n + 1 => by rw [swapR, size_swp, swapR_size d a b n]
theorem swapR_perm (d : Array α) (a b lo hi : Nat) (h1 : lo ≤ a) (h2 : lo ≤ b) (hh : hi ≤ d.size) : ∀ n, a + n ≤ hi → b + n ≤ hi → PermIn lo hi d (swapR d a b n)
  | 0, _, _ => permIn_refl _ _ _
  | n + 1, h3, h4 => by
    refine permIn_trans _ _ _ _ _ (swapR_perm d a b lo hi h1 h2 hh n (by omega) (by omega)) ?_
    exact swp_permIn _ _ _ _ _ (by omega) (by omega) (by omega) (by omega) (by rw [swapR_size]; exact hh)
theorem swapR_get (d : Array α) (a b : Nat) : ∀ n, a + n ≤ b → b + n ≤ d.size → ∀ x, (swapR d a b n)[x]! = d[if a ≤ x ∧ x < a + n then b + (x - a) else if b ≤ x ∧ x < b + n then a + (x - b) else x]!
  | 0, _, _, x => by
    rw [swapR]
    rw [if_neg (by omega), if_neg (by omega)]
  | n + 1, h1, h2, x => by
    have ih := swapR_get d a b n (by omega) (by omega)
    rw [swapR, swp_get _ (by rw [swapR_size]; omega) (by rw [swapR_size]; omega), ih, ih, ih]
    repeat' split
    all_goals first | (exfalso; omega) | (congr 1 <;> omega)
/-- Two parts of one length change places by exchanges. -/
theorem swapR_rot (d : Array α) (p i : Nat) (h : p + i + i ≤ d.size) : IsRot d (swapR d p (p + i) i) p i i := by
  refine ⟨swapR_size _ _ _ _, swapR_perm _ _ _ _ _ (by omega) (by omega) h _ (by omega) (by omega), fun x => ?_⟩
  rw [swapR_get _ _ _ _ (by omega) (by omega)]
  unfold rotI
  congr 1
  repeat' split
  all_goals omega
/-- The rotation's first kind of step: the left part is the longer one. -/
theorem rot_left {d d1 d' : Array α} {p i j : Nat} (hij : j < i) (h : p + i + j ≤ d.size) (h1 : d1 = swapR d p (p + i) j) (h2 : IsRot d1 d' (p + j) (i - j) j) : IsRot d d' p i j := by
  subst h1
  refine ⟨h2.1.trans (swapR_size _ _ _ _), permIn_trans _ _ _ _ _ (swapR_perm _ _ _ _ _ (by omega) (by omega) h _ (by omega) (by omega)) (permIn_mono _ _ _ _ _ _ (by omega) (by omega) (by rw [swapR_size]; omega) h2.2.1), fun x => ?_⟩
  rw [h2.2.2, swapR_get _ _ _ _ (by omega) (by omega)]
  unfold rotI
  congr 1
  repeat' split
  all_goals omega
/-- .. its second kind: the right part is the longer one. -/
theorem rot_right {d d1 d' : Array α} {p i j : Nat} (hij : i < j) (h : p + i + j ≤ d.size) (h1 : d1 = swapR d p (p + j) i) (h2 : IsRot d1 d' p i (j - i)) : IsRot d d' p i j := by
  subst h1
  refine ⟨h2.1.trans (swapR_size _ _ _ _), permIn_trans _ _ _ _ _ (swapR_perm _ _ _ _ _ (by omega) (by omega) h _ (by omega) (by omega)) (permIn_mono _ _ _ _ _ _ (by omega) (by omega) (by rw [swapR_size]; omega) h2.2.1), fun x => ?_⟩
  rw [h2.2.2, swapR_get _ _ _ _ (by omega) (by omega)]
  unfold rotI
  congr 1
  repeat' split
  all_goals omega
/-- One more exchange of neighbours: the first element goes one place on. -/
theorem rot_up {d d1 : Array α} {a n : Nat} (h : IsRot d d1 a 1 n) (hs : a + n + 1 < d.size) : IsRot d (swp d1 (a + n) (a + n + 1)) a 1 (n + 1) := by
  have e := h.1
  refine ⟨by rw [size_swp, e], permIn_trans _ _ _ _ _ (permIn_mono _ _ _ _ _ _ (Nat.le_refl _) (by omega) (by omega) h.2.1) (swp_permIn _ _ _ _ _ (by omega) (by omega) (by omega) (by omega) (by omega)), fun x => ?_⟩
  rw [swp_get _ (by omega) (by omega), h.2.2, h.2.2, h.2.2]
  unfold rotI
  repeat' split
  all_goals first | (exfalso; omega) | (congr 1 <;> omega)
/-- .. the last element goes one place down. -/
theorem rot_down {d d1 : Array α} {q n : Nat} (h : IsRot d d1 (q + 1) n 1) (hs : q + 1 + n < d.size) : IsRot d (swp d1 (q + 1) q) q (n + 1) 1 := by
  have e := h.1
  refine ⟨by rw [size_swp, e], permIn_trans _ _ _ _ _ (permIn_mono _ _ _ _ _ _ (by omega) (by omega) (by omega) h.2.1) (swp_permIn _ _ _ _ _ (by omega) (by omega) (by omega) (by omega) (by omega)), fun x => ?_⟩
  rw [swp_get _ (by omega) (by omega), h.2.2, h.2.2, h.2.2]
  unfold rotI
  repeat' split
  all_goals first | (exfalso; omega) | (congr 1 <;> omega)

variable {lt : α → α → Bool}
omit [Inhabited α] in
theorem le_trans' (hS : SWO lt) {x y z : α} (h1 : lt y x = false) (h2 : lt z y = false) : lt z x = false := hS.ntrans _ _ _ h2 h1
theorem SortedIn.le (hS : SWO lt) {a b : Nat} {d : Array α} (h : SortedIn lt a b d) {i j : Nat} (h1 : a ≤ i) (h2 : i ≤ j) (h3 : j < b) : lt d[j]! d[i]! = false := by
  rcases Nat.lt_or_ge i j with h4 | h4
  · exact h i j h1 h4 h3
  · obtain rfl : i = j := by omega
    exact hS.irrefl _
/-- Two sorted parts side by side, none of the right less than one of the left. -/
theorem sorted_join {a m b : Nat} {d : Array α} (h1 : SortedIn lt a m d) (h2 : SortedIn lt m b d) (h3 : ∀ x, a ≤ x → x < m → ∀ y, m ≤ y → y < b → lt d[y]! d[x]! = false) : SortedIn lt a b d := fun i j hi hij hj => by
  rcases Nat.lt_or_ge j m with h4 | h4
  · exact h1 i j hi hij h4
  · rcases Nat.lt_or_ge i m with h5 | h5
    · exact h3 i hi h5 j h4 hj
    · exact h2 i j h5 hij hj
theorem sorted_congr {a b : Nat} {d d' : Array α} (h : SortedIn lt a b d) (he : ∀ x, a ≤ x → x < b → d'[x]! = d[x]!) : SortedIn lt a b d' := fun i j hi hij hj => by
  rw [he i hi (by omega), he j (by omega) hj]
  exact h i j hi hij hj
/-- What a cut at s and e of two sorted parts gives behind the rotation: four sorted parts, and none of the last two is less than one of the first two. -/
theorem cut (hS : SWO lt) {a s m e b : Nat} {d d' : Array α} (h1 : SortedIn lt a m d) (h2 : SortedIn lt m b d) (has : a ≤ s) (hsm : s ≤ m) (hme : m ≤ e) (heb : e ≤ b)
    (c1 : s = m ∨ e = m ∨ lt d[e - 1]! d[s]! = true) (c2 : s = a ∨ e = b ∨ lt d[e]! d[s - 1]! = false) (hr : IsRot d d' s (m - s) (e - m)) :
    SortedIn lt a s d' ∧ SortedIn lt s (s + (e - m)) d' ∧ SortedIn lt (s + (e - m)) e d' ∧ SortedIn lt e b d' ∧ ∀ x, a ≤ x → x < s + (e - m) → ∀ y, s + (e - m) ≤ y → y < b → lt d'[y]! d'[x]! = false := by
  have low : ∀ x, x < s → d'[x]! = d[x]! := fun x hx => by rw [hr.2.2]; unfold rotI; rw [if_pos hx]
  have mid1 : ∀ x, s ≤ x → x < s + (e - m) → d'[x]! = d[x + (m - s)]! := fun x hx hy => by rw [hr.2.2]; unfold rotI; rw [if_neg (by omega), if_pos (by omega)]
  have mid2 : ∀ x, s + (e - m) ≤ x → x < e → d'[x]! = d[x - (e - m)]! := fun x hx hy => by rw [hr.2.2]; unfold rotI; rw [if_neg (by omega), if_neg (by omega), if_pos (by omega)]
  have high : ∀ x, e ≤ x → d'[x]! = d[x]! := fun x hx => by rw [hr.2.2]; unfold rotI; rw [if_neg (by omega), if_neg (by omega), if_neg (by omega)]
  have d1 : ∀ x, m ≤ x → x < e → ∀ y, s ≤ y → y < m → lt d[y]! d[x]! = false := fun x hx hxe y hy hym => by
    rcases c1 with h | h | h
    · omega
    · omega
    · have t1 := SortedIn.le hS h2 (show m ≤ x from hx) (show x ≤ e - 1 by omega) (by omega)
      have t2 := SortedIn.le hS h1 (show a ≤ s from has) hy hym
      exact le_trans' hS t1 (le_trans' hS (hS.asymmA h) t2)
  have d2 : ∀ x, a ≤ x → x < s → ∀ y, e ≤ y → y < b → lt d[y]! d[x]! = false := fun x hx hxs y hy hyb => by
    rcases c2 with h | h | h
    · omega
    · omega
    · have t1 := SortedIn.le hS h1 hx (show x ≤ s - 1 by omega) (by omega)
      have t2 := SortedIn.le hS h2 hme hy hyb
      exact le_trans' hS t1 (le_trans' hS h t2)
  refine ⟨?_, ?_, ?_, ?_, ?_⟩
  · intro i j hi hij hj
    rw [low i (by omega), low j hj]
    exact h1 i j hi hij (by omega)
  · intro i j hi hij hj
    rw [mid1 i hi (by omega), mid1 j (by omega) hj]
    exact h2 _ _ (by omega) (by omega) (by omega)
  · intro i j hi hij hj
    rw [mid2 i hi (by omega), mid2 j (by omega) hj]
    exact h1 _ _ (by omega) (by omega) (by omega)
  · intro i j hi hij hj
    rw [high i hi, high j (by omega)]
    exact h2 _ _ (by omega) hij hj
  · intro x hx hxs y hy hyb
    rcases Nat.lt_or_ge x s with q1 | q1 <;> rcases Nat.lt_or_ge y e with q2 | q2
    · rw [low x q1, mid2 y hy q2]
      exact SortedIn.le hS h1 hx (by omega) (by omega)
    · rw [low x q1, high y q2]
      exact d2 x hx q1 y q2 hyb
    · rw [mid1 x q1 hxs, mid2 y hy q2]
      exact d1 _ (by omega) (by omega) _ (by omega) (by omega)
    · rw [mid1 x q1 hxs, high y q2]
      exact SortedIn.le hS h2 (by omega) (by omega) hyb
/-- One element of the left part: it goes to its place. -/
theorem one_left (hS : SWO lt) {a i b : Nat} {d d' : Array α} (h2 : SortedIn lt (a + 1) b d) (h3 : a + 1 ≤ i) (h4 : i ≤ b)
    (c1 : i = a + 1 ∨ lt d[i - 1]! d[a]! = true) (c2 : i = b ∨ lt d[i]! d[a]! = false) (hr : IsRot d d' a 1 (i - (a + 1))) : SortedIn lt a b d' := by
  have h1 : SortedIn lt a (a + 1) d := fun i j _ _ _ => by omega
  obtain ⟨_, r2, r3, r4, r5⟩ := cut hS h1 h2 (Nat.le_refl a) (by omega) h3 h4 (c1.elim (fun h => .inr (.inl h)) fun h => .inr (.inr h)) (.inl rfl) (by rwa [show a + 1 - a = 1 by omega])
  refine sorted_join r2 (sorted_join r3 r4 fun x hx hxi y hy hyb => ?_) r5
  have ex : d'[x]! = d[a]! := by
    obtain rfl : x = a + (i - (a + 1)) := by omega
    rw [hr.2.2]
    unfold rotI
    rw [if_neg (by omega), if_neg (by omega), if_pos (by omega)]
    congr 1
    omega
  have ey : d'[y]! = d[y]! := by
    rw [hr.2.2]
    unfold rotI
    rw [if_neg (by omega), if_neg (by omega), if_neg (by omega)]
  rw [ex, ey]
  rcases c2 with h | h
  · omega
  · exact le_trans' hS h (SortedIn.le hS h2 (by omega) hy hyb)
/-- One element of the right part. -/
theorem one_right (hS : SWO lt) {a i m : Nat} {d d' : Array α} (h1 : SortedIn lt a m d) (h3 : a ≤ i) (h4 : i ≤ m)
    (c1 : i = m ∨ lt d[m]! d[i]! = true) (c2 : i = a ∨ lt d[m]! d[i - 1]! = false) (hr : IsRot d d' i (m - i) 1) : SortedIn lt a (m + 1) d' := by
  have h2 : SortedIn lt m (m + 1) d := fun i j _ _ _ => by omega
  obtain ⟨r1, r2, r3, _, r5⟩ := cut hS h1 h2 h3 h4 (Nat.le_succ m) (Nat.le_refl _) (c1.elim .inl fun h => .inr (.inr h)) (.inr (.inl rfl)) (by rwa [show m + 1 - m = 1 by omega])
  rw [show m + 1 - m = 1 by omega] at r2 r3 r5
  refine sorted_join (sorted_join r1 r2 fun x hx hxi y hy hyb => ?_) r3 r5
  obtain rfl : y = i := by omega
  have ex : d'[x]! = d[x]! := by
    rw [hr.2.2]
    unfold rotI
    rw [if_pos hxi]
  have ey : d'[y]! = d[m]! := by
    rw [hr.2.2]
    unfold rotI
    rw [if_neg (by omega), if_pos (by omega)]
    congr 1
    omega
  rw [ex, ey]
  rcases c2 with h | h
  · omega
  · exact le_trans' hS (SortedIn.le hS h1 hx (show x ≤ y - 1 by omega) (by omega)) h
/-- Both halves sorted in their own places: the whole is. -/
theorem halves {a mid b : Nat} {d' d2 d3 : Array α} (hab : a ≤ mid) (hmb : mid ≤ b) (hb : b ≤ d'.size) (hc : ∀ x, a ≤ x → x < mid → ∀ y, mid ≤ y → y < b → lt d'[y]! d'[x]! = false)
    (p2 : PermIn a mid d' d2) (s2 : SortedIn lt a mid d2) (p3 : PermIn mid b d2 d3) (s3 : SortedIn lt mid b d3) : PermIn a b d' d3 ∧ SortedIn lt a b d3 := by
  have e2 := p2.1
  refine ⟨permIn_trans _ _ _ _ _ (permIn_mono _ _ _ _ _ _ (Nat.le_refl _) hmb hb p2) (permIn_mono _ _ _ _ _ _ hab (Nat.le_refl _) (by omega) p3), ?_⟩
  refine sorted_join (sorted_congr s2 fun x hx hxm => p3.2.1 x (.inl hxm)) s3 ?_
  have q1 : ∀ x, a ≤ x → x < mid → ∀ y, mid ≤ y → y < b → lt d'[y]! d2[x]! = false :=
    permIn_all d' d2 a mid (fun v => ∀ y, mid ≤ y → y < b → lt d'[y]! v = false) (by omega) p2 hc
  intro x hx hxm
  rw [p3.2.1 x (.inl hxm)]
  refine permIn_all d2 d3 mid b (fun v => lt v d2[x]! = false) (by omega) p3 fun y hy hyb => ?_
  rw [p2.2.1 y (.inr hy)]
  exact q1 x hx hxm y hy hyb
end Srt
end Go.Proofs.Ytnbnohphdehfoaa
