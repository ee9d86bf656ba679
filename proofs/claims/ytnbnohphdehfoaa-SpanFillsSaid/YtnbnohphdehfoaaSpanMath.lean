/-
  Spans as plain mathematics over lists of pairs: which places a list has, its one normal form, the walk over places that makes it, and the walk over sorted spans that makes it. Nothing of the program is named here.
-/
namespace Go.Proofs.Ytnbnohphdehfoaa
namespace Sp

/-- Has some span of l the place x? -/
def Has (l : List (Int × Int)) (x : Int) : Prop := ∃ s ∈ l, s.1 ≤ x ∧ x < s.2
/-- None is empty, they rise, and no two touch. -/
def Norm (l : List (Int × Int)) : Prop := (∀ s ∈ l, s.1 < s.2) ∧ l.Pairwise (fun a b => a.2 < b.1)
theorem has_nil (x : Int) : ¬ Has [] x := by rintro ⟨s, h, _⟩; simp at h
theorem has_cons (s : Int × Int) (l : List (Int × Int)) (x : Int) : Has (s :: l) x ↔ (s.1 ≤ x ∧ x < s.2) ∨ Has l x := by
  constructor
  · rintro ⟨t, ht, h⟩
    rcases List.mem_cons.1 ht with rfl | ht
    · exact .inl h
    · exact .inr ⟨t, ht, h⟩
  · rintro (h | ⟨t, ht, h⟩)
    · exact ⟨s, List.mem_cons_self, h⟩
    · exact ⟨t, List.mem_cons_of_mem _ ht, h⟩
theorem has_append (l m : List (Int × Int)) (x : Int) : Has (l ++ m) x ↔ Has l x ∨ Has m x := by
  constructor
  · rintro ⟨t, ht, h⟩
    rcases List.mem_append.1 ht with ht | ht
    · exact .inl ⟨t, ht, h⟩
    · exact .inr ⟨t, ht, h⟩
  · rintro (⟨t, ht, h⟩ | ⟨t, ht, h⟩)
    · exact ⟨t, List.mem_append_left _ ht, h⟩
    · exact ⟨t, List.mem_append_right _ ht, h⟩
theorem has_one (s : Int × Int) (x : Int) : Has [s] x ↔ s.1 ≤ x ∧ x < s.2 := by
  rw [has_cons]
  simp [has_nil]
theorem norm_nil : Norm [] := ⟨by simp, List.Pairwise.nil⟩
theorem Norm.tail {s : Int × Int} {l : List (Int × Int)} (h : Norm (s :: l)) : Norm l := ⟨fun t ht => h.1 t (List.mem_cons_of_mem _ ht), (List.pairwise_cons.1 h.2).2⟩
theorem Norm.behind {s : Int × Int} {l : List (Int × Int)} (h : Norm (s :: l)) {x : Int} (hx : Has l x) : s.2 < x := by
  obtain ⟨t, ht, h1, _⟩ := hx
  have := (List.pairwise_cons.1 h.2).1 t ht
  omega
theorem Norm.ge {s : Int × Int} {l : List (Int × Int)} (h : Norm (s :: l)) {x : Int} (hx : Has (s :: l) x) : s.1 ≤ x := by
  rcases (has_cons _ _ _).1 hx with h1 | h1
  · exact h1.1
  · have := h.behind h1
    have := h.1 s List.mem_cons_self
    omega
/-- THE NORMAL FORM IS ONE. -/
theorem norm_unique : ∀ {a b : List (Int × Int)}, Norm a → Norm b → (∀ x, Has a x ↔ Has b x) → a = b
  | [], [], _, _, _ => rfl
  | [], t :: b, _, hb, h => by
    have h1 := hb.1 t List.mem_cons_self
    exact absurd ((h t.1).2 ((has_cons _ _ _).2 (.inl ⟨Int.le_refl _, h1⟩))) (has_nil _)
  | s :: a, [], ha, _, h => by
    have h1 := ha.1 s List.mem_cons_self
    exact absurd ((h s.1).1 ((has_cons _ _ _).2 (.inl ⟨Int.le_refl _, h1⟩))) (has_nil _)
  | s :: a, t :: b, ha, hb, h => by
    have hs := ha.1 s List.mem_cons_self
    have ht := hb.1 t List.mem_cons_self
    have e1 : s.1 = t.1 := by
      have h1 := hb.ge ((h s.1).1 ((has_cons _ _ _).2 (.inl ⟨Int.le_refl _, hs⟩)))
      have h2 := ha.ge ((h t.1).2 ((has_cons _ _ _).2 (.inl ⟨Int.le_refl _, ht⟩)))
      omega
    have ns : ¬ Has (s :: a) s.2 := by
      intro hx
      rcases (has_cons _ _ _).1 hx with h1 | h1
      · omega
      · have := ha.behind h1; omega
    have nt : ¬ Has (t :: b) t.2 := by
      intro hx
      rcases (has_cons _ _ _).1 hx with h1 | h1
      · omega
      · have := hb.behind h1; omega
    have e2 : s.2 = t.2 := by
      rcases Int.lt_trichotomy s.2 t.2 with h1 | h1 | h1
      · exact absurd ((h s.2).2 ((has_cons _ _ _).2 (.inl ⟨by omega, h1⟩))) ns
      · exact h1
      · exact absurd ((h t.2).1 ((has_cons _ _ _).2 (.inl ⟨by omega, h1⟩))) nt
    have e : s = t := Prod.ext e1 e2
    subst e
    congr 1
    refine norm_unique ha.tail hb.tail fun x => ⟨fun hx => ?_, fun hx => ?_⟩
    · rcases (has_cons _ _ _).1 ((h x).1 ((has_cons _ _ _).2 (.inr hx))) with h1 | h1
      · have := ha.behind hx; omega
      · exact h1
    · rcases (has_cons _ _ _).1 ((h x).2 ((has_cons _ _ _).2 (.inr hx))) with h1 | h1
      · have := hb.behind hx; omega
      · exact h1
/-- One span more, behind all. -/
theorem Norm.push {l : List (Int × Int)} {s : Int × Int} (h : Norm l) (hs : s.1 < s.2) (hb : ∀ t ∈ l, t.2 < s.1) : Norm (l ++ [s]) := by
  refine ⟨fun t ht => ?_, List.pairwise_append.2 ⟨h.2, by simp, fun a ha b hb' => ?_⟩⟩
  · rcases List.mem_append.1 ht with ht | ht
    · exact h.1 t ht
    · simp at ht; subst ht; exact hs
  · simp at hb'
    subst hb'
    exact hb a ha
theorem Norm.init {l : List (Int × Int)} {s : Int × Int} (h : Norm (l ++ [s])) : Norm l ∧ s.1 < s.2 ∧ ∀ t ∈ l, t.2 < s.1 := by
  obtain ⟨h1, _, h3⟩ := List.pairwise_append.1 h.2
  exact ⟨⟨fun t ht => h.1 t (List.mem_append_left _ ht), h1⟩, h.1 s (by simp), fun t ht => h3 t ht s (by simp)⟩
/-- What a walk over the places has made of those ahead of 'off' that P holds of. -/
def RunsAt (P : Int → Prop) (lo off : Int) (out : List (Int × Int)) : Prop := Norm out ∧ (∀ s ∈ out, s.2 ≤ off) ∧ ∀ x, Has out x ↔ lo ≤ x ∧ x < off ∧ P x
theorem RunsAt.start (P : Int → Prop) (lo : Int) : RunsAt P lo lo [] := ⟨norm_nil, by simp, fun x => ⟨fun h => absurd h (has_nil x), fun h => by omega⟩⟩
theorem RunsAt.skip {P : Int → Prop} {lo off : Int} {out : List (Int × Int)} (h : RunsAt P lo off out) (hp : ¬ P off) : RunsAt P lo (off + 1) out := by
  refine ⟨h.1, fun s hs => by have := h.2.1 s hs; omega, fun x => ?_⟩
  rw [h.2.2 x]
  constructor
  · rintro ⟨a, b, c⟩; exact ⟨a, by omega, c⟩
  · rintro ⟨a, b, c⟩
    rcases Int.lt_or_le x off with h1 | h1
    · exact ⟨a, h1, c⟩
    · obtain rfl : x = off := by omega
      exact absurd c hp
theorem RunsAt.longer {P : Int → Prop} {lo off f : Int} {out : List (Int × Int)} (h : RunsAt P lo off (out ++ [(f, off)])) (hlo : lo ≤ off) (hp : P off) : RunsAt P lo (off + 1) (out ++ [(f, off + 1)]) := by
  obtain ⟨hn, hs, hb⟩ := h.1.init
  refine ⟨hn.push (by simp at hs ⊢; omega) hb, fun s hs' => ?_, fun x => ?_⟩
  · rcases List.mem_append.1 hs' with h1 | h1
    · have := h.2.1 s (List.mem_append_left _ h1); omega
    · simp at h1; subst h1; simp
  · have hx := h.2.2 x
    rw [has_append, has_one] at hx
    rw [has_append, has_one]
    simp only [] at hx hs ⊢
    constructor
    · rintro (h1 | ⟨h1, h2⟩)
      · have := hx.1 (.inl h1); exact ⟨this.1, by omega, this.2.2⟩
      · rcases Int.lt_or_le x off with h3 | h3
        · have := hx.1 (.inr ⟨h1, h3⟩); exact ⟨this.1, by omega, this.2.2⟩
        · obtain rfl : x = off := by omega
          exact ⟨hlo, by omega, hp⟩
    · rintro ⟨h1, h2, h3⟩
      rcases Int.lt_or_le x off with h4 | h4
      · rcases hx.2 ⟨h1, h4, h3⟩ with h5 | h5
        · exact .inl h5
        · exact .inr ⟨h5.1, by omega⟩
      · exact .inr ⟨by omega, h2⟩
theorem RunsAt.new {P : Int → Prop} {lo off : Int} {out : List (Int × Int)} (h : RunsAt P lo off out) (hlo : lo ≤ off) (hl : ∀ s ∈ out, s.2 ≠ off) (hp : P off) : RunsAt P lo (off + 1) (out ++ [(off, off + 1)]) := by
  refine ⟨h.1.push (by simp; omega) fun t ht => ?_, fun s hs' => ?_, fun x => ?_⟩
  · have h1 := h.2.1 t ht
    have h2 := hl t ht
    simp
    omega
  · rcases List.mem_append.1 hs' with h1 | h1
    · have := h.2.1 s h1; omega
    · simp at h1; subst h1; simp
  · rw [has_append, has_one, h.2.2 x]
    simp only []
    constructor
    · rintro (⟨a, b, c⟩ | ⟨a, b⟩)
      · exact ⟨a, by omega, c⟩
      · obtain rfl : x = off := by omega
        exact ⟨hlo, by omega, hp⟩
    · rintro ⟨a, b, c⟩
      rcases Int.lt_or_le x off with h4 | h4
      · exact .inl ⟨a, h4, c⟩
      · exact .inr ⟨by omega, by omega⟩
/-- Only the last one can end at 'off'. -/
theorem RunsAt.last {P : Int → Prop} {lo off f t : Int} {out : List (Int × Int)} (h : RunsAt P lo off (out ++ [(f, t)])) (ht : t ≠ off) : ∀ s ∈ out ++ [(f, t)], s.2 ≠ off := by
  obtain ⟨_, hs, hb⟩ := h.1.init
  have h2 := h.2.1 (f, t) (by simp)
  intro s hs'
  rcases List.mem_append.1 hs' with h1 | h1
  · have := hb s h1
    simp only [] at this hs h2
    omega
  · simp at h1; subst h1; exact ht
/-- A walk over sorted spans: one that touches the last is put to it. -/
theorem Norm.joined {l : List (Int × Int)} {f t g u : Int} (h : Norm (l ++ [(f, t)])) (h1 : f ≤ g) (h2 : g ≤ t) (h3 : g < u) :
    Norm (l ++ [(f, max t u)]) ∧ ∀ x, Has (l ++ [(f, max t u)]) x ↔ Has (l ++ [(f, t)]) x ∨ (g ≤ x ∧ x < u) := by
  obtain ⟨hn, hs, hb⟩ := h.init
  simp only [] at hs hb
  refine ⟨hn.push (by simp; omega) hb, fun x => ?_⟩
  rw [has_append, has_append, has_one, has_one]
  simp only []
  constructor
  · rintro (h4 | ⟨h4, h5⟩)
    · exact .inl (.inl h4)
    · rcases Int.lt_or_le x t with h6 | h6
      · exact .inl (.inr ⟨h4, h6⟩)
      · exact .inr ⟨by omega, by omega⟩
  · rintro ((h4 | ⟨h4, h5⟩) | ⟨h4, h5⟩)
    · exact .inl h4
    · exact .inr ⟨h4, by omega⟩
    · exact .inr ⟨by omega, by omega⟩
/-- .. one that doesn't is laid behind it. -/
theorem Norm.apart {l : List (Int × Int)} {g u : Int} (h : Norm l) (hb : ∀ s ∈ l, s.2 < g) (h3 : g < u) :
    Norm (l ++ [(g, u)]) ∧ ∀ x, Has (l ++ [(g, u)]) x ↔ Has l x ∨ (g ≤ x ∧ x < u) := by
  refine ⟨h.push h3 hb, fun x => ?_⟩
  rw [has_append, has_one]
theorem Norm.all_lt {l : List (Int × Int)} {f t g : Int} (h : Norm (l ++ [(f, t)])) (hg : t < g) : ∀ s ∈ l ++ [(f, t)], s.2 < g := by
  obtain ⟨_, hs, hb⟩ := h.init
  simp only [] at hs hb
  intro s hs'
  rcases List.mem_append.1 hs' with h1 | h1
  · have := hb s h1; omega
  · simp at h1; subst h1; exact hg
end Sp
end Go.Proofs.Ytnbnohphdehfoaa
