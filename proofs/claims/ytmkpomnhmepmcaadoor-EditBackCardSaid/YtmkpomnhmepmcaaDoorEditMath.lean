/-
  Edits as plain mathematics over lists: applied in order, applied from the last to the first, undone, and where each place goes. Nothing of the program is named here.
-/
namespace Go.Proofs.YtmkpomnhmepmcaaDoor
namespace Ed

/-- An edit: the bytes from f to t are replaced by x. -/
structure E where
  f : Nat
  t : Nat
  x : List Int
/-- Edits that rise, from place p on, in a file of n bytes. -/
def Ok (n : Nat) : Nat → List E → Prop
  | p, [] => p ≤ n
  | p, e :: r => p ≤ e.f ∧ e.f ≤ e.t ∧ e.t ≤ n ∧ Ok n e.t r
theorem Ok.le {n : Nat} : ∀ {p : Nat} {l : List E}, Ok n p l → p ≤ n
  | _, [], h => h
  | _, e :: r, h => by have := h.1; have := h.2.1; have := h.2.2.1; omega
theorem Ok.mem {n : Nat} : ∀ {p : Nat} {l : List E}, Ok n p l → ∀ e ∈ l, p ≤ e.f ∧ e.f ≤ e.t ∧ e.t ≤ n
  | _, [], _, e, he => by cases he
  | _, a :: r, h, e, he => by
    rcases List.mem_cons.1 he with rfl | he
    · exact ⟨h.1, h.2.1, h.2.2.1⟩
    · have := Ok.mem h.2.2.2 e he
      have := h.1
      have := h.2.1
      omega
/-- What is behind place p of b, with the edits done. -/
def app (b : List Int) : Nat → List E → List Int
  | p, [] => b.drop p
  | p, e :: r => (b.drop p).take (e.f - p) ++ (e.x ++ app b e.t r)
/-- From the last edit to the first, each in the whole file. -/
def appR (b : List Int) : List E → List Int
  | [] => b
  | e :: r => (appR b r).take e.f ++ (e.x ++ (appR b r).drop e.t)
theorem appR_eq (b : List Int) : ∀ {p : Nat} {l : List E}, Ok b.length p l → appR b l = b.take p ++ app b p l
  | p, [], h => by unfold appR app; rw [List.take_append_drop]
  | p, e :: r, h => by
    obtain ⟨h1, h2, h3, h4⟩ := h
    have ih := appR_eq b h4
    unfold appR app
    rw [ih]
    have hl : (b.take e.t).length = e.t := by rw [List.length_take]; omega
    rw [List.take_append_of_le_length (by omega), List.take_take, List.drop_append, hl, List.drop_of_length_le (by omega), Nat.sub_self, List.drop_zero, List.nil_append]
    rw [show min e.f e.t = p + (e.f - p) by omega, List.take_add, List.append_assoc]
/-- How much the edits make the file longer. -/
def grow : List E → Int
  | [] => 0
  | e :: r => (e.x.length : Int) - ((e.t : Int) - e.f) + grow r
theorem app_length (b : List Int) : ∀ {p : Nat} {l : List E}, Ok b.length p l → ((app b p l).length : Int) = (b.length : Int) - p + grow l
  | p, [], h => by
    unfold app grow
    have : p ≤ b.length := h
    rw [List.length_drop]
    omega
  | p, e :: r, h => by
    obtain ⟨h1, h2, h3, h4⟩ := h
    have ih := app_length b h4
    unfold app grow
    rw [List.length_append, List.length_append, List.length_take, List.length_drop]
    omega
/-- The edits that undo: q is the place in the result where place p of b went. -/
def inv (b : List Int) : Nat → Nat → List E → List E
  | _, _, [] => []
  | p, q, e :: r => ⟨q + (e.f - p), q + (e.f - p) + e.x.length, (b.drop e.f).take (e.t - e.f)⟩ :: inv b e.t (q + (e.f - p) + e.x.length) r
theorem inv_length (b : List Int) : ∀ (p q : Nat) (l : List E), (inv b p q l).length = l.length
  | _, _, [] => rfl
  | p, q, e :: r => by simp only [inv, List.length_cons, inv_length b _ _ r]
theorem inv_grow (b : List Int) : ∀ {p q : Nat} {l : List E}, Ok b.length p l → grow (inv b p q l) = - grow l
  | _, _, [], _ => rfl
  | p, q, e :: r, h => by
    obtain ⟨h1, h2, h3, h4⟩ := h
    simp only [inv, grow, inv_grow b h4, List.length_take, List.length_drop]
    omega
/-- The result, cut where the walk stands: what is kept, the text, the rest. -/
theorem cut {b pre : List Int} {p q : Nat} {e : E} {r : List E} (hq : pre.length = q) (h : Ok b.length p (e :: r)) :
    pre ++ app b p (e :: r) = (pre ++ ((b.drop p).take (e.f - p) ++ e.x)) ++ app b e.t r ∧ (pre ++ ((b.drop p).take (e.f - p) ++ e.x)).length = q + (e.f - p) + e.x.length := by
  obtain ⟨h1, h2, h3, h4⟩ := h
  refine ⟨by simp only [app, List.append_assoc], ?_⟩
  rw [List.length_append, List.length_append, List.length_take, List.length_drop, hq]
  omega
theorem kept {b pre : List Int} {p q : Nat} {e : E} {r : List E} (hq : pre.length = q) (h : Ok b.length p (e :: r)) :
    ((pre ++ app b p (e :: r)).drop q).take (e.f - p) = (b.drop p).take (e.f - p) := by
  obtain ⟨h1, h2, h3, h4⟩ := h
  have hl : ((b.drop p).take (e.f - p)).length = e.f - p := by rw [List.length_take, List.length_drop]; omega
  rw [List.drop_append, hq, Nat.sub_self, List.drop_zero, List.drop_of_length_le (by omega), List.nil_append]
  simp only [app]
  rw [List.take_append_of_le_length (by omega), List.take_of_length_le (by omega)]
theorem text {b pre : List Int} {p q : Nat} {e : E} {r : List E} (hq : pre.length = q) (h : Ok b.length p (e :: r)) :
    ((pre ++ app b p (e :: r)).drop (q + (e.f - p))).take e.x.length = e.x := by
  obtain ⟨h1, h2, h3, h4⟩ := h
  have hl : ((b.drop p).take (e.f - p)).length = e.f - p := by rw [List.length_take, List.length_drop]; omega
  rw [List.drop_append, hq, List.drop_of_length_le (by omega), List.nil_append, show q + (e.f - p) - q = e.f - p by omega]
  simp only [app]
  rw [List.drop_append, hl, List.drop_of_length_le (by omega), List.nil_append, Nat.sub_self, List.drop_zero, List.take_append_of_le_length (Nat.le_refl _), List.take_of_length_le (Nat.le_refl _)]
/-- UNDONE: the inverse edits make b of the result. -/
theorem undo {b : List Int} : ∀ {l : List E} {pre : List Int} {p q : Nat}, pre.length = q → Ok b.length p l → app (pre ++ app b p l) q (inv b p q l) = b.drop p
  | [], pre, p, q, hq, h => by
    simp only [inv, app]
    rw [List.drop_append, hq, Nat.sub_self, List.drop_zero, List.drop_of_length_le (by omega), List.nil_append]
  | e :: r, pre, p, q, hq, h => by
    have hk := kept hq h
    obtain ⟨hc, hcl⟩ := cut hq h
    obtain ⟨h1, h2, h3, h4⟩ := h
    have ih := undo (l := r) hcl h4
    rw [← hc] at ih
    simp only [inv]
    rw [app]
    simp only []
    rw [show q + (e.f - p) - q = e.f - p by omega, hk, ih]
    rw [← List.append_assoc]
    conv => rhs; rw [← List.take_append_drop (e.t - p) (b.drop p)]
    rw [List.drop_drop, show p + (e.t - p) = e.t by omega]
    congr 1
    rw [show e.t - p = (e.f - p) + (e.t - e.f) by omega, List.take_add, List.drop_drop, show p + (e.f - p) = e.f by omega]
/-- No edit has the place. -/
def Free (l : List E) (off : Nat) : Prop := ∀ e ∈ l, ¬ (e.f ≤ off ∧ off < e.t)
/-- Where a place goes that no edit has: its growth is that of the edits that end at it or ahead. -/
def to (l : List E) (off : Nat) : Int := (off : Int) + grow (l.filter fun e => decide (e.t ≤ off))
theorem filter_none {n p off : Nat} : ∀ {l : List E}, Ok n p l → off < p → l.filter (fun e => decide (e.t ≤ off)) = []
  | [], _, _ => rfl
  | e :: r, h, hlt => by
    rw [List.filter_cons, if_neg (by have := h.1; have := h.2.1; simp; omega)]
    exact filter_none h.2.2.2 (by have := h.1; have := h.2.1; omega)
/-- KEPT: the byte at a free place stands in the result where 'to' says; the growth of the edits at p's left is q - p. -/
theorem stands {b : List Int} : ∀ {l : List E} {pre : List Int} {p q off : Nat} {v : Int}, pre.length = q → Ok b.length p l → p ≤ off → Free l off → b[off]? = some v →
    ∃ k : Nat, (k : Int) = to l off + ((q : Int) - p) ∧ q ≤ k ∧ (pre ++ app b p l)[k]? = some v
  | [], pre, p, q, off, v, hq, h, hp, _, hv => by
    refine ⟨q + (off - p), by simp only [to, List.filter_nil, grow]; omega, by omega, ?_⟩
    rw [List.getElem?_append_right (by omega), hq, app, List.getElem?_drop, show p + (q + (off - p) - q) = off by omega]
    exact hv
  | e :: r, pre, p, q, off, v, hq, h, hp, hf, hv => by
    obtain ⟨hc, hcl⟩ := cut hq h
    have h' := h
    obtain ⟨h1, h2, h3, h4⟩ := h
    by_cases hlt : off < e.f
    · refine ⟨q + (off - p), ?_, by omega, ?_⟩
      · rw [to, List.filter_cons, if_neg (by simp; omega), filter_none h4 (by omega)]
        simp only [grow]
        omega
      · rw [List.getElem?_append_right (by omega), hq, show q + (off - p) - q = off - p by omega, app, List.getElem?_append_left (by rw [List.length_take, List.length_drop]; omega), List.getElem?_take, if_pos (by omega), List.getElem?_drop, show p + (off - p) = off by omega]
        exact hv
    · have hge : e.t ≤ off := by have := hf e List.mem_cons_self; omega
      obtain ⟨k, hk, hkq, hkv⟩ := stands (l := r) hcl h4 hge (fun a ha => hf a (List.mem_cons_of_mem _ ha)) hv
      refine ⟨k, ?_, by omega, by rw [hc]; exact hkv⟩
      rw [hk, to, to, List.filter_cons, if_pos (by simpa using hge)]
      simp only [grow]
      omega
/-- A free place behind p goes behind p. -/
theorem to_ge {n : Nat} : ∀ {l : List E} {p c : Nat}, Ok n p l → p ≤ c → Free l c → (p : Int) ≤ to l c
  | [], p, c, _, h, _ => by simp only [to, List.filter_nil, grow]; omega
  | e :: r, p, c, h, hp, fc => by
    obtain ⟨h1, h2, h3, h4⟩ := h
    have ec := fc e List.mem_cons_self
    by_cases hc : e.t ≤ c
    · have := to_ge h4 hc fun x hx => fc x (List.mem_cons_of_mem _ hx)
      rw [to, List.filter_cons, if_pos (by simpa using hc)]
      simp only [to] at this
      simp only [grow]
      omega
    · rw [to, List.filter_cons, if_neg (by simpa using hc), filter_none h4 (by omega)]
      simp only [grow]
      omega
/-- Free places go to places in the same order. -/
theorem to_lt {n : Nat} : ∀ {l : List E} {p a c : Nat}, Ok n p l → p ≤ a → a < c → Free l a → Free l c → to l a < to l c
  | [], _, a, c, _, _, h, _, _ => by simp only [to, List.filter_nil, grow]; omega
  | e :: r, p, a, c, h, hp, hac, fa, fc => by
    obtain ⟨h1, h2, h3, h4⟩ := h
    have ea := fa e List.mem_cons_self
    have ec := fc e List.mem_cons_self
    have fa' : Free r a := fun x hx => fa x (List.mem_cons_of_mem _ hx)
    have fc' : Free r c := fun x hx => fc x (List.mem_cons_of_mem _ hx)
    by_cases ha : e.t ≤ a
    · have := to_lt h4 ha hac fa' fc'
      rw [to, to, List.filter_cons, List.filter_cons, if_pos (by simpa using ha), if_pos (by simp; omega)]
      simp only [to] at this
      simp only [grow]
      omega
    · by_cases hc : e.t ≤ c
      · have hb := to_ge h4 hc fc'
        rw [to, to, List.filter_cons, List.filter_cons, if_neg (by simpa using ha), if_pos (by simpa using hc), filter_none h4 (by omega)]
        simp only [to] at hb
        simp only [grow]
        omega
      · rw [to, to, List.filter_cons, List.filter_cons, if_neg (by simpa using ha), if_neg (by simpa using hc), filter_none h4 (by omega), filter_none h4 (by omega)]
        simp only [grow]
        omega
/-- What one edit makes the file longer. -/
def d (e : E) : Int := (e.x.length : Int) - ((e.t : Int) - e.f)
theorem grow_cons (e : E) (r : List E) : grow (e :: r) = d e + grow r := rfl
/-- The growth of the edits whose text ends at y or ahead, in the result; g is what the edits before grew. -/
def lost (g : Int) : List E → Int → Int
  | [], _ => 0
  | e :: r, y => (if (e.f : Int) + g + e.x.length ≤ y then d e else 0) + lost (g + d e) r y
/-- No text of an edit has the place y of the result. -/
def NoText (g : Int) : List E → Int → Prop
  | [], _ => True
  | e :: r, y => ¬ ((e.f : Int) + g ≤ y ∧ y < (e.f : Int) + g + e.x.length) ∧ NoText (g + d e) r y
theorem lost_none {n : Nat} : ∀ {l : List E} {p : Nat} {g y : Int}, Ok n p l → y < (p : Int) + g → lost g l y = 0 ∧ NoText g l y
  | [], _, _, _, _, _ => ⟨rfl, trivial⟩
  | e :: r, p, g, y, h, hy => by
    obtain ⟨h1, h2, h3, h4⟩ := h
    obtain ⟨i1, i2⟩ := lost_none (g := g + d e) (y := y) h4 (by unfold d; omega)
    refine ⟨?_, by omega, i2⟩
    rw [lost, if_neg (by omega), i1]
    rfl
/-- THERE AND BACK: a free place is led back to. -/
theorem back {n : Nat} : ∀ {l : List E} {p off : Nat} {g : Int}, Ok n p l → p ≤ off → Free l off → lost g l (to l off + g) = grow (l.filter fun e => decide (e.t ≤ off)) ∧ NoText g l (to l off + g)
  | [], _, _, _, _, _, _ => ⟨rfl, trivial⟩
  | e :: r, p, off, g, h, hp, hf => by
    obtain ⟨h1, h2, h3, h4⟩ := h
    have he := hf e List.mem_cons_self
    have hf' : Free r off := fun x hx => hf x (List.mem_cons_of_mem _ hx)
    by_cases ht : e.t ≤ off
    · have hto : to (e :: r) off + g = to r off + (g + d e) := by
        rw [to, to, List.filter_cons, if_pos (by simpa using ht), grow_cons]
        omega
      have hb : (e.t : Int) ≤ to r off := to_ge h4 ht hf'
      obtain ⟨i1, i2⟩ := back (g := g + d e) h4 ht hf'
      rw [hto]
      refine ⟨?_, ?_, i2⟩
      · rw [lost, if_pos (by unfold d; omega), i1, List.filter_cons, if_pos (by simpa using ht), grow_cons]
      · unfold d
        omega
    · have hlt : off < e.f := by omega
      have hto : to (e :: r) off = off := by
        rw [to, List.filter_cons, if_neg (by simpa using ht), filter_none h4 (by omega)]
        simp [grow]
      obtain ⟨i1, i2⟩ := lost_none (g := g + d e) (y := to (e :: r) off + g) h4 (by rw [hto]; unfold d; omega)
      rw [List.filter_cons, if_neg (by simpa using ht), filter_none h4 (by omega)]
      refine ⟨?_, by rw [hto]; omega, i2⟩
      rw [lost, if_neg (by rw [hto]; omega), i1]
      rfl
/-- .. with nothing before: the place itself. -/
theorem back_start {n off : Nat} {l : List E} (h : Ok n 0 l) (hf : Free l off) : to l off - lost 0 l (to l off) = off ∧ NoText 0 l (to l off) := by
  obtain ⟨h1, h2⟩ := back (g := 0) h (Nat.zero_le off) hf
  rw [Int.add_zero] at h1 h2
  exact ⟨by rw [h1]; unfold to; omega, h2⟩
end Ed
end Go.Proofs.YtmkpomnhmepmcaaDoor
