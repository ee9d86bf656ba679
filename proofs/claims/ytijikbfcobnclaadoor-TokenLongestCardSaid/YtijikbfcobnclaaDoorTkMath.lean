/-
  Stage 6, as mathematics, of no program: the texts of the kinds of tokens; what the document's answers Nth, Spell, In, Prec, Unary, Base, Ends, Keyword and Operator say, and that they agree with what the kinds' texts say.
-/
import Derived.Test.YtijikbfcobnclaaDoorBts
namespace Go.Proofs.YtijikbfcobnclaaDoor
open Go.RowKit

/-- The texts, by the kind. -/
def tabL : List (List UInt8) := [
  [],
  [110, 97, 109, 101],
  [105, 110, 116],
  [102, 108, 111, 97, 116],
  [99, 104, 97, 114],
  [115, 116, 114, 105, 110, 103],
  [],
  [],
  [],
  [],
  [98, 114, 101, 97, 107],
  [99, 97, 115, 101],
  [99, 104, 97, 110],
  [99, 111, 110, 115, 116],
  [99, 111, 110, 116, 105, 110, 117, 101],
  [100, 101, 102, 97, 117, 108, 116],
  [100, 101, 102, 101, 114],
  [101, 108, 115, 101],
  [102, 97, 108, 108, 116, 104, 114, 111, 117, 103, 104],
  [102, 111, 114],
  [102, 117, 110, 99],
  [103, 111],
  [103, 111, 116, 111],
  [105, 102],
  [105, 109, 112, 111, 114, 116],
  [105, 110, 116, 101, 114, 102, 97, 99, 101],
  [109, 97, 112],
  [112, 97, 99, 107, 97, 103, 101],
  [114, 97, 110, 103, 101],
  [114, 101, 116, 117, 114, 110],
  [115, 101, 108, 101, 99, 116],
  [115, 116, 114, 117, 99, 116],
  [115, 119, 105, 116, 99, 104],
  [116, 121, 112, 101],
  [118, 97, 114],
  [],
  [],
  [],
  [],
  [],
  [43],
  [45],
  [42],
  [47],
  [37],
  [38],
  [124],
  [94],
  [60, 60],
  [62, 62],
  [38, 94],
  [43, 61],
  [45, 61],
  [42, 61],
  [47, 61],
  [37, 61],
  [38, 61],
  [124, 61],
  [94, 61],
  [60, 60, 61],
  [62, 62, 61],
  [38, 94, 61],
  [38, 38],
  [124, 124],
  [60, 45],
  [43, 43],
  [45, 45],
  [61, 61],
  [60],
  [62],
  [61],
  [33],
  [126],
  [33, 61],
  [60, 61],
  [62, 61],
  [58, 61],
  [46, 46, 46],
  [40],
  [91],
  [123],
  [44],
  [46],
  [41],
  [93],
  [125],
  [59],
  [58]]
def txl (k : Nat) : List UInt8 := tabL.getD k []
/-- The text of a kind, as a string. -/
def tx (k : Nat) : ByteArray := ⟨(txl k).toArray⟩
theorem tx_toList (k : Nat) : (tx k).data.toList = txl k := rfl
theorem tx_size (k : Nat) : (tx k).size = (txl k).length := by simp [tx, ByteArray.size]
theorem bytes_inj {s t : ByteArray} (h : s.data.toList = t.data.toList) : s = t := by
  obtain ⟨⟨a⟩⟩ := s; obtain ⟨⟨b⟩⟩ := t; simp at h; rw [h]
/-- The text of any number. -/
def spA (k : Int) : ByteArray := if 0 ≤ k ∧ k < 88 then tx k.toNat else ⟨#[]⟩
theorem spA_in {k : Nat} (h : k < 88) : spA (k : Int) = tx k := by
  unfold spA; rw [if_pos (by omega)]; simp
theorem spA_out {k : Int} (h : k < 0 ∨ 88 ≤ k) : spA k = ⟨#[]⟩ := by
  unfold spA; rw [if_neg (by omega)]
theorem tab_all {p : Nat → Bool} {n : Nat} (h : (List.range n).all p = true) {k : Nat} (hk : k < n) : p k = true := List.all_eq_true.1 h k (List.mem_range.2 hk)
theorem txl_out {k : Nat} (h : 88 ≤ k) : txl k = [] := by
  unfold txl; rw [List.getD_eq_getElem?_getD, List.getElem?_eq_none (by simpa [tabL] using h)]; rfl

/-- The n-th word of a list of words with blanks behind them; acc is what the word has so far. -/
def nthF : List UInt8 → List UInt8 → Nat → List UInt8
  | [], _, _ => []
  | c :: r, acc, n => if c = 32 then (match n with
    | 0 => acc
    | m + 1 => nthF r [] m) else nthF r (acc ++ [c]) n
def namesL : List UInt8 := [110, 97, 109, 101, 32, 105, 110, 116, 32, 102, 108, 111, 97, 116, 32, 99, 104, 97, 114, 32, 115, 116, 114, 105, 110, 103, 32]
def wordsL : List UInt8 := [98, 114, 101, 97, 107, 32, 99, 97, 115, 101, 32, 99, 104, 97, 110, 32, 99, 111, 110, 115, 116, 32, 99, 111, 110, 116, 105, 110, 117, 101, 32, 100, 101, 102, 97, 117, 108, 116, 32, 100, 101, 102, 101, 114, 32, 101, 108, 115, 101, 32, 102, 97, 108, 108, 116, 104, 114, 111, 117, 103, 104, 32, 102, 111, 114, 32, 102, 117, 110, 99, 32, 103, 111, 32, 103, 111, 116, 111, 32, 105, 102, 32, 105, 109, 112, 111, 114, 116, 32, 105, 110, 116, 101, 114, 102, 97, 99, 101, 32, 109, 97, 112, 32, 112, 97, 99, 107, 97, 103, 101, 32, 114, 97, 110, 103, 101, 32, 114, 101, 116, 117, 114, 110, 32, 115, 101, 108, 101, 99, 116, 32, 115, 116, 114, 117, 99, 116, 32, 115, 119, 105, 116, 99, 104, 32, 116, 121, 112, 101, 32, 118, 97, 114, 32]
def signsL : List UInt8 := [43, 32, 45, 32, 42, 32, 47, 32, 37, 32, 38, 32, 124, 32, 94, 32, 60, 60, 32, 62, 62, 32, 38, 94, 32, 43, 61, 32, 45, 61, 32, 42, 61, 32, 47, 61, 32, 37, 61, 32, 38, 61, 32, 124, 61, 32, 94, 61, 32, 60, 60, 61, 32, 62, 62, 61, 32, 38, 94, 61, 32, 38, 38, 32, 124, 124, 32, 60, 45, 32, 43, 43, 32, 45, 45, 32, 61, 61, 32, 60, 32, 62, 32, 61, 32, 33, 32, 126, 32, 33, 61, 32, 60, 61, 32, 62, 61, 32, 58, 61, 32, 46, 46, 46, 32, 40, 32, 91, 32, 123, 32, 44, 32, 46, 32, 41, 32, 93, 32, 125, 32, 59, 32, 58, 32]
theorem names_nth {k : Nat} (h : k < 5) : nthF namesL [] k = txl (k + 1) := by
  have := tab_all (p := fun k => nthF namesL [] k == txl (k + 1)) (n := 5) (by decide +kernel) h
  simpa using this
theorem words_nth {k : Nat} (h : k < 30) : nthF wordsL [] k = txl (k + 10) := by
  have := tab_all (p := fun k => nthF wordsL [] k == txl (k + 10)) (n := 30) (by decide +kernel) h
  simpa using this
theorem signs_nth {k : Nat} (h : k < 60) : nthF signsL [] k = txl (k + 40) := by
  have := tab_all (p := fun k => nthF signsL [] k == txl (k + 40)) (n := 60) (by decide +kernel) h
  simpa using this

/-- Is a kind's text one of some? -/
def inA (k : Int) (l : List UInt8) : Bool := !(spA k).data.toList.isEmpty && (List.range 20).any fun n => nthF l [] n == (spA k).data.toList
theorem inA_out {k : Int} {l : List UInt8} (h : k < 0 ∨ 88 ≤ k) : inA k l = false := by
  unfold inA; rw [spA_out h]; rfl
def precA (k : Int) : Nat :=
  if k = 42 ∨ k = 43 ∨ k = 44 ∨ k = 48 ∨ k = 49 ∨ k = 45 ∨ k = 50 then 5
  else if k = 40 ∨ k = 41 ∨ k = 46 ∨ k = 47 then 4
  else if k = 67 ∨ k = 73 ∨ k = 68 ∨ k = 74 ∨ k = 69 ∨ k = 75 then 3
  else if k = 62 then 2 else if k = 63 then 1 else 0
def unaryA (k : Int) : Bool := k == 40 || k == 41 || k == 71 || k == 47 || k == 42 || k == 45 || k == 64
def endsA (k : Int) : Bool := k == 1 || k == 2 || k == 3 || k == 4 || k == 5 || k == 10 || k == 14 || k == 18 || k == 29 || k == 65 || k == 66 || k == 83 || k == 84 || k == 85
def baseA (k : Int) : Int := if k = 65 then 40 else if k = 66 then 41 else if 51 ≤ k ∧ k ≤ 61 then k - 51 + 40 else 0
def p1L : List UInt8 := [124, 124, 32]
def p2L : List UInt8 := [38, 38, 32]
def p3L : List UInt8 := [61, 61, 32, 33, 61, 32, 60, 32, 60, 61, 32, 62, 32, 62, 61, 32]
def p4L : List UInt8 := [43, 32, 45, 32, 124, 32, 94, 32]
def p5L : List UInt8 := [42, 32, 47, 32, 37, 32, 60, 60, 32, 62, 62, 32, 38, 32, 38, 94, 32]
def unL : List UInt8 := [43, 32, 45, 32, 33, 32, 94, 32, 42, 32, 38, 32, 60, 45, 32]
def enL : List UInt8 := [98, 114, 101, 97, 107, 32, 99, 111, 110, 116, 105, 110, 117, 101, 32, 102, 97, 108, 108, 116, 104, 114, 111, 117, 103, 104, 32, 114, 101, 116, 117, 114, 110, 32, 43, 43, 32, 45, 45, 32, 41, 32, 93, 32, 125, 32]
theorem byKind {p : Int → Prop} [DecidablePred p] (n : Nat) (h : ((List.range n).all fun k => decide (p (k : Int))) = true) {k : Int} (h0 : 0 ≤ k) (h1 : k < n) : p k := by
  obtain ⟨m, rfl⟩ := Int.eq_ofNat_of_zero_le h0
  exact of_decide_eq_true (tab_all h (by omega))
/-- What the reference's Prec says. -/
def rprecA (k : Int) : Nat := if inA k p1L then 1 else if inA k p2L then 2 else if inA k p3L then 3 else if inA k p4L then 4 else if inA k p5L then 5 else 0
theorem prec_eq (k : Int) : precA k = if k < 40 then 0 else rprecA k := by
  by_cases h : 0 ≤ k ∧ k < 88
  · exact byKind (p := fun k => precA k = if k < 40 then 0 else rprecA k) 88 (by decide +kernel) h.1 (by omega)
  · have ho : k < 0 ∨ 88 ≤ k := by omega
    have e1 : precA k = 0 := by unfold precA; repeat (rw [if_neg (by omega)])
    rw [e1]
    simp [rprecA, inA_out ho]
theorem unary_eq (k : Int) : unaryA k = (decide (40 ≤ k) && inA k unL) := by
  by_cases h : 0 ≤ k ∧ k < 88
  · exact byKind (p := fun k => unaryA k = (decide (40 ≤ k) && inA k unL)) 88 (by decide +kernel) h.1 (by omega)
  · have ho : k < 0 ∨ 88 ≤ k := by omega
    rw [inA_out ho, Bool.and_false, Bool.eq_false_iff]
    simp [unaryA]; omega
theorem ends_eq (k : Int) : endsA k = (decide (1 ≤ k) && decide (k ≤ 5) || (inA k enL && decide (10 ≤ k))) := by
  by_cases h : 0 ≤ k ∧ k < 88
  · exact byKind (p := fun k => endsA k = (decide (1 ≤ k) && decide (k ≤ 5) || (inA k enL && decide (10 ≤ k)))) 88 (by decide +kernel) h.1 (by omega)
  · have ho : k < 0 ∨ 88 ≤ k := by omega
    have e1 : endsA k = false := by rw [Bool.eq_false_iff]; simp [endsA]; omega
    have e2 : (decide (1 ≤ k) && decide (k ≤ 5)) = false := by rw [Bool.eq_false_iff]; simp; omega
    rw [e1, e2, inA_out ho]; rfl

/-- r is the kind of the keyword s, or 0. -/
def KwIs (s : ByteArray) (r : Nat) : Prop := (r = 0 ∧ ∀ j, 10 ≤ j → j < 35 → tx j ≠ s) ∨ (10 ≤ r ∧ r < 35 ∧ tx r = s)
/-- Texts that are there tell the kind. -/
theorem txl_inj {i j : Nat} (hi : i < 88) (hj : j < 88) (hn : txl i ≠ []) (h : txl i = txl j) : i = j := by
  have h1 := tab_all (p := fun i => (List.range 88).all fun j => txl i != txl j || txl i == [] || i == j) (n := 88) (by decide +kernel) hi
  have h2 := tab_all h1 hj
  simp [h] at h2
  rcases h2 with h2 | h2
  · exact absurd (h ▸ h2) hn
  · exact h2
theorem tx_inj {i j : Nat} (hi : i < 88) (hj : j < 88) (hn : txl i ≠ []) (h : tx i = tx j) : i = j :=
  txl_inj hi hj hn (by have := congrArg (fun s : ByteArray => s.data.toList) h; exact this)
theorem txl_kw {i : Nat} (h : 10 ≤ i) (h2 : i < 35) : txl i ≠ [] := by
  have := tab_all (p := fun i => txl (i + 10) != []) (n := 25) (by decide +kernel) (k := i - 10) (by omega)
  rw [show i - 10 + 10 = i by omega] at this
  simpa using this
theorem txl_op {i : Nat} (h : 40 ≤ i) (h2 : i < 88) : 1 ≤ (txl i).length ∧ (txl i).length ≤ 3 := by
  have := tab_all (p := fun i => decide (1 ≤ (txl (i + 40)).length ∧ (txl (i + 40)).length ≤ 3)) (n := 48) (by decide +kernel) (k := i - 40) (by omega)
  rw [show i - 40 + 40 = i by omega] at this
  simpa using this
theorem txl_short (i : Nat) : (txl i).length ≤ 11 := by
  by_cases h : i < 88
  · have := tab_all (p := fun i => decide ((txl i).length ≤ 11)) (n := 88) (by decide +kernel) h
    simpa using this
  · rw [txl_out (by omega)]; simp
theorem KwIs.uniq {s : ByteArray} {r q : Nat} (h : KwIs s r) (h' : KwIs s q) : r = q := by
  rcases h with ⟨h1, h2⟩ | ⟨h1, h2, h3⟩ <;> rcases h' with ⟨g1, g2⟩ | ⟨g1, g2, g3⟩
  · omega
  · exact absurd g3 (h2 q g1 g2)
  · exact absurd h3 (g2 r h1 h2)
  · exact tx_inj (by omega) (by omega) (txl_kw h1 h2) (h3.trans g3.symm)
theorem kw_ex (s : ByteArray) : ∃ r, KwIs s r := by
  by_cases h : ∃ j, 10 ≤ j ∧ j < 35 ∧ tx j = s
  · obtain ⟨j, h1, h2, h3⟩ := h; exact ⟨j, .inr ⟨h1, h2, h3⟩⟩
  · exact ⟨0, .inl ⟨rfl, fun j h1 h2 h3 => h ⟨j, h1, h2, h3⟩⟩⟩

/-- The text of kind j begins the bytes d. -/
def Beg (d : List Int) (j : Nat) : Prop := bts (tx j) <+: d
/-- The operator with which the bytes d begin, and its size; zeros: none. -/
def OpIs (d : List Int) (k n : Nat) : Prop :=
  (k = 0 ∧ n = 0 ∧ ∀ j, 40 ≤ j → j < 88 → ¬ Beg d j) ∨ (40 ≤ k ∧ k < 88 ∧ n = (tx k).size ∧ Beg d k ∧ ∀ j, 40 ≤ j → j < 88 → Beg d j → (tx j).size ≤ n)
/-- The same, of the kinds below m. -/
def OpTo (d : List Int) (m k n : Nat) : Prop :=
  (k = 0 ∧ n = 0 ∧ ∀ j, 40 ≤ j → j < m → ¬ Beg d j) ∨ (40 ≤ k ∧ k < m ∧ n = (tx k).size ∧ Beg d k ∧ ∀ j, 40 ≤ j → j < m → Beg d j → (tx j).size ≤ n)
theorem bts_inj' {s t : ByteArray} (h : bts s = bts t) : s = t := by
  apply bytes_inj
  have : ∀ l m : List UInt8, (l.map fun b => (b.toNat : Int)) = m.map (fun b => (b.toNat : Int)) → l = m := by
    intro l
    induction l with
    | nil => intro m h; cases m with
      | nil => rfl
      | cons => simp at h
    | cons a l ih => intro m h; cases m with
      | nil => simp at h
      | cons b m =>
        simp only [List.map_cons, List.cons.injEq] at h
        rw [UInt8.toNat.inj (by omega : a.toNat = b.toNat), ih m h.2]
  exact this _ _ h
theorem Beg.eq {d : List Int} {i j : Nat} (hi : 40 ≤ i ∧ i < 88) (hj : 40 ≤ j ∧ j < 88) (h : Beg d i) (h' : Beg d j) (hs : (tx i).size = (tx j).size) : i = j := by
  have h1 := List.prefix_of_prefix_length_le h h' (by rw [bts_length, bts_length]; omega)
  have h2 := h1.eq_of_length (by rw [bts_length, bts_length]; exact hs)
  exact tx_inj hi.2 hj.2 (fun e => by have := (txl_op hi.1 hi.2).1; rw [e] at this; simp at this) (bts_inj' h2)
theorem OpIs.uniq {d : List Int} {k n k' n' : Nat} (h : OpIs d k n) (h' : OpIs d k' n') : k = k' ∧ n = n' := by
  rcases h with ⟨h1, h2, h3⟩ | ⟨h1, h2, h3, h4, h5⟩ <;> rcases h' with ⟨g1, g2, g3⟩ | ⟨g1, g2, g3, g4, g5⟩
  · omega
  · exact absurd g4 (h3 _ g1 g2)
  · exact absurd h4 (g3 _ h1 h2)
  · have a := h5 k' g1 g2 g4
    have b := g5 k h1 h2 h4
    have : n = n' := by omega
    exact ⟨Beg.eq ⟨h1, h2⟩ ⟨g1, g2⟩ h4 g4 (by omega), this⟩
theorem OpTo.zero (d : List Int) : OpTo d 40 0 0 := .inl ⟨rfl, rfl, fun j h h' => by omega⟩
theorem OpTo.next {d : List Int} {m k n : Nat} (h : OpTo d m k n) (hm : m < 88) (hn : n < (tx m).size → ¬ Beg d m) : OpTo d (m + 1) k n := by
  rcases h with ⟨h1, h2, h3⟩ | ⟨h1, h2, h3, h4, h5⟩
  · refine .inl ⟨h1, h2, fun j g g' hb => ?_⟩
    by_cases e : j = m
    · subst e
      exact hn (by have := (txl_op g hm).1; rw [tx_size]; omega) hb
    · exact h3 j g (by omega) hb
  · refine .inr ⟨h1, by omega, h3, h4, fun j g g' hb => ?_⟩
    by_cases e : j = m
    · subst e
      rcases Nat.lt_or_ge n (tx j).size with hx | hx
      · exact absurd hb (hn hx)
      · exact hx
    · exact h5 j g (by omega) hb
theorem OpTo.hit {d : List Int} {m k n : Nat} (h : OpTo d m k n) (hm : 40 ≤ m) (hn : n < (tx m).size) (hb : Beg d m) : OpTo d (m + 1) m (tx m).size := by
  refine .inr ⟨hm, by omega, rfl, hb, fun j g g' hj => ?_⟩
  by_cases e : j = m
  · subst e; exact Nat.le_refl _
  · rcases h with ⟨h1, h2, h3⟩ | ⟨h1, h2, h3, h4, h5⟩
    · exact absurd hj (h3 j g (by omega))
    · have := h5 j g (by omega) hj
      omega
theorem OpTo.done {d : List Int} {k n : Nat} (h : OpTo d 88 k n) : OpIs d k n := h
theorem OpTo.bound {d : List Int} {m k n : Nat} (h : OpTo d m k n) : n ≤ 11 ∧ k < 88 + m := by
  rcases h with ⟨h1, h2, h3⟩ | ⟨h1, h2, h3, h4, h5⟩
  · omega
  · have := txl_short k; rw [h3, tx_size]; omega
theorem op_to (d : List Int) (i : Nat) (hi : i ≤ 48) : ∃ k n, OpTo d (40 + i) k n := by
  induction i with
  | zero => exact ⟨0, 0, OpTo.zero d⟩
  | succ i ih =>
    obtain ⟨k, n, h⟩ := ih (by omega)
    by_cases hc : n < (tx (40 + i)).size ∧ Beg d (40 + i)
    · exact ⟨_, _, h.hit (by omega) hc.1 hc.2⟩
    · exact ⟨k, n, h.next (by omega) fun h1 h2 => hc ⟨h1, h2⟩⟩
theorem op_ex (d : List Int) : ∃ k n, OpIs d k n := op_to d 48 (by omega)
theorem OpIs.bound {d : List Int} {k n : Nat} (h : OpIs d k n) : n ≤ 3 ∧ k < 88 := by
  rcases h with ⟨h1, h2, h3⟩ | ⟨h1, h2, h3, h4, h5⟩
  · omega
  · have := (txl_op h1 h2).2; rw [h3, tx_size]; omega
theorem beg_nil {j : Nat} (h : 40 ≤ j) (h2 : j < 88) : ¬ Beg [] j := fun hb => by
  have h1 := hb.length_le
  rw [bts_length, tx_size] at h1
  have h3 := (txl_op h h2).1
  simp only [List.length_nil] at h1
  omega
theorem op_nil : OpIs [] 0 0 := .inl ⟨rfl, rfl, fun _ h h2 => beg_nil h h2⟩
end Go.Proofs.YtijikbfcobnclaaDoor
