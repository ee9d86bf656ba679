/-
  The contracts of span.Gaps and of the reference's Gaps.
-/
import Derived.Test.YtnbnohphdehfoaaSpMerge
namespace Go.Proofs.Ytnbnohphdehfoaa
open Go.RowKit Go.Sort

/-- The number of the first error that a span of the list gives; 0 if none does. -/
def errOfL (z : Int) : List (Int × Int) → Nat
  | [] => 0
  | s :: r => if chkOf s.1 s.2 z = 0 then errOfL z r else chkOf s.1 s.2 z
theorem errOfL_take {l : List (Int × Int)} {i : Nat} {s : Int × Int} {z : Int} (h : l[i]? = some s) (h0 : errOfL z (l.take i) = 0) : errOfL z (l.take (i + 1)) = chkOf s.1 s.2 z := by
  induction l generalizing i with
  | nil => simp at h
  | cons a r ih =>
    cases i with
    | zero =>
      simp at h
      subst h
      rw [List.take_succ_cons, List.take_zero]
      unfold errOfL
      split
      · next h => rw [h]; rfl
      · rfl
    | succ i =>
      rw [List.take_succ_cons] at h0 ⊢
      unfold errOfL at h0 ⊢
      split at h0
      · next h1 => rw [if_pos h1]; exact ih (by simpa using h) h0
      · next h1 => exact absurd h0 h1
theorem errOfL_prefix {l : List (Int × Int)} {z : Int} : ∀ {i : Nat}, errOfL z (l.take i) ≠ 0 → errOfL z l = errOfL z (l.take i) := by
  induction l with
  | nil => intro i h; simp [errOfL] at h
  | cons a r ih =>
    intro i h
    cases i with
    | zero => simp [errOfL] at h
    | succ i =>
      rw [List.take_succ_cons] at h ⊢
      unfold errOfL at h ⊢
      split
      · next h1 => rw [if_pos h1] at h; exact ih h
      · rfl
theorem errOfL_le (z : Int) : ∀ l, errOfL z l ≤ 25
  | [] => by unfold errOfL; omega
  | s :: r => by
    unfold errOfL
    split
    · exact errOfL_le z r
    · exact chkOf_le _ _ _
theorem errOfL_zero {z : Int} : ∀ {l : List (Int × Int)}, errOfL z l = 0 → ∀ s ∈ l, 0 ≤ s.1 ∧ s.1 ≤ s.2 ∧ s.2 ≤ z
  | [], _, s, hs => by cases hs
  | a :: r, h, s, hs => by
    unfold errOfL at h
    split at h
    · next h1 =>
      rcases List.mem_cons.1 hs with rfl | hs
      · unfold chkOf at h1
        split at h1
        · omega
        · split at h1
          · omega
          · omega
      · exact errOfL_zero h s hs
    · next h1 => exact absurd h h1
/-- The gaps ahead of 'at', which the spans M.take i leave. -/
def GapAt (M : List (Int × Int)) (i : Nat) (at_ : Int) (out : List (Int × Int)) : Prop :=
  Sp.Norm out ∧ 0 ≤ at_ ∧ (∀ s ∈ out, s.2 < at_) ∧ (∀ x, Sp.Has out x ↔ 0 ≤ x ∧ x < at_ ∧ ¬ Sp.Has (M.take i) x) ∧ (∀ x, Sp.Has (M.take i) x → x < at_) ∧ (i = 0 ∧ at_ = 0 ∨ ∃ j s, i = j + 1 ∧ M[j]? = some s ∧ at_ = s.2)
theorem norm_lt {M : List (Int × Int)} (h : Sp.Norm M) {j : Nat} {s r : Int × Int} (hs : M[j]? = some s) (hr : M[j + 1]? = some r) : s.2 < r.1 := by
  obtain ⟨h1, rfl⟩ := List.getElem?_eq_some_iff.1 hs
  obtain ⟨h2, rfl⟩ := List.getElem?_eq_some_iff.1 hr
  exact (List.pairwise_iff_getElem.1 h.2) j (j + 1) h1 h2 (Nat.lt_succ_self _)
theorem GapAt.start (M : List (Int × Int)) : GapAt M 0 0 [] :=
  ⟨Sp.norm_nil, Int.le_refl _, (fun s hs => by cases hs), fun x => ⟨fun h => absurd h (Sp.has_nil x), fun h => by omega⟩, fun x h => absurd h (by rw [List.take_zero]; exact Sp.has_nil x), .inl ⟨rfl, rfl⟩⟩
theorem GapAt.go {M : List (Int × Int)} {i : Nat} {at_ : Int} {out : List (Int × Int)} (hM : Sp.Norm M) (h0 : ∀ s ∈ M, 0 ≤ s.1) (h : GapAt M i at_ out) {p q : Int} (hs : M[i]? = some (p, q)) :
    GapAt M (i + 1) q (if at_ < p then out ++ [(at_, p)] else out) ∧ (at_ < p ∨ at_ = 0 ∧ p = 0 ∧ out = []) := by
  obtain ⟨a1, a2, a3, a4, a5, a6⟩ := h
  have hpq : p < q := hM.1 (p, q) (List.mem_of_getElem? hs)
  have hp0 : 0 ≤ p := h0 (p, q) (List.mem_of_getElem? hs)
  have hnx : ∀ x, Sp.Has (M.take (i + 1)) x ↔ Sp.Has (M.take i) x ∨ (p ≤ x ∧ x < q) := fun x => has_take hs x
  have hlt : at_ < p ∨ at_ = 0 ∧ p = 0 ∧ i = 0 := by
    rcases a6 with ⟨rfl, rfl⟩ | ⟨j, s, rfl, hj, rfl⟩
    · rcases Int.lt_or_le 0 p with h | h
      · exact .inl h
      · exact .inr ⟨rfl, by omega, rfl⟩
    · exact .inl (norm_lt hM hj hs)
  by_cases hlt2 : at_ < p
  · rw [if_pos hlt2]
    refine ⟨⟨a1.push hlt2 a3, by omega, fun s hs' => ?_, fun x => ?_, fun x hx => ?_, .inr ⟨i, _, rfl, hs, rfl⟩⟩, .inl hlt2⟩
    · rcases List.mem_append.1 hs' with h | h
      · have := a3 s h; omega
      · simp at h; subst h; exact hpq
    · rw [Sp.has_append, Sp.has_one, a4, hnx]
      simp only []
      constructor
      · rintro (⟨x1, x2, x3⟩ | ⟨x1, x2⟩)
        · exact ⟨x1, by omega, by rintro (h | h); · exact x3 h
                                  · omega⟩
        · exact ⟨by omega, by omega, by rintro (h | h); · have := a5 x h; omega
                                        · omega⟩
      · rintro ⟨x1, x2, x3⟩
        rcases Int.lt_or_le x at_ with h | h
        · exact .inl ⟨x1, h, fun h' => x3 (.inl h')⟩
        · rcases Int.lt_or_le x p with h' | h'
          · exact .inr ⟨h, h'⟩
          · exact absurd (.inr ⟨h', x2⟩) x3
    · rcases (hnx x).1 hx with h | h
      · have := a5 x h; omega
      · exact h.2
  · rw [if_neg hlt2]
    rcases hlt with h | ⟨rfl, rfl, rfl⟩
    · exact absurd h hlt2
    have hout : out = [] := by
      rcases snoc_cases out with h | ⟨init, x, h⟩
      · exact h
      · subst h
        have hx := (a4 x.1).1 ⟨x, by simp, Int.le_refl _, a1.1 x (by simp)⟩
        omega
    subst hout
    refine ⟨⟨a1, by omega, (fun s hs' => by cases hs'), fun x => ?_, fun x hx => ?_, .inr ⟨0, _, rfl, hs, rfl⟩⟩, .inr ⟨rfl, rfl, rfl⟩⟩
    · rw [a4, hnx]
      constructor
      · rintro ⟨x1, x2, _⟩; omega
      · rintro ⟨x1, x2, x3⟩; exact absurd (.inr ⟨x1, x2⟩) x3
    · rcases (hnx x).1 hx with h | h
      · have := a5 x h; omega
      · exact h.2
/-- Behind the last span. -/
theorem GapAt.finish {M : List (Int × Int)} {at_ z : Int} {out : List (Int × Int)} (hz : ∀ s ∈ M, s.2 ≤ z) (h : GapAt M M.length at_ out) :
    RunsOf (fun x => ¬ Sp.Has M x) 0 z (if at_ < z then out ++ [(at_, z)] else out) := by
  obtain ⟨a1, a2, a3, a4, a5, a6⟩ := h
  rw [List.take_of_length_le (Nat.le_refl _)] at a4 a5
  have hle : at_ ≤ z ∨ at_ = 0 := by
    rcases a6 with ⟨_, rfl⟩ | ⟨j, s, _, hj, rfl⟩
    · exact .inr rfl
    · exact .inl (hz s (List.mem_of_getElem? hj))
  by_cases hlt : at_ < z
  · rw [if_pos hlt]
    refine ⟨a1.push hlt a3, fun x => ?_⟩
    rw [Sp.has_append, Sp.has_one, a4]
    simp only []
    constructor
    · rintro (⟨x1, x2, x3⟩ | ⟨x1, x2⟩)
      · exact ⟨x1, by omega, x3⟩
      · exact ⟨by omega, x2, fun h => by have := a5 x h; omega⟩
    · rintro ⟨x1, x2, x3⟩
      rcases Int.lt_or_le x at_ with h | h
      · exact .inl ⟨x1, h, x3⟩
      · exact .inr ⟨h, x2⟩
  · rw [if_neg hlt]
    refine ⟨a1, fun x => ?_⟩
    rw [a4]
    constructor
    · rintro ⟨x1, x2, x3⟩
      rcases hle with h | h
      · exact ⟨x1, by omega, x3⟩
      · omega
    · rintro ⟨x1, x2, x3⟩; exact ⟨x1, by omega, x3⟩
theorem errOf_pos {k : Nat} (h : k ≠ 0) : errOf k = .iface 51 (.int .i64 k) := by unfold errOf errno; rw [if_neg h]
theorem listOut_nil (w w' : World) (h : Below w.heap.size w w') : ListOut [] w (.slice none 0 0) w' := ⟨none, 0, rfl, Nat.le_refl _, by omega, CellsV.nil, h⟩
/-- What Gaps hands back. -/
def GapsPost (l : List (Int × Int)) (z : Int) (w : World) (e : Ending) (w' : World) : Prop :=
  ∃ v G, e = .returned (.tuple #[v, errOf (errOfL z l)]) ∧ (errOfL z l ≠ 0 → G = []) ∧ (errOfL z l = 0 → RunsOf (fun x => ¬ Sp.Has l x) 0 z G) ∧ G.length ≤ l.length + 1000 ∧ ListOut G w v w'
/-- .. and the reference's. -/
def RefGapsPost (l : List (Int × Int)) (z : Int) (w : World) (e : Ending) (w' : World) : Prop :=
  ∃ v G, e = .returned (.tuple #[v, .int .i64 (errOfL z l)]) ∧ (errOfL z l ≠ 0 → G = []) ∧ (errOfL z l = 0 → RunsOf (fun x => ¬ Sp.Has l x) 0 z G) ∧ G.length ≤ 2000 ∧ ListOut G w v w'
set_option maxHeartbeats 8000000 in
set_option maxRecDepth 100000 in
theorem refGaps_run (A : Option Addr) (n cap : Nat) (l : List (Int × Int)) (z : Int) (w : World) (hb : CellsV pairCells w w.heap.size A l) (hl : Hid (l.length = n)) (hn : n ≤ 1000) (hz : z ≤ 1000) :
    Calls Try.prog 19 #[.slice A n cap, .int .i64 z] w fun e w' => RefGapsPost l z w e w' := by
  have HB := Lib.hid hb
  have HC : Hid (∀ x y W, Calls Try.prog 10 #[.agg #[.int .i64 x, .int .i64 y], .int .i64 z] W fun e w' => e = .returned (.int .i64 (chkOf x y z)) ∧ Below W.heap.size W w') :=
    fun x y W => (refCheck_run x y z W).mono fun _ _ ⟨he, os, hw⟩ => ⟨he, hw ▸ below_grow (Below.refl _ _) (Nat.le_refl _) os⟩
  clear hb
  go_enter Try.func19, Try.ntmps19
  go_wp2_with fail
  go_loopg [6] (n + 1) (fun h s6 wr => ∃ (i : Nat), s6 = .int .i64 i ∧ Hid (i ≤ n ∧ n < i + h) ∧ Hid (errOfL z (l.take i) = 0) ∧ Hid (Below w.heap.size w wr))
  case atStart => exact ⟨0, rfl, by show _ ∧ _; omega, by show _ = _; rw [List.take_zero]; rfl, Below.refl _ _⟩
  case round =>
    obtain ⟨i, rfl, HI, HN, BW⟩ := hrel
    have hsz := BW.out.size
    by_cases hlt : i < n
    · have hltz : (i : Int) < (n : Int) := by omega
      obtain ⟨g, o, rfl, hg, hc⟩ := spans_get HB.out (by have := hl.out; omega)
      obtain ⟨s, hx⟩ : ∃ x, l[i]? = some x := ⟨_, List.getElem?_eq_getElem (by rw [hl.out]; exact hlt)⟩
      have c0 := (BW.out.cell (p := ⟨g, o + i * 2, none⟩) hg).trans (hc i s hx).1
      have c1 := (BW.out.cell (p := ⟨g, o + i * 2 + 1, none⟩) hg).trans (hc i s hx).2
      obtain ⟨p, q⟩ := s
      simp only [] at c0 c1
      have HK : Hid (errOfL z (l.take (i + 1)) = chkOf p q z) := errOfL_take hx HN.out
      clear hc hx hg
      obtain ⟨k, hk⟩ : ∃ k, chkOf p q z = k := ⟨_, rfl⟩
      rw [hk] at HK
      have HCK := Lib.hid hk
      clear hk
      go_wp2_with fail
      refine (HC.out p q wr).mono ?_
      rintro e w1 ⟨rfl, hw1⟩
      have B1 : Hid (Below w.heap.size w w1) := BW.out.trans (hw1.mono hsz)
      rw [HCK.out]
      clear hw1 c0 c1
      by_cases h0 : k = 0
      · subst h0
        go_wp2_with fail
        go_roundg (n - i)
        case measure => have := HI.out; omega
        case rel => exact ⟨i + 1, by go_num, by show _ ∧ _; have := HI.out; omega, HK.out, B1.out⟩
      · have hk0 : ((k : Int) != 0) = true := by simp; omega
        have HE : Hid (errOfL z l = k ∧ k ≠ 0) := by
          have h1 := HK.out
          exact ⟨by rw [errOfL_prefix (i := i + 1) (by rw [h1]; exact h0), h1], h0⟩
        clear h0
        go_wp2_with fail
        go_ret2
        exact ⟨_, [], by rw [HE.out.1]; rfl, fun _ => rfl, fun h => absurd (HE.out.1.symm.trans h) HE.out.2, by simp, listOut_nil _ _ B1.out⟩
    · have hltz : ¬ (i : Int) < (n : Int) := by omega
      have HE : Hid (errOfL z l = 0) := by have := HN.out; rwa [List.take_of_length_le (by have := hl.out; omega)] at this
      go_wp2_with fail
      refine (runs_run A n cap l 0 z true wr ((HB.out.below BW.out (Nat.le_refl _)).more hsz) hl hn (by omega) hz).mono ?_
      rintro e w1 ⟨v, G, rfl, hR, hG, A9, cap9, rfl, hc9, hm9, hy9, hb9⟩
      have HR : Hid (RunsOf (fun x => ¬ Sp.Has l x) 0 z G) := by show RunsOf _ _ _ _; simpa using hR
      have Y9 := Lib.hid hy9
      have B9 : Hid (Below w.heap.size w w1) := BW.out.trans (hb9.mono hsz)
      clear hR hy9 hb9
      go_wp2_with fail
      go_ret2
      exact ⟨_, G, by rw [HE.out]; rfl, fun h => absurd HE.out h, fun _ => HR.out, hG, A9, cap9, rfl, hc9, hm9, Y9.out, B9.out⟩
end Go.Proofs.Ytnbnohphdehfoaa
