/-
  The contracts of lines.Offset and of the reference's Offset.
-/
import Derived.Test.YtihdljadggoimaaLnLine
namespace Go.Proofs.Ytihdljadggoimaa
open Go.RowKit

/-- What a valid table says of a line that it has. -/
theorem lineOut_good {v : Bool} {L : List Int} {z line f t : Int} (hv : v = true ↔ Ln.Valid L z) (h : lineOut v L z line = (f, t, 0)) : 1 ≤ line ∧ line ≤ L.length ∧ 0 ≤ f ∧ f ≤ t ∧ t ≤ z := by
  unfold lineOut at h
  split at h
  · simp at h
  · next hvv =>
    split at h
    · simp at h
    · next hr =>
      have hV : Ln.Valid L z := hv.1 (by simpa using hvv)
      obtain ⟨j, rfl⟩ : ∃ j : Nat, line = j + 1 := ⟨(line - 1).toNat, by omega⟩
      have hj : j < L.length := by omega
      have hx : L[j]? = some L[j] := List.getElem?_eq_getElem hj
      have h0 : 0 ≤ L[j] := by
        rcases Nat.eq_zero_or_pos j with rfl | hp
        · have := hV.1
          rw [hx] at this
          rw [Option.some.inj this]
          exact Int.le_refl _
        · have := hV.2.2 0 j 0 L[j] hp hV.1 hx
          omega
      have hz : ∀ (i : Nat) (y : Int), L[i]? = some y → y ≤ z := by
        intro i y hy
        have hi := (List.getElem?_eq_some_iff.1 hy).1
        have hm : L[L.length - 1]? = some L[L.length - 1] := List.getElem?_eq_getElem (by omega)
        have h1 := hV.2.1 (L.length - 1) _ (by omega) hm
        rcases Nat.lt_or_ge i (L.length - 1) with hlt | hge
        · have := hV.2.2 i (L.length - 1) y _ hlt hy hm
          omega
        · obtain rfl : i = L.length - 1 := by omega
          rw [hm] at hy
          rw [← Option.some.inj hy]
          exact h1
      by_cases he : (j : Int) + 1 = L.length
      · rw [if_pos he, show ((j : Int) + 1).toNat - 1 = j by omega] at h
        simp [List.getD, hx] at h
        obtain ⟨rfl, rfl⟩ := h
        have := hz j _ hx
        omega
      · have hy : L[j + 1]? = some (L[j + 1]'(by omega)) := List.getElem?_eq_getElem _
        rw [if_neg he, show ((j : Int) + 1).toNat - 1 = j by omega, show ((j : Int) + 1).toNat = j + 1 by omega] at h
        simp [List.getD, hx, hy] at h
        obtain ⟨rfl, rfl⟩ := h
        have h1 := hz (j + 1) _ hy
        have h2 := hV.2.2 j (j + 1) _ _ (by omega) hx hy
        omega
/-- A place's offset, and the error's number. -/
def offOut (v : Bool) (L : List Int) (z line col : Int) : Int × Nat :=
  match lineOut v L z line with
  | (f, t, 0) => if 1 ≤ col ∧ (f + (col - 1) < t ∨ (f + (col - 1) = t ∧ line = L.length)) then (f + (col - 1), 0) else (0, 4)
  | (_, _, k) => (0, k)
theorem offOut_bad {v : Bool} {L : List Int} {z line col f t : Int} {k : Nat} (h : lineOut v L z line = (f, t, k)) (hk : k ≠ 0) : offOut v L z line col = (0, k) := by
  unfold offOut
  rw [h]
  match k, hk with
  | k + 1, _ => rfl
theorem offOut_out {v : Bool} {L : List Int} {z line col f t : Int} (h : lineOut v L z line = (f, t, 0)) (hc : ¬ (1 ≤ col ∧ (f + (col - 1) < t ∨ (f + (col - 1) = t ∧ line = L.length)))) : offOut v L z line col = (0, 4) := by
  unfold offOut
  rw [h]
  simp only []
  rw [if_neg hc]
theorem offOut_in {v : Bool} {L : List Int} {z line col f t : Int} (h : lineOut v L z line = (f, t, 0)) (hc : 1 ≤ col ∧ (f + (col - 1) < t ∨ (f + (col - 1) = t ∧ line = L.length))) : offOut v L z line col = (f + (col - 1), 0) := by
  unfold offOut
  rw [h]
  simp only []
  rw [if_pos hc]
theorem offOut_code {v : Bool} {L : List Int} {z line col x : Int} {k : Nat} (h : offOut v L z line col = (x, k)) : k ≤ 25 := by
  rcases hl : lineOut v L z line with ⟨f, t, k'⟩
  have hk := lineOut_code hl
  by_cases h0 : k' = 0
  · subst h0
    by_cases hc : 1 ≤ col ∧ (f + (col - 1) < t ∨ (f + (col - 1) = t ∧ line = L.length))
    · rw [offOut_in hl hc] at h
      cases h
      omega
    · rw [offOut_out hl hc] at h
      cases h
      omega
  · rw [offOut_bad hl h0] at h
    cases h
    omega
set_option maxHeartbeats 2000000 in
theorem refOff_run (A : Option Addr) (n cap : Nat) (L : List Int) (z line col : Int) (v : Bool) (w : World) (hv : Hid (v = true ↔ Ln.Valid L z)) (hb : Nums w w.heap.size A L) (hl : Hid (L.length = n)) (hcap : n ≤ cap) (hmax : cap ≤ 9223372036854775807) (hn : n ≤ 1000000) (hz : z ≤ 1000000)
    (x : Int) (k : Nat) (hp : Hid (offOut v L z line col = (x, k))) :
    Calls Try.prog 13 #[.slice A n cap, .int .i64 z, .int .i64 line, .int .i64 col] w fun e w' => e = .returned (.tuple #[.int .i64 x, .int .i64 k]) ∧ Below w.heap.size w w' := by
  obtain ⟨f, t, q, hq⟩ : ∃ f t q, lineOut v L z line = (f, t, q) := ⟨_, _, _, rfl⟩
  have HQ := Lib.hid hq
  have hR := Lib.hid (refLine_run A n cap L z line v w hv hb hl hcap hmax hn f t q HQ.out)
  by_cases h0 : q = 0
  · subst h0
    obtain ⟨a1, a2, a3, a4, a5⟩ := lineOut_good hv.out hq
    clear hq
    obtain ⟨u, hu⟩ : ∃ u, u = if line = L.length then t + 1 else t := ⟨_, rfl⟩
    have hu1 : f ≤ u := by rw [hu]; split <;> omega
    have hu2 : u ≤ 1000001 := by rw [hu]; split <;> omega
    have HU : Hid (if 1 ≤ col ∧ f + (col - 1) < u then (x = f + (col - 1) ∧ k = 0) else (x = 0 ∧ k = 4)) := by
      have hh := hp.out
      show if _ then _ else _
      split
      · next hc =>
        rw [offOut_in HQ.out ⟨hc.1, by
          have := hc.2
          rw [hu] at this
          split at this
          · next e => have : f + (col - 1) < t ∨ f + (col - 1) = t := by omega
                      rcases this with h | h
                      · exact .inl h
                      · exact .inr ⟨h, e⟩
          · exact .inl this⟩] at hh
        simp at hh
        exact ⟨hh.1.symm, hh.2.symm⟩
      · next hc =>
        rw [offOut_out HQ.out (by
          rintro ⟨h1, h2⟩
          apply hc
          refine ⟨h1, ?_⟩
          rw [hu]
          rcases h2 with h2 | ⟨h2, h3⟩
          · split <;> omega
          · rw [if_pos h3]; omega)] at hh
        simp at hh
        exact ⟨hh.1.symm, hh.2.symm⟩
    have Hl := Lib.hid hl.out
    by_cases he : line = L.length
    all_goals
      first | rw [if_pos he] at hu | rw [if_neg he] at hu
      have hen : (line == (n : Int)) = decide (line = L.length) := by rw [Hl.out]; rfl
      first | rw [decide_eq_true he] at hen | rw [decide_eq_false he] at hen
      clear he Hl
      first | (have hut : t + 1 = u := hu.symm; clear hu) | subst hu
      go_enter Try.func13, Try.ntmps13
      go_wp2_with fail
      refine hR.out.mono ?_
      rintro e w1 ⟨rfl, hw1⟩
      go_wp2
      go_loop [13] (fun s => ∃ o : Int, f ≤ o ∧ o ≤ u ∧ s = .int .i64 o ∧ Hid (∀ p : Int, f ≤ p → p < o → col ≠ p - f + 1)) (fun s => (1000001 - intOf s).toNat)
      case atStart => exact ⟨f, by omega, hu1, rfl, by intro p h1 h2; omega⟩
      case round =>
        obtain ⟨o, ho1, ho2, rfl, hno⟩ := hrel
        by_cases hlt : o < u
        · have hd : decide (o < u) = true := by simpa using hlt
          by_cases hc : col = o - f + 1
          · have hcc : (o - f + 1 == col) = true := by simp; omega
            have HX : Hid (x = o ∧ k = 0) := by
              have := HU.out
              rw [if_pos ⟨by omega, by omega⟩] at this
              exact ⟨by omega, this.2⟩
            go_wp2
            go_ret2
            obtain ⟨rfl, rfl⟩ := HX.out
            exact ⟨rfl, hw1⟩
          · have hcc : (o - f + 1 == col) = false := by simp; omega
            have HN : Hid (∀ p : Int, f ≤ p → p < o + 1 → col ≠ p - f + 1) := by
              intro p h1 h2
              rcases Int.lt_or_le p o with h3 | h3
              · exact hno.out p h1 h3
              · obtain rfl : p = o := by omega
                exact hc
            clear hc
            go_wp2
            go_round
            case rel => exact ⟨o + 1, by omega, by omega, by go_num, HN.out⟩
            case measure => simp [intOf]; omega
        · have hd : decide (o < u) = false := by simpa using hlt
          have HX : Hid (x = 0 ∧ k = 4) := by
            have := HU.out
            rw [if_neg (by
              rintro ⟨h1, h2⟩
              exact hno.out (f + (col - 1)) (by omega) (by omega) (by omega))] at this
            exact this
          go_wp2
          go_ret2
          obtain ⟨rfl, rfl⟩ := HX.out
          exact ⟨rfl, hw1⟩
  · have hh := hp.out
    rw [offOut_bad hq h0] at hh
    cases hh
    have hn0 : ((k : Int) == 0) = false := by simp; omega
    clear hp hq
    go_enter Try.func13, Try.ntmps13
    go_wp2_with fail
    refine hR.out.mono ?_
    rintro e w1 ⟨rfl, hw1⟩
    go_wp2
    go_ret2
    exact ⟨rfl, hw1⟩
end Go.Proofs.Ytihdljadggoimaa
