/-
  The contracts of lines.valid and of the reference's Check: is a table one that may be?
-/
import Derived.Test.YtihdljadggoimaaEIs
import Derived.Test.YtihdljadggoimaaLinesMath
namespace Go.Proofs.Ytihdljadggoimaa
open Go.RowKit

namespace Ln
/-- The first i steps of S rise. -/
def Rises (S : List Int) (i : Nat) : Prop := ∀ j, j < i → ∀ x y : Int, S[j]? = some x → S[j + 1]? = some y → x < y
theorem Rises.zero (S : List Int) : Rises S 0 := fun j hj => by omega
theorem Rises.step {S : List Int} {i : Nat} (h : Rises S i) {x y : Int} (hx : S[i]? = some x) (hy : S[i + 1]? = some y) (hlt : x < y) : Rises S (i + 1) := by
  intro j hj a b ha hb
  rcases Nat.lt_or_ge j i with h1 | h1
  · exact h j h1 a b ha hb
  · obtain rfl : j = i := by omega
    rw [hx] at ha; rw [hy] at hb
    obtain rfl := Option.some.inj ha
    obtain rfl := Option.some.inj hb
    exact hlt
theorem not_valid_nil (z : Int) : ¬ Valid [] z := fun h => by simpa using h.1
theorem not_valid_head {S : List Int} {z x : Int} (hx : S[0]? = some x) (h : x ≠ 0) : ¬ Valid S z := fun hv => by
  rw [hv.1] at hx
  exact h (Option.some.inj hx).symm
theorem not_valid_step {S : List Int} {z x y : Int} {i : Nat} (hx : S[i]? = some x) (hy : S[i + 1]? = some y) (h : y ≤ x) : ¬ Valid S z := fun hv => by
  have := hv.2.2 i (i + 1) x y (by omega) hx hy
  omega
theorem not_valid_last {S : List Int} {z x : Int} {i : Nat} (hx : S[i]? = some x) (hi : i + 1 = S.length) (h : z < x) : ¬ Valid S z := fun hv => by
  have := hv.2.1 i x hi hx
  omega
theorem valid_of {S : List Int} {z x : Int} {i : Nat} (h0 : S[0]? = some 0) (hr : Rises S i) (hi : i + 1 = S.length) (hx : S[i]? = some x) (hle : x ≤ z) : Valid S z := by
  refine ⟨h0, fun j y hj hy => ?_, sorted_of_next fun j a b ha hb => ?_⟩
  · obtain rfl : j = i := by omega
    rw [hx] at hy
    obtain rfl := Option.some.inj hy
    exact hle
  · have := (List.getElem?_eq_some_iff.1 hb).1
    exact hr j (by omega) a b ha hb
end Ln
theorem bool_false {v : Bool} {p : Prop} (h : v = true ↔ p) (hp : ¬ p) : v = false := by
  cases v
  · rfl
  · exact absurd (h.1 rfl) hp

set_option maxHeartbeats 2000000 in
theorem valid_run (A : Option Addr) (n cap : Nat) (L : List Int) (z : Int) (v : Bool) (w : World) (hv : Hid (v = true ↔ Ln.Valid L z)) (hb : Nums w w.heap.size A L) (hl : Hid (L.length = n)) (hcap : n ≤ cap) (hmax : cap ≤ 9223372036854775807) :
    Calls Try.prog 18 #[.agg #[.slice A n cap, .int .i64 z]] w fun e w' => e = .returned (.bool v) ∧ Below w.heap.size w w' := by
  match n, hl, hcap with
  | 0, hl, hcap =>
    have hf : Hid (v = false) := bool_false hv.out (by rw [List.eq_nil_of_length_eq_zero hl.out]; exact Ln.not_valid_nil z)
    go_enter Try.func18, Try.ntmps18
    go_wp2
    go_ret
    exact ⟨ret_bool hf.out.symm, (Below.refl _ _).alloc (Nat.le_refl _) _⟩
  | m + 1, hl, hcap =>
    obtain ⟨b, o, rfl, hbl, hcell⟩ := (hb.alloc (.cells #[.slice A (m + 1) cap, .int .i64 z] 24)) (by rw [hl.out]; omega)
    have hx0 : L[0]? = some (L[0]'(by rw [hl.out]; omega)) := List.getElem?_eq_getElem _
    generalize L[0]'(by rw [hl.out]; omega) = x0 at hx0
    have hxm : L[m]? = some (L[m]'(by rw [hl.out]; omega)) := List.getElem?_eq_getElem _
    generalize L[m]'(by rw [hl.out]; omega) = xm at hxm
    have c0 := hcell 0 x0 hx0
    have cm := hcell m xm hxm
    simp only [Nat.add_zero] at c0
    have hnn : ((m : Int) + 1 == 0) = false := by simp; omega
    have HX := Lib.hid hx0
    have HM := Lib.hid hxm
    have HC : Hid (∀ i x y, L[i]? = some x → L[i + 1]? = some y → (w.alloc (.cells #[.slice (some ⟨b, o, none⟩) (m + 1) cap, .int .i64 z] 24)).cell? ⟨b, o + i, none⟩ = some (.int .i64 x) ∧ (w.alloc (.cells #[.slice (some ⟨b, o, none⟩) (m + 1) cap, .int .i64 z] 24)).cell? ⟨b, o + 1 + i, none⟩ = some (.int .i64 y)) :=
      fun i x y hx hy => ⟨hcell i x hx, by have := hcell (i + 1) y hy; rwa [show o + (i + 1) = o + 1 + i by omega] at this⟩
    clear hcell hb hx0 hxm
    by_cases hz : x0 = 0
    · subst hz
      by_cases hm : m = 0
      · subst hm
        obtain rfl : xm = 0 := by
          have := HX.out
          rw [HM.out] at this
          exact Option.some.inj this
        have hf : Hid (v = decide (0 ≤ z)) := by
          show _ = _
          by_cases hle : 0 ≤ z
          · rw [decide_eq_true hle, hv.out.2 (Ln.valid_of HX.out (Ln.Rises.zero L) (by rw [hl.out]) HM.out hle)]
          · rw [decide_eq_false hle, bool_false hv.out (Ln.not_valid_last HM.out (by rw [hl.out]) (by omega))]
        clear HC cm hmax
        by_cases hc1 : cap = 1
        · subst hc1
          go_enter Try.func18, Try.ntmps18
          go_wp2
          refine wp_loop_rounds 1 ?_
          rw [rounds_succ]
          go_wp2
          go_region
          all_goals go_wp2
          all_goals go_ret
          all_goals exact ⟨ret_bool hf.out.symm, ((Below.refl _ _).alloc (Nat.le_refl _) _).drew⟩
        · go_enter Try.func18, Try.ntmps18
          go_wp2
          refine wp_loop_rounds 1 ?_
          rw [rounds_succ]
          go_wp2
          go_region
          all_goals go_wp2
          all_goals go_ret
          all_goals exact ⟨ret_bool hf.out.symm, ((Below.refl _ _).alloc (Nat.le_refl _) _).drew⟩
      · have hc1 : ¬ cap = 1 := by omega
        go_enter Try.func18, Try.ntmps18
        go_wp2
        go_loop [20] (fun s => ∃ i : Nat, i ≤ m ∧ s = .int .i64 i ∧ Hid (Ln.Rises L i)) (fun s => m - (intOf s).toNat)
        case atStart => exact ⟨0, by omega, rfl, Ln.Rises.zero L⟩
        case round =>
          obtain ⟨i, him, rfl, hR⟩ := hrel
          by_cases hlt : i < m
          · have hx : L[i]? = some (L[i]'(by rw [hl.out]; omega)) := List.getElem?_eq_getElem _
            generalize L[i]'(by rw [hl.out]; omega) = x at hx
            have hy : L[i + 1]? = some (L[i + 1]'(by rw [hl.out]; omega)) := List.getElem?_eq_getElem _
            generalize L[i + 1]'(by rw [hl.out]; omega) = y at hy
            obtain ⟨cx, cy⟩ := HC.out i x y hx hy
            have Hx := Lib.hid hx
            have Hy := Lib.hid hy
            clear hx hy
            by_cases hyx : y ≤ x
            · have hf : Hid (v = false) := bool_false hv.out (Ln.not_valid_step Hx.out Hy.out hyx)
              go_wp2
              go_ret
              exact ⟨ret_bool hf.out.symm, (Below.refl _ _).alloc (Nat.le_refl _) _⟩
            · go_wp2
              go_round
              case rel => exact ⟨i + 1, by omega, by go_num, hR.out.step Hx.out Hy.out (by omega)⟩
              case measure => simp [intOf]; omega
          · have hf : Hid (v = decide (xm ≤ z)) := by
              obtain rfl : i = m := by omega
              show _ = _
              by_cases hle : xm ≤ z
              · rw [decide_eq_true hle, hv.out.2 (Ln.valid_of HX.out hR.out (by rw [hl.out]) HM.out hle)]
              · rw [decide_eq_false hle, bool_false hv.out (Ln.not_valid_last HM.out (by rw [hl.out]) (by omega))]
            go_wp2
            go_quiet (fail)
            go_wp2
            go_ret
            exact ⟨ret_bool hf.out.symm, below_drewN ((Below.refl _ _).alloc (Nat.le_refl _) _) _⟩
    · have hf : Hid (v = false) := bool_false hv.out (Ln.not_valid_head HX.out hz)
      go_enter Try.func18, Try.ntmps18
      go_wp2
      go_ret
      exact ⟨ret_bool hf.out.symm, (Below.refl _ _).alloc (Nat.le_refl _) _⟩
end Go.Proofs.Ytihdljadggoimaa
