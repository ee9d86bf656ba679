/-
  The contract of the reference's Check: is a table one that may be?
-/
import Derived.Test.YtihdljadggoimaaLnValid
namespace Go.Proofs.Ytihdljadggoimaa
open Go.RowKit

set_option maxHeartbeats 2000000 in
theorem check_run (A : Option Addr) (n cap : Nat) (L : List Int) (z : Int) (v : Bool) (w : World) (hv : Hid (v = true ↔ Ln.Valid L z)) (hb : Nums w w.heap.size A L) (hl : Hid (L.length = n)) (hcap : n ≤ cap) (hmax : cap ≤ 9223372036854775807) :
    Calls Try.prog 21 #[.slice A n cap, .int .i64 z] w fun e w' => e = .returned (.bool v) ∧ Below w.heap.size w w' := by
  match n, hl, hcap with
  | 0, hl, hcap =>
    have hf : Hid (v = false) := bool_false hv.out (by rw [List.eq_nil_of_length_eq_zero hl.out]; exact Ln.not_valid_nil z)
    go_enter Try.func21, Try.ntmps21
    go_wp2
    go_ret
    exact ⟨ret_bool hf.out.symm, Below.refl _ _⟩
  | m + 1, hl, hcap =>
    have HB := Lib.hid hb
    obtain ⟨b, o, rfl, hbl, hcell⟩ := hb (by rw [hl.out]; omega)
    have hx0 : L[0]? = some (L[0]'(by rw [hl.out]; omega)) := List.getElem?_eq_getElem _
    generalize L[0]'(by rw [hl.out]; omega) = x0 at hx0
    have hxm : L[m]? = some (L[m]'(by rw [hl.out]; omega)) := List.getElem?_eq_getElem _
    generalize L[m]'(by rw [hl.out]; omega) = xm at hxm
    have c0 := hcell 0 x0 hx0
    have cm := hcell m xm hxm
    simp only [Nat.add_zero] at c0
    have hnn : ((m : Int) + 1 == 0) = false := by simp; omega
    have HX := Lib.hid hx0
    have HM := Lib.hid hxm
    have HC := Lib.hid hcell
    clear hcell hb hx0 hxm
    by_cases hz : x0 = 0
    · subst hz
      by_cases hle : z < xm
      · have hf : Hid (v = false) := bool_false hv.out (Ln.not_valid_last HM.out (by rw [hl.out]) hle)
        go_enter Try.func21, Try.ntmps21
        go_wp2
        go_ret
        exact ⟨ret_bool hf.out.symm, Below.refl _ _⟩
      · go_enter Try.func21, Try.ntmps21
        go_wp2
        go_loopw [5] (fun s wr => ∃ i : Nat, i ≤ m ∧ s = .int .i64 (i + 1) ∧ Hid (Ln.Rises L i) ∧ Below w.heap.size w wr) (fun s _ => m + 1 - (intOf s).toNat)
        case atStart => exact ⟨0, by omega, rfl, Ln.Rises.zero L, Below.refl _ _⟩
        case round =>
          obtain ⟨i, him, rfl, hR, hbw⟩ := hrel
          by_cases hlt : i < m
          · have hx : L[i]? = some (L[i]'(by rw [hl.out]; omega)) := List.getElem?_eq_getElem _
            generalize L[i]'(by rw [hl.out]; omega) = x at hx
            have hy : L[i + 1]? = some (L[i + 1]'(by rw [hl.out]; omega)) := List.getElem?_eq_getElem _
            generalize L[i + 1]'(by rw [hl.out]; omega) = y at hy
            have cx : wr.cell? ⟨b, o + i, none⟩ = some (.int .i64 x) := (hbw.cell (p := ⟨b, o + i, none⟩) hbl).trans (HC.out i x hx)
            have cy : wr.cell? ⟨b, o + (i + 1), none⟩ = some (.int .i64 y) := (hbw.cell (p := ⟨b, o + (i + 1), none⟩) hbl).trans (HC.out (i + 1) y hy)
            have Hx := Lib.hid hx
            have Hy := Lib.hid hy
            clear hx hy c0 cm
            by_cases hyx : y ≤ x
            · have hf : Hid (v = false) := bool_false hv.out (Ln.not_valid_step Hx.out Hy.out hyx)
              go_wp2
              go_quiet (fail)
              go_wp2
              go_ret
              exact ⟨ret_bool hf.out.symm, below_drewN hbw _⟩
            · go_wp2
              go_quiet (fail)
              go_wp2
              go_roundw
              case rel => exact ⟨i + 1, by omega, by go_num, hR.out.step Hx.out Hy.out (by omega), below_drewN hbw _⟩
              case measure => simp [intOf]; omega
          · have hf : Hid (v = true) := by
              obtain rfl : i = m := by omega
              exact hv.out.2 (Ln.valid_of HX.out hR.out (by rw [hl.out]) HM.out (by omega))
            go_wp2
            go_ret
            exact ⟨ret_bool hf.out.symm, hbw⟩
    · have hf : Hid (v = false) := bool_false hv.out (Ln.not_valid_head HX.out hz)
      go_enter Try.func21, Try.ntmps21
      go_wp2
      go_ret
      exact ⟨ret_bool hf.out.symm, Below.refl _ _⟩
end Go.Proofs.Ytihdljadggoimaa
