/-
  The contract of the reference's Pos.
-/
import Derived.Test.YtihdljadggoimaaLnPos
namespace Go.Proofs.Ytihdljadggoimaa
open Go.RowKit

set_option maxHeartbeats 2000000 in
theorem refPos_run (A : Option Addr) (n cap : Nat) (L : List Int) (z off : Int) (v : Bool) (w : World) (hv : Hid (v = true ↔ Ln.Valid L z)) (hb : Nums w w.heap.size A L) (hl : Hid (L.length = n)) (hcap : n ≤ cap) (hmax : cap ≤ 9223372036854775807) (hn : n ≤ 1000000) (hz : z ≤ 1000000)
    (l c : Int) (k : Nat) (hp : Hid (posOut v L z off = (l, c, k))) :
    Calls Try.prog 9 #[.slice A n cap, .int .i64 z, .int .i64 off] w fun e w' => e = .returned (.tuple #[.int .i64 l, .int .i64 c, .int .i64 k]) ∧ Below w.heap.size w w' := by
  have hV := Lib.hid (check_run A n cap L z v w hv hb hl hcap (by omega))
  have HB := Lib.hid hb
  have Hp := hp.out
  unfold posOut at Hp
  clear hp hb
  cases v with
  | false =>
    rw [if_pos rfl] at Hp
    cases Hp
    go_enter Try.func9, Try.ntmps9
    go_wp2_with (go_at_call 21; refine hV.out.mono ?_; rintro e w1 ⟨rfl, hw1⟩)
    go_ret3
    exact ⟨rfl, hw1⟩
  | true =>
    rw [if_neg (by simp)] at Hp
    by_cases hr : off < 0 ∨ z < off
    · rw [if_pos hr] at Hp
      cases Hp
      by_cases h0 : off < 0
      · clear hr
        go_enter Try.func9, Try.ntmps9
        go_wp2_with (go_at_call 21; refine hV.out.mono ?_; rintro e w1 ⟨rfl, hw1⟩)
        go_ret3
        exact ⟨rfl, hw1⟩
      · have h1 : z < off := by omega
        have h0' : decide (off < 0) = false := by simpa using h0
        clear hr
        go_enter Try.func9, Try.ntmps9
        go_wp2_with (go_at_call 21; refine hV.out.mono ?_; rintro e w1 ⟨rfl, hw1⟩)
        go_ret3
        exact ⟨rfl, hw1⟩
    · rw [if_neg hr] at Hp
      have h0 : 0 ≤ off := by omega
      have h1 : off ≤ z := by omega
      have h0' : decide (off < 0) = false := by simp; omega
      have h1' : decide (z < off) = false := by simp; omega
      have HV : Hid (Ln.Valid L z) := hv.out.1 rfl
      obtain ⟨j, x, hj, hjl, hx, hx0, hxo, hgd⟩ := line_at HV.out h0
      rw [hj, Nat.add_sub_cancel, hgd] at Hp
      obtain ⟨b, o, rfl, hbl, hcell⟩ := HB.out (by omega)
      have HC := Lib.hid hcell
      have HJ := Lib.hid hj
      have HX := Lib.hid hx
      have HJI : Hid (∀ i y, L[i]? = some y → (y ≤ off ↔ i < j + 1)) := fun i y hy => by rw [← HJ.out]; exact Ln.lineOf_iff HV.out.2.2 hy
      have hjn : j < n := by have := hl.out; omega
      cases Hp
      clear hr hj hx hcell hgd hjl
      go_enter Try.func9, Try.ntmps9
      go_wp2_with (go_at_call 21; refine hV.out.mono ?_; rintro e w1 ⟨rfl, hw1⟩)
      go_loop [9] (fun s => ∃ i : Nat, i ≤ j ∧ s = .int .i64 (i + 1)) (fun s => n - (intOf s).toNat)
      case atStart => exact ⟨0, by omega, rfl⟩
      case round =>
        obtain ⟨i, hij, rfl⟩ := hrel
        by_cases hlt : i < j
        · have hy : L[i + 1]? = some (L[i + 1]'(by rw [hl.out]; omega)) := List.getElem?_eq_getElem _
          generalize L[i + 1]'(by rw [hl.out]; omega) = y at hy
          have cy : w1.cell? ⟨b, o + (i + 1), none⟩ = some (.int .i64 y) := (hw1.cell (p := ⟨b, o + (i + 1), none⟩) hbl).trans (HC.out (i + 1) y hy)
          have hyo : decide (y ≤ off) = true := by rw [decide_eq_true_eq, HJI.out _ _ hy]; omega
          have hin : decide ((i : Int) + 1 < n) = true := by simp; omega
          clear hy
          go_wp2
          go_round
          case rel => exact ⟨i + 1, by omega, by go_num⟩
          case measure => simp [intOf]; omega
        · obtain rfl : i = j := by omega
          have cx : w1.cell? ⟨b, o + i, none⟩ = some (.int .i64 x) := (hw1.cell (p := ⟨b, o + i, none⟩) hbl).trans (HC.out i x HX.out)
          by_cases hin : i + 1 < n
          · have hy : L[i + 1]? = some (L[i + 1]'(by rw [hl.out]; omega)) := List.getElem?_eq_getElem _
            generalize L[i + 1]'(by rw [hl.out]; omega) = y at hy
            have cy : w1.cell? ⟨b, o + (i + 1), none⟩ = some (.int .i64 y) := (hw1.cell (p := ⟨b, o + (i + 1), none⟩) hbl).trans (HC.out (i + 1) y hy)
            have hyo : decide (y ≤ off) = false := by rw [decide_eq_false_iff_not, HJI.out _ _ hy]; omega
            have hin' : decide ((i : Int) + 1 < n) = true := by simp; omega
            clear hy
            go_wp2
            go_quiet (fail)
            go_wp2
            go_ret3
            exact ⟨rfl, below_drewN hw1 _⟩
          · have hin' : decide ((i : Int) + 1 < n) = false := by simp; omega
            go_wp2
            go_quiet (fail)
            go_wp2
            go_ret3
            exact ⟨rfl, below_drewN hw1 _⟩
end Go.Proofs.Ytihdljadggoimaa
