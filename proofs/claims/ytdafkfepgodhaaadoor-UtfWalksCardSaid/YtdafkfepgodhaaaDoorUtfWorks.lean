/-
  The contract of the laws' 'works' (the chapter's example): it answers true.
-/
import Derived.Test.YtdafkfepgodhaaaDoorUtfRest
namespace Go.Proofs.YtdafkfepgodhaaaDoor
open Go.RowKit

theorem encode_e9 (w : World) (hh : Heads w) :
    Calls Tryd.prog 9 #[.int .i32 233] w fun e w' => e = .returned (.tuple #[.slice (some ⟨w.heap.size, 0, none⟩) 2 2, .nilIface]) ∧ w' = w.alloc (.cells #[.int .u8 195, .int .u8 169] 5) :=
  encode_some 233 w (by decide) hh
theorem scan_ex : scanAll [97, 195] = (1, some 1) := by decide
theorem check_ex (A : Option Addr) (w : World) (hb : Byts w w.heap.size A [97, 195]) (hh : Heads w) :
    Calls Tryd.prog 14 #[.slice A 2 2] w fun e w' => e = .returned (errAt 1 3) ∧ Below w.heap.size w w' :=
  Check_any A 2 2 [97, 195] w hb hh rfl (by omega) (by omega)
theorem byts_new2 (w : World) (x y : Int) (hx : 0 ≤ x ∧ x ≤ 255) (hy : 0 ≤ y ∧ y ≤ 255) : Byts (w.alloc (.cells #[.int .u8 x, .int .u8 y] 5)) (w.heap.size + 1) (some ⟨w.heap.size, 0, none⟩) [x, y] :=
  Byts.new (l := [x, y]) (fun z hz => by simp at hz; omega) 5 (by omega)
set_option maxHeartbeats 1000000 in
theorem works_any (w : World) (hh : Heads w) (hg : ErrType w) :
    Calls Tryd.prog 13 #[] w fun e w' => e = .returned (.bool true) ∧ Below w.heap.size w w' := by
  have Hh := Lib.hid hh
  have Hg := Lib.hid hg
  have hlt := hh.lt
  have hlg := hg.lt
  clear hh hg
  have b1 : Below w.heap.size w (w.alloc (.cells #[.int .u8 195, .int .u8 169] 5)) := (Below.refl _ _).alloc (Nat.le_refl _) _
  have b2 : Below w.heap.size w ((w.alloc (.cells #[.int .u8 195, .int .u8 169] 5)).alloc (.cells #[.int .u8 97, .int .u8 195] 5)) := b1.alloc (by simp) _
  have Y0 := Lib.hid (byts_new2 w 195 169 (by omega) (by omega))
  have Y1 := Lib.hid (byts_new2 (w.alloc (.cells #[.int .u8 195, .int .u8 169] 5)) 97 195 (by omega) (by omega))
  have H1 : Hid (Byts ((w.alloc (.cells #[.int .u8 195, .int .u8 169] 5)).alloc (.cells #[.int .u8 97, .int .u8 195] 5)) ((w.alloc (.cells #[.int .u8 195, .int .u8 169] 5)).alloc (.cells #[.int .u8 97, .int .u8 195] 5)).heap.size (some ⟨w.heap.size + 1, 0, none⟩) [97, 195]) := by
    show Byts _ _ _ _
    have := Y1.out
    simpa using this
  have B2 := Lib.hid b2
  clear b1 b2
  go_enter Tryd.func13, Tryd.ntmps13
  go_wp2_with (first | (go_at_call 9; refine (encode_e9 _ Hh.out).mono ?_; rintro e w1 ⟨rfl, rfl⟩) | (go_at_call 14; fail))
  refine (check_ex _ _ H1.out (Hh.out.below B2.out hlt)).mono ?_
  rintro e w3 ⟨rfl, hw3⟩
  have b3 : Hid (Below w.heap.size w w3) := B2.out.trans (hw3.mono (by simp; omega))
  have hs3 : w.heap.size + 1 + 1 ≤ w3.heap.size := by have := hw3.size; simpa using this
  have HW := Lib.hid hw3
  clear hw3
  go_wp2_with fail
  have YA : Byts (w3.alloc (.cells #[.int .u8 195, .int .u8 169] 5)) (w.heap.size + 1) (some ⟨w.heap.size, 0, none⟩) [195, 169] :=
    Y0.out.keep fun b o hb => by
      rw [World.cell?_alloc_lt _ _ ⟨b, o, none⟩ (by show b < w3.heap.size; omega), HW.out.cell (p := ⟨b, o, none⟩) (by show b < _; simp; omega), World.cell?_alloc_lt _ _ ⟨b, o, none⟩ (by show b < _; simp; omega)]
  refine (Equal_any (some ⟨w.heap.size, 0, none⟩) (some ⟨w3.heap.size, 0, none⟩) 2 2 2 2 [195, 169] [195, 169] YA (byts_new2 w3 195 169 (by omega) (by omega)) rfl rfl).mono ?_
  rintro e w4 ⟨rfl, rfl⟩
  have b4 : Hid (Below w.heap.size w (w3.alloc (.cells #[.int .u8 195, .int .u8 169] 5))) := b3.out.alloc (by omega) _
  clear YA
  go_wp2_with fail
  refine (code_at 1 3 (by omega) (by omega) _).mono ?_
  rintro e w5 ⟨rfl, hw5⟩
  have b5 : Hid (Below w.heap.size w w5) := b4.out.trans (hw5.mono (by simp; omega))
  have hs5 := b5.out.size
  clear hw5
  go_wp2_with fail
  refine (off_at 1 3 _ (Hg.out.below b5.out hlg)).mono ?_
  rintro e w6 ⟨rfl, hw6⟩
  go_wp2
  go_ret
  exact ⟨rfl, b5.out.trans (hw6.mono hs5)⟩
end Go.Proofs.YtdafkfepgodhaaaDoor
