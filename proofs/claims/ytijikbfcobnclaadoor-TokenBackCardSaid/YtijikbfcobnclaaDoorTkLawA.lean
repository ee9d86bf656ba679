/-
  Stage 6: the walks of TokenKinds and TokenOperators.
-/
import Derived.Test.YtijikbfcobnclaaDoorTkWorks
namespace Go.Proofs.YtijikbfcobnclaaDoor
open Go.RowKit

set_option maxRecDepth 100000 in
set_option maxHeartbeats 1000000 in
theorem tokenKinds_any (k : Int) (s : ByteArray) (w : World) (hs : s.size ≤ 9223372036854775807) (ht : TabAt w) :
    Calls Tryd.prog 3 #[.int .i64 k, .string s] w fun e w' => e = .returned (.bool true) ∧ Below w.heap.size w w' := by
  obtain ⟨x, hx⟩ : ∃ x, spA k = x := ⟨_, rfl⟩
  obtain ⟨p, hp⟩ : ∃ p, precA k = p := ⟨_, rfl⟩
  obtain ⟨b1, hb1⟩ : ∃ p, unaryA k = p := ⟨_, rfl⟩
  obtain ⟨z, hz⟩ : ∃ p, baseA k = p := ⟨_, rfl⟩
  obtain ⟨b2, hb2⟩ : ∃ p, endsA k = p := ⟨_, rfl⟩
  have HX := Lib.hid hx
  have HP := Lib.hid hp
  have H1 := Lib.hid hb1
  have HZ := Lib.hid hz
  have H2 := Lib.hid hb2
  have HT := Lib.hid ht
  clear hx hp hb1 hz hb2 ht
  go_enter Tryd.func3, Tryd.ntmps3
  go_wp2_with fail
  all_goals
    clear hs
    refine (Spell_run k x _ HT.out HX).mono ?_
    rintro e w1 ⟨rfl, rfl⟩
    go_wp2_with fail
    refine (refSpell_run k x _ HX).mono ?_
    rintro e w1 ⟨rfl, rfl⟩
    go_wp2_with fail
    refine (Keyword_run _ _ _ HT.out (Lib.hid (kw_ex _).choose_spec)).mono ?_
    rintro e w1 ⟨rfl, rfl⟩
    go_wp2_with fail
    refine (refKeyword_run _ _ _ (Lib.hid (kw_ex _).choose_spec)).mono ?_
    rintro e w1 ⟨rfl, rfl⟩
    go_wp2_with fail
    refine (Prec_run k p _ HP).mono ?_
    rintro e w1 ⟨rfl, rfl⟩
    go_wp2_with fail
    refine (refPrec_run k p _ HP).mono ?_
    rintro e w1 ⟨rfl, rfl⟩
    go_wp2_with fail
    refine (Unary_run k b1 _ H1).mono ?_
    rintro e w1 ⟨rfl, rfl⟩
    go_wp2_with fail
    refine (refUnary_run k b1 _ H1).mono ?_
    rintro e w1 ⟨rfl, rfl⟩
    go_wp2_with fail
    refine (Base_run k z _ HZ).mono ?_
    rintro e w1 ⟨rfl, rfl⟩
    go_wp2_with fail
    refine (refBase_run k z _ HZ).mono ?_
    rintro e w1 ⟨rfl, n, rfl⟩
    go_wp2_with fail
    refine (Ends_run k b2 _ H2).mono ?_
    rintro e w1 ⟨rfl, rfl⟩
    go_wp2_with fail
    refine (refEnds_run k b2 _ H2).mono ?_
    rintro e w1 ⟨rfl, rfl⟩
    go_wp2_with fail
    refine (works_run _ (HT.out.drewN n)).mono ?_
    rintro e w1 ⟨rfl, hw1⟩
    have HW : Hid (Below w.heap.size w w1) := (Below.drewN (Below.refl _ _) n).trans (by simpa using hw1)
    clear hw1
    go_wp2_with fail
    go_ret
    exact ⟨rfl, HW.out⟩
set_option maxRecDepth 100000 in
set_option maxHeartbeats 1000000 in
theorem tokenOperators_any (A : Option Addr) (n cap : Nat) (l : List Int) (at_ : Int) (w : World) (hb : Byts w w.heap.size A l) (hl : l.length = n) (hcap : n ≤ cap) (hmax : cap ≤ 9223372036854775807) (ht : TabAt w) :
    Calls Tryd.prog 4 #[.slice A n cap, .int .i64 at_] w fun e w' => e = .returned (.bool true) ∧ Below w.heap.size w w' := by
  by_cases h100 : n ≤ 100
  · have hz : (n : Int) ≤ 100 := by omega
    have HB := Lib.hid (hb.take n)
    have HLm : Hid ((l.take n).length = n) := by show _ = _; rw [List.length_take]; omega
    obtain ⟨k0, n0, ho⟩ := op_ex (if at_ < 0 then [] else (l.take n).drop at_.toNat)
    have HO := Lib.hid ho
    have HT := Lib.hid ht
    clear hb hl ho ht
    go_enter Tryd.func4, Tryd.ntmps4
    go_wp2_with fail
    all_goals
      refine (Operator_run A n cap at_ (l.take n) k0 n0 _ _ HB.out HLm.out (by omega) (by omega) HT.out HO).mono ?_
      rintro e w1 ⟨rfl, a, rfl⟩
      unfold opT
      go_wp2_with fail
      refine (refOperator_run A n cap at_ (l.take n) k0 n0 _ _ (HB.out.drewN a) HLm.out (by omega) (by omega) HO).mono ?_
      rintro e w1 ⟨rfl, b, rfl⟩
      unfold opT
      go_wp2_with fail
      refine (works_run (w.drewN (a + b)) (HT.out.drewN _)).mono ?_
      rintro e w1 ⟨rfl, hw1⟩
      have HW : Hid (Below w.heap.size w w1) := (Below.drewN (Below.refl _ _) (a + b)).trans (by simpa using hw1)
      clear hw1
      go_wp2_with fail
      go_ret
      exact ⟨rfl, HW.out⟩
  · have hz : (100 : Int) < (n : Int) := by omega
    have HB := Lib.hid (hb.take 100)
    have HLm : Hid ((l.take 100).length = 100) := by show _ = _; rw [List.length_take]; omega
    obtain ⟨k0, n0, ho⟩ := op_ex (if at_ < 0 then [] else (l.take 100).drop at_.toNat)
    have HO := Lib.hid ho
    have HT := Lib.hid ht
    clear hb hl ho ht
    go_enter Tryd.func4, Tryd.ntmps4
    go_wp2_with fail
    all_goals
      refine (Operator_run A 100 cap at_ (l.take 100) k0 n0 _ _ HB.out HLm.out (by omega) (by omega) HT.out HO).mono ?_
      rintro e w1 ⟨rfl, a, rfl⟩
      unfold opT
      go_wp2_with fail
      refine (refOperator_run A 100 cap at_ (l.take 100) k0 n0 _ _ (HB.out.drewN a) HLm.out (by omega) (by omega) HO).mono ?_
      rintro e w1 ⟨rfl, b, rfl⟩
      unfold opT
      go_wp2_with fail
      refine (works_run (w.drewN (a + b)) (HT.out.drewN _)).mono ?_
      rintro e w1 ⟨rfl, hw1⟩
      have HW : Hid (Below w.heap.size w w1) := (Below.drewN (Below.refl _ _) (a + b)).trans (by simpa using hw1)
      clear hw1
      go_wp2_with fail
      go_ret
      exact ⟨rfl, HW.out⟩
end Go.Proofs.YtijikbfcobnclaaDoor
