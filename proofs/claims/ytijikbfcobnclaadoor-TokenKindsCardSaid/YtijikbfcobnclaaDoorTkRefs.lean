/-
  Stage 6: the reference's Prec, Unary, Ends.
-/
import Derived.Test.YtijikbfcobnclaaDoorTkIn
namespace Go.Proofs.YtijikbfcobnclaaDoor
open Go.RowKit

def p1S : ByteArray := ⟨p1L.toArray⟩
def p2S : ByteArray := ⟨p2L.toArray⟩
def p3S : ByteArray := ⟨p3L.toArray⟩
def p4S : ByteArray := ⟨p4L.toArray⟩
def p5S : ByteArray := ⟨p5L.toArray⟩
def unS : ByteArray := ⟨unL.toArray⟩
def enS : ByteArray := ⟨enL.toArray⟩
set_option maxRecDepth 100000 in
set_option maxHeartbeats 1000000 in
theorem refPrec_run (k : Int) (r : Nat) (w : World) (hr : Hid (precA k = r)) :
    Calls Tryd.prog 12 #[.int .i64 k] w fun e w' => e = .returned (.int .i64 (r : Int)) ∧ w = w' := by
  have HE := Lib.hid (prec_eq k)
  by_cases hk : k < 40
  · have HR : Hid (r = 0) := by
      show _ = _
      rw [← hr.out, HE.out, if_pos hk]
    clear HE hr
    go_enter Tryd.func12, Tryd.ntmps12
    go_wp2_with fail
    go_ret
    exact ⟨ret_int (by rw [HR.out]; rfl), rfl⟩
  · have HR : Hid (r = rprecA k) := by
      show _ = _
      rw [← hr.out, HE.out, if_neg hk]
    clear HE hr
    obtain ⟨b1, h1⟩ : ∃ b, inA k p1L = b := ⟨_, rfl⟩
    obtain ⟨b2, h2⟩ : ∃ b, inA k p2L = b := ⟨_, rfl⟩
    obtain ⟨b3, h3⟩ : ∃ b, inA k p3L = b := ⟨_, rfl⟩
    obtain ⟨b4, h4⟩ : ∃ b, inA k p4L = b := ⟨_, rfl⟩
    obtain ⟨b5, h5⟩ : ∃ b, inA k p5L = b := ⟨_, rfl⟩
    have HR2 : Hid (r = if b1 then 1 else if b2 then 2 else if b3 then 3 else if b4 then 4 else if b5 then 5 else 0) := by
      show _ = _
      rw [HR.out, ← h1, ← h2, ← h3, ← h4, ← h5]
      rfl
    clear HR
    have g1 : Hid (inA k p1S.data.toList = b1) := h1
    have g2 : Hid (inA k p2S.data.toList = b2) := h2
    have g3 : Hid (inA k p3S.data.toList = b3) := h3
    have g4 : Hid (inA k p4S.data.toList = b4) := h4
    have g5 : Hid (inA k p5S.data.toList = b5) := h5
    clear h1 h2 h3 h4 h5
    go_enter Tryd.func12, Tryd.ntmps12
    go_wp2_with fail
    refine (In_run k p1S _ _ (by decide +kernel) g1).mono ?_
    rintro e w1 ⟨rfl, rfl⟩
    cases b1 with
    | true =>
      go_wp2_with fail
      go_ret
      exact ⟨ret_int (by rw [HR2.out]; rfl), rfl⟩
    | false =>
      go_wp2_with fail
      refine (In_run k p2S _ _ (by decide +kernel) g2).mono ?_
      rintro e w1 ⟨rfl, rfl⟩
      cases b2 with
      | true =>
        go_wp2_with fail
        go_ret
        exact ⟨ret_int (by rw [HR2.out]; rfl), rfl⟩
      | false =>
        go_wp2_with fail
        refine (In_run k p3S _ _ (by decide +kernel) g3).mono ?_
        rintro e w1 ⟨rfl, rfl⟩
        cases b3 with
        | true =>
          go_wp2_with fail
          go_ret
          exact ⟨ret_int (by rw [HR2.out]; rfl), rfl⟩
        | false =>
          go_wp2_with fail
          refine (In_run k p4S _ _ (by decide +kernel) g4).mono ?_
          rintro e w1 ⟨rfl, rfl⟩
          cases b4 with
          | true =>
            go_wp2_with fail
            go_ret
            exact ⟨ret_int (by rw [HR2.out]; rfl), rfl⟩
          | false =>
            go_wp2_with fail
            refine (In_run k p5S _ _ (by decide +kernel) g5).mono ?_
            rintro e w1 ⟨rfl, rfl⟩
            cases b5 with
            | true =>
              go_wp2_with fail
              go_ret
              exact ⟨ret_int (by rw [HR2.out]; rfl), rfl⟩
            | false =>
              go_wp2_with fail
              go_ret
              exact ⟨ret_int (by rw [HR2.out]; rfl), rfl⟩
set_option maxRecDepth 100000 in
set_option maxHeartbeats 1000000 in
theorem refUnary_run (k : Int) (r : Bool) (w : World) (hr : Hid (unaryA k = r)) :
    Calls Tryd.prog 14 #[.int .i64 k] w fun e w' => e = .returned (.bool r) ∧ w = w' := by
  have HE := Lib.hid (unary_eq k)
  by_cases hk : 40 ≤ k
  · have HR : Hid (inA k unS.data.toList = r) := by
      show inA k unL = _
      rw [← hr.out, HE.out, decide_eq_true hk, Bool.true_and]
    clear HE hr
    go_enter Tryd.func14, Tryd.ntmps14
    go_wp2_with fail
    refine (In_run k unS _ _ (by decide +kernel) HR).mono ?_
    rintro e w1 ⟨rfl, rfl⟩
    go_wp2_with fail
    go_ret
    exact ⟨rfl, rfl⟩
  · have HR : Hid (r = false) := by
      show _ = _
      rw [← hr.out, HE.out, decide_eq_false hk, Bool.false_and]
    have hk' := decide_eq_false hk
    clear HE hr hk
    go_enter Tryd.func14, Tryd.ntmps14
    go_wp2_with fail
    go_ret
    exact ⟨ret_bool HR.out.symm, rfl⟩
set_option maxRecDepth 100000 in
set_option maxHeartbeats 1000000 in
theorem refEnds_run (k : Int) (r : Bool) (w : World) (hr : Hid (endsA k = r)) :
    Calls Tryd.prog 18 #[.int .i64 k] w fun e w' => e = .returned (.bool r) ∧ w = w' := by
  have HE := Lib.hid (ends_eq k)
  by_cases hk : 1 ≤ k ∧ k ≤ 5
  · have HR : Hid (r = true) := by
      show _ = _
      rw [← hr.out, HE.out, decide_eq_true hk.1, decide_eq_true hk.2]
      rfl
    obtain ⟨k1, k2⟩ := hk
    clear HE hr
    go_enter Tryd.func18, Tryd.ntmps18
    go_wp2_with fail
    go_ret
    exact ⟨ret_bool HR.out.symm, rfl⟩
  · obtain ⟨b, hb⟩ : ∃ b, inA k enL = b := ⟨_, rfl⟩
    have HB : Hid (inA k enS.data.toList = b) := hb
    have HR : Hid (r = (b && decide (10 ≤ k))) := by
      show _ = _
      have e1 : (decide (1 ≤ k) && decide (k ≤ 5)) = false := by rw [Bool.eq_false_iff]; simpa using hk
      rw [← hr.out, HE.out, e1, hb, Bool.false_or]
    clear HE hr hb
    by_cases k1 : 1 ≤ k
    · have k2 : decide (k ≤ 5) = false := decide_eq_false (by omega)
      have k3 := decide_eq_true k1
      clear hk
      cases b with
      | false =>
        go_enter Tryd.func18, Tryd.ntmps18
        go_wp2_with fail
        refine (In_run k enS _ _ (by decide +kernel) HB).mono ?_
        rintro e w1 ⟨rfl, rfl⟩
        go_wp2_with fail
        go_ret
        exact ⟨ret_bool (by rw [HR.out]; rfl), rfl⟩
      | true =>
        obtain ⟨b2, hb2⟩ : ∃ b2, decide (10 ≤ k) = b2 := ⟨_, rfl⟩
        rw [hb2] at HR
        go_enter Tryd.func18, Tryd.ntmps18
        go_wp2_with fail
        refine (In_run k enS _ _ (by decide +kernel) HB).mono ?_
        rintro e w1 ⟨rfl, rfl⟩
        go_wp2_with fail
        go_ret
        exact ⟨ret_bool (by rw [HR.out]; rfl), rfl⟩
    · have k3 := decide_eq_false k1
      have k4 : decide (10 ≤ k) = false := decide_eq_false (by omega)
      rw [k4] at HR
      clear hk k1
      cases b with
      | false =>
        go_enter Tryd.func18, Tryd.ntmps18
        go_wp2_with fail
        refine (In_run k enS _ _ (by decide +kernel) HB).mono ?_
        rintro e w1 ⟨rfl, rfl⟩
        go_wp2_with fail
        go_ret
        exact ⟨ret_bool (by rw [HR.out]; rfl), rfl⟩
      | true =>
        go_enter Tryd.func18, Tryd.ntmps18
        go_wp2_with fail
        refine (In_run k enS _ _ (by decide +kernel) HB).mono ?_
        rintro e w1 ⟨rfl, rfl⟩
        go_wp2_with fail
        go_ret
        exact ⟨ret_bool (by rw [HR.out]; rfl), rfl⟩
end Go.Proofs.YtijikbfcobnclaaDoor
