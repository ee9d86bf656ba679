/-
  The walk of the law UtfDecodes: it answers true, and leaves what was there as it was.
-/
import Derived.Test.YtdafkfepgodhaaaDoorUtfWorks
namespace Go.Proofs.YtdafkfepgodhaaaDoor
open Go.RowKit

/-- What Code answers at an error value: the number k, whatever the world. -/
def CodeIs (e : Value) (k : Int) : Prop := ∀ w : World, Calls Tryd.prog 11 #[e] w fun v w' => v = .returned (.int .i64 k) ∧ Below w.heap.size w w'
/-- Decode and the reference's Decode answer alike. -/
theorem ans_alike (l : List Int) (p : Int) : ∃ (x k bad : Int) (e : Value), decAns l p = .tuple #[.int .i32 x, .int .i64 k, e] ∧ refAns l p = .tuple #[.int .i64 x, .int .i64 k, .int .i64 bad] ∧ CodeIs e bad ∧ 0 ≤ x ∧ x ≤ 1114111 := by
  unfold decAns refAns
  by_cases h : p < 0 ∨ (l.length : Int) ≤ p
  · rw [if_pos h, if_pos h]
    exact ⟨0, 0, 4, _, rfl, rfl, fun w => code_errno 4 (by omega) (by omega) w, by omega, by omega⟩
  · rw [if_neg h, if_neg h]
    cases hd : U.dec (l.drop p.toNat) with
    | none => exact ⟨0, 0, 3, _, rfl, rfl, fun w => code_errno 3 (by omega) (by omega) w, by omega, by omega⟩
    | some rk =>
      obtain ⟨r, k⟩ := rk
      have hr := U.isRune_iff.1 (U.enc_dec hd).1
      exact ⟨r, k, 0, .nilIface, rfl, rfl, fun w => code_nil w, by omega, by omega⟩

/-- What both Encodes leave: a slice of the bytes l, and beside it ev. -/
def EncPost (l : List Int) (ev : Value) (W : World) (e : Ending) (w' : World) : Prop := ∃ A, e = .returned (.tuple #[.slice A l.length l.length, ev]) ∧ Byts w' w'.heap.size A l ∧ Below W.heap.size W w'
def encL (r : Int) : List Int := if U.isRune r = true then U.enc r else []
def encE (r : Int) : Value := if U.isRune r = true then .nilIface else errno 4
def encW (r : Int) : Int := if U.isRune r = true then 0 else 4
theorem encE_code (r : Int) : CodeIs (encE r) (encW r) := by
  unfold encE encW
  split
  · exact fun w => code_nil w
  · exact fun w => code_errno 4 (by omega) (by omega) w
theorem encode_any (r : Int) (W : World) (hh : Heads W) : Calls Tryd.prog 9 #[.int .i32 r] W (EncPost (encL r) (encE r) W) := by
  unfold encL encE
  by_cases h : U.isRune r = true
  · rw [if_pos h, if_pos h]
    refine (encode_some r W h hh).mono ?_
    rintro e w' ⟨rfl, rfl⟩
    refine ⟨_, by rw [U.enc_length], ?_, (Below.refl _ _).alloc (Nat.le_refl _) _⟩
    exact Byts.new (U.enc_byt h) _ (by simp)
  · rw [if_neg h, if_neg h]
    refine (encode_none r W (by simpa using h)).mono ?_
    rintro e w' ⟨rfl, rfl⟩
    exact ⟨none, rfl, Byts.nil, Below.refl _ _⟩
theorem refEncode_any (r : Int) (W : World) : Calls Tryd.prog 10 #[.int .i64 r] W (EncPost (encL r) (.int .i64 (encW r)) W) := by
  unfold encL encW
  by_cases h : U.isRune r = true
  · rw [if_pos h, if_pos h]
    refine (refEncode_some r W h).mono ?_
    rintro e w' ⟨rfl, rfl⟩
    refine ⟨_, by rw [U.enc_length], ?_, (Below.refl _ _).alloc (Nat.le_refl _) _⟩
    exact Byts.new (U.enc_byt h) _ (by simp)
  · rw [if_neg h, if_neg h]
    refine (refEncode_none r W (by simpa using h)).mono ?_
    rintro e w' ⟨rfl, rfl⟩
    exact ⟨none, rfl, Byts.nil, Below.refl _ _⟩

set_option maxRecDepth 100000 in
set_option maxHeartbeats 4000000 in
theorem utfDecodes_any (A : Option Addr) (n cap : Nat) (l : List Int) (at_ r : Int) (w : World) (hb : Byts w w.heap.size A l) (hl : Hid (l.length = n)) (hcap : n ≤ cap) (hmax : cap ≤ 9223372036854775807) (hr0 : -2147483648 ≤ r) (hr1 : r ≤ 2147483647) (hh : Heads w) (hg : ErrType w) :
    Calls Tryd.prog 3 #[.slice A n cap, .int .i64 at_, .int .i32 r] w fun e w' => e = .returned (.bool true) ∧ Below w.heap.size w w' := by
  have Hb := Lib.hid (hb.take 300)
  have Hh := Lib.hid hh
  have Hg := Lib.hid hg
  have hlt := hh.lt
  have hlg := hg.lt
  clear hh hg hb
  obtain ⟨x, k, bad, e0, hA, hR, hC, hx0, hx1⟩ := ans_alike (l.take 300) at_
  have HA := Lib.hid hA
  have HR := Lib.hid hR
  have HC := Lib.hid hC
  clear hA hR hC
  have ht : Hid ((l.take 300).length = if n ≤ 300 then n else 300) := by
    show _ = _
    rw [List.length_take, hl.out]
    split <;> omega
  by_cases h300 : n ≤ 300
  all_goals
    have hlen := ht.out
    first | rw [if_pos h300] at hlen | rw [if_neg h300] at hlen
    have Hlen := Lib.hid hlen
    clear hlen ht
    go_enter Tryd.func3, Tryd.ntmps3
    go_wp2_with fail
    refine (decode_any (B := w.heap.size) _ _ _ _ _ _ Hb.out Hh.out Hlen.out (by omega) (by omega)).mono ?_
    rw [HA.out]
    rintro e w1 ⟨rfl, q, rfl⟩
    have b1 : Hid (Below w.heap.size w (w.drewN q)) := below_drewN (Below.refl _ _) q
    go_wp2_with fail
    refine (refDecode_any _ _ _ _ _ _ (show Byts (w.drewN q) (w.drewN q).heap.size _ _ from Hb.out) Hlen.out (by omega) (by omega)).mono ?_
    rw [HR.out]
    rintro e w2 ⟨rfl, hw2⟩
    have b2 : Hid (Below w.heap.size w w2) := b1.out.trans hw2
    have hs2 := b2.out.size
    clear hw2 b1
    go_wp2_with fail
    refine (encode_any r _ (Hh.out.below b2.out hlt)).mono ?_
    rintro e w3 ⟨A3, rfl, hy3, hw3⟩
    have Y3 := Lib.hid hy3
    have b3 : Hid (Below w.heap.size w w3) := b2.out.trans (hw3.mono hs2)
    have hs3 := b3.out.size
    clear hy3 hw3
    go_wp2_with fail
    refine (refEncode_any r _).mono ?_
    rintro e w4 ⟨A4, rfl, hy4, hw4⟩
    have Y4 := Lib.hid hy4
    have Y34 : Hid (Byts w4 w3.heap.size A3 (encL r)) := Y3.out.below hw4 (Nat.le_refl _)
    have hs34 : Hid (w3.heap.size ≤ w4.heap.size) := hw4.size
    have b4 : Hid (Below w.heap.size w w4) := b3.out.trans (hw4.mono hs3)
    have hs4 := b4.out.size
    clear hy4 hw4 b3
    go_wp2_with fail
    refine (HC.out _).mono ?_
    rintro e w5 ⟨rfl, hw5⟩
    have b5 : Hid (Below w.heap.size w w5) := b4.out.trans (hw5.mono hs4)
    have Y5 : Hid (Byts w5 w4.heap.size A4 (encL r)) := Y4.out.below hw5 (Nat.le_refl _)
    have Y35 : Hid (Byts w5 w3.heap.size A3 (encL r)) := Y34.out.below hw5 hs34.out
    have hs5 := b5.out.size
    clear hw5 b4
    go_wp2_with fail
    refine (Equal_any A3 A4 _ _ _ _ (encL r) (encL r) Y35.out Y5.out rfl rfl).mono ?_
    rw [decide_eq_true (rfl : encL r = encL r)]
    rintro e w6 ⟨rfl, rfl⟩
    clear Y5 Y35 Y34 Y4 Y3
    go_wp2_with fail
    refine (encE_code r _).mono ?_
    rintro e w7 ⟨rfl, hw7⟩
    have b7 : Hid (Below w.heap.size w w7) := b5.out.trans (hw7.mono hs5)
    have hs7 := b7.out.size
    clear hw7 b5
    go_wp2_with fail
    refine (works_any _ (Hh.out.below b7.out hlt) (Hg.out.below b7.out hlg)).mono ?_
    rintro e w8 ⟨rfl, hw8⟩
    go_wp2
    go_ret
    exact ⟨rfl, b7.out.trans (hw8.mono hs7)⟩
end Go.Proofs.YtdafkfepgodhaaaDoor
