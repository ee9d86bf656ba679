/-
  The walk of the law UtfChecks: it answers true, and leaves what was there as it was.
-/
import Derived.Test.YtdafkfepgodhaaaDoorUtfLawA
namespace Go.Proofs.YtdafkfepgodhaaaDoor
open Go.RowKit

theorem scan_le : ∀ (f : Nat) (d : List Int) (p n : Nat), (scan f d p n).1 ≤ n + f
  | 0, _, _, n => by simp [scan]
  | f + 1, [], p, n => by simp [scan]
  | f + 1, c :: t, p, n => by
    rw [scan]
    split
    · simp
    · next r k _ => have := scan_le f ((c :: t).drop k) (p + k) (n + 1); omega
theorem scanAll_le (l : List Int) : (scanAll l).1 ≤ l.length + 1 := by
  have := scan_le (l.length + 1) l 0 0
  simpa [scanAll] using this
set_option maxRecDepth 100000 in
set_option maxHeartbeats 4000000 in
theorem utfChecks_good (A : Option Addr) (n cap : Nat) (l : List Int) (at_ : Int) (w : World) (m : Nat) (hS : Hid (scanAll (l.take 300) = (m, none))) (hb : Byts w w.heap.size A l) (hl : Hid (l.length = n)) (hcap : n ≤ cap) (hmax : cap ≤ 9223372036854775807) (hh : Heads w) (hg : ErrType w) :
    Calls Tryd.prog 4 #[.slice A n cap, .int .i64 at_] w fun e w' => e = .returned (.bool true) ∧ Below w.heap.size w w' := by
  have Hb := Lib.hid (hb.take 300)
  have Hh := Lib.hid hh
  have Hg := Lib.hid hg
  have hlt := hh.lt
  have hlg := hg.lt
  clear hh hg hb
  have ht : Hid ((l.take 300).length = if n ≤ 300 then n else 300) := by
    show _ = _
    rw [List.length_take, hl.out]
    split <;> omega
  have E1 : Hid (checkAns (scanAll (l.take 300)) = .nilIface) := by show _ = _; rw [hS.out]; rfl
  have E2 : Hid (refCheckAns (scanAll (l.take 300)) = .tuple #[.int .i64 0, .int .i64 (-1)]) := by show _ = _; rw [hS.out]; rfl
  have E3 : Hid (countAns (scanAll (l.take 300)) = .tuple #[.int .i64 m, .nilIface]) := by show _ = _; rw [hS.out]; rfl
  have E4 : Hid (refCountAns (scanAll (l.take 300)) = m) := by show _ = _; rw [hS.out]; rfl
  have hm : m ≤ 301 := by
    have h1 := scanAll_le (l.take 300)
    rw [hS.out, List.length_take] at h1
    simp at h1
    omega
  by_cases h300 : n ≤ 300
  all_goals
    have hlen := ht.out
    first | rw [if_pos h300] at hlen | rw [if_neg h300] at hlen
    have Hlen := Lib.hid hlen
    clear hlen ht
    go_enter Tryd.func4, Tryd.ntmps4
    go_wp2_with fail
    refine (Check_any _ _ _ _ _ Hb.out Hh.out Hlen.out (by omega) (by omega)).mono ?_
    rw [E1.out]
    rintro e w1 ⟨rfl, hw1⟩
    have b1 : Hid (Below w.heap.size w w1) := hw1
    have hs1 := hw1.size
    clear hw1
    go_wp2_with fail
    refine (refCheck_any _ _ _ _ _ (Hb.out.len_cap (Nat.le_refl _) b1.out) Hlen.out (by omega) (by omega)).mono ?_
    rw [E2.out]
    rintro e w2 ⟨rfl, hw2⟩
    have b2 : Hid (Below w.heap.size w w2) := b1.out.trans (hw2.mono hs1)
    have hs2 := b2.out.size
    clear hw2 b1
    go_wp2_with fail
    refine (Count_any _ _ _ _ _ (Hb.out.len_cap (Nat.le_refl _) b2.out) (Hh.out.below b2.out hlt) Hlen.out (by omega) (by omega)).mono ?_
    rw [E3.out]
    rintro e w3 ⟨rfl, hw3⟩
    have b3 : Hid (Below w.heap.size w w3) := b2.out.trans (hw3.mono hs2)
    have hs3 := b3.out.size
    clear hw3 b2
    go_wp2_with fail
    refine (code_nil _).mono ?_
    rintro e w4 ⟨rfl, hw4⟩
    have b4 : Hid (Below w.heap.size w w4) := b3.out.trans (hw4.mono hs3)
    have hs4 := b4.out.size
    clear hw4 b3
    go_wp2_with fail
    refine (off_nil _).mono ?_
    rintro e w5 ⟨rfl, hw5⟩
    have b5 : Hid (Below w.heap.size w w5) := b4.out.trans (hw5.mono hs4)
    have hs5 := b5.out.size
    clear hw5 b4
    go_wp2_with fail
    refine (refCount_any _ _ _ _ _ (Hb.out.len_cap (Nat.le_refl _) b5.out) Hlen.out (by omega) (by omega)).mono ?_
    rw [E4.out]
    rintro e w6 ⟨rfl, hw6⟩
    have b6 : Hid (Below w.heap.size w w6) := b5.out.trans (hw6.mono hs5)
    have hs6 := b6.out.size
    clear hw6 b5
    go_wp2_with fail
    refine (one_zero _).mono ?_
    rintro e w7 ⟨rfl, rfl⟩
    go_wp2_with fail
    refine (code_nil _).mono ?_
    rintro e w8 ⟨rfl, hw8⟩
    have b8 : Hid (Below w.heap.size w w8) := b6.out.trans (hw8.mono hs6)
    have hs8 := b8.out.size
    clear hw8 b6
    go_wp2_with fail
    refine (off_nil _).mono ?_
    rintro e w9 ⟨rfl, hw9⟩
    have b9 : Hid (Below w.heap.size w w9) := b8.out.trans (hw9.mono hs8)
    have hs9 := b9.out.size
    clear hw9 b8
    go_wp2_with fail
    refine (Boundary_any _ _ _ _ _ _ (Hb.out.len_cap (Nat.le_refl _) b9.out) Hlen.out).mono ?_
    rintro e w10 ⟨rfl, hw10⟩
    have b10 : Hid (Below w.heap.size w w10) := b9.out.trans (hw10.mono hs9)
    have hs10 := b10.out.size
    clear hw10 b9
    go_wp2_with fail
    refine (refBoundary_any _ _ _ _ _ _ (Hb.out.len_cap (Nat.le_refl _) b10.out) Hlen.out).mono ?_
    rintro e w11 ⟨rfl, hw11⟩
    have b11 : Hid (Below w.heap.size w w11) := b10.out.trans (hw11.mono hs10)
    have hs11 := b11.out.size
    clear hw11 b10
    go_wp2_with fail
    refine (works_any _ (Hh.out.below b11.out hlt) (Hg.out.below b11.out hlg)).mono ?_
    rintro e w12 ⟨rfl, hw12⟩
    go_wp2
    go_ret
    exact ⟨rfl, b11.out.trans (hw12.mono hs11)⟩
set_option maxRecDepth 100000 in
set_option maxHeartbeats 4000000 in
theorem utfChecks_bad (A : Option Addr) (n cap : Nat) (l : List Int) (at_ : Int) (w : World) (m p : Nat) (hS : Hid (scanAll (l.take 300) = (m, some p))) (hb : Byts w w.heap.size A l) (hl : Hid (l.length = n)) (hcap : n ≤ cap) (hmax : cap ≤ 9223372036854775807) (hh : Heads w) (hg : ErrType w) :
    Calls Tryd.prog 4 #[.slice A n cap, .int .i64 at_] w fun e w' => e = .returned (.bool true) ∧ Below w.heap.size w w' := by
  have Hb := Lib.hid (hb.take 300)
  have Hh := Lib.hid hh
  have Hg := Lib.hid hg
  have hlt := hh.lt
  have hlg := hg.lt
  clear hh hg hb
  have ht : Hid ((l.take 300).length = if n ≤ 300 then n else 300) := by
    show _ = _
    rw [List.length_take, hl.out]
    split <;> omega
  have E1 : Hid (checkAns (scanAll (l.take 300)) = errAt p 3) := by show _ = _; rw [hS.out]; rfl
  have E2 : Hid (refCheckAns (scanAll (l.take 300)) = .tuple #[.int .i64 3, .int .i64 p]) := by show _ = _; rw [hS.out]; rfl
  have E3 : Hid (countAns (scanAll (l.take 300)) = .tuple #[.int .i64 0, errAt p 3]) := by show _ = _; rw [hS.out]; rfl
  have E4 : Hid (refCountAns (scanAll (l.take 300)) = 0) := by show _ = _; rw [hS.out]; rfl
  by_cases h300 : n ≤ 300
  all_goals
    have hlen := ht.out
    first | rw [if_pos h300] at hlen | rw [if_neg h300] at hlen
    have Hlen := Lib.hid hlen
    clear hlen ht
    go_enter Tryd.func4, Tryd.ntmps4
    go_wp2_with fail
    refine (Check_any _ _ _ _ _ Hb.out Hh.out Hlen.out (by omega) (by omega)).mono ?_
    rw [E1.out]
    rintro e w1 ⟨rfl, hw1⟩
    have b1 : Hid (Below w.heap.size w w1) := hw1
    have hs1 := hw1.size
    clear hw1
    go_wp2_with fail
    refine (refCheck_any _ _ _ _ _ (Hb.out.len_cap (Nat.le_refl _) b1.out) Hlen.out (by omega) (by omega)).mono ?_
    rw [E2.out]
    rintro e w2 ⟨rfl, hw2⟩
    have b2 : Hid (Below w.heap.size w w2) := b1.out.trans (hw2.mono hs1)
    have hs2 := b2.out.size
    clear hw2 b1
    go_wp2_with fail
    refine (Count_any _ _ _ _ _ (Hb.out.len_cap (Nat.le_refl _) b2.out) (Hh.out.below b2.out hlt) Hlen.out (by omega) (by omega)).mono ?_
    rw [E3.out]
    rintro e w3 ⟨rfl, hw3⟩
    have b3 : Hid (Below w.heap.size w w3) := b2.out.trans (hw3.mono hs2)
    have hs3 := b3.out.size
    clear hw3 b2
    go_wp2_with fail
    refine (code_at p 3 (by omega) (by omega) _).mono ?_
    rintro e w4 ⟨rfl, hw4⟩
    have b4 : Hid (Below w.heap.size w w4) := b3.out.trans (hw4.mono hs3)
    have hs4 := b4.out.size
    clear hw4 b3
    go_wp2_with fail
    refine (off_at p 3 _ (Hg.out.below b4.out hlg)).mono ?_
    rintro e w5 ⟨rfl, hw5⟩
    have b5 : Hid (Below w.heap.size w w5) := b4.out.trans (hw5.mono hs4)
    have hs5 := b5.out.size
    clear hw5 b4
    go_wp2_with fail
    refine (refCount_any _ _ _ _ _ (Hb.out.len_cap (Nat.le_refl _) b5.out) Hlen.out (by omega) (by omega)).mono ?_
    rw [E4.out]
    rintro e w6 ⟨rfl, hw6⟩
    have b6 : Hid (Below w.heap.size w w6) := b5.out.trans (hw6.mono hs5)
    have hs6 := b6.out.size
    clear hw6 b5
    go_wp2_with fail
    refine (one_three _).mono ?_
    rintro e w7 ⟨rfl, rfl⟩
    go_wp2_with fail
    refine (code_at p 3 (by omega) (by omega) _).mono ?_
    rintro e w8 ⟨rfl, hw8⟩
    have b8 : Hid (Below w.heap.size w w8) := b6.out.trans (hw8.mono hs6)
    have hs8 := b8.out.size
    clear hw8 b6
    go_wp2_with fail
    refine (off_at p 3 _ (Hg.out.below b8.out hlg)).mono ?_
    rintro e w9 ⟨rfl, hw9⟩
    have b9 : Hid (Below w.heap.size w w9) := b8.out.trans (hw9.mono hs8)
    have hs9 := b9.out.size
    clear hw9 b8
    go_wp2_with fail
    refine (Boundary_any _ _ _ _ _ _ (Hb.out.len_cap (Nat.le_refl _) b9.out) Hlen.out).mono ?_
    rintro e w10 ⟨rfl, hw10⟩
    have b10 : Hid (Below w.heap.size w w10) := b9.out.trans (hw10.mono hs9)
    have hs10 := b10.out.size
    clear hw10 b9
    go_wp2_with fail
    refine (refBoundary_any _ _ _ _ _ _ (Hb.out.len_cap (Nat.le_refl _) b10.out) Hlen.out).mono ?_
    rintro e w11 ⟨rfl, hw11⟩
    have b11 : Hid (Below w.heap.size w w11) := b10.out.trans (hw11.mono hs10)
    have hs11 := b11.out.size
    clear hw11 b10
    go_wp2_with fail
    refine (works_any _ (Hh.out.below b11.out hlt) (Hg.out.below b11.out hlg)).mono ?_
    rintro e w12 ⟨rfl, hw12⟩
    go_wp2
    go_ret
    exact ⟨rfl, b11.out.trans (hw12.mono hs11)⟩
theorem utfChecks_any (A : Option Addr) (n cap : Nat) (l : List Int) (at_ : Int) (w : World) (hb : Byts w w.heap.size A l) (hl : l.length = n) (hcap : n ≤ cap) (hmax : cap ≤ 9223372036854775807) (hh : Heads w) (hg : ErrType w) :
    Calls Tryd.prog 4 #[.slice A n cap, .int .i64 at_] w fun e w' => e = .returned (.bool true) ∧ Below w.heap.size w w' := by
  obtain ⟨m, o, hS⟩ : ∃ m o, scanAll (l.take 300) = (m, o) := ⟨_, _, rfl⟩
  cases o with
  | none => exact utfChecks_good A n cap l at_ w m hS hb hl hcap hmax hh hg
  | some p => exact utfChecks_bad A n cap l at_ w m p hS hb hl hcap hmax hh hg
end Go.Proofs.YtdafkfepgodhaaaDoor
