/-
  The contracts of utf.Check, utf.Boundary, of the reference's Check, Count and Boundary, and of the laws' 'one'.
-/
import Derived.Test.YtmkpomnhmepmcaaDoorUtfCount
namespace Go.Proofs.YtmkpomnhmepmcaaDoor
open Go.RowKit

/-- The answer of utf.Check. -/
def checkAns : Nat × Option Nat → Value
  | (_, none) => .nilIface
  | (_, some p) => errAt p 3
set_option maxHeartbeats 1000000 in
theorem Check_any (A : Option Addr) (n cap : Nat) (l : List Int) (w : World) (hb : Byts w w.heap.size A l) (hh : Heads w) (hl : Hid (l.length = n)) (hcap : n ≤ cap) (hn : n ≤ 16777216) :
    Calls Tryd.prog 33 #[.slice A n cap] w fun e w' => e = .returned (checkAns (scanAll l)) ∧ Below w.heap.size w w' := by
  have Hc := Lib.hid (Count_any A n cap l w hb hh hl hcap hn)
  clear hb hh
  obtain ⟨m, o, hS⟩ : ∃ m o, scanAll l = (m, o) := ⟨_, _, rfl⟩
  have HS := Lib.hid hS
  rw [hS] at Hc
  rw [hS]
  clear hS
  cases o with
  | none =>
    have He : Hid (countAns (m, none) = .tuple #[.int .i64 m, .nilIface]) := rfl
    go_enter Tryd.func33, Tryd.ntmps33
    go_wp2_with (go_at_call 44; refine Hc.out.mono ?_; rw [He.out]; rintro e w1 ⟨rfl, hw1⟩)
    go_ret
    exact ⟨rfl, hw1⟩
  | some p =>
    have He : Hid (countAns (m, some p) = .tuple #[.int .i64 0, errAt p 3]) := rfl
    go_enter Tryd.func33, Tryd.ntmps33
    go_wp2_with (go_at_call 44; refine Hc.out.mono ?_; rw [He.out]; rintro e w1 ⟨rfl, hw1⟩)
    go_ret
    exact ⟨rfl, hw1⟩

/-- Is p a boundary of l? -/
def bound (l : List Int) (p : Int) : Bool := decide (0 ≤ p) && decide (p ≤ l.length) && (decide (p = l.length) || !U.cont (l.getD p.toNat 0))
set_option maxHeartbeats 1000000 in
theorem Boundary_out (A : Option Addr) (n cap : Nat) (p : Int) (w : World) (h : p < 0 ∨ (n : Int) < p) :
    Calls Tryd.prog 32 #[.slice A n cap, .int .i64 p] w fun e w' => e = .returned (.bool false) ∧ Below w.heap.size w w' := by
  by_cases h1 : p < 0
  · go_enter Tryd.func32, Tryd.ntmps32
    go_wp2
    go_ret
    exact ⟨rfl, Below.refl _ _⟩
  · have h2 : (n : Int) < p := by omega
    have h1' : decide (p < 0) = false := by simpa using h1
    go_enter Tryd.func32, Tryd.ntmps32
    go_wp2
    go_ret
    exact ⟨rfl, Below.refl _ _⟩
set_option maxHeartbeats 1000000 in
theorem Boundary_end (A : Option Addr) (n cap : Nat) (w : World) :
    Calls Tryd.prog 32 #[.slice A n cap, .int .i64 (n : Int)] w fun e w' => e = .returned (.bool true) ∧ Below w.heap.size w w' := by
  have h1' : decide ((n : Int) < 0) = false := by simp
  go_enter Tryd.func32, Tryd.ntmps32
  go_wp2
  go_ret
  exact ⟨rfl, Below.refl _ _⟩
set_option maxHeartbeats 1000000 in
theorem Boundary_in (b o n cap k : Nat) (c : Int) (w : World) (hk : k < n) (hc : w.cell? ⟨b, o + k, none⟩ = some (.int .u8 c)) (h0 : 0 ≤ c) (h1 : c ≤ 255) :
    Calls Tryd.prog 32 #[.slice (some ⟨b, o, none⟩) n cap, .int .i64 (k : Int)] w fun e w' => e = .returned (.bool (!U.cont c)) ∧ Below w.heap.size w w' := by
  have h1' : decide ((k : Int) < 0) = false := by simp
  have h2 : ((k : Int) == (n : Int)) = false := by simp; omega
  go_enter Tryd.func32, Tryd.ntmps32
  go_wp2_with (go_at_call 43; refine (continues_any _ _ h0 h1).mono ?_; rintro e w' ⟨rfl, rfl⟩)
  go_ret
  exact ⟨rfl, Below.refl _ _⟩
theorem bound_cases (l : List Int) (p : Int) : ((p < 0 ∨ (l.length : Int) < p) ∧ bound l p = false) ∨ (p = l.length ∧ bound l p = true) ∨ ∃ k : Nat, p = k ∧ ∃ hk : k < l.length, bound l p = !U.cont l[k] := by
  by_cases h : p < 0 ∨ (l.length : Int) < p
  · refine .inl ⟨h, ?_⟩
    unfold bound
    rcases h with h | h
    · simp [show ¬ (0 ≤ p) by omega]
    · simp [show ¬ (p ≤ (l.length : Int)) by omega]
  · obtain ⟨k, rfl⟩ := Int.eq_ofNat_of_zero_le (show 0 ≤ p by omega)
    by_cases hk : k < l.length
    · refine .inr (.inr ⟨k, rfl, hk, ?_⟩)
      simp [bound, List.getD, List.getElem?_eq_getElem hk, show k ≤ l.length by omega]
      intro h1; omega
    · obtain rfl : k = l.length := by omega
      exact .inr (.inl ⟨rfl, by simp [bound]⟩)
theorem Boundary_any (A : Option Addr) (n cap : Nat) (l : List Int) (p : Int) (w : World) {B : Nat} (hb : Byts w B A l) (hl : l.length = n) :
    Calls Tryd.prog 32 #[.slice A n cap, .int .i64 p] w fun e w' => e = .returned (.bool (bound l p)) ∧ Below w.heap.size w w' := by
  subst hl
  rcases bound_cases l p with ⟨h, e⟩ | ⟨rfl, e⟩ | ⟨k, rfl, hk, e⟩ <;> rw [e]
  · exact Boundary_out A _ cap p w h
  · exact Boundary_end A _ cap w
  · obtain ⟨b, o, rfl, _, hc⟩ := hb.2 (by omega)
    have hbd := hb.1 l[k] (List.getElem_mem hk)
    exact Boundary_in b o _ cap k l[k] w hk (hc k _ (List.getElem?_eq_getElem hk)) hbd.1 hbd.2

set_option maxHeartbeats 1000000 in
theorem refBoundary_out (A : Option Addr) (n cap : Nat) (p : Int) (w : World) (h : p < 0 ∨ (n : Int) < p) :
    Calls Tryd.prog 24 #[.slice A n cap, .int .i64 p] w fun e w' => e = .returned (.bool false) ∧ Below w.heap.size w w' := by
  by_cases h1 : p < 0
  · go_enter Tryd.func24, Tryd.ntmps24
    go_wp2
    go_ret
    exact ⟨rfl, Below.refl _ _⟩
  · have h2 : (n : Int) < p := by omega
    have h1' : decide (p < 0) = false := by simpa using h1
    go_enter Tryd.func24, Tryd.ntmps24
    go_wp2
    go_ret
    exact ⟨rfl, Below.refl _ _⟩
set_option maxHeartbeats 1000000 in
theorem refBoundary_end (A : Option Addr) (n cap : Nat) (w : World) :
    Calls Tryd.prog 24 #[.slice A n cap, .int .i64 (n : Int)] w fun e w' => e = .returned (.bool true) ∧ Below w.heap.size w w' := by
  have h1' : decide ((n : Int) < 0) = false := by simp
  go_enter Tryd.func24, Tryd.ntmps24
  go_wp2
  go_ret
  exact ⟨rfl, Below.refl _ _⟩
set_option maxHeartbeats 1000000 in
theorem refBoundary_in (b o n cap k : Nat) (c : Int) (w : World) (hk : k < n) (hc : w.cell? ⟨b, o + k, none⟩ = some (.int .u8 c)) :
    Calls Tryd.prog 24 #[.slice (some ⟨b, o, none⟩) n cap, .int .i64 (k : Int)] w fun e w' => e = .returned (.bool (!U.cont c)) ∧ Below w.heap.size w w' := by
  have h1' : decide ((k : Int) < 0) = false := by simp
  have h2 : ((k : Int) == (n : Int)) = false := by simp; omega
  by_cases hlt : c < 128
  · have e : U.cont c = false := U.cont_false.2 (by omega)
    have E := Lib.hid e
    clear e
    go_enter Tryd.func24, Tryd.ntmps24
    go_wp2
    go_ret
    rw [E.out]
    exact ⟨rfl, Below.refl _ _⟩
  · have hd : decide (c < 128) = false := by simpa using hlt
    have e : (!U.cont c) = decide (191 < c) := by
      rw [Bool.eq_iff_iff]
      simp only [Bool.not_eq_true', U.cont_false, decide_eq_true_eq]
      omega
    have E := Lib.hid e
    clear e hlt
    go_enter Tryd.func24, Tryd.ntmps24
    go_wp2
    go_ret
    rw [E.out]
    exact ⟨rfl, Below.refl _ _⟩
theorem refBoundary_any (A : Option Addr) (n cap : Nat) (l : List Int) (p : Int) (w : World) {B : Nat} (hb : Byts w B A l) (hl : l.length = n) :
    Calls Tryd.prog 24 #[.slice A n cap, .int .i64 p] w fun e w' => e = .returned (.bool (bound l p)) ∧ Below w.heap.size w w' := by
  subst hl
  rcases bound_cases l p with ⟨h, e⟩ | ⟨rfl, e⟩ | ⟨k, rfl, hk, e⟩ <;> rw [e]
  · exact refBoundary_out A _ cap p w h
  · exact refBoundary_end A _ cap w
  · obtain ⟨b, o, rfl, _, hc⟩ := hb.2 (by omega)
    exact refBoundary_in b o _ cap k l[k] w hk (hc k _ (List.getElem?_eq_getElem hk))

/-- The answer of the reference's Check. -/
def refCheckAns : Nat × Option Nat → Value
  | (_, none) => .tuple #[.int .i64 0, .int .i64 (-1)]
  | (_, some p) => .tuple #[.int .i64 3, .int .i64 p]
set_option maxRecDepth 100000 in
set_option maxHeartbeats 1000000 in
theorem refCheck_any (A : Option Addr) (n cap : Nat) (l : List Int) (w : World) (hb : Byts w w.heap.size A l) (hl : Hid (l.length = n)) (hcap : n ≤ cap) (hn : n ≤ 16777216) :
    Calls Tryd.prog 25 #[.slice A n cap] w fun e w' => e = .returned (refCheckAns (scanAll l)) ∧ Below w.heap.size w w' := by
  have Hb := Lib.hid hb
  clear hb
  go_enter Tryd.func25, Tryd.ntmps25
  go_wp2
  go_loopg [4] (n + 1) (fun g s4 wr => ∃ p m : Nat, Hid (p + g = n + 1) ∧ p ≤ n ∧ s4 = .int .i64 p ∧ Hid (AtPlace l p m) ∧ Below w.heap.size w wr)
  case atStart => exact ⟨0, 0, by show _ = _; omega, by omega, rfl, AtPlace.start l, Below.refl _ _⟩
  case round =>
    obtain ⟨p, m, hg, hp, rfl, Hp, hbw⟩ := hrel
    by_cases hlt2 : p < n
    · have hpl : p < l.length := by have := hl.out; omega
      cases hd : U.dec (l.drop p) with
      | none =>
        have Hd := Lib.hid hd
        have He : Hid (refAns l p = .tuple #[.int .i64 0, .int .i64 0, .int .i64 3]) := by
          show _ = _
          rw [refAns_at l p hpl, hd]; rfl
        clear hd
        go_wp2_with (go_at_call 34; refine (refDecode_any A n cap l _ _ (Hb.out.len_cap (Nat.le_refl _) hbw) hl.out hcap (by omega)).mono ?_; rw [He.out]; rintro e w1 ⟨rfl, hw1⟩)
        go_ret2
        rw [Hp.out.bad hpl Hd.out]
        exact ⟨rfl, hbw.trans (hw1.mono hbw.size)⟩
      | some rk =>
        obtain ⟨r, k⟩ := rk
        obtain ⟨hnx, hk1, hkl⟩ := Hp.out.next hpl hd
        have Hnx := Lib.hid hnx
        have He : Hid (refAns l p = .tuple #[.int .i64 r, .int .i64 k, .int .i64 0]) := by
          show _ = _
          rw [refAns_at l p hpl, hd]; rfl
        have hkn : p + k ≤ n := by have := hl.out; omega
        clear hd hnx hkl hpl
        go_wp2_with (go_at_call 34; refine (refDecode_any A n cap l _ _ (Hb.out.len_cap (Nat.le_refl _) hbw) hl.out hcap (by omega)).mono ?_; rw [He.out]; rintro e w1 ⟨rfl, hw1⟩)
        go_roundg (n + 1 - (p + k))
        case measure => have := hg.out; omega
        case rel => exact ⟨p + k, m + 1, by show _ = _; omega, hkn, by go_num, Hnx.out, hbw.trans (hw1.mono hbw.size)⟩
    · go_wp2
      go_ret2
      rw [Hp.out.done (by have := hl.out; omega)]
      exact ⟨rfl, hbw⟩
end Go.Proofs.YtmkpomnhmepmcaaDoor
