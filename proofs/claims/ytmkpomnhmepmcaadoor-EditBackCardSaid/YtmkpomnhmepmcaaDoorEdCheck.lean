/-
  The contract of edit.Check: the first faulty edit.
-/
import Derived.Test.YtmkpomnhmepmcaaDoorEdFault
import Derived.Deep.LoopGhost
namespace Go.Proofs.YtmkpomnhmepmcaaDoor
open Go.RowKit

/-- The first faulty edit and its error. -/
def checkGo (bl : List Int) : List Ei → Option Ei → Nat → Option (Nat × Nat)
  | [], _, _ => none
  | x :: r, prev, i => if faultE bl prev x = 0 then checkGo bl r (some x) (i + 1) else some (i, faultE bl prev x)
def checkOut (bl : List Int) (l : List Ei) : Option (Nat × Nat) := checkGo bl l none 0
def AtChk (bl : List Int) (l : List Ei) (i : Nat) : Prop := checkOut bl l = checkGo bl (l.drop i) (prevOf l i) i
theorem AtChk.start (bl : List Int) (l : List Ei) : AtChk bl l 0 := rfl
theorem AtChk.next {bl : List Int} {l : List Ei} {i : Nat} {x : Ei} (h : AtChk bl l i) (hx : l[i]? = some x) (hk : faultE bl (prevOf l i) x = 0) : AtChk bl l (i + 1) := by
  unfold AtChk at *
  rw [h, drop_at hx, checkGo, if_pos hk, prevOf, hx]
theorem AtChk.bad {bl : List Int} {l : List Ei} {i k : Nat} {x : Ei} (h : AtChk bl l i) (hx : l[i]? = some x) (hk : faultE bl (prevOf l i) x = k) (h0 : k ≠ 0) : checkOut bl l = some (i, k) := by
  rw [h, drop_at hx, checkGo, if_neg (by rw [hk]; exact h0), hk]
theorem AtChk.done {bl : List Int} {l : List Ei} {i : Nat} (h : AtChk bl l i) (hi : l.length ≤ i) : checkOut bl l = none := by
  rw [h, List.drop_of_length_le hi, checkGo]
/-- The error of edit.Check. -/
def chkErr : Option (Nat × Nat) → Value
  | none => .nilIface
  | some (i, k) => errAt i k
set_option maxHeartbeats 8000000 in
theorem edCheck_run (Ab : Option Addr) (nb capb : Nat) (bl : List Int) (A : Option Addr) (n cap : Nat) (l : List Ei) (w : World) (hy : Byts w w.heap.size Ab bl) (hbl : Hid (bl.length = nb)) (hh : Heads w)
    (hb : CellsV edCells w w.heap.size A l) (hl : Hid (l.length = n)) (hn : n ≤ 12) (hs : Hid (∀ e ∈ l, e.s.size ≤ 40)) :
    Calls Tryd.prog 8 #[.slice Ab nb capb, .slice A n cap] w fun e w' => e = .returned (chkErr (checkOut bl l)) ∧ Below w.heap.size w w' := by
  have HY := Lib.hid hy
  have HH := Lib.hid hh
  have HB := Lib.hid hb
  have hglt := hh.lt
  clear hb hy hh
  have hn1 : ¬ (1000 : Int) < (n : Int) := by omega
  go_enter Tryd.func8, Tryd.ntmps8
  go_wp2_with fail
  go_loopg [13] (n + 1) (fun h s13 wr => ∃ i : Nat, s13 = .int .i64 i ∧ Hid (i ≤ n ∧ n < i + h) ∧ Hid (AtChk bl l i) ∧ Hid (Below w.heap.size w wr))
  case atStart => exact ⟨0, rfl, by show _ ∧ _; omega, AtChk.start bl l, Below.refl _ _⟩
  case round =>
    obtain ⟨i, rfl, HI, HA, BW⟩ := hrel
    by_cases hlt : i < n
    · have hltz : (i : Int) < (n : Int) := by omega
      obtain ⟨x, hx⟩ : ∃ x, l[i]? = some x := ⟨_, List.getElem?_eq_getElem (by have := hl.out; omega)⟩
      have HX := Lib.hid hx
      obtain ⟨k, hk⟩ : ∃ k, faultE bl (prevOf l i) x = k := ⟨_, rfl⟩
      have HK := Lib.hid hk
      have hsz := BW.out.size
      have HC := Lib.hid (fault_run Ab nb capb bl A n cap i l x k wr ((HY.out.below BW.out (Nat.le_refl _)).more hsz) hbl (HH.out.below BW.out hglt) ((HB.out.below BW.out (Nat.le_refl _)).more hsz) hl (by omega) HX (hs.out x (List.mem_of_getElem? hx)) HK)
      clear hx hk
      cases k with
      | zero =>
        have He : Hid (errK 0 = .nilIface) := rfl
        go_wp2_with fail
        refine HC.out.mono ?_
        rw [He.out]
        rintro e w3 ⟨rfl, hw3⟩
        have BW3 : Hid (Below w.heap.size w w3) := BW.out.trans (hw3.mono hsz)
        clear hw3
        go_wp2_with fail
        go_roundg (n - i)
        case measure => have := HI.out; omega
        case rel => exact ⟨i + 1, by go_num, by show _ ∧ _; have := HI.out; omega, HA.out.next HX.out HK.out, BW3.out⟩
      | succ k =>
        have He : Hid (errK (k + 1) = .iface 46 (.int .i64 ((k + 1 : Nat) : Int))) := rfl
        have HF : Hid (chkErr (checkOut bl l) = errAt i ((k + 1 : Nat) : Int)) := by
          show _ = _
          rw [HA.out.bad HX.out HK.out (by omega)]
          rfl
        generalize k + 1 = k1 at *
        go_wp2_with fail
        refine HC.out.mono ?_
        rw [He.out]
        rintro e w3 ⟨rfl, hw3⟩
        have BW3 : Hid (Below w.heap.size w w3) := BW.out.trans (hw3.mono hsz)
        clear hw3
        go_wp2_with fail
        go_ret
        exact ⟨by rw [HF.out]; rfl, BW3.out⟩
    · have hltz : ¬ (i : Int) < (n : Int) := by omega
      have HF : Hid (chkErr (checkOut bl l) = .nilIface) := by
        show _ = _
        rw [HA.out.done (by have := hl.out; omega)]
        rfl
      go_wp2_with fail
      go_ret
      exact ⟨by rw [HF.out]; rfl, BW.out⟩
end Go.Proofs.YtmkpomnhmepmcaaDoor
