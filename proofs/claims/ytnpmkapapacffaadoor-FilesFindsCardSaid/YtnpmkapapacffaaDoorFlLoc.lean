/-
  files.locate.
-/
import Derived.Test.YtnpmkapapacffaaDoorFlFindF
import Derived.Test.YtnpmkapapacffaaDoorLkCode
namespace Go.Proofs.YtnpmkapapacffaaDoor
open Go.Shelf Go.RowKit Go.Lib Go.Sort Fm

set_option maxRecDepth 100000 in
set_option maxHeartbeats 1000000 in
theorem is_nil (c : Int) (w : World) : Calls Tryd.prog 33 #[.nilIface, errno c] w fun e w' => e = .returned (.bool false) ∧ Below w.heap.size w w' := by
  have heq : ∀ w, (binOp BinOp.eql 28 .nilIface (.iface 57 (.int .i64 c))).run Tryd.prog w = .ok (.bool false) w := fun w => by kernel_rfl
  unfold errno
  go_enter Tryd.func33, Tryd.ntmps33
  go_wp2
  go_ret
  exact ⟨rfl, Below.refl _ _⟩
/-- What files.locate answers. -/
def locAns : Option (Nat × Nat) → Value
  | none => .tuple #[.int .i64 0, .int .i64 0, errno 7]
  | some (i, k) => .tuple #[.int .i64 i, .int .i64 k, .nilIface]
set_option maxHeartbeats 4000000 in
set_option maxRecDepth 100000 in
theorem locate_run (A : Option Addr) (n cap : Nat) (ps : List Pk) (s t : ByteArray) (w : World) (hb : PksAt w w.heap.size A ps) (hl : Hid (ps.length = n)) (hs : Hid (Small ps)) :
    Calls Tryd.prog 41 #[.slice A n cap, .string s, .string t] w fun e w' => e = .returned (locAns (find ps s t)) ∧ Below w.heap.size w w' := by
  have HB := Lib.hid hb
  have hn8 : n ≤ 8 := by have := hs.out.1; have := hl.out; omega
  have HI := Lib.hid (indexP_run A n cap ps s w hb hl hn8)
  have HI7 : Hid (∀ w, Calls Tryd.prog 33 #[errno 7, errno 7] w fun e w' => e = .returned (.bool true) ∧ Below w.heap.size w w') := fun w => is_errno_below 7 7 w
  have HI0 : Hid (∀ w, Calls Tryd.prog 33 #[.nilIface, errno 7] w fun e w' => e = .returned (.bool false) ∧ Below w.heap.size w w') := fun w => is_nil 7 w
  unfold errno at HI7 HI0
  clear hb
  cases h1 : ps.findIdx? (fun p => p.path = s) with
  | none =>
    have HE : Hid (find ps s t = none) := by show _ = _; unfold find; rw [h1]
    rw [h1] at HI
    unfold idxAns errno at HI
    clear h1
    go_enter Tryd.func41, Tryd.ntmps41
    go_wp2_with fail
    refine HI.out.mono ?_
    rintro e w1 ⟨rfl, hw1⟩
    have B1 := Lib.hid hw1
    clear hw1
    go_wp2_with fail
    refine (HI7.out _).mono ?_
    rintro e w2 ⟨rfl, hw2⟩
    have B2 : Hid (Below w.heap.size w w2) := B1.out.trans (hw2.mono B1.out.size)
    clear hw2
    go_wp2_with fail
    go_ret3
    exact ⟨by rw [HE.out]; rfl, B2.out⟩
  | some i =>
    obtain ⟨p, hp⟩ : ∃ p, ps[i]? = some p := ⟨_, List.getElem?_eq_getElem (List.findIdx?_eq_some_iff_getElem.1 h1).1⟩
    have hiz : (i : Int) < (n : Int) := by have := (List.getElem?_eq_some_iff.1 hp).1; have := hl.out; omega
    have HE : Hid (find ps s t = match p.files.findIdx? (fun f => f.name = t) with | none => none | some k => some (i, k)) := by
      show _ = _
      unfold find
      rw [h1]
      show (match ((ps[i]?.map Pk.files).getD []).findIdx? (fun f => f.name = t) with | none => none | some k => some (i, k)) = _
      rw [hp]
      show (match p.files.findIdx? (fun f => f.name = t) with | none => none | some k => some (i, k)) = _
      cases p.files.findIdx? (fun f => f.name = t) <;> rfl
    have hsp := hs.out.2 p (List.mem_of_getElem? hp)
    have HP := Lib.hid hp
    rw [h1] at HI
    unfold idxAns at HI
    clear h1 hp
    go_enter Tryd.func41, Tryd.ntmps41
    go_wp2_with fail
    refine HI.out.mono ?_
    rintro e w1 ⟨rfl, hw1⟩
    have B1 := Lib.hid hw1
    clear hw1
    go_wp2_with fail
    refine (HI0.out _).mono ?_
    rintro e w2 ⟨rfl, hw2⟩
    have B2 : Hid (Below w.heap.size w w2) := B1.out.trans (hw2.mono B1.out.size)
    clear hw2 B1
    obtain ⟨b, o, F, m, c, rfl, _, c0, c1, hm, hmc, hcm, hF⟩ := (HB.out.below B2.out (Nat.le_refl _)).at HP.out
    have hm6 : m ≤ 6 := by omega
    have HF := Lib.hid (indexF_run F m c p.files t w2 (hF.more B2.out.size) hm.symm (by omega))
    clear hm hmc hcm hF hsp
    cases h2 : p.files.findIdx? (fun f => f.name = t) with
    | none =>
      have HE2 : Hid (find ps s t = none) := by show _ = _; rw [HE.out, h2]
      rw [h2] at HF
      unfold idxAns errno at HF
      clear h2 HE
      go_wp2_with fail
      refine HF.out.mono ?_
      rintro e w3 ⟨rfl, hw3⟩
      have B3 : Hid (Below w.heap.size w w3) := B2.out.trans (hw3.mono B2.out.size)
      clear hw3
      go_wp2_with fail
      refine (HI7.out _).mono ?_
      rintro e w4 ⟨rfl, hw4⟩
      have B4 : Hid (Below w.heap.size w w4) := B3.out.trans (hw4.mono B3.out.size)
      clear hw4
      go_wp2_with fail
      go_ret3
      exact ⟨by rw [HE2.out]; rfl, B4.out⟩
    | some k =>
      have HE2 : Hid (find ps s t = some (i, k)) := by show _ = _; rw [HE.out, h2]
      rw [h2] at HF
      unfold idxAns at HF
      clear h2 HE
      go_wp2_with fail
      refine HF.out.mono ?_
      rintro e w3 ⟨rfl, hw3⟩
      have B3 : Hid (Below w.heap.size w w3) := B2.out.trans (hw3.mono B2.out.size)
      clear hw3
      go_wp2_with fail
      refine (HI0.out _).mono ?_
      rintro e w4 ⟨rfl, hw4⟩
      have B4 : Hid (Below w.heap.size w w4) := B3.out.trans (hw4.mono B3.out.size)
      clear hw4
      go_wp2_with fail
      go_ret3
      exact ⟨by rw [HE2.out]; rfl, B4.out⟩
end Go.Proofs.YtnpmkapapacffaaDoor
