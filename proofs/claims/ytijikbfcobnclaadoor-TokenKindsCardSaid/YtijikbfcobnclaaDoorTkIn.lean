/-
  Stage 6: the reference's In, Prec, Unary, Ends.
-/
import Derived.Test.YtijikbfcobnclaaDoorTkNth
namespace Go.Proofs.YtijikbfcobnclaaDoor
open Go.RowKit

/-- None of the first n words of l is s. -/
def NotYet (l s : ByteArray) (n : Nat) : Prop := ∀ j, j < n → nthF l.data.toList [] j ≠ s.data.toList
theorem in_true {l s : ByteArray} {k : Int} {n : Nat} (hs : spA k = s) (h0 : s.data.toList.isEmpty = false) (hn : n < 20) (h : nthF l.data.toList [] n = s.data.toList) : inA k l.data.toList = true := by
  unfold inA
  rw [hs, h0]
  simp only [Bool.not_false, Bool.true_and, List.any_eq_true]
  exact ⟨n, List.mem_range.2 hn, by simp [h]⟩
theorem in_false {l s : ByteArray} {k : Int} (hs : spA k = s) (h : NotYet l s 20) : inA k l.data.toList = false := by
  unfold inA
  rw [hs]
  have : ((List.range 20).any fun n => nthF l.data.toList [] n == s.data.toList) = false := by
    rw [List.any_eq_false]
    intro n hn
    have := h n (List.mem_range.1 hn)
    simpa using this
  rw [this, Bool.and_false]
theorem in_none {l s : ByteArray} {k : Int} (hs : spA k = s) (h : s.data.toList.isEmpty = true) : inA k l.data.toList = false := by
  unfold inA
  rw [hs, h]
  rfl
theorem NotYet.next {l s : ByteArray} {n : Nat} (h : NotYet l s n) (h2 : nthF l.data.toList [] n ≠ s.data.toList) : NotYet l s (n + 1) := fun j hj => by
  by_cases e : j = n
  · subst e; exact h2
  · exact h j (by omega)
set_option maxRecDepth 100000 in
set_option maxHeartbeats 1000000 in
theorem In_run (k : Int) (l : ByteArray) (b : Bool) (w : World) (hl : l.size ≤ 1000) (hb : Hid (inA k l.data.toList = b)) :
    Calls Tryd.prog 23 #[.int .i64 k, .string l] w fun e w' => e = .returned (.bool b) ∧ w = w' := by
  obtain ⟨s, hs⟩ : ∃ s, spA k = s := ⟨_, rfl⟩
  have HS := Lib.hid hs
  clear hs
  cases he : s.data.toList.isEmpty with
  | true =>
    have HB : Hid (b = false) := hb.out.symm.trans (in_none HS.out he)
    have hse : s.toList.isEmpty = true := by rw [Lib.toList_data]; exact he
    clear he
    go_enter Tryd.func23, Tryd.ntmps23
    go_wp2_with fail
    refine (refSpell_run k s _ HS).mono ?_
    rintro e w1 ⟨rfl, rfl⟩
    go_wp2_with fail
    go_loopg [6] 21 (fun h s6 wr => ∃ n : Nat, s6 = .int .i64 n ∧ Hid (n + h = 21 ∧ n ≤ 20) ∧ wr = w)
    case atStart => exact ⟨0, rfl, by show _ ∧ _; omega, rfl⟩
    case round =>
      obtain ⟨n, rfl, HN, rfl⟩ := hrel
      by_cases hlt : n < 20
      · have hlz : (n : Int) < 20 := by omega
        go_wp2_with fail
        go_roundg (20 - n)
        case measure => have := HN.out; omega
        case rel => exact ⟨n + 1, by go_num, by show _ ∧ _; have := HN.out; omega, rfl⟩
      · have hlz : ¬ (n : Int) < 20 := by omega
        go_wp2_with fail
        go_ret
        exact ⟨by rw [HB.out]; rfl, rfl⟩
  | false =>
    have HE := Lib.hid he
    have hse : s.toList.isEmpty = false := by rw [Lib.toList_data]; exact he
    clear he
    go_enter Tryd.func23, Tryd.ntmps23
    go_wp2_with fail
    refine (refSpell_run k s _ HS).mono ?_
    rintro e w1 ⟨rfl, rfl⟩
    go_wp2_with fail
    go_loopg [6] 21 (fun h s6 wr => ∃ n : Nat, s6 = .int .i64 n ∧ Hid (n + h = 21 ∧ n ≤ 20) ∧ Hid (NotYet l s n) ∧ wr = w)
    case atStart => exact ⟨0, rfl, by show _ ∧ _; omega, fun j hj => by omega, rfl⟩
    case round =>
      obtain ⟨n, rfl, HN, HY, rfl⟩ := hrel
      by_cases hlt : n < 20
      · have hlz : (n : Int) < 20 := by omega
        obtain ⟨r, hr⟩ : ∃ r : ByteArray, nthF l.data.toList [] n = r.data.toList := ⟨⟨(nthF l.data.toList [] n).toArray⟩, rfl⟩
        have HR := Lib.hid hr
        clear hr
        by_cases hq : r = s
        · have HB : Hid (b = true) := hb.out.symm.trans (in_true HS.out HE.out hlt (HR.out.trans (congrArg (fun x : ByteArray => x.data.toList) hq)))
          have hq' : (r.toList == s.toList) = true := by rw [hq]; simp
          clear hq
          go_wp2_with fail
          refine (Nth_run l r n _ hl (by omega) HR).mono ?_
          rintro e w1 ⟨rfl, rfl⟩
          go_wp2_with fail
          go_ret
          exact ⟨by rw [HB.out]; rfl, rfl⟩
        · have HX := Lib.hid (HY.out.next (fun h => hq (bytes_inj (HR.out.symm.trans h))))
          have hq' : (r.toList == s.toList) = false := by
            rw [beq_eq_false_iff_ne]
            intro h
            rw [Lib.toList_data, Lib.toList_data] at h
            exact hq (bytes_inj h)
          clear hq
          go_wp2_with fail
          refine (Nth_run l r n _ hl (by omega) HR).mono ?_
          rintro e w1 ⟨rfl, rfl⟩
          go_wp2_with fail
          go_roundg (20 - n)
          case measure => have := HN.out; omega
          case rel => exact ⟨n + 1, by go_num, by show _ ∧ _; have := HN.out; omega, HX.out, rfl⟩
      · have hlz : ¬ (n : Int) < 20 := by omega
        have h20 : n = 20 := by have := HN.out; omega
        have HB : Hid (b = false) := hb.out.symm.trans (in_false HS.out (by have := HY.out; rwa [h20] at this))
        clear h20
        go_wp2_with fail
        go_ret
        exact ⟨by rw [HB.out]; rfl, rfl⟩
end Go.Proofs.YtijikbfcobnclaaDoor
