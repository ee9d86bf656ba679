/-
  Stage 6: Keyword, of token and of the reference.
-/
import Derived.Test.YtijikbfcobnclaaDoorTkNth
namespace Go.Proofs.YtijikbfcobnclaaDoor
open Go.RowKit

/-- None of the keywords below m is s. -/
def NoKw (s : ByteArray) (m : Nat) : Prop := ∀ j, 10 ≤ j → j < m → tx j ≠ s
theorem NoKw.next {s : ByteArray} {m : Nat} (h : NoKw s m) (h2 : tx m ≠ s) : NoKw s (m + 1) := fun j h1 hj => by
  by_cases e : j = m
  · subst e; exact h2
  · exact h j h1 (by omega)
theorem str_eq {s t : ByteArray} (h : s = t) : (s.toList == t.toList) = true := by rw [h]; simp
theorem str_ne {s t : ByteArray} (h : s ≠ t) : (s.toList == t.toList) = false := by
  rw [beq_eq_false_iff_ne]
  intro e
  rw [Lib.toList_data, Lib.toList_data] at e
  exact h (bytes_inj e)
set_option maxRecDepth 100000 in
set_option maxHeartbeats 1000000 in
theorem Keyword_run (s : ByteArray) (r : Nat) (w : World) (ht : TabAt w) (hr : Hid (KwIs s r)) :
    Calls Tryd.prog 9 #[.string s] w fun e w' => e = .returned (.int .i64 (r : Int)) ∧ w = w' := by
  have HT := Lib.hid ht
  clear ht
  go_enter Tryd.func9, Tryd.ntmps9
  go_wp2_with fail
  go_loopg [3] 36 (fun h s3 wr => ∃ j : Nat, s3 = .int .i64 j ∧ Hid (10 ≤ j ∧ j ≤ 35 ∧ j + h = 46) ∧ Hid (NoKw s j) ∧ wr = w)
  case atStart => exact ⟨10, rfl, by show _ ∧ _; omega, fun j h1 h2 => by omega, rfl⟩
  case round =>
    obtain ⟨j, rfl, HJ, HN, rfl⟩ := hrel
    by_cases hlt : j ≤ 34
    · have hlz : (j : Int) ≤ 34 := by omega
      have hj88 : j < 88 := by omega
      have hc := HT.out j hj88
      obtain ⟨t, htx⟩ : ∃ t, tx j = t := ⟨_, rfl⟩
      rw [htx] at hc
      have HX := Lib.hid htx
      clear htx
      by_cases hq : t = s
      · have he := str_eq hq
        have HE : Hid (j = r) := KwIs.uniq (.inr ⟨HJ.out.1, by omega, HX.out.trans hq⟩) hr.out
        clear hq
        go_wp2_with fail
        go_ret
        exact ⟨by rw [← HE.out]; rfl, rfl⟩
      · have he := str_ne hq
        have HM := Lib.hid (HN.out.next (m := j) (by rw [HX.out]; exact hq))
        clear hq
        go_wp2_with fail
        go_roundg (45 - j)
        case measure => have := HJ.out; omega
        case rel => exact ⟨j + 1, by go_num, by show _ ∧ _; have := HJ.out; omega, HM.out, rfl⟩
    · have hlz : ¬ (j : Int) ≤ 34 := by omega
      have HE : Hid (0 = r) := KwIs.uniq (.inl ⟨rfl, fun i h1 h2 => HN.out i h1 (by omega)⟩) hr.out
      go_wp2_with fail
      go_ret
      exact ⟨by rw [← HE.out]; rfl, rfl⟩
set_option maxRecDepth 100000 in
set_option maxHeartbeats 1000000 in
theorem refKeyword_run (s : ByteArray) (r : Nat) (w : World) (hr : Hid (KwIs s r)) :
    Calls Tryd.prog 10 #[.string s] w fun e w' => e = .returned (.int .i64 (r : Int)) ∧ w = w' := by
  go_enter Tryd.func10, Tryd.ntmps10
  go_wp2_with fail
  go_loopg [3] 36 (fun h s3 wr => ∃ j : Nat, s3 = .int .i64 j ∧ Hid (10 ≤ j ∧ j ≤ 35 ∧ j + h = 46) ∧ Hid (NoKw s j) ∧ wr = w)
  case atStart => exact ⟨10, rfl, by show _ ∧ _; omega, fun j h1 h2 => by omega, rfl⟩
  case round =>
    obtain ⟨j, rfl, HJ, HN, rfl⟩ := hrel
    by_cases hlt : j < 35
    · have hlz : (j : Int) < 35 := by omega
      obtain ⟨t, htx⟩ : ∃ t, tx j = t := ⟨_, rfl⟩
      have HX := Lib.hid htx
      have HS : Hid (spA (j : Int) = t) := by show _ = _; rw [← htx]; exact spA_in (by omega)
      clear htx
      by_cases hq : t = s
      · have he := str_eq hq
        have HE : Hid (j = r) := KwIs.uniq (.inr ⟨HJ.out.1, by omega, HX.out.trans hq⟩) hr.out
        clear hq
        go_wp2_with fail
        refine (refSpell_run _ t _ HS).mono ?_
        rintro e w1 ⟨rfl, rfl⟩
        go_wp2_with fail
        go_ret
        exact ⟨by rw [← HE.out]; rfl, rfl⟩
      · have he := str_ne hq
        have HM := Lib.hid (HN.out.next (m := j) (by rw [HX.out]; exact hq))
        clear hq
        go_wp2_with fail
        refine (refSpell_run _ t _ HS).mono ?_
        rintro e w1 ⟨rfl, rfl⟩
        go_wp2_with fail
        go_roundg (45 - j)
        case measure => have := HJ.out; omega
        case rel => exact ⟨j + 1, by go_num, by show _ ∧ _; have := HJ.out; omega, HM.out, rfl⟩
    · have hlz : ¬ (j : Int) < 35 := by omega
      have HE : Hid (0 = r) := KwIs.uniq (.inl ⟨rfl, fun i h1 h2 => HN.out i h1 (by omega)⟩) hr.out
      go_wp2_with fail
      go_ret
      exact ⟨by rw [← HE.out]; rfl, rfl⟩
end Go.Proofs.YtijikbfcobnclaaDoor
