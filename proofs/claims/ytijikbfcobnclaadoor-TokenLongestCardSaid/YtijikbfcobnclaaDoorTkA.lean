/-
  Stage 6: token's Spell, Prec, Unary, Ends, Base and the reference's Nth.
-/
import Derived.Test.YtijikbfcobnclaaDoorTkMath
import Derived.Laws.IdiomStrings
namespace Go.Proofs.YtijikbfcobnclaaDoor
open Go.RowKit

/-- The table of texts. -/
def TabAt (w : World) : Prop := ∀ k : Nat, k < 88 → w.cell? ⟨0, k, none⟩ = some (.string (tx k))
theorem TabAt.lt {w : World} (h : TabAt w) : 0 < w.heap.size := by
  have h1 := h 1 (by omega)
  rcases Nat.lt_or_ge 0 w.heap.size with h2 | h2
  · exact h2
  · simp [World.cell?, Array.getElem?_eq_none h2] at h1
theorem TabAt.below {w w' : World} {B : Nat} (h : TabAt w) (hB : 0 < B) (hb : Below B w w') : TabAt w' := fun k hk => (hb.cell hB).trans (h k hk)
/-- An index into a string. -/
theorem index_str {s : ByteArray} {i : Nat} {b : UInt8} (h : s.data.toList[i]? = some b) (W : World) : (Instr.index 9 (.string s) (.int .i64 (i : Int))).run Tryd.prog W = .ok (.int .u8 (b.toNat : Int)) W := by
  obtain ⟨hi, he⟩ := List.getElem?_eq_some_iff.1 h
  have hi2 : i < s.size := by simpa using hi
  rw [run_index_string _ _ _ _ _ Tryd.underlying9, dif_pos (by omega)]
  have : s[(i : Int).toNat]'(by simpa using hi2) = b := by
    rw [← he]
    simp
    rfl
  rw [this]
set_option maxHeartbeats 400000 in
theorem Spell_in (k : Nat) (s : ByteArray) (w : World) (hk : k < 88) (hc : w.cell? ⟨0, k, none⟩ = some (.string s)) :
    Calls Tryd.prog 7 #[.int .i64 k] w fun e w' => e = .returned (.string s) ∧ w = w' := by
  have h1 : decide ((k : Int) < 0) = false := by simp
  go_enter Tryd.func7, Tryd.ntmps7
  go_wp2
  go_ret
  exact ⟨rfl, rfl⟩
set_option maxHeartbeats 400000 in
theorem Spell_out (k : Int) (w : World) (h : k < 0 ∨ 88 ≤ k) :
    Calls Tryd.prog 7 #[.int .i64 k] w fun e w' => e = .returned (.string ⟨#[]⟩) ∧ w = w' := by
  by_cases h1 : k < 0
  · go_enter Tryd.func7, Tryd.ntmps7
    go_wp2
    go_ret
    exact ⟨rfl, rfl⟩
  · have h2 : 88 ≤ k := by omega
    have h1' : decide (k < 0) = false := by simpa using h1
    go_enter Tryd.func7, Tryd.ntmps7
    go_wp2
    go_ret
    exact ⟨rfl, rfl⟩
theorem Spell_run (k : Int) (s : ByteArray) (w : World) (ht : TabAt w) (hs : Hid (spA k = s)) :
    Calls Tryd.prog 7 #[.int .i64 k] w fun e w' => e = .returned (.string s) ∧ w = w' := by
  by_cases h : 0 ≤ k ∧ k < 88
  · obtain ⟨n, rfl⟩ := Int.eq_ofNat_of_zero_le h.1
    have hn : n < 88 := by omega
    rw [← hs.out, spA_in hn]
    exact Spell_in n (tx n) w hn (ht n hn)
  · rw [← hs.out, spA_out (by omega)]
    exact Spell_out k w (by omega)
set_option maxHeartbeats 4000000 in
theorem Prec_run (k : Int) (r : Nat) (w : World) (hr : Hid (precA k = r)) :
    Calls Tryd.prog 11 #[.int .i64 k] w fun e w' => e = .returned (.int .i64 (r : Int)) ∧ w = w' := by
  have hk : k = 42 ∨ k = 43 ∨ k = 44 ∨ k = 48 ∨ k = 49 ∨ k = 45 ∨ k = 50 ∨ k = 40 ∨ k = 41 ∨ k = 46 ∨ k = 47 ∨ k = 67 ∨ k = 73 ∨ k = 68 ∨ k = 74 ∨ k = 69 ∨ k = 75 ∨ k = 62 ∨ k = 63 ∨ (k ≠ 42 ∧ k ≠ 43 ∧ k ≠ 44 ∧ k ≠ 48 ∧ k ≠ 49 ∧ k ≠ 45 ∧ k ≠ 50 ∧ k ≠ 40 ∧ k ≠ 41 ∧ k ≠ 46 ∧ k ≠ 47 ∧ k ≠ 67 ∧ k ≠ 73 ∧ k ≠ 68 ∧ k ≠ 74 ∧ k ≠ 69 ∧ k ≠ 75 ∧ k ≠ 62 ∧ k ≠ 63) := by omega
  rcases hk with rfl | rfl | rfl | rfl | rfl | rfl | rfl | rfl | rfl | rfl | rfl | rfl | rfl | rfl | rfl | rfl | rfl | rfl | rfl | hk
  rotate_right 1
  · have hn := fun c => (beq_eq_false_iff_ne (a := k) (b := c)).2
    obtain ⟨h42, h43, h44, h48, h49, h45, h50, h40, h41, h46, h47, h67, h73, h68, h74, h69, h75, h62, h63⟩ := hk
    have g42 := hn 42 h42
    have g43 := hn 43 h43
    have g44 := hn 44 h44
    have g48 := hn 48 h48
    have g49 := hn 49 h49
    have g45 := hn 45 h45
    have g50 := hn 50 h50
    have g40 := hn 40 h40
    have g41 := hn 41 h41
    have g46 := hn 46 h46
    have g47 := hn 47 h47
    have g67 := hn 67 h67
    have g73 := hn 73 h73
    have g68 := hn 68 h68
    have g74 := hn 74 h74
    have g69 := hn 69 h69
    have g75 := hn 75 h75
    have g62 := hn 62 h62
    have g63 := hn 63 h63
    have HE : Hid (precA k = 0) := by
      show _ = _
      unfold precA; repeat (rw [if_neg (by omega)])
    have HR := hr.out.symm.trans HE.out
    subst HR
    clear hn HE hr h42 h43 h44 h48 h49 h45 h50 h40 h41 h46 h47 h67 h73 h68 h74 h69 h75 h62 h63
    go_enter Tryd.func11, Tryd.ntmps11
    go_wp2
    go_ret
    exact ⟨rfl, rfl⟩
  all_goals
    have HR := hr.out.symm
    subst HR
    clear hr
    go_enter Tryd.func11, Tryd.ntmps11
    go_wp2
    go_ret
    exact ⟨rfl, rfl⟩
set_option maxHeartbeats 4000000 in
theorem Unary_run (k : Int) (r : Bool) (w : World) (hr : Hid (unaryA k = r)) :
    Calls Tryd.prog 13 #[.int .i64 k] w fun e w' => e = .returned (.bool r) ∧ w = w' := by
  have hk : k = 40 ∨ k = 41 ∨ k = 71 ∨ k = 47 ∨ k = 42 ∨ k = 45 ∨ k = 64 ∨ (k ≠ 40 ∧ k ≠ 41 ∧ k ≠ 71 ∧ k ≠ 47 ∧ k ≠ 42 ∧ k ≠ 45 ∧ k ≠ 64) := by omega
  rcases hk with rfl | rfl | rfl | rfl | rfl | rfl | rfl | hk
  rotate_right 1
  · have hn := fun c => (beq_eq_false_iff_ne (a := k) (b := c)).2
    obtain ⟨h40, h41, h71, h47, h42, h45, h64⟩ := hk
    have g40 := hn 40 h40
    have g41 := hn 41 h41
    have g71 := hn 71 h71
    have g47 := hn 47 h47
    have g42 := hn 42 h42
    have g45 := hn 45 h45
    have g64 := hn 64 h64
    have HE : Hid (unaryA k = false) := by
      show _ = _
      rw [Bool.eq_false_iff]; simp [unaryA]; omega
    have HR := hr.out.symm.trans HE.out
    subst HR
    clear hn HE hr h40 h41 h71 h47 h42 h45 h64
    go_enter Tryd.func13, Tryd.ntmps13
    go_wp2
    go_ret
    exact ⟨rfl, rfl⟩
  all_goals
    have HR := hr.out.symm
    subst HR
    clear hr
    go_enter Tryd.func13, Tryd.ntmps13
    go_wp2
    go_ret
    exact ⟨rfl, rfl⟩
set_option maxHeartbeats 4000000 in
theorem Ends_run (k : Int) (r : Bool) (w : World) (hr : Hid (endsA k = r)) :
    Calls Tryd.prog 17 #[.int .i64 k] w fun e w' => e = .returned (.bool r) ∧ w = w' := by
  have hk : k = 1 ∨ k = 2 ∨ k = 3 ∨ k = 4 ∨ k = 5 ∨ k = 10 ∨ k = 14 ∨ k = 18 ∨ k = 29 ∨ k = 65 ∨ k = 66 ∨ k = 83 ∨ k = 84 ∨ k = 85 ∨ (k ≠ 1 ∧ k ≠ 2 ∧ k ≠ 3 ∧ k ≠ 4 ∧ k ≠ 5 ∧ k ≠ 10 ∧ k ≠ 14 ∧ k ≠ 18 ∧ k ≠ 29 ∧ k ≠ 65 ∧ k ≠ 66 ∧ k ≠ 83 ∧ k ≠ 84 ∧ k ≠ 85) := by omega
  rcases hk with rfl | rfl | rfl | rfl | rfl | rfl | rfl | rfl | rfl | rfl | rfl | rfl | rfl | rfl | hk
  rotate_right 1
  · have hn := fun c => (beq_eq_false_iff_ne (a := k) (b := c)).2
    obtain ⟨h1, h2, h3, h4, h5, h10, h14, h18, h29, h65, h66, h83, h84, h85⟩ := hk
    have g1 := hn 1 h1
    have g2 := hn 2 h2
    have g3 := hn 3 h3
    have g4 := hn 4 h4
    have g5 := hn 5 h5
    have g10 := hn 10 h10
    have g14 := hn 14 h14
    have g18 := hn 18 h18
    have g29 := hn 29 h29
    have g65 := hn 65 h65
    have g66 := hn 66 h66
    have g83 := hn 83 h83
    have g84 := hn 84 h84
    have g85 := hn 85 h85
    have HE : Hid (endsA k = false) := by
      show _ = _
      rw [Bool.eq_false_iff]; simp [endsA]; omega
    have HR := hr.out.symm.trans HE.out
    subst HR
    clear hn HE hr h1 h2 h3 h4 h5 h10 h14 h18 h29 h65 h66 h83 h84 h85
    go_enter Tryd.func17, Tryd.ntmps17
    go_wp2
    go_ret
    exact ⟨rfl, rfl⟩
  all_goals
    have HR := hr.out.symm
    subst HR
    clear hr
    go_enter Tryd.func17, Tryd.ntmps17
    go_wp2
    go_ret
    exact ⟨rfl, rfl⟩
set_option maxHeartbeats 1000000 in
theorem Base_run (k : Int) (r : Int) (w : World) (hr : Hid (baseA k = r)) :
    Calls Tryd.prog 15 #[.int .i64 k] w fun e w' => e = .returned (.int .i64 r) ∧ w = w' := by
  have hk : k = 65 ∨ k = 66 ∨ (k ≠ 65 ∧ k ≠ 66) := by omega
  rcases hk with rfl | rfl | ⟨h1, h2⟩
  rotate_right 1
  · have g1 := (beq_eq_false_iff_ne (a := k) (b := 65)).2 h1
    have g2 := (beq_eq_false_iff_ne (a := k) (b := 66)).2 h2
    by_cases h3 : 51 ≤ k
    · by_cases h4 : k ≤ 61
      · have HE : Hid (baseA k = k - 51 + 40) := by
          show _ = _
          unfold baseA
          rw [if_neg h1, if_neg h2, if_pos ⟨h3, h4⟩]
        have HR := hr.out.symm.trans HE.out
        subst HR
        clear HE hr h1 h2
        go_enter Tryd.func15, Tryd.ntmps15
        go_wp2
        go_ret
        exact ⟨rfl, rfl⟩
      · have HE : Hid (baseA k = 0) := by
          show _ = _
          unfold baseA
          rw [if_neg h1, if_neg h2, if_neg (by omega)]
        have HR := hr.out.symm.trans HE.out
        subst HR
        have g3 := decide_eq_true h3
        have g4 := decide_eq_false h4
        clear HE hr h1 h2 h3 h4
        go_enter Tryd.func15, Tryd.ntmps15
        go_wp2
        go_ret
        exact ⟨rfl, rfl⟩
    · have HE : Hid (baseA k = 0) := by
        show _ = _
        unfold baseA
        rw [if_neg h1, if_neg h2, if_neg (by omega)]
      have HR := hr.out.symm.trans HE.out
      subst HR
      have g3 := decide_eq_false h3
      clear HE hr h1 h2 h3
      go_enter Tryd.func15, Tryd.ntmps15
      go_wp2
      go_ret
      exact ⟨rfl, rfl⟩
  all_goals
    have HR := hr.out.symm
    subst HR
    clear hr
    go_enter Tryd.func15, Tryd.ntmps15
    go_wp2
    go_ret
    exact ⟨rfl, rfl⟩
end Go.Proofs.YtijikbfcobnclaaDoor
