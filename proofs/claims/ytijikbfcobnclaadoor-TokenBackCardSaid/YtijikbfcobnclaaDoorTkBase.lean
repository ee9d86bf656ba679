/-
  Stage 6: the reference's Base.
-/
import Derived.Test.YtijikbfcobnclaaDoorTkRefs
import Derived.IntWalk
namespace Go.Proofs.YtijikbfcobnclaaDoor
open Go.RowKit

/-- The kinds whose base is asked for. -/
def Bs (k : Int) : Prop := k = 65 ∨ k = 66 ∨ (51 ≤ k ∧ k ≤ 61)
theorem base_no {k : Int} (h : ¬ Bs k) : baseA k = 0 := by
  unfold Bs at h
  unfold baseA
  rw [if_neg (by omega), if_neg (by omega), if_neg (by omega)]
theorem base_bd {k : Int} (h : Bs k) : 40 ≤ baseA k ∧ baseA k < 51 := by
  unfold Bs at h
  unfold baseA
  repeat' split
  all_goals omega
theorem base_at {k : Int} (h : Bs k) : txl (baseA k).toNat = (txl k.toNat).take ((txl k.toNat).length - 1) := by
  have h0 : 0 ≤ k ∧ k < 88 := by unfold Bs at h; omega
  have := byKind (p := fun k => (k = 65 ∨ k = 66 ∨ (51 ≤ k ∧ k ≤ 61)) → txl (baseA k).toNat = (txl k.toNat).take ((txl k.toNat).length - 1)) 88 (by decide +kernel) h0.1 h0.2
  exact this h
theorem txl_inc {k : Nat} (h : k < 88) : (txl k == [43, 43]) = decide (k = 65) := by
  have := tab_all (p := fun k => (txl k == [43, 43]) == decide (k = 65)) (n := 88) (by decide +kernel) h
  simpa using this
theorem txl_dec {k : Nat} (h : k < 88) : (txl k == [45, 45]) = decide (k = 66) := by
  have := tab_all (p := fun k => (txl k == [45, 45]) == decide (k = 66)) (n := 88) (by decide +kernel) h
  simpa using this
/-- What the walk of a base answers: a number of drawn answers lies between. -/
def Ans (v : Value) (w : World) (e : Ending) (w' : World) : Prop := e = .returned v ∧ ∃ n, w' = w.drewN n
set_option maxRecDepth 100000 in
set_option maxHeartbeats 1000000 in
theorem refBase_no (k : Nat) (s : ByteArray) (w : World) (hk : 40 ≤ k) (hk2 : k < 88) (h : ¬ Bs k) (hs : Hid (spA k = s)) :
    Calls Tryd.prog 16 #[.int .i64 (k : Int)] w (Ans (.int .i64 0) w) := by
  have hst : s = tx k := by rw [← hs.out, spA_in hk2]
  have e0 : s.toList.isEmpty = false := by
    rw [Lib.toList_data, hst, tx_toList]
    have := (txl_op hk hk2).1
    cases h : txl k with
    | nil => rw [h] at this; simp at this
    | cons _ _ => rfl
  have e1 : (s.toList == [43, 43]) = false := by
    rw [Lib.toList_data, hst, tx_toList, txl_inc hk2, decide_eq_false]
    intro e; exact h (.inl (by omega))
  have e2 : (s.toList == [45, 45]) = false := by
    rw [Lib.toList_data, hst, tx_toList, txl_dec hk2, decide_eq_false]
    intro e; exact h (.inr (.inl (by omega)))
  have k0 : decide ((k : Int) < 40) = false := decide_eq_false (by omega)
  clear hst
  have hx : (k : Int) < 51 ∨ 61 < (k : Int) := by unfold Bs at h; omega
  clear h
  by_cases h51 : 51 ≤ (k : Int)
  · have q1 := decide_eq_true h51
    have q2 : decide ((k : Int) ≤ 61) = false := decide_eq_false (by omega)
    clear hx
    go_enter Tryd.func16, Tryd.ntmps16
    go_wp2_with fail
    refine (refSpell_run k s _ hs).mono ?_
    rintro e w1 ⟨rfl, rfl⟩
    go_wp2_with fail
    go_ret
    exact ⟨rfl, 0, rfl⟩
  · have q1 := decide_eq_false h51
    clear hx h51
    go_enter Tryd.func16, Tryd.ntmps16
    go_wp2_with fail
    refine (refSpell_run k s _ hs).mono ?_
    rintro e w1 ⟨rfl, rfl⟩
    go_wp2_with fail
    go_ret
    exact ⟨rfl, 0, rfl⟩
set_option maxRecDepth 100000 in
set_option maxHeartbeats 1000000 in
theorem refBase_yes (k q : Nat) (s : ByteArray) (w : World) (h : Bs k) (hq : Hid (baseA k = q)) (hs : Hid (spA k = s)) :
    Calls Tryd.prog 16 #[.int .i64 (k : Int)] w (Ans (.int .i64 (q : Int)) w) := by
  have hb := base_bd h
  rw [hq.out] at hb
  have hk : 40 ≤ k := by unfold Bs at h; omega
  have hk2 : k < 88 := by unfold Bs at h; omega
  have hq1 : 40 ≤ q := by omega
  have hq2 : q < 51 := by omega
  have hst : s = tx k := by rw [← hs.out, spA_in hk2]
  have hlen := txl_op hk hk2
  obtain ⟨z, hz⟩ : ∃ z, s.size = z + 1 := ⟨s.size - 1, by rw [hst, tx_size]; omega⟩
  have hz2 : z ≤ 2 := by rw [hst, tx_size] at hz; omega
  have HT : Hid (s.extract 0 z = tx q) := by
    apply bytes_inj
    rw [extract_list, List.drop_zero, hst, tx_toList, tx_toList]
    have := base_at h
    rw [hq.out] at this
    simp only [Int.toNat_natCast] at this
    rw [this]
    congr 1
    rw [hst, tx_size] at hz
    omega
  have HX : Hid (Bs k) := h
  have e0 : s.toList.isEmpty = false := by
    rw [Lib.toList_data, hst, tx_toList]
    cases h : txl k with
    | nil => rw [h] at hlen; simp at hlen
    | cons _ _ => rfl
  have k0 : decide ((k : Int) < 40) = false := decide_eq_false (by omega)
  have E1 : Hid ((s.toList == [43, 43]) = decide (k = 65)) := by
    show _ = _
    rw [Lib.toList_data, hst, tx_toList, txl_inc hk2]
  have E2 : Hid ((s.toList == [45, 45]) = decide (k = 66)) := by
    show _ = _
    rw [Lib.toList_data, hst, tx_toList, txl_dec hk2]
  have hwr : IntKind.i64.wrap ((s.size : Int) - 1) = (z : Int) := by rw [IntWalk.i64_in _ (by omega)]; omega
  have HW := Lib.hid hwr
  have HZ := Lib.hid hz
  have hzs : z ≤ s.size := by omega
  clear hb hst hlen h hwr hz
  have c3 : k = 65 ∨ k = 66 ∨ (k ≠ 65 ∧ k ≠ 66) := by omega
  rcases c3 with c1 | c1 | ⟨c1, c2⟩
  · have e1 : (s.toList == [43, 43]) = true := by rw [E1.out, decide_eq_true c1]
    clear c1 E1 E2
    go_enter Tryd.func16, Tryd.ntmps16
    go_wp2_with fail
    refine (refSpell_run k s _ hs).mono ?_
    rintro e w1 ⟨rfl, rfl⟩
    go_wp2_with fail
    go_loopg [4] 52 (fun h s4 wr => ∃ j : Nat, s4 = .int .i64 j ∧ Hid (40 ≤ j ∧ j ≤ q ∧ j + h = 92) ∧ Hid (∃ n, wr = w.drewN n))
    case atStart => exact ⟨40, rfl, by show _ ∧ _; omega, 0, rfl⟩
    case round =>
      obtain ⟨j, rfl, HJ, HN⟩ := hrel
      have hj : (j : Int) < 51 := by have := HJ.out; omega
      obtain ⟨t, ht⟩ : ∃ t, spA (j : Int) = t := ⟨_, rfl⟩
      have HTJ := Lib.hid ht
      clear ht
      have htj : t = tx j := by rw [← HTJ.out, spA_in (by have := HJ.out; omega)]
      have HC : Hid (∀ w', Calls Tryd.prog 8 #[.int .i64 (j : Int)] w' fun e w'' => e = .returned (.string t) ∧ ∃ m, w'' = w'.drewN m) := fun w' => (refSpell_run j t w' HTJ).mono fun _ _ ⟨h1, h2⟩ => ⟨h1, 0, h2.symm⟩
      by_cases e : j = q
      · have he : (t.toList == (s.extract 0 z).toList) = true := by rw [HT.out, htj, e]; simp
        have HE : Hid (Value.int .i64 (j : Int) = Value.int .i64 (q : Int)) := by show _ = _; rw [e]
        have hwr := HW.out
        clear e htj
        go_wp2_with fail
        go_quiet (first | (go_at_call 8; refine Calls.quiet_of (HC.out _)) | fail)
        go_wp2_with fail
        go_ret
        obtain ⟨n, hn⟩ := HN.out
        exact ⟨congrArg Ending.returned HE.out, n + _, by rw [hn, World.drewN_drewN]⟩
      · have he : (t.toList == (s.extract 0 z).toList) = false := by
          rw [HT.out, htj, beq_eq_false_iff_ne]
          intro h
          rw [Lib.toList_data, Lib.toList_data] at h
          exact e (txl_inj (by have := HJ.out; omega) (by omega) (fun h0 => by have := (txl_op (i := j) (by have := HJ.out; omega) (by have := HJ.out; omega)).1; rw [h0] at this; simp at this) h)
        have hjq : Hid (j < q) := by show _ < _; have := HJ.out; omega
        have hj51 : j ≤ 51 := by omega
        have hwr := HW.out
        clear e htj
        go_wp2_with fail
        go_quiet (first | (go_at_call 8; refine Calls.quiet_of (HC.out _)) | fail)
        clear hwr
        go_wp2_with fail
        go_roundg (91 - j)
        case measure => have := HJ.out; omega
        case rel =>
          obtain ⟨n, hn⟩ := HN.out
          exact ⟨j + 1, by go_num, by show _ ∧ _; have := HJ.out; have := hjq.out; omega, n + _, by rw [hn, World.drewN_drewN]⟩
  · have e1 : (s.toList == [43, 43]) = false := by rw [E1.out, decide_eq_false (by omega)]
    have e2 : (s.toList == [45, 45]) = true := by rw [E2.out, decide_eq_true c1]
    clear c1 E1 E2
    go_enter Tryd.func16, Tryd.ntmps16
    go_wp2_with fail
    refine (refSpell_run k s _ hs).mono ?_
    rintro e w1 ⟨rfl, rfl⟩
    go_wp2_with fail
    go_loopg [4] 52 (fun h s4 wr => ∃ j : Nat, s4 = .int .i64 j ∧ Hid (40 ≤ j ∧ j ≤ q ∧ j + h = 92) ∧ Hid (∃ n, wr = w.drewN n))
    case atStart => exact ⟨40, rfl, by show _ ∧ _; omega, 0, rfl⟩
    case round =>
      obtain ⟨j, rfl, HJ, HN⟩ := hrel
      have hj : (j : Int) < 51 := by have := HJ.out; omega
      obtain ⟨t, ht⟩ : ∃ t, spA (j : Int) = t := ⟨_, rfl⟩
      have HTJ := Lib.hid ht
      clear ht
      have htj : t = tx j := by rw [← HTJ.out, spA_in (by have := HJ.out; omega)]
      have HC : Hid (∀ w', Calls Tryd.prog 8 #[.int .i64 (j : Int)] w' fun e w'' => e = .returned (.string t) ∧ ∃ m, w'' = w'.drewN m) := fun w' => (refSpell_run j t w' HTJ).mono fun _ _ ⟨h1, h2⟩ => ⟨h1, 0, h2.symm⟩
      by_cases e : j = q
      · have he : (t.toList == (s.extract 0 z).toList) = true := by rw [HT.out, htj, e]; simp
        have HE : Hid (Value.int .i64 (j : Int) = Value.int .i64 (q : Int)) := by show _ = _; rw [e]
        have hwr := HW.out
        clear e htj
        go_wp2_with fail
        go_quiet (first | (go_at_call 8; refine Calls.quiet_of (HC.out _)) | fail)
        go_wp2_with fail
        go_ret
        obtain ⟨n, hn⟩ := HN.out
        exact ⟨congrArg Ending.returned HE.out, n + _, by rw [hn, World.drewN_drewN]⟩
      · have he : (t.toList == (s.extract 0 z).toList) = false := by
          rw [HT.out, htj, beq_eq_false_iff_ne]
          intro h
          rw [Lib.toList_data, Lib.toList_data] at h
          exact e (txl_inj (by have := HJ.out; omega) (by omega) (fun h0 => by have := (txl_op (i := j) (by have := HJ.out; omega) (by have := HJ.out; omega)).1; rw [h0] at this; simp at this) h)
        have hjq : Hid (j < q) := by show _ < _; have := HJ.out; omega
        have hj51 : j ≤ 51 := by omega
        have hwr := HW.out
        clear e htj
        go_wp2_with fail
        go_quiet (first | (go_at_call 8; refine Calls.quiet_of (HC.out _)) | fail)
        clear hwr
        go_wp2_with fail
        go_roundg (91 - j)
        case measure => have := HJ.out; omega
        case rel =>
          obtain ⟨n, hn⟩ := HN.out
          exact ⟨j + 1, by go_num, by show _ ∧ _; have := HJ.out; have := hjq.out; omega, n + _, by rw [hn, World.drewN_drewN]⟩
  · have e1 : (s.toList == [43, 43]) = false := by rw [E1.out, decide_eq_false c1]
    have e2 : (s.toList == [45, 45]) = false := by rw [E2.out, decide_eq_false c2]
    have q1 : decide (51 ≤ (k : Int)) = true := decide_eq_true (by have := HX.out; unfold Bs at this; omega)
    have q2 : decide ((k : Int) ≤ 61) = true := decide_eq_true (by have := HX.out; unfold Bs at this; omega)
    clear c1 c2 E1 E2
    go_enter Tryd.func16, Tryd.ntmps16
    go_wp2_with fail
    refine (refSpell_run k s _ hs).mono ?_
    rintro e w1 ⟨rfl, rfl⟩
    go_wp2_with fail
    go_loopg [4] 52 (fun h s4 wr => ∃ j : Nat, s4 = .int .i64 j ∧ Hid (40 ≤ j ∧ j ≤ q ∧ j + h = 92) ∧ Hid (∃ n, wr = w.drewN n))
    case atStart => exact ⟨40, rfl, by show _ ∧ _; omega, 0, rfl⟩
    case round =>
      obtain ⟨j, rfl, HJ, HN⟩ := hrel
      have hj : (j : Int) < 51 := by have := HJ.out; omega
      obtain ⟨t, ht⟩ : ∃ t, spA (j : Int) = t := ⟨_, rfl⟩
      have HTJ := Lib.hid ht
      clear ht
      have htj : t = tx j := by rw [← HTJ.out, spA_in (by have := HJ.out; omega)]
      have HC : Hid (∀ w', Calls Tryd.prog 8 #[.int .i64 (j : Int)] w' fun e w'' => e = .returned (.string t) ∧ ∃ m, w'' = w'.drewN m) := fun w' => (refSpell_run j t w' HTJ).mono fun _ _ ⟨h1, h2⟩ => ⟨h1, 0, h2.symm⟩
      by_cases e : j = q
      · have he : (t.toList == (s.extract 0 z).toList) = true := by rw [HT.out, htj, e]; simp
        have HE : Hid (Value.int .i64 (j : Int) = Value.int .i64 (q : Int)) := by show _ = _; rw [e]
        have hwr := HW.out
        clear e htj
        go_wp2_with fail
        go_quiet (first | (go_at_call 8; refine Calls.quiet_of (HC.out _)) | fail)
        go_wp2_with fail
        go_ret
        obtain ⟨n, hn⟩ := HN.out
        exact ⟨congrArg Ending.returned HE.out, n + _, by rw [hn, World.drewN_drewN]⟩
      · have he : (t.toList == (s.extract 0 z).toList) = false := by
          rw [HT.out, htj, beq_eq_false_iff_ne]
          intro h
          rw [Lib.toList_data, Lib.toList_data] at h
          exact e (txl_inj (by have := HJ.out; omega) (by omega) (fun h0 => by have := (txl_op (i := j) (by have := HJ.out; omega) (by have := HJ.out; omega)).1; rw [h0] at this; simp at this) h)
        have hjq : Hid (j < q) := by show _ < _; have := HJ.out; omega
        have hj51 : j ≤ 51 := by omega
        have hwr := HW.out
        clear e htj
        go_wp2_with fail
        go_quiet (first | (go_at_call 8; refine Calls.quiet_of (HC.out _)) | fail)
        clear hwr
        go_wp2_with fail
        go_roundg (91 - j)
        case measure => have := HJ.out; omega
        case rel =>
          obtain ⟨n, hn⟩ := HN.out
          exact ⟨j + 1, by go_num, by show _ ∧ _; have := HJ.out; have := hjq.out; omega, n + _, by rw [hn, World.drewN_drewN]⟩
set_option maxRecDepth 100000 in
set_option maxHeartbeats 1000000 in
theorem refBase_run (k : Int) (r : Int) (w : World) (hr : Hid (baseA k = r)) :
    Calls Tryd.prog 16 #[.int .i64 k] w (Ans (.int .i64 r) w) := by
  by_cases h : Bs k
  · have hb := base_bd h
    have hk : 0 ≤ k := by unfold Bs at h; omega
    obtain ⟨n, rfl⟩ := Int.eq_ofNat_of_zero_le hk
    rw [hr.out] at hb
    obtain ⟨q, rfl⟩ := Int.eq_ofNat_of_zero_le (a := r) (by omega)
    exact refBase_yes n q _ w h hr (Lib.hid rfl)
  · have h0 : r = 0 := by rw [← hr.out, base_no h]
    subst h0
    by_cases hk : 40 ≤ k ∧ k < 88
    · obtain ⟨n, rfl⟩ := Int.eq_ofNat_of_zero_le (a := k) (by omega)
      exact refBase_no n _ w (by omega) (by omega) h (Lib.hid rfl)
    · obtain ⟨s, hs⟩ : ∃ s, spA k = s := ⟨_, rfl⟩
      have HS := Lib.hid hs
      by_cases h40 : k < 40
      · clear hr h hk hs
        go_enter Tryd.func16, Tryd.ntmps16
        go_wp2_with fail
        refine (refSpell_run k s _ HS).mono ?_
        rintro e w1 ⟨rfl, rfl⟩
        go_wp2_with fail
        go_ret
        exact ⟨rfl, 0, rfl⟩
      · have k0 : decide (k < 40) = false := decide_eq_false h40
        have e0 : s.toList.isEmpty = true := by rw [← hs, spA_out (by omega), Lib.toList_data]; rfl
        clear hr h hk hs h40
        go_enter Tryd.func16, Tryd.ntmps16
        go_wp2_with fail
        refine (refSpell_run k s _ HS).mono ?_
        rintro e w1 ⟨rfl, rfl⟩
        go_wp2_with fail
        go_ret
        exact ⟨rfl, 0, rfl⟩
end Go.Proofs.YtijikbfcobnclaaDoor
