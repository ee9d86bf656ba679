/-
  Stage 6: the walk of TokenBack.
-/
import Derived.Test.YtijikbfcobnclaaDoorTkLawA
import Derived.Test.YtijikbfcobnclaaDoorConvStr
namespace Go.Proofs.YtijikbfcobnclaaDoor
open Go.RowKit

theorem op_self {k : Nat} (h1 : 40 ≤ k) (h2 : k < 88) : OpIs (bts (tx k)) k (tx k).size :=
  .inr ⟨h1, h2, rfl, List.prefix_refl _, fun j _ _ hb => by
    have := hb.length_le
    rwa [bts_length, bts_length] at this⟩
theorem kw_low {k : Nat} (h : k < 10) : KwIs (tx k) 0 := .inl ⟨rfl, fun j h1 h2 he => by
  have := tx_inj (by omega) (by omega) (txl_kw h1 h2) he
  omega⟩
theorem kw_empty : KwIs ⟨#[]⟩ 0 := .inl ⟨rfl, fun j h1 h2 he => by
  have h := txl_kw h1 h2
  rw [← tx_toList, he] at h
  exact h rfl⟩
theorem kw_self {k : Nat} (h1 : 10 ≤ k) (h2 : k < 40) (hn : txl k ≠ []) : KwIs (tx k) k := by
  have h35 : k < 35 := by
    rcases Nat.lt_or_ge k 35 with h | h
    · exact h
    · have h9 : k = 35 ∨ k = 36 ∨ k = 37 ∨ k = 38 ∨ k = 39 := by omega
      exfalso
      rcases h9 with rfl | rfl | rfl | rfl | rfl <;> exact hn rfl
  exact .inr ⟨h1, h35, rfl⟩
set_option maxRecDepth 100000 in
set_option maxHeartbeats 4000000 in
theorem tokenBack_any (a0 b0 : Int) (w : World) (ha0 : 0 ≤ a0) (ha1 : a0 ≤ 255) (hb0 : 0 ≤ b0) (hb1 : b0 ≤ 255) (ht : TabAt w) :
    Calls Tryd.prog 5 #[.int .u8 a0, .int .u8 b0] w fun e w' => e = .returned (.bool true) ∧ Below w.heap.size w w' := by
  obtain ⟨a, rfl⟩ := Int.eq_ofNat_of_zero_le ha0
  obtain ⟨b, rfl⟩ := Int.eq_ofNat_of_zero_le hb0
  obtain ⟨s, hs⟩ : ∃ s, spA (a : Int) = s := ⟨_, rfl⟩
  obtain ⟨t, htt⟩ : ∃ t, spA (b : Int) = t := ⟨_, rfl⟩
  have HS := Lib.hid hs
  have HTT := Lib.hid htt
  have HT := Lib.hid ht
  have hlt := ht.lt
  clear hs htt ht ha0 hb0
  cases he : s.data.toList.isEmpty with
  | true =>
    have e0 : s.toList.isEmpty = true := by rw [Lib.toList_data]; exact he
    have HK : Hid (KwIs s 0) := by
      have : s = ⟨#[]⟩ := bytes_inj (by simpa using he)
      rw [this]
      exact kw_empty
    clear he
    go_enter Tryd.func5, Tryd.ntmps5
    go_wp2_with fail
    refine (Spell_run a s _ HT.out HS).mono ?_
    rintro e w1 ⟨rfl, rfl⟩
    go_wp2_with fail
    refine (Spell_run b t _ HT.out HTT).mono ?_
    rintro e w1 ⟨rfl, rfl⟩
    go_wp2_with fail
    refine (Keyword_run s 0 _ HT.out HK).mono ?_
    rintro e w1 ⟨rfl, rfl⟩
    go_wp2_with fail
    refine (works_run _ HT.out).mono ?_
    rintro e w1 ⟨rfl, hw1⟩
    have HW := Lib.hid hw1
    clear hw1
    go_wp2_with fail
    go_ret
    exact ⟨rfl, HW.out⟩
  | false =>
    have e0 : s.toList.isEmpty = false := by rw [Lib.toList_data]; exact he
    have ha88 : a < 88 := by
      rcases Nat.lt_or_ge a 88 with h | h
      · exact h
      · rw [← HS.out, spA_out (by omega)] at he
        cases he
    have hst : s = tx a := by rw [← HS.out, spA_in ha88]
    have hn : txl a ≠ [] := by
      intro h0
      rw [hst, tx_toList, h0] at he
      cases he
    have HST := Lib.hid hst
    have HNE := Lib.hid hn
    have hs11 : s.size ≤ 11 := by rw [hst, tx_size]; exact txl_short a
    have hinj : t = s → a = b := fun e => by
      have hb88 : b < 88 := by
        rcases Nat.lt_or_ge b 88 with h | h
        · exact h
        · rw [← e, ← HTT.out, spA_out (by omega)] at he
          cases he
      have htb : t = tx b := by rw [← HTT.out, spA_in hb88]
      exact tx_inj ha88 hb88 hn (by rw [← hst, ← e, htb])
    have hab : (t = s ∧ ((a : Int) != (b : Int)) = false) ∨ (s.toList == t.toList) = false := by
      by_cases hx : s = t
      · have := hinj hx.symm
        exact .inl ⟨hx.symm, by rw [this]; simp⟩
      · exact .inr (str_ne hx)
    clear he hst hn hinj
    by_cases h10 : a < 10
    · have g1 : (a : Int) < 10 := by omega
      have HK : Hid (KwIs s 0) := by rw [HST.out]; exact kw_low h10
      clear h10
      rcases hab with ⟨rfl, hab⟩ | hab
      all_goals
        go_enter Tryd.func5, Tryd.ntmps5
        go_wp2_with fail
        refine (Spell_run a _ _ HT.out HS).mono ?_
        rintro e w1 ⟨rfl, rfl⟩
        go_wp2_with fail
        refine (Spell_run b _ _ HT.out HTT).mono ?_
        rintro e w1 ⟨rfl, rfl⟩
        go_wp2_with fail
        refine (Keyword_run _ 0 _ HT.out HK).mono ?_
        rintro e w1 ⟨rfl, rfl⟩
        go_wp2_with fail
        refine (works_run _ HT.out).mono ?_
        rintro e w1 ⟨rfl, hw1⟩
        have HW := Lib.hid hw1
        clear hw1
        go_wp2_with fail
        go_ret
        exact ⟨rfl, HW.out⟩
    · by_cases h40 : a < 40
      · have g0 : decide ((a : Int) < 10) = false := decide_eq_false (by omega)
        have g1 : (a : Int) < 40 := by omega
        have HK : Hid (KwIs s a) := by show KwIs s a; rw [HST.out]; exact kw_self (by omega) h40 HNE.out
        clear h10 h40
        rcases hab with ⟨rfl, hab⟩ | hab
        all_goals
          go_enter Tryd.func5, Tryd.ntmps5
          go_wp2_with fail
          refine (Spell_run a _ _ HT.out HS).mono ?_
          rintro e w1 ⟨rfl, rfl⟩
          go_wp2_with fail
          refine (Spell_run b _ _ HT.out HTT).mono ?_
          rintro e w1 ⟨rfl, rfl⟩
          go_wp2_with fail
          refine (Keyword_run _ a _ HT.out HK).mono ?_
          rintro e w1 ⟨rfl, rfl⟩
          go_wp2_with fail
          refine (works_run _ HT.out).mono ?_
          rintro e w1 ⟨rfl, hw1⟩
          have HW := Lib.hid hw1
          clear hw1
          go_wp2_with fail
          go_ret
          exact ⟨rfl, HW.out⟩
      · have g0 : decide ((a : Int) < 10) = false := decide_eq_false (by omega)
        have g1 : decide ((a : Int) < 40) = false := decide_eq_false (by omega)
        have HO : Hid (OpIs (if (0 : Int) < 0 then [] else (bts s).drop (0 : Int).toNat) a s.size) := by
          show OpIs (bts s) a s.size
          rw [HST.out]
          exact op_self (by omega) ha88
        clear h10 h40
        rcases hab with ⟨rfl, hab⟩ | hab
        · obtain ⟨cap, wc, hrun, hc1, hc2, hy, hwc⟩ := run_conv_str w t (by unfold maxLen; omega)
          have HY := Lib.hid hy
          have HW := Lib.hid hwc
          have HTc : Hid (TabAt wc) := HT.out.below hlt hwc
          clear hc2 hy hwc
          go_enter Tryd.func5, Tryd.ntmps5
          go_wp2_with fail
          refine (Spell_run a _ _ HT.out HS).mono ?_
          rintro e w1 ⟨rfl, rfl⟩
          go_wp2_with fail
          refine (Spell_run b _ _ HT.out HTT).mono ?_
          rintro e w1 ⟨rfl, rfl⟩
          go_wp2_with fail
          refine (Operator_run _ _ cap 0 (bts t) a t.size _ _ HY.out (bts_length t) hc1 (by omega) HTc.out HO).mono ?_
          rintro e w1 ⟨rfl, m, rfl⟩
          unfold opT
          go_wp2_with fail
          refine (works_run _ (HTc.out.drewN m)).mono ?_
          rintro e w1 ⟨rfl, hw1⟩
          have HW1 : Hid (Below w.heap.size w w1) := (Below.drewN HW.out m).trans (hw1.mono (by simpa using HW.out.size))
          clear hw1
          go_wp2_with fail
          go_ret
          exact ⟨rfl, HW1.out⟩
        · obtain ⟨cap, wc, hrun, hc1, hc2, hy, hwc⟩ := run_conv_str w s (by unfold maxLen; omega)
          have HY := Lib.hid hy
          have HW := Lib.hid hwc
          have HTc : Hid (TabAt wc) := HT.out.below hlt hwc
          clear hc2 hy hwc
          go_enter Tryd.func5, Tryd.ntmps5
          go_wp2_with fail
          refine (Spell_run a _ _ HT.out HS).mono ?_
          rintro e w1 ⟨rfl, rfl⟩
          go_wp2_with fail
          refine (Spell_run b _ _ HT.out HTT).mono ?_
          rintro e w1 ⟨rfl, rfl⟩
          go_wp2_with fail
          refine (Operator_run _ _ cap 0 (bts s) a s.size _ _ HY.out (bts_length s) hc1 (by omega) HTc.out HO).mono ?_
          rintro e w1 ⟨rfl, m, rfl⟩
          unfold opT
          go_wp2_with fail
          refine (works_run _ (HTc.out.drewN m)).mono ?_
          rintro e w1 ⟨rfl, hw1⟩
          have HW1 : Hid (Below w.heap.size w w1) := (Below.drewN HW.out m).trans (hw1.mono (by simpa using HW.out.size))
          clear hw1
          go_wp2_with fail
          go_ret
          exact ⟨rfl, HW1.out⟩
end Go.Proofs.YtijikbfcobnclaaDoor
