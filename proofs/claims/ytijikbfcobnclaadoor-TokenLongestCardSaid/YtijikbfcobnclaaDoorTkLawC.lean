/-
  Stage 6: the walk of TokenLongest.
-/
import Derived.Test.YtijikbfcobnclaaDoorTkLawA
namespace Go.Proofs.YtijikbfcobnclaaDoor
open Go.RowKit

theorem OpIs.zero {d : List Int} {k n : Nat} (h : OpIs d k n) (hk : k = 0) : n = 0 := by
  rcases h with ⟨h1, h2, h3⟩ | ⟨h1, h2, h3, h4, h5⟩ <;> omega
theorem OpIs.some {d : List Int} {k n : Nat} (h : OpIs d k n) (hk : k ≠ 0) : 40 ≤ k ∧ k < 88 ∧ n ≤ d.length ∧ 1 ≤ n ∧ Beg d k ∧ (tx k).size = n := by
  rcases h with ⟨h1, h2, h3⟩ | ⟨h1, h2, h3, h4, h5⟩
  · omega
  · have h6 := h4.length_le
    rw [bts_length] at h6
    have h7 := (txl_op h1 h2).1
    rw [← tx_size] at h7
    exact ⟨h1, h2, by omega, by omega, h4, h3.symm⟩
theorem OpIs.longest {d : List Int} {k n z j : Nat} (h : OpIs d k n) (hd : U.Byt d) (hz : n < z) (hl : z ≤ d.length) (h1 : 40 ≤ j) (h2 : j < 88) : tx j ≠ strOf (d.take z) := fun e => by
  obtain ⟨hb, hs⟩ := beg_cut hd hl e
  rcases h with ⟨g1, g2, g3⟩ | ⟨g1, g2, g3, g4, g5⟩
  · exact g3 j h1 h2 hb
  · have := g5 j h1 h2 hb
    omega
set_option maxRecDepth 100000 in
set_option maxHeartbeats 4000000 in
theorem tokenLongest_any (A : Option Addr) (n cap : Nat) (l : List Int) (at0 : Int) (w : World) (hb : Byts w w.heap.size A l) (hl : l.length = n) (hcap : n ≤ cap) (hmax : cap ≤ 9223372036854775807) (ha0 : 0 ≤ at0) (ha1 : at0 ≤ 255) (ht : TabAt w) :
    Calls Tryd.prog 6 #[.slice A n cap, .int .u8 at0] w fun e w' => e = .returned (.bool true) ∧ Below w.heap.size w w' := by
  obtain ⟨at_, rfl⟩ := Int.eq_ofNat_of_zero_le ha0
  have hat : at_ ≤ 255 := by omega
  clear ha0 ha1
  by_cases h100 : n ≤ 100
  · have hz : (n : Int) ≤ 100 := by omega
    have HB := Lib.hid (hb.take n)
    have HLm : Hid ((l.take n).length = n) := by show _ = _; rw [List.length_take]; omega
    obtain ⟨k0, n0, ho⟩ := op_ex ((l.take n).drop at_)
    have hoi : (if (at_ : Int) < 0 then [] else (l.take n).drop (at_ : Int).toNat) = (l.take n).drop at_ := by rw [if_neg (by omega), Int.toNat_natCast]
    have HOi : Hid (OpIs (if (at_ : Int) < 0 then [] else (l.take n).drop (at_ : Int).toNat) k0 n0) := by show OpIs _ k0 n0; rw [hoi]; exact ho
    have HO := Lib.hid ho
    have HT := Lib.hid ht
    have hn3 : n0 ≤ 3 := ho.bound.1
    by_cases hk : k0 = 0
    · have hn : n0 = 0 := ho.zero hk
      subst hk
      subst hn
      clear hb hl ho ht hoi
      go_enter Tryd.func6, Tryd.ntmps6
      go_wp2_with fail
      all_goals
        refine (Operator_run A n cap at_ (l.take n) 0 0 _ _ HB.out HLm.out (by omega) (by omega) HT.out HOi).mono ?_
        rintro e w1 ⟨rfl, a, rfl⟩
        unfold opT
        go_wp2_with fail
        refine (works_run (w.drewN a) (HT.out.drewN _)).mono ?_
        rintro e w1 ⟨rfl, hw1⟩
        have HW : Hid (Below w.heap.size w w1) := (Below.drewN (Below.refl _ _) a).trans (by simpa using hw1)
        clear hw1
        go_wp2_with fail
        go_ret
        exact ⟨rfl, HW.out⟩
    · obtain ⟨hk40, hk88, hnl, hn1, hbeg, hsz⟩ := ho.some hk
      have hkz : ((k0 : Int) == 0) = false := by rw [beq_eq_false_iff_ne]; omega
      have hdl : ((l.take n).drop at_).length = n - at_ := by rw [List.length_drop, HLm.out]
      have hin : at_ < n := by omega
      have hfit : at_ + n0 ≤ n := by omega
      have HDL := Lib.hid hdl
      obtain ⟨b, o, rfl, hd⟩ := HB.out.drop (i := at_) (by rw [HLm.out]; exact hin)
      have HD := Lib.hid hd
      have hcut : strOf (((l.take n).drop at_).take n0) = tx k0 := (cut_beg hd.out hbeg hsz).symm
      obtain ⟨t, htt⟩ : ∃ t, tx k0 = t := ⟨_, rfl⟩
      rw [htt] at hcut
      have HS : Hid (spA (k0 : Int) = t) := by show _ = _; rw [← htt]; exact spA_in hk88
      have HRUN : Hid (∀ W, Byts W w.heap.size (some ⟨b, o + at_, none⟩) ((l.take n).drop at_) → (convert 28 9 (.slice (some ⟨b, o + at_, none⟩) n0 (cap - at_))).run Tryd.prog W = .ok (.string t) W) := fun W hW => by
        have := conv_bytes (hW.take n0) n0 (cap - at_) (by rw [List.length_take]; omega)
        rwa [hcut] at this
      have hne : ¬ cap = at_ := by omega
      clear hb hl ho ht hoi hbeg hsz hd hcut htt hdl hk
      go_enter Tryd.func6, Tryd.ntmps6
      go_wp2_with fail
      all_goals
        refine (Operator_run _ n cap at_ (l.take n) k0 n0 _ _ HB.out HLm.out (by omega) (by omega) HT.out HOi).mono ?_
        rintro e w1 ⟨rfl, a, rfl⟩
        unfold opT
        generalize hW1 : w.drewN a = w1
        have HW1 : Hid (∃ a, w1 = w.drewN a) := ⟨a, hW1.symm⟩
        have HD1 : Hid (Byts w1 w.heap.size (some ⟨b, o + at_, none⟩) ((l.take n).drop at_)) := by rw [← hW1]; exact HD.out
        have HT1 : Hid (TabAt w1) := by rw [← hW1]; exact HT.out
        clear hW1
        have HC : Hid (∀ a, Calls Tryd.prog 7 #[.int .i64 (k0 : Int)] (w1.drewN a) fun e w'' => e = .returned (.string t) ∧ ∃ m, w'' = (w1.drewN a).drewN m) := fun a => (Spell_run k0 t _ (HT1.out.drewN a) HS).mono fun _ _ ⟨h1, h2⟩ => ⟨h1, 0, h2.symm⟩
        have hrun : ∀ a, (convert 28 9 (.slice (some ⟨b, o + at_, none⟩) n0 (cap - at_))).run Tryd.prog (w1.drewN a) = .ok (.string t) (w1.drewN a) := fun a => HRUN.out _ (HD1.out.drewN a)
        have hwa : IntKind.i64.wrap (at_ : Int) = (at_ : Int) := IntWalk.i64_in _ (by omega)
        have hwr : IntKind.i64.wrap ((at_ : Int) + (n0 : Int)) = (at_ : Int) + (n0 : Int) := IntWalk.i64_in _ (by omega)
        have hwn : ((at_ : Int) + (n0 : Int)).toNat = at_ + n0 := by omega
        have hw0 : (0 : Int) ≤ (at_ : Int) + (n0 : Int) := by omega
        have hgt : decide ((n : Int) < (at_ : Int) + (n0 : Int)) = false := decide_eq_false (by omega)
        have htt : (t.toList != t.toList) = false := by simp
        go_wp2_with fail
        go_quiet (first | (go_at_call 7; refine Calls.quiet_of (HC.out _)) | fail)
        clear hrun hwr hwn hw0 hgt htt hwa HC
        go_wp2_with fail
        go_loopg [7] 6 (fun h s7 wr => ∃ z : Nat, s7 = .int .i64 z ∧ Hid (n0 < z ∧ z ≤ 4 ∧ 5 ≤ z + h) ∧ Hid (∃ a, wr = w.drewN a))
        case atStart =>
          obtain ⟨a, ha⟩ := HW1.out
          exact ⟨n0 + 1, by go_num, by show _ ∧ _; omega, a + nq, by rw [ha, World.drewN_drewN]⟩
        case round =>
          obtain ⟨z, rfl, HZ, HW⟩ := hrel
          have hz4 : z ≤ 4 := HZ.out.2.1
          clear HW1 HD1 HT1
          have HTr : Hid (TabAt wr) := by obtain ⟨a, ha⟩ := HW.out; rw [ha]; exact HT.out
          by_cases hzf : z ≤ 3 ∧ at_ + z ≤ n
          · obtain ⟨hz3, hzl⟩ := hzf
            have q1 : decide ((z : Int) ≤ 3) = true := decide_eq_true (by omega)
            have q2 : (at_ : Int) + (z : Int) ≤ (n : Int) := by omega
            go_wp2_with fail
            generalize wr = wq at *
            go_loopg [8] 49 (fun h s8 wr => ∃ j : Nat, s8 = .int .i64 j ∧ Hid (40 ≤ j ∧ j ≤ 88 ∧ j + h = 89) ∧ Hid (∃ a, wr = w.drewN a))
            case atStart => exact ⟨40, rfl, by show _ ∧ _; omega, HW.out⟩
            case round =>
              obtain ⟨j, rfl, HJ, HW2⟩ := hrel
              clear HTr
              have HTr : Hid (TabAt wr) := by obtain ⟨a, ha⟩ := HW2.out; rw [ha]; exact HT.out
              have HDr : Hid (Byts wr w.heap.size (some ⟨b, o + at_, none⟩) ((l.take n).drop at_)) := by obtain ⟨a, ha⟩ := HW2.out; rw [ha]; exact HD.out
              by_cases hlt : j < 88
              · have hlz : (j : Int) < 88 := by omega
                obtain ⟨u, hux⟩ : ∃ u, tx j = u := ⟨_, rfl⟩
                have HU : Hid (spA (j : Int) = u) := by show _ = _; rw [← hux]; exact spA_in hlt
                obtain ⟨c, hc⟩ : ∃ c, strOf (((l.take n).drop at_).take z) = c := ⟨_, rfl⟩
                have hne2 : u ≠ c := by
                  rw [← hux, ← hc]
                  exact HO.out.longest HDr.out.out HZ.out.1 (by have := HDL.out; omega) HJ.out.1 hlt
                have he := str_ne hne2
                have hrun : ∀ a, (convert 28 9 (.slice (some ⟨b, o + at_, none⟩) z (cap - at_))).run Tryd.prog (wr.drewN a) = .ok (.string c) (wr.drewN a) := fun a => by
                  have := conv_bytes ((HDr.out.drewN a).take z) z (cap - at_) (by rw [List.length_take]; have := HDL.out; omega)
                  rwa [hc] at this
                have HC : Hid (∀ a, Calls Tryd.prog 7 #[.int .i64 (j : Int)] (wr.drewN a) fun e w'' => e = .returned (.string u) ∧ ∃ m, w'' = (wr.drewN a).drewN m) := fun a => (Spell_run j u _ (HTr.out.drewN a) HU).mono fun _ _ ⟨h1, h2⟩ => ⟨h1, 0, h2.symm⟩
                have hwa : IntKind.i64.wrap (at_ : Int) = (at_ : Int) := IntWalk.i64_in _ (by omega)
                have hwr : IntKind.i64.wrap ((at_ : Int) + (z : Int)) = (at_ : Int) + (z : Int) := IntWalk.i64_in _ (by omega)
                have hwn : ((at_ : Int) + (z : Int)).toNat = at_ + z := by omega
                have hw0 : (0 : Int) ≤ (at_ : Int) + (z : Int) := by omega
                clear hux hc hne2
                go_wp2_with fail
                go_quiet (first | (go_at_call 7; refine Calls.quiet_of (HC.out _)) | fail)
                clear hrun hwr hwn hw0 hwa
                go_wp2_with fail
                go_roundg (88 - j)
                case measure => have := HJ.out; omega
                case rel =>
                  obtain ⟨a, ha⟩ := HW2.out
                  exact ⟨j + 1, by go_num, by show _ ∧ _; have := HJ.out; omega, a + _, by rw [ha, World.drewN_drewN]⟩
              · have hlz : ¬ (j : Int) < 88 := by omega
                go_wp2_with fail
                go_roundg (4 - z)
                case measure => have := HZ.out; omega
                case rel => exact ⟨z + 1, by go_num, by show _ ∧ _; have := HZ.out; omega, HW2.out⟩
          · obtain ⟨a, ha⟩ := HW.out
            subst ha
            by_cases hz3 : z ≤ 3
            · have q1 : decide ((z : Int) ≤ 3) = true := decide_eq_true (by omega)
              have q2 : (n : Int) < (at_ : Int) + (z : Int) := by omega
              go_wp2_with fail
              refine (works_run (w.drewN a) (HT.out.drewN _)).mono ?_
              rintro e w2 ⟨rfl, hw2⟩
              have HB2 : Hid (Below w.heap.size w w2) := (Below.drewN (Below.refl _ _) a).trans (by simpa using hw2)
              clear hw2
              go_wp2_with fail
              go_ret
              exact ⟨rfl, HB2.out⟩
            · have q1 : decide ((z : Int) ≤ 3) = false := decide_eq_false (by omega)
              go_wp2_with fail
              refine (works_run (w.drewN a) (HT.out.drewN _)).mono ?_
              rintro e w2 ⟨rfl, hw2⟩
              have HB2 : Hid (Below w.heap.size w w2) := (Below.drewN (Below.refl _ _) a).trans (by simpa using hw2)
              clear hw2
              go_wp2_with fail
              go_ret
              exact ⟨rfl, HB2.out⟩
  · have hz : (100 : Int) < (n : Int) := by omega
    have HB := Lib.hid (hb.take 100)
    have HLm : Hid ((l.take 100).length = 100) := by show _ = _; rw [List.length_take]; omega
    obtain ⟨k0, n0, ho⟩ := op_ex ((l.take 100).drop at_)
    have hoi : (if (at_ : Int) < 0 then [] else (l.take 100).drop (at_ : Int).toNat) = (l.take 100).drop at_ := by rw [if_neg (by omega), Int.toNat_natCast]
    have HOi : Hid (OpIs (if (at_ : Int) < 0 then [] else (l.take 100).drop (at_ : Int).toNat) k0 n0) := by show OpIs _ k0 n0; rw [hoi]; exact ho
    have HO := Lib.hid ho
    have HT := Lib.hid ht
    have hn3 : n0 ≤ 3 := ho.bound.1
    by_cases hk : k0 = 0
    · have hn : n0 = 0 := ho.zero hk
      subst hk
      subst hn
      clear hb hl ho ht hoi
      go_enter Tryd.func6, Tryd.ntmps6
      go_wp2_with fail
      all_goals
        refine (Operator_run A 100 cap at_ (l.take 100) 0 0 _ _ HB.out HLm.out (by omega) (by omega) HT.out HOi).mono ?_
        rintro e w1 ⟨rfl, a, rfl⟩
        unfold opT
        go_wp2_with fail
        refine (works_run (w.drewN a) (HT.out.drewN _)).mono ?_
        rintro e w1 ⟨rfl, hw1⟩
        have HW : Hid (Below w.heap.size w w1) := (Below.drewN (Below.refl _ _) a).trans (by simpa using hw1)
        clear hw1
        go_wp2_with fail
        go_ret
        exact ⟨rfl, HW.out⟩
    · obtain ⟨hk40, hk88, hnl, hn1, hbeg, hsz⟩ := ho.some hk
      have hkz : ((k0 : Int) == 0) = false := by rw [beq_eq_false_iff_ne]; omega
      have hdl : ((l.take 100).drop at_).length = 100 - at_ := by rw [List.length_drop, HLm.out]
      have hin : at_ < 100 := by omega
      have hfit : at_ + n0 ≤ 100 := by omega
      have HDL := Lib.hid hdl
      obtain ⟨b, o, rfl, hd⟩ := HB.out.drop (i := at_) (by rw [HLm.out]; exact hin)
      have HD := Lib.hid hd
      have hcut : strOf (((l.take 100).drop at_).take n0) = tx k0 := (cut_beg hd.out hbeg hsz).symm
      obtain ⟨t, htt⟩ : ∃ t, tx k0 = t := ⟨_, rfl⟩
      rw [htt] at hcut
      have HS : Hid (spA (k0 : Int) = t) := by show _ = _; rw [← htt]; exact spA_in hk88
      have HRUN : Hid (∀ W, Byts W w.heap.size (some ⟨b, o + at_, none⟩) ((l.take 100).drop at_) → (convert 28 9 (.slice (some ⟨b, o + at_, none⟩) n0 (cap - at_))).run Tryd.prog W = .ok (.string t) W) := fun W hW => by
        have := conv_bytes (hW.take n0) n0 (cap - at_) (by rw [List.length_take]; omega)
        rwa [hcut] at this
      have hne : ¬ cap = at_ := by omega
      clear hb hl ho ht hoi hbeg hsz hd hcut htt hdl hk
      go_enter Tryd.func6, Tryd.ntmps6
      go_wp2_with fail
      all_goals
        refine (Operator_run _ 100 cap at_ (l.take 100) k0 n0 _ _ HB.out HLm.out (by omega) (by omega) HT.out HOi).mono ?_
        rintro e w1 ⟨rfl, a, rfl⟩
        unfold opT
        generalize hW1 : w.drewN a = w1
        have HW1 : Hid (∃ a, w1 = w.drewN a) := ⟨a, hW1.symm⟩
        have HD1 : Hid (Byts w1 w.heap.size (some ⟨b, o + at_, none⟩) ((l.take 100).drop at_)) := by rw [← hW1]; exact HD.out
        have HT1 : Hid (TabAt w1) := by rw [← hW1]; exact HT.out
        clear hW1
        have HC : Hid (∀ a, Calls Tryd.prog 7 #[.int .i64 (k0 : Int)] (w1.drewN a) fun e w'' => e = .returned (.string t) ∧ ∃ m, w'' = (w1.drewN a).drewN m) := fun a => (Spell_run k0 t _ (HT1.out.drewN a) HS).mono fun _ _ ⟨h1, h2⟩ => ⟨h1, 0, h2.symm⟩
        have hrun : ∀ a, (convert 28 9 (.slice (some ⟨b, o + at_, none⟩) n0 (cap - at_))).run Tryd.prog (w1.drewN a) = .ok (.string t) (w1.drewN a) := fun a => HRUN.out _ (HD1.out.drewN a)
        have hwa : IntKind.i64.wrap (at_ : Int) = (at_ : Int) := IntWalk.i64_in _ (by omega)
        have hwr : IntKind.i64.wrap ((at_ : Int) + (n0 : Int)) = (at_ : Int) + (n0 : Int) := IntWalk.i64_in _ (by omega)
        have hwn : ((at_ : Int) + (n0 : Int)).toNat = at_ + n0 := by omega
        have hw0 : (0 : Int) ≤ (at_ : Int) + (n0 : Int) := by omega
        have hgt : decide ((100 : Int) < (at_ : Int) + (n0 : Int)) = false := decide_eq_false (by omega)
        have htt : (t.toList != t.toList) = false := by simp
        go_wp2_with fail
        go_quiet (first | (go_at_call 7; refine Calls.quiet_of (HC.out _)) | fail)
        clear hrun hwr hwn hw0 hgt htt hwa HC
        go_wp2_with fail
        go_loopg [7] 6 (fun h s7 wr => ∃ z : Nat, s7 = .int .i64 z ∧ Hid (n0 < z ∧ z ≤ 4 ∧ 5 ≤ z + h) ∧ Hid (∃ a, wr = w.drewN a))
        case atStart =>
          obtain ⟨a, ha⟩ := HW1.out
          exact ⟨n0 + 1, by go_num, by show _ ∧ _; omega, a + nq, by rw [ha, World.drewN_drewN]⟩
        case round =>
          obtain ⟨z, rfl, HZ, HW⟩ := hrel
          have hz4 : z ≤ 4 := HZ.out.2.1
          clear HW1 HD1 HT1
          have HTr : Hid (TabAt wr) := by obtain ⟨a, ha⟩ := HW.out; rw [ha]; exact HT.out
          by_cases hzf : z ≤ 3 ∧ at_ + z ≤ 100
          · obtain ⟨hz3, hzl⟩ := hzf
            have q1 : decide ((z : Int) ≤ 3) = true := decide_eq_true (by omega)
            have q2 : (at_ : Int) + (z : Int) ≤ (100 : Int) := by omega
            go_wp2_with fail
            generalize wr = wq at *
            go_loopg [8] 49 (fun h s8 wr => ∃ j : Nat, s8 = .int .i64 j ∧ Hid (40 ≤ j ∧ j ≤ 88 ∧ j + h = 89) ∧ Hid (∃ a, wr = w.drewN a))
            case atStart => exact ⟨40, rfl, by show _ ∧ _; omega, HW.out⟩
            case round =>
              obtain ⟨j, rfl, HJ, HW2⟩ := hrel
              clear HTr
              have HTr : Hid (TabAt wr) := by obtain ⟨a, ha⟩ := HW2.out; rw [ha]; exact HT.out
              have HDr : Hid (Byts wr w.heap.size (some ⟨b, o + at_, none⟩) ((l.take 100).drop at_)) := by obtain ⟨a, ha⟩ := HW2.out; rw [ha]; exact HD.out
              by_cases hlt : j < 88
              · have hlz : (j : Int) < 88 := by omega
                obtain ⟨u, hux⟩ : ∃ u, tx j = u := ⟨_, rfl⟩
                have HU : Hid (spA (j : Int) = u) := by show _ = _; rw [← hux]; exact spA_in hlt
                obtain ⟨c, hc⟩ : ∃ c, strOf (((l.take 100).drop at_).take z) = c := ⟨_, rfl⟩
                have hne2 : u ≠ c := by
                  rw [← hux, ← hc]
                  exact HO.out.longest HDr.out.out HZ.out.1 (by have := HDL.out; omega) HJ.out.1 hlt
                have he := str_ne hne2
                have hrun : ∀ a, (convert 28 9 (.slice (some ⟨b, o + at_, none⟩) z (cap - at_))).run Tryd.prog (wr.drewN a) = .ok (.string c) (wr.drewN a) := fun a => by
                  have := conv_bytes ((HDr.out.drewN a).take z) z (cap - at_) (by rw [List.length_take]; have := HDL.out; omega)
                  rwa [hc] at this
                have HC : Hid (∀ a, Calls Tryd.prog 7 #[.int .i64 (j : Int)] (wr.drewN a) fun e w'' => e = .returned (.string u) ∧ ∃ m, w'' = (wr.drewN a).drewN m) := fun a => (Spell_run j u _ (HTr.out.drewN a) HU).mono fun _ _ ⟨h1, h2⟩ => ⟨h1, 0, h2.symm⟩
                have hwa : IntKind.i64.wrap (at_ : Int) = (at_ : Int) := IntWalk.i64_in _ (by omega)
                have hwr : IntKind.i64.wrap ((at_ : Int) + (z : Int)) = (at_ : Int) + (z : Int) := IntWalk.i64_in _ (by omega)
                have hwn : ((at_ : Int) + (z : Int)).toNat = at_ + z := by omega
                have hw0 : (0 : Int) ≤ (at_ : Int) + (z : Int) := by omega
                clear hux hc hne2
                go_wp2_with fail
                go_quiet (first | (go_at_call 7; refine Calls.quiet_of (HC.out _)) | fail)
                clear hrun hwr hwn hw0 hwa
                go_wp2_with fail
                go_roundg (88 - j)
                case measure => have := HJ.out; omega
                case rel =>
                  obtain ⟨a, ha⟩ := HW2.out
                  exact ⟨j + 1, by go_num, by show _ ∧ _; have := HJ.out; omega, a + _, by rw [ha, World.drewN_drewN]⟩
              · have hlz : ¬ (j : Int) < 88 := by omega
                go_wp2_with fail
                go_roundg (4 - z)
                case measure => have := HZ.out; omega
                case rel => exact ⟨z + 1, by go_num, by show _ ∧ _; have := HZ.out; omega, HW2.out⟩
          · obtain ⟨a, ha⟩ := HW.out
            subst ha
            by_cases hz3 : z ≤ 3
            · have q1 : decide ((z : Int) ≤ 3) = true := decide_eq_true (by omega)
              have q2 : (100 : Int) < (at_ : Int) + (z : Int) := by omega
              go_wp2_with fail
              refine (works_run (w.drewN a) (HT.out.drewN _)).mono ?_
              rintro e w2 ⟨rfl, hw2⟩
              have HB2 : Hid (Below w.heap.size w w2) := (Below.drewN (Below.refl _ _) a).trans (by simpa using hw2)
              clear hw2
              go_wp2_with fail
              go_ret
              exact ⟨rfl, HB2.out⟩
            · have q1 : decide ((z : Int) ≤ 3) = false := decide_eq_false (by omega)
              go_wp2_with fail
              refine (works_run (w.drewN a) (HT.out.drewN _)).mono ?_
              rintro e w2 ⟨rfl, hw2⟩
              have HB2 : Hid (Below w.heap.size w w2) := (Below.drewN (Below.refl _ _) a).trans (by simpa using hw2)
              clear hw2
              go_wp2_with fail
              go_ret
              exact ⟨rfl, HB2.out⟩
end Go.Proofs.YtijikbfcobnclaaDoor
