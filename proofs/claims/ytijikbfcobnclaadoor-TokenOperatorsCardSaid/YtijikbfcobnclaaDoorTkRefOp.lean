/-
  Stage 6: the reference's Operator.
-/
import Derived.Test.YtijikbfcobnclaaDoorTkOp
namespace Go.Proofs.YtijikbfcobnclaaDoor
open Go.RowKit

/-- No text that begins dd is longer than z. -/
def Max (dd : List Int) (z : Nat) : Prop := ∀ j, 40 ≤ j → j < 88 → Beg dd j → (tx j).size ≤ z
/-- None of the operators below m is the z bytes at the place. -/
def NoOp (dd : List Int) (z m : Nat) : Prop := ∀ j, 40 ≤ j → j < m → tx j ≠ strOf (dd.take z)
theorem cut_beg {dd : List Int} {j z : Nat} (hd : U.Byt dd) (h : Beg dd j) (hz : (tx j).size = z) : tx j = strOf (dd.take z) := by
  apply bts_inj'
  rw [bts_strOf (byt_take hd _)]
  have := List.prefix_iff_eq_take.1 h
  rw [bts_length, hz] at this
  exact this
theorem beg_cut {dd : List Int} {j z : Nat} (hd : U.Byt dd) (hz : z ≤ dd.length) (h : tx j = strOf (dd.take z)) : Beg dd j ∧ (tx j).size = z := by
  have e : bts (tx j) = dd.take z := by rw [h, bts_strOf (byt_take hd _)]
  refine ⟨by unfold Beg; rw [e]; exact List.take_prefix _ _, ?_⟩
  rw [← bts_length, e, List.length_take]
  omega
theorem Max.top (dd : List Int) : Max dd 3 := fun j h1 h2 _ => by rw [tx_size]; exact (txl_op h1 h2).2
theorem Max.down {dd : List Int} {z : Nat} (hd : U.Byt dd) (h : Max dd z) (hn : NoOp dd z 88) : Max dd (z - 1) := fun j h1 h2 hb => by
  have := h j h1 h2 hb
  by_cases e : (tx j).size = z
  · exact absurd (cut_beg hd hb e) (hn j h1 h2)
  · omega
theorem Max.cut {dd : List Int} {z : Nat} (hl : dd.length < z) : Max dd (z - 1) := fun j h1 h2 hb => by
  have h3 := hb.length_le
  rw [bts_length] at h3
  omega
theorem NoOp.next {dd : List Int} {z m : Nat} (h : NoOp dd z m) (h2 : tx m ≠ strOf (dd.take z)) : NoOp dd z (m + 1) := fun j h1 hj => by
  by_cases e : j = m
  · subst e; exact h2
  · exact h j h1 (by omega)
theorem Max.none {dd : List Int} (h : Max dd 0) : OpIs dd 0 0 := .inl ⟨rfl, rfl, fun j h1 h2 hb => by
  have := h j h1 h2 hb
  rw [tx_size] at this
  have := (txl_op h1 h2).1
  omega⟩
theorem Max.hit {dd : List Int} {z j : Nat} (h : Max dd z) (hd : U.Byt dd) (hz : z ≤ dd.length) (h1 : 40 ≤ j) (h2 : j < 88) (he : tx j = strOf (dd.take z)) : OpIs dd j z := by
  obtain ⟨hb, hs⟩ := beg_cut hd hz he
  exact .inr ⟨h1, h2, hs.symm, hb, h⟩
set_option maxHeartbeats 1000000 in
theorem refOperator_out (A : Option Addr) (n cap : Nat) (at_ : Int) (w : World) (h : at_ < 0 ∨ (n : Int) ≤ at_) :
    Calls Tryd.prog 21 #[.slice A n cap, .int .i64 at_] w (Ans (opT 0 0) w) := by
  by_cases h1 : at_ < 0
  · go_enter Tryd.func21, Tryd.ntmps21
    go_wp2
    go_ret2
    exact ⟨rfl, 0, rfl⟩
  · have h2 : (n : Int) ≤ at_ := by omega
    have h1' : decide (at_ < 0) = false := by simpa using h1
    go_enter Tryd.func21, Tryd.ntmps21
    go_wp2
    go_ret2
    exact ⟨rfl, 0, rfl⟩
set_option maxRecDepth 100000 in
set_option maxHeartbeats 4000000 in
theorem refOperator_in (A : Option Addr) (n cap : Nat) (at_ : Nat) (d : List Int) (k0 n0 : Nat) (w : World) (B : Nat) (hb : Byts w B A d) (hl : d.length = n) (hcap : n ≤ cap) (hm : n ≤ 100000) (hat : at_ < n) (ho : Hid (OpIs (d.drop at_) k0 n0)) :
    Calls Tryd.prog 21 #[.slice A n cap, .int .i64 (at_ : Int)] w (Ans (opT k0 n0) w) := by
  obtain ⟨b, o, rfl, hd⟩ := hb.drop (i := at_) (by omega)
  have HD := Lib.hid hd
  have HL : Hid ((d.drop at_).length = n - at_) := by show _ = _; rw [List.length_drop, hl]
  have h0 : decide ((at_ : Int) < 0) = false := by simp
  have h1 : decide (n ≤ at_) = false := decide_eq_false (by omega)
  have hne : ¬ cap = at_ := by omega
  clear hb hl hd
  generalize d.drop at_ = dd at *
  go_enter Tryd.func21, Tryd.ntmps21
  go_wp2_with fail
  go_loopg [6] 4 (fun h s6 wr => ∃ z : Nat, s6 = .int .i64 z ∧ Hid (z ≤ 3 ∧ z + 1 = h) ∧ Hid (Max dd z) ∧ Hid (∃ m, wr = w.drewN m))
  case atStart => exact ⟨3, rfl, by show _ ∧ _; omega, Max.top dd, 0, rfl⟩
  case round =>
    obtain ⟨z, rfl, HZ, HM, HW⟩ := hrel
    have hz3 : z ≤ 3 := HZ.out.1
    by_cases hz1 : 1 ≤ z
    · have hzz : (1 : Int) ≤ (z : Int) := by omega
      by_cases hfit : z ≤ n - at_
      · have hsub : ¬ ((n : Int) - (at_ : Int) < (z : Int)) := by omega
        go_wp2_with fail
        generalize wr = wq at *
        go_loopg [7] 49 (fun h s7 wr => ∃ j : Nat, s7 = .int .i64 j ∧ Hid (40 ≤ j ∧ j ≤ 88 ∧ j + h = 89) ∧ Hid (NoOp dd z j) ∧ Hid (∃ m, wr = w.drewN m))
        case atStart => exact ⟨40, rfl, by show _ ∧ _; omega, fun j h1 h2 => by omega, HW.out⟩
        case round =>
          obtain ⟨j, rfl, HJ, HN, HW2⟩ := hrel
          clear HW
          have HDr : Hid (Byts wr B (some ⟨b, o + at_, none⟩) dd) := by obtain ⟨m, hm⟩ := HW2.out; rw [hm]; exact HD.out
          by_cases hlt : j < 88
          · have hlz : (j : Int) < 88 := by omega
            obtain ⟨t, htx⟩ : ∃ t, tx j = t := ⟨_, rfl⟩
            have HX := Lib.hid htx
            have HS : Hid (spA (j : Int) = t) := by show _ = _; rw [← htx]; exact spA_in hlt
            clear htx
            have HC : Hid (∀ a, Calls Tryd.prog 8 #[.int .i64 (j : Int)] (wr.drewN a) fun e w'' => e = .returned (.string t) ∧ ∃ m, w'' = (wr.drewN a).drewN m) := fun a => (refSpell_run j t _ HS).mono fun _ _ ⟨h1, h2⟩ => ⟨h1, 0, h2.symm⟩
            obtain ⟨c, hc⟩ : ∃ c, strOf (dd.take z) = c := ⟨_, rfl⟩
            have hrun : ∀ a, (convert 28 9 (.slice (some ⟨b, o + at_, none⟩) z (cap - at_))).run Tryd.prog (wr.drewN a) = .ok (.string c) (wr.drewN a) := fun a => by
              have := conv_bytes ((HDr.out.drewN a).take z) z (cap - at_) (by rw [List.length_take]; have := HL.out; omega)
              rwa [hc] at this
            have HCc := Lib.hid hc
            clear hc
            have hwr : IntKind.i64.wrap ((at_ : Int) + (z : Int)) = (at_ : Int) + (z : Int) := IntWalk.i64_in _ (by omega)
            have hwn : ((at_ : Int) + (z : Int)).toNat = at_ + z := by omega
            have hw0 : (0 : Int) ≤ (at_ : Int) + (z : Int) := by omega
            by_cases hq : t = c
            · have he := str_eq hq
              have HE : Hid (j = k0 ∧ z = n0) := OpIs.uniq (HM.out.hit HDr.out.out (by have := HL.out; omega) HJ.out.1 hlt (by rw [HX.out, HCc.out]; exact hq)) ho.out
              clear hq
              go_wp2_with fail
              go_quiet (first | (go_at_call 8; refine Calls.quiet_of (HC.out _)) | fail)
              go_wp2_with fail
              go_ret2
              obtain ⟨m, hm⟩ := HW2.out
              exact ⟨by rw [← HE.out.1, ← HE.out.2]; rfl, m + _, by rw [hm, World.drewN_drewN]⟩
            · have he := str_ne hq
              have HN2 := Lib.hid (HN.out.next (m := j) (by rw [HX.out, HCc.out]; exact hq))
              clear hq
              go_wp2_with fail
              go_quiet (first | (go_at_call 8; refine Calls.quiet_of (HC.out _)) | fail)
              clear hrun hwr hwn hw0
              go_wp2_with fail
              go_roundg (88 - j)
              case measure => have := HJ.out; omega
              case rel =>
                obtain ⟨m, hm⟩ := HW2.out
                exact ⟨j + 1, by go_num, by show _ ∧ _; have := HJ.out; omega, HN2.out, m + _, by rw [hm, World.drewN_drewN]⟩
          · have hlz : ¬ (j : Int) < 88 := by omega
            have h88 : j = 88 := by have := HJ.out; omega
            rw [h88] at HN
            have HM2 := Lib.hid (HM.out.down HD.out.out HN.out)
            clear h88
            go_wp2_with fail
            go_roundg z
            case measure => have := HZ.out; omega
            case rel => exact ⟨z - 1, by go_num, by show _ ∧ _; have := HZ.out; omega, HM2.out, HW2.out⟩
      · have hsub : (n : Int) - (at_ : Int) < (z : Int) := by omega
        have HM2 : Hid (Max dd (z - 1)) := Max.cut (by have := HL.out; omega)
        go_wp2_with fail
        go_roundg z
        case measure => have := HZ.out; omega
        case rel => exact ⟨z - 1, by go_num, by show _ ∧ _; have := HZ.out; omega, HM2.out, HW.out⟩
    · have hzz : ¬ (1 : Int) ≤ (z : Int) := by omega
      have h00 : z = 0 := by omega
      rw [h00] at HM
      have HE : Hid (0 = k0 ∧ 0 = n0) := OpIs.uniq HM.out.none ho.out
      clear h00
      go_wp2_with fail
      go_ret2
      obtain ⟨m, hm⟩ := HW.out
      exact ⟨by rw [← HE.out.1, ← HE.out.2]; rfl, m, hm⟩
theorem refOperator_run (A : Option Addr) (n cap : Nat) (at_ : Int) (d : List Int) (k0 n0 : Nat) (w : World) (B : Nat) (hb : Byts w B A d) (hl : d.length = n) (hcap : n ≤ cap) (hm : n ≤ 100000) (ho : Hid (OpIs (if at_ < 0 then [] else d.drop at_.toNat) k0 n0)) :
    Calls Tryd.prog 21 #[.slice A n cap, .int .i64 at_] w (Ans (opT k0 n0) w) := by
  by_cases h : 0 ≤ at_ ∧ at_ < n
  · obtain ⟨i, rfl⟩ := Int.eq_ofNat_of_zero_le h.1
    exact refOperator_in A n cap i d k0 n0 w B hb hl hcap hm (by omega) (by have := ho.out; rwa [if_neg (by omega), Int.toNat_natCast] at this)
  · have : OpIs [] k0 n0 := by
      have := ho.out
      split at this
      · exact this
      · rwa [List.drop_of_length_le (by omega)] at this
    obtain ⟨rfl, rfl⟩ := OpIs.uniq op_nil this
    exact refOperator_out A n cap at_ w (by omega)
end Go.Proofs.YtijikbfcobnclaaDoor
