/-
  Stage 6: token's begins and Operator.
-/
import Derived.Test.YtijikbfcobnclaaDoorTkKw
import Derived.Test.YtijikbfcobnclaaDoorTkBase
namespace Go.Proofs.YtijikbfcobnclaaDoor
open Go.RowKit

theorem bts_strOf {l : List Int} (h : U.Byt l) : bts (strOf l) = l := by
  simp only [bts, strOf, strOfNums, List.map_map]
  conv => rhs; rw [← List.map_id l]
  apply List.map_congr_left
  intro x hx
  have := h x hx
  simp only [Function.comp, UInt8.toNat_ofNat', id]
  omega
theorem strOf_bts (s : ByteArray) : strOf (bts s) = s := bts_inj' (bts_strOf (bts_byt s))
theorem byt_take {l : List Int} (h : U.Byt l) (n : Nat) : U.Byt (l.take n) := fun x hx => h x (List.mem_of_mem_take hx)
theorem byt_drop {l : List Int} (h : U.Byt l) (n : Nat) : U.Byt (l.drop n) := fun x hx => h x (List.mem_of_mem_drop hx)
/-- Do the bytes d begin with the string t? -/
def begB (d : List Int) (t : ByteArray) : Bool := decide (bts t <+: d)
theorem begB_long {d : List Int} {t : ByteArray} (h : d.length < t.size) : begB d t = false := decide_eq_false fun hp => by
  have := hp.length_le
  rw [bts_length] at this
  omega
theorem begB_cut {d : List Int} {t : ByteArray} (hd : U.Byt d) : begB d t = ((strOf (d.take t.size)).toList == t.toList) := by
  rw [begB, Bool.eq_iff_iff]
  simp only [decide_eq_true_eq, beq_iff_eq]
  constructor
  · intro hp
    have : strOf (d.take t.size) = t := by
      apply bts_inj'
      rw [bts_strOf (byt_take hd _)]
      have := List.prefix_iff_eq_take.1 hp
      rw [bts_length] at this
      exact this.symm
    rw [this]
  · intro e
    rw [Lib.toList_data, Lib.toList_data] at e
    have e2 := bytes_inj e
    have : bts t = d.take t.size := by rw [← bts_strOf (byt_take hd t.size), e2]
    rw [this]
    exact List.take_prefix _ _
set_option maxRecDepth 100000 in
set_option maxHeartbeats 1000000 in
theorem begins_run (A : Option Addr) (n cap : Nat) (d : List Int) (t : ByteArray) (v : Bool) (w : World) (B : Nat) (hb : Byts w B A d) (hl : Hid (d.length = n)) (hcap : n ≤ cap) (_hm : n ≤ 100000) (ht : t.size ≤ 100000) (hv : Hid (begB d t = v)) :
    Calls Tryd.prog 24 #[.slice A n cap, .string t] w fun e w' => e = .returned (.bool v) ∧ w = w' := by
  have HB := Lib.hid hb
  clear hb
  by_cases h : t.size ≤ n
  · have HV : Hid (((strOf (d.take t.size)).toList == t.toList) = v) := (begB_cut HB.out.out).symm.trans hv.out
    have hz : (t.size : Int) ≤ (n : Int) := by omega
    have hrun := conv_bytes (HB.out.take t.size) t.size cap (by rw [List.length_take]; have := hl.out; omega)
    go_enter Tryd.func24, Tryd.ntmps24
    go_wp2_with fail
    go_ret
    exact ⟨ret_bool HV.out, rfl⟩
  · have hz : ¬ (t.size : Int) ≤ (n : Int) := by omega
    have HV : Hid (v = false) := hv.out.symm.trans (begB_long (by have := hl.out; omega))
    have hz2 : decide (t.size ≤ n) = false := decide_eq_false h
    clear hz h
    go_enter Tryd.func24, Tryd.ntmps24
    go_wp2_with fail
    go_ret
    exact ⟨ret_bool HV.out.symm, rfl⟩
theorem TabAt.drewN {w : World} (h : TabAt w) (n : Nat) : TabAt (w.drewN n) := h
theorem Byts.drewN {w : World} {B : Nat} {A : Option Addr} {l : List Int} (h : Byts w B A l) (n : Nat) : Byts (w.drewN n) B A l := h
/-- The bytes behind a place. -/
theorem Byts.drop {w : World} {B : Nat} {A : Option Addr} {l : List Int} (h : Byts w B A l) {i : Nat} (hi : i < l.length) : ∃ b o, A = some ⟨b, o, none⟩ ∧ Byts w B (some ⟨b, o + i, none⟩) (l.drop i) := by
  obtain ⟨b, o, e, hb, hc⟩ := h.2 (by omega)
  refine ⟨b, o, e, fun x hx => h.1 x (List.mem_of_mem_drop hx), fun _ => ⟨b, o + i, rfl, hb, fun j x hx => ?_⟩⟩
  rw [List.getElem?_drop] at hx
  rw [Nat.add_assoc]
  exact hc _ _ hx
/-- What Operator answers. -/
def opT (k n : Nat) : Value := .tuple #[.int .i64 (k : Int), .int .i64 (n : Int)]
set_option maxHeartbeats 1000000 in
theorem Operator_out (A : Option Addr) (n cap : Nat) (at_ : Int) (w : World) (h : at_ < 0 ∨ (n : Int) ≤ at_) :
    Calls Tryd.prog 20 #[.slice A n cap, .int .i64 at_] w (Ans (opT 0 0) w) := by
  by_cases h1 : at_ < 0
  · go_enter Tryd.func20, Tryd.ntmps20
    go_wp2
    go_ret2
    exact ⟨rfl, 0, rfl⟩
  · have h2 : (n : Int) ≤ at_ := by omega
    have h1' : decide (at_ < 0) = false := by simpa using h1
    go_enter Tryd.func20, Tryd.ntmps20
    go_wp2
    go_ret2
    exact ⟨rfl, 0, rfl⟩
set_option maxRecDepth 100000 in
set_option maxHeartbeats 4000000 in
theorem Operator_in (A : Option Addr) (n cap : Nat) (at_ : Nat) (d : List Int) (k0 n0 : Nat) (w : World) (B : Nat) (hb : Byts w B A d) (hl : d.length = n) (hcap : n ≤ cap) (hm : n ≤ 100000) (hat : at_ < n) (ht : TabAt w) (ho : Hid (OpIs (d.drop at_) k0 n0)) :
    Calls Tryd.prog 20 #[.slice A n cap, .int .i64 (at_ : Int)] w (Ans (opT k0 n0) w) := by
  obtain ⟨b, o, rfl, hd⟩ := hb.drop (i := at_) (by omega)
  have HD := Lib.hid hd
  have HL : Hid ((d.drop at_).length = n - at_) := by show _ = _; rw [List.length_drop, hl]
  have HT := Lib.hid ht
  have h0 : decide ((at_ : Int) < 0) = false := by simp
  have h1 : decide (n ≤ at_) = false := decide_eq_false (by omega)
  have hne : ¬ cap = at_ := by omega
  clear hb hl ht hd
  generalize d.drop at_ = dd at *
  go_enter Tryd.func20, Tryd.ntmps20
  go_wp2_with fail
  go_loopg [4, 5, 6] 49 (fun h s4 s5 s6 wr => ∃ k z j : Nat, s4 = .int .i64 k ∧ s5 = .int .i64 z ∧ s6 = .int .i64 j ∧ Hid (40 ≤ j ∧ j ≤ 88 ∧ j + h = 89) ∧ Hid (OpTo dd j k z) ∧ Hid (∃ m, wr = w.drewN m))
  case atStart => exact ⟨0, 0, 40, rfl, rfl, rfl, by show _ ∧ _; omega, OpTo.zero _, 0, rfl⟩
  case round =>
    obtain ⟨k, z, j, rfl, rfl, rfl, HJ, HO, HW⟩ := hrel
    have HTr : Hid (TabAt wr) := by obtain ⟨m, hm⟩ := HW.out; rw [hm]; exact HT.out
    have HDr : Hid (Byts wr B (some ⟨b, o + at_, none⟩) dd) := by obtain ⟨m, hm⟩ := HW.out; rw [hm]; exact HD.out
    have hz11 : z ≤ 11 := HO.out.bound.1
    by_cases hlt : j ≤ 87
    · have hlz : (j : Int) ≤ 87 := by omega
      have hj88 : j < 88 := by omega
      have hc := HTr.out j hj88
      obtain ⟨t, htx⟩ : ∃ t, tx j = t := ⟨_, rfl⟩
      rw [htx] at hc
      have HX := Lib.hid htx
      have ht11 : t.size ≤ 11 := by rw [← htx, tx_size]; exact txl_short j
      clear htx
      by_cases hg : z < t.size
      · obtain ⟨v, hv⟩ : ∃ v, begB dd t = v := ⟨_, rfl⟩
        have HV := Lib.hid hv
        have HC : Hid (∀ a, Calls Tryd.prog 24 #[.slice (some ⟨b, o + at_, none⟩) (n - at_) (cap - at_), .string t] (wr.drewN a) fun e w'' => e = .returned (.bool v) ∧ ∃ m, w'' = (wr.drewN a).drewN m) := fun a =>
          (begins_run _ _ _ dd t v (wr.drewN a) B (HDr.out.drewN a) HL (by omega) (by omega) (by omega) HV).mono fun _ _ ⟨e1, e2⟩ => ⟨e1, 0, e2.symm⟩
        clear hv
        cases v with
        | true =>
          have HN : Hid (OpTo dd (j + 1) j t.size) := by
            have := HO.out.hit HJ.out.1 (by rw [HX.out]; exact hg) (by show bts (tx j) <+: dd; rw [HX.out]; exact of_decide_eq_true HV.out)
            rwa [HX.out] at this
          go_wp2_with fail
          go_quiet (first | (go_at_call 24; refine Calls.quiet_of (HC.out _)) | fail)
          go_wp2_with fail
          go_roundg (88 - j)
          case measure => have := HJ.out; omega
          case rel =>
            obtain ⟨m, hm⟩ := HW.out
            exact ⟨j, t.size, j + 1, rfl, rfl, by go_num, by show _ ∧ _; have := HJ.out; omega, HN.out, m + _, by rw [hm, World.drewN_drewN]⟩
        | false =>
          have HN : Hid (OpTo dd (j + 1) k z) := HO.out.next hj88 (fun _ hb => of_decide_eq_false HV.out (by rw [← HX.out]; exact hb))
          go_wp2_with fail
          go_quiet (first | (go_at_call 24; refine Calls.quiet_of (HC.out _)) | fail)
          go_wp2_with fail
          go_roundg (88 - j)
          case measure => have := HJ.out; omega
          case rel =>
            obtain ⟨m, hm⟩ := HW.out
            exact ⟨k, z, j + 1, rfl, rfl, by go_num, by show _ ∧ _; have := HJ.out; omega, HN.out, m + _, by rw [hm, World.drewN_drewN]⟩
      · have HN : Hid (OpTo dd (j + 1) k z) := HO.out.next hj88 (fun h => absurd h (by rw [HX.out]; exact hg))
        have hg2 : decide (z < t.size) = false := decide_eq_false hg
        go_wp2_with fail
        go_quiet (fail)
        go_wp2_with fail
        go_roundg (88 - j)
        case measure => have := HJ.out; omega
        case rel =>
          obtain ⟨m, hm⟩ := HW.out
          exact ⟨k, z, j + 1, rfl, rfl, by go_num, by show _ ∧ _; have := HJ.out; omega, HN.out, m + _, by rw [hm, World.drewN_drewN]⟩
    · have hlz : ¬ (j : Int) ≤ 87 := by omega
      have h88 : j = 88 := by have := HJ.out; omega
      rw [h88] at HO
      have HE : Hid (k = k0 ∧ z = n0) := OpIs.uniq HO.out.done ho.out
      clear h88
      go_wp2_with fail
      go_ret2
      obtain ⟨m, hm⟩ := HW.out
      exact ⟨by rw [← HE.out.1, ← HE.out.2]; rfl, m, hm⟩
theorem Operator_run (A : Option Addr) (n cap : Nat) (at_ : Int) (d : List Int) (k0 n0 : Nat) (w : World) (B : Nat) (hb : Byts w B A d) (hl : d.length = n) (hcap : n ≤ cap) (hm : n ≤ 100000) (ht : TabAt w) (ho : Hid (OpIs (if at_ < 0 then [] else d.drop at_.toNat) k0 n0)) :
    Calls Tryd.prog 20 #[.slice A n cap, .int .i64 at_] w (Ans (opT k0 n0) w) := by
  by_cases h : 0 ≤ at_ ∧ at_ < n
  · obtain ⟨i, rfl⟩ := Int.eq_ofNat_of_zero_le h.1
    exact Operator_in A n cap i d k0 n0 w B hb hl hcap hm (by omega) ht (by have := ho.out; rwa [if_neg (by omega), Int.toNat_natCast] at this)
  · have : OpIs [] k0 n0 := by
      have := ho.out
      split at this
      · exact this
      · rwa [List.drop_of_length_le (by omega)] at this
    obtain ⟨rfl, rfl⟩ := OpIs.uniq op_nil this
    exact Operator_out A n cap at_ w (by omega)
end Go.Proofs.YtijikbfcobnclaaDoor
