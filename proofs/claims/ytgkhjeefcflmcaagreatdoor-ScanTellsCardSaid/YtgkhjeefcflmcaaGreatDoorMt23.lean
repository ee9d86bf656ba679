/-
  Stage 6: token's begins and Operator.
-/
import Derived.Test.YtgkhjeefcflmcaaGreatDoorMt00
import Derived.Test.YtgkhjeefcflmcaaGreatDoorMt22
import Derived.Deep.RegionWith
import Derived.Deep.RegionHeldLaw
import Derived.Deep.QuietTactic
import Derived.BigQuiet
import Derived.Deep.DeepCutAuto
import Derived.Deep.Light
import Derived.Deep.LoopGhost
import Derived.Test.YtgkhjeefcflmcaaGreatDoorMt16
import Derived.Test.YtgkhjeefcflmcaaGreatDoorMt17
import Derived.Test.YtgkhjeefcflmcaaGreatDoorMt07
import Derived.Test.YtgkhjeefcflmcaaGreatDoorMt21
import Derived.Test.YtgkhjeefcflmcaaGreatDoorMt03
import Derived.Sort.Grow
import Derived.Laws.ResultCell
import Derived.Deep.CutBlock
import Derived.Test.YtgkhjeefcflmcaaGreatDoorMt08
import Derived.Laws.IdiomStrings
import Derived.Test.YtgkhjeefcflmcaaGreatDoorMt10
import Derived.Test.YtgkhjeefcflmcaaGreatDoorMt02
import Derived.Lib.ConvBytes
namespace Go.Proofs.YtgkhjeefcflmcaaGreatDoor
open Go.RowKit
theorem bts_strOf {l : List Int} (h : U.Byt l) : bts (strOf l) = l := by
 simp only [bts, strOf, strOfNums, List.map_map]
 conv => rhs; rw [← List.map_id l]
 apply List.map_congr_left
 intro x hx
 have := h x hx
 simp only [Function.comp, UInt8.toNat_ofNat', id]
 omega
theorem strOf_bts (s : ByteArray) : strOf (bts s) = s := bts_inj' (bts_strOf (bts_byt s))
theorem byt_take {l : List Int} (h : U.Byt l) (n : Nat) : U.Byt (l.take n) := fun x hx => h x (List.mem_of_mem_take hx)
def begB (d : List Int) (t : ByteArray) : Bool := decide (bts t <+: d)
theorem begB_long {d : List Int} {t : ByteArray} (h : d.length < t.size) : begB d t = false := decide_eq_false fun hp => by
 have := hp.length_le
 rw [bts_length] at this
 omega
theorem begB_cut {d : List Int} {t : ByteArray} (hd : U.Byt d) : begB d t = ((strOf (d.take t.size)).toList == t.toList) := by
 rw [begB, Bool.eq_iff_iff]
 simp only [decide_eq_true_eq, beq_iff_eq]
 constructor
 ·intro hp
  have : strOf (d.take t.size) = t := by
   apply bts_inj'
   rw [bts_strOf (byt_take hd _)]
   have := List.prefix_iff_eq_take.1 hp
   rw [bts_length] at this
   exact this.symm
  rw [this]
 ·intro e
  rw [Lib.toList_data, Lib.toList_data] at e
  have e2 := bytes_inj e
  have : bts t = d.take t.size := by rw [← bts_strOf (byt_take hd t.size), e2]
  rw [this]
  exact List.take_prefix _ _
set_option maxRecDepth 100000 in
set_option maxHeartbeats 1000000 in
theorem begins_run (A : Option Addr) (n cap : Nat) (d : List Int) (t : ByteArray) (v : Bool) (w : World) (B : Nat) (hb : Byts w B A d) (hl : Hid (d.length = n)) (hcap : n ≤ cap) (_hm : n ≤ 100000) (ht : t.size ≤ 100000) (hv : Hid (begB d t = v)) :
  Calls Tryz.prog 110 #[.slice A n cap, .string t] w fun e w' => e = .returned (.bool v) ∧ w = w' := by
 have HB := Lib.hid hb
 clear hb
 by_cases h : t.size ≤ n
 ·have HV : Hid (((strOf (d.take t.size)).toList == t.toList) = v) := (begB_cut HB.out.out).symm.trans hv.out
  have hz : (t.size : Int) ≤ (n : Int) := by omega
  have hrun := conv_bytes (HB.out.take t.size) t.size cap (by rw [List.length_take]; have := hl.out; omega)
  go_enter Tryz.func110, Tryz.ntmps110
  go_wp2_with fail
  go_ret
  exact ⟨ret_bool HV.out, rfl⟩
 ·have hz : ¬ (t.size : Int) ≤ (n : Int) := by omega
  have HV : Hid (v = false) := hv.out.symm.trans (begB_long (by have := hl.out; omega))
  have hz2 : decide (t.size ≤ n) = false := decide_eq_false h
  clear hz h
  go_enter Tryz.func110, Tryz.ntmps110
  go_wp2_with fail
  go_ret
  exact ⟨ret_bool HV.out.symm, rfl⟩
theorem TabAt.drewN {w : World} (h : TabAt w) (n : Nat) : TabAt (w.drewN n) := h
theorem Byts.drop {w : World} {B : Nat} {A : Option Addr} {l : List Int} (h : Byts w B A l) {i : Nat} (hi : i < l.length) : ∃ b o, A = some ⟨b, o, none⟩ ∧ Byts w B (some ⟨b, o + i, none⟩) (l.drop i) := by
 obtain ⟨b, o, e, hb, hc⟩ := h.2 (by omega)
 refine ⟨b, o, e, fun x hx => h.1 x (List.mem_of_mem_drop hx), fun _ => ⟨b, o + i, rfl, hb, fun j x hx => ?_⟩⟩
 rw [List.getElem?_drop] at hx
 rw [Nat.add_assoc]
 exact hc _ _ hx
def opT (k n : Nat) : Value := .tuple #[.int .i64 (k : Int), .int .i64 (n : Int)]
set_option maxHeartbeats 1000000 in
theorem Operator_out (A : Option Addr) (n cap : Nat) (at_ : Int) (w : World) (h : at_ < 0 ∨ (n : Int) ≤ at_) :
  Calls Tryz.prog 79 #[.slice A n cap, .int .i64 at_] w (Ans (opT 0 0) w) := by
 by_cases h1 : at_ < 0
 ·go_enter Tryz.func79, Tryz.ntmps79
  go_wp2
  go_ret2
  exact ⟨rfl, 0, rfl⟩
 ·have h2 : (n : Int) ≤ at_ := by omega
  have h1' : decide (at_ < 0) = false := by simpa using h1
  go_enter Tryz.func79, Tryz.ntmps79
  go_wp2
  go_ret2
  exact ⟨rfl, 0, rfl⟩
set_option maxRecDepth 100000 in
set_option maxHeartbeats 4000000 in
theorem Operator_in (A : Option Addr) (n cap : Nat) (at_ : Nat) (d : List Int) (k0 n0 : Nat) (w : World) (B : Nat) (hb : Byts w B A d) (hl : d.length = n) (hcap : n ≤ cap) (hm : n ≤ 100000) (hat : at_ < n) (ht : TabAt w) (ho : Hid (OpIs (d.drop at_) k0 n0)) :
  Calls Tryz.prog 79 #[.slice A n cap, .int .i64 (at_ : Int)] w (Ans (opT k0 n0) w) := by
 obtain ⟨b, o, rfl, hd⟩ := hb.drop (i := at_) (by omega)
 have HD := Lib.hid hd
 have HL : Hid ((d.drop at_).length = n - at_) := by show _ = _; rw [List.length_drop, hl]
 have HT := Lib.hid ht
 have h0 : decide ((at_ : Int) < 0) = false := by simp
 have h1 : decide (n ≤ at_) = false := decide_eq_false (by omega)
 have hne : ¬ cap = at_ := by omega
 clear hb hl ht hd
 generalize d.drop at_ = dd at *
 go_enter Tryz.func79, Tryz.ntmps79
 go_wp2_with fail
 go_loopg [4, 5, 6] 49 (fun h s4 s5 s6 wr => ∃ k z j : Nat, s4 = .int .i64 k ∧ s5 = .int .i64 z ∧ s6 = .int .i64 j ∧ Hid (40 ≤ j ∧ j ≤ 88 ∧ j + h = 89) ∧ Hid (OpTo dd j k z) ∧ Hid (∃ m, wr = w.drewN m))
 case atStart => exact ⟨0, 0, 40, rfl, rfl, rfl, by show _ ∧ _; omega, OpTo.zero _, 0, rfl⟩
 case round =>
  obtain ⟨k, z, j, rfl, rfl, rfl, HJ, HO, HW⟩ := hrel
  have HTr : Hid (TabAt wr) := by obtain ⟨m, hm⟩ := HW.out; rw [hm]; exact HT.out
  have HDr : Hid (Byts wr B (some ⟨b, o + at_, none⟩) dd) := by obtain ⟨m, hm⟩ := HW.out; rw [hm]; exact HD.out
  have hz11 : z ≤ 11 := HO.out.bound.1
  by_cases hlt : j ≤ 87
  ·have hlz : (j : Int) ≤ 87 := by omega
   have hj88 : j < 88 := by omega
   have hc := HTr.out j hj88
   obtain ⟨t, htx⟩ : ∃ t, tx j = t := ⟨_, rfl⟩
   rw [htx] at hc
   have HX := Lib.hid htx
   have ht11 : t.size ≤ 11 := by rw [← htx, tx_size]; exact txl_short j
   clear htx
   by_cases hg : z < t.size
   ·obtain ⟨v, hv⟩ : ∃ v, begB dd t = v := ⟨_, rfl⟩
    have HV := Lib.hid hv
    have HC : Hid (∀ a, Calls Tryz.prog 110 #[.slice (some ⟨b, o + at_, none⟩) (n - at_) (cap - at_), .string t] (wr.drewN a) fun e w'' => e = .returned (.bool v) ∧ ∃ m, w'' = (wr.drewN a).drewN m) := fun a =>
     (begins_run _ _ _ dd t v (wr.drewN a) B (HDr.out.drewN a) HL (by omega) (by omega) (by omega) HV).mono fun _ _ ⟨e1, e2⟩ => ⟨e1, 0, e2.symm⟩
    clear hv
    cases v with
    | true =>
     have HN : Hid (OpTo dd (j + 1) j t.size) := by
      have := HO.out.hit HJ.out.1 (by rw [HX.out]; exact hg) (by show bts (tx j) <+: dd; rw [HX.out]; exact of_decide_eq_true HV.out)
      rwa [HX.out] at this
     go_wp2_with fail
     go_quiet (first | (go_at_call 110; refine Calls.quiet_of (HC.out _)) | fail)
     go_wp2_with fail
     go_roundg (88 - j)
     case measure => have := HJ.out; omega
     case rel =>
      obtain ⟨m, hm⟩ := HW.out
      exact ⟨j, t.size, j + 1, rfl, rfl, by go_num, by show _ ∧ _; have := HJ.out; omega, HN.out, m + _, by rw [hm, World.drewN_drewN]⟩
    | false =>
     have HN : Hid (OpTo dd (j + 1) k z) := HO.out.next hj88 (fun _ hb => of_decide_eq_false HV.out (by rw [← HX.out]; exact hb))
     go_wp2_with fail
     go_quiet (first | (go_at_call 110; refine Calls.quiet_of (HC.out _)) | fail)
     go_wp2_with fail
     go_roundg (88 - j)
     case measure => have := HJ.out; omega
     case rel =>
      obtain ⟨m, hm⟩ := HW.out
      exact ⟨k, z, j + 1, rfl, rfl, by go_num, by show _ ∧ _; have := HJ.out; omega, HN.out, m + _, by rw [hm, World.drewN_drewN]⟩
   ·have HN : Hid (OpTo dd (j + 1) k z) := HO.out.next hj88 (fun h => absurd h (by rw [HX.out]; exact hg))
    have hg2 : decide (z < t.size) = false := decide_eq_false hg
    go_wp2_with fail
    go_quiet (fail)
    go_wp2_with fail
    go_roundg (88 - j)
    case measure => have := HJ.out; omega
    case rel =>
     obtain ⟨m, hm⟩ := HW.out
     exact ⟨k, z, j + 1, rfl, rfl, by go_num, by show _ ∧ _; have := HJ.out; omega, HN.out, m + _, by rw [hm, World.drewN_drewN]⟩
  ·have hlz : ¬ (j : Int) ≤ 87 := by omega
   have h88 : j = 88 := by have := HJ.out; omega
   rw [h88] at HO
   have HE : Hid (k = k0 ∧ z = n0) := OpIs.uniq HO.out.done ho.out
   clear h88
   go_wp2_with fail
   go_ret2
   obtain ⟨m, hm⟩ := HW.out
   exact ⟨by rw [← HE.out.1, ← HE.out.2]; rfl, m, hm⟩
theorem Operator_run (A : Option Addr) (n cap : Nat) (at_ : Int) (d : List Int) (k0 n0 : Nat) (w : World) (B : Nat) (hb : Byts w B A d) (hl : d.length = n) (hcap : n ≤ cap) (hm : n ≤ 100000) (ht : TabAt w) (ho : Hid (OpIs (if at_ < 0 then [] else d.drop at_.toNat) k0 n0)) :
  Calls Tryz.prog 79 #[.slice A n cap, .int .i64 at_] w (Ans (opT k0 n0) w) := by
 by_cases h : 0 ≤ at_ ∧ at_ < n
 ·obtain ⟨i, rfl⟩ := Int.eq_ofNat_of_zero_le h.1
  exact Operator_in A n cap i d k0 n0 w B hb hl hcap hm (by omega) ht (by have := ho.out; rwa [if_neg (by omega), Int.toNat_natCast] at this)
 ·have : OpIs [] k0 n0 := by
   have := ho.out
   split at this
   ·exact this
   ·rwa [List.drop_of_length_le (by omega)] at this
  obtain ⟨rfl, rfl⟩ := OpIs.uniq op_nil this
  exact Operator_out A n cap at_ w (by omega)
end Go.Proofs.YtgkhjeefcflmcaaGreatDoor
namespace Go.Proofs.YtgkhjeefcflmcaaGreatDoor
open Go.RowKit
def r0 (k : Nat) (c : Int) : Int := if k = 2 then c % 32 else if k = 3 then c % 16 else if k = 4 then c % 8 else c
end Go.Proofs.YtgkhjeefcflmcaaGreatDoor
namespace Go.Proofs.YtgkhjeefcflmcaaGreatDoor
open Go.RowKit Go.Sort
set_option linter.unusedSimpArgs false
def endF (q : UInt8) : List UInt8 → Nat × Bool
 | [] => (0, false)
 | [c] => if q ≠ 96 ∧ c = 10 then (0, false) else if c = q then (1, true) else (1, false)
 | c :: d :: t =>
  if q ≠ 96 ∧ c = 10 then (0, false)
  else if c = q then (1, true)
  else if q ≠ 96 ∧ c = 92 ∧ d ≠ 10 then ((endF q t).1 + 2, (endF q t).2)
  else ((endF q (d :: t)).1 + 1, (endF q (d :: t)).2)
theorem endF_lf {q : UInt8} (t : List UInt8) (h : q ≠ 96) : endF q (10 :: t) = (0, false) := by
 cases t with
 | nil => unfold endF; rw [if_pos ⟨h, rfl⟩]
 | cons d t => unfold endF; rw [if_pos ⟨h, rfl⟩]
theorem endF_hit {q : UInt8} (t : List UInt8) (h : q ≠ 10) : endF q (q :: t) = (1, true) := by
 cases t with
 | nil => unfold endF; rw [if_neg (fun e => h e.2), if_pos rfl]
 | cons d t => unfold endF; rw [if_neg (fun e => h e.2), if_pos rfl]
theorem endF_esc {q d : UInt8} (t : List UInt8) (h : q ≠ 96) (h2 : q ≠ 92) (hd : d ≠ 10) : endF q (92 :: d :: t) = ((endF q t).1 + 2, (endF q t).2) := by
 rw [endF, if_neg (fun e => absurd e.2 (by decide)), if_neg (fun e => h2 e.symm), if_pos ⟨h, rfl, hd⟩]
theorem endF_one {q c : UInt8} (t : List UInt8) (h1 : ¬ (q ≠ 96 ∧ c = 10)) (h2 : c ≠ q) (h3 : ¬ (q ≠ 96 ∧ c = 92 ∧ ∃ d, t[0]? = some d ∧ d ≠ 10)) : endF q (c :: t) = ((endF q t).1 + 1, (endF q t).2) := by
 cases t with
 | nil =>
  show endF q [c] = (1, false)
  rw [endF, if_neg h1, if_neg h2]
 | cons d t => rw [endF, if_neg h1, if_neg h2, if_neg (fun e => h3 ⟨e.1, e.2.1, d, rfl, e.2.2⟩)]
theorem endF_le (q : UInt8) : ∀ l : List UInt8, (endF q l).1 ≤ l.length
 | [] => Nat.le_refl _
 | [c] => by
  unfold endF
  split
  ·exact Nat.zero_le _
  ·split <;> exact Nat.le_refl _
 | c :: d :: t => by
  have h1 := endF_le q t
  have h2 := endF_le q (d :: t)
  rw [endF]
  simp only [List.length_cons] at h2 ⊢
  split
  ·exact Nat.zero_le _
  ·split
   ·show 1 ≤ _; omega
   ·split
    ·show _ + 2 ≤ _; omega
    ·show _ + 1 ≤ _; omega
def numZ (B k : Nat) (l : List UInt8) : Int := if l.length < k ∨ okDig B (l.take k) = false then -1 else (num B (l.take k) : Int)
theorem numZ_short {B k : Nat} {l : List UInt8} (h : l.length < k) : numZ B k l = -1 := if_pos (.inl h)
theorem numZ_bad {B k i : Nat} {l : List UInt8} {c : UInt8} (hc : l[i]? = some c) (hi : i < k) (h : ¬ dvN c.toNat < B) : numZ B k l = -1 := if_pos (.inr (okDig_not (i := i) (c := c) (by rw [List.getElem?_take, if_pos hi]; exact hc) h))
theorem num_lt {B : Nat} (hB : 1 ≤ B) : ∀ (k : Nat) (l : List UInt8), okDig B l = true → l.length ≤ k → num B l < B ^ k := by
 intro k l h hl
 have key : ∀ (m : List UInt8) (a : Nat), okDig B m = true → m.foldl (fun a c => a * B + dvN c.toNat) a < (a + 1) * B ^ m.length := by
  intro m
  induction m with
  | nil => intro a _; simp
  | cons c m ih =>
   intro a h
   unfold okDig at h
   rw [List.all_cons, Bool.and_eq_true, decide_eq_true_eq] at h
   have := ih (a * B + dvN c.toNat) h.2
   rw [List.foldl_cons, List.length_cons]
   refine Nat.lt_of_lt_of_le this ?_
   rw [Nat.pow_succ, Nat.mul_comm (B ^ m.length) B, ← Nat.mul_assoc]
   refine Nat.mul_le_mul_right _ ?_
   have h1 := h.1
   rw [Nat.add_mul, Nat.one_mul]
   omega
 have := key l 0 h
 rw [Nat.zero_add, Nat.one_mul] at this
 exact Nat.lt_of_lt_of_le this (Nat.pow_le_pow_right hB hl)
theorem numZ_lt (k : Nat) (B : Nat) (l : List UInt8) (hB : 1 ≤ B) : numZ B k l < (B ^ k : Nat) ∧ -1 ≤ numZ B k l := by
 unfold numZ
 split
 ·exact ⟨by omega, Int.le_refl _⟩
 ·rename_i h
  have h2 : okDig B (l.take k) = true := by
   cases e : okDig B (l.take k)
   ·exact absurd (.inr e) h
   ·rfl
  have := num_lt hB k (l.take k) h2 (by rw [List.length_take]; omega)
  exact ⟨by exact_mod_cast this, by omega⟩
def ltrF (c : UInt8) : Nat := if c = 97 then 7 else if c = 98 then 8 else if c = 102 then 12 else if c = 110 then 10 else if c = 114 then 13 else if c = 116 then 9 else if c = 118 then 11 else 0
def runE (z : Int) (sz : Nat) : Int × Bool × Nat := if 0 ≤ z ∧ U.isRune z = true then (z, false, sz) else (0, false, 0)
def escF (q : UInt8) : List UInt8 → Int × Bool × Nat
 | _ :: c :: t =>
  if ltrF c ≠ 0 then ((ltrF c : Int), true, 2)
  else if c = 92 ∨ c = q then ((c.toNat : Int), true, 2)
  else if c = 120 then (if 0 ≤ numZ 16 2 t then (numZ 16 2 t, true, 4) else (0, false, 0))
  else if c = 117 then runE (numZ 16 4 t) 6
  else if c = 85 then runE (numZ 16 8 t) 10
  else if 0 ≤ numZ 8 3 (c :: t) ∧ numZ 8 3 (c :: t) < 256 then (numZ 8 3 (c :: t), true, 4) else (0, false, 0)
 | _ => (0, false, 0)
end Go.Proofs.YtgkhjeefcflmcaaGreatDoor
namespace Go.Proofs.YtgkhjeefcflmcaaGreatDoor
open Go.RowKit Go.Sort
set_option linter.unusedSimpArgs false
theorem drop_cons {t : List UInt8} {i : Nat} {c : UInt8} (h : t[i]? = some c) : t.drop i = c :: t.drop (i + 1) := by
 obtain ⟨hi, rfl⟩ := List.getElem?_eq_some_iff.1 h
 exact List.drop_eq_getElem_cons hi
end Go.Proofs.YtgkhjeefcflmcaaGreatDoor
namespace Go.Proofs.YtgkhjeefcflmcaaGreatDoor
open Go.RowKit Go.Sort
set_option linter.unusedSimpArgs false
theorem bel_drN {B : Nat} {w W : World} (h : Below B w W) (m : Nat) : Below B w (W.drewN m) := by
 induction m with
 | zero => exact h
 | succ m ih => exact ih.drew
theorem esc_ltr {q x c : UInt8} {t : List UInt8} (h : ltrF c ≠ 0) : escF q (x :: c :: t) = ((ltrF c : Int), true, 2) := if_pos h
theorem esc_same {q x c : UInt8} {t : List UInt8} (h : ltrF c = 0) (g : c = 92 ∨ c = q) : escF q (x :: c :: t) = ((c.toNat : Int), true, 2) := (if_neg (fun e => e h)).trans (if_pos g)
theorem escF_eq (q x c : UInt8) (t : List UInt8) : escF q (x :: c :: t) = if ltrF c ≠ 0 then ((ltrF c : Int), true, 2) else if c = 92 ∨ c = q then ((c.toNat : Int), true, 2) else if c = 120 then (if 0 ≤ numZ 16 2 t then (numZ 16 2 t, true, 4) else (0, false, 0)) else if c = 117 then runE (numZ 16 4 t) 6 else if c = 85 then runE (numZ 16 8 t) 10 else if 0 ≤ numZ 8 3 (c :: t) ∧ numZ 8 3 (c :: t) < 256 then (numZ 8 3 (c :: t), true, 4) else (0, false, 0) := rfl
theorem esc_x {q x : UInt8} {t : List UInt8} (g : ¬ ((120 : UInt8) = 92 ∨ 120 = q)) : escF q (x :: 120 :: t) = if 0 ≤ numZ 16 2 t then (numZ 16 2 t, true, 4) else (0, false, 0) := by
 rw [escF_eq, if_neg (show ¬ ltrF 120 ≠ 0 by decide), if_neg g, if_pos rfl]
theorem esc_u {q x : UInt8} {t : List UInt8} (g : ¬ ((117 : UInt8) = 92 ∨ 117 = q)) : escF q (x :: 117 :: t) = runE (numZ 16 4 t) 6 := by
 rw [escF_eq, if_neg (show ¬ ltrF 117 ≠ 0 by decide), if_neg g, if_neg (by decide), if_pos rfl]
theorem esc_U {q x : UInt8} {t : List UInt8} (g : ¬ ((85 : UInt8) = 92 ∨ 85 = q)) : escF q (x :: 85 :: t) = runE (numZ 16 8 t) 10 := by
 rw [escF_eq, if_neg (show ¬ ltrF 85 ≠ 0 by decide), if_neg g, if_neg (by decide), if_neg (by decide), if_pos rfl]
theorem esc_o {q x c : UInt8} {t : List UInt8} (h : ltrF c = 0) (g : ¬ (c = 92 ∨ c = q)) (h1 : c ≠ 120) (h2 : c ≠ 117) (h3 : c ≠ 85) : escF q (x :: c :: t) = if 0 ≤ numZ 8 3 (c :: t) ∧ numZ 8 3 (c :: t) < 256 then (numZ 8 3 (c :: t), true, 4) else (0, false, 0) :=
 (if_neg (fun e => e h)).trans ((if_neg g).trans ((if_neg h1).trans ((if_neg h2).trans (if_neg h3))))
end Go.Proofs.YtgkhjeefcflmcaaGreatDoor
namespace Go.Proofs.YtgkhjeefcflmcaaGreatDoor
open Go.RowKit Go.Sort
set_option linter.unusedSimpArgs false
def betB (q : UInt8) (l : List UInt8) : Bool := decide (2 ≤ l.length) && (decide (l[0]? = some q) && decide (l[l.length - 1]? = some q))
end Go.Proofs.YtgkhjeefcflmcaaGreatDoor
namespace Go.Proofs.YtgkhjeefcflmcaaGreatDoor
open Go.RowKit Go.Sort
set_option linter.unusedSimpArgs false
theorem bts_bs (l : List UInt8) : bts (bs l) = bi l := by
 unfold bts bi
 rw [bs_list]
end Go.Proofs.YtgkhjeefcflmcaaGreatDoor
namespace Go.Proofs.YtgkhjeefcflmcaaGreatDoor
open Go.RowKit Go.Sort
set_option linter.unusedSimpArgs false
def chrIn (l : List UInt8) : List UInt8 := (l.take (l.length - 1)).drop 1
theorem chr_in {l : List UInt8} (h : 3 ≤ l.length) : (chrIn l).length = l.length - 2 ∧ (chrIn l)[0]? = l[1]? := by
 unfold chrIn
 constructor
 ·rw [List.length_drop, List.length_take]; omega
 ·rw [List.getElem?_drop, List.getElem?_take, if_pos (by omega)]
theorem chr_len (l : List UInt8) : (chrIn l).length = l.length - 2 := by
 unfold chrIn
 rw [List.length_drop, List.length_take]; omega
theorem bet_len {q : UInt8} {l : List UInt8} (h : betB q l = true) : 2 ≤ l.length := by
 unfold betB at h
 rw [Bool.and_eq_true, decide_eq_true_eq] at h
 exact h.1
def encI (v : Int) (bt : Bool) : List Int := if bt = true then [v] else U.enc v
def encB (v : Int) (bt : Bool) : List UInt8 := (encI v bt).map fun x => UInt8.ofNat x.toNat
theorem encB_len (v : Int) (bt : Bool) : (encB v bt).length ≤ 4 := by
 unfold encB encI
 rw [List.length_map]
 split
 ·show 1 ≤ 4; decide
 ·rw [U.enc_length]; exact (U.rlen_pos v).2
def catT (x : List UInt8) (r : Nat × List UInt8) : Nat × List UInt8 := if r.1 = 0 then (0, x ++ r.2) else (r.1, [])
theorem catT_catT (x y : List UInt8) (r : Nat × List UInt8) : catT x (catT y r) = catT (x ++ y) r := by
 unfold catT
 by_cases h : r.1 = 0
 ·rw [if_pos h, if_pos rfl, if_pos h, List.append_assoc]
 ·rw [if_neg h, if_neg h, if_neg h]
theorem catT_err (x : List UInt8) {n : Nat} (h : n ≠ 0) : catT x (n, []) = (n, []) := if_neg h
theorem catT_ok (x y : List UInt8) : catT x (0, y) = (0, x ++ y) := if_pos rfl
theorem catT_nil (r : Nat × List UInt8) (h : r.1 ≠ 0 → r.2 = []) : catT [] r = r := by
 unfold catT
 obtain ⟨a, b⟩ := r
 by_cases g : a = 0
 ·subst g; rfl
 ·rw [if_neg g]; rw [show b = [] from h g]
def rawR : List UInt8 → Nat × List UInt8
 | [] => (0, [])
 | c :: t => if c = 96 then (8, []) else catT (if c = 13 then [] else [c]) (rawR t)
def txtR : Nat → List UInt8 → Nat × List UInt8
 | 0, _ => (0, [])
 | _ + 1, [] => (0, [])
 | f + 1, c :: t => if c = 34 ∨ c = 10 then (8, []) else if c = 92 then (if (escF 34 (c :: t)).2.2 = 0 then (14, []) else catT (encB (escF 34 (c :: t)).1 (escF 34 (c :: t)).2.1) (txtR f ((c :: t).drop (escF 34 (c :: t)).2.2))) else catT [c] (txtR f t)
theorem txtR_nil (f : Nat) : txtR f [] = (0, []) := by cases f <;> rfl
theorem txtR_bad {f : Nat} {c : UInt8} {t : List UInt8} (h : c = 34 ∨ c = 10) : txtR (f + 1) (c :: t) = (8, []) := if_pos h
theorem txtR_one {f : Nat} {c : UInt8} {t : List UInt8} (h : ¬ (c = 34 ∨ c = 10)) (g : c ≠ 92) : txtR (f + 1) (c :: t) = catT [c] (txtR f t) := (if_neg h).trans (if_neg g)
theorem txtR_none {f : Nat} {t : List UInt8} {v : Int} {bt : Bool} (h : escF 34 (92 :: t) = (v, bt, 0)) : txtR (f + 1) (92 :: t) = (14, []) := by
 show (if _ then _ else _) = _
 rw [if_neg (by decide), if_pos rfl, h, if_pos rfl]
theorem txtR_esc {f : Nat} {t : List UInt8} {v : Int} {bt : Bool} {sz : Nat} (h : escF 34 (92 :: t) = (v, bt, sz)) (hs : sz ≠ 0) : txtR (f + 1) (92 :: t) = catT (encB v bt) (txtR f ((92 :: t).drop sz)) := by
 show (if _ then _ else _) = _
 rw [if_neg (by decide), if_pos rfl, h, if_neg hs]
theorem txtR_plain : ∀ (f : Nat) (l : List UInt8), (txtR f l).1 ≠ 0 → (txtR f l).2 = []
 | 0, _, h => absurd rfl h
 | _ + 1, [], h => absurd rfl h
 | f + 1, c :: t, h => by
  unfold txtR at h ⊢
  split
  ·rfl
  ·split
   ·split
    ·rfl
    ·rename_i h1 h2 h3
     rw [if_neg h1, if_pos h2, if_neg h3] at h
     unfold catT at h ⊢
     split
     ·rename_i h4; rw [if_pos h4] at h; exact absurd rfl h
     ·rfl
   ·rename_i h1 h2
    rw [if_neg h1, if_neg h2] at h
    unfold catT at h ⊢
    split
    ·rename_i h4; rw [if_pos h4] at h; exact absurd rfl h
    ·rfl
def textF (l : List UInt8) : Nat × List UInt8 :=
 if betB 96 l = true then rawR (chrIn l) else if betB 34 l = true then txtR (l.length + 1) (chrIn l) else (8, [])
theorem numZ_len {B k : Nat} {l : List UInt8} (h : 0 ≤ numZ B k l) : k ≤ l.length := by
 rcases Nat.lt_or_ge l.length k with g | g
 ·rw [numZ_short g] at h; exact absurd h (by decide)
 ·exact g
theorem escF_size {q : UInt8} {l : List UInt8} {v : Int} {bt : Bool} {sz : Nat} (h : escF q l = (v, bt, sz)) (hs : sz ≠ 0) : 2 ≤ sz ∧ sz ≤ l.length ∧ sz ≤ 10 ∧ (bt = true → 0 ≤ v ∧ v < 256) ∧ (bt = false → U.isRune v = true) := by
 match l, h with
 | [], h => cases h; exact absurd rfl hs
 | [x], h => cases h; exact absurd rfl hs
 | x :: c :: t, h =>
  have hr : ∀ (z : Int) (n : Nat), runE z n = (v, bt, sz) → 2 ≤ n → n ≤ 10 → (0 ≤ z → n ≤ t.length + 2) → 2 ≤ sz ∧ sz ≤ t.length + 2 ∧ sz ≤ 10 ∧ (bt = true → 0 ≤ v ∧ v < 256) ∧ (bt = false → U.isRune v = true) := by
   intro z n hz h2 h10 hl
   unfold runE at hz
   split at hz
   ·rename_i g
    cases hz
    exact ⟨h2, hl g.1, h10, nofun, fun _ => g.2⟩
   ·cases hz; exact absurd rfl hs
  have hl : (x :: c :: t).length = t.length + 2 := rfl
  rw [hl]
  rw [escF_eq] at h
  split at h
  ·cases h
   refine ⟨Nat.le_refl _, by omega, by decide, fun _ => ⟨by omega, ?_⟩, nofun⟩
   unfold ltrF
   repeat' split
   all_goals decide
  ·split at h
   ·cases h
    exact ⟨Nat.le_refl _, by omega, by decide, fun _ => ⟨by omega, by have := c.toNat_lt; omega⟩, nofun⟩
   ·split at h
    ·split at h
     ·rename_i g
      cases h
      have h1 := numZ_len g
      have h2 := (numZ_lt 2 16 t (by decide)).1
      exact ⟨by decide, by omega, by decide, fun _ => ⟨g, by omega⟩, nofun⟩
     ·cases h; exact absurd rfl hs
    ·split at h
     ·exact hr _ _ h (by decide) (by decide) fun g => by have := numZ_len g; omega
     ·split at h
      ·exact hr _ _ h (by decide) (by decide) fun g => by have := numZ_len g; omega
      ·split at h
       ·rename_i g
        cases h
        have h1 := numZ_len g.1
        rw [List.length_cons] at h1
        exact ⟨by decide, by omega, by decide, fun _ => g, nofun⟩
       ·cases h; exact absurd rfl hs
end Go.Proofs.YtgkhjeefcflmcaaGreatDoor
namespace Go.Proofs.YtgkhjeefcflmcaaGreatDoor
open Go.RowKit Go.Sort
set_option linter.unusedSimpArgs false
def charF (l : List UInt8) : Int × Nat :=
 if betB 39 l = false ∨ l.length = 2 ∨ l[1]? = some 39 ∨ l[1]? = some 10 then (0, 8)
 else if (chrIn l)[0]? = some 92 then
  (if (escF 39 (chrIn l)).2.2 = 0 then (0, 14) else if (escF 39 (chrIn l)).2.2 ≠ (chrIn l).length then (0, 8) else ((escF 39 (chrIn l)).1, 0))
 else match U.dec (bi (chrIn l)) with
  | none => (0, 3)
  | some (r, n) => if n ≠ (chrIn l).length then (0, 8) else (r, 0)
end Go.Proofs.YtgkhjeefcflmcaaGreatDoor
namespace Go.Proofs.YtgkhjeefcflmcaaGreatDoor
open Go.RowKit Go.Sort
set_option linter.unusedSimpArgs false
theorem bi_byt (l : List UInt8) : U.Byt (bi l) := fun x hx => by
 obtain ⟨b, _, rfl⟩ := List.mem_map.1 hx
 have := b.toNat_lt
 omega
theorem bi_app (a b : List UInt8) : bi a ++ bi b = bi (a ++ b) := (List.map_append).symm
theorem byts_nums {w : World} {B : Nat} {A : Option Addr} {l : List UInt8} (h : NumsK .u8 w B A (bi l)) : Byts w B A (bi l) := ⟨bi_byt l, h⟩
end Go.Proofs.YtgkhjeefcflmcaaGreatDoor
namespace Go.Proofs.YtgkhjeefcflmcaaGreatDoor
open Go.RowKit Go.Sort
set_option linter.unusedSimpArgs false
set_option maxRecDepth 100000 in
set_option maxHeartbeats 2000000 in
theorem betweenP_true (l : List UInt8) (q : UInt8) (w : World) (hl : l.length ≤ 100000) (hb : betB q l = true) :
  Calls Tryz.prog 139 #[.string (bs l), .int .u8 (q.toNat : Int)] w fun e w' => e = .returned (.tuple #[.string (bs (chrIn l)), .bool true]) ∧ w' = w := by
 have hsz := bs_size l
 have h2 := bet_len hb
 have hx : ∀ W, (Instr.index 9 (.string (bs l)) (.int .i64 0)).run Tryz.prog W = .ok (.int .u8 (q.toNat : Int)) W := bs_get (i := 0) (by
  unfold betB at hb
  simp only [Bool.and_eq_true, decide_eq_true_eq] at hb
  exact hb.2.1)
 obtain ⟨k, hk⟩ : ∃ k, l.length - 1 = k := ⟨_, rfl⟩
 have hy := bs_get (l := l) (i := k) (c := q) (by
  unfold betB at hb
  simp only [Bool.and_eq_true, decide_eq_true_eq] at hb
  rw [← hk]
  exact hb.2.2)
 have hkz : (l.length : Int) - 1 = (k : Int) := by omega
 have hk1 : ¬ (k : Int) < 1 := by omega
 have hkl : k ≤ l.length := by omega
 have hk1n : 1 ≤ k := by omega
 have hex : (bs l).extract 1 (l.length - 1) = bs (chrIn l) := bs_extract l 1 (l.length - 1)
 rw [hk] at hex
 clear hk h2 hb
 go_enter Tryz.func139, Tryz.ntmps139
 go_wp2_with fail
 go_ret2
 exact ⟨rfl, rfl⟩
set_option maxRecDepth 100000 in
set_option maxHeartbeats 2000000 in
theorem betweenP_false (l : List UInt8) (q : UInt8) (w : World) (hl : l.length ≤ 100000) (hb : betB q l = false) :
  Calls Tryz.prog 139 #[.string (bs l), .int .u8 (q.toNat : Int)] w fun e w' => e = .returned (.tuple #[.string (bs []), .bool false]) ∧ w' = w := by
 have hsz := bs_size l
 by_cases h2 : 2 ≤ l.length
 ·obtain ⟨a, ha⟩ : ∃ a, l[0]? = some a := ⟨l[0]'(by omega), List.getElem?_eq_getElem _⟩
  obtain ⟨k, hk⟩ : ∃ k, l.length - 1 = k := ⟨_, rfl⟩
  obtain ⟨c, hc⟩ : ∃ c, l[k]? = some c := ⟨l[k]'(by omega), List.getElem?_eq_getElem _⟩
  have hx := bs_get ha
  rw [Int.natCast_zero] at hx
  have hy := bs_get hc
  have hkz : (l.length : Int) - 1 = (k : Int) := by omega
  have hk1 : ¬ (k : Int) < 1 := by omega
  have hkl : k < l.length := by omega
  have hb2 : a = q → c ≠ q := by
   rintro rfl rfl
   unfold betB at hb
   rw [hk, ha, hc, decide_eq_true h2] at hb
   simp at hb
  by_cases h1 : a = q
  ·have h3 := hb2 h1
   have p1 : ((a.toNat : Int) != (q.toNat : Int)) = false := by rw [h1]; simp
   have p3 : ((c.toNat : Int) != (q.toNat : Int)) = true := by rw [bne_iff_ne]; intro e; exact h3 (UInt8.toNat_inj.1 (by omega))
   clear ha hc hk h2 hb h1 h3 hb2
   generalize a.toNat = an at *
   generalize c.toNat = cn at *
   go_enter Tryz.func139, Tryz.ntmps139
   go_wp2_with fail
   go_ret2
   exact ⟨rfl, rfl⟩
  ·have p1 : ((a.toNat : Int) != (q.toNat : Int)) = true := by rw [bne_iff_ne]; intro e; exact h1 (UInt8.toNat_inj.1 (by omega))
   clear ha hc hk h2 hb h1 hy hb2
   generalize a.toNat = an at *
   go_enter Tryz.func139, Tryz.ntmps139
   go_wp2_with fail
   go_ret2
   exact ⟨rfl, rfl⟩
 ·have h2z : (l.length : Int) - 1 < 1 := by omega
  clear h2 hb
  go_enter Tryz.func139, Tryz.ntmps139
  go_wp2_with fail
  go_ret2
  exact ⟨rfl, rfl⟩
def unitV (v : Int) (l : List UInt8) (n : Nat) : Value := .agg #[.int .i32 v, .string (bs l), .int .i64 (n : Int)]
set_option maxRecDepth 100000 in
set_option maxHeartbeats 2000000 in
theorem byteUnit_run (c : Nat) (n : Nat) (w : World) (hc : c < 256) :
  Calls Tryz.prog 228 #[.int .u8 (c : Int), .int .i64 (n : Int)] w fun e w' => e = .returned (unitV (c : Int) [UInt8.ofNat c] n) ∧ Below w.heap.size w w' := by
 have hcv : ∀ V : World, (convert 22 9 (.slice (some ⟨V.heap.size, 0, none⟩) 1 1)).run Tryz.prog (V.alloc (.cells #[.int .u8 (c : Int)] 5)) = .ok (.string (bs [UInt8.ofNat c])) (V.alloc (.cells #[.int .u8 (c : Int)] 5)) := fun V => by
  have := conv_bytes (Byts.new (w := V) (B := V.heap.size + 1) (l := [(c : Int)]) (by intro y hy; rw [List.mem_singleton] at hy; omega) 5 (Nat.lt_succ_self _)) 1 1 rfl
  exact this
 have hcv2 := hcv (w.alloc (.cells #[.int .i32 0, .string ⟨#[]⟩, .int .i64 0] 201))
 rw [show (w.alloc (.cells #[.int .i32 0, .string ⟨#[]⟩, .int .i64 0] 201)).heap.size = w.heap.size + 1 by simp] at hcv2
 have hci : (c : Int) < 256 := by omega
 clear hcv
 go_enter Tryz.func228, Tryz.ntmps228
 go_wp2_with fail
 refine bodyPost_ret (v := unitV (c : Int) [UInt8.ofNat c] n) (by rw [results_cell1 rfl]; go_simp; try rfl) rfl ⟨rfl, ?_⟩
 exact ((Below.refl _ w).alloc (Nat.le_refl _) _).alloc (by simp) _
end Go.Proofs.YtgkhjeefcflmcaaGreatDoor
