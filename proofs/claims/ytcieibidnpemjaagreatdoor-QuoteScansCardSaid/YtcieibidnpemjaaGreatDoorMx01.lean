/-
  The contract of the reference's Decode: it answers what 'U.dec' says, at every place of every slice of bytes.
-/
import Derived.Test.YtcieibidnpemjaaGreatDoorMx00
import Derived.Deep.RegionWith
import Derived.Deep.RegionHeldLaw
import Derived.Deep.QuietTactic
import Derived.BigQuiet
import Derived.Deep.DeepCutAuto
import Derived.Deep.Light
import Derived.Deep.LoopGhost
import Derived.Maps.AppendAt
import Derived.Deep.AppendLies
import Derived.Laws.OwnMore
import Derived.OneCell
import Derived.LaidEql
import Derived.Stop.Asserts
import Derived.RowKitTokens
import Derived.Sort.Grow
import Derived.Laws.ResultCell
namespace Go.Proofs.YtcieibidnpemjaaGreatDoor
open Go.RowKit
def refT : Option (Int × Nat) → Value
 | none => .tuple #[.int .i64 0, .int .i64 0, .int .i64 3]
 | some (r, n) => .tuple #[.int .i64 r, .int .i64 n, .int .i64 0]
theorem quiet_left {P : Program} {f : FuncId} {args : Array Value} {w : World} {n : Nat} {v : Value}
  (h : Calls P f args (w.drewN n) fun e w' => e = .returned v ∧ w.drewN n = w') : Calls P f args (w.drewN n) fun e w'' => e = .returned v ∧ ∃ m, w'' = w.drewN m :=
 h.mono fun _ _ ⟨he, hm⟩ => ⟨he, n, hm.symm⟩
theorem Rune_is (c : Int) (w : World) {b : Bool} (h : U.isRune c = b) :
  Calls Tryz.prog 31 #[.int .i64 c] w fun e w' => e = .returned (.bool b) ∧ w = w' := by
 have := Rune_any c w
 rwa [h] at this
def NotBelow (d : List Int) (k : Nat) : Prop := ∀ r t, U.isRune r = true → d = U.enc r ++ t → k ≤ U.rlen r
set_option maxRecDepth 20000 in
theorem slice_lh (b o n cap lo k : Nat) (K : Int) (hK : K = k) (h : lo + k ≤ cap) (hlt : lo < cap) (w : World) :
  (Instr.slice 22 (.slice (some ⟨b, o, none⟩) n cap) (some (.int .i64 (lo : Int))) (some (.int .i64 ((lo : Int) + K))) none).run Tryz.prog w = .ok (.slice (some ⟨b, o + lo, none⟩) k (cap - lo)) w := by
 subst hK
 have hz : (sizeOf (Tryz.prog.elem 22)).run Tryz.prog w = .ok 1 w := by kernel_rfl
 rw [run_slice_lh (P := Tryz.prog) (w := w) 22 (some ⟨b, o, none⟩) n cap (by kernel_rfl) .i64 .i64 (lo : Int) ((lo : Int) + (k : Int)) (by omega) (by omega) (by omega), hz]
 simp only [Result.andThen_ok, sliced]
 rw [if_neg (by omega)]
 have e : (lo : Int).toNat = lo := Int.toNat_natCast _
 have e2 : ((lo : Int) + (k : Int)).toNat = lo + k := by omega
 rw [e, e2]
 simp only [Option.map_some, Nat.mul_one]
 rw [show lo + k - lo = k by omega]
 simp only [Addr.add]
 split
 ·next h0 => subst h0; rfl
 ·rfl
def r0 (k : Nat) (c : Int) : Int := if k = 2 then c % 32 else if k = 3 then c % 16 else if k = 4 then c % 8 else c
def rfold (x : Int) (l : List Int) : Int := l.foldl (fun r y => r * 64 + y % 64) x
def refR (c : Int) (t : List Int) (k : Nat) : Int := rfold (r0 k c) (t.take (k - 1))
theorem refR_enc {r : Int} (h : U.isRune r = true) {c : Int} {t u : List Int} (hd : c :: t = U.enc r ++ u) : refR c t (U.rlen r) = r := by
 have hr := U.isRune_iff.1 h
 rcases U.rlen_inv r with ⟨e, h1⟩ | ⟨e, h1⟩ | ⟨e, h1⟩ | ⟨e, h1⟩ <;> rw [e]
 ·rw [U.enc, if_pos h1] at hd
  simp only [List.cons_append, List.nil_append, List.cons.injEq] at hd
  obtain ⟨rfl, rfl⟩ := hd
  simp [refR, rfold, r0]
 ·rw [U.enc, if_neg (by omega), if_pos (by omega)] at hd
  simp only [List.cons_append, List.nil_append, List.cons.injEq] at hd
  obtain ⟨rfl, rfl⟩ := hd
  simp only [refR, rfold, r0, if_true, List.take_succ_cons, List.take_zero, List.foldl_cons, List.foldl_nil]
  omega
 ·rw [U.enc, if_neg (by omega), if_neg (by omega), if_pos (by omega)] at hd
  simp only [List.cons_append, List.nil_append, List.cons.injEq] at hd
  obtain ⟨rfl, rfl⟩ := hd
  simp [refR, rfold, r0]
  omega
 ·rw [U.enc, if_neg (by omega), if_neg (by omega), if_neg (by omega)] at hd
  simp only [List.cons_append, List.nil_append, List.cons.injEq] at hd
  obtain ⟨rfl, rfl⟩ := hd
  simp [refR, rfold, r0]
  omega
theorem rfold_snoc (x : Int) (t : List Int) (j : Nat) (y : Int) (h : t[j]? = some y) : rfold x (t.take (j + 1)) = rfold x (t.take j) * 64 + y % 64 := by
 rw [List.take_add_one, h]
 simp [rfold, List.foldl_append]
def BndR (j : Nat) (x : Int) : Prop := 0 ≤ x ∧ ((j = 1 ∧ x ≤ 255) ∨ (j = 2 ∧ x ≤ 16383) ∨ (j = 3 ∧ x ≤ 1048575) ∨ (j = 4 ∧ x ≤ 67108863))
theorem dec_hit {c : Int} {t : List Int} {k : Nat} {r : Int} (hr : U.isRune r = true) (he : U.enc r = (c :: t).take k) (hk : k ≤ t.length + 1) : U.dec (c :: t) = some (r, k) := by
 have h1 : c :: t = U.enc r ++ (c :: t).drop k := by rw [he, List.take_append_drop]
 have h2 : U.rlen r = k := by rw [← U.enc_length, he, List.length_take]; simp; omega
 rw [h1, U.dec_enc hr, h2]
theorem notBelow_step {c : Int} {t : List Int} {k : Nat} (h : NotBelow (c :: t) k) (hz : ¬ (U.isRune (refR c t k) = true ∧ U.enc (refR c t k) = (c :: t).take k)) : NotBelow (c :: t) (k + 1) := by
 intro r u hr hd
 have h1 := h r u hr hd
 rcases Nat.lt_or_ge k (U.rlen r) with h2 | h2
 ·omega
 ·have e : U.rlen r = k := by omega
  have e2 := refR_enc hr hd
  rw [e] at e2
  refine absurd ⟨by rw [e2]; exact hr, ?_⟩ hz
  rw [e2, hd, ← e, ← U.enc_length, List.take_left]
theorem dec_none_of {d : List Int} {k : Nat} (h : NotBelow d k) (hk : 4 < k ∨ d.length < k) : U.dec d = none := by
 rw [U.dec_none_iff]
 rintro ⟨r, t, hr, rfl⟩
 have h1 := h r t hr rfl
 have h2 := U.rlen_pos r
 rcases hk with h3 | h3
 ·omega
 ·rw [List.length_append, U.enc_length] at h3; omega
set_option maxRecDepth 100000 in
set_option maxHeartbeats 1000000 in
theorem refDecode_in (b o n cap : Nat) (c : Int) (t : List Int) (at_ : Nat) (w : World) (hn : n ≤ 9223372036854775807) (hcap : n ≤ cap) (hat : at_ < n) (hdl : Hid (t.length + 1 + at_ = n))
  (hby : Hid (Byts w w.heap.size (some ⟨b, o + at_, none⟩) (c :: t))) (hb : b < w.heap.size) :
  Calls Tryz.prog 20 #[.slice (some ⟨b, o, none⟩) n cap, .int .i64 at_] w fun e w' => e = .returned (refT (U.dec (c :: t))) ∧ Below w.heap.size w w' := by
 have hcl : Hid (∀ i x, (c :: t)[i]? = some x → w.cell? ⟨b, o + at_ + i, none⟩ = some (.int .u8 x)) := by
  show ∀ i x, (c :: t)[i]? = some x → w.cell? ⟨b, o + at_ + i, none⟩ = some (.int .u8 x)
  obtain ⟨b', o', e, _, hc⟩ := hby.out.2 (by simp)
  cases e
  exact hc
 have e11 : decide ((at_ : Int) < 0) = false := by simp
 have e16 : decide (n ≤ at_) = false := by simp; omega
 go_enter Tryz.func20, Tryz.ntmps20
 go_wp2
 go_loopg [7] 4 (fun g s wr => ∃ k : Nat, Hid (k + g = 5) ∧ 1 ≤ k ∧ k ≤ 5 ∧ s = .int .i64 k ∧ Below w.heap.size w wr ∧ Hid (NotBelow (c :: t) k))
 case atStart => exact ⟨1, rfl, by omega, by omega, rfl, Below.refl _ _, fun r _ _ _ => (U.rlen_pos r).1⟩
 case round =>
  obtain ⟨k, hg, hk1, hk5, rfl, hbw, Hnb⟩ := hrel
  have hsz := hbw.size
  by_cases hk : k ≤ 4 ∧ k ≤ n - at_
  ·obtain ⟨hk4, hkn⟩ := hk
   have hcb := hby.out.1 c (by simp)
   have hcc : wr.cell? ⟨b, o + at_, none⟩ = some (.int .u8 c) := (hbw.cell (by exact hb)).trans (hcl.out 0 c rfl)
   obtain ⟨hc0, hc1⟩ := hcb
   have hka : decide ((k : Int) ≤ 4) = true := by simp; omega
   go_upto_if 36 with fail
   go_cut [8] (fun s8 wx => wr = wx ∧ ∃ x : Int, s8 = .int .i64 x ∧ 0 ≤ x ∧ x ≤ 255 ∧ Hid (x = if k = 2 then c % 32 else c))
   case first =>
    by_cases h2 : k = 2
    ·have hb2 : ((k : Int) == 2) = true := by simp; omega
     have H2 := Lib.hid h2
     clear h2
     go_wp2
     go_meet
     case rel => exact ⟨rfl, _, rfl, by omega, by omega, by show _ = _; rw [if_pos H2.out]⟩
    ·have hb2 : ((k : Int) == 2) = false := by simp; omega
     have H2 := Lib.hid h2
     clear h2
     go_wp2
     go_meet
     case rel => exact ⟨rfl, _, rfl, by omega, by omega, by show _ = _; rw [if_neg H2.out]⟩
   case rest =>
    obtain ⟨rfl, x1, rfl, hx10, hx11, Hx1⟩ := hcut
    go_upto_if 40 with fail
    go_cut [8] (fun s8 wx => wr = wx ∧ ∃ x : Int, s8 = .int .i64 x ∧ 0 ≤ x ∧ x ≤ 255 ∧ Hid (x = if k = 3 then x1 % 16 else x1))
    case first =>
     by_cases h2 : k = 3
     ·have hb2 : ((k : Int) == 3) = true := by simp; omega
      have H2 := Lib.hid h2
      clear h2
      go_wp2
      go_meet
      case rel => exact ⟨rfl, _, rfl, by omega, by omega, by show _ = _; rw [if_pos H2.out]⟩
     ·have hb2 : ((k : Int) == 3) = false := by simp; omega
      have H2 := Lib.hid h2
      clear h2
      go_wp2
      go_meet
      case rel => exact ⟨rfl, _, rfl, by omega, by omega, by show _ = _; rw [if_neg H2.out]⟩
    case rest =>
    obtain ⟨rfl, x2, rfl, hx20, hx21, Hx2⟩ := hcut
    go_upto_if 44 with fail
    go_cut [8] (fun s8 wx => wr = wx ∧ ∃ x : Int, s8 = .int .i64 x ∧ 0 ≤ x ∧ x ≤ 255 ∧ Hid (x = if k = 4 then x2 % 8 else x2))
    case first =>
     by_cases h2 : k = 4
     ·have hb2 : ((k : Int) == 4) = true := by simp; omega
      have H2 := Lib.hid h2
      clear h2
      go_wp2
      go_meet
      case rel => exact ⟨rfl, _, rfl, by omega, by omega, by show _ = _; rw [if_pos H2.out]⟩
     ·have hb2 : ((k : Int) == 4) = false := by simp; omega
      have H2 := Lib.hid h2
      clear h2
      go_wp2
      go_meet
      case rel => exact ⟨rfl, _, rfl, by omega, by omega, by show _ = _; rw [if_neg H2.out]⟩
    case rest =>
    obtain ⟨rfl, x3, rfl, hx30, hx31, Hx3⟩ := hcut
    have Hr0 : Hid (x3 = r0 k c) := by
     show x3 = r0 k c
     rw [Hx3.out, Hx2.out, Hx1.out]
     unfold r0
     by_cases e2 : k = 2
     ·simp [e2]
     ·by_cases e3 : k = 3
      ·simp [e3]
      ·by_cases e4 : k = 4 <;> simp [e2, e3, e4]
    clear Hx1 Hx2 Hx3
    go_wp2_with fail
    go_loopg [8, 9] k (fun g s8 s9 wx => wr = wx ∧ ∃ j : Nat, Hid (j + g = k + 1) ∧ 1 ≤ j ∧ j ≤ k ∧ s9 = .int .i64 j ∧ ∃ x : Int, s8 = .int .i64 x ∧ Hid (BndR j x) ∧ Hid (x = rfold x3 (t.take (j - 1))))
    case atStart => exact ⟨rfl, 1, by show _ = _; omega, by omega, hk1, rfl, x3, rfl, ⟨hx30, .inl ⟨rfl, hx31⟩⟩, rfl⟩
    case round =>
    obtain ⟨rfl, j, hgj, hj1, hjk, rfl, x, rfl, Hbd, Hx⟩ := hrel
    have hx0 : 0 ≤ x := Hbd.out.1
    have hx1 : x ≤ 67108863 := by have := Hbd.out; unfold BndR at this; omega
    by_cases hlt : j < k
    ·obtain ⟨y, hy⟩ : ∃ y, t[j - 1]? = some y := ⟨t[j - 1]'(by have := hdl.out; omega), List.getElem?_eq_getElem _⟩
     have hyb := hby.out.1 y (by simp [List.mem_of_getElem? hy])
     have hcy : wr.cell? ⟨b, o + (at_ + j), none⟩ = some (.int .u8 y) := by
      rw [show o + (at_ + j) = o + at_ + j by omega]
      refine (hbw.cell (by exact hb)).trans (hcl.out j y ?_)
      rw [show j = (j - 1) + 1 by omega, List.getElem?_cons_succ]
      exact hy
     have Hy := Lib.hid hy
     clear hy
     obtain ⟨hy0, hy1⟩ := hyb
     go_wp2_with fail
     go_roundg (k - j)
     case measure => have := hgj.out; omega
     case rel =>
      refine ⟨rfl, j + 1, by have := hgj.out; show _ = _; omega, by omega, by omega, by go_num, _, rfl, ?_, ?_⟩
      ·have := Hbd.out
       unfold BndR at this
       show BndR _ _
       unfold BndR
       omega
      ·show _ = _
       rw [Hx.out, show j + 1 - 1 = (j - 1) + 1 by omega, rfold_snoc _ _ _ _ Hy.out]
    ·have HR : Hid (x = refR c t k) := by
      show x = refR c t k
      rw [Hx.out, Hr0.out, show j = k by omega]
      rfl
     clear Hx Hr0
     obtain ⟨z, hz0⟩ : ∃ z : Bool, z = (U.isRune x && decide (U.enc x = (c :: t).take k)) := ⟨_, rfl⟩
     have Hz := Lib.hid hz0
     clear hz0
     have HB := Lib.hid (((hby.out.keep (w' := wr) (fun _ _ h => hbw.cell (by exact h))).more hsz).take k)
     go_upto_region 17 with fail
     go_cut [77] (fun s77 wx => s77 = .bool z ∧ Below w.heap.size w wx)
     case first =>
      by_cases hr : U.isRune x = true
      ·have hsl := slice_lh b o n cap at_ k k rfl (by omega) (by omega)
       have hwr : IntKind.i64.wrap ((at_ : Int) + (k : Int)) = (at_ : Int) + (k : Int) := IntWalk.i64_in _ (by omega)
       have hcA := conv_bytes (w := wr.drew) HB.out k (cap - at_) (by rw [List.length_take]; have := hdl.out; simp; omega)
       have hcB := fun (ob : Obj) => conv_bytes (w := (wr.alloc ob).drew) (HB.out.below (w' := (wr.alloc ob).drew) ((Below.refl wr.heap.size wr).alloc (Nat.le_refl _) ob).drew (Nat.le_refl _)) k (cap - at_) (by rw [List.length_take]; have := hdl.out; simp; omega)
       have hcN := conv_bytes (w := (wr.alloc (.cells (cellsOf (U.enc x)) 5)).drew) (show Byts (wr.alloc (.cells (cellsOf (U.enc x)) 5)).drew (wr.heap.size + 1) _ _ from Byts.new (w := wr) (B := wr.heap.size + 1) (U.enc_byt hr) 5 (by omega)) (U.rlen x) (U.rlen x) (U.enc_length x)
       have heq : ((strOf (U.enc x)).toList == (strOf ((c :: t).take k)).toList) = z := by
        rw [strOf_eq (U.enc_byt hr) HB.out.out, Hz.out, hr, Bool.true_and]
       have Heq := Lib.hid heq
       clear heq
       go_region_held_law (fun W => (convert 22 9 (.slice (some ⟨b, o + at_, none⟩) k (cap - at_))).run Tryz.prog W = .ok (.string (strOf ((c :: t).take k))) W) (first | exact hcA | exact hcB _) (first | (go_at_call 31; refine (Rune_is _ _ hr).mono ?_; rintro e w' ⟨rfl, rfl⟩) | (go_at_call 21; refine (Bytes_any _ _ hr).mono ?_; rintro e w' ⟨rfl, rfl⟩))
       go_wp2_with fail
       go_meet
       case rel => exact ⟨by rw [← Heq.out], (hbw.alloc hsz _).drew⟩
      ·have hrf : U.isRune x = false := by simpa using hr
       clear hr
       have Hzf : Hid (z = false) := by show z = false; rw [Hz.out, hrf, Bool.false_and]
       go_quiet ((go_at_call 31; exact quiet_left (Rune_is _ _ hrf)))
       go_wp2_with fail
       go_meet
       case rel => exact ⟨by rw [Hzf.out], below_drewN hbw _⟩
     case rest =>
      obtain ⟨rfl, hb2⟩ := hcut
      cases z
      ·go_wp2
       go_roundg (4 - k)
       case measure => have := hg.out; omega
       case rel =>
        refine ⟨k + 1, by show _ = _; omega, by omega, by omega, by go_num, hb2, notBelow_step Hnb.out ?_⟩
        rintro ⟨h1, h2⟩
        have := Hz.out
        rw [HR.out, h1, decide_eq_true h2] at this
        cases this
      ·have hzz : U.isRune x = true ∧ U.enc x = (c :: t).take k := by
        have := Hz.out.symm
        simpa using this
       have Hd := Lib.hid (dec_hit hzz.1 hzz.2 (by have := hdl.out; omega))
       clear hzz
       go_wp2
       go_ret3
       rw [Hd.out]
       exact ⟨rfl, hb2⟩
  ·have Hd : Hid (U.dec (c :: t) = none) := dec_none_of Hnb.out (by have := hdl.out; simp; omega)
   by_cases hk4 : k ≤ 4
   ·have hk4' : decide ((k : Int) ≤ 4) = true := by simp; omega
    have hkn : ¬ ((k : Int) ≤ (n : Int) - (at_ : Int)) := by omega
    clear hk
    go_wp2
    go_ret3
    rw [Hd.out]
    exact ⟨rfl, hbw⟩
   ·have hk4' : decide ((k : Int) ≤ 4) = false := by simp; omega
    clear hk
    go_wp2
    go_ret3
    rw [Hd.out]
    exact ⟨rfl, hbw⟩
def refAns (l : List Int) (at_ : Int) : Value :=
 if at_ < 0 ∨ (l.length : Int) ≤ at_ then .tuple #[.int .i64 0, .int .i64 0, .int .i64 4] else refT (U.dec (l.drop at_.toNat))
theorem refAns_at (l : List Int) (k : Nat) (h : k < l.length) : refAns l k = refT (U.dec (l.drop k)) := by
 unfold refAns
 rw [if_neg (by omega), Int.toNat_natCast]
set_option maxHeartbeats 400000 in
theorem refDecode_out (A : Option Addr) (n cap : Nat) (at_ : Int) (w : World) (h : at_ < 0 ∨ (n : Int) ≤ at_) :
  Calls Tryz.prog 20 #[.slice A n cap, .int .i64 at_] w fun e w' => e = .returned (.tuple #[.int .i64 0, .int .i64 0, .int .i64 4]) ∧ Below w.heap.size w w' := by
 by_cases h1 : at_ < 0
 ·go_enter Tryz.func20, Tryz.ntmps20
  go_wp2
  go_ret3
  exact ⟨rfl, Below.refl _ _⟩
 ·have h2 : (n : Int) ≤ at_ := by omega
  have h1' : decide (at_ < 0) = false := by simpa using h1
  go_enter Tryz.func20, Tryz.ntmps20
  go_wp2
  go_ret3
  exact ⟨rfl, Below.refl _ _⟩
theorem refDecode_any (A : Option Addr) (n cap : Nat) (l : List Int) (at_ : Int) (w : World) (hb : Byts w w.heap.size A l) (hl : l.length = n) (hcap : n ≤ cap) (hmax : n ≤ 9223372036854775807) :
  Calls Tryz.prog 20 #[.slice A n cap, .int .i64 at_] w fun e w' => e = .returned (refAns l at_) ∧ Below w.heap.size w w' := by
 by_cases ho : at_ < 0 ∨ (n : Int) ≤ at_
 ·have e : refAns l at_ = .tuple #[.int .i64 0, .int .i64 0, .int .i64 4] := by unfold refAns; rw [if_pos (by omega)]
  rw [e]
  exact refDecode_out A n cap at_ w ho
 ·obtain ⟨k, rfl⟩ := Int.eq_ofNat_of_zero_le (show 0 ≤ at_ by omega)
  have hk : k < l.length := by omega
  rw [refAns_at l k hk]
  obtain ⟨hbt, hb2⟩ := hb
  obtain ⟨b, o, rfl, hblt, hcell⟩ := hb2 (by omega)
  rw [List.drop_eq_getElem_cons hk]
  refine refDecode_in b o n cap l[k] (l.drop (k + 1)) k w hmax hcap (by omega) (by show _ = _; rw [List.length_drop]; omega) ?_ hblt
  rw [← List.drop_eq_getElem_cons hk]
  exact ⟨fun x hx => hbt x (List.mem_of_mem_drop hx), fun _ => ⟨b, o + k, rfl, hblt, fun i x hx => by
   rw [List.getElem?_drop] at hx
   rw [show o + k + i = o + (k + i) by omega]
   exact hcell _ _ hx⟩⟩
end Go.Proofs.YtcieibidnpemjaaGreatDoor
namespace Go.Proofs.YtcieibidnpemjaaGreatDoor
open Go.RowKit
def OwnK (k : IntKind) (E : TypeId) (w : World) (base : Nat) (v : Value) (l : List Int) : Prop := w.ownsRow base E 1 v l.length (l.map fun x => Value.int k x)
def SliceK (k : IntKind) (T E : TypeId) : Prop := Tryz.prog.underlying T = some (.slice E) ∧ ∃ b, b ≤ 8 ∧ (Tryz.prog.info? E).map (fun i => (i.zero, i.size, i.bytes)) = some (some (.int k 0), 1, b)
theorem own_ge {k : IntKind} {E : TypeId} {w : World} {base : Nat} {v : Value} {l : List Int} (h : OwnK k E w base v l) : ∀ g, v.ownBlock = some g → base ≤ g := fun g hg => (World.ownsRow.lt h g hg).1
theorem NumsK.grown {k : IntKind} {w w' : World} {B : Nat} {A : Option Addr} {l : List Int} (h : NumsK k w B A l) {row : Option Nat} (hg : w.grownBy w' row) (hB : B ≤ w.heap.size) (hr : ∀ g, row = some g → B ≤ g) : NumsK k w' B A l :=
 h.keep fun b o hb => World.cell?_of_block (hg.block b (by omega) (fun e => by have := hr _ e.symm; omega))
theorem OwnK.below {k : IntKind} {E : TypeId} {w w' : World} {base : Nat} {v : Value} {l : List Int} (h : OwnK k E w base v l) (hb : Below w.heap.size w w') : OwnK k E w' base v l :=
 World.ownsRow.kept h (row := none) ⟨hb.os, hb.tape, hb.output, hb.size, fun k hk _ => hb.block k hk⟩ (by cases v.ownBlock <;> simp)
theorem OwnK.setCell {k : IntKind} {E : TypeId} {w : World} {base : Nat} {v : Value} {l : List Int} (h : OwnK k E w base v l) {p : Addr} (hp : p.block < base) (u : Value) : OwnK k E (w.setCell p u) base v l :=
 ownsRow_setCell_other h (fun e => by have := own_ge h _ e; omega) u
theorem OwnK.nil (k : IntKind) (E : TypeId) (w : World) (base : Nat) : OwnK k E w base (.slice none 0 0) [] := World.ownsRow_nil _ _ _ _
theorem OwnK.nums {k : IntKind} {E : TypeId} {w : World} {base : Nat} {v : Value} {l : List Int} (h : OwnK k E w base v l) : ∃ A cap, v = .slice A l.length cap ∧ l.length ≤ cap ∧ cap ≤ maxLen ∧ NumsK k w w.heap.size A l := by
 rcases h.2 with ⟨hv, h0⟩ | ⟨g, cap, cur, hv, _, _, hnc, hcm, _⟩
 ·have : l = [] := List.eq_nil_of_length_eq_zero h0
  subst this
  exact ⟨none, 0, hv, Nat.le_refl _, Nat.zero_le _, NumsK.nil⟩
 ·refine ⟨_, cap, hv, hnc, hcm, fun _ => ?_⟩
  have hlt := World.ownsRow.lt h g (by rw [hv]; rfl)
  refine ⟨g, 0, rfl, hlt.2, fun i x hx => ?_⟩
  have := World.ownsRow.cells h (g := g) (by rw [hv]; rfl) i (.int k x) (by rw [List.getElem?_map, hx]; rfl)
  have hp : (⟨g, 0, none⟩ : Addr).add i = ⟨g, 0 + i, none⟩ := by unfold Addr.add; split <;> simp_all
  rwa [hp] at this
theorem run_makeK {k : IntKind} {T E : TypeId} (hT : SliceK k T E) (w : World) (base n c : Nat) (hn : n ≤ c) (hc : c ≤ 1000000) (hb : base ≤ w.heap.size) :
  ∃ w', (Instr.makeSlice T (.int .i64 (n : Int)) (.int .i64 (c : Int))).run Tryz.prog w = .ok (.slice (some ⟨w.heap.size, 0, none⟩) n c) w' ∧ OwnK k E w' base (.slice (some ⟨w.heap.size, 0, none⟩) n c) (List.replicate n 0) ∧ w.grownBy w' none := by
 obtain ⟨hu, bb, hbb, hi0⟩ := hT
 obtain ⟨i, hi, hi2⟩ := Option.map_eq_some_iff.1 hi0
 simp only [Prod.mk.injEq] at hi2
 obtain ⟨hz, hs, hby⟩ := hi2
 have hr := run_make (P := Tryz.prog) w T E i _ hu hi hz .i64 .i64 n c (by omega) (by omega) (by
  rw [hby]
  have : bb * c ≤ 8 * 1000000 := Nat.mul_le_mul hbb hc
  have h2 : ((bb : Int) * (c : Int)) = ((bb * c : Nat) : Int) := by simp
  rw [h2]
  omega) (by omega)
 simp only [Int.toNat_natCast, hs, Nat.mul_one] at hr
 refine ⟨_, hr, ?_, World.grownBy_alloc w _ none⟩
 unfold OwnK
 refine ⟨by simp, .inr ⟨w.heap.size, c, _, by simp, hb, heap_alloc_new w _, by simpa using hn, by simp only [maxLen]; omega, by have := size_madeCells (Value.int k 0).cells c; simpa using this, ?_⟩⟩
 simp [madeCells, Value.cells]
 have e : (fun x : Nat => [Value.int k 0][x % 1]?.getD default) = fun _ => Value.int k 0 := by
  funext x
  simp [Nat.mod_one]
 rw [e]
 apply List.ext_getElem
 ·simp
  omega
 ·intro i h1 h2
  simp
theorem wpList_makeK {k : IntKind} {T E : TypeId} (hT : SliceK k T E) {ops : Array Oper} {rest : List Oper} {o : Oper} {a : Act} {Q : Exit → Act → World → Prop} (w : World) (hgd : o.guard = none) (l c : Operand)
  (ho : o.op = .makeSlice T l c) (base n m : Nat) (hl : a.eval l = .int .i64 (n : Int)) (hc : a.eval c = .int .i64 (m : Int)) (hn : n ≤ m) (hm : m ≤ 1000000) (hb : base ≤ w.heap.size)
  (h : ∀ w', OwnK k E w' base (.slice (some ⟨w.heap.size, 0, none⟩) n m) (List.replicate n 0) → w.grownBy w' none → wpList Tryz.prog ops Q rest (a.put o.dst (.slice (some ⟨w.heap.size, 0, none⟩) n m)) w') : wpList Tryz.prog ops Q (o :: rest) a w :=
 wpList_plain hgd fun _ hK => by
  obtain ⟨w', hrun, h2, h3⟩ := run_makeK hT w base n m hn hm hb
  unfold Oper.wp execOp
  simp only [ho, Sem.run_bind, Sem.run_pure, Result.andThen_ok, hl, hc, hrun]
  exact hK _ _ (h w' h2 h3)
theorem results_cell1 {fn : Func} {p : Tmp} {ty : TypeId} (h : fn.results = #[.cell p ty]) (tmps : Array Value) (P : Program) (w : World) :
  (results fn tmps).run P w = ((asAddr (tmps.getD p undef)).run P w).andThen fun a w₁ => (loadVar ty a).run P w₁ := by
 simp only [results, h]
 simp [Sem.run_bind, Result.andThen]
end Go.Proofs.YtcieibidnpemjaaGreatDoor
namespace Go.Proofs.YtcieibidnpemjaaGreatDoor
open Go.RowKit Go.Extern.Stop Go.Stop Go.Extern Go.Extern.ReflectliteType Go.Extern.Rtype
theorem eqErrno (a b : Int) (w : World) : (binOp .eql 24 (.iface 32 (.int .i64 a)) (.iface 32 (.int .i64 b))).run Tryz.prog w = .ok (.bool (a == b)) w := by
 have hc : (Tryz.prog.info? 32).map (·.comparable) = some true := by kernel_rfl
 obtain ⟨i, hi, hcmp⟩ := Option.map_eq_some_iff.1 hc
 have h : ∀ d : Nat, (Op.equalIn (d + 2) 24 (.iface 32 (.int .i64 a)) (.iface 32 (.int .i64 b))).run Tryz.prog w = .ok (a == b) w := fun d => by
  simp [Op.equalIn, run_underlying Tryz.underlying24, run_underlying Tryz.underlying32, typeInfo, hi, hcmp]
 simp only [binOp]
 simp [Op.equal, Op.maxDepth, h 9998]
theorem isTypeOf (v : Value) (w : World) : (Extern.ReflectliteType.typeOf #[.iface 32 v]).run Tryz.prog w = .ok (.iface 68 (.agg #[.pointer (some ⟨9, 32, none⟩)])) w := by kernel_rfl
def cmpEntry : Array Value → Sem Value := Extern.ReflectliteType.method fun t => do noPackHeld "Comparable" t; pure (.bool (← typeInfo t).comparable)
theorem isComparable (w : World) : (cmpEntry #[.agg #[.pointer (some ⟨9, 32, none⟩)]]).run Tryz.prog w = .ok (.bool true) w := by kernel_rfl
theorem runComparable (args : Array Value) (w : World) : (callFunc 110 args).run Tryz.prog w = ((cmpEntry args).run Tryz.prog w).andThen fun v w' => .ok (.value v) w' :=
 @run_callFunc_extern Tryz.prog 110 _ cmpEntry Tryz.func110 (by kernel_rfl) (by kernel_rfl) (by kernel_rfl) (by kernel_rfl) args w
theorem runTypeOf (args : Array Value) (w : World) : (callFunc 22 args).run Tryz.prog w = ((Extern.ReflectliteType.typeOf args).run Tryz.prog w).andThen fun v w' => .ok (.value v) w' :=
 @run_callFunc_extern Tryz.prog 22 _ Extern.ReflectliteType.typeOf Tryz.func22 (by kernel_rfl) (by kernel_rfl) (by kernel_rfl) (by kernel_rfl) args w
theorem isMethodComparable (v : Value) (w : World) : (Go.method 278 68 v "Comparable").run Tryz.prog w = .ok (110, v) w := by kernel_rfl
theorem noIsE (v : Value) (xT : TypeId) (w : World) : (Instr.typeAssert (.iface 32 v) xT 70 true).run Tryz.prog w = .ok (.tuple #[.nilIface, .bool false]) w := run_typeAssert_lacksB Tryz.underlying70 (by kernel_rfl) (by kernel_rfl) v xT w
theorem noUnwrapE (v : Value) (xT : TypeId) (w : World) : (Instr.typeAssert (.iface 32 v) xT 73 true).run Tryz.prog w = .ok (.tuple #[.nilIface, .bool false]) w := run_typeAssert_lacksB Tryz.underlying73 (by kernel_rfl) (by kernel_rfl) v xT w
theorem noUnwrapsE (v : Value) (xT : TypeId) (w : World) : (Instr.typeAssert (.iface 32 v) xT 75 true).run Tryz.prog w = .ok (.tuple #[.nilIface, .bool false]) w := run_typeAssert_lacksB Tryz.underlying75 (by kernel_rfl) (by kernel_rfl) v xT w
set_option maxHeartbeats 1000000 in
theorem is_errno (a c : Int) (w : World) :
  Calls Tryz.prog 13 #[errno a, errno c] w fun e w' => e = .returned (.bool (a == c)) ∧ w = w' := by
 have h8 := runTypeOf
 have h32 := runComparable
 have tT := isTypeOf
 have cT := isComparable
 have mR := isMethodComparable
 have nE := noIsE
 have uE := noUnwrapE
 have vE := noUnwrapsE
 have heq := eqErrno a c
 unfold errno
 by_cases hac : a = c
 ·subst hac
  have hb : (a == a) = true := by simp
  go_enter Tryz.func13, Tryz.ntmps13
  go_wp2
  refine wp_loop_rounds 1 ?_
  rw [rounds_succ]
  go_wp2
  go_ret
  exact ⟨ret_bool hb.symm, rfl⟩
 ·have hb : (a == c) = false := by simpa using hac
  clear hac
  go_enter Tryz.func13, Tryz.ntmps13
  go_wp2
  refine wp_loop_rounds 1 ?_
  rw [rounds_succ]
  go_wp2
  go_ret
  exact ⟨ret_bool hb.symm, rfl⟩
theorem is_errno_below (a c : Int) (w : World) :
  Calls Tryz.prog 13 #[errno a, errno c] w fun e w' => e = .returned (.bool (a == c)) ∧ Below w.heap.size w w' :=
 (is_errno a c w).mono fun _ _ ⟨h, hw⟩ => ⟨h, hw ▸ Below.refl _ _⟩
set_option maxHeartbeats 400000 in
theorem code_nil (w : World) : Calls Tryz.prog 6 #[.nilIface] w fun e w' => e = .returned (.int .i64 0) ∧ Below w.heap.size w w' := by
 go_enter Tryz.func6, Tryz.ntmps6
 go_wp2
 go_ret
 exact ⟨rfl, Below.refl _ _⟩
set_option maxHeartbeats 1000000 in
theorem code_of {x : Value} {t : TypeId} {v : Value} (hx : Hid (x = .iface t v)) (k : Nat) (h1 : 1 ≤ k) (h25 : k ≤ 25)
  (his : Hid (∀ (c : Int) (w : World), Calls Tryz.prog 13 #[.iface t v, errno c] w fun e w' => e = .returned (.bool ((k : Int) == c)) ∧ Below w.heap.size w w')) (w : World) :
  Calls Tryz.prog 6 #[x] w fun e w' => e = .returned (.int .i64 k) ∧ Below w.heap.size w w' := by
 rw [hx.out]
 clear hx
 go_enter Tryz.func6, Tryz.ntmps6
 go_wp2
 go_loopw [3] (fun c wr => ∃ j : Nat, 1 ≤ j ∧ j ≤ k ∧ c = .int .i64 j ∧ Below w.heap.size w wr) (fun c _ => k - (intOf c).toNat)
 case atStart => exact ⟨1, by omega, h1, rfl, Below.refl _ _⟩
 case round =>
  obtain ⟨j, hj1, hjk, rfl, hbw⟩ := hrel
  have hj25 : decide ((j : Int) ≤ 25) = true := by simp; omega
  by_cases hlt : j < k
  ·have hb : ((k : Int) == (j : Int)) = false := by simp; omega
   go_wp2_with (go_at_call 13; refine (his.out _ _).mono ?_; rintro e w1 ⟨rfl, hw1⟩)
   go_roundw
   case rel => exact ⟨j + 1, by omega, by omega, by go_num, hbw.trans (hw1.mono hbw.size)⟩
   case measure => simp [intOf]; omega
  ·have hb : ((k : Int) == (j : Int)) = true := by simp; omega
   have e : Hid (j = k) := show j = k by omega
   go_wp2_with (go_at_call 13; refine (his.out _ _).mono ?_; rintro e w1 ⟨rfl, hw1⟩)
   go_ret
   exact ⟨ret_int (by rw [e.out]), hbw.trans (hw1.mono hbw.size)⟩
theorem code_errno (k : Nat) (h1 : 1 ≤ k) (h25 : k ≤ 25) (w : World) :
  Calls Tryz.prog 6 #[errno k] w fun e w' => e = .returned (.int .i64 k) ∧ Below w.heap.size w w' :=
 code_of (show errno k = _ from rfl) k h1 h25 (fun c w => is_errno_below k c w) w
def errOf (k : Nat) : Value := if k = 0 then .nilIface else errno k
theorem code_errOf (k : Nat) (h25 : k ≤ 25) (w : World) :
  Calls Tryz.prog 6 #[errOf k] w fun e w' => e = .returned (.int .i64 k) ∧ Below w.heap.size w w' := by
 unfold errOf
 split
 ·next h => subst h; exact code_nil w
 ·exact code_errno k (by omega) h25 w
end Go.Proofs.YtcieibidnpemjaaGreatDoor
namespace Go.Proofs.YtcieibidnpemjaaGreatDoor
open Go.RowKit Go.Sort
set_option linter.unusedSimpArgs false
theorem index_at {s : ByteArray} {i : Nat} {b : UInt8} (h : s.data.toList[i]? = some b) (W : World) : (Instr.index 9 (.string s) (.int .i64 (i : Int))).run Tryz.prog W = .ok (.int .u8 (b.toNat : Int)) W := by
  obtain ⟨hi, he⟩ := List.getElem?_eq_some_iff.1 h
  have hi2 : i < s.size := by simpa using hi
  rw [run_index_string _ _ _ _ _ Tryz.underlying9, dif_pos (by omega)]
  have : s[(i : Int).toNat]'(by simpa using hi2) = b := by
    rw [← he]
    simp
    rfl
  rw [this]
def bs (l : List UInt8) : ByteArray := ⟨l.toArray⟩
theorem bs_list (l : List UInt8) : (bs l).data.toList = l := by simp [bs]
theorem bs_size (l : List UInt8) : (bs l).size = l.length := by simp [bs, ByteArray.size]
theorem bs_app (a b : List UInt8) : bs a ++ bs b = bs (a ++ b) := by
  apply ByteArray.ext
  simp [bs]
theorem bs_extract (l : List UInt8) (i j : Nat) : (bs l).extract i j = bs ((l.take j).drop i) := by
  apply ByteArray.ext
  simp [bs, List.extract_toArray, List.take_drop]
  by_cases h : i ≤ j
  · rw [show i + (j - i) = j by omega]
  · rw [List.drop_eq_nil_of_le (by simp; omega), List.drop_eq_nil_of_le (by simp; omega)]
theorem bs_from (l : List UInt8) (i n : Nat) (h : n = l.length) : (bs l).extract i n = bs (l.drop i) := by
  rw [bs_extract, h, List.take_length]
theorem bs_to (l : List UInt8) (j : Nat) : (bs l).extract 0 j = bs (l.take j) := by
  rw [bs_extract, List.drop_zero]
theorem bs_get {l : List UInt8} {i : Nat} {c : UInt8} (h : l[i]? = some c) (W : World) : (Instr.index 9 (.string (bs l)) (.int .i64 (i : Int))).run Tryz.prog W = .ok (.int .u8 (c.toNat : Int)) W := index_at (by rw [bs_list]; exact h) W
theorem bs_isEmpty (l : List UInt8) : (bs l).toList.isEmpty = l.isEmpty := by rw [Lib.toList_data, bs_list]
def dvN (c : Nat) : Nat := if 48 ≤ c ∧ c ≤ 57 then c - 48 else if 97 ≤ c ∧ c ≤ 102 then c - 87 else if 65 ≤ c ∧ c ≤ 70 then c - 55 else 16
theorem take_succ_of {l : List UInt8} {i : Nat} {c : UInt8} (h : l[i]? = some c) : l.take (i + 1) = l.take i ++ [c] := by
  rw [List.take_add_one, h]
  rfl
def num (B : Nat) (l : List UInt8) : Nat := l.foldl (fun a c => a * B + dvN c.toNat) 0
theorem num_snoc (B : Nat) (l : List UInt8) (c : UInt8) : num B (l ++ [c]) = num B l * B + dvN c.toNat := by unfold num; rw [List.foldl_append]; rfl
theorem foldl_ge {B : Nat} (hB : 1 ≤ B) : ∀ (m : List UInt8) (a : Nat), a ≤ m.foldl (fun a c => a * B + dvN c.toNat) a
  | [], _ => Nat.le_refl _
  | _ :: m, a => Nat.le_trans (Nat.le_trans (Nat.le_mul_of_pos_right a hB) (Nat.le_add_right _ _)) (foldl_ge hB m _)
theorem num_take {B : Nat} (hB : 1 ≤ B) (l : List UInt8) (i : Nat) : num B (l.take i) ≤ num B l := by
  have h : num B l = (l.drop i).foldl (fun a c => a * B + dvN c.toNat) (num B (l.take i)) := by
    unfold num
    rw [← List.foldl_append, List.take_append_drop]
  rw [h]
  exact foldl_ge hB _ _
def okDig (B : Nat) (l : List UInt8) : Bool := l.all fun c => decide (dvN c.toNat < B)
theorem okDig_get {B : Nat} {l : List UInt8} (h : okDig B l = true) {i : Nat} {c : UInt8} (hc : l[i]? = some c) : dvN c.toNat < B := by
  have := List.all_eq_true.1 h c (List.mem_of_getElem? hc)
  simpa using this
theorem okDig_not {B : Nat} {l : List UInt8} {i : Nat} {c : UInt8} (hc : l[i]? = some c) (h : ¬ dvN c.toNat < B) : okDig B l = false := by
  cases e : okDig B l
  · rfl
  · exact absurd (okDig_get e hc) h
theorem okDig_of {B : Nat} {l : List UInt8} (h : ∀ (i : Nat) (c : UInt8), l[i]? = some c → dvN c.toNat < B) : okDig B l = true := by
  refine List.all_eq_true.2 fun c hc => ?_
  obtain ⟨i, hi⟩ := List.mem_iff_getElem?.1 hc
  simpa using h i c hi
def sdN (i : Nat) : Nat := if i < 10 then 48 + i else 87 + i
def gdN (i : Nat) : Nat := if i < 10 then 48 + i else 55 + i
theorem sd_str : ∀ i : Fin 16, (⟨#[48, 49, 50, 51, 52, 53, 54, 55, 56, 57, 97, 98, 99, 100, 101, 102]⟩ : ByteArray).data.toList[i.val]? = some (UInt8.ofNat (sdN i.val)) := by decide +kernel
theorem gd_str : ∀ i : Fin 16, (⟨#[48, 49, 50, 51, 52, 53, 54, 55, 56, 57, 65, 66, 67, 68, 69, 70]⟩ : ByteArray).data.toList[i.val]? = some (UInt8.ofNat (gdN i.val)) := by decide +kernel
theorem sd_nat : ∀ i : Fin 16, (UInt8.ofNat (sdN i.val)).toNat = sdN i.val := by decide +kernel
theorem gd_nat : ∀ i : Fin 16, (UInt8.ofNat (gdN i.val)).toNat = gdN i.val := by decide +kernel
theorem dv_is {c i : Nat} (h : i < 16) : dvN c = i ↔ (sdN i = c ∨ gdN i = c) := by
  unfold dvN sdN gdN
  split <;> split <;> (try split) <;> (try split) <;> omega
def rdN (c : Nat) : Nat := if dvN c < 16 then dvN c else 99
theorem rd_lt {c B : Nat} (h : B ≤ 16) : rdN c < B ↔ dvN c < B := by unfold rdN; split <;> omega
set_option maxRecDepth 100000 in
set_option maxHeartbeats 2000000 in
theorem Digit_run7 (c : Nat) (w : World) :
    Calls Tryz.prog 40 #[.int .u8 (c : Int)] w fun e w' => e = .returned (.int .i64 (rdN c : Int)) ∧ w' = w := by
  go_enter Tryz.func40, Tryz.ntmps40
  go_wp2_with fail
  go_loopg [5] 17 (fun h s5 wr => ∃ i : Nat, s5 = .int .i64 (i : Int) ∧ Hid (i + h = 17) ∧ i ≤ 16 ∧ Hid (i ≤ dvN c) ∧ wr = w)
  case atStart => exact ⟨0, rfl, by show _ = _; omega, by omega, Nat.zero_le _, rfl⟩
  case round =>
    obtain ⟨i, rfl, HI, hi16, HD, rfl⟩ := hrel
    by_cases hlt : i < 16
    · have hz : (i : Int) < 16 := by omega
      have hx := index_at (sd_str ⟨i, hlt⟩)
      have hy := index_at (gd_str ⟨i, hlt⟩)
      rw [sd_nat ⟨i, hlt⟩] at hx
      rw [gd_nat ⟨i, hlt⟩] at hy
      simp only at hx hy
      have hdi := dv_is (c := c) hlt
      generalize sdN i = a at *
      generalize gdN i = b at *
      have HDI := Lib.hid hdi
      clear hdi
      by_cases h1 : a = c
      · have e1 : ((a : Int) == (c : Int)) = true := by simp [h1]
        have HR : Hid (rdN c = i) := by
          have := HDI.out.2 (.inl h1)
          show rdN c = i
          unfold rdN
          rw [this, if_pos hlt]
        clear h1
        go_wp2_with fail
        go_ret
        exact ⟨by rw [HR.out]; rfl, rfl⟩
      · have e1 : ((a : Int) == (c : Int)) = false := by simp; omega
        by_cases h2 : b = c
        · have e2 : ((b : Int) == (c : Int)) = true := by simp [h2]
          have HR : Hid (rdN c = i) := by
            have := HDI.out.2 (.inr h2)
            show rdN c = i
            unfold rdN
            rw [this, if_pos hlt]
          clear h1 h2
          go_wp2_with fail
          go_ret
          exact ⟨by rw [HR.out]; rfl, rfl⟩
        · have e2 : ((b : Int) == (c : Int)) = false := by simp; omega
          have HN : Hid (i + 1 ≤ dvN c) := by
            have h3 : ¬ dvN c = i := fun e => Or.elim (HDI.out.1 e) h1 h2
            have := HD.out
            show _ ≤ _
            omega
          clear h1 h2
          go_wp2_with fail
          go_roundg (16 - i)
          case measure => have := HI.out; omega
          case rel => exact ⟨i + 1, by go_num, by show _ = _; have := HI.out; omega, by omega, HN, rfl⟩
    · obtain rfl : i = 16 := by omega
      have HR : Hid (rdN c = 99) := by
        have := HD.out
        show rdN c = 99
        unfold rdN
        rw [if_neg (by omega)]
      go_wp2_with fail
      go_ret
      exact ⟨by rw [HR.out]; rfl, rfl⟩
theorem eq_byte {a k : UInt8} (h : a ≠ k) : ((a.toNat : Int) == (k.toNat : Int)) = false := by
  rw [beq_eq_false_iff_ne]
  intro e
  exact h (UInt8.toNat_inj.1 (by omega))
theorem ext_one {l : List UInt8} {i : Nat} {c : UInt8} (h : l[i]? = some c) : (bs l).extract i (i + 1) = bs [c] := by
  rw [bs_extract, take_succ_of h, List.drop_append_of_le_length (by have := (List.getElem?_eq_some_iff.1 h).1; rw [List.length_take]; omega), List.drop_of_length_le (by rw [List.length_take]; omega)]
  rfl
def bi (l : List UInt8) : List Int := l.map fun b => (b.toNat : Int)
theorem bi_length (l : List UInt8) : (bi l).length = l.length := List.length_map ..
theorem bi_take (l : List UInt8) (n : Nat) : (bi l).take n = bi (l.take n) := (List.map_take).symm
theorem bi_drop (l : List UInt8) (n : Nat) : (bi l).drop n = bi (l.drop n) := (List.map_drop).symm
theorem bi_str (l : List UInt8) : strOf (bi l) = bs l := by
  unfold strOf strOfNums bi bs
  rw [List.map_map]
  congr 2
  have : ((fun n : Int => UInt8.ofNat n.toNat) ∘ fun b : UInt8 => (b.toNat : Int)) = id := by
    funext b
    simp
  rw [this, List.map_id]
theorem byts_cell {w : World} {B b o : Nat} {l : List UInt8} (h : Byts w B (some ⟨b, o, none⟩) (bi l)) {i : Nat} {c : UInt8} (hc : l[i]? = some c) : w.cell? ⟨b, o + i, none⟩ = some (.int .u8 (c.toNat : Int)) := by
  obtain ⟨b', o', e, _, hq⟩ := h.2 (by rw [bi_length]; exact Nat.lt_of_le_of_lt (Nat.zero_le _) (List.getElem?_eq_some_iff.1 hc).1)
  cases e
  refine hq i _ ?_
  unfold bi
  rw [List.getElem?_map, hc]
  rfl
end Go.Proofs.YtcieibidnpemjaaGreatDoor
