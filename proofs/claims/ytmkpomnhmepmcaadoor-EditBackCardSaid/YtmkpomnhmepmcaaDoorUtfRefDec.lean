/-
  The contract of the reference's Decode: it answers what 'U.dec' says, at every place of every slice of bytes.
-/
import Derived.Test.YtmkpomnhmepmcaaDoorUtfStr
import Derived.Deep.RegionWith
import Derived.Deep.RegionHeldLaw
import Derived.Deep.QuietTactic
import Derived.BigQuiet
import Derived.Deep.DeepCutAuto
import Derived.Deep.Light
import Derived.Deep.LoopGhost
namespace Go.Proofs.YtmkpomnhmepmcaaDoor
open Go.RowKit

/-- The answer of the reference's Decode where 'U.dec' answers d. -/
def refT : Option (Int × Nat) → Value
  | none => .tuple #[.int .i64 0, .int .i64 0, .int .i64 3]
  | some (r, n) => .tuple #[.int .i64 r, .int .i64 n, .int .i64 0]
theorem quiet_left {P : Program} {f : FuncId} {args : Array Value} {w : World} {n : Nat} {v : Value}
    (h : Calls P f args (w.drewN n) fun e w' => e = .returned v ∧ w.drewN n = w') : Calls P f args (w.drewN n) fun e w'' => e = .returned v ∧ ∃ m, w'' = w.drewN m :=
  h.mono fun _ _ ⟨he, hm⟩ => ⟨he, n, hm.symm⟩
theorem Rune_is (c : Int) (w : World) {b : Bool} (h : U.isRune c = b) :
    Calls Tryd.prog 45 #[.int .i64 c] w fun e w' => e = .returned (.bool b) ∧ w = w' := by
  have := Rune_any c w
  rwa [h] at this
/-- No encoding of fewer than k bytes stands at the head of d. -/
def NotBelow (d : List Int) (k : Nat) : Prop := ∀ r t, U.isRune r = true → d = U.enc r ++ t → k ≤ U.rlen r
set_option maxRecDepth 20000 in
theorem slice_lh (b o n cap lo k : Nat) (K : Int) (hK : K = k) (h : lo + k ≤ cap) (hlt : lo < cap) (w : World) :
    (Instr.slice 22 (.slice (some ⟨b, o, none⟩) n cap) (some (.int .i64 (lo : Int))) (some (.int .i64 ((lo : Int) + K))) none).run Tryd.prog w = .ok (.slice (some ⟨b, o + lo, none⟩) k (cap - lo)) w := by
  subst hK
  have hz : (sizeOf (Tryd.prog.elem 22)).run Tryd.prog w = .ok 1 w := by kernel_rfl
  rw [run_slice_lh (P := Tryd.prog) (w := w) 22 (some ⟨b, o, none⟩) n cap (by kernel_rfl) .i64 .i64 (lo : Int) ((lo : Int) + (k : Int)) (by omega) (by omega) (by omega), hz]
  simp only [Result.andThen_ok, sliced]
  rw [if_neg (by omega)]
  have e : (lo : Int).toNat = lo := Int.toNat_natCast _
  have e2 : ((lo : Int) + (k : Int)).toNat = lo + k := by omega
  rw [e, e2]
  simp only [Option.map_some, Nat.mul_one]
  rw [show lo + k - lo = k by omega]
  simp only [Addr.add]
  split
  · next h0 => subst h0; rfl
  · rfl

/-- The reference's number for a length k: the first byte without its head, then six bits a byte. -/
def r0 (k : Nat) (c : Int) : Int := if k = 2 then c % 32 else if k = 3 then c % 16 else if k = 4 then c % 8 else c
def rfold (x : Int) (l : List Int) : Int := l.foldl (fun r y => r * 64 + y % 64) x
def refR (c : Int) (t : List Int) (k : Nat) : Int := rfold (r0 k c) (t.take (k - 1))
theorem refR_enc {r : Int} (h : U.isRune r = true) {c : Int} {t u : List Int} (hd : c :: t = U.enc r ++ u) : refR c t (U.rlen r) = r := by
  have hr := U.isRune_iff.1 h
  rcases U.rlen_inv r with ⟨e, h1⟩ | ⟨e, h1⟩ | ⟨e, h1⟩ | ⟨e, h1⟩ <;> rw [e]
  · rw [U.enc, if_pos h1] at hd
    simp only [List.cons_append, List.nil_append, List.cons.injEq] at hd
    obtain ⟨rfl, rfl⟩ := hd
    simp [refR, rfold, r0]
  · rw [U.enc, if_neg (by omega), if_pos (by omega)] at hd
    simp only [List.cons_append, List.nil_append, List.cons.injEq] at hd
    obtain ⟨rfl, rfl⟩ := hd
    simp only [refR, rfold, r0, if_true, List.take_succ_cons, List.take_zero, List.foldl_cons, List.foldl_nil]
    omega
  · rw [U.enc, if_neg (by omega), if_neg (by omega), if_pos (by omega)] at hd
    simp only [List.cons_append, List.nil_append, List.cons.injEq] at hd
    obtain ⟨rfl, rfl⟩ := hd
    simp [refR, rfold, r0]
    omega
  · rw [U.enc, if_neg (by omega), if_neg (by omega), if_neg (by omega)] at hd
    simp only [List.cons_append, List.nil_append, List.cons.injEq] at hd
    obtain ⟨rfl, rfl⟩ := hd
    simp [refR, rfold, r0]
    omega
theorem rfold_snoc (x : Int) (t : List Int) (j : Nat) (y : Int) (h : t[j]? = some y) : rfold x (t.take (j + 1)) = rfold x (t.take j) * 64 + y % 64 := by
  rw [List.take_add_one, h]
  simp [rfold, List.foldl_append]
def BndR (j : Nat) (x : Int) : Prop := 0 ≤ x ∧ ((j = 1 ∧ x ≤ 255) ∨ (j = 2 ∧ x ≤ 16383) ∨ (j = 3 ∧ x ≤ 1048575) ∨ (j = 4 ∧ x ≤ 67108863))
/-- Where the bytes of the number are those that stand there, it is what 'U.dec' finds. -/
theorem dec_hit {c : Int} {t : List Int} {k : Nat} {r : Int} (hr : U.isRune r = true) (he : U.enc r = (c :: t).take k) (hk : k ≤ t.length + 1) : U.dec (c :: t) = some (r, k) := by
  have h1 : c :: t = U.enc r ++ (c :: t).drop k := by rw [he, List.take_append_drop]
  have h2 : U.rlen r = k := by rw [← U.enc_length, he, List.length_take]; simp; omega
  rw [h1, U.dec_enc hr, h2]
/-- Where they are not, no encoding of this length stands there. -/
theorem notBelow_step {c : Int} {t : List Int} {k : Nat} (h : NotBelow (c :: t) k) (hz : ¬ (U.isRune (refR c t k) = true ∧ U.enc (refR c t k) = (c :: t).take k)) : NotBelow (c :: t) (k + 1) := by
  intro r u hr hd
  have h1 := h r u hr hd
  rcases Nat.lt_or_ge k (U.rlen r) with h2 | h2
  · omega
  · have e : U.rlen r = k := by omega
    have e2 := refR_enc hr hd
    rw [e] at e2
    refine absurd ⟨by rw [e2]; exact hr, ?_⟩ hz
    rw [e2, hd, ← e, ← U.enc_length, List.take_left]
theorem dec_none_of {d : List Int} {k : Nat} (h : NotBelow d k) (hk : 4 < k ∨ d.length < k) : U.dec d = none := by
  rw [U.dec_none_iff]
  rintro ⟨r, t, hr, rfl⟩
  have h1 := h r t hr rfl
  have h2 := U.rlen_pos r
  rcases hk with h3 | h3
  · omega
  · rw [List.length_append, U.enc_length] at h3; omega
theorem r0_bd {k : Nat} {c : Int} (h0 : 0 ≤ c) (h1 : c ≤ 255) : 0 ≤ r0 k c ∧ r0 k c ≤ 255 := by
  unfold r0; repeat' split
  all_goals omega

set_option maxRecDepth 100000 in
set_option maxHeartbeats 1000000 in
theorem refDecode_in (b o n cap : Nat) (c : Int) (t : List Int) (at_ : Nat) (w : World) (hn : n ≤ 9223372036854775807) (hcap : n ≤ cap) (hat : at_ < n) (hdl : Hid (t.length + 1 + at_ = n))
    (hby : Hid (Byts w w.heap.size (some ⟨b, o + at_, none⟩) (c :: t))) (hb : b < w.heap.size) :
    Calls Tryd.prog 34 #[.slice (some ⟨b, o, none⟩) n cap, .int .i64 at_] w fun e w' => e = .returned (refT (U.dec (c :: t))) ∧ Below w.heap.size w w' := by
  have hcl : Hid (∀ i x, (c :: t)[i]? = some x → w.cell? ⟨b, o + at_ + i, none⟩ = some (.int .u8 x)) := by
    show ∀ i x, (c :: t)[i]? = some x → w.cell? ⟨b, o + at_ + i, none⟩ = some (.int .u8 x)
    obtain ⟨b', o', e, _, hc⟩ := hby.out.2 (by simp)
    cases e
    exact hc
  have e11 : decide ((at_ : Int) < 0) = false := by simp
  have e16 : decide (n ≤ at_) = false := by simp; omega
  go_enter Tryd.func34, Tryd.ntmps34
  go_wp2
  go_loopg [7] 4 (fun g s wr => ∃ k : Nat, Hid (k + g = 5) ∧ 1 ≤ k ∧ k ≤ 5 ∧ s = .int .i64 k ∧ Below w.heap.size w wr ∧ Hid (NotBelow (c :: t) k))
  case atStart => exact ⟨1, rfl, by omega, by omega, rfl, Below.refl _ _, fun r _ _ _ => (U.rlen_pos r).1⟩
  case round =>
    obtain ⟨k, hg, hk1, hk5, rfl, hbw, Hnb⟩ := hrel
    have hsz := hbw.size
    by_cases hk : k ≤ 4 ∧ k ≤ n - at_
    · obtain ⟨hk4, hkn⟩ := hk
      have hcb := hby.out.1 c (by simp)
      have hcc : wr.cell? ⟨b, o + at_, none⟩ = some (.int .u8 c) := (hbw.cell (by exact hb)).trans (hcl.out 0 c rfl)
      obtain ⟨hc0, hc1⟩ := hcb
      have hka : decide ((k : Int) ≤ 4) = true := by simp; omega
      go_upto_if 36 with fail
      go_cut [8] (fun s8 wx => wr = wx ∧ ∃ x : Int, s8 = .int .i64 x ∧ 0 ≤ x ∧ x ≤ 255 ∧ Hid (x = if k = 2 then c % 32 else c))
      case first =>
        by_cases h2 : k = 2
        · have hb2 : ((k : Int) == 2) = true := by simp; omega
          have H2 := Lib.hid h2
          clear h2
          go_wp2
          go_meet
          case rel => exact ⟨rfl, _, rfl, by omega, by omega, by show _ = _; rw [if_pos H2.out]⟩
        · have hb2 : ((k : Int) == 2) = false := by simp; omega
          have H2 := Lib.hid h2
          clear h2
          go_wp2
          go_meet
          case rel => exact ⟨rfl, _, rfl, by omega, by omega, by show _ = _; rw [if_neg H2.out]⟩
      case rest =>
        obtain ⟨rfl, x1, rfl, hx10, hx11, Hx1⟩ := hcut
        go_upto_if 40 with fail
        go_cut [8] (fun s8 wx => wr = wx ∧ ∃ x : Int, s8 = .int .i64 x ∧ 0 ≤ x ∧ x ≤ 255 ∧ Hid (x = if k = 3 then x1 % 16 else x1))
        case first =>
          by_cases h2 : k = 3
          · have hb2 : ((k : Int) == 3) = true := by simp; omega
            have H2 := Lib.hid h2
            clear h2
            go_wp2
            go_meet
            case rel => exact ⟨rfl, _, rfl, by omega, by omega, by show _ = _; rw [if_pos H2.out]⟩
          · have hb2 : ((k : Int) == 3) = false := by simp; omega
            have H2 := Lib.hid h2
            clear h2
            go_wp2
            go_meet
            case rel => exact ⟨rfl, _, rfl, by omega, by omega, by show _ = _; rw [if_neg H2.out]⟩
        case rest =>
        obtain ⟨rfl, x2, rfl, hx20, hx21, Hx2⟩ := hcut
        go_upto_if 44 with fail
        go_cut [8] (fun s8 wx => wr = wx ∧ ∃ x : Int, s8 = .int .i64 x ∧ 0 ≤ x ∧ x ≤ 255 ∧ Hid (x = if k = 4 then x2 % 8 else x2))
        case first =>
          by_cases h2 : k = 4
          · have hb2 : ((k : Int) == 4) = true := by simp; omega
            have H2 := Lib.hid h2
            clear h2
            go_wp2
            go_meet
            case rel => exact ⟨rfl, _, rfl, by omega, by omega, by show _ = _; rw [if_pos H2.out]⟩
          · have hb2 : ((k : Int) == 4) = false := by simp; omega
            have H2 := Lib.hid h2
            clear h2
            go_wp2
            go_meet
            case rel => exact ⟨rfl, _, rfl, by omega, by omega, by show _ = _; rw [if_neg H2.out]⟩
        case rest =>
        obtain ⟨rfl, x3, rfl, hx30, hx31, Hx3⟩ := hcut
        have Hr0 : Hid (x3 = r0 k c) := by
          show x3 = r0 k c
          rw [Hx3.out, Hx2.out, Hx1.out]
          unfold r0
          by_cases e2 : k = 2
          · simp [e2]
          · by_cases e3 : k = 3
            · simp [e3]
            · by_cases e4 : k = 4 <;> simp [e2, e3, e4]
        clear Hx1 Hx2 Hx3
        go_wp2_with fail
        go_loopg [8, 9] k (fun g s8 s9 wx => wr = wx ∧ ∃ j : Nat, Hid (j + g = k + 1) ∧ 1 ≤ j ∧ j ≤ k ∧ s9 = .int .i64 j ∧ ∃ x : Int, s8 = .int .i64 x ∧ Hid (BndR j x) ∧ Hid (x = rfold x3 (t.take (j - 1))))
        case atStart => exact ⟨rfl, 1, by show _ = _; omega, by omega, hk1, rfl, x3, rfl, ⟨hx30, .inl ⟨rfl, hx31⟩⟩, rfl⟩
        case round =>
        obtain ⟨rfl, j, hgj, hj1, hjk, rfl, x, rfl, Hbd, Hx⟩ := hrel
        have hx0 : 0 ≤ x := Hbd.out.1
        have hx1 : x ≤ 67108863 := by have := Hbd.out; unfold BndR at this; omega
        by_cases hlt : j < k
        · obtain ⟨y, hy⟩ : ∃ y, t[j - 1]? = some y := ⟨t[j - 1]'(by have := hdl.out; omega), List.getElem?_eq_getElem _⟩
          have hyb := hby.out.1 y (by simp [List.mem_of_getElem? hy])
          have hcy : wr.cell? ⟨b, o + (at_ + j), none⟩ = some (.int .u8 y) := by
            rw [show o + (at_ + j) = o + at_ + j by omega]
            refine (hbw.cell (by exact hb)).trans (hcl.out j y ?_)
            rw [show j = (j - 1) + 1 by omega, List.getElem?_cons_succ]
            exact hy
          have Hy := Lib.hid hy
          clear hy
          obtain ⟨hy0, hy1⟩ := hyb
          go_wp2_with fail
          go_roundg (k - j)
          case measure => have := hgj.out; omega
          case rel =>
            refine ⟨rfl, j + 1, by have := hgj.out; show _ = _; omega, by omega, by omega, by go_num, _, rfl, ?_, ?_⟩
            · have := Hbd.out
              unfold BndR at this
              show BndR _ _
              unfold BndR
              omega
            · show _ = _
              rw [Hx.out, show j + 1 - 1 = (j - 1) + 1 by omega, rfold_snoc _ _ _ _ Hy.out]
        · have HR : Hid (x = refR c t k) := by
            show x = refR c t k
            rw [Hx.out, Hr0.out, show j = k by omega]
            rfl
          clear Hx Hr0
          obtain ⟨z, hz0⟩ : ∃ z : Bool, z = (U.isRune x && decide (U.enc x = (c :: t).take k)) := ⟨_, rfl⟩
          have Hz := Lib.hid hz0
          clear hz0
          have HB := Lib.hid (((hby.out.keep (w' := wr) (fun _ _ h => hbw.cell (by exact h))).more hsz).take k)
          go_upto_region 17 with fail
          go_cut [77] (fun s77 wx => s77 = .bool z ∧ Below w.heap.size w wx)
          case first =>
            by_cases hr : U.isRune x = true
            · have hsl := slice_lh b o n cap at_ k k rfl (by omega) (by omega)
              have hwr : IntKind.i64.wrap ((at_ : Int) + (k : Int)) = (at_ : Int) + (k : Int) := IntWalk.i64_in _ (by omega)
              have hcA := conv_bytes (w := wr.drew) HB.out k (cap - at_) (by rw [List.length_take]; have := hdl.out; simp; omega)
              have hcB := fun (ob : Obj) => conv_bytes (w := (wr.alloc ob).drew) (HB.out.below (w' := (wr.alloc ob).drew) ((Below.refl wr.heap.size wr).alloc (Nat.le_refl _) ob).drew (Nat.le_refl _)) k (cap - at_) (by rw [List.length_take]; have := hdl.out; simp; omega)
              have hcN := conv_bytes (w := (wr.alloc (.cells (cellsOf (U.enc x)) 5)).drew) (show Byts (wr.alloc (.cells (cellsOf (U.enc x)) 5)).drew (wr.heap.size + 1) _ _ from Byts.new (w := wr) (B := wr.heap.size + 1) (U.enc_byt hr) 5 (by omega)) (U.rlen x) (U.rlen x) (U.enc_length x)
              have heq : ((strOf (U.enc x)).toList == (strOf ((c :: t).take k)).toList) = z := by
                rw [strOf_eq (U.enc_byt hr) HB.out.out, Hz.out, hr, Bool.true_and]
              have Heq := Lib.hid heq
              clear heq
              go_region_held_law (fun W => (convert 22 9 (.slice (some ⟨b, o + at_, none⟩) k (cap - at_))).run Tryd.prog W = .ok (.string (strOf ((c :: t).take k))) W) (first | exact hcA | exact hcB _) (first | (go_at_call 45; refine (Rune_is _ _ hr).mono ?_; rintro e w' ⟨rfl, rfl⟩) | (go_at_call 46; refine (Bytes_any _ _ hr).mono ?_; rintro e w' ⟨rfl, rfl⟩))
              go_wp2_with fail
              go_meet
              case rel => exact ⟨by rw [← Heq.out], (hbw.alloc hsz _).drew⟩
            · have hrf : U.isRune x = false := by simpa using hr
              clear hr
              have Hzf : Hid (z = false) := by show z = false; rw [Hz.out, hrf, Bool.false_and]
              go_quiet ((go_at_call 45; exact quiet_left (Rune_is _ _ hrf)))
              go_wp2_with fail
              go_meet
              case rel => exact ⟨by rw [Hzf.out], below_drewN hbw _⟩
          case rest =>
            obtain ⟨rfl, hb2⟩ := hcut
            cases z
            · go_wp2
              go_roundg (4 - k)
              case measure => have := hg.out; omega
              case rel =>
                refine ⟨k + 1, by show _ = _; omega, by omega, by omega, by go_num, hb2, notBelow_step Hnb.out ?_⟩
                rintro ⟨h1, h2⟩
                have := Hz.out
                rw [HR.out, h1, decide_eq_true h2] at this
                cases this
            · have hzz : U.isRune x = true ∧ U.enc x = (c :: t).take k := by
                have := Hz.out.symm
                simpa using this
              have Hd := Lib.hid (dec_hit hzz.1 hzz.2 (by have := hdl.out; omega))
              clear hzz
              go_wp2
              go_ret3
              rw [Hd.out]
              exact ⟨rfl, hb2⟩
    · have Hd : Hid (U.dec (c :: t) = none) := dec_none_of Hnb.out (by have := hdl.out; simp; omega)
      by_cases hk4 : k ≤ 4
      · have hk4' : decide ((k : Int) ≤ 4) = true := by simp; omega
        have hkn : ¬ ((k : Int) ≤ (n : Int) - (at_ : Int)) := by omega
        clear hk
        go_wp2
        go_ret3
        rw [Hd.out]
        exact ⟨rfl, hbw⟩
      · have hk4' : decide ((k : Int) ≤ 4) = false := by simp; omega
        clear hk
        go_wp2
        go_ret3
        rw [Hd.out]
        exact ⟨rfl, hbw⟩
/-- The answer of the reference's Decode over the bytes l, at any place. -/
def refAns (l : List Int) (at_ : Int) : Value :=
  if at_ < 0 ∨ (l.length : Int) ≤ at_ then .tuple #[.int .i64 0, .int .i64 0, .int .i64 4] else refT (U.dec (l.drop at_.toNat))
theorem refAns_at (l : List Int) (k : Nat) (h : k < l.length) : refAns l k = refT (U.dec (l.drop k)) := by
  unfold refAns
  rw [if_neg (by omega), Int.toNat_natCast]
set_option maxHeartbeats 400000 in
theorem refDecode_out (A : Option Addr) (n cap : Nat) (at_ : Int) (w : World) (h : at_ < 0 ∨ (n : Int) ≤ at_) :
    Calls Tryd.prog 34 #[.slice A n cap, .int .i64 at_] w fun e w' => e = .returned (.tuple #[.int .i64 0, .int .i64 0, .int .i64 4]) ∧ Below w.heap.size w w' := by
  by_cases h1 : at_ < 0
  · go_enter Tryd.func34, Tryd.ntmps34
    go_wp2
    go_ret3
    exact ⟨rfl, Below.refl _ _⟩
  · have h2 : (n : Int) ≤ at_ := by omega
    have h1' : decide (at_ < 0) = false := by simpa using h1
    go_enter Tryd.func34, Tryd.ntmps34
    go_wp2
    go_ret3
    exact ⟨rfl, Below.refl _ _⟩
theorem refDecode_any (A : Option Addr) (n cap : Nat) (l : List Int) (at_ : Int) (w : World) (hb : Byts w w.heap.size A l) (hl : l.length = n) (hcap : n ≤ cap) (hmax : n ≤ 9223372036854775807) :
    Calls Tryd.prog 34 #[.slice A n cap, .int .i64 at_] w fun e w' => e = .returned (refAns l at_) ∧ Below w.heap.size w w' := by
  by_cases ho : at_ < 0 ∨ (n : Int) ≤ at_
  · have e : refAns l at_ = .tuple #[.int .i64 0, .int .i64 0, .int .i64 4] := by unfold refAns; rw [if_pos (by omega)]
    rw [e]
    exact refDecode_out A n cap at_ w ho
  · obtain ⟨k, rfl⟩ := Int.eq_ofNat_of_zero_le (show 0 ≤ at_ by omega)
    have hk : k < l.length := by omega
    rw [refAns_at l k hk]
    obtain ⟨hbt, hb2⟩ := hb
    obtain ⟨b, o, rfl, hblt, hcell⟩ := hb2 (by omega)
    rw [List.drop_eq_getElem_cons hk]
    refine refDecode_in b o n cap l[k] (l.drop (k + 1)) k w hmax hcap (by omega) (by show _ = _; rw [List.length_drop]; omega) ?_ hblt
    rw [← List.drop_eq_getElem_cons hk]
    exact ⟨fun x hx => hbt x (List.mem_of_mem_drop hx), fun _ => ⟨b, o + k, rfl, hblt, fun i x hx => by
      rw [List.getElem?_drop] at hx
      rw [show o + k + i = o + (k + i) by omega]
      exact hcell _ _ hx⟩⟩
end Go.Proofs.YtmkpomnhmepmcaaDoor
