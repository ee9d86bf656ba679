/-
  Layer 11 (scan): the cursor's comment whole, operator, stray.
-/
import Derived.Test.YtgkhjeefcflmcaaGreatDoorMt35
namespace Go.Proofs.YtgkhjeefcflmcaaGreatDoor
open Go.RowKit Go.Sort
set_option linter.unusedSimpArgs false
set_option linter.unusedVariables false
theorem comment_run (V : World) (cb b o n cap a : Nat) (l : List UInt8) (t : Tk) (br : Bool) (h : CAt V cb (some ⟨b, o, none⟩) n cap a t br) (hb : Byts V cb (some ⟨b, o, none⟩) (bi l)) (hn : l.length = n) (hm : n ≤ 900) (hcap : n ≤ cap) (hcm : cap ≤ 9223372036854775807) (ha : a < n) (q : Option (Nat × Bool × Bool)) (hq : cmtF (l.drop a) = q) (hml : Ml V) (hMc : 3 < cb) :
  Calls Tryz.prog 45 #[.pointer (some ⟨cb, 0, none⟩)] V fun e V' => e = .returned (.bool q.isSome) ∧
   Left V cb (some ⟨b, o, none⟩) n cap a (match q with | none => t | some (k, true, ld) => piAt ⟨0, k, 0, ld⟩ a | some (k, false, _) => piAt ⟨6, k, 12, false⟩ a)
    (match q with | none => br | some (_, true, ld) => ld | some (_, false, _) => false) V' := by
 rcases cmtF_cases (l.drop a) with hx | ⟨u, hx⟩ | ⟨u, hx⟩
 ·rw [hx] at hq
  subst hq
  exact comment_no V cb b o n cap a l t br h hb hn hm hcap hcm ha hx
 ·rw [hx, cmtF_line] at hq
  subst hq
  exact comment_line V cb b o n cap a l t br h hb hn hm hcap hcm ha u hx
 ·rw [hx, cmtF_gen] at hq
  have hul : u.length + 2 = n - a := by have := congrArg List.length hx; rw [List.length_drop, hn] at this; simp only [List.length_cons] at this; omega
  have hg := genF_le u
  have key : Calls Tryz.prog 45 #[.pointer (some ⟨cb, 0, none⟩)] V fun e V' => e = .returned (.bool true) ∧ Left V cb (some ⟨b, o, none⟩) n cap a (piAt (genP (n - a - 2) (genF u)) a) (genP (n - a - 2) (genF u)).b V' := by
   by_cases hc2 : cap - a = 2
   ·exact comment_gen0 V cb b o n cap a l t br h hb hn hm hcap hcm ha u hx hml hMc hc2
   ·exact comment_gen1 V cb b o n cap a l t br h hb hn hm hcap hcm ha u hx hml hMc hc2
  cases hgg : genF u with
  | mk k ep =>
   obtain ⟨ed, ld⟩ := ep
   rw [hgg] at key hq hg
   subst hq
   cases ed with
   | true => exact key
   | false =>
    have hk : k = u.length := hg.2 rfl
    rw [show genP (n - a - 2) (k, false, ld) = ⟨6, k + 2, 12, false⟩ by rw [show n - a - 2 = k by omega]; rfl] at key
    exact key
set_option maxRecDepth 100000 in
set_option maxHeartbeats 8000000 in
theorem operator_run (V : World) (cb b o n cap a : Nat) (l : List UInt8) (t : Tk) (br : Bool) (h : CAt V cb (some ⟨b, o, none⟩) n cap a t br) (hb : Byts V cb (some ⟨b, o, none⟩) (bi l)) (hn : l.length = n) (hm : n ≤ 900) (hcap : n ≤ cap) (hcm : cap ≤ 9223372036854775807) (ha : a < n) (k s : Nat) (hop : OpIs (bi (l.drop a)) k s) (hs : s ≤ 3) (hT : TabAt V) (hTc : 1 < cb) :
  Calls Tryz.prog 51 #[.pointer (some ⟨cb, 0, none⟩)] V fun e V' => e = .returned (.bool (decide (0 < s))) ∧ Left V cb (some ⟨b, o, none⟩) n cap a (piAt ⟨k, s, 0, false⟩ a) false V' := by
 have HC := Lib.hid h
 have HLT := Lib.hid h.lt
 have HA9 : Hid (a ≤ 900 ∧ n ≤ 900) := by show _ ∧ _; omega
 have HYQ : ∀ q, Byts (V.drewN q) cb (some ⟨b, o, none⟩) (bi l) := fun q => hb.below (B' := cb) (below_drewN (Below.refl _ _) q) (Nat.le_refl _)
 have HO : Hid (∀ q, Calls Tryz.prog 79 #[.slice (some ⟨b, o, none⟩) n cap, .int .i64 (a : Int)] (V.drewN q) fun e w' => e = .returned (.tuple #[.int .i64 (k : Int), .int .i64 (s : Int)]) ∧ ∃ m, w' = (V.drewN q).drewN m) := fun q =>
  Operator_run (some ⟨b, o, none⟩) n cap a (bi l) k s (V.drewN q) cb (HYQ q) (by rw [bi_length]; exact hn) hcap (by omega) (hT.drewN q) (by
   show OpIs _ _ _
   rw [if_neg (by omega), Int.toNat_natCast, bi_drop]
   exact hop)
 obtain ⟨c0, c1, c2, c3, c4, c5, c6, c7, f2, f3, f4, f5, f6, f7⟩ := h
 clear hb hcm hn hop hT hTc HYQ
 go_enter Tryz.func51, Tryz.ntmps51
 go_wp2_with fail
 go_quiet (first | (go_at_call 79; refine Calls.quiet_of (HO.out _)) | fail)
 have HB1 : Hid (Below cb V (V.drewN nq)) := below_drewN (Below.refl _ _) nq
 have HC1 := Lib.hid (HC.out.below (below_drewN (Below.refl _ V) nq))
 clear c0 c1 c2 c3 c4 c5 c6 c7 f2 f3 f4 f5 f6 f7
 generalize V.drewN nq = W at *
 go_wp2_with fail
 refine (take_run W cb _ n cap a t br HC1.out k s 0 (by have := HA9.out; omega) (by omega)).mono ?_
 rintro e W3 ⟨rfl, hC3, hB3⟩
 have HL : Hid (Left V cb (some ⟨b, o, none⟩) n cap a (piAt ⟨k, s, 0, false⟩ a) false W3) := ⟨hC3, HB1.out.trans hB3⟩
 clear hC3 hB3
 go_wp2_with fail
 go_ret
 exact ⟨by simp, HL.out⟩
set_option maxRecDepth 100000 in
set_option maxHeartbeats 8000000 in
theorem stray_none (V : World) (cb b o n cap a : Nat) (l : List UInt8) (t : Tk) (br : Bool) (h : CAt V cb (some ⟨b, o, none⟩) n cap a t br) (hb : Byts V cb (some ⟨b, o, none⟩) (bi l)) (hn : l.length = n) (hm : n ≤ 900) (hcap : n ≤ cap) (hcm : cap ≤ 9223372036854775807) (ha : a < n) (hd : dcF (l.drop a) = none) (hH : Heads V) (hE : ErrType V) (hEc : 0 < cb) :
  Calls Tryz.prog 52 #[.pointer (some ⟨cb, 0, none⟩)] V fun e V' => e = .returned (.tuple #[]) ∧ Left V cb (some ⟨b, o, none⟩) n cap a (piAt ⟨6, 1, 3, false⟩ a) false V' := by
 have HC := Lib.hid h
 have HLT := Lib.hid h.lt
 have HA9 : Hid (a ≤ 900 ∧ n ≤ 900) := by show _ ∧ _; omega
 have HYQ : ∀ q, Byts (V.drewN q) cb (some ⟨b, o, none⟩) (bi l) := fun q => hb.below (B' := cb) (below_drewN (Below.refl _ _) q) (Nat.le_refl _)
 have HO : Hid (∀ q, Calls Tryz.prog 80 #[.slice (some ⟨b, o, none⟩) n cap, .int .i64 (a : Int)] (V.drewN q) fun e w' => e = .returned (.tuple #[.int .i32 0, .int .i64 0, .iface 35 (.int .i64 3)]) ∧ ∃ m, w' = (V.drewN q).drewN m) := fun q => by
  have := decode_any (some ⟨b, o, none⟩) n cap (bi l) a (V.drewN q) (HYQ q) (fun k h1 h2 => hH k h1 h2) (by rw [bi_length]; exact hn) hcap (by omega)
  rw [dcP_at (by omega), hd] at this
  exact this
 have HER : Hid (∀ W, Below cb V W → Calls Tryz.prog 72 #[.iface 35 (.int .i64 3)] W fun ev w' => ev = .returned (.int .i64 3) ∧ Below W.heap.size W w') := fun W hw => errno_run 3 W (hE.below hw hEc)
 obtain ⟨c0, c1, c2, c3, c4, c5, c6, c7, f2, f3, f4, f5, f6, f7⟩ := h
 clear hb hcm hn hd hH HYQ hE hEc
 go_enter Tryz.func52, Tryz.ntmps52
 go_wp2_with fail
 go_quiet (first | (go_at_call 80; refine Calls.quiet_of (HO.out _)) | fail)
 have HB1 : Hid (Below cb V (V.drewN nq)) := below_drewN (Below.refl _ _) nq
 have HC1 := Lib.hid (HC.out.below (below_drewN (Below.refl _ V) nq))
 clear c0 c1 c2 c3 c4 c5 c6 c7 f2 f3 f4 f5 f6 f7
 generalize V.drewN nq = W at *
 go_wp2_with fail
 refine (HER.out _ HB1.out).mono ?_
 rintro e W2 ⟨rfl, hw2⟩
 have HB2 := Lib.hid (HB1.out.trans (hw2.mono (by have := HC1.out.lt; omega)))
 have HC2 := Lib.hid (HC1.out.below hw2)
 clear hw2 HER
 go_wp2_with fail
 refine (take_run W2 cb _ n cap a t br HC2.out 6 1 3 (by have := HA9.out; omega) (by omega)).mono ?_
 rintro e W3 ⟨rfl, hC3, hB3⟩
 have HL : Hid (Left V cb (some ⟨b, o, none⟩) n cap a (piAt ⟨6, 1, 3, false⟩ a) false W3) := ⟨hC3, HB2.out.trans hB3⟩
 clear hC3 hB3
 go_wp2_with fail
 refine bodyPost_ret (results_none rfl _ _ _) rfl ?_
 exact ⟨rfl, HL.out⟩
set_option maxRecDepth 100000 in
set_option maxHeartbeats 8000000 in
theorem stray_some (V : World) (cb b o n cap a : Nat) (l : List UInt8) (t : Tk) (br : Bool) (h : CAt V cb (some ⟨b, o, none⟩) n cap a t br) (hb : Byts V cb (some ⟨b, o, none⟩) (bi l)) (hn : l.length = n) (hm : n ≤ 900) (hcap : n ≤ cap) (hcm : cap ≤ 9223372036854775807) (ha : a < n) (r : Int) (z : Nat) (hz : z ≤ 4) (hd : dcF (l.drop a) = some (r, z)) (hH : Heads V) :
  Calls Tryz.prog 52 #[.pointer (some ⟨cb, 0, none⟩)] V fun e V' => e = .returned (.tuple #[]) ∧ Left V cb (some ⟨b, o, none⟩) n cap a (piAt ⟨6, z, 15, false⟩ a) false V' := by
 have HC := Lib.hid h
 have HLT := Lib.hid h.lt
 have HA9 : Hid (a ≤ 900 ∧ n ≤ 900) := by show _ ∧ _; omega
 have HYQ : ∀ q, Byts (V.drewN q) cb (some ⟨b, o, none⟩) (bi l) := fun q => hb.below (B' := cb) (below_drewN (Below.refl _ _) q) (Nat.le_refl _)
 have HO : Hid (∀ q, Calls Tryz.prog 80 #[.slice (some ⟨b, o, none⟩) n cap, .int .i64 (a : Int)] (V.drewN q) fun e w' => e = .returned (.tuple #[.int .i32 r, .int .i64 (z : Int), .nilIface]) ∧ ∃ m, w' = (V.drewN q).drewN m) := fun q => by
  have := decode_any (some ⟨b, o, none⟩) n cap (bi l) a (V.drewN q) (HYQ q) (fun k h1 h2 => hH k h1 h2) (by rw [bi_length]; exact hn) hcap (by omega)
  rw [dcP_at (by omega), hd] at this
  exact this
 obtain ⟨c0, c1, c2, c3, c4, c5, c6, c7, f2, f3, f4, f5, f6, f7⟩ := h
 clear hb hcm hn hd hH HYQ
 go_enter Tryz.func52, Tryz.ntmps52
 go_wp2_with fail
 go_quiet (first | (go_at_call 80; refine Calls.quiet_of (HO.out _)) | fail)
 have HB1 : Hid (Below cb V (V.drewN nq)) := below_drewN (Below.refl _ _) nq
 have HC1 := Lib.hid (HC.out.below (below_drewN (Below.refl _ V) nq))
 clear c0 c1 c2 c3 c4 c5 c6 c7 f2 f3 f4 f5 f6 f7
 generalize V.drewN nq = W at *
 go_wp2_with fail
 refine (take_run W cb _ n cap a t br HC1.out 6 z 15 (by have := HA9.out; omega) (by omega)).mono ?_
 rintro e W3 ⟨rfl, hC3, hB3⟩
 have HL : Hid (Left V cb (some ⟨b, o, none⟩) n cap a (piAt ⟨6, z, 15, false⟩ a) false W3) := ⟨hC3, HB1.out.trans hB3⟩
 clear hC3 hB3
 go_wp2_with fail
 go_end0
 exact ⟨rfl, HL.out⟩
end Go.Proofs.YtgkhjeefcflmcaaGreatDoor
namespace Go.Proofs.YtgkhjeefcflmcaaGreatDoor
open Go.RowKit Go.Sort
set_option linter.unusedSimpArgs false
set_option linter.unusedVariables false
def nmF (r : List UInt8) : Nat :=
 match dcF r with
 | none => 0
 | some (v, _) => if letB v = true then wordF r else 0
theorem nmF_none {r : List UInt8} (h : dcF r = none) : nmF r = 0 := by unfold nmF; rw [h]
theorem nmF_some {r : List UInt8} {v : Int} {z : Nat} (h : dcF r = some (v, z)) : nmF r = if letB v = true then wordF r else 0 := by unfold nmF; rw [h]
def NmIs (r : List UInt8) (E j : Nat) : Prop := (j = 0 ∧ E = nmF r) ∨ (0 < j ∧ E = j + wordF (r.drop j))
theorem wordF_at {r : List UInt8} {j : Nat} {v : Int} {z : Nat} (h : dcF (r.drop j) = some (v, z)) (h2 : letB v = true ∨ digB v = true) : wordF (r.drop j) = wordF (r.drop (j + z)) + z := by
 cases hx : r.drop j with
 | nil =>
  rw [hx] at h
  have := dcF_size h
  simp only [List.length_nil] at this
  omega
 | cons c t =>
  rw [hx] at h
  rw [wordF_go h h2, ← hx, List.drop_drop]
theorem wordF_none' {r : List UInt8} (h : dcF r = none) : wordF r = 0 := by
 cases r with
 | nil => rfl
 | cons c t => exact wordF_none h
theorem wordF_no' {r : List UInt8} {v : Int} {z : Nat} (h : dcF r = some (v, z)) (h2 : ¬ (letB v = true ∨ digB v = true)) : wordF r = 0 := by
 cases r with
 | nil => rfl
 | cons c t => exact wordF_no h h2
theorem NmIs.go {r : List UInt8} {E j z : Nat} {v : Int} (h : NmIs r E j) (hd : dcF (r.drop j) = some (v, z)) (h2 : letB v = true ∨ (0 < j ∧ digB v = true)) : NmIs r E (j + z) := by
 have hz := (dcF_size hd).1
 rcases h with ⟨rfl, h⟩ | ⟨h0, h⟩
 ·rcases h2 with h2 | ⟨h2, _⟩
  ·rw [List.drop_zero] at hd
   rw [nmF_some hd, if_pos h2] at h
   have := wordF_at (r := r) (j := 0) (by rw [List.drop_zero]; exact hd) (.inl h2)
   rw [List.drop_zero] at this
   exact .inr ⟨by omega, by omega⟩
  ·omega
 ·have := wordF_at hd (h2.elim .inl fun h => .inr h.2)
  exact .inr ⟨by omega, by omega⟩
theorem NmIs.none {r : List UInt8} {E j : Nat} (h : NmIs r E j) (hd : dcF (r.drop j) = none) : E = j := by
 rcases h with ⟨rfl, h⟩ | ⟨h0, h⟩
 ·rw [List.drop_zero] at hd
  rw [nmF_none hd] at h
  exact h
 ·rw [wordF_none' hd] at h
  exact h
theorem NmIs.stop {r : List UInt8} {E j z : Nat} {v : Int} (h : NmIs r E j) (hd : dcF (r.drop j) = some (v, z)) (hl : letB v = false) (h2 : j = 0 ∨ digB v = false) : E = j := by
 rcases h with ⟨rfl, h⟩ | ⟨h0, h⟩
 ·rw [List.drop_zero] at hd
  rw [nmF_some hd, if_neg (by rw [hl]; simp)] at h
  exact h
 ·have hg : digB v = false := h2.resolve_left (by omega)
  rw [wordF_no' hd (by rw [hl, hg]; simp)] at h
  exact h
theorem dcF_nil : dcF [] = none := by
 cases h : dcF [] with
 | none => rfl
 | some p =>
  have := dcF_size (r := p.1) (n := p.2) h
  simp only [List.length_nil] at this
  omega
set_option maxRecDepth 100000 in
set_option maxHeartbeats 8000000 in
theorem nameSize_run (A : Option Addr) (m cap E : Nat) (r : List UInt8) (w : World) (B : Nat) (hb : Byts w B A (bi r)) (hn : r.length = m) (hm : m ≤ 900) (hcap : m ≤ cap) (hH : Heads w) (hE : nmF r = E) :
  Calls Tryz.prog 70 #[.slice A m cap] w fun e w' => e = .returned (.int .i64 (E : Int)) ∧ ∃ q, w' = w.drewN q := by
 have HD : Hid (∀ q (j : Nat), Calls Tryz.prog 80 #[.slice A m cap, .int .i64 (j : Int)] (w.drewN q) fun e w' => e = .returned (decAns (bi r) j) ∧ ∃ k, w' = (w.drewN q).drewN k) := fun q j =>
  decode_any A m cap (bi r) j (w.drewN q) (hb.keep fun _ _ _ => rfl) (fun k h1 h2 => hH k h1 h2) (by rw [bi_length]; exact hn) hcap (by omega)
 have HL := Lib.hid LetterP_run
 have HG := Lib.hid isDigit_run
 have HR := Lib.hid hn
 have HN0 : Hid (NmIs r E 0) := .inl ⟨rfl, hE.symm⟩
 clear hb hn hH hE
 go_enter Tryz.func70, Tryz.ntmps70
 go_wp2_with fail
 go_loopg [3] (m + 1) (fun h s3 wr => ∃ j : Nat, s3 = .int .i64 (j : Int) ∧ Hid (m + 1 ≤ j + h) ∧ j ≤ m ∧ Hid (NmIs r E j) ∧ ∃ q, wr = w.drewN q)
 case atStart => exact ⟨0, rfl, (by show _ ≤ _; omega), by omega, HN0, 0, rfl⟩
 case round =>
  clear HN0
  obtain ⟨j, rfl, HI, hin, HN, q, rfl⟩ := hrel
  have hj9 : j ≤ 900 := by omega
  by_cases hlt : j < m
  ·have hC := HD.out q j
   rw [dcP_at (by rw [HR.out]; exact hlt)] at hC
   cases hd : dcF (r.drop j) with
   | none =>
    rw [hd] at hC
    have HC : Hid (Calls Tryz.prog 80 #[.slice A m cap, .int .i64 (j : Int)] (w.drewN q) fun e w' => e = .returned (.tuple #[.int .i32 0, .int .i64 0, .iface 35 (.int .i64 3)]) ∧ ∃ k, w' = (w.drewN q).drewN k) := hC
    have HF : Hid (E = j) := HN.out.none hd
    clear hC hd HN HD
    go_wp2_with fail
    refine HC.out.mono ?_
    rintro e W ⟨rfl, k, rfl⟩
    have HQ : Hid (∃ q', (w.drewN q).drewN k = w.drewN q') := ⟨q + k, World.drewN_drewN _ _ _⟩
    clear HC
    generalize (w.drewN q).drewN k = W at *
    go_wp2_with fail
    go_ret
    exact ⟨by rw [HF.out]; rfl, HQ.out⟩
   | some p =>
    obtain ⟨v, z⟩ := p
    have hsz := dcF_size hd
    rw [List.length_drop, HR.out] at hsz
    have hjz : j + z ≤ m := by omega
    have hz1 : 1 ≤ z := hsz.1
    rw [hd] at hC
    have HC : Hid (Calls Tryz.prog 80 #[.slice A m cap, .int .i64 (j : Int)] (w.drewN q) fun e w' => e = .returned (.tuple #[.int .i32 v, .int .i64 (z : Int), .nilIface]) ∧ ∃ k, w' = (w.drewN q).drewN k) := hC
    cases hl : letB v with
    | true =>
     have HN2 : Hid (NmIs r E (j + z)) := HN.out.go hd (.inl hl)
     have HLr : Hid (∀ V, Calls Tryz.prog 14 #[.int .i32 v] V fun e w' => e = .returned (.bool true) ∧ w' = V) := fun V => by have := HL.out v V; rw [hl] at this; exact this
     clear hC hd HN HD hl hsz
     go_wp2_with fail
     refine HC.out.mono ?_
     rintro e W ⟨rfl, k, rfl⟩
     have HQ : Hid (∃ q', (w.drewN q).drewN k = w.drewN q') := ⟨q + k, World.drewN_drewN _ _ _⟩
     clear HC
     generalize (w.drewN q).drewN k = W at *
     go_wp2_with fail
     refine (HLr.out _).mono ?_
     rintro e W2 ⟨rfl, rfl⟩
     go_wp2_with fail
     go_roundg (m - j)
     case measure => have := HI.out; omega
     case rel => exact ⟨j + z, by go_num, by show _ ≤ _; have := HI.out; omega, hjz, HN2, HQ.out⟩
    | false =>
     have HLr : Hid (∀ V, Calls Tryz.prog 14 #[.int .i32 v] V fun e w' => e = .returned (.bool false) ∧ w' = V) := fun V => by have := HL.out v V; rw [hl] at this; exact this
     by_cases hj0 : j = 0
     ·have HF : Hid (E = j) := HN.out.stop hd hl (.inl hj0)
      subst hj0
      clear hC hd HN HD hl hsz
      go_wp2_with fail
      refine HC.out.mono ?_
      rintro e W ⟨rfl, k, rfl⟩
      have HQ : Hid (∃ q', (w.drewN q).drewN k = w.drewN q') := ⟨q + k, World.drewN_drewN _ _ _⟩
      clear HC
      generalize (w.drewN q).drewN k = W at *
      go_wp2_with fail
      refine (HLr.out _).mono ?_
      rintro e W2 ⟨rfl, rfl⟩
      go_wp2_with fail
      go_ret
      exact ⟨by rw [HF.out]; rfl, HQ.out⟩
     ·have hj1 : ((j : Int) == 0) = false := beq_eq_false_iff_ne.2 (by omega)
      cases hg : digB v with
      | true =>
       have HN2 : Hid (NmIs r E (j + z)) := HN.out.go hd (.inr ⟨by omega, hg⟩)
       have HGr : Hid (∀ V, Calls Tryz.prog 97 #[.int .i32 v] V fun e w' => e = .returned (.bool true) ∧ w' = V) := fun V => by have := HG.out v V; rw [hg] at this; exact this
       clear hC hd HN HD hl hsz hg hj0
       go_wp2_with fail
       refine HC.out.mono ?_
       rintro e W ⟨rfl, k, rfl⟩
       have HQ : Hid (∃ q', (w.drewN q).drewN k = w.drewN q') := ⟨q + k, World.drewN_drewN _ _ _⟩
       clear HC
       generalize (w.drewN q).drewN k = W at *
       go_wp2_with fail
       refine (HLr.out _).mono ?_
       rintro e W2 ⟨rfl, rfl⟩
       go_wp2_with fail
       refine (HGr.out _).mono ?_
       rintro e W2 ⟨rfl, rfl⟩
       go_wp2_with fail
       go_roundg (m - j)
       case measure => have := HI.out; omega
       case rel => exact ⟨j + z, by go_num, by show _ ≤ _; have := HI.out; omega, hjz, HN2, HQ.out⟩
      | false =>
       have HF : Hid (E = j) := HN.out.stop hd hl (.inr hg)
       have HGr : Hid (∀ V, Calls Tryz.prog 97 #[.int .i32 v] V fun e w' => e = .returned (.bool false) ∧ w' = V) := fun V => by have := HG.out v V; rw [hg] at this; exact this
       clear hC hd HN HD hl hsz hg hj0
       go_wp2_with fail
       refine HC.out.mono ?_
       rintro e W ⟨rfl, k, rfl⟩
       have HQ : Hid (∃ q', (w.drewN q).drewN k = w.drewN q') := ⟨q + k, World.drewN_drewN _ _ _⟩
       clear HC
       generalize (w.drewN q).drewN k = W at *
       go_wp2_with fail
       refine (HLr.out _).mono ?_
       rintro e W2 ⟨rfl, rfl⟩
       go_wp2_with fail
       refine (HGr.out _).mono ?_
       rintro e W2 ⟨rfl, rfl⟩
       go_wp2_with fail
       go_ret
       exact ⟨by rw [HF.out]; rfl, HQ.out⟩
  ·have hC := HD.out q j
   have HF : Hid (E = j) := HN.out.none (by rw [List.drop_of_length_le (by rw [HR.out]; omega)]; exact dcF_nil)
   have hda : decAns (bi r) (j : Int) = .tuple #[.int .i32 0, .int .i64 0, .iface 35 (.int .i64 4)] := by
    unfold decAns
    rw [if_pos (.inr (by rw [bi_length, HR.out]; omega))]
    rfl
   rw [hda] at hC
   have HC := Lib.hid hC
   clear hC HN HD hda
   go_wp2_with fail
   refine HC.out.mono ?_
   rintro e W ⟨rfl, k, rfl⟩
   have HQ : Hid (∃ q', (w.drewN q).drewN k = w.drewN q') := ⟨q + k, World.drewN_drewN _ _ _⟩
   clear HC
   generalize (w.drewN q).drewN k = W at *
   go_wp2_with fail
   go_ret
   exact ⟨by rw [HF.out]; rfl, HQ.out⟩
end Go.Proofs.YtgkhjeefcflmcaaGreatDoor
namespace Go.Proofs.YtgkhjeefcflmcaaGreatDoor
open Go.RowKit Go.Sort
set_option linter.unusedSimpArgs false
set_option linter.unusedVariables false
set_option maxRecDepth 100000 in
set_option maxHeartbeats 8000000 in
theorem name_no (V : World) (cb b o n cap a : Nat) (l : List UInt8) (t : Tk) (br : Bool) (h : CAt V cb (some ⟨b, o, none⟩) n cap a t br) (hb : Byts V cb (some ⟨b, o, none⟩) (bi l)) (hn : l.length = n) (hm : n ≤ 900) (hcap : n ≤ cap) (hcm : cap ≤ 9223372036854775807) (ha : a < n) (hE : nmF (l.drop a) = 0) (hH : Heads V) :
  Calls Tryz.prog 47 #[.pointer (some ⟨cb, 0, none⟩)] V fun e V' => e = .returned (.bool false) ∧ Left V cb (some ⟨b, o, none⟩) n cap a t br V' := by
 have HC := Lib.hid h
 have HY := Lib.hid hb
 have HLT := Lib.hid h.lt
 have hca : cap ≠ a := by omega
 have hac : a ≤ cap := by omega
 have han : (a : Int) ≤ (n : Int) := by omega
 obtain ⟨m, hma⟩ : ∃ m, n - a = m := ⟨_, rfl⟩
 obtain ⟨cc, hcc⟩ : ∃ cc, cap - a = cc := ⟨_, rfl⟩
 obtain ⟨r, hr⟩ : ∃ r, l.drop a = r := ⟨_, rfl⟩
 have hdl : r.length = m := by rw [← hr, List.length_drop, hn, hma]
 have hmc : m ≤ cc := by omega
 have hm9 : m ≤ 900 := by omega
 have HA9 : Hid (a ≤ 900) := by show _ ≤ _; omega
 have HR : Hid (∀ W, Below cb V W → Byts W cb (some ⟨b, o + a, none⟩) (bi r)) := fun W hw => by
  rw [← hr]
  exact (HY.out.below (B' := cb) hw (Nat.le_refl _)).dropB (by omega) a
 have HYQ : ∀ q, Byts (V.drewN q) cb (some ⟨b, o + a, none⟩) (bi r) := fun q => HR.out _ (below_drewN (Below.refl _ _) q)
 have HO : Hid (∀ q, Calls Tryz.prog 70 #[.slice (some ⟨b, o + a, none⟩) m cc] (V.drewN q) fun e w' => e = .returned (.int .i64 0) ∧ ∃ k, w' = (V.drewN q).drewN k) := fun q =>
  nameSize_run (some ⟨b, o + a, none⟩) m cc _ r (V.drewN q) cb (HYQ q) hdl hm9 hmc (fun k h1 h2 => hH k h1 h2) (by rw [← hr]; exact hE)
 obtain ⟨c0, c1, c2, c3, c4, c5, c6, c7, f2, f3, f4, f5, f6, f7⟩ := h
 clear hb hcm hn hE hH HYQ HR hr hdl
 go_enter Tryz.func47, Tryz.ntmps47
 go_wp2_with fail
 go_quiet (first | (go_at_call 70; refine Calls.quiet_of (HO.out _)) | fail)
 have HB1 : Hid (Below cb V (V.drewN nq)) := below_drewN (Below.refl _ _) nq
 have HC1 := Lib.hid (HC.out.below (below_drewN (Below.refl _ V) nq))
 clear c0 c1 c2 c3 c4 c5 c6 c7 f2 f3 f4 f5 f6 f7
 generalize V.drewN nq = W at *
 go_wp2_with fail
 go_ret
 exact ⟨rfl, HC1.out, HB1.out⟩
set_option maxRecDepth 100000 in
set_option maxHeartbeats 8000000 in
theorem name_word (V : World) (cb b o n cap a : Nat) (l : List UInt8) (t : Tk) (br : Bool) (h : CAt V cb (some ⟨b, o, none⟩) n cap a t br) (hb : Byts V cb (some ⟨b, o, none⟩) (bi l)) (hn : l.length = n) (hm : n ≤ 900) (hcap : n ≤ cap) (hcm : cap ≤ 9223372036854775807) (ha : a < n) (E : Nat) (x : ByteArray) (hE : nmF (l.drop a) = E) (hE0 : 1 ≤ E) (hEn : E ≤ n - a) (hx : bs ((l.drop a).take E) = x) (hkw : KwIs x 0) (hH : Heads V) (hT : TabAt V) (hTc : 1 < cb) :
  Calls Tryz.prog 47 #[.pointer (some ⟨cb, 0, none⟩)] V fun e V' => e = .returned (.bool true) ∧ Left V cb (some ⟨b, o, none⟩) n cap a (piAt ⟨1, E, 0, false⟩ a) false V' := by
 have HC := Lib.hid h
 have HY := Lib.hid hb
 have HLT := Lib.hid h.lt
 have hca : cap ≠ a := by omega
 have hac : a ≤ cap := by omega
 have han : (a : Int) ≤ (n : Int) := by omega
 obtain ⟨m, hma⟩ : ∃ m, n - a = m := ⟨_, rfl⟩
 obtain ⟨cc, hcc⟩ : ∃ cc, cap - a = cc := ⟨_, rfl⟩
 obtain ⟨r, hr⟩ : ∃ r, l.drop a = r := ⟨_, rfl⟩
 have hdl : r.length = m := by rw [← hr, List.length_drop, hn, hma]
 have hmc : m ≤ cc := by omega
 have hm9 : m ≤ 900 := by omega
 have HA9 : Hid (a ≤ 900) := by show _ ≤ _; omega
 have HR : Hid (∀ W, Below cb V W → Byts W cb (some ⟨b, o + a, none⟩) (bi r)) := fun W hw => by
  rw [← hr]
  exact (HY.out.below (B' := cb) hw (Nat.le_refl _)).dropB (by omega) a
 have HYQ : ∀ q, Byts (V.drewN q) cb (some ⟨b, o + a, none⟩) (bi r) := fun q => HR.out _ (below_drewN (Below.refl _ _) q)
 have HO : Hid (∀ q, Calls Tryz.prog 70 #[.slice (some ⟨b, o + a, none⟩) m cc] (V.drewN q) fun e w' => e = .returned (.int .i64 (E : Int)) ∧ ∃ k, w' = (V.drewN q).drewN k) := fun q =>
  nameSize_run (some ⟨b, o + a, none⟩) m cc _ r (V.drewN q) cb (HYQ q) hdl hm9 hmc (fun k h1 h2 => hH k h1 h2) (by rw [← hr]; exact hE)
 have hE1 : ((E : Int) == 0) = false := beq_eq_false_iff_ne.2 (by omega)
 obtain ⟨s, hs⟩ : ∃ s, a + E = s := ⟨_, rfl⟩
 have hsum : (a : Int) + (E : Int) = (s : Int) := by omega
 have hsz : s - a = E := by omega
 have has : a ≤ s := by omega
 have hsn : s ≤ n := by omega
 have hsc : s ≤ cap := by omega
 have hs9 : s ≤ 900 := by omega
 have HK : Hid (∀ W, Below cb V W → ∀ q, Calls Tryz.prog 71 #[.string x] (W.drewN q) fun e w' => e = .returned (.int .i64 0) ∧ w' = W.drewN q) := fun W hw q =>
  (Keyword_run x _ (W.drewN q) (fun k hk => (hw.cell (p := ⟨1, k, none⟩) hTc).trans (hT k hk)) hkw).mono fun e w' ⟨h1, h2⟩ => ⟨h1, h2.symm⟩
 have HCV : Hid (∀ W, Below cb V W → ∀ q, (convert 22 9 (.slice (some ⟨b, o + a, none⟩) E cc)).run Tryz.prog (W.drewN q) = .ok (.string x) (W.drewN q)) := fun W hw q => by
  have h1 := ((HR.out W hw).keep (w' := W.drewN q) fun _ _ _ => rfl).take E
  rw [bi_take] at h1
  have h2 := conv_bytes h1 E cc (by rw [bi_length, List.length_take, hdl]; omega)
  rw [bi_str, ← hr, hx] at h2
  exact h2
 have HE9 : Hid (E ≤ 900) := by show _ ≤ _; omega
 obtain ⟨c0, c1, c2, c3, c4, c5, c6, c7, f2, f3, f4, f5, f6, f7⟩ := h
 clear hb hcm hn hE hH HYQ HR hr hdl hs hx hkw hT hTc
 go_enter Tryz.func47, Tryz.ntmps47
 go_wp2_with fail
 go_quiet (first | (go_at_call 70; refine Calls.quiet_of (HO.out _)) | fail)
 have HB1 : Hid (Below cb V (V.drewN nq)) := below_drewN (Below.refl _ _) nq
 have HC1 := Lib.hid (HC.out.below (below_drewN (Below.refl _ V) nq))
 clear c0 c1 c2 c3 c4 c5 c6 c7 f2 f3 f4 f5 f6 f7
 generalize V.drewN nq = W at *
 have hcv := HCV.out _ HB1.out
 have HK2 := Lib.hid (HK.out _ HB1.out)
 obtain ⟨c0, c1, c2, c3, c4, c5, c6, c7, f2, f3, f4, f5, f6, f7⟩ := HC1.out
 go_wp2_with fail
 go_quiet (first | (go_at_call 71; refine Calls.quiet_of_same (HK2.out _)) | fail)
 have HB2 := Lib.hid (below_drewN HB1.out nq)
 have HC2 := Lib.hid (HC1.out.below (below_drewN (Below.refl _ W) nq))
 clear c0 c1 c2 c3 c4 c5 c6 c7 f2 f3 f4 f5 f6 f7 hcv HK2 HC1 HB1
 generalize W.drewN nq = W2 at *
 go_wp2_with fail
 refine (take_run W2 cb _ n cap a t br HC2.out 1 E 0 (by have := HA9.out; omega) (by have := HE9.out; omega)).mono ?_
 rintro e W3 ⟨rfl, hC3, hB3⟩
 have HL : Hid (Left V cb (some ⟨b, o, none⟩) n cap a (piAt ⟨1, E, 0, false⟩ a) false W3) := ⟨hC3, HB2.out.trans hB3⟩
 clear hC3 hB3
 go_wp2_with fail
 go_ret
 exact ⟨rfl, HL.out⟩
set_option maxRecDepth 100000 in
set_option maxHeartbeats 8000000 in
theorem name_kw (V : World) (cb b o n cap a : Nat) (l : List UInt8) (t : Tk) (br : Bool) (h : CAt V cb (some ⟨b, o, none⟩) n cap a t br) (hb : Byts V cb (some ⟨b, o, none⟩) (bi l)) (hn : l.length = n) (hm : n ≤ 900) (hcap : n ≤ cap) (hcm : cap ≤ 9223372036854775807) (ha : a < n) (E : Nat) (x : ByteArray) (hE : nmF (l.drop a) = E) (hE0 : 1 ≤ E) (hEn : E ≤ n - a) (hx : bs ((l.drop a).take E) = x) (k : Nat) (hkw : KwIs x k) (hk0 : 10 ≤ k ∧ k < 35) (hH : Heads V) (hT : TabAt V) (hTc : 1 < cb) :
  Calls Tryz.prog 47 #[.pointer (some ⟨cb, 0, none⟩)] V fun e V' => e = .returned (.bool true) ∧ Left V cb (some ⟨b, o, none⟩) n cap a (piAt ⟨k, E, 0, false⟩ a) false V' := by
 have HC := Lib.hid h
 have HY := Lib.hid hb
 have HLT := Lib.hid h.lt
 have hca : cap ≠ a := by omega
 have hac : a ≤ cap := by omega
 have han : (a : Int) ≤ (n : Int) := by omega
 obtain ⟨m, hma⟩ : ∃ m, n - a = m := ⟨_, rfl⟩
 obtain ⟨cc, hcc⟩ : ∃ cc, cap - a = cc := ⟨_, rfl⟩
 obtain ⟨r, hr⟩ : ∃ r, l.drop a = r := ⟨_, rfl⟩
 have hdl : r.length = m := by rw [← hr, List.length_drop, hn, hma]
 have hmc : m ≤ cc := by omega
 have hm9 : m ≤ 900 := by omega
 have HA9 : Hid (a ≤ 900) := by show _ ≤ _; omega
 have HR : Hid (∀ W, Below cb V W → Byts W cb (some ⟨b, o + a, none⟩) (bi r)) := fun W hw => by
  rw [← hr]
  exact (HY.out.below (B' := cb) hw (Nat.le_refl _)).dropB (by omega) a
 have HYQ : ∀ q, Byts (V.drewN q) cb (some ⟨b, o + a, none⟩) (bi r) := fun q => HR.out _ (below_drewN (Below.refl _ _) q)
 have HO : Hid (∀ q, Calls Tryz.prog 70 #[.slice (some ⟨b, o + a, none⟩) m cc] (V.drewN q) fun e w' => e = .returned (.int .i64 (E : Int)) ∧ ∃ k, w' = (V.drewN q).drewN k) := fun q =>
  nameSize_run (some ⟨b, o + a, none⟩) m cc _ r (V.drewN q) cb (HYQ q) hdl hm9 hmc (fun k h1 h2 => hH k h1 h2) (by rw [← hr]; exact hE)
 have hE1 : ((E : Int) == 0) = false := beq_eq_false_iff_ne.2 (by omega)
 obtain ⟨s, hs⟩ : ∃ s, a + E = s := ⟨_, rfl⟩
 have hsum : (a : Int) + (E : Int) = (s : Int) := by omega
 have hsz : s - a = E := by omega
 have has : a ≤ s := by omega
 have hsn : s ≤ n := by omega
 have hsc : s ≤ cap := by omega
 have hs9 : s ≤ 900 := by omega
 have HK : Hid (∀ W, Below cb V W → ∀ q, Calls Tryz.prog 71 #[.string x] (W.drewN q) fun e w' => e = .returned (.int .i64 (k : Int)) ∧ w' = W.drewN q) := fun W hw q =>
  (Keyword_run x _ (W.drewN q) (fun k hk => (hw.cell (p := ⟨1, k, none⟩) hTc).trans (hT k hk)) hkw).mono fun e w' ⟨h1, h2⟩ => ⟨h1, h2.symm⟩
 have HCV : Hid (∀ W, Below cb V W → ∀ q, (convert 22 9 (.slice (some ⟨b, o + a, none⟩) E cc)).run Tryz.prog (W.drewN q) = .ok (.string x) (W.drewN q)) := fun W hw q => by
  have h1 := ((HR.out W hw).keep (w' := W.drewN q) fun _ _ _ => rfl).take E
  rw [bi_take] at h1
  have h2 := conv_bytes h1 E cc (by rw [bi_length, List.length_take, hdl]; omega)
  rw [bi_str, ← hr, hx] at h2
  exact h2
 have HE9 : Hid (E ≤ 900) := by show _ ≤ _; omega
 have hk1 : ((k : Int) == 0) = false := beq_eq_false_iff_ne.2 (by omega)
 obtain ⟨c0, c1, c2, c3, c4, c5, c6, c7, f2, f3, f4, f5, f6, f7⟩ := h
 clear hb hcm hn hE hH HYQ HR hr hdl hs hx hkw hT hTc hk0
 go_enter Tryz.func47, Tryz.ntmps47
 go_wp2_with fail
 go_quiet (first | (go_at_call 70; refine Calls.quiet_of (HO.out _)) | fail)
 have HB1 : Hid (Below cb V (V.drewN nq)) := below_drewN (Below.refl _ _) nq
 have HC1 := Lib.hid (HC.out.below (below_drewN (Below.refl _ V) nq))
 clear c0 c1 c2 c3 c4 c5 c6 c7 f2 f3 f4 f5 f6 f7
 generalize V.drewN nq = W at *
 have hcv := HCV.out _ HB1.out
 have HK2 := Lib.hid (HK.out _ HB1.out)
 obtain ⟨c0, c1, c2, c3, c4, c5, c6, c7, f2, f3, f4, f5, f6, f7⟩ := HC1.out
 go_wp2_with fail
 go_quiet (first | (go_at_call 71; refine Calls.quiet_of_same (HK2.out _)) | fail)
 have HB2 := Lib.hid (below_drewN HB1.out nq)
 have HC2 := Lib.hid (HC1.out.below (below_drewN (Below.refl _ W) nq))
 clear c0 c1 c2 c3 c4 c5 c6 c7 f2 f3 f4 f5 f6 f7 hcv HK2 HC1 HB1
 generalize W.drewN nq = W2 at *
 go_wp2_with fail
 refine (take_run W2 cb _ n cap a t br HC2.out k E 0 (by have := HA9.out; omega) (by have := HE9.out; omega)).mono ?_
 rintro e W3 ⟨rfl, hC3, hB3⟩
 have HL : Hid (Left V cb (some ⟨b, o, none⟩) n cap a (piAt ⟨k, E, 0, false⟩ a) false W3) := ⟨hC3, HB2.out.trans hB3⟩
 clear hC3 hB3
 go_wp2_with fail
 go_ret
 exact ⟨rfl, HL.out⟩
end Go.Proofs.YtgkhjeefcflmcaaGreatDoor
