/-
  The document's answers of layer 9: FloatOf.
-/
import Derived.Test.YtgoemhcngmpfbaaGreatDoorMs36
import Derived.Test.YtgoemhcngmpfbaaGreatDoorMx22
import Derived.Test.YtgoemhcngmpfbaaGreatDoorMs35
import Derived.Test.YtgoemhcngmpfbaaGreatDoorMx25
namespace Go.Proofs.YtgoemhcngmpfbaaGreatDoor
open Go.RowKit Go.Sort
set_option linter.unusedSimpArgs false
set_option maxRecDepth 100000 in
set_option maxHeartbeats 16000000 in
theorem FloatOf_run (l : List UInt8) (y : Q4) (w : World) (hl : l.length ≤ 10000) (h : Hid (FloatIs l y)) :
  Calls Tryz.prog 30 #[.string (bs l)] w fun e w' => e = .returned (.tuple #[ratV y.s y.n false y.d, .int .i64 (y.k : Int)]) ∧ Below w.heap.size w w' := by
 obtain ⟨S, hS⟩ : ∃ S, w.heap.size = S := ⟨_, rfl⟩
 have I0 := (Bs.start w hS).pushRatZ hS 27
 obtain ⟨W0, hW⟩ : ∃ W, w.alloc (boxRZ 27) = W := ⟨_, rfl⟩
 rw [hW] at I0
 have I := Lib.hid I0
 clear I0
 rw [hS]
 obtain ⟨b, hb⟩ := sepB_bool false l
 have HSP := Lib.hid (fun V => spaced9_false l b V (by omega) hb)
 cases b
 ·obtain rfl : y = q8 := float_no h.out (sep_no (fun g => by have := hb.2 ((sepB_dig l).2 g); cases this))
  unfold q8
  clear h hb
  go_enter Tryz.func30, Tryz.ntmps30
  go_wp2_with fail
  refine (HSP.out _).mono ?_
  rintro e w1 ⟨rfl, hdr⟩
  replace I := Lib.hid (bs_dr I.out hdr)
  clear hdr HSP hW
  have HA := Lib.hid (I.out.rat 0 rfl)
  go_wp2_with (first | (with_reducible refine wpList_val (v := ratV false 0 false 0) rfl (build_zero rfl) ?_) | (with_reducible refine wpList_store_rat rfl (.tmp 2) (.tmp 21) rfl (b := S) (s := false) (n := 0) (t := false) (d := 0) rfl rfl HA.out ?_))
  have I9 := I.out.putRat 0 rfl false 0 false 0 rfl
  exact bodyPost_ret (v := .tuple #[ratV false 0 false 0, .int .i64 8]) (results_rat rfl rfl rfl (I9.rat 0 rfl)) rfl ⟨rfl, I9.bl⟩
 ·have hs : Sep isDig l := (sepB_dig l).1 (hb.1 rfl)
  have HWt := Lib.hid (fun V => without9_run l V (by omega))
  have HDoc := Lib.hid (doc_f h.out hs)
  have htl : (unsc l).length ≤ 10000 := Nat.le_trans (unsc_length l) hl
  clear h hb hs
  generalize unsc l = t at *
  go_enter Tryz.func30, Tryz.ntmps30
  go_wp2_with fail
  refine (HSP.out _).mono ?_
  rintro e w1 ⟨rfl, hdr⟩
  replace I := Lib.hid (bs_dr I.out hdr)
  clear hdr HSP hW
  go_wp2_with fail
  refine (HWt.out _).mono ?_
  rintro e w2 ⟨rfl, rfl⟩
  clear HWt
  generalize bs l = lz at *
  have hsz := bs_size t
  go_upto_block 0 with fail
  go_cut [5, 6, 7, 8] (fun s5 s6 s7 s8 wx => ∃ i : Nat, Stop t i ∧ s5 = .int .i64 (i : Int) ∧ s6 = .string (bs (allD (t.take i))) ∧ s7 = .int .i64 ((postP isP (t.take i)).length : Int) ∧ s8 = .bool ((t.take i).any isP) ∧ wx = w2)
  case first => as_aux_lemma =>
   go_wp2_with fail
   go_loopg [5, 6, 7, 8] (t.length + 1) (fun h s5 s6 s7 s8 wr => ∃ i : Nat, s5 = .int .i64 (i : Int) ∧ s6 = .string (bs (allD (t.take i))) ∧ s7 = .int .i64 ((postP isP (t.take i)).length : Int) ∧ s8 = .bool ((t.take i).any isP) ∧ Hid (i + h = t.length + 1) ∧ i ≤ t.length ∧ Hid (Pre (t.take i)) ∧ wr = w2)
   case atStart => exact ⟨0, rfl, rfl, rfl, rfl, by show _ = _; omega, by omega, pre_nil, rfl⟩
   case round =>
    obtain ⟨i, rfl, rfl, rfl, rfl, HI, hin, HPre, rfl⟩ := hrel
    by_cases hlt : i < t.length
    ·have hiz : (i : Int) < (t.length : Int) := by omega
     obtain ⟨c, hc⟩ : ∃ c, t[i]? = some c := ⟨t[i], List.getElem?_eq_getElem hlt⟩
     have hx := bs_get hc
     have ht1 := take_succ_of hc
     have hxl : (allD (t.take i)).length ≤ 100000 := by have := allD_len (t.take i); rw [List.length_take] at this; omega
     have hbl : (postP isP (t.take i)).length ≤ 10000 := by have := postP_len isP (t.take i); rw [List.length_take] at this; omega
     cases hd : isDig c.toNat
     ·have HDF : Hid (∀ W, Calls Tryz.prog 71 #[.int .u8 (c.toNat : Int)] W fun e w' => e = .returned (.bool false) ∧ w' = W) := fun W => by have := digit9_run c.toNat W; rwa [hd] at this
      by_cases h46 : c = 46
      ·subst h46
       have hx46 : ∀ W, (Instr.index 9 (.string (bs t)) (.int .i64 (i : Int))).run Tryz.prog W = .ok (.int .u8 46) W := hx
       have HDF2 : Hid (∀ W, Calls Tryz.prog 71 #[.int .u8 46] W fun e w' => e = .returned (.bool false) ∧ w' = W) := HDF
       clear hx HDF
       cases ha : (t.take i).any isP
       ·obtain ⟨p1, p2, p3, p4⟩ := pre_dot HPre.out ha
        rw [← ht1] at p1 p2 p3 p4
        have HR : Hid (Pre (t.take (i + 1)) ∧ allD (t.take (i + 1)) = allD (t.take i) ∧ (t.take (i + 1)).any isP = true ∧ (postP isP (t.take (i + 1))).length = (postP isP (t.take i)).length) := ⟨p1, p2, p3, p4⟩
        clear p1 p2 p3 p4 hc ht1 HPre hd ha
        generalize allD (t.take i) = D at *
        generalize (postP isP (t.take i)).length = bh at *
        go_wp2_with fail
        refine (HDF2.out _).mono ?_
        rintro e w3 ⟨rfl, rfl⟩
        go_wp2_with fail
        go_roundg (t.length - i)
        case measure => have := HI.out; omega
        case rel => exact ⟨i + 1, by go_num, by rw [HR.out.2.1], by rw [HR.out.2.2.2], by rw [HR.out.2.2.1], by show _ = _; have := HI.out; omega, by omega, HR.out.1, rfl⟩
       ·have HST : Hid (Stop t i) := ⟨hin, HPre.out, fun c' hc' => by rw [hc] at hc'; cases hc'; exact ⟨hd, fun _ => ha⟩⟩
        have HA2 := Lib.hid ha
        clear hc ht1 HPre hd ha
        obtain ⟨D, hD⟩ : ∃ D, allD (t.take i) = D := ⟨_, rfl⟩
        obtain ⟨bh, hbh⟩ : ∃ D, (postP isP (t.take i)).length = D := ⟨_, rfl⟩
        rw [hD, hbh]
        replace hD := Lib.hid hD
        replace hbh := Lib.hid hbh
        go_wp2_with fail
        refine (HDF2.out _).mono ?_
        rintro e w3 ⟨rfl, rfl⟩
        go_wp2_with fail
        go_meet
        exact ⟨i, HST.out, rfl, by rw [hD.out], by rw [hbh.out], by rw [HA2.out], rfl⟩
      ·have e46 : ((c.toNat : Int) == 46) = false := eq_byte h46
       have HST : Hid (Stop t i) := ⟨hin, HPre.out, fun c' hc' => by rw [hc] at hc'; cases hc'; exact ⟨hd, fun e => absurd e h46⟩⟩
       clear hc ht1 HPre hd h46
       obtain ⟨D, hD⟩ : ∃ D, allD (t.take i) = D := ⟨_, rfl⟩
       obtain ⟨bh, hbh⟩ : ∃ D, (postP isP (t.take i)).length = D := ⟨_, rfl⟩
       obtain ⟨dt, hdt⟩ : ∃ D, (t.take i).any isP = D := ⟨_, rfl⟩
       rw [hD, hbh, hdt]
       replace hD := Lib.hid hD
       replace hbh := Lib.hid hbh
       replace hdt := Lib.hid hdt
       generalize c.toNat = cn at *
       go_wp2_with fail
       refine (HDF.out _).mono ?_
       rintro e w3 ⟨rfl, rfl⟩
       go_wp2_with fail
       go_meet
       exact ⟨i, HST.out, rfl, by rw [hD.out], by rw [hbh.out], by rw [hdt.out], rfl⟩
     ·have HDT : Hid (∀ W, Calls Tryz.prog 71 #[.int .u8 (c.toNat : Int)] W fun e w' => e = .returned (.bool true) ∧ w' = W) := fun W => by have := digit9_run c.toNat W; rwa [hd] at this
      have h46 : c ≠ 46 := by rintro rfl; exact absurd hd (by decide)
      have e46 : ((c.toNat : Int) == 46) = false := eq_byte h46
      obtain ⟨p1, p2, p3, p4⟩ := pre_dig HPre.out hd
      rw [← ht1] at p1 p2 p3 p4
      have hcat := bs_app (allD (t.take i)) [c]
      have he := ext_one hc
      have hxs := bs_size (allD (t.take i))
      have hs1 := bs_size [c]
      have hs2 : ([c] : List UInt8).length = 1 := rfl
      rw [hs2] at hs1
      obtain ⟨ip, hip⟩ : ∃ ip, i + 1 = ip := ⟨_, rfl⟩
      have hipz : (i : Int) + 1 = (ip : Int) := by omega
      have hipl : ip ≤ t.length := by omega
      have hii : i ≤ ip := by omega
      rw [hip] at he
      have HIP := Lib.hid hip
      cases ha : (t.take i).any isP
      ·have HR : Hid (Pre (t.take (i + 1)) ∧ allD (t.take (i + 1)) = allD (t.take i) ++ [c] ∧ (t.take (i + 1)).any isP = false ∧ (postP isP (t.take (i + 1))).length = (postP isP (t.take i)).length) := ⟨p1, p2, by rw [p3, ha], by rw [p4, ha]; rfl⟩
       clear p1 p2 p3 p4 hc ht1 HPre hd ha h46 hip hs2
       generalize allD (t.take i) = D at *
       generalize (postP isP (t.take i)).length = bh at *
       generalize c.toNat = cn at *
       go_wp2_with fail
       refine (HDT.out _).mono ?_
       rintro e w3 ⟨rfl, rfl⟩
       go_wp2_with fail
       go_roundg (t.length - i)
       case measure => have := HI.out; omega
       case rel => exact ⟨i + 1, by rw [HIP.out], by rw [HR.out.2.1], by rw [HR.out.2.2.2], by rw [HR.out.2.2.1], by show _ = _; have := HI.out; omega, by omega, HR.out.1, rfl⟩
      ·have HR : Hid (Pre (t.take (i + 1)) ∧ allD (t.take (i + 1)) = allD (t.take i) ++ [c] ∧ (t.take (i + 1)).any isP = true ∧ (postP isP (t.take (i + 1))).length = (postP isP (t.take i)).length + 1) := ⟨p1, p2, by rw [p3, ha], by rw [p4, ha]; rfl⟩
       clear p1 p2 p3 p4 hc ht1 HPre hd ha h46 hip hs2
       generalize allD (t.take i) = D at *
       generalize (postP isP (t.take i)).length = bh at *
       generalize c.toNat = cn at *
       go_wp2_with fail
       refine (HDT.out _).mono ?_
       rintro e w3 ⟨rfl, rfl⟩
       go_wp2_with fail
       go_roundg (t.length - i)
       case measure => have := HI.out; omega
       case rel => exact ⟨i + 1, by rw [HIP.out], by rw [HR.out.2.1], by rw [HR.out.2.2.2]; go_num, by rw [HR.out.2.2.1], by show _ = _; have := HI.out; omega, by omega, HR.out.1, rfl⟩
    ·obtain rfl : i = t.length := by omega
     have HST : Hid (Stop t t.length) := ⟨Nat.le_refl _, HPre.out, fun c' hc' => by have := (List.getElem?_eq_some_iff.1 hc').1; omega⟩
     obtain ⟨D, hD⟩ : ∃ D, allD (t.take t.length) = D := ⟨_, rfl⟩
     obtain ⟨bh, hbh⟩ : ∃ D, (postP isP (t.take t.length)).length = D := ⟨_, rfl⟩
     obtain ⟨dt, hdt⟩ : ∃ D, (t.take t.length).any isP = D := ⟨_, rfl⟩
     rw [hD, hbh, hdt]
     replace hD := Lib.hid hD
     replace hbh := Lib.hid hbh
     replace hdt := Lib.hid hdt
     go_wp2_with fail
     go_meet
     exact ⟨t.length, HST.out, rfl, by rw [hD.out], by rw [hbh.out], by rw [hdt.out], rfl⟩
  case rest => as_aux_lemma =>
   obtain ⟨i, hst, rfl, rfl, rfl, rfl, rfl⟩ := hcut
   have HST := Lib.hid hst
   have hin := hst.1
   have HE := Lib.hid (fun hm => tail_end HDoc.out hst hm)
   have hbl : (postP isP (t.take i)).length ≤ 10000 := by have := postP_len isP (t.take i); rw [List.length_take] at this; omega
   have hdl : (allD (t.take i)).length ≤ 100000 := by have := allD_len (t.take i); rw [List.length_take] at this; omega
   have HTX := Lib.hid (fun (j k : Nat) (c : UInt8) (ng : Bool) => tail_exp (t := t) (y := y) (i := i) (j := j) (k := k) (c := c) (ng := ng) HDoc.out hst)
   have HDD := Lib.hid (allD_dig hst.2.1)
   clear hst
   obtain ⟨D, hD⟩ : ∃ D, allD (t.take i) = D := ⟨_, rfl⟩
   obtain ⟨bh, hbh⟩ : ∃ D, (postP isP (t.take i)).length = D := ⟨_, rfl⟩
   obtain ⟨dot, hdot⟩ : ∃ D, (t.take i).any isP = D := ⟨_, rfl⟩
   rw [hD, hbh, hdot] at HE HTX
   rw [hD] at HDD hdl
   rw [hbh] at hbl
   rw [hD, hbh, hdot]
   have HDm : Hid (allD (t.take i) = D ∧ (postP isP (t.take i)).length = bh ∧ (t.take i).any isP = dot) := ⟨hD, hbh, hdot⟩
   clear hD hbh hdot
   obtain ⟨mk, hmk⟩ : ∃ mk : Bool, mk = true ↔ ∃ c, t[i]? = some c ∧ isM c = true := by
    by_cases g : ∃ c, t[i]? = some c ∧ isM c = true
    ·exact ⟨true, by simp [g]⟩
    ·exact ⟨false, by simp only [Bool.false_eq_true, false_iff]; exact g⟩
   have HMK := Lib.hid hmk
   clear hmk
   go_upto_region 13 with fail
   go_cut [75] (fun s75 wx => s75 = .bool mk ∧ wx = wc)
   case first => as_aux_lemma =>
    by_cases hlt : i < t.length
    ·have hiz : (i : Int) < (t.length : Int) := by omega
     obtain ⟨c, hc⟩ : ∃ c, t[i]? = some c := ⟨t[i], List.getElem?_eq_getElem hlt⟩
     have hx := bs_get hc
     by_cases h101 : c = 101
     ·obtain rfl : mk = true := HMK.out.2 ⟨c, hc, isM_iff.2 (.inl h101)⟩
      subst h101
      have hx2 : ∀ W, (Instr.index 9 (.string (bs t)) (.int .i64 (i : Int))).run Tryz.prog W = .ok (.int .u8 101) W := hx
      clear hx hc
      go_wp2_with fail
      go_meet
      exact ⟨rfl, rfl⟩
     ·by_cases h69 : c = 69
      ·obtain rfl : mk = true := HMK.out.2 ⟨c, hc, isM_iff.2 (.inr h69)⟩
       subst h69
       have hx2 : ∀ W, (Instr.index 9 (.string (bs t)) (.int .i64 (i : Int))).run Tryz.prog W = .ok (.int .u8 69) W := hx
       clear hx hc
       go_wp2_with fail
       go_meet
       exact ⟨rfl, rfl⟩
      ·have hf : Hid (mk = false) := by
        cases e : mk
        ·rfl
        ·obtain ⟨c', g1, g2⟩ := HMK.out.1 e
         rw [hc] at g1
         cases g1
         rcases isM_iff.1 g2 with g | g
         ·exact absurd g h101
         ·exact absurd g h69
       have e1 : ((c.toNat : Int) == 101) = false := eq_byte h101
       have e2 : ((c.toNat : Int) == 69) = false := eq_byte h69
       clear hc h101 h69
       generalize c.toNat = cn at *
       go_wp2_with fail
       go_meet
       exact ⟨by rw [hf.out], rfl⟩
    ·have hf : Hid (mk = false) := by
      cases e : mk
      ·rfl
      ·obtain ⟨c', g1, g2⟩ := HMK.out.1 e
       have := (List.getElem?_eq_some_iff.1 g1).1
       omega
     have hiz : ¬ (i : Int) < (t.length : Int) := by omega
     go_wp2_with fail
     go_meet
     exact ⟨by rw [hf.out], rfl⟩
   case rest => as_aux_lemma =>
   obtain ⟨rfl, rfl⟩ := hcut
   go_upto_if 75 with fail
   go_cut [5, 9, 10, 11] (fun s5 s9 s10 s11 wx => ∃ (j : Nat) (X : List UInt8) (ng ee : Bool), s5 = .int .i64 (j : Int) ∧ s9 = .string (bs X) ∧ s10 = .bool ng ∧ s11 = .bool ee ∧ j ≤ t.length ∧ X.length ≤ 10000 ∧ Hid (∀ c ∈ X, isDig c.toNat = true) ∧ Hid (TailIs y D bh dot t.length j ng ee X) ∧ wx = wc)
   case first => as_aux_lemma =>
    cases mk
    ·have HT := Lib.hid (HE.out (fun c hc => by
      cases e : isM c
      ·rfl
      ·have := HMK.out.2 ⟨c, hc, e⟩
       cases this))
     go_wp2_with fail
     go_meet
     exact ⟨i, [], false, false, rfl, rfl, rfl, rfl, hin, by simp, fun c hc => by simp at hc, HT, rfl⟩
    ·obtain ⟨c, hc, hm⟩ := HMK.out.1 rfl
     have hlt : i < t.length := (List.getElem?_eq_some_iff.1 hc).1
     have HC := Lib.hid hc
     have HMk := Lib.hid hm
     clear hc hm HE HTX
     obtain ⟨ip, hip⟩ : ∃ ip, i + 1 = ip := ⟨_, rfl⟩
     have hipz : (i : Int) + 1 = (ip : Int) := by omega
     have hipl : ip ≤ t.length := by omega
     obtain ⟨j, hj⟩ : ∃ j, i + 1 + (sgnL (t.drop (i + 1))).length = j := ⟨_, rfl⟩
     obtain ⟨ng, hng⟩ : ∃ ng, decide (sgnL (t.drop (i + 1)) = [45]) = ng := ⟨_, rfl⟩
     obtain ⟨sb, hsb⟩ : ∃ sb, (!(sgnL (t.drop (i + 1))).isEmpty) = sb := ⟨_, rfl⟩
     have HJ : Hid (j = i + 1 + (sgnL (t.drop (i + 1))).length) := hj.symm
     have HNG : Hid (ng = decide (sgnL (t.drop (i + 1)) = [45])) := hng.symm
     rw [hip] at hj hng hsb
     replace hip := Lib.hid hip
     have hjp : Hid (sb = false → j = ip ∧ ng = false) := fun e => by
      have g : sgnL (t.drop ip) = [] := by
       rw [e] at hsb
       simpa using hsb
      rw [g] at hj hng
      exact ⟨hj.symm, hng.symm⟩
     have hjs : Hid (sb = true → ∃ c, t[ip]? = some c ∧ (c = 43 ∨ c = 45) ∧ j = ip + 1 ∧ ng = decide (c = 45)) := fun e => by
      by_cases g : ip < t.length
      ·have hg : t[ip]? = some t[ip] := List.getElem?_eq_getElem g
       have e2 := sgn_of hg
       rw [e2] at hj hng hsb
       cases e3 : isSgn t[ip].toNat
       ·rw [e3, e] at hsb
        cases hsb
       ·rw [e3] at hj hng
        refine ⟨_, hg, isSgn_iff.1 e3, hj.symm, ?_⟩
        rw [← hng, if_pos rfl]
        simp
      ·rw [sgn_end (by omega), e] at hsb
       cases hsb
     have hsb2 : Hid (∀ c, t[ip]? = some c → sb = decide (c = 43 ∨ c = 45)) := fun c hc => by
      rw [← hsb, sgn_of hc]
      cases e3 : isSgn c.toNat
      ·rw [decide_eq_false (fun g => by rw [isSgn_iff.2 g] at e3; cases e3)]
       rfl
      ·rw [decide_eq_true (isSgn_iff.1 e3)]
       rfl
     have hsb3 : Hid (t.length ≤ ip → sb = false) := fun g => by
      rw [← hsb, sgn_end g]
      rfl
     clear hj hng hsb
     go_upto_region 16 with fail
     go_cut [93] (fun s93 wx => s93 = .bool sb ∧ wx = wc)
     case first => as_aux_lemma =>
      by_cases hl2 : ip < t.length
      ·have hiz : (ip : Int) < (t.length : Int) := by omega
       obtain ⟨c2, hc2⟩ : ∃ c, t[ip]? = some c := ⟨t[ip], List.getElem?_eq_getElem hl2⟩
       have hx := bs_get hc2
       have hs2 := hsb2.out c2 hc2
       by_cases h43 : c2 = 43
       ·subst h43
        rw [decide_eq_true (.inl rfl)] at hs2
        subst hs2
        have hx2 : ∀ W, (Instr.index 9 (.string (bs t)) (.int .i64 (ip : Int))).run Tryz.prog W = .ok (.int .u8 43) W := hx
        clear hx hc2
        go_wp2_with fail
        go_meet
        exact ⟨rfl, rfl⟩
       ·by_cases h45 : c2 = 45
        ·subst h45
         rw [decide_eq_true (.inr rfl)] at hs2
         subst hs2
         have hx2 : ∀ W, (Instr.index 9 (.string (bs t)) (.int .i64 (ip : Int))).run Tryz.prog W = .ok (.int .u8 45) W := hx
         clear hx hc2
         go_wp2_with fail
         go_meet
         exact ⟨rfl, rfl⟩
        ·rw [decide_eq_false (fun g => g.elim h43 h45)] at hs2
         replace hs2 := Lib.hid hs2
         have e1 : ((c2.toNat : Int) == 43) = false := eq_byte h43
         have e2 : ((c2.toNat : Int) == 45) = false := eq_byte h45
         clear hc2 h43 h45
         generalize c2.toNat = cn at *
         go_wp2_with fail
         go_meet
         exact ⟨by rw [hs2.out], rfl⟩
      ·have hs2 := Lib.hid (hsb3.out (by omega))
       have hiz : ¬ (ip : Int) < (t.length : Int) := by omega
       go_wp2_with fail
       go_meet
       exact ⟨by rw [hs2.out], rfl⟩
     case rest => as_aux_lemma =>
     obtain ⟨rfl, rfl⟩ := hcut
     go_upto_if 93 with fail
     go_cut [5, 10] (fun s5 s10 wx => s5 = .int .i64 (j : Int) ∧ s10 = .bool ng ∧ wx = wc)
     case first => as_aux_lemma =>
      cases sb
      ·obtain ⟨e1, e2⟩ := hjp.out rfl
       replace e1 := Lib.hid e1
       replace e2 := Lib.hid e2
       go_wp2_with fail
       go_meet
       exact ⟨by rw [e1.out], by rw [e2.out], rfl⟩
      ·obtain ⟨c2, hc2, h2, e1, e2⟩ := hjs.out rfl
       have hl2 : ip < t.length := (List.getElem?_eq_some_iff.1 hc2).1
       have hx := bs_get hc2
       replace e1 := Lib.hid e1
       replace e2 := Lib.hid e2
       rcases h2 with rfl | rfl
       ·have hx2 : ∀ W, (Instr.index 9 (.string (bs t)) (.int .i64 (ip : Int))).run Tryz.prog W = .ok (.int .u8 43) W := hx
        clear hx hc2
        go_wp2_with fail
        go_meet
        exact ⟨by rw [e1.out]; go_num, by rw [e2.out]; rfl, rfl⟩
       ·have hx2 : ∀ W, (Instr.index 9 (.string (bs t)) (.int .i64 (ip : Int))).run Tryz.prog W = .ok (.int .u8 45) W := hx
        clear hx hc2
        go_wp2_with fail
        go_meet
        exact ⟨by rw [e1.out]; go_num, by rw [e2.out]; rfl, rfl⟩
     case rest => as_aux_lemma =>
     obtain ⟨rfl, rfl, rfl⟩ := hcut
     clear hjp hjs hsb2 hsb3 hip
     have hjl : j ≤ t.length := by
      have h1 := HJ.out
      have h2 := congrArg List.length (sgn_rest (t.drop (i + 1)))
      rw [List.length_append, List.length_drop] at h2
      omega
     clear hipz hipl
     go_wp2_with fail
     go_loopg [5, 9] ((t.drop j).length + 1) (fun h s5 s9 wr => ∃ k : Nat, s5 = .int .i64 ((j + k : Nat) : Int) ∧ s9 = .string (bs ((t.drop j).take k)) ∧ Hid (k + h = (t.drop j).length + 1) ∧ k ≤ (t.drop j).length ∧ Hid (∀ c ∈ (t.drop j).take k, isDig c.toNat = true) ∧ wr = wc)
     case atStart => exact ⟨0, rfl, rfl, by show _ = _; omega, by omega, fun c hc => by simp at hc, rfl⟩
     case round =>
      obtain ⟨k, rfl, rfl, HI, hin, HD, rfl⟩ := hrel
      have hjk : j + k ≤ t.length := by rw [List.length_drop] at hin; omega
      by_cases hlt : j + k < t.length
      ·have hiz : ((j + k : Nat) : Int) < (t.length : Int) := by omega
       obtain ⟨c, hc⟩ : ∃ c, t[j + k]? = some c := ⟨t[j + k], List.getElem?_eq_getElem hlt⟩
       have hcd : (t.drop j)[k]? = some c := by rw [List.getElem?_drop]; exact hc
       have hx := bs_get hc
       cases hd : isDig c.toNat
       ·have HDF : Hid (∀ W, Calls Tryz.prog 71 #[.int .u8 (c.toNat : Int)] W fun e w' => e = .returned (.bool false) ∧ w' = W) := fun W => by have := digit9_run c.toNat W; rwa [hd] at this
        have hst : ∀ c', (t.drop j)[k]? = some c' → isDig c'.toNat = false := fun c' hc' => by rw [hcd] at hc'; cases hc'; exact hd
        by_cases hk0 : k = 0
        ·subst hk0
         obtain rfl : y = q8 := tail_no HDoc.out HST.out HC.out HMk.out HJ.out hst
         have hez : (bs ((t.drop j).take 0)).toList.isEmpty = true := bs_isEmpty _
         clear hc hcd hd
         clear hst hin HD
         obtain ⟨X, hX⟩ : ∃ X, (t.drop j).take 0 = X := ⟨_, rfl⟩
         rw [hX] at hez ⊢
         clear hX
         obtain ⟨a, ha⟩ : ∃ a, j + 0 = a := ⟨_, rfl⟩
         rw [ha] at hiz hjk hx hlt ⊢
         clear ha
         generalize c.toNat = cn at *
         go_wp2_with fail
         refine (HDF.out _).mono ?_
         rintro e w3 ⟨rfl, rfl⟩
         have HA := Lib.hid (I.out.rat 0 rfl)
         go_wp2_with (first | (with_reducible refine wpList_val (v := ratV false 0 false 0) rfl (build_zero rfl) ?_) | (with_reducible refine wpList_store_rat rfl (.tmp 2) (.tmp 121) rfl (b := S) (s := false) (n := 0) (t := false) (d := 0) rfl rfl HA.out ?_))
         have I9 := I.out.putRat 0 rfl false 0 false 0 rfl
         exact bodyPost_ret (v := .tuple #[ratV false 0 false 0, .int .i64 8]) (results_rat rfl rfl rfl (I9.rat 0 rfl)) rfl ⟨rfl, I9.bl⟩
        ·have HT := Lib.hid (tail_exp HDoc.out HST.out HC.out HMk.out HNG.out HJ.out hin HD.out hst hk0)
         have HDD := HD
         have hXl : ((t.drop j).take k).length ≤ 10000 := by rw [List.length_take, List.length_drop]; omega
         have hez : (bs ((t.drop j).take k)).toList.isEmpty = false := by
          rw [bs_isEmpty]
          cases e : (t.drop j).take k with
          | nil =>
           have := congrArg List.length e
           rw [List.length_take] at this
           simp only [List.length_nil] at this
           omega
          | cons a m => rfl
         clear hc hcd hd
         clear hst hk0 HD
         obtain ⟨X, hX⟩ : ∃ X, (t.drop j).take k = X := ⟨_, rfl⟩
         rw [hX] at hez HT HDD hXl ⊢
         clear hX
         obtain ⟨a, ha⟩ : ∃ a, j + k = a := ⟨_, rfl⟩
         rw [ha] at hiz hjk HT hx hlt ⊢
         clear ha
         generalize c.toNat = cn at *
         go_wp2_with fail
         refine (HDF.out _).mono ?_
         rintro e w3 ⟨rfl, rfl⟩
         go_wp2_with fail
         go_meet
         exact ⟨a, X, ng, true, rfl, rfl, rfl, rfl, hjk, hXl, HDD, by rw [← HDm.out.1, ← HDm.out.2.1, ← HDm.out.2.2]; exact HT, rfl⟩
       ·have HDT : Hid (∀ W, Calls Tryz.prog 71 #[.int .u8 (c.toNat : Int)] W fun e w' => e = .returned (.bool true) ∧ w' = W) := fun W => by have := digit9_run c.toNat W; rwa [hd] at this
        have ht1 := take_succ_of hcd
        have hxl : ((t.drop j).take k).length ≤ 100000 := by rw [List.length_take]; omega
        have hcat := bs_app ((t.drop j).take k) [c]
        have he := ext_one hc
        have hxs := bs_size ((t.drop j).take k)
        have hs1 := bs_size [c]
        have hs2 : ([c] : List UInt8).length = 1 := rfl
        rw [hs2] at hs1
        have hkd : k + 1 ≤ (t.drop j).length := by rw [List.length_drop]; omega
        obtain ⟨a, ha⟩ : ∃ a, j + k = a := ⟨_, rfl⟩
        rw [ha] at hx he hiz hjk hlt
        obtain ⟨ap, hap⟩ : ∃ ap, a + 1 = ap := ⟨_, rfl⟩
        have hapz : (a : Int) + 1 = (ap : Int) := by omega
        have hapl : ap ≤ t.length := by omega
        have haa : a ≤ ap := by omega
        rw [hap] at he
        have HR : Hid ((t.drop j).take (k + 1) = (t.drop j).take k ++ [c] ∧ ((j + (k + 1) : Nat) = ap) ∧ ∀ c' ∈ (t.drop j).take (k + 1), isDig c'.toNat = true) := ⟨ht1, by omega, fun c' hc' => by
         rw [ht1] at hc'
         rcases List.mem_append.1 hc' with h | h
         ·exact HD.out c' h
         ·rw [List.mem_singleton.1 h]; exact hd⟩
        rw [ha]
        clear hc hcd ht1 hd hs2 ha hap HD
        generalize (t.drop j).take k = X at *
        generalize c.toNat = cn at *
        go_wp2_with fail
        refine (HDT.out _).mono ?_
        rintro e w3 ⟨rfl, rfl⟩
        go_wp2_with fail
        go_roundg ((t.drop j).length - k)
        case measure => have := HI.out; omega
        case rel => exact ⟨k + 1, by rw [HR.out.2.1], by rw [HR.out.1], by show _ = _; have := HI.out; omega, hkd, HR.out.2.2, rfl⟩
      ·have hst : ∀ c', (t.drop j)[k]? = some c' → isDig c'.toNat = false := fun c' hc' => by have := (List.getElem?_eq_some_iff.1 hc').1; rw [List.length_drop] at this; omega
       have hiz : ¬ ((j + k : Nat) : Int) < (t.length : Int) := by omega
       by_cases hk0 : k = 0
       ·subst hk0
        obtain rfl : y = q8 := tail_no HDoc.out HST.out HC.out HMk.out HJ.out hst
        have hez : (bs ((t.drop j).take 0)).toList.isEmpty = true := bs_isEmpty _
        clear hst hin HD
        obtain ⟨X, hX⟩ : ∃ X, (t.drop j).take 0 = X := ⟨_, rfl⟩
        rw [hX] at hez ⊢
        clear hX
        obtain ⟨a, ha⟩ : ∃ a, j + 0 = a := ⟨_, rfl⟩
        rw [ha] at hiz hjk ⊢
        clear ha
        have HA := Lib.hid (I.out.rat 0 rfl)
        go_wp2_with (first | (with_reducible refine wpList_val (v := ratV false 0 false 0) rfl (build_zero rfl) ?_) | (with_reducible refine wpList_store_rat rfl (.tmp 2) (.tmp 121) rfl (b := S) (s := false) (n := 0) (t := false) (d := 0) rfl rfl HA.out ?_))
        have I9 := I.out.putRat 0 rfl false 0 false 0 rfl
        exact bodyPost_ret (v := .tuple #[ratV false 0 false 0, .int .i64 8]) (results_rat rfl rfl rfl (I9.rat 0 rfl)) rfl ⟨rfl, I9.bl⟩
       ·have HT := Lib.hid (tail_exp HDoc.out HST.out HC.out HMk.out HNG.out HJ.out hin HD.out hst hk0)
        have HDD := HD
        have hXl : ((t.drop j).take k).length ≤ 10000 := by rw [List.length_take, List.length_drop]; omega
        have hez : (bs ((t.drop j).take k)).toList.isEmpty = false := by
         rw [bs_isEmpty]
         cases e : (t.drop j).take k with
         | nil =>
          have := congrArg List.length e
          rw [List.length_take] at this
          simp only [List.length_nil] at this
          omega
         | cons a m => rfl
        clear hst hk0 HD
        obtain ⟨X, hX⟩ : ∃ X, (t.drop j).take k = X := ⟨_, rfl⟩
        rw [hX] at hez HT HDD hXl ⊢
        clear hX
        obtain ⟨a, ha⟩ : ∃ a, j + k = a := ⟨_, rfl⟩
        rw [ha] at hiz hjk HT ⊢
        clear ha
        go_wp2_with fail
        go_meet
        exact ⟨a, X, ng, true, rfl, rfl, rfl, rfl, hjk, hXl, HDD, by rw [← HDm.out.1, ← HDm.out.2.1, ← HDm.out.2.2]; exact HT, rfl⟩
   case rest => as_aux_lemma =>
   obtain ⟨j, X, ng, ee, rfl, rfl, rfl, rfl, hj, hXl, HXD, HT, rfl⟩ := hcut
   have heD := bs_isEmpty D
   obtain ⟨bad, hbad⟩ : ∃ bad : Bool, bad = true ↔ (j < t.length ∨ D = [] ∨ (dot = false ∧ ee = false)) := by
    by_cases g : j < t.length ∨ D = [] ∨ (dot = false ∧ ee = false)
    ·exact ⟨true, by simp [g]⟩
    ·exact ⟨false, by simp only [Bool.false_eq_true, false_iff]; exact g⟩
   have HB := Lib.hid hbad
   clear hbad HE HTX HDoc HST HMK hin
   go_upto_region 24 with fail
   go_cut [137] (fun s137 wx => s137 = .bool bad ∧ wx = wc)
   case first => as_aux_lemma =>
    by_cases h1 : j < t.length
    ·obtain rfl : bad = true := HB.out.2 (.inl h1)
     have h1z : (j : Int) < (t.length : Int) := by omega
     clear heD
     go_wp2_with fail
     go_meet
     exact ⟨rfl, rfl⟩
    ·have h1z : ¬ (j : Int) < (t.length : Int) := by omega
     by_cases h2 : D = []
     ·obtain rfl : bad = true := HB.out.2 (.inr (.inl h2))
      have h2z : (bs D).toList.isEmpty = true := by rw [heD, h2]; rfl
      clear heD h2
      go_wp2_with fail
      go_meet
      exact ⟨rfl, rfl⟩
     ·have h2z : (bs D).toList.isEmpty = false := by
       rw [heD]
       cases D
       ·exact absurd rfl h2
       ·rfl
      clear heD
      cases dot
      ·cases ee
       ·obtain rfl : bad = true := HB.out.2 (.inr (.inr ⟨rfl, rfl⟩))
        clear h2
        go_wp2_with fail
        go_meet
        exact ⟨rfl, rfl⟩
       ·have hf : Hid (bad = false) := by
         cases e : bad
         ·rfl
         ·rcases HB.out.1 e with g | g | g
          ·exact absurd g h1
          ·exact absurd g h2
          ·cases g.2
        clear h2
        go_wp2_with fail
        go_meet
        exact ⟨by rw [hf.out], rfl⟩
      ·have hf : Hid (bad = false) := by
        cases e : bad
        ·rfl
        ·rcases HB.out.1 e with g | g | g
         ·exact absurd g h1
         ·exact absurd g h2
         ·cases g.1
       clear h2
       go_wp2_with fail
       go_meet
       exact ⟨by rw [hf.out], rfl⟩
   case rest => as_aux_lemma =>
   obtain ⟨rfl, rfl⟩ := hcut
   cases bad
   ·have hF : FinIs y D bh ng X := by
     rcases HT.out with ⟨g, _⟩ | ⟨_, _, _, g⟩
     ·exact absurd (HB.out.2 g) (by decide)
     ·exact g
    clear HB HT heD
    obtain ⟨n, hn⟩ : ∃ n, parN 10 D = n := ⟨_, rfl⟩
    obtain ⟨m, hm⟩ : ∃ m, nl n = m := ⟨_, rfl⟩
    have HFN := Lib.hid (parN_fits 10 D)
    rw [hn] at HFN
    have HPD := Parse_doc D 10 10 _ n m hdl (by omega) rfl rfl hn.symm hm
    rcases hF with ⟨hk, hy9⟩ | ⟨hk, hF⟩
    ·
     obtain ⟨kk, hkk⟩ : ∃ kk, kk = 9 := ⟨_, rfl⟩
     rw [hk, ← hkk] at HPD
     rw [← hkk] at hy9
     subst hy9
     have HP := Lib.hid HPD
     have hkz : ((kk : Int) != 0) = true := by rw [hkk]; rfl
     clear HPD hk hkk hn hm
     go_wp2_with fail
     refine (HP.out _).mono ?_
     rintro e w4 ⟨A, cA, rfl, hg, hw⟩
     replace I := Lib.hid ((I.out.below hw).pushDig hg)
     clear hw hg HP
     obtain ⟨N, hN⟩ : ∃ N, w4.heap.size = N := ⟨_, rfl⟩
     have J4 := I.out.pushNum hN false none 0 0
     obtain ⟨a1, ha⟩ : ∃ x, w4.alloc (boxN false none 0 0) = x := ⟨_, rfl⟩
     rw [ha] at J4
     have HI4 := Lib.hid (J4.num 0 rfl)
     have I5 := Lib.hid (J4.putNum 0 rfl false A m cA rfl)
     clear J4 I
     go_upto_region 27 with (with_reducible refine wpList_store_num rfl (.tmp 12) (.tmp 142) rfl (b := N) (t := false) (B := A) (M := m) (d := cA) rfl rfl HI4.out ?_)
     clear HI4 ha
     generalize st2 a1 N false A m cA = w5 at *
     have I := I5
     clear I5
     have HA := Lib.hid (I.out.rat 2 rfl)
     go_wp2_with (first | (with_reducible refine wpList_val (v := ratV false 0 false 0) rfl (build_zero rfl) ?_) | (with_reducible refine wpList_store_rat rfl (.tmp 2) (.tmp 146) rfl (b := S) (s := false) (n := 0) (t := false) (d := 0) rfl rfl HA.out ?_))
     have I9 := I.out.putRat 2 rfl false 0 false 0 rfl
     exact bodyPost_ret (v := .tuple #[ratV false 0 false 0, .int .i64 (kk : Int)]) (results_rat rfl rfl rfl (I9.rat 2 rfl)) rfl ⟨rfl, I9.bl⟩
    ·rw [hk] at HPD
     have HP : Hid (∀ V, Calls Tryz.prog 65 #[.string (bs D), .int .i64 10] V fun e w' => ∃ (A : Option Addr) (cA : Nat), e = .returned (.tuple #[.agg #[.bool false, .slice A m cA], .int .i64 0]) ∧ Good w' false A m cA n ∧ Below V.heap.size V w') := HPD
     have sX := bs_size X
     clear HPD hk
     rcases hF with ⟨hx5, rfl⟩ | ⟨hx5, hsc⟩
     ·
      have h5z : (5 : Int) < (X.length : Int) := by omega
      clear hn hm
      go_wp2_with fail
      refine (HP.out _).mono ?_
      rintro e w4 ⟨A, cA, rfl, hg, hw⟩
      replace I := Lib.hid ((I.out.below hw).pushDig hg)
      clear hw hg HP
      obtain ⟨N, hN⟩ : ∃ N, w4.heap.size = N := ⟨_, rfl⟩
      have J4 := I.out.pushNum hN false none 0 0
      obtain ⟨a1, ha⟩ : ∃ x, w4.alloc (boxN false none 0 0) = x := ⟨_, rfl⟩
      rw [ha] at J4
      have HI4 := Lib.hid (J4.num 0 rfl)
      have I5 := Lib.hid (J4.putNum 0 rfl false A m cA rfl)
      clear J4 I
      go_upto_region 27 with (with_reducible refine wpList_store_num rfl (.tmp 12) (.tmp 142) rfl (b := N) (t := false) (B := A) (M := m) (d := cA) rfl rfl HI4.out ?_)
      clear HI4 ha
      generalize st2 a1 N false A m cA = w5 at *
      have I := I5
      clear I5
      have HA := Lib.hid (I.out.rat 2 rfl)
      go_wp2_with (first | (with_reducible refine wpList_val (v := ratV false 0 false 0) rfl (build_zero rfl) ?_) | (with_reducible refine wpList_store_rat rfl (.tmp 2) (.tmp 151) rfl (b := S) (s := false) (n := 0) (t := false) (d := 0) rfl rfl HA.out ?_))
      have I9 := I.out.putRat 2 rfl false 0 false 0 rfl
      exact bodyPost_ret (v := .tuple #[ratV false 0 false 0, .int .i64 9]) (results_rat rfl rfl rfl (I9.rat 2 rfl)) rfl ⟨rfl, I9.bl⟩
     ·have h5z : ¬ (5 : Int) < (X.length : Int) := by omega
      rw [hn] at hsc
      obtain ⟨ys, yn, yd, yk⟩ := y
      have HSC0 : Hid (∀ (E : Int), (if ng = true then -(num 10 X : Int) else (num 10 X : Int)) = E → ∀ V, Calls Tryz.prog 72 #[ratV false n false 1, .int .i64 10, .int .i64 (E - (bh : Int))] V fun e w' => e = .returned (.tuple #[ratV ys yn false yd, .int .i64 (yk : Int)]) ∧ Below V.heap.size V w') := fun E hE V => by
       rw [hE] at hsc
       exact Scale_run8 false n false 1 10 (E - (bh : Int)) ⟨ys, yn, yd, yk⟩ V HFN.out (Nat.lt_of_lt_of_le (show 1 < 18446744073709551616 by decide) (Nat.le_self_pow (by decide) _)) hsc
      have HOF : Hid (∀ V, Calls Tryz.prog 15 #[.int .i64 1] V fun e w' => e = .returned (ratV false 1 false 1) ∧ Below V.heap.size V w') := fun V => Of_run8 1 false 1 V (by omega) rfl rfl
      have HLT : Hid (∀ k, num 10 (X.take k) < 10 ^ 5) := fun k => num10_lt 5 _ (List.all_eq_true.2 fun c hc => decide_eq_true (isDig_lt.1 (HXD.out c (List.mem_of_mem_take hc)))) (by rw [List.length_take]; omega)
      clear hsc hn hm
      go_wp2_with fail
      refine (HP.out _).mono ?_
      rintro e w4 ⟨A, cA, rfl, hg, hw⟩
      replace I := Lib.hid ((I.out.below hw).pushDig hg)
      clear hw hg HP
      obtain ⟨N, hN⟩ : ∃ N, w4.heap.size = N := ⟨_, rfl⟩
      have J4 := I.out.pushNum hN false none 0 0
      obtain ⟨a1, ha⟩ : ∃ x, w4.alloc (boxN false none 0 0) = x := ⟨_, rfl⟩
      rw [ha] at J4
      have HI4 := Lib.hid (J4.num 0 rfl)
      have I5 := Lib.hid (J4.putNum 0 rfl false A m cA rfl)
      clear J4 I
      go_upto_region 27 with (with_reducible refine wpList_store_num rfl (.tmp 12) (.tmp 142) rfl (b := N) (t := false) (B := A) (M := m) (d := cA) rfl rfl HI4.out ?_)
      clear HI4 ha
      generalize st2 a1 N false A m cA = w5 at *
      have I := I5
      clear I5
      go_wp2_with fail
      go_loopg [14, 15] (X.length + 1) (fun h s14 s15 wr => ∃ k : Nat, s14 = .int .i64 ((num 10 (X.take k) : Nat) : Int) ∧ s15 = .int .i64 (k : Int) ∧ Hid (k + h = X.length + 1) ∧ k ≤ X.length ∧ wr = w5)
      case atStart => exact ⟨0, rfl, rfl, by show _ = _; omega, by omega, rfl⟩
      case round =>
       obtain ⟨k, rfl, rfl, HI, hkn, rfl⟩ := hrel
       by_cases hlt : k < X.length
       ·have hiz : (k : Int) < (X.length : Int) := by omega
        obtain ⟨c, hc⟩ : ∃ c, X[k]? = some c := ⟨X[k], List.getElem?_eq_getElem hlt⟩
        have hx := bs_get hc
        obtain ⟨g1, g2, g3⟩ := num_dig hc (HXD.out c (List.mem_of_getElem? hc))
        have hv := HLT.out k
        have HV2 := Lib.hid g1
        clear hc g1
        obtain ⟨v, hvv⟩ : ∃ v, num 10 (X.take k) = v := ⟨_, rfl⟩
        rw [hvv] at hv HV2 ⊢
        clear hvv
        obtain ⟨dc, hdc⟩ : ∃ dc, c.toNat - 48 = dc := ⟨_, rfl⟩
        have hd9 : dc ≤ 9 := by omega
        have hsub : (c.toNat : Int) - 48 = (dc : Int) := by omega
        have hw8 : IntKind.u8.wrap (dc : Int) = (dc : Int) := by rw [IntKind.wrap_u8]; omega
        have hw64 : IntKind.i64.wrap (dc : Int) = (dc : Int) := by rw [IntKind.wrap_i64]; omega
        rw [hdc] at HV2
        obtain ⟨v2, hv2⟩ : ∃ v2, 10 * v + dc = v2 := ⟨_, rfl⟩
        have hv2z : (10 : Int) * (v : Int) + (dc : Int) = (v2 : Int) := by omega
        have hv3 : v < 100000 := hv
        clear hdc hv
        rw [hv2] at HV2
        clear hv2
        generalize c.toNat = cn at *
        go_wp2_with fail
        go_roundg (X.length - k)
        case measure => have := HI.out; omega
        case rel => exact ⟨k + 1, by rw [HV2.out], by go_num, by show _ = _; have := HI.out; omega, by omega, rfl⟩
       ·obtain rfl : k = X.length := by omega
        have hE := HLT.out X.length
        rw [List.take_length] at hE ⊢
        have hE2 : num 10 X < 100000 := hE
        clear hE
        cases ng
        ·have HSC := Lib.hid (HSC0.out (num 10 X : Int) rfl)
         clear HSC0
         generalize num 10 X = E0 at *
         have HTo := Lib.hid (fun V (hg : Good V false A m cA n) => To_run false A m cA n V HFN.out hg.digs hg.len hg.cap)
         have HG := Lib.hid (I.out.dig 1 rfl)
         have HNm := Lib.hid (I.out.num 0 rfl)
         go_wp2_with (with_reducible refine wpList_load_num rfl (.tmp 12) rfl rfl HNm.out ?_)
         refine (HTo.out _ HG.out).mono ?_
         rintro e w6 ⟨rfl, hw⟩
         replace I := Lib.hid (I.out.below hw)
         clear hw HTo HG HNm
         obtain ⟨M, hM⟩ : ∃ M, w6.heap.size = M := ⟨_, rfl⟩
         have J4 := I.out.pushIntZ hM 25
         obtain ⟨a6, ha⟩ : ∃ x, w6.alloc (boxIZ 25) = x := ⟨_, rfl⟩
         rw [ha] at J4
         have HI4 := Lib.hid (J4.int 0 rfl)
         have I5 := Lib.hid (J4.putInt 0 rfl false n rfl)
         clear J4 I
         go_upto_region 39 with (with_reducible refine wpList_store_int rfl (.tmp 16) (.tmp 172) rfl (b := M) (s := false) (n := n) rfl rfl HI4.out ?_)
         clear HI4 ha
         generalize st9 a6 M false n = w7 at *
         refine rg_begin (fun V => Bs w S [.int M false n] V) (by kernel_rfl) (I5.out.drew.sub (.cons_cons _ (.cons _ (.cons _ (.cons _ .slnil))))) (fun hS => ?_)
         refine rg_take 0 (intV false n) rfl (by kernel_rfl) (by kernel_rfl) (by kernel_rfl) (fun _ _ _ h => h) rfl (fun w hSw => ld_int (.tmp 16) rfl rfl (hSw.int 0 rfl).o) hS ?_
         simp only [zA, zB, zC, Act.put, zD, zE, zF]
         refine rg_take 4 (.int .i64 (E0 : Int)) rfl (by kernel_rfl) (by kernel_rfl) (by kernel_rfl) (fun _ _ _ h => h) rfl (fun w _ => ?_) hS ?_
         ·go_simp
         simp only [zA, zB, zC, Act.put, zD, zE, zF]
         refine rg_take 5 (.int .i64 (bh : Int)) rfl (by kernel_rfl) (by kernel_rfl) (by kernel_rfl) (fun _ _ _ h => h) rfl (fun w _ => ?_) hS ?_
         ·go_simp
         simp only [zA, zB, zC, Act.put, zD, zE, zF]
         refine rg_take 6 (.int .i64 ((E0 : Int) - (bh : Int))) rfl (by kernel_rfl) (by kernel_rfl) (by kernel_rfl) (fun _ _ _ h => h) rfl (fun w hSw => ?_) hS ?_
         ·have e1 : IntKind.i64.wrap ((E0 : Int) - (bh : Int)) = (E0 : Int) - (bh : Int) := by (rw [IntKind.wrap_i64]; omega)
          go_simp
         simp only [zA, zB, zC, Act.put, zD, zE, zF]
         have hI := I5.out.drew
         clear I5 hS
         generalize w7.drew = V0 at *
         refine rg_one 1 (by kernel_rfl) (rs_of rfl rfl (wp_call rfl enters_Of9 rfl (HOF.out _) (fun V1 hV => ⟨(hI.below hV).sub (.cons_cons _ (.cons _ (.cons _ (.cons _ .slnil)))), ?_⟩)))
         replace hI := hI.below hV
         clear hV
         simp only [zA, zB, zC, Act.put, zD, zE, zF]
         have hS : Bs w S [.int M false n] V1 := hI.sub (.cons_cons _ (.cons _ (.cons _ (.cons _ .slnil))))
         refine rg_take 2 (intV false 1) rfl (by kernel_rfl) (by kernel_rfl) (by kernel_rfl) (fun _ _ _ h => h) rfl (fun w hSw => fld_rat0 rfl rfl) hS ?_
         simp only [zA, zB, zC, Act.put, zD, zE, zF]
         refine rg_take 3 (ratV false n false 1) rfl (by kernel_rfl) (by kernel_rfl) (by kernel_rfl) (fun _ _ _ h => h) rfl (fun w hSw => build_rat rfl rfl rfl) hS ?_
         simp only [zA, zB, zC, Act.put, zD, zE, zF]
         clear hS
         refine rg_one 7 (by kernel_rfl) (rs_of rfl rfl (wp_call rfl enters_Scl9 rfl (HSC.out _) (fun V2 hV => ⟨(hI.below hV).sub (.cons_cons _ (.cons _ (.cons _ (.cons _ .slnil)))), ?_⟩)))
         replace hI := hI.below hV
         clear hV
         simp only [zA, zB, zC, Act.put, zD, zE, zF]
         have hS : Bs w S [.int M false n] V2 := hI.sub (.cons_cons _ (.cons _ (.cons _ (.cons _ .slnil))))
         refine rg_take 8 (ratV ys yn false yd) rfl (by kernel_rfl) (by kernel_rfl) (by kernel_rfl) (fun _ _ _ h => h) rfl (fun w _ => ?_) hS ?_
         ·go_simp
         simp only [zA, zB, zC, Act.put, zD, zE, zF]
         refine rg_take 9 (.int .i64 (yk : Int)) rfl (by kernel_rfl) (by kernel_rfl) (by kernel_rfl) (fun _ _ _ h => h) rfl (fun w _ => ?_) hS ?_
         ·go_simp
         simp only [zA, zB, zC, Act.put, zD, zE, zF]
         clear hS
         have hJ := hI.putRat 3 rfl ys yn false yd rfl
         have hS : Bs w S [.int M false n] (st18 V2 S ys yn false yd) := hJ.sub (.cons_cons _ (.cons _ (.cons _ (.cons _ .slnil))))
         refine rg_one 10 (by kernel_rfl) (rs_of rfl rfl (stores_rat (.tmp 2) (.tmp 182) rfl (s := ys) (n := yn) (t := false) (d := yd) rfl rfl (hI.rat 3 rfl) ⟨hS, ?_⟩))
         simp only [zA, zB, zC, Act.put, zD, zE, zF]
         refine rg_take 11 (.int .i64 (yk : Int)) rfl (by kernel_rfl) (by kernel_rfl) (by kernel_rfl) (fun _ _ _ h => h) rfl (fun w _ => ?_) hS ?_
         ·go_simp
         simp only [zA, zB, zC, Act.put, zD, zE, zF]
         refine wpAnyH_done (by kernel_rfl) ?_ _
         (try simp only [Exit.inBlock, Exit.then])
         go_wp2_with fail
         exact bodyPost_ret (v := .tuple #[ratV ys yn false yd, .int .i64 (yk : Int)]) (results_rat rfl rfl rfl (hJ.rat 3 rfl)) rfl ⟨rfl, hJ.bl⟩
        ·have HSC := Lib.hid (HSC0.out (-(num 10 X : Int)) rfl)
         clear HSC0
         generalize num 10 X = E0 at *
         have HTo := Lib.hid (fun V (hg : Good V false A m cA n) => To_run false A m cA n V HFN.out hg.digs hg.len hg.cap)
         have HG := Lib.hid (I.out.dig 1 rfl)
         have HNm := Lib.hid (I.out.num 0 rfl)
         go_wp2_with (with_reducible refine wpList_load_num rfl (.tmp 12) rfl rfl HNm.out ?_)
         refine (HTo.out _ HG.out).mono ?_
         rintro e w6 ⟨rfl, hw⟩
         replace I := Lib.hid (I.out.below hw)
         clear hw HTo HG HNm
         obtain ⟨M, hM⟩ : ∃ M, w6.heap.size = M := ⟨_, rfl⟩
         have J4 := I.out.pushIntZ hM 25
         obtain ⟨a6, ha⟩ : ∃ x, w6.alloc (boxIZ 25) = x := ⟨_, rfl⟩
         rw [ha] at J4
         have HI4 := Lib.hid (J4.int 0 rfl)
         have I5 := Lib.hid (J4.putInt 0 rfl false n rfl)
         clear J4 I
         go_upto_region 39 with (with_reducible refine wpList_store_int rfl (.tmp 16) (.tmp 172) rfl (b := M) (s := false) (n := n) rfl rfl HI4.out ?_)
         clear HI4 ha
         generalize st9 a6 M false n = w7 at *
         refine rg_begin (fun V => Bs w S [.int M false n] V) (by kernel_rfl) (I5.out.drew.sub (.cons_cons _ (.cons _ (.cons _ (.cons _ .slnil))))) (fun hS => ?_)
         refine rg_take 0 (intV false n) rfl (by kernel_rfl) (by kernel_rfl) (by kernel_rfl) (fun _ _ _ h => h) rfl (fun w hSw => ld_int (.tmp 16) rfl rfl (hSw.int 0 rfl).o) hS ?_
         simp only [zA, zB, zC, Act.put, zD, zE, zF]
         refine rg_take 4 (.int .i64 (-(E0 : Int))) rfl (by kernel_rfl) (by kernel_rfl) (by kernel_rfl) (fun _ _ _ h => h) rfl (fun w _ => ?_) hS ?_
         ·go_simp
         simp only [zA, zB, zC, Act.put, zD, zE, zF]
         refine rg_take 5 (.int .i64 (bh : Int)) rfl (by kernel_rfl) (by kernel_rfl) (by kernel_rfl) (fun _ _ _ h => h) rfl (fun w _ => ?_) hS ?_
         ·go_simp
         simp only [zA, zB, zC, Act.put, zD, zE, zF]
         refine rg_take 6 (.int .i64 (-(E0 : Int) - (bh : Int))) rfl (by kernel_rfl) (by kernel_rfl) (by kernel_rfl) (fun _ _ _ h => h) rfl (fun w hSw => ?_) hS ?_
         ·have e1 : IntKind.i64.wrap (-(E0 : Int) - (bh : Int)) = -(E0 : Int) - (bh : Int) := by (rw [IntKind.wrap_i64]; omega)
          go_simp
         simp only [zA, zB, zC, Act.put, zD, zE, zF]
         have hI := I5.out.drew
         clear I5 hS
         generalize w7.drew = V0 at *
         refine rg_one 1 (by kernel_rfl) (rs_of rfl rfl (wp_call rfl enters_Of9 rfl (HOF.out _) (fun V1 hV => ⟨(hI.below hV).sub (.cons_cons _ (.cons _ (.cons _ (.cons _ .slnil)))), ?_⟩)))
         replace hI := hI.below hV
         clear hV
         simp only [zA, zB, zC, Act.put, zD, zE, zF]
         have hS : Bs w S [.int M false n] V1 := hI.sub (.cons_cons _ (.cons _ (.cons _ (.cons _ .slnil))))
         refine rg_take 2 (intV false 1) rfl (by kernel_rfl) (by kernel_rfl) (by kernel_rfl) (fun _ _ _ h => h) rfl (fun w hSw => fld_rat0 rfl rfl) hS ?_
         simp only [zA, zB, zC, Act.put, zD, zE, zF]
         refine rg_take 3 (ratV false n false 1) rfl (by kernel_rfl) (by kernel_rfl) (by kernel_rfl) (fun _ _ _ h => h) rfl (fun w hSw => build_rat rfl rfl rfl) hS ?_
         simp only [zA, zB, zC, Act.put, zD, zE, zF]
         clear hS
         refine rg_one 7 (by kernel_rfl) (rs_of rfl rfl (wp_call rfl enters_Scl9 rfl (HSC.out _) (fun V2 hV => ⟨(hI.below hV).sub (.cons_cons _ (.cons _ (.cons _ (.cons _ .slnil)))), ?_⟩)))
         replace hI := hI.below hV
         clear hV
         simp only [zA, zB, zC, Act.put, zD, zE, zF]
         have hS : Bs w S [.int M false n] V2 := hI.sub (.cons_cons _ (.cons _ (.cons _ (.cons _ .slnil))))
         refine rg_take 8 (ratV ys yn false yd) rfl (by kernel_rfl) (by kernel_rfl) (by kernel_rfl) (fun _ _ _ h => h) rfl (fun w _ => ?_) hS ?_
         ·go_simp
         simp only [zA, zB, zC, Act.put, zD, zE, zF]
         refine rg_take 9 (.int .i64 (yk : Int)) rfl (by kernel_rfl) (by kernel_rfl) (by kernel_rfl) (fun _ _ _ h => h) rfl (fun w _ => ?_) hS ?_
         ·go_simp
         simp only [zA, zB, zC, Act.put, zD, zE, zF]
         clear hS
         have hJ := hI.putRat 3 rfl ys yn false yd rfl
         have hS : Bs w S [.int M false n] (st18 V2 S ys yn false yd) := hJ.sub (.cons_cons _ (.cons _ (.cons _ (.cons _ .slnil))))
         refine rg_one 10 (by kernel_rfl) (rs_of rfl rfl (stores_rat (.tmp 2) (.tmp 182) rfl (s := ys) (n := yn) (t := false) (d := yd) rfl rfl (hI.rat 3 rfl) ⟨hS, ?_⟩))
         simp only [zA, zB, zC, Act.put, zD, zE, zF]
         refine rg_take 11 (.int .i64 (yk : Int)) rfl (by kernel_rfl) (by kernel_rfl) (by kernel_rfl) (fun _ _ _ h => h) rfl (fun w _ => ?_) hS ?_
         ·go_simp
         simp only [zA, zB, zC, Act.put, zD, zE, zF]
         refine wpAnyH_done (by kernel_rfl) ?_ _
         (try simp only [Exit.inBlock, Exit.then])
         go_wp2_with fail
         exact bodyPost_ret (v := .tuple #[ratV ys yn false yd, .int .i64 (yk : Int)]) (results_rat rfl rfl rfl (hJ.rat 3 rfl)) rfl ⟨rfl, hJ.bl⟩
   ·obtain rfl : y = q8 := by
     rcases HT.out with ⟨_, g⟩ | ⟨g1, g2, g3, _⟩
     ·exact g
     ·rcases HB.out.1 rfl with g | g | g
      ·omega
      ·exact absurd g g2
      ·exact absurd g g3
    clear HB HT
    have HA := Lib.hid (I.out.rat 0 rfl)
    go_wp2_with (first | (with_reducible refine wpList_val (v := ratV false 0 false 0) rfl (build_zero rfl) ?_) | (with_reducible refine wpList_store_rat rfl (.tmp 2) (.tmp 138) rfl (b := S) (s := false) (n := 0) (t := false) (d := 0) rfl rfl HA.out ?_))
    have I9 := I.out.putRat 0 rfl false 0 false 0 rfl
    exact bodyPost_ret (v := .tuple #[ratV false 0 false 0, .int .i64 8]) (results_rat rfl rfl rfl (I9.rat 0 rfl)) rfl ⟨rfl, I9.bl⟩
end Go.Proofs.YtgoemhcngmpfbaaGreatDoor
