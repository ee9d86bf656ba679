/-
  The document's Parse.
-/
import Derived.Test.YtgoemhcngmpfbaaGreatDoorMx14
import Derived.Test.YtgoemhcngmpfbaaGreatDoorMx20
import Derived.Test.YtgoemhcngmpfbaaGreatDoorMx22
import Derived.Test.YtgoemhcngmpfbaaGreatDoorMx18
namespace Go.Proofs.YtgoemhcngmpfbaaGreatDoor
open Go.RowKit Go.Sort
set_option linter.unusedSimpArgs false
theorem nbEnters_small7 : EntersP Tryz.prog 49 := entersP_of Tryz.func49 (by kernel_rfl) rfl
theorem nbEnters_mul7 : EntersP Tryz.prog 85 := entersP_of Tryz.func85 (by kernel_rfl) rfl
theorem nbEnters_add7 : EntersP Tryz.prog 104 := entersP_of Tryz.func104 (by kernel_rfl) rfl
theorem nbEnters_digit7 : EntersP Tryz.prog 103 := entersP_of Tryz.func103 (by kernel_rfl) rfl
theorem nbMul_out {A : Option Addr} {L ca n : Nat} {B : Option Addr} {M cb m : Nat} {r R : Nat} (hs : L + M ≤ 10000) (hr : Hid (n * m = r)) (hR : Hid (nl r = R)) (w : World) (ha : Good w false A L ca n) (hb : Good w false B M cb m) :
  Calls Tryz.prog 85 #[.agg #[.bool false, .slice A L ca], .agg #[.bool false, .slice B M cb]] w (NumOut false R r w) :=
 (Mul_run7 false A L ca n false B M cb m false r R w ha hb hs (by simp [sgn, Hid]) hr hR).mono fun e w' ⟨C, cc, he, hg, hw⟩ => he ▸ NumOut.mk hg hw
theorem nbAdd_out {A : Option Addr} {L ca n : Nat} {B : Option Addr} {M cb m : Nat} {r R : Nat} (hs : L + M ≤ 10000) (hr : Hid (n + m = r)) (hR : Hid (nl r = R)) (w : World) (ha : Good w false A L ca n) (hb : Good w false B M cb m) :
  Calls Tryz.prog 104 #[.agg #[.bool false, .slice A L ca], .agg #[.bool false, .slice B M cb]] w (NumOut false R r w) :=
 (Add_run7 false A L ca n false B M cb m false r R w ha hb hs (by simp [sgn, addS, Hid]) (by simp [addN]; exact hr) hR).mono fun e w' ⟨C, cc, he, hg, hw⟩ => he ▸ NumOut.mk hg hw
theorem build_num {a : Act} {w : World} {op : Oper} (ho : op.op = .build 57 #[]) : (execOp a.eval op).run Tryz.prog w = .ok (.value (.agg #[.bool false, .slice none 0 0])) w := by
 unfold execOp
 simp only [ho]
 go_simp
theorem results_numI {fn : Func} {p u : Tmp} (hf : fn.results = #[.cell p 57, .tmp u]) {tmps : Array Value} {W : World} {b L cap : Nat} {s : Bool} {A : Option Addr} {v : Value} (hp : tmps.getD p undef = .pointer (some ⟨b, 0, none⟩)) (hu : tmps.getD u undef = v) (h : NumAt W b s A L cap) :
  (results fn tmps).run Tryz.prog W = .ok (.tuple #[.agg #[.bool s, .slice A L cap], v]) W := by
 rw [results_cell_tmp hf, hp, hu]
 simp [asAddr, load_num h]
theorem idx_run {op : Oper} {a : Act} {w : World} {x y : Operand} {s : ByteArray} {i : Int} {v : Value} (ho : op.op = .index 9 x y) (hx : a.eval x = .string s) (hy : a.eval y = .int .i64 i)
  (h : ∀ W, (Instr.index 9 (.string s) (.int .i64 i)).run Tryz.prog W = .ok v W) : (execOp a.eval op).run Tryz.prog w = .ok (.value v) w := by
 unfold execOp
 simp only [ho, hx, hy, h, Sem.run_bind, Sem.run_pure, Result.andThen_ok]
theorem nil_good (w : World) : Good w false none 0 0 0 := ⟨DgAt.nil, nl_zero, ⟨Nat.le_refl _, by decide⟩, by simp [sgn]⟩
def ParOut (k m n : Nat) (w : World) (e : Ending) (w' : World) : Prop := ∃ q : Option Addr × Nat, e = .returned (.tuple #[.agg #[.bool false, .slice q.1 m q.2], .int .i64 (k : Int)]) ∧ (Good w' false q.1 m q.2 n ∧ Below w.heap.size w w')
theorem fits_nl {n : Nat} : Fits n ↔ nl n ≤ 32 := by
 rw [fits_dg]
 constructor
 ·exact fun h => nl_le h
 ·intro h
  exact Nat.lt_of_lt_of_le (lt_nl n) (Nat.pow_le_pow_right (by decide) h)
set_option maxRecDepth 100000 in
set_option maxHeartbeats 8000000 in
theorem Parse_run7Z (s : ByteArray) (B : Nat) (z : Int) (N K M : Nat) (w : World) (hB : z = 2 ∨ z = 8 ∨ z = 10 ∨ z = 16) (hzB : Hid ((B : Int) = z)) (hs : s.size ≤ 100000) (hN : Hid (parN B s.data.toList = N)) (hK : Hid (parK B s.data.toList = K)) (hM : Hid (nl N = M)) :
  Calls Tryz.prog 65 #[.string s, .int .i64 z] w (ParOut K M N w) := by
 obtain ⟨S, hS⟩ : ∃ S, w.heap.size = S := ⟨_, rfl⟩
 have I0 := (Bs.start w hS).pushNum hS false none 0 0
 obtain ⟨W, hW⟩ : ∃ W, w.alloc boxNZ = W := ⟨_, rfl⟩
 rw [show w.alloc (boxN false none 0 0) = W from hW] at I0
 have hB2 : 2 ≤ B ∧ B ≤ 16 := by have := hzB.out; omega
 have hzB2 : 2 ≤ z ∧ z ≤ 16 := by omega
 have I := Lib.hid I0
 clear I0
 have HE : Hid (∀ w', Bs w S [.num S false none 0 0] w' → N = 0 → ParOut K M N w (.returned (.tuple #[.agg #[.bool false, .slice none 0 0], .int .i64 (K : Int)])) w') := fun w' h e => by
  subst e
  have := hM.out
  rw [nl_zero] at this
  subst this
  exact ⟨(none, 0), rfl, nil_good w', by rw [hS]; exact h.bl⟩
 by_cases hne : s.size = 0
 ·obtain rfl := empty_of hne
  have HPK : Hid (parK B [] = 12) := parK_nil B
  have HPN := Lib.hid (parN_no (B := B) (l := []) (by rw [HPK.out]; decide))
  obtain rfl : K = 12 := hK.out.symm.trans HPK.out
  obtain rfl : N = 0 := hN.out.symm.trans HPN.out
  clear hB2 hzB2 hne
  rcases hB with rfl | rfl | rfl | rfl <;>
  ·go_enter Tryz.func65, Tryz.ntmps65
   go_wp2_with (first | (with_reducible refine wpList_val (v := .agg #[.bool false, .slice none 0 0]) rfl (build_num rfl) ?_) | (with_reducible refine wpList_store_num rfl (.tmp 4) (.tmp 27) rfl (b := S) (t := false) (B := none) (M := 0) (d := 0) rfl rfl (I.out.num 0 rfl) ?_))
   have I2 := I.out.putNum 0 rfl false none 0 0 rfl
   exact bodyPost_ret (v := .tuple #[.agg #[.bool false, .slice none 0 0], .int .i64 12]) (results_numI rfl rfl rfl (I2.num 0 rfl)) rfl (HE.out _ I2 (by first | rfl | trivial))
 ·have hsz : ((s.size : Int) == 0) = false := beq_eq_false_iff_ne.2 (by omega)
  have HNE := Lib.hid (not_nil_of hne)
  clear hne
  rcases hB with rfl | rfl | rfl | rfl
  ·go_enter Tryz.func65, Tryz.ntmps65
   go_wp2_with fail
   clear hW
   go_loopg [6] (s.size + 1) (fun h s6 wr => ∃ i : Nat, s6 = .int .i64 (i : Int) ∧ Hid (i + h = s.size + 1) ∧ i ≤ s.size ∧ Hid (∀ k c, k < i → s.data.toList[k]? = some c → dvN c.toNat < B) ∧ wr = W)
   case atStart => exact ⟨0, rfl, by show _ = _; omega, by omega, fun k c hk _ => absurd hk (by omega), rfl⟩
   case round =>
    obtain ⟨i, rfl, HJ, hin, HD, rfl⟩ := hrel
    by_cases hlt : i < s.size
    ·have hiz : (i : Int) < (s.size : Int) := by omega
     obtain ⟨c, hc⟩ := get_of_lt hlt
     have hx := index_at hc
     have HDG := Lib.hid (fun V => Digit_run7 c.toNat V)
     by_cases hdb : dvN c.toNat < B
     ·have HD2 : Hid (∀ k c, k < i + 1 → s.data.toList[k]? = some c → dvN c.toNat < B) := fun k x hk h9 => by
       by_cases e : k = i
       ·rw [e, hc] at h9; cases h9; exact hdb
       ·exact HD.out k x (by omega) h9
      have hdz := Lib.hid (show (rdN c.toNat : Int) < (B : Int) by have := (rd_lt (c := c.toNat) hB2.2).2 hdb; omega)
      rw [hzB.out] at hdz
      have hdz := hdz.out
      clear hc hdb
      generalize rdN c.toNat = d at *
      generalize c.toNat = cn at *
      go_wp2_with fail
      refine (HDG.out _).mono ?_
      rintro e w3 ⟨rfl, rfl⟩
      go_wp2_with fail
      go_roundg (s.size - i)
      case measure => have := HJ.out; omega
      case rel => exact ⟨i + 1, by go_num, by show _ = _; have := HJ.out; omega, by omega, HD2, rfl⟩
     ·have HPK := Lib.hid (parK_dig (okDig_not hc hdb) HNE.out)
      have HPN := Lib.hid (parN_no (B := B) (l := s.data.toList) (by rw [HPK.out]; decide))
      have hdz : (B : Int) ≤ (rdN c.toNat : Int) := by have := (not_congr (rd_lt (c := c.toNat) hB2.2)).2 hdb; omega
      rw [hzB.out] at hdz
      have HK2 : Hid (K = 13) := hK.out.symm.trans HPK.out
      have HN2 : Hid (N = 0) := hN.out.symm.trans HPN.out
      clear hc hdb HPK HPN
      generalize rdN c.toNat = d at *
      generalize c.toNat = cn at *
      go_wp2_with fail
      refine (HDG.out _).mono ?_
      rintro e w3 ⟨rfl, rfl⟩
      go_wp2_with (first | (with_reducible refine wpList_val (v := .agg #[.bool false, .slice none 0 0]) rfl (build_num rfl) ?_) | (with_reducible refine wpList_store_num rfl (.tmp 4) (.tmp 40) rfl (b := S) (t := false) (B := none) (M := 0) (d := 0) rfl rfl (I.out.num 0 rfl) ?_))
      have I2 := I.out.putNum 0 rfl false none 0 0 rfl
      have HX := HE.out _ I2 HN2.out
      rw [HK2.out] at HX
      exact bodyPost_ret (v := .tuple #[.agg #[.bool false, .slice none 0 0], .int .i64 13]) (results_numI rfl rfl rfl (I2.num 0 rfl)) rfl (by rw [HK2.out]; exact HX)
    ·obtain rfl : i = s.size := by omega
     have HOD : Hid (okDig B s.data.toList = true) := okDig_of (fun k c h => HD.out k c (by have := (List.getElem?_eq_some_iff.1 h).1; simpa using this) h)
     clear HD
     obtain ⟨T, hT⟩ : ∃ T, wr.heap.size = T := ⟨_, rfl⟩
     have I1 := Lib.hid (I.out.pushNum hT false none 0 0)
     have HTS : Hid (S ≤ T) := by show S ≤ T; rw [← hT]; exact I.out.sz
     obtain ⟨W1, hW1⟩ : ∃ W1, wr.alloc (boxN false none 0 0) = W1 := ⟨_, rfl⟩
     rw [hW1] at I1
     go_wp2_with fail
     clear hW1
     have HJ0 : Hid (Bs w S [.dig false none 0 0 0, .num T false none 0 0, .num S false none 0 0] W1) := I1.out.pushDig (nil_good W1)
     clear I1 I
     go_loopg [8] (s.size + 1) (fun h s8 wr => ∃ (i L cA v : Nat) (A : Option Addr), s8 = .int .i64 (i : Int) ∧ Hid (i + h = s.size + 1) ∧ i ≤ s.size ∧ Hid (num B (s.data.toList.take i) = v ∧ Fits v) ∧ Hid (Bs w S [.dig false A L cA v, .num T false A L cA, .num S false none 0 0] wr))
     case atStart => exact ⟨0, 0, 0, 0, none, rfl, by show _ = _; omega, by omega, ⟨rfl, Nat.pow_pos (by decide)⟩, HJ0⟩
     case round =>
      clear HJ0
      obtain ⟨i, L, cA, v, A, rfl, HJ2, hin2, HV, I⟩ := hrel
      by_cases hlt : i < s.size
      ·have hiz : (i : Int) < (s.size : Int) := by omega
       obtain ⟨c, hc⟩ := get_of_lt hlt
       have hix := index_at hc
       have hdB := okDig_get HOD.out hc
       have hrd : rdN c.toNat = dvN c.toNat := by unfold rdN; rw [if_pos (by omega)]
       have HDG : Hid (∀ V, Calls Tryz.prog 103 #[.int .u8 (c.toNat : Int)] V fun e w' => e = .returned (.int .i64 (dvN c.toNat : Int)) ∧ w' = V) := fun V => by
        have := Digit_run7 c.toNat V
        rwa [hrd] at this
       have HS : Hid (num B (s.data.toList.take (i + 1)) = v * B + dvN c.toNat) := by
        show _ = _
        rw [take_succ_of hc, num_snoc, HV.out.1]
       have HT : Hid (∀ k, num B (s.data.toList.take k) ≤ num B s.data.toList) := fun k => num_take (by omega) _ k
       have hd16 : dvN c.toNat ≤ 16 := dvN_le _
       generalize dvN c.toNat = d at *
       generalize c.toNat = cn at *
       obtain ⟨r, hr⟩ : ∃ r, v * B = r := ⟨_, rfl⟩
       obtain ⟨R, hR⟩ : ∃ R, nl r = R := ⟨_, rfl⟩
       obtain ⟨p, hp⟩ : ∃ p, r + d = p := ⟨_, rfl⟩
       obtain ⟨P, hP⟩ : ∃ P, nl p = P := ⟨_, rfl⟩
       obtain ⟨MB, hMB⟩ : ∃ M, nl B = M := ⟨_, rfl⟩
       obtain ⟨MD, hMD⟩ : ∃ M, nl d = M := ⟨_, rfl⟩
       have b1 : L ≤ 32 := by
        have h1 := (I.out.dig 0 rfl).len
        have h2 := fits_nl.1 HV.out.2
        omega
       have b2 : MB ≤ 1 := by rw [← hMB]; exact nl_le (by omega)
       have b3 : MD ≤ 1 := by rw [← hMD]; exact nl_le (by omega)
       have b4 : R ≤ 33 := by
        rw [← hR, ← hr]
        have h1 := nl_mul_le v B
        have h2 := fits_nl.1 HV.out.2
        omega
       have HSB := Lib.hid (fun V => Small_run 2 false B MB V (by omega) (show Int.natAbs 2 = B by have := hzB.out; omega) hMB (show decide ((2 : Int) < 0) = false by decide))
       have HSD := Lib.hid (fun V => Small_run (d : Int) false d MD V (by omega) (show Int.natAbs (d : Int) = d by omega) hMD (by show decide ((d : Int) < 0) = false; simp))
       have HMU : Hid (∀ cA2 (A2 : Option Addr) V, Good V false A L cA v → Good V false A2 MB cA2 B → Calls Tryz.prog 85 #[.agg #[.bool false, .slice A L cA], .agg #[.bool false, .slice A2 MB cA2]] V (NumOut false R r V)) := fun cA2 A2 V h1 h2 => nbMul_out (by omega) hr hR V h1 h2
       have HAD : Hid (∀ cA1 cA2 (A1 A2 : Option Addr) V, Good V false A1 R cA1 r → Good V false A2 MD cA2 d → Calls Tryz.prog 104 #[.agg #[.bool false, .slice A1 R cA1], .agg #[.bool false, .slice A2 MD cA2]] V (NumOut false P p V)) := fun cA1 cA2 A1 A2 V h1 h2 => nbAdd_out (by omega) hp hP V h1 h2
       have HPV : Hid (num B (s.data.toList.take (i + 1)) = p) := by show _ = _; rw [HS.out, hr, hp]
       have HPP : Hid (Fits p ↔ P ≤ 32) := by rw [← hP]; exact fits_nl
       clear hr hR hp hP hMB hMD HS b1 b2 b3 b4 hc hrd
       go_wp2_with fail
       refine rg_begin (fun _ => True) (by kernel_rfl) trivial (fun hS => ?_)
       have hI := I.out.drew
       clear I
       refine rg_take 1 (.int .i64 2) rfl (by kernel_rfl) (by kernel_rfl) (by kernel_rfl) (fun _ _ _ h => h) rfl (fun w _ => ?_) hS ?_
       ·go_simp
       simp only [zA, zB, zC, Act.put, zD, zE, zF]
       refine rg_take 4 (.string s) rfl (by kernel_rfl) (by kernel_rfl) (by kernel_rfl) (fun _ _ _ h => h) rfl (fun w _ => ?_) hS ?_
       ·go_simp
       simp only [zA, zB, zC, Act.put, zD, zE, zF]
       refine rg_take 5 (.int .i64 (i : Int)) rfl (by kernel_rfl) (by kernel_rfl) (by kernel_rfl) (fun _ _ _ h => h) rfl (fun w _ => ?_) hS ?_
       ·go_simp
       simp only [zA, zB, zC, Act.put, zD, zE, zF]
       refine rg_take 6 (.int .u8 (cn : Int)) rfl (by kernel_rfl) (by kernel_rfl) (by kernel_rfl) (fun _ _ _ h => h) rfl (fun w hSw => idx_run (x := .tmp 51) (y := .tmp 52) rfl rfl rfl hix) hS ?_
       simp only [zA, zB, zC, Act.put, zD, zE, zF]
       generalize wr.drew = V0 at *
       refine rg_two 0 2 (by kernel_rfl) ?_ ?_
       ·refine rs_of rfl rfl (wp_value (ld_num (.tmp 7) rfl rfl (hI.num 1 rfl)) ⟨trivial, ?_⟩)
        simp only [zA, zB, zC, Act.put, zD, zE, zF]
        refine rg_one 2 (by kernel_rfl) (rs_of rfl rfl (wp_callx rfl nbEnters_small7 rfl (HSB.out _) (fun q2 V2 hV => ⟨trivial, ?_⟩)))
        obtain ⟨A2, c2⟩ := q2
        obtain ⟨g2, hV⟩ := hV
        replace hI := hI.below hV
        clear hV
        simp only [zA, zB, zC, Act.put, zD, zE, zF]
        refine rg_one 3 (by kernel_rfl) (rs_of rfl rfl (wp_callx rfl nbEnters_mul7 rfl (HMU.out c2 A2 _ (hI.dig 0 rfl) g2) (fun q3 V3 hV => ⟨trivial, ?_⟩)))
        obtain ⟨A3, c3⟩ := q3
        obtain ⟨g3, hV⟩ := hV
        replace hI := hI.below hV
        clear hV g2
        simp only [zA, zB, zC, Act.put, zD, zE, zF]
        refine rg_one 7 (by kernel_rfl) (rs_of rfl rfl (wp_call rfl nbEnters_digit7 rfl (HDG.out _) (fun V4 hV => ⟨trivial, ?_⟩)))
        subst hV
        simp only [zA, zB, zC, Act.put, zD, zE, zF]
        refine rg_one 8 (by kernel_rfl) (rs_of rfl rfl (wp_callx rfl nbEnters_small7 rfl (HSD.out _) (fun q5 V5 hV => ⟨trivial, ?_⟩)))
        obtain ⟨A5, c5⟩ := q5
        obtain ⟨g5, hV⟩ := hV
        replace hI := hI.below hV
        replace g3 := g3.below hV
        clear hV
        simp only [zA, zB, zC, Act.put, zD, zE, zF]
        refine rg_one 9 (by kernel_rfl) (rs_of rfl rfl (wp_callx rfl nbEnters_add7 rfl (HAD.out c3 c5 A3 A5 _ g3 g5) (fun q6 V6 hV => ⟨trivial, ?_⟩)))
        obtain ⟨A6, c6⟩ := q6
        obtain ⟨g6, hV⟩ := hV
        replace hI := (hI.below hV).pushDig g6
        clear hV g3 g5 g6
        simp only [zA, zB, zC, Act.put, zD, zE, zF]
        refine rg_one 10 (by kernel_rfl) (rs_of rfl rfl (stores_num (.tmp 7) (.tmp 56) rfl (b := T) (t := false) (B := A6) (M := P) (cb := c6) rfl rfl (hI.num 2 rfl) ⟨trivial, ?_⟩))
        replace hI := hI.putNum 2 rfl false A6 P c6 rfl
        generalize st2 V6 T false A6 P c6 = V7 at *
        simp only [zA, zB, zC, Act.put, zD, zE, zF]
        refine wpAnyH_done (by kernel_rfl) ?_ _
        have I7 := Lib.hid hI
        clear hI hS
        obtain ⟨p0, p1, p2, p3⟩ := I7.out.num 2 rfl
        by_cases h32 : P ≤ 32
        ·have hpz : ¬ (32 : Int) < (P : Int) := by omega
         have HFP := Lib.hid (HPP.out.2 h32)
         clear h32
         go_wp2_with fail
         go_roundg (s.size - i)
         case measure => have := HJ2.out; omega
         case rel => exact ⟨i + 1, P, c6, p, A6, by go_num, by show _ = _; have := HJ2.out; omega, by omega, ⟨HPV.out, HFP.out⟩, (I7.out.sub (.cons_cons _ (.cons _ (List.Sublist.refl _))))⟩
        ·have hpz : (32 : Int) < (P : Int) := by omega
         have HNF : Hid (¬ Fits (num B s.data.toList)) := fun hf => h32 (HPP.out.1 (Nat.lt_of_le_of_lt (by rw [← HPV.out]; exact HT.out _) hf))
         have HPK := Lib.hid (parK_over HOD.out HNE.out HNF.out)
         have HPN := Lib.hid (parN_no (B := B) (l := s.data.toList) (by rw [HPK.out]; decide))
         have HK2 : Hid (K = 9) := hK.out.symm.trans HPK.out
         have HN2 : Hid (N = 0) := hN.out.symm.trans HPN.out
         have I8 := Lib.hid (I7.out.sub (.cons _ (.cons _ (.cons _ (List.Sublist.refl _)))))
         clear h32 HPK HPN
         go_wp2_with (first | (with_reducible refine wpList_val (v := .agg #[.bool false, .slice none 0 0]) rfl (build_num rfl) ?_) | (with_reducible refine wpList_store_num rfl (.tmp 4) (.tmp 61) rfl (b := S) (t := false) (B := none) (M := 0) (d := 0) rfl rfl (I8.out.num 0 rfl) ?_))
         have I2 := I8.out.putNum 0 rfl false none 0 0 rfl
         have HX := HE.out _ I2 HN2.out
         rw [HK2.out] at HX
         exact bodyPost_ret (v := .tuple #[.agg #[.bool false, .slice none 0 0], .int .i64 9]) (results_numI rfl rfl rfl (I2.num 0 rfl)) rfl (by rw [HK2.out]; exact HX)
       ·refine rs_of rfl rfl (wp_callx rfl nbEnters_small7 rfl (HSB.out _) (fun q2 V2 hV => ⟨trivial, ?_⟩))
        obtain ⟨A2, c2⟩ := q2
        obtain ⟨g2, hV⟩ := hV
        replace hI := hI.below hV
        clear hV
        simp only [zA, zB, zC, Act.put, zD, zE, zF]
        refine rg_one 0 (by kernel_rfl) (rs_of rfl rfl (wp_value (ld_num (.tmp 7) rfl rfl (hI.num 1 rfl)) ⟨trivial, ?_⟩))
        simp only [zA, zB, zC, Act.put, zD, zE, zF]
        refine rg_one 3 (by kernel_rfl) (rs_of rfl rfl (wp_callx rfl nbEnters_mul7 rfl (HMU.out c2 A2 _ (hI.dig 0 rfl) g2) (fun q3 V3 hV => ⟨trivial, ?_⟩)))
        obtain ⟨A3, c3⟩ := q3
        obtain ⟨g3, hV⟩ := hV
        replace hI := hI.below hV
        clear hV g2
        simp only [zA, zB, zC, Act.put, zD, zE, zF]
        refine rg_one 7 (by kernel_rfl) (rs_of rfl rfl (wp_call rfl nbEnters_digit7 rfl (HDG.out _) (fun V4 hV => ⟨trivial, ?_⟩)))
        subst hV
        simp only [zA, zB, zC, Act.put, zD, zE, zF]
        refine rg_one 8 (by kernel_rfl) (rs_of rfl rfl (wp_callx rfl nbEnters_small7 rfl (HSD.out _) (fun q5 V5 hV => ⟨trivial, ?_⟩)))
        obtain ⟨A5, c5⟩ := q5
        obtain ⟨g5, hV⟩ := hV
        replace hI := hI.below hV
        replace g3 := g3.below hV
        clear hV
        simp only [zA, zB, zC, Act.put, zD, zE, zF]
        refine rg_one 9 (by kernel_rfl) (rs_of rfl rfl (wp_callx rfl nbEnters_add7 rfl (HAD.out c3 c5 A3 A5 _ g3 g5) (fun q6 V6 hV => ⟨trivial, ?_⟩)))
        obtain ⟨A6, c6⟩ := q6
        obtain ⟨g6, hV⟩ := hV
        replace hI := (hI.below hV).pushDig g6
        clear hV g3 g5 g6
        simp only [zA, zB, zC, Act.put, zD, zE, zF]
        refine rg_one 10 (by kernel_rfl) (rs_of rfl rfl (stores_num (.tmp 7) (.tmp 56) rfl (b := T) (t := false) (B := A6) (M := P) (cb := c6) rfl rfl (hI.num 2 rfl) ⟨trivial, ?_⟩))
        replace hI := hI.putNum 2 rfl false A6 P c6 rfl
        generalize st2 V6 T false A6 P c6 = V7 at *
        simp only [zA, zB, zC, Act.put, zD, zE, zF]
        refine wpAnyH_done (by kernel_rfl) ?_ _
        have I7 := Lib.hid hI
        clear hI hS
        obtain ⟨p0, p1, p2, p3⟩ := I7.out.num 2 rfl
        by_cases h32 : P ≤ 32
        ·have hpz : ¬ (32 : Int) < (P : Int) := by omega
         have HFP := Lib.hid (HPP.out.2 h32)
         clear h32
         go_wp2_with fail
         go_roundg (s.size - i)
         case measure => have := HJ2.out; omega
         case rel => exact ⟨i + 1, P, c6, p, A6, by go_num, by show _ = _; have := HJ2.out; omega, by omega, ⟨HPV.out, HFP.out⟩, (I7.out.sub (.cons_cons _ (.cons _ (List.Sublist.refl _))))⟩
        ·have hpz : (32 : Int) < (P : Int) := by omega
         have HNF : Hid (¬ Fits (num B s.data.toList)) := fun hf => h32 (HPP.out.1 (Nat.lt_of_le_of_lt (by rw [← HPV.out]; exact HT.out _) hf))
         have HPK := Lib.hid (parK_over HOD.out HNE.out HNF.out)
         have HPN := Lib.hid (parN_no (B := B) (l := s.data.toList) (by rw [HPK.out]; decide))
         have HK2 : Hid (K = 9) := hK.out.symm.trans HPK.out
         have HN2 : Hid (N = 0) := hN.out.symm.trans HPN.out
         have I8 := Lib.hid (I7.out.sub (.cons _ (.cons _ (.cons _ (List.Sublist.refl _)))))
         clear h32 HPK HPN
         go_wp2_with (first | (with_reducible refine wpList_val (v := .agg #[.bool false, .slice none 0 0]) rfl (build_num rfl) ?_) | (with_reducible refine wpList_store_num rfl (.tmp 4) (.tmp 61) rfl (b := S) (t := false) (B := none) (M := 0) (d := 0) rfl rfl (I8.out.num 0 rfl) ?_))
         have I2 := I8.out.putNum 0 rfl false none 0 0 rfl
         have HX := HE.out _ I2 HN2.out
         rw [HK2.out] at HX
         exact bodyPost_ret (v := .tuple #[.agg #[.bool false, .slice none 0 0], .int .i64 9]) (results_numI rfl rfl rfl (I2.num 0 rfl)) rfl (by rw [HK2.out]; exact HX)
      ·obtain rfl : i = s.size := by omega
       have HV1 := HV.out.1
       have HV2 := HV.out.2
       rw [take_all] at HV1
       have HPK := parK_ok HOD.out HNE.out (show Fits (num B s.data.toList) by rw [HV1]; exact HV2)
       have HK2 : Hid (K = 0) := hK.out.symm.trans HPK
       have HN2 : Hid (N = v) := by
        have h1 := hN.out
        rw [parN_ok HPK, HV1] at h1
        exact h1.symm
       have HM2 : Hid (M = L) := by
        show _ = _
        rw [← hM.out, HN2.out]
        exact (I.out.dig 0 rfl).len
       clear HPK HV1 HV2
       go_wp2_with (first | (with_reducible refine wpList_load_num rfl (.tmp 7) rfl rfl (I.out.num 1 rfl) ?_) | (with_reducible refine wpList_store_num rfl (.tmp 4) (.tmp 62) rfl (b := S) (t := false) (B := A) (M := L) (d := cA) rfl rfl (I.out.num 2 rfl) ?_))
       have I2 := I.out.putNum 2 rfl false A L cA rfl
       refine bodyPost_ret (v := .tuple #[.agg #[.bool false, .slice A L cA], .int .i64 0]) (results_numI rfl rfl rfl (I2.num 2 rfl)) rfl ?_
       rw [HK2.out, HN2.out, HM2.out]
       exact ⟨(A, cA), rfl, I2.dig 0 rfl, by rw [hS]; exact I2.bl⟩
  ·go_enter Tryz.func65, Tryz.ntmps65
   go_wp2_with fail
   clear hW
   go_loopg [6] (s.size + 1) (fun h s6 wr => ∃ i : Nat, s6 = .int .i64 (i : Int) ∧ Hid (i + h = s.size + 1) ∧ i ≤ s.size ∧ Hid (∀ k c, k < i → s.data.toList[k]? = some c → dvN c.toNat < B) ∧ wr = W)
   case atStart => exact ⟨0, rfl, by show _ = _; omega, by omega, fun k c hk _ => absurd hk (by omega), rfl⟩
   case round =>
    obtain ⟨i, rfl, HJ, hin, HD, rfl⟩ := hrel
    by_cases hlt : i < s.size
    ·have hiz : (i : Int) < (s.size : Int) := by omega
     obtain ⟨c, hc⟩ := get_of_lt hlt
     have hx := index_at hc
     have HDG := Lib.hid (fun V => Digit_run7 c.toNat V)
     by_cases hdb : dvN c.toNat < B
     ·have HD2 : Hid (∀ k c, k < i + 1 → s.data.toList[k]? = some c → dvN c.toNat < B) := fun k x hk h9 => by
       by_cases e : k = i
       ·rw [e, hc] at h9; cases h9; exact hdb
       ·exact HD.out k x (by omega) h9
      have hdz := Lib.hid (show (rdN c.toNat : Int) < (B : Int) by have := (rd_lt (c := c.toNat) hB2.2).2 hdb; omega)
      rw [hzB.out] at hdz
      have hdz := hdz.out
      clear hc hdb
      generalize rdN c.toNat = d at *
      generalize c.toNat = cn at *
      go_wp2_with fail
      refine (HDG.out _).mono ?_
      rintro e w3 ⟨rfl, rfl⟩
      go_wp2_with fail
      go_roundg (s.size - i)
      case measure => have := HJ.out; omega
      case rel => exact ⟨i + 1, by go_num, by show _ = _; have := HJ.out; omega, by omega, HD2, rfl⟩
     ·have HPK := Lib.hid (parK_dig (okDig_not hc hdb) HNE.out)
      have HPN := Lib.hid (parN_no (B := B) (l := s.data.toList) (by rw [HPK.out]; decide))
      have hdz : (B : Int) ≤ (rdN c.toNat : Int) := by have := (not_congr (rd_lt (c := c.toNat) hB2.2)).2 hdb; omega
      rw [hzB.out] at hdz
      have HK2 : Hid (K = 13) := hK.out.symm.trans HPK.out
      have HN2 : Hid (N = 0) := hN.out.symm.trans HPN.out
      clear hc hdb HPK HPN
      generalize rdN c.toNat = d at *
      generalize c.toNat = cn at *
      go_wp2_with fail
      refine (HDG.out _).mono ?_
      rintro e w3 ⟨rfl, rfl⟩
      go_wp2_with (first | (with_reducible refine wpList_val (v := .agg #[.bool false, .slice none 0 0]) rfl (build_num rfl) ?_) | (with_reducible refine wpList_store_num rfl (.tmp 4) (.tmp 40) rfl (b := S) (t := false) (B := none) (M := 0) (d := 0) rfl rfl (I.out.num 0 rfl) ?_))
      have I2 := I.out.putNum 0 rfl false none 0 0 rfl
      have HX := HE.out _ I2 HN2.out
      rw [HK2.out] at HX
      exact bodyPost_ret (v := .tuple #[.agg #[.bool false, .slice none 0 0], .int .i64 13]) (results_numI rfl rfl rfl (I2.num 0 rfl)) rfl (by rw [HK2.out]; exact HX)
    ·obtain rfl : i = s.size := by omega
     have HOD : Hid (okDig B s.data.toList = true) := okDig_of (fun k c h => HD.out k c (by have := (List.getElem?_eq_some_iff.1 h).1; simpa using this) h)
     clear HD
     obtain ⟨T, hT⟩ : ∃ T, wr.heap.size = T := ⟨_, rfl⟩
     have I1 := Lib.hid (I.out.pushNum hT false none 0 0)
     have HTS : Hid (S ≤ T) := by show S ≤ T; rw [← hT]; exact I.out.sz
     obtain ⟨W1, hW1⟩ : ∃ W1, wr.alloc (boxN false none 0 0) = W1 := ⟨_, rfl⟩
     rw [hW1] at I1
     go_wp2_with fail
     clear hW1
     have HJ0 : Hid (Bs w S [.dig false none 0 0 0, .num T false none 0 0, .num S false none 0 0] W1) := I1.out.pushDig (nil_good W1)
     clear I1 I
     go_loopg [8] (s.size + 1) (fun h s8 wr => ∃ (i L cA v : Nat) (A : Option Addr), s8 = .int .i64 (i : Int) ∧ Hid (i + h = s.size + 1) ∧ i ≤ s.size ∧ Hid (num B (s.data.toList.take i) = v ∧ Fits v) ∧ Hid (Bs w S [.dig false A L cA v, .num T false A L cA, .num S false none 0 0] wr))
     case atStart => exact ⟨0, 0, 0, 0, none, rfl, by show _ = _; omega, by omega, ⟨rfl, Nat.pow_pos (by decide)⟩, HJ0⟩
     case round =>
      clear HJ0
      obtain ⟨i, L, cA, v, A, rfl, HJ2, hin2, HV, I⟩ := hrel
      by_cases hlt : i < s.size
      ·have hiz : (i : Int) < (s.size : Int) := by omega
       obtain ⟨c, hc⟩ := get_of_lt hlt
       have hix := index_at hc
       have hdB := okDig_get HOD.out hc
       have hrd : rdN c.toNat = dvN c.toNat := by unfold rdN; rw [if_pos (by omega)]
       have HDG : Hid (∀ V, Calls Tryz.prog 103 #[.int .u8 (c.toNat : Int)] V fun e w' => e = .returned (.int .i64 (dvN c.toNat : Int)) ∧ w' = V) := fun V => by
        have := Digit_run7 c.toNat V
        rwa [hrd] at this
       have HS : Hid (num B (s.data.toList.take (i + 1)) = v * B + dvN c.toNat) := by
        show _ = _
        rw [take_succ_of hc, num_snoc, HV.out.1]
       have HT : Hid (∀ k, num B (s.data.toList.take k) ≤ num B s.data.toList) := fun k => num_take (by omega) _ k
       have hd16 : dvN c.toNat ≤ 16 := dvN_le _
       generalize dvN c.toNat = d at *
       generalize c.toNat = cn at *
       obtain ⟨r, hr⟩ : ∃ r, v * B = r := ⟨_, rfl⟩
       obtain ⟨R, hR⟩ : ∃ R, nl r = R := ⟨_, rfl⟩
       obtain ⟨p, hp⟩ : ∃ p, r + d = p := ⟨_, rfl⟩
       obtain ⟨P, hP⟩ : ∃ P, nl p = P := ⟨_, rfl⟩
       obtain ⟨MB, hMB⟩ : ∃ M, nl B = M := ⟨_, rfl⟩
       obtain ⟨MD, hMD⟩ : ∃ M, nl d = M := ⟨_, rfl⟩
       have b1 : L ≤ 32 := by
        have h1 := (I.out.dig 0 rfl).len
        have h2 := fits_nl.1 HV.out.2
        omega
       have b2 : MB ≤ 1 := by rw [← hMB]; exact nl_le (by omega)
       have b3 : MD ≤ 1 := by rw [← hMD]; exact nl_le (by omega)
       have b4 : R ≤ 33 := by
        rw [← hR, ← hr]
        have h1 := nl_mul_le v B
        have h2 := fits_nl.1 HV.out.2
        omega
       have HSB := Lib.hid (fun V => Small_run 8 false B MB V (by omega) (show Int.natAbs 8 = B by have := hzB.out; omega) hMB (show decide ((8 : Int) < 0) = false by decide))
       have HSD := Lib.hid (fun V => Small_run (d : Int) false d MD V (by omega) (show Int.natAbs (d : Int) = d by omega) hMD (by show decide ((d : Int) < 0) = false; simp))
       have HMU : Hid (∀ cA2 (A2 : Option Addr) V, Good V false A L cA v → Good V false A2 MB cA2 B → Calls Tryz.prog 85 #[.agg #[.bool false, .slice A L cA], .agg #[.bool false, .slice A2 MB cA2]] V (NumOut false R r V)) := fun cA2 A2 V h1 h2 => nbMul_out (by omega) hr hR V h1 h2
       have HAD : Hid (∀ cA1 cA2 (A1 A2 : Option Addr) V, Good V false A1 R cA1 r → Good V false A2 MD cA2 d → Calls Tryz.prog 104 #[.agg #[.bool false, .slice A1 R cA1], .agg #[.bool false, .slice A2 MD cA2]] V (NumOut false P p V)) := fun cA1 cA2 A1 A2 V h1 h2 => nbAdd_out (by omega) hp hP V h1 h2
       have HPV : Hid (num B (s.data.toList.take (i + 1)) = p) := by show _ = _; rw [HS.out, hr, hp]
       have HPP : Hid (Fits p ↔ P ≤ 32) := by rw [← hP]; exact fits_nl
       clear hr hR hp hP hMB hMD HS b1 b2 b3 b4 hc hrd
       go_wp2_with fail
       refine rg_begin (fun _ => True) (by kernel_rfl) trivial (fun hS => ?_)
       have hI := I.out.drew
       clear I
       refine rg_take 1 (.int .i64 8) rfl (by kernel_rfl) (by kernel_rfl) (by kernel_rfl) (fun _ _ _ h => h) rfl (fun w _ => ?_) hS ?_
       ·go_simp
       simp only [zA, zB, zC, Act.put, zD, zE, zF]
       refine rg_take 4 (.string s) rfl (by kernel_rfl) (by kernel_rfl) (by kernel_rfl) (fun _ _ _ h => h) rfl (fun w _ => ?_) hS ?_
       ·go_simp
       simp only [zA, zB, zC, Act.put, zD, zE, zF]
       refine rg_take 5 (.int .i64 (i : Int)) rfl (by kernel_rfl) (by kernel_rfl) (by kernel_rfl) (fun _ _ _ h => h) rfl (fun w _ => ?_) hS ?_
       ·go_simp
       simp only [zA, zB, zC, Act.put, zD, zE, zF]
       refine rg_take 6 (.int .u8 (cn : Int)) rfl (by kernel_rfl) (by kernel_rfl) (by kernel_rfl) (fun _ _ _ h => h) rfl (fun w hSw => idx_run (x := .tmp 51) (y := .tmp 52) rfl rfl rfl hix) hS ?_
       simp only [zA, zB, zC, Act.put, zD, zE, zF]
       generalize wr.drew = V0 at *
       refine rg_two 0 2 (by kernel_rfl) ?_ ?_
       ·refine rs_of rfl rfl (wp_value (ld_num (.tmp 7) rfl rfl (hI.num 1 rfl)) ⟨trivial, ?_⟩)
        simp only [zA, zB, zC, Act.put, zD, zE, zF]
        refine rg_one 2 (by kernel_rfl) (rs_of rfl rfl (wp_callx rfl nbEnters_small7 rfl (HSB.out _) (fun q2 V2 hV => ⟨trivial, ?_⟩)))
        obtain ⟨A2, c2⟩ := q2
        obtain ⟨g2, hV⟩ := hV
        replace hI := hI.below hV
        clear hV
        simp only [zA, zB, zC, Act.put, zD, zE, zF]
        refine rg_one 3 (by kernel_rfl) (rs_of rfl rfl (wp_callx rfl nbEnters_mul7 rfl (HMU.out c2 A2 _ (hI.dig 0 rfl) g2) (fun q3 V3 hV => ⟨trivial, ?_⟩)))
        obtain ⟨A3, c3⟩ := q3
        obtain ⟨g3, hV⟩ := hV
        replace hI := hI.below hV
        clear hV g2
        simp only [zA, zB, zC, Act.put, zD, zE, zF]
        refine rg_one 7 (by kernel_rfl) (rs_of rfl rfl (wp_call rfl nbEnters_digit7 rfl (HDG.out _) (fun V4 hV => ⟨trivial, ?_⟩)))
        subst hV
        simp only [zA, zB, zC, Act.put, zD, zE, zF]
        refine rg_one 8 (by kernel_rfl) (rs_of rfl rfl (wp_callx rfl nbEnters_small7 rfl (HSD.out _) (fun q5 V5 hV => ⟨trivial, ?_⟩)))
        obtain ⟨A5, c5⟩ := q5
        obtain ⟨g5, hV⟩ := hV
        replace hI := hI.below hV
        replace g3 := g3.below hV
        clear hV
        simp only [zA, zB, zC, Act.put, zD, zE, zF]
        refine rg_one 9 (by kernel_rfl) (rs_of rfl rfl (wp_callx rfl nbEnters_add7 rfl (HAD.out c3 c5 A3 A5 _ g3 g5) (fun q6 V6 hV => ⟨trivial, ?_⟩)))
        obtain ⟨A6, c6⟩ := q6
        obtain ⟨g6, hV⟩ := hV
        replace hI := (hI.below hV).pushDig g6
        clear hV g3 g5 g6
        simp only [zA, zB, zC, Act.put, zD, zE, zF]
        refine rg_one 10 (by kernel_rfl) (rs_of rfl rfl (stores_num (.tmp 7) (.tmp 56) rfl (b := T) (t := false) (B := A6) (M := P) (cb := c6) rfl rfl (hI.num 2 rfl) ⟨trivial, ?_⟩))
        replace hI := hI.putNum 2 rfl false A6 P c6 rfl
        generalize st2 V6 T false A6 P c6 = V7 at *
        simp only [zA, zB, zC, Act.put, zD, zE, zF]
        refine wpAnyH_done (by kernel_rfl) ?_ _
        have I7 := Lib.hid hI
        clear hI hS
        obtain ⟨p0, p1, p2, p3⟩ := I7.out.num 2 rfl
        by_cases h32 : P ≤ 32
        ·have hpz : ¬ (32 : Int) < (P : Int) := by omega
         have HFP := Lib.hid (HPP.out.2 h32)
         clear h32
         go_wp2_with fail
         go_roundg (s.size - i)
         case measure => have := HJ2.out; omega
         case rel => exact ⟨i + 1, P, c6, p, A6, by go_num, by show _ = _; have := HJ2.out; omega, by omega, ⟨HPV.out, HFP.out⟩, (I7.out.sub (.cons_cons _ (.cons _ (List.Sublist.refl _))))⟩
        ·have hpz : (32 : Int) < (P : Int) := by omega
         have HNF : Hid (¬ Fits (num B s.data.toList)) := fun hf => h32 (HPP.out.1 (Nat.lt_of_le_of_lt (by rw [← HPV.out]; exact HT.out _) hf))
         have HPK := Lib.hid (parK_over HOD.out HNE.out HNF.out)
         have HPN := Lib.hid (parN_no (B := B) (l := s.data.toList) (by rw [HPK.out]; decide))
         have HK2 : Hid (K = 9) := hK.out.symm.trans HPK.out
         have HN2 : Hid (N = 0) := hN.out.symm.trans HPN.out
         have I8 := Lib.hid (I7.out.sub (.cons _ (.cons _ (.cons _ (List.Sublist.refl _)))))
         clear h32 HPK HPN
         go_wp2_with (first | (with_reducible refine wpList_val (v := .agg #[.bool false, .slice none 0 0]) rfl (build_num rfl) ?_) | (with_reducible refine wpList_store_num rfl (.tmp 4) (.tmp 61) rfl (b := S) (t := false) (B := none) (M := 0) (d := 0) rfl rfl (I8.out.num 0 rfl) ?_))
         have I2 := I8.out.putNum 0 rfl false none 0 0 rfl
         have HX := HE.out _ I2 HN2.out
         rw [HK2.out] at HX
         exact bodyPost_ret (v := .tuple #[.agg #[.bool false, .slice none 0 0], .int .i64 9]) (results_numI rfl rfl rfl (I2.num 0 rfl)) rfl (by rw [HK2.out]; exact HX)
       ·refine rs_of rfl rfl (wp_callx rfl nbEnters_small7 rfl (HSB.out _) (fun q2 V2 hV => ⟨trivial, ?_⟩))
        obtain ⟨A2, c2⟩ := q2
        obtain ⟨g2, hV⟩ := hV
        replace hI := hI.below hV
        clear hV
        simp only [zA, zB, zC, Act.put, zD, zE, zF]
        refine rg_one 0 (by kernel_rfl) (rs_of rfl rfl (wp_value (ld_num (.tmp 7) rfl rfl (hI.num 1 rfl)) ⟨trivial, ?_⟩))
        simp only [zA, zB, zC, Act.put, zD, zE, zF]
        refine rg_one 3 (by kernel_rfl) (rs_of rfl rfl (wp_callx rfl nbEnters_mul7 rfl (HMU.out c2 A2 _ (hI.dig 0 rfl) g2) (fun q3 V3 hV => ⟨trivial, ?_⟩)))
        obtain ⟨A3, c3⟩ := q3
        obtain ⟨g3, hV⟩ := hV
        replace hI := hI.below hV
        clear hV g2
        simp only [zA, zB, zC, Act.put, zD, zE, zF]
        refine rg_one 7 (by kernel_rfl) (rs_of rfl rfl (wp_call rfl nbEnters_digit7 rfl (HDG.out _) (fun V4 hV => ⟨trivial, ?_⟩)))
        subst hV
        simp only [zA, zB, zC, Act.put, zD, zE, zF]
        refine rg_one 8 (by kernel_rfl) (rs_of rfl rfl (wp_callx rfl nbEnters_small7 rfl (HSD.out _) (fun q5 V5 hV => ⟨trivial, ?_⟩)))
        obtain ⟨A5, c5⟩ := q5
        obtain ⟨g5, hV⟩ := hV
        replace hI := hI.below hV
        replace g3 := g3.below hV
        clear hV
        simp only [zA, zB, zC, Act.put, zD, zE, zF]
        refine rg_one 9 (by kernel_rfl) (rs_of rfl rfl (wp_callx rfl nbEnters_add7 rfl (HAD.out c3 c5 A3 A5 _ g3 g5) (fun q6 V6 hV => ⟨trivial, ?_⟩)))
        obtain ⟨A6, c6⟩ := q6
        obtain ⟨g6, hV⟩ := hV
        replace hI := (hI.below hV).pushDig g6
        clear hV g3 g5 g6
        simp only [zA, zB, zC, Act.put, zD, zE, zF]
        refine rg_one 10 (by kernel_rfl) (rs_of rfl rfl (stores_num (.tmp 7) (.tmp 56) rfl (b := T) (t := false) (B := A6) (M := P) (cb := c6) rfl rfl (hI.num 2 rfl) ⟨trivial, ?_⟩))
        replace hI := hI.putNum 2 rfl false A6 P c6 rfl
        generalize st2 V6 T false A6 P c6 = V7 at *
        simp only [zA, zB, zC, Act.put, zD, zE, zF]
        refine wpAnyH_done (by kernel_rfl) ?_ _
        have I7 := Lib.hid hI
        clear hI hS
        obtain ⟨p0, p1, p2, p3⟩ := I7.out.num 2 rfl
        by_cases h32 : P ≤ 32
        ·have hpz : ¬ (32 : Int) < (P : Int) := by omega
         have HFP := Lib.hid (HPP.out.2 h32)
         clear h32
         go_wp2_with fail
         go_roundg (s.size - i)
         case measure => have := HJ2.out; omega
         case rel => exact ⟨i + 1, P, c6, p, A6, by go_num, by show _ = _; have := HJ2.out; omega, by omega, ⟨HPV.out, HFP.out⟩, (I7.out.sub (.cons_cons _ (.cons _ (List.Sublist.refl _))))⟩
        ·have hpz : (32 : Int) < (P : Int) := by omega
         have HNF : Hid (¬ Fits (num B s.data.toList)) := fun hf => h32 (HPP.out.1 (Nat.lt_of_le_of_lt (by rw [← HPV.out]; exact HT.out _) hf))
         have HPK := Lib.hid (parK_over HOD.out HNE.out HNF.out)
         have HPN := Lib.hid (parN_no (B := B) (l := s.data.toList) (by rw [HPK.out]; decide))
         have HK2 : Hid (K = 9) := hK.out.symm.trans HPK.out
         have HN2 : Hid (N = 0) := hN.out.symm.trans HPN.out
         have I8 := Lib.hid (I7.out.sub (.cons _ (.cons _ (.cons _ (List.Sublist.refl _)))))
         clear h32 HPK HPN
         go_wp2_with (first | (with_reducible refine wpList_val (v := .agg #[.bool false, .slice none 0 0]) rfl (build_num rfl) ?_) | (with_reducible refine wpList_store_num rfl (.tmp 4) (.tmp 61) rfl (b := S) (t := false) (B := none) (M := 0) (d := 0) rfl rfl (I8.out.num 0 rfl) ?_))
         have I2 := I8.out.putNum 0 rfl false none 0 0 rfl
         have HX := HE.out _ I2 HN2.out
         rw [HK2.out] at HX
         exact bodyPost_ret (v := .tuple #[.agg #[.bool false, .slice none 0 0], .int .i64 9]) (results_numI rfl rfl rfl (I2.num 0 rfl)) rfl (by rw [HK2.out]; exact HX)
      ·obtain rfl : i = s.size := by omega
       have HV1 := HV.out.1
       have HV2 := HV.out.2
       rw [take_all] at HV1
       have HPK := parK_ok HOD.out HNE.out (show Fits (num B s.data.toList) by rw [HV1]; exact HV2)
       have HK2 : Hid (K = 0) := hK.out.symm.trans HPK
       have HN2 : Hid (N = v) := by
        have h1 := hN.out
        rw [parN_ok HPK, HV1] at h1
        exact h1.symm
       have HM2 : Hid (M = L) := by
        show _ = _
        rw [← hM.out, HN2.out]
        exact (I.out.dig 0 rfl).len
       clear HPK HV1 HV2
       go_wp2_with (first | (with_reducible refine wpList_load_num rfl (.tmp 7) rfl rfl (I.out.num 1 rfl) ?_) | (with_reducible refine wpList_store_num rfl (.tmp 4) (.tmp 62) rfl (b := S) (t := false) (B := A) (M := L) (d := cA) rfl rfl (I.out.num 2 rfl) ?_))
       have I2 := I.out.putNum 2 rfl false A L cA rfl
       refine bodyPost_ret (v := .tuple #[.agg #[.bool false, .slice A L cA], .int .i64 0]) (results_numI rfl rfl rfl (I2.num 2 rfl)) rfl ?_
       rw [HK2.out, HN2.out, HM2.out]
       exact ⟨(A, cA), rfl, I2.dig 0 rfl, by rw [hS]; exact I2.bl⟩
  ·go_enter Tryz.func65, Tryz.ntmps65
   go_wp2_with fail
   clear hW
   go_loopg [6] (s.size + 1) (fun h s6 wr => ∃ i : Nat, s6 = .int .i64 (i : Int) ∧ Hid (i + h = s.size + 1) ∧ i ≤ s.size ∧ Hid (∀ k c, k < i → s.data.toList[k]? = some c → dvN c.toNat < B) ∧ wr = W)
   case atStart => exact ⟨0, rfl, by show _ = _; omega, by omega, fun k c hk _ => absurd hk (by omega), rfl⟩
   case round =>
    obtain ⟨i, rfl, HJ, hin, HD, rfl⟩ := hrel
    by_cases hlt : i < s.size
    ·have hiz : (i : Int) < (s.size : Int) := by omega
     obtain ⟨c, hc⟩ := get_of_lt hlt
     have hx := index_at hc
     have HDG := Lib.hid (fun V => Digit_run7 c.toNat V)
     by_cases hdb : dvN c.toNat < B
     ·have HD2 : Hid (∀ k c, k < i + 1 → s.data.toList[k]? = some c → dvN c.toNat < B) := fun k x hk h9 => by
       by_cases e : k = i
       ·rw [e, hc] at h9; cases h9; exact hdb
       ·exact HD.out k x (by omega) h9
      have hdz := Lib.hid (show (rdN c.toNat : Int) < (B : Int) by have := (rd_lt (c := c.toNat) hB2.2).2 hdb; omega)
      rw [hzB.out] at hdz
      have hdz := hdz.out
      clear hc hdb
      generalize rdN c.toNat = d at *
      generalize c.toNat = cn at *
      go_wp2_with fail
      refine (HDG.out _).mono ?_
      rintro e w3 ⟨rfl, rfl⟩
      go_wp2_with fail
      go_roundg (s.size - i)
      case measure => have := HJ.out; omega
      case rel => exact ⟨i + 1, by go_num, by show _ = _; have := HJ.out; omega, by omega, HD2, rfl⟩
     ·have HPK := Lib.hid (parK_dig (okDig_not hc hdb) HNE.out)
      have HPN := Lib.hid (parN_no (B := B) (l := s.data.toList) (by rw [HPK.out]; decide))
      have hdz : (B : Int) ≤ (rdN c.toNat : Int) := by have := (not_congr (rd_lt (c := c.toNat) hB2.2)).2 hdb; omega
      rw [hzB.out] at hdz
      have HK2 : Hid (K = 13) := hK.out.symm.trans HPK.out
      have HN2 : Hid (N = 0) := hN.out.symm.trans HPN.out
      clear hc hdb HPK HPN
      generalize rdN c.toNat = d at *
      generalize c.toNat = cn at *
      go_wp2_with fail
      refine (HDG.out _).mono ?_
      rintro e w3 ⟨rfl, rfl⟩
      go_wp2_with (first | (with_reducible refine wpList_val (v := .agg #[.bool false, .slice none 0 0]) rfl (build_num rfl) ?_) | (with_reducible refine wpList_store_num rfl (.tmp 4) (.tmp 40) rfl (b := S) (t := false) (B := none) (M := 0) (d := 0) rfl rfl (I.out.num 0 rfl) ?_))
      have I2 := I.out.putNum 0 rfl false none 0 0 rfl
      have HX := HE.out _ I2 HN2.out
      rw [HK2.out] at HX
      exact bodyPost_ret (v := .tuple #[.agg #[.bool false, .slice none 0 0], .int .i64 13]) (results_numI rfl rfl rfl (I2.num 0 rfl)) rfl (by rw [HK2.out]; exact HX)
    ·obtain rfl : i = s.size := by omega
     have HOD : Hid (okDig B s.data.toList = true) := okDig_of (fun k c h => HD.out k c (by have := (List.getElem?_eq_some_iff.1 h).1; simpa using this) h)
     clear HD
     obtain ⟨T, hT⟩ : ∃ T, wr.heap.size = T := ⟨_, rfl⟩
     have I1 := Lib.hid (I.out.pushNum hT false none 0 0)
     have HTS : Hid (S ≤ T) := by show S ≤ T; rw [← hT]; exact I.out.sz
     obtain ⟨W1, hW1⟩ : ∃ W1, wr.alloc (boxN false none 0 0) = W1 := ⟨_, rfl⟩
     rw [hW1] at I1
     go_wp2_with fail
     clear hW1
     have HJ0 : Hid (Bs w S [.dig false none 0 0 0, .num T false none 0 0, .num S false none 0 0] W1) := I1.out.pushDig (nil_good W1)
     clear I1 I
     go_loopg [8] (s.size + 1) (fun h s8 wr => ∃ (i L cA v : Nat) (A : Option Addr), s8 = .int .i64 (i : Int) ∧ Hid (i + h = s.size + 1) ∧ i ≤ s.size ∧ Hid (num B (s.data.toList.take i) = v ∧ Fits v) ∧ Hid (Bs w S [.dig false A L cA v, .num T false A L cA, .num S false none 0 0] wr))
     case atStart => exact ⟨0, 0, 0, 0, none, rfl, by show _ = _; omega, by omega, ⟨rfl, Nat.pow_pos (by decide)⟩, HJ0⟩
     case round =>
      clear HJ0
      obtain ⟨i, L, cA, v, A, rfl, HJ2, hin2, HV, I⟩ := hrel
      by_cases hlt : i < s.size
      ·have hiz : (i : Int) < (s.size : Int) := by omega
       obtain ⟨c, hc⟩ := get_of_lt hlt
       have hix := index_at hc
       have hdB := okDig_get HOD.out hc
       have hrd : rdN c.toNat = dvN c.toNat := by unfold rdN; rw [if_pos (by omega)]
       have HDG : Hid (∀ V, Calls Tryz.prog 103 #[.int .u8 (c.toNat : Int)] V fun e w' => e = .returned (.int .i64 (dvN c.toNat : Int)) ∧ w' = V) := fun V => by
        have := Digit_run7 c.toNat V
        rwa [hrd] at this
       have HS : Hid (num B (s.data.toList.take (i + 1)) = v * B + dvN c.toNat) := by
        show _ = _
        rw [take_succ_of hc, num_snoc, HV.out.1]
       have HT : Hid (∀ k, num B (s.data.toList.take k) ≤ num B s.data.toList) := fun k => num_take (by omega) _ k
       have hd16 : dvN c.toNat ≤ 16 := dvN_le _
       generalize dvN c.toNat = d at *
       generalize c.toNat = cn at *
       obtain ⟨r, hr⟩ : ∃ r, v * B = r := ⟨_, rfl⟩
       obtain ⟨R, hR⟩ : ∃ R, nl r = R := ⟨_, rfl⟩
       obtain ⟨p, hp⟩ : ∃ p, r + d = p := ⟨_, rfl⟩
       obtain ⟨P, hP⟩ : ∃ P, nl p = P := ⟨_, rfl⟩
       obtain ⟨MB, hMB⟩ : ∃ M, nl B = M := ⟨_, rfl⟩
       obtain ⟨MD, hMD⟩ : ∃ M, nl d = M := ⟨_, rfl⟩
       have b1 : L ≤ 32 := by
        have h1 := (I.out.dig 0 rfl).len
        have h2 := fits_nl.1 HV.out.2
        omega
       have b2 : MB ≤ 1 := by rw [← hMB]; exact nl_le (by omega)
       have b3 : MD ≤ 1 := by rw [← hMD]; exact nl_le (by omega)
       have b4 : R ≤ 33 := by
        rw [← hR, ← hr]
        have h1 := nl_mul_le v B
        have h2 := fits_nl.1 HV.out.2
        omega
       have HSB := Lib.hid (fun V => Small_run 10 false B MB V (by omega) (show Int.natAbs 10 = B by have := hzB.out; omega) hMB (show decide ((10 : Int) < 0) = false by decide))
       have HSD := Lib.hid (fun V => Small_run (d : Int) false d MD V (by omega) (show Int.natAbs (d : Int) = d by omega) hMD (by show decide ((d : Int) < 0) = false; simp))
       have HMU : Hid (∀ cA2 (A2 : Option Addr) V, Good V false A L cA v → Good V false A2 MB cA2 B → Calls Tryz.prog 85 #[.agg #[.bool false, .slice A L cA], .agg #[.bool false, .slice A2 MB cA2]] V (NumOut false R r V)) := fun cA2 A2 V h1 h2 => nbMul_out (by omega) hr hR V h1 h2
       have HAD : Hid (∀ cA1 cA2 (A1 A2 : Option Addr) V, Good V false A1 R cA1 r → Good V false A2 MD cA2 d → Calls Tryz.prog 104 #[.agg #[.bool false, .slice A1 R cA1], .agg #[.bool false, .slice A2 MD cA2]] V (NumOut false P p V)) := fun cA1 cA2 A1 A2 V h1 h2 => nbAdd_out (by omega) hp hP V h1 h2
       have HPV : Hid (num B (s.data.toList.take (i + 1)) = p) := by show _ = _; rw [HS.out, hr, hp]
       have HPP : Hid (Fits p ↔ P ≤ 32) := by rw [← hP]; exact fits_nl
       clear hr hR hp hP hMB hMD HS b1 b2 b3 b4 hc hrd
       go_wp2_with fail
       refine rg_begin (fun _ => True) (by kernel_rfl) trivial (fun hS => ?_)
       have hI := I.out.drew
       clear I
       refine rg_take 1 (.int .i64 10) rfl (by kernel_rfl) (by kernel_rfl) (by kernel_rfl) (fun _ _ _ h => h) rfl (fun w _ => ?_) hS ?_
       ·go_simp
       simp only [zA, zB, zC, Act.put, zD, zE, zF]
       refine rg_take 4 (.string s) rfl (by kernel_rfl) (by kernel_rfl) (by kernel_rfl) (fun _ _ _ h => h) rfl (fun w _ => ?_) hS ?_
       ·go_simp
       simp only [zA, zB, zC, Act.put, zD, zE, zF]
       refine rg_take 5 (.int .i64 (i : Int)) rfl (by kernel_rfl) (by kernel_rfl) (by kernel_rfl) (fun _ _ _ h => h) rfl (fun w _ => ?_) hS ?_
       ·go_simp
       simp only [zA, zB, zC, Act.put, zD, zE, zF]
       refine rg_take 6 (.int .u8 (cn : Int)) rfl (by kernel_rfl) (by kernel_rfl) (by kernel_rfl) (fun _ _ _ h => h) rfl (fun w hSw => idx_run (x := .tmp 51) (y := .tmp 52) rfl rfl rfl hix) hS ?_
       simp only [zA, zB, zC, Act.put, zD, zE, zF]
       generalize wr.drew = V0 at *
       refine rg_two 0 2 (by kernel_rfl) ?_ ?_
       ·refine rs_of rfl rfl (wp_value (ld_num (.tmp 7) rfl rfl (hI.num 1 rfl)) ⟨trivial, ?_⟩)
        simp only [zA, zB, zC, Act.put, zD, zE, zF]
        refine rg_one 2 (by kernel_rfl) (rs_of rfl rfl (wp_callx rfl nbEnters_small7 rfl (HSB.out _) (fun q2 V2 hV => ⟨trivial, ?_⟩)))
        obtain ⟨A2, c2⟩ := q2
        obtain ⟨g2, hV⟩ := hV
        replace hI := hI.below hV
        clear hV
        simp only [zA, zB, zC, Act.put, zD, zE, zF]
        refine rg_one 3 (by kernel_rfl) (rs_of rfl rfl (wp_callx rfl nbEnters_mul7 rfl (HMU.out c2 A2 _ (hI.dig 0 rfl) g2) (fun q3 V3 hV => ⟨trivial, ?_⟩)))
        obtain ⟨A3, c3⟩ := q3
        obtain ⟨g3, hV⟩ := hV
        replace hI := hI.below hV
        clear hV g2
        simp only [zA, zB, zC, Act.put, zD, zE, zF]
        refine rg_one 7 (by kernel_rfl) (rs_of rfl rfl (wp_call rfl nbEnters_digit7 rfl (HDG.out _) (fun V4 hV => ⟨trivial, ?_⟩)))
        subst hV
        simp only [zA, zB, zC, Act.put, zD, zE, zF]
        refine rg_one 8 (by kernel_rfl) (rs_of rfl rfl (wp_callx rfl nbEnters_small7 rfl (HSD.out _) (fun q5 V5 hV => ⟨trivial, ?_⟩)))
        obtain ⟨A5, c5⟩ := q5
        obtain ⟨g5, hV⟩ := hV
        replace hI := hI.below hV
        replace g3 := g3.below hV
        clear hV
        simp only [zA, zB, zC, Act.put, zD, zE, zF]
        refine rg_one 9 (by kernel_rfl) (rs_of rfl rfl (wp_callx rfl nbEnters_add7 rfl (HAD.out c3 c5 A3 A5 _ g3 g5) (fun q6 V6 hV => ⟨trivial, ?_⟩)))
        obtain ⟨A6, c6⟩ := q6
        obtain ⟨g6, hV⟩ := hV
        replace hI := (hI.below hV).pushDig g6
        clear hV g3 g5 g6
        simp only [zA, zB, zC, Act.put, zD, zE, zF]
        refine rg_one 10 (by kernel_rfl) (rs_of rfl rfl (stores_num (.tmp 7) (.tmp 56) rfl (b := T) (t := false) (B := A6) (M := P) (cb := c6) rfl rfl (hI.num 2 rfl) ⟨trivial, ?_⟩))
        replace hI := hI.putNum 2 rfl false A6 P c6 rfl
        generalize st2 V6 T false A6 P c6 = V7 at *
        simp only [zA, zB, zC, Act.put, zD, zE, zF]
        refine wpAnyH_done (by kernel_rfl) ?_ _
        have I7 := Lib.hid hI
        clear hI hS
        obtain ⟨p0, p1, p2, p3⟩ := I7.out.num 2 rfl
        by_cases h32 : P ≤ 32
        ·have hpz : ¬ (32 : Int) < (P : Int) := by omega
         have HFP := Lib.hid (HPP.out.2 h32)
         clear h32
         go_wp2_with fail
         go_roundg (s.size - i)
         case measure => have := HJ2.out; omega
         case rel => exact ⟨i + 1, P, c6, p, A6, by go_num, by show _ = _; have := HJ2.out; omega, by omega, ⟨HPV.out, HFP.out⟩, (I7.out.sub (.cons_cons _ (.cons _ (List.Sublist.refl _))))⟩
        ·have hpz : (32 : Int) < (P : Int) := by omega
         have HNF : Hid (¬ Fits (num B s.data.toList)) := fun hf => h32 (HPP.out.1 (Nat.lt_of_le_of_lt (by rw [← HPV.out]; exact HT.out _) hf))
         have HPK := Lib.hid (parK_over HOD.out HNE.out HNF.out)
         have HPN := Lib.hid (parN_no (B := B) (l := s.data.toList) (by rw [HPK.out]; decide))
         have HK2 : Hid (K = 9) := hK.out.symm.trans HPK.out
         have HN2 : Hid (N = 0) := hN.out.symm.trans HPN.out
         have I8 := Lib.hid (I7.out.sub (.cons _ (.cons _ (.cons _ (List.Sublist.refl _)))))
         clear h32 HPK HPN
         go_wp2_with (first | (with_reducible refine wpList_val (v := .agg #[.bool false, .slice none 0 0]) rfl (build_num rfl) ?_) | (with_reducible refine wpList_store_num rfl (.tmp 4) (.tmp 61) rfl (b := S) (t := false) (B := none) (M := 0) (d := 0) rfl rfl (I8.out.num 0 rfl) ?_))
         have I2 := I8.out.putNum 0 rfl false none 0 0 rfl
         have HX := HE.out _ I2 HN2.out
         rw [HK2.out] at HX
         exact bodyPost_ret (v := .tuple #[.agg #[.bool false, .slice none 0 0], .int .i64 9]) (results_numI rfl rfl rfl (I2.num 0 rfl)) rfl (by rw [HK2.out]; exact HX)
       ·refine rs_of rfl rfl (wp_callx rfl nbEnters_small7 rfl (HSB.out _) (fun q2 V2 hV => ⟨trivial, ?_⟩))
        obtain ⟨A2, c2⟩ := q2
        obtain ⟨g2, hV⟩ := hV
        replace hI := hI.below hV
        clear hV
        simp only [zA, zB, zC, Act.put, zD, zE, zF]
        refine rg_one 0 (by kernel_rfl) (rs_of rfl rfl (wp_value (ld_num (.tmp 7) rfl rfl (hI.num 1 rfl)) ⟨trivial, ?_⟩))
        simp only [zA, zB, zC, Act.put, zD, zE, zF]
        refine rg_one 3 (by kernel_rfl) (rs_of rfl rfl (wp_callx rfl nbEnters_mul7 rfl (HMU.out c2 A2 _ (hI.dig 0 rfl) g2) (fun q3 V3 hV => ⟨trivial, ?_⟩)))
        obtain ⟨A3, c3⟩ := q3
        obtain ⟨g3, hV⟩ := hV
        replace hI := hI.below hV
        clear hV g2
        simp only [zA, zB, zC, Act.put, zD, zE, zF]
        refine rg_one 7 (by kernel_rfl) (rs_of rfl rfl (wp_call rfl nbEnters_digit7 rfl (HDG.out _) (fun V4 hV => ⟨trivial, ?_⟩)))
        subst hV
        simp only [zA, zB, zC, Act.put, zD, zE, zF]
        refine rg_one 8 (by kernel_rfl) (rs_of rfl rfl (wp_callx rfl nbEnters_small7 rfl (HSD.out _) (fun q5 V5 hV => ⟨trivial, ?_⟩)))
        obtain ⟨A5, c5⟩ := q5
        obtain ⟨g5, hV⟩ := hV
        replace hI := hI.below hV
        replace g3 := g3.below hV
        clear hV
        simp only [zA, zB, zC, Act.put, zD, zE, zF]
        refine rg_one 9 (by kernel_rfl) (rs_of rfl rfl (wp_callx rfl nbEnters_add7 rfl (HAD.out c3 c5 A3 A5 _ g3 g5) (fun q6 V6 hV => ⟨trivial, ?_⟩)))
        obtain ⟨A6, c6⟩ := q6
        obtain ⟨g6, hV⟩ := hV
        replace hI := (hI.below hV).pushDig g6
        clear hV g3 g5 g6
        simp only [zA, zB, zC, Act.put, zD, zE, zF]
        refine rg_one 10 (by kernel_rfl) (rs_of rfl rfl (stores_num (.tmp 7) (.tmp 56) rfl (b := T) (t := false) (B := A6) (M := P) (cb := c6) rfl rfl (hI.num 2 rfl) ⟨trivial, ?_⟩))
        replace hI := hI.putNum 2 rfl false A6 P c6 rfl
        generalize st2 V6 T false A6 P c6 = V7 at *
        simp only [zA, zB, zC, Act.put, zD, zE, zF]
        refine wpAnyH_done (by kernel_rfl) ?_ _
        have I7 := Lib.hid hI
        clear hI hS
        obtain ⟨p0, p1, p2, p3⟩ := I7.out.num 2 rfl
        by_cases h32 : P ≤ 32
        ·have hpz : ¬ (32 : Int) < (P : Int) := by omega
         have HFP := Lib.hid (HPP.out.2 h32)
         clear h32
         go_wp2_with fail
         go_roundg (s.size - i)
         case measure => have := HJ2.out; omega
         case rel => exact ⟨i + 1, P, c6, p, A6, by go_num, by show _ = _; have := HJ2.out; omega, by omega, ⟨HPV.out, HFP.out⟩, (I7.out.sub (.cons_cons _ (.cons _ (List.Sublist.refl _))))⟩
        ·have hpz : (32 : Int) < (P : Int) := by omega
         have HNF : Hid (¬ Fits (num B s.data.toList)) := fun hf => h32 (HPP.out.1 (Nat.lt_of_le_of_lt (by rw [← HPV.out]; exact HT.out _) hf))
         have HPK := Lib.hid (parK_over HOD.out HNE.out HNF.out)
         have HPN := Lib.hid (parN_no (B := B) (l := s.data.toList) (by rw [HPK.out]; decide))
         have HK2 : Hid (K = 9) := hK.out.symm.trans HPK.out
         have HN2 : Hid (N = 0) := hN.out.symm.trans HPN.out
         have I8 := Lib.hid (I7.out.sub (.cons _ (.cons _ (.cons _ (List.Sublist.refl _)))))
         clear h32 HPK HPN
         go_wp2_with (first | (with_reducible refine wpList_val (v := .agg #[.bool false, .slice none 0 0]) rfl (build_num rfl) ?_) | (with_reducible refine wpList_store_num rfl (.tmp 4) (.tmp 61) rfl (b := S) (t := false) (B := none) (M := 0) (d := 0) rfl rfl (I8.out.num 0 rfl) ?_))
         have I2 := I8.out.putNum 0 rfl false none 0 0 rfl
         have HX := HE.out _ I2 HN2.out
         rw [HK2.out] at HX
         exact bodyPost_ret (v := .tuple #[.agg #[.bool false, .slice none 0 0], .int .i64 9]) (results_numI rfl rfl rfl (I2.num 0 rfl)) rfl (by rw [HK2.out]; exact HX)
      ·obtain rfl : i = s.size := by omega
       have HV1 := HV.out.1
       have HV2 := HV.out.2
       rw [take_all] at HV1
       have HPK := parK_ok HOD.out HNE.out (show Fits (num B s.data.toList) by rw [HV1]; exact HV2)
       have HK2 : Hid (K = 0) := hK.out.symm.trans HPK
       have HN2 : Hid (N = v) := by
        have h1 := hN.out
        rw [parN_ok HPK, HV1] at h1
        exact h1.symm
       have HM2 : Hid (M = L) := by
        show _ = _
        rw [← hM.out, HN2.out]
        exact (I.out.dig 0 rfl).len
       clear HPK HV1 HV2
       go_wp2_with (first | (with_reducible refine wpList_load_num rfl (.tmp 7) rfl rfl (I.out.num 1 rfl) ?_) | (with_reducible refine wpList_store_num rfl (.tmp 4) (.tmp 62) rfl (b := S) (t := false) (B := A) (M := L) (d := cA) rfl rfl (I.out.num 2 rfl) ?_))
       have I2 := I.out.putNum 2 rfl false A L cA rfl
       refine bodyPost_ret (v := .tuple #[.agg #[.bool false, .slice A L cA], .int .i64 0]) (results_numI rfl rfl rfl (I2.num 2 rfl)) rfl ?_
       rw [HK2.out, HN2.out, HM2.out]
       exact ⟨(A, cA), rfl, I2.dig 0 rfl, by rw [hS]; exact I2.bl⟩
  ·go_enter Tryz.func65, Tryz.ntmps65
   go_wp2_with fail
   clear hW
   go_loopg [6] (s.size + 1) (fun h s6 wr => ∃ i : Nat, s6 = .int .i64 (i : Int) ∧ Hid (i + h = s.size + 1) ∧ i ≤ s.size ∧ Hid (∀ k c, k < i → s.data.toList[k]? = some c → dvN c.toNat < B) ∧ wr = W)
   case atStart => exact ⟨0, rfl, by show _ = _; omega, by omega, fun k c hk _ => absurd hk (by omega), rfl⟩
   case round =>
    obtain ⟨i, rfl, HJ, hin, HD, rfl⟩ := hrel
    by_cases hlt : i < s.size
    ·have hiz : (i : Int) < (s.size : Int) := by omega
     obtain ⟨c, hc⟩ := get_of_lt hlt
     have hx := index_at hc
     have HDG := Lib.hid (fun V => Digit_run7 c.toNat V)
     by_cases hdb : dvN c.toNat < B
     ·have HD2 : Hid (∀ k c, k < i + 1 → s.data.toList[k]? = some c → dvN c.toNat < B) := fun k x hk h9 => by
       by_cases e : k = i
       ·rw [e, hc] at h9; cases h9; exact hdb
       ·exact HD.out k x (by omega) h9
      have hdz := Lib.hid (show (rdN c.toNat : Int) < (B : Int) by have := (rd_lt (c := c.toNat) hB2.2).2 hdb; omega)
      rw [hzB.out] at hdz
      have hdz := hdz.out
      clear hc hdb
      generalize rdN c.toNat = d at *
      generalize c.toNat = cn at *
      go_wp2_with fail
      refine (HDG.out _).mono ?_
      rintro e w3 ⟨rfl, rfl⟩
      go_wp2_with fail
      go_roundg (s.size - i)
      case measure => have := HJ.out; omega
      case rel => exact ⟨i + 1, by go_num, by show _ = _; have := HJ.out; omega, by omega, HD2, rfl⟩
     ·have HPK := Lib.hid (parK_dig (okDig_not hc hdb) HNE.out)
      have HPN := Lib.hid (parN_no (B := B) (l := s.data.toList) (by rw [HPK.out]; decide))
      have hdz : (B : Int) ≤ (rdN c.toNat : Int) := by have := (not_congr (rd_lt (c := c.toNat) hB2.2)).2 hdb; omega
      rw [hzB.out] at hdz
      have HK2 : Hid (K = 13) := hK.out.symm.trans HPK.out
      have HN2 : Hid (N = 0) := hN.out.symm.trans HPN.out
      clear hc hdb HPK HPN
      generalize rdN c.toNat = d at *
      generalize c.toNat = cn at *
      go_wp2_with fail
      refine (HDG.out _).mono ?_
      rintro e w3 ⟨rfl, rfl⟩
      go_wp2_with (first | (with_reducible refine wpList_val (v := .agg #[.bool false, .slice none 0 0]) rfl (build_num rfl) ?_) | (with_reducible refine wpList_store_num rfl (.tmp 4) (.tmp 40) rfl (b := S) (t := false) (B := none) (M := 0) (d := 0) rfl rfl (I.out.num 0 rfl) ?_))
      have I2 := I.out.putNum 0 rfl false none 0 0 rfl
      have HX := HE.out _ I2 HN2.out
      rw [HK2.out] at HX
      exact bodyPost_ret (v := .tuple #[.agg #[.bool false, .slice none 0 0], .int .i64 13]) (results_numI rfl rfl rfl (I2.num 0 rfl)) rfl (by rw [HK2.out]; exact HX)
    ·obtain rfl : i = s.size := by omega
     have HOD : Hid (okDig B s.data.toList = true) := okDig_of (fun k c h => HD.out k c (by have := (List.getElem?_eq_some_iff.1 h).1; simpa using this) h)
     clear HD
     obtain ⟨T, hT⟩ : ∃ T, wr.heap.size = T := ⟨_, rfl⟩
     have I1 := Lib.hid (I.out.pushNum hT false none 0 0)
     have HTS : Hid (S ≤ T) := by show S ≤ T; rw [← hT]; exact I.out.sz
     obtain ⟨W1, hW1⟩ : ∃ W1, wr.alloc (boxN false none 0 0) = W1 := ⟨_, rfl⟩
     rw [hW1] at I1
     go_wp2_with fail
     clear hW1
     have HJ0 : Hid (Bs w S [.dig false none 0 0 0, .num T false none 0 0, .num S false none 0 0] W1) := I1.out.pushDig (nil_good W1)
     clear I1 I
     go_loopg [8] (s.size + 1) (fun h s8 wr => ∃ (i L cA v : Nat) (A : Option Addr), s8 = .int .i64 (i : Int) ∧ Hid (i + h = s.size + 1) ∧ i ≤ s.size ∧ Hid (num B (s.data.toList.take i) = v ∧ Fits v) ∧ Hid (Bs w S [.dig false A L cA v, .num T false A L cA, .num S false none 0 0] wr))
     case atStart => exact ⟨0, 0, 0, 0, none, rfl, by show _ = _; omega, by omega, ⟨rfl, Nat.pow_pos (by decide)⟩, HJ0⟩
     case round =>
      clear HJ0
      obtain ⟨i, L, cA, v, A, rfl, HJ2, hin2, HV, I⟩ := hrel
      by_cases hlt : i < s.size
      ·have hiz : (i : Int) < (s.size : Int) := by omega
       obtain ⟨c, hc⟩ := get_of_lt hlt
       have hix := index_at hc
       have hdB := okDig_get HOD.out hc
       have hrd : rdN c.toNat = dvN c.toNat := by unfold rdN; rw [if_pos (by omega)]
       have HDG : Hid (∀ V, Calls Tryz.prog 103 #[.int .u8 (c.toNat : Int)] V fun e w' => e = .returned (.int .i64 (dvN c.toNat : Int)) ∧ w' = V) := fun V => by
        have := Digit_run7 c.toNat V
        rwa [hrd] at this
       have HS : Hid (num B (s.data.toList.take (i + 1)) = v * B + dvN c.toNat) := by
        show _ = _
        rw [take_succ_of hc, num_snoc, HV.out.1]
       have HT : Hid (∀ k, num B (s.data.toList.take k) ≤ num B s.data.toList) := fun k => num_take (by omega) _ k
       have hd16 : dvN c.toNat ≤ 16 := dvN_le _
       generalize dvN c.toNat = d at *
       generalize c.toNat = cn at *
       obtain ⟨r, hr⟩ : ∃ r, v * B = r := ⟨_, rfl⟩
       obtain ⟨R, hR⟩ : ∃ R, nl r = R := ⟨_, rfl⟩
       obtain ⟨p, hp⟩ : ∃ p, r + d = p := ⟨_, rfl⟩
       obtain ⟨P, hP⟩ : ∃ P, nl p = P := ⟨_, rfl⟩
       obtain ⟨MB, hMB⟩ : ∃ M, nl B = M := ⟨_, rfl⟩
       obtain ⟨MD, hMD⟩ : ∃ M, nl d = M := ⟨_, rfl⟩
       have b1 : L ≤ 32 := by
        have h1 := (I.out.dig 0 rfl).len
        have h2 := fits_nl.1 HV.out.2
        omega
       have b2 : MB ≤ 1 := by rw [← hMB]; exact nl_le (by omega)
       have b3 : MD ≤ 1 := by rw [← hMD]; exact nl_le (by omega)
       have b4 : R ≤ 33 := by
        rw [← hR, ← hr]
        have h1 := nl_mul_le v B
        have h2 := fits_nl.1 HV.out.2
        omega
       have HSB := Lib.hid (fun V => Small_run 16 false B MB V (by omega) (show Int.natAbs 16 = B by have := hzB.out; omega) hMB (show decide ((16 : Int) < 0) = false by decide))
       have HSD := Lib.hid (fun V => Small_run (d : Int) false d MD V (by omega) (show Int.natAbs (d : Int) = d by omega) hMD (by show decide ((d : Int) < 0) = false; simp))
       have HMU : Hid (∀ cA2 (A2 : Option Addr) V, Good V false A L cA v → Good V false A2 MB cA2 B → Calls Tryz.prog 85 #[.agg #[.bool false, .slice A L cA], .agg #[.bool false, .slice A2 MB cA2]] V (NumOut false R r V)) := fun cA2 A2 V h1 h2 => nbMul_out (by omega) hr hR V h1 h2
       have HAD : Hid (∀ cA1 cA2 (A1 A2 : Option Addr) V, Good V false A1 R cA1 r → Good V false A2 MD cA2 d → Calls Tryz.prog 104 #[.agg #[.bool false, .slice A1 R cA1], .agg #[.bool false, .slice A2 MD cA2]] V (NumOut false P p V)) := fun cA1 cA2 A1 A2 V h1 h2 => nbAdd_out (by omega) hp hP V h1 h2
       have HPV : Hid (num B (s.data.toList.take (i + 1)) = p) := by show _ = _; rw [HS.out, hr, hp]
       have HPP : Hid (Fits p ↔ P ≤ 32) := by rw [← hP]; exact fits_nl
       clear hr hR hp hP hMB hMD HS b1 b2 b3 b4 hc hrd
       go_wp2_with fail
       refine rg_begin (fun _ => True) (by kernel_rfl) trivial (fun hS => ?_)
       have hI := I.out.drew
       clear I
       refine rg_take 1 (.int .i64 16) rfl (by kernel_rfl) (by kernel_rfl) (by kernel_rfl) (fun _ _ _ h => h) rfl (fun w _ => ?_) hS ?_
       ·go_simp
       simp only [zA, zB, zC, Act.put, zD, zE, zF]
       refine rg_take 4 (.string s) rfl (by kernel_rfl) (by kernel_rfl) (by kernel_rfl) (fun _ _ _ h => h) rfl (fun w _ => ?_) hS ?_
       ·go_simp
       simp only [zA, zB, zC, Act.put, zD, zE, zF]
       refine rg_take 5 (.int .i64 (i : Int)) rfl (by kernel_rfl) (by kernel_rfl) (by kernel_rfl) (fun _ _ _ h => h) rfl (fun w _ => ?_) hS ?_
       ·go_simp
       simp only [zA, zB, zC, Act.put, zD, zE, zF]
       refine rg_take 6 (.int .u8 (cn : Int)) rfl (by kernel_rfl) (by kernel_rfl) (by kernel_rfl) (fun _ _ _ h => h) rfl (fun w hSw => idx_run (x := .tmp 51) (y := .tmp 52) rfl rfl rfl hix) hS ?_
       simp only [zA, zB, zC, Act.put, zD, zE, zF]
       generalize wr.drew = V0 at *
       refine rg_two 0 2 (by kernel_rfl) ?_ ?_
       ·refine rs_of rfl rfl (wp_value (ld_num (.tmp 7) rfl rfl (hI.num 1 rfl)) ⟨trivial, ?_⟩)
        simp only [zA, zB, zC, Act.put, zD, zE, zF]
        refine rg_one 2 (by kernel_rfl) (rs_of rfl rfl (wp_callx rfl nbEnters_small7 rfl (HSB.out _) (fun q2 V2 hV => ⟨trivial, ?_⟩)))
        obtain ⟨A2, c2⟩ := q2
        obtain ⟨g2, hV⟩ := hV
        replace hI := hI.below hV
        clear hV
        simp only [zA, zB, zC, Act.put, zD, zE, zF]
        refine rg_one 3 (by kernel_rfl) (rs_of rfl rfl (wp_callx rfl nbEnters_mul7 rfl (HMU.out c2 A2 _ (hI.dig 0 rfl) g2) (fun q3 V3 hV => ⟨trivial, ?_⟩)))
        obtain ⟨A3, c3⟩ := q3
        obtain ⟨g3, hV⟩ := hV
        replace hI := hI.below hV
        clear hV g2
        simp only [zA, zB, zC, Act.put, zD, zE, zF]
        refine rg_one 7 (by kernel_rfl) (rs_of rfl rfl (wp_call rfl nbEnters_digit7 rfl (HDG.out _) (fun V4 hV => ⟨trivial, ?_⟩)))
        subst hV
        simp only [zA, zB, zC, Act.put, zD, zE, zF]
        refine rg_one 8 (by kernel_rfl) (rs_of rfl rfl (wp_callx rfl nbEnters_small7 rfl (HSD.out _) (fun q5 V5 hV => ⟨trivial, ?_⟩)))
        obtain ⟨A5, c5⟩ := q5
        obtain ⟨g5, hV⟩ := hV
        replace hI := hI.below hV
        replace g3 := g3.below hV
        clear hV
        simp only [zA, zB, zC, Act.put, zD, zE, zF]
        refine rg_one 9 (by kernel_rfl) (rs_of rfl rfl (wp_callx rfl nbEnters_add7 rfl (HAD.out c3 c5 A3 A5 _ g3 g5) (fun q6 V6 hV => ⟨trivial, ?_⟩)))
        obtain ⟨A6, c6⟩ := q6
        obtain ⟨g6, hV⟩ := hV
        replace hI := (hI.below hV).pushDig g6
        clear hV g3 g5 g6
        simp only [zA, zB, zC, Act.put, zD, zE, zF]
        refine rg_one 10 (by kernel_rfl) (rs_of rfl rfl (stores_num (.tmp 7) (.tmp 56) rfl (b := T) (t := false) (B := A6) (M := P) (cb := c6) rfl rfl (hI.num 2 rfl) ⟨trivial, ?_⟩))
        replace hI := hI.putNum 2 rfl false A6 P c6 rfl
        generalize st2 V6 T false A6 P c6 = V7 at *
        simp only [zA, zB, zC, Act.put, zD, zE, zF]
        refine wpAnyH_done (by kernel_rfl) ?_ _
        have I7 := Lib.hid hI
        clear hI hS
        obtain ⟨p0, p1, p2, p3⟩ := I7.out.num 2 rfl
        by_cases h32 : P ≤ 32
        ·have hpz : ¬ (32 : Int) < (P : Int) := by omega
         have HFP := Lib.hid (HPP.out.2 h32)
         clear h32
         go_wp2_with fail
         go_roundg (s.size - i)
         case measure => have := HJ2.out; omega
         case rel => exact ⟨i + 1, P, c6, p, A6, by go_num, by show _ = _; have := HJ2.out; omega, by omega, ⟨HPV.out, HFP.out⟩, (I7.out.sub (.cons_cons _ (.cons _ (List.Sublist.refl _))))⟩
        ·have hpz : (32 : Int) < (P : Int) := by omega
         have HNF : Hid (¬ Fits (num B s.data.toList)) := fun hf => h32 (HPP.out.1 (Nat.lt_of_le_of_lt (by rw [← HPV.out]; exact HT.out _) hf))
         have HPK := Lib.hid (parK_over HOD.out HNE.out HNF.out)
         have HPN := Lib.hid (parN_no (B := B) (l := s.data.toList) (by rw [HPK.out]; decide))
         have HK2 : Hid (K = 9) := hK.out.symm.trans HPK.out
         have HN2 : Hid (N = 0) := hN.out.symm.trans HPN.out
         have I8 := Lib.hid (I7.out.sub (.cons _ (.cons _ (.cons _ (List.Sublist.refl _)))))
         clear h32 HPK HPN
         go_wp2_with (first | (with_reducible refine wpList_val (v := .agg #[.bool false, .slice none 0 0]) rfl (build_num rfl) ?_) | (with_reducible refine wpList_store_num rfl (.tmp 4) (.tmp 61) rfl (b := S) (t := false) (B := none) (M := 0) (d := 0) rfl rfl (I8.out.num 0 rfl) ?_))
         have I2 := I8.out.putNum 0 rfl false none 0 0 rfl
         have HX := HE.out _ I2 HN2.out
         rw [HK2.out] at HX
         exact bodyPost_ret (v := .tuple #[.agg #[.bool false, .slice none 0 0], .int .i64 9]) (results_numI rfl rfl rfl (I2.num 0 rfl)) rfl (by rw [HK2.out]; exact HX)
       ·refine rs_of rfl rfl (wp_callx rfl nbEnters_small7 rfl (HSB.out _) (fun q2 V2 hV => ⟨trivial, ?_⟩))
        obtain ⟨A2, c2⟩ := q2
        obtain ⟨g2, hV⟩ := hV
        replace hI := hI.below hV
        clear hV
        simp only [zA, zB, zC, Act.put, zD, zE, zF]
        refine rg_one 0 (by kernel_rfl) (rs_of rfl rfl (wp_value (ld_num (.tmp 7) rfl rfl (hI.num 1 rfl)) ⟨trivial, ?_⟩))
        simp only [zA, zB, zC, Act.put, zD, zE, zF]
        refine rg_one 3 (by kernel_rfl) (rs_of rfl rfl (wp_callx rfl nbEnters_mul7 rfl (HMU.out c2 A2 _ (hI.dig 0 rfl) g2) (fun q3 V3 hV => ⟨trivial, ?_⟩)))
        obtain ⟨A3, c3⟩ := q3
        obtain ⟨g3, hV⟩ := hV
        replace hI := hI.below hV
        clear hV g2
        simp only [zA, zB, zC, Act.put, zD, zE, zF]
        refine rg_one 7 (by kernel_rfl) (rs_of rfl rfl (wp_call rfl nbEnters_digit7 rfl (HDG.out _) (fun V4 hV => ⟨trivial, ?_⟩)))
        subst hV
        simp only [zA, zB, zC, Act.put, zD, zE, zF]
        refine rg_one 8 (by kernel_rfl) (rs_of rfl rfl (wp_callx rfl nbEnters_small7 rfl (HSD.out _) (fun q5 V5 hV => ⟨trivial, ?_⟩)))
        obtain ⟨A5, c5⟩ := q5
        obtain ⟨g5, hV⟩ := hV
        replace hI := hI.below hV
        replace g3 := g3.below hV
        clear hV
        simp only [zA, zB, zC, Act.put, zD, zE, zF]
        refine rg_one 9 (by kernel_rfl) (rs_of rfl rfl (wp_callx rfl nbEnters_add7 rfl (HAD.out c3 c5 A3 A5 _ g3 g5) (fun q6 V6 hV => ⟨trivial, ?_⟩)))
        obtain ⟨A6, c6⟩ := q6
        obtain ⟨g6, hV⟩ := hV
        replace hI := (hI.below hV).pushDig g6
        clear hV g3 g5 g6
        simp only [zA, zB, zC, Act.put, zD, zE, zF]
        refine rg_one 10 (by kernel_rfl) (rs_of rfl rfl (stores_num (.tmp 7) (.tmp 56) rfl (b := T) (t := false) (B := A6) (M := P) (cb := c6) rfl rfl (hI.num 2 rfl) ⟨trivial, ?_⟩))
        replace hI := hI.putNum 2 rfl false A6 P c6 rfl
        generalize st2 V6 T false A6 P c6 = V7 at *
        simp only [zA, zB, zC, Act.put, zD, zE, zF]
        refine wpAnyH_done (by kernel_rfl) ?_ _
        have I7 := Lib.hid hI
        clear hI hS
        obtain ⟨p0, p1, p2, p3⟩ := I7.out.num 2 rfl
        by_cases h32 : P ≤ 32
        ·have hpz : ¬ (32 : Int) < (P : Int) := by omega
         have HFP := Lib.hid (HPP.out.2 h32)
         clear h32
         go_wp2_with fail
         go_roundg (s.size - i)
         case measure => have := HJ2.out; omega
         case rel => exact ⟨i + 1, P, c6, p, A6, by go_num, by show _ = _; have := HJ2.out; omega, by omega, ⟨HPV.out, HFP.out⟩, (I7.out.sub (.cons_cons _ (.cons _ (List.Sublist.refl _))))⟩
        ·have hpz : (32 : Int) < (P : Int) := by omega
         have HNF : Hid (¬ Fits (num B s.data.toList)) := fun hf => h32 (HPP.out.1 (Nat.lt_of_le_of_lt (by rw [← HPV.out]; exact HT.out _) hf))
         have HPK := Lib.hid (parK_over HOD.out HNE.out HNF.out)
         have HPN := Lib.hid (parN_no (B := B) (l := s.data.toList) (by rw [HPK.out]; decide))
         have HK2 : Hid (K = 9) := hK.out.symm.trans HPK.out
         have HN2 : Hid (N = 0) := hN.out.symm.trans HPN.out
         have I8 := Lib.hid (I7.out.sub (.cons _ (.cons _ (.cons _ (List.Sublist.refl _)))))
         clear h32 HPK HPN
         go_wp2_with (first | (with_reducible refine wpList_val (v := .agg #[.bool false, .slice none 0 0]) rfl (build_num rfl) ?_) | (with_reducible refine wpList_store_num rfl (.tmp 4) (.tmp 61) rfl (b := S) (t := false) (B := none) (M := 0) (d := 0) rfl rfl (I8.out.num 0 rfl) ?_))
         have I2 := I8.out.putNum 0 rfl false none 0 0 rfl
         have HX := HE.out _ I2 HN2.out
         rw [HK2.out] at HX
         exact bodyPost_ret (v := .tuple #[.agg #[.bool false, .slice none 0 0], .int .i64 9]) (results_numI rfl rfl rfl (I2.num 0 rfl)) rfl (by rw [HK2.out]; exact HX)
      ·obtain rfl : i = s.size := by omega
       have HV1 := HV.out.1
       have HV2 := HV.out.2
       rw [take_all] at HV1
       have HPK := parK_ok HOD.out HNE.out (show Fits (num B s.data.toList) by rw [HV1]; exact HV2)
       have HK2 : Hid (K = 0) := hK.out.symm.trans HPK
       have HN2 : Hid (N = v) := by
        have h1 := hN.out
        rw [parN_ok HPK, HV1] at h1
        exact h1.symm
       have HM2 : Hid (M = L) := by
        show _ = _
        rw [← hM.out, HN2.out]
        exact (I.out.dig 0 rfl).len
       clear HPK HV1 HV2
       go_wp2_with (first | (with_reducible refine wpList_load_num rfl (.tmp 7) rfl rfl (I.out.num 1 rfl) ?_) | (with_reducible refine wpList_store_num rfl (.tmp 4) (.tmp 62) rfl (b := S) (t := false) (B := A) (M := L) (d := cA) rfl rfl (I.out.num 2 rfl) ?_))
       have I2 := I.out.putNum 2 rfl false A L cA rfl
       refine bodyPost_ret (v := .tuple #[.agg #[.bool false, .slice A L cA], .int .i64 0]) (results_numI rfl rfl rfl (I2.num 2 rfl)) rfl ?_
       rw [HK2.out, HN2.out, HM2.out]
       exact ⟨(A, cA), rfl, I2.dig 0 rfl, by rw [hS]; exact I2.bl⟩
end Go.Proofs.YtgoemhcngmpfbaaGreatDoor
