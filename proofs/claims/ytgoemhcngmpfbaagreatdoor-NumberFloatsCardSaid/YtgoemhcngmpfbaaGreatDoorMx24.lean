/-
  The document's quotient and remainder, bit by bit.
-/
import Derived.Test.YtgoemhcngmpfbaaGreatDoorMx18
namespace Go.Proofs.YtgoemhcngmpfbaaGreatDoor
open Go.RowKit Go.Sort
set_option linter.unusedSimpArgs false
theorem four_nums (w : World) (s : Bool) (A : Option Addr) (L ca : Nat) (t : Bool) (B : Option Addr) (M cb S : Nat) (hS : w.heap.size = S) : NumAt ((((w.alloc (boxN s A L ca)).alloc (boxN t B M cb)).alloc boxNZ).alloc boxNZ) S s A L ca ∧ NumAt ((((w.alloc (boxN s A L ca)).alloc (boxN t B M cb)).alloc boxNZ).alloc boxNZ) (S + 1) t B M cb ∧ NumAt ((((w.alloc (boxN s A L ca)).alloc (boxN t B M cb)).alloc boxNZ).alloc boxNZ) (S + 1 + 1) false none 0 0 ∧ NumAt ((((w.alloc (boxN s A L ca)).alloc (boxN t B M cb)).alloc boxNZ).alloc boxNZ) (S + 1 + 1 + 1) false none 0 0 ∧ Below S w ((((w.alloc (boxN s A L ca)).alloc (boxN t B M cb)).alloc boxNZ).alloc boxNZ) ∧ ((((w.alloc (boxN s A L ca)).alloc (boxN t B M cb)).alloc boxNZ).alloc boxNZ).heap.size = S + 1 + 1 + 1 + 1 := by
 obtain ⟨h1, h2, h3, h4, h5⟩ := three_nums w s A L ca t B M cb S hS
 refine ⟨h1.alloc _, h2.alloc _, h3.alloc _, ?_, h4.alloc (by omega) _, by simp [hS]⟩
 have := NumAt.new (((w.alloc (boxN s A L ca)).alloc (boxN t B M cb)).alloc boxNZ) false none 0 0
 rwa [h5] at this
structure Rest (w : World) (g : Nat) (C : Option Addr) (l c x : Nat) : Prop where
 digs : DgAt w C l x
 len : nl x = l
 cap : Cap l c
 ne : ∀ b o, C = some ⟨b, o, none⟩ → b ≠ g
theorem Rest.below {w w' : World} {g l c x : Nat} {C : Option Addr} (h : Rest w g C l c x) (hb : Below w.heap.size w w') : Rest w' g C l c x := ⟨h.digs.below hb, h.len, h.cap, h.ne⟩
theorem Rest.drew {w : World} {g l c x : Nat} {C : Option Addr} (h : Rest w g C l c x) : Rest w.drew g C l c x := ⟨h.digs, h.len, h.cap, h.ne⟩
theorem Rest.set {w : World} {g l c x i : Nat} {C : Option Addr} (h : Rest w g C l c x) (v : Value) : Rest (w.setCell ⟨g, i, none⟩ v) g C l c x := ⟨h.digs.setOther h.ne v, h.len, h.cap, h.ne⟩
theorem fieldN (C : Option Addr) (l c : Nat) (w : World) : (Instr.field 57 (.agg #[.bool false, .slice C l c]) 1).run Tryz.prog w = .ok (.slice C l c) w := by kernel_rfl
theorem wraps64 (n : Int) (h0 : 0 ≤ n) (h1 : n < 2 ^ 63) : IntKind.i64.wrap n = n := by rw [IntKind.wrap_i64]; omega
theorem bit_of {x k e : Nat} (hx : x < 65536) (he : x / 2 ^ k % 2 = e) : bits .and .i64 ((x : Int) / 2 ^ k) 1 = (e : Int) := by
 have h1 : ((x : Int) / 2 ^ k) = ((x / 2 ^ k : Nat) : Int) := by simp
 have h2 : x / 2 ^ k ≤ x := Nat.div_le_self _ _
 rw [h1]
 generalize x / 2 ^ k = y at *
 have := bits_mask .i64 63 (by decide) wraps64 1 (by decide) (y : Int) (by omega) (by omega)
 have e2 : ((2 : Int) ^ 1 - 1) = 1 := by decide
 simp only [e2] at this
 rw [this]
 omega
theorem shl_bit (k : Nat) (hk : k < 16) : wrap64 ((2 : Int) ^ k) = ((2 ^ k : Nat) : Int) := by
 have hlt := Nat.pow_lt_pow_right (a := 2) (by decide) hk
 have e : ((2 : Int) ^ k) = ((2 ^ k : Nat) : Int) := by simp
 rw [e]
 generalize 2 ^ k = y at hlt
 unfold wrap64
 omega
structure DvF (w2 W : World) (S L : Nat) (f : Nat → Nat) : Prop where
 fr : Below (S + 1 + 1 + 1 + 1) w2 W
 dg : DigF W (S + 1 + 1 + 1 + 1) f L
 sz : S + 1 + 1 + 1 + 1 + 1 ≤ W.heap.size
theorem DvF.below {w2 W V : World} {S L : Nat} {f : Nat → Nat} (h : DvF w2 W S L f) (hb : Below W.heap.size W V) : DvF w2 V S L f :=
 ⟨h.fr.trans (hb.mono (by have := h.sz; omega)), h.dg.keep hb (by have := h.sz; omega), Nat.le_trans h.sz hb.size⟩
theorem Fresh.ne {w : World} {C : Option Addr} {g : Nat} (h : Fresh w C) (hg : g < w.heap.size) : ∀ b o, C = some ⟨b, o, none⟩ → b ≠ g := fun b o e => by
 have := h b o e
 omega
set_option maxRecDepth 100000 in
set_option maxHeartbeats 8000000 in
theorem Div_run7 (s : Bool) (A : Option Addr) (L ca n : Nat) (t : Bool) (B : Option Addr) (M cb m : Nat) (z1 z2 : Bool) (q Q r R : Nat) (w : World) (ha : Hid (Good w s A L ca n)) (hb : Hid (Good w t B M cb m)) (hs : L + M ≤ 4000) (hm : Hid (0 < m))
  (hz1 : Hid (sgn (s != t) q = z1)) (hq : Hid (n / m = q)) (hQ : Hid (nl q = Q)) (hz2 : Hid (sgn s r = z2)) (hr : Hid (n % m = r)) (hR : Hid (nl r = R)) :
  Calls Tryz.prog 43 #[.agg #[.bool s, .slice A L ca], .agg #[.bool t, .slice B M cb]] w fun e w' => ∃ C cc D cd, e = .returned (.tuple #[.agg #[.bool z1, .slice C Q cc], .agg #[.bool z2, .slice D R cd]]) ∧ Good w' z1 C Q cc q ∧ Good w' z2 D R cd r ∧ Below w.heap.size w w' := by
 have hcp := ha.out.cap
 have hcq := hb.out.cap
 unfold Cap at hcp hcq
 obtain ⟨S, hS⟩ : ∃ S, w.heap.size = S := ⟨_, rfl⟩
 obtain ⟨W0, hW0⟩ : ∃ W0, (((w.alloc (boxN s A L ca)).alloc (boxN t B M cb)).alloc boxNZ).alloc boxNZ = W0 := ⟨_, rfl⟩
 have H0 := four_nums w s A L ca t B M cb S hS
 rw [hW0] at H0
 obtain ⟨w2, hmk, HD, HW, hsz⟩ := make_digs W0 L (by omega)
 rw [H0.2.2.2.2.2] at hmk HD HW hsz
 have HP := Lib.hid (H0.1.keep HW (by omega))
 have HQ := Lib.hid (H0.2.1.keep HW (by omega))
 have HN := Lib.hid (H0.2.2.1.keep HW (by omega))
 have HN2 := Lib.hid (H0.2.2.2.1.keep HW (by omega))
 have HB : Hid (Below S w w2) := H0.2.2.2.2.1.trans (HW.mono (by omega))
 have HZ : Hid (S + 1 + 1 + 1 + 1 + 1 ≤ w2.heap.size) := hsz
 have HD2 := Lib.hid HD
 obtain ⟨p0, q0, p1, q1⟩ := H0.1
 obtain ⟨p2, q2, p3, q3⟩ := HP.out
 clear H0 HD HW hsz
 rw [hS]
 go_enter Tryz.func43, Tryz.ntmps43
 go_wp2_with fail
 clear hW0 hmk p0 p1 q0 q1 p2 q2 p3 q3
 go_loopg [6, 8] (L + 1) (fun h s6 s8 wr => ∃ (y : Int) (j : Nat) (C : Option Addr) (l c : Nat) (f : Nat → Nat), s6 = .slice C l c ∧ s8 = .int .i64 y ∧ Hid (y = (j : Int) - 1 ∧ j < h) ∧ j ≤ L ∧ Hid (Rest wr (S + 1 + 1 + 1 + 1) C l c (rm n m (16 * j))) ∧ Hid (DigF wr (S + 1 + 1 + 1 + 1) f L) ∧ Hid (∀ i, i < L → f i = if i < j then 0 else dg (n / m) i) ∧ Hid (Below (S + 1 + 1 + 1 + 1) w2 wr) ∧ Hid (S + 1 + 1 + 1 + 1 + 1 ≤ wr.heap.size))
 case atStart =>
  refine ⟨(L : Int) - 1, L, none, 0, 0, fun _ => 0, rfl, by go_num, by show _ ∧ _; omega, Nat.le_refl _, ⟨DgAt.nil, ?_, ⟨Nat.le_refl _, by omega⟩, fun b o e => by cases e⟩, HD2, fun i hi => by rw [if_pos hi], Below.refl _ _, HZ⟩
  rw [rm_start (by rw [← pow_bits, ← ha.out.len]; exact lt_nl n), nl_zero]
 case round =>
  obtain ⟨y, j, C, l, c, f, rfl, rfl, HJ, hjL, HC, HF, HE, HW, HY⟩ := hrel
  cases j with
  | zero =>
   obtain rfl : y = -1 := by have := HJ.out.1; omega
   have HC' : Hid (Rest wr (S + 1 + 1 + 1 + 1) C l c r) := by
    show Rest _ _ _ _ _ _
    rw [← hr.out, ← rm_end n m]
    exact HC.out
   have D3 : Hid (DgAt wr.drew (some ⟨S + 1 + 1 + 1 + 1, 0, none⟩) L q) := HF.out.drew.at_ (by have := HY.out; show _ < wr.heap.size; omega) fun j hj => by
    rw [HE.out j hj, if_neg (by omega), hq.out]
   have hqL : Hid (q < 65536 ^ L) := by
    show _ < _
    rw [← hq.out, ← ha.out.len]
    exact div_lt_nl n m
   have HQL : Hid (Q ≤ L) := by show _ ≤ _; rw [← hQ.out]; exact nl_le hqL.out
   have hlR : Hid (l = R) := HC'.out.len.symm.trans hR.out
   have HCp : Hid (Cap L L) := ⟨Nat.le_refl _, by omega⟩
   have hz11 : Hid (sgn z1 q = z1) := by show _ = _; rw [← hz1.out, sgn_twice]
   have hz22 : Hid (sgn z2 r = z2) := by show _ = _; rw [← hz2.out, sgn_twice]
   have HT1 := Lib.hid (trim_run (s != t) z1 (some ⟨S + 1 + 1 + 1 + 1, 0, none⟩) L L q Q wr.drew D3 hqL HCp hz1 hQ)
   have P0 := Lib.hid (HP.out.keep HW.out (by omega)).drew
   have Q0 := Lib.hid (HQ.out.keep HW.out (by omega)).drew
   have N0 := Lib.hid (HN.out.keep HW.out (by omega)).drew
   have M0 := Lib.hid (HN2.out.keep HW.out (by omega)).drew
   have B0 : Hid (Below S w wr.drew) := (HB.out.trans (HW.out.mono (by omega))).drew
   have HYd : Hid (S + 1 + 1 + 1 + 1 + 1 ≤ wr.drew.heap.size) := HY.out
   have R0 := Lib.hid HC'.out.drew
   clear HC HF HE HW HC'
   go_upto_region 15 with fail
   refine rg_begin (fun W' => NumAt W' S s A L ca ∧ NumAt W' (S + 1) t B M cb) (by kernel_rfl) ⟨P0.out, Q0.out⟩ (fun hS => ?_)
   refine rg_take 0 (.pointer (some ⟨S, 0, none⟩)) rfl (by kernel_rfl) (by kernel_rfl) (by kernel_rfl) (fun _ _ _ h => h) rfl (fun w _ => ?_) hS ?_
   ·go_simp
   simp only [zA, zB, zC, Act.put, zD, zE, zF]
   refine rg_take 1 (.bool s) rfl (by kernel_rfl) (by kernel_rfl) (by kernel_rfl) (fun _ _ _ h => h) rfl (fun w hSw => ?_) hS ?_
   ·have e0 := hSw.1.c0
    go_simp
   simp only [zA, zB, zC, Act.put, zD, zE, zF]
   refine rg_take 2 (.pointer (some ⟨S + 1, 0, none⟩)) rfl (by kernel_rfl) (by kernel_rfl) (by kernel_rfl) (fun _ _ _ h => h) rfl (fun w _ => ?_) hS ?_
   ·go_simp
   simp only [zA, zB, zC, Act.put, zD, zE, zF]
   refine rg_take 3 (.bool t) rfl (by kernel_rfl) (by kernel_rfl) (by kernel_rfl) (fun _ _ _ h => h) rfl (fun w hSw => ?_) hS ?_
   ·have e0 := hSw.2.c0
    go_simp
   simp only [zA, zB, zC, Act.put, zD, zE, zF]
   refine rg_take 4 (.bool (s != t)) rfl (by kernel_rfl) (by kernel_rfl) (by kernel_rfl) (fun _ _ _ h => h) rfl (fun w hSw => by go_simp; cases s <;> cases t <;> rfl) hS ?_
   simp only [zA, zB, zC, Act.put, zD, zE, zF]
   refine rg_take 5 (.slice (some ⟨S + 1 + 1 + 1 + 1, 0, none⟩) L L) rfl (by kernel_rfl) (by kernel_rfl) (by kernel_rfl) (fun _ _ _ h => h) rfl (fun w _ => ?_) hS ?_
   ·go_simp
   simp only [zA, zB, zC, Act.put, zD, zE, zF]
   refine rg_take 7 (.pointer (some ⟨S, 0, none⟩)) rfl (by kernel_rfl) (by kernel_rfl) (by kernel_rfl) (fun _ _ _ h => h) rfl (fun w _ => ?_) hS ?_
   ·go_simp
   simp only [zA, zB, zC, Act.put, zD, zE, zF]
   refine rg_take 8 (.bool s) rfl (by kernel_rfl) (by kernel_rfl) (by kernel_rfl) (fun _ _ _ h => h) rfl (fun w hSw => ?_) hS ?_
   ·have e0 := hSw.1.c0
    go_simp
   simp only [zA, zB, zC, Act.put, zD, zE, zF]
   refine rg_take 9 (.slice C l c) rfl (by kernel_rfl) (by kernel_rfl) (by kernel_rfl) (fun _ _ _ h => h) rfl (fun w _ => ?_) hS ?_
   ·go_simp
   simp only [zA, zB, zC, Act.put, zD, zE, zF]
   clear hS
   refine rg_one 6 (by kernel_rfl) (rs_of rfl rfl (wp_call rfl enters_trim rfl HT1.out (fun w3 hw3 => ⟨⟨P0.out.below hw3, Q0.out.below hw3⟩, ?_⟩)))
   have P1 := Lib.hid (P0.out.below hw3)
   have Q1 := Lib.hid (Q0.out.below hw3)
   have N1 := Lib.hid (N0.out.below hw3)
   have M1 := Lib.hid (M0.out.below hw3)
   have B1 := Lib.hid (B0.out.trans (hw3.mono (by have := HYd.out; omega)))
   have R1 := Lib.hid (R0.out.below hw3)
   have E1 := Lib.hid (D3.out.below hw3)
   have HY1 : Hid (S + 1 + 1 + 1 + 1 + 1 ≤ w3.heap.size) := Nat.le_trans HYd.out hw3.size
   have HT2 := Lib.hid (trim_run s z2 C l c r R w3 R1.out.digs (show _ < _ by rw [← R1.out.len]; exact lt_nl r) R1.out.cap hz2 hR)
   clear hw3 P0 Q0 N0 M0 B0 R0 D3 HT1
   simp only [zA, zB, zC, Act.put, zD, zE, zF]
   refine rg_one 10 (by kernel_rfl) (rs_of rfl rfl (wp_call rfl enters_trim rfl HT2.out (fun w4 hw4 => ⟨⟨P1.out.below hw4, Q1.out.below hw4⟩, ?_⟩)))
   have P2 := Lib.hid (P1.out.below hw4)
   have Q2 := Lib.hid (Q1.out.below hw4)
   have N2 := Lib.hid (N1.out.below hw4)
   have M2 := Lib.hid (M1.out.below hw4)
   have B2 := Lib.hid (B1.out.trans (hw4.mono (by have := HY1.out; omega)))
   have R2 := Lib.hid (R1.out.below hw4)
   have E2 := Lib.hid (E1.out.below hw4)
   clear hw4 P1 Q1 N1 M1 B1 R1 E1 HT2
   simp only [zA, zB, zC, Act.put, zD, zE, zF]
   have b4 := st2_but w4 (S + 1 + 1) z1 (some ⟨S + 1 + 1 + 1 + 1, 0, none⟩) Q L
   have M3 := Lib.hid (M2.out.but b4 (by omega))
   have P3 := Lib.hid (P2.out.but b4 (by omega))
   have Q3 := Lib.hid (Q2.out.but b4 (by omega))
   refine rg_one 11 (by kernel_rfl) ?_
   refine rs_of rfl rfl ?_
   refine stores_num (.tmp 4) (.tmp 70) rfl (b := S + 1 + 1) (t := z1) (B := some ⟨S + 1 + 1 + 1 + 1, 0, none⟩) (M := Q) (cb := L) rfl rfl N2.out ⟨⟨P3.out, Q3.out⟩, ?_⟩
   simp only [zA, zB, zC, Act.put, zD, zE, zF]
   have b5 := st2_but (st2 w4 (S + 1 + 1) z1 (some ⟨S + 1 + 1 + 1 + 1, 0, none⟩) Q L) (S + 1 + 1 + 1) z2 C R c
   refine rg_one 12 (by kernel_rfl) ?_
   refine rs_of rfl rfl ?_
   refine stores_num (.tmp 5) (.tmp 74) rfl (b := S + 1 + 1 + 1) (t := z2) (B := C) (M := R) (cb := c) rfl rfl M3.out ⟨⟨P3.out.but b5 (by omega), Q3.out.but b5 (by omega)⟩, ?_⟩
   simp only [zA, zB, zC, Act.put, zD, zE, zF]
   refine wpAnyH_done (by kernel_rfl) ?_ _
   have N5 := (st2_at N2.out : NumAt (st2 w4 (S + 1 + 1) z1 (some ⟨S + 1 + 1 + 1 + 1, 0, none⟩) Q L) (S + 1 + 1) z1 _ Q L).but b5 (by omega)
   have M5 := (st2_at M3.out : NumAt (st2 (st2 w4 (S + 1 + 1) z1 (some ⟨S + 1 + 1 + 1 + 1, 0, none⟩) Q L) (S + 1 + 1 + 1) z2 C R c) (S + 1 + 1 + 1) z2 C R c)
   go_wp2_with fail
   refine bodyPost_ret (v := .tuple #[.agg #[.bool z1, .slice (some ⟨S + 1 + 1 + 1 + 1, 0, none⟩) Q L], .agg #[.bool z2, .slice C R c]]) (results_num2 rfl rfl rfl N5 M5) rfl ⟨_, _, _, _, rfl, ⟨((E2.out.st2 N2.out).st2 M3.out).take HQL.out, hQ.out, ⟨HQL.out, HCp.out.2⟩, hz11.out⟩, ⟨by rw [← hlR.out]; exact (R2.out.digs.st2 N2.out).st2 M3.out, hR.out, by rw [← hlR.out]; exact R2.out.cap, hz22.out⟩, b5.2.1 S w (by omega) (b4.2.1 S w (by omega) B2.out)⟩
  | succ i =>
   obtain rfl : y = (i : Int) := by have := HJ.out.1; omega
   go_wp2_with fail
   go_loopg [6, 9] 17 (fun h s6 s9 wr => ∃ (y : Int) (k : Nat) (C : Option Addr) (l c : Nat) (f : Nat → Nat), s6 = .slice C l c ∧ s9 = .int .i64 y ∧ Hid (y = (k : Int) - 1 ∧ k < h) ∧ k ≤ 16 ∧ Hid (Rest wr (S + 1 + 1 + 1 + 1) C l c (rm n m (16 * i + k))) ∧ Hid (DigF wr (S + 1 + 1 + 1 + 1) f L) ∧ Hid (∀ p, p < L → f p = if p < i then 0 else if p = i then qd (n / m) i k else dg (n / m) p) ∧ Hid (Below (S + 1 + 1 + 1 + 1) w2 wr) ∧ Hid (S + 1 + 1 + 1 + 1 + 1 ≤ wr.heap.size))
   case atStart =>
    refine ⟨15, 16, C, l, c, f, rfl, rfl, by show _ ∧ _; omega, by omega, ?_, HF, fun p hp => ?_, HW, HY⟩
    ·have e : 16 * (i + 1) = 16 * i + 16 := by omega
     show Rest _ _ _ _ _ _
     rw [← e]
     exact HC.out
    ·rw [HE.out p hp]
     by_cases e : p < i
     ·rw [if_pos (by omega), if_pos e]
     ·by_cases e2 : p = i
      ·rw [if_pos (by omega), if_neg e, if_pos e2, qd_start]
      ·rw [if_neg (by omega), if_neg e, if_neg e2]
   case round =>
    clear HC HF HE HW HY C l c f
    obtain ⟨y, k, C, l, c, f, rfl, rfl, HK, hk16, HC, HF, HE, HW, HY⟩ := hrel
    cases k with
    | zero =>
     obtain rfl : y = -1 := by have := HK.out.1; omega
     go_wp2_with fail
     go_roundg (i + 1)
     case measure => have := HJ.out; omega
     case rel =>
      refine ⟨(i : Int) - 1, i, C, l, c, f, rfl, by go_num, by show _ ∧ _; have := HJ.out; omega, by omega, HC.out, HF.out, fun p hp => ?_, HW.out, HY.out⟩
      rw [HE.out p hp]
      by_cases e : p < i
      ·rw [if_pos e, if_pos e]
      ·by_cases e2 : p = i
       ·rw [if_neg e, if_neg e, if_pos e2, qd_end, e2]
       ·rw [if_neg e, if_neg e, if_neg e2]
    | succ k =>
     obtain rfl : y = (k : Int) := by have := HK.out.1; omega
     obtain ⟨p0, q0, p1, q1⟩ := HP.out.keep HW.out (by omega)
     obtain ⟨p2, q2, p3, q3⟩ := HQ.out.keep HW.out (by omega)
     obtain ⟨b1, o1, rfl, hbl1, hcell1⟩ := ha.out.digs (by omega)
     obtain ⟨x, hx⟩ : ∃ x, dg n i = x := ⟨_, rfl⟩
     have cd : wr.cell? ⟨b1, o1 + i, none⟩ = some (.int .i64 (x : Int)) := by
      rw [← hx]
      exact ((HB.out.trans (HW.out.mono (by omega))).cell (p := ⟨b1, o1 + i, none⟩) (by rw [← hS]; exact hbl1)).trans (hcell1 i (by omega))
     obtain ⟨e, he⟩ : ∃ e, dig 2 n (16 * i + k) = e := ⟨_, rfl⟩
     obtain ⟨g, hg⟩ : ∃ g, rm n m (16 * i + (k + 1)) = g := ⟨_, rfl⟩
     rw [hg] at HC
     obtain ⟨T, hT⟩ : ∃ T, nl (g + g) = T := ⟨_, rfl⟩
     have HT := Lib.hid hT
     have hlM : l ≤ M := by
      rw [← HC.out.len, ← hb.out.len]
      exact nl_mono (by rw [← hg]; exact Nat.le_of_lt (rm_lt n hm.out _))
     have hll : l + l ≤ 10000 := by omega
     have hTl : T ≤ l + l + 1 := by
      rw [← hT]
      have := nl_add_le g g
      rwa [HC.out.len] at this
     have HPl := Lib.hid (plus_runF C C l l c c g g T wr HC.out.digs HC.out.digs HC.out.len HC.out.len HC.out.cap HC.out.cap hll HT)
     go_wp2_with fail
     refine HPl.out.mono ?_
     rintro e1 w3 ⟨C3, c3, rfl, hcap3, hd3, hw3, hf3⟩
     have F2 : DvF w2 wr S L f := ⟨HW.out, HF.out, HY.out⟩
     have F3 := Lib.hid (F2.below hw3)
     have R3 : Hid (Rest w3 (S + 1 + 1 + 1 + 1) C3 T c3 (g + g)) := ⟨hd3, hT, hcap3, hf3.ne (by have := HY.out; omega)⟩
     have HTr := Lib.hid (trim_run false false C3 T c3 (g + g) T w3 R3.out.digs (show _ < _ by rw [← hT]; exact lt_nl _) R3.out.cap (by show _ = _; simp [sgn]) HT)
     clear HPl hcap3 hd3 hw3 hf3 F2 p0 q0 p1 q1 p2 q2 p3 q3 cd hT
     go_wp2_with fail
     refine HTr.out.mono ?_
     rintro e1 w4 ⟨rfl, hw4⟩
     have F4 := Lib.hid (F3.out.below hw4)
     have R4 := Lib.hid (R3.out.below hw4)
     clear HTr F3 R3 hw4
     obtain ⟨p0, q0, p1, q1⟩ := HP.out.keep F4.out.fr (by omega)
     obtain ⟨p2, q2, p3, q3⟩ := HQ.out.keep F4.out.fr (by omega)
     have cd : w4.cell? ⟨b1, o1 + i, none⟩ = some (.int .i64 (x : Int)) := by
      rw [← hx]
      exact ((HB.out.trans (F4.out.fr.mono (by omega))).cell (p := ⟨b1, o1 + i, none⟩) (by rw [← hS]; exact hbl1)).trans (hcell1 i (by omega))
     have hiL : (i : Int) < (L : Int) := by omega
     have hfd := fieldN C3 T c3 w4
     have hx6 : x < 65536 := by rw [← hx]; exact dg_lt _ _
     have hbit : bits .and .i64 ((x : Int) / 2 ^ k) 1 = (e : Int) := bit_of hx6 (by rw [← hx, ← he]; exact dg_bit n i (by omega))
     have he1 : e ≤ 1 := by rw [← he]; exact dig2_le _ _
     obtain ⟨y, hy⟩ : ∃ y, 2 * g + e = y := ⟨_, rfl⟩
     have HST := rm_step (a := n) hm.out (16 * i + k)
     rw [show 16 * i + k + 1 = 16 * i + (k + 1) from rfl, hg, he, hy] at HST
     replace HST := Lib.hid HST
     have hyM : Hid (nl y ≤ M + 1) := by
      show _ ≤ _
      have h1 : g < m := by rw [← hg]; exact rm_lt n hm.out _
      refine nl_le ?_
      have h2 := lt_nl m
      rw [hb.out.len] at h2
      rw [Nat.pow_succ]
      omega
     obtain rfl | rfl : e = 0 ∨ e = 1 := by omega
     ·have R5 : Hid (Rest w4 (S + 1 + 1 + 1 + 1) C3 T c3 y) := by show Rest _ _ _ _ _ _; rw [← hy, show 2 * g + 0 = g + g by omega]; exact R4.out
      have F5 := F4
      obtain ⟨c0, HC0⟩ : ∃ c0, cmpN y m = c0 := ⟨_, rfl⟩
      have HO := Lib.hid (Order_run7 C3 B T M c3 cb y m c0 w4 R5.out.digs (hb.out.digs.keep (HB.out.trans (F5.out.fr.mono (by omega))) (Nat.le_of_eq hS)) R5.out.len hb.out.len R5.out.cap hb.out.cap HC0)
      by_cases hge : m ≤ y
      ·have hc0 : 0 ≤ c0 := by rw [← HC0]; unfold cmpN; rw [if_neg (by omega)]; split <;> omega
       have HS2 := Lib.hid (HST.out.1 hge)
       clear HC0 HST
       go_wp2_with fail
       refine HO.out.mono ?_
       rintro e1 w6 ⟨rfl, hw6⟩
       have F6 := Lib.hid (F5.out.below hw6)
       have R6 := Lib.hid (R5.out.below hw6)
       clear hw6 F5 R5 HO p0 q0 p1 q1 p2 q2 p3 q3
       obtain ⟨p2, q2, p3, q3⟩ := HQ.out.keep F6.out.fr (by omega)
       have HMi := Lib.hid (minus_runF C3 B T M c3 cb y m w6 R6.out.digs (hb.out.digs.keep (HB.out.trans (F6.out.fr.mono (by omega))) (Nat.le_of_eq hS)) R6.out.len hb.out.len R6.out.cap hb.out.cap (by rw [← R6.out.len]; have := hyM.out; omega) hge)
       go_wp2_with fail
       refine HMi.out.mono ?_
       rintro e1 w7 ⟨C7, c7, rfl, hcap7, hd7, hw7, hf7⟩
       have F7 := Lib.hid (F6.out.below hw7)
       have hf7' := hf7.ne (g := S + 1 + 1 + 1 + 1) (by have := F6.out.sz; omega)
       obtain ⟨T7, hT7⟩ : ∃ T7, nl (y - m) = T7 := ⟨_, rfl⟩
       have hTT : T7 ≤ T := by rw [← hT7, ← R6.out.len]; exact nl_mono (Nat.sub_le _ _)
       have HTr := Lib.hid (trim_run false false C7 T c7 (y - m) T7 w7 hd7 (show _ < _ from Nat.lt_of_lt_of_le (lt_nl _) (Nat.pow_le_pow_right (by decide) (by rw [hT7]; exact hTT))) hcap7 (by show _ = _; simp [sgn]) hT7)
       clear hw7 hf7 F6 R6 HMi p2 q2 p3 q3
       go_wp2_with fail
       refine HTr.out.mono ?_
       rintro e1 w8 ⟨rfl, hw8⟩
       have F8 := Lib.hid (F7.out.below hw8)
       have R8 : Hid (Rest w8 (S + 1 + 1 + 1 + 1) C7 T7 c7 (y - m)) := ⟨(hd7.take hTT).below hw8, hT7, ⟨Nat.le_trans hTT hcap7.1, hcap7.2⟩, hf7'⟩
       clear hw8 F7 HTr hd7 hf7' hcap7 hT7
       have hfd7 := fieldN C7 T7 c7 w8
       obtain ⟨v, hv⟩ : ∃ v, f i = v := ⟨_, rfl⟩
       obtain ⟨P, hP⟩ : ∃ P, 2 ^ k = P := ⟨_, rfl⟩
       have hsh := shl_bit k (by omega)
       rw [hP] at hsh
       have hP6 : P < 65536 := by rw [← hP]; have := Nat.pow_lt_pow_right (a := 2) (by decide) (show k < 16 by omega); omega
       have hvq : v = qd (n / m) i (k + 1) := by rw [← hv, HE.out i (by omega), if_neg (by omega), if_pos rfl]
       have hv6 : v < 65536 := by rw [hvq]; exact qd_le _ _ _
       have HVP : Hid (v + P = qd (n / m) i k) := by show _ = _; rw [hvq, qd_step (n / m) i (show k < 16 by omega), HS2.out.1, Nat.one_mul, hP]
       have cv := F8.out.dg i (by omega)
       rw [hv] at cv
       obtain ⟨cv1, cv2⟩ := cv
       clear hvq hv hP
       go_wp2_with fail
       go_region
       go_wp2_with fail
       go_roundg (k + 1)
       case measure => have := HK.out; omega
       case rel =>
        have hU := F8.out.dg.upd (i := i) (by omega) (v + P)
        refine ⟨(k : Int) - 1, k, C7, T7, c7, updF f i (v + P), rfl, by go_num, by show _ ∧ _; have := HK.out; omega, by omega, ?_, hU, fun p hp => ?_, (F8.out.fr.setCell (p := ⟨S + 1 + 1 + 1 + 1, i, none⟩) (Nat.le_refl _) _).drew, ?_⟩
        ·have h9 := R8.out.set (i := i) (.int .i64 ((v + P : Nat) : Int))
         rw [← HS2.out.2] at h9
         exact h9.drew
        ·by_cases e : p = i
         ·rw [e, updF_same, if_neg (by omega), if_pos rfl]; exact HVP.out
         ·rw [updF_other e, HE.out p hp, if_neg e, if_neg e]
        ·show _ ≤ _
         have := F8.out.sz
         simpa using this
      ·have HC1 := cmpN_lt (show y < m by omega)
       rw [HC0] at HC1
       subst HC1
       have HS2 := Lib.hid (HST.out.2 hge)
       clear HC0 HST
       go_wp2_with fail
       refine HO.out.mono ?_
       rintro e1 w6 ⟨rfl, hw6⟩
       have F6 := Lib.hid (F5.out.below hw6)
       have R6 : Hid (Rest w6 (S + 1 + 1 + 1 + 1) C3 T c3 (rm n m (16 * i + k))) := by show Rest _ _ _ _ _ _; rw [HS2.out.2]; exact R5.out.below hw6
       clear hw6 F5 R5 HO p0 q0 p1 q1 p2 q2 p3 q3
       go_wp2_with fail
       go_roundg (k + 1)
       case measure => have := HK.out; omega
       case rel =>
        refine ⟨(k : Int) - 1, k, C3, T, c3, f, rfl, by go_num, by show _ ∧ _; have := HK.out; omega, by omega, R6.out, F6.out.dg, fun p hp => ?_, F6.out.fr, F6.out.sz⟩
        rw [HE.out p hp]
        by_cases e : p = i
        ·rw [e, if_neg (by omega), if_pos rfl, if_neg (by omega), if_pos rfl, qd_step _ _ (show k < 16 by omega), HS2.out.1, Nat.zero_mul]; exact (Nat.add_zero _).symm
        ·rw [if_neg e, if_neg e]
     ·obtain ⟨T5, hT5⟩ : ∃ T5, nl y = T5 := ⟨_, rfl⟩
      have DO : Hid (DgAt (w4.alloc (.cells #[.int .i64 1] 3)) (some ⟨w4.heap.size, 0, none⟩) 1 1) := fun _ =>
       ⟨_, _, rfl, by simp, fun j hj => by
        obtain rfl : j = 0 := by omega
        exact World.cell?_alloc_at _ _ _ _ rfl⟩
      have DC : Hid (Rest (w4.alloc (.cells #[.int .i64 1] 3)) (S + 1 + 1 + 1 + 1) C3 T c3 (g + g)) := R4.out.below (below_alloc _ _)
      have F4' : Hid (DvF w2 (w4.alloc (.cells #[.int .i64 1] 3)) S L f) := F4.out.below (below_alloc _ _)
      have h11 : nl 1 = 1 := nl_uniq (by decide) (fun _ => by decide)
      have hyy : g + g + 1 = y := by omega
      have HPl := plus_runF C3 (some ⟨w4.heap.size, 0, none⟩) T 1 c3 1 (g + g) 1 T5 _ DC.out.digs DO DC.out.len h11 DC.out.cap ⟨Nat.le_refl _, by omega⟩ (by omega) (by show _ = _; rw [hyy]; exact hT5)
      rw [hyy] at HPl
      replace HPl := Lib.hid HPl
      go_wp2_with fail
      refine HPl.out.mono ?_
      rintro e1 w5 ⟨C5, c5, rfl, hcap5, hd5, hw5, hf5⟩
      have F5 := Lib.hid (F4'.out.below hw5)
      have R5 : Hid (Rest w5 (S + 1 + 1 + 1 + 1) C5 T5 c5 y) := ⟨hd5, hT5, hcap5, hf5.ne (by have := F4'.out.sz; omega)⟩
      clear HPl hcap5 hd5 hw5 hf5 F4 F4' DO DC R4 h11 hyy hT5 p0 q0 p1 q1 p2 q2 p3 q3 cd
      obtain ⟨p0, q0, p1, q1⟩ := HP.out.keep F5.out.fr (by omega)
      obtain ⟨p2, q2, p3, q3⟩ := HQ.out.keep F5.out.fr (by omega)
      obtain ⟨c0, HC0⟩ : ∃ c0, cmpN y m = c0 := ⟨_, rfl⟩
      have HO := Lib.hid (Order_run7 C5 B T5 M c5 cb y m c0 w5 R5.out.digs (hb.out.digs.keep (HB.out.trans (F5.out.fr.mono (by omega))) (Nat.le_of_eq hS)) R5.out.len hb.out.len R5.out.cap hb.out.cap HC0)
      by_cases hge : m ≤ y
      ·have hc0 : 0 ≤ c0 := by rw [← HC0]; unfold cmpN; rw [if_neg (by omega)]; split <;> omega
       have HS2 := Lib.hid (HST.out.1 hge)
       clear HC0 HST
       go_wp2_with fail
       refine HO.out.mono ?_
       rintro e1 w6 ⟨rfl, hw6⟩
       have F6 := Lib.hid (F5.out.below hw6)
       have R6 := Lib.hid (R5.out.below hw6)
       clear hw6 F5 R5 HO p0 q0 p1 q1 p2 q2 p3 q3
       obtain ⟨p2, q2, p3, q3⟩ := HQ.out.keep F6.out.fr (by omega)
       have HMi := Lib.hid (minus_runF C5 B T5 M c5 cb y m w6 R6.out.digs (hb.out.digs.keep (HB.out.trans (F6.out.fr.mono (by omega))) (Nat.le_of_eq hS)) R6.out.len hb.out.len R6.out.cap hb.out.cap (by rw [← R6.out.len]; have := hyM.out; omega) hge)
       go_wp2_with fail
       refine HMi.out.mono ?_
       rintro e1 w7 ⟨C7, c7, rfl, hcap7, hd7, hw7, hf7⟩
       have F7 := Lib.hid (F6.out.below hw7)
       have hf7' := hf7.ne (g := S + 1 + 1 + 1 + 1) (by have := F6.out.sz; omega)
       obtain ⟨T7, hT7⟩ : ∃ T7, nl (y - m) = T7 := ⟨_, rfl⟩
       have hTT : T7 ≤ T5 := by rw [← hT7, ← R6.out.len]; exact nl_mono (Nat.sub_le _ _)
       have HTr := Lib.hid (trim_run false false C7 T5 c7 (y - m) T7 w7 hd7 (show _ < _ from Nat.lt_of_lt_of_le (lt_nl _) (Nat.pow_le_pow_right (by decide) (by rw [hT7]; exact hTT))) hcap7 (by show _ = _; simp [sgn]) hT7)
       clear hw7 hf7 F6 R6 HMi p2 q2 p3 q3
       go_wp2_with fail
       refine HTr.out.mono ?_
       rintro e1 w8 ⟨rfl, hw8⟩
       have F8 := Lib.hid (F7.out.below hw8)
       have R8 : Hid (Rest w8 (S + 1 + 1 + 1 + 1) C7 T7 c7 (y - m)) := ⟨(hd7.take hTT).below hw8, hT7, ⟨Nat.le_trans hTT hcap7.1, hcap7.2⟩, hf7'⟩
       clear hw8 F7 HTr hd7 hf7' hcap7 hT7
       have hfd7 := fieldN C7 T7 c7 w8
       obtain ⟨v, hv⟩ : ∃ v, f i = v := ⟨_, rfl⟩
       obtain ⟨P, hP⟩ : ∃ P, 2 ^ k = P := ⟨_, rfl⟩
       have hsh := shl_bit k (by omega)
       rw [hP] at hsh
       have hP6 : P < 65536 := by rw [← hP]; have := Nat.pow_lt_pow_right (a := 2) (by decide) (show k < 16 by omega); omega
       have hvq : v = qd (n / m) i (k + 1) := by rw [← hv, HE.out i (by omega), if_neg (by omega), if_pos rfl]
       have hv6 : v < 65536 := by rw [hvq]; exact qd_le _ _ _
       have HVP : Hid (v + P = qd (n / m) i k) := by show _ = _; rw [hvq, qd_step (n / m) i (show k < 16 by omega), HS2.out.1, Nat.one_mul, hP]
       have cv := F8.out.dg i (by omega)
       rw [hv] at cv
       obtain ⟨cv1, cv2⟩ := cv
       clear hvq hv hP
       go_wp2_with fail
       go_region
       go_wp2_with fail
       go_roundg (k + 1)
       case measure => have := HK.out; omega
       case rel =>
        have hU := F8.out.dg.upd (i := i) (by omega) (v + P)
        refine ⟨(k : Int) - 1, k, C7, T7, c7, updF f i (v + P), rfl, by go_num, by show _ ∧ _; have := HK.out; omega, by omega, ?_, hU, fun p hp => ?_, (F8.out.fr.setCell (p := ⟨S + 1 + 1 + 1 + 1, i, none⟩) (Nat.le_refl _) _).drew, ?_⟩
        ·have h9 := R8.out.set (i := i) (.int .i64 ((v + P : Nat) : Int))
         rw [← HS2.out.2] at h9
         exact h9.drew
        ·by_cases e : p = i
         ·rw [e, updF_same, if_neg (by omega), if_pos rfl]; exact HVP.out
         ·rw [updF_other e, HE.out p hp, if_neg e, if_neg e]
        ·show _ ≤ _
         have := F8.out.sz
         simpa using this
      ·have HC1 := cmpN_lt (show y < m by omega)
       rw [HC0] at HC1
       subst HC1
       have HS2 := Lib.hid (HST.out.2 hge)
       clear HC0 HST
       go_wp2_with fail
       refine HO.out.mono ?_
       rintro e1 w6 ⟨rfl, hw6⟩
       have F6 := Lib.hid (F5.out.below hw6)
       have R6 : Hid (Rest w6 (S + 1 + 1 + 1 + 1) C5 T5 c5 (rm n m (16 * i + k))) := by show Rest _ _ _ _ _ _; rw [HS2.out.2]; exact R5.out.below hw6
       clear hw6 F5 R5 HO p0 q0 p1 q1 p2 q2 p3 q3
       go_wp2_with fail
       go_roundg (k + 1)
       case measure => have := HK.out; omega
       case rel =>
        refine ⟨(k : Int) - 1, k, C5, T5, c5, f, rfl, by go_num, by show _ ∧ _; have := HK.out; omega, by omega, R6.out, F6.out.dg, fun p hp => ?_, F6.out.fr, F6.out.sz⟩
        rw [HE.out p hp]
        by_cases e : p = i
        ·rw [e, if_neg (by omega), if_pos rfl, if_neg (by omega), if_pos rfl, qd_step _ _ (show k < 16 by omega), HS2.out.1, Nat.zero_mul]; exact (Nat.add_zero _).symm
        ·rw [if_neg e, if_neg e]
end Go.Proofs.YtgoemhcngmpfbaaGreatDoor
