/-
  The document's answers of layer 9: spaced, with letters.
-/
import Derived.Test.YtgoemhcngmpfbaaGreatDoorMx33
import Derived.Test.YtgoemhcngmpfbaaGreatDoorMx16
import Derived.Lib.ItoaNum
import Derived.Test.YtgoemhcngmpfbaaGreatDoorMx18
import Derived.Test.YtgoemhcngmpfbaaGreatDoorMx12
import Derived.Test.YtgoemhcngmpfbaaGreatDoorMx30
import Derived.Test.YtgoemhcngmpfbaaGreatDoorMx23
import Derived.Test.YtgoemhcngmpfbaaGreatDoorMx25
import Derived.Test.YtgoemhcngmpfbaaGreatDoorMx27
import Derived.Test.YtgoemhcngmpfbaaGreatDoorMx13
import Derived.Test.YtgoemhcngmpfbaaGreatDoorMx14
import Derived.Test.YtgoemhcngmpfbaaGreatDoorMx20
import Derived.Test.YtgoemhcngmpfbaaGreatDoorMx31
import Derived.Test.YtgoemhcngmpfbaaGreatDoorMx22
namespace Go.Proofs.YtgoemhcngmpfbaaGreatDoor
open Go.RowKit Go.Sort
set_option linter.unusedSimpArgs false
set_option maxRecDepth 100000 in
set_option maxHeartbeats 8000000 in
theorem spaced9_true (l : List UInt8) (b : Bool) (w : World) (hl : l.length ≤ 100000) (hb : Hid (b = true ↔ SepB true l)) :
  Calls Tryz.prog 64 #[.string (bs l), .bool true] w fun e w' => e = .returned (.bool b) ∧ ∃ m, w' = w.drewN m := by
 have hsz := bs_size l
 have HDD : Hid (∀ (c : Nat) W, Calls Tryz.prog 71 #[.int .u8 (c : Int)] W fun e w' => e = .returned (.bool (isDig c)) ∧ w' = W) := fun c W => digit9_run c W
 have HXX : Hid (∀ (c : Nat) W, Calls Tryz.prog 102 #[.int .u8 (c : Int)] W fun e w' => e = .returned (.bool (isHex c)) ∧ w' = W) := fun c W => hex9_run c W
 go_enter Tryz.func64, Tryz.ntmps64
 go_wp2_with fail
 go_loopg [5] (l.length + 1) (fun h s5 wr => ∃ i : Nat, s5 = .int .i64 (i : Int) ∧ Hid (i + h = l.length + 1) ∧ i ≤ l.length ∧ Hid (∀ j : Nat, j < i → l[j]? = some 95 → ∃ a b : UInt8, 0 < j ∧ l[j - 1]? = some a ∧ l[j + 1]? = some b ∧ ((true = true ∧ j = 2) ∨ pD true a.toNat = true) ∧ pD true b.toNat = true) ∧ Hid (∃ m, wr = w.drewN m))
 case atStart => exact ⟨0, rfl, by show _ = _; omega, by omega, fun j hj => absurd hj (by omega), 0, rfl⟩
 case round =>
  obtain ⟨i, rfl, HI, hin, HS, HW⟩ := hrel
  by_cases hlt : i < l.length
  ·have hiz : (i : Int) < (l.length : Int) := by omega
   obtain ⟨c, hc⟩ : ∃ c, l[i]? = some c := ⟨l[i], List.getElem?_eq_getElem hlt⟩
   have hx := bs_get hc
   by_cases hu : c = 95
   ·subst hu
    have hx95 : ∀ W, (Instr.index 9 (.string (bs l)) (.int .i64 (i : Int))).run Tryz.prog W = .ok (.int .u8 95) W := hx
    clear hx
    by_cases h1 : i + 1 < l.length
    ·have h1z : ¬ (l.length : Int) ≤ (i : Int) + 1 := by omega
     by_cases h0 : 0 < i
     ·have h0z : ((i : Int) == 0) = false := beq_eq_false_iff_ne.2 (by omega)
      obtain ⟨im, him⟩ : ∃ im, i = im + 1 := ⟨i - 1, by omega⟩
      have hmz : (i : Int) - 1 = (im : Int) := by omega
      obtain ⟨ip, hip⟩ : ∃ ip, i + 1 = ip := ⟨_, rfl⟩
      have hpz : (i : Int) + 1 = (ip : Int) := by omega
      have himl : im < l.length := by omega
      have hipl : ip < l.length := by omega
      have hipz : ¬ (l.length : Int) ≤ (ip : Int) := by omega
      obtain ⟨ca, hca⟩ : ∃ c, l[im]? = some c := ⟨l[im], List.getElem?_eq_getElem himl⟩
      obtain ⟨cb, hcb⟩ : ∃ c, l[ip]? = some c := ⟨l[ip], List.getElem?_eq_getElem hipl⟩
      have hxa := bs_get hca
      have hxb := bs_get hcb
      have HCA : Hid (l[i - 1]? = some ca) := by rw [him]; exact hca
      have HCB : Hid (l[i + 1]? = some cb) := by rw [hip]; exact hcb
      have HC := Lib.hid hc
      have H0 := Lib.hid h0
      have HN : (¬ (true = true ∧ i = 2) ∧ pD true ca.toNat = false) ∨ pD true cb.toNat = false → b = false := fun h => not_sepB hb.out HC.out HCA.out HCB.out h
      have HY : ((true = true ∧ i = 2) ∨ pD true ca.toNat = true) ∧ pD true cb.toNat = true → (∀ j : Nat, j < i + 1 → l[j]? = some 95 → ∃ a b : UInt8, 0 < j ∧ l[j - 1]? = some a ∧ l[j + 1]? = some b ∧ ((true = true ∧ j = 2) ∨ pD true a.toNat = true) ∧ pD true b.toNat = true) := fun h j hj hjc => by
       by_cases e : j = i
       ·subst e
        exact ⟨ca, cb, H0.out, HCA.out, HCB.out, h.1, h.2⟩
       ·exact HS.out j (by omega) hjc
      have HA := fun W => HDD.out ca.toNat W
      have HB := fun W => HDD.out cb.toNat W
      have HXA := fun W => HXX.out ca.toNat W
      have HXB := fun W => HXX.out cb.toNat W
      clear hca hcb hc him hip h0 HDD HXX HCA HCB HC H0 HS
      have e1 : ∀ x, pD true x = isHex x := fun _ => rfl
      rw [e1, e1] at HN HY
      clear e1
      generalize isDig ca.toNat = ua at *
      generalize isDig cb.toNat = ub at *
      generalize isHex ca.toNat = va at *
      generalize isHex cb.toNat = vb at *
      generalize ca.toNat = an at *
      generalize cb.toNat = bn at *
      replace HA := Lib.hid HA
      replace HB := Lib.hid HB
      replace HXA := Lib.hid HXA
      replace HXB := Lib.hid HXB
      go_upto_region 7 with fail
      refine rg_begin (fun _ => True) (by kernel_rfl) trivial (fun hS => ?_)
      have HWn := Lib.hid (dr_drew HW.out)
      clear HW
      have HW := HWn
      clear HWn
      generalize wr.drew = wq at *
      refine rg_take 0 (.string (bs l)) rfl (by kernel_rfl) (by kernel_rfl) (by kernel_rfl) (fun _ _ _ h => h) rfl (fun w _ => ?_) hS ?_
      ·go_simp
      simp only [zA, zB, zC, Act.put, zD, zE, zF]
      refine rg_take 1 (.int .i64 (i : Int)) rfl (by kernel_rfl) (by kernel_rfl) (by kernel_rfl) (fun _ _ _ h => h) rfl (fun w _ => ?_) hS ?_
      ·go_simp
      simp only [zA, zB, zC, Act.put, zD, zE, zF]
      refine rg_take 2 (.int .i64 (im : Int)) rfl (by kernel_rfl) (by kernel_rfl) (by kernel_rfl) (fun _ _ _ h => h) rfl (fun w hSw => ?_) hS ?_
      ·have e0 := hmz; have e1 : IntKind.i64.wrap (im : Int) = (im : Int) := by (rw [IntKind.wrap_i64]; omega)
       go_simp
      simp only [zA, zB, zC, Act.put, zD, zE, zF]
      refine rg_take 3 (.int .u8 (an : Int)) rfl (by kernel_rfl) (by kernel_rfl) (by kernel_rfl) (fun _ _ _ h => h) rfl (fun w hSw => idx_run rfl rfl rfl hxa) hS ?_
      simp only [zA, zB, zC, Act.put, zD, zE, zF]
      refine rg_take 5 (.string (bs l)) rfl (by kernel_rfl) (by kernel_rfl) (by kernel_rfl) (fun _ _ _ h => h) rfl (fun w _ => ?_) hS ?_
      ·go_simp
      simp only [zA, zB, zC, Act.put, zD, zE, zF]
      refine rg_take 6 (.int .i64 (i : Int)) rfl (by kernel_rfl) (by kernel_rfl) (by kernel_rfl) (fun _ _ _ h => h) rfl (fun w _ => ?_) hS ?_
      ·go_simp
      simp only [zA, zB, zC, Act.put, zD, zE, zF]
      refine rg_take 7 (.int .i64 (ip : Int)) rfl (by kernel_rfl) (by kernel_rfl) (by kernel_rfl) (fun _ _ _ h => h) rfl (fun w hSw => ?_) hS ?_
      ·have e0 := hpz; have e1 : IntKind.i64.wrap (ip : Int) = (ip : Int) := by (rw [IntKind.wrap_i64]; omega)
       go_simp
      simp only [zA, zB, zC, Act.put, zD, zE, zF]
      refine rg_take 8 (.int .u8 (bn : Int)) rfl (by kernel_rfl) (by kernel_rfl) (by kernel_rfl) (fun _ _ _ h => h) rfl (fun w hSw => idx_run rfl rfl rfl hxb) hS ?_
      simp only [zA, zB, zC, Act.put, zD, zE, zF]
      refine rg_one 4 (by kernel_rfl) (rs_of rfl rfl (wp_call rfl enters_dig9 rfl (HA.out _) (fun V1 hV => ⟨trivial, ?_⟩)))
      obtain rfl := hV
      simp only [zA, zB, zC, Act.put, zD, zE, zF]
      refine rg_one 9 (by kernel_rfl) (rs_of rfl rfl (wp_call rfl enters_dig9 rfl (HB.out _) (fun V2 hV => ⟨trivial, ?_⟩)))
      obtain rfl := hV
      simp only [zA, zB, zC, Act.put, zD, zE, zF]
      refine rg_take 10 (.bool ua) rfl (by kernel_rfl) (by kernel_rfl) (by kernel_rfl) (fun _ _ _ h => h) rfl (fun w _ => ?_) hS ?_
      ·go_simp
      simp only [zA, zB, zC, Act.put, zD, zE, zF]
      refine rg_take 11 (.bool ub) rfl (by kernel_rfl) (by kernel_rfl) (by kernel_rfl) (fun _ _ _ h => h) rfl (fun w _ => ?_) hS ?_
      ·go_simp
      simp only [zA, zB, zC, Act.put, zD, zE, zF]
      refine wpAnyH_done (by kernel_rfl) ?_ _
      (try simp only [Exit.inBlock, Exit.then])
      go_upto_region 9 with fail
      refine rg_begin (fun _ => True) (by kernel_rfl) trivial (fun hS => ?_)
      have HWn := Lib.hid (dr_drew HW.out)
      clear HW
      have HW := HWn
      clear HWn
      generalize V2.drew = wp at *
      refine rg_take 0 (.string (bs l)) rfl (by kernel_rfl) (by kernel_rfl) (by kernel_rfl) (fun _ _ _ h => h) rfl (fun w _ => ?_) hS ?_
      ·go_simp
      simp only [zA, zB, zC, Act.put, zD, zE, zF]
      refine rg_take 1 (.int .i64 (i : Int)) rfl (by kernel_rfl) (by kernel_rfl) (by kernel_rfl) (fun _ _ _ h => h) rfl (fun w _ => ?_) hS ?_
      ·go_simp
      simp only [zA, zB, zC, Act.put, zD, zE, zF]
      refine rg_take 2 (.int .i64 (im : Int)) rfl (by kernel_rfl) (by kernel_rfl) (by kernel_rfl) (fun _ _ _ h => h) rfl (fun w hSw => ?_) hS ?_
      ·have e0 := hmz; have e1 : IntKind.i64.wrap (im : Int) = (im : Int) := by (rw [IntKind.wrap_i64]; omega)
       go_simp
      simp only [zA, zB, zC, Act.put, zD, zE, zF]
      refine rg_take 3 (.int .u8 (an : Int)) rfl (by kernel_rfl) (by kernel_rfl) (by kernel_rfl) (fun _ _ _ h => h) rfl (fun w hSw => idx_run rfl rfl rfl hxa) hS ?_
      simp only [zA, zB, zC, Act.put, zD, zE, zF]
      refine rg_take 5 (.string (bs l)) rfl (by kernel_rfl) (by kernel_rfl) (by kernel_rfl) (fun _ _ _ h => h) rfl (fun w _ => ?_) hS ?_
      ·go_simp
      simp only [zA, zB, zC, Act.put, zD, zE, zF]
      refine rg_take 6 (.int .i64 (i : Int)) rfl (by kernel_rfl) (by kernel_rfl) (by kernel_rfl) (fun _ _ _ h => h) rfl (fun w _ => ?_) hS ?_
      ·go_simp
      simp only [zA, zB, zC, Act.put, zD, zE, zF]
      refine rg_take 7 (.int .i64 (ip : Int)) rfl (by kernel_rfl) (by kernel_rfl) (by kernel_rfl) (fun _ _ _ h => h) rfl (fun w hSw => ?_) hS ?_
      ·have e0 := hpz; have e1 : IntKind.i64.wrap (ip : Int) = (ip : Int) := by (rw [IntKind.wrap_i64]; omega)
       go_simp
      simp only [zA, zB, zC, Act.put, zD, zE, zF]
      refine rg_take 8 (.int .u8 (bn : Int)) rfl (by kernel_rfl) (by kernel_rfl) (by kernel_rfl) (fun _ _ _ h => h) rfl (fun w hSw => idx_run rfl rfl rfl hxb) hS ?_
      simp only [zA, zB, zC, Act.put, zD, zE, zF]
      refine rg_one 4 (by kernel_rfl) (rs_of rfl rfl (wp_call rfl enters_hex9 rfl (HXA.out _) (fun V1 hV => ⟨trivial, ?_⟩)))
      obtain rfl := hV
      simp only [zA, zB, zC, Act.put, zD, zE, zF]
      refine rg_one 9 (by kernel_rfl) (rs_of rfl rfl (wp_call rfl enters_hex9 rfl (HXB.out _) (fun V2 hV => ⟨trivial, ?_⟩)))
      obtain rfl := hV
      simp only [zA, zB, zC, Act.put, zD, zE, zF]
      refine rg_take 10 (.bool va) rfl (by kernel_rfl) (by kernel_rfl) (by kernel_rfl) (fun _ _ _ h => h) rfl (fun w _ => ?_) hS ?_
      ·go_simp
      simp only [zA, zB, zC, Act.put, zD, zE, zF]
      refine rg_take 11 (.bool vb) rfl (by kernel_rfl) (by kernel_rfl) (by kernel_rfl) (fun _ _ _ h => h) rfl (fun w _ => ?_) hS ?_
      ·go_simp
      simp only [zA, zB, zC, Act.put, zD, zE, zF]
      refine wpAnyH_done (by kernel_rfl) ?_ _
      (try simp only [Exit.inBlock, Exit.then])
      by_cases hi2 : i = 2
      ·have h2z : ((i : Int) == 2) = true := by rw [hi2]; rfl
       have HI2 := Lib.hid hi2
       clear hi2
       cases vb
       ·have HF : Hid (b = false) := HN (.inr rfl)
        clear HN HY
        go_wp2_with fail
        go_ret
        exact ⟨by rw [HF.out]; rfl, HW.out⟩
       ·have HS2 := Lib.hid (HY ⟨.inl ⟨rfl, HI2.out⟩, rfl⟩)
        clear HN HY
        go_wp2_with fail
        go_roundg (l.length - i)
        case measure => have := HI.out; omega
        case rel => exact ⟨i + 1, by go_num, by show _ = _; have := HI.out; omega, by omega, HS2, HW.out⟩
      ·have h2z : ((i : Int) == 2) = false := beq_eq_false_iff_ne.2 (by omega)
       have HI2 := Lib.hid hi2
       clear hi2
       cases va
       ·have HF : Hid (b = false) := HN (.inl ⟨fun h => HI2.out h.2, rfl⟩)
        clear HN HY
        go_wp2_with fail
        go_ret
        exact ⟨by rw [HF.out]; rfl, HW.out⟩
       ·cases vb
        ·have HF : Hid (b = false) := HN (.inr rfl)
         clear HN HY
         go_wp2_with fail
         go_ret
         exact ⟨by rw [HF.out]; rfl, HW.out⟩
        ·have HS2 := Lib.hid (HY ⟨.inr rfl, rfl⟩)
         clear HN HY
         go_wp2_with fail
         go_roundg (l.length - i)
         case measure => have := HI.out; omega
         case rel => exact ⟨i + 1, by go_num, by show _ = _; have := HI.out; omega, by omega, HS2, HW.out⟩
     ·have HF : Hid (b = false) := by
       cases hbb : b
       ·rfl
       ·obtain ⟨a', b', g1, _⟩ := hb.out.1 hbb i hc
        omega
      obtain rfl : i = 0 := by omega
      rw [Int.natCast_zero] at hx95 h1z
      clear h0 hc HDD HXX
      go_wp2_with fail
      go_ret
      exact ⟨by rw [HF.out]; rfl, HW.out⟩
    ·have HF : Hid (b = false) := by
      cases hbb : b
      ·rfl
      ·obtain ⟨a', b', _, _, g3, _, _⟩ := hb.out.1 hbb i hc
       have := (List.getElem?_eq_some_iff.1 g3).1
       omega
     have h1z : (l.length : Int) ≤ (i : Int) + 1 := by omega
     clear h1 hc HDD HXX
     go_wp2_with fail
     go_ret
     exact ⟨by rw [HF.out]; rfl, HW.out⟩
   ·have e95 : ((c.toNat : Int) != 95) = true := by rw [bne_iff_ne]; intro e; exact hu (UInt8.toNat_inj.1 (by show c.toNat = 95; omega))
    have HS2 : Hid (∀ j : Nat, j < i + 1 → l[j]? = some 95 → ∃ a b : UInt8, 0 < j ∧ l[j - 1]? = some a ∧ l[j + 1]? = some b ∧ ((true = true ∧ j = 2) ∨ pD true a.toNat = true) ∧ pD true b.toNat = true) := fun j hj h => by
     by_cases e : j = i
     ·subst e
      rw [hc] at h
      exact absurd (Option.some.inj h) hu
     ·exact HS.out j (by omega) h
    clear hu hc HDD HXX
    generalize c.toNat = cn at *
    go_wp2_with fail
    go_roundg (l.length - i)
    case measure => have := HI.out; omega
    case rel => exact ⟨i + 1, by go_num, by show _ = _; have := HI.out; omega, by omega, HS2, HW.out⟩
  ·obtain rfl : i = l.length := by omega
   have HF : Hid (b = true) := hb.out.2 (fun j h => HS.out j (by have := (List.getElem?_eq_some_iff.1 h).1; omega) h)
   go_wp2_with fail
   go_ret
   exact ⟨by rw [HF.out]; rfl, HW.out⟩
end Go.Proofs.YtgoemhcngmpfbaaGreatDoor
namespace Go.Proofs.YtgoemhcngmpfbaaGreatDoor
open Go.RowKit Go.Sort
set_option linter.unusedSimpArgs false
theorem bs_dr {w0 w w' : World} {S : Nat} {L : List Bx} (h : Bs w0 S L w) (hd : ∃ m, w' = w.drewN m) : Bs w0 S L w' := by
 obtain ⟨m, rfl⟩ := hd
 exact h.below ((Below.refl _ w).drewN m)
theorem sepB_bool (lt : Bool) (l : List UInt8) : ∃ b : Bool, b = true ↔ SepB lt l := by
 by_cases h : SepB lt l
 ·exact ⟨true, by simp [h]⟩
 ·exact ⟨false, by simp [h]⟩
theorem spaced9_run (lt : Bool) (l : List UInt8) (b : Bool) (w : World) (hl : l.length ≤ 100000) (hb : Hid (b = true ↔ SepB lt l)) :
  Calls Tryz.prog 64 #[.string (bs l), .bool lt] w fun e w' => e = .returned (.bool b) ∧ ∃ m, w' = w.drewN m := by
 cases lt
 ·exact spaced9_false l b w hl hb
 ·exact spaced9_true l b w hl hb
theorem Parse_doc (l : List UInt8) (B : Nat) (z : Int) (k n m : Nat) (hl : l.length ≤ 100000) (hz : z = 2 ∨ z = 8 ∨ z = 10 ∨ z = 16) (hB : (B : Int) = z) (hk : k = parK B l) (hn : n = parN B l) (hm : nl n = m) (V : World) :
  Calls Tryz.prog 65 #[.string (bs l), .int .i64 z] V fun e w' => ∃ (A : Option Addr) (cA : Nat), e = .returned (.tuple #[.agg #[.bool false, .slice A m cA], .int .i64 (k : Int)]) ∧ Good w' false A m cA n ∧ Below V.heap.size V w' :=
 (Parse_run7Z (bs l) B z n k m V hz hB (by rw [bs_size]; exact hl) (by show _ = _; rw [bs_list, hn]) (by show _ = _; rw [bs_list, hk]) hm).mono fun _ _ ⟨q, h1, h2, h3⟩ => ⟨q.1, q.2, h1, h2, h3⟩
set_option maxRecDepth 100000 in
set_option maxHeartbeats 800000 in
theorem IntOf_run (l : List UInt8) (k n m : Nat) (w : World) (hl : l.length ≤ 10000) (h : Hid (IntIs l k n)) (hm : Hid (nl n = m)) :
  Calls Tryz.prog 27 #[.string (bs l)] w fun e w' => ∃ (A : Option Addr) (cA : Nat), e = .returned (.tuple #[.agg #[.bool false, .slice A m cA], .int .i64 (k : Int)]) ∧ Good w' false A m cA n ∧ Below w.heap.size w w' := by
 obtain ⟨S, hS⟩ : ∃ S, w.heap.size = S := ⟨_, rfl⟩
 have I0 := (Bs.start w hS).pushNum hS false none 0 0
 obtain ⟨W, hW⟩ : ∃ W, w.alloc boxNZ = W := ⟨_, rfl⟩
 rw [show w.alloc (boxN false none 0 0) = W from hW] at I0
 have HI := Lib.hid I0
 clear I0
 have hsz := bs_size l
 have he := bs_isEmpty l
 have HB0 := fun V => Base9_run l V (by omega)
 obtain ⟨b, hb⟩ := sepB_bool (decide (pfxB l ≠ 0)) l
 have HS0 := fun V => spaced9_run (decide (pfxB l ≠ 0)) l b V (by omega) hb
 have hpc := pfx_cases l
 have hm0 : n = 0 → m = 0 := fun e => by
  have := hm.out
  rw [e, nl_zero] at this
  exact this.symm
 rcases int_doc h.out with ⟨hno, rfl, rfl⟩ | ⟨hne, hsp, hd⟩
 ·obtain rfl := hm0 rfl
  clear h hm hm0
  by_cases hnil : l = []
  ·
   subst hnil
   have hez : (bs []).toList.isEmpty = true := he
   have HB : Hid (∀ V, Calls Tryz.prog 59 #[.string (bs [])] V fun e w' => e = .returned (.int .i64 0) ∧ w' = V) := HB0
   clear he HB0 HS0 hpc hb hno
   generalize bs [] = z at *
   go_enter Tryz.func27, Tryz.ntmps27
   go_wp2_with fail
   refine (HB.out _).mono ?_
   rintro e w1 ⟨rfl, rfl⟩
   go_wp2_with (first | (with_reducible refine wpList_val (v := .agg #[.bool false, .slice none 0 0]) rfl (build_num rfl) ?_) | (with_reducible refine wpList_store_num rfl (.tmp 2) (.tmp 16) rfl (b := S) (t := false) (B := none) (M := 0) (d := 0) rfl rfl (HI.out.num 0 rfl) ?_))
   have I2 := HI.out.putNum 0 rfl false none 0 0 rfl
   exact bodyPost_ret (v := .tuple #[.agg #[.bool false, .slice none 0 0], .int .i64 8]) (results_numI rfl rfl rfl (I2.num 0 rfl)) rfl ⟨none, 0, rfl, nil_good _, by rw [hS]; exact I2.bl⟩
  ·have hb0 : b = false := by
    cases b
    ·rfl
    ·rcases hno with h | h
     ·exact absurd h hnil
     ·exact absurd (hb.1 rfl) h
   subst hb0
   have hez : (bs l).toList.isEmpty = false := by
    rw [he]
    cases l
    ·exact absurd rfl hnil
    ·rfl
   by_cases hp : pfxB l = 0
   ·have HB : Hid (∀ V, Calls Tryz.prog 59 #[.string (bs l)] V fun e w' => e = .returned (.int .i64 0) ∧ w' = V) := by rw [hp] at HB0; exact HB0
    have HS : Hid (∀ V, Calls Tryz.prog 64 #[.string (bs l), .bool false] V fun e w' => e = .returned (.bool false) ∧ ∃ m, w' = V.drewN m) := by rw [decide_eq_false (fun g => g hp)] at HS0; exact HS0
    clear he HB0 HS0 hpc hb hno hp hnil
    generalize bs l = z at *
    go_enter Tryz.func27, Tryz.ntmps27
    go_wp2_with fail
    refine (HB.out _).mono ?_
    rintro e w1 ⟨rfl, rfl⟩
    go_wp2_with fail
    refine (HS.out _).mono ?_
    rintro e w2 ⟨rfl, hdr⟩
    replace HI := Lib.hid (bs_dr HI.out hdr)
    clear hdr
    go_wp2_with (first | (with_reducible refine wpList_val (v := .agg #[.bool false, .slice none 0 0]) rfl (build_num rfl) ?_) | (with_reducible refine wpList_store_num rfl (.tmp 2) (.tmp 16) rfl (b := S) (t := false) (B := none) (M := 0) (d := 0) rfl rfl (HI.out.num 0 rfl) ?_))
    have I2 := HI.out.putNum 0 rfl false none 0 0 rfl
    exact bodyPost_ret (v := .tuple #[.agg #[.bool false, .slice none 0 0], .int .i64 8]) (results_numI rfl rfl rfl (I2.num 0 rfl)) rfl ⟨none, 0, rfl, nil_good _, by rw [hS]; exact I2.bl⟩
   ·have HB := Lib.hid HB0
    have HS : Hid (∀ V, Calls Tryz.prog 64 #[.string (bs l), .bool true] V fun e w' => e = .returned (.bool false) ∧ ∃ m, w' = V.drewN m) := by rw [decide_eq_true hp] at HS0; exact HS0
    have hpn : 0 < pfxB l := by omega
    have hpd : decide (0 < pfxB l) = true := decide_eq_true hpn
    clear he HB0 HS0 hpc hb hno hp hnil
    generalize pfxB l = p at *
    generalize bs l = z at *
    go_enter Tryz.func27, Tryz.ntmps27
    go_wp2_with fail
    refine (HB.out _).mono ?_
    rintro e w1 ⟨rfl, rfl⟩
    go_wp2_with fail
    refine (HS.out _).mono ?_
    rintro e w2 ⟨rfl, hdr⟩
    replace HI := Lib.hid (bs_dr HI.out hdr)
    clear hdr
    go_wp2_with (first | (with_reducible refine wpList_val (v := .agg #[.bool false, .slice none 0 0]) rfl (build_num rfl) ?_) | (with_reducible refine wpList_store_num rfl (.tmp 2) (.tmp 16) rfl (b := S) (t := false) (B := none) (M := 0) (d := 0) rfl rfl (HI.out.num 0 rfl) ?_))
    have I2 := HI.out.putNum 0 rfl false none 0 0 rfl
    exact bodyPost_ret (v := .tuple #[.agg #[.bool false, .slice none 0 0], .int .i64 8]) (results_numI rfl rfl rfl (I2.num 0 rfl)) rfl ⟨none, 0, rfl, nil_good _, by rw [hS]; exact I2.bl⟩
 ·obtain rfl : b = true := hb.2 hsp
  have hez : (bs l).toList.isEmpty = false := by
   rw [he]
   cases l
   ·exact absurd rfl hne
   ·rfl
  have hlen : 1 ≤ l.length := List.length_pos_iff.2 hne
  rcases hd with ⟨hp, hk, hn⟩ | ⟨hp, h48, h1, hk, hn⟩ | ⟨hp, h48, hk, hn⟩
  ·
   have hl2 : 2 ≤ l.length := by
    obtain ⟨x, r, e, _⟩ := pfx_shape hp
    rw [e]
    simp
   have HB := Lib.hid HB0
   have HS : Hid (∀ V, Calls Tryz.prog 64 #[.string (bs l), .bool true] V fun e w' => e = .returned (.bool true) ∧ ∃ m, w' = V.drewN m) := by rw [decide_eq_true hp] at HS0; exact HS0
   have hpn : 0 < pfxB l := by omega
   have hpd : decide (0 < pfxB l) = true := decide_eq_true hpn
   have hld : (l.drop 2).length ≤ 10000 := by rw [List.length_drop]; omega
   have HW := Lib.hid (fun V => without9_run (l.drop 2) V (by omega))
   have HP := Lib.hid (Parse_doc (unsc (l.drop 2)) (pfxB l) (pfxB l : Int) k n m (by have := unsc_length (l.drop 2); omega) (by omega) rfl hk hn hm.out)
   have hfr := bs_from l 2 _ rfl
   clear he HB0 HS0 hpc hb hp hk hn hsp hne h hm hm0 hld
   generalize pfxB l = p at *
   generalize bs (unsc (l.drop 2)) = u at *
   generalize bs (l.drop 2) = y at *
   generalize bs l = z at *
   generalize l.length = ln at *
   go_enter Tryz.func27, Tryz.ntmps27
   go_wp2_with fail
   refine (HB.out _).mono ?_
   rintro e w1 ⟨rfl, rfl⟩
   go_wp2_with fail
   refine (HS.out _).mono ?_
   rintro e w2 ⟨rfl, hdr⟩
   replace HI := Lib.hid (bs_dr HI.out hdr)
   clear hdr
   go_wp2_with fail
   refine (HW.out _).mono ?_
   rintro e w3 ⟨rfl, rfl⟩
   go_wp2_with fail
   refine (HP.out _).mono ?_
   rintro e w4 ⟨A, cA, rfl, hg, hw⟩
   have I4 := Lib.hid ((HI.out.below hw).pushDig hg)
   clear hw hg HI HP HW HS HB
   go_wp2_with (with_reducible refine wpList_store_num rfl (.tmp 2) (.tmp 24) rfl (b := S) (t := false) (B := A) (M := m) (d := cA) rfl rfl (I4.out.num 1 rfl) ?_)
   have I5 := I4.out.putNum 1 rfl false A m cA rfl
   exact bodyPost_ret (v := .tuple #[.agg #[.bool false, .slice A m cA], .int .i64 (k : Int)]) (results_numI rfl rfl rfl (I5.num 1 rfl)) rfl ⟨A, cA, rfl, I5.dig 0 rfl, by rw [hS]; exact I5.bl⟩
  ·
   have hx0 : ∀ W, (Instr.index 9 (.string (bs l)) (.int .i64 0)).run Tryz.prog W = .ok (.int .u8 48) W := by
    have := bs_get h48
    rwa [Int.natCast_zero] at this
   have HB : Hid (∀ V, Calls Tryz.prog 59 #[.string (bs l)] V fun e w' => e = .returned (.int .i64 0) ∧ w' = V) := by rw [hp] at HB0; exact HB0
   have HS : Hid (∀ V, Calls Tryz.prog 64 #[.string (bs l), .bool false] V fun e w' => e = .returned (.bool true) ∧ ∃ m, w' = V.drewN m) := by rw [decide_eq_false (fun g => g hp)] at HS0; exact HS0
   have hld : (l.drop 1).length ≤ 10000 := by rw [List.length_drop]; omega
   have HW := Lib.hid (fun V => without9_run (l.drop 1) V (by omega))
   have HP := Lib.hid (Parse_doc (unsc (l.drop 1)) 8 8 k n m (by have := unsc_length (l.drop 1); omega) (by omega) rfl hk hn hm.out)
   have hfr := bs_from l 1 _ rfl
   have h1z : (1 : Int) < (l.length : Int) := by omega
   clear he HB0 HS0 hpc hb hp hk hn hsp hne h hm hm0 hld h48
   generalize bs (unsc (l.drop 1)) = u at *
   generalize bs (l.drop 1) = y at *
   generalize bs l = z at *
   generalize l.length = ln at *
   go_enter Tryz.func27, Tryz.ntmps27
   go_wp2_with fail
   refine (HB.out _).mono ?_
   rintro e w1 ⟨rfl, rfl⟩
   go_wp2_with fail
   refine (HS.out _).mono ?_
   rintro e w2 ⟨rfl, hdr⟩
   replace HI := Lib.hid (bs_dr HI.out hdr)
   clear hdr
   go_wp2_with fail
   refine (HW.out _).mono ?_
   rintro e w3 ⟨rfl, rfl⟩
   go_wp2_with fail
   refine (HP.out _).mono ?_
   rintro e w4 ⟨A, cA, rfl, hg, hw⟩
   have I4 := Lib.hid ((HI.out.below hw).pushDig hg)
   clear hw hg HI HP HW HS HB
   go_wp2_with (with_reducible refine wpList_store_num rfl (.tmp 2) (.tmp 38) rfl (b := S) (t := false) (B := A) (M := m) (d := cA) rfl rfl (I4.out.num 1 rfl) ?_)
   have I5 := I4.out.putNum 1 rfl false A m cA rfl
   exact bodyPost_ret (v := .tuple #[.agg #[.bool false, .slice A m cA], .int .i64 (k : Int)]) (results_numI rfl rfl rfl (I5.num 1 rfl)) rfl ⟨A, cA, rfl, I5.dig 0 rfl, by rw [hS]; exact I5.bl⟩
  ·
   have HB : Hid (∀ V, Calls Tryz.prog 59 #[.string (bs l)] V fun e w' => e = .returned (.int .i64 0) ∧ w' = V) := by rw [hp] at HB0; exact HB0
   have HS : Hid (∀ V, Calls Tryz.prog 64 #[.string (bs l), .bool false] V fun e w' => e = .returned (.bool true) ∧ ∃ m, w' = V.drewN m) := by rw [decide_eq_false (fun g => g hp)] at HS0; exact HS0
   have HW := Lib.hid (fun V => without9_run l V (by omega))
   have HP := Lib.hid (Parse_doc (unsc l) 10 10 k n m (by have := unsc_length l; omega) (by omega) rfl hk hn hm.out)
   obtain ⟨c, hc⟩ : ∃ c, l[0]? = some c := ⟨l[0], List.getElem?_eq_getElem hlen⟩
   have hx0 := bs_get hc
   rw [Int.natCast_zero] at hx0
   by_cases hc48 : c = 48
   ·subst hc48
    have hx1 : ∀ W, (Instr.index 9 (.string (bs l)) (.int .i64 0)).run Tryz.prog W = .ok (.int .u8 48) W := hx0
    have h1z : decide ((1 : Int) < (l.length : Int)) = false := decide_eq_false (fun g => h48 ⟨hc, by omega⟩)
    clear he HB0 HS0 hpc hb hp hk hn hsp hne h hm hm0 h48 hx0 hc
    generalize bs (unsc l) = u at *
    generalize bs l = z at *
    generalize l.length = ln at *
    go_enter Tryz.func27, Tryz.ntmps27
    go_wp2_with fail
    refine (HB.out _).mono ?_
    rintro e w1 ⟨rfl, rfl⟩
    go_wp2_with fail
    refine (HS.out _).mono ?_
    rintro e w2 ⟨rfl, hdr⟩
    replace HI := Lib.hid (bs_dr HI.out hdr)
    clear hdr
    go_wp2_with fail
    refine (HW.out _).mono ?_
    rintro e w3 ⟨rfl, rfl⟩
    go_wp2_with fail
    refine (HP.out _).mono ?_
    rintro e w4 ⟨A, cA, rfl, hg, hw⟩
    have I4 := Lib.hid ((HI.out.below hw).pushDig hg)
    clear hw hg HI HP HW HS HB
    go_wp2_with (with_reducible refine wpList_store_num rfl (.tmp 2) (.tmp 43) rfl (b := S) (t := false) (B := A) (M := m) (d := cA) rfl rfl (I4.out.num 1 rfl) ?_)
    have I5 := I4.out.putNum 1 rfl false A m cA rfl
    exact bodyPost_ret (v := .tuple #[.agg #[.bool false, .slice A m cA], .int .i64 (k : Int)]) (results_numI rfl rfl rfl (I5.num 1 rfl)) rfl ⟨A, cA, rfl, I5.dig 0 rfl, by rw [hS]; exact I5.bl⟩
   ·have e48 := eq_byte hc48
    have e48b : ((c.toNat : Int) == 48) = false := e48
    clear he HB0 HS0 hpc hb hp hk hn hsp hne h hm hm0 h48 hc hc48 e48
    generalize c.toNat = cn at *
    generalize bs (unsc l) = u at *
    generalize bs l = z at *
    generalize l.length = ln at *
    go_enter Tryz.func27, Tryz.ntmps27
    go_wp2_with fail
    refine (HB.out _).mono ?_
    rintro e w1 ⟨rfl, rfl⟩
    go_wp2_with fail
    refine (HS.out _).mono ?_
    rintro e w2 ⟨rfl, hdr⟩
    replace HI := Lib.hid (bs_dr HI.out hdr)
    clear hdr
    go_wp2_with fail
    refine (HW.out _).mono ?_
    rintro e w3 ⟨rfl, rfl⟩
    go_wp2_with fail
    refine (HP.out _).mono ?_
    rintro e w4 ⟨A, cA, rfl, hg, hw⟩
    have I4 := Lib.hid ((HI.out.below hw).pushDig hg)
    clear hw hg HI HP HW HS HB
    go_wp2_with (with_reducible refine wpList_store_num rfl (.tmp 2) (.tmp 43) rfl (b := S) (t := false) (B := A) (M := m) (d := cA) rfl rfl (I4.out.num 1 rfl) ?_)
    have I5 := I4.out.putNum 1 rfl false A m cA rfl
    exact bodyPost_ret (v := .tuple #[.agg #[.bool false, .slice A m cA], .int .i64 (k : Int)]) (results_numI rfl rfl rfl (I5.num 1 rfl)) rfl ⟨A, cA, rfl, I5.dig 0 rfl, by rw [hS]; exact I5.bl⟩
end Go.Proofs.YtgoemhcngmpfbaaGreatDoor
namespace Go.Proofs.YtgoemhcngmpfbaaGreatDoor
def TxI (n x : Nat) (l : List UInt8) : Prop := if x = 0 then l = Lib.decDigits n else Lib.decDigits x ++ l = Lib.decDigits n
theorem TxI.start {n : Nat} (h : n ≠ 0) : TxI n n [] := by
 unfold TxI
 rw [if_neg h, List.append_nil]
theorem TxI.step {n x : Nat} {l : List UInt8} (h : TxI n x l) (hx : x ≠ 0) : TxI n (x / 10) (UInt8.ofNat (48 + x % 10) :: l) := by
 unfold TxI at h ⊢
 rw [if_neg hx] at h
 by_cases hs : x < 10
 ·rw [if_pos (by omega)]
  rw [Lib.decDigits_one hs] at h
  rw [← h, Nat.mod_eq_of_lt hs]
  rfl
 ·rw [if_neg (by omega)]
  rw [Lib.decDigits, dif_neg hs] at h
  rw [← h, List.append_assoc]
  rfl
theorem TxI.end {n : Nat} {l : List UInt8} (h : TxI n 0 l) : l = Lib.decDigits n := by
 unfold TxI at h
 rwa [if_pos rfl] at h
end Go.Proofs.YtgoemhcngmpfbaaGreatDoor
namespace Go.Proofs.YtgoemhcngmpfbaaGreatDoor
open Go.RowKit Go.Sort
set_option linter.unusedSimpArgs false
theorem eqi_run {op : Oper} {a : Act} {w : World} {x y : Operand} {u : TypeId} {b : Bool} {s t : Bool} {n m : Nat} (hb : decide (s = t ∧ n = m) = b) (ho : op.op = .binOp .eql 25 x y u) (hx : a.eval x = intV s n) (hy : a.eval y = intV t m)
  (hn : Fits n) (hm : Fits m) : (execOp a.eval op).run Tryz.prog w = .ok (.value (.bool b)) w := by
 rw [← hb]
 unfold execOp
 simp only [ho, hx, hy, Sem.run_bind, Sem.run_pure, Result.andThen_ok, eqg_int, eqInt _ _ _ _ _ hn hm]
end Go.Proofs.YtgoemhcngmpfbaaGreatDoor
namespace Go.Proofs.YtgoemhcngmpfbaaGreatDoor
open Go.RowKit Go.Sort
set_option linter.unusedSimpArgs false
theorem nei_self {op : Oper} {a : Act} {w : World} {x y : Operand} {u : TypeId} {s : Bool} {n : Nat} (ho : op.op = .binOp .neq 25 x y u) (hx : a.eval x = intV s n) (hy : a.eval y = intV s n)
  (hn : Fits n) : (execOp a.eval op).run Tryz.prog w = .ok (.value (.bool false)) w := by
 unfold execOp
 simp only [ho, hx, hy, Sem.run_bind, Sem.run_pure, Result.andThen_ok, eqg_int, neInt _ _ _ _ _ hn hn]
 simp
set_option maxRecDepth 100000 in
set_option maxHeartbeats 2000000 in
theorem Is9_run (n : Nat) (A : Option Addr) (m cA : Nat) (w : World) (hn : Hid (Fits n)) (hg : Good w false A m cA n) :
  Calls Tryz.prog 28 #[intV false n, .nilIface, .agg #[.bool false, .slice A m cA]] w fun e w' => e = .returned (.int .i64 0) ∧ Below w.heap.size w w' := by
 obtain ⟨S, hS⟩ : ∃ S, w.heap.size = S := ⟨_, rfl⟩
 have I0 := (((Bs.start w hS).pushDig hg).pushInt hS false n 25).pushNum (k := S + 1) (by simp [hS]) false A m cA
 obtain ⟨W, hW⟩ : ∃ W, (w.alloc (boxI false n 25)).alloc (boxN false A m cA) = W := ⟨_, rfl⟩
 rw [hW] at I0
 have I := Lib.hid I0
 have HTo := Lib.hid (fun V (hg : Good V false A m cA n) => To_run false A m cA n V hn hg.digs hg.len hg.cap)
 clear I0 hg
 rw [hS]
 have HNm := Lib.hid (I.out.num 0 rfl)
 go_enter Tryz.func28, Tryz.ntmps28
 go_wp2_with (first | (with_reducible refine wpList_box_int rfl (.tmp 0) rfl rfl ?_) | (with_reducible refine wpList_load_num rfl (.tmp 5) rfl rfl HNm.out ?_))
 refine (HTo.out _ (I.out.dig 2 rfl)).mono ?_
 rintro e w6 ⟨rfl, hw⟩
 clear hW HNm
 replace I := Lib.hid (I.out.below hw)
 clear hw
 obtain ⟨M, hN⟩ : ∃ N, w6.heap.size = N := ⟨_, rfl⟩
 have J4 := I.out.pushIntZ hN 25
 obtain ⟨a1, ha⟩ : ∃ x, w6.alloc (boxIZ 25) = x := ⟨_, rfl⟩
 rw [ha] at J4
 have HI4 := Lib.hid (J4.int 0 rfl)
 have I5 := Lib.hid (J4.putInt 0 rfl false n rfl)
 clear J4 I
 go_upto_region 2 with (with_reducible refine wpList_store_int rfl (.tmp 7) (.tmp 12) rfl (b := M) (s := false) (n := n) rfl rfl HI4.out ?_)
 clear HI4 ha hN
 generalize st9 a1 M false n = w7 at *
 have I := I5
 clear I5
 have HA := Lib.hid (I.out.int 2 rfl)
 have HB := Lib.hid (I.out.int 0 rfl)
 go_wp2_with (first | (with_reducible refine wpList_load_int rfl (.tmp 3) rfl rfl HA.out.o ?_) | (with_reducible refine wpList_load_int rfl (.tmp 7) rfl rfl HB.out.o ?_) | (with_reducible refine wpList_val (v := .bool false) rfl (nei_self (x := .tmp 17) (y := .tmp 18) rfl rfl rfl hn.out) ?_))
 go_ret
 exact ⟨rfl, I.out.bl⟩
set_option maxRecDepth 100000 in
set_option maxHeartbeats 4000000 in
theorem Ints_law (s : ByteArray) (w : World) (hsz : s.size ≤ 9223372036854775807) (hml : Hid (Ml w)) (ht : Hid (Tab w)) :
  Calls Tryz.prog 5 #[.string s] w fun e w' => e = .returned (.bool true) ∧ Below w.heap.size w w' := by
 obtain ⟨S, hS⟩ : ∃ S, w.heap.size = S := ⟨_, rfl⟩
 have HML : Hid (∀ V, Below S w V → Ml V) := fun V hb => hml.out.below (by rw [hS]; exact hb)
 have HTB : Hid (∀ V, Below S w V → Tab V) := fun V hb => ht.out.below (by rw [hS]; exact hb)
 obtain ⟨m, hm⟩ : ∃ m, min s.size 200 = m := ⟨_, rfl⟩
 have hmz : min (s.size : Int) 200 = (m : Int) := by omega
 have hms : m ≤ s.size := by omega
 have hex : s.extract 0 m = bs (s.data.toList.take m) := by have := bs_to s.data.toList m; rwa [bs_of] at this
 obtain ⟨t, htt⟩ : ∃ t, s.data.toList.take m = t := ⟨_, rfl⟩
 have htl : t.length ≤ 10000 := by rw [← htt, List.length_take]; omega
 rw [htt] at hex
 rw [hS]
 obtain ⟨k, n, hi⟩ := int_is t
 have hkk := int_k hi
 have HFN := Lib.hid hkk.2.1
 obtain ⟨m2, hm2⟩ : ∃ m2, nl n = m2 := ⟨_, rfl⟩
 have HI0 := fun V (hV : Ml V) => Int_run t k n V htl hi hV
 have HO0 := fun V => IntOf_run t k n m2 V htl hi hm2
 have I := Lib.hid (Bs.start w hS)
 clear hml ht hi hm2 htt
 by_cases hk : k = 0
 ·subst hk
  have HI : Hid (∀ V, Ml V → Calls Tryz.prog 26 #[.string (bs t)] V fun e w' => e = .returned (.tuple #[intV false n, .nilIface]) ∧ Below V.heap.size V w') := HI0
  have HO : Hid (∀ V, Calls Tryz.prog 27 #[.string (bs t)] V fun e w' => ∃ (A : Option Addr) (cA : Nat), e = .returned (.tuple #[.agg #[.bool false, .slice A m2 cA], .int .i64 0]) ∧ Good w' false A m2 cA n ∧ Below V.heap.size V w') := HO0
  clear HI0 HO0 hkk
  generalize bs t = z at *
  go_enter Tryz.func5, Tryz.ntmps5
  go_wp2_with fail
  refine (HI.out _ (HML.out _ I.out.bl)).mono ?_
  rintro e w1 ⟨rfl, hw⟩
  clear HI
  replace I := Lib.hid (I.out.below hw)
  clear hw
  obtain ⟨N1, hN⟩ : ∃ N, w1.heap.size = N := ⟨_, rfl⟩
  have J4 := I.out.pushIntZ hN 25
  obtain ⟨a1, ha⟩ : ∃ x, w1.alloc (boxIZ 25) = x := ⟨_, rfl⟩
  rw [ha] at J4
  have HI4 := Lib.hid (J4.int 0 rfl)
  have I5 := Lib.hid (J4.putInt 0 rfl false n rfl)
  clear J4 I
  go_upto_region 3 with (with_reducible refine wpList_store_int rfl (.tmp 3) (.tmp 15) rfl (b := N1) (s := false) (n := n) rfl rfl HI4.out ?_)
  clear HI4 ha hN
  generalize st9 a1 N1 false n = w2 at *
  have I := I5
  clear I5
  go_wp2_with fail
  refine (HO.out _).mono ?_
  rintro e w3 ⟨A, cA, rfl, hg, hw⟩
  clear HO
  replace I := Lib.hid ((I.out.below hw).pushDig hg)
  clear hw hg
  obtain ⟨N2, hN⟩ : ∃ N, w3.heap.size = N := ⟨_, rfl⟩
  have J4 := I.out.pushNum hN false none 0 0
  obtain ⟨a1, ha⟩ : ∃ x, w3.alloc (boxN false none 0 0) = x := ⟨_, rfl⟩
  rw [ha] at J4
  have HI4 := Lib.hid (J4.num 0 rfl)
  have I5 := Lib.hid (J4.putNum 0 rfl false A m2 cA rfl)
  clear J4 I
  go_upto_region 4 with (with_reducible refine wpList_store_num rfl (.tmp 5) (.tmp 20) rfl (b := N2) (t := false) (B := A) (M := m2) (d := cA) rfl rfl HI4.out ?_)
  clear HI4 ha hN
  generalize st2 a1 N2 false A m2 cA = w4 at *
  have I := I5
  clear I5
  have HA := Lib.hid (I.out.int 2 rfl)
  have HB := Lib.hid (I.out.num 0 rfl)
  go_wp2_with (first | (with_reducible refine wpList_load_int rfl (.tmp 3) rfl rfl HA.out.o ?_) | (with_reducible refine wpList_load_num rfl (.tmp 5) rfl rfl HB.out ?_))
  refine (Is9_run n A m2 cA _ HFN (I.out.dig 1 rfl)).mono ?_
  rintro e w5 ⟨rfl, hw⟩
  replace I := Lib.hid (I.out.below hw)
  clear hw HA HB
  go_wp2_with fail
  refine (works9_run _ (HML.out _ I.out.bl) (HTB.out _ I.out.bl)).mono ?_
  rintro e w9 ⟨rfl, hw⟩
  have I9 := Lib.hid (I.out.below hw)
  clear hw I
  go_wp2_with fail
  go_ret
  exact ⟨rfl, I9.out.bl⟩
 ·obtain rfl : n = 0 := hkk.2.2 hk
  obtain ⟨ev, hev⟩ : ∃ v, errV k = v := ⟨_, rfl⟩
  have HC0 := fun V => code_errV k (by omega) V
  rw [hev] at HI0 HC0
  have HI := Lib.hid HI0
  have HO := Lib.hid HO0
  have HC := Lib.hid HC0
  have hkz : ((k : Int) != 0) = true := by rw [bne_iff_ne]; omega
  clear HI0 HO0 HC0 hkk hk hev
  generalize bs t = z at *
  go_enter Tryz.func5, Tryz.ntmps5
  go_wp2_with fail
  refine (HI.out _ (HML.out _ I.out.bl)).mono ?_
  rintro e w1 ⟨rfl, hw⟩
  clear HI
  replace I := Lib.hid (I.out.below hw)
  clear hw
  obtain ⟨N1, hN⟩ : ∃ N, w1.heap.size = N := ⟨_, rfl⟩
  have J4 := I.out.pushIntZ hN 25
  obtain ⟨a1, ha⟩ : ∃ x, w1.alloc (boxIZ 25) = x := ⟨_, rfl⟩
  rw [ha] at J4
  have HI4 := Lib.hid (J4.int 0 rfl)
  have I5 := Lib.hid (J4.putInt 0 rfl false 0 rfl)
  clear J4 I
  go_upto_region 3 with (with_reducible refine wpList_store_int rfl (.tmp 3) (.tmp 15) rfl (b := N1) (s := false) (n := 0) rfl rfl HI4.out ?_)
  clear HI4 ha hN
  generalize st9 a1 N1 false 0 = w2 at *
  have I := I5
  clear I5
  go_wp2_with fail
  refine (HO.out _).mono ?_
  rintro e w3 ⟨A, cA, rfl, hg, hw⟩
  clear HO
  replace I := Lib.hid ((I.out.below hw).pushDig hg)
  clear hw hg
  obtain ⟨N2, hN⟩ : ∃ N, w3.heap.size = N := ⟨_, rfl⟩
  have J4 := I.out.pushNum hN false none 0 0
  obtain ⟨a1, ha⟩ : ∃ x, w3.alloc (boxN false none 0 0) = x := ⟨_, rfl⟩
  rw [ha] at J4
  have HI4 := Lib.hid (J4.num 0 rfl)
  have I5 := Lib.hid (J4.putNum 0 rfl false A m2 cA rfl)
  clear J4 I
  go_upto_region 4 with (with_reducible refine wpList_store_num rfl (.tmp 5) (.tmp 20) rfl (b := N2) (t := false) (B := A) (M := m2) (d := cA) rfl rfl HI4.out ?_)
  clear HI4 ha hN
  generalize st2 a1 N2 false A m2 cA = w4 at *
  have I := I5
  clear I5
  go_wp2_with fail
  refine (HC.out _).mono ?_
  rintro e w5 ⟨rfl, hw⟩
  replace I := Lib.hid (I.out.below hw)
  clear hw HC
  have HA := Lib.hid (I.out.int 2 rfl)
  go_wp2_with (first | ((with_reducible refine wpList_load_int_w ?hw1 (.tmp 3) rfl rfl HA.out.o ?_); case hw1 => rfl) | (with_reducible refine wpList_val (v := intV false 0) rfl (build_zeroN rfl) ?_) | (with_reducible refine wpList_val (v := .bool true) rfl (eqi_run (b := true) (s := false) (t := false) (n := 0) (m := 0) (x := .tmp 29) (y := .tmp 30) (by simp) rfl rfl rfl HFN.out HFN.out) ?_))
  refine (works9_run _ (HML.out _ I.out.bl) (HTB.out _ I.out.bl)).mono ?_
  rintro e w9 ⟨rfl, hw⟩
  have I9 := Lib.hid (I.out.below hw)
  clear hw I
  go_wp2_with fail
  go_ret
  exact ⟨rfl, I9.out.bl⟩
theorem ints_any (s : ByteArray) (W : World) (hm : s.size ≤ 9223372036854775807) (hs : Ml W) (hh : Tab W) :
  Calls Tryz.prog 5 #[.string s] W fun e w' => e = .returned (.bool true) ∧ Below W.heap.size W w' := Ints_law s W hm hs hh
end Go.Proofs.YtgoemhcngmpfbaaGreatDoor
