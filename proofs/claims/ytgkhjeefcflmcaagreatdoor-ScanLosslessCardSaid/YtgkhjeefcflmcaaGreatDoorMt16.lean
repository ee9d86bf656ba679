/-
  Texts as lists of bytes; number's cutPrefix, cutSign, join, decimal.
-/
import Derived.Test.YtgkhjeefcflmcaaGreatDoorMt15
import Derived.Test.YtgkhjeefcflmcaaGreatDoorMt00
import Derived.Lib.Replace
import Derived.Lib.IndexMore
import Derived.Test.YtgkhjeefcflmcaaGreatDoorMt03
import Derived.Test.YtgkhjeefcflmcaaGreatDoorMt07
import Derived.Laws.ResultCell
import Derived.Test.YtgkhjeefcflmcaaGreatDoorMt08
import Derived.Deep.RegionHeld3
import Derived.Test.YtgkhjeefcflmcaaGreatDoorMt10
import Derived.Test.YtgkhjeefcflmcaaGreatDoorMt04
namespace Go.Proofs.YtgkhjeefcflmcaaGreatDoor
open Go.RowKit Go.Sort
set_option linter.unusedSimpArgs false
def bs (l : List UInt8) : ByteArray := ⟨l.toArray⟩
theorem bs_list (l : List UInt8) : (bs l).data.toList = l := by simp [bs]
theorem bs_size (l : List UInt8) : (bs l).size = l.length := by simp [bs, ByteArray.size]
theorem bs_app (a b : List UInt8) : bs a ++ bs b = bs (a ++ b) := bytes_app a b
theorem bs_extract (l : List UInt8) (i j : Nat) : (bs l).extract i j = bs ((l.take j).drop i) := by
 apply ByteArray.ext
 simp [bs, List.extract_toArray, List.take_drop]
 by_cases h : i ≤ j
 ·rw [show i + (j - i) = j by omega]
 ·rw [List.drop_eq_nil_of_le (by simp; omega), List.drop_eq_nil_of_le (by simp; omega)]
theorem bs_from (l : List UInt8) (i n : Nat) (h : n = l.length) : (bs l).extract i n = bs (l.drop i) := by
 rw [bs_extract, h, List.take_length]
theorem bs_to (l : List UInt8) (j : Nat) : (bs l).extract 0 j = bs (l.take j) := by
 rw [bs_extract, List.drop_zero]
theorem bs_get {l : List UInt8} {i : Nat} {c : UInt8} (h : l[i]? = some c) (W : World) : (Instr.index 9 (.string (bs l)) (.int .i64 (i : Int))).run Tryz.prog W = .ok (.int .u8 (c.toNat : Int)) W := index_at (by rw [bs_list]; exact h) W
def pfxB : List UInt8 → Nat
 | a :: c :: _ => if a = 48 then (if c = 120 ∨ c = 88 then 16 else if c = 98 ∨ c = 66 then 2 else if c = 111 ∨ c = 79 then 8 else 0) else 0
 | _ => 0
theorem pfx_short {l : List UInt8} (h : l.length < 2) : pfxB l = 0 := by
 match l, h with
 | [], _ => rfl
 | [a], _ => rfl
 | a :: b :: m, h => exact absurd h (by simp)
theorem eq48 {a : UInt8} : ((a.toNat : Int) == 48) = decide (a = 48) := by
 rw [Bool.eq_iff_iff]
 simp only [beq_iff_eq, decide_eq_true_eq]
 constructor
 ·intro h
  exact UInt8.toNat_inj.1 (by show a.toNat = 48; omega)
 ·rintro rfl; rfl
set_option maxRecDepth 100000 in
set_option maxHeartbeats 4000000 in
theorem cutPrefix_run (l : List UInt8) (w : World) (hl : l.length ≤ 100000) :
  Calls Tryz.prog 99 #[.string (bs l)] w fun e w' => e = .returned (.tuple #[.int .i64 (pfxB l : Int), .string (bs (if pfxB l = 0 then l else l.drop 2))]) ∧ Below w.heap.size w w' := by
 have hsz := bs_size l
 by_cases h2 : l.length < 2
 ·have hp := pfx_short h2
  rw [hp, if_pos rfl]
  go_enter Tryz.func99, Tryz.ntmps99
  go_wp2_with fail
  go_ret2
  exact ⟨rfl, Below.refl _ _⟩
 ·match l, h2, hl with
  | [], h2, _ => exact absurd (show ([] : List UInt8).length < 2 by simp) h2
  | [a], h2, _ => exact absurd (show [a].length < 2 by simp) h2
  | a :: c :: m, h2, hl =>
   have hxa := bs_get (l := a :: c :: m) (i := 0) (c := a) rfl
   have hxc := bs_get (l := a :: c :: m) (i := 1) (c := c) rfl
   have hdr := bs_from (a :: c :: m) 2 _ rfl
   rw [Int.natCast_zero] at hxa
   rw [Int.natCast_one] at hxc
   have hl2 : ¬ (((a :: c :: m).length : Int) < 2) := by omega
   have hl3 : 2 ≤ (a :: c :: m).length := by omega
   have hp : pfxB (a :: c :: m) = if a = 48 then (if c = 120 ∨ c = 88 then 16 else if c = 98 ∨ c = 66 then 2 else if c = 111 ∨ c = 79 then 8 else 0) else 0 := rfl
   by_cases ha : a = 48
   ·have e48 : ((a.toNat : Int) == 48) = true := by rw [eq48]; simpa using ha
    rw [if_pos ha] at hp
    have hcc : c = 120 ∨ c = 88 ∨ c = 98 ∨ c = 66 ∨ c = 111 ∨ c = 79 ∨ (c ≠ 120 ∧ c ≠ 88 ∧ c ≠ 98 ∧ c ≠ 66 ∧ c ≠ 111 ∧ c ≠ 79) := by
     by_cases g1 : c = 120
     ·exact .inl g1
     ·by_cases g2 : c = 88
      ·exact .inr (.inl g2)
      ·by_cases g3 : c = 98
       ·exact .inr (.inr (.inl g3))
       ·by_cases g4 : c = 66
        ·exact .inr (.inr (.inr (.inl g4)))
        ·by_cases g5 : c = 111
         ·exact .inr (.inr (.inr (.inr (.inl g5))))
         ·by_cases g6 : c = 79
          ·exact .inr (.inr (.inr (.inr (.inr (.inl g6)))))
          ·exact .inr (.inr (.inr (.inr (.inr (.inr ⟨g1, g2, g3, g4, g5, g6⟩)))))
    rcases hcc with hcc | hcc | hcc | hcc | hcc | hcc | hcc
    ·subst hcc
     have hp2 : pfxB (a :: 120 :: m) = 16 := hp
     rw [hp2, if_neg (by decide)]
     clear hp hp2 ha
     generalize a.toNat = an at *
     generalize hL : a :: 120 :: m = L at *
     go_enter Tryz.func99, Tryz.ntmps99
     go_wp2_with fail
     go_quiet (fail)
     go_wp2_with fail
     go_ret2
     exact ⟨rfl, (Below.refl _ _).drewN _⟩
    ·subst hcc
     have hp2 : pfxB (a :: 88 :: m) = 16 := hp
     rw [hp2, if_neg (by decide)]
     clear hp hp2 ha
     generalize a.toNat = an at *
     generalize hL : a :: 88 :: m = L at *
     go_enter Tryz.func99, Tryz.ntmps99
     go_wp2_with fail
     go_quiet (fail)
     go_wp2_with fail
     go_ret2
     exact ⟨rfl, (Below.refl _ _).drewN _⟩
    ·subst hcc
     have hp2 : pfxB (a :: 98 :: m) = 2 := hp
     rw [hp2, if_neg (by decide)]
     clear hp hp2 ha
     generalize a.toNat = an at *
     generalize hL : a :: 98 :: m = L at *
     go_enter Tryz.func99, Tryz.ntmps99
     go_wp2_with fail
     go_quiet (fail)
     go_wp2_with fail
     go_ret2
     exact ⟨rfl, (Below.refl _ _).drewN _⟩
    ·subst hcc
     have hp2 : pfxB (a :: 66 :: m) = 2 := hp
     rw [hp2, if_neg (by decide)]
     clear hp hp2 ha
     generalize a.toNat = an at *
     generalize hL : a :: 66 :: m = L at *
     go_enter Tryz.func99, Tryz.ntmps99
     go_wp2_with fail
     go_quiet (fail)
     go_wp2_with fail
     go_ret2
     exact ⟨rfl, (Below.refl _ _).drewN _⟩
    ·subst hcc
     have hp2 : pfxB (a :: 111 :: m) = 8 := hp
     rw [hp2, if_neg (by decide)]
     clear hp hp2 ha
     generalize a.toNat = an at *
     generalize hL : a :: 111 :: m = L at *
     go_enter Tryz.func99, Tryz.ntmps99
     go_wp2_with fail
     go_quiet (fail)
     go_wp2_with fail
     go_ret2
     exact ⟨rfl, (Below.refl _ _).drewN _⟩
    ·subst hcc
     have hp2 : pfxB (a :: 79 :: m) = 8 := hp
     rw [hp2, if_neg (by decide)]
     clear hp hp2 ha
     generalize a.toNat = an at *
     generalize hL : a :: 79 :: m = L at *
     go_enter Tryz.func99, Tryz.ntmps99
     go_wp2_with fail
     go_quiet (fail)
     go_wp2_with fail
     go_ret2
     exact ⟨rfl, (Below.refl _ _).drewN _⟩
    ·obtain ⟨g1, g2, g3, g4, g5, g6⟩ := hcc
     have hp2 : pfxB (a :: c :: m) = 0 := by
      rw [hp, if_neg (fun h => h.elim g1 g2), if_neg (fun h => h.elim g3 g4), if_neg (fun h => h.elim g5 g6)]
     rw [hp2, if_pos rfl]
     have hne : ∀ k : UInt8, c ≠ k → ((c.toNat : Int) == (k.toNat : Int)) = false := fun k h => beq_eq_false_iff_ne.2 (fun e => h (UInt8.toNat_inj.1 (by omega)))
     have f1 : ((c.toNat : Int) == 120) = false := hne 120 g1
     have f2 : ((c.toNat : Int) == 88) = false := hne 88 g2
     have f3 : ((c.toNat : Int) == 98) = false := hne 98 g3
     have f4 : ((c.toNat : Int) == 66) = false := hne 66 g4
     have f5 : ((c.toNat : Int) == 111) = false := hne 111 g5
     have f6 : ((c.toNat : Int) == 79) = false := hne 79 g6
     clear hp hp2 ha hne g1 g2 g3 g4 g5 g6 hdr
     generalize a.toNat = an at *
     generalize c.toNat = cn at *
     generalize hL : a :: c :: m = L at *
     go_enter Tryz.func99, Tryz.ntmps99
     go_wp2_with fail
     go_ret2
     exact ⟨rfl, Below.refl _ _⟩
   ·have e48 : ((a.toNat : Int) == 48) = false := by rw [eq48]; simpa using ha
    rw [if_neg ha] at hp
    rw [hp, if_pos rfl]
    clear hp ha hdr hxc
    generalize a.toNat = an at *
    generalize hL : a :: c :: m = L at *
    go_enter Tryz.func99, Tryz.ntmps99
    go_wp2_with fail
    go_ret2
    exact ⟨rfl, Below.refl _ _⟩
def sgnL : List UInt8 → List UInt8
 | a :: _ => if isSgn a.toNat then [a] else []
 | [] => []
def restL : List UInt8 → List UInt8
 | a :: m => if isSgn a.toNat then m else a :: m
 | [] => []
theorem bs_isEmpty (l : List UInt8) : (bs l).toList.isEmpty = l.isEmpty := by rw [Lib.toList_data, bs_list]
set_option maxRecDepth 100000 in
set_option maxHeartbeats 4000000 in
theorem cutSign_run (l : List UInt8) (w : World) (hl : l.length ≤ 100000) :
  Calls Tryz.prog 161 #[.string (bs l)] w fun e w' => e = .returned (.tuple #[.string (bs (sgnL l)), .string (bs (restL l))]) ∧ Below w.heap.size w w' := by
 have hsz := bs_size l
 have he := bs_isEmpty l
 cases l with
 | nil =>
  go_enter Tryz.func161, Tryz.ntmps161
  go_wp2_with fail
  go_ret2
  exact ⟨rfl, Below.refl _ _⟩
 | cons a m =>
  have hxa := bs_get (l := a :: m) (i := 0) (c := a) rfl
  rw [Int.natCast_zero] at hxa
  have hne : ¬ ((a :: m).length = 0) := by simp
  have hd1 := bs_from (a :: m) 1 _ rfl
  have hd0 := bs_to (a :: m) 1
  have hl1 : 1 ≤ (a :: m).length := by simp
  have he2 : (bs (a :: m)).toList.isEmpty = false := he
  have HS := Lib.hid (fun W => isSign_run a.toNat W)
  have e1 : sgnL (a :: m) = if isSgn a.toNat = true then [a] else [] := rfl
  have e2 : restL (a :: m) = if isSgn a.toNat = true then m else a :: m := rfl
  rw [e1, e2]
  clear he e1 e2
  cases hs : isSgn a.toNat
  ·rw [hs] at HS
   simp only [Bool.false_eq_true, if_false]
   clear hs hd1 hd0
   generalize a.toNat = an at *
   generalize hL : a :: m = L at *
   go_enter Tryz.func161, Tryz.ntmps161
   go_wp2_with fail
   refine (HS.out _).mono ?_
   rintro e w1 ⟨rfl, rfl⟩
   go_wp2_with fail
   go_ret2
   exact ⟨rfl, Below.refl _ _⟩
  ·rw [hs] at HS
   simp only [if_true]
   clear hs
   have hd1' : (a :: m).drop 1 = m := rfl
   have hd0' : (a :: m).take 1 = [a] := rfl
   rw [hd1'] at hd1
   rw [hd0'] at hd0
   clear hd1' hd0'
   generalize a.toNat = an at *
   generalize hL : a :: m = L at *
   go_enter Tryz.func161, Tryz.ntmps161
   go_wp2_with fail
   refine (HS.out _).mono ?_
   rintro e w1 ⟨rfl, rfl⟩
   go_wp2_with fail
   go_quiet (fail)
   go_wp2_with fail
   go_ret2
   exact ⟨rfl, (Below.refl _ _).drewN _⟩
end Go.Proofs.YtgkhjeefcflmcaaGreatDoor
namespace Go.Proofs.YtgkhjeefcflmcaaGreatDoor
open Go.RowKit Go.Sort
set_option linter.unusedSimpArgs false
def Sep (p : Nat → Bool) (l : List UInt8) : Prop := ∀ i : Nat, l[i]? = some 95 → ∃ a b : UInt8, 0 < i ∧ l[i - 1]? = some a ∧ l[i + 1]? = some b ∧ p a.toNat = true ∧ p b.toNat = true
theorem eq95 {a : UInt8} : ((a.toNat : Int) == 95) = decide (a = 95) := by
 rw [Bool.eq_iff_iff]
 simp only [beq_iff_eq, decide_eq_true_eq]
 constructor
 ·intro h
  exact UInt8.toNat_inj.1 (by show a.toNat = 95; omega)
 ·rintro rfl; rfl
set_option maxRecDepth 100000 in
set_option maxHeartbeats 8000000 in
theorem separated_run (k : Int) (p : Nat → Bool) (l : List UInt8) (b : Bool) (w : World) (hl : l.length ≤ 100000) (hb : Hid (b = true ↔ Sep p l))
  (HH : Hid (∀ (c : UInt8) W, Calls Tryz.prog 98 #[.int .i64 k, .int .u8 (c.toNat : Int)] W fun e w' => e = .returned (.bool (p c.toNat)) ∧ w' = W)) :
  Calls Tryz.prog 132 #[.string (bs l), .int .i64 k] w fun e w' => e = .returned (.bool b) ∧ w' = w := by
 have hsz := bs_size l
 go_enter Tryz.func132, Tryz.ntmps132
 go_wp2_with fail
 go_loopg [9] (l.length + 1) (fun h s9 wr => ∃ i : Nat, s9 = .int .i64 (i : Int) ∧ Hid (i + h = l.length + 1) ∧ i ≤ l.length ∧ Hid (∀ j : Nat, j < i → l[j]? = some 95 → ∃ a b : UInt8, 0 < j ∧ l[j - 1]? = some a ∧ l[j + 1]? = some b ∧ p a.toNat = true ∧ p b.toNat = true) ∧ wr = w)
 case atStart => exact ⟨0, rfl, by show _ = _; omega, by omega, fun j hj => absurd hj (by omega), rfl⟩
 case round =>
  obtain ⟨i, rfl, HI, hin, HS, rfl⟩ := hrel
  by_cases hlt : i < l.length
  ·have hiz : (i : Int) < (l.length : Int) := by omega
   obtain ⟨c, hc⟩ : ∃ c, l[i]? = some c := ⟨l[i], List.getElem?_eq_getElem hlt⟩
   have hx := bs_get hc
   by_cases hu : c = 95
   ·subst hu
    have hx95 : ∀ W, (Instr.index 9 (.string (bs l)) (.int .i64 (i : Int))).run Tryz.prog W = .ok (.int .u8 95) W := hx
    clear hx
    by_cases h0 : 0 < i
    ·have h0z : (0 : Int) < (i : Int) := by omega
     by_cases h1 : i + 1 < l.length
     ·have h1z : (i : Int) < (l.length : Int) - 1 := by omega
      obtain ⟨im, him⟩ : ∃ im, i = im + 1 := ⟨i - 1, by omega⟩
      have hmz : (i : Int) - 1 = (im : Int) := by omega
      obtain ⟨ip, hip⟩ : ∃ ip, i + 1 = ip := ⟨_, rfl⟩
      have hpz : (i : Int) + 1 = (ip : Int) := by omega
      obtain ⟨ca, hca⟩ : ∃ c, l[im]? = some c := ⟨l[im], List.getElem?_eq_getElem (by omega)⟩
      obtain ⟨cb, hcb⟩ : ∃ c, l[ip]? = some c := ⟨l[ip], List.getElem?_eq_getElem (by omega)⟩
      have hxa := bs_get hca
      have hxb := bs_get hcb
      have HA := Lib.hid (fun W => HH.out ca W)
      have HB := Lib.hid (fun W => HH.out cb W)
      have HCA : Hid (l[i - 1]? = some ca) := by rw [him]; exact hca
      have HCB : Hid (l[i + 1]? = some cb) := by rw [hip]; exact hcb
      have HC := Lib.hid hc
      have HIM := Lib.hid him
      clear hca hcb hc him hip
      cases hpa : p ca.toNat
      ·have HF : Hid (b = false) := by
        cases hbb : b
        ·rfl
        ·obtain ⟨a', b', _, g2, _, g4, _⟩ := hb.out.1 hbb i HC.out
         rw [HCA.out] at g2
         cases g2
         rw [hpa] at g4
         cases g4
       rw [hpa] at HA
       clear hpa
       generalize ca.toNat = an at *
       generalize cb.toNat = bn at *
       go_wp2_with fail
       refine (HA.out _).mono ?_
       rintro e w1 ⟨rfl, rfl⟩
       go_wp2_with fail
       go_ret
       exact ⟨by rw [HF.out]; rfl, rfl⟩
      ·rw [hpa] at HA
       have HPA := Lib.hid hpa
       clear hpa
       cases hpb : p cb.toNat
       ·have HF : Hid (b = false) := by
         cases hbb : b
         ·rfl
         ·obtain ⟨a', b', _, _, g3, _, g5⟩ := hb.out.1 hbb i HC.out
          rw [HCB.out] at g3
          cases g3
          rw [hpb] at g5
          cases g5
        rw [hpb] at HB
        clear hpb
        generalize ca.toNat = an at *
        generalize cb.toNat = bn at *
        go_wp2_with fail
        refine (HA.out _).mono ?_
        rintro e w1 ⟨rfl, rfl⟩
        go_wp2_with fail
        refine (HB.out _).mono ?_
        rintro e w1 ⟨rfl, rfl⟩
        go_wp2_with fail
        go_ret
        exact ⟨by rw [HF.out]; rfl, rfl⟩
       ·rw [hpb] at HB
        have HS2 : Hid (∀ j : Nat, j < i + 1 → l[j]? = some 95 → ∃ a b : UInt8, 0 < j ∧ l[j - 1]? = some a ∧ l[j + 1]? = some b ∧ p a.toNat = true ∧ p b.toNat = true) := fun j hj h => by
         by_cases e : j = i
         ·subst e
          exact ⟨ca, cb, h0, HCA.out, HCB.out, HPA.out, hpb⟩
         ·exact HS.out j (by omega) h
        clear hpb HPA HCA HCB
        generalize ca.toNat = an at *
        generalize cb.toNat = bn at *
        go_wp2_with fail
        refine (HA.out _).mono ?_
        rintro e w1 ⟨rfl, rfl⟩
        go_wp2_with fail
        refine (HB.out _).mono ?_
        rintro e w1 ⟨rfl, rfl⟩
        go_wp2_with fail
        go_roundg (l.length - i)
        case measure => have := HI.out; omega
        case rel => exact ⟨i + 1, by go_num, by show _ = _; have := HI.out; omega, by omega, HS2, rfl⟩
     ·have HF : Hid (b = false) := by
       cases hbb : b
       ·rfl
       ·obtain ⟨a', b', _, _, g3, _, _⟩ := hb.out.1 hbb i hc
        have := (List.getElem?_eq_some_iff.1 g3).1
        omega
      have h1z : ¬ (i : Int) < (l.length : Int) - 1 := by omega
      clear h1 hc
      go_wp2_with fail
      go_ret
      exact ⟨by rw [HF.out]; rfl, rfl⟩
    ·have HF : Hid (b = false) := by
      cases hbb : b
      ·rfl
      ·obtain ⟨a', b', g1, _⟩ := hb.out.1 hbb i hc
       omega
     obtain rfl : i = 0 := by omega
     rw [Int.natCast_zero] at hx95
     clear h0 hc
     go_wp2_with fail
     go_ret
     exact ⟨by rw [HF.out]; rfl, rfl⟩
   ·have e95 : ((c.toNat : Int) == 95) = false := by rw [eq95]; simpa using hu
    have HS2 : Hid (∀ j : Nat, j < i + 1 → l[j]? = some 95 → ∃ a b : UInt8, 0 < j ∧ l[j - 1]? = some a ∧ l[j + 1]? = some b ∧ p a.toNat = true ∧ p b.toNat = true) := fun j hj h => by
     by_cases e : j = i
     ·subst e
      rw [hc] at h
      exact absurd (Option.some.inj h) hu
     ·exact HS.out j (by omega) h
    clear hu hc
    generalize c.toNat = cn at *
    have h4 : ((0 : Int) < (i : Int) ∧ (i : Int) < (l.length : Int) - 1) ∨ ((0 : Int) < (i : Int) ∧ ¬ (i : Int) < (l.length : Int) - 1) ∨ ¬ (0 : Int) < (i : Int) := by omega
    rcases h4 with ⟨h4, h5⟩ | ⟨h4, h5⟩ | h4 <;>
    ·go_wp2_with fail
     go_roundg (l.length - i)
     case measure => have := HI.out; omega
     case rel => exact ⟨i + 1, by go_num, by show _ = _; have := HI.out; omega, by omega, HS2, rfl⟩
  ·obtain rfl : i = l.length := by omega
   have HF : Hid (b = true) := hb.out.2 (fun j h => HS.out j (by have := (List.getElem?_eq_some_iff.1 h).1; omega) h)
   go_wp2_with fail
   go_ret
   exact ⟨by rw [HF.out]; rfl, rfl⟩
def decB (l : List UInt8) : Bool := !l.isEmpty && okDig 10 l
theorem decB_K (l : List UInt8) : decB l = decide (parK 10 l = 0 ∨ parK 10 l = 9) := by
 unfold decB
 cases l with
 | nil => rw [parK_nil]; rfl
 | cons a m =>
  cases h : okDig 10 (a :: m)
  ·rw [parK_dig h (by simp)]; rfl
  ·rcases Nat.lt_or_ge (num 10 (a :: m)) (18446744073709551616 ^ 8) with hf | hf
   ·rw [parK_ok h (by simp) hf]; rfl
   ·rw [parK_over h (by simp) (Nat.not_lt.2 hf)]; rfl
set_option maxRecDepth 100000 in
set_option maxHeartbeats 4000000 in
theorem decimal_runN (l : List UInt8) (w : World) (hl : l.length ≤ 100000) :
  Calls Tryz.prog 163 #[.string (bs l)] w fun e w' => e = .returned (.bool (decB l)) ∧ Below w.heap.size w w' := by
 have HP : ∀ W, Calls Tryz.prog 133 #[.string (bs l), .int .i64 10] W fun e w' => e = .returned (.tuple #[intV false (parN 10 l), errV (parK 10 l)]) ∧ Below W.heap.size W w' := fun W => by
  have := Parse_runL (bs l) 10 W (.inr (.inr (.inl rfl))) (by rw [bs_size]; exact hl)
  rwa [bs_list] at this
 rw [decB_K]
 have HK := parK_cases 10 l
 generalize parN 10 l = n at *
 generalize parK 10 l = k at *
 rcases HK with rfl | rfl | rfl | rfl
 ·have HP := Lib.hid HP
  have he : errV 0 = .nilIface := rfl
  rw [he] at HP
  clear he
  go_enter Tryz.func163, Tryz.ntmps163
  go_wp2_with fail
  refine (HP.out _).mono ?_
  rintro e w1 ⟨rfl, hw1⟩
  obtain ⟨S, hS⟩ : ∃ S, w1.heap.size = S := ⟨_, rfl⟩
  obtain ⟨a1, ha⟩ : ∃ W, w1.alloc (boxIZ 92) = W := ⟨_, rfl⟩
  have HZ := IntAt.zero w1 92
  have B1 := hw1.trans ((below_alloc w1 (boxIZ 92)).mono hw1.size)
  rw [ha, hS] at HZ
  rw [ha] at B1
  replace HZ := Lib.hid HZ
  have B2 := Lib.hid ((st9_but a1 S false n).2.1 w.heap.size w (by have := hw1.size; omega) B1)
  clear hw1 B1
  go_wp2_with (with_reducible refine wpList_store_int rfl (.tmp 3) (.tmp 8) rfl (b := S) (s := false) (n := n) rfl rfl HZ.out ?_)
  go_ret
  exact ⟨rfl, B2.out⟩
 ·have HP := Lib.hid HP
  have HI := Lib.hid (fun W => is_errno_below 9 9 W)
  unfold errno at HI
  have he : errV 9 = .iface 35 (.int .i64 9) := rfl
  rw [he] at HP
  clear he
  go_enter Tryz.func163, Tryz.ntmps163
  go_wp2_with fail
  refine (HP.out _).mono ?_
  rintro e w1 ⟨rfl, hw1⟩
  obtain ⟨S, hS⟩ : ∃ S, w1.heap.size = S := ⟨_, rfl⟩
  obtain ⟨a1, ha⟩ : ∃ W, w1.alloc (boxIZ 92) = W := ⟨_, rfl⟩
  have HZ := IntAt.zero w1 92
  have B1 := hw1.trans ((below_alloc w1 (boxIZ 92)).mono hw1.size)
  rw [ha, hS] at HZ
  rw [ha] at B1
  replace HZ := Lib.hid HZ
  have B2 := Lib.hid ((st9_but a1 S false n).2.1 w.heap.size w (by have := hw1.size; omega) B1)
  clear hw1 B1
  go_wp2_with (with_reducible refine wpList_store_int rfl (.tmp 3) (.tmp 8) rfl (b := S) (s := false) (n := n) rfl rfl HZ.out ?_)
  refine (HI.out _).mono ?_
  rintro e w2 ⟨rfl, hw2⟩
  have B3 := Lib.hid (B2.out.trans (hw2.mono B2.out.size))
  clear hw2
  go_wp2_with fail
  go_ret
  exact ⟨rfl, B3.out⟩
 ·have HP := Lib.hid HP
  have HI := Lib.hid (fun W => is_errno_below 12 9 W)
  unfold errno at HI
  have he : errV 12 = .iface 35 (.int .i64 12) := rfl
  rw [he] at HP
  clear he
  go_enter Tryz.func163, Tryz.ntmps163
  go_wp2_with fail
  refine (HP.out _).mono ?_
  rintro e w1 ⟨rfl, hw1⟩
  obtain ⟨S, hS⟩ : ∃ S, w1.heap.size = S := ⟨_, rfl⟩
  obtain ⟨a1, ha⟩ : ∃ W, w1.alloc (boxIZ 92) = W := ⟨_, rfl⟩
  have HZ := IntAt.zero w1 92
  have B1 := hw1.trans ((below_alloc w1 (boxIZ 92)).mono hw1.size)
  rw [ha, hS] at HZ
  rw [ha] at B1
  replace HZ := Lib.hid HZ
  have B2 := Lib.hid ((st9_but a1 S false n).2.1 w.heap.size w (by have := hw1.size; omega) B1)
  clear hw1 B1
  go_wp2_with (with_reducible refine wpList_store_int rfl (.tmp 3) (.tmp 8) rfl (b := S) (s := false) (n := n) rfl rfl HZ.out ?_)
  refine (HI.out _).mono ?_
  rintro e w2 ⟨rfl, hw2⟩
  have B3 := Lib.hid (B2.out.trans (hw2.mono B2.out.size))
  clear hw2
  go_wp2_with fail
  go_ret
  exact ⟨rfl, B3.out⟩
 ·have HP := Lib.hid HP
  have HI := Lib.hid (fun W => is_errno_below 13 9 W)
  unfold errno at HI
  have he : errV 13 = .iface 35 (.int .i64 13) := rfl
  rw [he] at HP
  clear he
  go_enter Tryz.func163, Tryz.ntmps163
  go_wp2_with fail
  refine (HP.out _).mono ?_
  rintro e w1 ⟨rfl, hw1⟩
  obtain ⟨S, hS⟩ : ∃ S, w1.heap.size = S := ⟨_, rfl⟩
  obtain ⟨a1, ha⟩ : ∃ W, w1.alloc (boxIZ 92) = W := ⟨_, rfl⟩
  have HZ := IntAt.zero w1 92
  have B1 := hw1.trans ((below_alloc w1 (boxIZ 92)).mono hw1.size)
  rw [ha, hS] at HZ
  rw [ha] at B1
  replace HZ := Lib.hid HZ
  have B2 := Lib.hid ((st9_but a1 S false n).2.1 w.heap.size w (by have := hw1.size; omega) B1)
  clear hw1 B1
  go_wp2_with (with_reducible refine wpList_store_int rfl (.tmp 3) (.tmp 8) rfl (b := S) (s := false) (n := n) rfl rfl HZ.out ?_)
  refine (HI.out _).mono ?_
  rintro e w2 ⟨rfl, hw2⟩
  have B3 := Lib.hid (B2.out.trans (hw2.mono B2.out.size))
  clear hw2
  go_wp2_with fail
  go_ret
  exact ⟨rfl, B3.out⟩
end Go.Proofs.YtgkhjeefcflmcaaGreatDoor
namespace Go.Proofs.YtgkhjeefcflmcaaGreatDoor
open Go.RowKit Go.Sort
set_option linter.unusedSimpArgs false
def unsc (l : List UInt8) : List UInt8 := l.filter fun c => c != 95
theorem pre_one (c b : UInt8) (m : List UInt8) : ([c] : List UInt8).isPrefixOf (b :: m) = (c == b) := by
 simp [List.isPrefixOf]
theorem replace_unsc : ∀ l : List UInt8, Lib.replaceK [95] [] (Lib.count l [95]) l = unsc l
 | [] => by
  have h : Lib.index [] [95] = -1 := rfl
  rw [Lib.count_miss h]
  rfl
 | b :: m => by
  have ih := replace_unsc m
  by_cases hb : b = 95
  ·subst hb
   have h : Lib.index ((95 : UInt8) :: m) [95] = ((0 : Nat) : Int) := by
    unfold Lib.index
    rw [pre_one]
    rfl
   rw [Lib.count_hit (by simp) h, Nat.add_comm, Lib.replaceK_hit _ _ _ _ _ h]
   show [] ++ [] ++ Lib.replaceK [95] [] (Lib.count (((95 : UInt8) :: m).drop (0 + 1)) [95]) (((95 : UInt8) :: m).drop (0 + 1)) = _
   show Lib.replaceK [95] [] (Lib.count m [95]) m = _
   rw [ih]
   rfl
  ·have hp : ([95] : List UInt8).isPrefixOf (b :: m) = false := by rw [pre_one]; simpa using fun h => hb h.symm
   have hu : unsc (b :: m) = b :: unsc m := by unfold unsc; rw [List.filter_cons_of_pos (by simpa using hb)]
   have hi : Lib.index (b :: m) [95] = if Lib.index m [95] == -1 then -1 else Lib.index m [95] + 1 := by
    show (if ([95] : List UInt8).isPrefixOf (b :: m) then _ else _) = _
    rw [hp]
    rfl
   by_cases hm : Lib.index m [95] = -1
   ·rw [if_pos (beq_iff_eq.2 hm)] at hi
    rw [Lib.count_miss hi, hu, ← ih, Lib.count_miss hm]
    rfl
   ·have hge := Lib.index_ge m [95]
    obtain ⟨i, hi2⟩ : ∃ i : Nat, Lib.index m [95] = i := ⟨(Lib.index m [95]).toNat, by omega⟩
    rw [if_neg (fun e => hm (beq_iff_eq.1 e)), hi2] at hi
    have hi3 : Lib.index (b :: m) [95] = ((i + 1 : Nat) : Int) := by rw [hi]; omega
    rw [Lib.count_hit (by simp) hi2, Nat.add_comm, Lib.replaceK_hit _ _ _ _ _ hi2] at ih
    rw [Lib.count_hit (by simp) hi3, Nat.add_comm, Lib.replaceK_hit _ _ _ _ _ hi3, hu, ← ih]
    rfl
theorem replaceAll_unsc (l : List UInt8) : Lib.replaceAll l [95] [] = unsc l := by
 rw [← replace_unsc]
 unfold Lib.replaceAll Lib.replace Lib.replaceNum
 rw [if_neg (by decide), if_pos (.inl (by decide))]
theorem unsc_length (l : List UInt8) : (unsc l).length ≤ l.length := List.length_filter_le _ _
def Ml (w : World) : Prop := ∃ m, w.cell? ⟨3, 0, none⟩ = some (.int .i64 m)
theorem Ml.below {w w' : World} (h : Ml w) (hb : Below w.heap.size w w') : Ml w' := by
 obtain ⟨m, hm⟩ := h
 exact ⟨m, (hb.cell (World.block_lt_of_cell? w _ hm)).trans hm⟩
set_option maxRecDepth 100000 in
set_option maxHeartbeats 2000000 in
theorem join_run (l : List UInt8) (w : World) (hl : l.length ≤ 100000) (hm : Hid (Ml w)) :
  Calls Tryz.prog 134 #[.string (bs l)] w fun e w' => e = .returned (.string (bs (unsc l))) ∧ Below w.heap.size w w' := by
 obtain ⟨m, hmc⟩ := hm.out
 have hsz := bs_size l
 have HR := Tryz.strings_ReplaceAll (bs l) ⟨#[95]⟩ ⟨#[]⟩ m w (by omega) hmc (by decide) (by show (bs l).size + Lib.countB (bs l) ⟨#[95]⟩ * 0 ≤ _; omega)
 have h95 : (⟨#[95]⟩ : ByteArray).data.toList = [95] := rfl
 have h0 : (⟨#[]⟩ : ByteArray).data.toList = [] := rfl
 rw [bs_list, h95, h0, replaceAll_unsc, show (⟨(unsc l).toArray⟩ : ByteArray) = bs (unsc l) from rfl] at HR
 replace HR := Lib.hid HR
 clear hmc h95 h0
 go_enter Tryz.func134, Tryz.ntmps134
 go_wp2_with fail
 refine (HR.out).mono ?_
 rintro e w1 ⟨rfl, hw1⟩
 have HB := Lib.hid hw1
 clear hw1
 go_wp2_with fail
 go_ret
 exact ⟨rfl, HB.out⟩
end Go.Proofs.YtgkhjeefcflmcaaGreatDoor
namespace Go.Proofs.YtgkhjeefcflmcaaGreatDoor
open Go.RowKit
def dg (n i : Nat) : Nat := dig 65536 n i
def nl (n : Nat) : Nat := nlen 65536 n
theorem nl_zero : nl 0 = 0 := nlen_zero _
def qd (q i k : Nat) : Nat := dg q i / 2 ^ k * 2 ^ k
end Go.Proofs.YtgkhjeefcflmcaaGreatDoor
namespace Go.Proofs.YtgkhjeefcflmcaaGreatDoor
open Go.RowKit Go.Sort
set_option linter.unusedSimpArgs false
def digl (L n : Nat) : List Int := (List.range L).map fun i => ((dg n i : Nat) : Int)
theorem digl_length (L n : Nat) : (digl L n).length = L := by simp [digl]
theorem digl_get {L n i : Nat} (h : i < L) : (digl L n)[i]? = some ((dg n i : Nat) : Int) := by
 unfold digl
 rw [List.getElem?_map, List.getElem?_range h]
 rfl
def DgAt (w : World) (A : Option Addr) (L n : Nat) : Prop := 0 < L → ∃ b o, A = some ⟨b, o, none⟩ ∧ b < w.heap.size ∧ ∀ i, i < L → w.cell? ⟨b, o + i, none⟩ = some (.int .i64 ((dg n i : Nat) : Int))
theorem DgAt.nums {w : World} {A : Option Addr} {L n : Nat} (h : DgAt w A L n) : NumsK .i64 w w.heap.size A (digl L n) := fun hp => by
 rw [digl_length] at hp
 obtain ⟨b, o, e, hb, hc⟩ := h hp
 refine ⟨b, o, e, hb, fun i x hx => ?_⟩
 have hi : i < L := by have := (List.getElem?_eq_some_iff.1 hx).1; rwa [digl_length] at this
 rw [digl_get hi] at hx
 cases hx
 exact hc i hi
theorem DgAt.keep {w w' : World} {A : Option Addr} {L n B : Nat} (h : DgAt w A L n) (hb : Below B w w') (hB : w.heap.size ≤ B) : DgAt w' A L n := fun hp => by
 obtain ⟨b, o, e, hl, hc⟩ := h hp
 exact ⟨b, o, e, Nat.lt_of_lt_of_le hl hb.size, fun i hi => (hb.cell (p := ⟨b, o + i, none⟩) (Nat.lt_of_lt_of_le hl hB)).trans (hc i hi)⟩
theorem DgAt.below {w w' : World} {A : Option Addr} {L n : Nat} (h : DgAt w A L n) (hb : Below w.heap.size w w') : DgAt w' A L n := h.keep hb (Nat.le_refl _)
theorem DgAt.take {w : World} {A : Option Addr} {L M n : Nat} (h : DgAt w A L n) (hM : M ≤ L) : DgAt w A M n := fun hp => by
 obtain ⟨b, o, e, hl, hc⟩ := h (by omega)
 exact ⟨b, o, e, hl, fun i hi => hc i (by omega)⟩
theorem DgAt.nil {w : World} {A : Option Addr} {n : Nat} : DgAt w A 0 n := fun h => absurd h (by omega)
theorem DgAt.drew {w : World} {A : Option Addr} {L n : Nat} (h : DgAt w A L n) : DgAt w.drew A L n := h
def Cap (L cap : Nat) : Prop := L ≤ cap ∧ cap ≤ 9223372036854775807
end Go.Proofs.YtgkhjeefcflmcaaGreatDoor
namespace Go.Proofs.YtgkhjeefcflmcaaGreatDoor
open Go.RowKit Go.Sort
abbrev boxN (s : Bool) (A : Option Addr) (L cap : Nat) : Obj := .cells #[.bool s, .slice A L cap] 139
structure NumAt (w : World) (b : Nat) (s : Bool) (A : Option Addr) (L cap : Nat) : Prop where
 c0 : w.cell? ⟨b, 0, none⟩ = some (.bool s)
 f0 : w.frozen? ⟨b, 0, none⟩ = false
 c1 : w.cell? ⟨b, 1, none⟩ = some (.slice A L cap)
 f1 : w.frozen? ⟨b, 1, none⟩ = false
section
variable {w w' : World} {b L cap : Nat} {s : Bool} {A : Option Addr}
theorem NumAt.keep {B : Nat} (h : NumAt w b s A L cap) (hb : Below B w w') (hB : b < B) : NumAt w' b s A L cap :=
 ⟨(hb.cell (p := ⟨b, 0, none⟩) hB).trans h.c0, (hb.frozen (p := ⟨b, 0, none⟩) hB).trans h.f0, (hb.cell (p := ⟨b, 1, none⟩) hB).trans h.c1, (hb.frozen (p := ⟨b, 1, none⟩) hB).trans h.f1⟩
theorem NumAt.lt (h : NumAt w b s A L cap) : b < w.heap.size := by
 rcases Nat.lt_or_ge b w.heap.size with h1 | h1
 ·exact h1
 ·have := h.c0
  simp [World.cell?, Array.getElem?_eq_none h1] at this
theorem NumAt.below (h : NumAt w b s A L cap) (hb : Below w.heap.size w w') : NumAt w' b s A L cap := h.keep hb h.lt
theorem NumAt.alloc (h : NumAt w b s A L cap) (o : Obj) : NumAt (w.alloc o) b s A L cap := h.keep (below_alloc w o) h.lt
theorem NumAt.but {c : Nat} (h : NumAt w b s A L cap) (hw : But1 w w' c) (hne : b ≠ c) : NumAt w' b s A L cap :=
 ⟨(hw.1 ⟨b, 0, none⟩ hne).1.trans h.c0, (hw.1 ⟨b, 0, none⟩ hne).2.trans h.f0, (hw.1 ⟨b, 1, none⟩ hne).1.trans h.c1, (hw.1 ⟨b, 1, none⟩ hne).2.trans h.f1⟩
theorem NumAt.drew (h : NumAt w b s A L cap) : NumAt w.drew b s A L cap := ⟨h.c0, h.f0, h.c1, h.f1⟩
end
theorem NumAt.new (w : World) (s : Bool) (A : Option Addr) (L cap : Nat) : NumAt (w.alloc (boxN s A L cap)) w.heap.size s A L cap :=
 ⟨World.cell?_alloc_at _ _ _ _ rfl, World.frozen?_alloc_at _ _ _ _ rfl, World.cell?_alloc_at _ _ _ _ rfl, World.frozen?_alloc_at _ _ _ _ rfl⟩
def st2 (w : World) (b : Nat) (s : Bool) (A : Option Addr) (L cap : Nat) : World := (w.setCell ⟨b, 0, none⟩ (.bool s)).setCell ⟨b, 1, none⟩ (.slice A L cap)
theorem st2_but (w : World) (b : Nat) (s : Bool) (A : Option Addr) (L cap : Nat) : But1 w (st2 w b s A L cap) b := (But1.setCell w b 0 _).trans (But1.setCell _ b 1 _)
theorem DgAt.set {w : World} {A : Option Addr} {L n : Nat} (h : DgAt w A L n) {p : Addr} {u : Value} (hp : w.cell? p = some u) (hu : ∀ x, u ≠ .int .i64 x) (v : Value) : DgAt (w.setCell p v) A L n := fun hL => by
 obtain ⟨b, o, e, hb, hc⟩ := h hL
 refine ⟨b, o, e, by rw [World.size_setCell]; exact hb, fun i hi => ?_⟩
 have h1 := hc i hi
 have hne : (⟨b, o + i, none⟩ : Addr) ≠ p := fun e => by rw [e, hp] at h1; exact hu _ (Option.some.inj h1)
 exact (World.cell?_setCell_other _ _ _ _ (fun e => hne e.symm)).trans h1
theorem DgAt.st2 {w : World} {A B C : Option Addr} {L M K b n ca cb : Nat} {s t : Bool} (h : DgAt w A L n) (hb : NumAt w b s B M cb) : DgAt (st2 w b t C K ca) A L n := by
 have h1 := h.set hb.c0 (fun x e => by cases e) (.bool t)
 exact h1.set ((World.cell?_setCell_other _ _ _ _ (by simp)).trans hb.c1) (fun x e => by cases e) _
end Go.Proofs.YtgkhjeefcflmcaaGreatDoor
namespace Go.Proofs.YtgkhjeefcflmcaaGreatDoor
open Go.RowKit Go.Sort
def Fresh (w : World) (C : Option Addr) : Prop := ∀ b o, C = some ⟨b, o, none⟩ → w.heap.size ≤ b
theorem OwnK.fresh {k : IntKind} {E : TypeId} {w : World} {base n cap : Nat} {A : Option Addr} {l : List Int} (h : OwnK k E w base (.slice A n cap) l) : ∀ b o, A = some ⟨b, o, none⟩ → base ≤ b := fun b o e => by
 subst e
 rcases (show w.ownsRow base E 1 _ _ _ from h).2 with ⟨h1, _⟩ | ⟨g, c, _, h1, _⟩
 ·cases h1
 ·cases h1
  exact (World.ownsRow.lt (show w.ownsRow base E 1 _ _ _ from h) b rfl).1
theorem DgAt.setOther {w : World} {A : Option Addr} {L n : Nat} (h : DgAt w A L n) {p : Addr} (hp : ∀ b o, A = some ⟨b, o, none⟩ → b ≠ p.block) (v : Value) : DgAt (w.setCell p v) A L n := fun hL => by
 obtain ⟨b, o, e, hb, hc⟩ := h hL
 exact ⟨b, o, e, by rw [World.size_setCell]; exact hb, fun i hi => (World.cell?_setCell_other _ _ _ _ (fun e2 => hp b o e (by rw [e2]))).trans (hc i hi)⟩
end Go.Proofs.YtgkhjeefcflmcaaGreatDoor
namespace Go.Proofs.YtgkhjeefcflmcaaGreatDoor
open Go.RowKit Go.Sort
structure Good (w : World) (s : Bool) (A : Option Addr) (L cap n : Nat) : Prop where
 digs : DgAt w A L n
 len : nl n = L
 cap : Cap L cap
 sg : sgn s n = s
section
variable {w w' : World} {s : Bool} {A : Option Addr} {L cap n : Nat}
theorem Good.keep {B : Nat} (h : Good w s A L cap n) (hb : Below B w w') (hB : w.heap.size ≤ B) : Good w' s A L cap n := ⟨h.digs.keep hb hB, h.len, h.cap, h.sg⟩
theorem Good.below (h : Good w s A L cap n) (hb : Below w.heap.size w w') : Good w' s A L cap n := ⟨h.digs.below hb, h.len, h.cap, h.sg⟩
end
end Go.Proofs.YtgkhjeefcflmcaaGreatDoor
namespace Go.Proofs.YtgkhjeefcflmcaaGreatDoor
open Go.RowKit Go.Sort
def DigF (w : World) (g : Nat) (f : Nat → Nat) (k : Nat) : Prop := ∀ i, i < k → w.cell? ⟨g, i, none⟩ = some (.int .i64 (f i : Int)) ∧ w.frozen? ⟨g, i, none⟩ = false
section
variable {w w' : World} {g k : Nat} {f h : Nat → Nat}
theorem DigF.keep {B : Nat} (d : DigF w g f k) (hb : Below B w w') (hB : g < B) : DigF w' g f k := fun i hi =>
 ⟨(hb.cell (p := ⟨g, i, none⟩) hB).trans (d i hi).1, (hb.frozen (p := ⟨g, i, none⟩) hB).trans (d i hi).2⟩
theorem DigF.but {c : Nat} (d : DigF w g f k) (hw : But1 w w' c) (hne : g ≠ c) : DigF w' g f k := fun i hi =>
 ⟨(hw.1 ⟨g, i, none⟩ hne).1.trans (d i hi).1, (hw.1 ⟨g, i, none⟩ hne).2.trans (d i hi).2⟩
theorem DigF.drew (d : DigF w g f k) : DigF w.drew g f k := d
theorem DigF.drewN (d : DigF w g f k) (m : Nat) : DigF (w.drewN m) g f k := d
theorem DigF.ext (d : DigF w g f k) (e : ∀ i, i < k → f i = h i) : DigF w g h k := fun i hi => by rw [← e i hi]; exact d i hi
theorem DigF.upd (d : DigF w g f k) {i : Nat} (hi : i < k) (v : Nat) : DigF (w.setCell ⟨g, i, none⟩ (.int .i64 (v : Int))) g (updF f i v) k := fun j hj => by
 refine ⟨?_, by rw [World.frozen?_setCell]; exact (d j hj).2⟩
 by_cases e : j = i
 ·subst e
  rw [updF_same]
  exact World.cell?_setCell_same _ _ _ (d j hj).1
 ·rw [updF_other e]
  exact (World.cell?_setCell_other _ _ _ _ (fun e2 => e (by injection e2 with _ e3 _; exact e3.symm))).trans (d j hj).1
theorem DigF.at_ (d : DigF w g f k) (hg : g < w.heap.size) {n : Nat} (e : ∀ i, i < k → f i = dg n i) : DgAt w (some ⟨g, 0, none⟩) k n := fun _ =>
 ⟨g, 0, rfl, hg, fun i hi => by rw [Nat.zero_add, ← e i hi]; exact (d i hi).1⟩
end
end Go.Proofs.YtgkhjeefcflmcaaGreatDoor
namespace Go.Proofs.YtgkhjeefcflmcaaGreatDoor
open Go.RowKit Go.Sort
theorem NumAt.range {w : World} {b L cap : Nat} {s : Bool} {A : Option Addr} (h : NumAt w b s A L cap) : w.rangeAt b 0 [.bool s, .slice A L cap] := by
 intro j v hv
 rw [Nat.zero_add]
 rcases j with _ | _ | j
 ·exact h.c0.trans hv
 ·exact h.c1.trans hv
 ·simp at hv
theorem NumAt.there {w : World} {b L cap : Nat} {s : Bool} {A : Option Addr} (h : NumAt w b s A L cap) : w.there b 0 2 := by
 intro j hj
 rw [Nat.zero_add]
 rcases j with _ | _ | j
 ·exact ⟨by rw [h.c0]; rfl, h.f0⟩
 ·exact ⟨by rw [h.c1]; rfl, h.f1⟩
 ·omega
end Go.Proofs.YtgkhjeefcflmcaaGreatDoor
namespace Go.Proofs.YtgkhjeefcflmcaaGreatDoor
open Go.RowKit Go.Sort
set_option linter.unusedSimpArgs false
theorem Good.sto {w : World} {s u t : Bool} {A B C : Option Addr} {L M K b n ca cb cc : Nat} (h : Good w s A L ca n) (hb : NumAt w b u B M cb) : Good (st2 w b t C K cc) s A L ca n := by
 refine ⟨?_, h.len, h.cap, h.sg⟩
 have h1 := h.digs.set hb.c0 (fun x e => by cases e) (.bool t)
 exact h1.set ((World.cell?_setCell_other _ _ _ _ (by simp)).trans hb.c1) (fun x e => by cases e) _
theorem Good.drew {w : World} {s : Bool} {A : Option Addr} {L ca n : Nat} (h : Good w s A L ca n) : Good w.drew s A L ca n := ⟨h.digs.drew, h.len, h.cap, h.sg⟩
structure GcI (w W : World) (S : Nat) (s : Bool) (A : Option Addr) (L ca : Nat) (t : Bool) (B : Option Addr) (M cb n m : Nat) : Prop where
 pa : NumAt W S s A L ca
 pb : NumAt W (S + 1) t B M cb
 pz : NumAt W (S + 1 + 1) false none 0 0
 ga : Good W false A L ca n
 gb : Good W false B M cb m
 bl : Below S w W
section
variable {w W W' : World} {S L ca M cb n m : Nat} {s t : Bool} {A B : Option Addr}
theorem GcI.sz (h : GcI w W S s A L ca t B M cb n m) : S + 1 + 1 + 1 ≤ W.heap.size := h.pz.lt
theorem GcI.below (h : GcI w W S s A L ca t B M cb n m) (hw : Below W.heap.size W W') : GcI w W' S s A L ca t B M cb n m :=
 ⟨h.pa.below hw, h.pb.below hw, h.pz.below hw, h.ga.below hw, h.gb.below hw, h.bl.trans (hw.mono (by have := h.sz; omega))⟩
theorem GcI.alloc (h : GcI w W S s A L ca t B M cb n m) (o : Obj) : GcI w (W.alloc o) S s A L ca t B M cb n m := h.below (below_alloc W o)
theorem GcI.drew (h : GcI w W S s A L ca t B M cb n m) : GcI w W.drew S s A L ca t B M cb n m := ⟨h.pa.drew, h.pb.drew, h.pz.drew, h.ga.drew, h.gb.drew, h.bl.drew⟩
theorem GcI.sto (h : GcI w W S s A L ca t B M cb n m) {b l c : Nat} {u : Bool} {C : Option Addr} (hb : NumAt W b u C l c) (hS : S + 1 + 1 + 1 ≤ b) (v : Bool) (D : Option Addr) (k d : Nat) : GcI w (st2 W b v D k d) S s A L ca t B M cb n m :=
 ⟨h.pa.but (st2_but W b v D k d) (by omega), h.pb.but (st2_but W b v D k d) (by omega), h.pz.but (st2_but W b v D k d) (by omega), h.ga.sto hb, h.gb.sto hb, (st2_but W b v D k d).2.1 S w (by omega) h.bl⟩
end
structure GcO (w W : World) (S X Y : Nat) (A : Option Addr) (L ca n : Nat) (B : Option Addr) (M cb m : Nat) : Prop where
 px : NumAt W X false A L ca
 py : NumAt W Y false B M cb
 gx : Good W false A L ca n
 gy : Good W false B M cb m
 pz : NumAt W (S + 1 + 1) false none 0 0
 bl : Below S w W
 hX : S + 1 + 1 + 1 ≤ X
 hY : S + 1 + 1 + 1 ≤ Y
 hne : X ≠ Y
section
variable {w W W' : World} {S X Y L ca M cb n m : Nat} {A B : Option Addr}
theorem GcO.sz (h : GcO w W S X Y A L ca n B M cb m) : S + 1 + 1 + 1 ≤ W.heap.size := h.pz.lt
theorem GcO.below (h : GcO w W S X Y A L ca n B M cb m) (hw : Below W.heap.size W W') : GcO w W' S X Y A L ca n B M cb m :=
 ⟨h.px.below hw, h.py.below hw, h.gx.below hw, h.gy.below hw, h.pz.below hw, h.bl.trans (hw.mono (by have := h.sz; omega)), h.hX, h.hY, h.hne⟩
theorem GcO.alloc (h : GcO w W S X Y A L ca n B M cb m) (o : Obj) : GcO w (W.alloc o) S X Y A L ca n B M cb m := h.below (below_alloc W o)
theorem GcO.drew (h : GcO w W S X Y A L ca n B M cb m) : GcO w W.drew S X Y A L ca n B M cb m := ⟨h.px.drew, h.py.drew, h.gx.drew, h.gy.drew, h.pz.drew, h.bl.drew, h.hX, h.hY, h.hne⟩
theorem GcO.sto (h : GcO w W S X Y A L ca n B M cb m) {b l c : Nat} {u : Bool} {C : Option Addr} (hb : NumAt W b u C l c) (hS : S + 1 + 1 + 1 ≤ b) (h1 : X ≠ b) (h2 : Y ≠ b) (v : Bool) (D : Option Addr) (k d : Nat) : GcO w (st2 W b v D k d) S X Y A L ca n B M cb m :=
 ⟨h.px.but (st2_but W b v D k d) h1, h.py.but (st2_but W b v D k d) h2, h.gx.sto hb, h.gy.sto hb, h.pz.but (st2_but W b v D k d) (by omega), (st2_but W b v D k d).2.1 S w (by omega) h.bl, h.hX, h.hY, h.hne⟩
end
end Go.Proofs.YtgkhjeefcflmcaaGreatDoor
