/-
  Texts as lists of bytes; number's cutPrefix, cutSign, join, decimal.
-/
import Derived.Test.YtgoemhcngmpfbaaGreatDoorMx14
import Derived.Lib.Replace
import Derived.Lib.IndexMore
import Derived.Lib.IndexAny
import Derived.Lib.IndexBytes
namespace Go.Proofs.YtgoemhcngmpfbaaGreatDoor
open Go.RowKit Go.Sort
set_option linter.unusedSimpArgs false
def bs (l : List UInt8) : ByteArray := ⟨l.toArray⟩
theorem bs_list (l : List UInt8) : (bs l).data.toList = l := by simp [bs]
theorem bs_size (l : List UInt8) : (bs l).size = l.length := by simp [bs, ByteArray.size]
theorem bs_of (s : ByteArray) : bs s.data.toList = s := by
 apply ByteArray.ext
 simp [bs]
theorem bs_app (a b : List UInt8) : bs a ++ bs b = bs (a ++ b) := bytes_app a b
theorem bs_extract (l : List UInt8) (i j : Nat) : (bs l).extract i j = bs ((l.take j).drop i) := by
 apply ByteArray.ext
 simp [bs, List.extract_toArray, List.take_drop]
 by_cases h : i ≤ j
 ·rw [show i + (j - i) = j by omega]
 ·rw [List.drop_eq_nil_of_le (by simp; omega), List.drop_eq_nil_of_le (by simp; omega)]
theorem bs_from (l : List UInt8) (i n : Nat) (h : n = l.length) : (bs l).extract i n = bs (l.drop i) := by
 rw [bs_extract, h, List.take_length]
theorem bs_to (l : List UInt8) (j : Nat) : (bs l).extract 0 j = bs (l.take j) := by
 rw [bs_extract, List.drop_zero]
theorem bs_get {l : List UInt8} {i : Nat} {c : UInt8} (h : l[i]? = some c) (W : World) : (Instr.index 9 (.string (bs l)) (.int .i64 (i : Int))).run Tryz.prog W = .ok (.int .u8 (c.toNat : Int)) W := index_at (by rw [bs_list]; exact h) W
def pfxB : List UInt8 → Nat
 | a :: c :: _ => if a = 48 then (if c = 120 ∨ c = 88 then 16 else if c = 98 ∨ c = 66 then 2 else if c = 111 ∨ c = 79 then 8 else 0) else 0
 | _ => 0
theorem pfx_short {l : List UInt8} (h : l.length < 2) : pfxB l = 0 := by
 match l, h with
 | [], _ => rfl
 | [a], _ => rfl
 | a :: b :: m, h => exact absurd h (by simp)
theorem eq48 {a : UInt8} : ((a.toNat : Int) == 48) = decide (a = 48) := by
 rw [Bool.eq_iff_iff]
 simp only [beq_iff_eq, decide_eq_true_eq]
 constructor
 ·intro h
  exact UInt8.toNat_inj.1 (by show a.toNat = 48; omega)
 ·rintro rfl; rfl
set_option maxRecDepth 100000 in
set_option maxHeartbeats 4000000 in
theorem cutPrefix_run (l : List UInt8) (w : World) (hl : l.length ≤ 100000) :
  Calls Tryz.prog 60 #[.string (bs l)] w fun e w' => e = .returned (.tuple #[.int .i64 (pfxB l : Int), .string (bs (if pfxB l = 0 then l else l.drop 2))]) ∧ Below w.heap.size w w' := by
 have hsz := bs_size l
 by_cases h2 : l.length < 2
 ·have hp := pfx_short h2
  rw [hp, if_pos rfl]
  go_enter Tryz.func60, Tryz.ntmps60
  go_wp2_with fail
  go_ret2
  exact ⟨rfl, Below.refl _ _⟩
 ·match l, h2, hl with
  | [], h2, _ => exact absurd (show ([] : List UInt8).length < 2 by simp) h2
  | [a], h2, _ => exact absurd (show [a].length < 2 by simp) h2
  | a :: c :: m, h2, hl =>
   have hxa := bs_get (l := a :: c :: m) (i := 0) (c := a) rfl
   have hxc := bs_get (l := a :: c :: m) (i := 1) (c := c) rfl
   have hdr := bs_from (a :: c :: m) 2 _ rfl
   rw [Int.natCast_zero] at hxa
   rw [Int.natCast_one] at hxc
   have hl2 : ¬ (((a :: c :: m).length : Int) < 2) := by omega
   have hl3 : 2 ≤ (a :: c :: m).length := by omega
   have hp : pfxB (a :: c :: m) = if a = 48 then (if c = 120 ∨ c = 88 then 16 else if c = 98 ∨ c = 66 then 2 else if c = 111 ∨ c = 79 then 8 else 0) else 0 := rfl
   by_cases ha : a = 48
   ·have e48 : ((a.toNat : Int) == 48) = true := by rw [eq48]; simpa using ha
    rw [if_pos ha] at hp
    have hcc : c = 120 ∨ c = 88 ∨ c = 98 ∨ c = 66 ∨ c = 111 ∨ c = 79 ∨ (c ≠ 120 ∧ c ≠ 88 ∧ c ≠ 98 ∧ c ≠ 66 ∧ c ≠ 111 ∧ c ≠ 79) := by
     by_cases g1 : c = 120
     ·exact .inl g1
     ·by_cases g2 : c = 88
      ·exact .inr (.inl g2)
      ·by_cases g3 : c = 98
       ·exact .inr (.inr (.inl g3))
       ·by_cases g4 : c = 66
        ·exact .inr (.inr (.inr (.inl g4)))
        ·by_cases g5 : c = 111
         ·exact .inr (.inr (.inr (.inr (.inl g5))))
         ·by_cases g6 : c = 79
          ·exact .inr (.inr (.inr (.inr (.inr (.inl g6)))))
          ·exact .inr (.inr (.inr (.inr (.inr (.inr ⟨g1, g2, g3, g4, g5, g6⟩)))))
    rcases hcc with hcc | hcc | hcc | hcc | hcc | hcc | hcc
    ·subst hcc
     have hp2 : pfxB (a :: 120 :: m) = 16 := hp
     rw [hp2, if_neg (by decide)]
     clear hp hp2 ha
     generalize a.toNat = an at *
     generalize hL : a :: 120 :: m = L at *
     go_enter Tryz.func60, Tryz.ntmps60
     go_wp2_with fail
     go_quiet (fail)
     go_wp2_with fail
     go_ret2
     exact ⟨rfl, (Below.refl _ _).drewN _⟩
    ·subst hcc
     have hp2 : pfxB (a :: 88 :: m) = 16 := hp
     rw [hp2, if_neg (by decide)]
     clear hp hp2 ha
     generalize a.toNat = an at *
     generalize hL : a :: 88 :: m = L at *
     go_enter Tryz.func60, Tryz.ntmps60
     go_wp2_with fail
     go_quiet (fail)
     go_wp2_with fail
     go_ret2
     exact ⟨rfl, (Below.refl _ _).drewN _⟩
    ·subst hcc
     have hp2 : pfxB (a :: 98 :: m) = 2 := hp
     rw [hp2, if_neg (by decide)]
     clear hp hp2 ha
     generalize a.toNat = an at *
     generalize hL : a :: 98 :: m = L at *
     go_enter Tryz.func60, Tryz.ntmps60
     go_wp2_with fail
     go_quiet (fail)
     go_wp2_with fail
     go_ret2
     exact ⟨rfl, (Below.refl _ _).drewN _⟩
    ·subst hcc
     have hp2 : pfxB (a :: 66 :: m) = 2 := hp
     rw [hp2, if_neg (by decide)]
     clear hp hp2 ha
     generalize a.toNat = an at *
     generalize hL : a :: 66 :: m = L at *
     go_enter Tryz.func60, Tryz.ntmps60
     go_wp2_with fail
     go_quiet (fail)
     go_wp2_with fail
     go_ret2
     exact ⟨rfl, (Below.refl _ _).drewN _⟩
    ·subst hcc
     have hp2 : pfxB (a :: 111 :: m) = 8 := hp
     rw [hp2, if_neg (by decide)]
     clear hp hp2 ha
     generalize a.toNat = an at *
     generalize hL : a :: 111 :: m = L at *
     go_enter Tryz.func60, Tryz.ntmps60
     go_wp2_with fail
     go_quiet (fail)
     go_wp2_with fail
     go_ret2
     exact ⟨rfl, (Below.refl _ _).drewN _⟩
    ·subst hcc
     have hp2 : pfxB (a :: 79 :: m) = 8 := hp
     rw [hp2, if_neg (by decide)]
     clear hp hp2 ha
     generalize a.toNat = an at *
     generalize hL : a :: 79 :: m = L at *
     go_enter Tryz.func60, Tryz.ntmps60
     go_wp2_with fail
     go_quiet (fail)
     go_wp2_with fail
     go_ret2
     exact ⟨rfl, (Below.refl _ _).drewN _⟩
    ·obtain ⟨g1, g2, g3, g4, g5, g6⟩ := hcc
     have hp2 : pfxB (a :: c :: m) = 0 := by
      rw [hp, if_neg (fun h => h.elim g1 g2), if_neg (fun h => h.elim g3 g4), if_neg (fun h => h.elim g5 g6)]
     rw [hp2, if_pos rfl]
     have hne : ∀ k : UInt8, c ≠ k → ((c.toNat : Int) == (k.toNat : Int)) = false := fun k h => beq_eq_false_iff_ne.2 (fun e => h (UInt8.toNat_inj.1 (by omega)))
     have f1 : ((c.toNat : Int) == 120) = false := hne 120 g1
     have f2 : ((c.toNat : Int) == 88) = false := hne 88 g2
     have f3 : ((c.toNat : Int) == 98) = false := hne 98 g3
     have f4 : ((c.toNat : Int) == 66) = false := hne 66 g4
     have f5 : ((c.toNat : Int) == 111) = false := hne 111 g5
     have f6 : ((c.toNat : Int) == 79) = false := hne 79 g6
     clear hp hp2 ha hne g1 g2 g3 g4 g5 g6 hdr
     generalize a.toNat = an at *
     generalize c.toNat = cn at *
     generalize hL : a :: c :: m = L at *
     go_enter Tryz.func60, Tryz.ntmps60
     go_wp2_with fail
     go_ret2
     exact ⟨rfl, Below.refl _ _⟩
   ·have e48 : ((a.toNat : Int) == 48) = false := by rw [eq48]; simpa using ha
    rw [if_neg ha] at hp
    rw [hp, if_pos rfl]
    clear hp ha hdr hxc
    generalize a.toNat = an at *
    generalize hL : a :: c :: m = L at *
    go_enter Tryz.func60, Tryz.ntmps60
    go_wp2_with fail
    go_ret2
    exact ⟨rfl, Below.refl _ _⟩
def sgnL : List UInt8 → List UInt8
 | a :: _ => if isSgn a.toNat then [a] else []
 | [] => []
def restL : List UInt8 → List UInt8
 | a :: m => if isSgn a.toNat then m else a :: m
 | [] => []
theorem bs_isEmpty (l : List UInt8) : (bs l).toList.isEmpty = l.isEmpty := by rw [Lib.toList_data, bs_list]
set_option maxRecDepth 100000 in
set_option maxHeartbeats 4000000 in
theorem cutSign_run (l : List UInt8) (w : World) (hl : l.length ≤ 100000) :
  Calls Tryz.prog 106 #[.string (bs l)] w fun e w' => e = .returned (.tuple #[.string (bs (sgnL l)), .string (bs (restL l))]) ∧ Below w.heap.size w w' := by
 have hsz := bs_size l
 have he := bs_isEmpty l
 cases l with
 | nil =>
  go_enter Tryz.func106, Tryz.ntmps106
  go_wp2_with fail
  go_ret2
  exact ⟨rfl, Below.refl _ _⟩
 | cons a m =>
  have hxa := bs_get (l := a :: m) (i := 0) (c := a) rfl
  rw [Int.natCast_zero] at hxa
  have hne : ¬ ((a :: m).length = 0) := by simp
  have hd1 := bs_from (a :: m) 1 _ rfl
  have hd0 := bs_to (a :: m) 1
  have hl1 : 1 ≤ (a :: m).length := by simp
  have he2 : (bs (a :: m)).toList.isEmpty = false := he
  have HS := Lib.hid (fun W => isSign_run a.toNat W)
  have e1 : sgnL (a :: m) = if isSgn a.toNat = true then [a] else [] := rfl
  have e2 : restL (a :: m) = if isSgn a.toNat = true then m else a :: m := rfl
  rw [e1, e2]
  clear he e1 e2
  cases hs : isSgn a.toNat
  ·rw [hs] at HS
   simp only [Bool.false_eq_true, if_false]
   clear hs hd1 hd0
   generalize a.toNat = an at *
   generalize hL : a :: m = L at *
   go_enter Tryz.func106, Tryz.ntmps106
   go_wp2_with fail
   refine (HS.out _).mono ?_
   rintro e w1 ⟨rfl, rfl⟩
   go_wp2_with fail
   go_ret2
   exact ⟨rfl, Below.refl _ _⟩
  ·rw [hs] at HS
   simp only [if_true]
   clear hs
   have hd1' : (a :: m).drop 1 = m := rfl
   have hd0' : (a :: m).take 1 = [a] := rfl
   rw [hd1'] at hd1
   rw [hd0'] at hd0
   clear hd1' hd0'
   generalize a.toNat = an at *
   generalize hL : a :: m = L at *
   go_enter Tryz.func106, Tryz.ntmps106
   go_wp2_with fail
   refine (HS.out _).mono ?_
   rintro e w1 ⟨rfl, rfl⟩
   go_wp2_with fail
   go_quiet (fail)
   go_wp2_with fail
   go_ret2
   exact ⟨rfl, (Below.refl _ _).drewN _⟩
end Go.Proofs.YtgoemhcngmpfbaaGreatDoor
namespace Go.Proofs.YtgoemhcngmpfbaaGreatDoor
open Go.RowKit Go.Sort
set_option linter.unusedSimpArgs false
def Sep (p : Nat → Bool) (l : List UInt8) : Prop := ∀ i : Nat, l[i]? = some 95 → ∃ a b : UInt8, 0 < i ∧ l[i - 1]? = some a ∧ l[i + 1]? = some b ∧ p a.toNat = true ∧ p b.toNat = true
theorem eq95 {a : UInt8} : ((a.toNat : Int) == 95) = decide (a = 95) := by
 rw [Bool.eq_iff_iff]
 simp only [beq_iff_eq, decide_eq_true_eq]
 constructor
 ·intro h
  exact UInt8.toNat_inj.1 (by show a.toNat = 95; omega)
 ·rintro rfl; rfl
set_option maxRecDepth 100000 in
set_option maxHeartbeats 8000000 in
theorem separated_run (k : Int) (p : Nat → Bool) (l : List UInt8) (b : Bool) (w : World) (hl : l.length ≤ 100000) (hb : Hid (b = true ↔ Sep p l))
  (HH : Hid (∀ (c : UInt8) W, Calls Tryz.prog 94 #[.int .i64 k, .int .u8 (c.toNat : Int)] W fun e w' => e = .returned (.bool (p c.toNat)) ∧ w' = W)) :
  Calls Tryz.prog 61 #[.string (bs l), .int .i64 k] w fun e w' => e = .returned (.bool b) ∧ w' = w := by
 have hsz := bs_size l
 go_enter Tryz.func61, Tryz.ntmps61
 go_wp2_with fail
 go_loopg [9] (l.length + 1) (fun h s9 wr => ∃ i : Nat, s9 = .int .i64 (i : Int) ∧ Hid (i + h = l.length + 1) ∧ i ≤ l.length ∧ Hid (∀ j : Nat, j < i → l[j]? = some 95 → ∃ a b : UInt8, 0 < j ∧ l[j - 1]? = some a ∧ l[j + 1]? = some b ∧ p a.toNat = true ∧ p b.toNat = true) ∧ wr = w)
 case atStart => exact ⟨0, rfl, by show _ = _; omega, by omega, fun j hj => absurd hj (by omega), rfl⟩
 case round =>
  obtain ⟨i, rfl, HI, hin, HS, rfl⟩ := hrel
  by_cases hlt : i < l.length
  ·have hiz : (i : Int) < (l.length : Int) := by omega
   obtain ⟨c, hc⟩ : ∃ c, l[i]? = some c := ⟨l[i], List.getElem?_eq_getElem hlt⟩
   have hx := bs_get hc
   by_cases hu : c = 95
   ·subst hu
    have hx95 : ∀ W, (Instr.index 9 (.string (bs l)) (.int .i64 (i : Int))).run Tryz.prog W = .ok (.int .u8 95) W := hx
    clear hx
    by_cases h0 : 0 < i
    ·have h0z : (0 : Int) < (i : Int) := by omega
     by_cases h1 : i + 1 < l.length
     ·have h1z : (i : Int) < (l.length : Int) - 1 := by omega
      obtain ⟨im, him⟩ : ∃ im, i = im + 1 := ⟨i - 1, by omega⟩
      have hmz : (i : Int) - 1 = (im : Int) := by omega
      obtain ⟨ip, hip⟩ : ∃ ip, i + 1 = ip := ⟨_, rfl⟩
      have hpz : (i : Int) + 1 = (ip : Int) := by omega
      obtain ⟨ca, hca⟩ : ∃ c, l[im]? = some c := ⟨l[im], List.getElem?_eq_getElem (by omega)⟩
      obtain ⟨cb, hcb⟩ : ∃ c, l[ip]? = some c := ⟨l[ip], List.getElem?_eq_getElem (by omega)⟩
      have hxa := bs_get hca
      have hxb := bs_get hcb
      have HA := Lib.hid (fun W => HH.out ca W)
      have HB := Lib.hid (fun W => HH.out cb W)
      have HCA : Hid (l[i - 1]? = some ca) := by rw [him]; exact hca
      have HCB : Hid (l[i + 1]? = some cb) := by rw [hip]; exact hcb
      have HC := Lib.hid hc
      have HIM := Lib.hid him
      clear hca hcb hc him hip
      cases hpa : p ca.toNat
      ·have HF : Hid (b = false) := by
        cases hbb : b
        ·rfl
        ·obtain ⟨a', b', _, g2, _, g4, _⟩ := hb.out.1 hbb i HC.out
         rw [HCA.out] at g2
         cases g2
         rw [hpa] at g4
         cases g4
       rw [hpa] at HA
       clear hpa
       generalize ca.toNat = an at *
       generalize cb.toNat = bn at *
       go_wp2_with fail
       refine (HA.out _).mono ?_
       rintro e w1 ⟨rfl, rfl⟩
       go_wp2_with fail
       go_ret
       exact ⟨by rw [HF.out]; rfl, rfl⟩
      ·rw [hpa] at HA
       have HPA := Lib.hid hpa
       clear hpa
       cases hpb : p cb.toNat
       ·have HF : Hid (b = false) := by
         cases hbb : b
         ·rfl
         ·obtain ⟨a', b', _, _, g3, _, g5⟩ := hb.out.1 hbb i HC.out
          rw [HCB.out] at g3
          cases g3
          rw [hpb] at g5
          cases g5
        rw [hpb] at HB
        clear hpb
        generalize ca.toNat = an at *
        generalize cb.toNat = bn at *
        go_wp2_with fail
        refine (HA.out _).mono ?_
        rintro e w1 ⟨rfl, rfl⟩
        go_wp2_with fail
        refine (HB.out _).mono ?_
        rintro e w1 ⟨rfl, rfl⟩
        go_wp2_with fail
        go_ret
        exact ⟨by rw [HF.out]; rfl, rfl⟩
       ·rw [hpb] at HB
        have HS2 : Hid (∀ j : Nat, j < i + 1 → l[j]? = some 95 → ∃ a b : UInt8, 0 < j ∧ l[j - 1]? = some a ∧ l[j + 1]? = some b ∧ p a.toNat = true ∧ p b.toNat = true) := fun j hj h => by
         by_cases e : j = i
         ·subst e
          exact ⟨ca, cb, h0, HCA.out, HCB.out, HPA.out, hpb⟩
         ·exact HS.out j (by omega) h
        clear hpb HPA HCA HCB
        generalize ca.toNat = an at *
        generalize cb.toNat = bn at *
        go_wp2_with fail
        refine (HA.out _).mono ?_
        rintro e w1 ⟨rfl, rfl⟩
        go_wp2_with fail
        refine (HB.out _).mono ?_
        rintro e w1 ⟨rfl, rfl⟩
        go_wp2_with fail
        go_roundg (l.length - i)
        case measure => have := HI.out; omega
        case rel => exact ⟨i + 1, by go_num, by show _ = _; have := HI.out; omega, by omega, HS2, rfl⟩
     ·have HF : Hid (b = false) := by
       cases hbb : b
       ·rfl
       ·obtain ⟨a', b', _, _, g3, _, _⟩ := hb.out.1 hbb i hc
        have := (List.getElem?_eq_some_iff.1 g3).1
        omega
      have h1z : ¬ (i : Int) < (l.length : Int) - 1 := by omega
      clear h1 hc
      go_wp2_with fail
      go_ret
      exact ⟨by rw [HF.out]; rfl, rfl⟩
    ·have HF : Hid (b = false) := by
      cases hbb : b
      ·rfl
      ·obtain ⟨a', b', g1, _⟩ := hb.out.1 hbb i hc
       omega
     obtain rfl : i = 0 := by omega
     rw [Int.natCast_zero] at hx95
     clear h0 hc
     go_wp2_with fail
     go_ret
     exact ⟨by rw [HF.out]; rfl, rfl⟩
   ·have e95 : ((c.toNat : Int) == 95) = false := by rw [eq95]; simpa using hu
    have HS2 : Hid (∀ j : Nat, j < i + 1 → l[j]? = some 95 → ∃ a b : UInt8, 0 < j ∧ l[j - 1]? = some a ∧ l[j + 1]? = some b ∧ p a.toNat = true ∧ p b.toNat = true) := fun j hj h => by
     by_cases e : j = i
     ·subst e
      rw [hc] at h
      exact absurd (Option.some.inj h) hu
     ·exact HS.out j (by omega) h
    clear hu hc
    generalize c.toNat = cn at *
    have h4 : ((0 : Int) < (i : Int) ∧ (i : Int) < (l.length : Int) - 1) ∨ ((0 : Int) < (i : Int) ∧ ¬ (i : Int) < (l.length : Int) - 1) ∨ ¬ (0 : Int) < (i : Int) := by omega
    rcases h4 with ⟨h4, h5⟩ | ⟨h4, h5⟩ | h4 <;>
    ·go_wp2_with fail
     go_roundg (l.length - i)
     case measure => have := HI.out; omega
     case rel => exact ⟨i + 1, by go_num, by show _ = _; have := HI.out; omega, by omega, HS2, rfl⟩
  ·obtain rfl : i = l.length := by omega
   have HF : Hid (b = true) := hb.out.2 (fun j h => HS.out j (by have := (List.getElem?_eq_some_iff.1 h).1; omega) h)
   go_wp2_with fail
   go_ret
   exact ⟨by rw [HF.out]; rfl, rfl⟩
def decB (l : List UInt8) : Bool := !l.isEmpty && okDig 10 l
theorem decB_K (l : List UInt8) : decB l = decide (parK 10 l = 0 ∨ parK 10 l = 9) := by
 unfold decB
 cases l with
 | nil => rw [parK_nil]; rfl
 | cons a m =>
  cases h : okDig 10 (a :: m)
  ·rw [parK_dig h (by simp)]; rfl
  ·rcases Nat.lt_or_ge (num 10 (a :: m)) (18446744073709551616 ^ 8) with hf | hf
   ·rw [parK_ok h (by simp) hf]; rfl
   ·rw [parK_over h (by simp) (Nat.not_lt.2 hf)]; rfl
set_option maxRecDepth 100000 in
set_option maxHeartbeats 4000000 in
theorem decimal_runN (l : List UInt8) (w : World) (hl : l.length ≤ 100000) :
  Calls Tryz.prog 108 #[.string (bs l)] w fun e w' => e = .returned (.bool (decB l)) ∧ Below w.heap.size w w' := by
 have HP : ∀ W, Calls Tryz.prog 62 #[.string (bs l), .int .i64 10] W fun e w' => e = .returned (.tuple #[intV false (parN 10 l), errV (parK 10 l)]) ∧ Below W.heap.size W w' := fun W => by
  have := Parse_runL (bs l) 10 W (.inr (.inr (.inl rfl))) (by rw [bs_size]; exact hl)
  rwa [bs_list] at this
 rw [decB_K]
 have HK := parK_cases 10 l
 generalize parN 10 l = n at *
 generalize parK 10 l = k at *
 rcases HK with rfl | rfl | rfl | rfl
 ·have HP := Lib.hid HP
  have he : errV 0 = .nilIface := rfl
  rw [he] at HP
  clear he
  go_enter Tryz.func108, Tryz.ntmps108
  go_wp2_with fail
  refine (HP.out _).mono ?_
  rintro e w1 ⟨rfl, hw1⟩
  obtain ⟨S, hS⟩ : ∃ S, w1.heap.size = S := ⟨_, rfl⟩
  obtain ⟨a1, ha⟩ : ∃ W, w1.alloc (boxIZ 25) = W := ⟨_, rfl⟩
  have HZ := IntAt.zero w1 25
  have B1 := hw1.trans ((below_alloc w1 (boxIZ 25)).mono hw1.size)
  rw [ha, hS] at HZ
  rw [ha] at B1
  replace HZ := Lib.hid HZ
  have B2 := Lib.hid ((st9_but a1 S false n).2.1 w.heap.size w (by have := hw1.size; omega) B1)
  clear hw1 B1
  go_wp2_with (with_reducible refine wpList_store_int rfl (.tmp 3) (.tmp 8) rfl (b := S) (s := false) (n := n) rfl rfl HZ.out ?_)
  go_ret
  exact ⟨rfl, B2.out⟩
 ·have HP := Lib.hid HP
  have HI := Lib.hid (fun W => is_errno_below 9 9 W)
  unfold errno at HI
  have he : errV 9 = .iface 74 (.int .i64 9) := rfl
  rw [he] at HP
  clear he
  go_enter Tryz.func108, Tryz.ntmps108
  go_wp2_with fail
  refine (HP.out _).mono ?_
  rintro e w1 ⟨rfl, hw1⟩
  obtain ⟨S, hS⟩ : ∃ S, w1.heap.size = S := ⟨_, rfl⟩
  obtain ⟨a1, ha⟩ : ∃ W, w1.alloc (boxIZ 25) = W := ⟨_, rfl⟩
  have HZ := IntAt.zero w1 25
  have B1 := hw1.trans ((below_alloc w1 (boxIZ 25)).mono hw1.size)
  rw [ha, hS] at HZ
  rw [ha] at B1
  replace HZ := Lib.hid HZ
  have B2 := Lib.hid ((st9_but a1 S false n).2.1 w.heap.size w (by have := hw1.size; omega) B1)
  clear hw1 B1
  go_wp2_with (with_reducible refine wpList_store_int rfl (.tmp 3) (.tmp 8) rfl (b := S) (s := false) (n := n) rfl rfl HZ.out ?_)
  refine (HI.out _).mono ?_
  rintro e w2 ⟨rfl, hw2⟩
  have B3 := Lib.hid (B2.out.trans (hw2.mono B2.out.size))
  clear hw2
  go_wp2_with fail
  go_ret
  exact ⟨rfl, B3.out⟩
 ·have HP := Lib.hid HP
  have HI := Lib.hid (fun W => is_errno_below 12 9 W)
  unfold errno at HI
  have he : errV 12 = .iface 74 (.int .i64 12) := rfl
  rw [he] at HP
  clear he
  go_enter Tryz.func108, Tryz.ntmps108
  go_wp2_with fail
  refine (HP.out _).mono ?_
  rintro e w1 ⟨rfl, hw1⟩
  obtain ⟨S, hS⟩ : ∃ S, w1.heap.size = S := ⟨_, rfl⟩
  obtain ⟨a1, ha⟩ : ∃ W, w1.alloc (boxIZ 25) = W := ⟨_, rfl⟩
  have HZ := IntAt.zero w1 25
  have B1 := hw1.trans ((below_alloc w1 (boxIZ 25)).mono hw1.size)
  rw [ha, hS] at HZ
  rw [ha] at B1
  replace HZ := Lib.hid HZ
  have B2 := Lib.hid ((st9_but a1 S false n).2.1 w.heap.size w (by have := hw1.size; omega) B1)
  clear hw1 B1
  go_wp2_with (with_reducible refine wpList_store_int rfl (.tmp 3) (.tmp 8) rfl (b := S) (s := false) (n := n) rfl rfl HZ.out ?_)
  refine (HI.out _).mono ?_
  rintro e w2 ⟨rfl, hw2⟩
  have B3 := Lib.hid (B2.out.trans (hw2.mono B2.out.size))
  clear hw2
  go_wp2_with fail
  go_ret
  exact ⟨rfl, B3.out⟩
 ·have HP := Lib.hid HP
  have HI := Lib.hid (fun W => is_errno_below 13 9 W)
  unfold errno at HI
  have he : errV 13 = .iface 74 (.int .i64 13) := rfl
  rw [he] at HP
  clear he
  go_enter Tryz.func108, Tryz.ntmps108
  go_wp2_with fail
  refine (HP.out _).mono ?_
  rintro e w1 ⟨rfl, hw1⟩
  obtain ⟨S, hS⟩ : ∃ S, w1.heap.size = S := ⟨_, rfl⟩
  obtain ⟨a1, ha⟩ : ∃ W, w1.alloc (boxIZ 25) = W := ⟨_, rfl⟩
  have HZ := IntAt.zero w1 25
  have B1 := hw1.trans ((below_alloc w1 (boxIZ 25)).mono hw1.size)
  rw [ha, hS] at HZ
  rw [ha] at B1
  replace HZ := Lib.hid HZ
  have B2 := Lib.hid ((st9_but a1 S false n).2.1 w.heap.size w (by have := hw1.size; omega) B1)
  clear hw1 B1
  go_wp2_with (with_reducible refine wpList_store_int rfl (.tmp 3) (.tmp 8) rfl (b := S) (s := false) (n := n) rfl rfl HZ.out ?_)
  refine (HI.out _).mono ?_
  rintro e w2 ⟨rfl, hw2⟩
  have B3 := Lib.hid (B2.out.trans (hw2.mono B2.out.size))
  clear hw2
  go_wp2_with fail
  go_ret
  exact ⟨rfl, B3.out⟩
end Go.Proofs.YtgoemhcngmpfbaaGreatDoor
namespace Go.Proofs.YtgoemhcngmpfbaaGreatDoor
open Go.RowKit Go.Sort
set_option linter.unusedSimpArgs false
def unsc (l : List UInt8) : List UInt8 := l.filter fun c => c != 95
theorem pre_one (c b : UInt8) (m : List UInt8) : ([c] : List UInt8).isPrefixOf (b :: m) = (c == b) := by
 simp [List.isPrefixOf]
theorem replace_unsc : ∀ l : List UInt8, Lib.replaceK [95] [] (Lib.count l [95]) l = unsc l
 | [] => by
  have h : Lib.index [] [95] = -1 := rfl
  rw [Lib.count_miss h]
  rfl
 | b :: m => by
  have ih := replace_unsc m
  by_cases hb : b = 95
  ·subst hb
   have h : Lib.index ((95 : UInt8) :: m) [95] = ((0 : Nat) : Int) := by
    unfold Lib.index
    rw [pre_one]
    rfl
   rw [Lib.count_hit (by simp) h, Nat.add_comm, Lib.replaceK_hit _ _ _ _ _ h]
   show [] ++ [] ++ Lib.replaceK [95] [] (Lib.count (((95 : UInt8) :: m).drop (0 + 1)) [95]) (((95 : UInt8) :: m).drop (0 + 1)) = _
   show Lib.replaceK [95] [] (Lib.count m [95]) m = _
   rw [ih]
   rfl
  ·have hp : ([95] : List UInt8).isPrefixOf (b :: m) = false := by rw [pre_one]; simpa using fun h => hb h.symm
   have hu : unsc (b :: m) = b :: unsc m := by unfold unsc; rw [List.filter_cons_of_pos (by simpa using hb)]
   have hi : Lib.index (b :: m) [95] = if Lib.index m [95] == -1 then -1 else Lib.index m [95] + 1 := by
    show (if ([95] : List UInt8).isPrefixOf (b :: m) then _ else _) = _
    rw [hp]
    rfl
   by_cases hm : Lib.index m [95] = -1
   ·rw [if_pos (beq_iff_eq.2 hm)] at hi
    rw [Lib.count_miss hi, hu, ← ih, Lib.count_miss hm]
    rfl
   ·have hge := Lib.index_ge m [95]
    obtain ⟨i, hi2⟩ : ∃ i : Nat, Lib.index m [95] = i := ⟨(Lib.index m [95]).toNat, by omega⟩
    rw [if_neg (fun e => hm (beq_iff_eq.1 e)), hi2] at hi
    have hi3 : Lib.index (b :: m) [95] = ((i + 1 : Nat) : Int) := by rw [hi]; omega
    rw [Lib.count_hit (by simp) hi2, Nat.add_comm, Lib.replaceK_hit _ _ _ _ _ hi2] at ih
    rw [Lib.count_hit (by simp) hi3, Nat.add_comm, Lib.replaceK_hit _ _ _ _ _ hi3, hu, ← ih]
    rfl
theorem replaceAll_unsc (l : List UInt8) : Lib.replaceAll l [95] [] = unsc l := by
 rw [← replace_unsc]
 unfold Lib.replaceAll Lib.replace Lib.replaceNum
 rw [if_neg (by decide), if_pos (.inl (by decide))]
theorem unsc_length (l : List UInt8) : (unsc l).length ≤ l.length := List.length_filter_le _ _
def Ml (w : World) : Prop := ∃ m, w.cell? ⟨2, 0, none⟩ = some (.int .i64 m)
theorem Ml.below {w w' : World} (h : Ml w) (hb : Below w.heap.size w w') : Ml w' := by
 obtain ⟨m, hm⟩ := h
 exact ⟨m, (hb.cell (World.block_lt_of_cell? w _ hm)).trans hm⟩
set_option maxRecDepth 100000 in
set_option maxHeartbeats 2000000 in
theorem join_run (l : List UInt8) (w : World) (hl : l.length ≤ 100000) (hm : Hid (Ml w)) :
  Calls Tryz.prog 63 #[.string (bs l)] w fun e w' => e = .returned (.string (bs (unsc l))) ∧ Below w.heap.size w w' := by
 obtain ⟨m, hmc⟩ := hm.out
 have hsz := bs_size l
 have HR := Tryz.strings_ReplaceAll (bs l) ⟨#[95]⟩ ⟨#[]⟩ m w (by omega) hmc (by decide) (by show (bs l).size + Lib.countB (bs l) ⟨#[95]⟩ * 0 ≤ _; omega)
 have h95 : (⟨#[95]⟩ : ByteArray).data.toList = [95] := rfl
 have h0 : (⟨#[]⟩ : ByteArray).data.toList = [] := rfl
 rw [bs_list, h95, h0, replaceAll_unsc, show (⟨(unsc l).toArray⟩ : ByteArray) = bs (unsc l) from rfl] at HR
 replace HR := Lib.hid HR
 clear hmc h95 h0
 go_enter Tryz.func63, Tryz.ntmps63
 go_wp2_with fail
 refine (HR.out).mono ?_
 rintro e w1 ⟨rfl, hw1⟩
 have HB := Lib.hid hw1
 clear hw1
 go_wp2_with fail
 go_ret
 exact ⟨rfl, HB.out⟩
end Go.Proofs.YtgoemhcngmpfbaaGreatDoor
namespace Go.Proofs.YtgoemhcngmpfbaaGreatDoor
open Go.RowKit Go.Sort
def gidx (p : UInt8 → Bool) (t : List UInt8) : Int := if t.any p then ((t.takeWhile fun c => !p c).length : Int) else -1
theorem gidx_hit {p : UInt8 → Bool} {b : UInt8} (m : List UInt8) (h : p b = true) : gidx p (b :: m) = 0 := by
 unfold gidx
 rw [if_pos (by simp [h])]
 simp [h]
theorem gidx_miss {p : UInt8 → Bool} {b : UInt8} (m : List UInt8) (h : p b = false) : gidx p (b :: m) = if gidx p m == -1 then -1 else gidx p m + 1 := by
 unfold gidx
 cases hm : m.any p
 ·simp [h, hm]
 ·rw [if_pos (by simp [h, hm]), if_pos rfl, if_neg (by simp)]
  rw [List.takeWhile_cons_of_pos (by simp [h])]
  simp
theorem take_of_gidx (p : UInt8 → Bool) : ∀ t : List UInt8, t.take (t.takeWhile fun c => !p c).length = t.takeWhile fun c => !p c
 | [] => rfl
 | b :: m => by
  cases h : p b
  ·rw [List.takeWhile_cons_of_pos (by simp [h]), List.length_cons, List.take_succ_cons, take_of_gidx p m]
  ·rw [List.takeWhile_cons_of_neg (by simp [h])]; rfl
theorem drop_of_gidx (p : UInt8 → Bool) : ∀ t : List UInt8, t.drop ((t.takeWhile fun c => !p c).length + 1) = (t.dropWhile fun c => !p c).drop 1
 | [] => rfl
 | b :: m => by
  cases h : p b
  ·rw [List.takeWhile_cons_of_pos (by simp [h]), List.length_cons, List.drop_succ_cons, drop_of_gidx p m, List.dropWhile_cons_of_pos (by simp [h])]
  ·rw [List.takeWhile_cons_of_neg (by simp [h]), List.dropWhile_cons_of_neg (by simp [h])]; rfl
theorem none_of_gidx {p : UInt8 → Bool} : ∀ {t : List UInt8}, t.any p = false → (t.takeWhile fun c => !p c) = t ∧ (t.dropWhile fun c => !p c) = []
 | [], _ => ⟨rfl, rfl⟩
 | b :: m, h => by
  rw [List.any_cons, Bool.or_eq_false_iff] at h
  obtain ⟨h1, h2⟩ := none_of_gidx h.2
  rw [List.takeWhile_cons_of_pos (by simp [h.1]), List.dropWhile_cons_of_pos (by simp [h.1]), h1, h2]
  exact ⟨rfl, rfl⟩
theorem some_of_gidx {p : UInt8 → Bool} : ∀ {t : List UInt8}, t.any p = true → (t.dropWhile fun c => !p c) ≠ []
 | [], h => by cases h
 | b :: m, h => by
  cases hb : p b
  ·rw [List.dropWhile_cons_of_pos (by simp [hb])]
   rw [List.any_cons, hb, Bool.false_or] at h
   exact some_of_gidx h
  ·rw [List.dropWhile_cons_of_neg (by simp [hb])]
   simp
def isM (c : UInt8) : Bool := ([101, 69] : List UInt8).contains c
def isP (c : UInt8) : Bool := c == 46
theorem indexAny_mark : ∀ t : List UInt8, Lib.indexAny t [101, 69] = gidx isM t
 | [] => rfl
 | b :: m => by
  have ih := indexAny_mark m
  cases h : isM b
  ·rw [gidx_miss m h, ← ih]
   show (if ([101, 69] : List UInt8).contains b then _ else _) = _
   rw [show ([101, 69] : List UInt8).contains b = false from h]
   rfl
  ·rw [gidx_hit m h]
   show (if ([101, 69] : List UInt8).contains b then _ else _) = _
   rw [show ([101, 69] : List UInt8).contains b = true from h]
   rfl
theorem index_dot : ∀ t : List UInt8, Lib.index t [46] = gidx isP t
 | [] => rfl
 | b :: m => by
  have ih := index_dot m
  have hp : ([46] : List UInt8).isPrefixOf (b :: m) = isP b := by
   rw [pre_one]
   unfold isP
   rw [Bool.eq_iff_iff]
   simp only [beq_iff_eq]
   exact eq_comm
  cases h : isP b
  ·rw [gidx_miss m h, ← ih]
   show (if ([46] : List UInt8).isPrefixOf (b :: m) then _ else _) = _
   rw [hp, h]
   rfl
  ·rw [gidx_hit m h]
   show (if ([46] : List UInt8).isPrefixOf (b :: m) then _ else _) = _
   rw [hp, h]
   rfl
def preP (p : UInt8 → Bool) (t : List UInt8) : List UInt8 := t.takeWhile fun c => !p c
def postP (p : UInt8 → Bool) (t : List UInt8) : List UInt8 := (t.dropWhile fun c => !p c).drop 1
theorem cut_dot (t : List UInt8) : Lib.cut t [46] = (preP isP t, postP isP t, t.any isP) := by
 unfold Lib.cut preP postP
 rw [index_dot]
 cases h : t.any isP
 ·have h2 : gidx isP t = -1 := by unfold gidx; rw [h]; rfl
  rw [h2, if_neg (by decide), (none_of_gidx h).1, (none_of_gidx h).2]
  rfl
 ·have h2 : gidx isP t = ((t.takeWhile fun c => !isP c).length : Int) := by unfold gidx; rw [h]; rfl
  rw [h2, if_pos (by omega), Int.toNat_natCast, take_of_gidx]
  show (_, t.drop ((t.takeWhile fun c => !isP c).length + 1), true) = _
  rw [drop_of_gidx]
theorem split_mark {t : List UInt8} (h : t.any isM = true) : ∃ i : Nat, Lib.indexAny t [101, 69] = (i : Int) ∧ i < t.length ∧ t.take i = preP isM t ∧ t.drop (i + 1) = postP isM t := by
 refine ⟨(t.takeWhile fun c => !isM c).length, ?_, ?_, take_of_gidx isM t, drop_of_gidx isM t⟩
 ·rw [indexAny_mark]
  unfold gidx
  rw [h]
  rfl
 ·have h2 := List.takeWhile_append_dropWhile (p := fun c => !isM c) (l := t)
  have h3 : t.dropWhile (fun c => !isM c) ≠ [] := some_of_gidx h
  have h4 := congrArg List.length h2
  rw [List.length_append] at h4
  have h5 : 0 < (t.dropWhile fun c => !isM c).length := List.length_pos_iff.2 h3
  omega
theorem split_none {t : List UInt8} (h : t.any isM = false) : Lib.indexAny t [101, 69] = -1 ∧ preP isM t = t := by
 refine ⟨?_, (none_of_gidx h).1⟩
 rw [indexAny_mark]
 unfold gidx
 rw [h]
 rfl
def ptA (l : List UInt8) : List UInt8 := preP isM (unsc l)
def ptM (l : List UInt8) : Bool := (unsc l).any isM
def ptW (l : List UInt8) : List UInt8 := preP isP (ptA l)
def ptF (l : List UInt8) : List UInt8 := postP isP (ptA l)
def ptD (l : List UInt8) : Bool := (ptA l).any isP
def ptS (l : List UInt8) : List UInt8 := if ptM l then sgnL (postP isM (unsc l)) else []
def ptX (l : List UInt8) : List UInt8 := if ptM l then restL (postP isM (unsc l)) else [48]
def FloatOk (l : List UInt8) : Prop := Sep isDig l ∧ (ptD l || ptM l) = true ∧ decB (ptW l ++ ptF l) = true ∧ decB (ptX l) = true
theorem preP_len (p : UInt8 → Bool) (t : List UInt8) : (preP p t).length ≤ t.length := by
 unfold preP
 have h := congrArg List.length (List.takeWhile_append_dropWhile (p := fun c => !p c) (l := t))
 rw [List.length_append] at h
 omega
theorem postP_len (p : UInt8 → Bool) (t : List UInt8) : (postP p t).length ≤ t.length := by
 unfold postP
 have h := congrArg List.length (List.takeWhile_append_dropWhile (p := fun c => !p c) (l := t))
 rw [List.length_append] at h
 rw [List.length_drop]
 omega
theorem restL_len (l : List UInt8) : (restL l).length ≤ l.length := by
 cases l with
 | nil => simp [restL]
 | cons a m =>
  show (if isSgn a.toNat = true then m else a :: m).length ≤ _
  split <;> simp
end Go.Proofs.YtgoemhcngmpfbaaGreatDoor
