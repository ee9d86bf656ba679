/-
  The document's answers of layer 9: digit, hex, Base.
-/
import Derived.Test.YtgoemhcngmpfbaaGreatDoorMx20
import Derived.Test.YtgoemhcngmpfbaaGreatDoorMx32
import Derived.Test.YtgoemhcngmpfbaaGreatDoorMx30
namespace Go.Proofs.YtgoemhcngmpfbaaGreatDoor
open Go.RowKit Go.Sort
set_option linter.unusedSimpArgs false
set_option maxRecDepth 100000 in
theorem digit9_run (c : Nat) (w : World) :
  Calls Tryz.prog 71 #[.int .u8 (c : Int)] w fun e w' => e = .returned (.bool (isDig c)) ∧ w' = w := by
 unfold isDig
 by_cases h1 : 48 ≤ c
 ·have f1 : (48 : Int) ≤ (c : Int) := by omega
  by_cases h2 : c ≤ 57
  ·have f2 : (c : Int) ≤ 57 := by omega
   rw [decide_eq_true (show 48 ≤ c ∧ c ≤ 57 from ⟨h1, h2⟩)]
   clear h1 h2
   go_enter Tryz.func71, Tryz.ntmps71
   go_wp2_with fail
   go_ret
   exact ⟨rfl, rfl⟩
  ·have f2 : ¬ (c : Int) ≤ 57 := by omega
   rw [decide_eq_false (show ¬ (48 ≤ c ∧ c ≤ 57) from fun h => h2 h.2)]
   clear h1 h2
   go_enter Tryz.func71, Tryz.ntmps71
   go_wp2_with fail
   go_ret
   exact ⟨rfl, rfl⟩
 ·have f1 : ¬ (48 : Int) ≤ (c : Int) := by omega
  rw [decide_eq_false (show ¬ (48 ≤ c ∧ c ≤ 57) from fun h => h1 h.1)]
  clear h1
  go_enter Tryz.func71, Tryz.ntmps71
  go_wp2_with fail
  go_ret
  exact ⟨rfl, rfl⟩
set_option maxRecDepth 100000 in
theorem hex9_run (c : Nat) (w : World) :
  Calls Tryz.prog 102 #[.int .u8 (c : Int)] w fun e w' => e = .returned (.bool (isHex c)) ∧ w' = w := by
 have HD := fun V => Digit_run7 c V
 unfold isHex
 have hr := rd_lt (c := c) (Nat.le_refl 16)
 generalize rdN c = r at *
 replace HD := Lib.hid HD
 by_cases h : r < 16
 ·rw [decide_eq_true (hr.1 h)]
  have f : (r : Int) < 16 := by omega
  clear h hr
  go_enter Tryz.func102, Tryz.ntmps102
  go_wp2_with fail
  refine (HD.out _).mono ?_
  rintro e w1 ⟨rfl, rfl⟩
  go_wp2_with fail
  go_ret
  exact ⟨rfl, rfl⟩
 ·rw [decide_eq_false (fun g => h (hr.2 g))]
  have f : ¬ (r : Int) < 16 := by omega
  clear h hr
  go_enter Tryz.func102, Tryz.ntmps102
  go_wp2_with fail
  refine (HD.out _).mono ?_
  rintro e w1 ⟨rfl, rfl⟩
  go_wp2_with fail
  go_ret
  exact ⟨by show Ending.returned (.bool (decide ((r : Int) < 16))) = _; rw [decide_eq_false (Int.not_lt.2 f)], rfl⟩
theorem eq_byte {a k : UInt8} (h : a ≠ k) : ((a.toNat : Int) == (k.toNat : Int)) = false := by
 rw [beq_eq_false_iff_ne]
 intro e
 exact h (UInt8.toNat_inj.1 (by omega))
set_option maxRecDepth 100000 in
set_option maxHeartbeats 4000000 in
theorem Base9_run (l : List UInt8) (w : World) (hl : l.length ≤ 100000) :
  Calls Tryz.prog 59 #[.string (bs l)] w fun e w' => e = .returned (.int .i64 (pfxB l : Int)) ∧ w' = w := by
 have hsz := bs_size l
 by_cases h2 : l.length < 2
 ·have h2z : (l.length : Int) < 2 := by omega
  rw [pfx_short h2]
  clear h2
  go_enter Tryz.func59, Tryz.ntmps59
  go_wp2_with fail
  go_ret
  exact ⟨rfl, rfl⟩
 ·match l, h2, hl, hsz with
  | [], h2, _, _ => exact absurd (show ([] : List UInt8).length < 2 by simp) h2
  | [a], h2, _, _ => exact absurd (show [a].length < 2 by simp) h2
  | a :: c :: r, h2, hl, hsz =>
   have hxa := bs_get (l := a :: c :: r) (i := 0) (c := a) rfl
   have hxc := bs_get (l := a :: c :: r) (i := 1) (c := c) rfl
   rw [Int.natCast_zero] at hxa
   rw [show ((1 : Nat) : Int) = 1 from rfl] at hxc
   have hlen : 2 ≤ (a :: c :: r).length := by simp
   generalize hm : (a :: c :: r).length = m at *
   have h2z : ¬ (m : Int) < 2 := by omega
   have hm0 : 0 < m := by omega
   have hm1 : 1 < m := by omega
   generalize hz : bs (a :: c :: r) = z at *
   have hp : pfxB (a :: c :: r) = if a = 48 then (if c = 120 ∨ c = 88 then 16 else if c = 98 ∨ c = 66 then 2 else if c = 111 ∨ c = 79 then 8 else 0) else 0 := rfl
   rw [hp]
   clear hp h2 hz hm hlen
   by_cases ha : a = 48
   ·subst ha
    have hx0 : ∀ W, (Instr.index 9 (.string z) (.int .i64 0)).run Tryz.prog W = .ok (.int .u8 48) W := hxa
    clear hxa
    rw [if_pos rfl]
    by_cases c120 : c = 120
    ·subst c120
     have hx1 : ∀ W, (Instr.index 9 (.string z) (.int .i64 1)).run Tryz.prog W = .ok (.int .u8 120) W := hxc
     have hv : (if (120 : UInt8) = 120 ∨ (120 : UInt8) = 88 then 16 else if (120 : UInt8) = 98 ∨ (120 : UInt8) = 66 then 2 else if (120 : UInt8) = 111 ∨ (120 : UInt8) = 79 then 8 else 0) = 16 := by decide
     rw [hv]
     clear hxc hv
     go_enter Tryz.func59, Tryz.ntmps59
     go_wp2_with fail
     go_ret
     exact ⟨rfl, rfl⟩
    ·have e120 := eq_byte c120
     by_cases c88 : c = 88
     ·subst c88
      have hx1 : ∀ W, (Instr.index 9 (.string z) (.int .i64 1)).run Tryz.prog W = .ok (.int .u8 88) W := hxc
      have hv : (if (88 : UInt8) = 120 ∨ (88 : UInt8) = 88 then 16 else if (88 : UInt8) = 98 ∨ (88 : UInt8) = 66 then 2 else if (88 : UInt8) = 111 ∨ (88 : UInt8) = 79 then 8 else 0) = 16 := by decide
      rw [hv]
      clear hxc hv
      go_enter Tryz.func59, Tryz.ntmps59
      go_wp2_with fail
      go_ret
      exact ⟨rfl, rfl⟩
     ·have e88 := eq_byte c88
      by_cases c98 : c = 98
      ·subst c98
       have hx1 : ∀ W, (Instr.index 9 (.string z) (.int .i64 1)).run Tryz.prog W = .ok (.int .u8 98) W := hxc
       have hv : (if (98 : UInt8) = 120 ∨ (98 : UInt8) = 88 then 16 else if (98 : UInt8) = 98 ∨ (98 : UInt8) = 66 then 2 else if (98 : UInt8) = 111 ∨ (98 : UInt8) = 79 then 8 else 0) = 2 := by decide
       rw [hv]
       clear hxc hv
       go_enter Tryz.func59, Tryz.ntmps59
       go_wp2_with fail
       go_ret
       exact ⟨rfl, rfl⟩
      ·have e98 := eq_byte c98
       by_cases c66 : c = 66
       ·subst c66
        have hx1 : ∀ W, (Instr.index 9 (.string z) (.int .i64 1)).run Tryz.prog W = .ok (.int .u8 66) W := hxc
        have hv : (if (66 : UInt8) = 120 ∨ (66 : UInt8) = 88 then 16 else if (66 : UInt8) = 98 ∨ (66 : UInt8) = 66 then 2 else if (66 : UInt8) = 111 ∨ (66 : UInt8) = 79 then 8 else 0) = 2 := by decide
        rw [hv]
        clear hxc hv
        go_enter Tryz.func59, Tryz.ntmps59
        go_wp2_with fail
        go_ret
        exact ⟨rfl, rfl⟩
       ·have e66 := eq_byte c66
        by_cases c111 : c = 111
        ·subst c111
         have hx1 : ∀ W, (Instr.index 9 (.string z) (.int .i64 1)).run Tryz.prog W = .ok (.int .u8 111) W := hxc
         have hv : (if (111 : UInt8) = 120 ∨ (111 : UInt8) = 88 then 16 else if (111 : UInt8) = 98 ∨ (111 : UInt8) = 66 then 2 else if (111 : UInt8) = 111 ∨ (111 : UInt8) = 79 then 8 else 0) = 8 := by decide
         rw [hv]
         clear hxc hv
         go_enter Tryz.func59, Tryz.ntmps59
         go_wp2_with fail
         go_ret
         exact ⟨rfl, rfl⟩
        ·have e111 := eq_byte c111
         by_cases c79 : c = 79
         ·subst c79
          have hx1 : ∀ W, (Instr.index 9 (.string z) (.int .i64 1)).run Tryz.prog W = .ok (.int .u8 79) W := hxc
          have hv : (if (79 : UInt8) = 120 ∨ (79 : UInt8) = 88 then 16 else if (79 : UInt8) = 98 ∨ (79 : UInt8) = 66 then 2 else if (79 : UInt8) = 111 ∨ (79 : UInt8) = 79 then 8 else 0) = 8 := by decide
          rw [hv]
          clear hxc hv
          go_enter Tryz.func59, Tryz.ntmps59
          go_wp2_with fail
          go_ret
          exact ⟨rfl, rfl⟩
         ·have e79 := eq_byte c79
          rw [if_neg (by simp [c120, c88]), if_neg (by simp [c98, c66]), if_neg (by simp [c111, c79])]
          have g1 : ((c.toNat : Int) == 120) = false := e120
          have g2 : ((c.toNat : Int) == 88) = false := e88
          have g3 : ((c.toNat : Int) == 98) = false := e98
          have g4 : ((c.toNat : Int) == 66) = false := e66
          have g5 : ((c.toNat : Int) == 111) = false := e111
          have g6 : ((c.toNat : Int) == 79) = false := e79
          clear e120 e88 e98 e66 e111 e79 c120 c88 c98 c66 c111 c79
          generalize c.toNat = cn at *
          go_enter Tryz.func59, Tryz.ntmps59
          go_wp2_with fail
          go_ret
          exact ⟨rfl, rfl⟩
   ·have e48 : ((a.toNat : Int) == 48) = false := eq_byte ha
    rw [if_neg ha]
    clear ha hxc
    generalize a.toNat = an at *
    go_enter Tryz.func59, Tryz.ntmps59
    go_wp2_with fail
    go_ret
    exact ⟨rfl, rfl⟩
end Go.Proofs.YtgoemhcngmpfbaaGreatDoor
namespace Go.Proofs.YtgoemhcngmpfbaaGreatDoor
open Go.RowKit Go.Sort
set_option linter.unusedSimpArgs false
theorem unsc_take {l : List UInt8} {i : Nat} {c : UInt8} (h : l[i]? = some c) : unsc (l.take (i + 1)) = unsc (l.take i) ++ (if c = 95 then [] else [c]) := by
 rw [take_succ_of h]
 unfold unsc
 rw [List.filter_append]
 congr 1
 by_cases hc : c = 95
 ·subst hc; rfl
 ·rw [if_neg hc, List.filter_cons_of_pos (by simpa using hc)]
  rfl
theorem ext_one {l : List UInt8} {i : Nat} {c : UInt8} (h : l[i]? = some c) : (bs l).extract i (i + 1) = bs [c] := by
 rw [bs_extract, take_succ_of h, List.drop_append_of_le_length (by have := (List.getElem?_eq_some_iff.1 h).1; rw [List.length_take]; omega), List.drop_of_length_le (by rw [List.length_take]; omega)]
 rfl
set_option maxRecDepth 100000 in
set_option maxHeartbeats 4000000 in
theorem without9_run (l : List UInt8) (w : World) (hl : l.length ≤ 100000) :
  Calls Tryz.prog 66 #[.string (bs l)] w fun e w' => e = .returned (.string (bs (unsc l))) ∧ w' = w := by
 have hsz := bs_size l
 go_enter Tryz.func66, Tryz.ntmps66
 go_wp2_with fail
 go_loopg [3, 4] (l.length + 1) (fun h s3 s4 wr => ∃ i : Nat, s3 = .string (bs (unsc (l.take i))) ∧ s4 = .int .i64 (i : Int) ∧ Hid (i + h = l.length + 1) ∧ i ≤ l.length ∧ wr = w)
 case atStart => exact ⟨0, rfl, rfl, by show _ = _; omega, by omega, rfl⟩
 case round =>
  obtain ⟨i, rfl, rfl, HI, hin, rfl⟩ := hrel
  by_cases hlt : i < l.length
  ·have hiz : (i : Int) < (l.length : Int) := by omega
   obtain ⟨c, hc⟩ : ∃ c, l[i]? = some c := ⟨l[i], List.getElem?_eq_getElem hlt⟩
   have hx := bs_get hc
   have hu := unsc_take hc
   have he := ext_one hc
   have hxl : (unsc (l.take i)).length ≤ 100000 := Nat.le_trans (unsc_length _) (by rw [List.length_take]; omega)
   have hxs := bs_size (unsc (l.take i))
   by_cases h95 : c = 95
   ·subst h95
    have hx95 : ∀ W, (Instr.index 9 (.string (bs l)) (.int .i64 (i : Int))).run Tryz.prog W = .ok (.int .u8 95) W := hx
    rw [if_pos rfl, List.append_nil] at hu
    have HU := Lib.hid hu
    clear hx hc he hu
    generalize unsc (l.take i) = x at *
    go_wp2_with fail
    go_roundg (l.length - i)
    case measure => have := HI.out; omega
    case rel => exact ⟨i + 1, by rw [HU.out], by go_num, by show _ = _; have := HI.out; omega, by omega, rfl⟩
   ·have e95 : ((c.toNat : Int) != 95) = true := by rw [bne_iff_ne]; intro e; exact h95 (UInt8.toNat_inj.1 (by show c.toNat = 95; omega))
    rw [if_neg h95] at hu
    have HU := Lib.hid hu
    have hcat := bs_app (unsc (l.take i)) [c]
    have hs1 := bs_size [c]
    have hs2 : ([c] : List UInt8).length = 1 := rfl
    rw [hs2] at hs1
    obtain ⟨ip, hip⟩ : ∃ ip, i + 1 = ip := ⟨_, rfl⟩
    have hipz : (i : Int) + 1 = (ip : Int) := by omega
    have hipl : ip ≤ l.length := by omega
    have hii : i ≤ ip := by omega
    rw [hip] at he
    have HIP := Lib.hid hip
    clear hc hu h95 hip hs2
    generalize unsc (l.take i) = x at *
    generalize c.toNat = cn at *
    go_wp2_with fail
    go_roundg (l.length - i)
    case measure => have := HI.out; omega
    case rel => exact ⟨i + 1, by rw [HU.out], by rw [HIP.out], by show _ = _; have := HI.out; omega, by omega, rfl⟩
  ·obtain rfl : i = l.length := by omega
   rw [List.take_length]
   go_wp2_with fail
   go_ret
   exact ⟨rfl, rfl⟩
end Go.Proofs.YtgoemhcngmpfbaaGreatDoor
namespace Go.Proofs.YtgoemhcngmpfbaaGreatDoor
open Go.RowKit Go.Sort
set_option linter.unusedSimpArgs false
def pD (lt : Bool) (c : Nat) : Bool := if lt then isHex c else isDig c
def SepB (lt : Bool) (l : List UInt8) : Prop := ∀ i : Nat, l[i]? = some 95 → ∃ a b : UInt8, 0 < i ∧ l[i - 1]? = some a ∧ l[i + 1]? = some b ∧ ((lt = true ∧ i = 2) ∨ pD lt a.toNat = true) ∧ pD lt b.toNat = true
theorem sepB_dig (l : List UInt8) : SepB false l ↔ Sep isDig l := by
 constructor
 ·intro h i hi
  obtain ⟨a, b, h0, h1, h2, h3, h4⟩ := h i hi
  exact ⟨a, b, h0, h1, h2, h3.resolve_left (fun e => by cases e.1), h4⟩
 ·intro h i hi
  obtain ⟨a, b, h0, h1, h2, h3, h4⟩ := h i hi
  exact ⟨a, b, h0, h1, h2, .inr h3, h4⟩
theorem pfx_shape : ∀ {l : List UInt8}, pfxB l ≠ 0 → ∃ x r, l = 48 :: x :: r ∧ x ≠ 95
 | [], h => absurd rfl h
 | [_], h => absurd rfl h
 | a :: c :: r, h => by
  have hp : pfxB (a :: c :: r) = if a = 48 then (if c = 120 ∨ c = 88 then 16 else if c = 98 ∨ c = 66 then 2 else if c = 111 ∨ c = 79 then 8 else 0) else 0 := rfl
  by_cases ha : a = 48
  ·subst ha
   refine ⟨c, r, rfl, ?_⟩
   rintro rfl
   exact h rfl
  ·rw [hp, if_neg ha] at h
   exact absurd rfl h
theorem sepB_hex {l : List UInt8} (h : pfxB l ≠ 0) : SepB true l ↔ Sep isHex (48 :: l.drop 2) := by
 obtain ⟨x, r, rfl, hx⟩ := pfx_shape h
 show _ ↔ Sep isHex (48 :: r)
 constructor
 ·intro g i hi
  match i, hi with
  | 0, hi => cases hi
  | 1, hi =>
   obtain ⟨a, b, _, h1, h2, h3, h4⟩ := g 2 hi
   exact ⟨48, b, by omega, rfl, h2, by decide, h4⟩
  | i + 2, hi =>
   obtain ⟨a, b, _, h1, h2, h3, h4⟩ := g (i + 3) hi
   exact ⟨a, b, by omega, h1, h2, h3.resolve_left (fun e => absurd e.2 (by omega)), h4⟩
 ·intro g i hi
  match i, hi with
  | 0, hi => cases hi
  | 1, hi => exact absurd (Option.some.inj hi) hx
  | 2, hi =>
   obtain ⟨a, b, _, h1, h2, h3, h4⟩ := g 1 hi
   exact ⟨x, b, by omega, rfl, h2, .inl ⟨rfl, rfl⟩, h4⟩
  | i + 3, hi =>
   obtain ⟨a, b, _, h1, h2, h3, h4⟩ := g (i + 2) hi
   exact ⟨a, b, by omega, h1, h2, .inr h3, h4⟩
theorem unsc_skip (m : List UInt8) : unsc (95 :: m) = unsc m := rfl
theorem unsc_keep {a : UInt8} (m : List UInt8) (h : a ≠ 95) : unsc (a :: m) = a :: unsc m := by
 unfold unsc
 rw [List.filter_cons_of_pos (by simpa using h)]
theorem not95_of_dig {a : UInt8} (h : isDig a.toNat = true) : a ≠ 95 := by
 rintro rfl
 exact absurd h (by decide)
theorem int_doc {l : List UInt8} {k n : Nat} (h : IntIs l k n) :
    ((l = [] ∨ ¬ SepB (decide (pfxB l ≠ 0)) l) ∧ k = 8 ∧ n = 0) ∨
    (l ≠ [] ∧ SepB (decide (pfxB l ≠ 0)) l ∧
      ((pfxB l ≠ 0 ∧ k = parK (pfxB l) (unsc (l.drop 2)) ∧ n = parN (pfxB l) (unsc (l.drop 2))) ∨
       (pfxB l = 0 ∧ l[0]? = some 48 ∧ 1 < l.length ∧ k = parK 8 (unsc (l.drop 1)) ∧ n = parN 8 (unsc (l.drop 1))) ∨
       (pfxB l = 0 ∧ ¬ (l[0]? = some 48 ∧ 1 < l.length) ∧ k = parK 10 (unsc l) ∧ n = parN 10 (unsc l)))) := by
  rcases h with ⟨hp, h⟩ | ⟨hp, h⟩
  · have e : decide (pfxB l ≠ 0) = true := decide_eq_true hp
    rw [e, sepB_hex hp]
    have hl : l ≠ [] := by rintro rfl; exact hp rfl
    rcases h with ⟨h1, h2, h3⟩ | ⟨h1, h2, h3⟩
    · exact .inl ⟨.inr h1, h2, h3⟩
    · exact .inr ⟨hl, h1, .inl ⟨hp, h2, h3⟩⟩
  · have e : decide (pfxB l ≠ 0) = false := decide_eq_false (fun g => g hp)
    rw [e, sepB_dig]
    rcases h with ⟨h1, h2, h3⟩ | ⟨hl, hs, h⟩
    · exact .inl ⟨h1, h2, h3⟩
    · refine .inr ⟨hl, hs, .inr ?_⟩
      match l, hl with
      | [], hl => exact absurd rfl hl
      | a :: m, _ =>
        have ha : a ≠ 95 := by
          rintro rfl
          obtain ⟨_, _, h0, _⟩ := hs 0 rfl
          omega
        have hu := unsc_keep m ha
        have hm : 1 < (unsc (a :: m)).length ↔ 1 < (a :: m).length := by
          rw [hu, List.length_cons, List.length_cons]
          match m with
          | [] => exact Iff.rfl
          | c :: m' =>
            by_cases hc : c = 95
            · subst hc
              obtain ⟨_, b, _, _, hb, _, hd⟩ := hs 1 rfl
              match m', hb with
              | [], hb => cases hb
              | b' :: m'', hb =>
                have hb' : b' = b := Option.some.inj hb
                subst hb'
                rw [unsc_skip, unsc_keep m'' (not95_of_dig hd)]
                simp
            · rw [unsc_keep m' hc]
              simp
        have h0 : (unsc (a :: m))[0]? = some 48 ↔ (a :: m)[0]? = some 48 := by rw [hu]; exact Iff.rfl
        have hd : (unsc (a :: m)).drop 1 = unsc ((a :: m).drop 1) := by rw [hu]; rfl
        rw [hm, h0, hd] at h
        rcases h with ⟨h1, h2, h3, h4⟩ | ⟨h1, h2, h3⟩
        · exact .inl ⟨hp, h2, h1, h3, h4⟩
        · exact .inr ⟨hp, fun g => h1 ⟨g.2, g.1⟩, h2, h3⟩
theorem pre_hit {p : UInt8 → Bool} : ∀ {P : List UInt8} (x : List UInt8), P.any p = true → preP p (P ++ x) = preP p P ∧ postP p (P ++ x) = postP p P ++ x
 | [], _, h => by cases h
 | b :: m, x, h => by
  unfold preP postP
  cases hb : p b
  ·rw [List.any_cons, hb, Bool.false_or] at h
   obtain ⟨h1, h2⟩ := pre_hit x h
   rw [List.cons_append, List.takeWhile_cons_of_pos (by simp [hb]), List.takeWhile_cons_of_pos (by simp [hb]), List.dropWhile_cons_of_pos (by simp [hb]), List.dropWhile_cons_of_pos (by simp [hb])]
   exact ⟨congrArg _ h1, h2⟩
  ·rw [List.cons_append, List.takeWhile_cons_of_neg (by simp [hb]), List.takeWhile_cons_of_neg (by simp [hb]), List.dropWhile_cons_of_neg (by simp [hb]), List.dropWhile_cons_of_neg (by simp [hb])]
   exact ⟨rfl, rfl⟩
theorem pre_miss {p : UInt8 → Bool} : ∀ {P : List UInt8} (x : List UInt8), P.any p = false → preP p (P ++ x) = P ++ preP p x ∧ postP p (P ++ x) = postP p x
 | [], _, _ => ⟨rfl, rfl⟩
 | b :: m, x, h => by
  rw [List.any_cons, Bool.or_eq_false_iff] at h
  obtain ⟨h1, h2⟩ := pre_miss x h.2
  unfold preP at h1 ⊢
  unfold postP at h2 ⊢
  rw [List.cons_append, List.takeWhile_cons_of_pos (by simp [h.1]), List.dropWhile_cons_of_pos (by simp [h.1]), h1, h2]
  exact ⟨rfl, rfl⟩
theorem pre_self {p : UInt8 → Bool} {P : List UInt8} (h : P.any p = false) : preP p P = P ∧ postP p P = [] := by
 obtain ⟨h1, h2⟩ := none_of_gidx h
 exact ⟨h1, by unfold postP; rw [h2]; rfl⟩
theorem pre_cons {p : UInt8 → Bool} {c : UInt8} (m : List UInt8) (h : p c = true) : preP p (c :: m) = [] ∧ postP p (c :: m) = m := by
 unfold preP postP
 rw [List.takeWhile_cons_of_neg (by simp [h]), List.dropWhile_cons_of_neg (by simp [h])]
 exact ⟨rfl, rfl⟩
theorem pre_past {p : UInt8 → Bool} {c : UInt8} (m : List UInt8) (h : p c = false) : preP p (c :: m) = c :: preP p m := by
 unfold preP
 rw [List.takeWhile_cons_of_pos (by simp [h])]
def Pre (P : List UInt8) : Prop := (∀ c ∈ P, isDig c.toNat = true ∨ c = 46) ∧ (postP isP P).any isP = false
def allD (P : List UInt8) : List UInt8 := preP isP P ++ postP isP P
theorem isP_46 : isP 46 = true := rfl
theorem isP_no {c : UInt8} (h : c ≠ 46) : isP c = false := by unfold isP; simpa using h
theorem isP_dig {c : UInt8} (h : isDig c.toNat = true) : isP c = false := isP_no (by rintro rfl; exact absurd h (by decide))
theorem isM_46 : isM 46 = false := rfl
theorem isM_dig {c : UInt8} (h : isDig c.toNat = true) : isM c = false := by
 unfold isM
 cases e : ([101, 69] : List UInt8).contains c
 ·rfl
 ·rw [List.contains_iff_mem] at e
  rcases List.mem_cons.1 e with rfl | e
  ·exact absurd h (by decide)
  ·obtain rfl := List.mem_singleton.1 e
   exact absurd h (by decide)
theorem pre_nil : Pre [] := ⟨fun _ h => absurd h (by simp), rfl⟩
theorem any_snoc (p : UInt8 → Bool) (P : List UInt8) (c : UInt8) : (P ++ [c]).any p = (P.any p || p c) := by simp
theorem pre_dig {P : List UInt8} {c : UInt8} (h : Pre P) (hc : isDig c.toNat = true) : Pre (P ++ [c]) ∧ allD (P ++ [c]) = allD P ++ [c] ∧ (P ++ [c]).any isP = P.any isP ∧ (postP isP (P ++ [c])).length = (postP isP P).length + (if P.any isP then 1 else 0) := by
 have hm : ∀ x ∈ P ++ [c], isDig x.toNat = true ∨ x = 46 := fun x hx => by
  rcases List.mem_append.1 hx with hx | hx
  ·exact h.1 x hx
  ·obtain rfl := List.mem_singleton.1 hx
   exact .inl hc
 have hp := isP_dig hc
 have ha : (P ++ [c]).any isP = P.any isP := by rw [any_snoc, hp, Bool.or_false]
 cases hb : P.any isP
 ·obtain ⟨h1, h2⟩ := pre_self hb
  rw [hb] at ha
  obtain ⟨h3, h4⟩ := pre_self ha
  refine ⟨⟨hm, by rw [h4]; rfl⟩, by unfold allD; rw [h1, h2, h3, h4, List.append_nil, List.append_nil], ha, by rw [h2, h4]; rfl⟩
 ·obtain ⟨h1, h2⟩ := pre_hit [c] hb
  refine ⟨⟨hm, by rw [h2, any_snoc, h.2, hp]; rfl⟩, by unfold allD; rw [h1, h2, List.append_assoc], by rw [ha, hb], by rw [h2, List.length_append]; rfl⟩
theorem pre_dot {P : List UInt8} (h : Pre P) (hb : P.any isP = false) : Pre (P ++ [46]) ∧ allD (P ++ [46]) = allD P ∧ (P ++ [46]).any isP = true ∧ (postP isP (P ++ [46])).length = (postP isP P).length := by
 obtain ⟨h1, h2⟩ := pre_self hb
 obtain ⟨h3, h4⟩ := pre_miss [46] hb
 obtain ⟨h5, h6⟩ := pre_cons (p := isP) (c := 46) [] rfl
 rw [h5, List.append_nil] at h3
 rw [h6] at h4
 refine ⟨⟨fun x hx => ?_, by rw [h4]; rfl⟩, by unfold allD; rw [h1, h2, h3, h4], by rw [any_snoc, isP_46, Bool.or_true], by rw [h2, h4]⟩
 rcases List.mem_append.1 hx with hx | hx
 ·exact h.1 x hx
 ·exact .inr (List.mem_singleton.1 hx)
theorem preP_mem {p : UInt8 → Bool} {t : List UInt8} {c : UInt8} (h : c ∈ preP p t) : c ∈ t ∧ p c = false := by
 unfold preP at h
 refine ⟨(List.takeWhile_sublist _).subset h, ?_⟩
 have := List.all_eq_true.1 (List.all_takeWhile (p := fun c => !p c) (l := t)) c h
 simpa using this
theorem postP_mem {p : UInt8 → Bool} {t : List UInt8} {c : UInt8} (h : c ∈ postP p t) : c ∈ t := (List.dropWhile_sublist _).subset (List.mem_of_mem_drop h)
theorem allD_dig {P : List UInt8} (h : Pre P) : ∀ c ∈ allD P, isDig c.toNat = true := fun c hc => by
 rcases List.mem_append.1 hc with hc | hc
 ·obtain ⟨h1, h2⟩ := preP_mem hc
  rcases h.1 c h1 with h3 | rfl
  ·exact h3
  ·cases h2
 ·rcases h.1 c (postP_mem hc) with h3 | rfl
  ·exact h3
  ·have := h.2
   rw [List.any_eq_false] at this
   exact absurd isP_46 (this 46 hc)
theorem isDig_lt {c : UInt8} : isDig c.toNat = true ↔ dvN c.toNat < 10 := by
 unfold isDig
 rw [decide_eq_true_eq]
 constructor
 ·intro h
  unfold dvN
  rw [if_pos h]
  omega
 ·exact fun h => ⟨(dv10 h).1, (dv10 h).2.1⟩
theorem decB_dig {L : List UInt8} (h : ∀ c ∈ L, isDig c.toNat = true) : decB L = !L.isEmpty := by
 unfold decB
 rw [show okDig 10 L = true from List.all_eq_true.2 fun c hc => decide_eq_true (isDig_lt.1 (h c hc)), Bool.and_true]
theorem decB_bad {L : List UInt8} {c : UInt8} (hc : c ∈ L) (h : isDig c.toNat = false) : decB L = false := by
 unfold decB
 have : okDig 10 L = false := by
  cases e : okDig 10 L
  ·rfl
  ·have := List.all_eq_true.1 e c hc
   rw [isDig_lt.2 (by simpa using this)] at h
   cases h
 rw [this, Bool.and_false]
def Stop (t : List UInt8) (i : Nat) : Prop := i ≤ t.length ∧ Pre (t.take i) ∧ (∀ c, t[i]? = some c → isDig c.toNat = false ∧ (c = 46 → (t.take i).any isP = true))
theorem pre_noM {P : List UInt8} (h : Pre P) : P.any isM = false := by
 rw [List.any_eq_false]
 intro c hc
 rcases h.1 c hc with h1 | rfl
 ·rw [isM_dig h1]; decide
 ·rw [isM_46]; decide
theorem drop_cons_of {t : List UInt8} {i : Nat} {c : UInt8} (h : t[i]? = some c) : t.drop i = c :: t.drop (i + 1) := by
 obtain ⟨hi, rfl⟩ := List.getElem?_eq_some_iff.1 h
 exact List.drop_eq_getElem_cons hi
theorem fl_end {l : List UInt8} {i : Nat} (h : Stop (unsc l) i) (hi : i = (unsc l).length) (hs : Sep isDig l) :
  ptM l = false ∧ ptW l ++ ptF l = allD ((unsc l).take i) ∧ (ptF l).length = (postP isP ((unsc l).take i)).length ∧ ptS l = [] ∧ ptX l = [48] ∧
  (FloatOk l ↔ ((unsc l).take i).any isP = true ∧ allD ((unsc l).take i) ≠ []) := by
 obtain ⟨_, hp, _⟩ := h
 have ht : (unsc l).take i = unsc l := by rw [hi]; exact List.take_length
 rw [ht] at hp ⊢
 have hm := pre_noM hp
 have hA : ptA l = unsc l := (pre_self hm).1
 have hM : ptM l = false := hm
 have hW : ptW l ++ ptF l = allD (unsc l) := by unfold ptW ptF; rw [hA]; rfl
 have hX : ptX l = [48] := by unfold ptX; rw [hM]; rfl
 refine ⟨hM, hW, by unfold ptF; rw [hA], by unfold ptS; rw [hM]; rfl, hX, ?_⟩
 unfold FloatOk
 rw [hW, hM, hX, Bool.or_false, show ptD l = (unsc l).any isP by unfold ptD; rw [hA], decB_dig (allD_dig hp)]
 constructor
 ·rintro ⟨_, h1, h2, _⟩
  exact ⟨h1, by simpa using h2⟩
 ·rintro ⟨h1, h2⟩
  exact ⟨hs, h1, by simpa using h2, rfl⟩
theorem fl_mark {l : List UInt8} {i : Nat} {c : UInt8} (h : Stop (unsc l) i) (hc : (unsc l)[i]? = some c) (hm : isM c = true) (hs : Sep isDig l) :
  ptW l ++ ptF l = allD ((unsc l).take i) ∧ (ptF l).length = (postP isP ((unsc l).take i)).length ∧ ptS l = sgnL ((unsc l).drop (i + 1)) ∧ ptX l = restL ((unsc l).drop (i + 1)) ∧
  (FloatOk l ↔ allD ((unsc l).take i) ≠ [] ∧ decB (restL ((unsc l).drop (i + 1))) = true) := by
 obtain ⟨_, hp, _⟩ := h
 have ht : unsc l = (unsc l).take i ++ c :: (unsc l).drop (i + 1) := by rw [← drop_cons_of hc, List.take_append_drop]
 have hn := pre_noM hp
 obtain ⟨h1, h2⟩ := pre_miss (p := isM) (c :: (unsc l).drop (i + 1)) hn
 obtain ⟨h3, h4⟩ := pre_cons (p := isM) ((unsc l).drop (i + 1)) hm
 rw [h3, List.append_nil, ← ht] at h1
 rw [h4, ← ht] at h2
 have hA : ptA l = (unsc l).take i := h1
 have hM : ptM l = true := by unfold ptM; rw [List.any_eq_true]; exact ⟨c, List.mem_of_getElem? hc, hm⟩
 have hW : ptW l ++ ptF l = allD ((unsc l).take i) := by unfold ptW ptF; rw [hA]; rfl
 have hX : ptX l = restL ((unsc l).drop (i + 1)) := by unfold ptX; rw [hM, h2]; rfl
 refine ⟨hW, by unfold ptF; rw [hA], by unfold ptS; rw [hM, h2]; rfl, hX, ?_⟩
 unfold FloatOk
 rw [hW, hM, hX, Bool.or_true, decB_dig (allD_dig hp)]
 constructor
 ·rintro ⟨_, _, h5, h6⟩
  exact ⟨by simpa using h5, h6⟩
 ·rintro ⟨h5, h6⟩
  exact ⟨hs, rfl, by simpa using h5, h6⟩
theorem fl_not {l : List UInt8} {i : Nat} {c : UInt8} (h : Stop (unsc l) i) (hc : (unsc l)[i]? = some c) (hm : isM c = false) : ¬ FloatOk l := by
 obtain ⟨_, hp, hst⟩ := h
 obtain ⟨hd, hdot⟩ := hst c hc
 have ht : unsc l = (unsc l).take i ++ c :: (unsc l).drop (i + 1) := by rw [← drop_cons_of hc, List.take_append_drop]
 have hn := pre_noM hp
 obtain ⟨h1, _⟩ := pre_miss (p := isM) (c :: (unsc l).drop (i + 1)) hn
 rw [pre_past _ hm, ← ht] at h1
 have hA : ptA l = (unsc l).take i ++ c :: preP isM ((unsc l).drop (i + 1)) := h1
 rintro ⟨_, _, h3, _⟩
 have hin : c ∈ ptW l ++ ptF l := by
  unfold ptW ptF
  rw [hA]
  cases hb : ((unsc l).take i).any isP
  ·have h46 : c ≠ 46 := fun e => by rw [hdot e] at hb; cases hb
   obtain ⟨h5, _⟩ := pre_miss (p := isP) (c :: preP isM ((unsc l).drop (i + 1))) hb
   rw [h5, pre_past _ (isP_no h46)]
   simp
  ·obtain ⟨_, h6⟩ := pre_hit (p := isP) (c :: preP isM ((unsc l).drop (i + 1))) hb
   rw [h6]
   simp
 rw [decB_bad hin hd] at h3
 cases h3
theorem decB_stop {X : List UInt8} {k : Nat} (hk : k ≤ X.length) (h : ∀ c ∈ X.take k, isDig c.toNat = true) (hs : ∀ c, X[k]? = some c → isDig c.toNat = false) : decB X = true ↔ k ≠ 0 ∧ k = X.length := by
 by_cases e : k = X.length
 ·rw [e, List.take_length] at h
  rw [decB_dig h]
  cases X with
  | nil => simp [e]
  | cons a m => simp [e]
 ·have hlt : k < X.length := by omega
  have hc : X[k]? = some X[k] := List.getElem?_eq_getElem hlt
  rw [decB_bad (List.mem_of_getElem? hc) (hs _ hc)]
  simp [e]
theorem float_no {l : List UInt8} {y : Q4} (h : FloatIs l y) (hn : ¬ FloatOk l) : y = ⟨false, 0, 0, 8⟩ := by
 rcases h with ⟨_, h⟩ | ⟨h, _⟩
 ·exact h
 ·exact absurd h hn
theorem float_yes {l : List UInt8} {y : Q4} (h : FloatIs l y) (hn : FloatOk l) : (parK 10 (ptW l ++ ptF l) = 9 ∧ y = ⟨false, 0, 0, 9⟩) ∨
  (parK 10 (ptW l ++ ptF l) = 0 ∧ ((5 < (ptX l).length ∧ y = ⟨false, 0, 0, 9⟩) ∨
   ((ptX l).length ≤ 5 ∧ scl false (parN 10 (ptW l ++ ptF l)) false 1 10 (powZ (ptS l) (ptX l) - ((ptF l).length : Int)) = y))) := by
 rcases h with ⟨h, _⟩ | ⟨_, h⟩
 ·exact absurd hn h
 ·exact h
theorem sep_no {l : List UInt8} (h : ¬ Sep isDig l) : ¬ FloatOk l := fun g => h g.1
end Go.Proofs.YtgoemhcngmpfbaaGreatDoor
namespace Go.Proofs.YtgoemhcngmpfbaaGreatDoor
open Go.RowKit Go.Sort
set_option linter.unusedSimpArgs false
theorem enters_dig9 : EntersP Tryz.prog 71 := entersP_of Tryz.func71 (by kernel_rfl) rfl
theorem enters_hex9 : EntersP Tryz.prog 102 := entersP_of Tryz.func102 (by kernel_rfl) rfl
theorem dr_drew {w w' : World} (h : ∃ m, w' = w.drewN m) : ∃ m, w'.drew = w.drewN m := by
 obtain ⟨m, rfl⟩ := h
 exact ⟨m + 1, rfl⟩
theorem not_sepB {lt : Bool} {l : List UInt8} {i : Nat} {b : Bool} {ca cb : UInt8} (hb : b = true ↔ SepB lt l) (hc : l[i]? = some 95) (ha : l[i - 1]? = some ca) (hcb : l[i + 1]? = some cb) (h : (¬ (lt = true ∧ i = 2) ∧ pD lt ca.toNat = false) ∨ pD lt cb.toNat = false) : b = false := by
 cases hbb : b
 ·rfl
 ·obtain ⟨a', b', _, g2, g3, g4, g5⟩ := hb.1 hbb i hc
  rw [ha] at g2
  rw [hcb] at g3
  cases g2
  cases g3
  rcases h with ⟨h1, h2⟩ | h
  ·rcases g4 with g4 | g4
   ·exact absurd g4 h1
   ·rw [h2] at g4; cases g4
  ·rw [h] at g5; cases g5
set_option maxRecDepth 100000 in
set_option maxHeartbeats 8000000 in
theorem spaced9_false (l : List UInt8) (b : Bool) (w : World) (hl : l.length ≤ 100000) (hb : Hid (b = true ↔ SepB false l)) :
  Calls Tryz.prog 64 #[.string (bs l), .bool false] w fun e w' => e = .returned (.bool b) ∧ ∃ m, w' = w.drewN m := by
 have hsz := bs_size l
 have HDD : Hid (∀ (c : Nat) W, Calls Tryz.prog 71 #[.int .u8 (c : Int)] W fun e w' => e = .returned (.bool (isDig c)) ∧ w' = W) := fun c W => digit9_run c W
 have HXX : Hid (∀ (c : Nat) W, Calls Tryz.prog 102 #[.int .u8 (c : Int)] W fun e w' => e = .returned (.bool (isHex c)) ∧ w' = W) := fun c W => hex9_run c W
 go_enter Tryz.func64, Tryz.ntmps64
 go_wp2_with fail
 go_loopg [5] (l.length + 1) (fun h s5 wr => ∃ i : Nat, s5 = .int .i64 (i : Int) ∧ Hid (i + h = l.length + 1) ∧ i ≤ l.length ∧ Hid (∀ j : Nat, j < i → l[j]? = some 95 → ∃ a b : UInt8, 0 < j ∧ l[j - 1]? = some a ∧ l[j + 1]? = some b ∧ ((false = true ∧ j = 2) ∨ pD false a.toNat = true) ∧ pD false b.toNat = true) ∧ Hid (∃ m, wr = w.drewN m))
 case atStart => exact ⟨0, rfl, by show _ = _; omega, by omega, fun j hj => absurd hj (by omega), 0, rfl⟩
 case round =>
  obtain ⟨i, rfl, HI, hin, HS, HW⟩ := hrel
  by_cases hlt : i < l.length
  ·have hiz : (i : Int) < (l.length : Int) := by omega
   obtain ⟨c, hc⟩ : ∃ c, l[i]? = some c := ⟨l[i], List.getElem?_eq_getElem hlt⟩
   have hx := bs_get hc
   by_cases hu : c = 95
   ·subst hu
    have hx95 : ∀ W, (Instr.index 9 (.string (bs l)) (.int .i64 (i : Int))).run Tryz.prog W = .ok (.int .u8 95) W := hx
    clear hx
    by_cases h1 : i + 1 < l.length
    ·have h1z : ¬ (l.length : Int) ≤ (i : Int) + 1 := by omega
     by_cases h0 : 0 < i
     ·have h0z : ((i : Int) == 0) = false := beq_eq_false_iff_ne.2 (by omega)
      obtain ⟨im, him⟩ : ∃ im, i = im + 1 := ⟨i - 1, by omega⟩
      have hmz : (i : Int) - 1 = (im : Int) := by omega
      obtain ⟨ip, hip⟩ : ∃ ip, i + 1 = ip := ⟨_, rfl⟩
      have hpz : (i : Int) + 1 = (ip : Int) := by omega
      have himl : im < l.length := by omega
      have hipl : ip < l.length := by omega
      have hipz : ¬ (l.length : Int) ≤ (ip : Int) := by omega
      obtain ⟨ca, hca⟩ : ∃ c, l[im]? = some c := ⟨l[im], List.getElem?_eq_getElem himl⟩
      obtain ⟨cb, hcb⟩ : ∃ c, l[ip]? = some c := ⟨l[ip], List.getElem?_eq_getElem hipl⟩
      have hxa := bs_get hca
      have hxb := bs_get hcb
      have HCA : Hid (l[i - 1]? = some ca) := by rw [him]; exact hca
      have HCB : Hid (l[i + 1]? = some cb) := by rw [hip]; exact hcb
      have HC := Lib.hid hc
      have H0 := Lib.hid h0
      have HN : (¬ (false = true ∧ i = 2) ∧ pD false ca.toNat = false) ∨ pD false cb.toNat = false → b = false := fun h => not_sepB hb.out HC.out HCA.out HCB.out h
      have HY : ((false = true ∧ i = 2) ∨ pD false ca.toNat = true) ∧ pD false cb.toNat = true → (∀ j : Nat, j < i + 1 → l[j]? = some 95 → ∃ a b : UInt8, 0 < j ∧ l[j - 1]? = some a ∧ l[j + 1]? = some b ∧ ((false = true ∧ j = 2) ∨ pD false a.toNat = true) ∧ pD false b.toNat = true) := fun h j hj hjc => by
       by_cases e : j = i
       ·subst e
        exact ⟨ca, cb, H0.out, HCA.out, HCB.out, h.1, h.2⟩
       ·exact HS.out j (by omega) hjc
      have HA := fun W => HDD.out ca.toNat W
      have HB := fun W => HDD.out cb.toNat W
      have HXA := fun W => HXX.out ca.toNat W
      have HXB := fun W => HXX.out cb.toNat W
      clear hca hcb hc him hip h0 HDD HXX HCA HCB HC H0 HS
      have e1 : ∀ x, pD false x = isDig x := fun _ => rfl
      rw [e1, e1] at HN HY
      clear e1
      generalize isDig ca.toNat = va at *
      generalize isDig cb.toNat = vb at *
      generalize ca.toNat = an at *
      generalize cb.toNat = bn at *
      replace HA := Lib.hid HA
      replace HB := Lib.hid HB
      clear HXA HXB
      go_upto_region 7 with fail
      refine rg_begin (fun _ => True) (by kernel_rfl) trivial (fun hS => ?_)
      have HWn := Lib.hid (dr_drew HW.out)
      clear HW
      have HW := HWn
      clear HWn
      generalize wr.drew = wq at *
      refine rg_take 0 (.string (bs l)) rfl (by kernel_rfl) (by kernel_rfl) (by kernel_rfl) (fun _ _ _ h => h) rfl (fun w _ => ?_) hS ?_
      ·go_simp
      simp only [zA, zB, zC, Act.put, zD, zE, zF]
      refine rg_take 1 (.int .i64 (i : Int)) rfl (by kernel_rfl) (by kernel_rfl) (by kernel_rfl) (fun _ _ _ h => h) rfl (fun w _ => ?_) hS ?_
      ·go_simp
      simp only [zA, zB, zC, Act.put, zD, zE, zF]
      refine rg_take 2 (.int .i64 (im : Int)) rfl (by kernel_rfl) (by kernel_rfl) (by kernel_rfl) (fun _ _ _ h => h) rfl (fun w hSw => ?_) hS ?_
      ·have e0 := hmz; have e1 : IntKind.i64.wrap (im : Int) = (im : Int) := by (rw [IntKind.wrap_i64]; omega)
       go_simp
      simp only [zA, zB, zC, Act.put, zD, zE, zF]
      refine rg_take 3 (.int .u8 (an : Int)) rfl (by kernel_rfl) (by kernel_rfl) (by kernel_rfl) (fun _ _ _ h => h) rfl (fun w hSw => idx_run rfl rfl rfl hxa) hS ?_
      simp only [zA, zB, zC, Act.put, zD, zE, zF]
      refine rg_take 5 (.string (bs l)) rfl (by kernel_rfl) (by kernel_rfl) (by kernel_rfl) (fun _ _ _ h => h) rfl (fun w _ => ?_) hS ?_
      ·go_simp
      simp only [zA, zB, zC, Act.put, zD, zE, zF]
      refine rg_take 6 (.int .i64 (i : Int)) rfl (by kernel_rfl) (by kernel_rfl) (by kernel_rfl) (fun _ _ _ h => h) rfl (fun w _ => ?_) hS ?_
      ·go_simp
      simp only [zA, zB, zC, Act.put, zD, zE, zF]
      refine rg_take 7 (.int .i64 (ip : Int)) rfl (by kernel_rfl) (by kernel_rfl) (by kernel_rfl) (fun _ _ _ h => h) rfl (fun w hSw => ?_) hS ?_
      ·have e0 := hpz; have e1 : IntKind.i64.wrap (ip : Int) = (ip : Int) := by (rw [IntKind.wrap_i64]; omega)
       go_simp
      simp only [zA, zB, zC, Act.put, zD, zE, zF]
      refine rg_take 8 (.int .u8 (bn : Int)) rfl (by kernel_rfl) (by kernel_rfl) (by kernel_rfl) (fun _ _ _ h => h) rfl (fun w hSw => idx_run rfl rfl rfl hxb) hS ?_
      simp only [zA, zB, zC, Act.put, zD, zE, zF]
      refine rg_one 4 (by kernel_rfl) (rs_of rfl rfl (wp_call rfl enters_dig9 rfl (HA.out _) (fun V1 hV => ⟨trivial, ?_⟩)))
      obtain rfl := hV
      simp only [zA, zB, zC, Act.put, zD, zE, zF]
      refine rg_one 9 (by kernel_rfl) (rs_of rfl rfl (wp_call rfl enters_dig9 rfl (HB.out _) (fun V2 hV => ⟨trivial, ?_⟩)))
      obtain rfl := hV
      simp only [zA, zB, zC, Act.put, zD, zE, zF]
      refine rg_take 10 (.bool va) rfl (by kernel_rfl) (by kernel_rfl) (by kernel_rfl) (fun _ _ _ h => h) rfl (fun w _ => ?_) hS ?_
      ·go_simp
      simp only [zA, zB, zC, Act.put, zD, zE, zF]
      refine rg_take 11 (.bool vb) rfl (by kernel_rfl) (by kernel_rfl) (by kernel_rfl) (fun _ _ _ h => h) rfl (fun w _ => ?_) hS ?_
      ·go_simp
      simp only [zA, zB, zC, Act.put, zD, zE, zF]
      refine wpAnyH_done (by kernel_rfl) ?_ _
      (try simp only [Exit.inBlock, Exit.then])
      cases va
      ·have HF : Hid (b = false) := HN (.inl ⟨by simp, rfl⟩)
       clear HN HY
       go_wp2_with fail
       go_ret
       exact ⟨by rw [HF.out]; rfl, HW.out⟩
      ·cases vb
       ·have HF : Hid (b = false) := HN (.inr rfl)
        clear HN HY
        go_wp2_with fail
        go_ret
        exact ⟨by rw [HF.out]; rfl, HW.out⟩
       ·have HS2 := Lib.hid (HY ⟨.inr rfl, rfl⟩)
        clear HN HY
        go_wp2_with fail
        go_roundg (l.length - i)
        case measure => have := HI.out; omega
        case rel => exact ⟨i + 1, by go_num, by show _ = _; have := HI.out; omega, by omega, HS2, HW.out⟩
     ·have HF : Hid (b = false) := by
       cases hbb : b
       ·rfl
       ·obtain ⟨a', b', g1, _⟩ := hb.out.1 hbb i hc
        omega
      obtain rfl : i = 0 := by omega
      rw [Int.natCast_zero] at hx95 h1z
      clear h0 hc HDD HXX
      go_wp2_with fail
      go_ret
      exact ⟨by rw [HF.out]; rfl, HW.out⟩
    ·have HF : Hid (b = false) := by
      cases hbb : b
      ·rfl
      ·obtain ⟨a', b', _, _, g3, _, _⟩ := hb.out.1 hbb i hc
       have := (List.getElem?_eq_some_iff.1 g3).1
       omega
     have h1z : (l.length : Int) ≤ (i : Int) + 1 := by omega
     clear h1 hc HDD HXX
     go_wp2_with fail
     go_ret
     exact ⟨by rw [HF.out]; rfl, HW.out⟩
   ·have e95 : ((c.toNat : Int) != 95) = true := by rw [bne_iff_ne]; intro e; exact hu (UInt8.toNat_inj.1 (by show c.toNat = 95; omega))
    have HS2 : Hid (∀ j : Nat, j < i + 1 → l[j]? = some 95 → ∃ a b : UInt8, 0 < j ∧ l[j - 1]? = some a ∧ l[j + 1]? = some b ∧ ((false = true ∧ j = 2) ∨ pD false a.toNat = true) ∧ pD false b.toNat = true) := fun j hj h => by
     by_cases e : j = i
     ·subst e
      rw [hc] at h
      exact absurd (Option.some.inj h) hu
     ·exact HS.out j (by omega) h
    clear hu hc HDD HXX
    generalize c.toNat = cn at *
    go_wp2_with fail
    go_roundg (l.length - i)
    case measure => have := HI.out; omega
    case rel => exact ⟨i + 1, by go_num, by show _ = _; have := HI.out; omega, by omega, HS2, HW.out⟩
  ·obtain rfl : i = l.length := by omega
   have HF : Hid (b = true) := hb.out.2 (fun j h => HS.out j (by have := (List.getElem?_eq_some_iff.1 h).1; omega) h)
   go_wp2_with fail
   go_ret
   exact ⟨by rw [HF.out]; rfl, HW.out⟩
end Go.Proofs.YtgoemhcngmpfbaaGreatDoor
