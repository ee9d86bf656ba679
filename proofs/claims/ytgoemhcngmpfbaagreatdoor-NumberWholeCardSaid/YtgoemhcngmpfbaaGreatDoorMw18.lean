/-
  What every stage's rows need, of no package of the program's: strings, integers and slices of bytes that came in, opened; an array of strings that a row lists, read off its cells.
-/
import Derived.Test.YtgoemhcngmpfbaaGreatDoorRows
import Derived.Test.YtgoemhcngmpfbaaGreatDoorMw17
import Derived.ProofKit
import Derived.LaidMore
import Derived.OpenShut
import Derived.Stop.Joined
import Derived.ChangeOld
import Derived.Lib.LaidTab
import Derived.Deep.Slices
import Derived.Test.YtgoemhcngmpfbaaGreatDoorMw00
import Derived.Lib.ItoaNum
import Derived.Lib.Repeat
import Derived.Test.YtgoemhcngmpfbaaGreatDoorMw07

namespace Go.Proofs.YtgoemhcngmpfbaaGreatDoor
open Go.ChangeShapes Go.WideShapes Go.ChangeAt Go.RowKit Go.Deep

theorem str_bound {s : ByteArray} (h : s.size ≤ maxLen) : s.size ≤ 9223372036854775807 := by unfold maxLen at h; exact h
theorem int_bounds {n : Int} (h : (Lit.int .i64 n).wf = true) : -9223372036854775808 ≤ n ∧ n ≤ 9223372036854775807 := by
  simpa [Lit.wf, IntKind.min, IntKind.max, IntKind.signed, IntKind.bits] using h
theorem u8_bounds {n : Int} (h : (Lit.int .u8 n).wf = true) : 0 ≤ n ∧ n ≤ 255 := by
  simpa [Lit.wf, IntKind.min, IntKind.max, IntKind.signed, IntKind.bits] using h
/-- A slice of bytes that came in, opened. -/
theorem open_bytes {H : Type} {enc : TypeId × Value → H} {W : World} {fuel : Nat} {cs : List Value} {x : DataW H × List MemPlace} {sp : Nat → Bool} (h : DataW.trod enc Tryz.prog W 0 sp true fuel 48 cs = some x) :
    ∃ A len cap l, cs = [.slice A len cap] ∧ l.length = len ∧ len ≤ cap ∧ cap ≤ 9223372036854775807 ∧ Byts W W.heap.size A l := by
  rcases open_ints Tryz.underlying48 Tryz.underlying5 (by kernel_rfl) h with ⟨hcs, _⟩ | ⟨x, l, c, zs, hcs, _, hl, hm, hz, _, hcell, hwz⟩
  · exact ⟨none, 0, 0, [], hcs, rfl, Nat.le_refl _, by omega, Byts.nil⟩
  · unfold maxLen at hm
    have hlz : l ≤ zs.length := by rw [hz]; split <;> omega
    have hlen : (zs.take l).length = l := by rw [List.length_take]; omega
    refine ⟨some x, l, c, zs.take l, hcs, hlen, hl, hm, ⟨fun n hn => bounds_u8 (hwz n (List.mem_of_mem_take hn)), fun hp => ?_⟩⟩
    obtain ⟨b, off, rfl, hc⟩ := ints_at hcell (by omega)
    have h0 := hc 0 (by omega)
    refine ⟨b, off, rfl, ?_, fun i y hy => ?_⟩
    · rcases Nat.lt_or_ge b W.heap.size with h1 | h1
      · exact h1
      · simp [World.cell?, Array.getElem?_eq_none h1] at h0
    · rw [List.getElem?_take] at hy
      split at hy
      · have hi := (List.getElem?_eq_some_iff.1 hy).1
        rw [hc i hi]
        simp [List.getD, hy]
      · cases hy

/-- An array of strings that reads as the datum holds these strings, cell for cell. -/
theorem cells_of_strs {H : Type} {enc : TypeId × Value → H} {P : Program} {w : World} {base : Nat} {sp : Nat → Bool} {held : Bool} {fuel : Nat} {t e : TypeId} {n : Nat} {cs : List Value} {ls : List (List UInt8)} {p : List MemPlace}
    (ht : P.underlying t = some (.array n e)) (he : P.underlying e = some .string) (hce : P.cellsOf e = 1) (h : DataW.trod enc P w base sp held fuel t cs = some (.agg (ls.map fun l => .lit (.string l)), p)) :
    ∀ (i : Nat) (l : List UInt8), ls[i]? = some l → ∃ s : ByteArray, s.data.toList = l ∧ cs[i]? = some (.string s) := by
  cases fuel with
  | zero => simp [DataW.trod] at h
  | succ fuel =>
    simp only [DataW.trod, ht, hce, Nat.mul_one] at h
    split at h
    · rename_i hl
      obtain ⟨xs, hm, hx⟩ := Option.map_eq_some_iff.1 h
      have hxs : xs.map (·.1) = ls.map fun l => (DataW.lit (.string l) : DataW H) := by
        have := congrArg Prod.fst hx
        simpa using this
      have hxl : xs.length = n := by simpa using Lib.mapM_length hm
      have hzl : ls.length = n := by
        have := congrArg List.length hxs
        simp at this
        omega
      intro i l hi
      have hin : i < n := by have := (List.getElem?_eq_some_iff.1 hi).1; omega
      obtain ⟨b, hb, hf⟩ := Lib.mapM_at hm i i (by simp [hin])
      obtain ⟨s, hc, rfl, _⟩ := DataW.trod_string he hf
      have h1 : cs[i]? = some (.string s) := by
        have := congrArg (·[0]?) hc
        simpa [List.getElem?_take, List.getElem?_drop] using this
      have h2 : (xs.map (·.1))[i]? = some (DataW.lit (.string s.data.toList) : DataW H) := by simp [hb]
      rw [hxs] at h2
      simp only [List.getElem?_map, hi, Option.map_some, Option.some.injEq, DataW.lit.injEq, Lit.string.injEq] at h2
      exact ⟨s, h2.symm, h1⟩
    · cases h
end Go.Proofs.YtgoemhcngmpfbaaGreatDoor

/-
  Decimal texts as mathematics: a number's digits in pieces of k digits; how long they are.
-/
namespace Go.Proofs.YtgoemhcngmpfbaaGreatDoor
open Go.RowKit

theorem nDigits_le : ∀ (k n : Nat), 1 ≤ k → n < 10 ^ k → Lib.nDigits n ≤ k
  | 0, _, h, _ => by omega
  | 1, n, _, h => by rw [Lib.nDigits_small (by simpa using h)]; exact Nat.le_refl 1
  | k + 2, n, _, h => by
    by_cases hs : n < 10
    · rw [Lib.nDigits_small hs]; omega
    · rw [Lib.nDigits_big hs]
      have := nDigits_le (k + 1) (n / 10) (by omega) (by rw [Nat.pow_succ] at h; exact Nat.div_lt_of_lt_mul (by rw [Nat.mul_comm]; exact h))
      omega
theorem decDigits_pos (n : Nat) : 1 ≤ (Lib.decDigits n).length := by rw [Lib.decDigits_length]; exact Lib.nDigits_pos n
theorem decDigits_le {k n : Nat} (hk : 1 ≤ k) (h : n < 10 ^ k) : (Lib.decDigits n).length ≤ k := by rw [Lib.decDigits_length]; exact nDigits_le k n hk h
theorem decDigits_small {n : Nat} (h : n < 10) : Lib.decDigits n = [UInt8.ofNat (48 + n)] := Lib.decDigits_one h
theorem decDigits_big {n : Nat} (h : ¬ n < 10) : Lib.decDigits n = Lib.decDigits (n / 10) ++ [UInt8.ofNat (48 + n % 10)] := by
  rw [Lib.decDigits, dif_neg h]
/-- The decimal digits of r, with zeros ahead: k in all. -/
def pad (k r : Nat) : List UInt8 := List.replicate (k - (Lib.decDigits r).length) 48 ++ Lib.decDigits r
theorem pad_one {r : Nat} (h : r < 10) : pad 1 r = [UInt8.ofNat (48 + r)] := by
  unfold pad
  rw [decDigits_small h]
  rfl
theorem pad_succ {k r : Nat} (hk : 1 ≤ k) : pad (k + 1) r = pad k (r / 10) ++ [UInt8.ofNat (48 + r % 10)] := by
  unfold pad
  by_cases h : r < 10
  · have h1 : r / 10 = 0 := Nat.div_eq_of_lt h
    have h2 : r % 10 = r := Nat.mod_eq_of_lt h
    rw [h1, h2, decDigits_small h, decDigits_small (show 0 < 10 by omega)]
    obtain ⟨j, rfl⟩ : ∃ j, k = j + 1 := ⟨k - 1, by omega⟩
    show List.replicate (j + 1 + 1 - 1) 48 ++ [_] = (List.replicate (j + 1 - 1) 48 ++ [UInt8.ofNat (48 + 0)]) ++ [_]
    have h3 : (UInt8.ofNat (48 + 0)) = 48 := rfl
    rw [h3, show j + 1 + 1 - 1 = j + 1 by omega, show j + 1 - 1 = j by omega, List.replicate_succ']
  · rw [decDigits_big h, List.length_append, List.append_assoc]
    have : k + 1 - ((Lib.decDigits (r / 10)).length + [UInt8.ofNat (48 + r % 10)].length) = k - (Lib.decDigits (r / 10)).length := by
      show k + 1 - (_ + 1) = _
      omega
    rw [this]
theorem dec_pieces : ∀ (k q r : Nat), 1 ≤ k → 1 ≤ q → r < 10 ^ k → Lib.decDigits (q * 10 ^ k + r) = Lib.decDigits q ++ pad k r
  | 0, _, _, h, _, _ => by omega
  | 1, q, r, _, hq, hr => by
    have hr : r < 10 := by simpa using hr
    rw [decDigits_big (by rw [Nat.pow_one]; omega), pad_one hr, Nat.pow_one]
    have h1 : (q * 10 + r) / 10 = q := by omega
    have h2 : (q * 10 + r) % 10 = r := by omega
    rw [h1, h2]
  | k + 2, q, r, _, hq, hr => by
    have hb : q * 10 ^ (k + 2) + r = (q * 10 ^ (k + 1)) * 10 + r := by rw [Nat.pow_succ, ← Nat.mul_assoc]
    have hp : 1 ≤ 10 ^ (k + 1) := Nat.pow_pos (by decide)
    have hq1 : 1 ≤ q * 10 ^ (k + 1) := Nat.mul_pos hq hp
    have h1 : (q * 10 ^ (k + 2) + r) / 10 = q * 10 ^ (k + 1) + r / 10 := by rw [hb]; omega
    have h2 : (q * 10 ^ (k + 2) + r) % 10 = r % 10 := by rw [hb]; omega
    have hr2 : r / 10 < 10 ^ (k + 1) := Nat.div_lt_of_lt_mul (by rw [Nat.mul_comm, ← Nat.pow_succ]; exact hr)
    rw [decDigits_big (by rw [hb]; omega), h1, h2, dec_pieces (k + 1) q (r / 10) (by omega) hq hr2, List.append_assoc, ← pad_succ (by omega)]
theorem repeat_zero : ∀ (n : Nat), Lib.repeatL [48] n = List.replicate n 48
  | 0 => rfl
  | n + 1 => by
    rw [List.replicate_succ]
    show [48] ++ Lib.repeatL [48] n = _
    rw [repeat_zero n]
    rfl
theorem bytes_app (a b : List UInt8) : (⟨a.toArray⟩ : ByteArray) ++ ⟨b.toArray⟩ = ⟨(a ++ b).toArray⟩ := by
  apply ByteArray.ext
  simp [ByteArray.data_append]
theorem bytes_assoc (a b c : ByteArray) : (a ++ b) ++ c = a ++ (b ++ c) := by
  apply ByteArray.ext
  simp [ByteArray.data_append]
theorem bytes_size_app (a b : ByteArray) : (a ++ b).size = a.size + b.size := by
  show (a ++ b).data.size = a.data.size + b.data.size
  rw [ByteArray.data_append, Array.size_append]
end Go.Proofs.YtgoemhcngmpfbaaGreatDoor

/-
  Texts of digits, as mathematics: the value of a digit, of a text by a base, what Parse answers.
-/
namespace Go.Proofs.YtgoemhcngmpfbaaGreatDoor
open Go.RowKit

/-- The value of a digit; 16: it is none. -/
def dvN (c : Nat) : Nat := if 48 ≤ c ∧ c ≤ 57 then c - 48 else if 97 ≤ c ∧ c ≤ 102 then c - 87 else if 65 ≤ c ∧ c ≤ 70 then c - 55 else 16
theorem dvN_le (c : Nat) : dvN c ≤ 16 := by unfold dvN; split; · omega
                                            split; · omega
                                            split <;> omega
/-- The value of a text of digits by a base. -/
def num (B : Nat) (l : List UInt8) : Nat := l.foldl (fun a c => a * B + dvN c.toNat) 0
theorem num_nil (B : Nat) : num B [] = 0 := rfl
theorem num_snoc (B : Nat) (l : List UInt8) (c : UInt8) : num B (l ++ [c]) = num B l * B + dvN c.toNat := by unfold num; rw [List.foldl_append]; rfl
theorem foldl_ge {B : Nat} (hB : 1 ≤ B) : ∀ (m : List UInt8) (a : Nat), a ≤ m.foldl (fun a c => a * B + dvN c.toNat) a
  | [], _ => Nat.le_refl _
  | _ :: m, a => Nat.le_trans (Nat.le_trans (Nat.le_mul_of_pos_right a hB) (Nat.le_add_right _ _)) (foldl_ge hB m _)
theorem num_take {B : Nat} (hB : 1 ≤ B) (l : List UInt8) (i : Nat) : num B (l.take i) ≤ num B l := by
  have h : num B l = (l.drop i).foldl (fun a c => a * B + dvN c.toNat) (num B (l.take i)) := by
    unfold num
    rw [← List.foldl_append, List.take_append_drop]
  rw [h]
  exact foldl_ge hB _ _
theorem take_succ_of {l : List UInt8} {i : Nat} {c : UInt8} (h : l[i]? = some c) : l.take (i + 1) = l.take i ++ [c] := by
  rw [List.take_add_one, h]
  rfl
/-- Are all bytes digits of a base? -/
def okDig (B : Nat) (l : List UInt8) : Bool := l.all fun c => decide (dvN c.toNat < B)
theorem okDig_get {B : Nat} {l : List UInt8} (h : okDig B l = true) {i : Nat} {c : UInt8} (hc : l[i]? = some c) : dvN c.toNat < B := by
  have := List.all_eq_true.1 h c (List.mem_of_getElem? hc)
  simpa using this
theorem okDig_not {B : Nat} {l : List UInt8} {i : Nat} {c : UInt8} (hc : l[i]? = some c) (h : ¬ dvN c.toNat < B) : okDig B l = false := by
  cases e : okDig B l
  · rfl
  · exact absurd (okDig_get e hc) h
theorem okDig_of {B : Nat} {l : List UInt8} (h : ∀ (i : Nat) (c : UInt8), l[i]? = some c → dvN c.toNat < B) : okDig B l = true := by
  refine List.all_eq_true.2 fun c hc => ?_
  obtain ⟨i, hi⟩ := List.mem_iff_getElem?.1 hc
  simpa using h i c hi


def parK (B : Nat) (l : List UInt8) : Nat := if l = [] then 12 else if okDig B l = false then 13 else if num B l < 18446744073709551616 ^ 8 then 0 else 9
def parN (B : Nat) (l : List UInt8) : Nat := if parK B l = 0 then num B l else 0
theorem parK_nil (B : Nat) : parK B [] = 12 := if_pos rfl
theorem parK_dig {B : Nat} {l : List UInt8} (h : okDig B l = false) (hl : l ≠ []) : parK B l = 13 := by unfold parK; rw [if_neg hl, if_pos h]
theorem parK_over {B : Nat} {l : List UInt8} (h : okDig B l = true) (hl : l ≠ []) (hf : ¬ Fits (num B l)) : parK B l = 9 := by unfold parK; rw [if_neg hl, if_neg (by rw [h]; decide)]; exact if_neg hf
theorem parK_ok {B : Nat} {l : List UInt8} (h : okDig B l = true) (hl : l ≠ []) (hf : Fits (num B l)) : parK B l = 0 := by unfold parK; rw [if_neg hl, if_neg (by rw [h]; decide)]; exact if_pos hf
theorem parN_ok {B : Nat} {l : List UInt8} (h : parK B l = 0) : parN B l = num B l := if_pos h
theorem parN_no {B : Nat} {l : List UInt8} (h : parK B l ≠ 0) : parN B l = 0 := if_neg h
theorem parK_cases (B : Nat) (l : List UInt8) : parK B l = 0 ∨ parK B l = 9 ∨ parK B l = 12 ∨ parK B l = 13 := by
  unfold parK
  split
  · simp
  · split
    · simp
    · split <;> simp
theorem parN_fits (B : Nat) (l : List UInt8) : Fits (parN B l) := by
  by_cases h : parK B l = 0
  · rw [parN_ok h]
    unfold parK at h
    split at h
    · cases h
    · split at h
      · cases h
      · split at h
        · assumption
        · cases h
  · rw [parN_no h]
    exact Nat.pow_pos (by decide)
end Go.Proofs.YtgoemhcngmpfbaaGreatDoor

/-
  limb's digit of a byte, and the document's.
-/
namespace Go.Proofs.YtgoemhcngmpfbaaGreatDoor
open Go.RowKit Go.Sort
set_option linter.unusedSimpArgs false

set_option maxRecDepth 100000 in
set_option maxHeartbeats 2000000 in
theorem digit_runL (c : Nat) (h : c < 256) (w : World) :
    Calls Tryz.prog 99 #[.int .u8 (c : Int)] w fun e w' => e = .returned (.int .i64 (dvN c : Int)) ∧ w' = w := by
  have hc : c < 48 ∨ (48 ≤ c ∧ c ≤ 57) ∨ (57 < c ∧ c < 65) ∨ (65 ≤ c ∧ c ≤ 70) ∨ (70 < c ∧ c < 97) ∨ (97 ≤ c ∧ c ≤ 102) ∨ 102 < c := by omega
  rcases hc with hc | hc | hc | hc | hc | hc | hc
  · have h1 : ¬ (48 : Int) ≤ (c : Int) := by omega
    have h3 : ¬ (97 : Int) ≤ (c : Int) := by omega
    have h5 : ¬ (65 : Int) ≤ (c : Int) := by omega
    have hd : dvN c = 16 := by unfold dvN; rw [if_neg (by omega), if_neg (by omega), if_neg (by omega)]
    rw [hd]
    clear hc hd
    go_enter Tryz.func99, Tryz.ntmps99
    go_wp2_with fail
    go_ret
    exact ⟨rfl, rfl⟩
  · have h1 : (48 : Int) ≤ (c : Int) := by omega
    have h2 : (c : Int) ≤ 57 := by omega
    have hd : (dvN c : Int) = (c : Int) - 48 := by unfold dvN; rw [if_pos (by omega)]; omega
    rw [hd]
    clear hc hd
    go_enter Tryz.func99, Tryz.ntmps99
    go_wp2_with fail
    go_ret
    exact ⟨rfl, rfl⟩
  · have h1 : (48 : Int) ≤ (c : Int) := by omega
    have h2 : ¬ (c : Int) ≤ 57 := by omega
    have h3 : ¬ (97 : Int) ≤ (c : Int) := by omega
    have h5 : ¬ (65 : Int) ≤ (c : Int) := by omega
    have hd : dvN c = 16 := by unfold dvN; rw [if_neg (by omega), if_neg (by omega), if_neg (by omega)]
    rw [hd]
    clear hc hd
    go_enter Tryz.func99, Tryz.ntmps99
    go_wp2_with fail
    go_ret
    exact ⟨rfl, rfl⟩
  · have h1 : (48 : Int) ≤ (c : Int) := by omega
    have h2 : ¬ (c : Int) ≤ 57 := by omega
    have h3 : ¬ (97 : Int) ≤ (c : Int) := by omega
    have h5 : (65 : Int) ≤ (c : Int) := by omega
    have h6 : (c : Int) ≤ 70 := by omega
    have hd : (dvN c : Int) = (c : Int) - 65 + 10 := by unfold dvN; rw [if_neg (by omega), if_neg (by omega), if_pos (by omega)]; omega
    rw [hd]
    clear hc hd
    go_enter Tryz.func99, Tryz.ntmps99
    go_wp2_with fail
    go_ret
    exact ⟨rfl, rfl⟩
  · have h1 : (48 : Int) ≤ (c : Int) := by omega
    have h2 : ¬ (c : Int) ≤ 57 := by omega
    have h3 : ¬ (97 : Int) ≤ (c : Int) := by omega
    have h5 : (65 : Int) ≤ (c : Int) := by omega
    have h6 : ¬ (c : Int) ≤ 70 := by omega
    have hd : dvN c = 16 := by unfold dvN; rw [if_neg (by omega), if_neg (by omega), if_neg (by omega)]
    rw [hd]
    clear hc hd
    go_enter Tryz.func99, Tryz.ntmps99
    go_wp2_with fail
    go_ret
    exact ⟨rfl, rfl⟩
  · have h1 : (48 : Int) ≤ (c : Int) := by omega
    have h2 : ¬ (c : Int) ≤ 57 := by omega
    have h3 : (97 : Int) ≤ (c : Int) := by omega
    have h4 : (c : Int) ≤ 102 := by omega
    have hd : (dvN c : Int) = (c : Int) - 97 + 10 := by unfold dvN; rw [if_neg (by omega), if_pos (by omega)]; omega
    rw [hd]
    clear hc hd
    go_enter Tryz.func99, Tryz.ntmps99
    go_wp2_with fail
    go_ret
    exact ⟨rfl, rfl⟩
  · have h1 : (48 : Int) ≤ (c : Int) := by omega
    have h2 : ¬ (c : Int) ≤ 57 := by omega
    have h3 : (97 : Int) ≤ (c : Int) := by omega
    have h4 : ¬ (c : Int) ≤ 102 := by omega
    have h5 : (65 : Int) ≤ (c : Int) := by omega
    have h6 : ¬ (c : Int) ≤ 70 := by omega
    have hd : dvN c = 16 := by unfold dvN; rw [if_neg (by omega), if_neg (by omega), if_neg (by omega)]
    rw [hd]
    clear hc hd
    go_enter Tryz.func99, Tryz.ntmps99
    go_wp2_with fail
    go_ret
    exact ⟨rfl, rfl⟩
/-- A byte of a text. -/
theorem index_at {s : ByteArray} {i : Nat} {b : UInt8} (h : s.data.toList[i]? = some b) (W : World) : (Instr.index 9 (.string s) (.int .i64 (i : Int))).run Tryz.prog W = .ok (.int .u8 (b.toNat : Int)) W := by
  obtain ⟨hi, he⟩ := List.getElem?_eq_some_iff.1 h
  have hi2 : i < s.size := by simpa using hi
  rw [run_index_string _ _ _ _ _ Tryz.underlying9, dif_pos (by omega)]
  have : s[(i : Int).toNat]'(by simpa using hi2) = b := by
    rw [← he]
    simp
    rfl
  rw [this]
/-- The digits, small and great. -/
def sdN (i : Nat) : Nat := if i < 10 then 48 + i else 87 + i
def gdN (i : Nat) : Nat := if i < 10 then 48 + i else 55 + i
theorem sd_str : ∀ i : Fin 16, (⟨#[48, 49, 50, 51, 52, 53, 54, 55, 56, 57, 97, 98, 99, 100, 101, 102]⟩ : ByteArray).data.toList[i.val]? = some (UInt8.ofNat (sdN i.val)) := by decide +kernel
theorem gd_str : ∀ i : Fin 16, (⟨#[48, 49, 50, 51, 52, 53, 54, 55, 56, 57, 65, 66, 67, 68, 69, 70]⟩ : ByteArray).data.toList[i.val]? = some (UInt8.ofNat (gdN i.val)) := by decide +kernel
theorem sd_nat : ∀ i : Fin 16, (UInt8.ofNat (sdN i.val)).toNat = sdN i.val := by decide +kernel
theorem gd_nat : ∀ i : Fin 16, (UInt8.ofNat (gdN i.val)).toNat = gdN i.val := by decide +kernel
theorem dv_is {c i : Nat} (h : i < 16) : dvN c = i ↔ (sdN i = c ∨ gdN i = c) := by
  unfold dvN sdN gdN
  split <;> split <;> (try split) <;> (try split) <;> omega
/-- The document's value of a digit. -/
def rdN (c : Nat) : Nat := if dvN c < 16 then dvN c else 99
theorem rd_lt {c B : Nat} (h : B ≤ 16) : rdN c < B ↔ dvN c < B := by unfold rdN; split <;> omega
set_option maxRecDepth 100000 in
set_option maxHeartbeats 2000000 in
theorem Digit_run7 (c : Nat) (w : World) :
    Calls Tryz.prog 103 #[.int .u8 (c : Int)] w fun e w' => e = .returned (.int .i64 (rdN c : Int)) ∧ w' = w := by
  go_enter Tryz.func103, Tryz.ntmps103
  go_wp2_with fail
  go_loopg [5] 17 (fun h s5 wr => ∃ i : Nat, s5 = .int .i64 (i : Int) ∧ Hid (i + h = 17) ∧ i ≤ 16 ∧ Hid (i ≤ dvN c) ∧ wr = w)
  case atStart => exact ⟨0, rfl, by show _ = _; omega, by omega, Nat.zero_le _, rfl⟩
  case round =>
    obtain ⟨i, rfl, HI, hi16, HD, rfl⟩ := hrel
    by_cases hlt : i < 16
    · have hz : (i : Int) < 16 := by omega
      have hx := index_at (sd_str ⟨i, hlt⟩)
      have hy := index_at (gd_str ⟨i, hlt⟩)
      rw [sd_nat ⟨i, hlt⟩] at hx
      rw [gd_nat ⟨i, hlt⟩] at hy
      simp only at hx hy
      have hdi := dv_is (c := c) hlt
      generalize sdN i = a at *
      generalize gdN i = b at *
      have HDI := Lib.hid hdi
      clear hdi
      by_cases h1 : a = c
      · have e1 : ((a : Int) == (c : Int)) = true := by simp [h1]
        have HR : Hid (rdN c = i) := by
          have := HDI.out.2 (.inl h1)
          show rdN c = i
          unfold rdN
          rw [this, if_pos hlt]
        clear h1
        go_wp2_with fail
        go_ret
        exact ⟨by rw [HR.out]; rfl, rfl⟩
      · have e1 : ((a : Int) == (c : Int)) = false := by simp; omega
        by_cases h2 : b = c
        · have e2 : ((b : Int) == (c : Int)) = true := by simp [h2]
          have HR : Hid (rdN c = i) := by
            have := HDI.out.2 (.inr h2)
            show rdN c = i
            unfold rdN
            rw [this, if_pos hlt]
          clear h1 h2
          go_wp2_with fail
          go_ret
          exact ⟨by rw [HR.out]; rfl, rfl⟩
        · have e2 : ((b : Int) == (c : Int)) = false := by simp; omega
          have HN : Hid (i + 1 ≤ dvN c) := by
            have h3 : ¬ dvN c = i := fun e => Or.elim (HDI.out.1 e) h1 h2
            have := HD.out
            show _ ≤ _
            omega
          clear h1 h2
          go_wp2_with fail
          go_roundg (16 - i)
          case measure => have := HI.out; omega
          case rel => exact ⟨i + 1, by go_num, by show _ = _; have := HI.out; omega, by omega, HN, rfl⟩
    · obtain rfl : i = 16 := by omega
      have HR : Hid (rdN c = 99) := by
        have := HD.out
        show rdN c = 99
        unfold rdN
        rw [if_neg (by omega)]
      go_wp2_with fail
      go_ret
      exact ⟨by rw [HR.out]; rfl, rfl⟩
end Go.Proofs.YtgoemhcngmpfbaaGreatDoor

/-
  '[]byte(s)': a string's bytes in a block of their own.
-/
namespace Go.Proofs.YtgoemhcngmpfbaaGreatDoor
open Go.RowKit

theorem bts_cells (s : ByteArray) : s.data.map (fun b => Value.int .u8 b.toNat) = ((bts s).map fun x => Value.int .u8 x).toArray := by
  apply Array.ext'
  simp [bts, Function.comp_def]
/-- '[]byte(s)': the bytes in a block of their own. -/
theorem run_conv_str (w : World) (s : ByteArray) (hs : s.size ≤ maxLen) : ∃ cap w', (convert 9 48 (.string s)).run Tryz.prog w = .ok (.slice (some ⟨w.heap.size, 0, none⟩) s.size cap) w' ∧ s.size ≤ cap ∧ cap ≤ maxLen ∧ Byts w' w'.heap.size (some ⟨w.heap.size, 0, none⟩) (bts s) ∧ Below w.heap.size w w' := by
  refine ⟨_, _, run_bytes_of_string w _ _ _ s Tryz.underlying9 Tryz.underlying48 Tryz.underlying5, grownCap_ge _ _ _ _, grownCap_le_maxLen _ _ _ _ hs, ⟨bts_byt s, fun _ => ⟨_, _, rfl, by simp, fun i x hx => ?_⟩⟩, ?_⟩
  · have := World.cell?_alloc_mark w.drew (bytesRow s (grownCap w s.size 0 5)) 5 ((bytesRow s (grownCap w s.size 0 5)).size, (bytesRow s (grownCap w s.size 0 5)).size + 1) (0 + i)
    rw [show w.drew.heap.size = w.heap.size from rfl] at this
    rw [this, bytesRow, bts_cells, Nat.zero_add]
    have hi := (List.getElem?_eq_some_iff.1 hx).1
    rw [Array.getElem?_append_left (by simpa using hi)]
    simp [hx]
  · exact (Below.refl _ w).drew.alloc (Nat.le_refl _) _
end Go.Proofs.YtgoemhcngmpfbaaGreatDoor
