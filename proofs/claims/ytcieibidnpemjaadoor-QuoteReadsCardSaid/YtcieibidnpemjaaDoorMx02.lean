/-
  Stage 10: texts as lists of bytes, digits of 16 (out of stage 9's texts, over stage 1's chain).
-/
import Derived.Test.YtcieibidnpemjaaDoorMx01
import Derived.Sort.Grow
import Derived.Laws.ResultCell
import Derived.Deep.CutBlock
namespace Go.Proofs.YtcieibidnpemjaaDoor
open Go.RowKit Go.Sort
set_option linter.unusedSimpArgs false
theorem index_at {s : ByteArray} {i : Nat} {b : UInt8} (h : s.data.toList[i]? = some b) (W : World) : (Instr.index 9 (.string s) (.int .i64 (i : Int))).run Tryd.prog W = .ok (.int .u8 (b.toNat : Int)) W := by
  obtain ⟨hi, he⟩ := List.getElem?_eq_some_iff.1 h
  have hi2 : i < s.size := by simpa using hi
  rw [run_index_string _ _ _ _ _ Tryd.underlying9, dif_pos (by omega)]
  have : s[(i : Int).toNat]'(by simpa using hi2) = b := by
    rw [← he]
    simp
    rfl
  rw [this]
def bs (l : List UInt8) : ByteArray := ⟨l.toArray⟩
theorem bs_list (l : List UInt8) : (bs l).data.toList = l := by simp [bs]
theorem bs_size (l : List UInt8) : (bs l).size = l.length := by simp [bs, ByteArray.size]
theorem bs_of (s : ByteArray) : bs s.data.toList = s := by
  apply ByteArray.ext
  simp [bs]
theorem bs_app (a b : List UInt8) : bs a ++ bs b = bs (a ++ b) := by
  apply ByteArray.ext
  simp [bs]
theorem bs_extract (l : List UInt8) (i j : Nat) : (bs l).extract i j = bs ((l.take j).drop i) := by
  apply ByteArray.ext
  simp [bs, List.extract_toArray, List.take_drop]
  by_cases h : i ≤ j
  · rw [show i + (j - i) = j by omega]
  · rw [List.drop_eq_nil_of_le (by simp; omega), List.drop_eq_nil_of_le (by simp; omega)]
theorem bs_from (l : List UInt8) (i n : Nat) (h : n = l.length) : (bs l).extract i n = bs (l.drop i) := by
  rw [bs_extract, h, List.take_length]
theorem bs_to (l : List UInt8) (j : Nat) : (bs l).extract 0 j = bs (l.take j) := by
  rw [bs_extract, List.drop_zero]
theorem bs_get {l : List UInt8} {i : Nat} {c : UInt8} (h : l[i]? = some c) (W : World) : (Instr.index 9 (.string (bs l)) (.int .i64 (i : Int))).run Tryd.prog W = .ok (.int .u8 (c.toNat : Int)) W := index_at (by rw [bs_list]; exact h) W
theorem bs_isEmpty (l : List UInt8) : (bs l).toList.isEmpty = l.isEmpty := by rw [Lib.toList_data, bs_list]
def dvN (c : Nat) : Nat := if 48 ≤ c ∧ c ≤ 57 then c - 48 else if 97 ≤ c ∧ c ≤ 102 then c - 87 else if 65 ≤ c ∧ c ≤ 70 then c - 55 else 16
theorem take_succ_of {l : List UInt8} {i : Nat} {c : UInt8} (h : l[i]? = some c) : l.take (i + 1) = l.take i ++ [c] := by
  rw [List.take_add_one, h]
  rfl
def num (B : Nat) (l : List UInt8) : Nat := l.foldl (fun a c => a * B + dvN c.toNat) 0
theorem num_snoc (B : Nat) (l : List UInt8) (c : UInt8) : num B (l ++ [c]) = num B l * B + dvN c.toNat := by unfold num; rw [List.foldl_append]; rfl
theorem foldl_ge {B : Nat} (hB : 1 ≤ B) : ∀ (m : List UInt8) (a : Nat), a ≤ m.foldl (fun a c => a * B + dvN c.toNat) a
  | [], _ => Nat.le_refl _
  | _ :: m, a => Nat.le_trans (Nat.le_trans (Nat.le_mul_of_pos_right a hB) (Nat.le_add_right _ _)) (foldl_ge hB m _)
theorem num_take {B : Nat} (hB : 1 ≤ B) (l : List UInt8) (i : Nat) : num B (l.take i) ≤ num B l := by
  have h : num B l = (l.drop i).foldl (fun a c => a * B + dvN c.toNat) (num B (l.take i)) := by
    unfold num
    rw [← List.foldl_append, List.take_append_drop]
  rw [h]
  exact foldl_ge hB _ _
def okDig (B : Nat) (l : List UInt8) : Bool := l.all fun c => decide (dvN c.toNat < B)
theorem okDig_get {B : Nat} {l : List UInt8} (h : okDig B l = true) {i : Nat} {c : UInt8} (hc : l[i]? = some c) : dvN c.toNat < B := by
  have := List.all_eq_true.1 h c (List.mem_of_getElem? hc)
  simpa using this
theorem okDig_not {B : Nat} {l : List UInt8} {i : Nat} {c : UInt8} (hc : l[i]? = some c) (h : ¬ dvN c.toNat < B) : okDig B l = false := by
  cases e : okDig B l
  · rfl
  · exact absurd (okDig_get e hc) h
theorem okDig_of {B : Nat} {l : List UInt8} (h : ∀ (i : Nat) (c : UInt8), l[i]? = some c → dvN c.toNat < B) : okDig B l = true := by
  refine List.all_eq_true.2 fun c hc => ?_
  obtain ⟨i, hi⟩ := List.mem_iff_getElem?.1 hc
  simpa using h i c hi
def sdN (i : Nat) : Nat := if i < 10 then 48 + i else 87 + i
def gdN (i : Nat) : Nat := if i < 10 then 48 + i else 55 + i
theorem sd_str : ∀ i : Fin 16, (⟨#[48, 49, 50, 51, 52, 53, 54, 55, 56, 57, 97, 98, 99, 100, 101, 102]⟩ : ByteArray).data.toList[i.val]? = some (UInt8.ofNat (sdN i.val)) := by decide +kernel
theorem gd_str : ∀ i : Fin 16, (⟨#[48, 49, 50, 51, 52, 53, 54, 55, 56, 57, 65, 66, 67, 68, 69, 70]⟩ : ByteArray).data.toList[i.val]? = some (UInt8.ofNat (gdN i.val)) := by decide +kernel
theorem sd_nat : ∀ i : Fin 16, (UInt8.ofNat (sdN i.val)).toNat = sdN i.val := by decide +kernel
theorem gd_nat : ∀ i : Fin 16, (UInt8.ofNat (gdN i.val)).toNat = gdN i.val := by decide +kernel
theorem dv_is {c i : Nat} (h : i < 16) : dvN c = i ↔ (sdN i = c ∨ gdN i = c) := by
  unfold dvN sdN gdN
  split <;> split <;> (try split) <;> (try split) <;> omega
def rdN (c : Nat) : Nat := if dvN c < 16 then dvN c else 99
theorem rd_lt {c B : Nat} (h : B ≤ 16) : rdN c < B ↔ dvN c < B := by unfold rdN; split <;> omega
set_option maxRecDepth 100000 in
set_option maxHeartbeats 2000000 in
theorem Digit_run7 (c : Nat) (w : World) :
    Calls Tryd.prog 44 #[.int .u8 (c : Int)] w fun e w' => e = .returned (.int .i64 (rdN c : Int)) ∧ w' = w := by
  go_enter Tryd.func44, Tryd.ntmps44
  go_wp2_with fail
  go_loopg [5] 17 (fun h s5 wr => ∃ i : Nat, s5 = .int .i64 (i : Int) ∧ Hid (i + h = 17) ∧ i ≤ 16 ∧ Hid (i ≤ dvN c) ∧ wr = w)
  case atStart => exact ⟨0, rfl, by show _ = _; omega, by omega, Nat.zero_le _, rfl⟩
  case round =>
    obtain ⟨i, rfl, HI, hi16, HD, rfl⟩ := hrel
    by_cases hlt : i < 16
    · have hz : (i : Int) < 16 := by omega
      have hx := index_at (sd_str ⟨i, hlt⟩)
      have hy := index_at (gd_str ⟨i, hlt⟩)
      rw [sd_nat ⟨i, hlt⟩] at hx
      rw [gd_nat ⟨i, hlt⟩] at hy
      simp only at hx hy
      have hdi := dv_is (c := c) hlt
      generalize sdN i = a at *
      generalize gdN i = b at *
      have HDI := Lib.hid hdi
      clear hdi
      by_cases h1 : a = c
      · have e1 : ((a : Int) == (c : Int)) = true := by simp [h1]
        have HR : Hid (rdN c = i) := by
          have := HDI.out.2 (.inl h1)
          show rdN c = i
          unfold rdN
          rw [this, if_pos hlt]
        clear h1
        go_wp2_with fail
        go_ret
        exact ⟨by rw [HR.out]; rfl, rfl⟩
      · have e1 : ((a : Int) == (c : Int)) = false := by simp; omega
        by_cases h2 : b = c
        · have e2 : ((b : Int) == (c : Int)) = true := by simp [h2]
          have HR : Hid (rdN c = i) := by
            have := HDI.out.2 (.inr h2)
            show rdN c = i
            unfold rdN
            rw [this, if_pos hlt]
          clear h1 h2
          go_wp2_with fail
          go_ret
          exact ⟨by rw [HR.out]; rfl, rfl⟩
        · have e2 : ((b : Int) == (c : Int)) = false := by simp; omega
          have HN : Hid (i + 1 ≤ dvN c) := by
            have h3 : ¬ dvN c = i := fun e => Or.elim (HDI.out.1 e) h1 h2
            have := HD.out
            show _ ≤ _
            omega
          clear h1 h2
          go_wp2_with fail
          go_roundg (16 - i)
          case measure => have := HI.out; omega
          case rel => exact ⟨i + 1, by go_num, by show _ = _; have := HI.out; omega, by omega, HN, rfl⟩
    · obtain rfl : i = 16 := by omega
      have HR : Hid (rdN c = 99) := by
        have := HD.out
        show rdN c = 99
        unfold rdN
        rw [if_neg (by omega)]
      go_wp2_with fail
      go_ret
      exact ⟨by rw [HR.out]; rfl, rfl⟩
theorem eq_byte {a k : UInt8} (h : a ≠ k) : ((a.toNat : Int) == (k.toNat : Int)) = false := by
  rw [beq_eq_false_iff_ne]
  intro e
  exact h (UInt8.toNat_inj.1 (by omega))
theorem ext_one {l : List UInt8} {i : Nat} {c : UInt8} (h : l[i]? = some c) : (bs l).extract i (i + 1) = bs [c] := by
  rw [bs_extract, take_succ_of h, List.drop_append_of_le_length (by have := (List.getElem?_eq_some_iff.1 h).1; rw [List.length_take]; omega), List.drop_of_length_le (by rw [List.length_take]; omega)]
  rfl
def bi (l : List UInt8) : List Int := l.map fun b => (b.toNat : Int)
theorem bi_length (l : List UInt8) : (bi l).length = l.length := List.length_map ..
theorem bi_take (l : List UInt8) (n : Nat) : (bi l).take n = bi (l.take n) := (List.map_take).symm
theorem bi_drop (l : List UInt8) (n : Nat) : (bi l).drop n = bi (l.drop n) := (List.map_drop).symm
theorem bi_str (l : List UInt8) : strOf (bi l) = bs l := by
  unfold strOf strOfNums bi bs
  rw [List.map_map]
  congr 2
  have : ((fun n : Int => UInt8.ofNat n.toNat) ∘ fun b : UInt8 => (b.toNat : Int)) = id := by
    funext b
    simp
  rw [this, List.map_id]
theorem byts_cell {w : World} {B b o : Nat} {l : List UInt8} (h : Byts w B (some ⟨b, o, none⟩) (bi l)) {i : Nat} {c : UInt8} (hc : l[i]? = some c) : w.cell? ⟨b, o + i, none⟩ = some (.int .u8 (c.toNat : Int)) := by
  obtain ⟨b', o', e, _, hq⟩ := h.2 (by rw [bi_length]; exact Nat.lt_of_le_of_lt (Nat.zero_le _) (List.getElem?_eq_some_iff.1 hc).1)
  cases e
  refine hq i _ ?_
  unfold bi
  rw [List.getElem?_map, hc]
  rfl
end Go.Proofs.YtcieibidnpemjaaDoor
namespace Go.Proofs.YtcieibidnpemjaaDoor
open Go.RowKit Go.Sort
set_option linter.unusedSimpArgs false
def endF (q : UInt8) : List UInt8 → Nat × Bool
 | [] => (0, false)
 | [c] => if q ≠ 96 ∧ c = 10 then (0, false) else if c = q then (1, true) else (1, false)
 | c :: d :: t =>
  if q ≠ 96 ∧ c = 10 then (0, false)
  else if c = q then (1, true)
  else if q ≠ 96 ∧ c = 92 ∧ d ≠ 10 then ((endF q t).1 + 2, (endF q t).2)
  else ((endF q (d :: t)).1 + 1, (endF q (d :: t)).2)
theorem endF_lf {q : UInt8} (t : List UInt8) (h : q ≠ 96) : endF q (10 :: t) = (0, false) := by
 cases t with
 | nil => unfold endF; rw [if_pos ⟨h, rfl⟩]
 | cons d t => unfold endF; rw [if_pos ⟨h, rfl⟩]
theorem endF_hit {q : UInt8} (t : List UInt8) (h : q ≠ 10) : endF q (q :: t) = (1, true) := by
 cases t with
 | nil => unfold endF; rw [if_neg (fun e => h e.2), if_pos rfl]
 | cons d t => unfold endF; rw [if_neg (fun e => h e.2), if_pos rfl]
theorem endF_esc {q d : UInt8} (t : List UInt8) (h : q ≠ 96) (h2 : q ≠ 92) (hd : d ≠ 10) : endF q (92 :: d :: t) = ((endF q t).1 + 2, (endF q t).2) := by
 rw [endF, if_neg (fun e => absurd e.2 (by decide)), if_neg (fun e => h2 e.symm), if_pos ⟨h, rfl, hd⟩]
theorem endF_one {q c : UInt8} (t : List UInt8) (h1 : ¬ (q ≠ 96 ∧ c = 10)) (h2 : c ≠ q) (h3 : ¬ (q ≠ 96 ∧ c = 92 ∧ ∃ d, t[0]? = some d ∧ d ≠ 10)) : endF q (c :: t) = ((endF q t).1 + 1, (endF q t).2) := by
 cases t with
 | nil =>
  show endF q [c] = (1, false)
  rw [endF, if_neg h1, if_neg h2]
 | cons d t => rw [endF, if_neg h1, if_neg h2, if_neg (fun e => h3 ⟨e.1, e.2.1, d, rfl, e.2.2⟩)]
theorem endF_le (q : UInt8) : ∀ l : List UInt8, (endF q l).1 ≤ l.length
 | [] => Nat.le_refl _
 | [c] => by
  unfold endF
  split
  ·exact Nat.zero_le _
  ·split <;> exact Nat.le_refl _
 | c :: d :: t => by
  have h1 := endF_le q t
  have h2 := endF_le q (d :: t)
  rw [endF]
  simp only [List.length_cons] at h2 ⊢
  split
  ·exact Nat.zero_le _
  ·split
   ·show 1 ≤ _; omega
   ·split
    ·show _ + 2 ≤ _; omega
    ·show _ + 1 ≤ _; omega
def numZ (B k : Nat) (l : List UInt8) : Int := if l.length < k ∨ okDig B (l.take k) = false then -1 else (num B (l.take k) : Int)
theorem numZ_short {B k : Nat} {l : List UInt8} (h : l.length < k) : numZ B k l = -1 := if_pos (.inl h)
theorem numZ_bad {B k i : Nat} {l : List UInt8} {c : UInt8} (hc : l[i]? = some c) (hi : i < k) (h : ¬ dvN c.toNat < B) : numZ B k l = -1 := if_pos (.inr (okDig_not (i := i) (c := c) (by rw [List.getElem?_take, if_pos hi]; exact hc) h))
theorem numZ_ok {B k : Nat} {l : List UInt8} (h : k ≤ l.length) (hd : ∀ i c, i < k → l[i]? = some c → dvN c.toNat < B) : numZ B k l = (num B (l.take k) : Int) := by
 refine if_neg ?_
 rintro (g | g)
 ·omega
 ·rw [okDig_of (fun i c hc => by
   rw [List.getElem?_take] at hc
   split at hc
   ·exact hd i c (by assumption) hc
   ·cases hc)] at g
  cases g
theorem num_lt {B : Nat} (hB : 1 ≤ B) : ∀ (k : Nat) (l : List UInt8), okDig B l = true → l.length ≤ k → num B l < B ^ k := by
 intro k l h hl
 have key : ∀ (m : List UInt8) (a : Nat), okDig B m = true → m.foldl (fun a c => a * B + dvN c.toNat) a < (a + 1) * B ^ m.length := by
  intro m
  induction m with
  | nil => intro a _; simp
  | cons c m ih =>
   intro a h
   unfold okDig at h
   rw [List.all_cons, Bool.and_eq_true, decide_eq_true_eq] at h
   have := ih (a * B + dvN c.toNat) h.2
   rw [List.foldl_cons, List.length_cons]
   refine Nat.lt_of_lt_of_le this ?_
   rw [Nat.pow_succ, Nat.mul_comm (B ^ m.length) B, ← Nat.mul_assoc]
   refine Nat.mul_le_mul_right _ ?_
   have h1 := h.1
   rw [Nat.add_mul, Nat.one_mul]
   omega
 have := key l 0 h
 rw [Nat.zero_add, Nat.one_mul] at this
 exact Nat.lt_of_lt_of_le this (Nat.pow_le_pow_right hB hl)
theorem numZ_lt (k : Nat) (B : Nat) (l : List UInt8) (hB : 1 ≤ B) : numZ B k l < (B ^ k : Nat) ∧ -1 ≤ numZ B k l := by
 unfold numZ
 split
 ·exact ⟨by omega, Int.le_refl _⟩
 ·rename_i h
  have h2 : okDig B (l.take k) = true := by
   cases e : okDig B (l.take k)
   ·exact absurd (.inr e) h
   ·rfl
  have := num_lt hB k (l.take k) h2 (by rw [List.length_take]; omega)
  exact ⟨by exact_mod_cast this, by omega⟩
def ltrF (c : UInt8) : Nat := if c = 97 then 7 else if c = 98 then 8 else if c = 102 then 12 else if c = 110 then 10 else if c = 114 then 13 else if c = 116 then 9 else if c = 118 then 11 else 0
def runE (z : Int) (sz : Nat) : Int × Bool × Nat := if 0 ≤ z ∧ U.isRune z = true then (z, false, sz) else (0, false, 0)
def escF (q : UInt8) : List UInt8 → Int × Bool × Nat
 | _ :: c :: t =>
  if ltrF c ≠ 0 then ((ltrF c : Int), true, 2)
  else if c = 92 ∨ c = q then ((c.toNat : Int), true, 2)
  else if c = 120 then (if 0 ≤ numZ 16 2 t then (numZ 16 2 t, true, 4) else (0, false, 0))
  else if c = 117 then runE (numZ 16 4 t) 6
  else if c = 85 then runE (numZ 16 8 t) 10
  else if 0 ≤ numZ 8 3 (c :: t) ∧ numZ 8 3 (c :: t) < 256 then (numZ 8 3 (c :: t), true, 4) else (0, false, 0)
 | _ => (0, false, 0)
end Go.Proofs.YtcieibidnpemjaaDoor
namespace Go.Proofs.YtcieibidnpemjaaDoor
open Go.RowKit Go.Sort
set_option linter.unusedSimpArgs false
theorem pow_bd {B j : Nat} (hB : B ≤ 16) (hj : j ≤ 8) : B ^ j ≤ 4294967296 :=
 Nat.le_trans (Nat.pow_le_pow_left hB j) (Nat.le_trans (Nat.pow_le_pow_right (by decide) hj) (by decide))
set_option maxRecDepth 100000 in
set_option maxHeartbeats 2000000 in
theorem number_run (l : List UInt8) (f k B : Nat) (w : World) (hl : l.length ≤ 100000) (hf : f ≤ 10) (hk : 0 < k ∧ k ≤ 8) (hB : 2 ≤ B ∧ B ≤ 16) :
  Calls Tryd.prog 33 #[.string (bs l), .int .i64 (f : Int), .int .i64 (k : Int), .int .i64 (B : Int)] w fun e w' => e = .returned (.int .i64 (numZ B k (l.drop f))) ∧ w' = w := by
 have hsz := bs_size l
 have hfk : (f : Int) + (k : Int) = ((f + k : Nat) : Int) := by omega
 have hld : (l.drop f).length = l.length - f := List.length_drop ..
 by_cases hs : l.length < f + k
 ·have hsz2 : (l.length : Int) < ((f + k : Nat) : Int) := by omega
  have HZ : Hid (numZ B k (l.drop f) = -1) := numZ_short (by omega)
  obtain ⟨q, hq⟩ : ∃ q, f + k = q := ⟨_, rfl⟩
  rw [hq] at hfk hsz2
  clear hs hq
  go_enter Tryd.func33, Tryd.ntmps33
  go_wp2_with fail
  go_ret
  exact ⟨by rw [HZ.out]; rfl, rfl⟩
 ·have hsz2 : ¬ (l.length : Int) < ((f + k : Nat) : Int) := by omega
  obtain ⟨q, hq⟩ : ∃ q, f + k = q := ⟨_, rfl⟩
  rw [hq] at hfk hsz2
  have HQ := Lib.hid hq
  have hql : q ≤ l.length := by omega
  clear hs hq
  go_enter Tryd.func33, Tryd.ntmps33
  go_wp2_with fail
  go_loopg [9, 10] (k + 1) (fun h s9 s10 wr => ∃ j : Nat, s9 = .int .i64 ((num B ((l.drop f).take j) : Nat) : Int) ∧ s10 = .int .i64 ((f + j : Nat) : Int) ∧ Hid (j + h = k + 1) ∧ j ≤ k ∧ Hid (∀ i c, i < j → (l.drop f)[i]? = some c → dvN c.toNat < B) ∧ wr = w)
  case atStart => exact ⟨0, rfl, rfl, by show _ = _; omega, by omega, fun i c hi => absurd hi (by omega), rfl⟩
  case round =>
   obtain ⟨j, rfl, rfl, HI, hjk, HD, rfl⟩ := hrel
   obtain ⟨i, hi⟩ : ∃ i, f + j = i := ⟨_, rfl⟩
   rw [hi]
   by_cases hlt : j < k
   ·have hiq : (i : Int) < (q : Int) := by have := HQ.out; omega
    have hil : i < l.length := by have := HQ.out; omega
    obtain ⟨c, hc⟩ : ∃ c, l[i]? = some c := ⟨l[i], List.getElem?_eq_getElem hil⟩
    have hcd : (l.drop f)[j]? = some c := by rw [List.getElem?_drop, hi]; exact hc
    have hx := bs_get hc
    have HDG := Lib.hid (fun V => Digit_run7 c.toNat V)
    have hrd := rd_lt (c := c.toNat) hB.2
    have HII := Lib.hid hi
    by_cases hd : dvN c.toNat < B
    ·have hdz : (rdN c.toNat : Int) < (B : Int) := by have := hrd.2 hd; omega
     have hdv : rdN c.toNat = dvN c.toNat := if_pos (by omega)
     have ht := take_succ_of hcd
     have HD2 : Hid (∀ i c, i < j + 1 → (l.drop f)[i]? = some c → dvN c.toNat < B) := fun i' c' hi' hc' => by
      by_cases e : i' = j
      ·subst e
       rw [hcd] at hc'
       cases hc'
       exact hd
      ·exact HD.out i' c' (by omega) hc'
     have hvb : num B ((l.drop f).take j) < 4294967296 := Nat.lt_of_lt_of_le (num_lt (by omega) j _ (okDig_of fun i' c' hc' => by
      rw [List.getElem?_take] at hc'
      split at hc'
      ·exact HD.out i' c' (by assumption) hc'
      ·cases hc') (by rw [List.length_take]; omega)) (pow_bd hB.2 (by omega))
     have hns := num_snoc B ((l.drop f).take j) c
     rw [← ht] at hns
     rw [hdv] at hdz HDG
     generalize num B ((l.drop f).take j) = v at *
     generalize dvN c.toNat = d at *
     obtain ⟨p, hp⟩ : ∃ p, v * B = p := ⟨_, rfl⟩
     have hpb : p ≤ 4294967296 * 16 := by rw [← hp]; exact Nat.mul_le_mul (by omega) hB.2
     have hmul : (v : Int) * (B : Int) = (p : Int) := by rw [← hp]; exact (Int.natCast_mul _ _).symm
     obtain ⟨v2, hv2⟩ : ∃ v2, p + d = v2 := ⟨_, rfl⟩
     have hadd : (p : Int) + (d : Int) = (v2 : Int) := by omega
     rw [hp, hv2] at hns
     replace hns := Lib.hid hns
     clear hc hcd ht hdv hd hp hv2 hrd hi HD
     generalize c.toNat = cn at *
     go_wp2_with fail
     refine (HDG.out _).mono ?_
     rintro e w3 ⟨rfl, rfl⟩
     go_wp2_with fail
     go_roundg (k - j)
     case measure => have := HI.out; omega
     case rel => exact ⟨j + 1, by rw [hns.out], by have := HII.out; go_num, by show _ = _; have := HI.out; omega, by omega, HD2, rfl⟩
    ·have hdz : (B : Int) ≤ (rdN c.toNat : Int) := by have := (not_congr hrd).2 hd; omega
     have HZ : Hid (numZ B k (l.drop f) = -1) := numZ_bad hcd hlt hd
     obtain ⟨v, hv⟩ : ∃ v, num B ((l.drop f).take j) = v := ⟨_, rfl⟩
     rw [hv]
     clear hc hcd hd hrd hi HD hv
     generalize rdN c.toNat = d at *
     generalize c.toNat = cn at *
     go_wp2_with fail
     refine (HDG.out _).mono ?_
     rintro e w3 ⟨rfl, rfl⟩
     go_wp2_with fail
     go_ret
     exact ⟨by rw [HZ.out]; rfl, rfl⟩
   ·obtain rfl : j = k := by omega
    have hiq : ¬ (i : Int) < (q : Int) := by have := HQ.out; omega
    have HZ : Hid (numZ B j (l.drop f) = (num B ((l.drop f).take j) : Int)) := numZ_ok (by have := HQ.out; omega) HD.out
    obtain ⟨v, hv⟩ : ∃ v, num B ((l.drop f).take j) = v := ⟨_, rfl⟩
    rw [hv] at HZ ⊢
    clear hi HD hv
    go_wp2_with fail
    go_ret
    exact ⟨by rw [HZ.out]; rfl, rfl⟩
end Go.Proofs.YtcieibidnpemjaaDoor
namespace Go.Proofs.YtcieibidnpemjaaDoor
open Go.RowKit Go.Sort
set_option linter.unusedSimpArgs false
theorem drop_cons {t : List UInt8} {i : Nat} {c : UInt8} (h : t[i]? = some c) : t.drop i = c :: t.drop (i + 1) := by
 obtain ⟨hi, rfl⟩ := List.getElem?_eq_some_iff.1 h
 exact List.drop_eq_getElem_cons hi
end Go.Proofs.YtcieibidnpemjaaDoor
namespace Go.Proofs.YtcieibidnpemjaaDoor
open Go.RowKit Go.Sort
set_option linter.unusedSimpArgs false
theorem bel_drN {B : Nat} {w W : World} (h : Below B w W) (m : Nat) : Below B w (W.drewN m) := by
 induction m with
 | zero => exact h
 | succ m ih => exact ih.drew
def b2i (b : Bool) : Int := if b = true then 1 else 0
def LT : List UInt8 := [97, 98, 102, 110, 114, 116, 118]
def VL : List Nat := [7, 8, 12, 10, 13, 9, 11]
theorem ltr_fin : ∀ i : Fin 7, VL[i.val]? = some (ltrF (LT.getD i.val 0)) ∧ ltrF (LT.getD i.val 0) ≠ 0 := by decide
theorem ltr_hit {i : Nat} {c : UInt8} (hi : i < 7) (h : LT[i]? = some c) : VL[i]? = some (ltrF c) ∧ ltrF c ≠ 0 := by
 have := ltr_fin ⟨i, hi⟩
 simp only at this
 rwa [show LT.getD i 0 = c by rw [List.getD_eq_getElem?_getD, h]; rfl] at this
theorem ltr_miss {c : UInt8} (h : ∀ i, i < 7 → LT[i]? ≠ some c) : ltrF c = 0 := by
 unfold ltrF
 rw [if_neg (fun e => h 0 (by decide) (by rw [e]; rfl)), if_neg (fun e => h 1 (by decide) (by rw [e]; rfl)), if_neg (fun e => h 2 (by decide) (by rw [e]; rfl)), if_neg (fun e => h 3 (by decide) (by rw [e]; rfl)), if_neg (fun e => h 4 (by decide) (by rw [e]; rfl)), if_neg (fun e => h 5 (by decide) (by rw [e]; rfl)), if_neg (fun e => h 6 (by decide) (by rw [e]; rfl))]
theorem esc_ltr {q x c : UInt8} {t : List UInt8} (h : ltrF c ≠ 0) : escF q (x :: c :: t) = ((ltrF c : Int), true, 2) := if_pos h
theorem esc_same {q x c : UInt8} {t : List UInt8} (h : ltrF c = 0) (g : c = 92 ∨ c = q) : escF q (x :: c :: t) = ((c.toNat : Int), true, 2) := (if_neg (fun e => e h)).trans (if_pos g)
theorem escF_eq (q x c : UInt8) (t : List UInt8) : escF q (x :: c :: t) = if ltrF c ≠ 0 then ((ltrF c : Int), true, 2) else if c = 92 ∨ c = q then ((c.toNat : Int), true, 2) else if c = 120 then (if 0 ≤ numZ 16 2 t then (numZ 16 2 t, true, 4) else (0, false, 0)) else if c = 117 then runE (numZ 16 4 t) 6 else if c = 85 then runE (numZ 16 8 t) 10 else if 0 ≤ numZ 8 3 (c :: t) ∧ numZ 8 3 (c :: t) < 256 then (numZ 8 3 (c :: t), true, 4) else (0, false, 0) := rfl
theorem esc_x {q x : UInt8} {t : List UInt8} (g : ¬ ((120 : UInt8) = 92 ∨ 120 = q)) : escF q (x :: 120 :: t) = if 0 ≤ numZ 16 2 t then (numZ 16 2 t, true, 4) else (0, false, 0) := by
 rw [escF_eq, if_neg (show ¬ ltrF 120 ≠ 0 by decide), if_neg g, if_pos rfl]
theorem esc_u {q x : UInt8} {t : List UInt8} (g : ¬ ((117 : UInt8) = 92 ∨ 117 = q)) : escF q (x :: 117 :: t) = runE (numZ 16 4 t) 6 := by
 rw [escF_eq, if_neg (show ¬ ltrF 117 ≠ 0 by decide), if_neg g, if_neg (by decide), if_pos rfl]
theorem esc_U {q x : UInt8} {t : List UInt8} (g : ¬ ((85 : UInt8) = 92 ∨ 85 = q)) : escF q (x :: 85 :: t) = runE (numZ 16 8 t) 10 := by
 rw [escF_eq, if_neg (show ¬ ltrF 85 ≠ 0 by decide), if_neg g, if_neg (by decide), if_neg (by decide), if_pos rfl]
theorem esc_o {q x c : UInt8} {t : List UInt8} (h : ltrF c = 0) (g : ¬ (c = 92 ∨ c = q)) (h1 : c ≠ 120) (h2 : c ≠ 117) (h3 : c ≠ 85) : escF q (x :: c :: t) = if 0 ≤ numZ 8 3 (c :: t) ∧ numZ 8 3 (c :: t) < 256 then (numZ 8 3 (c :: t), true, 4) else (0, false, 0) :=
 (if_neg (fun e => e h)).trans ((if_neg g).trans ((if_neg h1).trans ((if_neg h2).trans (if_neg h3))))
theorem esc_short {q : UInt8} : ∀ {l : List UInt8}, l.length < 2 → escF q l = (0, false, 0)
 | [], _ => rfl
 | [_], _ => rfl
 | _ :: _ :: _, h => by simp only [List.length_cons] at h; omega
set_option maxRecDepth 100000 in
set_option maxHeartbeats 4000000 in
theorem Escape_run (l : List UInt8) (q : UInt8) (v : Int) (bt : Bool) (sz : Nat) (w : World) (hl : l.length ≤ 100000) (h : Hid (escF q l = (v, bt, sz))) :
  Calls Tryd.prog 20 #[.string (bs l), .int .u8 (q.toNat : Int)] w fun e w' => e = .returned (.tuple #[.int .i64 v, .int .i64 (b2i bt), .int .i64 (sz : Int)]) ∧ Below w.heap.size w w' := by
 have hsz := bs_size l
 by_cases h2 : l.length < 2
 ·have HX : Hid (v = 0 ∧ bt = false ∧ sz = 0) := by
   have := h.out
   rw [esc_short h2] at this
   cases this
   exact ⟨rfl, rfl, rfl⟩
  have h2z : (l.length : Int) < 2 := by omega
  have HBl : Hid (Below w.heap.size w w) := Below.refl _ _
  clear h2 h
  go_enter Tryd.func20, Tryd.ntmps20
  go_wp2_with fail
  go_ret3
  exact ⟨by rw [HX.out.1, HX.out.2.1, HX.out.2.2]; rfl, HBl.out⟩
 ·match l, h2, hl, h, hsz with
  | [], h2, _, _, _ => exact absurd (show ([] : List UInt8).length < 2 by simp) h2
  | [a], h2, _, _, _ => exact absurd (show [a].length < 2 by simp) h2
  | x :: c :: t, _, hl, h, hsz =>
   have hx0 := bs_get (l := x :: c :: t) (i := 1) (c := c) rfl
   have hx : ∀ W, (Instr.index 9 (.string (bs (x :: c :: t))) (.int .i64 1)).run Tryd.prog W = .ok (.int .u8 (c.toNat : Int)) W := hx0
   clear hx0
   have hlen : 2 ≤ (x :: c :: t).length := by simp
   have HN0 := fun (f k B : Nat) V => number_run (x :: c :: t) f k B V hl
   obtain ⟨n, hn⟩ : ∃ n, (x :: c :: t).length = n := ⟨_, rfl⟩
   rw [hn] at hlen hsz
   have h2z : ¬ (n : Int) < 2 := by omega
   have hn1 : 1 < n := by omega
   obtain ⟨z, hz⟩ : ∃ z, bs (x :: c :: t) = z := ⟨_, rfl⟩
   rw [hz] at hx HN0 hsz ⊢
   have HN1 := Lib.hid HN0
   clear HN0 hz hn hl hlen
   go_enter Tryd.func20, Tryd.ntmps20
   obtain ⟨N, hN⟩ : ∃ N, w.heap.size = N := ⟨_, rfl⟩
   obtain ⟨W, hW⟩ : ∃ W, w.alloc (.cells #[.int .i64 7, .int .i64 8, .int .i64 12, .int .i64 10, .int .i64 13, .int .i64 9, .int .i64 11] 3) = W := ⟨_, rfl⟩
   have HBl : Hid (Below N w W) := by rw [← hN, ← hW]; exact (Below.refl _ _).alloc (Nat.le_refl _) _
   have HV : Hid (∀ (i v : Nat), VL[i]? = some v → W.cell? ⟨N, i, none⟩ = some (.int .i64 (v : Int))) := fun i v hv => by
    rw [← hW, ← hN]
    match i, hv with
    | 0, hv => cases hv; rw [World.cell?_alloc_at _ _ _ _ rfl]; rfl
    | 1, hv => cases hv; rw [World.cell?_alloc_at _ _ _ _ rfl]; rfl
    | 2, hv => cases hv; rw [World.cell?_alloc_at _ _ _ _ rfl]; rfl
    | 3, hv => cases hv; rw [World.cell?_alloc_at _ _ _ _ rfl]; rfl
    | 4, hv => cases hv; rw [World.cell?_alloc_at _ _ _ _ rfl]; rfl
    | 5, hv => cases hv; rw [World.cell?_alloc_at _ _ _ _ rfl]; rfl
    | 6, hv => cases hv; rw [World.cell?_alloc_at _ _ _ _ rfl]; rfl
   rw [hN]
   go_upto_block 0 with fail
   clear hW
   go_cut [] (fun wx => Hid (ltrF c = 0) ∧ Hid (∃ m, wx = W.drewN m))
   case first =>
    go_wp2_with fail
    go_loopg [9] 8 (fun h s9 wr => ∃ i : Nat, s9 = .int .i64 (i : Int) ∧ Hid (i + h = 8) ∧ i ≤ 7 ∧ Hid (∀ k, k < i → LT[k]? ≠ some c) ∧ Hid (∃ m, wr = W.drewN m))
    case atStart => exact ⟨0, rfl, by show _ = _; omega, by omega, fun k hk => absurd hk (by omega), 0, rfl⟩
    case round =>
     obtain ⟨i, rfl, HI, hi7, HM, HW⟩ := hrel
     by_cases hlt : i < 7
     ·have hiz : (i : Int) < 7 := by omega
      obtain ⟨d, hd⟩ : ∃ d, LT[i]? = some d := ⟨LT[i]'hlt, List.getElem?_eq_getElem _⟩
      have hy : ∀ W, (Instr.index 9 (.string ⟨#[97, 98, 102, 110, 114, 116, 118]⟩) (.int .i64 (i : Int))).run Tryd.prog W = .ok (.int .u8 (d.toNat : Int)) W := index_at hd
      by_cases hdc : d = c
      ·obtain ⟨g1, g2⟩ := ltr_hit hlt (hd.trans (congrArg some hdc))
       have HX : Hid (v = (ltrF c : Int) ∧ bt = true ∧ sz = 2) := by
        have := h.out
        rw [esc_ltr g2] at this
        cases this
        exact ⟨rfl, rfl, rfl⟩
       have hc0 : wr.cell? ⟨N, i, none⟩ = some (.int .i64 (ltrF c : Int)) := by
        obtain ⟨m, hm⟩ := HW.out
        rw [hm]
        exact HV.out i _ g1
       have HB2 : Hid (∀ k, Below N w (wr.drewN k)) := fun k => by
        obtain ⟨m, hm⟩ := HW.out
        rw [hm]
        exact bel_drN (bel_drN HBl.out m) k
       subst hdc
       clear h hd g1 g2 HM HV HBl HN1
       generalize ltrF d = lv at *
       generalize d.toNat = dn at *
       go_wp2_with fail
       go_quiet (fail)
       go_wp2_with fail
       go_ret3
       exact ⟨by rw [HX.out.1, HX.out.2.1, HX.out.2.2]; rfl, HB2.out _⟩
      ·have edc : ((d.toNat : Int) == (c.toNat : Int)) = false := eq_byte hdc
       have HM2 : Hid (∀ k, k < i + 1 → LT[k]? ≠ some c) := fun k hk g => by
        by_cases e : k = i
        ·subst e
         rw [hd] at g
         exact hdc (Option.some.inj g)
        ·exact HM.out k (by omega) g
       clear hd hdc HM HV HBl HN1
       generalize d.toNat = dn at *
       generalize c.toNat = cn at *
       go_wp2_with fail
       go_quiet (fail)
       go_wp2_with fail
       go_roundg (7 - i)
       case measure => have := HI.out; omega
       case rel => exact ⟨i + 1, by go_num, by show _ = _; have := HI.out; omega, by omega, HM2, by obtain ⟨m, hm⟩ := HW.out; exact ⟨_, by rw [hm, World.drewN_drewN]⟩⟩
     ·obtain rfl : i = 7 := by omega
      have hz0 := Lib.hid (ltr_miss HM.out)
      go_wp2_with fail
      go_meet
      exact ⟨hz0.out, HW.out⟩
   case rest =>
   obtain ⟨hlz, hdr⟩ := hcut
   have HB2 : Hid (Below N w wc) := by
    obtain ⟨m, hm⟩ := hdr.out
    rw [hm]
    exact bel_drN HBl.out m
   clear HBl HV hdr
   by_cases h92 : c = 92
   ·have HX : Hid (v = 92 ∧ bt = true ∧ sz = 2) := by
     have := h.out
     rw [esc_same hlz.out (.inl h92), h92] at this
     cases this
     exact ⟨rfl, rfl, rfl⟩
    subst h92
    have hx1 : ∀ W, (Instr.index 9 (.string z) (.int .i64 1)).run Tryd.prog W = .ok (.int .u8 92) W := hx
    clear h hx HN1
    generalize q.toNat = qn at *
    go_wp2_with fail
    go_ret3
    exact ⟨by rw [HX.out.1, HX.out.2.1, HX.out.2.2]; rfl, HB2.out⟩
   ·have e92 : ((c.toNat : Int) == 92) = false := eq_byte h92
    by_cases hcq : c = q
    ·have HX : Hid (v = (c.toNat : Int) ∧ bt = true ∧ sz = 2) := by
      have := h.out
      rw [esc_same hlz.out (.inr hcq)] at this
      cases this
      exact ⟨rfl, rfl, rfl⟩
     have hcb : c.toNat < 256 := UInt8.toNat_lt c
     subst hcq
     clear h h92 HN1
     generalize c.toNat = cn at *
     go_wp2_with fail
     go_ret3
     exact ⟨by rw [HX.out.1, HX.out.2.1, HX.out.2.2]; rfl, HB2.out⟩
    ·have ecq : ((c.toNat : Int) == (q.toNat : Int)) = false := eq_byte hcq
     by_cases h120 : c = 120
     ·subst h120
      have hx1 : ∀ W, (Instr.index 9 (.string z) (.int .i64 1)).run Tryd.prog W = .ok (.int .u8 120) W := hx
      have ecq2 : ((120 : Int) == (q.toNat : Int)) = false := ecq
      clear hx ecq e92
      have HN : Hid (∀ V, Calls Tryd.prog 33 #[.string z, .int .i64 2, .int .i64 2, .int .i64 16] V fun e w' => e = .returned (.int .i64 (numZ 16 2 t)) ∧ w' = V) := fun V => HN1.out 2 2 16 V (by decide) (by decide) (by decide)
      by_cases h0 : 0 ≤ numZ 16 2 t
      ·have HX : Hid (v = numZ 16 2 t ∧ bt = true ∧ sz = 4) := by
        have := h.out
        rw [esc_x (fun g => g.elim h92 hcq), if_pos h0] at this
        cases this
        exact ⟨rfl, rfl, rfl⟩
       clear h h92 hcq HN1
       generalize numZ 16 2 t = zz at *
       generalize q.toNat = qn at *
       go_wp2_with fail
       refine (HN.out _).mono ?_
       rintro e w3 ⟨rfl, rfl⟩
       go_wp2_with fail
       go_ret3
       exact ⟨by rw [HX.out.1, HX.out.2.1, HX.out.2.2]; rfl, HB2.out⟩
      ·have HX : Hid (v = 0 ∧ bt = false ∧ sz = 0) := by
        have := h.out
        rw [esc_x (fun g => g.elim h92 hcq), if_neg h0] at this
        cases this
        exact ⟨rfl, rfl, rfl⟩
       clear h h92 hcq HN1
       generalize numZ 16 2 t = zz at *
       generalize q.toNat = qn at *
       go_wp2_with fail
       refine (HN.out _).mono ?_
       rintro e w3 ⟨rfl, rfl⟩
       go_wp2_with fail
       go_ret3
       exact ⟨by rw [HX.out.1, HX.out.2.1, HX.out.2.2]; rfl, HB2.out⟩
     ·have e120 : ((c.toNat : Int) == 120) = false := eq_byte h120
      by_cases h117 : c = 117
      ·subst h117
       have hx1 : ∀ W, (Instr.index 9 (.string z) (.int .i64 1)).run Tryd.prog W = .ok (.int .u8 117) W := hx
       have ecq2 : ((117 : Int) == (q.toNat : Int)) = false := ecq
       clear hx ecq e92
       have HN : Hid (∀ V, Calls Tryd.prog 33 #[.string z, .int .i64 2, .int .i64 4, .int .i64 16] V fun e w' => e = .returned (.int .i64 (numZ 16 4 t)) ∧ w' = V) := fun V => HN1.out 2 4 16 V (by decide) (by decide) (by decide)
       have HR := Lib.hid (fun V => Rune_any (numZ 16 4 t) V)
       have hlt2 := numZ_lt 4 16 t (by decide)
       by_cases h0 : 0 ≤ numZ 16 4 t
       ·cases hr : U.isRune (numZ 16 4 t)
        ·rw [hr] at HR
         have HX : Hid (v = 0 ∧ bt = false ∧ sz = 0) := by
          have := h.out
          rw [esc_u (fun g => g.elim h92 hcq)] at this
          unfold runE at this
          rw [if_neg (fun g => by rw [hr] at g; cases g.2)] at this
          cases this
          exact ⟨rfl, rfl, rfl⟩
         clear h hr h92 hcq hlt2 HN1
         generalize numZ 16 4 t = zz at *
         generalize q.toNat = qn at *
         go_wp2_with fail
         refine (HN.out _).mono ?_
         rintro e w3 ⟨rfl, rfl⟩
         go_wp2_with fail
         refine (HR.out _).mono ?_
         rintro e w4 ⟨rfl, rfl⟩
         go_wp2_with fail
         go_ret3
         exact ⟨by rw [HX.out.1, HX.out.2.1, HX.out.2.2]; rfl, HB2.out⟩
        ·rw [hr] at HR
         have HX : Hid (v = numZ 16 4 t ∧ bt = false ∧ sz = 6) := by
          have := h.out
          rw [esc_u (fun g => g.elim h92 hcq)] at this
          unfold runE at this
          rw [if_pos ⟨h0, hr⟩] at this
          cases this
          exact ⟨rfl, rfl, rfl⟩
         clear h hr h92 hcq hlt2 HN1
         generalize numZ 16 4 t = zz at *
         generalize q.toNat = qn at *
         go_wp2_with fail
         refine (HN.out _).mono ?_
         rintro e w3 ⟨rfl, rfl⟩
         go_wp2_with fail
         refine (HR.out _).mono ?_
         rintro e w4 ⟨rfl, rfl⟩
         go_wp2_with fail
         go_ret3
         exact ⟨by rw [HX.out.1, HX.out.2.1, HX.out.2.2]; rfl, HB2.out⟩
       ·have HX : Hid (v = 0 ∧ bt = false ∧ sz = 0) := by
         have := h.out
         rw [esc_u (fun g => g.elim h92 hcq)] at this
         unfold runE at this
         rw [if_neg (fun g => h0 g.1)] at this
         cases this
         exact ⟨rfl, rfl, rfl⟩
        clear h h92 hcq hlt2 HN1
        generalize numZ 16 4 t = zz at *
        generalize q.toNat = qn at *
        go_wp2_with fail
        refine (HN.out _).mono ?_
        rintro e w3 ⟨rfl, rfl⟩
        go_wp2_with fail
        go_ret3
        exact ⟨by rw [HX.out.1, HX.out.2.1, HX.out.2.2]; rfl, HB2.out⟩
      ·have e117 : ((c.toNat : Int) == 117) = false := eq_byte h117
       by_cases h85 : c = 85
       ·subst h85
        have hx1 : ∀ W, (Instr.index 9 (.string z) (.int .i64 1)).run Tryd.prog W = .ok (.int .u8 85) W := hx
        have ecq2 : ((85 : Int) == (q.toNat : Int)) = false := ecq
        clear hx ecq e92
        have HN : Hid (∀ V, Calls Tryd.prog 33 #[.string z, .int .i64 2, .int .i64 8, .int .i64 16] V fun e w' => e = .returned (.int .i64 (numZ 16 8 t)) ∧ w' = V) := fun V => HN1.out 2 8 16 V (by decide) (by decide) (by decide)
        have HR := Lib.hid (fun V => Rune_any (numZ 16 8 t) V)
        have hlt2 := numZ_lt 8 16 t (by decide)
        by_cases h0 : 0 ≤ numZ 16 8 t
        ·cases hr : U.isRune (numZ 16 8 t)
         ·rw [hr] at HR
          have HX : Hid (v = 0 ∧ bt = false ∧ sz = 0) := by
           have := h.out
           rw [esc_U (fun g => g.elim h92 hcq)] at this
           unfold runE at this
           rw [if_neg (fun g => by rw [hr] at g; cases g.2)] at this
           cases this
           exact ⟨rfl, rfl, rfl⟩
          clear h hr h92 hcq hlt2 HN1
          generalize numZ 16 8 t = zz at *
          generalize q.toNat = qn at *
          go_wp2_with fail
          refine (HN.out _).mono ?_
          rintro e w3 ⟨rfl, rfl⟩
          go_wp2_with fail
          refine (HR.out _).mono ?_
          rintro e w4 ⟨rfl, rfl⟩
          go_wp2_with fail
          go_ret3
          exact ⟨by rw [HX.out.1, HX.out.2.1, HX.out.2.2]; rfl, HB2.out⟩
         ·rw [hr] at HR
          have HX : Hid (v = numZ 16 8 t ∧ bt = false ∧ sz = 10) := by
           have := h.out
           rw [esc_U (fun g => g.elim h92 hcq)] at this
           unfold runE at this
           rw [if_pos ⟨h0, hr⟩] at this
           cases this
           exact ⟨rfl, rfl, rfl⟩
          clear h hr h92 hcq hlt2 HN1
          generalize numZ 16 8 t = zz at *
          generalize q.toNat = qn at *
          go_wp2_with fail
          refine (HN.out _).mono ?_
          rintro e w3 ⟨rfl, rfl⟩
          go_wp2_with fail
          refine (HR.out _).mono ?_
          rintro e w4 ⟨rfl, rfl⟩
          go_wp2_with fail
          go_ret3
          exact ⟨by rw [HX.out.1, HX.out.2.1, HX.out.2.2]; rfl, HB2.out⟩
        ·have HX : Hid (v = 0 ∧ bt = false ∧ sz = 0) := by
          have := h.out
          rw [esc_U (fun g => g.elim h92 hcq)] at this
          unfold runE at this
          rw [if_neg (fun g => h0 g.1)] at this
          cases this
          exact ⟨rfl, rfl, rfl⟩
         clear h h92 hcq hlt2 HN1
         generalize numZ 16 8 t = zz at *
         generalize q.toNat = qn at *
         go_wp2_with fail
         refine (HN.out _).mono ?_
         rintro e w3 ⟨rfl, rfl⟩
         go_wp2_with fail
         go_ret3
         exact ⟨by rw [HX.out.1, HX.out.2.1, HX.out.2.2]; rfl, HB2.out⟩
       ·have e85 : ((c.toNat : Int) == 85) = false := eq_byte h85
        have HN : Hid (∀ V, Calls Tryd.prog 33 #[.string z, .int .i64 1, .int .i64 3, .int .i64 8] V fun e w' => e = .returned (.int .i64 (numZ 8 3 (c :: t))) ∧ w' = V) := fun V => HN1.out 1 3 8 V (by decide) (by decide) (by decide)
        by_cases h0 : 0 ≤ numZ 8 3 (c :: t) ∧ numZ 8 3 (c :: t) < 256
        ·have HX : Hid (v = numZ 8 3 (c :: t) ∧ bt = true ∧ sz = 4) := by
          have := h.out
          rw [esc_o hlz.out (fun g => g.elim h92 hcq) h120 h117 h85, if_pos h0] at this
          cases this
          exact ⟨rfl, rfl, rfl⟩
         obtain ⟨h01, h02⟩ := h0
         clear h h92 hcq h120 h117 h85 HN1
         generalize numZ 8 3 (c :: t) = zz at *
         generalize q.toNat = qn at *
         generalize c.toNat = cn at *
         go_wp2_with fail
         refine (HN.out _).mono ?_
         rintro e w3 ⟨rfl, rfl⟩
         go_wp2_with fail
         go_ret3
         exact ⟨by rw [HX.out.1, HX.out.2.1, HX.out.2.2]; rfl, HB2.out⟩
        ·have HX : Hid (v = 0 ∧ bt = false ∧ sz = 0) := by
          have := h.out
          rw [esc_o hlz.out (fun g => g.elim h92 hcq) h120 h117 h85, if_neg h0] at this
          cases this
          exact ⟨rfl, rfl, rfl⟩
         by_cases h01 : 0 ≤ numZ 8 3 (c :: t)
         ·have h02 : ¬ numZ 8 3 (c :: t) < 256 := fun g => h0 ⟨h01, g⟩
          clear h h0 h92 hcq h120 h117 h85 HN1
          generalize numZ 8 3 (c :: t) = zz at *
          generalize q.toNat = qn at *
          generalize c.toNat = cn at *
          go_wp2_with fail
          refine (HN.out _).mono ?_
          rintro e w3 ⟨rfl, rfl⟩
          go_wp2_with fail
          go_ret3
          exact ⟨by rw [HX.out.1, HX.out.2.1, HX.out.2.2]; rfl, HB2.out⟩
         ·clear h h0 h92 hcq h120 h117 h85 HN1
          generalize numZ 8 3 (c :: t) = zz at *
          generalize q.toNat = qn at *
          generalize c.toNat = cn at *
          go_wp2_with fail
          refine (HN.out _).mono ?_
          rintro e w3 ⟨rfl, rfl⟩
          go_wp2_with fail
          go_ret3
          exact ⟨by rw [HX.out.1, HX.out.2.1, HX.out.2.2]; rfl, HB2.out⟩
end Go.Proofs.YtcieibidnpemjaaDoor
