/-
  strings.IndexAny with "eE", at any bytes.
-/
import Derived.Test.YtgoemhcngmpfbaaGreatDoorMx13
import Derived.Test.YtgoemhcngmpfbaaGreatDoorMx01
import Derived.Laws.RangeAny
import Derived.WalkMore
import Derived.Laws.Runes
import Derived.Lib.IndexAny
import Derived.Lib.OthersKept
import Derived.Test.YtgoemhcngmpfbaaGreatDoorMx02
namespace Go.Proofs.YtgoemhcngmpfbaaGreatDoor
open Go.RowKit Go.Sort
set_option linter.unusedSimpArgs false
theorem decode_skip (s : ByteArray) (pos : Nat) (h : pos < s.size) (ha : 128 ≤ (s[pos]'h).toNat) :
    pos + (Utf8.decode s pos).2 ≤ s.size ∧ ∀ j, j < (Utf8.decode s pos).2 → 128 ≤ (s.get! (pos + j)).toNat := by
  have hn : ¬ (s[pos]'h).toNat < 128 := by omega
  have h0 : 128 ≤ (s.get! (pos + 0)).toNat := by rw [get_at s pos h]; exact ha
  have one : pos + 1 ≤ s.size ∧ ∀ j, j < 1 → 128 ≤ (s.get! (pos + j)).toNat := ⟨by omega, fun j hj => by obtain rfl : j = 0 := by omega
                                                                                                         exact h0⟩
  unfold Utf8.decode
  simp only [get_at s pos h, hn, if_false]
  split
  · rename_i c
    simp only [Bool.and_eq_true, beq_iff_eq, decide_eq_true_eq] at c
    split
    · refine ⟨by show pos + 2 ≤ _; omega, fun j hj => ?_⟩
      match j, hj with
      | 0, _ => exact h0
      | 1, _ => omega
      | k + 2, hj => exact absurd hj (by show ¬ k + 2 < 2; omega)
    · exact one
  · split
    · rename_i c
      simp only [Bool.and_eq_true, beq_iff_eq, decide_eq_true_eq] at c
      split
      · refine ⟨by show pos + 3 ≤ _; omega, fun j hj => ?_⟩
        match j, hj with
        | 0, _ => exact h0
        | 1, _ => omega
        | 2, _ => omega
        | k + 3, hj => exact absurd hj (by show ¬ k + 3 < 3; omega)
      · exact one
    · split
      · rename_i c
        simp only [Bool.and_eq_true, beq_iff_eq, decide_eq_true_eq] at c
        split
        · refine ⟨by show pos + 4 ≤ _; omega, fun j hj => ?_⟩
          match j, hj with
          | 0, _ => exact h0
          | 1, _ => omega
          | 2, _ => omega
          | 3, _ => omega
          | k + 4, hj => exact absurd hj (by show ¬ k + 4 < 4; omega)
        · exact one
      · exact one
theorem valid_same (r : Int) : Lib.validRune r = Utf8.valid r := by
 unfold Lib.validRune Utf8.valid
 rw [Bool.eq_iff_iff]
 simp
 omega
set_option maxRecDepth 100000 in
set_option maxHeartbeats 4000000 in
theorem IndexRune_eE (r : Int) (h : 128 ≤ r) (w : World) :
  Calls Tryz.prog 133 #[.string ⟨#[101, 69]⟩, .int .i32 r] w fun e w' => e = .returned (.int .i64 (-1)) ∧ Below w.heap.size w w' := by
 have h1 : 0 ≤ r := by omega
 have h2 : ¬ r < 128 := by omega
 by_cases he : r = 65533
 ·subst he
  have n0 : ∀ ty, (Instr.next (.pointer (some ⟨w.heap.size, 0, none⟩)) true ty).run Tryz.prog (w.iter ⟨#[101, 69]⟩ 0) = .ok (.tuple #[.bool true, .int .i64 0, .int .i32 101]) (w.iter ⟨#[101, 69]⟩ 1) := fun ty => run_next_ascii (P := Tryz.prog) w ⟨#[101, 69]⟩ 0 ty (by decide) (by decide)
  have n1 : ∀ ty, (Instr.next (.pointer (some ⟨w.heap.size, 0, none⟩)) true ty).run Tryz.prog (w.iter ⟨#[101, 69]⟩ 1) = .ok (.tuple #[.bool true, .int .i64 1, .int .i32 69]) (w.iter ⟨#[101, 69]⟩ 2) := fun ty => run_next_ascii (P := Tryz.prog) w ⟨#[101, 69]⟩ 1 ty (by decide) (by decide)
  have n2 := fun ty => run_next_end (P := Tryz.prog) w ⟨#[101, 69]⟩ 2 ty (by decide)
  clear h h1 h2
  go_enter Tryz.func133, Tryz.ntmps133
  go_wp2_with fail
  go_loopg [5, 6] 3 (fun h _ _ wx => ∃ i : Nat, Hid (i + h = 3) ∧ i ≤ 2 ∧ wx = w.iter ⟨#[101, 69]⟩ i)
  case atStart => exact ⟨0, by show _ = _; omega, by omega, rfl⟩
  case round =>
   obtain ⟨i, HI, hi2, rfl⟩ := hrel
   match i, hi2 with
   | 0, _ =>
    go_wp2_with fail
    go_roundg 2
    case measure => have := HI.out; omega
    case rel => exact ⟨1, by show _ = _; omega, by omega, rfl⟩
   | 1, _ =>
    go_wp2_with fail
    go_roundg 1
    case measure => have := HI.out; omega
    case rel => exact ⟨2, by show _ = _; omega, by omega, rfl⟩
   | 2, _ =>
    go_wp2_with fail
    go_ret
    exact ⟨rfl, below_alloc _ _⟩
 ·have HV := Lib.hid (fun W => Tryz.utf8_ValidRune r W)
  have he2 : (r == 65533) = false := beq_eq_false_iff_ne.2 he
  cases hv : Lib.validRune r
  ·rw [hv] at HV
   clear h he hv
   go_enter Tryz.func133, Tryz.ntmps133
   go_wp2_with fail
   refine (HV.out _).mono ?_
   rintro e w1 ⟨rfl, rfl⟩
   go_wp2_with fail
   go_ret
   exact ⟨rfl, Below.refl _ _⟩
  ·rw [hv] at HV
   rw [valid_same] at hv
   obtain ⟨l1, l2, l3⟩ := encode_facts r hv h
   obtain ⟨rs, hrs⟩ : ∃ rs, Utf8.encode r = rs := ⟨_, rfl⟩
   rw [hrs] at l1 l2 l3
   have HCV : ∀ W, (convert 21 9 (.int .i32 r)).run Tryz.prog W = .ok (.string rs) W := fun W => by
    rw [run_convert_int_string W _ _ _ _ (by kernel_rfl) Tryz.underlying9, hrs]
   clear h he hv hrs
   by_cases hs2 : rs.size = 2
   ·obtain ⟨b, hb⟩ := get_of_lt (s := rs) (i := 1) (by omega)
    have hb128 : 128 ≤ b.toNat := by
     have h4 := l3 (by omega)
     have h5 : rs[rs.size - 1]'(by omega) = b := by
      obtain ⟨h6, h7⟩ := List.getElem?_eq_some_iff.1 hb
      rw [← h7]
      simp [hs2]
      rfl
     rwa [h5] at h4
    have hix := index_at hb
    have hiy : ∀ W, (Instr.index 9 (.string ⟨#[101, 69]⟩) (.int .i64 1)).run Tryz.prog W = .ok (.int .u8 69) W := fun W => index_at (s := ⟨#[101, 69]⟩) (i := 1) (b := 69) rfl W
    rw [Int.natCast_one] at hix
    have hne : ((69 : Int) == (b.toNat : Int)) = false := beq_eq_false_iff_ne.2 (by omega)
    have HIB : Hid (∀ W, Calls Tryz.prog 130 #[.string ⟨#[]⟩, .int .u8 (b.toNat : Int)] W fun e w' => e = .returned (.int .i64 (-1)) ∧ ∃ m, w' = W.drewN m) := fun W => (Tryz.strings_IndexByte ⟨#[]⟩ (b.toNat : Int) W).mono fun e w' h => ⟨h.1, 0, h.2⟩
    have hsl : ∀ W, (Instr.slice 9 (.string ⟨#[101, 69]⟩) (some (.int .i64 2)) none none).run Tryz.prog W = .ok (.string ⟨#[]⟩) W := fun W => by kernel_rfl
    have hw2 : IntKind.i64.wrap 2 = 2 := by decide
    generalize b.toNat = bn at *
    clear l1 l2 l3 hb hb128
    go_enter Tryz.func133, Tryz.ntmps133
    go_wp2_with fail
    refine (HV.out _).mono ?_
    rintro e w1 ⟨rfl, rfl⟩
    go_wp2_with fail
    go_step3
    go_wp2_with fail
    refine wp_loop_rounds 1 ?_
    rw [rounds_succ]
    go_wp2_with fail
    go_step3
    go_wp2_with fail
    go_quiet (fail)
    go_wp2_with fail
    have HW2 : Hid (Below w1.heap.size w1 (w1.drewN nq)) := (Below.refl _ _).drewN nq
    generalize w1.drewN nq = wq at *
    go_quiet (first | (go_at_call 130; refine Calls.quiet_of (HIB.out _)) | fail)
    go_wp2_with fail
    (try simp only [Exit.noGoto_ret, Exit.inBlock, Exit.then])
    go_ret
    exact ⟨rfl, HW2.out.drewN _⟩
   ·have hl : ¬ ((rs.size : Int) - 1 < 2) := by omega
    have hsz2 : 3 ≤ rs.size ∧ rs.size ≤ 4 := by omega
    clear l3 hs2 l1 l2
    go_enter Tryz.func133, Tryz.ntmps133
    go_wp2_with fail
    refine (HV.out _).mono ?_
    rintro e w1 ⟨rfl, rfl⟩
    go_wp2_with fail
    go_step3
    go_wp2_with fail
    refine wp_loop_rounds 1 ?_
    rw [rounds_succ]
    go_wp2_with fail
    (try simp only [Exit.noGoto_ret, Exit.inBlock, Exit.then])
    go_ret
    exact ⟨rfl, Below.refl _ _⟩
theorem get_data {s : ByteArray} {i : Nat} (h : i < s.size) : s.data.toList[i]? = some (s.get! i) := by
 have e : s.get! i = s[i]'h := by
  simp [ByteArray.get!, getElem!_pos, h]
  rfl
 rw [e]
 exact Lib.data_getElem? s i h
theorem noAny_skip {l : List UInt8} {i n : Nat} (h : Lib.NoAny l [101, 69] i) (hn : ∀ j b, j < n → l[i + j]? = some b → 128 ≤ b.toNat) : Lib.NoAny l [101, 69] (i + n) := fun j b hj hb => by
 by_cases e : j < i
 ·exact h j b e hb
 ·have h1 := hn (j - i) b (by omega) (by rw [show i + (j - i) = j by omega]; exact hb)
  have h2 : b ≠ 101 := fun e => by rw [e] at h1; exact absurd h1 (by decide)
  have h3 : b ≠ 69 := fun e => by rw [e] at h1; exact absurd h1 (by decide)
  simp [h2, h3]
set_option maxRecDepth 100000 in
set_option maxHeartbeats 4000000 in
theorem IndexAny_short_eE (s : ByteArray) (w : World) (h8 : s.size ≤ 8) :
  Calls Tryz.prog 105 #[.string s, .string ⟨#[101, 69]⟩] w fun e w' => e = .returned (.int .i64 (Lib.indexAny s.data.toList [101, 69])) ∧ Below w.heap.size w w' := by
 obtain ⟨K, hK⟩ : ∃ K, w.heap.size = K := ⟨_, rfl⟩
 have h0 := World.iter_heap w s 0
 have b0 := below_alloc w (.stringIter s 0)
 rw [hK] at h0 b0 ⊢
 have H0 := Lib.hid h0
 have B0 := Lib.hid b0
 clear h0 b0
 have h8z : decide ((8 : Int) < (s.size : Int)) = false := decide_eq_false (by omega)
 have HSU := Lib.hid (fun W => Tryz.strings_shouldUseASCIISet (s.size : Int) W)
 rw [h8z] at HSU
 clear h8z
 go_enter Tryz.func105, Tryz.ntmps105
 go_wp2_with fail
 refine (HSU.out _).mono ?_
 rintro e w1 ⟨rfl, rfl⟩
 go_wp2_with fail
 clear hK
 go_loopg [9, 10] (s.size + 1) (fun h _ _ wx => ∃ (i : Nat) (W : World), Hid (i + h ≥ s.size + 1) ∧ i ≤ s.size ∧ Hid (Lib.NoAny s.data.toList [101, 69] i) ∧ wx = W ∧ Hid (W.heap[K]? = some (.stringIter s i) ∧ Below K w1 W))
 case atStart => exact ⟨0, _, by show _ ≥ _; omega, by omega, Lib.NoAny.zero _ _, rfl, H0.out, B0.out⟩
 case round =>
  obtain ⟨i, W, HI, hin, HN, rfl, HW⟩ := hrel
  by_cases hlt : i < s.size
  ·have hlr : K < wr.heap.size := by
    rcases Nat.lt_or_ge K wr.heap.size with h | h
    ·exact h
    ·have := HW.out.1; rw [Array.getElem?_eq_none h] at this; cases this
   have hx := get_data hlt
   have hnx := fun ty => Lib.run_next_any_at (P := Tryz.prog) wr K s i ty HW.out.1 hlt
   have hit := Lib.iterAt_heap wr K s i (i + (Utf8.decode s i).2) HW.out.1
   have hbl := Lib.below_iterAt HW.out.2 (Nat.le_refl _) s (i + (Utf8.decode s i).2)
   have hsz := Lib.iterAt_size wr K s (i + (Utf8.decode s i).2)
   obtain ⟨W2, hW2⟩ : ∃ W2, wr.iterAt K s (i + (Utf8.decode s i).2) = W2 := ⟨_, rfl⟩
   rw [hW2] at hit hbl hsz
   simp only [hW2] at hnx
   have HIT := Lib.hid hit
   have HBL := Lib.hid hbl
   have HSZ : Hid (K < W2.heap.size) := by show _ < _; rw [hsz]; exact hlr
   have hgx : s.get! i = s[i]'hlt := get_at s i hlt
   clear hW2 hit hbl hsz hlr
   by_cases ha : (s.get! i).toNat < 128
   ·have hd := decode_ascii s i hlt (by rw [← hgx]; exact ha)
    rw [hd, ← hgx] at hnx
    rw [hd] at HIT
    generalize s.get! i = x at *
    clear hgx hd
    have HR := fun V => Tryz.strings_IndexRune_ascii ⟨#[101, 69]⟩ (x.toNat : Int) V (by omega) (by omega)
    have hb : ((x.toNat : Int)).toNat.toUInt8 = x := by simp
    rw [hb] at HR
    have hcon := Lib.contains_iff_indexByte [101, 69] x
    have hcl : (⟨#[101, 69]⟩ : ByteArray).data.toList = [101, 69] := rfl
    rw [hcl] at HR
    have HX := Lib.hid hx
    generalize Lib.indexByte [101, 69] x = z at *
    replace HR := Lib.hid HR
    clear hx hb hcl
    cases hc : ([101, 69] : List UInt8).contains x
    ·rw [hc] at hcon
     have hz : ¬ (0 : Int) ≤ z := of_decide_eq_false hcon.symm
     have HN2 := Lib.hid (HN.out.succ HX.out hc)
     clear hcon hc
     go_wp2_with fail
     refine (HR.out _).mono ?_
     rintro e w3 ⟨rfl, rfl⟩
     go_wp2_with fail
     go_roundg (s.size - i)
     case measure => have := HI.out; omega
     case rel => exact ⟨i + 1, _, by show _ ≥ _; omega, by omega, HN2, rfl, HIT.out, HBL.out⟩
    ·rw [hc] at hcon
     have hz : (0 : Int) ≤ z := of_decide_eq_true hcon.symm
     have HE : Hid (Lib.indexAny s.data.toList [101, 69] = (i : Int)) := Lib.indexAny_hit HN.out HX.out hc
     clear hcon hc
     go_wp2_with fail
     refine (HR.out _).mono ?_
     rintro e w3 ⟨rfl, rfl⟩
     go_wp2_with fail
     go_ret
     exact ⟨by rw [HE.out]; rfl, HBL.out⟩
   ·have h128 : 128 ≤ (s[i]'hlt).toNat := by rw [← hgx]; omega
    obtain ⟨k1, k2⟩ := decode_high s i hlt h128
    obtain ⟨k3, k4⟩ := decode_skip s i hlt h128
    have k5 := decode_le s i
    have HN2 : Hid (Lib.NoAny s.data.toList [101, 69] (i + (Utf8.decode s i).2)) := noAny_skip HN.out (fun j b hj hb => by
     have h1 : i + j < s.size := by omega
     rw [get_data h1] at hb
     cases hb
     exact k4 j hj)
    generalize (Utf8.decode s i).1 = r at *
    generalize (Utf8.decode s i).2 = n at *
    have HR := Lib.hid (fun V => IndexRune_eE (r : Int) (by omega) V)
    clear k4 hx hgx ha h128
    go_wp2_with fail
    refine (HR.out _).mono ?_
    rintro e w3 ⟨rfl, hw3⟩
    have HIT3 : Hid (w3.heap[K]? = some (.stringIter s (i + n))) := by
     show _ = _
     rw [hw3.block _ HSZ.out]
     exact HIT.out
    have HBL3 : Hid (Below K w1 w3) := HBL.out.trans (hw3.mono (Nat.le_of_lt HSZ.out))
    clear hw3
    go_wp2_with fail
    go_roundg (s.size - i)
    case measure => have := HI.out; omega
    case rel => exact ⟨i + n, _, by show _ ≥ _; omega, by omega, HN2, rfl, HIT3.out, HBL3.out⟩
  ·obtain rfl : i = s.size := by omega
   have hnx := fun ty => Lib.run_next_end_at (P := Tryz.prog) wr K s s.size ty HW.out.1 (Nat.lt_irrefl _)
   have HE : Hid (Lib.indexAny s.data.toList [101, 69] = -1) := Lib.indexAny_none (by have := HN.out; rwa [show s.data.toList.length = s.size by simp])
   go_wp2_with fail
   go_ret
   exact ⟨by rw [HE.out]; rfl, HW.out.2⟩
theorem IndexAny_eE (s : ByteArray) (w : World) (hs : s.size < 4294967281) :
  Calls Tryz.prog 105 #[.string s, .string ⟨#[101, 69]⟩] w fun e w' => e = .returned (.int .i64 (Lib.indexAny s.data.toList [101, 69])) ∧ Below w.heap.size w w' := by
 by_cases h8 : s.size ≤ 8
 ·exact IndexAny_short_eE s w h8
 ·refine (Tryz.strings_IndexAny_long (fun _ => by kernel_rfl) s ⟨#[101, 69]⟩ w (by decide) (by omega) hs (by decide) (fun j b hb => ?_)).mono fun e w' h => ⟨h.1, by rw [h.2]; exact (below_alloc _ _).alloc (by simp) _⟩
  match j, hb with
  | 0, hb => cases hb; decide
  | 1, hb => cases hb; decide
end Go.Proofs.YtgoemhcngmpfbaaGreatDoor
namespace Go.Proofs.YtgoemhcngmpfbaaGreatDoor
open Go.RowKit
theorem int_slice : SliceK .i64 55 3 := ⟨Tryz.underlying55, 8, by omega, by kernel_rfl⟩
end Go.Proofs.YtgoemhcngmpfbaaGreatDoor
namespace Go.Proofs.YtgoemhcngmpfbaaGreatDoor
open Go.RowKit
def dg (n i : Nat) : Nat := dig 65536 n i
def nl (n : Nat) : Nat := nlen 65536 n
theorem dg_lt (n i : Nat) : dg n i < 65536 := dig_lt (by decide) n i
theorem lt_nl (n : Nat) : n < 65536 ^ nl n := lt_nlen (by decide) n
theorem nl_zero : nl 0 = 0 := nlen_zero _
theorem nl_eq_zero {n : Nat} : nl n = 0 ↔ n = 0 := nlen_eq_zero (by decide)
theorem nl_le {n k : Nat} (h : n < 65536 ^ k) : nl n ≤ k := nlen_le_of_lt (by decide) h
theorem nl_mono {a b : Nat} (h : a ≤ b) : nl a ≤ nl b := nlen_mono (by decide) h
theorem nl_uniq {n k : Nat} (h : n < 65536 ^ k) (h2 : k ≠ 0 → 65536 ^ (k - 1) ≤ n) : nl n = k := nlen_uniq (by decide) h h2
theorem nl_ge {n i : Nat} (h : 65536 ^ i ≤ n) : i < nl n := by
 have h1 := lt_nl n
 exact (Nat.pow_lt_pow_iff_right (a := 65536) (by decide)).1 (Nat.lt_of_le_of_lt h h1)
theorem ge_of_nl {n i : Nat} (h : i < nl n) : 65536 ^ i ≤ n := by
 rcases Nat.lt_or_ge n (65536 ^ i) with h1 | h1
 ·have := nl_le h1
  omega
 ·exact h1
theorem dg_high {n i : Nat} (h : nl n ≤ i) : dg n i = 0 := dig_high (Nat.lt_of_lt_of_le (lt_nl n) (Nat.pow_le_pow_right (by decide) h))
theorem dg_zero (i : Nat) : dg 0 i = 0 := dig_zero _ i
theorem nl_of_dg {n j : Nat} (h : n < 65536 ^ (j + 1)) (hd : dg n j ≠ 0) : nl n = j + 1 :=
 nl_uniq h fun _ => by
  rcases Nat.lt_or_ge n (65536 ^ j) with h1 | h1
  ·exact absurd (dig_high h1) hd
  ·exact h1
theorem lt_of_dg {n j : Nat} (h : n < 65536 ^ (j + 1)) (hd : dg n j = 0) : n < 65536 ^ j := by
 have h1 : n / 65536 ^ (j + 1) = 0 := Nat.div_eq_of_lt h
 have h2 := div_dig 65536 n j
 rw [h1] at h2
 have h3 : n / 65536 ^ j = 0 := by
  rw [h2]
  show 65536 * 0 + dg n j = 0
  rw [hd]
 rcases Nat.lt_or_ge n (65536 ^ j) with h4 | h4
 ·exact h4
 ·have := Nat.div_pos h4 (Nat.pow_pos (by decide) : 0 < 65536 ^ j)
  omega
theorem p654 : (65536 : Nat) ^ 4 = 18446744073709551616 := by decide
theorem wd_eq (n i : Nat) : wd n i = n / 65536 ^ (4 * i) % 65536 ^ 4 := by
 show n / 18446744073709551616 ^ i % 18446744073709551616 = _
 rw [Nat.pow_mul, p654]
theorem wd_dg (n i : Nat) {k : Nat} (hk : k < 4) : wd n i / 65536 ^ k % 65536 = dg n (4 * i + k) := by
 rw [wd_eq]
 show dig 65536 (n / 65536 ^ (4 * i) % 65536 ^ 4) k = dig 65536 n (4 * i + k)
 rw [dig_mod hk, dig_div, Nat.add_comm]
theorem fits_dg (n : Nat) : Fits n ↔ n < 65536 ^ 32 := by
 show n < 18446744073709551616 ^ 8 ↔ _
 have : (18446744073709551616 : Nat) ^ 8 = 65536 ^ 32 := by decide
 rw [this]
def toF (n j i : Nat) : Nat := wd n i / 65536 ^ (j - 4 * i)
theorem toF_start {n j i : Nat} (h : n < 65536 ^ j) : toF n j i = 0 := by
 unfold toF
 apply Nat.div_eq_of_lt
 rw [wd_eq]
 rcases Nat.lt_or_ge j (4 * i) with h1 | h1
 ·have h2 : n < 65536 ^ (4 * i) := Nat.lt_of_lt_of_le h (Nat.pow_le_pow_right (by decide) (by omega))
  rw [Nat.div_eq_of_lt h2, Nat.zero_mod]
  exact Nat.pow_pos (by decide)
 ·refine Nat.lt_of_le_of_lt (Nat.mod_le _ _) ((Nat.div_lt_iff_lt_mul (Nat.pow_pos (by decide))).2 ?_)
  rw [← Nat.pow_add, Nat.sub_add_cancel h1]
  exact h
theorem toF_end (n i : Nat) : toF n 0 i = wd n i := by
 unfold toF
 rw [Nat.zero_sub, Nat.pow_zero, Nat.div_one]
theorem toF_step (n j : Nat) : toF n (j + 1) (j / 4) * 65536 + dg n j = toF n j (j / 4) := by
 unfold toF
 have h1 : j - 4 * (j / 4) = j % 4 := by omega
 have h2 : j + 1 - 4 * (j / 4) = j % 4 + 1 := by omega
 rw [h1, h2]
 have h3 := div_dig 65536 (wd n (j / 4)) (j % 4)
 have h4 := wd_dg n (j / 4) (k := j % 4) (by omega)
 have h5 : 4 * (j / 4) + j % 4 = j := by omega
 rw [h5] at h4
 have h6 : dig 65536 (wd n (j / 4)) (j % 4) = dg n j := h4
 rw [h6] at h3
 rw [h3, Nat.mul_comm]
theorem toF_other {n j i : Nat} (h : i ≠ j / 4) : toF n (j + 1) i = toF n j i := by
 unfold toF
 rcases Nat.lt_or_ge j (4 * i) with h1 | h1
 ·rw [show j + 1 - 4 * i = 0 by omega, show j - 4 * i = 0 by omega]
 ·have e1 : wd n i < 65536 ^ 4 := by rw [p654]; exact wd_lt n i
  have l1 : 65536 ^ 4 ≤ 65536 ^ (j - 4 * i) := Nat.pow_le_pow_right (by decide) (by omega)
  have l2 : 65536 ^ 4 ≤ 65536 ^ (j + 1 - 4 * i) := Nat.pow_le_pow_right (by decide) (by omega)
  rw [Nat.div_eq_of_lt (by omega), Nat.div_eq_of_lt (by omega)]
theorem toF_lt (n j i : Nat) : toF n j i < 18446744073709551616 := Nat.lt_of_le_of_lt (Nat.div_le_self _ _) (wd_lt n i)
def pc (a b i : Nat) : Nat := car 65536 1 a 1 b 0 i
theorem pc_zero (a b : Nat) : pc a b 0 = 0 := car_zero _ _ _ _ _ _
theorem pc_le (a b i : Nat) : pc a b i ≤ 1 := Nat.le_of_lt_succ (car_lt (by decide) 1 a 1 b 0 i (Nat.le_refl 2) (by decide))
theorem pc_mod (a b i : Nat) : (dg a i + dg b i + pc a b i) % 65536 = dg (a + b) i := by
 have := lin_mod (B := 65536) (by decide) 1 a 1 b 0 i
 simp only [Nat.one_mul, Nat.add_zero] at this
 exact this
theorem pc_div (a b i : Nat) : (dg a i + dg b i + pc a b i) / 65536 = pc a b (i + 1) := by
 have := lin_div (B := 65536) (by decide) 1 a 1 b 0 i
 simp only [Nat.one_mul] at this
 exact this
theorem pc_top {a b i : Nat} (ha : nl a ≤ i) (hb : nl b ≤ i) : pc a b i = (a + b) / 65536 ^ i := by
 have h1 : a < 65536 ^ i := Nat.lt_of_lt_of_le (lt_nl a) (Nat.pow_le_pow_right (by decide) ha)
 have h2 : b < 65536 ^ i := Nat.lt_of_lt_of_le (lt_nl b) (Nat.pow_le_pow_right (by decide) hb)
 have := car_top 65536 1 1 0 i h1 h2
 simp only [Nat.one_mul, Nat.add_zero] at this
 exact this
theorem plus_on (a b i : Nat) : (i < nl a ∨ i < nl b ∨ 0 < pc a b i) ↔ i < nl (a + b) := by
 constructor
 ·rintro (h | h | h)
  ·exact Nat.lt_of_lt_of_le h (nl_mono (by omega))
  ·exact Nat.lt_of_lt_of_le h (nl_mono (by omega))
  ·by_cases h1 : i < nl a
   ·exact Nat.lt_of_lt_of_le h1 (nl_mono (by omega))
   ·by_cases h2 : i < nl b
    ·exact Nat.lt_of_lt_of_le h2 (nl_mono (by omega))
    ·rw [pc_top (by omega) (by omega)] at h
     have hP : 0 < 65536 ^ i := Nat.pow_pos (by decide)
     refine nl_ge ?_
     rcases Nat.lt_or_ge (a + b) (65536 ^ i) with h3 | h3
     ·rw [Nat.div_eq_of_lt h3] at h; omega
     ·exact h3
 ·intro h
  by_cases h1 : i < nl a
  ·exact Or.inl h1
  ·by_cases h2 : i < nl b
   ·exact Or.inr (Or.inl h2)
   ·refine Or.inr (Or.inr ?_)
    rw [pc_top (by omega) (by omega)]
    exact Nat.div_pos (ge_of_nl h) (Nat.pow_pos (by decide))
theorem nl_add_le (a b : Nat) : nl (a + b) ≤ nl a + nl b + 1 := by
 rcases Nat.lt_or_ge (nl a + nl b) (nl (a + b)) with h | h
 ·have h1 := ge_of_nl h
  have h2 : a < 65536 ^ (nl a + nl b) := Nat.lt_of_lt_of_le (lt_nl a) (Nat.pow_le_pow_right (by decide) (by omega))
  have h3 : b < 65536 ^ (nl a + nl b) := Nat.lt_of_lt_of_le (lt_nl b) (Nat.pow_le_pow_right (by decide) (by omega))
  refine nl_le ?_
  rw [Nat.pow_succ]
  omega
 ·omega
def mb (a b i : Nat) : Nat := brw 65536 a b i
theorem mb_zero (a b : Nat) : mb a b 0 = 0 := brw_zero _ _ _
theorem mb_le (a b i : Nat) : mb a b i ≤ 1 := brw_le _ _ _ _
theorem mb_step {a b : Nat} (h : b ≤ a) (i : Nat) : dg (a - b) i + dg b i + mb a b i = dg a i + 65536 * mb a b (i + 1) :=
 sub_step (B := 65536) (q := 0) (k := i + 1) (by decide) (by omega) (Nat.lt_succ_self i)
theorem mb_less {a b i : Nat} (h : b ≤ a) (hl : dg a i < dg b i + mb a b i) : dg a i + 65536 = dg (a - b) i + dg b i + mb a b i ∧ mb a b (i + 1) = 1 := by
 have h1 := mb_step h i
 have h2 := mb_le a b (i + 1)
 have h3 := dg_lt (a - b) i
 have h4 : mb a b (i + 1) = 1 := by
  rcases Nat.eq_zero_or_pos (mb a b (i + 1)) with h5 | h5
  ·rw [h5] at h1; omega
  ·omega
 rw [h4] at h1
 exact ⟨by omega, h4⟩
theorem mb_more {a b i : Nat} (h : b ≤ a) (hl : ¬ dg a i < dg b i + mb a b i) : dg a i = dg (a - b) i + dg b i + mb a b i ∧ mb a b (i + 1) = 0 := by
 have h1 := mb_step h i
 have h2 := mb_le a b (i + 1)
 have h3 := dg_lt (a - b) i
 have h4 : mb a b (i + 1) = 0 := by
  rcases Nat.eq_zero_or_pos (mb a b (i + 1)) with h5 | h5
  ·exact h5
  ·have : mb a b (i + 1) = 1 := by omega
   rw [this] at h1; omega
 rw [h4] at h1
 exact ⟨by omega, h4⟩
def mp (a b i : Nat) : Nat := a % 65536 ^ i * b
theorem mp_zero (a b : Nat) : mp a b 0 = 0 := by simp [mp, Nat.mod_one]
theorem mp_succ (a b i : Nat) : mp a b (i + 1) = mp a b i + 65536 ^ i * (dg a i * b) := by
 unfold mp
 rw [mod_succ, Nat.add_mul, Nat.mul_assoc]
 rfl
theorem mp_end {a b i : Nat} (h : nl a ≤ i) : mp a b i = a * b := by
 unfold mp
 rw [Nat.mod_eq_of_lt (Nat.lt_of_lt_of_le (lt_nl a) (Nat.pow_le_pow_right (by decide) h))]
def mc (a b i k : Nat) : Nat := car 65536 1 (mp a b i / 65536 ^ i) (dg a i) b 0 k
theorem mc_zero (a b i : Nat) : mc a b i 0 = 0 := car_zero _ _ _ _ _ _
theorem mc_lt (a b i k : Nat) : mc a b i k < 65536 :=
 car_lt (by decide) _ _ _ _ _ _ (by have := dg_lt a i; omega) (by decide)
theorem mp_high (a b i k : Nat) : dg (mp a b (i + 1)) (i + k) = dg (mp a b i / 65536 ^ i + dg a i * b) k := by
 rw [mp_succ]
 show dig 65536 _ _ = dig 65536 _ _
 rw [← Nat.add_mul_div_left _ _ (Nat.pow_pos (by decide) : 0 < 65536 ^ i), dig_div, Nat.add_comm k i]
theorem mp_shift (a b i k : Nat) : dg (mp a b i) (i + k) = dg (mp a b i / 65536 ^ i) k := by
 show dig 65536 _ _ = dig 65536 _ _
 rw [dig_div, Nat.add_comm k i]
theorem mc_mod (a b i k : Nat) : (dg (mp a b i) (i + k) + dg a i * dg b k + mc a b i k) % 65536 = dg (mp a b (i + 1)) (i + k) := by
 have := lin_mod (B := 65536) (by decide) 1 (mp a b i / 65536 ^ i) (dg a i) b 0 k
 rw [mp_high, mp_shift]
 simp only [Nat.one_mul, Nat.add_zero] at this
 exact this
theorem mc_div (a b i k : Nat) : (dg (mp a b i) (i + k) + dg a i * dg b k + mc a b i k) / 65536 = mc a b i (k + 1) := by
 have := lin_div (B := 65536) (by decide) 1 (mp a b i / 65536 ^ i) (dg a i) b 0 k
 rw [mp_shift]
 simp only [Nat.one_mul] at this
 exact this
theorem mp_low (a b i : Nat) {j : Nat} (h : j < i) : dg (mp a b (i + 1)) j = dg (mp a b i) j := by
 have h1 : mp a b (i + 1) % 65536 ^ i = mp a b i % 65536 ^ i := by rw [mp_succ, Nat.add_mul_mod_self_left]
 show dig 65536 _ _ = dig 65536 _ _
 rw [← dig_mod h, h1, dig_mod h]
theorem mp_row_lt (a b i : Nat) : mp a b i / 65536 ^ i < 65536 ^ nl b := by
 refine (Nat.div_lt_iff_lt_mul (Nat.pow_pos (by decide))).2 ?_
 unfold mp
 have h1 : a % 65536 ^ i < 65536 ^ i := Nat.mod_lt _ (Nat.pow_pos (by decide))
 rw [Nat.mul_comm]
 exact Nat.lt_of_le_of_lt (Nat.mul_le_mul_left b (Nat.le_of_lt h1)) (Nat.mul_lt_mul_of_pos_right (lt_nl b) (Nat.pow_pos (by decide)))
theorem mc_top {a b i k : Nat} (hk : nl b ≤ k) : mc a b i k = (mp a b i / 65536 ^ i + dg a i * b) / 65536 ^ k := by
 have h1 : mp a b i / 65536 ^ i < 65536 ^ k := Nat.lt_of_lt_of_le (mp_row_lt a b i) (Nat.pow_le_pow_right (by decide) hk)
 have h2 : b < 65536 ^ k := Nat.lt_of_lt_of_le (lt_nl b) (Nat.pow_le_pow_right (by decide) hk)
 have := car_top 65536 1 (dg a i) 0 k h1 h2
 simp only [Nat.one_mul, Nat.add_zero] at this
 exact this
theorem mc_done (a b i : Nat) : mc a b i (nl b + 1) = 0 := by
 rw [mc_top (by omega)]
 apply Nat.div_eq_of_lt
 have h1 := mp_row_lt a b i
 have h2 := dg_lt a i
 have h3 : dg a i * b ≤ 65535 * b := Nat.mul_le_mul_right _ (by omega)
 have h4 := lt_nl b
 rw [Nat.pow_succ]
 omega
theorem mp_rest {a b i k j : Nat} (hk : nl b ≤ k) (hc : mc a b i k = 0) (hj : i + k ≤ j) : dg (mp a b (i + 1)) j = dg (mp a b i) j := by
 rw [mc_top hk] at hc
 have hP : 0 < 65536 ^ k := Nat.pow_pos (by decide)
 have hQ : 0 < 65536 ^ i := Nat.pow_pos (by decide)
 have h1 : mp a b i / 65536 ^ i + dg a i * b < 65536 ^ k := by
  rcases Nat.lt_or_ge (mp a b i / 65536 ^ i + dg a i * b) (65536 ^ k) with h | h
  ·exact h
  ·have := Nat.div_pos h hP; omega
 have h2 : mp a b (i + 1) / 65536 ^ i < 65536 ^ k := by rw [mp_succ, Nat.add_mul_div_left _ _ hQ]; exact h1
 have h3 : mp a b (i + 1) < 65536 ^ j := by
  have := (Nat.div_lt_iff_lt_mul hQ).1 h2
  rw [← Nat.pow_add] at this
  exact Nat.lt_of_lt_of_le this (Nat.pow_le_pow_right (by decide) (by omega))
 have h4 : mp a b i < 65536 ^ j := by have := mp_succ a b i; omega
 show dig 65536 _ _ = dig 65536 _ _
 rw [dig_high h3, dig_high h4]
theorem mul_lt_nl (a b : Nat) : a * b < 65536 ^ (nl a + nl b + 1) := by
 have h1 := lt_nl a
 have h2 := lt_nl b
 have h3 : a * b < 65536 ^ nl a * 65536 ^ nl b := by
  by_cases hb : b = 0
  ·subst hb; rw [Nat.mul_zero]; exact Nat.mul_pos (Nat.pow_pos (by decide)) (Nat.pow_pos (by decide))
  ·exact Nat.lt_of_lt_of_le (Nat.mul_lt_mul_of_pos_right h1 (by omega)) (Nat.mul_le_mul_left _ (Nat.le_of_lt h2))
 rw [← Nat.pow_add] at h3
 exact Nat.lt_of_lt_of_le h3 (Nat.pow_le_pow_right (by decide) (by omega))
theorem nl_mul_le (a b : Nat) : nl (a * b) ≤ nl a + nl b := by
 refine nl_le ?_
 rw [Nat.pow_add]
 by_cases hb : b = 0
 ·subst hb; rw [Nat.mul_zero]; exact Nat.mul_pos (Nat.pow_pos (by decide)) (Nat.pow_pos (by decide))
 ·exact Nat.lt_of_lt_of_le (Nat.mul_lt_mul_of_pos_right (lt_nl a) (by omega)) (Nat.mul_le_mul_left _ (Nat.le_of_lt (lt_nl b)))
theorem p216 : (2 : Nat) ^ 16 = 65536 := by decide
theorem dg_eq (n i : Nat) : dg n i = n / 2 ^ (16 * i) % 2 ^ 16 := by
 show n / 65536 ^ i % 65536 = _
 rw [Nat.pow_mul, p216]
theorem dg_bit (n i : Nat) {k : Nat} (hk : k < 16) : dg n i / 2 ^ k % 2 = dig 2 n (16 * i + k) := by
 rw [dg_eq]
 show dig 2 (n / 2 ^ (16 * i) % 2 ^ 16) k = dig 2 n (16 * i + k)
 rw [dig_mod hk, dig_div, Nat.add_comm]
theorem pow_bits (i : Nat) : (65536 : Nat) ^ i = 2 ^ (16 * i) := by rw [Nat.pow_mul, p216]
def qd (q i k : Nat) : Nat := dg q i / 2 ^ k * 2 ^ k
theorem qd_start (q i : Nat) : qd q i 16 = 0 := by
 unfold qd
 rw [p216, Nat.div_eq_of_lt (dg_lt q i), Nat.zero_mul]
theorem qd_end (q i : Nat) : qd q i 0 = dg q i := by simp [qd]
theorem qd_step (q i : Nat) {k : Nat} (hk : k < 16) : qd q i k = qd q i (k + 1) + dig 2 q (16 * i + k) * 2 ^ k := by
 unfold qd
 rw [← dg_bit q i hk]
 have := div_dig 2 (dg q i) k
 have e : dig 2 (dg q i) k = dg q i / 2 ^ k % 2 := rfl
 rw [e] at this
 generalize dg q i / 2 ^ k % 2 = y at *
 rw [this, Nat.pow_succ, Nat.add_mul]
 congr 1
 rw [Nat.mul_comm 2, Nat.mul_assoc, Nat.mul_comm 2]
theorem qd_le (q i k : Nat) : qd q i k < 65536 := Nat.lt_of_le_of_lt (Nat.div_mul_le_self _ _) (dg_lt q i)
def rm (a b p : Nat) : Nat := a / 2 ^ p % b
theorem rm_step {a b : Nat} (hb : 0 < b) (p : Nat) :
  (b ≤ 2 * rm a b (p + 1) + dig 2 a p → dig 2 (a / b) p = 1 ∧ rm a b p = 2 * rm a b (p + 1) + dig 2 a p - b) ∧ (¬ b ≤ 2 * rm a b (p + 1) + dig 2 a p → dig 2 (a / b) p = 0 ∧ rm a b p = 2 * rm a b (p + 1) + dig 2 a p) := by
 obtain ⟨h1, h2, h3⟩ := long_step (B := 2) (A := a) (D := b) (i := p) (by decide) hb
 have e : a / 2 ^ (p + 1) % b * 2 + dig 2 a p = 2 * rm a b (p + 1) + dig 2 a p := by rw [Nat.mul_comm]; rfl
 rw [e] at h1 h2 h3
 have e2 : rm a b p = a / 2 ^ p % b := rfl
 rw [← e2] at h2
 generalize 2 * rm a b (p + 1) + dig 2 a p = y at *
 refine ⟨fun h => ?_, fun h => ?_⟩
 ·have h4 : y / b = 1 := by
   have := Nat.div_eq_sub_div hb h
   rw [Nat.div_eq_of_lt (show y - b < b by omega)] at this
   omega
  rw [Nat.mod_eq_sub_mod h, Nat.mod_eq_of_lt (show y - b < b by omega)] at h2
  exact ⟨by omega, h2⟩
 ·rw [Nat.div_eq_of_lt (show y < b by omega)] at h1
  rw [Nat.mod_eq_of_lt (show y < b by omega)] at h2
  exact ⟨h1, h2⟩
theorem rm_lt (a : Nat) {b : Nat} (hb : 0 < b) (p : Nat) : rm a b p < b := Nat.mod_lt _ hb
theorem rm_start {a b p : Nat} (h : a < 2 ^ p) : rm a b p = 0 := by
 unfold rm
 rw [Nat.div_eq_of_lt h, Nat.zero_mod]
theorem rm_end (a b : Nat) : rm a b 0 = a % b := by simp [rm]
theorem dig2_le (n i : Nat) : dig 2 n i ≤ 1 := Nat.le_of_lt_succ (dig_lt (by decide) n i)
theorem div_lt_nl (a b : Nat) : a / b < 65536 ^ nl a := Nat.lt_of_le_of_lt (Nat.div_le_self _ _) (lt_nl a)
theorem gcd_off {x y m : Nat} (h : y * m ≤ x) : Nat.gcd y (x - y * m) = Nat.gcd x y := by
 apply Nat.dvd_antisymm
 ·refine Nat.dvd_gcd ?_ (Nat.gcd_dvd_left _ _)
  have h1 : Nat.gcd y (x - y * m) ∣ (x - y * m) + y * m := Nat.dvd_add (Nat.gcd_dvd_right _ _) (Nat.dvd_trans (Nat.gcd_dvd_left _ _) (Nat.dvd_mul_right _ _))
  rwa [Nat.sub_add_cancel h] at h1
 ·exact Nat.dvd_gcd (Nat.gcd_dvd_right _ _) (Nat.dvd_sub (Nat.gcd_dvd_left _ _) (Nat.dvd_trans (Nat.gcd_dvd_right _ _) (Nat.dvd_mul_right _ _)))
theorem dbl_fits {x y : Nat} (hy : y ≠ 0) (hyx : y ≤ x) : nlen 2 y ≤ nlen 2 x ∧ (¬ y * 2 ^ (nlen 2 x - nlen 2 y) ≤ x → 1 ≤ nlen 2 x - nlen 2 y ∧ y * 2 ^ (nlen 2 x - nlen 2 y - 1) ≤ x) := by
 have h1 : nlen 2 y ≤ nlen 2 x := nlen_mono (by decide) hyx
 refine ⟨h1, fun h => ?_⟩
 have h2 : nlen 2 x - nlen 2 y ≠ 0 := fun e => by rw [e, Nat.pow_zero, Nat.mul_one] at h; exact h hyx
 refine ⟨by omega, ?_⟩
 have h3 := lt_nlen (B := 2) (by decide) y
 have h4 := nlen_le (B := 2) (by decide) x (by omega)
 have h5 : y * 2 ^ (nlen 2 x - nlen 2 y - 1) ≤ 2 ^ nlen 2 y * 2 ^ (nlen 2 x - nlen 2 y - 1) := Nat.mul_le_mul_right _ (Nat.le_of_lt h3)
 rw [← Nat.pow_add, show nlen 2 y + (nlen 2 x - nlen 2 y - 1) = nlen 2 x - 1 by omega] at h5
 exact Nat.le_trans h5 h4
theorem nl_pow (n : Nat) : nl (2 ^ n) = n / 16 + 1 := by
 refine nl_uniq ?_ fun _ => ?_
 ·rw [pow_bits]
  exact Nat.pow_lt_pow_right (by decide) (by omega)
 ·rw [pow_bits]
  exact Nat.pow_le_pow_right (by decide) (by omega)
theorem dg_pow (n : Nat) : (∀ j, j < n / 16 → dg (2 ^ n) j = 0) ∧ dg (2 ^ n) (n / 16) = 2 ^ (n % 16) := by
 constructor
 ·intro j hj
  rw [dg_eq, Nat.pow_div (by omega) (by decide)]
  have : 16 ∣ 16 := Nat.dvd_refl _
  rw [show n - 16 * j = 16 + (n - 16 * j - 16) by omega, Nat.pow_add, Nat.mul_mod_right]
 ·rw [dg_eq, Nat.pow_div (by omega) (by decide), show n - 16 * (n / 16) = n % 16 by omega]
  exact Nat.mod_eq_of_lt (Nat.pow_lt_pow_right (by decide) (Nat.mod_lt _ (by decide)))
theorem bits_top {n : Nat} (h : n ≠ 0) : nlen 2 n = 16 * (nl n - 1) + nlen 2 (dg n (nl n - 1)) := by
 obtain ⟨e, hp⟩ := dig_top (B := 65536) (by decide) h
 have hd : dg n (nl n - 1) = n / 65536 ^ (nl n - 1) := e
 have hp' : 0 < n / 65536 ^ (nl n - 1) := hp
 rw [hd]
 rw [pow_bits] at hp' ⊢
 obtain ⟨P, hP⟩ : ∃ P, 16 * (nl n - 1) = P := ⟨_, rfl⟩
 rw [hP] at hp' ⊢
 have h1 := lt_nlen (B := 2) (by decide) (n / 2 ^ P)
 have h2 := nlen_le (B := 2) (by decide) (n / 2 ^ P) (by omega)
 have h3 : nlen 2 (n / 2 ^ P) ≠ 0 := fun e => by have := (nlen_eq_zero (B := 2) (by decide)).1 e; omega
 have h0 : 0 < 2 ^ P := Nat.pow_pos (by decide)
 refine nlen_uniq (by decide) ?_ fun _ => ?_
 ·rw [Nat.pow_add, Nat.mul_comm]
  exact (Nat.div_lt_iff_lt_mul h0).1 h1
 ·rw [show P + nlen 2 (n / 2 ^ P) - 1 = (nlen 2 (n / 2 ^ P) - 1) + P by omega, Nat.pow_add]
  exact (Nat.le_div_iff_mul_le h0).1 h2
end Go.Proofs.YtgoemhcngmpfbaaGreatDoor
