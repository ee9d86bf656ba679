/-
  strings.IndexAny with "eE", at any bytes.
-/
import Derived.Test.YtgkhjeefcflmcaaGreatDoorMt14
import Derived.Test.YtgkhjeefcflmcaaGreatDoorMt02
import Derived.Laws.RangeAny
import Derived.WalkMore
import Derived.Laws.Runes
import Derived.Lib.IndexAny
import Derived.Lib.OthersKept
import Derived.Test.YtgkhjeefcflmcaaGreatDoorMt17
namespace Go.Proofs.YtgkhjeefcflmcaaGreatDoor
open Go.RowKit Go.Sort
set_option linter.unusedSimpArgs false
theorem decode_skip (s : ByteArray) (pos : Nat) (h : pos < s.size) (ha : 128 ≤ (s[pos]'h).toNat) :
    pos + (Utf8.decode s pos).2 ≤ s.size ∧ ∀ j, j < (Utf8.decode s pos).2 → 128 ≤ (s.get! (pos + j)).toNat := by
  have hn : ¬ (s[pos]'h).toNat < 128 := by omega
  have h0 : 128 ≤ (s.get! (pos + 0)).toNat := by rw [get_at s pos h]; exact ha
  have one : pos + 1 ≤ s.size ∧ ∀ j, j < 1 → 128 ≤ (s.get! (pos + j)).toNat := ⟨by omega, fun j hj => by obtain rfl : j = 0 := by omega
                                                                                                         exact h0⟩
  unfold Utf8.decode
  simp only [get_at s pos h, hn, if_false]
  split
  · rename_i c
    simp only [Bool.and_eq_true, beq_iff_eq, decide_eq_true_eq] at c
    split
    · refine ⟨by show pos + 2 ≤ _; omega, fun j hj => ?_⟩
      match j, hj with
      | 0, _ => exact h0
      | 1, _ => omega
      | k + 2, hj => exact absurd hj (by show ¬ k + 2 < 2; omega)
    · exact one
  · split
    · rename_i c
      simp only [Bool.and_eq_true, beq_iff_eq, decide_eq_true_eq] at c
      split
      · refine ⟨by show pos + 3 ≤ _; omega, fun j hj => ?_⟩
        match j, hj with
        | 0, _ => exact h0
        | 1, _ => omega
        | 2, _ => omega
        | k + 3, hj => exact absurd hj (by show ¬ k + 3 < 3; omega)
      · exact one
    · split
      · rename_i c
        simp only [Bool.and_eq_true, beq_iff_eq, decide_eq_true_eq] at c
        split
        · refine ⟨by show pos + 4 ≤ _; omega, fun j hj => ?_⟩
          match j, hj with
          | 0, _ => exact h0
          | 1, _ => omega
          | 2, _ => omega
          | 3, _ => omega
          | k + 4, hj => exact absurd hj (by show ¬ k + 4 < 4; omega)
        · exact one
      · exact one
theorem valid_same (r : Int) : Lib.validRune r = Utf8.valid r := by
 unfold Lib.validRune Utf8.valid
 rw [Bool.eq_iff_iff]
 simp
 omega
set_option maxRecDepth 100000 in
set_option maxHeartbeats 4000000 in
theorem IndexRune_eE (r : Int) (h : 128 ≤ r) (w : World) :
  Calls Tryz.prog 154 #[.string ⟨#[101, 69]⟩, .int .i32 r] w fun e w' => e = .returned (.int .i64 (-1)) ∧ Below w.heap.size w w' := by
 have h1 : 0 ≤ r := by omega
 have h2 : ¬ r < 128 := by omega
 by_cases he : r = 65533
 ·subst he
  have n0 : ∀ ty, (Instr.next (.pointer (some ⟨w.heap.size, 0, none⟩)) true ty).run Tryz.prog (w.iter ⟨#[101, 69]⟩ 0) = .ok (.tuple #[.bool true, .int .i64 0, .int .i32 101]) (w.iter ⟨#[101, 69]⟩ 1) := fun ty => run_next_ascii (P := Tryz.prog) w ⟨#[101, 69]⟩ 0 ty (by decide) (by decide)
  have n1 : ∀ ty, (Instr.next (.pointer (some ⟨w.heap.size, 0, none⟩)) true ty).run Tryz.prog (w.iter ⟨#[101, 69]⟩ 1) = .ok (.tuple #[.bool true, .int .i64 1, .int .i32 69]) (w.iter ⟨#[101, 69]⟩ 2) := fun ty => run_next_ascii (P := Tryz.prog) w ⟨#[101, 69]⟩ 1 ty (by decide) (by decide)
  have n2 := fun ty => run_next_end (P := Tryz.prog) w ⟨#[101, 69]⟩ 2 ty (by decide)
  clear h h1 h2
  go_enter Tryz.func154, Tryz.ntmps154
  go_wp2_with fail
  go_loopg [5, 6] 3 (fun h _ _ wx => ∃ i : Nat, Hid (i + h = 3) ∧ i ≤ 2 ∧ wx = w.iter ⟨#[101, 69]⟩ i)
  case atStart => exact ⟨0, by show _ = _; omega, by omega, rfl⟩
  case round =>
   obtain ⟨i, HI, hi2, rfl⟩ := hrel
   match i, hi2 with
   | 0, _ =>
    go_wp2_with fail
    go_roundg 2
    case measure => have := HI.out; omega
    case rel => exact ⟨1, by show _ = _; omega, by omega, rfl⟩
   | 1, _ =>
    go_wp2_with fail
    go_roundg 1
    case measure => have := HI.out; omega
    case rel => exact ⟨2, by show _ = _; omega, by omega, rfl⟩
   | 2, _ =>
    go_wp2_with fail
    go_ret
    exact ⟨rfl, below_alloc _ _⟩
 ·have HV := Lib.hid (fun W => Tryz.utf8_ValidRune r W)
  have he2 : (r == 65533) = false := beq_eq_false_iff_ne.2 he
  cases hv : Lib.validRune r
  ·rw [hv] at HV
   clear h he hv
   go_enter Tryz.func154, Tryz.ntmps154
   go_wp2_with fail
   refine (HV.out _).mono ?_
   rintro e w1 ⟨rfl, rfl⟩
   go_wp2_with fail
   go_ret
   exact ⟨rfl, Below.refl _ _⟩
  ·rw [hv] at HV
   rw [valid_same] at hv
   obtain ⟨l1, l2, l3⟩ := encode_facts r hv h
   obtain ⟨rs, hrs⟩ : ∃ rs, Utf8.encode r = rs := ⟨_, rfl⟩
   rw [hrs] at l1 l2 l3
   have HCV : ∀ W, (convert 21 9 (.int .i32 r)).run Tryz.prog W = .ok (.string rs) W := fun W => by
    rw [run_convert_int_string W _ _ _ _ (by kernel_rfl) Tryz.underlying9, hrs]
   clear h he hv hrs
   by_cases hs2 : rs.size = 2
   ·obtain ⟨b, hb⟩ := get_of_lt (s := rs) (i := 1) (by omega)
    have hb128 : 128 ≤ b.toNat := by
     have h4 := l3 (by omega)
     have h5 : rs[rs.size - 1]'(by omega) = b := by
      obtain ⟨h6, h7⟩ := List.getElem?_eq_some_iff.1 hb
      rw [← h7]
      simp [hs2]
      rfl
     rwa [h5] at h4
    have hix := index_at hb
    have hiy : ∀ W, (Instr.index 9 (.string ⟨#[101, 69]⟩) (.int .i64 1)).run Tryz.prog W = .ok (.int .u8 69) W := fun W => index_at (s := ⟨#[101, 69]⟩) (i := 1) (b := 69) rfl W
    rw [Int.natCast_one] at hix
    have hne : ((69 : Int) == (b.toNat : Int)) = false := beq_eq_false_iff_ne.2 (by omega)
    have HIB : Hid (∀ W, Calls Tryz.prog 130 #[.string ⟨#[]⟩, .int .u8 (b.toNat : Int)] W fun e w' => e = .returned (.int .i64 (-1)) ∧ ∃ m, w' = W.drewN m) := fun W => (Tryz.strings_IndexByte ⟨#[]⟩ (b.toNat : Int) W).mono fun e w' h => ⟨h.1, 0, h.2⟩
    have hsl : ∀ W, (Instr.slice 9 (.string ⟨#[101, 69]⟩) (some (.int .i64 2)) none none).run Tryz.prog W = .ok (.string ⟨#[]⟩) W := fun W => by kernel_rfl
    have hw2 : IntKind.i64.wrap 2 = 2 := by decide
    generalize b.toNat = bn at *
    clear l1 l2 l3 hb hb128
    go_enter Tryz.func154, Tryz.ntmps154
    go_wp2_with fail
    refine (HV.out _).mono ?_
    rintro e w1 ⟨rfl, rfl⟩
    go_wp2_with fail
    go_step3
    go_wp2_with fail
    refine wp_loop_rounds 1 ?_
    rw [rounds_succ]
    go_wp2_with fail
    go_step3
    go_wp2_with fail
    go_quiet (fail)
    go_wp2_with fail
    have HW2 : Hid (Below w1.heap.size w1 (w1.drewN nq)) := (Below.refl _ _).drewN nq
    generalize w1.drewN nq = wq at *
    go_quiet (first | (go_at_call 130; refine Calls.quiet_of (HIB.out _)) | fail)
    go_wp2_with fail
    (try simp only [Exit.noGoto_ret, Exit.inBlock, Exit.then])
    go_ret
    exact ⟨rfl, HW2.out.drewN _⟩
   ·have hl : ¬ ((rs.size : Int) - 1 < 2) := by omega
    have hsz2 : 3 ≤ rs.size ∧ rs.size ≤ 4 := by omega
    clear l3 hs2 l1 l2
    go_enter Tryz.func154, Tryz.ntmps154
    go_wp2_with fail
    refine (HV.out _).mono ?_
    rintro e w1 ⟨rfl, rfl⟩
    go_wp2_with fail
    go_step3
    go_wp2_with fail
    refine wp_loop_rounds 1 ?_
    rw [rounds_succ]
    go_wp2_with fail
    (try simp only [Exit.noGoto_ret, Exit.inBlock, Exit.then])
    go_ret
    exact ⟨rfl, Below.refl _ _⟩
theorem get_data {s : ByteArray} {i : Nat} (h : i < s.size) : s.data.toList[i]? = some (s.get! i) := by
 have e : s.get! i = s[i]'h := by
  simp [ByteArray.get!, getElem!_pos, h]
  rfl
 rw [e]
 exact Lib.data_getElem? s i h
theorem noAny_skip {l : List UInt8} {i n : Nat} (h : Lib.NoAny l [101, 69] i) (hn : ∀ j b, j < n → l[i + j]? = some b → 128 ≤ b.toNat) : Lib.NoAny l [101, 69] (i + n) := fun j b hj hb => by
 by_cases e : j < i
 ·exact h j b e hb
 ·have h1 := hn (j - i) b (by omega) (by rw [show i + (j - i) = j by omega]; exact hb)
  have h2 : b ≠ 101 := fun e => by rw [e] at h1; exact absurd h1 (by decide)
  have h3 : b ≠ 69 := fun e => by rw [e] at h1; exact absurd h1 (by decide)
  simp [h2, h3]
set_option maxRecDepth 100000 in
set_option maxHeartbeats 4000000 in
theorem IndexAny_short_eE (s : ByteArray) (w : World) (h8 : s.size ≤ 8) :
  Calls Tryz.prog 131 #[.string s, .string ⟨#[101, 69]⟩] w fun e w' => e = .returned (.int .i64 (Lib.indexAny s.data.toList [101, 69])) ∧ Below w.heap.size w w' := by
 obtain ⟨K, hK⟩ : ∃ K, w.heap.size = K := ⟨_, rfl⟩
 have h0 := World.iter_heap w s 0
 have b0 := below_alloc w (.stringIter s 0)
 rw [hK] at h0 b0 ⊢
 have H0 := Lib.hid h0
 have B0 := Lib.hid b0
 clear h0 b0
 have h8z : decide ((8 : Int) < (s.size : Int)) = false := decide_eq_false (by omega)
 have HSU := Lib.hid (fun W => Tryz.strings_shouldUseASCIISet (s.size : Int) W)
 rw [h8z] at HSU
 clear h8z
 go_enter Tryz.func131, Tryz.ntmps131
 go_wp2_with fail
 refine (HSU.out _).mono ?_
 rintro e w1 ⟨rfl, rfl⟩
 go_wp2_with fail
 clear hK
 go_loopg [9, 10] (s.size + 1) (fun h _ _ wx => ∃ (i : Nat) (W : World), Hid (i + h ≥ s.size + 1) ∧ i ≤ s.size ∧ Hid (Lib.NoAny s.data.toList [101, 69] i) ∧ wx = W ∧ Hid (W.heap[K]? = some (.stringIter s i) ∧ Below K w1 W))
 case atStart => exact ⟨0, _, by show _ ≥ _; omega, by omega, Lib.NoAny.zero _ _, rfl, H0.out, B0.out⟩
 case round =>
  obtain ⟨i, W, HI, hin, HN, rfl, HW⟩ := hrel
  by_cases hlt : i < s.size
  ·have hlr : K < wr.heap.size := by
    rcases Nat.lt_or_ge K wr.heap.size with h | h
    ·exact h
    ·have := HW.out.1; rw [Array.getElem?_eq_none h] at this; cases this
   have hx := get_data hlt
   have hnx := fun ty => Lib.run_next_any_at (P := Tryz.prog) wr K s i ty HW.out.1 hlt
   have hit := Lib.iterAt_heap wr K s i (i + (Utf8.decode s i).2) HW.out.1
   have hbl := Lib.below_iterAt HW.out.2 (Nat.le_refl _) s (i + (Utf8.decode s i).2)
   have hsz := Lib.iterAt_size wr K s (i + (Utf8.decode s i).2)
   obtain ⟨W2, hW2⟩ : ∃ W2, wr.iterAt K s (i + (Utf8.decode s i).2) = W2 := ⟨_, rfl⟩
   rw [hW2] at hit hbl hsz
   simp only [hW2] at hnx
   have HIT := Lib.hid hit
   have HBL := Lib.hid hbl
   have HSZ : Hid (K < W2.heap.size) := by show _ < _; rw [hsz]; exact hlr
   have hgx : s.get! i = s[i]'hlt := get_at s i hlt
   clear hW2 hit hbl hsz hlr
   by_cases ha : (s.get! i).toNat < 128
   ·have hd := decode_ascii s i hlt (by rw [← hgx]; exact ha)
    rw [hd, ← hgx] at hnx
    rw [hd] at HIT
    generalize s.get! i = x at *
    clear hgx hd
    have HR := fun V => Tryz.strings_IndexRune_ascii ⟨#[101, 69]⟩ (x.toNat : Int) V (by omega) (by omega)
    have hb : ((x.toNat : Int)).toNat.toUInt8 = x := by simp
    rw [hb] at HR
    have hcon := Lib.contains_iff_indexByte [101, 69] x
    have hcl : (⟨#[101, 69]⟩ : ByteArray).data.toList = [101, 69] := rfl
    rw [hcl] at HR
    have HX := Lib.hid hx
    generalize Lib.indexByte [101, 69] x = z at *
    replace HR := Lib.hid HR
    clear hx hb hcl
    cases hc : ([101, 69] : List UInt8).contains x
    ·rw [hc] at hcon
     have hz : ¬ (0 : Int) ≤ z := of_decide_eq_false hcon.symm
     have HN2 := Lib.hid (HN.out.succ HX.out hc)
     clear hcon hc
     go_wp2_with fail
     refine (HR.out _).mono ?_
     rintro e w3 ⟨rfl, rfl⟩
     go_wp2_with fail
     go_roundg (s.size - i)
     case measure => have := HI.out; omega
     case rel => exact ⟨i + 1, _, by show _ ≥ _; omega, by omega, HN2, rfl, HIT.out, HBL.out⟩
    ·rw [hc] at hcon
     have hz : (0 : Int) ≤ z := of_decide_eq_true hcon.symm
     have HE : Hid (Lib.indexAny s.data.toList [101, 69] = (i : Int)) := Lib.indexAny_hit HN.out HX.out hc
     clear hcon hc
     go_wp2_with fail
     refine (HR.out _).mono ?_
     rintro e w3 ⟨rfl, rfl⟩
     go_wp2_with fail
     go_ret
     exact ⟨by rw [HE.out]; rfl, HBL.out⟩
   ·have h128 : 128 ≤ (s[i]'hlt).toNat := by rw [← hgx]; omega
    obtain ⟨k1, k2⟩ := decode_high s i hlt h128
    obtain ⟨k3, k4⟩ := decode_skip s i hlt h128
    have k5 := decode_le s i
    have HN2 : Hid (Lib.NoAny s.data.toList [101, 69] (i + (Utf8.decode s i).2)) := noAny_skip HN.out (fun j b hj hb => by
     have h1 : i + j < s.size := by omega
     rw [get_data h1] at hb
     cases hb
     exact k4 j hj)
    generalize (Utf8.decode s i).1 = r at *
    generalize (Utf8.decode s i).2 = n at *
    have HR := Lib.hid (fun V => IndexRune_eE (r : Int) (by omega) V)
    clear k4 hx hgx ha h128
    go_wp2_with fail
    refine (HR.out _).mono ?_
    rintro e w3 ⟨rfl, hw3⟩
    have HIT3 : Hid (w3.heap[K]? = some (.stringIter s (i + n))) := by
     show _ = _
     rw [hw3.block _ HSZ.out]
     exact HIT.out
    have HBL3 : Hid (Below K w1 w3) := HBL.out.trans (hw3.mono (Nat.le_of_lt HSZ.out))
    clear hw3
    go_wp2_with fail
    go_roundg (s.size - i)
    case measure => have := HI.out; omega
    case rel => exact ⟨i + n, _, by show _ ≥ _; omega, by omega, HN2, rfl, HIT3.out, HBL3.out⟩
  ·obtain rfl : i = s.size := by omega
   have hnx := fun ty => Lib.run_next_end_at (P := Tryz.prog) wr K s s.size ty HW.out.1 (Nat.lt_irrefl _)
   have HE : Hid (Lib.indexAny s.data.toList [101, 69] = -1) := Lib.indexAny_none (by have := HN.out; rwa [show s.data.toList.length = s.size by simp])
   go_wp2_with fail
   go_ret
   exact ⟨by rw [HE.out]; rfl, HW.out.2⟩
theorem IndexAny_eE (s : ByteArray) (w : World) (hs : s.size < 4294967281) :
  Calls Tryz.prog 131 #[.string s, .string ⟨#[101, 69]⟩] w fun e w' => e = .returned (.int .i64 (Lib.indexAny s.data.toList [101, 69])) ∧ Below w.heap.size w w' := by
 by_cases h8 : s.size ≤ 8
 ·exact IndexAny_short_eE s w h8
 ·refine (Tryz.strings_IndexAny_long (fun _ => by kernel_rfl) s ⟨#[101, 69]⟩ w (by decide) (by omega) hs (by decide) (fun j b hb => ?_)).mono fun e w' h => ⟨h.1, by rw [h.2]; exact (below_alloc _ _).alloc (by simp) _⟩
  match j, hb with
  | 0, hb => cases hb; decide
  | 1, hb => cases hb; decide
end Go.Proofs.YtgkhjeefcflmcaaGreatDoor
namespace Go.Proofs.YtgkhjeefcflmcaaGreatDoor
open Go.RowKit Go.Sort
set_option linter.unusedSimpArgs false
structure PartsAt (w : World) (b : Nat) (x0 x1 x2 x3 : ByteArray) : Prop where
 c0 : w.cell? ⟨b, 0, none⟩ = some (.string x0)
 c1 : w.cell? ⟨b, 1, none⟩ = some (.string x1)
 c2 : w.cell? ⟨b, 2, none⟩ = some (.string x2)
 c3 : w.cell? ⟨b, 3, none⟩ = some (.string x3)
 f0 : w.frozen? ⟨b, 0, none⟩ = false
 f1 : w.frozen? ⟨b, 1, none⟩ = false
 f2 : w.frozen? ⟨b, 2, none⟩ = false
 f3 : w.frozen? ⟨b, 3, none⟩ = false
section
variable {w w' : World} {b : Nat} {x0 x1 x2 x3 : ByteArray}
theorem PartsAt.lt (h : PartsAt w b x0 x1 x2 x3) : b < w.heap.size := World.block_lt_of_cell? w _ h.c0
theorem PartsAt.below (h : PartsAt w b x0 x1 x2 x3) (hb : Below w.heap.size w w') : PartsAt w' b x0 x1 x2 x3 :=
 ⟨(hb.cell (p := ⟨b, 0, none⟩) h.lt).trans h.c0, (hb.cell (p := ⟨b, 1, none⟩) h.lt).trans h.c1, (hb.cell (p := ⟨b, 2, none⟩) h.lt).trans h.c2, (hb.cell (p := ⟨b, 3, none⟩) h.lt).trans h.c3,
  (hb.frozen (p := ⟨b, 0, none⟩) h.lt).trans h.f0, (hb.frozen (p := ⟨b, 1, none⟩) h.lt).trans h.f1, (hb.frozen (p := ⟨b, 2, none⟩) h.lt).trans h.f2, (hb.frozen (p := ⟨b, 3, none⟩) h.lt).trans h.f3⟩
theorem PartsAt.new (w : World) (x0 x1 x2 x3 : ByteArray) (T : TypeId) : PartsAt (w.alloc (.cells #[.string x0, .string x1, .string x2, .string x3] T)) w.heap.size x0 x1 x2 x3 :=
 ⟨World.cell?_alloc_at _ _ _ _ rfl, World.cell?_alloc_at _ _ _ _ rfl, World.cell?_alloc_at _ _ _ _ rfl, World.cell?_alloc_at _ _ _ _ rfl, World.frozen?_alloc_at _ _ _ _ rfl, World.frozen?_alloc_at _ _ _ _ rfl, World.frozen?_alloc_at _ _ _ _ rfl, World.frozen?_alloc_at _ _ _ _ rfl⟩
def pt01 (w : World) (b : Nat) (y0 y1 : ByteArray) : World := (w.setCell ⟨b, 0, none⟩ (.string y0)).setCell ⟨b, 1, none⟩ (.string y1)
def pt23 (w : World) (b : Nat) (y2 y3 : ByteArray) : World := (w.setCell ⟨b, 2, none⟩ (.string y2)).setCell ⟨b, 3, none⟩ (.string y3)
theorem ne_off {b i j : Nat} (h : i ≠ j) : (⟨b, i, none⟩ : Addr) ≠ ⟨b, j, none⟩ := fun e => h (by injection e)
theorem PartsAt.put01 (h : PartsAt w b x0 x1 x2 x3) (y0 y1 : ByteArray) : PartsAt (pt01 w b y0 y1) b y0 y1 x2 x3 := by
 unfold pt01
 refine ⟨?_, ?_, ?_, ?_, ?_, ?_, ?_, ?_⟩
 ·rw [World.cell?_setCell_other _ _ _ _ (ne_off (by decide))]; exact World.cell?_setCell_same _ _ _ h.c0
 ·exact World.cell?_setCell_same _ _ _ ((World.cell?_setCell_other _ _ _ _ (ne_off (by decide))).trans h.c1)
 ·rw [World.cell?_setCell_other _ _ _ _ (ne_off (by decide)), World.cell?_setCell_other _ _ _ _ (ne_off (by decide))]; exact h.c2
 ·rw [World.cell?_setCell_other _ _ _ _ (ne_off (by decide)), World.cell?_setCell_other _ _ _ _ (ne_off (by decide))]; exact h.c3
 all_goals rw [World.frozen?_setCell, World.frozen?_setCell]
 ·exact h.f0
 ·exact h.f1
 ·exact h.f2
 ·exact h.f3
theorem PartsAt.put23 (h : PartsAt w b x0 x1 x2 x3) (y2 y3 : ByteArray) : PartsAt (pt23 w b y2 y3) b x0 x1 y2 y3 := by
 unfold pt23
 refine ⟨?_, ?_, ?_, ?_, ?_, ?_, ?_, ?_⟩
 ·rw [World.cell?_setCell_other _ _ _ _ (ne_off (by decide)), World.cell?_setCell_other _ _ _ _ (ne_off (by decide))]; exact h.c0
 ·rw [World.cell?_setCell_other _ _ _ _ (ne_off (by decide)), World.cell?_setCell_other _ _ _ _ (ne_off (by decide))]; exact h.c1
 ·rw [World.cell?_setCell_other _ _ _ _ (ne_off (by decide))]; exact World.cell?_setCell_same _ _ _ h.c2
 ·exact World.cell?_setCell_same _ _ _ ((World.cell?_setCell_other _ _ _ _ (ne_off (by decide))).trans h.c3)
 all_goals rw [World.frozen?_setCell, World.frozen?_setCell]
 ·exact h.f0
 ·exact h.f1
 ·exact h.f2
 ·exact h.f3
theorem below_pt01 {B : Nat} {w0 : World} (h : Below B w0 w) (hb : B ≤ b) (y0 y1 : ByteArray) : Below B w0 (pt01 w b y0 y1) := (h.setCell (p := ⟨b, 0, none⟩) hb _).setCell (p := ⟨b, 1, none⟩) hb _
theorem below_pt23 {B : Nat} {w0 : World} (h : Below B w0 w) (hb : B ≤ b) (y0 y1 : ByteArray) : Below B w0 (pt23 w b y0 y1) := (h.setCell (p := ⟨b, 2, none⟩) hb _).setCell (p := ⟨b, 3, none⟩) hb _
end
def partsV (x0 x1 x2 x3 : ByteArray) : Value := .agg #[.string x0, .string x1, .string x2, .string x3]
theorem results_parts {fn : Func} {p u : Tmp} (hf : fn.results = #[.cell p 193, .tmp u]) {tmps : Array Value} {W : World} {b : Nat} {x0 x1 x2 x3 : ByteArray} {v : Value} (hp : tmps.getD p undef = .pointer (some ⟨b, 0, none⟩)) (hu : tmps.getD u undef = v) (h : PartsAt W b x0 x1 x2 x3) :
  (results fn tmps).run Tryz.prog W = .ok (.tuple #[partsV x0 x1 x2 x3, v]) W := by
 obtain ⟨c0, c1, c2, c3, _, _, _, _⟩ := h
 rw [results_cell_tmp hf, hp, hu]
 unfold partsV
 go_simp
theorem hcat_bs (a b : List UInt8) : bs a ++ bs b = bs (a ++ b) := bytes_app a b
set_option maxRecDepth 100000 in
set_option maxHeartbeats 16000000 in
theorem split_run (l : List UInt8) (b : Bool) (w : World) (hl : l.length ≤ 10000) (hb : Hid (b = true ↔ FloatOk l)) (hm : Hid (Ml w)) :
  Calls Tryz.prog 136 #[.string (bs l)] w fun e w' => e = .returned (.tuple #[partsV (bs (ptW l)) (bs (ptF l)) (bs (ptS l)) (bs (ptX l)), .bool b]) ∧ Below w.heap.size w w' := by
 obtain ⟨S, hS⟩ : ∃ S, w.heap.size = S := ⟨_, rfl⟩
 have HM : Hid (∀ V, Below S w V → Ml V) := fun V hb => hm.out.below (by rw [hS]; exact hb)
 have HJ : Hid (∀ V, Ml V → Calls Tryz.prog 134 #[.string (bs l)] V fun e w' => e = .returned (.string (bs (unsc l))) ∧ Below V.heap.size V w') := fun V hV => join_run l V (by omega) hV
 have hT := unsc_length l
 obtain ⟨sepb, hsep⟩ := sep_bool isDig l
 have HSE := Lib.hid (fun V => separated_run 1 isDig l sepb V (by omega) hsep (fun c V => has1_run c.toNat (UInt8.toNat_lt c) V))
 obtain ⟨W, hW⟩ : ∃ x, ptW l = x := ⟨_, rfl⟩
 obtain ⟨F, hF⟩ : ∃ x, ptF l = x := ⟨_, rfl⟩
 obtain ⟨sg, hsg⟩ : ∃ x, ptS l = x := ⟨_, rfl⟩
 obtain ⟨ex, hex⟩ : ∃ x, ptX l = x := ⟨_, rfl⟩
 obtain ⟨D, hD⟩ : ∃ x, ptD l = x := ⟨_, rfl⟩
 obtain ⟨d1, hd1⟩ : ∃ x, decB (W ++ F) = x := ⟨_, rfl⟩
 obtain ⟨d2, hd2⟩ : ∃ x, decB ex = x := ⟨_, rfl⟩
 have hbb : b = (sepb && ((D || ptM l) && (d1 && d2))) := by
  rw [Bool.eq_iff_iff, hb.out]
  unfold FloatOk
  rw [hW, hF, hex, hD, hd1, hd2, ← hsep]
  simp only [Bool.and_eq_true]
 have HR : Hid (ptW l = W ∧ ptF l = F ∧ ptS l = sg ∧ ptX l = ex) := ⟨hW, hF, hsg, hex⟩
 have lW : W.length ≤ 10000 := by
  rw [← hW]
  exact Nat.le_trans (preP_len isP _) (Nat.le_trans (preP_len isM _) (by omega))
 have lF : F.length ≤ 10000 := by
  rw [← hF]
  exact Nat.le_trans (postP_len isP _) (Nat.le_trans (preP_len isM _) (by omega))
 have lX : ex.length ≤ 10001 := by
  rw [← hex]
  unfold ptX
  split
  ·exact Nat.le_trans (restL_len _) (Nat.le_trans (postP_len isM _) (by omega))
  ·simp
 have HD1 : Hid (∀ V, Calls Tryz.prog 163 #[.string (bs (W ++ F))] V fun e w' => e = .returned (.bool d1) ∧ Below V.heap.size V w') := fun V => by
  have := decimal_runN (W ++ F) V (by rw [List.length_append]; omega)
  rwa [hd1] at this
 have HD2 : Hid (∀ V, Calls Tryz.prog 163 #[.string (bs ex)] V fun e w' => e = .returned (.bool d2) ∧ Below V.heap.size V w') := fun V => by
  have := decimal_runN ex V (by omega)
  rwa [hd2] at this
 have hcat := hcat_bs W F
 have sW := bs_size W
 have sF := bs_size F
 have HIX : Hid (∀ V, Calls Tryz.prog 131 #[.string (bs (unsc l)), .string ⟨#[101, 69]⟩] V fun e w' => e = .returned (.int .i64 (Lib.indexAny (unsc l) [101, 69])) ∧ Below V.heap.size V w') := fun V => by
  have := IndexAny_eE (bs (unsc l)) V (by rw [bs_size]; omega)
  rwa [bs_list] at this
 have lA : (ptA l).length ≤ 10000 := Nat.le_trans (preP_len isM _) (by omega)
 have HCU : Hid (∀ V, Ml V → Calls Tryz.prog 162 #[.string (bs (ptA l)), .string ⟨#[46]⟩] V fun e w' => e = .returned (.tuple #[.string (bs W), .string (bs F), .bool D]) ∧ Below V.heap.size V w') := fun V hV => by
  obtain ⟨m, hmc⟩ := hV
  have := Tryz.strings_Cut (bs (ptA l)) ⟨#[46]⟩ m V (by rw [bs_size]; omega) hmc
  rw [bs_list, show (⟨#[46]⟩ : ByteArray).data.toList = [46] from rfl, cut_dot] at this
  have h1 : preP isP (ptA l) = W := hW
  have h2 : postP isP (ptA l) = F := hF
  have h3 : (ptA l).any isP = D := hD
  rw [h1, h2, h3] at this
  refine this.mono fun e w' h => ⟨h.1, ?_⟩
  obtain ⟨n, hn⟩ := h.2
  rw [hn]
  exact (Below.refl _ _).drewN n
 have HB0 := Lib.hid (below_alloc w (.cells #[.string ⟨#[]⟩, .string ⟨#[]⟩, .string ⟨#[]⟩, .string ⟨#[48]⟩] 193))
 have HP0 := Lib.hid (PartsAt.new w ⟨#[]⟩ ⟨#[]⟩ ⟨#[]⟩ ⟨#[48]⟩ 193)
 have HZ0 : Hid ((w.alloc (.cells #[.string ⟨#[]⟩, .string ⟨#[]⟩, .string ⟨#[]⟩, .string ⟨#[48]⟩] 193)).heap.size = S + 1) := by show _ = _; simp [hS]
 rw [hS] at HB0 HP0 ⊢
 clear hm hb hsep hd1 hd2 hW hF hD
 cases hM : ptM l
 ·
  obtain ⟨hix, hpre⟩ := split_none hM
  rw [hix] at HIX
  have hA : ptA l = unsc l := hpre
  rw [hA] at HCU
  have e1 : sg = [] := by rw [← hsg]; unfold ptS; rw [hM]; rfl
  have e2 : ex = [48] := by rw [← hex]; unfold ptX; rw [hM]; rfl
  have HP0' : Hid (PartsAt (w.alloc (.cells #[.string ⟨#[]⟩, .string ⟨#[]⟩, .string ⟨#[]⟩, .string ⟨#[48]⟩] 193)) S ⟨#[]⟩ ⟨#[]⟩ (bs sg) (bs ex)) := by rw [e1, e2]; exact HP0
  rw [hM] at hbb
  have HBB := Lib.hid hbb
  generalize unsc l = T at *
  have sT := bs_size T
  clear hbb hM hix hpre hA hsg hex e1 e2 HP0 lA lX
  go_enter Tryz.func136, Tryz.ntmps136
  go_wp2_with fail
  refine (HJ.out _ (HM.out _ HB0.out)).mono ?_
  rintro e w1 ⟨rfl, hw⟩
  have HP1 := Lib.hid (HP0'.out.below hw)
  have HB1 := Lib.hid (HB0.out.trans (hw.mono (by rw [HZ0.out]; omega)))
  clear hw HB0 HP0' HZ0
  go_wp2_with fail
  refine (HIX.out _).mono ?_
  rintro e w2 ⟨rfl, hw⟩
  have HP2 := Lib.hid (HP1.out.below hw)
  have HB2 := Lib.hid (HB1.out.trans (hw.mono (by have := HB1.out.size; omega)))
  clear hw HB1 HP1
  go_wp2_with fail
  refine (HCU.out _ (HM.out _ HB2.out)).mono ?_
  rintro e w3 ⟨rfl, hw⟩
  have HP3 := Lib.hid (HP2.out.below hw)
  have HB3 := Lib.hid (HB2.out.trans (hw.mono (by have := HB2.out.size; omega)))
  clear hw HB2 HP2
  obtain ⟨c0, c1, c2, c3, f0, f1, f2, f3⟩ := HP3.out
  have HPz : Hid (PartsAt ((w3.setCell ⟨S, 0, none⟩ (.string (bs W))).setCell ⟨S, 1, none⟩ (.string (bs F))) S (bs W) (bs F) (bs sg) (bs ex)) := HP3.out.put01 _ _
  have HBz : Hid (Below S w ((w3.setCell ⟨S, 0, none⟩ (.string (bs W))).setCell ⟨S, 1, none⟩ (.string (bs F)))) := below_pt01 HB3.out (Nat.le_refl _) _ _
  go_upto_region 9 with fail
  clear c0 c1 c2 c3 f0 f1 f2 f3 HP3 HB3
  generalize (w3.setCell ⟨S, 0, none⟩ (.string (bs W))).setCell ⟨S, 1, none⟩ (.string (bs F)) = wz at *
  cases sepb with
  | false =>
   have HF : Hid (b = false) := by rw [HBB.out]; rfl
   go_wp2_with fail
   refine (HSE.out _).mono ?_
   rintro e w5 ⟨rfl, rfl⟩
   obtain ⟨c0, c1, c2, c3, f0, f1, f2, f3⟩ := HPz.out
   go_wp2_with fail
   refine bodyPost_ret (v := .tuple #[partsV (bs W) (bs F) (bs sg) (bs ex), .bool false]) (results_parts rfl rfl rfl ((HPz.out.put01 (bs W) (bs F)).put23 (bs sg) (bs ex))) rfl ⟨?_, below_pt23 (below_pt01 HBz.out (Nat.le_refl _) _ _) (Nat.le_refl _) _ _⟩
   rw [HF.out, HR.out.1, HR.out.2.1, HR.out.2.2.1, HR.out.2.2.2]
  | true =>
   cases D with
   | false =>
    have HF : Hid (b = false) := by rw [HBB.out]; rfl
    go_wp2_with fail
    refine (HSE.out _).mono ?_
    rintro e w5 ⟨rfl, rfl⟩
    obtain ⟨c0, c1, c2, c3, f0, f1, f2, f3⟩ := HPz.out
    go_wp2_with fail
    refine bodyPost_ret (v := .tuple #[partsV (bs W) (bs F) (bs sg) (bs ex), .bool false]) (results_parts rfl rfl rfl ((HPz.out.put01 (bs W) (bs F)).put23 (bs sg) (bs ex))) rfl ⟨?_, below_pt23 (below_pt01 HBz.out (Nat.le_refl _) _ _) (Nat.le_refl _) _ _⟩
    rw [HF.out, HR.out.1, HR.out.2.1, HR.out.2.2.1, HR.out.2.2.2]
   | true =>
    have hc3 := HPz.out.c3
    cases d1 with
    | false =>
     have HF : Hid (b = false) := HBB.out.trans (by simp)
     go_wp2_with fail
     refine (HSE.out _).mono ?_
     rintro e w5 ⟨rfl, rfl⟩
     go_wp2_with fail
     refine (HD1.out _).mono ?_
     rintro e w6 ⟨rfl, hw⟩
     have HP6 := Lib.hid (HPz.out.below hw)
     have HB6 := Lib.hid (HBz.out.trans (hw.mono (by have := HBz.out.size; omega)))
     clear hw hc3 HPz HBz
     obtain ⟨c0, c1, c2, c3, f0, f1, f2, f3⟩ := HP6.out
     go_wp2_with fail
     refine bodyPost_ret (v := .tuple #[partsV (bs W) (bs F) (bs sg) (bs ex), .bool false]) (results_parts rfl rfl rfl ((HP6.out.put01 (bs W) (bs F)).put23 (bs sg) (bs ex))) rfl ⟨?_, below_pt23 (below_pt01 HB6.out (Nat.le_refl _) _ _) (Nat.le_refl _) _ _⟩
     rw [HF.out, HR.out.1, HR.out.2.1, HR.out.2.2.1, HR.out.2.2.2]
    | true =>
     have HF : Hid (b = d2) := HBB.out.trans (by simp)
     clear hc3
     go_wp2_with fail
     refine (HSE.out _).mono ?_
     rintro e w5 ⟨rfl, rfl⟩
     go_wp2_with fail
     refine (HD1.out _).mono ?_
     rintro e w6 ⟨rfl, hw⟩
     have HP6 := Lib.hid (HPz.out.below hw)
     have HB6 := Lib.hid (HBz.out.trans (hw.mono (by have := HBz.out.size; omega)))
     clear hw HPz HBz
     have hc3 := HP6.out.c3
     go_wp2_with fail
     refine (HD2.out _).mono ?_
     rintro e w7 ⟨rfl, hw⟩
     have HP7 := Lib.hid (HP6.out.below hw)
     have HB7 := Lib.hid (HB6.out.trans (hw.mono (by have := HB6.out.size; omega)))
     clear hw hc3 HP6 HB6
     obtain ⟨c0, c1, c2, c3, f0, f1, f2, f3⟩ := HP7.out
     go_wp2_with fail
     refine bodyPost_ret (v := .tuple #[partsV (bs W) (bs F) (bs sg) (bs ex), .bool d2]) (results_parts rfl rfl rfl ((HP7.out.put01 (bs W) (bs F)).put23 (bs sg) (bs ex))) rfl ⟨?_, below_pt23 (below_pt01 HB7.out (Nat.le_refl _) _ _) (Nat.le_refl _) _ _⟩
     rw [HF.out, HR.out.1, HR.out.2.1, HR.out.2.2.1, HR.out.2.2.2]
 ·
  obtain ⟨i, hix, hi, htk, hdr⟩ := split_mark hM
  rw [hix] at HIX
  obtain ⟨X, hX⟩ : ∃ X, postP isM (unsc l) = X := ⟨_, rfl⟩
  obtain ⟨A, hA⟩ : ∃ A, ptA l = A := ⟨_, rfl⟩
  have htk2 : (unsc l).take i = A := htk.trans hA
  have hdr2 : (unsc l).drop (i + 1) = X := hdr.trans hX
  rw [hA] at HCU
  have e1 : sg = sgnL X := by rw [← hsg]; unfold ptS; rw [hM, hX]; rfl
  have e2 : ex = restL X := by rw [← hex]; unfold ptX; rw [hM, hX]; rfl
  have HCS := Lib.hid (fun V => cutSign_run X V (by rw [← hX]; exact Nat.le_trans (postP_len isM _) (by omega)))
  rw [← e1, ← e2] at HCS
  rw [hM, Bool.or_true, Bool.true_and] at hbb
  have HBB := Lib.hid hbb
  have hTl : (unsc l).length ≤ 10000 := by omega
  generalize unsc l = T at *
  have sT := bs_size T
  have x1 := bs_to T i
  rw [htk2] at x1
  have x2 := bs_from T (i + 1) _ rfl
  rw [hdr2] at x2
  have hiz : (i : Int) < (T.length : Int) := by omega
  have hiz1 : (i : Int) + 1 ≤ (T.length : Int) := by omega
  clear hbb hM hix htk hdr htk2 hdr2 hX hA hsg hex e1 e2 lA lX
  go_enter Tryz.func136, Tryz.ntmps136
  go_wp2_with fail
  refine (HJ.out _ (HM.out _ HB0.out)).mono ?_
  rintro e w1 ⟨rfl, hw⟩
  have HP1 := Lib.hid (HP0.out.below hw)
  have HB1 := Lib.hid (HB0.out.trans (hw.mono (by rw [HZ0.out]; omega)))
  clear hw HB0 HP0 HZ0
  go_wp2_with fail
  refine (HIX.out _).mono ?_
  rintro e w2 ⟨rfl, hw⟩
  have HP2 := Lib.hid (HP1.out.below hw)
  have HB2 := Lib.hid (HB1.out.trans (hw.mono (by have := HB1.out.size; omega)))
  clear hw HB1 HP1
  go_wp2_with fail
  refine (HCS.out _).mono ?_
  rintro e w3 ⟨rfl, hw⟩
  have HP3 := Lib.hid (HP2.out.below hw)
  have HB3 := Lib.hid (HB2.out.trans (hw.mono (by have := HB2.out.size; omega)))
  clear hw HB2 HP2
  obtain ⟨c0, c1, c2, c3, f0, f1, f2, f3⟩ := HP3.out
  have HP4 : Hid (PartsAt ((w3.setCell ⟨S, 2, none⟩ (.string (bs sg))).setCell ⟨S, 3, none⟩ (.string (bs ex))) S ⟨#[]⟩ ⟨#[]⟩ (bs sg) (bs ex)) := HP3.out.put23 _ _
  have HB4 : Hid (Below S w ((w3.setCell ⟨S, 2, none⟩ (.string (bs sg))).setCell ⟨S, 3, none⟩ (.string (bs ex)))) := below_pt23 HB3.out (Nat.le_refl _) _ _
  go_upto_region 6 with fail
  clear c0 c1 c2 c3 f0 f1 f2 f3 HP3 HB3
  generalize (w3.setCell ⟨S, 2, none⟩ (.string (bs sg))).setCell ⟨S, 3, none⟩ (.string (bs ex)) = w4 at *
  go_wp2_with fail
  refine (HCU.out _ (HM.out _ HB4.out)).mono ?_
  rintro e w5 ⟨rfl, hw⟩
  have HP5 := Lib.hid (HP4.out.below hw)
  have HB5 := Lib.hid (HB4.out.trans (hw.mono (by have := HB4.out.size; omega)))
  clear hw HB4 HP4
  obtain ⟨c0, c1, c2, c3, f0, f1, f2, f3⟩ := HP5.out
  have HPz : Hid (PartsAt ((w5.setCell ⟨S, 0, none⟩ (.string (bs W))).setCell ⟨S, 1, none⟩ (.string (bs F))) S (bs W) (bs F) (bs sg) (bs ex)) := HP5.out.put01 _ _
  have HBz : Hid (Below S w ((w5.setCell ⟨S, 0, none⟩ (.string (bs W))).setCell ⟨S, 1, none⟩ (.string (bs F)))) := below_pt01 HB5.out (Nat.le_refl _) _ _
  go_upto_region 9 with fail
  clear c0 c1 c2 c3 f0 f1 f2 f3 HP5 HB5
  generalize (w5.setCell ⟨S, 0, none⟩ (.string (bs W))).setCell ⟨S, 1, none⟩ (.string (bs F)) = wz at *
  cases sepb with
  | false =>
   have HF : Hid (b = false) := by rw [HBB.out]; rfl
   go_wp2_with fail
   refine (HSE.out _).mono ?_
   rintro e w5 ⟨rfl, rfl⟩
   obtain ⟨c0, c1, c2, c3, f0, f1, f2, f3⟩ := HPz.out
   go_wp2_with fail
   refine bodyPost_ret (v := .tuple #[partsV (bs W) (bs F) (bs sg) (bs ex), .bool false]) (results_parts rfl rfl rfl ((HPz.out.put01 (bs W) (bs F)).put23 (bs sg) (bs ex))) rfl ⟨?_, below_pt23 (below_pt01 HBz.out (Nat.le_refl _) _ _) (Nat.le_refl _) _ _⟩
   rw [HF.out, HR.out.1, HR.out.2.1, HR.out.2.2.1, HR.out.2.2.2]
  | true =>
   cases D with
   | false =>
    have hc3 := HPz.out.c3
    cases d1 with
    | false =>
     have HF : Hid (b = false) := HBB.out.trans (by simp)
     go_wp2_with fail
     refine (HSE.out _).mono ?_
     rintro e w5 ⟨rfl, rfl⟩
     go_wp2_with fail
     refine (HD1.out _).mono ?_
     rintro e w6 ⟨rfl, hw⟩
     have HP6 := Lib.hid (HPz.out.below hw)
     have HB6 := Lib.hid (HBz.out.trans (hw.mono (by have := HBz.out.size; omega)))
     clear hw hc3 HPz HBz
     obtain ⟨c0, c1, c2, c3, f0, f1, f2, f3⟩ := HP6.out
     go_wp2_with fail
     refine bodyPost_ret (v := .tuple #[partsV (bs W) (bs F) (bs sg) (bs ex), .bool false]) (results_parts rfl rfl rfl ((HP6.out.put01 (bs W) (bs F)).put23 (bs sg) (bs ex))) rfl ⟨?_, below_pt23 (below_pt01 HB6.out (Nat.le_refl _) _ _) (Nat.le_refl _) _ _⟩
     rw [HF.out, HR.out.1, HR.out.2.1, HR.out.2.2.1, HR.out.2.2.2]
    | true =>
     have HF : Hid (b = d2) := HBB.out.trans (by simp)
     clear hc3
     go_wp2_with fail
     refine (HSE.out _).mono ?_
     rintro e w5 ⟨rfl, rfl⟩
     go_wp2_with fail
     refine (HD1.out _).mono ?_
     rintro e w6 ⟨rfl, hw⟩
     have HP6 := Lib.hid (HPz.out.below hw)
     have HB6 := Lib.hid (HBz.out.trans (hw.mono (by have := HBz.out.size; omega)))
     clear hw HPz HBz
     have hc3 := HP6.out.c3
     go_wp2_with fail
     refine (HD2.out _).mono ?_
     rintro e w7 ⟨rfl, hw⟩
     have HP7 := Lib.hid (HP6.out.below hw)
     have HB7 := Lib.hid (HB6.out.trans (hw.mono (by have := HB6.out.size; omega)))
     clear hw hc3 HP6 HB6
     obtain ⟨c0, c1, c2, c3, f0, f1, f2, f3⟩ := HP7.out
     go_wp2_with fail
     refine bodyPost_ret (v := .tuple #[partsV (bs W) (bs F) (bs sg) (bs ex), .bool d2]) (results_parts rfl rfl rfl ((HP7.out.put01 (bs W) (bs F)).put23 (bs sg) (bs ex))) rfl ⟨?_, below_pt23 (below_pt01 HB7.out (Nat.le_refl _) _ _) (Nat.le_refl _) _ _⟩
     rw [HF.out, HR.out.1, HR.out.2.1, HR.out.2.2.1, HR.out.2.2.2]
   | true =>
    have hc3 := HPz.out.c3
    cases d1 with
    | false =>
     have HF : Hid (b = false) := HBB.out.trans (by simp)
     go_wp2_with fail
     refine (HSE.out _).mono ?_
     rintro e w5 ⟨rfl, rfl⟩
     go_wp2_with fail
     refine (HD1.out _).mono ?_
     rintro e w6 ⟨rfl, hw⟩
     have HP6 := Lib.hid (HPz.out.below hw)
     have HB6 := Lib.hid (HBz.out.trans (hw.mono (by have := HBz.out.size; omega)))
     clear hw hc3 HPz HBz
     obtain ⟨c0, c1, c2, c3, f0, f1, f2, f3⟩ := HP6.out
     go_wp2_with fail
     refine bodyPost_ret (v := .tuple #[partsV (bs W) (bs F) (bs sg) (bs ex), .bool false]) (results_parts rfl rfl rfl ((HP6.out.put01 (bs W) (bs F)).put23 (bs sg) (bs ex))) rfl ⟨?_, below_pt23 (below_pt01 HB6.out (Nat.le_refl _) _ _) (Nat.le_refl _) _ _⟩
     rw [HF.out, HR.out.1, HR.out.2.1, HR.out.2.2.1, HR.out.2.2.2]
    | true =>
     have HF : Hid (b = d2) := HBB.out.trans (by simp)
     clear hc3
     go_wp2_with fail
     refine (HSE.out _).mono ?_
     rintro e w5 ⟨rfl, rfl⟩
     go_wp2_with fail
     refine (HD1.out _).mono ?_
     rintro e w6 ⟨rfl, hw⟩
     have HP6 := Lib.hid (HPz.out.below hw)
     have HB6 := Lib.hid (HBz.out.trans (hw.mono (by have := HBz.out.size; omega)))
     clear hw HPz HBz
     have hc3 := HP6.out.c3
     go_wp2_with fail
     refine (HD2.out _).mono ?_
     rintro e w7 ⟨rfl, hw⟩
     have HP7 := Lib.hid (HP6.out.below hw)
     have HB7 := Lib.hid (HB6.out.trans (hw.mono (by have := HB6.out.size; omega)))
     clear hw hc3 HP6 HB6
     obtain ⟨c0, c1, c2, c3, f0, f1, f2, f3⟩ := HP7.out
     go_wp2_with fail
     refine bodyPost_ret (v := .tuple #[partsV (bs W) (bs F) (bs sg) (bs ex), .bool d2]) (results_parts rfl rfl rfl ((HP7.out.put01 (bs W) (bs F)).put23 (bs sg) (bs ex))) rfl ⟨?_, below_pt23 (below_pt01 HB7.out (Nat.le_refl _) _ _) (Nat.le_refl _) _ _⟩
     rw [HF.out, HR.out.1, HR.out.2.1, HR.out.2.2.1, HR.out.2.2.2]
end Go.Proofs.YtgkhjeefcflmcaaGreatDoor
