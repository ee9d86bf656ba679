/-
  The parts of a float literal, as mathematics.
-/
import Derived.Test.YtgoemhcngmpfbaaGreatDoorMv18
import Derived.Lib.IndexAny
import Derived.Lib.IndexBytes
import Derived.Test.YtgoemhcngmpfbaaGreatDoorMv16
import Derived.Test.YtgoemhcngmpfbaaGreatDoorMv01
import Derived.Laws.RangeAny
import Derived.WalkMore
import Derived.Laws.Runes
import Derived.Lib.OthersKept
import Derived.Test.YtgoemhcngmpfbaaGreatDoorMv02
import Derived.Test.YtgoemhcngmpfbaaGreatDoorMv07
import Derived.Laws.ResultCell
namespace Go.Proofs.YtgoemhcngmpfbaaGreatDoor
open Go.RowKit Go.Sort
def gidx (p : UInt8 → Bool) (t : List UInt8) : Int := if t.any p then ((t.takeWhile fun c => !p c).length : Int) else -1
theorem gidx_hit {p : UInt8 → Bool} {b : UInt8} (m : List UInt8) (h : p b = true) : gidx p (b :: m) = 0 := by
 unfold gidx
 rw [if_pos (by simp [h])]
 simp [h]
theorem gidx_miss {p : UInt8 → Bool} {b : UInt8} (m : List UInt8) (h : p b = false) : gidx p (b :: m) = if gidx p m == -1 then -1 else gidx p m + 1 := by
 unfold gidx
 cases hm : m.any p
 ·simp [h, hm]
 ·rw [if_pos (by simp [h, hm]), if_pos rfl, if_neg (by simp)]
  rw [List.takeWhile_cons_of_pos (by simp [h])]
  simp
theorem take_of_gidx (p : UInt8 → Bool) : ∀ t : List UInt8, t.take (t.takeWhile fun c => !p c).length = t.takeWhile fun c => !p c
 | [] => rfl
 | b :: m => by
  cases h : p b
  ·rw [List.takeWhile_cons_of_pos (by simp [h]), List.length_cons, List.take_succ_cons, take_of_gidx p m]
  ·rw [List.takeWhile_cons_of_neg (by simp [h])]; rfl
theorem drop_of_gidx (p : UInt8 → Bool) : ∀ t : List UInt8, t.drop ((t.takeWhile fun c => !p c).length + 1) = (t.dropWhile fun c => !p c).drop 1
 | [] => rfl
 | b :: m => by
  cases h : p b
  ·rw [List.takeWhile_cons_of_pos (by simp [h]), List.length_cons, List.drop_succ_cons, drop_of_gidx p m, List.dropWhile_cons_of_pos (by simp [h])]
  ·rw [List.takeWhile_cons_of_neg (by simp [h]), List.dropWhile_cons_of_neg (by simp [h])]; rfl
theorem none_of_gidx {p : UInt8 → Bool} : ∀ {t : List UInt8}, t.any p = false → (t.takeWhile fun c => !p c) = t ∧ (t.dropWhile fun c => !p c) = []
 | [], _ => ⟨rfl, rfl⟩
 | b :: m, h => by
  rw [List.any_cons, Bool.or_eq_false_iff] at h
  obtain ⟨h1, h2⟩ := none_of_gidx h.2
  rw [List.takeWhile_cons_of_pos (by simp [h.1]), List.dropWhile_cons_of_pos (by simp [h.1]), h1, h2]
  exact ⟨rfl, rfl⟩
theorem some_of_gidx {p : UInt8 → Bool} : ∀ {t : List UInt8}, t.any p = true → (t.dropWhile fun c => !p c) ≠ []
 | [], h => by cases h
 | b :: m, h => by
  cases hb : p b
  ·rw [List.dropWhile_cons_of_pos (by simp [hb])]
   rw [List.any_cons, hb, Bool.false_or] at h
   exact some_of_gidx h
  ·rw [List.dropWhile_cons_of_neg (by simp [hb])]
   simp
def isM (c : UInt8) : Bool := ([101, 69] : List UInt8).contains c
def isP (c : UInt8) : Bool := c == 46
theorem indexAny_mark : ∀ t : List UInt8, Lib.indexAny t [101, 69] = gidx isM t
 | [] => rfl
 | b :: m => by
  have ih := indexAny_mark m
  cases h : isM b
  ·rw [gidx_miss m h, ← ih]
   show (if ([101, 69] : List UInt8).contains b then _ else _) = _
   rw [show ([101, 69] : List UInt8).contains b = false from h]
   rfl
  ·rw [gidx_hit m h]
   show (if ([101, 69] : List UInt8).contains b then _ else _) = _
   rw [show ([101, 69] : List UInt8).contains b = true from h]
   rfl
theorem index_dot : ∀ t : List UInt8, Lib.index t [46] = gidx isP t
 | [] => rfl
 | b :: m => by
  have ih := index_dot m
  have hp : ([46] : List UInt8).isPrefixOf (b :: m) = isP b := by
   rw [pre_one]
   unfold isP
   rw [Bool.eq_iff_iff]
   simp only [beq_iff_eq]
   exact eq_comm
  cases h : isP b
  ·rw [gidx_miss m h, ← ih]
   show (if ([46] : List UInt8).isPrefixOf (b :: m) then _ else _) = _
   rw [hp, h]
   rfl
  ·rw [gidx_hit m h]
   show (if ([46] : List UInt8).isPrefixOf (b :: m) then _ else _) = _
   rw [hp, h]
   rfl
def preP (p : UInt8 → Bool) (t : List UInt8) : List UInt8 := t.takeWhile fun c => !p c
def postP (p : UInt8 → Bool) (t : List UInt8) : List UInt8 := (t.dropWhile fun c => !p c).drop 1
theorem cut_dot (t : List UInt8) : Lib.cut t [46] = (preP isP t, postP isP t, t.any isP) := by
 unfold Lib.cut preP postP
 rw [index_dot]
 cases h : t.any isP
 ·have h2 : gidx isP t = -1 := by unfold gidx; rw [h]; rfl
  rw [h2, if_neg (by decide), (none_of_gidx h).1, (none_of_gidx h).2]
  rfl
 ·have h2 : gidx isP t = ((t.takeWhile fun c => !isP c).length : Int) := by unfold gidx; rw [h]; rfl
  rw [h2, if_pos (by omega), Int.toNat_natCast, take_of_gidx]
  show (_, t.drop ((t.takeWhile fun c => !isP c).length + 1), true) = _
  rw [drop_of_gidx]
theorem split_mark {t : List UInt8} (h : t.any isM = true) : ∃ i : Nat, Lib.indexAny t [101, 69] = (i : Int) ∧ i < t.length ∧ t.take i = preP isM t ∧ t.drop (i + 1) = postP isM t := by
 refine ⟨(t.takeWhile fun c => !isM c).length, ?_, ?_, take_of_gidx isM t, drop_of_gidx isM t⟩
 ·rw [indexAny_mark]
  unfold gidx
  rw [h]
  rfl
 ·have h2 := List.takeWhile_append_dropWhile (p := fun c => !isM c) (l := t)
  have h3 : t.dropWhile (fun c => !isM c) ≠ [] := some_of_gidx h
  have h4 := congrArg List.length h2
  rw [List.length_append] at h4
  have h5 : 0 < (t.dropWhile fun c => !isM c).length := List.length_pos_iff.2 h3
  omega
theorem split_none {t : List UInt8} (h : t.any isM = false) : Lib.indexAny t [101, 69] = -1 ∧ preP isM t = t := by
 refine ⟨?_, (none_of_gidx h).1⟩
 rw [indexAny_mark]
 unfold gidx
 rw [h]
 rfl
def ptA (l : List UInt8) : List UInt8 := preP isM (unsc l)
def ptM (l : List UInt8) : Bool := (unsc l).any isM
def ptW (l : List UInt8) : List UInt8 := preP isP (ptA l)
def ptF (l : List UInt8) : List UInt8 := postP isP (ptA l)
def ptD (l : List UInt8) : Bool := (ptA l).any isP
def ptS (l : List UInt8) : List UInt8 := if ptM l then sgnL (postP isM (unsc l)) else []
def ptX (l : List UInt8) : List UInt8 := if ptM l then restL (postP isM (unsc l)) else [48]
def FloatOk (l : List UInt8) : Prop := Sep isDig l ∧ (ptD l || ptM l) = true ∧ decB (ptW l ++ ptF l) = true ∧ decB (ptX l) = true
theorem preP_len (p : UInt8 → Bool) (t : List UInt8) : (preP p t).length ≤ t.length := by
 unfold preP
 have h := congrArg List.length (List.takeWhile_append_dropWhile (p := fun c => !p c) (l := t))
 rw [List.length_append] at h
 omega
theorem postP_len (p : UInt8 → Bool) (t : List UInt8) : (postP p t).length ≤ t.length := by
 unfold postP
 have h := congrArg List.length (List.takeWhile_append_dropWhile (p := fun c => !p c) (l := t))
 rw [List.length_append] at h
 rw [List.length_drop]
 omega
theorem restL_len (l : List UInt8) : (restL l).length ≤ l.length := by
 cases l with
 | nil => simp [restL]
 | cons a m =>
  show (if isSgn a.toNat = true then m else a :: m).length ≤ _
  split <;> simp
end Go.Proofs.YtgoemhcngmpfbaaGreatDoor
namespace Go.Proofs.YtgoemhcngmpfbaaGreatDoor
open Go.RowKit Go.Sort
set_option linter.unusedSimpArgs false
theorem decode_skip (s : ByteArray) (pos : Nat) (h : pos < s.size) (ha : 128 ≤ (s[pos]'h).toNat) :
    pos + (Utf8.decode s pos).2 ≤ s.size ∧ ∀ j, j < (Utf8.decode s pos).2 → 128 ≤ (s.get! (pos + j)).toNat := by
  have hn : ¬ (s[pos]'h).toNat < 128 := by omega
  have h0 : 128 ≤ (s.get! (pos + 0)).toNat := by rw [get_at s pos h]; exact ha
  have one : pos + 1 ≤ s.size ∧ ∀ j, j < 1 → 128 ≤ (s.get! (pos + j)).toNat := ⟨by omega, fun j hj => by obtain rfl : j = 0 := by omega
                                                                                                         exact h0⟩
  unfold Utf8.decode
  simp only [get_at s pos h, hn, if_false]
  split
  · rename_i c
    simp only [Bool.and_eq_true, beq_iff_eq, decide_eq_true_eq] at c
    split
    · refine ⟨by show pos + 2 ≤ _; omega, fun j hj => ?_⟩
      match j, hj with
      | 0, _ => exact h0
      | 1, _ => omega
      | k + 2, hj => exact absurd hj (by show ¬ k + 2 < 2; omega)
    · exact one
  · split
    · rename_i c
      simp only [Bool.and_eq_true, beq_iff_eq, decide_eq_true_eq] at c
      split
      · refine ⟨by show pos + 3 ≤ _; omega, fun j hj => ?_⟩
        match j, hj with
        | 0, _ => exact h0
        | 1, _ => omega
        | 2, _ => omega
        | k + 3, hj => exact absurd hj (by show ¬ k + 3 < 3; omega)
      · exact one
    · split
      · rename_i c
        simp only [Bool.and_eq_true, beq_iff_eq, decide_eq_true_eq] at c
        split
        · refine ⟨by show pos + 4 ≤ _; omega, fun j hj => ?_⟩
          match j, hj with
          | 0, _ => exact h0
          | 1, _ => omega
          | 2, _ => omega
          | 3, _ => omega
          | k + 4, hj => exact absurd hj (by show ¬ k + 4 < 4; omega)
        · exact one
      · exact one
theorem valid_same (r : Int) : Lib.validRune r = Utf8.valid r := by
 unfold Lib.validRune Utf8.valid
 rw [Bool.eq_iff_iff]
 simp
 omega
set_option maxRecDepth 100000 in
set_option maxHeartbeats 4000000 in
theorem IndexRune_eE (r : Int) (h : 128 ≤ r) (w : World) :
  Calls Tryz.prog 133 #[.string ⟨#[101, 69]⟩, .int .i32 r] w fun e w' => e = .returned (.int .i64 (-1)) ∧ Below w.heap.size w w' := by
 have h1 : 0 ≤ r := by omega
 have h2 : ¬ r < 128 := by omega
 by_cases he : r = 65533
 ·subst he
  have n0 : ∀ ty, (Instr.next (.pointer (some ⟨w.heap.size, 0, none⟩)) true ty).run Tryz.prog (w.iter ⟨#[101, 69]⟩ 0) = .ok (.tuple #[.bool true, .int .i64 0, .int .i32 101]) (w.iter ⟨#[101, 69]⟩ 1) := fun ty => run_next_ascii (P := Tryz.prog) w ⟨#[101, 69]⟩ 0 ty (by decide) (by decide)
  have n1 : ∀ ty, (Instr.next (.pointer (some ⟨w.heap.size, 0, none⟩)) true ty).run Tryz.prog (w.iter ⟨#[101, 69]⟩ 1) = .ok (.tuple #[.bool true, .int .i64 1, .int .i32 69]) (w.iter ⟨#[101, 69]⟩ 2) := fun ty => run_next_ascii (P := Tryz.prog) w ⟨#[101, 69]⟩ 1 ty (by decide) (by decide)
  have n2 := fun ty => run_next_end (P := Tryz.prog) w ⟨#[101, 69]⟩ 2 ty (by decide)
  clear h h1 h2
  go_enter Tryz.func133, Tryz.ntmps133
  go_wp2_with fail
  go_loopg [5, 6] 3 (fun h _ _ wx => ∃ i : Nat, Hid (i + h = 3) ∧ i ≤ 2 ∧ wx = w.iter ⟨#[101, 69]⟩ i)
  case atStart => exact ⟨0, by show _ = _; omega, by omega, rfl⟩
  case round =>
   obtain ⟨i, HI, hi2, rfl⟩ := hrel
   match i, hi2 with
   | 0, _ =>
    go_wp2_with fail
    go_roundg 2
    case measure => have := HI.out; omega
    case rel => exact ⟨1, by show _ = _; omega, by omega, rfl⟩
   | 1, _ =>
    go_wp2_with fail
    go_roundg 1
    case measure => have := HI.out; omega
    case rel => exact ⟨2, by show _ = _; omega, by omega, rfl⟩
   | 2, _ =>
    go_wp2_with fail
    go_ret
    exact ⟨rfl, below_alloc _ _⟩
 ·have HV := Lib.hid (fun W => Tryz.utf8_ValidRune r W)
  have he2 : (r == 65533) = false := beq_eq_false_iff_ne.2 he
  cases hv : Lib.validRune r
  ·rw [hv] at HV
   clear h he hv
   go_enter Tryz.func133, Tryz.ntmps133
   go_wp2_with fail
   refine (HV.out _).mono ?_
   rintro e w1 ⟨rfl, rfl⟩
   go_wp2_with fail
   go_ret
   exact ⟨rfl, Below.refl _ _⟩
  ·rw [hv] at HV
   rw [valid_same] at hv
   obtain ⟨l1, l2, l3⟩ := encode_facts r hv h
   obtain ⟨rs, hrs⟩ : ∃ rs, Utf8.encode r = rs := ⟨_, rfl⟩
   rw [hrs] at l1 l2 l3
   have HCV : ∀ W, (convert 21 9 (.int .i32 r)).run Tryz.prog W = .ok (.string rs) W := fun W => by
    rw [run_convert_int_string W _ _ _ _ (by kernel_rfl) Tryz.underlying9, hrs]
   clear h he hv hrs
   by_cases hs2 : rs.size = 2
   ·obtain ⟨b, hb⟩ := get_of_lt (s := rs) (i := 1) (by omega)
    have hb128 : 128 ≤ b.toNat := by
     have h4 := l3 (by omega)
     have h5 : rs[rs.size - 1]'(by omega) = b := by
      obtain ⟨h6, h7⟩ := List.getElem?_eq_some_iff.1 hb
      rw [← h7]
      simp [hs2]
      rfl
     rwa [h5] at h4
    have hix := index_at hb
    have hiy : ∀ W, (Instr.index 9 (.string ⟨#[101, 69]⟩) (.int .i64 1)).run Tryz.prog W = .ok (.int .u8 69) W := fun W => index_at (s := ⟨#[101, 69]⟩) (i := 1) (b := 69) rfl W
    rw [Int.natCast_one] at hix
    have hne : ((69 : Int) == (b.toNat : Int)) = false := beq_eq_false_iff_ne.2 (by omega)
    have HIB : Hid (∀ W, Calls Tryz.prog 130 #[.string ⟨#[]⟩, .int .u8 (b.toNat : Int)] W fun e w' => e = .returned (.int .i64 (-1)) ∧ ∃ m, w' = W.drewN m) := fun W => (Tryz.strings_IndexByte ⟨#[]⟩ (b.toNat : Int) W).mono fun e w' h => ⟨h.1, 0, h.2⟩
    have hsl : ∀ W, (Instr.slice 9 (.string ⟨#[101, 69]⟩) (some (.int .i64 2)) none none).run Tryz.prog W = .ok (.string ⟨#[]⟩) W := fun W => by kernel_rfl
    have hw2 : IntKind.i64.wrap 2 = 2 := by decide
    generalize b.toNat = bn at *
    clear l1 l2 l3 hb hb128
    go_enter Tryz.func133, Tryz.ntmps133
    go_wp2_with fail
    refine (HV.out _).mono ?_
    rintro e w1 ⟨rfl, rfl⟩
    go_wp2_with fail
    go_step3
    go_wp2_with fail
    refine wp_loop_rounds 1 ?_
    rw [rounds_succ]
    go_wp2_with fail
    go_step3
    go_wp2_with fail
    go_quiet (fail)
    go_wp2_with fail
    have HW2 : Hid (Below w1.heap.size w1 (w1.drewN nq)) := (Below.refl _ _).drewN nq
    generalize w1.drewN nq = wq at *
    go_quiet (first | (go_at_call 130; refine Calls.quiet_of (HIB.out _)) | fail)
    go_wp2_with fail
    (try simp only [Exit.noGoto_ret, Exit.inBlock, Exit.then])
    go_ret
    exact ⟨rfl, HW2.out.drewN _⟩
   ·have hl : ¬ ((rs.size : Int) - 1 < 2) := by omega
    have hsz2 : 3 ≤ rs.size ∧ rs.size ≤ 4 := by omega
    clear l3 hs2 l1 l2
    go_enter Tryz.func133, Tryz.ntmps133
    go_wp2_with fail
    refine (HV.out _).mono ?_
    rintro e w1 ⟨rfl, rfl⟩
    go_wp2_with fail
    go_step3
    go_wp2_with fail
    refine wp_loop_rounds 1 ?_
    rw [rounds_succ]
    go_wp2_with fail
    (try simp only [Exit.noGoto_ret, Exit.inBlock, Exit.then])
    go_ret
    exact ⟨rfl, Below.refl _ _⟩
theorem get_data {s : ByteArray} {i : Nat} (h : i < s.size) : s.data.toList[i]? = some (s.get! i) := by
 have e : s.get! i = s[i]'h := by
  simp [ByteArray.get!, getElem!_pos, h]
  rfl
 rw [e]
 exact Lib.data_getElem? s i h
theorem noAny_skip {l : List UInt8} {i n : Nat} (h : Lib.NoAny l [101, 69] i) (hn : ∀ j b, j < n → l[i + j]? = some b → 128 ≤ b.toNat) : Lib.NoAny l [101, 69] (i + n) := fun j b hj hb => by
 by_cases e : j < i
 ·exact h j b e hb
 ·have h1 := hn (j - i) b (by omega) (by rw [show i + (j - i) = j by omega]; exact hb)
  have h2 : b ≠ 101 := fun e => by rw [e] at h1; exact absurd h1 (by decide)
  have h3 : b ≠ 69 := fun e => by rw [e] at h1; exact absurd h1 (by decide)
  simp [h2, h3]
set_option maxRecDepth 100000 in
set_option maxHeartbeats 4000000 in
theorem IndexAny_short_eE (s : ByteArray) (w : World) (h8 : s.size ≤ 8) :
  Calls Tryz.prog 105 #[.string s, .string ⟨#[101, 69]⟩] w fun e w' => e = .returned (.int .i64 (Lib.indexAny s.data.toList [101, 69])) ∧ Below w.heap.size w w' := by
 obtain ⟨K, hK⟩ : ∃ K, w.heap.size = K := ⟨_, rfl⟩
 have h0 := World.iter_heap w s 0
 have b0 := below_alloc w (.stringIter s 0)
 rw [hK] at h0 b0 ⊢
 have H0 := Lib.hid h0
 have B0 := Lib.hid b0
 clear h0 b0
 have h8z : decide ((8 : Int) < (s.size : Int)) = false := decide_eq_false (by omega)
 have HSU := Lib.hid (fun W => Tryz.strings_shouldUseASCIISet (s.size : Int) W)
 rw [h8z] at HSU
 clear h8z
 go_enter Tryz.func105, Tryz.ntmps105
 go_wp2_with fail
 refine (HSU.out _).mono ?_
 rintro e w1 ⟨rfl, rfl⟩
 go_wp2_with fail
 clear hK
 go_loopg [9, 10] (s.size + 1) (fun h _ _ wx => ∃ (i : Nat) (W : World), Hid (i + h ≥ s.size + 1) ∧ i ≤ s.size ∧ Hid (Lib.NoAny s.data.toList [101, 69] i) ∧ wx = W ∧ Hid (W.heap[K]? = some (.stringIter s i) ∧ Below K w1 W))
 case atStart => exact ⟨0, _, by show _ ≥ _; omega, by omega, Lib.NoAny.zero _ _, rfl, H0.out, B0.out⟩
 case round =>
  obtain ⟨i, W, HI, hin, HN, rfl, HW⟩ := hrel
  by_cases hlt : i < s.size
  ·have hlr : K < wr.heap.size := by
    rcases Nat.lt_or_ge K wr.heap.size with h | h
    ·exact h
    ·have := HW.out.1; rw [Array.getElem?_eq_none h] at this; cases this
   have hx := get_data hlt
   have hnx := fun ty => Lib.run_next_any_at (P := Tryz.prog) wr K s i ty HW.out.1 hlt
   have hit := Lib.iterAt_heap wr K s i (i + (Utf8.decode s i).2) HW.out.1
   have hbl := Lib.below_iterAt HW.out.2 (Nat.le_refl _) s (i + (Utf8.decode s i).2)
   have hsz := Lib.iterAt_size wr K s (i + (Utf8.decode s i).2)
   obtain ⟨W2, hW2⟩ : ∃ W2, wr.iterAt K s (i + (Utf8.decode s i).2) = W2 := ⟨_, rfl⟩
   rw [hW2] at hit hbl hsz
   simp only [hW2] at hnx
   have HIT := Lib.hid hit
   have HBL := Lib.hid hbl
   have HSZ : Hid (K < W2.heap.size) := by show _ < _; rw [hsz]; exact hlr
   have hgx : s.get! i = s[i]'hlt := get_at s i hlt
   clear hW2 hit hbl hsz hlr
   by_cases ha : (s.get! i).toNat < 128
   ·have hd := decode_ascii s i hlt (by rw [← hgx]; exact ha)
    rw [hd, ← hgx] at hnx
    rw [hd] at HIT
    generalize s.get! i = x at *
    clear hgx hd
    have HR := fun V => Tryz.strings_IndexRune_ascii ⟨#[101, 69]⟩ (x.toNat : Int) V (by omega) (by omega)
    have hb : ((x.toNat : Int)).toNat.toUInt8 = x := by simp
    rw [hb] at HR
    have hcon := Lib.contains_iff_indexByte [101, 69] x
    have hcl : (⟨#[101, 69]⟩ : ByteArray).data.toList = [101, 69] := rfl
    rw [hcl] at HR
    have HX := Lib.hid hx
    generalize Lib.indexByte [101, 69] x = z at *
    replace HR := Lib.hid HR
    clear hx hb hcl
    cases hc : ([101, 69] : List UInt8).contains x
    ·rw [hc] at hcon
     have hz : ¬ (0 : Int) ≤ z := of_decide_eq_false hcon.symm
     have HN2 := Lib.hid (HN.out.succ HX.out hc)
     clear hcon hc
     go_wp2_with fail
     refine (HR.out _).mono ?_
     rintro e w3 ⟨rfl, rfl⟩
     go_wp2_with fail
     go_roundg (s.size - i)
     case measure => have := HI.out; omega
     case rel => exact ⟨i + 1, _, by show _ ≥ _; omega, by omega, HN2, rfl, HIT.out, HBL.out⟩
    ·rw [hc] at hcon
     have hz : (0 : Int) ≤ z := of_decide_eq_true hcon.symm
     have HE : Hid (Lib.indexAny s.data.toList [101, 69] = (i : Int)) := Lib.indexAny_hit HN.out HX.out hc
     clear hcon hc
     go_wp2_with fail
     refine (HR.out _).mono ?_
     rintro e w3 ⟨rfl, rfl⟩
     go_wp2_with fail
     go_ret
     exact ⟨by rw [HE.out]; rfl, HBL.out⟩
   ·have h128 : 128 ≤ (s[i]'hlt).toNat := by rw [← hgx]; omega
    obtain ⟨k1, k2⟩ := decode_high s i hlt h128
    obtain ⟨k3, k4⟩ := decode_skip s i hlt h128
    have k5 := decode_le s i
    have HN2 : Hid (Lib.NoAny s.data.toList [101, 69] (i + (Utf8.decode s i).2)) := noAny_skip HN.out (fun j b hj hb => by
     have h1 : i + j < s.size := by omega
     rw [get_data h1] at hb
     cases hb
     exact k4 j hj)
    generalize (Utf8.decode s i).1 = r at *
    generalize (Utf8.decode s i).2 = n at *
    have HR := Lib.hid (fun V => IndexRune_eE (r : Int) (by omega) V)
    clear k4 hx hgx ha h128
    go_wp2_with fail
    refine (HR.out _).mono ?_
    rintro e w3 ⟨rfl, hw3⟩
    have HIT3 : Hid (w3.heap[K]? = some (.stringIter s (i + n))) := by
     show _ = _
     rw [hw3.block _ HSZ.out]
     exact HIT.out
    have HBL3 : Hid (Below K w1 w3) := HBL.out.trans (hw3.mono (Nat.le_of_lt HSZ.out))
    clear hw3
    go_wp2_with fail
    go_roundg (s.size - i)
    case measure => have := HI.out; omega
    case rel => exact ⟨i + n, _, by show _ ≥ _; omega, by omega, HN2, rfl, HIT3.out, HBL3.out⟩
  ·obtain rfl : i = s.size := by omega
   have hnx := fun ty => Lib.run_next_end_at (P := Tryz.prog) wr K s s.size ty HW.out.1 (Nat.lt_irrefl _)
   have HE : Hid (Lib.indexAny s.data.toList [101, 69] = -1) := Lib.indexAny_none (by have := HN.out; rwa [show s.data.toList.length = s.size by simp])
   go_wp2_with fail
   go_ret
   exact ⟨by rw [HE.out]; rfl, HW.out.2⟩
theorem IndexAny_eE (s : ByteArray) (w : World) (hs : s.size < 4294967281) :
  Calls Tryz.prog 105 #[.string s, .string ⟨#[101, 69]⟩] w fun e w' => e = .returned (.int .i64 (Lib.indexAny s.data.toList [101, 69])) ∧ Below w.heap.size w w' := by
 by_cases h8 : s.size ≤ 8
 ·exact IndexAny_short_eE s w h8
 ·refine (Tryz.strings_IndexAny_long (fun _ => by kernel_rfl) s ⟨#[101, 69]⟩ w (by decide) (by omega) hs (by decide) (fun j b hb => ?_)).mono fun e w' h => ⟨h.1, by rw [h.2]; exact (below_alloc _ _).alloc (by simp) _⟩
  match j, hb with
  | 0, hb => cases hb; decide
  | 1, hb => cases hb; decide
end Go.Proofs.YtgoemhcngmpfbaaGreatDoor
namespace Go.Proofs.YtgoemhcngmpfbaaGreatDoor
open Go.RowKit
theorem int_slice : SliceK .i64 55 3 := ⟨Tryz.underlying55, 8, by omega, by kernel_rfl⟩
end Go.Proofs.YtgoemhcngmpfbaaGreatDoor
namespace Go.Proofs.YtgoemhcngmpfbaaGreatDoor
open Go.RowKit
def dg (n i : Nat) : Nat := dig 65536 n i
def nl (n : Nat) : Nat := nlen 65536 n
theorem lt_nl (n : Nat) : n < 65536 ^ nl n := lt_nlen (by decide) n
theorem nl_zero : nl 0 = 0 := nlen_zero _
theorem nl_le {n k : Nat} (h : n < 65536 ^ k) : nl n ≤ k := nlen_le_of_lt (by decide) h
theorem nl_mono {a b : Nat} (h : a ≤ b) : nl a ≤ nl b := nlen_mono (by decide) h
theorem nl_uniq {n k : Nat} (h : n < 65536 ^ k) (h2 : k ≠ 0 → 65536 ^ (k - 1) ≤ n) : nl n = k := nlen_uniq (by decide) h h2
theorem nl_of_dg {n j : Nat} (h : n < 65536 ^ (j + 1)) (hd : dg n j ≠ 0) : nl n = j + 1 :=
 nl_uniq h fun _ => by
  rcases Nat.lt_or_ge n (65536 ^ j) with h1 | h1
  ·exact absurd (dig_high h1) hd
  ·exact h1
theorem lt_of_dg {n j : Nat} (h : n < 65536 ^ (j + 1)) (hd : dg n j = 0) : n < 65536 ^ j := by
 have h1 : n / 65536 ^ (j + 1) = 0 := Nat.div_eq_of_lt h
 have h2 := div_dig 65536 n j
 rw [h1] at h2
 have h3 : n / 65536 ^ j = 0 := by
  rw [h2]
  show 65536 * 0 + dg n j = 0
  rw [hd]
 rcases Nat.lt_or_ge n (65536 ^ j) with h4 | h4
 ·exact h4
 ·have := Nat.div_pos h4 (Nat.pow_pos (by decide) : 0 < 65536 ^ j)
  omega
theorem p654 : (65536 : Nat) ^ 4 = 18446744073709551616 := by decide
theorem wd_eq (n i : Nat) : wd n i = n / 65536 ^ (4 * i) % 65536 ^ 4 := by
 show n / 18446744073709551616 ^ i % 18446744073709551616 = _
 rw [Nat.pow_mul, p654]
theorem wd_dg (n i : Nat) {k : Nat} (hk : k < 4) : wd n i / 65536 ^ k % 65536 = dg n (4 * i + k) := by
 rw [wd_eq]
 show dig 65536 (n / 65536 ^ (4 * i) % 65536 ^ 4) k = dig 65536 n (4 * i + k)
 rw [dig_mod hk, dig_div, Nat.add_comm]
theorem fits_dg (n : Nat) : Fits n ↔ n < 65536 ^ 32 := by
 show n < 18446744073709551616 ^ 8 ↔ _
 have : (18446744073709551616 : Nat) ^ 8 = 65536 ^ 32 := by decide
 rw [this]
def qd (q i k : Nat) : Nat := dg q i / 2 ^ k * 2 ^ k
end Go.Proofs.YtgoemhcngmpfbaaGreatDoor
namespace Go.Proofs.YtgoemhcngmpfbaaGreatDoor
open Go.RowKit Go.Sort
set_option linter.unusedSimpArgs false
def digl (L n : Nat) : List Int := (List.range L).map fun i => ((dg n i : Nat) : Int)
theorem digl_length (L n : Nat) : (digl L n).length = L := by simp [digl]
theorem digl_get {L n i : Nat} (h : i < L) : (digl L n)[i]? = some ((dg n i : Nat) : Int) := by
 unfold digl
 rw [List.getElem?_map, List.getElem?_range h]
 rfl
theorem digl_succ (L n : Nat) : digl (L + 1) n = digl L n ++ [((dg n L : Nat) : Int)] := by simp [digl, List.range_succ]
def DgAt (w : World) (A : Option Addr) (L n : Nat) : Prop := 0 < L → ∃ b o, A = some ⟨b, o, none⟩ ∧ b < w.heap.size ∧ ∀ i, i < L → w.cell? ⟨b, o + i, none⟩ = some (.int .i64 ((dg n i : Nat) : Int))
theorem DgAt.of_nums {w : World} {A : Option Addr} {L n : Nat} (h : NumsK .i64 w w.heap.size A (digl L n)) : DgAt w A L n := fun hp => by
 obtain ⟨b, o, e, hb, hc⟩ := h (by rw [digl_length]; exact hp)
 exact ⟨b, o, e, hb, fun i hi => hc i _ (digl_get hi)⟩
theorem DgAt.nums {w : World} {A : Option Addr} {L n : Nat} (h : DgAt w A L n) : NumsK .i64 w w.heap.size A (digl L n) := fun hp => by
 rw [digl_length] at hp
 obtain ⟨b, o, e, hb, hc⟩ := h hp
 refine ⟨b, o, e, hb, fun i x hx => ?_⟩
 have hi : i < L := by have := (List.getElem?_eq_some_iff.1 hx).1; rwa [digl_length] at this
 rw [digl_get hi] at hx
 cases hx
 exact hc i hi
theorem DgAt.keep {w w' : World} {A : Option Addr} {L n B : Nat} (h : DgAt w A L n) (hb : Below B w w') (hB : w.heap.size ≤ B) : DgAt w' A L n := fun hp => by
 obtain ⟨b, o, e, hl, hc⟩ := h hp
 exact ⟨b, o, e, Nat.lt_of_lt_of_le hl hb.size, fun i hi => (hb.cell (p := ⟨b, o + i, none⟩) (Nat.lt_of_lt_of_le hl hB)).trans (hc i hi)⟩
theorem DgAt.below {w w' : World} {A : Option Addr} {L n : Nat} (h : DgAt w A L n) (hb : Below w.heap.size w w') : DgAt w' A L n := h.keep hb (Nat.le_refl _)
theorem DgAt.take {w : World} {A : Option Addr} {L M n : Nat} (h : DgAt w A L n) (hM : M ≤ L) : DgAt w A M n := fun hp => by
 obtain ⟨b, o, e, hl, hc⟩ := h (by omega)
 exact ⟨b, o, e, hl, fun i hi => hc i (by omega)⟩
theorem DgAt.nil {w : World} {A : Option Addr} {n : Nat} : DgAt w A 0 n := fun h => absurd h (by omega)
theorem DgAt.drew {w : World} {A : Option Addr} {L n : Nat} (h : DgAt w A L n) : DgAt w.drew A L n := h
def Cap (L cap : Nat) : Prop := L ≤ cap ∧ cap ≤ 9223372036854775807
set_option maxRecDepth 100000 in
set_option maxHeartbeats 2000000 in
theorem trim_run (s z : Bool) (A : Option Addr) (L cap n m : Nat) (w : World) (h : Hid (DgAt w A L n)) (hn : Hid (n < 65536 ^ L)) (hc : Hid (Cap L cap)) (hz : Hid (sgn s n = z)) (hm : Hid (nl n = m)) :
  Calls Tryz.prog 76 #[.bool s, .slice A L cap] w fun e w' => e = .returned (.agg #[.bool z, .slice A m cap]) ∧ Below w.heap.size w w' := by
 have b0 := Lib.hid (below_alloc w (.cells #[.bool false, .slice none 0 0] 57))
 have hcp := hc.out
 unfold Cap at hcp
 go_enter Tryz.func76, Tryz.ntmps76
 go_wp2_with fail
 go_loopg [5] (L + 1) (fun h s5 wr => ∃ j : Nat, s5 = .int .i64 (j : Int) ∧ Hid (j < h ∧ n < 65536 ^ j) ∧ j ≤ L ∧ wr = w.alloc (.cells #[.bool false, .slice none 0 0] 57))
 case atStart => exact ⟨L, rfl, ⟨Nat.lt_succ_self _, hn.out⟩, Nat.le_refl _, rfl⟩
 case round =>
  obtain ⟨j, rfl, HJ, hjl, rfl⟩ := hrel
  cases j with
  | zero =>
   have h0 : n = 0 := by have := HJ.out.2; rw [Nat.pow_zero] at this; omega
   obtain rfl : m = 0 := by rw [← hm.out, h0, nl_zero]
   obtain rfl : z = false := by rw [← hz.out, h0]; simp [sgn]
   clear h0
   cases A with
   | none =>
    cases s
    ·go_wp2_with fail
     (try simp only [Exit.inBlock, Exit.then])
     refine bodyPost_ret (v := .agg #[.bool false, .slice none 0 cap]) (by rw [results_cell1 rfl]; go_simp; try rfl) rfl ⟨rfl, below_alloc _ _⟩
    ·go_wp2_with fail
     (try simp only [Exit.inBlock, Exit.then])
     refine bodyPost_ret (v := .agg #[.bool false, .slice none 0 cap]) (by rw [results_cell1 rfl]; go_simp; try rfl) rfl ⟨rfl, below_alloc _ _⟩
   | some a =>
    cases s
    ·go_wp2_with fail
     (try simp only [Exit.inBlock, Exit.then])
     refine bodyPost_ret (v := .agg #[.bool false, .slice (some a) 0 cap]) (by rw [results_cell1 rfl]; go_simp; try rfl) rfl ⟨rfl, below_alloc _ _⟩
    ·go_wp2_with fail
     (try simp only [Exit.inBlock, Exit.then])
     refine bodyPost_ret (v := .agg #[.bool false, .slice (some a) 0 cap]) (by rw [results_cell1 rfl]; go_simp; try rfl) rfl ⟨rfl, below_alloc _ _⟩
  | succ i =>
   obtain ⟨b, o, rfl, hbl, hcell⟩ := h.out (by omega)
   have hx := (World.cell?_alloc_lt w (.cells #[.bool false, .slice none 0 0] 57) ⟨b, o + i, none⟩ hbl).trans (hcell i (by omega))
   clear hcell
   by_cases hd : dg n i = 0
   ·have HJ2 : Hid (i < i + 1 ∧ n < 65536 ^ i) := ⟨by omega, lt_of_dg HJ.out.2 hd⟩
    go_wp2_with fail
    go_roundg (i + 1)
    case measure => have := HJ.out; omega
    case rel => exact ⟨i, by go_num, HJ2, by omega, rfl⟩
   ·have hm0 : nl n = i + 1 := nl_of_dg HJ.out.2 hd
    obtain rfl : m = i + 1 := by rw [← hm.out, hm0]
    have hn0 : n ≠ 0 := fun e => by rw [e, nl_zero] at hm0; omega
    obtain rfl : z = s := by rw [← hz.out]; simp [sgn, hn0]
    clear hm0 hn0
    cases z
    ·go_wp2_with fail
     (try simp only [Exit.inBlock, Exit.then])
     refine bodyPost_ret (v := .agg #[.bool false, .slice (some ⟨b, o, none⟩) (i + 1) cap]) (by rw [results_cell1 rfl]; go_simp; try rfl) rfl ⟨rfl, below_alloc _ _⟩
    ·go_wp2_with fail
     (try simp only [Exit.inBlock, Exit.then])
     refine bodyPost_ret (v := .agg #[.bool true, .slice (some ⟨b, o, none⟩) (i + 1) cap]) (by rw [results_cell1 rfl]; go_simp; try rfl) rfl ⟨rfl, below_alloc _ _⟩
theorem cmpN_digs {a b i : Nat} (h : a / 65536 ^ (i + 1) = b / 65536 ^ (i + 1)) (hd : ¬ dg a i = dg b i) : cmpN a b = if dg a i < dg b i then -1 else 1 := by
 rcases Nat.lt_or_ge (dg a i) (dg b i) with h1 | h1
 ·rw [if_pos h1, cmpN_lt (lt_of_dig (by decide) h h1)]
 ·rw [if_neg (by omega), cmpN_gt (lt_of_dig (by decide) h.symm (show dg b i < dg a i by omega))]
set_option maxRecDepth 100000 in
set_option maxHeartbeats 4000000 in
theorem Order_run7 (A B : Option Addr) (L M ca cb a b : Nat) (c : Int) (w : World) (ha : Hid (DgAt w A L a)) (hb : Hid (DgAt w B M b)) (hL : Hid (nl a = L)) (hM : Hid (nl b = M)) (hca : Hid (Cap L ca)) (hcb : Hid (Cap M cb)) (hc : Hid (cmpN a b = c)) :
  Calls Tryz.prog 75 #[.slice A L ca, .slice B M cb] w fun e w' => e = .returned (.int .i64 c) ∧ Below w.heap.size w w' := by
 have hcp := hca.out
 have hcq := hcb.out
 unfold Cap at hcp hcq
 by_cases hne : L = M
 ·subst hne
  have HE0 : Hid (a / 65536 ^ L = b / 65536 ^ L) := by
   show _ = _
   have h1 := lt_nl a
   have h2 := lt_nl b
   rw [hL.out] at h1
   rw [hM.out] at h2
   rw [Nat.div_eq_of_lt h1, Nat.div_eq_of_lt h2]
  go_enter Tryz.func75, Tryz.ntmps75
  go_wp2_with fail
  go_loopg [5] (L + 1) (fun h s5 wr => ∃ (z : Int) (j : Nat), s5 = .int .i64 z ∧ Hid (z = (j : Int) - 1 ∧ j < h) ∧ j ≤ L ∧ Hid (a / 65536 ^ j = b / 65536 ^ j) ∧ Hid (Below w.heap.size w wr))
  case atStart => exact ⟨(L : Int) - 1, L, by go_num, by show _ ∧ _; omega, Nat.le_refl _, HE0, Below.refl _ _⟩
  case round =>
   obtain ⟨z, j, rfl, HJ, hjl, HE, HW⟩ := hrel
   cases j with
   | zero =>
    obtain rfl : z = -1 := by have := HJ.out.1; omega
    obtain rfl : c = 0 := by
     have := HE.out
     rw [Nat.pow_zero, Nat.div_one, Nat.div_one] at this
     exact hc.out.symm.trans (cmpN_eq this)
    go_wp2_with fail
    go_ret
    exact ⟨rfl, HW.out⟩
   | succ i =>
    obtain rfl : z = (i : Int) := by have := HJ.out.1; omega
    obtain ⟨b1, o1, rfl, hbl1, hcell1⟩ := ha.out (by omega)
    obtain ⟨b2, o2, rfl, hbl2, hcell2⟩ := hb.out (by omega)
    have hx1 := (HW.out.cell (p := ⟨b1, o1 + i, none⟩) hbl1).trans (hcell1 i (by omega))
    have hx2 := (HW.out.cell (p := ⟨b2, o2 + i, none⟩) hbl2).trans (hcell2 i (by omega))
    clear hcell1 hcell2
    have hil : i < L := by omega
    have hz : (i : Int) < (L : Int) := by omega
    by_cases hd : dg a i = dg b i
    ·have HN : Hid (a / 65536 ^ i = b / 65536 ^ i) := div_eq_step HE.out hd
     rw [← hd] at hx2
     have hl : (decide ((dg a i : Int) < (dg a i : Int))) = false := by simp
     go_wp2_with fail
     go_quiet (fail)
     go_wp2_with fail
     replace hx1 : (wr.drewN nq).cell? _ = _ := hx1
     replace hx2 : (wr.drewN nq).cell? _ = _ := hx2
     have HW2 : Hid (Below w.heap.size w (wr.drewN nq)) := HW.out.drewN nq
     clear HW
     generalize wr.drewN nq = wq at *
     go_quiet (fail)
     go_wp2_with fail
     go_roundg (i + 1)
     case measure => have := HJ.out; omega
     case rel => exact ⟨(i : Int) - 1, i, by go_num, by show _ ∧ _; have := HJ.out; omega, by omega, HN, HW2.out.drewN _⟩
    ·have HC := cmpN_digs HE.out hd
     rw [hc.out] at HC
     by_cases hl : dg a i < dg b i
     ·rw [if_pos hl] at HC
      subst HC
      have hlz : (decide ((dg a i : Int) < (dg b i : Int))) = true := by simp; omega
      go_wp2_with fail
      go_quiet (fail)
      go_wp2_with fail
      go_ret
      exact ⟨rfl, HW.out.drewN _⟩
     ·rw [if_neg hl] at HC
      subst HC
      have hlz : (decide ((dg a i : Int) < (dg b i : Int))) = false := by simp; omega
      have hgz : (decide ((dg b i : Int) < (dg a i : Int))) = true := by simp; omega
      go_wp2_with fail
      go_quiet (fail)
      go_wp2_with fail
      replace hx1 : (wr.drewN nq).cell? _ = _ := hx1
      replace hx2 : (wr.drewN nq).cell? _ = _ := hx2
      have HW2 : Hid (Below w.heap.size w (wr.drewN nq)) := HW.out.drewN nq
      clear HW
      generalize wr.drewN nq = wq at *
      go_quiet (fail)
      go_wp2_with fail
      go_ret
      exact ⟨rfl, HW2.out.drewN _⟩
 ·have hnz : ¬ (L : Int) = (M : Int) := by omega
  by_cases hl : L < M
  ·have h1 : a < b := by
    rcases Nat.lt_or_ge a b with h | h
    ·exact h
    ·have := nl_mono h
     have := hL.out
     have := hM.out
     omega
   have HC := cmpN_lt h1
   rw [hc.out] at HC
   subst HC
   clear h1
   go_enter Tryz.func75, Tryz.ntmps75
   go_wp2_with fail
   go_ret
   exact ⟨rfl, Below.refl _ _⟩
  ·have h1 : b < a := by
    rcases Nat.lt_or_ge b a with h | h
    ·exact h
    ·have := nl_mono h
     have := hL.out
     have := hM.out
     omega
   have HC := cmpN_gt h1
   rw [hc.out] at HC
   subst HC
   clear h1
   go_enter Tryz.func75, Tryz.ntmps75
   go_wp2_with fail
   go_ret
   exact ⟨rfl, Below.refl _ _⟩
end Go.Proofs.YtgoemhcngmpfbaaGreatDoor
namespace Go.Proofs.YtgoemhcngmpfbaaGreatDoor
open Go.RowKit Go.Sort
abbrev boxN (s : Bool) (A : Option Addr) (L cap : Nat) : Obj := .cells #[.bool s, .slice A L cap] 57
abbrev boxNZ : Obj := .cells #[.bool false, .slice none 0 0] 57
structure NumAt (w : World) (b : Nat) (s : Bool) (A : Option Addr) (L cap : Nat) : Prop where
 c0 : w.cell? ⟨b, 0, none⟩ = some (.bool s)
 f0 : w.frozen? ⟨b, 0, none⟩ = false
 c1 : w.cell? ⟨b, 1, none⟩ = some (.slice A L cap)
 f1 : w.frozen? ⟨b, 1, none⟩ = false
section
variable {w w' : World} {b L cap : Nat} {s : Bool} {A : Option Addr}
theorem NumAt.keep {B : Nat} (h : NumAt w b s A L cap) (hb : Below B w w') (hB : b < B) : NumAt w' b s A L cap :=
 ⟨(hb.cell (p := ⟨b, 0, none⟩) hB).trans h.c0, (hb.frozen (p := ⟨b, 0, none⟩) hB).trans h.f0, (hb.cell (p := ⟨b, 1, none⟩) hB).trans h.c1, (hb.frozen (p := ⟨b, 1, none⟩) hB).trans h.f1⟩
theorem NumAt.lt (h : NumAt w b s A L cap) : b < w.heap.size := by
 rcases Nat.lt_or_ge b w.heap.size with h1 | h1
 ·exact h1
 ·have := h.c0
  simp [World.cell?, Array.getElem?_eq_none h1] at this
theorem NumAt.below (h : NumAt w b s A L cap) (hb : Below w.heap.size w w') : NumAt w' b s A L cap := h.keep hb h.lt
theorem NumAt.alloc (h : NumAt w b s A L cap) (o : Obj) : NumAt (w.alloc o) b s A L cap := h.keep (below_alloc w o) h.lt
theorem NumAt.but {c : Nat} (h : NumAt w b s A L cap) (hw : But1 w w' c) (hne : b ≠ c) : NumAt w' b s A L cap :=
 ⟨(hw.1 ⟨b, 0, none⟩ hne).1.trans h.c0, (hw.1 ⟨b, 0, none⟩ hne).2.trans h.f0, (hw.1 ⟨b, 1, none⟩ hne).1.trans h.c1, (hw.1 ⟨b, 1, none⟩ hne).2.trans h.f1⟩
theorem NumAt.drew (h : NumAt w b s A L cap) : NumAt w.drew b s A L cap := ⟨h.c0, h.f0, h.c1, h.f1⟩
end
theorem NumAt.new (w : World) (s : Bool) (A : Option Addr) (L cap : Nat) : NumAt (w.alloc (boxN s A L cap)) w.heap.size s A L cap :=
 ⟨World.cell?_alloc_at _ _ _ _ rfl, World.frozen?_alloc_at _ _ _ _ rfl, World.cell?_alloc_at _ _ _ _ rfl, World.frozen?_alloc_at _ _ _ _ rfl⟩
def st2 (w : World) (b : Nat) (s : Bool) (A : Option Addr) (L cap : Nat) : World := (w.setCell ⟨b, 0, none⟩ (.bool s)).setCell ⟨b, 1, none⟩ (.slice A L cap)
theorem st2_but (w : World) (b : Nat) (s : Bool) (A : Option Addr) (L cap : Nat) : But1 w (st2 w b s A L cap) b := (But1.setCell w b 0 _).trans (But1.setCell _ b 1 _)
theorem DgAt.set {w : World} {A : Option Addr} {L n : Nat} (h : DgAt w A L n) {p : Addr} {u : Value} (hp : w.cell? p = some u) (hu : ∀ x, u ≠ .int .i64 x) (v : Value) : DgAt (w.setCell p v) A L n := fun hL => by
 obtain ⟨b, o, e, hb, hc⟩ := h hL
 refine ⟨b, o, e, by rw [World.size_setCell]; exact hb, fun i hi => ?_⟩
 have h1 := hc i hi
 have hne : (⟨b, o + i, none⟩ : Addr) ≠ p := fun e => by rw [e, hp] at h1; exact hu _ (Option.some.inj h1)
 exact (World.cell?_setCell_other _ _ _ _ (fun e => hne e.symm)).trans h1
theorem DgAt.st2 {w : World} {A B C : Option Addr} {L M K b n ca cb : Nat} {s t : Bool} (h : DgAt w A L n) (hb : NumAt w b s B M cb) : DgAt (st2 w b t C K ca) A L n := by
 have h1 := h.set hb.c0 (fun x e => by cases e) (.bool t)
 exact h1.set ((World.cell?_setCell_other _ _ _ _ (by simp)).trans hb.c1) (fun x e => by cases e) _
end Go.Proofs.YtgoemhcngmpfbaaGreatDoor
