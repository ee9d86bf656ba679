/-
  The parts of a float literal, as mathematics.
-/
import Derived.Test.YtgoemhcngmpfbaaGreatDoorMw23
import Derived.Lib.IndexAny
import Derived.Lib.IndexBytes
import Derived.Test.YtgoemhcngmpfbaaGreatDoorMw21
import Derived.Test.YtgoemhcngmpfbaaGreatDoorMw01
import Derived.Laws.RangeAny
import Derived.WalkMore
import Derived.Laws.Runes
import Derived.Lib.OthersKept
import Derived.Test.YtgoemhcngmpfbaaGreatDoorMw02

namespace Go.Proofs.YtgoemhcngmpfbaaGreatDoor
open Go.RowKit Go.Sort

/-- Where the first byte of a kind stands: what is ahead of it, what is behind. -/
def gidx (p : UInt8 → Bool) (t : List UInt8) : Int := if t.any p then ((t.takeWhile fun c => !p c).length : Int) else -1
theorem gidx_nil (p : UInt8 → Bool) : gidx p [] = -1 := rfl
theorem gidx_hit {p : UInt8 → Bool} {b : UInt8} (m : List UInt8) (h : p b = true) : gidx p (b :: m) = 0 := by
  unfold gidx
  rw [if_pos (by simp [h])]
  simp [h]
theorem gidx_miss {p : UInt8 → Bool} {b : UInt8} (m : List UInt8) (h : p b = false) : gidx p (b :: m) = if gidx p m == -1 then -1 else gidx p m + 1 := by
  unfold gidx
  cases hm : m.any p
  · simp [h, hm]
  · rw [if_pos (by simp [h, hm]), if_pos rfl, if_neg (by simp)]
    rw [List.takeWhile_cons_of_pos (by simp [h])]
    simp
theorem gidx_ge (p : UInt8 → Bool) (t : List UInt8) : -1 ≤ gidx p t := by unfold gidx; split <;> omega
theorem take_of_gidx (p : UInt8 → Bool) : ∀ t : List UInt8, t.take (t.takeWhile fun c => !p c).length = t.takeWhile fun c => !p c
  | [] => rfl
  | b :: m => by
    cases h : p b
    · rw [List.takeWhile_cons_of_pos (by simp [h]), List.length_cons, List.take_succ_cons, take_of_gidx p m]
    · rw [List.takeWhile_cons_of_neg (by simp [h])]; rfl
theorem drop_of_gidx (p : UInt8 → Bool) : ∀ t : List UInt8, t.drop ((t.takeWhile fun c => !p c).length + 1) = (t.dropWhile fun c => !p c).drop 1
  | [] => rfl
  | b :: m => by
    cases h : p b
    · rw [List.takeWhile_cons_of_pos (by simp [h]), List.length_cons, List.drop_succ_cons, drop_of_gidx p m, List.dropWhile_cons_of_pos (by simp [h])]
    · rw [List.takeWhile_cons_of_neg (by simp [h]), List.dropWhile_cons_of_neg (by simp [h])]; rfl
theorem none_of_gidx {p : UInt8 → Bool} : ∀ {t : List UInt8}, t.any p = false → (t.takeWhile fun c => !p c) = t ∧ (t.dropWhile fun c => !p c) = []
  | [], _ => ⟨rfl, rfl⟩
  | b :: m, h => by
    rw [List.any_cons, Bool.or_eq_false_iff] at h
    obtain ⟨h1, h2⟩ := none_of_gidx h.2
    rw [List.takeWhile_cons_of_pos (by simp [h.1]), List.dropWhile_cons_of_pos (by simp [h.1]), h1, h2]
    exact ⟨rfl, rfl⟩
theorem some_of_gidx {p : UInt8 → Bool} : ∀ {t : List UInt8}, t.any p = true → (t.dropWhile fun c => !p c) ≠ []
  | [], h => by cases h
  | b :: m, h => by
    cases hb : p b
    · rw [List.dropWhile_cons_of_pos (by simp [hb])]
      rw [List.any_cons, hb, Bool.false_or] at h
      exact some_of_gidx h
    · rw [List.dropWhile_cons_of_neg (by simp [hb])]
      simp
/-- A letter after which an exponent stands; a dot. -/
def isM (c : UInt8) : Bool := ([101, 69] : List UInt8).contains c
def isP (c : UInt8) : Bool := c == 46
theorem indexAny_mark : ∀ t : List UInt8, Lib.indexAny t [101, 69] = gidx isM t
  | [] => rfl
  | b :: m => by
    have ih := indexAny_mark m
    cases h : isM b
    · rw [gidx_miss m h, ← ih]
      show (if ([101, 69] : List UInt8).contains b then _ else _) = _
      rw [show ([101, 69] : List UInt8).contains b = false from h]
      rfl
    · rw [gidx_hit m h]
      show (if ([101, 69] : List UInt8).contains b then _ else _) = _
      rw [show ([101, 69] : List UInt8).contains b = true from h]
      rfl
theorem index_dot : ∀ t : List UInt8, Lib.index t [46] = gidx isP t
  | [] => rfl
  | b :: m => by
    have ih := index_dot m
    have hp : ([46] : List UInt8).isPrefixOf (b :: m) = isP b := by
      rw [pre_one]
      unfold isP
      rw [Bool.eq_iff_iff]
      simp only [beq_iff_eq]
      exact eq_comm
    cases h : isP b
    · rw [gidx_miss m h, ← ih]
      show (if ([46] : List UInt8).isPrefixOf (b :: m) then _ else _) = _
      rw [hp, h]
      rfl
    · rw [gidx_hit m h]
      show (if ([46] : List UInt8).isPrefixOf (b :: m) then _ else _) = _
      rw [hp, h]
      rfl
/-- Ahead of the first such byte, and behind it. -/
def preP (p : UInt8 → Bool) (t : List UInt8) : List UInt8 := t.takeWhile fun c => !p c
def postP (p : UInt8 → Bool) (t : List UInt8) : List UInt8 := (t.dropWhile fun c => !p c).drop 1
theorem cut_dot (t : List UInt8) : Lib.cut t [46] = (preP isP t, postP isP t, t.any isP) := by
  unfold Lib.cut preP postP
  rw [index_dot]
  cases h : t.any isP
  · have h2 : gidx isP t = -1 := by unfold gidx; rw [h]; rfl
    rw [h2, if_neg (by decide), (none_of_gidx h).1, (none_of_gidx h).2]
    rfl
  · have h2 : gidx isP t = ((t.takeWhile fun c => !isP c).length : Int) := by unfold gidx; rw [h]; rfl
    rw [h2, if_pos (by omega), Int.toNat_natCast, take_of_gidx]
    show (_, t.drop ((t.takeWhile fun c => !isP c).length + 1), true) = _
    rw [drop_of_gidx]
theorem split_mark {t : List UInt8} (h : t.any isM = true) : ∃ i : Nat, Lib.indexAny t [101, 69] = (i : Int) ∧ i < t.length ∧ t.take i = preP isM t ∧ t.drop (i + 1) = postP isM t := by
  refine ⟨(t.takeWhile fun c => !isM c).length, ?_, ?_, take_of_gidx isM t, drop_of_gidx isM t⟩
  · rw [indexAny_mark]
    unfold gidx
    rw [h]
    rfl
  · have h2 := List.takeWhile_append_dropWhile (p := fun c => !isM c) (l := t)
    have h3 : t.dropWhile (fun c => !isM c) ≠ [] := some_of_gidx h
    have h4 := congrArg List.length h2
    rw [List.length_append] at h4
    have h5 : 0 < (t.dropWhile fun c => !isM c).length := List.length_pos_iff.2 h3
    omega
theorem split_none {t : List UInt8} (h : t.any isM = false) : Lib.indexAny t [101, 69] = -1 ∧ preP isM t = t := by
  refine ⟨?_, (none_of_gidx h).1⟩
  rw [indexAny_mark]
  unfold gidx
  rw [h]
  rfl
/-- The parts of a float literal: what is ahead of the dot, behind it, the exponent's sign and digits. -/
def ptA (l : List UInt8) : List UInt8 := preP isM (unsc l)
def ptM (l : List UInt8) : Bool := (unsc l).any isM
def ptW (l : List UInt8) : List UInt8 := preP isP (ptA l)
def ptF (l : List UInt8) : List UInt8 := postP isP (ptA l)
def ptD (l : List UInt8) : Bool := (ptA l).any isP
def ptS (l : List UInt8) : List UInt8 := if ptM l then sgnL (postP isM (unsc l)) else []
def ptX (l : List UInt8) : List UInt8 := if ptM l then restL (postP isM (unsc l)) else [48]
/-- Has a text the form of a float literal? -/
def FloatOk (l : List UInt8) : Prop := Sep isDig l ∧ (ptD l || ptM l) = true ∧ decB (ptW l ++ ptF l) = true ∧ decB (ptX l) = true
theorem preP_len (p : UInt8 → Bool) (t : List UInt8) : (preP p t).length ≤ t.length := by
  unfold preP
  have h := congrArg List.length (List.takeWhile_append_dropWhile (p := fun c => !p c) (l := t))
  rw [List.length_append] at h
  omega
theorem postP_len (p : UInt8 → Bool) (t : List UInt8) : (postP p t).length ≤ t.length := by
  unfold postP
  have h := congrArg List.length (List.takeWhile_append_dropWhile (p := fun c => !p c) (l := t))
  rw [List.length_append] at h
  rw [List.length_drop]
  omega
theorem sgnL_len (l : List UInt8) : (sgnL l).length ≤ 1 := by
  cases l with
  | nil => simp [sgnL]
  | cons a m =>
    show (if isSgn a.toNat = true then [a] else []).length ≤ 1
    split <;> simp
theorem restL_len (l : List UInt8) : (restL l).length ≤ l.length := by
  cases l with
  | nil => simp [restL]
  | cons a m =>
    show (if isSgn a.toNat = true then m else a :: m).length ≤ _
    split <;> simp
end Go.Proofs.YtgoemhcngmpfbaaGreatDoor

/-
  strings.IndexAny with "eE", at any bytes.
-/
namespace Go.Proofs.YtgoemhcngmpfbaaGreatDoor
open Go.RowKit Go.Sort
set_option linter.unusedSimpArgs false

theorem decode_skip (s : ByteArray) (pos : Nat) (h : pos < s.size) (ha : 128 ≤ (s[pos]'h).toNat) :
    pos + (Utf8.decode s pos).2 ≤ s.size ∧ ∀ j, j < (Utf8.decode s pos).2 → 128 ≤ (s.get! (pos + j)).toNat := by
  have hn : ¬ (s[pos]'h).toNat < 128 := by omega
  have h0 : 128 ≤ (s.get! (pos + 0)).toNat := by rw [get_at s pos h]; exact ha
  have one : pos + 1 ≤ s.size ∧ ∀ j, j < 1 → 128 ≤ (s.get! (pos + j)).toNat := ⟨by omega, fun j hj => by obtain rfl : j = 0 := by omega
                                                                                                         exact h0⟩
  unfold Utf8.decode
  simp only [get_at s pos h, hn, if_false]
  split
  · rename_i c
    simp only [Bool.and_eq_true, beq_iff_eq, decide_eq_true_eq] at c
    split
    · refine ⟨by show pos + 2 ≤ _; omega, fun j hj => ?_⟩
      match j, hj with
      | 0, _ => exact h0
      | 1, _ => omega
      | k + 2, hj => exact absurd hj (by show ¬ k + 2 < 2; omega)
    · exact one
  · split
    · rename_i c
      simp only [Bool.and_eq_true, beq_iff_eq, decide_eq_true_eq] at c
      split
      · refine ⟨by show pos + 3 ≤ _; omega, fun j hj => ?_⟩
        match j, hj with
        | 0, _ => exact h0
        | 1, _ => omega
        | 2, _ => omega
        | k + 3, hj => exact absurd hj (by show ¬ k + 3 < 3; omega)
      · exact one
    · split
      · rename_i c
        simp only [Bool.and_eq_true, beq_iff_eq, decide_eq_true_eq] at c
        split
        · refine ⟨by show pos + 4 ≤ _; omega, fun j hj => ?_⟩
          match j, hj with
          | 0, _ => exact h0
          | 1, _ => omega
          | 2, _ => omega
          | 3, _ => omega
          | k + 4, hj => exact absurd hj (by show ¬ k + 4 < 4; omega)
        · exact one
      · exact one
theorem valid_same (r : Int) : Lib.validRune r = Utf8.valid r := by
  unfold Lib.validRune Utf8.valid
  rw [Bool.eq_iff_iff]
  simp
  omega
set_option maxRecDepth 100000 in
set_option maxHeartbeats 4000000 in
theorem IndexRune_eE (r : Int) (h : 128 ≤ r) (w : World) :
    Calls Tryz.prog 133 #[.string ⟨#[101, 69]⟩, .int .i32 r] w fun e w' => e = .returned (.int .i64 (-1)) ∧ Below w.heap.size w w' := by
  have h1 : 0 ≤ r := by omega
  have h2 : ¬ r < 128 := by omega
  by_cases he : r = 65533
  · subst he
    have n0 : ∀ ty, (Instr.next (.pointer (some ⟨w.heap.size, 0, none⟩)) true ty).run Tryz.prog (w.iter ⟨#[101, 69]⟩ 0) = .ok (.tuple #[.bool true, .int .i64 0, .int .i32 101]) (w.iter ⟨#[101, 69]⟩ 1) := fun ty => run_next_ascii (P := Tryz.prog) w ⟨#[101, 69]⟩ 0 ty (by decide) (by decide)
    have n1 : ∀ ty, (Instr.next (.pointer (some ⟨w.heap.size, 0, none⟩)) true ty).run Tryz.prog (w.iter ⟨#[101, 69]⟩ 1) = .ok (.tuple #[.bool true, .int .i64 1, .int .i32 69]) (w.iter ⟨#[101, 69]⟩ 2) := fun ty => run_next_ascii (P := Tryz.prog) w ⟨#[101, 69]⟩ 1 ty (by decide) (by decide)
    have n2 := fun ty => run_next_end (P := Tryz.prog) w ⟨#[101, 69]⟩ 2 ty (by decide)
    clear h h1 h2
    go_enter Tryz.func133, Tryz.ntmps133
    go_wp2_with fail
    go_loopg [5, 6] 3 (fun h _ _ wx => ∃ i : Nat, Hid (i + h = 3) ∧ i ≤ 2 ∧ wx = w.iter ⟨#[101, 69]⟩ i)
    case atStart => exact ⟨0, by show _ = _; omega, by omega, rfl⟩
    case round =>
      obtain ⟨i, HI, hi2, rfl⟩ := hrel
      match i, hi2 with
      | 0, _ =>
        go_wp2_with fail
        go_roundg 2
        case measure => have := HI.out; omega
        case rel => exact ⟨1, by show _ = _; omega, by omega, rfl⟩
      | 1, _ =>
        go_wp2_with fail
        go_roundg 1
        case measure => have := HI.out; omega
        case rel => exact ⟨2, by show _ = _; omega, by omega, rfl⟩
      | 2, _ =>
        go_wp2_with fail
        go_ret
        exact ⟨rfl, below_alloc _ _⟩
  · have HV := Lib.hid (fun W => Tryz.utf8_ValidRune r W)
    have he2 : (r == 65533) = false := beq_eq_false_iff_ne.2 he
    cases hv : Lib.validRune r
    · rw [hv] at HV
      clear h he hv
      go_enter Tryz.func133, Tryz.ntmps133
      go_wp2_with fail
      refine (HV.out _).mono ?_
      rintro e w1 ⟨rfl, rfl⟩
      go_wp2_with fail
      go_ret
      exact ⟨rfl, Below.refl _ _⟩
    · rw [hv] at HV
      rw [valid_same] at hv
      obtain ⟨l1, l2, l3⟩ := encode_facts r hv h
      obtain ⟨rs, hrs⟩ : ∃ rs, Utf8.encode r = rs := ⟨_, rfl⟩
      rw [hrs] at l1 l2 l3
      have HCV : ∀ W, (convert 21 9 (.int .i32 r)).run Tryz.prog W = .ok (.string rs) W := fun W => by
        rw [run_convert_int_string W _ _ _ _ (by kernel_rfl) Tryz.underlying9, hrs]
      clear h he hv hrs
      by_cases hs2 : rs.size = 2
      · obtain ⟨b, hb⟩ := get_of_lt (s := rs) (i := 1) (by omega)
        have hb128 : 128 ≤ b.toNat := by
          have h4 := l3 (by omega)
          have h5 : rs[rs.size - 1]'(by omega) = b := by
            obtain ⟨h6, h7⟩ := List.getElem?_eq_some_iff.1 hb
            rw [← h7]
            simp [hs2]
            rfl
          rwa [h5] at h4
        have hix := index_at hb
        have hiy : ∀ W, (Instr.index 9 (.string ⟨#[101, 69]⟩) (.int .i64 1)).run Tryz.prog W = .ok (.int .u8 69) W := fun W => index_at (s := ⟨#[101, 69]⟩) (i := 1) (b := 69) rfl W
        rw [Int.natCast_one] at hix
        have hne : ((69 : Int) == (b.toNat : Int)) = false := beq_eq_false_iff_ne.2 (by omega)
        have HIB : Hid (∀ W, Calls Tryz.prog 130 #[.string ⟨#[]⟩, .int .u8 (b.toNat : Int)] W fun e w' => e = .returned (.int .i64 (-1)) ∧ ∃ m, w' = W.drewN m) := fun W => (Tryz.strings_IndexByte ⟨#[]⟩ (b.toNat : Int) W).mono fun e w' h => ⟨h.1, 0, h.2⟩
        have hsl : ∀ W, (Instr.slice 9 (.string ⟨#[101, 69]⟩) (some (.int .i64 2)) none none).run Tryz.prog W = .ok (.string ⟨#[]⟩) W := fun W => by kernel_rfl
        have hw2 : IntKind.i64.wrap 2 = 2 := by decide
        generalize b.toNat = bn at *
        clear l1 l2 l3 hb hb128
        go_enter Tryz.func133, Tryz.ntmps133
        go_wp2_with fail
        refine (HV.out _).mono ?_
        rintro e w1 ⟨rfl, rfl⟩
        go_wp2_with fail
        go_step3
        go_wp2_with fail
        refine wp_loop_rounds 1 ?_
        rw [rounds_succ]
        go_wp2_with fail
        go_step3
        go_wp2_with fail
        go_quiet (fail)
        go_wp2_with fail
        have HW2 : Hid (Below w1.heap.size w1 (w1.drewN nq)) := (Below.refl _ _).drewN nq
        generalize w1.drewN nq = wq at *
        go_quiet (first | (go_at_call 130; refine Calls.quiet_of (HIB.out _)) | fail)
        go_wp2_with fail
        (try simp only [Exit.noGoto_ret, Exit.inBlock, Exit.then])
        go_ret
        exact ⟨rfl, HW2.out.drewN _⟩
      · have hl : ¬ ((rs.size : Int) - 1 < 2) := by omega
        have hsz2 : 3 ≤ rs.size ∧ rs.size ≤ 4 := by omega
        clear l3 hs2 l1 l2
        go_enter Tryz.func133, Tryz.ntmps133
        go_wp2_with fail
        refine (HV.out _).mono ?_
        rintro e w1 ⟨rfl, rfl⟩
        go_wp2_with fail
        go_step3
        go_wp2_with fail
        refine wp_loop_rounds 1 ?_
        rw [rounds_succ]
        go_wp2_with fail
        (try simp only [Exit.noGoto_ret, Exit.inBlock, Exit.then])
        go_ret
        exact ⟨rfl, Below.refl _ _⟩
theorem get_data {s : ByteArray} {i : Nat} (h : i < s.size) : s.data.toList[i]? = some (s.get! i) := by
  have e : s.get! i = s[i]'h := by
    simp [ByteArray.get!, getElem!_pos, h]
    rfl
  rw [e]
  exact Lib.data_getElem? s i h
theorem noAny_skip {l : List UInt8} {i n : Nat} (h : Lib.NoAny l [101, 69] i) (hn : ∀ j b, j < n → l[i + j]? = some b → 128 ≤ b.toNat) : Lib.NoAny l [101, 69] (i + n) := fun j b hj hb => by
  by_cases e : j < i
  · exact h j b e hb
  · have h1 := hn (j - i) b (by omega) (by rw [show i + (j - i) = j by omega]; exact hb)
    have h2 : b ≠ 101 := fun e => by rw [e] at h1; exact absurd h1 (by decide)
    have h3 : b ≠ 69 := fun e => by rw [e] at h1; exact absurd h1 (by decide)
    simp [h2, h3]
set_option maxRecDepth 100000 in
set_option maxHeartbeats 4000000 in
theorem IndexAny_short_eE (s : ByteArray) (w : World) (h8 : s.size ≤ 8) :
    Calls Tryz.prog 105 #[.string s, .string ⟨#[101, 69]⟩] w fun e w' => e = .returned (.int .i64 (Lib.indexAny s.data.toList [101, 69])) ∧ Below w.heap.size w w' := by
  obtain ⟨K, hK⟩ : ∃ K, w.heap.size = K := ⟨_, rfl⟩
  have h0 := World.iter_heap w s 0
  have b0 := below_alloc w (.stringIter s 0)
  rw [hK] at h0 b0 ⊢
  have H0 := Lib.hid h0
  have B0 := Lib.hid b0
  clear h0 b0
  have h8z : decide ((8 : Int) < (s.size : Int)) = false := decide_eq_false (by omega)
  have HSU := Lib.hid (fun W => Tryz.strings_shouldUseASCIISet (s.size : Int) W)
  rw [h8z] at HSU
  clear h8z
  go_enter Tryz.func105, Tryz.ntmps105
  go_wp2_with fail
  refine (HSU.out _).mono ?_
  rintro e w1 ⟨rfl, rfl⟩
  go_wp2_with fail
  clear hK
  go_loopg [9, 10] (s.size + 1) (fun h _ _ wx => ∃ (i : Nat) (W : World), Hid (i + h ≥ s.size + 1) ∧ i ≤ s.size ∧ Hid (Lib.NoAny s.data.toList [101, 69] i) ∧ wx = W ∧ Hid (W.heap[K]? = some (.stringIter s i) ∧ Below K w1 W))
  case atStart => exact ⟨0, _, by show _ ≥ _; omega, by omega, Lib.NoAny.zero _ _, rfl, H0.out, B0.out⟩
  case round =>
    obtain ⟨i, W, HI, hin, HN, rfl, HW⟩ := hrel
    by_cases hlt : i < s.size
    · have hlr : K < wr.heap.size := by
        rcases Nat.lt_or_ge K wr.heap.size with h | h
        · exact h
        · have := HW.out.1; rw [Array.getElem?_eq_none h] at this; cases this
      have hx := get_data hlt
      have hnx := fun ty => Lib.run_next_any_at (P := Tryz.prog) wr K s i ty HW.out.1 hlt
      have hit := Lib.iterAt_heap wr K s i (i + (Utf8.decode s i).2) HW.out.1
      have hbl := Lib.below_iterAt HW.out.2 (Nat.le_refl _) s (i + (Utf8.decode s i).2)
      have hsz := Lib.iterAt_size wr K s (i + (Utf8.decode s i).2)
      obtain ⟨W2, hW2⟩ : ∃ W2, wr.iterAt K s (i + (Utf8.decode s i).2) = W2 := ⟨_, rfl⟩
      rw [hW2] at hit hbl hsz
      simp only [hW2] at hnx
      have HIT := Lib.hid hit
      have HBL := Lib.hid hbl
      have HSZ : Hid (K < W2.heap.size) := by show _ < _; rw [hsz]; exact hlr
      have hgx : s.get! i = s[i]'hlt := get_at s i hlt
      clear hW2 hit hbl hsz hlr
      by_cases ha : (s.get! i).toNat < 128
      · have hd := decode_ascii s i hlt (by rw [← hgx]; exact ha)
        rw [hd, ← hgx] at hnx
        rw [hd] at HIT
        generalize s.get! i = x at *
        clear hgx hd
        have HR := fun V => Tryz.strings_IndexRune_ascii ⟨#[101, 69]⟩ (x.toNat : Int) V (by omega) (by omega)
        have hb : ((x.toNat : Int)).toNat.toUInt8 = x := by simp
        rw [hb] at HR
        have hcon := Lib.contains_iff_indexByte [101, 69] x
        have hcl : (⟨#[101, 69]⟩ : ByteArray).data.toList = [101, 69] := rfl
        rw [hcl] at HR
        have HX := Lib.hid hx
        generalize Lib.indexByte [101, 69] x = z at *
        replace HR := Lib.hid HR
        clear hx hb hcl
        cases hc : ([101, 69] : List UInt8).contains x
        · rw [hc] at hcon
          have hz : ¬ (0 : Int) ≤ z := of_decide_eq_false hcon.symm
          have HN2 := Lib.hid (HN.out.succ HX.out hc)
          clear hcon hc
          go_wp2_with fail
          refine (HR.out _).mono ?_
          rintro e w3 ⟨rfl, rfl⟩
          go_wp2_with fail
          go_roundg (s.size - i)
          case measure => have := HI.out; omega
          case rel => exact ⟨i + 1, _, by show _ ≥ _; omega, by omega, HN2, rfl, HIT.out, HBL.out⟩
        · rw [hc] at hcon
          have hz : (0 : Int) ≤ z := of_decide_eq_true hcon.symm
          have HE : Hid (Lib.indexAny s.data.toList [101, 69] = (i : Int)) := Lib.indexAny_hit HN.out HX.out hc
          clear hcon hc
          go_wp2_with fail
          refine (HR.out _).mono ?_
          rintro e w3 ⟨rfl, rfl⟩
          go_wp2_with fail
          go_ret
          exact ⟨by rw [HE.out]; rfl, HBL.out⟩
      · have h128 : 128 ≤ (s[i]'hlt).toNat := by rw [← hgx]; omega
        obtain ⟨k1, k2⟩ := decode_high s i hlt h128
        obtain ⟨k3, k4⟩ := decode_skip s i hlt h128
        have k5 := decode_le s i
        have HN2 : Hid (Lib.NoAny s.data.toList [101, 69] (i + (Utf8.decode s i).2)) := noAny_skip HN.out (fun j b hj hb => by
          have h1 : i + j < s.size := by omega
          rw [get_data h1] at hb
          cases hb
          exact k4 j hj)
        generalize (Utf8.decode s i).1 = r at *
        generalize (Utf8.decode s i).2 = n at *
        have HR := Lib.hid (fun V => IndexRune_eE (r : Int) (by omega) V)
        clear k4 hx hgx ha h128
        go_wp2_with fail
        refine (HR.out _).mono ?_
        rintro e w3 ⟨rfl, hw3⟩
        have HIT3 : Hid (w3.heap[K]? = some (.stringIter s (i + n))) := by
          show _ = _
          rw [hw3.block _ HSZ.out]
          exact HIT.out
        have HBL3 : Hid (Below K w1 w3) := HBL.out.trans (hw3.mono (Nat.le_of_lt HSZ.out))
        clear hw3
        go_wp2_with fail
        go_roundg (s.size - i)
        case measure => have := HI.out; omega
        case rel => exact ⟨i + n, _, by show _ ≥ _; omega, by omega, HN2, rfl, HIT3.out, HBL3.out⟩
    · obtain rfl : i = s.size := by omega
      have hnx := fun ty => Lib.run_next_end_at (P := Tryz.prog) wr K s s.size ty HW.out.1 (Nat.lt_irrefl _)
      have HE : Hid (Lib.indexAny s.data.toList [101, 69] = -1) := Lib.indexAny_none (by have := HN.out; rwa [show s.data.toList.length = s.size by simp])
      go_wp2_with fail
      go_ret
      exact ⟨by rw [HE.out]; rfl, HW.out.2⟩
theorem IndexAny_eE (s : ByteArray) (w : World) (hs : s.size < 4294967281) :
    Calls Tryz.prog 105 #[.string s, .string ⟨#[101, 69]⟩] w fun e w' => e = .returned (.int .i64 (Lib.indexAny s.data.toList [101, 69])) ∧ Below w.heap.size w w' := by
  by_cases h8 : s.size ≤ 8
  · exact IndexAny_short_eE s w h8
  · refine (Tryz.strings_IndexAny_long (fun _ => by kernel_rfl) s ⟨#[101, 69]⟩ w (by decide) (by omega) hs (by decide) (fun j b hb => ?_)).mono fun e w' h => ⟨h.1, by rw [h.2]; exact (below_alloc _ _).alloc (by simp) _⟩
    match j, hb with
    | 0, hb => cases hb; decide
    | 1, hb => cases hb; decide
end Go.Proofs.YtgoemhcngmpfbaaGreatDoor

/-
  Slices of int's, for the laws of append.
-/
namespace Go.Proofs.YtgoemhcngmpfbaaGreatDoor
open Go.RowKit

theorem int_slice : SliceK .i64 55 3 := ⟨Tryz.underlying55, 8, by omega, by kernel_rfl⟩
end Go.Proofs.YtgoemhcngmpfbaaGreatDoor
