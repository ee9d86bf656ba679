/-
  DERIVED: THE SHELF's CONTRACTS AT THIS DUMP, IN PLAIN WORDS (tools/lay-plain.mjs out of 'TryzShelf.lean', which tools/lay-shelf.mjs wrote): THE SAME DECLARATIONS UNDER THE SAME NAMES: 'import', 'namespace', 'open', 'def', 'theorem' AND NOTHING ELSE: no command of the shelf's: FOR A HAND-IN. Each laying: the table of numbers ('.._ren') and one theorem, a field a fact of the dump's own or the kernel's comparison; each contract: ONE APPLICATION.
-/
import Derived.Shelf.Strings.Builder1
import Derived.Shelf.Strings.Builder2
import Derived.Shelf.Small.Utf8
import Derived.Shelf.Small.Bits
import Derived.Shelf.Small.Strs
import Derived.Shelf.Strings.BuilderF
import Derived.Shelf.Strings.BuilderK
import Derived.Shelf.Strings.Builder2Cap
import Derived.Shelf.Strconv.Atoi
import Derived.Shelf.Strconv.Itoa0
import Derived.Shelf.Strconv.Itoa1
import Derived.Shelf.LaysM
import Derived.Shelf.Strconv.Itoa2
import Derived.Shelf.Strings.Search1
import Derived.Shelf.Strings.Search2
import Derived.Shelf.Strings.Search3
import Derived.Shelf.Strings.Cut
import Derived.Shelf.Strings.Count
import Derived.Shelf.Strings.Prefix
import Derived.Shelf.Strings.Split
import Derived.Shelf.Strings.Replace
import Derived.Shelf.Strings.IndexAny
import Derived.Shelf.Strings.AsciiSet
import Derived.Shelf.Strings.IndexAnyAll
import Derived.Shelf.Bits.Mul64
import Derived.Shelf.Strings.Repeat
import Derived.Shelf.Strings.BuilderCap
import Derived.Shelf.Spec.BitsCarry
import Derived.Test.YtgoemhcngmpfbaaGreatDoorProg
import Derived.Test.YtgoemhcngmpfbaaGreatDoorMg00
import Derived.Sort.Grow
import Derived.Deep.RegionWith
import Derived.Deep.RegionHeld
import Derived.Laws.IdiomCopy

namespace Go.Proofs
open Go.Shelf
def Tryz.lays25_ren : Go.Shelf.Ren := ⟨fun | 25 => 156 | n => n, fun | 22 => 22 | n => n, fun | n => n⟩
theorem Tryz.lays25 : Go.Proofs.Lays7.n25 Tryz.prog Tryz.lays25_ren := {
  mixed := by kernel_rfl
  f25 := Tryz.func156.trans (congrArg some (by kernel_rfl))
  t22 := Tryz.underlying22
  a22 := Tryz.isAgg22
  z22 := Tryz.sizeOf22
  v22 := Tryz.zeroValue22
  i22 := by kernel_rfl }
def Tryz.lays26_ren : Go.Shelf.Ren := ⟨fun | 26 => 179 | n => n, fun | 22 => 22 | n => n, fun | n => n⟩
theorem Tryz.lays26 : Go.Proofs.Lays7.n26 Tryz.prog Tryz.lays26_ren := {
  mixed := by kernel_rfl
  f26 := Tryz.func179.trans (congrArg some (by kernel_rfl))
  t22 := Tryz.underlying22
  a22 := Tryz.isAgg22
  z22 := Tryz.sizeOf22
  v22 := Tryz.zeroValue22
  i22 := by kernel_rfl }
def Tryz.lays134_ren : Go.Shelf.Ren := ⟨fun | 134 => 120 | 129 => 151 | n => n, fun | 53 => 22 | 3 => 3 | 4 => 4 | 46 => 191 | 5 => 5 | 9 => 9 | n => n, fun | n => n⟩
theorem Tryz.lays134 : Go.Proofs.Lays.n134 Tryz.prog Tryz.lays134_ren := {
  mixed := by kernel_rfl
  f129 := Tryz.func151.trans (congrArg some (by kernel_rfl))
  f134 := Tryz.func120.trans (congrArg some (by kernel_rfl))
  t3 := Tryz.underlying3
  a3 := Tryz.isAgg3
  z3 := Tryz.sizeOf3
  v3 := Tryz.zeroValue3
  t4 := Tryz.underlying4
  a4 := Tryz.isAgg4
  z4 := Tryz.sizeOf4
  v4 := Tryz.zeroValue4
  t5 := Tryz.underlying5
  a5 := Tryz.isAgg5
  z5 := Tryz.sizeOf5
  v5 := Tryz.zeroValue5
  t9 := Tryz.underlying9
  a9 := Tryz.isAgg9
  z9 := Tryz.sizeOf9
  v9 := Tryz.zeroValue9
  t46 := Tryz.underlying191
  a46 := Tryz.isAgg191
  z46 := Tryz.sizeOf191
  v46 := Tryz.zeroValue191
  t53 := Tryz.underlying22
  a53 := Tryz.isAgg22
  z53 := Tryz.sizeOf22
  v53 := Tryz.zeroValue22 }
/-- bits.LeadingZeros64: "LeadingZeros64 returns the number of leading zero bits in x; the result is 64 for x == 0.": IT RETURNS '64 - Lib.bitLen x'; the world is as it was. ITS CALLEE bits.Len64 IS MET BY ITS OWN CONTRACT OFF THE SHELF (lay that first): entered in place it sends the kernel out of memory. (LAID: no walk: one application.) -/
theorem Tryz.bits_LeadingZeros64 (x : Int) (w : World) (h0 : 0 ≤ x) (h1 : x ≤ 18446744073709551615) :
    Calls Tryz.prog 120 #[.int .u64 x] w fun e w' => e = .returned (.int .i64 (64 - (Lib.bitLen x.toNat : Int))) ∧ w' = w := Any.bits_LeadingZeros64 Tryz.lays134 x w h0 h1
def Tryz.lays283_ren : Go.Shelf.Ren := ⟨fun | 283 => 171 | n => n, fun | 3 => 3 | 9 => 9 | 4 => 4 | n => n, fun | n => n⟩
theorem Tryz.lays283 : Go.Proofs.Lays.n283 Tryz.prog Tryz.lays283_ren := {
  mixed := by kernel_rfl
  f283 := Tryz.func171.trans (congrArg some (by kernel_rfl))
  t3 := Tryz.underlying3
  a3 := Tryz.isAgg3
  z3 := Tryz.sizeOf3
  v3 := Tryz.zeroValue3
  t4 := Tryz.underlying4
  a4 := Tryz.isAgg4
  z4 := Tryz.sizeOf4
  v4 := Tryz.zeroValue4
  t9 := Tryz.underlying9
  a9 := Tryz.isAgg9
  z9 := Tryz.sizeOf9
  v9 := Tryz.zeroValue9 }
open Go.Lib in
/-- internal/strconv.small: "small returns the string for an i with 0 <= i < nSmalls.": i's decimal numeral. The world is as it was. (LAID: no walk: one application.) -/
theorem Tryz.internal_strconv_small (i : Nat) (h : i < 100) (w : World) :
    Calls Tryz.prog 171 #[.int .i64 i] w fun e w' => e = .returned (.string ⟨(Lib.decDigits i).toArray⟩) ∧ w' = w := Any.internal_strconv_small Tryz.lays283 i h w
def Tryz.laysM284_ren : Go.Shelf.Ren := ⟨fun | 284 => 172 | 129 => 151 | 317 => 189 | 318 => 190 | n => n, fun | 53 => 22 | 3 => 3 | 212 => 231 | 0 => 0 | 4 => 4 | 46 => 191 | 5 => 5 | 9 => 9 | n => n, fun | 17 => 5 | n => n⟩
theorem Tryz.laysM284 : Go.Proofs.LaysM.n284 Tryz.prog Tryz.laysM284_ren := {
  mixed := by kernel_rfl
  f129 := Tryz.func151.trans (congrArg some (by kernel_rfl))
  f284 := Tryz.func172.trans (congrArg some (by kernel_rfl))
  f317 := Tryz.func189.trans (congrArg some (by kernel_rfl))
  f318 := Tryz.func190.trans (congrArg some (by kernel_rfl))
  t0 := Tryz.underlying0
  a0 := Tryz.isAgg0
  z0 := Tryz.sizeOf0
  v0 := Tryz.zeroValue0
  t3 := Tryz.underlying3
  a3 := Tryz.isAgg3
  z3 := Tryz.sizeOf3
  v3 := Tryz.zeroValue3
  t4 := Tryz.underlying4
  a4 := Tryz.isAgg4
  z4 := Tryz.sizeOf4
  v4 := Tryz.zeroValue4
  t5 := Tryz.underlying5
  a5 := Tryz.isAgg5
  z5 := Tryz.sizeOf5
  v5 := Tryz.zeroValue5
  t9 := Tryz.underlying9
  a9 := Tryz.isAgg9
  z9 := Tryz.sizeOf9
  v9 := Tryz.zeroValue9
  t46 := Tryz.underlying191
  a46 := Tryz.isAgg191
  z46 := Tryz.sizeOf191
  v46 := Tryz.zeroValue191
  t53 := Tryz.underlying22
  a53 := Tryz.isAgg22
  z53 := Tryz.sizeOf22
  v53 := Tryz.zeroValue22
  t212 := Tryz.underlying231
  a212 := Tryz.isAgg231
  z212 := Tryz.sizeOf231
  v212 := Tryz.zeroValue231
  g17 := by kernel_rfl
  i0 := by kernel_rfl
  i3 := by kernel_rfl
  i4 := by kernel_rfl
  i5 := by kernel_rfl
  i9 := by kernel_rfl
  i46 := by kernel_rfl
  i53 := by kernel_rfl
  i212 := by kernel_rfl
  m17 := by kernel_rfl }
open Go.Lib in
/-- internal/strconv.numDigits, at a d that is not 0: THE NUMBER OF d's DECIMAL DIGITS. The world is as it was. (LAID: no walk: one application.) -/
theorem Tryz.internal_strconv_numDigits (u : Nat) (h1 : 1 ≤ u) (h2 : u < 18446744073709551616) (w : World) (htab : Lib.TabIs Tryz.prog w "internal/strconv.uint64pow10" .u64 Lib.pow10Tab) :
    Calls Tryz.prog 172 #[.int .u64 u] w fun e w' => e = .returned (.int .i64 (Lib.nDigits u)) ∧ w' = w := Any.internal_strconv_numDigits Tryz.laysM284 u h1 h2 w htab
def Tryz.lays285_ren : Go.Shelf.Ren := ⟨fun | 285 => 173 | n => n, fun | 37 => 48 | 53 => 22 | 3 => 3 | 4 => 4 | 51 => 221 | 9 => 9 | 5 => 5 | 0 => 0 | n => n, fun | n => n⟩
theorem Tryz.lays285 : Go.Proofs.Lays.n285 Tryz.prog Tryz.lays285_ren := {
  mixed := by kernel_rfl
  f285 := Tryz.func173.trans (congrArg some (by kernel_rfl))
  t0 := Tryz.underlying0
  a0 := Tryz.isAgg0
  z0 := Tryz.sizeOf0
  v0 := Tryz.zeroValue0
  t3 := Tryz.underlying3
  a3 := Tryz.isAgg3
  z3 := Tryz.sizeOf3
  v3 := Tryz.zeroValue3
  t4 := Tryz.underlying4
  a4 := Tryz.isAgg4
  z4 := Tryz.sizeOf4
  v4 := Tryz.zeroValue4
  t5 := Tryz.underlying5
  a5 := Tryz.isAgg5
  z5 := Tryz.sizeOf5
  v5 := Tryz.zeroValue5
  t9 := Tryz.underlying9
  a9 := Tryz.isAgg9
  z9 := Tryz.sizeOf9
  v9 := Tryz.zeroValue9
  t37 := Tryz.underlying48
  a37 := Tryz.isAgg48
  z37 := Tryz.sizeOf48
  v37 := Tryz.zeroValue48
  t51 := Tryz.underlying221
  a51 := Tryz.isAgg221
  z51 := Tryz.sizeOf221
  v51 := Tryz.zeroValue221
  t53 := Tryz.underlying22
  a53 := Tryz.isAgg22
  z53 := Tryz.sizeOf22
  v53 := Tryz.zeroValue22 }
open Go.RowKit Go.Sort Go.Lib in
/-- internal/strconv.formatBase10: "formatBase10 formats the decimal representation of u into a. The caller is responsible for ensuring that a is big enough to hold u. If a is too big, leading zeros will be filled in as needed.": THE ROW HOLDS u's DIGITS ('FmtInv .. 0 ..': every place t holds 'dg u (len - 1 - t)'); all else is as it was but for the count of draws. (LAID: no walk: one application.) -/
theorem Tryz.internal_strconv_formatBase10 (blk off cap : Nat) (u : Nat) (d : Array UInt8) (w : World) (hH : Holds (fun (b : UInt8) => Value.int .u8 (b.toNat : Int)) w blk off d) (hu : u < 10 ^ d.size) (hu64 : u < 18446744073709551616) (hsz : d.size < 4611686018427387904) :
    Calls Tryz.prog 173 #[.slice (some ⟨blk, off, none⟩) d.size cap, .int .u64 u] w fun e w' =>
      e = .returned (.tuple #[]) ∧ ∃ (n v' : Nat) (dk : Array UInt8), w' = (putRow (fun (b : UInt8) => Value.int .u8 (b.toNat : Int)) w blk off dk).drewN n ∧ FmtInv d.size u 0 v' dk := Any.internal_strconv_formatBase10 Tryz.lays285 blk off cap u d w hH hu hu64 hsz
def Tryz.lays264_ren : Go.Shelf.Ren := ⟨fun | 264 => 158 | n => n, fun | 53 => 22 | 46 => 191 | n => n, fun | n => n⟩
theorem Tryz.lays264 : Go.Proofs.Lays.n264 Tryz.prog Tryz.lays264_ren := {
  mixed := by kernel_rfl
  f264 := Tryz.func158.trans (congrArg some (by kernel_rfl))
  t46 := Tryz.underlying191
  a46 := Tryz.isAgg191
  z46 := Tryz.sizeOf191
  v46 := Tryz.zeroValue191
  t53 := Tryz.underlying22
  a53 := Tryz.isAgg22
  z53 := Tryz.sizeOf22
  v53 := Tryz.zeroValue22 }
open Go.RowKit Go.Lib in
theorem Tryz.bits_Mul64 (x y : Nat) (hx : x < 18446744073709551616) (hy : y < 18446744073709551616) (w : World) :
    Calls Tryz.prog 158 #[.int .u64 x, .int .u64 y] w fun e w' => e = .returned (.tuple #[.int .u64 ((x * y / 18446744073709551616 : Nat) : Int), .int .u64 ((x * y % 18446744073709551616 : Nat) : Int)]) ∧ w' = w := Any.bits_Mul64 Tryz.lays264 x y hx hy w
def Tryz.lays105_ren : Go.Shelf.Ren := ⟨fun | 105 => 117 | 212 => 144 | 99 => 145 | 165 => 146 | 166 => 147 | 170 => 148 | 169 => 149 | 263 => 175 | 264 => 158 | 206 => 176 | 240 => 177 | 241 => 178 | 276 => 193 | 277 => 194 | n => n, fun | 9 => 9 | 3 => 3 | 4 => 4 | 20 => 20 | 0 => 0 | 46 => 191 | 109 => 192 | 5 => 5 | 72 => 196 | 76 => 150 | 51 => 221 | 146 => 222 | 53 => 22 | 148 => 179 | 70 => 194 | 37 => 48 | 75 => 29 | 127 => 224 | 164 => 234 | 80 => 198 | n => n, fun | n => n⟩
theorem Tryz.lays105 : Go.Proofs.Lays.n105 Tryz.prog Tryz.lays105_ren := {
  mixed := by kernel_rfl
  f99 := Tryz.func145.trans (congrArg some (by kernel_rfl))
  f105 := Tryz.func117.trans (congrArg some (by kernel_rfl))
  f165 := Tryz.func146.trans (congrArg some (by kernel_rfl))
  f166 := Tryz.func147.trans (congrArg some (by kernel_rfl))
  f169 := Tryz.func149.trans (congrArg some (by kernel_rfl))
  f170 := Tryz.func148.trans (congrArg some (by kernel_rfl))
  f206 := Tryz.func176.trans (congrArg some (by kernel_rfl))
  f212 := Tryz.func144.trans (congrArg some (by kernel_rfl))
  f240 := Tryz.func177.trans (congrArg some (by kernel_rfl))
  f241 := Tryz.func178.trans (congrArg some (by kernel_rfl))
  f263 := Tryz.func175.trans (congrArg some (by kernel_rfl))
  f264 := Tryz.func158.trans (congrArg some (by kernel_rfl))
  f276 := Tryz.func193.trans (congrArg some (by kernel_rfl))
  f277 := Tryz.func194.trans (congrArg some (by kernel_rfl))
  t0 := Tryz.underlying0
  a0 := Tryz.isAgg0
  z0 := Tryz.sizeOf0
  v0 := Tryz.zeroValue0
  t3 := Tryz.underlying3
  a3 := Tryz.isAgg3
  z3 := Tryz.sizeOf3
  v3 := Tryz.zeroValue3
  t4 := Tryz.underlying4
  a4 := Tryz.isAgg4
  z4 := Tryz.sizeOf4
  v4 := Tryz.zeroValue4
  t5 := Tryz.underlying5
  a5 := Tryz.isAgg5
  z5 := Tryz.sizeOf5
  v5 := Tryz.zeroValue5
  t9 := Tryz.underlying9
  a9 := Tryz.isAgg9
  z9 := Tryz.sizeOf9
  v9 := Tryz.zeroValue9
  t20 := Tryz.underlying20
  a20 := Tryz.isAgg20
  z20 := Tryz.sizeOf20
  v20 := Tryz.zeroValue20
  t37 := Tryz.underlying48
  a37 := Tryz.isAgg48
  z37 := Tryz.sizeOf48
  v37 := Tryz.zeroValue48
  t46 := Tryz.underlying191
  a46 := Tryz.isAgg191
  z46 := Tryz.sizeOf191
  v46 := Tryz.zeroValue191
  t51 := Tryz.underlying221
  a51 := Tryz.isAgg221
  z51 := Tryz.sizeOf221
  v51 := Tryz.zeroValue221
  t53 := Tryz.underlying22
  a53 := Tryz.isAgg22
  z53 := Tryz.sizeOf22
  v53 := Tryz.zeroValue22
  t70 := Tryz.underlying194
  a70 := Tryz.isAgg194
  z70 := Tryz.sizeOf194
  v70 := Tryz.zeroValue194
  t72 := Tryz.underlying196
  a72 := Tryz.isAgg196
  z72 := Tryz.sizeOf196
  v72 := Tryz.zeroValue196
  t75 := Tryz.underlying29
  a75 := Tryz.isAgg29
  z75 := Tryz.sizeOf29
  v75 := Tryz.zeroValue29
  t76 := Tryz.underlying150
  a76 := Tryz.isAgg150
  z76 := Tryz.sizeOf150
  v76 := Tryz.zeroValue150
  t109 := Tryz.underlying192
  a109 := Tryz.isAgg192
  z109 := Tryz.sizeOf192
  v109 := Tryz.zeroValue192
  t127 := Tryz.underlying224
  a127 := Tryz.isAgg224
  z127 := Tryz.sizeOf224
  v127 := Tryz.zeroValue224
  t146 := Tryz.underlying222
  a146 := Tryz.isAgg222
  z146 := Tryz.sizeOf222
  v146 := Tryz.zeroValue222
  t148 := Tryz.underlying179
  a148 := Tryz.isAgg179
  z148 := Tryz.sizeOf179
  v148 := Tryz.zeroValue179
  t164 := Tryz.underlying234
  a164 := Tryz.isAgg234
  z164 := Tryz.sizeOf234
  v164 := Tryz.zeroValue234 }
theorem Tryz.Builder_Extra_105 : Builder.Extra Tryz.prog Tryz.lays105_ren := {
  sizeBuilder := by kernel_rfl
  liesBuilder := by kernel_rfl
  t5 := Tryz.underlying5
  a5 := Tryz.isAgg5
  z5 := Tryz.sizeOf5
  v5 := Tryz.zeroValue5
  infoByte := by kernel_rfl
  cellsByte := by kernel_rfl
  sizeByte := by kernel_rfl
  neB5 := by decide }
open Go.RowKit Go.Lib in
/-- **strings.Repeat: count ≥ 0, the result within one allocation: count copies of s.** (LAID: no walk: one application.) -/
theorem Tryz.strings_Repeat (s : ByteArray) (c : Nat) (w : World) (hc : c ≤ 9223372036854775807) (hlen : s.size * c ≤ 140737488355328) :
    Calls Tryz.prog 117 #[.string s, .int .i64 c] w fun e w' => e = .returned (.string ⟨(Lib.repeatL s.data.toList c).toArray⟩) ∧ Below w.heap.size w w' := Any.strings_Repeat Tryz.lays105 Tryz.Builder_Extra_105 s c w hc hlen
end Go.Proofs

/-
  Stage 7: numbers of eight words as values, and as cells of memory; the words' sums and differences with a carry (math/bits.Add64, Sub64) at this program.
-/
namespace Go.Proofs.YtgoemhcngmpfbaaGreatDoor
open Go.RowKit Go.Sort

/-- The word i of n. -/
def wd (n i : Nat) : Nat := dig 18446744073709551616 n i
theorem wd_lt (n i : Nat) : wd n i < 18446744073709551616 := dig_lt (by decide) n i
/-- A number's eight words as an array. -/
def wordsV (n : Nat) : Value := .agg #[.int .u64 (wd n 0 : Int), .int .u64 (wd n 1 : Int), .int .u64 (wd n 2 : Int), .int .u64 (wd n 3 : Int), .int .u64 (wd n 4 : Int), .int .u64 (wd n 5 : Int), .int .u64 (wd n 6 : Int), .int .u64 (wd n 7 : Int)]
/-- What fits eight words. -/
def Fits (n : Nat) : Prop := n < 18446744073709551616 ^ 8
/-- The words that f tells, from the first to that before the k-th, in the cells at o of block b. -/
def WordsF (w : World) (b o : Nat) (f : Nat → Nat) (k : Nat) : Prop := ∀ i, i < k → w.cell? ⟨b, o + i, none⟩ = some (.int .u64 (f i : Int)) ∧ w.frozen? ⟨b, o + i, none⟩ = false
/-- The words of n, from the first to that before the k-th, in the cells at o of block b. -/
abbrev WordsAt (w : World) (b o n k : Nat) : Prop := WordsF w b o (wd n) k
theorem WordsF.keep {w w' : World} {b o k B : Nat} {f : Nat → Nat} (h : WordsF w b o f k) (hb : Below B w w') (hB : b < B) : WordsF w' b o f k := fun i hi =>
  ⟨(hb.cell (p := ⟨b, o + i, none⟩) hB).trans (h i hi).1, (hb.frozen (p := ⟨b, o + i, none⟩) hB).trans (h i hi).2⟩
def updF (f : Nat → Nat) (i v : Nat) : Nat → Nat := fun j => if j = i then v else f j
theorem updF_same (f : Nat → Nat) (i v : Nat) : updF f i v i = v := if_pos rfl
theorem updF_other {f : Nat → Nat} {i v j : Nat} (h : j ≠ i) : updF f i v j = f j := if_neg h
theorem WordsF.upd {w : World} {b o k : Nat} {f : Nat → Nat} (h : WordsF w b o f k) {i : Nat} (hi : i < k) (v : Nat) : WordsF (w.setCell ⟨b, o + i, none⟩ (.int .u64 (v : Int))) b o (updF f i v) k := fun j hj => by
  refine ⟨?_, by rw [World.frozen?_setCell]; exact (h j hj).2⟩
  by_cases e : j = i
  · subst e
    rw [updF_same]
    exact World.cell?_setCell_same _ _ _ (h j hj).1
  · rw [updF_other e]
    exact (World.cell?_setCell_other _ _ _ _ (fun e' => by injection e' with e1 e2 e3; omega)).trans (h j hj).1
theorem WordsF.ext {w : World} {b o k : Nat} {f g : Nat → Nat} (h : WordsF w b o f k) (e : ∀ i, i < k → f i = g i) : WordsF w b o g k := fun i hi => by rw [← e i hi]; exact h i hi
theorem WordsF.drewN {w : World} {b o k : Nat} {f : Nat → Nat} (h : WordsF w b o f k) (n : Nat) : WordsF (w.drewN n) b o f k := h
theorem WordsF.sub {w : World} {b o k : Nat} {f : Nat → Nat} (h : WordsF w b o f k) (i m : Nat) (hm : i + m ≤ k) : WordsF w b (o + i) (fun j => f (i + j)) m := fun j hj => by
  have := h (i + j) (by omega)
  rwa [← Nat.add_assoc] at this
theorem WordsAt.new (w : World) (n : Nat) (T : TypeId) : WordsAt (w.alloc (.cells #[.int .u64 (wd n 0 : Int), .int .u64 (wd n 1 : Int), .int .u64 (wd n 2 : Int), .int .u64 (wd n 3 : Int), .int .u64 (wd n 4 : Int), .int .u64 (wd n 5 : Int), .int .u64 (wd n 6 : Int), .int .u64 (wd n 7 : Int)] T)) w.heap.size 0 n 8 := by
  intro i hi
  rcases i with _ | _ | _ | _ | _ | _ | _ | _ | i
  all_goals first | exact ⟨World.cell?_alloc_at _ _ _ _ rfl, World.frozen?_alloc_at _ _ _ _ rfl⟩ | omega
theorem wd_zero (i : Nat) : wd 0 i = 0 := dig_zero _ i
theorem WordsAt.zero (w : World) (T : TypeId) : WordsAt (w.alloc (.cells #[.int .u64 0, .int .u64 0, .int .u64 0, .int .u64 0, .int .u64 0, .int .u64 0, .int .u64 0, .int .u64 0] T)) w.heap.size 0 0 8 := by
  have := WordsAt.new w 0 T
  simpa only [wd_zero, Int.natCast_zero] using this
/-- The box of a number's words, and one of zeros. -/
abbrev boxO (n : Nat) (T : TypeId) : Obj := .cells #[.int .u64 (wd n 0 : Int), .int .u64 (wd n 1 : Int), .int .u64 (wd n 2 : Int), .int .u64 (wd n 3 : Int), .int .u64 (wd n 4 : Int), .int .u64 (wd n 5 : Int), .int .u64 (wd n 6 : Int), .int .u64 (wd n 7 : Int)] T
abbrev boxZ (T : TypeId) : Obj := .cells #[.int .u64 0, .int .u64 0, .int .u64 0, .int .u64 0, .int .u64 0, .int .u64 0, .int .u64 0, .int .u64 0] T
theorem below_alloc (w : World) (o : Obj) : Below w.heap.size w (w.alloc o) := (Below.refl _ _).alloc (Nat.le_refl _) o
theorem _root_.Go.RowKit.Below.drewN {B : Nat} {a w : World} (h : Below B a w) (n : Nat) : Below B a (w.drewN n) := ⟨h.os, h.tape, h.output, h.size, h.block⟩
theorem WordsF.alloc {w : World} {b o k : Nat} {f : Nat → Nat} (h : WordsF w b o f k) (hb : b < w.heap.size) (x : Obj) : WordsF (w.alloc x) b o f k := h.keep (below_alloc w x) hb
theorem WordsF.set {w : World} {b o k : Nat} {f : Nat → Nat} (h : WordsF w b o f k) (p : Addr) (v : Value) (hp : p.block ≠ b) : WordsF (w.setCell p v) b o f k := fun i hi =>
  ⟨(World.cell?_setCell_other _ _ _ _ (fun e => hp (congrArg Addr.block e))).trans (h i hi).1, by rw [World.frozen?_setCell]; exact (h i hi).2⟩
/-- Of all blocks but b nothing has turned. -/
def But1 (w w' : World) (b : Nat) : Prop := (∀ x : Addr, x.block ≠ b → w'.cell? x = w.cell? x ∧ w'.frozen? x = w.frozen? x) ∧ (∀ B w0, B ≤ b → Below B w0 w → Below B w0 w') ∧ w'.heap.size = w.heap.size
theorem WordsF.but {w w' : World} {b c o k : Nat} {f : Nat → Nat} (h : WordsF w b o f k) (hw : But1 w w' c) (hne : b ≠ c) : WordsF w' b o f k := fun i hi =>
  ⟨(hw.1 ⟨b, o + i, none⟩ hne).1.trans (h i hi).1, (hw.1 ⟨b, o + i, none⟩ hne).2.trans (h i hi).2⟩
theorem But1.setCell (w : World) (b o : Nat) (v : Value) : But1 w (w.setCell ⟨b, o, none⟩ v) b :=
  ⟨fun _ hx => ⟨World.cell?_setCell_other _ _ _ _ (fun e => hx (by rw [← e])), by rw [World.frozen?_setCell]⟩, fun _ _ hB h => h.setCell (p := ⟨b, o, none⟩) hB _, by simp⟩
theorem But1.trans {u v w : World} {b : Nat} (h : But1 u v b) (k : But1 v w b) : But1 u w b :=
  ⟨fun x hx => ⟨(k.1 x hx).1.trans (h.1 x hx).1, (k.1 x hx).2.trans (h.1 x hx).2⟩, fun B w0 hB hb => k.2.1 B w0 hB (h.2.1 B w0 hB hb), k.2.2.trans h.2.2⟩
theorem But1.refl (w : World) (b : Nat) : But1 w w b := ⟨fun _ _ => ⟨rfl, rfl⟩, fun _ _ _ h => h, rfl⟩
theorem But1.drew {w w' : World} {b : Nat} (h : But1 w w' b) : But1 w w'.drew b := ⟨h.1, fun B w0 hB hb => (h.2.1 B w0 hB hb).drew, h.2.2⟩
theorem But1.of_drew {w w' : World} {b : Nat} (h : But1 w.drew w' b) : But1 w w' b := ⟨h.1, fun B w0 hB hb => h.2.1 B w0 hB hb.drew, h.2.2⟩
theorem But1.setCells (b : Nat) : ∀ (vs : List Value) (o : Nat) (w : World), But1 w (w.setCells b o vs) b
  | [], _, w => But1.refl w b
  | v :: r, o, w => (But1.setCell w b o v).trans (But1.setCells b r (o + 1) _)
/-- 'copy' of words: all are read before any is written. -/
theorem copy_words (w : World) (b o c p kd ks kc kc2 : Nat) (f g : Nat → Nat) (hd : WordsF w b o f kd) (hs : WordsF w c p g ks) (m : Nat) (hm : Nat.min ks kd = m) :
    ∃ wc, (Builtin.copy_ #[162, 162] 3 #[.slice (some ⟨b, o, none⟩) kd kc, .slice (some ⟨c, p, none⟩) ks kc2]).run Tryz.prog w = .ok (.int .i64 (m : Int)) wc ∧ WordsF wc b o (fun j => if j < m then g j else f j) kd ∧ But1 w wc b := by
  have hmk : m ≤ kd ∧ m ≤ ks := by rw [← hm]; exact ⟨Nat.min_le_right _ _, Nat.min_le_left _ _⟩
  have hlen : ((List.range m).map fun j => Value.int .u64 (g j : Int)).length = m := by simp
  have hsrc : ∀ j v, ((List.range m).map fun j => Value.int .u64 (g j : Int))[j]? = some v → w.cell? ((⟨c, p, none⟩ : Addr).add j) = some v := fun j v hv => by
    rw [List.getElem?_map] at hv
    obtain ⟨x, hx, rfl⟩ := Option.map_eq_some_iff.1 hv
    obtain ⟨hj, rfl⟩ := List.getElem?_eq_some_iff.1 hx
    have hjm : j < m := by simpa using hj
    have hadd : (⟨c, p, none⟩ : Addr).add j = ⟨c, p + j, none⟩ := by unfold Addr.add; split <;> simp_all
    simp only [List.getElem_range, hadd]
    exact (hs j (by omega)).1
  have hone : ∀ v ∈ (List.range m).map fun j => Value.int .u64 (g j : Int), v.oneCell' = true := fun v hv => by
    obtain ⟨x, _, rfl⟩ := List.mem_map.1 hv
    rfl
  have hrun := run_copy_cells (P := Tryz.prog) w 162 162 3 22 b o kd kc ⟨c, p, none⟩ ks kc2 ((List.range m).map fun j => Value.int .u64 (g j : Int)) (by kernel_rfl) (by kernel_rfl) (hlen.trans hm.symm) hsrc (fun j hj => by rw [(hd j (by omega)).1]; rfl) (fun j hj => (hd j (by omega)).2) hone
  refine ⟨w.setCells b o ((List.range m).map fun j => Value.int .u64 (g j : Int)), hrun.trans ?_, fun j hj => ⟨?_, ?_⟩, But1.setCells b _ o w⟩
  · rw [hlen]; rfl
  · by_cases h : j < m
    · simp only [if_pos h]
      rw [World.cell?_setCells_in b _ o w (fun i hi => by rw [(hd i (by omega)).1]; rfl) j (by omega)]
      simp
    · simp only [if_neg h]
      rw [World.cell?_setCells_out b _ o w _ (fun _ _ => Or.inr (by show o + _ ≤ o + j; omega))]
      exact (hd j hj).1
  · rw [World.frozen?_setCells]
    exact (hd j hj).2
/-- The same where a part of a block is written, told of the whole block. -/
theorem copy_into (w : World) (b o q c p K kd ks kc kc2 : Nat) (f g : Nat → Nat) (hd : WordsF w b o f K) (hq : q + kd ≤ K) (hs : WordsF w c p g ks) (m : Nat) (hm : Nat.min ks kd = m) :
    ∃ wc, (Builtin.copy_ #[162, 162] 3 #[.slice (some ⟨b, o + q, none⟩) kd kc, .slice (some ⟨c, p, none⟩) ks kc2]).run Tryz.prog w = .ok (.int .i64 (m : Int)) wc ∧ WordsF wc b o (fun t => if q ≤ t ∧ t < q + m then g (t - q) else f t) K ∧ But1 w wc b := by
  have hmk : m ≤ kd ∧ m ≤ ks := by rw [← hm]; exact ⟨Nat.min_le_right _ _, Nat.min_le_left _ _⟩
  have hlen : ((List.range m).map fun j => Value.int .u64 (g j : Int)).length = m := by simp
  have hdq := hd.sub q kd hq
  have hsrc : ∀ j v, ((List.range m).map fun j => Value.int .u64 (g j : Int))[j]? = some v → w.cell? ((⟨c, p, none⟩ : Addr).add j) = some v := fun j v hv => by
    rw [List.getElem?_map] at hv
    obtain ⟨x, hx, rfl⟩ := Option.map_eq_some_iff.1 hv
    obtain ⟨hj, rfl⟩ := List.getElem?_eq_some_iff.1 hx
    have hjm : j < m := by simpa using hj
    have hadd : (⟨c, p, none⟩ : Addr).add j = ⟨c, p + j, none⟩ := by unfold Addr.add; split <;> simp_all
    simp only [List.getElem_range, hadd]
    exact (hs j (by omega)).1
  have hone : ∀ v ∈ (List.range m).map fun j => Value.int .u64 (g j : Int), v.oneCell' = true := fun v hv => by
    obtain ⟨x, _, rfl⟩ := List.mem_map.1 hv
    rfl
  have hrun := run_copy_cells (P := Tryz.prog) w 162 162 3 22 b (o + q) kd kc ⟨c, p, none⟩ ks kc2 ((List.range m).map fun j => Value.int .u64 (g j : Int)) (by kernel_rfl) (by kernel_rfl) (hlen.trans hm.symm) hsrc (fun j hj => by rw [(hdq j (by omega)).1]; rfl) (fun j hj => (hdq j (by omega)).2) hone
  refine ⟨w.setCells b (o + q) ((List.range m).map fun j => Value.int .u64 (g j : Int)), hrun.trans ?_, fun t ht => ⟨?_, ?_⟩, But1.setCells b _ _ w⟩
  · rw [hlen]; rfl
  · by_cases h : q ≤ t ∧ t < q + m
    · simp only [if_pos h]
      obtain ⟨j, rfl⟩ : ∃ j, t = q + j := ⟨t - q, by omega⟩
      rw [← Nat.add_assoc, World.cell?_setCells_in b _ (o + q) w (fun i hi => by rw [(hdq i (by omega)).1]; rfl) j (by omega)]
      simp
    · simp only [if_neg h]
      rw [World.cell?_setCells_out b _ (o + q) w _ (fun _ _ => by show o + t < o + q ∨ o + q + _ ≤ o + t; omega)]
      exact (hd t ht).1
  · rw [World.frozen?_setCells]
    exact (hd t ht).2
/-- The entry of Add64, and that of Sub64, over natural numbers. -/
theorem add64_run (x y c : Nat) (hc : c ≤ 1) (w : World) : (callFunc 156 #[.int .u64 (x : Int), .int .u64 (y : Int), .int .u64 (c : Int)]).run Tryz.prog w =
    .ok (.value (.tuple #[.int .u64 (((x + y + c) % 18446744073709551616 : Nat) : Int), .int .u64 (((x + y + c) / 18446744073709551616 : Nat) : Int)])) w := Any7.bits_Add64 Tryz.lays25 x y c hc w
def bor (x y b : Nat) : Nat := if x < y + b then 1 else 0
theorem sub64_run (x y b : Nat) (hb : b ≤ 1) (w : World) : (callFunc 179 #[.int .u64 (x : Int), .int .u64 (y : Int), .int .u64 (b : Int)]).run Tryz.prog w =
    .ok (.value (.tuple #[.int .u64 (((x + 18446744073709551616 - y - b) % 18446744073709551616 : Nat) : Int), .int .u64 (bor x y b : Int)])) w := Any7.bits_Sub64 Tryz.lays26 x y b hb w
def cmpN (x y : Nat) : Int := if x < y then -1 else if y < x then 1 else 0
set_option maxHeartbeats 2000000 in
theorem cmpU_run (x y : Nat) (w : World) : Calls Tryz.prog 118 #[.int .u64 (x : Int), .int .u64 (y : Int)] w fun e w' => e = .returned (.int .i64 (cmpN x y)) ∧ w = w' := by
  have hx : ((x : Int) != (x : Int)) = false := by simp
  have hy : ((y : Int) != (y : Int)) = false := by simp
  unfold cmpN
  by_cases h1 : x < y
  · rw [if_pos h1]
    have h1z : (x : Int) < (y : Int) := by omega
    go_enter Tryz.func118, Tryz.ntmps118
    go_wp2
    go_ret
    exact ⟨rfl, rfl⟩
  · rw [if_neg h1]
    have h1z : ¬ (x : Int) < (y : Int) := by omega
    by_cases h2 : y < x
    · rw [if_pos h2]
      have h2z : (y : Int) < (x : Int) := by omega
      go_enter Tryz.func118, Tryz.ntmps118
      go_wp2
      go_ret
      exact ⟨rfl, rfl⟩
    · rw [if_neg h2]
      have h2z : ¬ (y : Int) < (x : Int) := by omega
      go_enter Tryz.func118, Tryz.ntmps118
      go_wp2
      go_ret
      exact ⟨rfl, rfl⟩
end Go.Proofs.YtgoemhcngmpfbaaGreatDoor
