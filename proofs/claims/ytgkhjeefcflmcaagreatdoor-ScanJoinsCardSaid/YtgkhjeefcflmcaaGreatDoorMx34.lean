/-
  DERIVED: THE SHELF's CONTRACTS AT THIS DUMP, IN PLAIN WORDS (tools/lay-plain.mjs out of 'TryzShelf.lean', which tools/lay-shelf.mjs wrote): THE SAME DECLARATIONS UNDER THE SAME NAMES: 'import', 'namespace', 'open', 'def', 'theorem' AND NOTHING ELSE: no command of the shelf's: FOR A HAND-IN. Each laying: the table of numbers ('.._ren') and one theorem, a field a fact of the dump's own or the kernel's comparison; each contract: ONE APPLICATION.
-/
import Derived.Test.YtgkhjeefcflmcaaGreatDoorMx02
import Derived.Shelf.Strings.Builder1
import Derived.Shelf.Strings.Builder2
import Derived.Shelf.Small.Utf8
import Derived.Shelf.Small.Bits
import Derived.Shelf.Small.Strs
import Derived.Shelf.Strings.BuilderF
import Derived.Shelf.Strings.BuilderK
import Derived.Shelf.Utf8.RuneCount
import Derived.Shelf.Strings.Builder2Cap
import Derived.Shelf.Strconv.Atoi
import Derived.Shelf.Strconv.Itoa0
import Derived.Shelf.Strconv.Itoa1
import Derived.Shelf.LaysM
import Derived.Shelf.Strconv.Itoa2
import Derived.Shelf.Strconv.Itoa3
import Derived.Shelf.Strconv.AtoiErrFast
import Derived.Shelf.Strconv.ParseIntEmpty
import Derived.Shelf.Strconv.AtoiFail
import Derived.Shelf.Strconv.Clone
import Derived.Shelf.Strconv.SyntaxError
import Derived.Shelf.LaysC
import Derived.Shelf.Strconv.ToError
import Derived.Shelf.Strconv.Lower
import Derived.Shelf.Strconv.ParseUint10
import Derived.Shelf.Strconv.ParseUint10Empty
import Derived.Shelf.Strconv.ParseUint10Any
import Derived.Shelf.Strconv.ParseInt10
import Derived.Shelf.Strconv.AtoiLong
import Derived.Shelf.Strconv.AtoiInnerAll
import Derived.Shelf.Strconv.RangeError
import Derived.Shelf.Strconv.ToErrorRange
import Derived.Shelf.Strconv.AtoiAll
import Derived.Shelf.Strconv.ErrVarAll
import Derived.Shelf.Strconv.ParseUintEmpty
import Derived.Shelf.Strconv.ParseUint10b64
import Derived.Shelf.Strconv.ParseUint10b32
import Derived.Shelf.Strconv.ParseUint10b16
import Derived.Shelf.Strconv.ParseUint10b8
import Derived.Shelf.Strconv.ParseUint10At
import Derived.Shelf.Strconv.ParseInt10At64
import Derived.Shelf.Strconv.ParseInt10At32
import Derived.Shelf.Strconv.ParseInt10At16
import Derived.Shelf.Strconv.ParseInt10At8
import Derived.Shelf.Strconv.ParseInt10All
import Derived.Shelf.Strings.Search1
import Derived.Shelf.Strings.Search2
import Derived.Shelf.Strings.Search3
import Derived.Shelf.Strings.Cut
import Derived.Shelf.Strings.Count
import Derived.Shelf.Strings.Shaped
import Derived.Shelf.Strings.Split
import Derived.Shelf.Strings.Replace
import Derived.Shelf.Strings.SplitShaped
import Derived.Shelf.Unicode.Decode
import Derived.Shelf.Strings.Runes
import Derived.Shelf.Strings.RuneCount
import Derived.Shelf.Strings.IndexAny
import Derived.Shelf.Strings.AsciiSet
import Derived.Shelf.Strings.IndexAnyAll
import Derived.Shelf.Bits.Mul64
import Derived.Shelf.Unicode.DecodeSlow
import Derived.Shelf.Unicode.DecodeAny
import Derived.Shelf.Strings.BuilderCap
import Derived.Shelf.Bytes.SlIndexSmall
import Derived.Shelf.Bytes.SlIndexAt
import Derived.Shelf.Bytes.SlSearch0
import Derived.Shelf.Bytes.SlSearch1
import Derived.Shelf.Bytes.SlSearch2
import Derived.Shelf.Bytes.SlIndexWhole
import Derived.Shelf.Bytes.SlSmallAll
import Derived.Shelf.Bytes.Small
import Derived.Shelf.Bytes.IndexByte
import Derived.Test.YtgkhjeefcflmcaaGreatDoorProg
import Derived.Shelf.Bytes.SlTrim
import Derived.Test.YtgkhjeefcflmcaaGreatDoorMx33
import Derived.Test.YtgkhjeefcflmcaaGreatDoorMx08
namespace Go.Proofs
open Go.Shelf
open Go.RowKit in
open Go.RowKit in
open Go.RowKit in
open Go.RowKit in
open Go.RowKit in
open Go.RowKit in
open Go.RowKit in
open Go.RowKit in
open Go.RowKit in
open Go.RowKit in
open Go.RowKit in
open Go.RowKit in
open Go.RowKit in
open Go.RowKit in
open Go.RowKit in
open Go.RowKit in
open Go.RowKit in
open Go.Lib in
open Go.Lib in
open Go.Lib in
open Go.Lib in
open Go.RowKit Go.Sort Go.Lib in
open Go.RowKit Go.Sort Go.Lib in
open Go.RowKit Go.Sort Go.Lib in
open Go.RowKit Go.Sort Go.Lib in
open Go.RowKit Go.Sort Go.Lib in
open Go.RowKit Go.Sort Go.Lib in
open Go.RowKit Go.Sort Go.Lib in
open Go.RowKit in
open Go.RowKit in
open Go.RowKit in
open Go.RowKit in
open Go.RowKit in
open Go.RowKit in
open Go.RowKit in
open Go.RowKit in
open Go.RowKit in
open Go.RowKit in
open Go.RowKit in
open Go.RowKit in
open Go.RowKit in
open Go.RowKit in
open Go.RowKit in
open Go.RowKit in
open Go.RowKit in
open Go.RowKit in
open Go.RowKit in
open Go.RowKit in
open Go.RowKit in
open Go.RowKit in
open Go.RowKit in
open Go.RowKit in
open Go.RowKit in
open Go.RowKit in
open Go.RowKit in
open Go.RowKit in
open Go.RowKit in
open Go.RowKit in
open Go.RowKit in
open Go.RowKit in
open Go.RowKit in
open Go.RowKit in
open Go.RowKit in
open Go.RowKit in
open Go.RowKit in
open Go.RowKit in
open Go.RowKit in
open Go.RowKit in
open Go.RowKit Go.Lib in
open Go.RowKit Go.Lib in
open Go.RowKit Go.Lib in
open Go.RowKit Go.Lib in
open Go.RowKit Go.Lib in
open Go.RowKit Go.Lib in
open Go.RowKit Go.Lib in
open Go.RowKit Go.Lib in
open Go.RowKit Go.Lib in
open Go.RowKit Go.Lib in
open Go.RowKit Go.Lib in
open Go.RowKit Go.Lib in
open Go.RowKit Go.Lib in
open Go.RowKit Go.Lib in
open Go.RowKit Go.Lib in
open Go.RowKit Go.Lib in
open Go.RowKit Go.Lib in
open Go.RowKit Go.Lib in
open Go.RowKit Go.Lib in
open Go.RowKit Go.Lib in
open Go.RowKit Go.Lib in
open Go.RowKit Go.Lib in
open Go.RowKit Go.Lib in
open Go.RowKit Go.Lib in
open Go.RowKit Go.Lib in
open Go.RowKit Go.Lib in
open Go.RowKit Go.Lib in
open Go.RowKit Go.Lib in
open Go.RowKit Go.Lib in
open Go.RowKit Go.Lib in
open Go.RowKit Go.Lib in
open Go.RowKit Go.Lib in
open Go.RowKit Go.Lib in
open Go.RowKit Go.Lib in
open Go.RowKit Go.Lib in
open Go.RowKit Go.Lib in
open Go.RowKit Go.Lib in
open Go.RowKit Go.Lib in
open Go.RowKit Go.Lib in
open Go.RowKit Go.Lib in
open Go.RowKit Go.Lib in
open Go.RowKit Go.Lib in
def Tryz.lays185_ren : Go.Shelf.Ren := ⟨fun | 185 => 96 | 187 => 95 | 115 => 94 | 253 => 126 | 224 => 127 | 254 => 128 | 255 => 125 | 291 => 152 | n => n, fun | 37 => 22 | 3 => 3 | 4 => 4 | 0 => 0 | 5 => 5 | 46 => 173 | 9 => 9 | 146 => 210 | 51 => 209 | n => n, fun | 1 => 3 | n => n⟩
theorem Tryz.lays185 : Go.Proofs.Lays.n185 Tryz.prog Tryz.lays185_ren := {
 mixed := by kernel_rfl
 f115 := Tryz.func94.trans (congrArg some (by kernel_rfl))
 f185 := Tryz.func96.trans (congrArg some (by kernel_rfl))
 f187 := Tryz.func95.trans (congrArg some (by kernel_rfl))
 f224 := Tryz.func127.trans (congrArg some (by kernel_rfl))
 f253 := Tryz.func126.trans (congrArg some (by kernel_rfl))
 f254 := Tryz.func128.trans (congrArg some (by kernel_rfl))
 f255 := Tryz.func125.trans (congrArg some (by kernel_rfl))
 f291 := Tryz.func152.trans (congrArg some (by kernel_rfl))
 t0 := Tryz.underlying0
 a0 := Tryz.isAgg0
 z0 := Tryz.sizeOf0
 v0 := Tryz.zeroValue0
 t3 := Tryz.underlying3
 a3 := Tryz.isAgg3
 z3 := Tryz.sizeOf3
 v3 := Tryz.zeroValue3
 t4 := Tryz.underlying4
 a4 := Tryz.isAgg4
 z4 := Tryz.sizeOf4
 v4 := Tryz.zeroValue4
 t5 := Tryz.underlying5
 a5 := Tryz.isAgg5
 z5 := Tryz.sizeOf5
 v5 := Tryz.zeroValue5
 t9 := Tryz.underlying9
 a9 := Tryz.isAgg9
 z9 := Tryz.sizeOf9
 v9 := Tryz.zeroValue9
 t37 := Tryz.underlying22
 a37 := Tryz.isAgg22
 z37 := Tryz.sizeOf22
 v37 := Tryz.zeroValue22
 t46 := Tryz.underlying173
 a46 := Tryz.isAgg173
 z46 := Tryz.sizeOf173
 v46 := Tryz.zeroValue173
 t51 := Tryz.underlying209
 a51 := Tryz.isAgg209
 z51 := Tryz.sizeOf209
 v51 := Tryz.zeroValue209
 t146 := Tryz.underlying210
 a146 := Tryz.isAgg210
 z146 := Tryz.sizeOf210
 v146 := Tryz.zeroValue210
 g1 := by kernel_rfl }
def Tryz.lays187_ren : Go.Shelf.Ren := ⟨fun | 187 => 95 | 255 => 125 | n => n, fun | 37 => 22 | 5 => 5 | 3 => 3 | n => n, fun | n => n⟩
theorem Tryz.lays187 : Go.Proofs.Lays.n187 Tryz.prog Tryz.lays187_ren := {
 mixed := by kernel_rfl
 f187 := Tryz.func95.trans (congrArg some (by kernel_rfl))
 f255 := Tryz.func125.trans (congrArg some (by kernel_rfl))
 t3 := Tryz.underlying3
 a3 := Tryz.isAgg3
 z3 := Tryz.sizeOf3
 v3 := Tryz.zeroValue3
 t5 := Tryz.underlying5
 a5 := Tryz.isAgg5
 z5 := Tryz.sizeOf5
 v5 := Tryz.zeroValue5
 t37 := Tryz.underlying22
 a37 := Tryz.isAgg22
 z37 := Tryz.sizeOf22
 v37 := Tryz.zeroValue22 }
open Go.RowKit Go.Lib in
theorem Tryz.bytes_IndexByte_at (a : Addr) (n c : Nat) (xs : List Int) (cv : Int) (w : World) (hx : xs.length = n) (hc : ∀ i, i < n → w.cell? (a.add i) = some (.int .u8 (xs.getD i 0))) :
  Calls Tryz.prog 95 #[.slice (some a) n c, .int .u8 cv] w fun e w' => e = .returned (.int .i64 (Lib.indexByte (Lib.bytesOf xs) cv.toNat.toUInt8)) ∧ w' = w := Any.bytes_IndexByte_at Tryz.lays187 a n c xs cv w hx hc
open Go.Proofs Go.RowKit Go.Lib in
theorem Tryz.bytes_Index_at (a1 a2 : Addr) (n c1 k c2 : Nat) (xs ys : List Int) (m : Int) (w : World) (hx : xs.length = n) (hy : ys.length = k) (hr1 : ∀ x ∈ xs, 0 ≤ x ∧ x < 256) (hr2 : ∀ y ∈ ys, 0 ≤ y ∧ y < 256) (hc1 : ∀ i, i < n → w.cell? (a1.add i) = some (.int .u8 (xs.getD i 0))) (hc2 : ∀ i, i < k → w.cell? (a2.add i) = some (.int .u8 (ys.getD i 0))) (hcap : n ≤ c1) (hs : n < 4294967281) (hk : k ≤ 9223372036854775807) (hm : w.cell? ⟨3, 0, none⟩ = some (.int .i64 m)) :
  Calls Tryz.prog 96 #[.slice (some a1) n c1, .slice (some a2) k c2] w fun e w' => e = .returned (.int .i64 (Lib.index (Lib.bytesOf xs) (Lib.bytesOf ys))) ∧ ∃ q, w' = w.drewN q := Any.bytes_Index_at Tryz.lays185 a1 a2 n c1 k c2 xs ys m w hx hy hr1 hr2 hc1 hc2 hcap hs hk hm
def Tryz.laysnb116_ren : Go.Shelf.Ren := ⟨fun | 116 => 67 | 115 => 94 | n => n, fun | 37 => 22 | 4 => 4 | 3 => 3 | 9 => 9 | 5 => 5 | n => n, fun | n => n⟩
theorem Tryz.laysnb116 : Go.Proofs.Lays.nb116 Tryz.prog Tryz.laysnb116_ren := {
 mixed := by kernel_rfl
 f115 := Tryz.func94.trans (congrArg some (by kernel_rfl))
 f116 := Tryz.func67.trans (congrArg some (by kernel_rfl))
 t3 := Tryz.underlying3
 a3 := Tryz.isAgg3
 z3 := Tryz.sizeOf3
 v3 := Tryz.zeroValue3
 t4 := Tryz.underlying4
 a4 := Tryz.isAgg4
 z4 := Tryz.sizeOf4
 v4 := Tryz.zeroValue4
 t9 := Tryz.underlying9
 a9 := Tryz.isAgg9
 z9 := Tryz.sizeOf9
 v9 := Tryz.zeroValue9
 t37 := Tryz.underlying22
 a37 := Tryz.isAgg22
 z37 := Tryz.sizeOf22
 v37 := Tryz.zeroValue22
 t5 := Tryz.underlying5
 a5 := Tryz.isAgg5
 z5 := Tryz.sizeOf5
 v5 := Tryz.zeroValue5 }
theorem Tryz.bytes_HasPrefix_all (p1 p2 : Option Addr) (n c m d : Nat) (xs ys : List Int) (w : World) (hx : xs.length = n) (hy : ys.length = m) (hnc : n ≤ c) (h1 : Lib.BytesIn w p1 n xs) (h2 : Lib.BytesIn w p2 m ys) :
  Calls Tryz.prog 67 #[.slice p1 n c, .slice p2 m d] w fun e w' => e = .returned (.bool (Lib.hasPrefix (Lib.bytesOf xs) (Lib.bytesOf ys))) ∧ w' = w := Any.bytes_HasPrefix_all Tryz.laysnb116 p1 p2 n c m d xs ys w hx hy hnc h1 h2
theorem Tryz.bytes_IndexByte_nil (cv : Int) (w : World) :
  Calls Tryz.prog 95 #[.slice none 0 0, .int .u8 cv] w fun e w' => e = .returned (.int .i64 (-1)) ∧ w' = w := Any.bytes_IndexByte_nil Tryz.lays187 cv w
end Go.Proofs
namespace Go.Proofs
open Go.Shelf
def Tryz.laysT8_ren : Go.Shelf.Ren := ⟨fun | 8 => 65 | 9 => 90 | 11 => 91 | 12 => 92 | 14 => 93 | 16 => 122 | 17 => 123 | 18 => 124 | 20 => 151 | n => n, fun | 22 => 22 | 9 => 9 | 3 => 3 | 4 => 4 | 5 => 5 | 28 => 151 | 27 => 150 | 0 => 0 | 31 => 154 | 33 => 182 | 21 => 21 | 36 => 241 | 37 => 173 | 40 => 244 | 39 => 243 | n => n, fun | 0 => 4 | 1 => 5 | n => n⟩
theorem Tryz.laysT8 : Go.Proofs.SlLaysV.n8 Tryz.prog Tryz.laysT8_ren := {
 mixed := by kernel_rfl
 f8 := Tryz.func65.trans (congrArg some (by kernel_rfl))
 f9 := Tryz.func90.trans (congrArg some (by kernel_rfl))
 f11 := Tryz.func91.trans (congrArg some (by kernel_rfl))
 f12 := Tryz.func92.trans (congrArg some (by kernel_rfl))
 f14 := Tryz.func93.trans (congrArg some (by kernel_rfl))
 f16 := Tryz.func122.trans (congrArg some (by kernel_rfl))
 f17 := Tryz.func123.trans (congrArg some (by kernel_rfl))
 f18 := Tryz.func124.trans (congrArg some (by kernel_rfl))
 f20 := Tryz.func151.trans (congrArg some (by kernel_rfl))
 t0 := Tryz.underlying0
 a0 := Tryz.isAgg0
 z0 := Tryz.sizeOf0
 v0 := Tryz.zeroValue0
 t3 := Tryz.underlying3
 a3 := Tryz.isAgg3
 z3 := Tryz.sizeOf3
 v3 := Tryz.zeroValue3
 t4 := Tryz.underlying4
 a4 := Tryz.isAgg4
 z4 := Tryz.sizeOf4
 v4 := Tryz.zeroValue4
 t5 := Tryz.underlying5
 a5 := Tryz.isAgg5
 z5 := Tryz.sizeOf5
 v5 := Tryz.zeroValue5
 t9 := Tryz.underlying9
 a9 := Tryz.isAgg9
 z9 := Tryz.sizeOf9
 v9 := Tryz.zeroValue9
 t21 := Tryz.underlying21
 a21 := Tryz.isAgg21
 z21 := Tryz.sizeOf21
 v21 := Tryz.zeroValue21
 t22 := Tryz.underlying22
 a22 := Tryz.isAgg22
 z22 := Tryz.sizeOf22
 v22 := Tryz.zeroValue22
 t27 := Tryz.underlying150
 a27 := Tryz.isAgg150
 z27 := Tryz.sizeOf150
 t28 := Tryz.underlying151
 a28 := Tryz.isAgg151
 z28 := Tryz.sizeOf151
 v28 := Tryz.zeroValue151
 t31 := Tryz.underlying154
 a31 := Tryz.isAgg154
 z31 := Tryz.sizeOf154
 v31 := Tryz.zeroValue154
 t33 := Tryz.underlying182
 a33 := Tryz.isAgg182
 z33 := Tryz.sizeOf182
 v33 := Tryz.zeroValue182
 t36 := Tryz.underlying241
 a36 := Tryz.isAgg241
 z36 := Tryz.sizeOf241
 t37 := Tryz.underlying173
 a37 := Tryz.isAgg173
 z37 := Tryz.sizeOf173
 v37 := Tryz.zeroValue173
 t39 := Tryz.underlying243
 a39 := Tryz.isAgg243
 z39 := Tryz.sizeOf243
 v39 := Tryz.zeroValue243
 t40 := Tryz.underlying244
 a40 := Tryz.isAgg244
 z40 := Tryz.sizeOf244
 v40 := Tryz.zeroValue244 }
end Go.Proofs
namespace Go.Proofs.YtgkhjeefcflmcaaGreatDoor
open Go.RowKit Go.Sort
set_option linter.unusedSimpArgs false
set_option linter.unusedVariables false
theorem bytesOf_bi : ∀ l : List UInt8, Lib.bytesOf (bi l) = l
 | [] => rfl
 | c :: t => by
  show UInt8.ofNat ((c.toNat : Int)).toNat :: Lib.bytesOf (bi t) = c :: t
  rw [bytesOf_bi t, Int.toNat_natCast, UInt8.ofNat_toNat]
theorem bi_256 (l : List UInt8) : ∀ x ∈ bi l, 0 ≤ x ∧ x < 256 := fun x hx => by
 have := bi_byt l x hx
 omega
theorem bi_getD {l : List UInt8} {i : Nat} (h : i < l.length) : (bi l).getD i 0 = ((l[i]).toNat : Int) := by
 unfold bi
 rw [List.getD_eq_getElem?_getD, List.getElem?_map, List.getElem?_eq_getElem h]
 rfl
theorem byts_in {w : World} {B : Nat} {A : Option Addr} {l : List UInt8} {n : Nat} (h : Byts w B A (bi l)) (hn : l.length = n) : Lib.BytesIn w A n (bi l) := fun h0 => by
 obtain ⟨b, o, rfl, _, _⟩ := h.2 (by rw [bi_length]; omega)
 refine ⟨b, o, rfl, fun i hi => ?_⟩
 rw [bi_getD (by omega)]
 exact byts_cell h (List.getElem?_eq_getElem (by omega))
theorem byts_add {w : World} {B b o : Nat} {l : List UInt8} {n : Nat} (h : Byts w B (some ⟨b, o, none⟩) (bi l)) (hn : l.length = n) : ∀ i, i < n → w.cell? ((⟨b, o, none⟩ : Addr).add i) = some (.int .u8 ((bi l).getD i 0)) := fun i hi => by
 have e : (⟨b, o, none⟩ : Addr).add i = ⟨b, o + i, none⟩ := by unfold Addr.add; split <;> simp_all
 rw [e, bi_getD (by omega)]
 exact byts_cell h (List.getElem?_eq_getElem (by omega))
theorem bl_contains (c : UInt8) : ([32, 9, 13] : List UInt8).contains c = isBl c := by
 unfold isBl
 by_cases h1 : c = 32
 ·subst h1; rfl
 ·by_cases h2 : c = 9
  ·subst h2; rfl
  ·by_cases h3 : c = 13
   ·subst h3; rfl
   ·simp [h1, h2, h3]
theorem trim_blk : ∀ l : List UInt8, (Lib.trimLeftS l [32, 9, 13]).length = l.length - blkN l
 | [] => rfl
 | c :: t => by
  have ih := trim_blk t
  unfold Lib.trimLeftS at ih ⊢
  rw [List.dropWhile_cons, bl_contains]
  by_cases h : isBl c = true
  ·rw [if_pos h, ih, show blkN (c :: t) = blkN t + 1 from if_pos h, List.length_cons]
   omega
  ·rw [if_neg h, show blkN (c :: t) = 0 from if_neg h]
   rfl
theorem trimL_run (b o n c : Nat) (l : List UInt8) (w : World) (B : Nat) (hb : Byts w B (some ⟨b, o, none⟩) (bi l)) (hn : l.length = n) (hnc : n ≤ c) (hc : c ≤ 9223372036854775807) :
  Calls Tryz.prog 65 #[.slice (some ⟨b, o, none⟩) n c, .string ⟨#[32, 9, 13]⟩] w fun e w' => ∃ A' c', e = .returned (.slice A' (n - blkN l) c') ∧ Below w.heap.size w w' := by
 have h := Any.bytes_TrimLeft_laid Tryz.laysT8 (by kernel_rfl) (some ⟨b, o, none⟩) n c (bi l) ⟨#[32, 9, 13]⟩ w (by rw [bi_length]; exact hn) hnc hc (byts_in hb hn) (bi_256 l) (by decide) (fun j b hb => by
  match j, hb with
  | 0, hb => cases hb; decide
  | 1, hb => cases hb; decide
  | 2, hb => cases hb; decide)
 rw [bytesOf_bi, show (⟨#[32, 9, 13]⟩ : ByteArray).data.toList = [32, 9, 13] from rfl, trim_blk, hn] at h
 refine Calls.mono h ?_
 rintro e w' ⟨rfl, hw⟩
 have hle := blkN_le l
 unfold Lib.leftV Lib.fromV
 split
 ·exact ⟨none, 0, by rw [show n - blkN l = 0 by omega], hw⟩
 ·exact ⟨_, _, by rw [show n - (n - (n - blkN l)) = n - blkN l by omega], hw⟩
theorem pref_two (x y : UInt8) : ∀ l : List UInt8, Lib.hasPrefix l [x, y] = twoF x y l
 | [] => rfl
 | [c] => by
  show ([x, y] : List UInt8).isPrefixOf [c] = false
  simp [List.isPrefixOf]
 | c :: d :: t => by
  show ([x, y] : List UInt8).isPrefixOf (c :: d :: t) = (c == x && d == y)
  simp [List.isPrefixOf, Bool.beq_comm, eq_comm, BEq.comm]
theorem pref_run (b o n c b2 : Nat) (l : List UInt8) (x y : UInt8) (w : World) (B : Nat) (hb : Byts w B (some ⟨b, o, none⟩) (bi l)) (hn : l.length = n) (hnc : n ≤ c) (c0 : w.cell? ⟨b2, 0, none⟩ = some (.int .u8 (x.toNat : Int))) (c1 : w.cell? ⟨b2, 1, none⟩ = some (.int .u8 (y.toNat : Int))) :
  Calls Tryz.prog 67 #[.slice (some ⟨b, o, none⟩) n c, .slice (some ⟨b2, 0, none⟩) 2 2] w fun e w' => e = .returned (.bool (twoF x y l)) ∧ w' = w := by
 have h := Tryz.bytes_HasPrefix_all (some ⟨b, o, none⟩) (some ⟨b2, 0, none⟩) n c 2 2 (bi l) (bi [x, y]) w (by rw [bi_length]; exact hn) rfl hnc (byts_in hb hn) (fun _ => ⟨b2, 0, rfl, fun i hi => by
  match i, hi with
  | 0, _ => exact c0
  | 1, _ => exact c1⟩)
 rw [bytesOf_bi, bytesOf_bi, pref_two] at h
 exact h
theorem idx_gen : ∀ t : List UInt8, Lib.index t [42, 47] = if (genF t).2.1 = true then ((genF t).1 : Int) - 2 else -1
 | [] => rfl
 | c :: t => by
  have ih := idx_gen t
  show (if ([42, 47] : List UInt8).isPrefixOf (c :: t) = true then 0 else if Lib.index t [42, 47] == -1 then -1 else Lib.index t [42, 47] + 1) = _
  by_cases h : c = 42 ∧ t.head? = some 47
  ·have e : genF (c :: t) = (2, true, false) := if_pos h
   rw [e]
   obtain ⟨rfl, h2⟩ := h
   cases t with
   | nil => cases h2
   | cons d u => cases h2; rfl
  ·have e : genF (c :: t) = ((genF t).1 + 1, (genF t).2.1, (c == 10) || (genF t).2.2) := if_neg h
   have hp : ¬ ([42, 47] : List UInt8).isPrefixOf (c :: t) = true := fun hh => by
    apply h
    cases t with
    | nil => simp [List.isPrefixOf] at hh
    | cons d u =>
     simp [List.isPrefixOf] at hh
     exact ⟨hh.1.symm, by rw [← hh.2]; rfl⟩
   rw [e, if_neg hp, ih]
   dsimp only
   cases he : (genF t).2.1 with
   | true =>
    have := genF_pos he
    rw [if_pos rfl, if_pos rfl, if_neg (by simp only [beq_iff_eq]; omega)]
    omega
   | false => rfl
theorem idxB_line : ∀ t : List UInt8, Lib.indexByte t 10 = if lineN t = t.length then -1 else (lineN t : Int)
 | [] => rfl
 | c :: t => by
  have ih := idxB_line t
  have hl := lineN_le t
  show (if c == 10 then 0 else if Lib.indexByte t 10 == -1 then -1 else Lib.indexByte t 10 + 1) = _
  by_cases h : c = 10
  ·subst h
   rw [show lineN (10 :: t) = 0 from rfl, if_neg (show ¬ 0 = (10 :: t).length by simp)]
   rfl
  ·rw [show lineN (c :: t) = lineN t + 1 from if_neg h, if_neg (by simpa using h), ih, List.length_cons]
   by_cases h2 : lineN t = t.length
   ·rw [if_pos h2, if_pos (show lineN t + 1 = t.length + 1 by omega)]; rfl
   ·rw [if_neg h2, if_neg (show ¬ lineN t + 1 = t.length + 1 by omega), if_neg (by simp only [beq_iff_eq]; omega)]
    omega
theorem gen_lined : ∀ t : List UInt8, (genF t).2.1 = true → (genF t).2.2 = decide (Lib.indexByte (t.take ((genF t).1 - 2)) 10 ≥ 0)
 | [], h => by cases h
 | c :: t, h => by
  by_cases hc : c = 42 ∧ t.head? = some 47
  ·have e : genF (c :: t) = (2, true, false) := if_pos hc
   rw [e]
   rfl
  ·have e : genF (c :: t) = ((genF t).1 + 1, (genF t).2.1, (c == 10) || (genF t).2.2) := if_neg hc
   rw [e] at h ⊢
   have h' : (genF t).2.1 = true := h
   have ih := gen_lined t h'
   have hp := genF_pos h'
   show ((c == 10) || (genF t).2.2) = decide (Lib.indexByte ((c :: t).take ((genF t).1 + 1 - 2)) 10 ≥ 0)
   rw [ih, show (genF t).1 + 1 - 2 = ((genF t).1 - 2) + 1 by omega, List.take_succ_cons]
   generalize t.take ((genF t).1 - 2) = u
   show _ = decide ((if c == 10 then 0 else if Lib.indexByte u 10 == -1 then -1 else Lib.indexByte u 10 + 1) ≥ 0)
   have hge := Lib.indexByte_ge u 10
   by_cases h10 : c = 10
   ·subst h10; simp
   ·rw [show (c == 10) = false by simpa using h10, Bool.false_or, if_neg (by simp)]
    by_cases hm : Lib.indexByte u 10 = -1
    ·rw [hm]; rfl
    ·rw [if_neg (by simpa using hm), decide_eq_true (by omega), decide_eq_true (by omega)]
theorem idxB_run (A : Option Addr) (n c : Nat) (l : List UInt8) (w : World) (B : Nat) (hb : Byts w B A (bi l)) (hn : l.length = n) (h0 : A = none → n = 0 ∧ c = 0) :
  Calls Tryz.prog 95 #[.slice A n c, .int .u8 10] w fun e w' => e = .returned (.int .i64 (Lib.indexByte l 10)) ∧ w' = w := by
 cases A with
 | none =>
  obtain ⟨rfl, rfl⟩ := h0 rfl
  have : l = [] := List.eq_nil_of_length_eq_zero hn
  subst this
  exact Tryz.bytes_IndexByte_nil 10 w
 | some p =>
  have h := Tryz.bytes_IndexByte_at p n c (bi l) 10 w (by rw [bi_length]; exact hn) (by
   intro i hi
   obtain ⟨b, o, e, _, _⟩ := hb.2 (by rw [bi_length]; omega)
   cases e
   exact byts_add hb hn i hi)
  rw [bytesOf_bi] at h
  exact h
end Go.Proofs.YtgkhjeefcflmcaaGreatDoor
namespace Go.Proofs.YtgkhjeefcflmcaaGreatDoor
open Go.RowKit
theorem conv_lit (w : World) (cs : Array Value) (n c : Nat) : (convert 22 22 (.slice (some ⟨w.heap.size, 0, none⟩) n c)).run Tryz.prog (w.alloc (.cells cs 5)) = .ok (.slice (some ⟨w.heap.size, 0, none⟩) n c) (w.alloc (.cells cs 5 (cs.size, cs.size + 1))) := by
 have hsh : (w.alloc (.cells cs 5)).shape? w.heap.size = some (5, cs.size) := by
  have : (w.alloc (.cells cs 5)).heap[w.heap.size]? = some (.cells cs 5) := by
   show (w.heap.push (.cells cs 5))[w.heap.size]? = _
   simp
  unfold World.shape?
  rw [this]
 have hfr : (w.alloc (.cells cs 5)).freeze ⟨w.heap.size, cs.size, none⟩ 1 = w.alloc (.cells cs 5 (cs.size, cs.size + 1)) := by
  have hm : ∀ (a : Array Obj) (x : Obj) (f : Obj → Obj), (a.push x).modify a.size f = a.push (f x) := by
   intro a x f
   apply Array.ext
   ·simp
   ·intro i h1 h2
    simp only [Array.getElem_modify, Array.getElem_push]
    by_cases h : a.size = i
    ·subst h
     simp
    ·have hi : i < a.size := by simp at h1; omega
     simp [h, hi]
  unfold World.freeze
  rw [if_neg (by decide)]
  show ({ w.alloc (.cells cs 5) with heap := (w.heap.push (.cells cs 5)).modify w.heap.size _ } : World) = _
  rw [hm]
  rfl
 simp [convert, run_underlying Tryz.underlying22, run_underlying Tryz.underlying5, markStringish, hsh]
 exact hfr
end Go.Proofs.YtgkhjeefcflmcaaGreatDoor
namespace Go.Proofs.YtgkhjeefcflmcaaGreatDoor
open Go.RowKit Go.Sort
set_option linter.unusedSimpArgs false
set_option linter.unusedVariables false
set_option maxRecDepth 100000 in
set_option maxHeartbeats 8000000 in
theorem upTo_run (b o n c : Nat) (l : List UInt8) (w : World) (B : Nat) (hb : Byts w B (some ⟨b, o, none⟩) (bi l)) (hn : l.length = n) (hm : n ≤ 900) :
  Calls Tryz.prog 68 #[.slice (some ⟨b, o, none⟩) n c, .int .u8 10] w fun e w' => e = .returned (.int .i64 (lineN l : Int)) ∧ w' = w := by
 have hi := idxB_run (some ⟨b, o, none⟩) n c l w B hb hn (fun e => by cases e)
 rw [idxB_line] at hi
 have hl := lineN_le l
 by_cases h : lineN l = l.length
 ·rw [if_pos h] at hi
  rw [h, hn]
  have HI := Lib.hid hi
  clear hi h hb hl
  go_enter Tryz.func68, Tryz.ntmps68
  go_wp2_with fail
  refine HI.out.mono ?_
  rintro e w1 ⟨rfl, rfl⟩
  go_wp2_with fail
  go_ret
  exact ⟨rfl, rfl⟩
 ·rw [if_neg h] at hi
  have HI := Lib.hid hi
  obtain ⟨k, hk⟩ : ∃ k, lineN l = k := ⟨_, rfl⟩
  rw [hk] at HI ⊢
  have hk0 : (k : Int) ≥ 0 := by omega
  clear hi h hb hl hk
  go_enter Tryz.func68, Tryz.ntmps68
  go_wp2_with fail
  refine HI.out.mono ?_
  rintro e w1 ⟨rfl, rfl⟩
  go_wp2_with fail
  go_ret
  exact ⟨rfl, rfl⟩
set_option maxRecDepth 100000 in
set_option maxHeartbeats 8000000 in
theorem blanks_run (V : World) (cb b o n cap a : Nat) (l : List UInt8) (t : Tk) (br : Bool) (h : CAt V cb (some ⟨b, o, none⟩) n cap a t br) (hb : Byts V cb (some ⟨b, o, none⟩) (bi l)) (hn : l.length = n) (hm : n ≤ 900) (hcap : n ≤ cap) (hcm : cap ≤ 9223372036854775807) (ha : a < n) (k : Nat) (hk : Hid (blkN (l.drop a) = k)) :
  Calls Tryz.prog 44 #[.pointer (some ⟨cb, 0, none⟩)] V fun e V' => e = .returned (.bool (decide (0 < k))) ∧ Left V cb (some ⟨b, o, none⟩) n cap a (piAt ⟨0, k, 0, false⟩ a) false V' := by
 have HC := Lib.hid h
 have HY := Lib.hid hb
 have hlt := h.lt
 have hca : cap ≠ a := by omega
 have hac : a ≤ cap := by omega
 have han : (a : Int) ≤ (n : Int) := by omega
 obtain ⟨m, hma⟩ : ∃ m, n - a = m := ⟨_, rfl⟩
 obtain ⟨cc, hcc⟩ : ∃ cc, cap - a = cc := ⟨_, rfl⟩
 have hdl : (l.drop a).length = m := by rw [List.length_drop, hn, hma]
 have hkm : k ≤ m := by rw [← hk.out, ← hdl]; exact blkN_le _
 obtain ⟨q, hqm⟩ : ∃ q, m - k = q := ⟨_, rfl⟩
 have hqs : (m : Int) - (q : Int) = (k : Int) := by omega
 have HT : Hid (∀ W, Below cb V W → Calls Tryz.prog 65 #[.slice (some ⟨b, o + a, none⟩) m cc, .string ⟨#[32, 9, 13]⟩] W fun e w' => ∃ A' c', e = .returned (.slice A' q c') ∧ Below W.heap.size W w') := fun W hw => by
  have := trimL_run b (o + a) m cc (l.drop a) W cb ((HY.out.below (B' := cb) hw (Nat.le_refl _)).dropB (by omega) a) hdl (by omega) (by omega)
  rw [hk.out, hqm] at this
  exact this
 have HLT := Lib.hid hlt
 have HCM : Hid (m ≤ 900 ∧ k ≤ 900 ∧ a ≤ 900) := ⟨by omega, by omega, by omega⟩
 obtain ⟨c0, c1, c2, c3, c4, c5, c6, c7, f2, f3, f4, f5, f6, f7⟩ := h
 clear hb hk hdl hlt hqm hkm hcm
 go_enter Tryz.func44, Tryz.ntmps44
 go_wp2_with fail
 go_quiet (fail)
 have HB1 : Hid (Below cb V (V.drewN nq)) := below_drewN (Below.refl _ _) nq
 have HC1 := Lib.hid (HC.out.below (below_drewN (Below.refl _ V) nq))
 clear c0 c1 c2 c3 c4 c5 c6 c7 f2 f3 f4 f5 f6 f7
 generalize V.drewN nq = W at *
 go_wp2_with fail
 refine (HT.out _ HB1.out).mono ?_
 rintro e W2 ⟨A', c', rfl, hw2⟩
 have HB2 := Lib.hid (HB1.out.trans (hw2.mono (by have := HC1.out.lt; omega)))
 have HC2 := Lib.hid (HC1.out.below hw2)
 clear hw2 HT HC HC1 HB1
 go_wp2_with fail
 refine (take_run W2 cb _ n cap a t br HC2.out 0 k 0 (by have := HCM.out; omega) (by have := HCM.out; omega)).mono ?_
 rintro e W3 ⟨rfl, hC3, hB3⟩
 have HL : Hid (Left V cb (some ⟨b, o, none⟩) n cap a (piAt ⟨0, k, 0, false⟩ a) false W3) := ⟨hC3, HB2.out.trans hB3⟩
 clear hC3 hB3 HC2 HB2
 go_wp2_with fail
 go_ret
 exact ⟨by simp, HL.out⟩
set_option maxRecDepth 100000 in
set_option maxHeartbeats 8000000 in
theorem lineFeed_run (V : World) (cb b o n cap a : Nat) (l : List UInt8) (t : Tk) (br : Bool) (h : CAt V cb (some ⟨b, o, none⟩) n cap a t br) (hb : Byts V cb (some ⟨b, o, none⟩) (bi l)) (hn : l.length = n) (hm : n ≤ 900) (hcap : n ≤ cap) (hcm : cap ≤ 9223372036854775807) (ha : a < n) (c : UInt8) (hc : l[a]? = some c) (v : Bool) (hv : Hid (v = decide (c = 10))) :
  Calls Tryz.prog 46 #[.pointer (some ⟨cb, 0, none⟩)] V fun e V' => e = .returned (.bool v) ∧ Left V cb (some ⟨b, o, none⟩) n cap a (piAt ⟨0, 1, 0, true⟩ a) true V' := by
 have HC := Lib.hid h
 have HY := Lib.hid hb
 have hx0 : Hid (∀ W, Below cb V W → W.cell? ⟨b, o + a, none⟩ = some (.int .u8 (c.toNat : Int))) := fun W hw => byts_cell (HY.out.below (B' := cb) hw (Nat.le_refl _)) hc
 have haz : (a : Int) < (n : Int) := by omega
 have HA : Hid (a ≤ 900) := by show _ ≤ _; omega
 clear hb hc h HY hcm
 go_enter Tryz.func46, Tryz.ntmps46
 go_wp2_with fail
 refine (take_run V cb _ n cap a t br HC.out 0 1 0 (by have := HA.out; omega) (by omega)).mono ?_
 rintro e W ⟨rfl, hC, hB⟩
 have HB1 := Lib.hid hB
 have HC1 := Lib.hid hC
 obtain ⟨c0, c1, c2, c3, c4, c5, c6, c7, f2, f3, f4, f5, f6, f7⟩ := hC
 clear hB HC
 go_wp2_with fail
 have HB2 := Lib.hid (HB1.out.setCell (p := ⟨cb, 7, none⟩) (Nat.le_refl _) (.bool true))
 have HC2 : Hid (CAt (W.setCell ⟨cb, 7, none⟩ (.bool true)) cb (some ⟨b, o, none⟩) n cap a (piAt ⟨0, 1, 0, true⟩ a) true) := by
  show CAt _ _ _ _ _ _ ⟨((0 : Nat) : Int), (a : Int), ((a + 1 : Nat) : Int), false, ((0 : Nat) : Int)⟩ _
  constructor <;> go_simp
 clear c0 c1 c2 c3 c4 c5 c6 c7 f2 f3 f4 f5 f6 f7 HC1 HB1
 generalize W.setCell ⟨cb, 7, none⟩ (.bool true) = W2 at *
 have HL : Hid (∀ m, Left V cb (some ⟨b, o, none⟩) n cap a (piAt ⟨0, 1, 0, true⟩ a) true (W2.drewN m)) := fun m => ⟨HC2.out.below (below_drewN (Below.refl _ _) m), below_drewN HB2.out m⟩
 have hx := hx0.out _ HB2.out
 obtain ⟨c0, c1, c2, c3, c4, c5, c6, c7, f2, f3, f4, f5, f6, f7⟩ := HC2.out
 by_cases hq : c = 10
 ·subst hq
  have hx2 : W2.cell? ⟨b, o + a, none⟩ = some (.int .u8 10) := hx
  have hv2 : v = true := hv.out
  subst hv2
  clear hv hx hx0
  go_quiet (fail)
  go_wp2_with fail
  go_ret
  exact ⟨rfl, HL.out _⟩
 ·have e10 : ((c.toNat : Int) == 10) = false := eq_byte hq
  have hv2 : v = false := by rw [hv.out]; exact decide_eq_false hq
  subst hv2
  clear hv hq hx0
  generalize c.toNat = cn at *
  go_quiet (fail)
  go_wp2_with fail
  go_ret
  exact ⟨rfl, HL.out _⟩
def genP (m : Nat) (g : Nat × Bool × Bool) : Pc := if g.2.1 = true then ⟨0, g.1 + 2, 0, g.2.2⟩ else ⟨6, m + 2, 12, false⟩
set_option maxRecDepth 100000 in
set_option maxHeartbeats 8000000 in
theorem general_run (V : World) (cb n cap a m c' : Nat) (A : Option Addr) (p : Addr) (l : List UInt8) (t : Tk) (br : Bool) (h : CAt V cb A n cap a t br) (hb : Byts V cb (some p) (bi l)) (hn : l.length = m) (hm : m ≤ 900) (hmc : m ≤ c') (ha : a ≤ 900) (hml : Ml V) :
  Calls Tryz.prog 69 #[.pointer (some ⟨cb, 0, none⟩), .slice (some p) m c'] V fun e V' => e = .returned (.tuple #[]) ∧ Left V cb A n cap a (piAt (genP m (genF l)) a) (genP m (genF l)).b V' := by
 have HC := Lib.hid h
 have HY := Lib.hid hb
 have HLT := Lib.hid h.lt
 obtain ⟨mx, hmx⟩ := hml
 obtain ⟨T0, hT0⟩ : ∃ T0, V.alloc (.cells #[.int .u8 42, .int .u8 47] 5 (2, 3)) = T0 := ⟨_, rfl⟩
 have hB0 : Below cb V T0 := by rw [← hT0]; exact (Below.refl _ _).alloc (by have := HLT.out; omega) _
 have HI0 : Calls Tryz.prog 96 #[.slice (some p) m c', .slice (some ⟨V.heap.size, 0, none⟩) 2 2] T0 fun e w' => e = .returned (.int .i64 (Lib.index l [42, 47])) ∧ ∃ q, w' = T0.drewN q := by
  have hby := HY.out.below (B' := cb) hB0 (Nat.le_refl _)
  have := Tryz.bytes_Index_at p ⟨V.heap.size, 0, none⟩ m c' 2 2 (bi l) (bi [42, 47]) mx T0 (by rw [bi_length]; exact hn) rfl (bi_256 _) (bi_256 _) (fun i hi => by
   obtain ⟨b, o, e, _, _⟩ := hby.2 (by rw [bi_length]; omega)
   cases e
   exact byts_add hby hn i hi) (fun i hi => by
   rw [← hT0]
   match i, hi with
   | 0, _ =>
    show (V.alloc _).cell? ⟨V.heap.size, 0, none⟩ = _
    rw [World.cell?_alloc_mark]; rfl
   | 1, _ =>
    show (V.alloc _).cell? ⟨V.heap.size, 1, none⟩ = _
    rw [World.cell?_alloc_mark]; rfl) hmc (by omega) (by decide) (by
   rw [← hT0, World.cell?_alloc_lt _ _ ⟨3, 0, none⟩ (World.block_lt_of_cell? V _ hmx)]
   exact hmx)
  rw [bytesOf_bi, bytesOf_bi] at this
  exact this
 rw [idx_gen] at HI0
 have HC0 := Lib.hid (HC.out.keep (Below.alloc (Below.refl V.heap.size V) (Nat.le_refl _) (.cells #[.int .u8 42, .int .u8 47] 5 (2, 3))) HLT.out)
 rw [hT0] at HC0
 have HB0 := Lib.hid hB0
 have hcl := conv_lit V #[.int .u8 42, .int .u8 47] 2 2
 simp at hcl
 obtain ⟨⟨k, ed, ld⟩, hg⟩ : ∃ g, genF l = g := ⟨_, rfl⟩
 rw [hg] at HI0 ⊢
 have hle := genF_le l
 rw [hg, hn] at hle
 cases ed with
 | false =>
  rw [if_neg (by simp)] at HI0
  have HI := Lib.hid HI0
  have hmz : (2 : Int) + (m : Int) = ((m + 2 : Nat) : Int) := by omega
  obtain ⟨m2, hm2⟩ : ∃ m2, m + 2 = m2 := ⟨_, rfl⟩
  have HM2 : Hid (m2 ≤ 1000 ∧ a ≤ 900) := ⟨by omega, ha⟩
  rw [show genP m (k, false, ld) = ⟨6, m2, 12, false⟩ by rw [← hm2]; rfl]
  rw [hm2] at hmz
  clear HI0 h hb hn hmx hB0 hg hle HY HC
  go_enter Tryz.func69, Tryz.ntmps69
  go_wp2_with fail
  refine HI.out.mono ?_
  rintro e W ⟨rfl, q, rfl⟩
  have HB1 := Lib.hid (below_drewN HB0.out q)
  have HC1 := Lib.hid (HC0.out.below (below_drewN (Below.refl _ _) q))
  clear HI HC0 HB0
  clear hcl hT0
  generalize T0.drewN q = W at *
  go_wp2_with fail
  refine (take_run W cb A n cap a t br HC1.out 6 m2 12 (by have := HM2.out; omega) (by have := HM2.out; omega)).mono ?_
  rintro e W3 ⟨rfl, hC3, hB3⟩
  have HL : Hid (Left V cb A n cap a (piAt ⟨6, m2, 12, false⟩ a) false W3) := ⟨hC3, HB1.out.trans hB3⟩
  clear hC3 hB3
  go_wp2_with fail
  refine bodyPost_ret (results_none rfl _ _ _) rfl ?_
  exact ⟨rfl, HL.out⟩
 | true =>
  rw [if_pos rfl] at HI0
  have hk2 : 2 ≤ k := by have := genF_pos (l := l) (by rw [hg]); rw [hg] at this; exact this
  have hld : ld = decide (Lib.indexByte (l.take (k - 2)) 10 ≥ 0) := by have := gen_lined l (by rw [hg]); rw [hg] at this; exact this
  obtain ⟨z, hz⟩ : ∃ z, k - 2 = z := ⟨_, rfl⟩
  have hkz : ((k : Nat) : Int) - 2 = (z : Int) := by omega
  rw [hz] at hld
  rw [show (((k, true, ld) : Nat × Bool × Bool).1 : Int) - 2 = (z : Int) from hkz] at HI0
  have HI := Lib.hid HI0
  have hz0 : ¬ (z : Int) < 0 := by omega
  have hz1 : (2 : Int) + (z : Int) + 2 = ((k + 2 : Nat) : Int) := by omega
  have hz2 : (2 : Int) + (z : Int) = ((z + 2 : Nat) : Int) := by omega
  have hz3 : ((z + 2 : Nat) : Int) + 2 = ((k + 2 : Nat) : Int) := by omega
  obtain ⟨k2, hkk⟩ : ∃ k2, k + 2 = k2 := ⟨_, rfl⟩
  obtain ⟨z2, hzz⟩ : ∃ z2, z + 2 = z2 := ⟨_, rfl⟩
  have HM2 : Hid (k2 ≤ 1000 ∧ a ≤ 900) := ⟨by omega, ha⟩
  rw [show genP m (k, true, ld) = ⟨0, k2, 0, ld⟩ by rw [← hkk]; rfl]
  rw [hkk] at hz1 hz3
  rw [hzz] at hz2 hz3
  have hzm : (z : Int) ≤ (m : Int) := by omega
  have hzm2 : z ≤ m := by omega
  have hzc : z ≤ c' := by omega
  have hz9 : z2 ≤ 1000 := by omega
  have HX : Hid (∀ W, Below cb V W → Calls Tryz.prog 95 #[.slice (some p) z c', .int .u8 10] W fun e w' => e = .returned (.int .i64 (Lib.indexByte (l.take z) 10)) ∧ w' = W) := fun W hw => by
   have hby := (HY.out.below (B' := cb) hw (Nat.le_refl _)).take z
   rw [bi_take] at hby
   exact idxB_run (some p) z c' (l.take z) W cb hby (by rw [List.length_take, hn]; omega) (fun e => by cases e)
  obtain ⟨ix, hix⟩ : ∃ ix, Lib.indexByte (l.take z) 10 = ix := ⟨_, rfl⟩
  rw [hix] at HX hld
  clear HI0 h hb hn hmx hB0 hg hle HY HC hk2 hz hkz hkk hzz hix
  go_enter Tryz.func69, Tryz.ntmps69
  go_wp2_with fail
  refine HI.out.mono ?_
  rintro e W ⟨rfl, q, rfl⟩
  have HB1 := Lib.hid (below_drewN HB0.out q)
  have HC1 := Lib.hid (HC0.out.below (below_drewN (Below.refl _ _) q))
  clear HI HC0 HB0
  clear hcl hT0
  generalize T0.drewN q = W at *
  go_wp2_with fail
  refine (take_run W cb A n cap a t br HC1.out 0 k2 0 (by have := HM2.out; omega) (by have := HM2.out; omega)).mono ?_
  rintro e W3 ⟨rfl, hC3, hB3⟩
  have HB3 := Lib.hid (HB1.out.trans hB3)
  have HC3 := Lib.hid hC3
  obtain ⟨c0, c1, c2, c3, c4, c5, c6, c7, f2, f3, f4, f5, f6, f7⟩ := hC3
  clear hB3 HC1 HB1
  go_wp2_with fail
  refine (HX.out _ HB3.out).mono ?_
  rintro e W4 ⟨rfl, rfl⟩
  go_wp2_with fail
  go_end0
  refine ⟨rfl, ?_, HB3.out.setCell (p := ⟨cb, 7, none⟩) (Nat.le_refl _) _⟩
  rw [hld]
  show CAt _ _ _ _ _ _ ⟨((0 : Nat) : Int), (a : Int), ((a + k2 : Nat) : Int), false, ((0 : Nat) : Int)⟩ _
  constructor <;> go_simp
end Go.Proofs.YtgkhjeefcflmcaaGreatDoor
namespace Go.Proofs.YtgkhjeefcflmcaaGreatDoor
open Go.RowKit Go.Sort
set_option linter.unusedSimpArgs false
set_option linter.unusedVariables false
theorem cmt_twos {r : List UInt8} (h : cmtF r = none) : twoF 47 47 r = false ∧ twoF 47 42 r = false := by
 match r, h with
 | [], _ => exact ⟨rfl, rfl⟩
 | [_], _ => exact ⟨rfl, rfl⟩
 | p :: q :: t, h =>
  constructor
  ·show (p == 47 && q == 47) = false
   by_cases hp : p = 47
   ·subst hp
    by_cases hq : q = 47
    ·subst hq; cases h
    ·rw [show (q == 47) = false by simpa using hq, Bool.and_false]
   ·rw [show (p == 47) = false by simpa using hp, Bool.false_and]
  ·show (p == 47 && q == 42) = false
   by_cases hp : p = 47
   ·subst hp
    by_cases hq : q = 42
    ·subst hq; cases h
    ·rw [show (q == 42) = false by simpa using hq, Bool.and_false]
   ·rw [show (p == 47) = false by simpa using hp, Bool.false_and]
set_option maxRecDepth 100000 in
set_option maxHeartbeats 8000000 in
theorem comment_no (V : World) (cb b o n cap a : Nat) (l : List UInt8) (t : Tk) (br : Bool) (h : CAt V cb (some ⟨b, o, none⟩) n cap a t br) (hb : Byts V cb (some ⟨b, o, none⟩) (bi l)) (hn : l.length = n) (hm : n ≤ 900) (hcap : n ≤ cap) (hcm : cap ≤ 9223372036854775807) (ha : a < n) (hx : cmtF (l.drop a) = none) :
  Calls Tryz.prog 45 #[.pointer (some ⟨cb, 0, none⟩)] V fun e V' => e = .returned (.bool false) ∧ Left V cb (some ⟨b, o, none⟩) n cap a t br V' := by
 have HC := Lib.hid h
 have HY := Lib.hid hb
 have HLT := Lib.hid h.lt
 have hca : cap ≠ a := by omega
 have hac : a ≤ cap := by omega
 have han : (a : Int) ≤ (n : Int) := by omega
 obtain ⟨m, hma⟩ : ∃ m, n - a = m := ⟨_, rfl⟩
 obtain ⟨cc, hcc⟩ : ∃ cc, cap - a = cc := ⟨_, rfl⟩
 obtain ⟨r, hr⟩ : ∃ r, l.drop a = r := ⟨_, rfl⟩
 have hdl : r.length = m := by rw [← hr, List.length_drop, hn, hma]
 have hmc : m ≤ cc := by omega
 have hm9 : m ≤ 900 := by omega
 have HA9 : Hid (a ≤ 900) := by show _ ≤ _; omega
 have HR : Hid (∀ W, Below cb V W → Byts W cb (some ⟨b, o + a, none⟩) (bi r)) := fun W hw => by
  rw [← hr]
  exact (HY.out.below (B' := cb) hw (Nat.le_refl _)).dropB (by omega) a
 rw [hr] at hx
 obtain ⟨hp1, hp2⟩ := cmt_twos hx
 obtain ⟨c0, c1, c2, c3, c4, c5, c6, c7, f2, f3, f4, f5, f6, f7⟩ := h
 clear hb hcm hx hr
 go_enter Tryz.func45, Tryz.ntmps45
 go_wp2_with fail
 go_quiet (fail)
 have HB1 : Hid (Below cb V (V.drewN nq)) := below_drewN (Below.refl _ _) nq
 have HC1 := Lib.hid (HC.out.below (below_drewN (Below.refl _ V) nq))
 clear c0 c1 c2 c3 c4 c5 c6 c7 f2 f3 f4 f5 f6 f7
 generalize V.drewN nq = W at *
 obtain ⟨T1, hT1⟩ : ∃ T1, W.alloc (.cells #[.int .u8 47, .int .u8 47] 5 (2, 3)) = T1 := ⟨_, rfl⟩
 have hcl1 := conv_lit W #[.int .u8 47, .int .u8 47] 2 2
 simp at hcl1
 have HBT1 : Hid (Below cb V T1) := by rw [← hT1]; exact HB1.out.alloc (by have := HC1.out.lt; omega) _
 have HCT1 : Hid (CAt T1 cb (some ⟨b, o, none⟩) n cap a t br) := by rw [← hT1]; exact HC1.out.below ((Below.refl _ _).alloc (Nat.le_refl _) _)
 have HP1 : Hid (Calls Tryz.prog 67 #[.slice (some ⟨b, o + a, none⟩) m cc, .slice (some ⟨W.heap.size, 0, none⟩) 2 2] T1 fun e w' => e = .returned (.bool false) ∧ w' = T1) := by
  have := pref_run b (o + a) m cc W.heap.size r 47 47 T1 cb (HR.out _ HBT1.out) hdl hmc (by rw [← hT1, World.cell?_alloc_mark]; rfl) (by rw [← hT1, World.cell?_alloc_mark]; rfl)
  rw [hp1] at this
  exact this
 go_wp2_with fail
 refine HP1.out.mono ?_
 rintro e W1 ⟨rfl, rfl⟩
 clear hcl1 hT1 HP1 HB1 HC1
 obtain ⟨T2, hT2⟩ : ∃ T2, W1.alloc (.cells #[.int .u8 47, .int .u8 42] 5 (2, 3)) = T2 := ⟨_, rfl⟩
 have hcl2 := conv_lit W1 #[.int .u8 47, .int .u8 42] 2 2
 simp at hcl2
 have HBT2 : Hid (Below cb V T2) := by rw [← hT2]; exact HBT1.out.alloc (by have := HCT1.out.lt; omega) _
 have HCT2 : Hid (CAt T2 cb (some ⟨b, o, none⟩) n cap a t br) := by rw [← hT2]; exact HCT1.out.below ((Below.refl _ _).alloc (Nat.le_refl _) _)
 have HP2 : Hid (Calls Tryz.prog 67 #[.slice (some ⟨b, o + a, none⟩) m cc, .slice (some ⟨W1.heap.size, 0, none⟩) 2 2] T2 fun e w' => e = .returned (.bool false) ∧ w' = T2) := by
  have := pref_run b (o + a) m cc W1.heap.size r 47 42 T2 cb (HR.out _ HBT2.out) hdl hmc (by rw [← hT2, World.cell?_alloc_mark]; rfl) (by rw [← hT2, World.cell?_alloc_mark]; rfl)
  rw [hp2] at this
  exact this
 go_wp2_with fail
 refine HP2.out.mono ?_
 rintro e W2 ⟨rfl, rfl⟩
 clear hcl2 hT2 HP2 HBT1 HCT1
 go_wp2_with fail
 go_ret
 exact ⟨rfl, HCT2.out, HBT2.out⟩
end Go.Proofs.YtgkhjeefcflmcaaGreatDoor
