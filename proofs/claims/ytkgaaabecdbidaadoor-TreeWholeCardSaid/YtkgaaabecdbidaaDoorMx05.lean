/-
  DERIVED: THE SHELF's CONTRACTS AT THIS DUMP, IN PLAIN WORDS (tools/lay-plain.mjs out of 'TrydShelf.lean', which tools/lay-shelf.mjs wrote): THE SAME DECLARATIONS UNDER THE SAME NAMES: 'import', 'namespace', 'open', 'def', 'theorem' AND NOTHING ELSE: no command of the shelf's: FOR A HAND-IN. Each laying: the table of numbers ('.._ren') and one theorem, a field a fact of the dump's own or the kernel's comparison; each contract: ONE APPLICATION.
-/
import Derived.Shelf.Strings.Builder1
import Derived.Shelf.Strings.BuilderF
import Derived.Shelf.Strings.BuilderK
import Derived.Shelf.Strconv.Itoa0
import Derived.Shelf.Strconv.Itoa1
import Derived.Shelf.LaysM
import Derived.Shelf.Strconv.Itoa2
import Derived.Shelf.Strconv.Itoa3
import Derived.Shelf.Strings.BuilderCap
import Derived.Shelf.Spec.BitsCarry
import Derived.Test.YtkgaaabecdbidaaDoorProg
import Derived.Test.YtkgaaabecdbidaaDoorMx04
import Derived.Sort.Grow
import Derived.Deep.RegionWith
import Derived.Deep.RegionHeld
import Derived.Laws.IdiomCopy
import Derived.Laws.ResultCell
import Derived.Test.YtkgaaabecdbidaaDoorMx01
import Derived.Deep.CutBlock
import Derived.Deep.AppendLies
import Derived.ChangeKeysEq
import Derived.Laws.StructEq
import Derived.Deep.RegionHeld3
import Derived.Laws.EntriesVeiled
import Derived.Test.YtkgaaabecdbidaaDoorMx00
namespace Go.Proofs
open Go.Shelf
def Tryd.lays169_ren : Go.Shelf.Ren := ⟨fun | 169 => 45 | n => n, fun | 70 => 66 | 9 => 9 | 0 => 0 | 72 => 69 | 37 => 67 | 127 => 93 | 3 => 3 | 5 => 5 | n => n, fun | n => n⟩
theorem Tryd.lays169 : Go.Proofs.Lays.n169 Tryd.prog Tryd.lays169_ren := {
  mixed := by kernel_rfl
  f169 := Tryd.func45.trans (congrArg some (by kernel_rfl))
  t0 := Tryd.underlying0
  a0 := Tryd.isAgg0
  z0 := Tryd.sizeOf0
  v0 := Tryd.zeroValue0
  t3 := Tryd.underlying3
  a3 := Tryd.isAgg3
  z3 := Tryd.sizeOf3
  v3 := Tryd.zeroValue3
  t9 := Tryd.underlying9
  a9 := Tryd.isAgg9
  z9 := Tryd.sizeOf9
  v9 := Tryd.zeroValue9
  t37 := Tryd.underlying67
  a37 := Tryd.isAgg67
  z37 := Tryd.sizeOf67
  v37 := Tryd.zeroValue67
  t70 := Tryd.underlying66
  a70 := Tryd.isAgg66
  z70 := Tryd.sizeOf66
  v70 := Tryd.zeroValue66
  t72 := Tryd.underlying69
  a72 := Tryd.isAgg69
  z72 := Tryd.sizeOf69
  v72 := Tryd.zeroValue69
  t127 := Tryd.underlying93
  a127 := Tryd.isAgg93
  z127 := Tryd.sizeOf93
  v127 := Tryd.zeroValue93 }
theorem Tryd.Builder_Extra_169 : Builder.Extra Tryd.prog Tryd.lays169_ren := {
  sizeBuilder := by kernel_rfl
  liesBuilder := by kernel_rfl
  t5 := Tryd.underlying5
  a5 := Tryd.isAgg5
  z5 := Tryd.sizeOf5
  v5 := Tryd.zeroValue5
  infoByte := by kernel_rfl
  cellsByte := by kernel_rfl
  sizeByte := by kernel_rfl
  neB5 := by decide }
open Go.RowKit in
theorem Tryd.Builder_String_any (B b : Nat) (l : List UInt8) (w : World) (h : Lib.IsBuilder 69 5 B b (Lib.byteCells l) w) (hBw : B ≤ w.heap.size) :
    Calls Tryd.prog 45 #[.pointer (some ⟨b, 0, none⟩)] w fun e w' => e = .returned (.string ⟨l.toArray⟩) ∧ Below B w w' := Any.Builder_String_any Tryd.lays169 Tryd.Builder_Extra_169 B b l w h hBw
def Tryd.lays171_ren : Go.Shelf.Ren := ⟨fun | 171 => 44 | 243 => 57 | 246 => 63 | 283 => 65 | 284 => 66 | 285 => 67 | 286 => 68 | 129 => 70 | 317 => 69 | 318 => 71 | 319 => 72 | 320 => 73 | 337 => 74 | 338 => 75 | n => n, fun | 3 => 3 | 9 => 9 | 2 => 2 | 4 => 4 | 171 => 117 | 0 => 0 | 53 => 118 | 37 => 67 | 5 => 5 | 173 => 121 | 212 => 125 | 51 => 126 | 20 => 20 | 213 => 127 | 46 => 129 | 232 => 132 | 233 => 133 | n => n, fun | 17 => 1 | 18 => 2 | 19 => 3 | n => n⟩
theorem Tryd.lays171 : Go.Proofs.Lays.n171 Tryd.prog Tryd.lays171_ren := {
  mixed := by kernel_rfl
  f129 := Tryd.func70.trans (congrArg some (by kernel_rfl))
  f171 := Tryd.func44.trans (congrArg some (by kernel_rfl))
  f243 := Tryd.func57.trans (congrArg some (by kernel_rfl))
  f246 := Tryd.func63.trans (congrArg some (by kernel_rfl))
  f283 := Tryd.func65.trans (congrArg some (by kernel_rfl))
  f284 := Tryd.func66.trans (congrArg some (by kernel_rfl))
  f285 := Tryd.func67.trans (congrArg some (by kernel_rfl))
  f286 := Tryd.func68.trans (congrArg some (by kernel_rfl))
  f317 := Tryd.func69.trans (congrArg some (by kernel_rfl))
  f318 := Tryd.func71.trans (congrArg some (by kernel_rfl))
  f319 := Tryd.func72.trans (congrArg some (by kernel_rfl))
  f320 := Tryd.func73.trans (congrArg some (by kernel_rfl))
  f337 := Tryd.func74.trans (congrArg some (by kernel_rfl))
  f338 := Tryd.func75.trans (congrArg some (by kernel_rfl))
  t0 := Tryd.underlying0
  a0 := Tryd.isAgg0
  z0 := Tryd.sizeOf0
  v0 := Tryd.zeroValue0
  t2 := Tryd.underlying2
  a2 := Tryd.isAgg2
  z2 := Tryd.sizeOf2
  v2 := Tryd.zeroValue2
  t3 := Tryd.underlying3
  a3 := Tryd.isAgg3
  z3 := Tryd.sizeOf3
  v3 := Tryd.zeroValue3
  t4 := Tryd.underlying4
  a4 := Tryd.isAgg4
  z4 := Tryd.sizeOf4
  v4 := Tryd.zeroValue4
  t5 := Tryd.underlying5
  a5 := Tryd.isAgg5
  z5 := Tryd.sizeOf5
  v5 := Tryd.zeroValue5
  t9 := Tryd.underlying9
  a9 := Tryd.isAgg9
  z9 := Tryd.sizeOf9
  v9 := Tryd.zeroValue9
  t20 := Tryd.underlying20
  a20 := Tryd.isAgg20
  z20 := Tryd.sizeOf20
  v20 := Tryd.zeroValue20
  t37 := Tryd.underlying67
  a37 := Tryd.isAgg67
  z37 := Tryd.sizeOf67
  v37 := Tryd.zeroValue67
  t46 := Tryd.underlying129
  a46 := Tryd.isAgg129
  z46 := Tryd.sizeOf129
  v46 := Tryd.zeroValue129
  t51 := Tryd.underlying126
  a51 := Tryd.isAgg126
  z51 := Tryd.sizeOf126
  v51 := Tryd.zeroValue126
  t53 := Tryd.underlying118
  a53 := Tryd.isAgg118
  z53 := Tryd.sizeOf118
  v53 := Tryd.zeroValue118
  t171 := Tryd.underlying117
  a171 := Tryd.isAgg117
  z171 := Tryd.sizeOf117
  v171 := Tryd.zeroValue117
  t173 := Tryd.underlying121
  a173 := Tryd.isAgg121
  z173 := Tryd.sizeOf121
  v173 := Tryd.zeroValue121
  t212 := Tryd.underlying125
  a212 := Tryd.isAgg125
  z212 := Tryd.sizeOf125
  v212 := Tryd.zeroValue125
  t213 := Tryd.underlying127
  a213 := Tryd.isAgg127
  z213 := Tryd.sizeOf127
  t232 := Tryd.underlying132
  a232 := Tryd.isAgg132
  z232 := Tryd.sizeOf132
  v232 := Tryd.zeroValue132
  t233 := Tryd.underlying133
  a233 := Tryd.isAgg133
  z233 := Tryd.sizeOf133
  v233 := Tryd.zeroValue133
  g17 := by kernel_rfl
  g18 := by kernel_rfl
  g19 := by kernel_rfl }
open Go.RowKit Go.Sort Go.Lib in
theorem Tryd.strconv_Itoa_small (i : Nat) (hi : i < 100) (w : World) :
    Calls Tryd.prog 44 #[.int .i64 i] w fun e w' => e = .returned (.string ⟨(Lib.decDigits i).toArray⟩) ∧ w' = w := Any.strconv_Itoa_small Tryd.lays171 i hi w
end Go.Proofs
namespace Go.Proofs.YtkgaaabecdbidaaDoor
open Go.RowKit Go.Sort
def wd (n i : Nat) : Nat := dig 18446744073709551616 n i
def Fits (n : Nat) : Prop := n < 18446744073709551616 ^ 8
def WordsF (w : World) (b o : Nat) (f : Nat → Nat) (k : Nat) : Prop := ∀ i, i < k → w.cell? ⟨b, o + i, none⟩ = some (.int .u64 (f i : Int)) ∧ w.frozen? ⟨b, o + i, none⟩ = false
abbrev WordsAt (w : World) (b o n k : Nat) : Prop := WordsF w b o (wd n) k
theorem WordsF.keep {w w' : World} {b o k B : Nat} {f : Nat → Nat} (h : WordsF w b o f k) (hb : Below B w w') (hB : b < B) : WordsF w' b o f k := fun i hi =>
 ⟨(hb.cell (p := ⟨b, o + i, none⟩) hB).trans (h i hi).1, (hb.frozen (p := ⟨b, o + i, none⟩) hB).trans (h i hi).2⟩
def updF (f : Nat → Nat) (i v : Nat) : Nat → Nat := fun j => if j = i then v else f j
theorem updF_same (f : Nat → Nat) (i v : Nat) : updF f i v i = v := if_pos rfl
theorem updF_other {f : Nat → Nat} {i v j : Nat} (h : j ≠ i) : updF f i v j = f j := if_neg h
theorem WordsF.upd {w : World} {b o k : Nat} {f : Nat → Nat} (h : WordsF w b o f k) {i : Nat} (hi : i < k) (v : Nat) : WordsF (w.setCell ⟨b, o + i, none⟩ (.int .u64 (v : Int))) b o (updF f i v) k := fun j hj => by
 refine ⟨?_, by rw [World.frozen?_setCell]; exact (h j hj).2⟩
 by_cases e : j = i
 ·subst e
  rw [updF_same]
  exact World.cell?_setCell_same _ _ _ (h j hj).1
 ·rw [updF_other e]
  exact (World.cell?_setCell_other _ _ _ _ (fun e' => by injection e' with e1 e2 e3; omega)).trans (h j hj).1
theorem WordsF.ext {w : World} {b o k : Nat} {f g : Nat → Nat} (h : WordsF w b o f k) (e : ∀ i, i < k → f i = g i) : WordsF w b o g k := fun i hi => by rw [← e i hi]; exact h i hi
theorem WordsF.drewN {w : World} {b o k : Nat} {f : Nat → Nat} (h : WordsF w b o f k) (n : Nat) : WordsF (w.drewN n) b o f k := h
theorem WordsF.sub {w : World} {b o k : Nat} {f : Nat → Nat} (h : WordsF w b o f k) (i m : Nat) (hm : i + m ≤ k) : WordsF w b (o + i) (fun j => f (i + j)) m := fun j hj => by
 have := h (i + j) (by omega)
 rwa [← Nat.add_assoc] at this
theorem WordsAt.new (w : World) (n : Nat) (T : TypeId) : WordsAt (w.alloc (.cells #[.int .u64 (wd n 0 : Int), .int .u64 (wd n 1 : Int), .int .u64 (wd n 2 : Int), .int .u64 (wd n 3 : Int), .int .u64 (wd n 4 : Int), .int .u64 (wd n 5 : Int), .int .u64 (wd n 6 : Int), .int .u64 (wd n 7 : Int)] T)) w.heap.size 0 n 8 := by
 intro i hi
 rcases i with _ | _ | _ | _ | _ | _ | _ | _ | i
 all_goals first | exact ⟨World.cell?_alloc_at _ _ _ _ rfl, World.frozen?_alloc_at _ _ _ _ rfl⟩ | omega
theorem wd_zero (i : Nat) : wd 0 i = 0 := dig_zero _ i
theorem WordsAt.zero (w : World) (T : TypeId) : WordsAt (w.alloc (.cells #[.int .u64 0, .int .u64 0, .int .u64 0, .int .u64 0, .int .u64 0, .int .u64 0, .int .u64 0, .int .u64 0] T)) w.heap.size 0 0 8 := by
 have := WordsAt.new w 0 T
 simpa only [wd_zero, Int.natCast_zero] using this
theorem below_alloc (w : World) (o : Obj) : Below w.heap.size w (w.alloc o) := (Below.refl _ _).alloc (Nat.le_refl _) o
theorem _root_.Go.RowKit.Below.drewN {B : Nat} {a w : World} (h : Below B a w) (n : Nat) : Below B a (w.drewN n) := ⟨h.os, h.tape, h.output, h.size, h.block⟩
theorem WordsF.alloc {w : World} {b o k : Nat} {f : Nat → Nat} (h : WordsF w b o f k) (hb : b < w.heap.size) (x : Obj) : WordsF (w.alloc x) b o f k := h.keep (below_alloc w x) hb
theorem WordsF.set {w : World} {b o k : Nat} {f : Nat → Nat} (h : WordsF w b o f k) (p : Addr) (v : Value) (hp : p.block ≠ b) : WordsF (w.setCell p v) b o f k := fun i hi =>
 ⟨(World.cell?_setCell_other _ _ _ _ (fun e => hp (congrArg Addr.block e))).trans (h i hi).1, by rw [World.frozen?_setCell]; exact (h i hi).2⟩
def But1 (w w' : World) (b : Nat) : Prop := (∀ x : Addr, x.block ≠ b → w'.cell? x = w.cell? x ∧ w'.frozen? x = w.frozen? x) ∧ (∀ B w0, B ≤ b → Below B w0 w → Below B w0 w') ∧ w'.heap.size = w.heap.size
theorem WordsF.but {w w' : World} {b c o k : Nat} {f : Nat → Nat} (h : WordsF w b o f k) (hw : But1 w w' c) (hne : b ≠ c) : WordsF w' b o f k := fun i hi =>
 ⟨(hw.1 ⟨b, o + i, none⟩ hne).1.trans (h i hi).1, (hw.1 ⟨b, o + i, none⟩ hne).2.trans (h i hi).2⟩
theorem But1.setCell (w : World) (b o : Nat) (v : Value) : But1 w (w.setCell ⟨b, o, none⟩ v) b :=
 ⟨fun _ hx => ⟨World.cell?_setCell_other _ _ _ _ (fun e => hx (by rw [← e])), by rw [World.frozen?_setCell]⟩, fun _ _ hB h => h.setCell (p := ⟨b, o, none⟩) hB _, by simp⟩
theorem But1.trans {u v w : World} {b : Nat} (h : But1 u v b) (k : But1 v w b) : But1 u w b :=
 ⟨fun x hx => ⟨(k.1 x hx).1.trans (h.1 x hx).1, (k.1 x hx).2.trans (h.1 x hx).2⟩, fun B w0 hB hb => k.2.1 B w0 hB (h.2.1 B w0 hB hb), k.2.2.trans h.2.2⟩
theorem But1.refl (w : World) (b : Nat) : But1 w w b := ⟨fun _ _ => ⟨rfl, rfl⟩, fun _ _ _ h => h, rfl⟩
theorem But1.drew {w w' : World} {b : Nat} (h : But1 w w' b) : But1 w w'.drew b := ⟨h.1, fun B w0 hB hb => (h.2.1 B w0 hB hb).drew, h.2.2⟩
theorem But1.setCells (b : Nat) : ∀ (vs : List Value) (o : Nat) (w : World), But1 w (w.setCells b o vs) b
 | [], _, w => But1.refl w b
 | v :: r, o, w => (But1.setCell w b o v).trans (But1.setCells b r (o + 1) _)
end Go.Proofs.YtkgaaabecdbidaaDoor
namespace Go.Proofs.YtkgaaabecdbidaaDoor
open Go.RowKit Go.Sort
structure Half (H y1 y0 u q r : Nat) : Prop where
 sum : q * y1 + r = H
 ge : (H * 4294967296 + u) / (y1 * 4294967296 + y0) ≤ q
theorem Half.start {H y1 y0 u : Nat} (hy : 0 < y1) (hu : u < 4294967296) : Half H y1 y0 u (H / y1) (H % y1) := by
 refine ⟨by rw [Nat.mul_comm]; exact Nat.div_add_mod _ _, ?_⟩
 apply (Nat.le_div_iff_mul_le hy).2
 have h1 := Nat.div_mul_le_self (H * 4294967296 + u) (y1 * 4294967296 + y0)
 rw [Nat.mul_add, ← Nat.mul_assoc] at h1
 generalize (H * 4294967296 + u) / (y1 * 4294967296 + y0) * y1 = a at *
 generalize (H * 4294967296 + u) / (y1 * 4294967296 + y0) * y0 = b at *
 omega
theorem Half.done {H y1 y0 u q r : Nat} (h : Half H y1 y0 u q r) (hy : 0 < y1) (hc : q * y0 ≤ 4294967296 * r + u) : (H * 4294967296 + u) / (y1 * 4294967296 + y0) = q := (half_exact h.sum h.ge hc hy).symm
end Go.Proofs.YtkgaaabecdbidaaDoor
namespace Go.Proofs.YtkgaaabecdbidaaDoor
open Go.RowKit Go.Sort
def subW (R P k : Nat) : Nat := if R < P then R + 18446744073709551616 ^ k - P else R - P
def ButR (w w' : World) (b o N : Nat) : Prop := (∀ x : Addr, ¬ (x.block = b ∧ o ≤ x.off ∧ x.off < o + N) → w'.cell? x = w.cell? x ∧ w'.frozen? x = w.frozen? x) ∧ (∀ B w0, B ≤ b → Below B w0 w → Below B w0 w') ∧ w'.heap.size = w.heap.size
theorem ButR.refl (w : World) (b o N : Nat) : ButR w w b o N := ⟨fun _ _ => ⟨rfl, rfl⟩, fun _ _ _ h => h, rfl⟩
theorem ButR.trans {u v w : World} {b o N : Nat} (h : ButR u v b o N) (k : ButR v w b o N) : ButR u w b o N :=
 ⟨fun x hx => ⟨(k.1 x hx).1.trans (h.1 x hx).1, (k.1 x hx).2.trans (h.1 x hx).2⟩, fun B w0 hB hb => k.2.1 B w0 hB (h.2.1 B w0 hB hb), k.2.2.trans h.2.2⟩
theorem ButR.setCell (w : World) {b o N i : Nat} (v : Value) (hi : i < N) : ButR w (w.setCell ⟨b, o + i, none⟩ v) b o N :=
 ⟨fun _ hx => ⟨World.cell?_setCell_other _ _ _ _ (fun e => hx (by rw [← e]; exact ⟨rfl, Nat.le_add_right _ _, by show o + i < o + N; omega⟩)), by rw [World.frozen?_setCell]⟩, fun _ _ hB h => h.setCell (p := ⟨b, o + i, none⟩) hB _, by simp⟩
end Go.Proofs.YtkgaaabecdbidaaDoor
namespace Go.Proofs.YtkgaaabecdbidaaDoor
open Go.RowKit Go.Sort
structure Taken (R D N t M : Nat) (bl : Bool) : Prop where
 ge : R / D ≤ t
 lt : t < 18446744073709551616
 below : bl = true → M + t * D = R + 18446744073709551616 ^ N ∧ M < 18446744073709551616 ^ N
 done : bl = false → t * D ≤ R ∧ M % 18446744073709551616 ^ N = (R - t * D) % 18446744073709551616 ^ N
theorem Taken.start {R D N t : Nat} (hP : t * D < 18446744073709551616 ^ N) (h1 : R / D ≤ t) (h2 : t < 18446744073709551616) : Taken R D N t (subW R (t * D) N) (decide (R < t * D)) := by
 refine ⟨h1, h2, fun h => ?_, fun h => ?_⟩
 ·have h3 : R < t * D := of_decide_eq_true h
  unfold subW
  rw [if_pos h3]
  omega
 ·have h3 : ¬ R < t * D := of_decide_eq_false h
  unfold subW
  rw [if_neg h3]
  exact ⟨by omega, rfl⟩
theorem Taken.next {R D N t M : Nat} (h : Taken R D N t M true) : 0 < t ∧ Taken R D N (t - 1) (M + D) (decide ((M + D) / 18446744073709551616 ^ N = 0)) := by
 obtain ⟨h1, h2⟩ := h.below rfl
 have hP : 0 < 18446744073709551616 ^ N := Nat.pow_pos (by decide)
 have h3 : R / D * D ≤ R := Nat.div_mul_le_self _ _
 have h4 : R / D < t := by
  rcases Nat.lt_or_ge (R / D) t with h5 | h5
  ·exact h5
  ·have h6 : t * D ≤ R / D * D := Nat.mul_le_mul_right _ h5
   generalize R / D * D = x at *
   omega
 have ht0 : 0 < t := Nat.lt_of_le_of_lt (Nat.zero_le _) h4
 have h6 : (t - 1) * D + D = t * D := by rw [← Nat.succ_mul, Nat.succ_eq_add_one, Nat.sub_add_cancel ht0]
 have hlt := h.lt
 obtain ⟨q, hq⟩ : ∃ q, R / D = q := ⟨_, rfl⟩
 obtain ⟨qd, hqd⟩ : ∃ qd, q * D = qd := ⟨_, rfl⟩
 obtain ⟨x, hx⟩ : ∃ x, t * D = x := ⟨_, rfl⟩
 obtain ⟨y, hy⟩ : ∃ y, (t - 1) * D = y := ⟨_, rfl⟩
 obtain ⟨P, hPP⟩ : ∃ P, 18446744073709551616 ^ N = P := ⟨_, rfl⟩
 rw [hq] at h4
 rw [hq, hqd] at h3
 rw [hy, hx] at h6
 rw [hx] at h1
 rw [hPP] at h1 h2 hP
 refine ⟨by omega, by rw [hq]; omega, by omega, fun hb => ?_, fun hb => ?_⟩
 ·have h7 : (M + D) / 18446744073709551616 ^ N = 0 := of_decide_eq_true hb
  rw [hPP] at h7 ⊢
  rw [hy]
  have h8 : M + D < P := by
   rcases Nat.lt_or_ge (M + D) P with h9 | h9
   ·exact h9
   ·have := Nat.div_pos h9 hP; omega
  clear h h7 hb hq hqd hx hy hPP
  omega
 ·have h7 : ¬ (M + D) / 18446744073709551616 ^ N = 0 := of_decide_eq_false hb
  rw [hPP] at h7 ⊢
  rw [hy]
  have h8 : P ≤ M + D := by
   rcases Nat.lt_or_ge (M + D) P with h9 | h9
   ·exact absurd (Nat.div_eq_of_lt h9) h7
   ·exact h9
  clear h h7 hb hq hqd hx hy hPP
  refine ⟨by omega, ?_⟩
  rw [show M + D = R - y + P by omega, Nat.add_mod_right]
end Go.Proofs.YtkgaaabecdbidaaDoor
namespace Go.Proofs.YtkgaaabecdbidaaDoor
open Go.RowKit Go.Sort
def sgn (s : Bool) (n : Nat) : Bool := s && !decide (n = 0)
end Go.Proofs.YtkgaaabecdbidaaDoor
namespace Go.Proofs.YtkgaaabecdbidaaDoor
open Go.RowKit Go.Sort
abbrev boxI (s : Bool) (n : Nat) (T : TypeId) : Obj := .cells #[.bool s, .int .u64 (wd n 0 : Int), .int .u64 (wd n 1 : Int), .int .u64 (wd n 2 : Int), .int .u64 (wd n 3 : Int), .int .u64 (wd n 4 : Int), .int .u64 (wd n 5 : Int), .int .u64 (wd n 6 : Int), .int .u64 (wd n 7 : Int)] T
abbrev boxIZ (T : TypeId) : Obj := .cells #[.bool false, .int .u64 0, .int .u64 0, .int .u64 0, .int .u64 0, .int .u64 0, .int .u64 0, .int .u64 0, .int .u64 0] T
structure IntAt (w : World) (b : Nat) (s : Bool) (n : Nat) : Prop where
 sign : w.cell? ⟨b, 0, none⟩ = some (.bool s)
 free : w.frozen? ⟨b, 0, none⟩ = false
 words : WordsAt w b 1 n 8
theorem IntAt.keep {w w' : World} {b n B : Nat} {s : Bool} (h : IntAt w b s n) (hb : Below B w w') (hB : b < B) : IntAt w' b s n :=
 ⟨(hb.cell (p := ⟨b, 0, none⟩) hB).trans h.sign, (hb.frozen (p := ⟨b, 0, none⟩) hB).trans h.free, h.words.keep hb hB⟩
theorem IntAt.alloc {w : World} {b n : Nat} {s : Bool} (h : IntAt w b s n) (hb : b < w.heap.size) (o : Obj) : IntAt (w.alloc o) b s n := h.keep (below_alloc w o) hb
theorem IntAt.but {w w' : World} {b c n : Nat} {s : Bool} (h : IntAt w b s n) (hw : But1 w w' c) (hne : b ≠ c) : IntAt w' b s n :=
 ⟨(hw.1 ⟨b, 0, none⟩ hne).1.trans h.sign, (hw.1 ⟨b, 0, none⟩ hne).2.trans h.free, h.words.but hw hne⟩
theorem IntAt.new (w : World) (s : Bool) (n : Nat) (T : TypeId) : IntAt (w.alloc (boxI s n T)) w.heap.size s n := by
 refine ⟨World.cell?_alloc_at _ _ _ _ rfl, World.frozen?_alloc_at _ _ _ _ rfl, fun i hi => ?_⟩
 rcases i with _ | _ | _ | _ | _ | _ | _ | _ | i
 all_goals first | exact ⟨World.cell?_alloc_at _ _ _ _ rfl, World.frozen?_alloc_at _ _ _ _ rfl⟩ | omega
theorem IntAt.zero (w : World) (T : TypeId) : IntAt (w.alloc (boxIZ T)) w.heap.size false 0 := by
 have := IntAt.new w false 0 T
 simpa only [boxI, wd_zero, Int.natCast_zero] using this
theorem WordsF.eightAt1 {w : World} {b : Nat} {f : Nat → Nat} (h : WordsF w b 1 f 8) :
  (w.cell? ⟨b, 1, none⟩ = some (.int .u64 (f 0 : Int)) ∧ w.frozen? ⟨b, 1, none⟩ = false) ∧ (w.cell? ⟨b, 2, none⟩ = some (.int .u64 (f 1 : Int)) ∧ w.frozen? ⟨b, 2, none⟩ = false) ∧
  (w.cell? ⟨b, 3, none⟩ = some (.int .u64 (f 2 : Int)) ∧ w.frozen? ⟨b, 3, none⟩ = false) ∧ (w.cell? ⟨b, 4, none⟩ = some (.int .u64 (f 3 : Int)) ∧ w.frozen? ⟨b, 4, none⟩ = false) ∧
  (w.cell? ⟨b, 5, none⟩ = some (.int .u64 (f 4 : Int)) ∧ w.frozen? ⟨b, 5, none⟩ = false) ∧ (w.cell? ⟨b, 6, none⟩ = some (.int .u64 (f 5 : Int)) ∧ w.frozen? ⟨b, 6, none⟩ = false) ∧
  (w.cell? ⟨b, 7, none⟩ = some (.int .u64 (f 6 : Int)) ∧ w.frozen? ⟨b, 7, none⟩ = false) ∧ (w.cell? ⟨b, 8, none⟩ = some (.int .u64 (f 7 : Int)) ∧ w.frozen? ⟨b, 8, none⟩ = false) :=
 ⟨h 0 (by decide), h 1 (by decide), h 2 (by decide), h 3 (by decide), h 4 (by decide), h 5 (by decide), h 6 (by decide), h 7 (by decide)⟩
theorem IntAt.value {w : World} {b n : Nat} {s : Bool} (h : IntAt w b s n) : (w.cell? ⟨b, 0, none⟩ = some (.bool s) ∧ w.frozen? ⟨b, 0, none⟩ = false) := ⟨h.sign, h.free⟩
end Go.Proofs.YtkgaaabecdbidaaDoor
namespace Go.Proofs.YtkgaaabecdbidaaDoor
open Go.RowKit Go.Sort
theorem IntAt.nine {w : World} {b n : Nat} {s : Bool} (h : IntAt w b s n) :
  (w.cell? ⟨b, 0, none⟩ = some (.bool s) ∧ w.frozen? ⟨b, 0, none⟩ = false) ∧ (w.cell? ⟨b, 1, none⟩ = some (.int .u64 (wd n 0 : Int)) ∧ w.frozen? ⟨b, 1, none⟩ = false) ∧ (w.cell? ⟨b, 2, none⟩ = some (.int .u64 (wd n 1 : Int)) ∧ w.frozen? ⟨b, 2, none⟩ = false) ∧
  (w.cell? ⟨b, 3, none⟩ = some (.int .u64 (wd n 2 : Int)) ∧ w.frozen? ⟨b, 3, none⟩ = false) ∧ (w.cell? ⟨b, 4, none⟩ = some (.int .u64 (wd n 3 : Int)) ∧ w.frozen? ⟨b, 4, none⟩ = false) ∧
  (w.cell? ⟨b, 5, none⟩ = some (.int .u64 (wd n 4 : Int)) ∧ w.frozen? ⟨b, 5, none⟩ = false) ∧ (w.cell? ⟨b, 6, none⟩ = some (.int .u64 (wd n 5 : Int)) ∧ w.frozen? ⟨b, 6, none⟩ = false) ∧
  (w.cell? ⟨b, 7, none⟩ = some (.int .u64 (wd n 6 : Int)) ∧ w.frozen? ⟨b, 7, none⟩ = false) ∧ (w.cell? ⟨b, 8, none⟩ = some (.int .u64 (wd n 7 : Int)) ∧ w.frozen? ⟨b, 8, none⟩ = false) :=
 ⟨⟨h.sign, h.free⟩, h.words.eightAt1⟩
theorem IntAt.drew {w : World} {b n : Nat} {s : Bool} (h : IntAt w b s n) : IntAt w.drew b s n := ⟨h.sign, h.free, h.words⟩
end Go.Proofs.YtkgaaabecdbidaaDoor
namespace Go.Proofs.YtkgaaabecdbidaaDoor
open Go.RowKit Go.Sort
theorem IntAt.on {w w' : World} {b n : Nat} {s : Bool} (h : IntAt w b s n) (hb : Below w.heap.size w w') (hB : b < w.heap.size) : IntAt w' b s n := h.keep hb hB
end Go.Proofs.YtkgaaabecdbidaaDoor
namespace Go.Proofs.YtkgaaabecdbidaaDoor
open Go.RowKit Go.Sort
def errV (k : Nat) : Value := if k = 0 then .nilIface else errno k
structure ErrAt (w : World) (b k : Nat) : Prop where
 cell : w.cell? ⟨b, 0, none⟩ = some (errV k)
 free : w.frozen? ⟨b, 0, none⟩ = false
structure Ste (w w' : World) (b k : Nat) : Prop where
 cell : ∀ c o, c < w.heap.size → ¬ (c = b ∧ o = 0) → w'.cell? ⟨c, o, none⟩ = w.cell? ⟨c, o, none⟩
 free : ∀ c o, c < w.heap.size → w'.frozen? ⟨c, o, none⟩ = w.frozen? ⟨c, o, none⟩
 err : ErrAt w' b k
 size : w.heap.size ≤ w'.heap.size
 below : ∀ B w0, B ≤ b → B ≤ w.heap.size → Below B w0 w → Below B w0 w'
theorem ErrAt.lt {w : World} {b k : Nat} (h : ErrAt w b k) : b < w.heap.size := by
 rcases Nat.lt_or_ge b w.heap.size with h1 | h1
 ·exact h1
 ·have := h.cell
  simp [World.cell?, Array.getElem?_eq_none h1] at this
theorem ErrAt.drew {w : World} {b k : Nat} (h : ErrAt w b k) : ErrAt w.drew b k := ⟨h.cell, h.free⟩
theorem ErrAt.below {w w' : World} {b k : Nat} (h : ErrAt w b k) (hb : Below w.heap.size w w') : ErrAt w' b k :=
 ⟨(hb.cell (p := ⟨b, 0, none⟩) h.lt).trans h.cell, (hb.frozen (p := ⟨b, 0, none⟩) h.lt).trans h.free⟩
theorem Ste.of_below {w w' : World} {b k : Nat} (h : ErrAt w b k) (hb : Below w.heap.size w w') : Ste w w' b k :=
 ⟨fun c o hc _ => hb.cell (p := ⟨c, o, none⟩) hc, fun c o hc => hb.frozen (p := ⟨c, o, none⟩) hc, h.below hb, hb.size, fun _ _ _ hB h0 => h0.trans (hb.mono hB)⟩
theorem Ste.refl {w : World} {b k : Nat} (h : ErrAt w b k) : Ste w w b k := Ste.of_below h (Below.refl _ _)
theorem Ste.trans {w v u : World} {b k j : Nat} (h : Ste w v b k) (g : Ste v u b j) : Ste w u b j :=
 ⟨fun c o hc hn => (g.cell c o (Nat.lt_of_lt_of_le hc h.size) hn).trans (h.cell c o hc hn), fun c o hc => (g.free c o (Nat.lt_of_lt_of_le hc h.size)).trans (h.free c o hc), g.err, Nat.le_trans h.size g.size,
  fun B w0 h1 h2 h3 => g.below B w0 h1 (Nat.le_trans h2 h.size) (h.below B w0 h1 h2 h3)⟩
theorem Ste.drew {w v : World} {b k : Nat} (h : Ste w v b k) : Ste w v.drew b k := ⟨h.cell, h.free, h.err.drew, h.size, fun B w0 h1 h2 h3 => (h.below B w0 h1 h2 h3).drew⟩
theorem ErrAt.set {w : World} {b k : Nat} (h : ErrAt w b k) (j : Nat) : Ste w (w.setCell ⟨b, 0, none⟩ (errV j)) b j :=
 ⟨fun c o _ hn => World.cell?_setCell_other _ _ _ _ (fun e => hn (by injection e with e1 e2; exact ⟨e1.symm, e2.symm⟩)), fun c o _ => by rw [World.frozen?_setCell],
  ⟨World.cell?_setCell_same _ _ _ h.cell, by rw [World.frozen?_setCell]; exact h.free⟩, by simp [World.setCell], fun B w0 h1 _ h3 => h3.setCell (p := ⟨b, 0, none⟩) h1 _⟩
theorem Ste.but {w v u : World} {b k c : Nat} (h : Ste w v b k) (g : But1 v u c) (hc : w.heap.size ≤ c) (hb : b < w.heap.size) : Ste w u b k :=
 ⟨fun d o hd hn => (g.1 ⟨d, o, none⟩ (by show d ≠ c; omega)).1.trans (h.cell d o hd hn), fun d o hd => (g.1 ⟨d, o, none⟩ (by show d ≠ c; omega)).2.trans (h.free d o hd),
  ⟨(g.1 ⟨b, 0, none⟩ (by show b ≠ c; omega)).1.trans h.err.cell, (g.1 ⟨b, 0, none⟩ (by show b ≠ c; omega)).2.trans h.err.free⟩, by rw [g.2.2]; exact h.size, fun B w0 h1 h2 h3 => g.2.1 B w0 (by omega) (h.below B w0 h1 h2 h3)⟩
def kept (k j : Nat) : Nat := if k = 0 then j else k
end Go.Proofs.YtkgaaabecdbidaaDoor
namespace Go.Proofs.YtkgaaabecdbidaaDoor
open Go.RowKit Go.Sort
structure IntO (w : World) (b o : Nat) (s : Bool) (n : Nat) : Prop where
 sign : w.cell? ⟨b, o, none⟩ = some (.bool s)
 free : w.frozen? ⟨b, o, none⟩ = false
 words : WordsAt w b (o + 1) n 8
theorem IntO.keep {w w' : World} {b o n B : Nat} {s : Bool} (h : IntO w b o s n) (hb : Below B w w') (hB : b < B) : IntO w' b o s n :=
 ⟨(hb.cell (p := ⟨b, o, none⟩) hB).trans h.sign, (hb.frozen (p := ⟨b, o, none⟩) hB).trans h.free, h.words.keep hb hB⟩
theorem IntO.but {w w' : World} {b o c n : Nat} {s : Bool} (h : IntO w b o s n) (hw : But1 w w' c) (hne : b ≠ c) : IntO w' b o s n :=
 ⟨(hw.1 ⟨b, o, none⟩ hne).1.trans h.sign, (hw.1 ⟨b, o, none⟩ hne).2.trans h.free, h.words.but hw hne⟩
theorem IntO.drew {w : World} {b o n : Nat} {s : Bool} (h : IntO w b o s n) : IntO w.drew b o s n := ⟨h.sign, h.free, h.words⟩
theorem IntO.nine0 {w : World} {b n : Nat} {s : Bool} (h : IntO w b 0 s n) : (w.cell? ⟨b, 0, none⟩ = some (.bool s) ∧ w.frozen? ⟨b, 0, none⟩ = false) ∧ (w.cell? ⟨b, 1, none⟩ = some (.int .u64 (wd n 0 : Int)) ∧ w.frozen? ⟨b, 1, none⟩ = false) ∧ (w.cell? ⟨b, 2, none⟩ = some (.int .u64 (wd n 1 : Int)) ∧ w.frozen? ⟨b, 2, none⟩ = false) ∧ (w.cell? ⟨b, 3, none⟩ = some (.int .u64 (wd n 2 : Int)) ∧ w.frozen? ⟨b, 3, none⟩ = false) ∧ (w.cell? ⟨b, 4, none⟩ = some (.int .u64 (wd n 3 : Int)) ∧ w.frozen? ⟨b, 4, none⟩ = false) ∧ (w.cell? ⟨b, 5, none⟩ = some (.int .u64 (wd n 4 : Int)) ∧ w.frozen? ⟨b, 5, none⟩ = false) ∧ (w.cell? ⟨b, 6, none⟩ = some (.int .u64 (wd n 5 : Int)) ∧ w.frozen? ⟨b, 6, none⟩ = false) ∧ (w.cell? ⟨b, 7, none⟩ = some (.int .u64 (wd n 6 : Int)) ∧ w.frozen? ⟨b, 7, none⟩ = false) ∧ (w.cell? ⟨b, 8, none⟩ = some (.int .u64 (wd n 7 : Int)) ∧ w.frozen? ⟨b, 8, none⟩ = false) :=
 ⟨⟨h.sign, h.free⟩, h.words 0 (by decide), h.words 1 (by decide), h.words 2 (by decide), h.words 3 (by decide), h.words 4 (by decide), h.words 5 (by decide), h.words 6 (by decide), h.words 7 (by decide)⟩
theorem IntO.nine9 {w : World} {b n : Nat} {s : Bool} (h : IntO w b 9 s n) : (w.cell? ⟨b, 9, none⟩ = some (.bool s) ∧ w.frozen? ⟨b, 9, none⟩ = false) ∧ (w.cell? ⟨b, 10, none⟩ = some (.int .u64 (wd n 0 : Int)) ∧ w.frozen? ⟨b, 10, none⟩ = false) ∧ (w.cell? ⟨b, 11, none⟩ = some (.int .u64 (wd n 1 : Int)) ∧ w.frozen? ⟨b, 11, none⟩ = false) ∧ (w.cell? ⟨b, 12, none⟩ = some (.int .u64 (wd n 2 : Int)) ∧ w.frozen? ⟨b, 12, none⟩ = false) ∧ (w.cell? ⟨b, 13, none⟩ = some (.int .u64 (wd n 3 : Int)) ∧ w.frozen? ⟨b, 13, none⟩ = false) ∧ (w.cell? ⟨b, 14, none⟩ = some (.int .u64 (wd n 4 : Int)) ∧ w.frozen? ⟨b, 14, none⟩ = false) ∧ (w.cell? ⟨b, 15, none⟩ = some (.int .u64 (wd n 5 : Int)) ∧ w.frozen? ⟨b, 15, none⟩ = false) ∧ (w.cell? ⟨b, 16, none⟩ = some (.int .u64 (wd n 6 : Int)) ∧ w.frozen? ⟨b, 16, none⟩ = false) ∧ (w.cell? ⟨b, 17, none⟩ = some (.int .u64 (wd n 7 : Int)) ∧ w.frozen? ⟨b, 17, none⟩ = false) :=
 ⟨⟨h.sign, h.free⟩, h.words 0 (by decide), h.words 1 (by decide), h.words 2 (by decide), h.words 3 (by decide), h.words 4 (by decide), h.words 5 (by decide), h.words 6 (by decide), h.words 7 (by decide)⟩
abbrev boxR (s : Bool) (n : Nat) (t : Bool) (d : Nat) (T : TypeId) : Obj := .cells #[.bool s, .int .u64 (wd n 0 : Int), .int .u64 (wd n 1 : Int), .int .u64 (wd n 2 : Int), .int .u64 (wd n 3 : Int), .int .u64 (wd n 4 : Int), .int .u64 (wd n 5 : Int), .int .u64 (wd n 6 : Int), .int .u64 (wd n 7 : Int), .bool t, .int .u64 (wd d 0 : Int), .int .u64 (wd d 1 : Int), .int .u64 (wd d 2 : Int), .int .u64 (wd d 3 : Int), .int .u64 (wd d 4 : Int), .int .u64 (wd d 5 : Int), .int .u64 (wd d 6 : Int), .int .u64 (wd d 7 : Int)] T
structure RatAt (w : World) (b : Nat) (s : Bool) (n : Nat) (t : Bool) (d : Nat) : Prop where
 num : IntO w b 0 s n
 den : IntO w b 9 t d
theorem RatAt.new (w : World) (s : Bool) (n : Nat) (t : Bool) (d : Nat) (T : TypeId) : RatAt (w.alloc (boxR s n t d T)) w.heap.size s n t d := by
 refine ⟨⟨World.cell?_alloc_at _ _ _ _ rfl, World.frozen?_alloc_at _ _ _ _ rfl, fun i hi => ?_⟩, ⟨World.cell?_alloc_at _ _ _ _ rfl, World.frozen?_alloc_at _ _ _ _ rfl, fun i hi => ?_⟩⟩
 all_goals
  rcases i with _ | _ | _ | _ | _ | _ | _ | _ | i
  all_goals first | exact ⟨World.cell?_alloc_at _ _ _ _ rfl, World.frozen?_alloc_at _ _ _ _ rfl⟩ | omega
theorem RatAt.keep {w w' : World} {b n d B : Nat} {s t : Bool} (h : RatAt w b s n t d) (hb : Below B w w') (hB : b < B) : RatAt w' b s n t d := ⟨h.num.keep hb hB, h.den.keep hb hB⟩
theorem RatAt.but {w w' : World} {b c n d : Nat} {s t : Bool} (h : RatAt w b s n t d) (hw : But1 w w' c) (hne : b ≠ c) : RatAt w' b s n t d := ⟨h.num.but hw hne, h.den.but hw hne⟩
theorem RatAt.drew {w : World} {b n d : Nat} {s t : Bool} (h : RatAt w b s n t d) : RatAt w.drew b s n t d := ⟨h.num.drew, h.den.drew⟩
theorem RatAt.alloc {w : World} {b n d : Nat} {s t : Bool} (h : RatAt w b s n t d) (hb : b < w.heap.size) (o : Obj) : RatAt (w.alloc o) b s n t d := h.keep (below_alloc w o) hb
theorem RatAt.cells {w : World} {b n d : Nat} {s t : Bool} (h : RatAt w b s n t d) : w.cell? ⟨b, 0, none⟩ = some (.bool s) ∧ w.cell? ⟨b, 1, none⟩ = some (.int .u64 (wd n 0 : Int)) ∧ w.cell? ⟨b, 2, none⟩ = some (.int .u64 (wd n 1 : Int)) ∧ w.cell? ⟨b, 3, none⟩ = some (.int .u64 (wd n 2 : Int)) ∧ w.cell? ⟨b, 4, none⟩ = some (.int .u64 (wd n 3 : Int)) ∧ w.cell? ⟨b, 5, none⟩ = some (.int .u64 (wd n 4 : Int)) ∧ w.cell? ⟨b, 6, none⟩ = some (.int .u64 (wd n 5 : Int)) ∧ w.cell? ⟨b, 7, none⟩ = some (.int .u64 (wd n 6 : Int)) ∧ w.cell? ⟨b, 8, none⟩ = some (.int .u64 (wd n 7 : Int)) ∧ w.cell? ⟨b, 9, none⟩ = some (.bool t) ∧ w.cell? ⟨b, 10, none⟩ = some (.int .u64 (wd d 0 : Int)) ∧ w.cell? ⟨b, 11, none⟩ = some (.int .u64 (wd d 1 : Int)) ∧ w.cell? ⟨b, 12, none⟩ = some (.int .u64 (wd d 2 : Int)) ∧ w.cell? ⟨b, 13, none⟩ = some (.int .u64 (wd d 3 : Int)) ∧ w.cell? ⟨b, 14, none⟩ = some (.int .u64 (wd d 4 : Int)) ∧ w.cell? ⟨b, 15, none⟩ = some (.int .u64 (wd d 5 : Int)) ∧ w.cell? ⟨b, 16, none⟩ = some (.int .u64 (wd d 6 : Int)) ∧ w.cell? ⟨b, 17, none⟩ = some (.int .u64 (wd d 7 : Int)) := by
 obtain ⟨⟨a0, x0⟩, ⟨a1, x1⟩, ⟨a2, x2⟩, ⟨a3, x3⟩, ⟨a4, x4⟩, ⟨a5, x5⟩, ⟨a6, x6⟩, ⟨a7, x7⟩, ⟨a8, x8⟩⟩ := h.num.nine0
 obtain ⟨⟨c0, y0⟩, ⟨c1, y1⟩, ⟨c2, y2⟩, ⟨c3, y3⟩, ⟨c4, y4⟩, ⟨c5, y5⟩, ⟨c6, y6⟩, ⟨c7, y7⟩, ⟨c8, y8⟩⟩ := h.den.nine9
 exact ⟨a0, a1, a2, a3, a4, a5, a6, a7, a8, c0, c1, c2, c3, c4, c5, c6, c7, c8⟩
end Go.Proofs.YtkgaaabecdbidaaDoor
namespace Go.Proofs.YtkgaaabecdbidaaDoor
open Go.RowKit
section
variable {P : Program} {ops : Array Oper} {Q : Exit → Act → World → Prop} {md : Region.Mode} {S : World → Prop}
theorem rg_take (i : Nat) {oi : Oper} (v : Value) {fuel : Nat} {listed : Array Bool} {a : Act} {w : World} (hi : ops[i]? = some oi)
  (hs : Region.noSelect ops = true) (hf : Region.free md ops listed i = true) (hr : (Region.ready md ops listed).contains i = true)
  (hQ : ∀ c a w, Q (.panic c) (a.put oi.dst v) w → Q (.panic c) a w) (hg : oi.guard = none) (hv : ∀ w, S w → (execOp a.eval oi).run P w = .ok (.value v) w) (hS : S w)
  (h : wpAnyH P md ops Q S fuel (listed.setIfInBounds i true) (a.put oi.dst v) w) : wpAnyH P md ops Q S (fuel + 1) listed a w :=
 wpAnyH_take hi hs hf hr hQ (.inl ⟨by simp [Region.wanted, hg], hv⟩) hS h
abbrev RStep (P : Program) (md : Region.Mode) (ops : Array Oper) (Q : Exit → Act → World → Prop) (S : World → Prop) (fuel : Nat) (listed : Array Bool) (i : Nat) (a : Act) (w : World) : Prop :=
 wpOp P ops Q i (fun a' w' => S w' ∧ wpAnyH P md ops Q S fuel (listed.setIfInBounds i true) a' w') a w
theorem rg_one (i : Nat) {fuel : Nat} {listed : Array Bool} {a : Act} {w : World} (hr : Region.ready md ops listed = [i]) (h : RStep P md ops Q S fuel listed i a w) : wpAnyH P md ops Q S (fuel + 1) listed a w :=
 wpAnyH_all hr (by simp) fun j hj => by
  obtain rfl : j = i := by simpa using hj
  exact h
theorem rg_two (i j : Nat) {fuel : Nat} {listed : Array Bool} {a : Act} {w : World} (hr : Region.ready md ops listed = [i, j]) (h : RStep P md ops Q S fuel listed i a w) (g : RStep P md ops Q S fuel listed j a w) : wpAnyH P md ops Q S (fuel + 1) listed a w :=
 wpAnyH_all hr (by simp) fun k hk => by
  rcases List.mem_cons.1 hk with rfl | hk
  ·exact h
  ·obtain rfl : k = j := by simpa using hk
   exact g
theorem rs_of {i : Nat} {o : Oper} {K : Act → World → Prop} {a : Act} {w : World} (ho : ops[i]? = some o) (hg : o.guard = none) (h : o.wp P a w K Q) : wpOp P ops Q i K a w := by
 unfold wpOp
 rw [ho]
 simp only [Region.wanted, hg, if_true]
 exact .inl h
theorem wp_value {o : Oper} {K : Act → World → Prop} {a : Act} {w w' : World} {v : Value} (h : (execOp a.eval o).run P w = .ok (.value v) w') (hk : K (a.put o.dst v) w') : o.wp P a w K Q := by
 unfold Oper.wp
 rw [h]
 exact hk
theorem wp_skipped {o : Oper} {K : Act → World → Prop} {a : Act} {w w' : World} (h : (execOp a.eval o).run P w = .ok .skip w') (hk : K (a.put o.dst undef) w') : o.wp P a w K Q := by
 unfold Oper.wp
 rw [h]
 exact hk
def EntersP (P : Program) (f : Nat) : Prop := ∀ (args : Array Value) (w : World), (callFunc f args).run P w = .ok (.enter f args) w
theorem entersP_of {f : FuncId} {fn : Func} {c : Code} (hf : P.funcs[f]? = some fn) (hname : (fn.name == "runtime.NumGoroutine") = false) (hb : fn.body = some c) : EntersP P f := fun args w => by
 have h1 : fn.name ≠ "runtime.NumGoroutine" := by simpa using hname
 simp [callFunc, hf, h1, hb]
theorem wp_call {o : Oper} {K : Act → World → Prop} {a : Act} {w : World} {f : Nat} {xs : List Operand} {ts : Array TypeId} (hop : o.op = .call { callee := .value (.func f), args := xs.toArray, argTypes := ts }) (hen : EntersP P f)
  {args : List Value} (hargs : xs.map a.eval = args) {v : Value} {R : World → Prop} (hc : Calls P f args.toArray w fun e w' => e = .returned v ∧ R w') (hk : ∀ w', R w' → K (a.put o.dst v) w') : o.wp P a w K Q := by
 have hrun : (execOp a.eval o).run P w = .ok (.enter f args.toArray) w := by
  have h1 : (resolve a.eval { callee := .value (.func f), args := xs.toArray, argTypes := ts } o.type).run P w = .ok { target := .fn (.func f) #[], args := args.toArray } w := by
   simp [resolve, Act.eval, Deferred.ofValue, ← hargs]
  unfold execOp
  simp only [hop, Sem.run_bind, h1, Result.andThen_ok, invoke, Array.append_empty, hen args.toArray w]
 unfold Oper.wp
 rw [hrun, Oper.upon_enter]
 refine hc.mono ?_
 rintro e w' ⟨rfl, hr⟩
 exact hk w' hr
theorem rg_begin (S : World → Prop) {id : Nat} {a : Act} {w : World} (hm : P.follows .mixedOrders = true) (hS : S w.drew)
  (h : S w.drew → wpAnyH P .any ops Q S ops.size (Array.replicate ops.size false) a w.drew) : (Code.region id ops true).wp P Q a w := wp_region_held_drew hm hS h
end
theorem zA {α : Type _} {xs : List α} {i : Nat} (h : i < xs.toArray.size) : xs.toArray[i] = xs[i]'(by simpa using h) := List.getElem_toArray h
theorem zB {α : Type _} (a : α) (l : List α) (h : 0 < (a :: l).length) : (a :: l)[0] = a := List.getElem_cons_zero a l h
theorem zC {α : Type _} (a : α) (l : List α) (i : Nat) (h : i + 1 < (a :: l).length) : (a :: l)[i + 1] = l[i]'(by simpa using h) := List.getElem_cons_succ a l i h
theorem zD {α : Type _} (l : List α) (i : Nat) (a : α) : l.toArray.setIfInBounds i a = (l.set i a).toArray := List.setIfInBounds_toArray l i a
theorem zE {α : Type _} {x : α} {xs : List α} {a : α} : (x :: xs).set 0 a = a :: xs := List.set_cons_zero
theorem zF {α : Type _} {x : α} {xs : List α} {i : Nat} {a : α} : (x :: xs).set (i + 1) a = x :: xs.set i a := List.set_cons_succ
end Go.Proofs.YtkgaaabecdbidaaDoor
