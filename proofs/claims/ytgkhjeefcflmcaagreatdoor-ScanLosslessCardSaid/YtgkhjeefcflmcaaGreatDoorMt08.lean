/-
  Slices whose elements are structs (or anything of a fixed number of cells): told by a function f from what an element is to its cells. 'append' onto a slice of the call's own, whatever the source; reading an element. Nothing of the program is named here but its types' table.
-/
import Derived.Test.YtgkhjeefcflmcaaGreatDoorMt03
import Derived.Test.YtgkhjeefcflmcaaGreatDoorMt00
import Derived.Lib.Bytes
import Derived.Test.YtgkhjeefcflmcaaGreatDoorMt07
namespace Go.Proofs.YtgkhjeefcflmcaaGreatDoor
open Go.RowKit
def EncOk {α : Type} (f : α → List Value) (size : Nat) : Prop := 0 < size ∧ ∀ a, (f a).length = size ∧ ∀ u ∈ f a, u.oneCell' = true
theorem flat_length {α : Type} {f : α → List Value} {size : Nat} (h : EncOk f size) : ∀ l : List α, (l.flatMap f).length = l.length * size
 | [] => by simp
 | a :: l => by
  rw [List.flatMap_cons, List.length_append, (h.2 a).1, flat_length h l, List.length_cons, Nat.add_mul]
  omega
theorem flat_get {α : Type} {f : α → List Value} {size : Nat} (h : EncOk f size) : ∀ {l : List α} {i j : Nat} {x : α} {u : Value}, l[i]? = some x → (f x)[j]? = some u → (l.flatMap f)[i * size + j]? = some u
 | [], i, j, x, u, hx, _ => by simp at hx
 | a :: l, 0, j, x, u, hx, hu => by
  simp at hx
  subst hx
  have hj : j < (f a).length := (List.getElem?_eq_some_iff.1 hu).1
  rw [List.flatMap_cons, Nat.zero_mul, Nat.zero_add, List.getElem?_append_left hj]
  exact hu
 | a :: l, i + 1, j, x, u, hx, hu => by
  have ih := flat_get h (l := l) (i := i) (j := j) (by simpa using hx) hu
  have e : (i + 1) * size + j - (f a).length = i * size + j := by rw [(h.2 a).1, Nat.add_mul]; omega
  rw [List.flatMap_cons, List.getElem?_append_right (by rw [(h.2 a).1, Nat.add_mul]; omega), e]
  exact ih
theorem flat_take {α : Type} {f : α → List Value} {size : Nat} (h : EncOk f size) : ∀ (l : List α) (n : Nat), (l.take n).flatMap f = (l.flatMap f).take (n * size)
 | [], n => by simp
 | a :: l, 0 => by simp
 | a :: l, n + 1 => by
  have h1 : (f a).take ((n + 1) * size) = f a := List.take_of_length_le (by rw [(h.2 a).1, Nat.add_mul]; omega)
  have h2 : (n + 1) * size - size = n * size := by rw [Nat.add_mul]; omega
  rw [List.take_succ_cons, List.flatMap_cons, List.flatMap_cons, flat_take h l n, List.take_append, h1, (h.2 a).1, h2]
def CellsV {α : Type} (f : α → List Value) (w : World) (B : Nat) (A : Option Addr) (l : List α) : Prop :=
 0 < l.length → ∃ b o, A = some ⟨b, o, none⟩ ∧ b < B ∧ ∀ j u, (l.flatMap f)[j]? = some u → w.cell? ⟨b, o + j, none⟩ = some u
section
variable {α : Type} {f : α → List Value} {w w' : World} {B B' : Nat} {A : Option Addr} {l : List α}
theorem CellsV.keep (h : CellsV f w B A l) (hk : ∀ b o, b < B → w'.cell? ⟨b, o, none⟩ = w.cell? ⟨b, o, none⟩) : CellsV f w' B A l :=
 fun hp => by
  obtain ⟨b, o, e, hb, hc⟩ := h hp
  exact ⟨b, o, e, hb, fun j u hu => (hk b (o + j) hb).trans (hc j u hu)⟩
theorem CellsV.below (h : CellsV f w B A l) (hb : Below B' w w') (hB : B ≤ B') : CellsV f w' B A l :=
 h.keep fun _ _ hlt => hb.cell (Nat.lt_of_lt_of_le hlt hB)
theorem CellsV.more (h : CellsV f w B A l) (hB : B ≤ B') : CellsV f w B' A l :=
 fun hp => by
  obtain ⟨b, o, e, hb, hc⟩ := h hp
  exact ⟨b, o, e, by omega, hc⟩
theorem CellsV.nil : CellsV f w B A [] := fun h => by simp at h
theorem CellsV.take {size : Nat} (he : EncOk f size) (h : CellsV f w B A l) (n : Nat) : CellsV f w B A (l.take n) :=
 fun hp => by
  obtain ⟨b, o, e, hb, hc⟩ := h (by rw [List.length_take] at hp; omega)
  refine ⟨b, o, e, hb, fun j u hu => hc j u ?_⟩
  rw [flat_take he, List.getElem?_take] at hu
  split at hu
  ·exact hu
  ·cases hu
theorem CellsV.get {size : Nat} (he : EncOk f size) (h : CellsV f w B A l) (hp : 0 < l.length) : ∃ b o, A = some ⟨b, o, none⟩ ∧ b < B ∧ ∀ i x, l[i]? = some x → ∀ j u, (f x)[j]? = some u → w.cell? ⟨b, o + (i * size + j), none⟩ = some u := by
 obtain ⟨b, o, e, hb, hc⟩ := h hp
 exact ⟨b, o, e, hb, fun i x hx j u hu => hc _ u (flat_get he hx hu)⟩
theorem CellsV.grown (h : CellsV f w B A l) {row : Option Nat} (hg : w.grownBy w' row) (hB : B ≤ w.heap.size) (hr : ∀ g, row = some g → B ≤ g) : CellsV f w' B A l :=
 h.keep fun b o hb => World.cell?_of_block (hg.block b (by omega) (fun e => by have := hr _ e.symm; omega))
end
def OwnV {α : Type} (f : α → List Value) (size : Nat) (E : TypeId) (w : World) (base : Nat) (v : Value) (l : List α) : Prop := w.ownsRow base E size v l.length (l.flatMap f)
def SliceV {α : Type} (f : α → List Value) (size : Nat) (T E : TypeId) : Prop :=
 EncOk f size ∧ Tryz.prog.underlying T = some (.slice E) ∧ ∃ z b, b ≤ 1000 ∧ z.cells.size = size ∧ (Tryz.prog.info? E).map (fun i => (i.zero, i.size, i.bytes)) = some (some z, size, b)
section
variable {α : Type} {f : α → List Value} {size : Nat} {T E : TypeId} {w w' : World} {base : Nat} {v : Value} {l : List α}
theorem ownV_ge (h : OwnV f size E w base v l) : ∀ g, v.ownBlock = some g → base ≤ g := fun g hg => (World.ownsRow.lt h g hg).1
theorem OwnV.below (h : OwnV f size E w base v l) (hb : Below w.heap.size w w') : OwnV f size E w' base v l :=
 World.ownsRow.kept h (row := none) ⟨hb.os, hb.tape, hb.output, hb.size, fun k hk _ => hb.block k hk⟩ (by cases v.ownBlock <;> simp)
theorem OwnV.alloc (h : OwnV f size E w base v l) (o : Obj) : OwnV f size E (w.alloc o) base v l := World.ownsRow.alloc h o
theorem OwnV.setCell (h : OwnV f size E w base v l) {p : Addr} (hp : p.block < base) (u : Value) : OwnV f size E (w.setCell p u) base v l :=
 ownsRow_setCell_other h (fun e => by have := ownV_ge h _ e; omega) u
theorem OwnV.nil (f : α → List Value) (size : Nat) (E : TypeId) (w : World) (base : Nat) : OwnV f size E w base (.slice none 0 0) ([] : List α) := World.ownsRow_nil _ _ _ _
theorem OwnV.lit (he : EncOk f size) (E : TypeId) (w : World) (base : Nat) (l : List α) (hb : base ≤ w.heap.size) (hl : l.length ≤ 1000000) :
  OwnV f size E (w.alloc (.cells (l.flatMap f).toArray E)) base (.slice (some ⟨w.heap.size, 0, none⟩) l.length l.length) l := by
 have := World.ownsRow_lit (e := E) (size := size) (base := base) w (l.flatMap f).toArray l.length hb (by simp only [maxLen]; omega) (by rw [List.size_toArray, flat_length he])
 simpa [OwnV] using this
theorem OwnV.cells (h : OwnV f size E w base v l) : ∃ A cap, v = .slice A l.length cap ∧ l.length ≤ cap ∧ cap ≤ 9223372036854775807 ∧ CellsV f w w.heap.size A l := by
 rcases h.2 with ⟨hv, h0⟩ | ⟨g, cap, cur, hv, _, _, hnc, hcm, _⟩
 ·have : l = [] := List.eq_nil_of_length_eq_zero h0
  subst this
  exact ⟨none, 0, hv, Nat.le_refl _, by omega, CellsV.nil⟩
 ·unfold maxLen at hcm
  refine ⟨_, cap, hv, hnc, hcm, fun _ => ?_⟩
  have hlt := World.ownsRow.lt h g (by rw [hv]; rfl)
  refine ⟨g, 0, rfl, hlt.2, fun i x hx => ?_⟩
  have := World.ownsRow.cells h (g := g) (by rw [hv]; rfl) i x hx
  have hp : (⟨g, 0, none⟩ : Addr).add i = ⟨g, 0 + i, none⟩ := by unfold Addr.add; split <;> simp_all
  rwa [hp] at this
theorem run_appV (hT : SliceV f size T E) (ty : TypeId) (hown : OwnV f size E w base v l) (B : Nat) (A : Option Addr) (m c : Nat) (news : List α) (hb : CellsV f w B A news) (hm : news.length = m)
  (hlen : l.length + m ≤ 1000000) (hbase : base ≤ w.heap.size) :
  ∃ v' w', (Builtin.append_ #[T, T] ty #[v, .slice A m c]).run Tryz.prog w = .ok v' w' ∧ OwnV f size E w' base v' (l ++ news) ∧ w.grownBy w' v.ownBlock ∧ (v'.ownBlock = v.ownBlock ∨ v'.ownBlock = some w.heap.size) := by
 subst hm
 obtain ⟨he, hu, z, bb, hbb, hzc, hi0⟩ := hT
 obtain ⟨i, hi, hi2⟩ := Option.map_eq_some_iff.1 hi0
 simp only [Prod.mk.injEq] at hi2
 obtain ⟨hz, hs, hby⟩ := hi2
 cases A with
 | none =>
  have hnil : news = [] := by
   rcases Nat.eq_zero_or_pos news.length with h0 | h0
   ·exact List.eq_nil_of_length_eq_zero h0
   ·obtain ⟨b, o, e, _⟩ := hb h0
    cases e
  subst hnil
  refine ⟨v, w, ?_, by simpa [OwnV] using hown, World.grownBy.refl w _, .inl rfl⟩
  rcases hown.2 with ⟨hv, hn⟩ | ⟨g, cap, cur, hv, _, _, hnc, _⟩
  ·subst hv
   simp [Builtin.append_, run_underlying hu, sizeOf, typeInfo, hi, Builtin.lenOf, Builtin.firstCells]
  ·subst hv
   simp [Builtin.append_, run_underlying hu, sizeOf, typeInfo, hi, Builtin.lenOf, Builtin.firstCells, hnc, storeCells]
 | some a =>
  have hcells : ∀ j u, (news.flatMap f)[j]? = some u → w.cell? (a.add j) = some u := by
   intro j u hu
   have hp0 : 0 < news.length := by
    rcases Nat.eq_zero_or_pos news.length with h0 | h0
    ·have := List.eq_nil_of_length_eq_zero h0
     subst this
     simp at hu
    ·exact h0
   obtain ⟨b, o, e, _, hc⟩ := hb hp0
   cases e
   have hp : (⟨b, o, none⟩ : Addr).add j = ⟨b, o + j, none⟩ := by unfold Addr.add; split <;> simp_all
   rw [hp]
   exact hc j u hu
  obtain ⟨v', w', hrun, h2, h3, _, h5⟩ := run_append_own_at (P := Tryz.prog) w base T ty E i z size bb hu hi hz hs hby hzc he.1 v l.length _ hown a news.length c
   (news.flatMap f) (flat_length he news) hcells (fun u hu => by
    obtain ⟨x, _, hx⟩ := List.mem_flatMap.1 hu
    exact (he.2 x).2 u hx) (by simp only [maxLen]; omega) (by
     have h1 : (l.length + news.length) * bb ≤ 1000000 * 1000 := Nat.mul_le_mul hlen hbb
     omega) hbase
  exact ⟨v', w', hrun, by unfold OwnV; rw [List.length_append, List.flatMap_append]; exact h2, h3, h5⟩
end
end Go.Proofs.YtgkhjeefcflmcaaGreatDoor
namespace Go.Proofs.YtgkhjeefcflmcaaGreatDoor
open Go.RowKit
theorem Byts.nums {w : World} {B : Nat} {A : Option Addr} {l : List Int} (h : Byts w B A l) : NumsK .u8 w B A l := h.2
def bts (s : ByteArray) : List Int := s.data.toList.map fun b => (b.toNat : Int)
theorem bts_length (s : ByteArray) : (bts s).length = s.size := by simp [bts]
theorem bts_byt (s : ByteArray) : U.Byt (bts s) := fun x hx => by
 simp only [bts, List.mem_map] at hx
 obtain ⟨b, _, rfl⟩ := hx
 have := b.toNat_lt
 omega
theorem u8_slice : SliceK .u8 22 5 := ⟨Tryz.underlying22, 1, by omega, by kernel_rfl⟩
end Go.Proofs.YtgkhjeefcflmcaaGreatDoor
namespace Go.Proofs.YtgkhjeefcflmcaaGreatDoor
open Go.RowKit
theorem bts_cells (s : ByteArray) : s.data.map (fun b => Value.int .u8 b.toNat) = ((bts s).map fun x => Value.int .u8 x).toArray := by
 apply Array.ext'
 simp [bts, Function.comp_def]
theorem run_conv_str (w : World) (s : ByteArray) (hs : s.size ≤ maxLen) : ∃ cap w', (convert 9 22 (.string s)).run Tryz.prog w = .ok (.slice (some ⟨w.heap.size, 0, none⟩) s.size cap) w' ∧ s.size ≤ cap ∧ cap ≤ maxLen ∧ Byts w' w'.heap.size (some ⟨w.heap.size, 0, none⟩) (bts s) ∧ Below w.heap.size w w' := by
 refine ⟨_, _, run_bytes_of_string w _ _ _ s Tryz.underlying9 Tryz.underlying22 Tryz.underlying5, grownCap_ge _ _ _ _, grownCap_le_maxLen _ _ _ _ hs, ⟨bts_byt s, fun _ => ⟨_, _, rfl, by simp, fun i x hx => ?_⟩⟩, ?_⟩
 ·have := World.cell?_alloc_mark w.drew (bytesRow s (grownCap w s.size 0 5)) 5 ((bytesRow s (grownCap w s.size 0 5)).size, (bytesRow s (grownCap w s.size 0 5)).size + 1) (0 + i)
  rw [show w.drew.heap.size = w.heap.size from rfl] at this
  rw [this, bytesRow, bts_cells, Nat.zero_add]
  have hi := (List.getElem?_eq_some_iff.1 hx).1
  rw [Array.getElem?_append_left (by simpa using hi)]
  simp [hx]
 ·exact (Below.refl _ w).drew.alloc (Nat.le_refl _) _
end Go.Proofs.YtgkhjeefcflmcaaGreatDoor
namespace Go.Proofs.YtgkhjeefcflmcaaGreatDoor
open Go.RowKit Go.Sort
abbrev boxI (s : Bool) (n : Nat) (T : TypeId) : Obj := .cells #[.bool s, .int .u64 (wd n 0 : Int), .int .u64 (wd n 1 : Int), .int .u64 (wd n 2 : Int), .int .u64 (wd n 3 : Int), .int .u64 (wd n 4 : Int), .int .u64 (wd n 5 : Int), .int .u64 (wd n 6 : Int), .int .u64 (wd n 7 : Int)] T
abbrev boxIZ (T : TypeId) : Obj := .cells #[.bool false, .int .u64 0, .int .u64 0, .int .u64 0, .int .u64 0, .int .u64 0, .int .u64 0, .int .u64 0, .int .u64 0] T
structure IntAt (w : World) (b : Nat) (s : Bool) (n : Nat) : Prop where
 sign : w.cell? ⟨b, 0, none⟩ = some (.bool s)
 free : w.frozen? ⟨b, 0, none⟩ = false
 words : WordsAt w b 1 n 8
theorem IntAt.keep {w w' : World} {b n B : Nat} {s : Bool} (h : IntAt w b s n) (hb : Below B w w') (hB : b < B) : IntAt w' b s n :=
 ⟨(hb.cell (p := ⟨b, 0, none⟩) hB).trans h.sign, (hb.frozen (p := ⟨b, 0, none⟩) hB).trans h.free, h.words.keep hb hB⟩
theorem IntAt.alloc {w : World} {b n : Nat} {s : Bool} (h : IntAt w b s n) (hb : b < w.heap.size) (o : Obj) : IntAt (w.alloc o) b s n := h.keep (below_alloc w o) hb
theorem IntAt.but {w w' : World} {b c n : Nat} {s : Bool} (h : IntAt w b s n) (hw : But1 w w' c) (hne : b ≠ c) : IntAt w' b s n :=
 ⟨(hw.1 ⟨b, 0, none⟩ hne).1.trans h.sign, (hw.1 ⟨b, 0, none⟩ hne).2.trans h.free, h.words.but hw hne⟩
theorem IntAt.new (w : World) (s : Bool) (n : Nat) (T : TypeId) : IntAt (w.alloc (boxI s n T)) w.heap.size s n := by
 refine ⟨World.cell?_alloc_at _ _ _ _ rfl, World.frozen?_alloc_at _ _ _ _ rfl, fun i hi => ?_⟩
 rcases i with _ | _ | _ | _ | _ | _ | _ | _ | i
 all_goals first | exact ⟨World.cell?_alloc_at _ _ _ _ rfl, World.frozen?_alloc_at _ _ _ _ rfl⟩ | omega
theorem IntAt.zero (w : World) (T : TypeId) : IntAt (w.alloc (boxIZ T)) w.heap.size false 0 := by
 have := IntAt.new w false 0 T
 simpa only [boxI, wd_zero, Int.natCast_zero] using this
theorem WordsF.eightAt1 {w : World} {b : Nat} {f : Nat → Nat} (h : WordsF w b 1 f 8) :
  (w.cell? ⟨b, 1, none⟩ = some (.int .u64 (f 0 : Int)) ∧ w.frozen? ⟨b, 1, none⟩ = false) ∧ (w.cell? ⟨b, 2, none⟩ = some (.int .u64 (f 1 : Int)) ∧ w.frozen? ⟨b, 2, none⟩ = false) ∧
  (w.cell? ⟨b, 3, none⟩ = some (.int .u64 (f 2 : Int)) ∧ w.frozen? ⟨b, 3, none⟩ = false) ∧ (w.cell? ⟨b, 4, none⟩ = some (.int .u64 (f 3 : Int)) ∧ w.frozen? ⟨b, 4, none⟩ = false) ∧
  (w.cell? ⟨b, 5, none⟩ = some (.int .u64 (f 4 : Int)) ∧ w.frozen? ⟨b, 5, none⟩ = false) ∧ (w.cell? ⟨b, 6, none⟩ = some (.int .u64 (f 5 : Int)) ∧ w.frozen? ⟨b, 6, none⟩ = false) ∧
  (w.cell? ⟨b, 7, none⟩ = some (.int .u64 (f 6 : Int)) ∧ w.frozen? ⟨b, 7, none⟩ = false) ∧ (w.cell? ⟨b, 8, none⟩ = some (.int .u64 (f 7 : Int)) ∧ w.frozen? ⟨b, 8, none⟩ = false) :=
 ⟨h 0 (by decide), h 1 (by decide), h 2 (by decide), h 3 (by decide), h 4 (by decide), h 5 (by decide), h 6 (by decide), h 7 (by decide)⟩
def st9 (w : World) (b : Nat) (s : Bool) (n : Nat) : World := ((((((((w.setCell ⟨b, 0, none⟩ (.bool s)).setCell ⟨b, 1, none⟩ (.int .u64 (wd n 0 : Int))).setCell ⟨b, 2, none⟩ (.int .u64 (wd n 1 : Int))).setCell ⟨b, 3, none⟩ (.int .u64 (wd n 2 : Int))).setCell ⟨b, 4, none⟩ (.int .u64 (wd n 3 : Int))).setCell ⟨b, 5, none⟩ (.int .u64 (wd n 4 : Int))).setCell ⟨b, 6, none⟩ (.int .u64 (wd n 5 : Int))).setCell ⟨b, 7, none⟩ (.int .u64 (wd n 6 : Int))).setCell ⟨b, 8, none⟩ (.int .u64 (wd n 7 : Int))
theorem st9_but (w : World) (b : Nat) (s : Bool) (n : Nat) : But1 w (st9 w b s n) b :=
 ((((((((But1.setCell w b 0 _).trans (But1.setCell _ b 1 _)).trans (But1.setCell _ b 2 _)).trans (But1.setCell _ b 3 _)).trans (But1.setCell _ b 4 _)).trans (But1.setCell _ b 5 _)).trans (But1.setCell _ b 6 _)).trans (But1.setCell _ b 7 _)).trans (But1.setCell _ b 8 _)
theorem st9_at {w : World} {b n m : Nat} {s t : Bool} (h : IntAt w b s n) : IntAt (st9 w b t m) b t m := by
 have h0 : WordsF (w.setCell ⟨b, 0, none⟩ (.bool t)) b 1 (wd n) 8 := fun i hi =>
  ⟨(World.cell?_setCell_other _ _ _ _ (fun e => by injection e with _ e2 _; omega)).trans (h.words i hi).1, by rw [World.frozen?_setCell]; exact (h.words i hi).2⟩
 have h8 := (((((((h0.upd (i := 0) (by decide) (wd m 0)).upd (i := 1) (by decide) (wd m 1)).upd (i := 2) (by decide) (wd m 2)).upd (i := 3) (by decide) (wd m 3)).upd (i := 4) (by decide) (wd m 4)).upd (i := 5) (by decide) (wd m 5)).upd (i := 6) (by decide) (wd m 6)).upd (i := 7) (by decide) (wd m 7)
 have c0 : (w.setCell ⟨b, 0, none⟩ (.bool t)).cell? ⟨b, 0, none⟩ = some (.bool t) := World.cell?_setCell_same _ _ _ h.sign
 refine ⟨?_, ?_, ?_⟩
 ·unfold st9
  iterate 8 rw [World.cell?_setCell_other _ _ _ _ (by simp)]
  exact c0
 ·unfold st9
  simp only [World.frozen?_setCell]
  exact h.free
 ·refine WordsF.ext (f := updF (updF (updF (updF (updF (updF (updF (updF (wd n) 0 (wd m 0)) 1 (wd m 1)) 2 (wd m 2)) 3 (wd m 3)) 4 (wd m 4)) 5 (wd m 5)) 6 (wd m 6)) 7 (wd m 7)) h8 fun t ht => ?_
  rcases t with _ | _ | _ | _ | _ | _ | _ | _ | t
  all_goals first | rfl | omega
theorem IntAt.value {w : World} {b n : Nat} {s : Bool} (h : IntAt w b s n) : (w.cell? ⟨b, 0, none⟩ = some (.bool s) ∧ w.frozen? ⟨b, 0, none⟩ = false) := ⟨h.sign, h.free⟩
set_option maxRecDepth 100000 in
set_option maxHeartbeats 4000000 in
theorem Canon_run (s : Bool) (n : Nat) (w : World) (hn : Hid (Fits n)) :
  Calls Tryz.prog 216 #[intV s n] w fun e w' => e = .returned (intV (sgn s n) n) ∧ Below w.heap.size w w' := by
 have HC := Lib.hid (fun W => signed_run s n W hn)
 obtain ⟨S, hS⟩ : ∃ S, w.heap.size = S := ⟨_, rfl⟩
 have Z0 := IntAt.zero (w.alloc (boxI s n 92)) 92
 have B0 : Below w.heap.size w ((w.alloc (boxI s n 92)).alloc (boxIZ 92)) := (below_alloc w _).alloc (by simp) _
 have z0 : ((w.alloc (boxI s n 92)).alloc (boxIZ 92)).heap.size = w.heap.size + 1 + 1 := by simp
 obtain ⟨t, ht⟩ : ∃ t, sgn s n = t := ⟨_, rfl⟩
 rw [ht] at HC ⊢
 have e1 : (w.alloc (boxI s n 92)).heap.size = w.heap.size + 1 := by simp
 rw [e1, hS] at Z0
 rw [hS] at B0 z0 ⊢
 have HZ := Lib.hid Z0
 have HB := Lib.hid B0
 have Hz := Lib.hid z0
 clear Z0 B0 z0 e1 ht
 unfold wordsV at HC
 unfold intV at HC ⊢
 go_enter Tryz.func216, Tryz.ntmps216
 go_wp2_with fail
 refine (HC.out _).mono ?_
 rintro e w1 ⟨rfl, hw1⟩
 have Z1 := HZ.out.keep hw1 (by rw [Hz.out]; omega)
 have B1 : Hid (Below S w w1) := HB.out.trans (hw1.mono (by rw [Hz.out]; omega))
 obtain ⟨a0, b0⟩ := Z1.value
 obtain ⟨⟨c0, d0⟩, ⟨c1, d1⟩, ⟨c2, d2⟩, ⟨c3, d3⟩, ⟨c4, d4⟩, ⟨c5, d5⟩, ⟨c6, d6⟩, ⟨c7, d7⟩⟩ := Z1.words.eightAt1
 clear hw1 Z1 HZ HB Hz
 go_wp2_with fail
 refine bodyPost_ret (v := intV t n) (by rw [results_cell1 rfl]; go_simp; try rfl) rfl ⟨rfl, ?_⟩
 exact (st9_but w1 (S + 1) t n).2.1 S w (by omega) B1.out
set_option maxRecDepth 100000 in
set_option maxHeartbeats 4000000 in
theorem Neg_run (s : Bool) (n : Nat) (w : World) (hn : Hid (Fits n)) :
  Calls Tryz.prog 238 #[intV s n] w fun e w' => e = .returned (intV (sgn (!s) n) n) ∧ Below w.heap.size w w' := by
 have HC := Lib.hid (fun W => signed_run (!s) n W hn)
 obtain ⟨S, hS⟩ : ∃ S, w.heap.size = S := ⟨_, rfl⟩
 have Z0 := IntAt.zero (w.alloc (boxI s n 92)) 92
 have B0 : Below w.heap.size w ((w.alloc (boxI s n 92)).alloc (boxIZ 92)) := (below_alloc w _).alloc (by simp) _
 have z0 : ((w.alloc (boxI s n 92)).alloc (boxIZ 92)).heap.size = w.heap.size + 1 + 1 := by simp
 obtain ⟨t, ht⟩ : ∃ t, sgn (!s) n = t := ⟨_, rfl⟩
 rw [ht] at HC ⊢
 have e1 : (w.alloc (boxI s n 92)).heap.size = w.heap.size + 1 := by simp
 rw [e1, hS] at Z0
 rw [hS] at B0 z0 ⊢
 have HZ := Lib.hid Z0
 have HB := Lib.hid B0
 have Hz := Lib.hid z0
 clear Z0 B0 z0 e1 ht
 unfold wordsV at HC
 unfold intV at HC ⊢
 go_enter Tryz.func238, Tryz.ntmps238
 go_wp2_with fail
 refine (HC.out _).mono ?_
 rintro e w1 ⟨rfl, hw1⟩
 have Z1 := HZ.out.keep hw1 (by rw [Hz.out]; omega)
 have B1 : Hid (Below S w w1) := HB.out.trans (hw1.mono (by rw [Hz.out]; omega))
 obtain ⟨a0, b0⟩ := Z1.value
 obtain ⟨⟨c0, d0⟩, ⟨c1, d1⟩, ⟨c2, d2⟩, ⟨c3, d3⟩, ⟨c4, d4⟩, ⟨c5, d5⟩, ⟨c6, d6⟩, ⟨c7, d7⟩⟩ := Z1.words.eightAt1
 clear hw1 Z1 HZ HB Hz
 go_wp2_with fail
 refine bodyPost_ret (v := intV t n) (by rw [results_cell1 rfl]; go_simp; try rfl) rfl ⟨rfl, ?_⟩
 exact (st9_but w1 (S + 1) t n).2.1 S w (by omega) B1.out
end Go.Proofs.YtgkhjeefcflmcaaGreatDoor
namespace Go.Proofs.YtgkhjeefcflmcaaGreatDoor
open Go.RowKit Go.Sort
theorem IntAt.nine {w : World} {b n : Nat} {s : Bool} (h : IntAt w b s n) :
  (w.cell? ⟨b, 0, none⟩ = some (.bool s) ∧ w.frozen? ⟨b, 0, none⟩ = false) ∧ (w.cell? ⟨b, 1, none⟩ = some (.int .u64 (wd n 0 : Int)) ∧ w.frozen? ⟨b, 1, none⟩ = false) ∧ (w.cell? ⟨b, 2, none⟩ = some (.int .u64 (wd n 1 : Int)) ∧ w.frozen? ⟨b, 2, none⟩ = false) ∧
  (w.cell? ⟨b, 3, none⟩ = some (.int .u64 (wd n 2 : Int)) ∧ w.frozen? ⟨b, 3, none⟩ = false) ∧ (w.cell? ⟨b, 4, none⟩ = some (.int .u64 (wd n 3 : Int)) ∧ w.frozen? ⟨b, 4, none⟩ = false) ∧
  (w.cell? ⟨b, 5, none⟩ = some (.int .u64 (wd n 4 : Int)) ∧ w.frozen? ⟨b, 5, none⟩ = false) ∧ (w.cell? ⟨b, 6, none⟩ = some (.int .u64 (wd n 5 : Int)) ∧ w.frozen? ⟨b, 6, none⟩ = false) ∧
  (w.cell? ⟨b, 7, none⟩ = some (.int .u64 (wd n 6 : Int)) ∧ w.frozen? ⟨b, 7, none⟩ = false) ∧ (w.cell? ⟨b, 8, none⟩ = some (.int .u64 (wd n 7 : Int)) ∧ w.frozen? ⟨b, 8, none⟩ = false) :=
 ⟨⟨h.sign, h.free⟩, h.words.eightAt1⟩
theorem IntAt.drew {w : World} {b n : Nat} {s : Bool} (h : IntAt w b s n) : IntAt w.drew b s n := ⟨h.sign, h.free, h.words⟩
theorem two_ints (w : World) (s : Bool) (n : Nat) (t : Bool) (m : Nat) (T U : TypeId) : IntAt ((w.alloc (boxI s n T)).alloc (boxI t m U)) w.heap.size s n ∧ IntAt ((w.alloc (boxI s n T)).alloc (boxI t m U)) (w.heap.size + 1) t m ∧ Below w.heap.size w ((w.alloc (boxI s n T)).alloc (boxI t m U)) ∧ ((w.alloc (boxI s n T)).alloc (boxI t m U)).heap.size = w.heap.size + 1 + 1 := by
 refine ⟨(IntAt.new w s n T).alloc (by simp) _, ?_, (below_alloc w _).alloc (by simp) _, by simp⟩
 have := IntAt.new (w.alloc (boxI s n T)) t m U
 simpa using this
def cmpS (s : Bool) (n : Nat) (t : Bool) (m : Nat) : Int := if sgn s n then (if sgn t m then cmpN m n else -1) else (if sgn t m then 1 else cmpN n m)
set_option maxRecDepth 100000 in
set_option maxHeartbeats 8000000 in
theorem Cmp_run (s : Bool) (n : Nat) (t : Bool) (m : Nat) (c : Int) (w : World) (hn : Hid (Fits n)) (hm : Hid (Fits m)) (hc : Hid (cmpS s n t m = c)) :
  Calls Tryz.prog 222 #[intV s n, intV t m] w fun e w' => e = .returned (.int .i64 c) ∧ Below w.heap.size w w' := by
 have HC1 := Lib.hid (fun W => Canon_run s n W hn)
 have HC2 := Lib.hid (fun W => Canon_run t m W hm)
 obtain ⟨S, hS⟩ : ∃ S, w.heap.size = S := ⟨_, rfl⟩
 obtain ⟨W, hW⟩ : ∃ W, (w.alloc (boxI s n 92)).alloc (boxI t m 92) = W := ⟨_, rfl⟩
 have T := two_ints w s n t m 92 92
 rw [hW, hS] at T
 obtain ⟨s', hs'⟩ : ∃ s', sgn s n = s' := ⟨_, rfl⟩
 obtain ⟨t', ht'⟩ : ∃ t', sgn t m = t' := ⟨_, rfl⟩
 rw [hs'] at HC1
 rw [ht'] at HC2
 have HV : Hid (c = if s' then (if t' then cmpN m n else -1) else (if t' then 1 else cmpN n m)) := by show _ = _; rw [← hc.out, cmpS, hs', ht']
 have HK1 : Hid (∀ w1, Below W.drew.heap.size W.drew w1 → IntAt w1 S s n ∧ IntAt w1 (S + 1) t m ∧ Below S w w1 ∧ S + 1 + 1 ≤ w1.heap.size) := fun w1 hw1 =>
  ⟨IntAt.keep (w := W.drew) T.1.drew hw1 (by show S < W.heap.size; omega), IntAt.keep (w := W.drew) T.2.1.drew hw1 (by show S + 1 < W.heap.size; omega), T.2.2.1.drew.trans (hw1.mono (by show S ≤ W.heap.size; omega)), by have := hw1.size; have h2 : W.drew.heap.size = W.heap.size := rfl; omega⟩
 obtain ⟨⟨a0, b0⟩, ⟨a1, b1⟩, ⟨a2, b2⟩, ⟨a3, b3⟩, ⟨a4, b4⟩, ⟨a5, b5⟩, ⟨a6, b6⟩, ⟨a7, b7⟩, ⟨a8, b8⟩⟩ := T.1.nine
 obtain ⟨⟨c0, d0⟩, ⟨c1, d1⟩, ⟨c2, d2⟩, ⟨c3, d3⟩, ⟨c4, d4⟩, ⟨c5, d5⟩, ⟨c6, d6⟩, ⟨c7, d7⟩, ⟨c8, d8⟩⟩ := T.2.1.nine
 clear T hs' ht'
 rw [hS]
 unfold intV at HC1 HC2 ⊢
 go_enter Tryz.func222, Tryz.ntmps222
 go_upto_region 1 with fail
 go_cut [] (fun wx => IntAt wx S s' n ∧ IntAt wx (S + 1) t' m ∧ Below S w wx)
 case first =>
  go_region_with (go_at_call 216; first | (refine (HC1.out _).mono ?_; rintro e w1 ⟨rfl, hw1⟩; obtain ⟨I1, I2, B1, z1⟩ := HK1.out _ hw1; have HI1 := Lib.hid I1; have HI2 := Lib.hid I2; have HB1 := Lib.hid B1; obtain ⟨⟨e0, f0⟩, ⟨e1, f1⟩, ⟨e2, f2⟩, ⟨e3, f3⟩, ⟨e4, f4⟩, ⟨e5, f5⟩, ⟨e6, f6⟩, ⟨e7, f7⟩, ⟨e8, f8⟩⟩ := I2.nine; clear I1 I2 B1 hw1) | (refine (HC2.out _).mono ?_; rintro e w2 ⟨rfl, hw2⟩; have J1 := Lib.hid (HI1.out.keep hw2 (by omega)); have J2 := Lib.hid (HI2.out.keep hw2 (by omega)); have BB := Lib.hid (HB1.out.trans (hw2.mono (by omega))); obtain ⟨⟨g0, h0⟩, ⟨g1, h1⟩, ⟨g2, h2⟩, ⟨g3, h3⟩, ⟨g4, h4⟩, ⟨g5, h5⟩, ⟨g6, h6⟩, ⟨g7, h7⟩, ⟨g8, h8⟩⟩ := J1.out.nine; obtain ⟨⟨i0, j0⟩, ⟨i1, j1⟩, ⟨i2, j2⟩, ⟨i3, j3⟩, ⟨i4, j4⟩, ⟨i5, j5⟩, ⟨i6, j6⟩, ⟨i7, j7⟩, ⟨i8, j8⟩⟩ := J2.out.nine; clear hw2))
  all_goals go_wp2_with fail
  all_goals go_meet
  all_goals exact ⟨(st9_at J1.out).but (st9_but _ (S + 1) t' m) (by omega), st9_at (J2.out.but (st9_but _ S s' n) (by omega)), (st9_but _ (S + 1) t' m).2.1 S w (by omega) ((st9_but _ S s' n).2.1 S w (by omega) BB.out)⟩
 case rest =>
  obtain ⟨K1, K2, KB⟩ := hcut
  have HKB := Lib.hid KB
  obtain ⟨⟨g0, h0⟩, ⟨g1, h1⟩, ⟨g2, h2⟩, ⟨g3, h3⟩, ⟨g4, h4⟩, ⟨g5, h5⟩, ⟨g6, h6⟩, ⟨g7, h7⟩, ⟨g8, h8⟩⟩ := K1.nine
  obtain ⟨⟨i0, j0⟩, ⟨i1, j1⟩, ⟨i2, j2⟩, ⟨i3, j3⟩, ⟨i4, j4⟩, ⟨i5, j5⟩, ⟨i6, j6⟩, ⟨i7, j7⟩, ⟨i8, j8⟩⟩ := K2.nine
  have HP1 : Hid (∀ W, Calls Tryz.prog 241 #[wordsV n, wordsV m] W fun e w' => e = .returned (.int .i64 (cmpN n m)) ∧ Below W.heap.size W w') := fun W => compare_run n m _ W hn hm rfl
  have HP2 : Hid (∀ W, Calls Tryz.prog 241 #[wordsV m, wordsV n] W fun e w' => e = .returned (.int .i64 (cmpN m n)) ∧ Below W.heap.size W w') := fun W => compare_run m n _ W hm hn rfl
  have hz : S ≤ wc.heap.size := by have := KB.size; omega
  unfold wordsV at HP1 HP2
  clear KB K1 K2 HK1 HC1 HC2 hW a0 a1 a2 a3 a4 a5 a6 a7 a8 b0 b1 b2 b3 b4 b5 b6 b7 b8 c0 c1 c2 c3 c4 c5 c6 c7 c8 d0 d1 d2 d3 d4 d5 d6 d7 d8
  cases s' with
  | true =>
   cases t' with
   | true =>
    go_wp2_with fail
    refine (HP2.out _).mono ?_
    rintro e w1 ⟨rfl, hw1⟩
    have HB1 : Hid (Below S w w1) := HKB.out.trans (hw1.mono hz)
    clear hw1
    go_wp2_with fail
    go_ret
    exact ⟨ret_int HV.out.symm, HB1.out⟩
   | false =>
    go_wp2_with fail
    go_ret
    exact ⟨ret_int HV.out.symm, HKB.out⟩
  | false =>
   cases t' with
   | true =>
    go_wp2_with fail
    go_ret
    exact ⟨ret_int HV.out.symm, HKB.out⟩
   | false =>
    go_wp2_with fail
    refine (HP1.out _).mono ?_
    rintro e w1 ⟨rfl, hw1⟩
    have HB1 : Hid (Below S w w1) := HKB.out.trans (hw1.mono hz)
    clear hw1
    go_wp2_with fail
    go_ret
    exact ⟨ret_int HV.out.symm, HB1.out⟩
end Go.Proofs.YtgkhjeefcflmcaaGreatDoor
namespace Go.Proofs.YtgkhjeefcflmcaaGreatDoor
open Go.RowKit Go.Sort
theorem three_ints (w : World) (s : Bool) (n : Nat) (t : Bool) (m : Nat) (T U V : TypeId) : IntAt (((w.alloc (boxI s n T)).alloc (boxI t m U)).alloc (boxIZ V)) w.heap.size s n ∧ IntAt (((w.alloc (boxI s n T)).alloc (boxI t m U)).alloc (boxIZ V)) (w.heap.size + 1) t m ∧ IntAt (((w.alloc (boxI s n T)).alloc (boxI t m U)).alloc (boxIZ V)) (w.heap.size + 1 + 1) false 0 ∧ Below w.heap.size w (((w.alloc (boxI s n T)).alloc (boxI t m U)).alloc (boxIZ V)) ∧ (((w.alloc (boxI s n T)).alloc (boxI t m U)).alloc (boxIZ V)).heap.size = w.heap.size + 1 + 1 + 1 := by
 obtain ⟨h1, h2, h3, h4⟩ := two_ints w s n t m T U
 refine ⟨h1.alloc (by omega) _, h2.alloc (by omega) _, ?_, h3.alloc (by omega) _, by simp⟩
 have := IntAt.zero ((w.alloc (boxI s n T)).alloc (boxI t m U)) V
 rwa [h4] at this
end Go.Proofs.YtgkhjeefcflmcaaGreatDoor
namespace Go.Proofs.YtgkhjeefcflmcaaGreatDoor
open Go.RowKit Go.Sort
def resV (s : Bool) (n : Nat) : Value := if n < 18446744073709551616 ^ 8 then .tuple #[intV (sgn s n) n, .nilIface] else .tuple #[intV false 0, errno 9]
theorem resV_fits {s : Bool} {n : Nat} (h : Fits n) : resV s n = .tuple #[intV (sgn s n) n, .nilIface] := if_pos h
theorem resV_over {s : Bool} {n : Nat} (h : ¬ Fits n) : resV s n = .tuple #[intV false 0, errno 9] := if_neg h
end Go.Proofs.YtgkhjeefcflmcaaGreatDoor
namespace Go.Proofs.YtgkhjeefcflmcaaGreatDoor
open Go.RowKit Go.Sort
theorem mul_lt16 {n m : Nat} (hn : Fits n) (hm : Fits m) : Fits (n * m / 18446744073709551616 ^ 8) := by
 apply (Nat.div_lt_iff_lt_mul (Nat.pow_pos (by decide))).2
 exact Nat.mul_lt_mul'' hn hm
theorem two_more (w : World) (a b : Nat) (T U : TypeId) : WordsAt ((w.alloc (boxO a T)).alloc (boxO b U)) w.heap.size 0 a 8 ∧ WordsAt ((w.alloc (boxO a T)).alloc (boxO b U)) (w.heap.size + 1) 0 b 8 := ⟨(two_boxes w a b T U).1, (two_boxes w a b T U).2.1⟩
set_option maxRecDepth 100000 in
set_option maxHeartbeats 2000000 in
theorem Mul_run (s : Bool) (n : Nat) (t : Bool) (m : Nat) (w : World) (hn : Hid (Fits n)) (hm : Hid (Fits m)) :
  Calls Tryz.prog 193 #[intV s n, intV t m] w fun e w' => e = .returned (resV (s != t) (n * m)) ∧ Below w.heap.size w w' := by
 obtain ⟨S, hS⟩ : ∃ S, w.heap.size = S := ⟨_, rfl⟩
 obtain ⟨W, hW⟩ : ∃ W, ((w.alloc (boxI s n 92)).alloc (boxI t m 92)).alloc (boxIZ 92) = W := ⟨_, rfl⟩
 have T := three_ints w s n t m 92 92 92
 rw [hW, hS] at T
 have HT := Lib.hid T
 obtain ⟨⟨a0, b0⟩, ⟨a1, b1⟩, ⟨a2, b2⟩, ⟨a3, b3⟩, ⟨a4, b4⟩, ⟨a5, b5⟩, ⟨a6, b6⟩, ⟨a7, b7⟩, ⟨a8, b8⟩⟩ := T.1.nine
 obtain ⟨⟨c0, d0⟩, ⟨c1, d1⟩, ⟨c2, d2⟩, ⟨c3, d3⟩, ⟨c4, d4⟩, ⟨c5, d5⟩, ⟨c6, d6⟩, ⟨c7, d7⟩, ⟨c8, d8⟩⟩ := T.2.1.nine
 clear T
 rw [hS]
 have k4 : ∀ x, x < S + 1 + 1 + 1 → x < W.heap.size := fun x hx => Nat.lt_of_lt_of_eq hx HT.out.2.2.2.2.symm
 have HC := Lib.hid (fun W => multiply_run n m W hn hm)
 have hfit := mul_lt16 hn.out hm.out
 have hne := fun W => neWords (n * m / 18446744073709551616 ^ 8) 0 W hfit (Nat.pow_pos (by decide))
 obtain ⟨q, hq⟩ : ∃ q, n * m / 18446744073709551616 ^ 8 = q := ⟨_, rfl⟩
 obtain ⟨p, hp⟩ : ∃ p, n * m = p := ⟨_, rfl⟩
 obtain ⟨x, hx⟩ : ∃ x, (s != t) = x := ⟨_, rfl⟩
 have hx3 : (s == t) = (!x) := by rw [← hx]; cases s <;> cases t <;> rfl
 rw [hq] at HC hne
 rw [hp] at HC ⊢
 rw [hx]
 have HF : Hid (q = 0 ↔ Fits p) := by
  show _ ↔ _
  rw [← hq, hp]
  constructor
  ·intro h
   rcases Nat.lt_or_ge p (18446744073709551616 ^ 8) with h1 | h1
   ·exact h1
   ·have := Nat.div_pos h1 (Nat.pow_pos (by decide)); omega
  ·exact fun h => Nat.div_eq_of_lt h
 clear hq hp hfit hn hm
 simp only [wordsV, wd_zero, Int.natCast_zero] at hne
 by_cases hf : Fits p
 ·have hq0 : decide (q = 0) = true := decide_eq_true (HF.out.2 hf)
  rw [hq0] at hne
  rw [resV_fits hf]
  have HS := Lib.hid (fun W => signed_run x p W hf)
  obtain ⟨z, hz⟩ : ∃ z, sgn x p = z := ⟨_, rfl⟩
  rw [hz] at HS ⊢
  clear hz hf hq0 HF
  unfold wordsV at HC
  unfold wordsV intV at HS
  unfold intV
  go_enter Tryz.func193, Tryz.ntmps193
  go_wp2_with fail
  refine (HC.out _).mono ?_
  rintro e w1 ⟨rfl, hw1⟩
  have I1 := Lib.hid (HT.out.1.keep hw1 (k4 _ (by omega)))
  have I2 := Lib.hid (HT.out.2.1.keep hw1 (k4 _ (by omega)))
  have I3 := Lib.hid (HT.out.2.2.1.keep hw1 (k4 _ (by omega)))
  have B1 : Hid (Below S w w1) := HT.out.2.2.2.1.trans (hw1.mono (Nat.le_of_lt (k4 _ (by omega))))
  have z1 : S + 1 + 1 + 1 ≤ w1.heap.size := by have := hw1.size; rw [HT.out.2.2.2.2] at this; exact this
  clear hw1 k4 HT hW HC a0 a1 a2 a3 a4 a5 a6 a7 a8 b0 b1 b2 b3 b4 b5 b6 b7 b8 c0 c1 c2 c3 c4 c5 c6 c7 c8 d0 d1 d2 d3 d4 d5 d6 d7 d8
  go_upto_region 2 with fail
  obtain ⟨R, hR⟩ : ∃ R, w1.heap.size = R := ⟨_, rfl⟩
  obtain ⟨wx, hwx⟩ : ∃ wx, (w1.alloc (boxO p 217)).alloc (boxO q 217) = wx := ⟨_, rfl⟩
  have hsz : ((w1.alloc (boxO p 217)).alloc (boxO q 217)).heap.size = R + 1 + 1 := by simp [hR]
  have hs1 : (w1.alloc (boxO p 217)).heap.size = R + 1 := by simp [hR]
  have P2 := (two_more w1 p q 217 217)
  have J1 := (I1.out.alloc (by omega) (boxO p 217)).alloc (Nat.lt_of_lt_of_eq (show S < R + 1 by omega) hs1.symm) (boxO q 217)
  have J2 := (I2.out.alloc (by omega) (boxO p 217)).alloc (Nat.lt_of_lt_of_eq (show S + 1 < R + 1 by omega) hs1.symm) (boxO q 217)
  have J3 := (I3.out.alloc (by omega) (boxO p 217)).alloc (Nat.lt_of_lt_of_eq (show S + 1 + 1 < R + 1 by omega) hs1.symm) (boxO q 217)
  have BX : Below S w ((w1.alloc (boxO p 217)).alloc (boxO q 217)) := (B1.out.alloc (by omega) _).alloc (Nat.le_trans (show S ≤ R + 1 by omega) (Nat.le_of_eq hs1.symm)) _
  rw [hwx] at hsz P2 J1 J2 J3 BX
  rw [hR] at P2 z1
  have hwx' : (w1.alloc (.cells #[.int .u64 (wd p 0 : Int), .int .u64 (wd p 1 : Int), .int .u64 (wd p 2 : Int), .int .u64 (wd p 3 : Int), .int .u64 (wd p 4 : Int), .int .u64 (wd p 5 : Int), .int .u64 (wd p 6 : Int), .int .u64 (wd p 7 : Int)] 217)).alloc (.cells #[.int .u64 (wd q 0 : Int), .int .u64 (wd q 1 : Int), .int .u64 (wd q 2 : Int), .int .u64 (wd q 3 : Int), .int .u64 (wd q 4 : Int), .int .u64 (wd q 5 : Int), .int .u64 (wd q 6 : Int), .int .u64 (wd q 7 : Int)] 217) = wx := hwx
  rw [hwx', hR]
  clear hwx hwx' I1 I2 I3 B1 hs1
  have HP2 := Lib.hid P2
  have HJ3 := Lib.hid J3
  have HBX := Lib.hid BX
  have Hsz := Lib.hid hsz
  have sa := J1.sign
  have sb := J2.sign
  obtain ⟨⟨a0, b0⟩, ⟨a1, b1⟩, ⟨a2, b2⟩, ⟨a3, b3⟩, ⟨a4, b4⟩, ⟨a5, b5⟩, ⟨a6, b6⟩, ⟨a7, b7⟩⟩ := P2.1.eight
  obtain ⟨⟨c0, d0⟩, ⟨c1, d1⟩, ⟨c2, d2⟩, ⟨c3, d3⟩, ⟨c4, d4⟩, ⟨c5, d5⟩, ⟨c6, d6⟩, ⟨c7, d7⟩⟩ := P2.2.eight
  clear P2 J1 J2 BX hsz hR
  clear J3
  go_wp2_with fail
  refine (HS.out _).mono ?_
  rintro e w2 ⟨rfl, hw2⟩
  have M3 := Lib.hid (HJ3.out.keep hw2 (by rw [Hsz.out]; omega))
  have MB : Hid (Below S w w2) := HBX.out.trans (hw2.mono (by rw [Hsz.out]; omega))
  obtain ⟨⟨g0, h0⟩, ⟨g1, h1⟩, ⟨g2, h2⟩, ⟨g3, h3⟩, ⟨g4, h4⟩, ⟨g5, h5⟩, ⟨g6, h6⟩, ⟨g7, h7⟩, ⟨g8, h8⟩⟩ := M3.out.nine
  clear hw2
  go_wp2_with fail
  refine bodyPost_ret (v := .tuple #[intV z p, .nilIface]) (by rw [results_cell_tmp rfl]; go_simp; try rfl) rfl ⟨rfl, ?_⟩
  exact (st9_but w2 (S + 1 + 1) z p).2.1 S w (by omega) MB.out
 ·have hq0 : decide (q = 0) = false := decide_eq_false (fun h => hf (HF.out.1 h))
  rw [hq0] at hne
  rw [resV_over hf]
  clear hf hq0 HF
  unfold wordsV at HC
  unfold intV
  go_enter Tryz.func193, Tryz.ntmps193
  go_wp2_with fail
  refine (HC.out _).mono ?_
  rintro e w1 ⟨rfl, hw1⟩
  have I1 := Lib.hid (HT.out.1.keep hw1 (k4 _ (by omega)))
  have I2 := Lib.hid (HT.out.2.1.keep hw1 (k4 _ (by omega)))
  have I3 := Lib.hid (HT.out.2.2.1.keep hw1 (k4 _ (by omega)))
  have B1 : Hid (Below S w w1) := HT.out.2.2.2.1.trans (hw1.mono (Nat.le_of_lt (k4 _ (by omega))))
  have z1 : S + 1 + 1 + 1 ≤ w1.heap.size := by have := hw1.size; rw [HT.out.2.2.2.2] at this; exact this
  clear hw1 k4 HT hW HC a0 a1 a2 a3 a4 a5 a6 a7 a8 b0 b1 b2 b3 b4 b5 b6 b7 b8 c0 c1 c2 c3 c4 c5 c6 c7 c8 d0 d1 d2 d3 d4 d5 d6 d7 d8
  go_upto_region 2 with fail
  obtain ⟨R, hR⟩ : ∃ R, w1.heap.size = R := ⟨_, rfl⟩
  obtain ⟨wx, hwx⟩ : ∃ wx, (w1.alloc (boxO p 217)).alloc (boxO q 217) = wx := ⟨_, rfl⟩
  have hsz : ((w1.alloc (boxO p 217)).alloc (boxO q 217)).heap.size = R + 1 + 1 := by simp [hR]
  have hs1 : (w1.alloc (boxO p 217)).heap.size = R + 1 := by simp [hR]
  have P2 := (two_more w1 p q 217 217)
  have J1 := (I1.out.alloc (by omega) (boxO p 217)).alloc (Nat.lt_of_lt_of_eq (show S < R + 1 by omega) hs1.symm) (boxO q 217)
  have J2 := (I2.out.alloc (by omega) (boxO p 217)).alloc (Nat.lt_of_lt_of_eq (show S + 1 < R + 1 by omega) hs1.symm) (boxO q 217)
  have J3 := (I3.out.alloc (by omega) (boxO p 217)).alloc (Nat.lt_of_lt_of_eq (show S + 1 + 1 < R + 1 by omega) hs1.symm) (boxO q 217)
  have BX : Below S w ((w1.alloc (boxO p 217)).alloc (boxO q 217)) := (B1.out.alloc (by omega) _).alloc (Nat.le_trans (show S ≤ R + 1 by omega) (Nat.le_of_eq hs1.symm)) _
  rw [hwx] at hsz P2 J1 J2 J3 BX
  rw [hR] at P2 z1
  have hwx' : (w1.alloc (.cells #[.int .u64 (wd p 0 : Int), .int .u64 (wd p 1 : Int), .int .u64 (wd p 2 : Int), .int .u64 (wd p 3 : Int), .int .u64 (wd p 4 : Int), .int .u64 (wd p 5 : Int), .int .u64 (wd p 6 : Int), .int .u64 (wd p 7 : Int)] 217)).alloc (.cells #[.int .u64 (wd q 0 : Int), .int .u64 (wd q 1 : Int), .int .u64 (wd q 2 : Int), .int .u64 (wd q 3 : Int), .int .u64 (wd q 4 : Int), .int .u64 (wd q 5 : Int), .int .u64 (wd q 6 : Int), .int .u64 (wd q 7 : Int)] 217) = wx := hwx
  rw [hwx', hR]
  clear hwx hwx' I1 I2 I3 B1 hs1
  have HP2 := Lib.hid P2
  have HJ3 := Lib.hid J3
  have HBX := Lib.hid BX
  have Hsz := Lib.hid hsz
  have sa := J1.sign
  have sb := J2.sign
  obtain ⟨⟨a0, b0⟩, ⟨a1, b1⟩, ⟨a2, b2⟩, ⟨a3, b3⟩, ⟨a4, b4⟩, ⟨a5, b5⟩, ⟨a6, b6⟩, ⟨a7, b7⟩⟩ := P2.1.eight
  obtain ⟨⟨c0, d0⟩, ⟨c1, d1⟩, ⟨c2, d2⟩, ⟨c3, d3⟩, ⟨c4, d4⟩, ⟨c5, d5⟩, ⟨c6, d6⟩, ⟨c7, d7⟩⟩ := P2.2.eight
  clear P2 J1 J2 BX hsz hR
  obtain ⟨⟨g0, h0⟩, ⟨g1, h1⟩, ⟨g2, h2⟩, ⟨g3, h3⟩, ⟨g4, h4⟩, ⟨g5, h5⟩, ⟨g6, h6⟩, ⟨g7, h7⟩, ⟨g8, h8⟩⟩ := J3.nine
  clear J3
  go_wp2_with fail
  refine bodyPost_ret (v := .tuple #[intV false 0, errno 9]) (by rw [results_cell_tmp rfl]; go_simp; exact ⟨by simp only [intV, wd_zero, Int.natCast_zero], rfl⟩) rfl ⟨rfl, ?_⟩
  have := (st9_but wx (S + 1 + 1) false 0).2.1 S w (by omega) HBX.out
  unfold st9 at this
  simpa only [wd_zero, Int.natCast_zero] using this
end Go.Proofs.YtgkhjeefcflmcaaGreatDoor
namespace Go.Proofs.YtgkhjeefcflmcaaGreatDoor
open Go.RowKit Go.Sort
theorem results_cell2_tmp {fn : Func} {p q u : Tmp} {ty tz : TypeId} (h : fn.results = #[.cell p ty, .cell q tz, .tmp u]) (tmps : Array Value) (P : Program) (w : World) :
  (results fn tmps).run P w = ((asAddr (tmps.getD p undef)).run P w).andThen fun a w₁ => ((loadVar ty a).run P w₁).andThen fun v w₂ => ((asAddr (tmps.getD q undef)).run P w₂).andThen fun b w₃ => ((loadVar tz b).run P w₃).andThen fun x w₄ => .ok (.tuple #[v, x, tmps.getD u undef]) w₄ := by
 simp only [results, h]
 simp [Sem.run_bind, Result.andThen]
theorem four_ints (w : World) (s : Bool) (n : Nat) (t : Bool) (m : Nat) (T U V X : TypeId) : IntAt ((((w.alloc (boxI s n T)).alloc (boxI t m U)).alloc (boxIZ V)).alloc (boxIZ X)) w.heap.size s n ∧ IntAt ((((w.alloc (boxI s n T)).alloc (boxI t m U)).alloc (boxIZ V)).alloc (boxIZ X)) (w.heap.size + 1) t m ∧ IntAt ((((w.alloc (boxI s n T)).alloc (boxI t m U)).alloc (boxIZ V)).alloc (boxIZ X)) (w.heap.size + 1 + 1) false 0 ∧ IntAt ((((w.alloc (boxI s n T)).alloc (boxI t m U)).alloc (boxIZ V)).alloc (boxIZ X)) (w.heap.size + 1 + 1 + 1) false 0 ∧ Below w.heap.size w ((((w.alloc (boxI s n T)).alloc (boxI t m U)).alloc (boxIZ V)).alloc (boxIZ X)) ∧ ((((w.alloc (boxI s n T)).alloc (boxI t m U)).alloc (boxIZ V)).alloc (boxIZ X)).heap.size = w.heap.size + 1 + 1 + 1 + 1 := by
 obtain ⟨h1, h2, h3, h4, h5⟩ := three_ints w s n t m T U V
 refine ⟨h1.alloc (by omega) _, h2.alloc (by omega) _, h3.alloc (by omega) _, ?_, h4.alloc (by omega) _, by simp⟩
 have := IntAt.zero (((w.alloc (boxI s n T)).alloc (boxI t m U)).alloc (boxIZ V)) X
 rwa [h5] at this
end Go.Proofs.YtgkhjeefcflmcaaGreatDoor
