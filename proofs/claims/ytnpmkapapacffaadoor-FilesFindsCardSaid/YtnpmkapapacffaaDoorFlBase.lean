/-
  Files and packages as the program has them: a string and a slice each. Where they are only read ('PksAt'), and where their rows are the call's own ('OwnX').
-/
import Derived.Test.YtnpmkapapacffaaDoorFlZip
import Derived.Test.YtnpmkapapacffaaDoorBts
import Derived.Shelf.SlSortCmp.KitK
namespace Go.Proofs.YtnpmkapapacffaaDoor
open Go.Shelf Go.RowKit Go.Lib Go.Sort Fm

/-- A string and a slice. -/
structure Re where
  s : ByteArray
  A : Option Addr
  n : Nat
  c : Nat
instance : Inhabited Re := ⟨⟨ByteArray.empty, none, 0, 0⟩⟩
def reCells (x : Re) : List Value := [.string x.s, .slice x.A x.n x.c]
theorem re_enc : EncOk reCells 2 := ⟨by omega, fun e => ⟨rfl, fun u hu => by simp [reCells] at hu; rcases hu with rfl | rfl <;> rfl⟩⟩
theorem file_slice : SliceV reCells 2 46 39 := ⟨re_enc, Tryd.underlying46, .agg #[.string ⟨#[]⟩, .slice none 0 0], 40, by omega, by kernel_rfl, by kernel_rfl⟩
theorem pkg_slice : SliceV reCells 2 25 48 := ⟨re_enc, Tryd.underlying25, .agg #[.string ⟨#[]⟩, .slice none 0 0], 40, by omega, by kernel_rfl, by kernel_rfl⟩
theorem res_get {w : World} {B : Nat} {A : Option Addr} {l : List Re} (h : CellsV reCells w B A l) (hp : 0 < l.length) : ∃ b o, A = some ⟨b, o, none⟩ ∧ b < B ∧ ∀ i x, l[i]? = some x → w.cell? ⟨b, o + i * 2, none⟩ = some (.string x.s) ∧ w.cell? ⟨b, o + i * 2 + 1, none⟩ = some (.slice x.A x.n x.c) := by
  obtain ⟨b, o, e, hb, hc⟩ := CellsV.get re_enc h hp
  exact ⟨b, o, e, hb, fun i x hx => ⟨hc i x hx 0 _ rfl, hc i x hx 1 _ rfl⟩⟩
/-- One element's cells, at a place that is there. -/
theorem res_at {w : World} {B : Nat} {A : Option Addr} {l : List Re} (h : CellsV reCells w B A l) {i : Nat} (hi : i < l.length) : ∃ b o x, A = some ⟨b, o, none⟩ ∧ b < B ∧ l[i]? = some x ∧ w.cell? ⟨b, o + i * 2, none⟩ = some (.string x.s) ∧ w.cell? ⟨b, o + i * 2 + 1, none⟩ = some (.slice x.A x.n x.c) := by
  obtain ⟨b, o, e, hb, hc⟩ := res_get h (by omega)
  obtain ⟨h0, h1⟩ := hc i l[i] (List.getElem?_eq_getElem hi)
  exact ⟨b, o, l[i], e, hb, List.getElem?_eq_getElem hi, h0, h1⟩
/-- The one element of a slice literal, in a new block. -/
theorem one_re (w : World) (s : ByteArray) (A : Option Addr) (n c : Nat) (T : TypeId) : CellsV reCells (w.alloc (.cells #[.string s, .slice A n c] T)) (w.heap.size + 1) (some ⟨w.heap.size, 0, none⟩) [⟨s, A, n, c⟩] := fun _ => by
  refine ⟨_, _, rfl, by omega, fun j u hu => ?_⟩
  match j, hu with
  | 0, hu => cases hu; rw [World.cell?_alloc_at _ _ _ _ rfl]; rfl
  | 1, hu => cases hu; rw [World.cell?_alloc_at _ _ _ _ rfl]; rfl

/-! ### To be read -/
/-- x is the file f, in blocks below B. -/
def IsFl (w : World) (B : Nat) (x : Re) (f : Fl) : Prop := x.s = f.name ∧ x.n = f.text.length ∧ x.n ≤ x.c ∧ x.c ≤ 9223372036854775807 ∧ Byts w B x.A f.text
def FlsAt (w : World) (B : Nat) (A : Option Addr) (fs : List Fl) : Prop := ∃ xs, CellsV reCells w B A xs ∧ Zip (IsFl w B) xs fs
def IsPk (w : World) (B : Nat) (x : Re) (p : Pk) : Prop := x.s = p.path ∧ x.n = p.files.length ∧ x.n ≤ x.c ∧ x.c ≤ 9223372036854775807 ∧ FlsAt w B x.A p.files
def PksAt (w : World) (B : Nat) (A : Option Addr) (ps : List Pk) : Prop := ∃ xs, CellsV reCells w B A xs ∧ Zip (IsPk w B) xs ps
section
variable {w w' : World} {B B' : Nat} {A : Option Addr} {x : Re}
theorem IsFl.below {f : Fl} (h : IsFl w B x f) (hb : Below B' w w') (hB : B ≤ B') : IsFl w' B x f := ⟨h.1, h.2.1, h.2.2.1, h.2.2.2.1, h.2.2.2.2.below hb hB⟩
theorem IsFl.more {f : Fl} (h : IsFl w B x f) (hB : B ≤ B') : IsFl w B' x f := ⟨h.1, h.2.1, h.2.2.1, h.2.2.2.1, h.2.2.2.2.more hB⟩
theorem FlsAt.below {fs : List Fl} (h : FlsAt w B A fs) (hb : Below B' w w') (hB : B ≤ B') : FlsAt w' B A fs := by
  obtain ⟨xs, h1, h2⟩ := h
  exact ⟨xs, h1.below hb hB, h2.mono fun _ _ h => h.below hb hB⟩
theorem FlsAt.more {fs : List Fl} (h : FlsAt w B A fs) (hB : B ≤ B') : FlsAt w B' A fs := by
  obtain ⟨xs, h1, h2⟩ := h
  exact ⟨xs, h1.more hB, h2.mono fun _ _ h => h.more hB⟩
theorem FlsAt.on {fs : List Fl} (h : FlsAt w B A fs) (hB : B ≤ w.heap.size) (hb : Below w.heap.size w w') : FlsAt w' w'.heap.size A fs := (h.below hb hB).more (Nat.le_trans hB hb.size)
theorem FlsAt.nil : FlsAt w B A [] := ⟨[], CellsV.nil, Zip.nil⟩
theorem IsPk.below {p : Pk} (h : IsPk w B x p) (hb : Below B' w w') (hB : B ≤ B') : IsPk w' B x p := ⟨h.1, h.2.1, h.2.2.1, h.2.2.2.1, h.2.2.2.2.below hb hB⟩
theorem IsPk.more {p : Pk} (h : IsPk w B x p) (hB : B ≤ B') : IsPk w B' x p := ⟨h.1, h.2.1, h.2.2.1, h.2.2.2.1, h.2.2.2.2.more hB⟩
theorem PksAt.below {ps : List Pk} (h : PksAt w B A ps) (hb : Below B' w w') (hB : B ≤ B') : PksAt w' B A ps := by
  obtain ⟨xs, h1, h2⟩ := h
  exact ⟨xs, h1.below hb hB, h2.mono fun _ _ h => h.below hb hB⟩
theorem PksAt.more {ps : List Pk} (h : PksAt w B A ps) (hB : B ≤ B') : PksAt w B' A ps := by
  obtain ⟨xs, h1, h2⟩ := h
  exact ⟨xs, h1.more hB, h2.mono fun _ _ h => h.more hB⟩
theorem PksAt.on {ps : List Pk} (h : PksAt w B A ps) (hB : B ≤ w.heap.size) (hb : Below w.heap.size w w') : PksAt w' w'.heap.size A ps := (h.below hb hB).more (Nat.le_trans hB hb.size)
theorem PksAt.nil : PksAt w B A [] := ⟨[], CellsV.nil, Zip.nil⟩
/-- One package at a place that is there. -/
theorem PksAt.at {ps : List Pk} (h : PksAt w B A ps) {i : Nat} {p : Pk} (hp : ps[i]? = some p) : ∃ b o F m c, A = some ⟨b, o, none⟩ ∧ b < B ∧ w.cell? ⟨b, o + i * 2, none⟩ = some (.string p.path) ∧ w.cell? ⟨b, o + i * 2 + 1, none⟩ = some (.slice F m c) ∧ m = p.files.length ∧ m ≤ c ∧ c ≤ 9223372036854775807 ∧ FlsAt w B F p.files := by
  obtain ⟨xs, h1, h2⟩ := h
  obtain ⟨x, hx, hr⟩ := h2.getR hp
  obtain ⟨b, o, y, e, hb, hy, c0, c1⟩ := res_at h1 (List.getElem?_eq_some_iff.1 hx).1
  rw [hx] at hy
  cases hy
  exact ⟨b, o, x.A, x.n, x.c, e, hb, hr.1 ▸ c0, c1, hr.2⟩
/-- One file at a place that is there. -/
theorem FlsAt.at {fs : List Fl} (h : FlsAt w B A fs) {i : Nat} {f : Fl} (hp : fs[i]? = some f) : ∃ b o F m c, A = some ⟨b, o, none⟩ ∧ b < B ∧ w.cell? ⟨b, o + i * 2, none⟩ = some (.string f.name) ∧ w.cell? ⟨b, o + i * 2 + 1, none⟩ = some (.slice F m c) ∧ m = f.text.length ∧ m ≤ c ∧ c ≤ 9223372036854775807 ∧ Byts w B F f.text := by
  obtain ⟨xs, h1, h2⟩ := h
  obtain ⟨x, hx, hr⟩ := h2.getR hp
  obtain ⟨b, o, y, e, hb, hy, c0, c1⟩ := res_at h1 (List.getElem?_eq_some_iff.1 hx).1
  rw [hx] at hy
  cases hy
  exact ⟨b, o, x.A, x.n, x.c, e, hb, hr.1 ▸ c0, c1, hr.2⟩
end

/-! ### Of the call's own -/
/-- Of the blocks that were there only those of bs may have turned. -/
structure But (w w' : World) (bs : List Nat) : Prop where
  os : w'.os = w.os
  tape : w'.tape = w.tape
  output : w'.output = w.output
  size : w.heap.size ≤ w'.heap.size
  block : ∀ k, k < w.heap.size → k ∉ bs → w'.heap[k]? = w.heap[k]?
theorem But.refl (w : World) (bs : List Nat) : But w w bs := ⟨rfl, rfl, rfl, Nat.le_refl _, fun _ _ _ => rfl⟩
theorem But.trans {a b c : World} {bs : List Nat} (h : But a b bs) (k : But b c bs) : But a c bs :=
  ⟨k.os.trans h.os, k.tape.trans h.tape, k.output.trans h.output, Nat.le_trans h.size k.size, fun i hi hn => (k.block i (Nat.lt_of_lt_of_le hi h.size) hn).trans (h.block i hi hn)⟩
theorem But.of_below {w w' : World} {bs : List Nat} (h : Below w.heap.size w w') : But w w' bs := ⟨h.os, h.tape, h.output, h.size, fun k hk _ => h.block k hk⟩
theorem But.to_below {w w' : World} {B : Nat} {bs : List Nat} (h : But w w' bs) (hB : B ≤ w.heap.size) (hb : ∀ b ∈ bs, B ≤ b) : Below B w w' := ⟨h.os, h.tape, h.output, h.size, fun i hi => h.block i (by omega) fun hm => by have := hb i hm; omega⟩
theorem But.cell {w w' : World} {bs : List Nat} (h : But w w' bs) {p : Addr} (hp : p.block < w.heap.size) (hn : p.block ∉ bs) : w'.cell? p = w.cell? p := World.cell?_of_block (w := w) (h.block _ hp hn)
theorem ownsRow_but {w w' : World} {base : Nat} {e : TypeId} {size : Nat} {v : Value} {n : Nat} {xs : List Value} {bs : List Nat} (h : w.ownsRow base e size v n xs) (k : But w w' bs) (hn : ∀ g, v.ownBlock = some g → g ∉ bs) : w'.ownsRow base e size v n xs := by
  obtain ⟨h1, h2⟩ := h
  refine ⟨h1, ?_⟩
  rcases h2 with h2 | ⟨g, cap, cur, hv, hg, hh, r⟩
  · exact .inl h2
  · refine .inr ⟨g, cap, cur, hv, hg, ?_, r⟩
    rw [k.block g (Array.getElem?_eq_some_iff.1 hh).1 (hn g (by rw [hv]; rfl))]
    exact hh
/-- A text in a block that was there before the call, or in one of bytes. -/
def TxtAt (w : World) (base : Nat) (A : Option Addr) (l : List Int) : Prop :=
  U.Byt l ∧ (0 < l.length → ∃ b o, A = some ⟨b, o, none⟩ ∧ b < w.heap.size ∧ (b < base ∨ ∃ cs fr, w.heap[b]? = some (.cells cs 5 fr)) ∧ ∀ i x, l[i]? = some x → w.cell? ⟨b, o + i, none⟩ = some (.int .u8 x))
theorem TxtAt.byts {w : World} {base : Nat} {A : Option Addr} {l : List Int} (h : TxtAt w base A l) : Byts w w.heap.size A l :=
  ⟨h.1, fun hp => by
    obtain ⟨b, o, e, hb, _, hc⟩ := h.2 hp
    exact ⟨b, o, e, hb, hc⟩⟩
theorem TxtAt.old {w : World} {base : Nat} {A : Option Addr} {l : List Int} (h : Byts w base A l) (hB : base ≤ w.heap.size) : TxtAt w base A l :=
  ⟨h.1, fun hp => by
    obtain ⟨b, o, e, hb, hc⟩ := h.2 hp
    exact ⟨b, o, e, by omega, .inl hb, hc⟩⟩
/-- Rows of the call's own: their blocks bear a row's type and are not older than the call. -/
def RowBlk (w : World) (base g : Nat) : Prop := base ≤ g ∧ ∃ cs T, w.heap[g]? = some (.cells cs T) ∧ (T = 39 ∨ T = 48)
theorem TxtAt.but {w w' : World} {base : Nat} {A : Option Addr} {l : List Int} {bs : List Nat} (h : TxtAt w base A l) (k : But w w' bs) (hb : ∀ b ∈ bs, RowBlk w base b) : TxtAt w' base A l :=
  ⟨h.1, fun hp => by
    obtain ⟨b, o, e, hlt, ht, hc⟩ := h.2 hp
    have hn : b ∉ bs := fun hm => by
      obtain ⟨h1, cs, T, h2, h3⟩ := hb b hm
      rcases ht with ht | ⟨cs', fr, ht⟩
      · omega
      · rw [ht] at h2
        cases h2
        rcases h3 with h3 | h3 <;> exact absurd h3 (by decide)
    refine ⟨b, o, e, Nat.lt_of_lt_of_le hlt k.size, ?_, fun i x hx => (k.cell (p := ⟨b, o + i, none⟩) hlt hn).trans (hc i x hx)⟩
    rcases ht with ht | ⟨cs', fr, ht⟩
    · exact .inl ht
    · exact .inr ⟨cs', fr, (k.block b hlt hn).trans ht⟩⟩
def IsFlT (w : World) (base : Nat) (x : Re) (f : Fl) : Prop := x.s = f.name ∧ x.n = f.text.length ∧ x.n ≤ x.c ∧ x.c ≤ 9223372036854775807 ∧ TxtAt w base x.A f.text
theorem IsFlT.but {w w' : World} {base : Nat} {x : Re} {f : Fl} {bs : List Nat} (h : IsFlT w base x f) (k : But w w' bs) (hb : ∀ b ∈ bs, RowBlk w base b) : IsFlT w' base x f := ⟨h.1, h.2.1, h.2.2.1, h.2.2.2.1, h.2.2.2.2.but k hb⟩
theorem IsFlT.read {w : World} {base : Nat} {x : Re} {f : Fl} (h : IsFlT w base x f) : IsFl w w.heap.size x f := ⟨h.1, h.2.1, h.2.2.1, h.2.2.2.1, h.2.2.2.2.byts⟩
/-- A row of files of the call's own, at block g. -/
def RowAt (w : World) (base g n c : Nat) (fs : List Fl) : Prop := ∃ ys, OwnV reCells 2 39 w base (.slice (some ⟨g, 0, none⟩) n c) ys ∧ ys.length = n ∧ Zip (IsFlT w base) ys fs
def IsPkT (w : World) (base : Nat) (x : Re) (p : Pk) : Prop := x.s = p.path ∧ x.n = p.files.length ∧ ∃ g, x.A = some ⟨g, 0, none⟩ ∧ RowAt w base g x.n x.c p.files
/-- Packages of the call's own: x their row, no two of them with one row of files. -/
structure OwnX (w : World) (base : Nat) (v : Value) (xs : List Re) (ps : List Pk) : Prop where
  row : OwnV reCells 2 48 w base v xs
  apart : xs.Pairwise fun x y => x.A ≠ y.A
  zip : Zip (IsPkT w base) xs ps
theorem own_blk {α : Type} {f : α → List Value} {size : Nat} {E : TypeId} {w : World} {base : Nat} {g n c : Nat} {l : List α} (h : OwnV f size E w base (.slice (some ⟨g, 0, none⟩) n c) l) : base ≤ g ∧ g < w.heap.size ∧ l.length = n ∧ n ≤ c ∧ c ≤ 9223372036854775807 ∧ ∃ cs, w.heap[g]? = some (.cells cs E) ∧ cs.size = c * size := by
  rcases h.2 with ⟨hv, _⟩ | ⟨g', cap, cur, hv, hg, hh, hnc, hcm, hsz, _⟩
  · cases hv
  · cases hv
    unfold maxLen at hcm
    exact ⟨hg, (Array.getElem?_eq_some_iff.1 hh).1, rfl, hnc, hcm, cur, hh, hsz⟩
theorem RowAt.blk {w : World} {base g n c : Nat} {fs : List Fl} (h : RowAt w base g n c fs) : RowBlk w base g := by
  obtain ⟨ys, h1, _⟩ := h
  obtain ⟨h2, _, _, _, _, cs, h3, _⟩ := own_blk h1
  exact ⟨h2, cs, _, h3, .inl rfl⟩
theorem RowAt.but {w w' : World} {base g n c : Nat} {fs : List Fl} {bs : List Nat} (h : RowAt w base g n c fs) (k : But w w' bs) (hb : ∀ b ∈ bs, RowBlk w base b) (hg : g ∉ bs) : RowAt w' base g n c fs := by
  obtain ⟨ys, h1, h2, h3⟩ := h
  exact ⟨ys, ownsRow_but h1 k (fun q hq => by cases hq; exact hg), h2, h3.mono fun _ _ h => h.but k hb⟩
theorem RowAt.read {w : World} {base g n c : Nat} {fs : List Fl} (h : RowAt w base g n c fs) : FlsAt w w.heap.size (some ⟨g, 0, none⟩) fs := by
  obtain ⟨ys, h1, h2, h3⟩ := h
  obtain ⟨A, cap, hv, _, _, hc⟩ := h1.cells
  cases hv
  exact ⟨ys, hc, h3.mono fun _ _ h => h.read⟩
theorem IsPkT.read {w : World} {base : Nat} {x : Re} {p : Pk} (h : IsPkT w base x p) : IsPk w w.heap.size x p := by
  obtain ⟨h1, h2, g, h3, h4⟩ := h
  obtain ⟨ys, k1, k2, k3⟩ := id h4
  have hb := own_blk k1
  exact ⟨h1, h2, hb.2.2.2.1, hb.2.2.2.2.1, h3 ▸ h4.read⟩
theorem OwnX.read {w : World} {base : Nat} {v : Value} {xs : List Re} {ps : List Pk} (h : OwnX w base v xs ps) : ∃ A cap, v = .slice A ps.length cap ∧ ps.length ≤ cap ∧ cap ≤ 9223372036854775807 ∧ PksAt w w.heap.size A ps := by
  obtain ⟨A, cap, hv, h1, h2, h3⟩ := h.row.cells
  rw [h.zip.len] at hv h1
  exact ⟨A, cap, hv, h1, h2, xs, h3, h.zip.mono fun _ _ h => h.read⟩
theorem IsPkT.but {w w' : World} {base : Nat} {x : Re} {p : Pk} {bs : List Nat} (h : IsPkT w base x p) (k : But w w' bs) (hb : ∀ b ∈ bs, RowBlk w base b) (hn : ∀ g, x.A = some ⟨g, 0, none⟩ → g ∉ bs) : IsPkT w' base x p := by
  obtain ⟨h1, h2, g, h3, h4⟩ := h
  exact ⟨h1, h2, g, h3, h4.but k hb (hn g h3)⟩
theorem OwnX.below {w w' : World} {base : Nat} {v : Value} {xs : List Re} {ps : List Pk} (h : OwnX w base v xs ps) (k : Below w.heap.size w w') : OwnX w' base v xs ps :=
  ⟨h.row.below k, h.apart, h.zip.mono fun _ _ h => h.but (bs := []) (But.of_below k) (by simp) (by simp)⟩
/-- One package's row of files has turned. -/
theorem OwnX.turn {w w' : World} {base : Nat} {v : Value} {xs : List Re} {ps : List Pk} (h : OwnX w base v xs ps) {i g : Nat} {x : Re} {p p' : Pk} (hx : xs[i]? = some x) (hp : ps[i]? = some p) (hg : x.A = some ⟨g, 0, none⟩) (k : But w w' [g]) (hpath : p'.path = p.path) (hlen : p'.files.length = p.files.length) (hr : RowAt w' base g x.n x.c p'.files) : OwnX w' base v xs (ps.set i p') := by
  have hr0 := h.zip.rel i x p hx hp
  obtain ⟨h1, h2, g', h3, h4⟩ := hr0
  rw [hg] at h3
  cases h3
  have hblk := h4.blk
  have hbs : ∀ b ∈ [g], RowBlk w base b := fun b hb => by rw [List.mem_singleton.1 hb]; exact hblk
  refine ⟨ownsRow_but h.row k fun q hq => ?_, h.apart, ?_⟩
  · intro hm
    rw [List.mem_singleton.1 hm] at hq
    rcases h.row.2 with ⟨hv, _⟩ | ⟨g', cap, cur, hv, _, hh, _⟩
    · rw [hv] at hq; cases hq
    · rw [hv] at hq
      cases hq
      obtain ⟨ys, k1, _⟩ := h4
      obtain ⟨_, _, _, _, _, cs, k2, _⟩ := own_blk k1
      rw [hh] at k2
      cases k2
  · have hxs : xs.set i x = xs := by
      apply List.ext_getElem?
      intro j
      rw [List.getElem?_set]
      split
      · rename_i e
        subst e
        rw [hx]
        split
        · rfl
        · rename_i hn
          exact absurd (List.getElem?_eq_some_iff.1 hx).1 hn
      · rfl
    have hz := h.zip.set (i := i) (S := IsPkT w' base) (x' := x) (y' := p') (fun j y q hj hy hq hyq => hyq.but k hbs fun g2 hg2 hm => ?_) ⟨h1.trans hpath.symm, h2.trans hlen.symm, g, hg, hr⟩
    · rw [hxs] at hz; exact hz
    · rw [List.mem_singleton.1 hm] at hg2
      have hne : y.A ≠ x.A := by
        have hpw := List.pairwise_iff_getElem.1 h.apart
        have hji := (List.getElem?_eq_some_iff.1 hy)
        have hii := (List.getElem?_eq_some_iff.1 hx)
        obtain ⟨a1, a2⟩ := hji
        obtain ⟨b1, b2⟩ := hii
        rcases Nat.lt_or_gt_of_ne hj with hlt | hlt
        · have := hpw j i a1 b1 hlt; rw [a2, b2] at this; exact this
        · have := hpw i j b1 a1 hlt; rw [a2, b2] at this; exact fun e => this e.symm
      exact hne (hg2.trans hg.symm)
end Go.Proofs.YtnpmkapapacffaaDoor
