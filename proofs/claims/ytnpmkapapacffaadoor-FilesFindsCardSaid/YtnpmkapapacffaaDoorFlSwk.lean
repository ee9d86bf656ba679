/-
  The worlds of a sort, or of exchanges, in a row of a string and a slice each: its cells; what an exchange and a test want; the row behind it.
-/
import Derived.Test.YtnpmkapapacffaaDoorFlBase
import Derived.Deep.LoopGhost
import Derived.Shelf.SlSortCmp.QuietGrown
import Derived.Lib.Bytealg
namespace Go.Proofs.YtnpmkapapacffaaDoor
open Go.Shelf Go.RowKit Go.Lib Go.Sort Fm

theorem mixedA : Tryd.prog.follows .mixedOrders = true := by kernel_rfl
theorem re_one (x : Re) : ∀ v ∈ reCells x, v.oneCell' = true := (re_enc.2 x).2
theorem swk_cells {w0 W : World} {blk off : Nat} {d0 dk : Array Re} (h : SWK reCells 2 w0 blk off dk W) (R : RowK reCells 2 w0 blk off d0) (hs : dk.size = d0.size) {i : Nat} (hi : i < dk.size) :
    W.cell? ⟨blk, off + i * 2, none⟩ = some (.string dk[i]!.s) ∧ W.cell? ⟨blk, off + i * 2 + 1, none⟩ = some (.slice dk[i]!.A dk[i]!.n dk[i]!.c) ∧ W.frozen? ⟨blk, off + i * 2, none⟩ = false ∧ W.frozen? ⟨blk, off + i * 2 + 1, none⟩ = false := by
  have hh := h.holds R.hblk R.hH hs
  have c0 := HoldsK.cell hh hi (c := 0) (by omega)
  have c1 := HoldsK.cell hh hi (c := 1) (by omega)
  exact ⟨c0.1, c1.1, c0.2, c1.2⟩
/-- The names' order. -/
def rk (x : Re) : List UInt8 := x.s.data.toList
def cmpRe (x y : Re) : Int := compareBytes (rk x) (rk y)
theorem cmp_less : ∀ a b : List UInt8, decide (compareBytes a b < 0) = Op.bytesLess a b
  | [], [] => rfl
  | [], _ :: _ => rfl
  | _ :: _, [] => rfl
  | a :: x, b :: y => by
    rw [compareBytes, Op.bytesLess, ← cmp_less x y]
    by_cases h1 : a < b
    · simp [h1]
    · by_cases h2 : b < a
      · have : ¬ a = b := fun e => by rw [e] at h2; exact h1 (e ▸ h2)
        simp [h1, h2, this]
      · have : a = b := UInt8.le_antisymm (UInt8.not_lt.1 h2) (UInt8.not_lt.1 h1)
        simp [this]
theorem lt_cmp : ltOf cmpRe = Stb.lt rk := by
  funext x y
  unfold ltOf cmpRe Stb.lt
  exact cmp_less _ _
theorem lt_true {cf : Re → Re → Int} {x y : Re} : ltOf cf x y = true ↔ cf x y < 0 := by unfold ltOf; simp
theorem lt_false {cf : Re → Re → Int} {x y : Re} : ltOf cf x y = false ↔ ¬ cf x y < 0 := by unfold ltOf; simp
/-- What is asked of the function that compares. -/
structure OrdK (cf : Re → Re → Int) (g : Nat) (cb : Array Value) (blk off size : Nat) (w0 : World) : Prop where
  eg : ∀ args w, (callFunc g args).run Tryd.prog w = .ok (.enter g args) w
  cmp : CmpLays Tryd.prog g cb reCells 2 cf blk off size w0
theorem swk_test {cf : Re → Re → Int} {g : Nat} {cb : Array Value} {blk off : Nat} {d0 dk : Array Re} {w0 W : World} (O : OrdK cf g cb blk off d0.size w0) (R : RowK reCells 2 w0 blk off d0) (S : SWK reCells 2 w0 blk off dk W) (hs : dk.size = d0.size) {i j : Nat} (hi : i < dk.size) (hj : j < dk.size) :
    (∀ n os, (grow (W.drewN n) os).cell? ⟨blk, off + i * 2, none⟩ = some (.string dk[i]!.s)) ∧ (∀ n os, (grow (W.drewN n) os).cell? ⟨blk, off + i * 2 + 1, none⟩ = some (.slice dk[i]!.A dk[i]!.n dk[i]!.c)) ∧
    (∀ n os, (grow (W.drewN n) os).cell? ⟨blk, off + j * 2, none⟩ = some (.string dk[j]!.s)) ∧ (∀ n os, (grow (W.drewN n) os).cell? ⟨blk, off + j * 2 + 1, none⟩ = some (.slice dk[j]!.A dk[j]!.n dk[j]!.c)) ∧
    (∀ n os, Calls Tryd.prog g (#[.agg #[.string dk[i]!.s, .slice dk[i]!.A dk[i]!.n dk[i]!.c], .agg #[.string dk[j]!.s, .slice dk[j]!.A dk[j]!.n dk[j]!.c]] ++ cb) (grow (W.drewN n) os) fun e w' => e = .returned (.int .i64 (cf dk[i]! dk[j]!)) ∧ ∃ q os', w' = grow ((grow (W.drewN n) os).drewN q) os') :=
  ⟨fun n os => (swk_cells (S.grown n os) R hs hi).1, fun n os => (swk_cells (S.grown n os) R hs hi).2.1, fun n os => (swk_cells (S.grown n os) R hs hj).1, fun n os => (swk_cells (S.grown n os) R hs hj).2.1, fun n os => S.cmp O.cmp hs dk[i]! dk[j]! n os⟩
theorem swk_swap {blk off : Nat} {d0 dk : Array Re} {w0 W : World} (R : RowK reCells 2 w0 blk off d0) (S : SWK reCells 2 w0 blk off dk W) {i j : Nat} (hi : i < dk.size) (hj : j < dk.size) :
    SWK reCells 2 w0 blk off (swp dk i j) ((((W.drew.setCell ⟨blk, off + i * 2, none⟩ (.string dk[j]!.s)).setCell ⟨blk, off + i * 2 + 1, none⟩ (.slice dk[j]!.A dk[j]!.n dk[j]!.c)).setCell ⟨blk, off + j * 2, none⟩ (.string dk[i]!.s)).setCell ⟨blk, off + j * 2 + 1, none⟩ (.slice dk[i]!.A dk[i]!.n dk[i]!.c)) :=
  S.swapped R i j hi hj
theorem swk_block {w0 W : World} {blk off : Nat} {dk : Array Re} (h : SWK reCells 2 w0 blk off dk W) {k : Nat} (hk : k < w0.heap.size) : W.heap[k]? = (w0.heap[k]?).map fun o => if k = blk then onCells (putCells id off (flatK reCells 2 dk)) o else o := by
  obtain ⟨n, os, rfl⟩ := h
  unfold sortWorldK
  rw [heap_grow_old _ _ (by rw [size_putRowK]; exact hk)]
  unfold putRowK putRow mapBlock
  show (w0.heap.modify blk _)[k]? = _
  rw [Array.getElem?_modify]
  by_cases e : blk = k
  · rw [if_pos e]
    congr 1
    funext o
    rw [if_pos e.symm]
  · rw [if_neg e]
    have : (fun o : Obj => if k = blk then onCells (putCells id off (flatK reCells 2 dk)) o else o) = id := by funext o; rw [if_neg (fun h => e h.symm)]; rfl
    rw [this, Option.map_id]; rfl
theorem swk_but {w0 W : World} {blk off : Nat} {dk : Array Re} (h : SWK reCells 2 w0 blk off dk W) : But w0 W [blk] := by
  have h0 := h
  obtain ⟨n, os, rfl⟩ := h0
  refine ⟨rfl, rfl, rfl, h.le, fun k hk hn => ?_⟩
  rw [swk_block h hk]
  have : (fun o : Obj => if k = blk then onCells (putCells id off (flatK reCells 2 dk)) o else o) = id := by funext o; rw [if_neg (by simpa using hn)]; rfl
  rw [this, Option.map_id]; rfl
theorem flatK_get (d : Array Re) (j : Nat) (hj : j < d.size * 2) : (d.toList.flatMap reCells)[j]? = some (flatK reCells 2 d)[j]! := by
  have h1 : d.toList[j / 2]? = some d[j / 2]! := by
    rw [List.getElem?_eq_getElem (by rw [Array.length_toList]; omega)]
    simp [show j / 2 < d.size by omega]
  have h2 : (reCells d[j / 2]!)[j % 2]? = some (reCells d[j / 2]!)[j % 2]! := by
    rw [List.getElem!_eq_getElem?_getD, List.getElem?_eq_getElem (by show j % 2 < 2; omega)]
    rfl
  have h3 := flat_get re_enc h1 h2
  rw [show j / 2 * 2 + j % 2 = j by omega] at h3
  rw [h3, get_flatK _ _ _ _ hj]
/-- A slice of the call's own as a sort's row. -/
theorem own_row {E : TypeId} {w : World} {base g n cap : Nat} {l : List Re} (h : OwnV reCells 2 E w base (.slice (some ⟨g, 0, none⟩) n cap) l) : RowK reCells 2 w g 0 l.toArray := by
  have hn := (own_blk h).2.2.1
  subst hn
  refine ⟨fun _ => rfl, re_one, fun j hj => ?_, (World.ownsRow.lt h g rfl).2⟩
  have hj' : j < l.length * 2 := by simpa using hj
  refine ⟨?_, by rw [Nat.zero_add]; exact World.ownsRow.frozenAt h j⟩
  have hf := flatK_get l.toArray j (by simpa using hj')
  have := World.ownsRow.cells h (g := g) rfl j _ hf
  have hp : (⟨g, 0, none⟩ : Addr).add j = ⟨g, 0 + j, none⟩ := by unfold Addr.add; split <;> simp_all
  rw [hp] at this
  exact this
/-- .. and back. -/
theorem swk_own {E : TypeId} {w w' : World} {base g n cap : Nat} {l : List Re} (h : OwnV reCells 2 E w base (.slice (some ⟨g, 0, none⟩) n cap) l) {d : Array Re} (hs : d.size = l.length) (S : SWK reCells 2 w g 0 d w') : OwnV reCells 2 E w' base (.slice (some ⟨g, 0, none⟩) n cap) d.toList := by
  obtain ⟨_, hg⟩ := h
  rcases hg with ⟨hv, _⟩ | ⟨g', cap', cur, hv, hbg, hh, hnc, hcm, hsz, _⟩
  · cases hv
  · cases hv
    have hlt := (Array.getElem?_eq_some_iff.1 hh).1
    refine ⟨by rw [flat_length re_enc], .inr ⟨g, cap, putCells id 0 (flatK reCells 2 d) cur, by simp [hs], hbg, ?_, by simpa [hs] using hnc, hcm, by simp [putCells, hsz], ?_⟩⟩
    · rw [swk_block S hlt, hh]
      simp [onCells]
    · apply List.ext_getElem?
      intro k
      rw [List.getElem?_take]
      split
      · rename_i hk
        rw [Array.length_toList] at hk
        rw [flatK_get d k hk]
        have hkc : k < cur.size := by rw [hsz]; have := Nat.mul_le_mul_right 2 hnc; omega
        rw [Array.getElem?_toList, putCells, Array.getElem?_mapIdx, Array.getElem?_eq_getElem hkc]
        simp [hk]
      · rename_i hk
        rw [List.getElem?_eq_none (by rw [flat_length re_enc]; omega)]
theorem swp_self {α : Type} [Inhabited α] (d : Array α) {i : Nat} (hi : i < d.size) : swp d i i = d := by
  apply Array.ext
  · rw [size_swp]
  · intro k h1 h2
    have e := swp_get d hi hi k
    rw [getElem!_pos _ k h1] at e
    rw [e]
    by_cases e2 : k = i
    · rw [if_pos e2, ← e2]; exact getElem!_pos d k h2
    · rw [if_neg e2, if_neg e2]; exact getElem!_pos d k h2
end Go.Proofs.YtnpmkapapacffaaDoor
