/-
  files' names: the set of those that were met; (names).meet.
-/
import Derived.Test.YtnpmkapapacffaaDoorFlPath
import Derived.Test.YtnpmkapapacffaaDoorLkIs
import Derived.Maps.OwnSet
import Derived.Maps.OwnOps
import Derived.StringKeys
namespace Go.Proofs.YtnpmkapapacffaaDoor
open Go.Shelf Go.RowKit Go.Lib Go.Sort Go.Maps Fm

theorem strLaw : Keyed Tryd.prog 9 := string_keyed Tryd.underlying9
theorem zeroU (w : World) : (zeroValue 108).run Tryd.prog w = .ok (.agg #[]) w := by kernel_rfl
def nameKey (s : ByteArray) : Lit := .string s.data.toList
/-- The map in block b is the set of the names L. -/
def NamesAt (w : World) (b : Nat) (L : List ByteArray) : Prop := w.ownsMap Tryd.prog 9 (unitElem (H := Unit)) b L.length (setOf (.agg []) (L.map nameKey))
theorem nameKey_of {s : ByteArray} (hs : s.size ≤ 1000) : keyOf Tryd.prog 9 (.string s) = some (nameKey s) := Go.WideMaps.keyOf_string_mk Tryd.underlying9 (by unfold maxLen; omega)
theorem names_has (L : List ByteArray) (s : ByteArray) : Maps.has (setOf (H := Unit) (.agg []) (L.map nameKey)) (nameKey s) = true ↔ s ∈ L := by
  rw [has_setOf _ _ _ (by intro x hx; obtain ⟨y, _, rfl⟩ := List.mem_map.1 hx; trivial), List.any_eq_true]
  constructor
  · rintro ⟨x, hx, h⟩
    obtain ⟨y, hy, rfl⟩ := List.mem_map.1 hx
    have : y = s := bytes_inj (by simpa [nameKey, Lit.sameKey] using h)
    exact this ▸ hy
  · intro h
    exact ⟨nameKey s, List.mem_map.2 ⟨s, h, rfl⟩, by simp [nameKey, Lit.sameKey]⟩
theorem NamesAt.below {w w' : World} {b : Nat} {L : List ByteArray} (h : NamesAt w b L) (k : Below w.heap.size w w') : NamesAt w' b L :=
  World.ownsMap.kept h (row := none) ⟨k.os, k.tape, k.output, k.size, fun i hi _ => k.block i hi⟩ (by simp)
theorem NamesAt.but {w w' : World} {b : Nat} {L : List ByteArray} (h : NamesAt w b L) {g : Nat} (k : But w w' [g]) (hg : b ≠ g) : NamesAt w' b L :=
  World.ownsMap.kept h (row := some g) ⟨k.os, k.tape, k.output, k.size, fun i hi hn => k.block i hi (by simp; exact fun e => hn (by rw [e]))⟩ (by simpa using hg)
theorem NamesAt.lt {w : World} {b : Nat} {L : List ByteArray} (h : NamesAt w b L) : b < w.heap.size := World.ownsMap.lt h
set_option maxHeartbeats 2000000 in
theorem meetP_bad (s : ByteArray) (b : Nat) (L : List ByteArray) (hs : s.size ≤ 1000) (w : World) (hn : NamesAt w b L) (hv : Hid (pathOk s.data.toList = false)) :
    Calls Tryd.prog 51 #[.map (some b), .string s, .func (.func 9) #[] #[]] w fun e w' => e = .returned (errno 8) ∧ NamesAt w' b L ∧ But w w' [b] := by
  have H := Lib.hid hn
  have HP := Lib.hid (Path_run s false (by omega) hv w)
  clear hn
  unfold errno
  go_enter Tryd.func51, Tryd.ntmps51
  go_wp2_with (go_at_call 9; refine HP.out.mono ?_; rintro e w1 ⟨rfl, hw1⟩)
  go_ret
  exact ⟨rfl, H.out.below hw1, But.of_below hw1⟩
set_option maxHeartbeats 2000000 in
theorem meetP_dup (s : ByteArray) (b : Nat) (L : List ByteArray) (hs : s.size ≤ 1000) (w : World) (hn : NamesAt w b L) (hv : Hid (pathOk s.data.toList = true)) (hd : s ∈ L) :
    Calls Tryd.prog 51 #[.map (some b), .string s, .func (.func 9) #[] #[]] w fun e w' => e = .returned (errno 6) ∧ NamesAt w' b L ∧ But w w' [b] := by
  have H := Lib.hid hn
  have HP := Lib.hid (Path_run s true (by omega) hv w)
  have HH : Hid (Maps.has (setOf (H := Unit) (.agg []) (L.map nameKey)) (nameKey s) = true) := by show _ = _; exact (names_has L s).2 hd
  have HK := Lib.hid (nameKey_of hs)
  clear hn hd
  unfold errno
  go_enter Tryd.func51, Tryd.ntmps51
  go_wp2_with (first
    | (go_at_call 9; refine HP.out.mono ?_; rintro e w1 ⟨rfl, hw1⟩; have H1 := Lib.hid (H.out.below hw1); have B1 := Lib.hid hw1; clear hw1)
    | (at_lookup; refine wpList_lookup_own_unit _ rfl _ _ 59 rfl 9 108 strLaw Tryd.underlying59 (zeroU _) b L.length _ rfl H1.out _ _ rfl HK.out ?_; rw [HH.out]))
  go_ret
  exact ⟨rfl, H1.out.below ((Below.refl _ _).alloc (Nat.le_refl _) _), (But.of_below B1.out).alloc _⟩
set_option maxHeartbeats 2000000 in
theorem meetP_new (s : ByteArray) (b : Nat) (L : List ByteArray) (hs : s.size ≤ 1000) (w : World) (hn : NamesAt w b L) (hl : L.length ≤ 1000) (hv : Hid (pathOk s.data.toList = true)) (hd : ¬ s ∈ L) :
    Calls Tryd.prog 51 #[.map (some b), .string s, .func (.func 9) #[] #[]] w fun e w' => e = .returned .nilIface ∧ NamesAt w' b (L ++ [s]) ∧ But w w' [b] := by
  have H := Lib.hid hn
  have HP := Lib.hid (Path_run s true (by omega) hv w)
  have HH : Hid (Maps.has (setOf (H := Unit) (.agg []) (L.map nameKey)) (nameKey s) = false) := by show _ = _; exact Bool.eq_false_iff.2 fun h => hd ((names_has L s).1 h)
  have HK := Lib.hid (nameKey_of hs)
  have HL : Hid (L.length < maxLen) := by show _ < _; unfold maxLen; omega
  clear hn hd
  go_enter Tryd.func51, Tryd.ntmps51
  go_wp2_with (first
    | (go_at_call 9; refine HP.out.mono ?_; rintro e w1 ⟨rfl, hw1⟩; have H1 := Lib.hid (H.out.below hw1); have B1 := Lib.hid hw1; have H2 : Hid (NamesAt (w1.alloc (.cells #[] 108)) b L) := H1.out.below ((Below.refl _ _).alloc (Nat.le_refl _) _); clear hw1)
    | (at_lookup; refine wpList_lookup_own_unit _ rfl _ _ 59 rfl 9 108 strLaw Tryd.underlying59 (zeroU _) b L.length _ rfl H1.out _ _ rfl HK.out ?_; rw [HH.out])
    | (at_mapUpdate; refine wpList_mapUpdate_own _ rfl _ _ _ 59 rfl 9 108 strLaw Tryd.underlying59 _ b L.length _ rfl H2.out HL.out _ _ _ rfl rfl HK.out _ [] unitElem_mk ?_; intro w3 o3 g3; have O3 := Lib.hid o3; have G3 := Lib.hid g3; clear o3 g3))
  go_ret
  refine ⟨rfl, ?_, ((But.of_below B1.out).alloc _).trans (by have := G3.out; exact ⟨this.os, this.tape, this.output, this.size, fun k hk hn => this.block k hk (by intro e; cases e; exact hn (by simp))⟩)⟩
  have := O3.out
  unfold NamesAt
  rw [List.map_append, List.map_singleton, setOf_snoc, List.length_append]
  exact this
end Go.Proofs.YtnpmkapapacffaaDoor
