/-
  (names).meet of a file's name.
-/
import Derived.Test.YtnpmkapapacffaaDoorFlMeet
namespace Go.Proofs.YtnpmkapapacffaaDoor
open Go.Shelf Go.RowKit Go.Lib Go.Sort Go.Maps Fm

theorem NameB_run (s : ByteArray) (v : Bool) (hs : s.size < 100000) (hv : Hid (nameOk true s.data.toList = v)) (w : World) : Calls Tryd.prog 7 #[.string s] w fun e w' => e = .returned (.bool v) ∧ Below w.heap.size w w' :=
  (Name_run s v (by omega) hv w).mono fun _ _ ⟨h, hw⟩ => ⟨h, hw ▸ Below.refl _ _⟩
set_option maxHeartbeats 2000000 in
theorem meetN_bad (s : ByteArray) (b : Nat) (L : List ByteArray) (hs : s.size ≤ 1000) (w : World) (hn : NamesAt w b L) (hv : Hid (nameOk true s.data.toList = false)) :
    Calls Tryd.prog 51 #[.map (some b), .string s, .func (.func 7) #[] #[]] w fun e w' => e = .returned (errno 8) ∧ NamesAt w' b L ∧ But w w' [b] := by
  have H := Lib.hid hn
  have HP := Lib.hid (NameB_run s false (by omega) hv w)
  clear hn
  unfold errno
  go_enter Tryd.func51, Tryd.ntmps51
  go_wp2_with (go_at_call 7; refine HP.out.mono ?_; rintro e w1 ⟨rfl, hw1⟩)
  go_ret
  exact ⟨rfl, H.out.below hw1, But.of_below hw1⟩
set_option maxHeartbeats 2000000 in
theorem meetN_dup (s : ByteArray) (b : Nat) (L : List ByteArray) (hs : s.size ≤ 1000) (w : World) (hn : NamesAt w b L) (hv : Hid (nameOk true s.data.toList = true)) (hd : s ∈ L) :
    Calls Tryd.prog 51 #[.map (some b), .string s, .func (.func 7) #[] #[]] w fun e w' => e = .returned (errno 6) ∧ NamesAt w' b L ∧ But w w' [b] := by
  have H := Lib.hid hn
  have HP := Lib.hid (NameB_run s true (by omega) hv w)
  have HH : Hid (Maps.has (setOf (H := Unit) (.agg []) (L.map nameKey)) (nameKey s) = true) := by show _ = _; exact (names_has L s).2 hd
  have HK := Lib.hid (nameKey_of hs)
  clear hn hd
  unfold errno
  go_enter Tryd.func51, Tryd.ntmps51
  go_wp2_with (first
    | (go_at_call 7; refine HP.out.mono ?_; rintro e w1 ⟨rfl, hw1⟩; have H1 := Lib.hid (H.out.below hw1); have B1 := Lib.hid hw1; clear hw1)
    | (at_lookup; refine wpList_lookup_own_unit _ rfl _ _ 59 rfl 9 108 strLaw Tryd.underlying59 (zeroU _) b L.length _ rfl H1.out _ _ rfl HK.out ?_; rw [HH.out]))
  go_ret
  exact ⟨rfl, H1.out.below ((Below.refl _ _).alloc (Nat.le_refl _) _), (But.of_below B1.out).alloc _⟩
set_option maxHeartbeats 2000000 in
theorem meetN_new (s : ByteArray) (b : Nat) (L : List ByteArray) (hs : s.size ≤ 1000) (w : World) (hn : NamesAt w b L) (hl : L.length ≤ 1000) (hv : Hid (nameOk true s.data.toList = true)) (hd : ¬ s ∈ L) :
    Calls Tryd.prog 51 #[.map (some b), .string s, .func (.func 7) #[] #[]] w fun e w' => e = .returned .nilIface ∧ NamesAt w' b (L ++ [s]) ∧ But w w' [b] := by
  have H := Lib.hid hn
  have HP := Lib.hid (NameB_run s true (by omega) hv w)
  have HH : Hid (Maps.has (setOf (H := Unit) (.agg []) (L.map nameKey)) (nameKey s) = false) := by show _ = _; exact Bool.eq_false_iff.2 fun h => hd ((names_has L s).1 h)
  have HK := Lib.hid (nameKey_of hs)
  have HL : Hid (L.length < maxLen) := by show _ < _; unfold maxLen; omega
  clear hn hd
  go_enter Tryd.func51, Tryd.ntmps51
  go_wp2_with (first
    | (go_at_call 7; refine HP.out.mono ?_; rintro e w1 ⟨rfl, hw1⟩; have H1 := Lib.hid (H.out.below hw1); have B1 := Lib.hid hw1; have H2 : Hid (NamesAt (w1.alloc (.cells #[] 108)) b L) := H1.out.below ((Below.refl _ _).alloc (Nat.le_refl _) _); clear hw1)
    | (at_lookup; refine wpList_lookup_own_unit _ rfl _ _ 59 rfl 9 108 strLaw Tryd.underlying59 (zeroU _) b L.length _ rfl H1.out _ _ rfl HK.out ?_; rw [HH.out])
    | (at_mapUpdate; refine wpList_mapUpdate_own _ rfl _ _ _ 59 rfl 9 108 strLaw Tryd.underlying59 _ b L.length _ rfl H2.out HL.out _ _ _ rfl rfl HK.out _ [] unitElem_mk ?_; intro w3 o3 g3; have O3 := Lib.hid o3; have G3 := Lib.hid g3; clear o3 g3))
  go_ret
  refine ⟨rfl, ?_, ((But.of_below B1.out).alloc _).trans (by have := G3.out; exact ⟨this.os, this.tape, this.output, this.size, fun k hk hn => this.block k hk (by intro e; cases e; exact hn (by simp))⟩)⟩
  have := O3.out
  unfold NamesAt
  rw [List.map_append, List.map_singleton, setOf_snoc, List.length_append]
  exact this
end Go.Proofs.YtnpmkapapacffaaDoor
