/-
  files.Replace.
-/
import Derived.Test.YtnpmkapapacffaaDoorFlFndS
import Derived.Test.YtnpmkapapacffaaDoorFlPut
import Derived.Deep.RegionHeld3
namespace Go.Proofs.YtnpmkapapacffaaDoor
open Go.Shelf Go.RowKit Go.Lib Go.Sort Fm

set_option maxHeartbeats 4000000 in
set_option maxRecDepth 100000 in
theorem Replace_none (A : Option Addr) (n cap : Nat) (ps : List Pk) (s t : ByteArray) (T : Option Addr) (m tc : Nat) (w : World) (hb : PksAt w w.heap.size A ps) (hl : Hid (ps.length = n)) (hs : Hid (Small ps)) (hf : find ps s t = none) :
    Calls Tryd.prog 22 #[.slice A n cap, .string s, .string t, .slice T m tc] w fun e w' => e = .returned (.tuple #[.slice none 0 0, errno 7]) ∧ Below w.heap.size w w' := by
  have HL := Lib.hid (locate_run A n cap ps s t w hb hl hs)
  have HI7 : Hid (∀ w, Calls Tryd.prog 33 #[errno 7, errno 7] w fun e w' => e = .returned (.bool true) ∧ Below w.heap.size w w') := fun w => is_errno_below 7 7 w
  rw [hf] at HL
  unfold locAns at HL
  unfold errno at *
  clear hb hf
  go_enter Tryd.func22, Tryd.ntmps22
  go_wp2_with fail
  refine HL.out.mono ?_
  rintro e w1 ⟨rfl, hw1⟩
  have B1 := Lib.hid hw1
  clear hw1
  go_wp2_with fail
  refine (HI7.out _).mono ?_
  rintro e w2 ⟨rfl, hw2⟩
  have B2 : Hid (Below w.heap.size w w2) := B1.out.trans (hw2.mono B1.out.size)
  clear hw2
  go_wp2_with fail
  go_ret2
  exact ⟨rfl, B2.out⟩
/-- What files.Replace hands back where it finds the file. -/
def RepOut (n : Nat) (ps : List Pk) (w : World) (e : Ending) (w' : World) : Prop := ∃ A c, e = .returned (.tuple #[.slice A n c, .nilIface]) ∧ n ≤ c ∧ PksAt w' w'.heap.size A ps ∧ Below w.heap.size w w'
set_option maxHeartbeats 8000000 in
set_option maxRecDepth 100000 in
theorem Replace_some (A : Option Addr) (n cap : Nat) (ps : List Pk) (s t : ByteArray) (T : Option Addr) (m tc : Nat) (txt : List Int) (i k : Nat) (p : Pk) (f : Fl) (w : World) (hb : PksAt w w.heap.size A ps) (hl : Hid (ps.length = n)) (hs : Hid (Small ps)) (hf : find ps s t = some (i, k)) (hp : ps[i]? = some p) (hk : p.files[k]? = some f)
    (ht : Byts w w.heap.size T txt) (hm : Hid (txt.length = m)) (hm3 : m ≤ 300) :
    Calls Tryd.prog 22 #[.slice A n cap, .string s, .string t, .slice T m tc] w fun e w' => RepOut n (put ps i k txt) w e w' := by
  have HL := Lib.hid (locate_run A n cap ps s t w hb hl hs)
  have HI0 : Hid (∀ w, Calls Tryd.prog 33 #[.nilIface, errno 7] w fun e w' => e = .returned (.bool false) ∧ Below w.heap.size w w') := fun w => is_nil 7 w
  have HB := Lib.hid hb
  have HT := Lib.hid ht
  have hn8 : n ≤ 8 := by have := hs.out.1; have := hl.out; omega
  have hiz : (i : Int) < (n : Int) := by have := (List.getElem?_eq_some_iff.1 hp).1; have := hl.out; omega
  have hsp := hs.out.2 p (List.mem_of_getElem? hp)
  have HP := Lib.hid hp
  have HK := Lib.hid hk
  have hkp := (List.getElem?_eq_some_iff.1 hk).1
  rw [hf] at HL
  unfold locAns at HL
  unfold errno at HI0
  clear hb hf hp hk ht
  go_enter Tryd.func22, Tryd.ntmps22
  go_wp2_with fail
  refine HL.out.mono ?_
  rintro e w1 ⟨rfl, hw1⟩
  have B1 := Lib.hid hw1
  clear hw1
  go_wp2_with fail
  refine (HI0.out _).mono ?_
  rintro e w2 ⟨rfl, hw2⟩
  have B2 : Hid (Below w.heap.size w w2) := B1.out.trans (hw2.mono B1.out.size)
  have HC := Lib.hid (clone_run A n cap ps w2 ((HB.out.below B2.out (Nat.le_refl _)).more B2.out.size) hl hs)
  clear hw2
  go_wp2_with fail
  refine HC.out.mono ?_
  rintro e w3 ⟨g, c, xs, rfl, hx3, hw3⟩
  have B3 : Hid (Below w.heap.size w w3) := B2.out.trans (hw3.mono B2.out.size)
  obtain ⟨x, gi, ys, hx, hxA, hxn, _, hg1, hg2, c0, c1, ho, hz⟩ := hx3.at HP.out
  obtain ⟨y, hy, hyr⟩ := hz.getR HK.out
  have hkn : (k : Int) < (x.n : Int) := by omega
  have hnc : n ≤ c := (own_blk hx3.row).2.2.2.1
  have X3 := Lib.hid hx3
  have HX := Lib.hid hx
  have HXA := Lib.hid hxA
  have HO := Lib.hid ho
  have HZ := Lib.hid hz
  have HY := Lib.hid hy
  have HG := Lib.hid (And.intro hg1 hg2)
  have hne : gi ≠ g := fun e => hx3.far (hx3.zip.rel i x p hx HP.out) gi hxA (by rw [e]; simp [Value.ownBlock])
  have hfz := own_frozen ho (k * 2 + 1)
  have hcy := (own_two ho hy).2
  have hGS : Hid (w.heap.size ≤ w2.heap.size) := B2.out.size
  have HT3 : Hid (Byts w3.drew w3.drew.heap.size T txt) := (HT.out.below B3.out (Nat.le_refl _)).more B3.out.size
  clear hx3 hw3 hx hxA hxn ho hz hy hyr hkp hsp hg1 hg2 HC c0
  go_wp2_with fail
  go_region_held3 (fun W => W.cell? ⟨g, i * 2 + 1, none⟩ = some (.slice (some ⟨gi, 0, none⟩) x.n x.c)) (first | exact c1 | exact (World.cell?_setCell_other _ _ _ _ (fun e => hne (congrArg Addr.block e))).trans d1 | exact d1 | go_keep)
    (first | (go_at_call 43; refine (bclone_run T m tc txt _ HT3.out hm (by omega)).mono ?_; rintro e w5 ⟨v, rfl, ho5, hw5⟩; obtain ⟨B9, c9, hv9, hlc9, hcc9, hT9⟩ := TxtAt.own (base := w2.heap.size) ho5 HT3.out.1; subst hv9; have HT9 := Lib.hid hT9; have B5 : Hid (Below w3.heap.size w3 w5) := (Below.refl w3.heap.size w3).drew.trans hw5; have d1 : w5.cell? ⟨g, i * 2 + 1, none⟩ = some (.slice (some ⟨gi, 0, none⟩) x.n x.c) := (hw5.cell (p := ⟨g, i * 2 + 1, none⟩) (World.block_lt_of_cell? _ _ c1)).trans c1; have d2 : w5.cell? ⟨gi, k * 2 + 1, none⟩ = some (.slice y.A y.n y.c) := (hw5.cell (p := ⟨gi, k * 2 + 1, none⟩) HG.out.2).trans hcy; have d3 : w5.frozen? ⟨gi, k * 2 + 1, none⟩ = false := (hw5.frozen (p := ⟨gi, k * 2 + 1, none⟩) HG.out.2).trans hfz; clear hw5 ho5 hT9 hcy hfz) | fail)
  have HX5 := Lib.hid (X3.out.text HX.out HP.out HXA.out HO.out HZ.out HY.out HK.out B5.out rfl hlc9 hcc9 HT9.out)
  go_wp2_with fail
  go_ret2
  obtain ⟨A9, d9, hv9, hn9, _, hP9⟩ := HX5.out.1.read
  have hlen : (put ps i k txt).length = n := (put_length ps i k txt).trans hl.out
  rw [hlen] at hv9 hn9
  cases hv9
  exact ⟨_, _, rfl, hn9, hP9, B3.out.trans (HX5.out.2.to_below B3.out.size (by intro b hb; rw [List.mem_singleton.1 hb]; exact Nat.le_trans hGS.out HG.out.1))⟩
end Go.Proofs.YtnpmkapapacffaaDoor
