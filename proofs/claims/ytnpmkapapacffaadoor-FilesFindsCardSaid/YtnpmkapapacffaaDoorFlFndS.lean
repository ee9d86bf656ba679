/-
  files.Find where there is such a file.
-/
import Derived.Test.YtnpmkapapacffaaDoorFlFnd
namespace Go.Proofs.YtnpmkapapacffaaDoor
open Go.Shelf Go.RowKit Go.Lib Go.Sort Fm

theorem find_get {l : List Pk} {s t : ByteArray} {i k : Nat} (h : find l s t = some (i, k)) : ∃ p f, l[i]? = some p ∧ p.files[k]? = some f ∧ f.name = t := by
  unfold find at h
  cases h1 : l.findIdx? (fun p => p.path = s) with
  | none => rw [h1] at h; cases h
  | some j =>
    rw [h1] at h
    obtain ⟨hj, _⟩ := List.findIdx?_eq_some_iff_getElem.1 h1
    obtain ⟨p, hp⟩ : ∃ p, l[j]? = some p := ⟨_, List.getElem?_eq_getElem hj⟩
    have h : (match ((l[j]?.map Pk.files).getD []).findIdx? (fun f => f.name = t) with | none => none | some k => some (j, k)) = some (i, k) := h
    rw [hp] at h
    have h : (match p.files.findIdx? (fun f => f.name = t) with | none => none | some k => some (j, k)) = some (i, k) := h
    cases h2 : p.files.findIdx? (fun f => f.name = t) with
    | none => rw [h2] at h; cases h
    | some q =>
      rw [h2] at h
      cases h
      obtain ⟨hq, he, _⟩ := List.findIdx?_eq_some_iff_getElem.1 h2
      exact ⟨p, p.files[k], hp, List.getElem?_eq_getElem hq, by simpa using he⟩
/-- What files.Find hands back where it finds f. -/
def FindOut (f : Fl) (w : World) (e : Ending) (w' : World) : Prop := ∃ A c, e = .returned (.tuple #[.agg #[.string f.name, .slice A f.text.length c], .nilIface]) ∧ Byts w' w'.heap.size A f.text ∧ f.text.length ≤ c ∧ c ≤ 9223372036854775807 ∧ Below w.heap.size w w'

set_option maxHeartbeats 4000000 in
set_option maxRecDepth 100000 in
theorem Find_some (A : Option Addr) (n cap : Nat) (ps : List Pk) (s t : ByteArray) (i k : Nat) (p : Pk) (f : Fl) (w : World) (hb : PksAt w w.heap.size A ps) (hl : Hid (ps.length = n)) (hs : Hid (Small ps)) (hf : find ps s t = some (i, k)) (hp : ps[i]? = some p) (hk : p.files[k]? = some f) :
    Calls Tryd.prog 20 #[.slice A n cap, .string s, .string t] w fun e w' => FindOut f w e w' := by
  have BA : Hid (Below w.heap.size w (w.alloc (.cells #[.string ⟨#[]⟩, .slice none 0 0] 39))) := (Below.refl _ _).alloc (Nat.le_refl _) _
  have HL := Lib.hid (locate_run A n cap ps s t (w.alloc (.cells #[.string ⟨#[]⟩, .slice none 0 0] 39)) ((hb.below BA.out (Nat.le_refl _)).more BA.out.size) hl hs)
  have HI0 : Hid (∀ w, Calls Tryd.prog 33 #[.nilIface, errno 7] w fun e w' => e = .returned (.bool false) ∧ Below w.heap.size w w') := fun w => is_nil 7 w
  have HB := Lib.hid hb
  have hn8 : n ≤ 8 := by have := hs.out.1; have := hl.out; omega
  have hiz : (i : Int) < (n : Int) := by have := (List.getElem?_eq_some_iff.1 hp).1; have := hl.out; omega
  have hkp := (List.getElem?_eq_some_iff.1 hk).1
  have hsp := hs.out.2 p (List.mem_of_getElem? hp)
  have hft := hsp.2 f (List.mem_of_getElem? hk)
  have HFT : Hid (f.text.length ≤ 300) := hft
  have HP := Lib.hid hp
  have HK := Lib.hid hk
  rw [hf] at HL
  unfold locAns at HL
  unfold errno at HI0
  clear hb hf hp hk hft
  go_enter Tryd.func20, Tryd.ntmps20
  go_wp2_with fail
  refine HL.out.mono ?_
  rintro e w1 ⟨rfl, hw1⟩
  have d0 : w1.cell? ⟨w.heap.size, 0, none⟩ = some (.string ⟨#[]⟩) := (hw1.cell (p := ⟨w.heap.size, 0, none⟩) (by simp)).trans (by simp)
  have d1 : w1.cell? ⟨w.heap.size, 1, none⟩ = some (.slice none 0 0) := (hw1.cell (p := ⟨w.heap.size, 1, none⟩) (by simp)).trans (by simp)
  have f0 : w1.frozen? ⟨w.heap.size, 0, none⟩ = false := (hw1.frozen (p := ⟨w.heap.size, 0, none⟩) (by simp)).trans (by simp)
  have f1 : w1.frozen? ⟨w.heap.size, 1, none⟩ = false := (hw1.frozen (p := ⟨w.heap.size, 1, none⟩) (by simp)).trans (by simp)
  have B1 : Hid (Below w.heap.size w w1) := BA.out.trans (hw1.mono BA.out.size)
  have hw1' := Lib.hid hw1
  clear hw1
  go_wp2_with fail
  refine (HI0.out _).mono ?_
  rintro e w2 ⟨rfl, hw2⟩
  have hlt : w.heap.size < w1.heap.size := by have := hw1'.out.size; simp at this; omega
  have hlt2 : w.heap.size < w2.heap.size := Nat.lt_of_lt_of_le hlt hw2.size
  have g0 : w2.cell? ⟨w.heap.size, 0, none⟩ = some (.string ⟨#[]⟩) := (hw2.cell (p := ⟨w.heap.size, 0, none⟩) hlt).trans d0
  have g1 : w2.cell? ⟨w.heap.size, 1, none⟩ = some (.slice none 0 0) := (hw2.cell (p := ⟨w.heap.size, 1, none⟩) hlt).trans d1
  have k0 : w2.frozen? ⟨w.heap.size, 0, none⟩ = false := (hw2.frozen (p := ⟨w.heap.size, 0, none⟩) hlt).trans f0
  have k1 : w2.frozen? ⟨w.heap.size, 1, none⟩ = false := (hw2.frozen (p := ⟨w.heap.size, 1, none⟩) hlt).trans f1
  have B2 : Hid (Below w.heap.size w w2) := B1.out.trans (hw2.mono B1.out.size)
  clear hw2 d0 d1 f0 f1
  obtain ⟨b, o, F, m, c, rfl, hbl, _, c1, hm, hmc, hcm, hF⟩ := (HB.out.below B2.out (Nat.le_refl _)).at HP.out
  have hkm : (k : Int) < (m : Int) := by omega
  obtain ⟨b2, o2, G, m2, c2, rfl, hb2, e0, e1, hm2, hmc2, hcm2, hG⟩ := hF.at HK.out
  have HCF := Lib.hid (cloneFile_run f.name G m2 c2 f.text w2 (hG.more B2.out.size) hm2.symm (by have := HFT.out; omega))
  have HBT : Hid (U.Byt f.text) := hG.1
  clear hm hm2 hF hG hkp hsp
  go_wp2_with fail
  refine HCF.out.mono ?_
  rintro e w3 ⟨B9, m9, c9, rfl, ho, hw3⟩
  obtain ⟨A9, cc9, hv9, hlc9, hcc9, hT9⟩ := TxtAt.own (base := w.heap.size) ho HBT.out
  cases hv9
  have q0 : w3.cell? ⟨w.heap.size, 0, none⟩ = some (.string ⟨#[]⟩) := (hw3.cell (p := ⟨w.heap.size, 0, none⟩) hlt2).trans g0
  have q1 : w3.cell? ⟨w.heap.size, 1, none⟩ = some (.slice none 0 0) := (hw3.cell (p := ⟨w.heap.size, 1, none⟩) hlt2).trans g1
  have r0 : w3.frozen? ⟨w.heap.size, 0, none⟩ = false := (hw3.frozen (p := ⟨w.heap.size, 0, none⟩) hlt2).trans k0
  have r1 : w3.frozen? ⟨w.heap.size, 1, none⟩ = false := (hw3.frozen (p := ⟨w.heap.size, 1, none⟩) hlt2).trans k1
  have B3 : Hid (Below w.heap.size w w3) := B2.out.trans (hw3.mono B2.out.size)
  have HO := Lib.hid ho
  have hlt3 : w2.heap.size ≤ w3.heap.size := hw3.size
  clear hw3 ho hT9 g0 g1 k0 k1 c1 e0 e1
  go_wp2_with fail
  (try simp only [Exit.inBlock, Exit.then])
  refine bodyPost_ret (v := .tuple #[.agg #[.string f.name, .slice B9 f.text.length c9], .nilIface]) ?_ rfl ⟨_, _, rfl, ?_, hlc9, hcc9, ?_⟩
  · rw [results_cell_tmp rfl]
    have q0 : ((w3.setCell ⟨w.heap.size, 0, none⟩ (.string f.name)).setCell ⟨w.heap.size, 1, none⟩ (.slice B9 f.text.length c9)).cell? ⟨w.heap.size, 0, none⟩ = some (.string f.name) := (World.cell?_setCell_other _ _ _ _ (by simp)).trans (World.cell?_setCell_same' _ _ _ (by rw [q0]; rfl))
    have q1 : ((w3.setCell ⟨w.heap.size, 0, none⟩ (.string f.name)).setCell ⟨w.heap.size, 1, none⟩ (.slice B9 f.text.length c9)).cell? ⟨w.heap.size, 1, none⟩ = some (.slice B9 f.text.length c9) := World.cell?_setCell_same' _ _ _ (by rw [World.cell?_setCell_other _ _ _ _ (by simp), q1]; rfl)
    simp [asAddr, Result.andThen]
    go_simp
  · have hO2 := (HO.out.setCell (p := ⟨w.heap.size, 0, none⟩) hlt2 (.string f.name)).setCell (p := ⟨w.heap.size, 1, none⟩) hlt2 (.slice B9 f.text.length c9)
    obtain ⟨A8, c8, hv8, _, _, hN⟩ := hO2.nums
    cases hv8
    exact ⟨HBT.out, hN⟩
  · exact (B3.out.setCell (Nat.le_refl _) _).setCell (Nat.le_refl _) _
end Go.Proofs.YtnpmkapapacffaaDoor
