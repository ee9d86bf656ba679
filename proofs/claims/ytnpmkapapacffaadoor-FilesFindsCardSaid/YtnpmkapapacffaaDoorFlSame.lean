/-
  The reference's Same: of two lists that hold the same.
-/
import Derived.Test.YtnpmkapapacffaaDoorFlGrow
import Derived.Laws.IdiomStrings
namespace Go.Proofs.YtnpmkapapacffaaDoor
open Go.Shelf Go.RowKit Go.Lib Go.Sort Fm

set_option maxHeartbeats 8000000 in
set_option maxRecDepth 100000 in
theorem Same_run (A B : Option Addr) (n ca cb : Nat) (ps : List Pk) (w : World) (ha : PksAt w w.heap.size A ps) (hb : PksAt w w.heap.size B ps) (hl : Hid (ps.length = n)) (hs : Hid (Small ps)) :
    Calls Tryd.prog 17 #[.slice A n ca, .slice B n cb] w fun e w' => e = .returned (.bool true) ∧ ∃ q, w' = w.drewN q := by
  have HA := Lib.hid ha
  have HB := Lib.hid hb
  have hn8 : n ≤ 8 := by have := hs.out.1; have := hl.out; omega
  clear ha hb
  go_enter Tryd.func17, Tryd.ntmps17
  go_wp2_with fail
  go_loopg [5] (n + 1) (fun h s5 wr => ∃ (i q : Nat), s5 = .int .i64 i ∧ Hid (i ≤ n ∧ i + h = n + 1) ∧ wr = w.drewN q)
  case atStart => exact ⟨0, 0, rfl, by show _ ∧ _; omega, rfl⟩
  case round =>
    obtain ⟨i, q, rfl, HI, rfl⟩ := hrel
    by_cases hlt : i < n
    · have hltz : (i : Int) < (n : Int) := by omega
      obtain ⟨p, hp⟩ : ∃ p, ps[i]? = some p := ⟨_, List.getElem?_eq_getElem (by have := hl.out; omega)⟩
      obtain ⟨b, o, F, m, c, rfl, _, c0, c1, hm, _, _, hF⟩ := HA.out.at hp
      obtain ⟨b', o', F', m', c', rfl, _, d0, d1, hm', _, _, hF'⟩ := HB.out.at hp
      obtain rfl : m' = m := hm'.trans hm.symm
      have hm6 : m' ≤ 6 := by rw [hm]; exact (hs.out.2 p (List.mem_of_getElem? hp)).1
      have HM := Lib.hid hm
      have HF := Lib.hid hF
      have HF' := Lib.hid hF'
      have HSP := Lib.hid (hs.out.2 p (List.mem_of_getElem? hp)).2
      clear hp hm hm' hF hF'
      go_wp2_with fail
      go_quiet (fail)
      go_wp2_with fail
      go_loopg [6] (m' + 1) (fun h s6 wr => ∃ (k q : Nat), s6 = .int .i64 k ∧ Hid (k ≤ m' ∧ k + h = m' + 1) ∧ wr = w.drewN q)
      case atStart => exact ⟨0, _, rfl, by show _ ∧ _; omega, World.drewN_drewN _ _ _⟩
      case round =>
        obtain ⟨k, q2, rfl, HK, rfl⟩ := hrel
        by_cases hk : k < m'
        · have hkz : (k : Int) < (m' : Int) := by omega
          obtain ⟨f, hf⟩ : ∃ f, p.files[k]? = some f := ⟨_, List.getElem?_eq_getElem (by have := HM.out; omega)⟩
          obtain ⟨x, y, G, l, z, rfl, _, e0, e1, hl1, _, _, hG⟩ := HF.out.at hf
          obtain ⟨x', y', G', l', z', rfl, _, g0, g1, hl1', _, _, hG'⟩ := HF'.out.at hf
          obtain rfl : l' = l := hl1'.trans hl1.symm
          have ht := HSP.out f (List.mem_of_getElem? hf)
          have v1 : ∀ j, (convert 37 9 (.slice G l' z)).run Tryd.prog (w.drewN j) = .ok (.string (strOf f.text)) (w.drewN j) := fun j => conv_bytes (w := w.drewN j) (B := w.heap.size) hG l' z hl1.symm
          have v2 : ∀ j, (convert 37 9 (.slice G' l' z')).run Tryd.prog (w.drewN j) = .ok (.string (strOf f.text)) (w.drewN j) := fun j => conv_bytes (w := w.drewN j) (B := w.heap.size) hG' l' z' hl1.symm
          clear hf hl1 hl1' hG hG' ht
          go_wp2_with fail
          go_quiet (fail)
          go_wp2
          go_roundg (m' - k)
          case measure => have := HK.out; omega
          case rel => exact ⟨k + 1, _, by go_num, by show _ ∧ _; have := HK.out; omega, rfl⟩
        · have hkz : ¬ (k : Int) < (m' : Int) := by omega
          go_wp2_with fail
          go_roundg (n - i)
          case measure => have := HI.out; omega
          case rel => exact ⟨i + 1, _, by go_num, by show _ ∧ _; have := HI.out; omega, rfl⟩
    · have hltz : ¬ (i : Int) < (n : Int) := by omega
      go_wp2_with fail
      go_ret
      exact ⟨rfl, q, rfl⟩
end Go.Proofs.YtnpmkapapacffaaDoor
