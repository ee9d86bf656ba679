/-
  files.index at files.
-/
import Derived.Test.YtnpmkapapacffaaDoorFlFind
namespace Go.Proofs.YtnpmkapapacffaaDoor
open Go.Shelf Go.RowKit Go.Lib Go.Sort Fm

set_option maxHeartbeats 4000000 in
set_option maxRecDepth 100000 in
theorem indexF_run (A : Option Addr) (n cap : Nat) (ps : List Fl) (s : ByteArray) (w : World) (hb : FlsAt w w.heap.size A ps) (hl : Hid (ps.length = n)) (hn8 : n ≤ 8) :
    Calls Tryd.prog 65 #[.slice A n cap, .func (.func 39) #[] #[], .string s] w fun e w' => e = .returned (idxAns (ps.findIdx? (fun p => p.name = s))) ∧ Below w.heap.size w w' := by
  have HB := Lib.hid hb
  clear hb
  go_enter Tryd.func65, Tryd.ntmps65
  go_wp2_with fail
  go_loopg [12] (n + 1) (fun h s12 wr => ∃ i : Nat, s12 = .int .i64 i ∧ Hid (i ≤ n ∧ i + h = n + 1) ∧ Hid (∀ q ∈ (ps.take i).map Fl.name, q ≠ s) ∧ Hid (Below w.heap.size w wr))
  case atStart => exact ⟨0, rfl, by show _ ∧ _; omega, by simp [Hid], Below.refl _ _⟩
  case round =>
    obtain ⟨i, rfl, HI, HN, BW⟩ := hrel
    generalize wr = wq at *
    by_cases hlt : i < n
    · have hltz : (i : Int) < (n : Int) := by omega
      obtain ⟨p, hp⟩ : ∃ p, ps[i]? = some p := ⟨_, List.getElem?_eq_getElem (by have := hl.out; omega)⟩
      obtain ⟨b, o, F, m, c, rfl, _, c0, c1, hm, hmc, hcm, hF⟩ := (HB.out.below BW.out (Nat.le_refl _)).at hp
      clear hm hmc hcm hF
      have HP := Lib.hid hp
      have HC := fun W => Lib.hid (nameOf_runF p.name F m c W)
      have BA : Hid (Below w.heap.size w (wq.alloc (.cells #[.string p.name, .slice F m c] 39))) := BW.out.alloc BW.out.size _
      clear hp
      by_cases heq : p.name = s
      · have hse := str_eq heq
        have HE : Hid (ps.findIdx? (fun p => p.name = s) = some i) := idx_hit HP.out HN.out heq
        clear heq HN
        go_wp2_with fail
        refine (HC _).out.mono ?_
        rintro e w2 ⟨rfl, rfl⟩
        have B2 : Hid (Below w.heap.size w ((wq.alloc (.cells #[.string p.name, .slice F m c] 39)).alloc (.cells #[.string p.name, .slice F m c] 39))) := BA.out.alloc BA.out.size _
        go_wp2_with fail
        go_ret2
        exact ⟨by rw [HE.out]; rfl, B2.out⟩
      · have hse := str_ne heq
        have HN2 := Lib.hid (take_ne HP.out HN.out heq)
        clear heq HN
        go_wp2_with fail
        refine (HC _).out.mono ?_
        rintro e w2 ⟨rfl, rfl⟩
        have B2 : Hid (Below w.heap.size w ((wq.alloc (.cells #[.string p.name, .slice F m c] 39)).alloc (.cells #[.string p.name, .slice F m c] 39))) := BA.out.alloc BA.out.size _
        go_wp2_with fail
        go_roundg (n - i)
        case measure => have := HI.out; omega
        case rel => exact ⟨i + 1, by go_num, by show _ ∧ _; have := HI.out; omega, HN2.out, B2.out⟩
    · have hltz : ¬ (i : Int) < (n : Int) := by omega
      have HE : Hid (ps.findIdx? (fun p => p.name = s) = none) := idx_none (by have h := HN.out; rwa [List.take_of_length_le (by have := hl.out; omega)] at h)
      go_wp2_with fail
      go_ret2
      exact ⟨by rw [HE.out]; rfl, BW.out⟩
end Go.Proofs.YtnpmkapapacffaaDoor
