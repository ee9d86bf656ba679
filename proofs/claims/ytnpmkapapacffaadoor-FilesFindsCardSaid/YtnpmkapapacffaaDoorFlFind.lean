/-
  files.index at packages and at files, and the reference's Find.
-/
import Derived.Test.YtnpmkapapacffaaDoorFlRefC
import Derived.Test.YtnpmkapapacffaaDoorFlNmP
import Derived.Test.YtnpmkapapacffaaDoorFlNmF
namespace Go.Proofs.YtnpmkapapacffaaDoor
open Go.Shelf Go.RowKit Go.Lib Go.Sort Fm

theorem idx_hit {α : Type} {g : α → ByteArray} {l : List α} {i : Nat} {x : α} {s : ByteArray} (hx : l[i]? = some x) (h : ∀ q ∈ (l.take i).map g, q ≠ s) (he : g x = s) : l.findIdx? (fun p => g p = s) = some i := by
  obtain ⟨hi, hxi⟩ := List.getElem?_eq_some_iff.1 hx
  rw [List.findIdx?_eq_some_iff_getElem]
  refine ⟨hi, by simp [hxi, he], fun j hj => ?_⟩
  have := h (g l[j]) (List.mem_map_of_mem (List.mem_of_getElem? (i := j) (by rw [List.getElem?_take_of_lt hj]; simp)))
  simpa using this
theorem idx_none {α : Type} {g : α → ByteArray} {l : List α} {s : ByteArray} (h : ∀ q ∈ l.map g, q ≠ s) : l.findIdx? (fun p => g p = s) = none := by
  rw [List.findIdx?_eq_none_iff]
  intro x hx
  simpa using h (g x) (List.mem_map_of_mem hx)
/-- What the reference's Find answers. -/
def findAns : Option (Nat × Nat) → Value
  | none => .tuple #[.int .i64 (-1), .int .i64 (-1)]
  | some (i, k) => .tuple #[.int .i64 i, .int .i64 k]
/-- What files.index answers. -/
def idxAns : Option Nat → Value
  | none => .tuple #[.int .i64 0, errno 7]
  | some i => .tuple #[.int .i64 i, .nilIface]
theorem str_eq {s t : ByteArray} (h : s = t) : (s.toList == t.toList) = true := by rw [h]; simp
set_option maxHeartbeats 4000000 in
set_option maxRecDepth 100000 in
theorem indexP_run (A : Option Addr) (n cap : Nat) (ps : List Pk) (s : ByteArray) (w : World) (hb : PksAt w w.heap.size A ps) (hl : Hid (ps.length = n)) (hn8 : n ≤ 8) :
    Calls Tryd.prog 64 #[.slice A n cap, .func (.func 37) #[] #[], .string s] w fun e w' => e = .returned (idxAns (ps.findIdx? (fun p => p.path = s))) ∧ Below w.heap.size w w' := by
  have HB := Lib.hid hb
  clear hb
  go_enter Tryd.func64, Tryd.ntmps64
  go_wp2_with fail
  go_loopg [12] (n + 1) (fun h s12 wr => ∃ i : Nat, s12 = .int .i64 i ∧ Hid (i ≤ n ∧ i + h = n + 1) ∧ Hid (∀ q ∈ (ps.take i).map Pk.path, q ≠ s) ∧ Hid (Below w.heap.size w wr))
  case atStart => exact ⟨0, rfl, by show _ ∧ _; omega, by simp [Hid], Below.refl _ _⟩
  case round =>
    obtain ⟨i, rfl, HI, HN, BW⟩ := hrel
    generalize wr = wq at *
    by_cases hlt : i < n
    · have hltz : (i : Int) < (n : Int) := by omega
      obtain ⟨p, hp⟩ : ∃ p, ps[i]? = some p := ⟨_, List.getElem?_eq_getElem (by have := hl.out; omega)⟩
      obtain ⟨b, o, F, m, c, rfl, _, c0, c1, hm, hmc, hcm, hF⟩ := (HB.out.below BW.out (Nat.le_refl _)).at hp
      clear hm hmc hcm hF
      have HP := Lib.hid hp
      have HC := fun W => Lib.hid (nameOf_runP p.path F m c W)
      have BA : Hid (Below w.heap.size w (wq.alloc (.cells #[.string p.path, .slice F m c] 48))) := BW.out.alloc BW.out.size _
      clear hp
      by_cases heq : p.path = s
      · have hse := str_eq heq
        have HE : Hid (ps.findIdx? (fun p => p.path = s) = some i) := idx_hit HP.out HN.out heq
        clear heq HN
        go_wp2_with fail
        refine (HC _).out.mono ?_
        rintro e w2 ⟨rfl, rfl⟩
        have B2 : Hid (Below w.heap.size w ((wq.alloc (.cells #[.string p.path, .slice F m c] 48)).alloc (.cells #[.string p.path, .slice F m c] 48))) := BA.out.alloc BA.out.size _
        go_wp2_with fail
        go_ret2
        exact ⟨by rw [HE.out]; rfl, B2.out⟩
      · have hse := str_ne heq
        have HN2 := Lib.hid (take_ne HP.out HN.out heq)
        clear heq HN
        go_wp2_with fail
        refine (HC _).out.mono ?_
        rintro e w2 ⟨rfl, rfl⟩
        have B2 : Hid (Below w.heap.size w ((wq.alloc (.cells #[.string p.path, .slice F m c] 48)).alloc (.cells #[.string p.path, .slice F m c] 48))) := BA.out.alloc BA.out.size _
        go_wp2_with fail
        go_roundg (n - i)
        case measure => have := HI.out; omega
        case rel => exact ⟨i + 1, by go_num, by show _ ∧ _; have := HI.out; omega, HN2.out, B2.out⟩
    · have hltz : ¬ (i : Int) < (n : Int) := by omega
      have HE : Hid (ps.findIdx? (fun p => p.path = s) = none) := idx_none (by have h := HN.out; rwa [List.take_of_length_le (by have := hl.out; omega)] at h)
      go_wp2_with fail
      go_ret2
      exact ⟨by rw [HE.out]; rfl, BW.out⟩
set_option maxHeartbeats 4000000 in
set_option maxRecDepth 100000 in
theorem refFind_run (A : Option Addr) (n cap : Nat) (ps : List Pk) (s t : ByteArray) (w : World) (hb : PksAt w w.heap.size A ps) (hl : Hid (ps.length = n)) (hs : Hid (Small ps)) :
    Calls Tryd.prog 21 #[.slice A n cap, .string s, .string t] w fun e w' => e = .returned (findAns (find ps s t)) ∧ w = w' := by
  have HB := Lib.hid hb
  have hn8 : n ≤ 8 := by have := hs.out.1; have := hl.out; omega
  clear hb
  go_enter Tryd.func21, Tryd.ntmps21
  go_wp2_with fail
  go_loopg [8] (n + 1) (fun h s8 wr => ∃ i : Nat, s8 = .int .i64 i ∧ Hid (i ≤ n ∧ i + h = n + 1) ∧ Hid (∀ q ∈ (ps.take i).map Pk.path, q ≠ s) ∧ w = wr)
  case atStart => exact ⟨0, rfl, by show _ ∧ _; omega, by simp [Hid], rfl⟩
  case round =>
    obtain ⟨i, rfl, HI, HN, rfl⟩ := hrel
    by_cases hlt : i < n
    · have hltz : (i : Int) < (n : Int) := by omega
      obtain ⟨p, hp⟩ : ∃ p, ps[i]? = some p := ⟨_, List.getElem?_eq_getElem (by have := hl.out; omega)⟩
      obtain ⟨b, o, F, m, c, rfl, _, c0, c1, hm, _, _, hF⟩ := HB.out.at hp
      have hm6 : m ≤ 6 := by rw [hm]; exact (hs.out.2 p (List.mem_of_getElem? hp)).1
      have HM : Hid (p.files.length = m) := hm.symm
      have HF := Lib.hid hF
      have HP := Lib.hid hp
      clear hm hF
      by_cases heq : p.path = s
      · have hse := str_eq heq
        have HE : Hid (find ps s t = match p.files.findIdx? (fun f => f.name = t) with | none => none | some k => some (i, k)) := by
          show _ = _
          unfold find
          rw [idx_hit HP.out HN.out heq]
          show (match ((ps[i]?.map Pk.files).getD []).findIdx? (fun f => f.name = t) with | none => none | some k => some (i, k)) = _
          rw [HP.out]
          show (match p.files.findIdx? (fun f => f.name = t) with | none => none | some k => some (i, k)) = _
          cases p.files.findIdx? (fun f => f.name = t) <;> rfl
        clear heq HN hp
        go_wp2_with fail
        go_loopg [9] (m + 1) (fun h s9 wr => ∃ k : Nat, s9 = .int .i64 k ∧ Hid (k ≤ m ∧ k + h = m + 1) ∧ Hid (∀ q ∈ (p.files.take k).map Fl.name, q ≠ t) ∧ w = wr)
        case atStart => exact ⟨0, rfl, by show _ ∧ _; omega, by simp [Hid], rfl⟩
        case round =>
          obtain ⟨k, rfl, HK, HN, rfl⟩ := hrel
          by_cases hk : k < m
          · have hkz : (k : Int) < (m : Int) := by omega
            obtain ⟨f, hf⟩ : ∃ f, p.files[k]? = some f := ⟨_, List.getElem?_eq_getElem (by have := HM.out; omega)⟩
            obtain ⟨x, y, G, l, z, rfl, _, e0, _, _, _, _, _⟩ := HF.out.at hf
            have HF0 := Lib.hid hf
            clear hf
            by_cases heq : f.name = t
            · have hse2 := str_eq heq
              have HE2 : Hid (find ps s t = some (i, k)) := by
                show _ = _
                rw [HE.out, idx_hit HF0.out HN.out heq]
              clear heq HN HE
              go_wp2_with fail
              go_ret2
              exact ⟨by rw [HE2.out]; rfl, rfl⟩
            · have hse2 := str_ne heq
              have HN2 := Lib.hid (take_ne HF0.out HN.out heq)
              clear heq HN
              go_wp2_with fail
              go_roundg (m - k)
              case measure => have := HK.out; omega
              case rel => exact ⟨k + 1, by go_num, by show _ ∧ _; have := HK.out; omega, HN2.out, rfl⟩
          · have hkz : ¬ (k : Int) < (m : Int) := by omega
            have HE2 : Hid (find ps s t = none) := by
              show _ = _
              rw [HE.out, idx_none (by have h := HN.out; rwa [List.take_of_length_le (by have := HM.out; omega)] at h)]
            clear HE HN
            go_wp2_with fail
            go_ret2
            exact ⟨by rw [HE2.out]; rfl, rfl⟩
      · have hse := str_ne heq
        have HN2 := Lib.hid (take_ne HP.out HN.out heq)
        clear heq HN hp
        go_wp2_with fail
        go_roundg (n - i)
        case measure => have := HI.out; omega
        case rel => exact ⟨i + 1, by go_num, by show _ ∧ _; have := HI.out; omega, HN2.out, rfl⟩
    · have hltz : ¬ (i : Int) < (n : Int) := by omega
      have HE : Hid (find ps s t = none) := by
        show _ = _
        unfold find
        rw [idx_none (by have h := HN.out; rwa [List.take_of_length_le (by have := hl.out; omega)] at h)]
      go_wp2_with fail
      go_ret2
      exact ⟨by rw [HE.out]; rfl, rfl⟩
end Go.Proofs.YtnpmkapapacffaaDoor
