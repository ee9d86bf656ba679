/-
  files.fileFault and files.packageFault.
-/
import Derived.Test.YtnpmkapapacffaaDoorFlAbout
import Derived.Test.YtnpmkapapacffaaDoorFlTurn
import Derived.Deep.RegionHeld
namespace Go.Proofs.YtnpmkapapacffaaDoor
open Go.Shelf Go.RowKit Go.Lib Go.Sort Go.Maps Fm

/-- What meeting a name gives: 8 where it has not the form, 6 where it was met, else 0. -/
def meetK (ok : Bool) (L : List ByteArray) (s : ByteArray) : Nat := if ok = false then 8 else if ∃ g ∈ L, g = s then 6 else 0
theorem meetN_err (s : ByteArray) (b : Nat) (L : List ByteArray) (k : Nat) (hs : s.size ≤ 1000) (w : World) (hn : NamesAt w b L) (hk : Hid (meetK (nameOk true s.data.toList) L s = k)) (h0 : 0 < k) :
    Calls Tryd.prog 51 #[.map (some b), .string s, .func (.func 7) #[] #[]] w fun e w' => e = .returned (errno k) ∧ But w w' [b] := by
  have h := hk.out
  unfold meetK at h
  by_cases h1 : nameOk true s.data.toList = false
  · rw [if_pos h1] at h
    subst h
    exact (meetN_bad s b L hs w hn h1).mono fun _ _ ⟨h1, _, h3⟩ => ⟨h1, h3⟩
  · rw [if_neg h1] at h
    by_cases h2 : ∃ g ∈ L, g = s
    · rw [if_pos h2] at h
      subst h
      obtain ⟨g, hg, rfl⟩ := h2
      exact (meetN_dup g b L hs w hn (show _ = true from by simpa using h1) hg).mono fun _ _ ⟨h1, _, h3⟩ => ⟨h1, h3⟩
    · rw [if_neg h2] at h
      omega
theorem meetN_ok (s : ByteArray) (b : Nat) (L : List ByteArray) (hs : s.size ≤ 1000) (w : World) (hn : NamesAt w b L) (hl : L.length ≤ 1000) (hk : Hid (meetK (nameOk true s.data.toList) L s = 0)) :
    Calls Tryd.prog 51 #[.map (some b), .string s, .func (.func 7) #[] #[]] w fun e w' => e = .returned .nilIface ∧ NamesAt w' b (L ++ [s]) ∧ But w w' [b] := by
  have h := hk.out
  unfold meetK at h
  by_cases h1 : nameOk true s.data.toList = false
  · rw [if_pos h1] at h; omega
  · rw [if_neg h1] at h
    by_cases h2 : ∃ g ∈ L, g = s
    · rw [if_pos h2] at h; omega
    · exact meetN_new s b L hs w hn hl (show _ = true from by simpa using h1) fun h => h2 ⟨s, h, rfl⟩
theorem meetP_err (s : ByteArray) (b : Nat) (L : List ByteArray) (k : Nat) (hs : s.size ≤ 1000) (w : World) (hn : NamesAt w b L) (hk : Hid (meetK (pathOk s.data.toList) L s = k)) (h0 : 0 < k) :
    Calls Tryd.prog 51 #[.map (some b), .string s, .func (.func 9) #[] #[]] w fun e w' => e = .returned (errno k) ∧ But w w' [b] := by
  have h := hk.out
  unfold meetK at h
  by_cases h1 : pathOk s.data.toList = false
  · rw [if_pos h1] at h
    subst h
    exact (meetP_bad s b L hs w hn h1).mono fun _ _ ⟨h1, _, h3⟩ => ⟨h1, h3⟩
  · rw [if_neg h1] at h
    by_cases h2 : ∃ g ∈ L, g = s
    · rw [if_pos h2] at h
      subst h
      obtain ⟨g, hg, rfl⟩ := h2
      exact (meetP_dup g b L hs w hn (show _ = true from by simpa using h1) hg).mono fun _ _ ⟨h1, _, h3⟩ => ⟨h1, h3⟩
    · rw [if_neg h2] at h
      omega
theorem meetP_ok (s : ByteArray) (b : Nat) (L : List ByteArray) (hs : s.size ≤ 1000) (w : World) (hn : NamesAt w b L) (hl : L.length ≤ 1000) (hk : Hid (meetK (pathOk s.data.toList) L s = 0)) :
    Calls Tryd.prog 51 #[.map (some b), .string s, .func (.func 9) #[] #[]] w fun e w' => e = .returned .nilIface ∧ NamesAt w' b (L ++ [s]) ∧ But w w' [b] := by
  have h := hk.out
  unfold meetK at h
  by_cases h1 : pathOk s.data.toList = false
  · rw [if_pos h1] at h; omega
  · rw [if_neg h1] at h
    by_cases h2 : ∃ g ∈ L, g = s
    · rw [if_pos h2] at h; omega
    · exact meetP_new s b L hs w hn hl (show _ = true from by simpa using h1) fun h => h2 ⟨s, h, rfl⟩
set_option maxHeartbeats 2000000 in
theorem fileFault_err (s : ByteArray) (A : Option Addr) (n c b : Nat) (L : List ByteArray) (k : Nat) (hs : s.size ≤ 1000) (w : World) (hn : NamesAt w b L) (hk : Hid (meetK (nameOk true s.data.toList) L s = k)) (h0 : 0 < k) :
    Calls Tryd.prog 52 #[.agg #[.string s, .slice A n c], .map (some b)] w fun e w' => e = .returned (errno k) ∧ But w w' [b] := by
  have HM := Lib.hid (meetN_err s b L k hs (w.alloc (.cells #[.string s, .slice A n c] 39)) (hn.below ((Below.refl _ _).alloc (Nat.le_refl _) _)) hk h0)
  clear hn
  unfold errno at *
  go_enter Tryd.func52, Tryd.ntmps52
  go_wp2_with fail
  refine HM.out.mono ?_
  rintro e w1 ⟨rfl, hw1⟩
  have H1 := Lib.hid hw1
  clear hw1
  go_wp2_with fail
  go_ret
  exact ⟨rfl, ((But.refl w _).alloc _).trans H1.out⟩
set_option maxHeartbeats 2000000 in
theorem fileFault_ok (s : ByteArray) (A : Option Addr) (n c b : Nat) (L : List ByteArray) (hs : s.size ≤ 1000) (hn3 : n ≤ 300) (w : World) (hn : NamesAt w b L) (hl : L.length ≤ 1000) (hk : Hid (meetK (nameOk true s.data.toList) L s = 0)) :
    Calls Tryd.prog 52 #[.agg #[.string s, .slice A n c], .map (some b)] w fun e w' => e = .returned .nilIface ∧ NamesAt w' b (L ++ [s]) ∧ But w w' [b] := by
  have hb := hn.lt
  have HM := Lib.hid (meetN_ok s b L hs (w.alloc (.cells #[.string s, .slice A n c] 39)) (hn.below ((Below.refl _ _).alloc (Nat.le_refl _) _)) hl hk)
  have hn4 : ¬ (16777216 : Int) < (n : Int) := by omega
  clear hn
  go_enter Tryd.func52, Tryd.ntmps52
  go_wp2_with fail
  refine HM.out.mono ?_
  rintro e w1 ⟨rfl, hn1, hw1⟩
  have H1 := Lib.hid hw1
  have N1 := Lib.hid hn1
  have c0 : w1.cell? ⟨w.heap.size, 0, none⟩ = some (.string s) := (hw1.cell (p := ⟨w.heap.size, 0, none⟩) (by simp) (by simp; omega)).trans (by simp)
  have c1 : w1.cell? ⟨w.heap.size, 1, none⟩ = some (.slice A n c) := (hw1.cell (p := ⟨w.heap.size, 1, none⟩) (by simp) (by simp; omega)).trans (by simp)
  clear hw1 hn1
  go_wp2_with fail
  go_ret
  exact ⟨rfl, N1.out, ((But.refl w _).alloc _).trans H1.out⟩
theorem flFault_step {fs : List Fl} {i : Nat} {f : Fl} (h : fs[i]? = some f) (ht : f.text.length ≤ 300) : flFault (fs.take i) (fs.drop i) = if meetK (nameOk true f.name.data.toList) ((fs.take i).map Fl.name) f.name = 0 then flFault (fs.take (i + 1)) (fs.drop (i + 1)) else some (meetK (nameOk true f.name.data.toList) ((fs.take i).map Fl.name) f.name, f.name) := by
  rw [drop_at h, flFault, take_at h]
  have e : (∃ g ∈ fs.take i, g.name = f.name) ↔ ∃ g ∈ (fs.take i).map Fl.name, g = f.name := by
    constructor
    · rintro ⟨g, hg, e⟩; exact ⟨_, List.mem_map.2 ⟨g, hg, rfl⟩, e⟩
    · rintro ⟨_, hm, e⟩; obtain ⟨g, hg, rfl⟩ := List.mem_map.1 hm; exact ⟨g, hg, e⟩
  unfold meetK
  show (if nameOk true f.name.data.toList = false then _ else _) = _
  by_cases h1 : nameOk true f.name.data.toList = false
  · rw [if_pos h1, if_pos h1]; rfl
  · rw [if_neg h1, if_neg h1]
    by_cases h2 : ∃ g ∈ fs.take i, g.name = f.name
    · rw [if_pos h2, if_pos (e.1 h2)]; rfl
    · rw [if_neg h2, if_neg (fun h => h2 (e.2 h)), if_neg (by omega)]; rfl
theorem pkFault_step {ps : List Pk} {i : Nat} {p : Pk} (h : ps[i]? = some p) : pkFault (ps.take i) (ps.drop i) = if meetK (pathOk p.path.data.toList) ((ps.take i).map Pk.path) p.path = 0 then (match flFault [] p.files with | some e => some e | none => pkFault (ps.take (i + 1)) (ps.drop (i + 1))) else some (meetK (pathOk p.path.data.toList) ((ps.take i).map Pk.path) p.path, p.path) := by
  rw [drop_at h, pkFault, take_at h]
  have e : (∃ g ∈ ps.take i, g.path = p.path) ↔ ∃ g ∈ (ps.take i).map Pk.path, g = p.path := by
    constructor
    · rintro ⟨g, hg, e⟩; exact ⟨_, List.mem_map.2 ⟨g, hg, rfl⟩, e⟩
    · rintro ⟨_, hm, e⟩; obtain ⟨g, hg, rfl⟩ := List.mem_map.1 hm; exact ⟨g, hg, e⟩
  unfold meetK
  show (if pathOk p.path.data.toList = false then _ else _) = _
  by_cases h1 : pathOk p.path.data.toList = false
  · rw [if_pos h1, if_pos h1]; rfl
  · rw [if_neg h1, if_neg h1]
    by_cases h2 : ∃ g ∈ ps.take i, g.path = p.path
    · rw [if_pos h2, if_pos (e.1 h2)]; rfl
    · rw [if_neg h2, if_neg (fun h => h2 (e.2 h))]; rfl
/-- Names as short as the laws' own looks go. -/
def Short (ps : List Pk) : Prop := ∀ p ∈ ps, p.path.size ≤ 1000 ∧ ∀ f ∈ p.files, f.name.size ≤ 1000
/-- The error of a faulty file. -/
def flErr : Option (Nat × ByteArray) → Value
  | none => .nilIface
  | some (k, s) => lackOf s k
end Go.Proofs.YtnpmkapapacffaaDoor
