/-
  Packages of files as values: names and paths, the first fault of a list, the order, the picks; where no fault is, picks do not matter to the order. No program.
-/
import Derived.Test.YtnpmkapapacffaaDoorStabMath
namespace Go.Proofs.YtnpmkapapacffaaDoor.Fm
open Go.Sort
/-- A file. -/
structure Fl where
  name : ByteArray
  text : List Int
/-- A package. -/
structure Pk where
  path : ByteArray
  files : List Fl
instance : Inhabited Fl := ⟨⟨ByteArray.empty, []⟩⟩
instance : Inhabited Pk := ⟨⟨ByteArray.empty, []⟩⟩
def fk (f : Fl) : List UInt8 := f.name.data.toList
def pk (p : Pk) : List UInt8 := p.path.data.toList
theorem bytes_inj {s t : ByteArray} (h : s.data.toList = t.data.toList) : s = t := ByteArray.ext (Array.ext' h)

/-! ### Sorting and picks, over lists -/
section
variable {α β : Type} [Inhabited α] [Inhabited β]
/-- The stable sorting of a list by a key. -/
def ordL (key : α → List UInt8) (l : List α) : List α := (Stb.ord key l.toArray).toList
theorem ordL_sorted (key : α → List UInt8) (l : List α) : Stb.Sorted key (ordL key l) := Stb.sorted_toList (by rw [Stb.ord_size]; exact Stb.ord_sorted key l.toArray)
theorem ordL_same (key : α → List UInt8) (l : List α) : Stb.Same key l (ordL key l) := by have := (Stb.ord_nb key l.toArray).same; simpa [ordL] using this
theorem ordL_length (key : α → List UInt8) (l : List α) : (ordL key l).length = l.length := by simp [ordL, Stb.ord_size]
theorem ordL_mem {key : α → List UInt8} {l : List α} {x : α} : x ∈ ordL key l ↔ x ∈ l := ⟨(ordL_same key l).symm.mem, (ordL_same key l).mem⟩
omit [Inhabited α] in
theorem ordL_unique [Inhabited α] {key : α → List UInt8} {l m : List α} (hs : Stb.Sorted key m) (h : Stb.Same key l m) : m = ordL key l := Stb.unique hs (ordL_sorted key l) (h.symm.trans (ordL_same key l))
theorem ordL_perm {key : α → List UInt8} {l m : List α} (hp : l.Perm m) (hd : (l.map key).Nodup) : ordL key m = ordL key l :=
  (ordL_unique (ordL_sorted key m) ((Stb.Same.of_perm hp hd).trans (ordL_same key m)))
theorem ordL_map {key : α → List UInt8} {key' : β → List UInt8} (f : α → β) (hk : ∀ x, key' (f x) = key x) (l : List α) : ordL key' (l.map f) = (ordL key l).map f := by
  symm
  apply ordL_unique
  · rw [Stb.Sorted, List.pairwise_map]
    exact (ordL_sorted key l).imp fun {x y} h => by simpa [Stb.lt, hk] using h
  · intro c
    have h := ordL_same key l c
    have e : ∀ m : List α, (m.map f).filter (fun x => key' x == c) = (m.filter fun x => key x == c).map f := fun m => by
      rw [List.filter_map]
      congr 1
      apply List.filter_congr
      intro x _
      simp [hk]
    rw [e, e, h]
/-- Where what stands at i goes, of n, by a pick. -/
def tgt (n i : Nat) (x : Int) : Nat := i + (x % ((n : Int) - i)).toNat
theorem tgt_lt {n i : Nat} (x : Int) (h : i < n) : i ≤ tgt n i x ∧ tgt n i x < n := by
  have h1 := Int.emod_nonneg x (show (n : Int) - i ≠ 0 by omega)
  have h2 := Int.emod_lt_of_pos x (show (0 : Int) < n - i by omega)
  unfold tgt
  omega
/-- A remainder that may be below nothing, brought above it. -/
theorem mod_fix (x m : Int) (h : 0 < m) : (if x.tmod m < 0 then x.tmod m + m else x.tmod m) = x % m := by
  by_cases hx : 0 ≤ x
  · have h0 := Int.tmod_eq_emod_of_nonneg (b := m) hx
    have h1 := Int.emod_nonneg x (show m ≠ 0 by omega)
    rw [h0, if_neg (by omega)]
  · have e1 : x.tmod m = -((-x).tmod m) := by rw [← Int.neg_tmod, Int.neg_neg]
    have e2 : (-x).tmod m = (-x) % m := Int.tmod_eq_emod_of_nonneg (by omega)
    have b1 := Int.emod_nonneg (-x) (show m ≠ 0 by omega)
    have b2 := Int.emod_lt_of_pos (-x) h
    have d1 := Int.mul_ediv_add_emod (-x) m
    rw [e1, e2]
    by_cases h0 : (-x) % m = 0
    · rw [if_neg (by omega)]
      have : x % m = 0 := by
        have : m ∣ -x := Int.dvd_of_emod_eq_zero h0
        exact Int.emod_eq_zero_of_dvd (Int.dvd_neg.1 this)
      omega
    · rw [if_pos (by omega)]
      have h3 : ((m - (-x) % m) + m * (-((-x) / m) - 1)) % m = m - (-x) % m := by rw [Int.add_mul_emod_self_left, Int.emod_eq_of_lt (by omega) (by omega)]
      have h4 : (m - (-x) % m) + m * (-((-x) / m) - 1) = x := by rw [Int.mul_sub, Int.mul_neg]; omega
      rw [h4] at h3
      omega
/-- The row behind the first picks. -/
def permTo (d : Array α) (pick : List Int) : Nat → Array α
  | 0 => d
  | i + 1 => if i < d.size then (match pick[i]? with | some x => swp (permTo d pick i) i (tgt d.size i x) | none => permTo d pick i) else permTo d pick i
theorem permTo_size (d : Array α) (pick : List Int) : ∀ n, (permTo d pick n).size = d.size
  | 0 => rfl
  | i + 1 => by
    unfold permTo
    split
    · split
      · rw [size_swp, permTo_size d pick i]
      · exact permTo_size d pick i
    · exact permTo_size d pick i
theorem permTo_go (d : Array α) (pick : List Int) {i : Nat} {x : Int} (h : i < d.size) (hx : pick[i]? = some x) : permTo d pick (i + 1) = swp (permTo d pick i) i (tgt d.size i x) := by
  rw [permTo, if_pos h, hx]
theorem permTo_end (d : Array α) (pick : List Int) {i : Nat} (h : d.size ≤ i ∨ pick.length ≤ i) : permTo d pick (i + 1) = permTo d pick i := by
  rw [permTo]
  rcases h with h | h
  · rw [if_neg (by omega)]
  · rw [List.getElem?_eq_none h]; simp
theorem permTo_stay (d : Array α) (pick : List Int) {i : Nat} (h : d.size ≤ i ∨ pick.length ≤ i) : ∀ n, permTo d pick (i + n) = permTo d pick i
  | 0 => rfl
  | n + 1 => by rw [← Nat.add_assoc, permTo_end d pick (by omega), permTo_stay d pick h n]
theorem swp_perm (d : Array α) {i j : Nat} (hi : i < d.size) (hj : j < d.size) : d.toList.Perm (swp d i j).toList := by
  have := (swp_permIn d 0 d.size i j (Nat.zero_le _) hi (Nat.zero_le _) hj (Nat.le_refl _)).2.2
  have hs : (swp d i j).extract 0 d.size = swp d i j := by rw [← size_swp d i j]; simp
  rw [hs] at this
  simpa using this.symm
theorem permTo_perm (d : Array α) (pick : List Int) : ∀ n, d.toList.Perm (permTo d pick n).toList
  | 0 => .refl _
  | i + 1 => by
    have ih := permTo_perm d pick i
    unfold permTo
    split
    · rename_i h
      split
      · rename_i x _
        exact ih.trans (swp_perm _ (by rw [permTo_size]; exact h) (by rw [permTo_size]; exact (tgt_lt x h).2))
      · exact ih
    · exact ih
/-- A list behind its picks. -/
def permL (l : List α) (pick : List Int) : List α := (permTo l.toArray pick l.length).toList
theorem permL_perm (l : List α) (pick : List Int) : l.Perm (permL l pick) := permTo_perm l.toArray pick _
theorem permL_length (l : List α) (pick : List Int) : (permL l pick).length = l.length := (permL_perm l pick).length_eq.symm
end

/-! ### The order and the picks of packages -/
def inOrder (p : Pk) : Pk := ⟨p.path, ordL fk p.files⟩
def ordP (l : List Pk) : List Pk := (ordL pk l).map inOrder
def picked (pick : List Int) (p : Pk) : Pk := ⟨p.path, permL p.files pick⟩
def permP (l : List Pk) (pick : List Int) : List Pk := (permL l pick).map (picked pick)
/-- All paths part, and all names of each package. -/
def Part (l : List Pk) : Prop := (l.map pk).Nodup ∧ ∀ p ∈ l, (p.files.map fk).Nodup
theorem ordP_permP {l : List Pk} (h : Part l) (pick : List Int) : ordP (permP l pick) = ordP l := by
  unfold ordP permP
  rw [ordL_map (key := pk) (picked pick) (fun _ => rfl), ordL_perm (permL_perm l pick) h.1, List.map_map]
  apply List.map_congr_left
  intro p hp
  have := h.2 p (ordL_mem.1 hp)
  show Pk.mk _ _ = Pk.mk _ _
  rw [picked, ordL_perm (permL_perm p.files pick) this]

/-! ### Names, paths, faults -/
def letter (c : UInt8) : Bool := 97 ≤ c && c ≤ 122
def signOk (dots : Bool) (c : UInt8) : Bool := letter c || (48 ≤ c && c ≤ 57) || c == 95 || (dots && c == 46)
def nameOk (dots : Bool) (s : List UInt8) : Bool := match s with | [] => false | c :: _ => s.length ≤ 64 && letter c && s.all (signOk dots)
/-- What stands between slashes. -/
def parts : List UInt8 → List (List UInt8)
  | [] => [[]]
  | c :: r => if c = 47 then [] :: parts r else match parts r with | [] => [[c]] | p :: q => (c :: p) :: q
def pathOk (s : List UInt8) : Bool := s.length ≤ 128 && (parts s).all (nameOk false)
theorem parts_cons {a : List UInt8} (h : ∀ c ∈ a, c ≠ 47) : ∀ {r : List UInt8}, parts (a ++ 47 :: r) = a :: parts r := by
  induction a with
  | nil => intro r; simp [parts]
  | cons c a ih =>
    intro r
    rw [List.cons_append, parts, if_neg (h c List.mem_cons_self), ih fun d hd => h d (List.mem_cons_of_mem _ hd)]
theorem parts_last {a : List UInt8} (h : ∀ c ∈ a, c ≠ 47) : parts a = [a] := by
  induction a with
  | nil => rfl
  | cons c a ih => rw [parts, if_neg (h c List.mem_cons_self), ih fun d hd => h d (List.mem_cons_of_mem _ hd)]
def flFault : List Fl → List Fl → Option (Nat × ByteArray)
  | _, [] => none
  | seen, f :: r => if nameOk true (fk f) = false then some (8, f.name) else if ∃ g ∈ seen, g.name = f.name then some (6, f.name) else if 16777216 < f.text.length then some (2, f.name) else flFault (seen ++ [f]) r
def pkFault : List Pk → List Pk → Option (Nat × ByteArray)
  | _, [] => none
  | seen, p :: r => if pathOk (pk p) = false then some (8, p.path) else if ∃ q ∈ seen, q.path = p.path then some (6, p.path) else match flFault [] p.files with | some e => some e | none => pkFault (seen ++ [p]) r
/-- The first fault of all, and of which name. -/
def fault (l : List Pk) : Option (Nat × ByteArray) := if 4096 < l.length ∨ ∃ p ∈ l, 4096 < p.files.length then some (2, ByteArray.empty) else pkFault [] l
theorem flFault_part : ∀ {r seen : List Fl}, flFault seen r = none → (seen.map fk).Nodup → ((seen ++ r).map fk).Nodup
  | [], seen, _, h => by simpa using h
  | f :: r, seen, h, hs => by
    unfold flFault at h
    split at h
    · cases h
    · split at h
      · cases h
      · rename_i hn
        split at h
        · cases h
        · have := flFault_part h (by
            rw [List.map_append, List.nodup_append]
            refine ⟨hs, by simp, ?_⟩
            intro a ha b hb e
            rw [List.map_singleton, List.mem_singleton] at hb
            obtain ⟨g, hg, rfl⟩ := List.mem_map.1 ha
            exact hn ⟨g, hg, bytes_inj (e.trans hb)⟩)
          simpa using this
theorem pkFault_part : ∀ {r seen : List Pk}, pkFault seen r = none → Part seen → Part (seen ++ r)
  | [], seen, _, h => by simpa using h
  | p :: r, seen, h, hs => by
    unfold pkFault at h
    split at h
    · cases h
    · split at h
      · cases h
      · rename_i hn
        split at h
        · cases h
        · rename_i hf
          have := pkFault_part h (by
            refine ⟨?_, fun q hq => ?_⟩
            · rw [List.map_append, List.nodup_append]
              refine ⟨hs.1, by simp, ?_⟩
              intro a ha b hb e
              rw [List.map_singleton, List.mem_singleton] at hb
              obtain ⟨g, hg, rfl⟩ := List.mem_map.1 ha
              exact hn ⟨g, hg, bytes_inj (e.trans hb)⟩
            · rcases List.mem_append.1 hq with hq | hq
              · exact hs.2 q hq
              · rw [List.mem_singleton.1 hq]
                simpa using flFault_part hf (by simp))
          simpa using this
theorem fault_part {l : List Pk} (h : fault l = none) : Part l := by
  unfold fault at h
  split at h
  · cases h
  · simpa using pkFault_part h ⟨by simp, by simp⟩

/-! ### Finding and replacing -/
/-- The places of the first file of that name in the first package of that path. -/
def find (l : List Pk) (path name : ByteArray) : Option (Nat × Nat) :=
  match l.findIdx? (fun p => p.path = path) with
  | none => none
  | some i => match ((l[i]?.map Pk.files).getD []).findIdx? (fun f => f.name = name) with | none => none | some k => some (i, k)
/-- The list with one text put anew. -/
def put (l : List Pk) (i k : Nat) (text : List Int) : List Pk := l.modify i fun p => ⟨p.path, p.files.modify k fun f => ⟨f.name, text⟩⟩
theorem put_length (l : List Pk) (i k : Nat) (t : List Int) : (put l i k t).length = l.length := by simp [put]
theorem find_put (l : List Pk) (i k : Nat) (t : List Int) (path name : ByteArray) : find (put l i k t) path name = find l path name := by
  have e1 : ∀ j, (put l i k t)[j]?.map Pk.path = l[j]?.map Pk.path := fun j => by
    unfold put; rw [List.getElem?_modify]; split
    · cases l[j]? <;> rfl
    · cases l[j]? <;> rfl
  have e2 : ∀ j, ((put l i k t)[j]?.map Pk.files).map (List.map Fl.name) = (l[j]?.map Pk.files).map (List.map Fl.name) := fun j => by
    unfold put; rw [List.getElem?_modify]; split
    · cases l[j]? with
      | none => rfl
      | some p =>
        show some ((p.files.modify k fun f => ⟨f.name, t⟩).map Fl.name) = some (p.files.map Fl.name)
        congr 1
        apply List.ext_getElem?
        intro q
        simp only [List.getElem?_map, List.getElem?_modify]
        split <;> cases p.files[q]? <;> rfl
    · cases l[j]? <;> rfl
  have f1 : ∀ m : List Pk, m.findIdx? (fun p => p.path = path) = (m.map Pk.path).findIdx? (fun s => s = path) := fun m => by rw [List.findIdx?_map]; rfl
  have f2 : ∀ m : List Fl, m.findIdx? (fun f => f.name = name) = (m.map Fl.name).findIdx? (fun s => s = name) := fun m => by rw [List.findIdx?_map]; rfl
  have p1 : (put l i k t).map Pk.path = l.map Pk.path := by
    apply List.ext_getElem?
    intro q
    simpa [List.getElem?_map] using e1 q
  unfold find
  rw [f1, f1, p1]
  cases (l.map Pk.path).findIdx? (fun s => s = path) with
  | none => rfl
  | some j =>
    simp only []
    rw [f2, f2]
    have := e2 j
    have e3 : ∀ o : Option Pk, ((o.map Pk.files).getD []).map Fl.name = (((o.map Pk.files).map (List.map Fl.name)).getD []) := fun o => by cases o <;> rfl
    rw [e3, e3, this]
end Go.Proofs.YtnpmkapapacffaaDoor.Fm
