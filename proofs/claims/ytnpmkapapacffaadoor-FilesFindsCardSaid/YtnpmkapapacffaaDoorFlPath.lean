/-
  files.Path and the reference's Path.
-/
import Derived.Test.YtnpmkapapacffaaDoorFlGen
import Derived.Test.YtnpmkapapacffaaDoorFlPathM
namespace Go.Proofs.YtnpmkapapacffaaDoor
open Go.Shelf Go.RowKit Go.Lib Go.Sort Fm

theorem cellsOf_at {done : List ByteArray} {N i : Nat} {x : ByteArray} (h : done[i]? = some x) : (Lib.cellsOf done N)[i]? = some (.string x) := by
  unfold Lib.cellsOf
  have hi := (List.getElem?_eq_some_iff.1 h).1
  rw [List.getElem?_toArray, List.getElem?_append_left (by simpa using hi), List.getElem?_map, h]
  rfl
theorem split_run (s : ByteArray) (w : World) (hs : s.size < 100000) :
    Calls Tryd.prog 29 #[.string s, .string ⟨#[47]⟩] w fun e w' => ∃ N, e = .returned (.slice (some ⟨w.heap.size, 0, none⟩) (pieces s).length N) ∧ (∀ i x, (pieces s)[i]? = some x → w'.cell? ⟨w.heap.size, i, none⟩ = some (.string x)) ∧ Below w.heap.size w w' := by
  have hN : Lib.countB s ⟨#[47]⟩ + 1 ≤ s.size + 1 := by
    have := Lib.countB_le ⟨#[47]⟩ (Nat.le_refl _) s.size s (Nat.le_refl _)
    omega
  have HG := Lib.hid (genSplit_run s ⟨#[47]⟩ (Lib.countB s ⟨#[47]⟩ + 1) w hs (Nat.le_refl _) (fun x W => index_run x 47 W) (fun W => count_run s 47 W) rfl hN)
  have HP : Hid (Lib.splitB ⟨#[47]⟩ 0 (Lib.countB s ⟨#[47]⟩ + 1 - 1) s = pieces s) := rfl
  rw [HP.out] at HG
  have HCL : Hid (∀ N i x, (pieces s)[i]? = some x → (w.alloc (.cells (Lib.cellsOf (pieces s) N) 9)).cell? ⟨w.heap.size, i, none⟩ = some (.string x)) := fun N i x h => by
    rw [World.cell?_alloc_at _ _ _ _ rfl]
    exact cellsOf_at h
  generalize Lib.countB s ⟨#[47]⟩ + 1 = N at *
  generalize pieces s = ps at *
  clear hN HP
  go_enter Tryd.func29, Tryd.ntmps29
  go_wp2_with (go_at_call 48; refine HG.out.mono ?_; rintro e w1 ⟨rfl, rfl⟩)
  go_ret
  exact ⟨N, rfl, HCL.out N, (Below.refl _ _).alloc (Nat.le_refl _) _⟩
def PiecesTo (s : ByteArray) (i : Nat) : Prop := ((pieces s).take i).all (fun x => nameOk true x.data.toList) = true
set_option maxHeartbeats 4000000 in
theorem Path_run (s : ByteArray) (v : Bool) (hs : s.size < 100000) (hv : Hid (pathOk s.data.toList = v)) (w : World) : Calls Tryd.prog 9 #[.string s] w fun e w' => e = .returned (.bool v) ∧ Below w.heap.size w w' := by
  have HLen : Hid (s.data.toList.length = s.size) := by show _ = _; simp
  by_cases h1 : 128 < s.size
  · have HV : Hid (v = false) := hv.out.symm.trans (path_long (by have := HLen.out; omega))
    have h1z : (128 : Int) < (s.size : Int) := by omega
    go_enter Tryd.func9, Tryd.ntmps9
    go_wp2
    go_ret
    exact ⟨ret_bool HV.out.symm, Below.refl _ _⟩
  · have h1z : ¬ (128 : Int) < (s.size : Int) := by omega
    by_cases h2 : (46 : UInt8) ∈ s.data.toList
    · have HV : Hid (v = false) := hv.out.symm.trans (path_dot h2)
      have HB : Hid (decide (0 ≤ Lib.indexB s ⟨#[46]⟩) = true) := by
        show _ = _
        apply decide_eq_true
        rw [indexB_one]
        have hge := Lib.indexByte_ge s.data.toList 46
        apply Classical.byContradiction
        intro hn
        obtain ⟨k, hk, he⟩ := List.mem_iff_getElem.1 h2
        exact Lib.indexByte_none (show Lib.indexByte s.data.toList 46 = -1 by omega) k (by rw [List.getElem?_eq_getElem hk, he])
      have HC := Lib.hid (contains_run s 46 true HB)
      clear h2 HB
      go_enter Tryd.func9, Tryd.ntmps9
      go_wp2_with (go_at_call 28; refine (HC.out _).mono ?_; rintro e w1 ⟨rfl, rfl⟩)
      go_ret
      exact ⟨ret_bool HV.out.symm, Below.refl _ _⟩
    · have HPP : Hid (pathOk s.data.toList = (pieces s).all fun x => nameOk true x.data.toList) := path_pieces s h1 fun c hc e => h2 (e ▸ hc)
      have HB : Hid (decide (0 ≤ Lib.indexB s ⟨#[46]⟩) = false) := by
        show _ = _
        apply decide_eq_false
        rw [indexB_one]
        intro hn
        obtain ⟨k, hk⟩ : ∃ k : Nat, Lib.indexByte s.data.toList 46 = k := ⟨(Lib.indexByte s.data.toList 46).toNat, by omega⟩
        exact h2 (List.mem_of_getElem? (Lib.indexByte_some hk).1)
      have HC := Lib.hid (contains_run s 46 false HB)
      have HS := Lib.hid (split_run s w hs)
      have HSZ : Hid (∀ x ∈ pieces s, x.size ≤ 100000) := fun x hx => by have := pieces_size s x hx; omega
      have HPT : Hid (PiecesTo s 0) := rfl
      obtain ⟨n, hn⟩ : ∃ n, (pieces s).length = n := ⟨_, rfl⟩
      have HPL : Hid (n ≤ 100001) := by
        show _ ≤ _
        rw [← hn]
        have := Lib.splitB_length_le ⟨#[47]⟩ 0 (Lib.countB s ⟨#[47]⟩) s
        have h3 := Lib.countB_le ⟨#[47]⟩ (Nat.le_refl _) s.size s (Nat.le_refl _)
        unfold pieces
        omega
      rw [hn] at HS
      have HN := Lib.hid hn
      have hn5 := HPL.out
      clear h2 HB hn
      go_enter Tryd.func9, Tryd.ntmps9
      go_wp2_with (first | (go_at_call 28; refine (HC.out _).mono ?_; rintro e w1 ⟨rfl, rfl⟩) | (go_at_call 29; refine HS.out.mono ?_; rintro e w1 ⟨N, rfl, hcl, hbw⟩; have HCL := Lib.hid hcl; have HBW := Lib.hid hbw; clear hcl hbw))
      clear HC HS
      generalize w1 = W at *
      go_loopg [15] (n + 1) (fun h s15 wr => ∃ i : Nat, s15 = .int .i64 i ∧ Hid (i ≤ n ∧ i + h = n + 1) ∧ Hid (PiecesTo s i) ∧ wr = W)
      case atStart => exact ⟨0, rfl, by show _ ∧ _; omega, HPT.out, rfl⟩
      case round =>
        clear HPT
        obtain ⟨i, rfl, HI, HA, rfl⟩ := hrel
        by_cases hlt : i < n
        · have hltz : (i : Int) < (n : Int) := by omega
          obtain ⟨x, hx⟩ : ∃ x, (pieces s)[i]? = some x := ⟨_, List.getElem?_eq_getElem (by have := HN.out; omega)⟩
          have c0 := HCL.out i x hx
          have HXX := Lib.hid hx
          obtain ⟨b, hb⟩ : ∃ b, nameOk true x.data.toList = b := ⟨_, rfl⟩
          have HNM := Lib.hid (Name_run x b (HSZ.out x (List.mem_of_getElem? hx)) hb)
          have HBB := Lib.hid hb
          clear hx hb
          cases b with
          | true =>
            go_wp2_with (go_at_call 7; refine (HNM.out _).mono ?_; rintro e w1 ⟨rfl, rfl⟩)
            go_roundg (n - i)
            case measure => have := HI.out; omega
            case rel =>
              refine ⟨i + 1, by go_num, by show _ ∧ _; have := HI.out; omega, ?_, rfl⟩
              show PiecesTo s (i + 1)
              have := HA.out
              unfold PiecesTo at *
              rw [take_at HXX.out, List.all_append, this]
              simp [HBB.out]
          | false =>
            have HV : Hid (v = false) := hv.out.symm.trans (HPP.out.trans (by rw [List.all_eq_false]; exact ⟨x, List.mem_of_getElem? HXX.out, by rw [HBB.out]; simp⟩))
            go_wp2_with (go_at_call 7; refine (HNM.out _).mono ?_; rintro e w1 ⟨rfl, rfl⟩)
            go_ret
            exact ⟨ret_bool HV.out.symm, HBW.out⟩
        · have hltz : ¬ (i : Int) < (n : Int) := by omega
          have HV : Hid (v = true) := hv.out.symm.trans (HPP.out.trans (by
            have := HA.out
            unfold PiecesTo at this
            rwa [List.take_of_length_le (by have := HN.out; omega)] at this))
          go_wp2_with fail
          go_ret
          exact ⟨ret_bool HV.out.symm, HBW.out⟩
/-- How far the reference has looked. -/
def RefPath (l : List UInt8) (n j i : Nat) : Prop := (i ≤ n ∧ j ≤ i ∧ (parts l).all (nameOk false) = (parts (l.drop j)).all (nameOk false) ∧ ∀ k, j ≤ k → k < i → l[k]? ≠ some 47) ∨ (i = n + 1 ∧ (parts l).all (nameOk false) = true)
theorem RefPath.start (l : List UInt8) (n : Nat) : RefPath l n 0 0 := .inl ⟨Nat.zero_le _, Nat.le_refl _, rfl, fun _ _ h => absurd h (Nat.not_lt_zero _)⟩
theorem RefPath.next {l : List UInt8} {n j i : Nat} (h : RefPath l n j i) (hi : i < n) (h47 : l[i]? ≠ some 47) : RefPath l n j (i + 1) := by
  rcases h with ⟨_, h2, h3, h4⟩ | ⟨h1, _⟩
  · refine .inl ⟨hi, by omega, h3, fun k hk1 hk2 => ?_⟩
    by_cases e : k = i
    · rw [e]; exact h47
    · exact h4 k hk1 (by omega)
  · omega
theorem extract_piece (s : ByteArray) (j i : Nat) : (s.extract j i).data.toList = (s.data.toList.drop j).take (i - j) := by
  rw [Lib.extract_data]
theorem RefPath.slash {s : ByteArray} {n j i : Nat} (h : RefPath s.data.toList n j i) (hi : i < n) (h47 : s.data.toList[i]? = some 47) : (nameOk false (s.extract j i).data.toList = false → (parts s.data.toList).all (nameOk false) = false) ∧ (nameOk false (s.extract j i).data.toList = true → RefPath s.data.toList n (i + 1) (i + 1)) := by
  rcases h with ⟨_, h2, h3, h4⟩ | ⟨h1, _⟩
  · rw [parts_at h2 h47 h4, List.all_cons, ← extract_piece] at h3
    refine ⟨fun h => by rw [h3, h, Bool.false_and], fun h => .inl ⟨hi, Nat.le_refl _, by rw [h3, h, Bool.true_and], fun k h1 h2 => by omega⟩⟩
  · omega
theorem RefPath.last {s : ByteArray} {n j i : Nat} (h : RefPath s.data.toList n j i) (hn : s.data.toList.length = n) (hi : i = n) : (nameOk false (s.extract j i).data.toList = false → (parts s.data.toList).all (nameOk false) = false) ∧ (nameOk false (s.extract j i).data.toList = true → RefPath s.data.toList n (i + 1) (i + 1)) := by
  rcases h with ⟨_, h2, h3, h4⟩ | ⟨h1, _⟩
  · have e : (s.extract j i).data.toList = s.data.toList.drop j := by
      rw [extract_piece, List.take_of_length_le (by rw [List.length_drop]; omega)]
    rw [parts_end (fun k hk => ?_), List.all_cons, List.all_nil, Bool.and_true, ← e] at h3
    · exact ⟨fun h => by rw [h3, h], fun h => .inr ⟨by omega, by rw [h3, h]⟩⟩
    · by_cases hk2 : k < i
      · exact h4 k hk hk2
      · rw [List.getElem?_eq_none (by omega)]; simp
  · omega
theorem RefPath.done {l : List UInt8} {n j i : Nat} (h : RefPath l n j i) (hi : n < i) : (parts l).all (nameOk false) = true := by
  rcases h with ⟨h1, _⟩ | ⟨_, h2⟩
  · omega
  · exact h2
theorem RefPath.le {l : List UInt8} {n j i : Nat} (h : RefPath l n j i) (hi : i ≤ n) : j ≤ i := by
  rcases h with ⟨_, h2, _⟩ | ⟨h1, _⟩ <;> omega
set_option maxHeartbeats 4000000 in
theorem refPath_run (s : ByteArray) (v : Bool) (hs : s.size < 100000) (hv : Hid (pathOk s.data.toList = v)) (w : World) : Calls Tryd.prog 10 #[.string s] w fun e w' => e = .returned (.bool v) ∧ w = w' := by
  have HLen : Hid (s.data.toList.length = s.size) := by show _ = _; simp
  by_cases h1 : 128 < s.size
  · have HV : Hid (v = false) := hv.out.symm.trans (path_long (by have := HLen.out; omega))
    have h1z : (128 : Int) < (s.size : Int) := by omega
    go_enter Tryd.func10, Tryd.ntmps10
    go_wp2
    go_ret
    exact ⟨ret_bool HV.out.symm, rfl⟩
  · have h1z : ¬ (128 : Int) < (s.size : Int) := by omega
    have HPO : Hid (pathOk s.data.toList = (parts s.data.toList).all (nameOk false)) := by show _ = _; unfold pathOk; rw [decide_eq_true (by have := HLen.out; omega), Bool.true_and]
    have HPV : Hid ((parts s.data.toList).all (nameOk false) = v) := HPO.out.symm.trans hv.out
    have HR0 : Hid (RefPath s.data.toList s.size 0 0) := RefPath.start _ _
    go_enter Tryd.func10, Tryd.ntmps10
    go_wp2_with fail
    go_loopg [3, 4] (s.size + 2) (fun h s3 s4 wr => ∃ j i : Nat, s3 = .int .i64 j ∧ s4 = .int .i64 i ∧ Hid (i ≤ s.size + 1 ∧ i + h = s.size + 2) ∧ Hid (RefPath s.data.toList s.size j i) ∧ wr = w)
    case atStart => exact ⟨0, 0, rfl, rfl, by show _ ∧ _; omega, HR0.out, rfl⟩
    case round =>
      clear HR0
      obtain ⟨j, i, rfl, rfl, HI, HR, rfl⟩ := hrel
      by_cases hlt : i ≤ s.size
      · have hltz : (i : Int) ≤ (s.size : Int) := by omega
        have hji : j ≤ i := HR.out.le hlt
        have hjiz : (j : Int) ≤ (i : Int) := by omega
        obtain ⟨b, hb⟩ : ∃ b, nameOk false (s.extract j i).data.toList = b := ⟨_, rfl⟩
        have HBB := Lib.hid hb
        have HNM := Lib.hid (refName_run false (s.extract j i) b (by rw [ByteArray.size_extract]; omega) hb)
        clear hb
        by_cases he : i = s.size
        · have hez : ((i : Int) == (s.size : Int)) = true := by simp; omega
          have HL := Lib.hid (HR.out.last HLen.out he)
          rw [HBB.out] at HL
          cases b with
          | true =>
            have HN2 : Hid (RefPath s.data.toList s.size (i + 1) (i + 1)) := HL.out.2 rfl
            clear HL he
            go_wp2_with (go_at_call 8; refine (HNM.out _).mono ?_; rintro e w1 ⟨rfl, rfl⟩)
            go_roundg (s.size + 1 - i)
            case measure => have := HI.out; omega
            case rel => exact ⟨i + 1, i + 1, by go_num, by go_num, by show _ ∧ _; have := HI.out; omega, HN2.out, rfl⟩
          | false =>
            have HV : Hid (v = false) := HPV.out.symm.trans (HL.out.1 rfl)
            clear HL he
            go_wp2_with (go_at_call 8; refine (HNM.out _).mono ?_; rintro e w1 ⟨rfl, rfl⟩)
            go_ret
            exact ⟨ret_bool HV.out.symm, rfl⟩
        · have hez : ((i : Int) == (s.size : Int)) = false := by simp; omega
          have hi2 : (i : Int) < (s.size : Int) := by omega
          obtain ⟨c, hc⟩ : ∃ c, s.data.toList[i]? = some c := ⟨_, List.getElem?_eq_getElem (by have := HLen.out; omega)⟩
          have hx := index_str hc
          have HBI := Lib.hid (byte_is c 47 (by omega))
          by_cases h47 : c = 47
          · subst h47
            have hx' : ∀ W, (Instr.index 9 (.string s) (.int .i64 (i : Int))).run Tryd.prog W = .ok (.int .u8 47) W := hx
            have HL := Lib.hid (HR.out.slash (by omega) hc)
            rw [HBB.out] at HL
            clear hx hc
            cases b with
            | true =>
              have HN2 : Hid (RefPath s.data.toList s.size (i + 1) (i + 1)) := HL.out.2 rfl
              clear HL he
              go_wp2_with (go_at_call 8; refine (HNM.out _).mono ?_; rintro e w1 ⟨rfl, rfl⟩)
              go_roundg (s.size + 1 - i)
              case measure => have := HI.out; omega
              case rel => exact ⟨i + 1, i + 1, by go_num, by go_num, by show _ ∧ _; have := HI.out; omega, HN2.out, rfl⟩
            | false =>
              have HV : Hid (v = false) := HPV.out.symm.trans (HL.out.1 rfl)
              clear HL he
              go_wp2_with (go_at_call 8; refine (HNM.out _).mono ?_; rintro e w1 ⟨rfl, rfl⟩)
              go_ret
              exact ⟨ret_bool HV.out.symm, rfl⟩
          · have HN2 : Hid (RefPath s.data.toList s.size j (i + 1)) := HR.out.next (by omega) (by rw [hc]; intro e; exact h47 (Option.some.inj e))
            have hz : ((c.toNat : Int) == 47) = false := by
              apply beq_eq_false_iff_ne.2
              intro e
              apply h47
              apply UInt8.toNat.inj
              show c.toNat = 47
              omega
            clear hc HNM HBB he
            generalize (c.toNat : Int) = z at hx hz
            go_wp2_with fail
            go_roundg (s.size + 1 - i)
            case measure => have := HI.out; omega
            case rel => exact ⟨j, i + 1, rfl, by go_num, by show _ ∧ _; have := HI.out; omega, HN2.out, rfl⟩
      · have hltz : ¬ (i : Int) ≤ (s.size : Int) := by omega
        have HV : Hid (v = true) := HPV.out.symm.trans (HR.out.done (by omega))
        go_wp2_with fail
        go_ret
        exact ⟨ret_bool HV.out.symm, rfl⟩
end Go.Proofs.YtnpmkapapacffaaDoor
