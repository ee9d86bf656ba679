/-
  files.Name and the reference's Name.
-/
import Derived.Test.YtnpmkapapacffaaDoorFlGrow
import Derived.Laws.IdiomStrings
namespace Go.Proofs.YtnpmkapapacffaaDoor
open Go.Shelf Go.RowKit Go.Lib Go.Sort Fm

theorem letter_int (b : UInt8) : Fm.letter b = (decide ((97 : Int) ≤ (b.toNat : Int)) && decide ((b.toNat : Int) ≤ 122)) := by
  unfold Fm.letter
  have h1 : decide ((97 : UInt8) ≤ b) = decide ((97 : Int) ≤ (b.toNat : Int)) := by
    rw [decide_eq_decide, UInt8.le_iff_toNat_le]
    show 97 ≤ b.toNat ↔ _
    omega
  have h2 : decide (b ≤ (122 : UInt8)) = decide ((b.toNat : Int) ≤ 122) := by
    rw [decide_eq_decide, UInt8.le_iff_toNat_le]
    show b.toNat ≤ 122 ↔ _
    omega
  rw [h1, h2]
def digitB (b : UInt8) : Bool := 48 ≤ b && b ≤ 57
theorem digit_int (b : UInt8) : digitB b = (decide ((48 : Int) ≤ (b.toNat : Int)) && decide ((b.toNat : Int) ≤ 57)) := by
  unfold digitB
  have h1 : decide ((48 : UInt8) ≤ b) = decide ((48 : Int) ≤ (b.toNat : Int)) := by
    rw [decide_eq_decide, UInt8.le_iff_toNat_le]
    show 48 ≤ b.toNat ↔ _
    omega
  have h2 : decide (b ≤ (57 : UInt8)) = decide ((b.toNat : Int) ≤ 57) := by
    rw [decide_eq_decide, UInt8.le_iff_toNat_le]
    show b.toNat ≤ 57 ↔ _
    omega
  rw [h1, h2]
theorem byte_is (b : UInt8) (k : Nat) (hk : k < 256) : (b == UInt8.ofNat k) = decide ((b.toNat : Int) = (k : Int)) := by
  rw [Bool.eq_iff_iff]
  simp only [beq_iff_eq, decide_eq_true_eq]
  constructor
  · intro h; rw [h]; simp; omega
  · intro h
    apply UInt8.toNat.inj
    simp
    omega
/-- An index into a string. -/
theorem index_str {s : ByteArray} {i : Nat} {b : UInt8} (h : s.data.toList[i]? = some b) (W : World) : (Instr.index 9 (.string s) (.int .i64 (i : Int))).run Tryd.prog W = .ok (.int .u8 (b.toNat : Int)) W := by
  obtain ⟨hi, he⟩ := List.getElem?_eq_some_iff.1 h
  have hi2 : i < s.size := by simpa using hi
  rw [run_index_string _ _ _ _ _ Tryd.underlying9, dif_pos (by omega)]
  have : s[(i : Int).toNat]'(by simpa using hi2) = b := by
    rw [← he]
    simp
    rfl
  rw [this]
set_option maxHeartbeats 400000 in
theorem letter_run (c : Int) (b : Bool) (hb : Hid ((decide ((97 : Int) ≤ c) && decide (c ≤ 122)) = b)) (w : World) : Calls Tryd.prog 25 #[.int .u8 c] w fun e w' => e = .returned (.bool b) ∧ w = w' := by
  by_cases h1 : 97 ≤ c
  · have h1' : decide (97 ≤ c) = true := decide_eq_true h1
    go_enter Tryd.func25, Tryd.ntmps25
    go_wp2
    go_ret
    exact ⟨ret_bool (by rw [← hb.out]; simp [h1]), rfl⟩
  · have h1' : decide (97 ≤ c) = false := decide_eq_false h1
    go_enter Tryd.func25, Tryd.ntmps25
    go_wp2
    go_ret
    exact ⟨ret_bool (by rw [← hb.out, h1']; rfl), rfl⟩
set_option maxHeartbeats 400000 in
theorem rletter_run (c : Int) (b : Bool) (hb : Hid ((decide ((97 : Int) ≤ c) && decide (c ≤ 122)) = b)) (w : World) : Calls Tryd.prog 27 #[.int .u8 c] w fun e w' => e = .returned (.bool b) ∧ w = w' := by
  by_cases h1 : 97 ≤ c
  · have h1' : decide (97 ≤ c) = true := decide_eq_true h1
    go_enter Tryd.func27, Tryd.ntmps27
    go_wp2
    go_ret
    exact ⟨ret_bool (by rw [← hb.out]; simp [h1]), rfl⟩
  · have h1' : decide (97 ≤ c) = false := decide_eq_false h1
    go_enter Tryd.func27, Tryd.ntmps27
    go_wp2
    go_ret
    exact ⟨ret_bool (by rw [← hb.out, h1']; rfl), rfl⟩
set_option maxHeartbeats 400000 in
theorem digit_run (c : Int) (b : Bool) (hb : Hid ((decide ((48 : Int) ≤ c) && decide (c ≤ 57)) = b)) (w : World) : Calls Tryd.prog 26 #[.int .u8 c] w fun e w' => e = .returned (.bool b) ∧ w = w' := by
  by_cases h1 : 48 ≤ c
  · have h1' : decide (48 ≤ c) = true := decide_eq_true h1
    go_enter Tryd.func26, Tryd.ntmps26
    go_wp2
    go_ret
    exact ⟨ret_bool (by rw [← hb.out]; simp [h1]), rfl⟩
  · have h1' : decide (48 ≤ c) = false := decide_eq_false h1
    go_enter Tryd.func26, Tryd.ntmps26
    go_wp2
    go_ret
    exact ⟨ret_bool (by rw [← hb.out, h1']; rfl), rfl⟩
theorem nameOk_long {d : Bool} {l : List UInt8} (h : 64 < l.length) : nameOk d l = false := by
  cases l with
  | nil => rfl
  | cons c r =>
    have : decide ((c :: r).length ≤ 64) = false := decide_eq_false (by omega)
    unfold nameOk
    simp only [this, Bool.false_and]
theorem nameOk_head {d : Bool} {l : List UInt8} {c : UInt8} (h : l[0]? = some c) (hc : Fm.letter c = false) : nameOk d l = false := by
  cases l with
  | nil => rfl
  | cons a r => simp at h; subst h; unfold nameOk; simp [hc]
theorem nameOk_bad {d : Bool} {l : List UInt8} {c : UInt8} {i : Nat} (h : l[i]? = some c) (hc : signOk d c = false) : nameOk d l = false := by
  cases l with
  | nil => rfl
  | cons a r =>
    unfold nameOk
    have : (a :: r).all (signOk d) = false := by
      rw [List.all_eq_false]
      exact ⟨c, List.mem_of_getElem? h, by simp [hc]⟩
    simp only [this, Bool.and_false]
theorem nameOk_good {d : Bool} {l : List UInt8} {c : UInt8} (h : l[0]? = some c) (hc : Fm.letter c = true) (hl : l.length ≤ 64) (ha : l.all (signOk d) = true) : nameOk d l = true := by
  cases l with
  | nil => simp at h
  | cons a r =>
    simp at h
    subst h
    show (decide ((a :: r).length ≤ 64) && Fm.letter a && (a :: r).all (signOk d)) = true
    rw [decide_eq_true hl, hc, ha]
    rfl
theorem signOk_is (d : Bool) (c : UInt8) : signOk d c = (Fm.letter c || digitB c || decide ((c.toNat : Int) = 95) || (d && decide ((c.toNat : Int) = 46))) := by
  unfold signOk digitB
  have h1 := byte_is c 95 (by omega)
  have h2 := byte_is c 46 (by omega)
  have e1 : (c == (95 : UInt8)) = decide ((c.toNat : Int) = 95) := h1
  have e2 : (c == (46 : UInt8)) = decide ((c.toNat : Int) = 46) := h2
  rw [e1, e2]
def AllTo (d : Bool) (l : List UInt8) (i : Nat) : Prop := (l.take i).all (signOk d) = true
theorem AllTo.next {d : Bool} {l : List UInt8} {i : Nat} {c : UInt8} (h : AllTo d l i) (hc : l[i]? = some c) (hs : signOk d c = true) : AllTo d l (i + 1) := by
  unfold AllTo at *
  rw [take_at hc, List.all_append, h]
  simp [hs]
set_option maxHeartbeats 4000000 in
theorem Name_run (s : ByteArray) (v : Bool) (hs : s.size ≤ 100000) (hv : Hid (nameOk true s.data.toList = v)) (w : World) : Calls Tryd.prog 7 #[.string s] w fun e w' => e = .returned (.bool v) ∧ w = w' := by
  have hlen : s.data.toList.length = s.size := by simp
  by_cases h0 : s.size = 0
  · have he : s = ⟨#[]⟩ := bytes_inj (by rw [List.eq_nil_of_length_eq_zero (hlen.trans h0)])
    subst he
    have HV : Hid (v = false) := hv.out.symm.trans rfl
    clear hlen h0
    go_enter Tryd.func7, Tryd.ntmps7
    go_wp2
    go_ret
    exact ⟨ret_bool HV.out.symm, rfl⟩
  · have hse' : s.toList.isEmpty = false := by
      rw [Lib.toList_data]
      cases h : s.data.toList with
      | nil => rw [h] at hlen; simp at hlen; omega
      | cons _ _ => rfl
    by_cases h64 : 64 < s.size
    · have HV : Hid (v = false) := hv.out.symm.trans (nameOk_long (by omega))
      have h64z : (64 : Int) < (s.size : Int) := by omega
      clear hlen
      go_enter Tryd.func7, Tryd.ntmps7
      go_wp2
      go_ret
      exact ⟨ret_bool HV.out.symm, rfl⟩
    · have h64z : ¬ (64 : Int) < (s.size : Int) := by omega
      obtain ⟨c0, hc0⟩ : ∃ c, s.data.toList[0]? = some c := ⟨_, List.getElem?_eq_getElem (by omega)⟩
      have hx0 := index_str hc0
      have hx0' : ∀ W, (Instr.index 9 (.string s) (.int .i64 0)).run Tryd.prog W = .ok (.int .u8 (c0.toNat : Int)) W := hx0
      have hpos : (0 : Int) < (s.size : Int) := by omega
      have HL0 := Lib.hid (letter_int c0)
      have HC0 := Lib.hid hc0
      have HLen := Lib.hid hlen
      clear hx0 hc0 hlen
      obtain ⟨b0, hb0⟩ : ∃ b0, Fm.letter c0 = b0 := ⟨_, rfl⟩
      rw [hb0] at HL0
      have HB0 := Lib.hid hb0
      have HL0' : Hid ((decide ((97 : Int) ≤ (c0.toNat : Int)) && decide ((c0.toNat : Int) ≤ 122)) = b0) := HL0.out.symm
      clear hb0 HL0
      generalize (c0.toNat : Int) = z0 at hx0' HL0'
      cases b0 with
      | false =>
        have HV : Hid (v = false) := hv.out.symm.trans (nameOk_head HC0.out HB0.out)
        go_enter Tryd.func7, Tryd.ntmps7
        go_wp2_with (go_at_call 25; refine (letter_run _ _ HL0' _).mono ?_; rintro e w1 ⟨rfl, rfl⟩)
        go_ret
        exact ⟨ret_bool HV.out.symm, rfl⟩
      | true =>
        go_enter Tryd.func7, Tryd.ntmps7
        go_wp2_with (go_at_call 25; refine (letter_run _ _ HL0' _).mono ?_; rintro e w1 ⟨rfl, rfl⟩)
        clear hx0' HL0'
        obtain ⟨n, hn⟩ : ∃ n, s.size = n := ⟨_, rfl⟩
        rw [hn] at h64z hpos h64 ⊢
        have HN := Lib.hid hn
        clear hn
        go_loopg [19] (n + 1) (fun h s19 wr => ∃ i : Nat, s19 = .int .i64 i ∧ Hid (i ≤ n ∧ i + h = n + 1) ∧ Hid (AllTo true s.data.toList i) ∧ wr = w)
        case atStart => exact ⟨0, rfl, by show _ ∧ _; omega, rfl, rfl⟩
        case round =>
          obtain ⟨i, rfl, HI, HA, rfl⟩ := hrel
          by_cases hlt : i < n
          · have hltz : (i : Int) < (n : Int) := by omega
            have hltz2 : (i : Int) < (s.size : Int) := by have := HN.out; omega
            obtain ⟨c, hc⟩ : ∃ c, s.data.toList[i]? = some c := ⟨_, List.getElem?_eq_getElem (by have := HLen.out; have := HN.out; omega)⟩
            have hx := index_str hc
            have HC := Lib.hid hc
            have HSO := Lib.hid (signOk_is true c)
            obtain ⟨b1, hb1⟩ : ∃ b1, Fm.letter c = b1 := ⟨_, rfl⟩
            obtain ⟨b2, hb2⟩ : ∃ b2, digitB c = b2 := ⟨_, rfl⟩
            have HB1 : Hid ((decide ((97 : Int) ≤ (c.toNat : Int)) && decide ((c.toNat : Int) ≤ 122)) = b1) := (letter_int c).symm.trans hb1
            have HB2 : Hid ((decide ((48 : Int) ≤ (c.toNat : Int)) && decide ((c.toNat : Int) ≤ 57)) = b2) := (digit_int c).symm.trans hb2
            rw [hb1, hb2] at HSO
            clear hb1 hb2 hc
            generalize (c.toNat : Int) = z at hx HSO HB1 HB2
            cases b1 with
            | true =>
              go_wp2_with (first | (go_at_call 25; refine (letter_run _ _ HB1 _).mono ?_; rintro e w1 ⟨rfl, rfl⟩) | (go_at_call 26; refine (digit_run _ _ HB2 _).mono ?_; rintro e w1 ⟨rfl, rfl⟩))
              go_roundg (n - i)
              case measure => have := HI.out; omega
              case rel => exact ⟨i + 1, by go_num, by show _ ∧ _; have := HI.out; omega, HA.out.next HC.out (by rw [HSO.out]; simp), rfl⟩
            | false =>
              cases b2 with
              | true =>
                go_wp2_with (first | (go_at_call 25; refine (letter_run _ _ HB1 _).mono ?_; rintro e w1 ⟨rfl, rfl⟩) | (go_at_call 26; refine (digit_run _ _ HB2 _).mono ?_; rintro e w1 ⟨rfl, rfl⟩))
                go_roundg (n - i)
                case measure => have := HI.out; omega
                case rel => exact ⟨i + 1, by go_num, by show _ ∧ _; have := HI.out; omega, HA.out.next HC.out (by rw [HSO.out]; simp), rfl⟩
              | false =>
                by_cases h95 : z = 95
                · subst h95
                  go_wp2_with (first | (go_at_call 25; refine (letter_run _ _ HB1 _).mono ?_; rintro e w1 ⟨rfl, rfl⟩) | (go_at_call 26; refine (digit_run _ _ HB2 _).mono ?_; rintro e w1 ⟨rfl, rfl⟩))
                  go_roundg (n - i)
                  case measure => have := HI.out; omega
                  case rel => exact ⟨i + 1, by go_num, by show _ ∧ _; have := HI.out; omega, HA.out.next HC.out (by rw [HSO.out]; simp), rfl⟩
                · have z1 : (z != 95) = true := by simpa using h95
                  rw [decide_eq_false h95] at HSO
                  by_cases h46 : z = 46
                  · subst h46
                    go_wp2_with (first | (go_at_call 25; refine (letter_run _ _ HB1 _).mono ?_; rintro e w1 ⟨rfl, rfl⟩) | (go_at_call 26; refine (digit_run _ _ HB2 _).mono ?_; rintro e w1 ⟨rfl, rfl⟩))
                    go_roundg (n - i)
                    case measure => have := HI.out; omega
                    case rel => exact ⟨i + 1, by go_num, by show _ ∧ _; have := HI.out; omega, HA.out.next HC.out (by rw [HSO.out]; simp), rfl⟩
                  · have z2 : (z != 46) = true := by simpa using h46
                    rw [decide_eq_false h46] at HSO
                    have HV : Hid (v = false) := hv.out.symm.trans (nameOk_bad HC.out (by rw [HSO.out]; simp))
                    go_wp2_with (first | (go_at_call 25; refine (letter_run _ _ HB1 _).mono ?_; rintro e w1 ⟨rfl, rfl⟩) | (go_at_call 26; refine (digit_run _ _ HB2 _).mono ?_; rintro e w1 ⟨rfl, rfl⟩))
                    go_ret
                    exact ⟨ret_bool HV.out.symm, rfl⟩
          · have hltz : ¬ (i : Int) < (n : Int) := by omega
            have HV : Hid (v = true) := hv.out.symm.trans (nameOk_good HC0.out HB0.out (by have := HLen.out; have := HN.out; omega) (by
              have := HA.out
              unfold AllTo at this
              rwa [List.take_of_length_le (by have := HLen.out; have := HN.out; omega)] at this))
            go_wp2_with fail
            go_ret
            exact ⟨ret_bool HV.out.symm, rfl⟩
set_option maxHeartbeats 4000000 in
theorem refName_run (d : Bool) (s : ByteArray) (v : Bool) (hs : s.size ≤ 100000) (hv : Hid (nameOk d s.data.toList = v)) (w : World) : Calls Tryd.prog 8 #[.string s, .bool d] w fun e w' => e = .returned (.bool v) ∧ w = w' := by
  have hlen : s.data.toList.length = s.size := by simp
  by_cases h0 : s.size = 0
  · have he : s = ⟨#[]⟩ := bytes_inj (by rw [List.eq_nil_of_length_eq_zero (hlen.trans h0)])
    subst he
    have HV : Hid (v = false) := hv.out.symm.trans rfl
    clear hlen h0
    go_enter Tryd.func8, Tryd.ntmps8
    go_wp2
    go_ret
    exact ⟨ret_bool HV.out.symm, rfl⟩
  · have hse' : s.toList.isEmpty = false := by
      rw [Lib.toList_data]
      cases h : s.data.toList with
      | nil => rw [h] at hlen; simp at hlen; omega
      | cons _ _ => rfl
    by_cases h64 : 64 < s.size
    · have HV : Hid (v = false) := hv.out.symm.trans (nameOk_long (by omega))
      have hpos1 : ¬ (s.size : Int) < 1 := by omega
      have h64z : (64 : Int) < (s.size : Int) := by omega
      clear hlen
      go_enter Tryd.func8, Tryd.ntmps8
      go_wp2
      go_ret
      exact ⟨ret_bool HV.out.symm, rfl⟩
    · have h64z : ¬ (64 : Int) < (s.size : Int) := by omega
      obtain ⟨c0, hc0⟩ : ∃ c, s.data.toList[0]? = some c := ⟨_, List.getElem?_eq_getElem (by omega)⟩
      have hx0 := index_str hc0
      have hx0' : ∀ W, (Instr.index 9 (.string s) (.int .i64 0)).run Tryd.prog W = .ok (.int .u8 (c0.toNat : Int)) W := hx0
      have hpos : (0 : Int) < (s.size : Int) := by omega
      have hpos1 : ¬ (s.size : Int) < 1 := by omega
      have HL0 := Lib.hid (letter_int c0)
      have HC0 := Lib.hid hc0
      have HLen := Lib.hid hlen
      clear hx0 hc0 hlen
      obtain ⟨b0, hb0⟩ : ∃ b0, Fm.letter c0 = b0 := ⟨_, rfl⟩
      rw [hb0] at HL0
      have HB0 := Lib.hid hb0
      have HL0' : Hid ((decide ((97 : Int) ≤ (c0.toNat : Int)) && decide ((c0.toNat : Int) ≤ 122)) = b0) := HL0.out.symm
      clear hb0 HL0
      generalize (c0.toNat : Int) = z0 at hx0' HL0'
      cases b0 with
      | false =>
        have HV : Hid (v = false) := hv.out.symm.trans (nameOk_head HC0.out HB0.out)
        go_enter Tryd.func8, Tryd.ntmps8
        go_wp2_with (go_at_call 27; refine (rletter_run _ _ HL0' _).mono ?_; rintro e w1 ⟨rfl, rfl⟩)
        go_ret
        exact ⟨ret_bool HV.out.symm, rfl⟩
      | true =>
        go_enter Tryd.func8, Tryd.ntmps8
        go_wp2_with (go_at_call 27; refine (rletter_run _ _ HL0' _).mono ?_; rintro e w1 ⟨rfl, rfl⟩)
        clear hx0' HL0'
        obtain ⟨n, hn⟩ : ∃ n, s.size = n := ⟨_, rfl⟩
        rw [hn] at h64z hpos hpos1 h64 ⊢
        have HN := Lib.hid hn
        clear hn
        go_loopg [5] (n + 1) (fun h s5 wr => ∃ i : Nat, s5 = .int .i64 i ∧ Hid (i ≤ n ∧ i + h = n + 1) ∧ Hid (AllTo d s.data.toList i) ∧ wr = w)
        case atStart => exact ⟨0, rfl, by show _ ∧ _; omega, rfl, rfl⟩
        case round =>
          obtain ⟨i, rfl, HI, HA, rfl⟩ := hrel
          by_cases hlt : i < n
          · have hltz : (i : Int) < (n : Int) := by omega
            have hltz2 : (i : Int) < (s.size : Int) := by have := HN.out; omega
            obtain ⟨c, hc⟩ : ∃ c, s.data.toList[i]? = some c := ⟨_, List.getElem?_eq_getElem (by have := HLen.out; have := HN.out; omega)⟩
            have hx := index_str hc
            have HC := Lib.hid hc
            have HSO := Lib.hid (signOk_is d c)
            obtain ⟨b1, hb1⟩ : ∃ b1, Fm.letter c = b1 := ⟨_, rfl⟩
            obtain ⟨b2, hb2⟩ : ∃ b2, digitB c = b2 := ⟨_, rfl⟩
            have HB1 : Hid ((decide ((97 : Int) ≤ (c.toNat : Int)) && decide ((c.toNat : Int) ≤ 122)) = b1) := (letter_int c).symm.trans hb1
            have HB2 : Hid ((decide ((48 : Int) ≤ (c.toNat : Int)) && decide ((c.toNat : Int) ≤ 57)) = b2) := (digit_int c).symm.trans hb2
            rw [hb1, hb2] at HSO
            clear hb1 hb2 hc
            generalize (c.toNat : Int) = z at hx HSO HB1 HB2
            cases b1 with
            | true =>
              go_wp2_with (first | (go_at_call 27; refine (rletter_run _ _ HB1 _).mono ?_; rintro e w1 ⟨rfl, rfl⟩))
              go_roundg (n - i)
              case measure => have := HI.out; omega
              case rel => exact ⟨i + 1, by go_num, by show _ ∧ _; have := HI.out; omega, HA.out.next HC.out (by rw [HSO.out]; simp), rfl⟩
            | false =>
              cases b2 with
              | true =>
                have hh : 48 ≤ z ∧ z ≤ 57 := by simpa using HB2.out
                obtain ⟨d1, d2⟩ := hh
                go_wp2_with (first | (go_at_call 27; refine (rletter_run _ _ HB1 _).mono ?_; rintro e w1 ⟨rfl, rfl⟩))
                go_roundg (n - i)
                case measure => have := HI.out; omega
                case rel => exact ⟨i + 1, by go_num, by show _ ∧ _; have := HI.out; omega, HA.out.next HC.out (by rw [HSO.out]; simp), rfl⟩
              | false =>
                by_cases d1 : 48 ≤ z
                · have d2 : ¬ z ≤ 57 := fun h => by have := HB2.out; rw [decide_eq_true d1, decide_eq_true h] at this; cases this
                  have d3 : decide (z ≤ 57) = false := decide_eq_false d2
                  by_cases h95 : z = 95
                  · subst h95
                    go_wp2_with (first | (go_at_call 27; refine (rletter_run _ _ HB1 _).mono ?_; rintro e w1 ⟨rfl, rfl⟩))
                    go_roundg (n - i)
                    case measure => have := HI.out; omega
                    case rel => exact ⟨i + 1, by go_num, by show _ ∧ _; have := HI.out; omega, HA.out.next HC.out (by rw [HSO.out]; simp), rfl⟩
                  · have z1 : (z != 95) = true := by simpa using h95
                    rw [decide_eq_false h95] at HSO
                    cases d with
                    | false =>
                      have HV : Hid (v = false) := hv.out.symm.trans (nameOk_bad HC.out (by rw [HSO.out]; simp))
                      go_wp2_with (first | (go_at_call 27; refine (rletter_run _ _ HB1 _).mono ?_; rintro e w1 ⟨rfl, rfl⟩))
                      go_ret
                      exact ⟨ret_bool HV.out.symm, rfl⟩
                    | true =>
                      by_cases h46 : z = 46
                      · subst h46
                        go_wp2_with (first | (go_at_call 27; refine (rletter_run _ _ HB1 _).mono ?_; rintro e w1 ⟨rfl, rfl⟩))
                        go_roundg (n - i)
                        case measure => have := HI.out; omega
                        case rel => exact ⟨i + 1, by go_num, by show _ ∧ _; have := HI.out; omega, HA.out.next HC.out (by rw [HSO.out]; simp), rfl⟩
                      · have z2 : (z == 46) = false := by simpa using h46
                        rw [decide_eq_false h46] at HSO
                        have HV : Hid (v = false) := hv.out.symm.trans (nameOk_bad HC.out (by rw [HSO.out]; simp))
                        go_wp2_with (first | (go_at_call 27; refine (rletter_run _ _ HB1 _).mono ?_; rintro e w1 ⟨rfl, rfl⟩))
                        go_ret
                        exact ⟨ret_bool HV.out.symm, rfl⟩
                · skip
                  by_cases h95 : z = 95
                  · subst h95
                    go_wp2_with (first | (go_at_call 27; refine (rletter_run _ _ HB1 _).mono ?_; rintro e w1 ⟨rfl, rfl⟩))
                    go_roundg (n - i)
                    case measure => have := HI.out; omega
                    case rel => exact ⟨i + 1, by go_num, by show _ ∧ _; have := HI.out; omega, HA.out.next HC.out (by rw [HSO.out]; simp), rfl⟩
                  · have z1 : (z != 95) = true := by simpa using h95
                    rw [decide_eq_false h95] at HSO
                    cases d with
                    | false =>
                      have HV : Hid (v = false) := hv.out.symm.trans (nameOk_bad HC.out (by rw [HSO.out]; simp))
                      go_wp2_with (first | (go_at_call 27; refine (rletter_run _ _ HB1 _).mono ?_; rintro e w1 ⟨rfl, rfl⟩))
                      go_ret
                      exact ⟨ret_bool HV.out.symm, rfl⟩
                    | true =>
                      by_cases h46 : z = 46
                      · subst h46
                        go_wp2_with (first | (go_at_call 27; refine (rletter_run _ _ HB1 _).mono ?_; rintro e w1 ⟨rfl, rfl⟩))
                        go_roundg (n - i)
                        case measure => have := HI.out; omega
                        case rel => exact ⟨i + 1, by go_num, by show _ ∧ _; have := HI.out; omega, HA.out.next HC.out (by rw [HSO.out]; simp), rfl⟩
                      · have z2 : (z == 46) = false := by simpa using h46
                        rw [decide_eq_false h46] at HSO
                        have HV : Hid (v = false) := hv.out.symm.trans (nameOk_bad HC.out (by rw [HSO.out]; simp))
                        go_wp2_with (first | (go_at_call 27; refine (rletter_run _ _ HB1 _).mono ?_; rintro e w1 ⟨rfl, rfl⟩))
                        go_ret
                        exact ⟨ret_bool HV.out.symm, rfl⟩
          · have hltz : ¬ (i : Int) < (n : Int) := by omega
            have hltz2 : ¬ (i : Int) < (s.size : Int) := by have := HN.out; omega
            have HV : Hid (v = true) := hv.out.symm.trans (nameOk_good HC0.out HB0.out (by have := HLen.out; have := HN.out; omega) (by
              have := HA.out
              unfold AllTo at this
              rwa [List.take_of_length_le (by have := HLen.out; have := HN.out; omega)] at this))
            go_wp2_with fail
            go_ret
            exact ⟨ret_bool HV.out.symm, rfl⟩
end Go.Proofs.YtnpmkapapacffaaDoor
