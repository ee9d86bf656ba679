/-
  Stage 6: the reference's Nth and Spell.
-/
import Derived.Test.YtijikbfcobnclaaDoorTkA
namespace Go.Proofs.YtijikbfcobnclaaDoor
open Go.RowKit

theorem drop_at {l : List UInt8} {i : Nat} {c : UInt8} (h : l[i]? = some c) : l.drop i = c :: l.drop (i + 1) := by
  obtain ⟨hi, he⟩ := List.getElem?_eq_some_iff.1 h
  rw [List.drop_eq_getElem_cons hi, he]
theorem nthF_other {c : UInt8} {r acc : List UInt8} {n : Nat} (h : c ≠ 32) : nthF (c :: r) acc n = nthF r (acc ++ [c]) n := by cases n <;> simp [nthF, h]
theorem nthF_word {r acc : List UInt8} {n : Nat} : nthF (32 :: r) acc (n + 1) = nthF r [] n := by simp [nthF]
theorem nthF_hit {r acc : List UInt8} : nthF (32 :: r) acc 0 = acc := by simp [nthF]
/-- What is left to read: from place i on, the word begun at f. -/
def NthTo (l : List UInt8) (i f m : Nat) (r : List UInt8) : Prop := f ≤ i ∧ i ≤ l.length ∧ nthF (l.drop i) ((l.take i).drop f) m = r
theorem NthTo.other {l : List UInt8} {i f m : Nat} {r : List UInt8} {c : UInt8} (h : NthTo l i f m r) (hc : l[i]? = some c) (hb : c ≠ 32) : NthTo l (i + 1) f m r := by
  obtain ⟨h1, h2, h3⟩ := h
  have hi := (List.getElem?_eq_some_iff.1 hc).1
  refine ⟨by omega, by omega, ?_⟩
  rw [drop_at hc, nthF_other hb] at h3
  rw [← h3, List.take_add_one, hc, Option.toList_some, List.drop_append_of_le_length (by rw [List.length_take]; omega)]
theorem NthTo.word {l : List UInt8} {i f m : Nat} {r : List UInt8} {c : UInt8} (h : NthTo l i f m r) (hc : l[i]? = some c) (hb : c = 32) (hm : 0 < m) : NthTo l (i + 1) (i + 1) (m - 1) r := by
  obtain ⟨h1, h2, h3⟩ := h
  have hi := (List.getElem?_eq_some_iff.1 hc).1
  refine ⟨by omega, by omega, ?_⟩
  obtain ⟨k, rfl⟩ : ∃ k, m = k + 1 := ⟨m - 1, by omega⟩
  subst hb
  rw [drop_at hc, nthF_word] at h3
  rw [← h3, List.drop_of_length_le (l := l.take (i + 1)) (by rw [List.length_take]; omega)]
  rfl
theorem NthTo.hit {l : List UInt8} {i f m : Nat} {r : List UInt8} {c : UInt8} (h : NthTo l i f m r) (hc : l[i]? = some c) (hb : c = 32) (hm : m = 0) : (l.take i).drop f = r := by
  obtain ⟨h1, h2, h3⟩ := h
  subst hm
  subst hb
  rw [drop_at hc, nthF_hit] at h3
  exact h3
theorem NthTo.miss {l : List UInt8} {i f m : Nat} {r : List UInt8} (h : NthTo l i f m r) (hi : ¬ i < l.length) : r = [] := by
  obtain ⟨h1, h2, h3⟩ := h
  rw [List.drop_of_length_le (by omega), nthF] at h3
  exact h3.symm
theorem extract_list (s : ByteArray) (a b : Nat) : (s.extract a b).data.toList = (s.data.toList.take b).drop a := by
  simp [List.extract, List.drop_take]
set_option maxHeartbeats 1000000 in
theorem Nth_run (l r : ByteArray) (n : Nat) (w : World) (hl : l.size ≤ 1000) (hn : n ≤ 1000) (hr : Hid (nthF l.data.toList [] n = r.data.toList)) :
    Calls Tryd.prog 22 #[.string l, .int .i64 (n : Int)] w fun e w' => e = .returned (.string r) ∧ w = w' := by
  have HS : Hid (l.data.toList.length = l.size) := by show _ = _; simp
  go_enter Tryd.func22, Tryd.ntmps22
  go_wp2
  go_loopg [1, 5, 6] (l.size + 1) (fun h s1 s5 s6 wr => ∃ i f m : Nat, s1 = .int .i64 m ∧ s5 = .int .i64 f ∧ s6 = .int .i64 i ∧ Hid (i ≤ l.size ∧ i + h = l.size + 1 ∧ m ≤ 1000) ∧ Hid (NthTo l.data.toList i f m r.data.toList) ∧ wr = w)
  case atStart => exact ⟨0, 0, n, rfl, rfl, rfl, by show _ ∧ _; omega, by show _; exact ⟨by omega, by omega, by simpa using hr.out⟩, rfl⟩
  case round =>
    obtain ⟨i, f, m, rfl, rfl, rfl, HI, HN, rfl⟩ := hrel
    by_cases hlt : i < l.size
    · have hltz : (i : Int) < (l.size : Int) := by omega
      obtain ⟨c, hc⟩ : ∃ c, l.data.toList[i]? = some c := ⟨_, List.getElem?_eq_getElem (by have := HS.out; omega)⟩
      have hx := index_str hc
      have HC := Lib.hid hc
      clear hc
      have hm0 : 0 ≤ m := by omega
      have hm1 : m ≤ 1000 := HI.out.2.2
      have hi1 : i ≤ 1000 := by omega
      by_cases hb : c = 32
      · have HB := Lib.hid hb
        have hcz : ((c.toNat : Int) == 32) = true := by rw [hb]; rfl
        clear hb
        by_cases hm : m = 0
        · have HX : Hid (l.extract f i = r) := bytes_inj ((extract_list l f i).trans (HN.out.hit HC.out HB.out hm))
          have hfi : f ≤ i := HN.out.1
          have hm3 : ((m : Int) == 0) = true := by rw [hm]; rfl
          clear hm
          go_wp2_with fail
          go_ret
          exact ⟨by rw [HX.out]; rfl, rfl⟩
        · have hm2 : 0 < m := by omega
          have hm3 : ((m : Int) == 0) = false := by rw [beq_eq_false_iff_ne]; omega
          have HX := Lib.hid (HN.out.word HC.out HB.out hm2)
          clear hm
          go_wp2_with fail
          go_roundg (l.size - i)
          case measure => have := HI.out; omega
          case rel => exact ⟨i + 1, i + 1, m - 1, by go_num, by go_num, by go_num, by show _ ∧ _; have := HI.out; omega, HX.out, rfl⟩
      · have hcz : ((c.toNat : Int) == 32) = false := by
          rw [beq_eq_false_iff_ne]
          intro e
          exact hb (UInt8.toNat.inj (by show c.toNat = 32; omega))
        have HX := Lib.hid (HN.out.other HC.out hb)
        clear hb
        go_wp2_with fail
        go_roundg (l.size - i)
        case measure => have := HI.out; omega
        case rel => exact ⟨i + 1, f, m, rfl, rfl, by go_num, by show _ ∧ _; have := HI.out; omega, HX.out, rfl⟩
    · have hltz : ¬ (i : Int) < (l.size : Int) := by omega
      have HR : Hid (r = ⟨#[]⟩) := bytes_inj (HN.out.miss (by have := HS.out; omega))
      go_wp2_with fail
      go_ret
      exact ⟨by rw [HR.out]; rfl, rfl⟩
/-- The lists as strings. -/
def namesS : ByteArray := ⟨namesL.toArray⟩
def wordsS : ByteArray := ⟨wordsL.toArray⟩
def signsS : ByteArray := ⟨signsL.toArray⟩
theorem spA_names {k : Nat} (h : k < 5) : Hid (nthF namesS.data.toList [] k = (spA ((k + 1 : Nat) : Int)).data.toList) := by
  show _ = _
  rw [spA_in (by omega)]
  exact names_nth h
theorem spA_words {k : Nat} (h : k < 30) : Hid (nthF wordsS.data.toList [] k = (spA ((k + 10 : Nat) : Int)).data.toList) := by
  show _ = _
  rw [spA_in (by omega)]
  exact words_nth h
theorem spA_signs {k : Nat} (h : k < 60) : Hid (nthF signsS.data.toList [] k = (spA ((k + 40 : Nat) : Int)).data.toList) := by
  show _ = _
  by_cases h2 : k + 40 < 88
  · rw [spA_in h2]
    exact signs_nth h
  · rw [spA_out (by omega)]
    exact (signs_nth h).trans (txl_out (by omega))
set_option maxRecDepth 100000 in
set_option maxHeartbeats 1000000 in
theorem refSpell_run (k : Int) (s : ByteArray) (w : World) (hs : Hid (spA k = s)) :
    Calls Tryd.prog 8 #[.int .i64 k] w fun e w' => e = .returned (.string s) ∧ w = w' := by
  by_cases h1 : 1 ≤ k ∧ k ≤ 5
  · obtain ⟨h1, h2⟩ := h1
    obtain ⟨n, hn⟩ : ∃ n : Nat, k - 1 = n := ⟨(k - 1).toNat, by omega⟩
    have hnb : n < 5 := by omega
    have HN : Hid (nthF namesS.data.toList [] n = s.data.toList) := by
      show _ = _
      rw [(spA_names hnb).out, ← hs.out]
      congr 3
      omega
    go_enter Tryd.func8, Tryd.ntmps8
    go_wp2_with fail
    refine (Nth_run namesS s n w (by decide +kernel) (by omega) HN).mono ?_
    rintro e w1 ⟨rfl, rfl⟩
    go_wp2_with fail
    go_ret
    exact ⟨rfl, rfl⟩
  · have h1' : (decide (1 ≤ k) && decide (k ≤ 5)) = false := by rw [Bool.eq_false_iff]; simpa using h1
    by_cases h2 : 10 ≤ k ∧ k < 40
    · obtain ⟨h2, h3⟩ := h2
      have g1 : decide (1 ≤ k) = true := decide_eq_true (by omega)
      have g2 : decide (k ≤ 5) = false := decide_eq_false (by omega)
      clear h1
      obtain ⟨n, hn⟩ : ∃ n : Nat, k - 10 = n := ⟨(k - 10).toNat, by omega⟩
      have hnb : n < 30 := by omega
      have HN : Hid (nthF wordsS.data.toList [] n = s.data.toList) := by
        show _ = _
        rw [(spA_words hnb).out, ← hs.out]
        congr 3
        omega
      go_enter Tryd.func8, Tryd.ntmps8
      go_wp2_with fail
      refine (Nth_run wordsS s n w (by decide +kernel) (by omega) HN).mono ?_
      rintro e w1 ⟨rfl, rfl⟩
      go_wp2_with fail
      go_ret
      exact ⟨rfl, rfl⟩
    · by_cases h3 : 40 ≤ k ∧ k < 100
      · obtain ⟨h3, h4⟩ := h3
        have g1 : decide (1 ≤ k) = true := decide_eq_true (by omega)
        have g2 : decide (k ≤ 5) = false := decide_eq_false (by omega)
        have g3 : decide (10 ≤ k) = true := decide_eq_true (by omega)
        have g4 : decide (k < 40) = false := decide_eq_false (by omega)
        clear h1 h2
        obtain ⟨n, hn⟩ : ∃ n : Nat, k - 40 = n := ⟨(k - 40).toNat, by omega⟩
        have hnb : n < 60 := by omega
        have HN : Hid (nthF signsS.data.toList [] n = s.data.toList) := by
          show _ = _
          rw [(spA_signs hnb).out, ← hs.out]
          congr 3
          omega
        go_enter Tryd.func8, Tryd.ntmps8
        go_wp2_with fail
        refine (Nth_run signsS s n w (by decide +kernel) (by omega) HN).mono ?_
        rintro e w1 ⟨rfl, rfl⟩
        go_wp2_with fail
        go_ret
        exact ⟨rfl, rfl⟩
      · have HE : Hid (s = ⟨#[]⟩) := by
          show _ = _
          rw [← hs.out]
          by_cases hk : 0 ≤ k ∧ k < 88
          · have h0 : k = 0 ∨ (6 ≤ k ∧ k ≤ 9) := by omega
            obtain ⟨n, rfl⟩ := Int.eq_ofNat_of_zero_le hk.1
            have hn : n < 88 := by omega
            have h9 : n = 0 ∨ n = 6 ∨ n = 7 ∨ n = 8 ∨ n = 9 := by omega
            rw [spA_in hn]
            rcases h9 with rfl | rfl | rfl | rfl | rfl <;> rfl
          · exact spA_out (by omega)
        by_cases q1 : k < 1
        · go_enter Tryd.func8, Tryd.ntmps8
          go_wp2_with fail
          go_ret
          exact ⟨by rw [HE.out]; rfl, rfl⟩
        · by_cases q2 : k < 10
          · have g1 : decide (1 ≤ k) = true := decide_eq_true (by omega)
            have g2 : decide (k ≤ 5) = false := decide_eq_false (by omega)
            have g3 : decide (10 ≤ k) = false := decide_eq_false (by omega)
            have g5 : decide (40 ≤ k) = false := decide_eq_false (by omega)
            clear h1 h2 h3
            go_enter Tryd.func8, Tryd.ntmps8
            go_wp2_with fail
            go_ret
            exact ⟨by rw [HE.out]; rfl, rfl⟩
          · have g1 : decide (1 ≤ k) = true := decide_eq_true (by omega)
            have g2 : decide (k ≤ 5) = false := decide_eq_false (by omega)
            have g3 : decide (10 ≤ k) = true := decide_eq_true (by omega)
            have g4 : decide (k < 40) = false := decide_eq_false (by omega)
            have g5 : decide (40 ≤ k) = true := decide_eq_true (by omega)
            have g6 : decide (k < 100) = false := decide_eq_false (by omega)
            clear h1 h2 h3
            go_enter Tryd.func8, Tryd.ntmps8
            go_wp2_with fail
            go_ret
            exact ⟨by rw [HE.out]; rfl, rfl⟩
end Go.Proofs.YtijikbfcobnclaaDoor
