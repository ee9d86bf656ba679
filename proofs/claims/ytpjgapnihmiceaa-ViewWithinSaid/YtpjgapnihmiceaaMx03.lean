/-
  Layer 15 (view): no file; how many own tokens there are, and where.
-/
import Derived.Test.YtpjgapnihmiceaaMx02
import Derived.Test.YtpjgapnihmiceaaMx00
import Derived.Laws.IdiomStrings
namespace Go.Proofs.Ytpjgapnihmiceaa
open Go.RowKit
set_option linter.unusedSimpArgs false
theorem FileIs.none {w : World} {v : Value} {d : List Int} {L : List Tv} (h : FileIs w v d L []) : v = .pointer none := by
 rcases h with h | ⟨b, _, _, _, _, _, _, _, _, _, _, _, _, _, _, hv⟩
 ·exact h.1
 ·exact absurd rfl hv.ne
theorem FileIs.some {w : World} {v : Value} {d : List Int} {L : List Tv} {T : List Nd} (h : FileIs w v d L T) (hT : T ≠ []) : ∃ b, v = .pointer (some ⟨b, 0, .none⟩) := by
 rcases h with h | ⟨b, h, _⟩
 ·exact absurd h.2 hT
 ·exact ⟨b, h⟩
theorem ownV_nil (n : Int) : ownV [] n = [] := by unfold ownV; rw [inT_nil]; rfl
theorem ownsF_le (T : List Nd) (i : Nat) : ∀ (h : Nat) (f : Int), (ownsF T i h f).length ≤ h
 | 0, f => Nat.le_refl _
 | h + 1, f => by
  have := ownsF_le T i h (f + 1)
  unfold ownsF
  split
  ·rw [List.length_cons]; omega
  ·omega
theorem ownV_le {T : List Nd} {m : Nat} (h : Valid T (m : Int)) (k : Int) : (ownV T k).length ≤ m := by
 unfold ownV
 split
 ·next hi =>
  have hi := of_decide_eq_true hi
  have h1 := ownsF_le T k.toNat ((nd T k.toNat).t - (nd T k.toNat).f).toNat (nd T k.toNat).f
  have h2 := h.num k.toNat (by omega)
  unfold ownL
  omega
 ·exact Nat.zero_le _
theorem ownsF_in {T : List Nd} {i : Nat} {tok : Int} : ∀ {h : Nat} {f : Int}, tok ∈ ownsF T i h f → f ≤ tok ∧ tok < f + h
 | 0, f, hm => by cases hm
 | h + 1, f, hm => by
  unfold ownsF at hm
  split at hm
  ·rcases List.mem_cons.1 hm with rfl | hm
   ·omega
   ·have := ownsF_in hm; omega
  ·have := ownsF_in hm; omega
theorem ownV_mem {T : List Nd} {m : Nat} (h : Valid T (m : Int)) {k tok : Int} (ht : tok ∈ ownV T k) : 0 ≤ tok ∧ tok < m := by
 unfold ownV at ht
 split at ht
 ·next hi =>
  have hi := of_decide_eq_true hi
  have h1 := ownsF_in ht
  have h2 := h.num k.toNat (by omega)
  omega
 ·cases ht
end Go.Proofs.Ytpjgapnihmiceaa
namespace Go.Proofs.Ytpjgapnihmiceaa
open Go.RowKit
theorem index_str {s : ByteArray} {i : Nat} {b : UInt8} (h : s.data.toList[i]? = some b) (W : World) : (Instr.index 9 (.string s) (.int .i64 (i : Int))).run Try.prog W = .ok (.int .u8 (b.toNat : Int)) W := by
 obtain ⟨hi, he⟩ := List.getElem?_eq_some_iff.1 h
 have hi2 : i < s.size := by simpa using hi
 rw [run_index_string _ _ _ _ _ Try.underlying9, dif_pos (by omega)]
 have : s[(i : Int).toNat]'(by simpa using hi2) = b := by
  rw [← he]
  simp
  rfl
 rw [this]
end Go.Proofs.Ytpjgapnihmiceaa
namespace Go.Proofs.Ytpjgapnihmiceaa
open Go.RowKit
theorem drop_at {l : List UInt8} {i : Nat} {c : UInt8} (h : l[i]? = some c) : l.drop i = c :: l.drop (i + 1) := by
 obtain ⟨hi, he⟩ := List.getElem?_eq_some_iff.1 h
 rw [List.drop_eq_getElem_cons hi, he]
theorem nthF_other {c : UInt8} {r acc : List UInt8} {n : Nat} (h : c ≠ 32) : nthF (c :: r) acc n = nthF r (acc ++ [c]) n := by cases n <;> simp [nthF, h]
theorem nthF_word {r acc : List UInt8} {n : Nat} : nthF (32 :: r) acc (n + 1) = nthF r [] n := by simp [nthF]
theorem nthF_hit {r acc : List UInt8} : nthF (32 :: r) acc 0 = acc := by simp [nthF]
def NthTo (l : List UInt8) (i f m : Nat) (r : List UInt8) : Prop := f ≤ i ∧ i ≤ l.length ∧ nthF (l.drop i) ((l.take i).drop f) m = r
theorem NthTo.other {l : List UInt8} {i f m : Nat} {r : List UInt8} {c : UInt8} (h : NthTo l i f m r) (hc : l[i]? = some c) (hb : c ≠ 32) : NthTo l (i + 1) f m r := by
 obtain ⟨h1, h2, h3⟩ := h
 have hi := (List.getElem?_eq_some_iff.1 hc).1
 refine ⟨by omega, by omega, ?_⟩
 rw [drop_at hc, nthF_other hb] at h3
 rw [← h3, List.take_add_one, hc, Option.toList_some, List.drop_append_of_le_length (by rw [List.length_take]; omega)]
theorem NthTo.word {l : List UInt8} {i f m : Nat} {r : List UInt8} {c : UInt8} (h : NthTo l i f m r) (hc : l[i]? = some c) (hb : c = 32) (hm : 0 < m) : NthTo l (i + 1) (i + 1) (m - 1) r := by
 obtain ⟨h1, h2, h3⟩ := h
 have hi := (List.getElem?_eq_some_iff.1 hc).1
 refine ⟨by omega, by omega, ?_⟩
 obtain ⟨k, rfl⟩ : ∃ k, m = k + 1 := ⟨m - 1, by omega⟩
 subst hb
 rw [drop_at hc, nthF_word] at h3
 rw [← h3, List.drop_of_length_le (l := l.take (i + 1)) (by rw [List.length_take]; omega)]
 rfl
theorem NthTo.hit {l : List UInt8} {i f m : Nat} {r : List UInt8} {c : UInt8} (h : NthTo l i f m r) (hc : l[i]? = some c) (hb : c = 32) (hm : m = 0) : (l.take i).drop f = r := by
 obtain ⟨h1, h2, h3⟩ := h
 subst hm
 subst hb
 rw [drop_at hc, nthF_hit] at h3
 exact h3
theorem NthTo.miss {l : List UInt8} {i f m : Nat} {r : List UInt8} (h : NthTo l i f m r) (hi : ¬ i < l.length) : r = [] := by
 obtain ⟨h1, h2, h3⟩ := h
 rw [List.drop_of_length_le (by omega), nthF] at h3
 exact h3.symm
theorem extract_list (s : ByteArray) (a b : Nat) : (s.extract a b).data.toList = (s.data.toList.take b).drop a := by
 simp [List.extract, List.drop_take]
set_option maxHeartbeats 1000000 in
theorem Nth_run (l r : ByteArray) (n : Nat) (w : World) (hl : l.size ≤ 1000) (hn : n ≤ 1000) (hr : Hid (nthF l.data.toList [] n = r.data.toList)) :
  Calls Try.prog 43 #[.string l, .int .i64 (n : Int)] w fun e w' => e = .returned (.string r) ∧ w = w' := by
 have HS : Hid (l.data.toList.length = l.size) := by show _ = _; simp
 go_enter Try.func43, Try.ntmps43
 go_wp2
 go_loopg [1, 5, 6] (l.size + 1) (fun h s1 s5 s6 wr => ∃ i f m : Nat, s1 = .int .i64 m ∧ s5 = .int .i64 f ∧ s6 = .int .i64 i ∧ Hid (i ≤ l.size ∧ i + h = l.size + 1 ∧ m ≤ 1000) ∧ Hid (NthTo l.data.toList i f m r.data.toList) ∧ wr = w)
 case atStart => exact ⟨0, 0, n, rfl, rfl, rfl, by show _ ∧ _; omega, by show _; exact ⟨by omega, by omega, by simpa using hr.out⟩, rfl⟩
 case round =>
  obtain ⟨i, f, m, rfl, rfl, rfl, HI, HN, rfl⟩ := hrel
  by_cases hlt : i < l.size
  ·have hltz : (i : Int) < (l.size : Int) := by omega
   obtain ⟨c, hc⟩ : ∃ c, l.data.toList[i]? = some c := ⟨_, List.getElem?_eq_getElem (by have := HS.out; omega)⟩
   have hx := index_str hc
   have HC := Lib.hid hc
   clear hc
   have hm0 : 0 ≤ m := by omega
   have hm1 : m ≤ 1000 := HI.out.2.2
   have hi1 : i ≤ 1000 := by omega
   by_cases hb : c = 32
   ·have HB := Lib.hid hb
    have hcz : ((c.toNat : Int) == 32) = true := by rw [hb]; rfl
    clear hb
    by_cases hm : m = 0
    ·have HX : Hid (l.extract f i = r) := bytes_inj ((extract_list l f i).trans (HN.out.hit HC.out HB.out hm))
     have hfi : f ≤ i := HN.out.1
     have hm3 : ((m : Int) == 0) = true := by rw [hm]; rfl
     clear hm
     go_wp2_with fail
     go_ret
     exact ⟨by rw [HX.out]; rfl, rfl⟩
    ·have hm2 : 0 < m := by omega
     have hm3 : ((m : Int) == 0) = false := by rw [beq_eq_false_iff_ne]; omega
     have HX := Lib.hid (HN.out.word HC.out HB.out hm2)
     clear hm
     go_wp2_with fail
     go_roundg (l.size - i)
     case measure => have := HI.out; omega
     case rel => exact ⟨i + 1, i + 1, m - 1, by go_num, by go_num, by go_num, by show _ ∧ _; have := HI.out; omega, HX.out, rfl⟩
   ·have hcz : ((c.toNat : Int) == 32) = false := by
     rw [beq_eq_false_iff_ne]
     intro e
     exact hb (UInt8.toNat.inj (by show c.toNat = 32; omega))
    have HX := Lib.hid (HN.out.other HC.out hb)
    clear hb
    go_wp2_with fail
    go_roundg (l.size - i)
    case measure => have := HI.out; omega
    case rel => exact ⟨i + 1, f, m, rfl, rfl, by go_num, by show _ ∧ _; have := HI.out; omega, HX.out, rfl⟩
  ·have hltz : ¬ (i : Int) < (l.size : Int) := by omega
   have HR : Hid (r = ⟨#[]⟩) := bytes_inj (HN.out.miss (by have := HS.out; omega))
   go_wp2_with fail
   go_ret
   exact ⟨by rw [HR.out]; rfl, rfl⟩
def namesS : ByteArray := ⟨namesL.toArray⟩
def wordsS : ByteArray := ⟨wordsL.toArray⟩
def signsS : ByteArray := ⟨signsL.toArray⟩
theorem spA_names {k : Nat} (h : k < 5) : Hid (nthF namesS.data.toList [] k = (spA ((k + 1 : Nat) : Int)).data.toList) := by
 show _ = _
 rw [spA_in (by omega)]
 exact names_nth h
theorem spA_words {k : Nat} (h : k < 30) : Hid (nthF wordsS.data.toList [] k = (spA ((k + 10 : Nat) : Int)).data.toList) := by
 show _ = _
 rw [spA_in (by omega)]
 exact words_nth h
theorem spA_signs {k : Nat} (h : k < 60) : Hid (nthF signsS.data.toList [] k = (spA ((k + 40 : Nat) : Int)).data.toList) := by
 show _ = _
 by_cases h2 : k + 40 < 88
 ·rw [spA_in h2]
  exact signs_nth h
 ·rw [spA_out (by omega)]
  exact (signs_nth h).trans (txl_out (by omega))
set_option maxRecDepth 100000 in
set_option maxHeartbeats 1000000 in
theorem refSpell_run (k : Int) (s : ByteArray) (w : World) (hs : Hid (spA k = s)) :
  Calls Try.prog 42 #[.int .i64 k] w fun e w' => e = .returned (.string s) ∧ w = w' := by
 by_cases h1 : 1 ≤ k ∧ k ≤ 5
 ·obtain ⟨h1, h2⟩ := h1
  obtain ⟨n, hn⟩ : ∃ n : Nat, k - 1 = n := ⟨(k - 1).toNat, by omega⟩
  have hnb : n < 5 := by omega
  have HN : Hid (nthF namesS.data.toList [] n = s.data.toList) := by
   show _ = _
   rw [(spA_names hnb).out, ← hs.out]
   congr 3
   omega
  go_enter Try.func42, Try.ntmps42
  go_wp2_with fail
  refine (Nth_run namesS s n w (by decide +kernel) (by omega) HN).mono ?_
  rintro e w1 ⟨rfl, rfl⟩
  go_wp2_with fail
  go_ret
  exact ⟨rfl, rfl⟩
 ·have h1' : (decide (1 ≤ k) && decide (k ≤ 5)) = false := by rw [Bool.eq_false_iff]; simpa using h1
  by_cases h2 : 10 ≤ k ∧ k < 40
  ·obtain ⟨h2, h3⟩ := h2
   have g1 : decide (1 ≤ k) = true := decide_eq_true (by omega)
   have g2 : decide (k ≤ 5) = false := decide_eq_false (by omega)
   clear h1
   obtain ⟨n, hn⟩ : ∃ n : Nat, k - 10 = n := ⟨(k - 10).toNat, by omega⟩
   have hnb : n < 30 := by omega
   have HN : Hid (nthF wordsS.data.toList [] n = s.data.toList) := by
    show _ = _
    rw [(spA_words hnb).out, ← hs.out]
    congr 3
    omega
   go_enter Try.func42, Try.ntmps42
   go_wp2_with fail
   refine (Nth_run wordsS s n w (by decide +kernel) (by omega) HN).mono ?_
   rintro e w1 ⟨rfl, rfl⟩
   go_wp2_with fail
   go_ret
   exact ⟨rfl, rfl⟩
  ·by_cases h3 : 40 ≤ k ∧ k < 100
   ·obtain ⟨h3, h4⟩ := h3
    have g1 : decide (1 ≤ k) = true := decide_eq_true (by omega)
    have g2 : decide (k ≤ 5) = false := decide_eq_false (by omega)
    have g3 : decide (10 ≤ k) = true := decide_eq_true (by omega)
    have g4 : decide (k < 40) = false := decide_eq_false (by omega)
    clear h1 h2
    obtain ⟨n, hn⟩ : ∃ n : Nat, k - 40 = n := ⟨(k - 40).toNat, by omega⟩
    have hnb : n < 60 := by omega
    have HN : Hid (nthF signsS.data.toList [] n = s.data.toList) := by
     show _ = _
     rw [(spA_signs hnb).out, ← hs.out]
     congr 3
     omega
    go_enter Try.func42, Try.ntmps42
    go_wp2_with fail
    refine (Nth_run signsS s n w (by decide +kernel) (by omega) HN).mono ?_
    rintro e w1 ⟨rfl, rfl⟩
    go_wp2_with fail
    go_ret
    exact ⟨rfl, rfl⟩
   ·have HE : Hid (s = ⟨#[]⟩) := by
     show _ = _
     rw [← hs.out]
     by_cases hk : 0 ≤ k ∧ k < 88
     ·have h0 : k = 0 ∨ (6 ≤ k ∧ k ≤ 9) := by omega
      obtain ⟨n, rfl⟩ := Int.eq_ofNat_of_zero_le hk.1
      have hn : n < 88 := by omega
      have h9 : n = 0 ∨ n = 6 ∨ n = 7 ∨ n = 8 ∨ n = 9 := by omega
      rw [spA_in hn]
      rcases h9 with rfl | rfl | rfl | rfl | rfl <;> rfl
     ·exact spA_out (by omega)
    by_cases q1 : k < 1
    ·go_enter Try.func42, Try.ntmps42
     go_wp2_with fail
     go_ret
     exact ⟨by rw [HE.out]; rfl, rfl⟩
    ·by_cases q2 : k < 10
     ·have g1 : decide (1 ≤ k) = true := decide_eq_true (by omega)
      have g2 : decide (k ≤ 5) = false := decide_eq_false (by omega)
      have g3 : decide (10 ≤ k) = false := decide_eq_false (by omega)
      have g5 : decide (40 ≤ k) = false := decide_eq_false (by omega)
      clear h1 h2 h3
      go_enter Try.func42, Try.ntmps42
      go_wp2_with fail
      go_ret
      exact ⟨by rw [HE.out]; rfl, rfl⟩
     ·have g1 : decide (1 ≤ k) = true := decide_eq_true (by omega)
      have g2 : decide (k ≤ 5) = false := decide_eq_false (by omega)
      have g3 : decide (10 ≤ k) = true := decide_eq_true (by omega)
      have g4 : decide (k < 40) = false := decide_eq_false (by omega)
      have g5 : decide (40 ≤ k) = true := decide_eq_true (by omega)
      have g6 : decide (k < 100) = false := decide_eq_false (by omega)
      clear h1 h2 h3
      go_enter Try.func42, Try.ntmps42
      go_wp2_with fail
      go_ret
      exact ⟨by rw [HE.out]; rfl, rfl⟩
end Go.Proofs.Ytpjgapnihmiceaa
namespace Go.Proofs.Ytpjgapnihmiceaa
open Go.RowKit
def NotYet (l s : ByteArray) (n : Nat) : Prop := ∀ j, j < n → nthF l.data.toList [] j ≠ s.data.toList
theorem in_true {l s : ByteArray} {k : Int} {n : Nat} (hs : spA k = s) (h0 : s.data.toList.isEmpty = false) (hn : n < 20) (h : nthF l.data.toList [] n = s.data.toList) : inA k l.data.toList = true := by
 unfold inA
 rw [hs, h0]
 simp only [Bool.not_false, Bool.true_and, List.any_eq_true]
 exact ⟨n, List.mem_range.2 hn, by simp [h]⟩
theorem in_false {l s : ByteArray} {k : Int} (hs : spA k = s) (h : NotYet l s 20) : inA k l.data.toList = false := by
 unfold inA
 rw [hs]
 have : ((List.range 20).any fun n => nthF l.data.toList [] n == s.data.toList) = false := by
  rw [List.any_eq_false]
  intro n hn
  have := h n (List.mem_range.1 hn)
  simpa using this
 rw [this, Bool.and_false]
theorem in_none {l s : ByteArray} {k : Int} (hs : spA k = s) (h : s.data.toList.isEmpty = true) : inA k l.data.toList = false := by
 unfold inA
 rw [hs, h]
 rfl
theorem NotYet.next {l s : ByteArray} {n : Nat} (h : NotYet l s n) (h2 : nthF l.data.toList [] n ≠ s.data.toList) : NotYet l s (n + 1) := fun j hj => by
 by_cases e : j = n
 ·subst e; exact h2
 ·exact h j (by omega)
set_option maxRecDepth 100000 in
set_option maxHeartbeats 1000000 in
theorem In_run (k : Int) (l : ByteArray) (b : Bool) (w : World) (hl : l.size ≤ 1000) (hb : Hid (inA k l.data.toList = b)) :
  Calls Try.prog 31 #[.int .i64 k, .string l] w fun e w' => e = .returned (.bool b) ∧ w = w' := by
 obtain ⟨s, hs⟩ : ∃ s, spA k = s := ⟨_, rfl⟩
 have HS := Lib.hid hs
 clear hs
 cases he : s.data.toList.isEmpty with
 | true =>
  have HB : Hid (b = false) := hb.out.symm.trans (in_none HS.out he)
  have hse : s.toList.isEmpty = true := by rw [Lib.toList_data]; exact he
  clear he
  go_enter Try.func31, Try.ntmps31
  go_wp2_with fail
  refine (refSpell_run k s _ HS).mono ?_
  rintro e w1 ⟨rfl, rfl⟩
  go_wp2_with fail
  go_loopg [6] 21 (fun h s6 wr => ∃ n : Nat, s6 = .int .i64 n ∧ Hid (n + h = 21 ∧ n ≤ 20) ∧ wr = w)
  case atStart => exact ⟨0, rfl, by show _ ∧ _; omega, rfl⟩
  case round =>
   obtain ⟨n, rfl, HN, rfl⟩ := hrel
   by_cases hlt : n < 20
   ·have hlz : (n : Int) < 20 := by omega
    go_wp2_with fail
    go_roundg (20 - n)
    case measure => have := HN.out; omega
    case rel => exact ⟨n + 1, by go_num, by show _ ∧ _; have := HN.out; omega, rfl⟩
   ·have hlz : ¬ (n : Int) < 20 := by omega
    go_wp2_with fail
    go_ret
    exact ⟨by rw [HB.out]; rfl, rfl⟩
 | false =>
  have HE := Lib.hid he
  have hse : s.toList.isEmpty = false := by rw [Lib.toList_data]; exact he
  clear he
  go_enter Try.func31, Try.ntmps31
  go_wp2_with fail
  refine (refSpell_run k s _ HS).mono ?_
  rintro e w1 ⟨rfl, rfl⟩
  go_wp2_with fail
  go_loopg [6] 21 (fun h s6 wr => ∃ n : Nat, s6 = .int .i64 n ∧ Hid (n + h = 21 ∧ n ≤ 20) ∧ Hid (NotYet l s n) ∧ wr = w)
  case atStart => exact ⟨0, rfl, by show _ ∧ _; omega, fun j hj => by omega, rfl⟩
  case round =>
   obtain ⟨n, rfl, HN, HY, rfl⟩ := hrel
   by_cases hlt : n < 20
   ·have hlz : (n : Int) < 20 := by omega
    obtain ⟨r, hr⟩ : ∃ r : ByteArray, nthF l.data.toList [] n = r.data.toList := ⟨⟨(nthF l.data.toList [] n).toArray⟩, rfl⟩
    have HR := Lib.hid hr
    clear hr
    by_cases hq : r = s
    ·have HB : Hid (b = true) := hb.out.symm.trans (in_true HS.out HE.out hlt (HR.out.trans (congrArg (fun x : ByteArray => x.data.toList) hq)))
     have hq' : (r.toList == s.toList) = true := by rw [hq]; simp
     clear hq
     go_wp2_with fail
     refine (Nth_run l r n _ hl (by omega) HR).mono ?_
     rintro e w1 ⟨rfl, rfl⟩
     go_wp2_with fail
     go_ret
     exact ⟨by rw [HB.out]; rfl, rfl⟩
    ·have HX := Lib.hid (HY.out.next (fun h => hq (bytes_inj (HR.out.symm.trans h))))
     have hq' : (r.toList == s.toList) = false := by
      rw [beq_eq_false_iff_ne]
      intro h
      rw [Lib.toList_data, Lib.toList_data] at h
      exact hq (bytes_inj h)
     clear hq
     go_wp2_with fail
     refine (Nth_run l r n _ hl (by omega) HR).mono ?_
     rintro e w1 ⟨rfl, rfl⟩
     go_wp2_with fail
     go_roundg (20 - n)
     case measure => have := HN.out; omega
     case rel => exact ⟨n + 1, by go_num, by show _ ∧ _; have := HN.out; omega, HX.out, rfl⟩
   ·have hlz : ¬ (n : Int) < 20 := by omega
    have h20 : n = 20 := by have := HN.out; omega
    have HB : Hid (b = false) := hb.out.symm.trans (in_false HS.out (by have := HY.out; rwa [h20] at this))
    clear h20
    go_wp2_with fail
    go_ret
    exact ⟨by rw [HB.out]; rfl, rfl⟩
end Go.Proofs.Ytpjgapnihmiceaa
namespace Go.Proofs.Ytpjgapnihmiceaa
open Go.RowKit
set_option linter.unusedSimpArgs false
set_option linter.unusedVariables false
def punS : ByteArray := ⟨punL.toArray⟩
theorem opG_cons (L : List Tv) (o : Int) (r : List Int) : opG L (o :: r) = if punB (tokV L o).k then opG L r else (tokV L o).k := rfl
theorem drop_consV {α : Type} {l : List α} {i : Nat} {x : α} (h : l[i]? = some x) : l.drop i = x :: l.drop (i + 1) := by
 obtain ⟨hi, e⟩ := List.getElem?_eq_some_iff.1 h
 rw [List.drop_eq_getElem_cons hi, e]
set_option maxHeartbeats 8000000 in
set_option maxRecDepth 100000 in
theorem vOp_run (A1 : Option Addr) (n1 c1 : Nat) (A2 : Option Addr) (n2 c2 : Nat) (A : Option Addr) (n cap : Nat) (d : List Int) (L : List Tv) (T : List Nd) (k v : Int) (w : World) (hs : SrcAt w A1 n1 c1 A2 n2 c2 A n d L T) (hV : Hid (Valid T n2)) (hv : Hid (opV L T k = v)) :
  Calls Try.prog 15 #[.slice A2 n2 c2, trV A n cap, .int .i64 k] w fun e w' => e = .returned (.int .i64 v) ∧ Below w.heap.size w w' := by
 have hl : Hid (T.length = n) := hs.tree.len
 have hn2 := hs.st
 have hc2 := hs.ct
 obtain ⟨OW, hOW⟩ : ∃ l, ownV T k = l := ⟨_, rfl⟩
 obtain ⟨q, hq⟩ : ∃ q, OW.length = q := ⟨_, rfl⟩
 have HO := Lib.hid (fun w h => vOwn_run A n cap k (n2 : Int) T w h hl hV (by omega))
 rw [hOW] at HO
 have HQ := Lib.hid hq
 have hq60 : q ≤ 60 := by
  have := ownV_le hV.out k
  rw [hOW, hq] at this
  omega
 have HM : Hid (∀ y ∈ OW, 0 ≤ y ∧ y < (n2 : Int)) := fun y hy => ownV_mem hV.out (by rw [hOW]; exact hy)
 have HV0 : Hid (opG L (OW.drop 0) = v) := by show opG L OW = v; rw [← hOW]; exact hv.out
 unfold trV at HO ⊢
 obtain ⟨S, hS⟩ : ∃ S, w.heap.size = S := ⟨_, rfl⟩
 obtain ⟨W, hW⟩ : ∃ W, w.alloc (.cells #[.slice A n cap] 26) = W := ⟨_, rfl⟩
 have hB : Below S w W := by rw [← hW, ← hS]; exact (Below.refl _ _).alloc (Nat.le_refl _) _
 have hWS : W.heap.size = S + 1 := by rw [← hW, ← hS]; simp
 have d0 : W.cell? ⟨S, 0, none⟩ = some (.slice A n cap) := by rw [← hW, ← hS]; simp
 have HS : Hid (SrcAt W A1 n1 c1 A2 n2 c2 A n d L T) := hs.below (by rw [hS]; exact hB)
 rw [hS]
 have BX := Lib.hid hB
 have HW := Lib.hid hWS
 clear hB hWS hq hv hs hOW
 go_enter Try.func15, Try.ntmps15
 go_wp2_with fail
 refine (HO.out W HS.out.tree.at_).mono ?_
 rintro e w1 ⟨v1, rfl, ho1⟩
 obtain ⟨Ao, co, rfl, _, _, hno, hw⟩ := ho1.read
 rw [HQ.out]
 have B1 : Hid (Below S w w1) := BX.out.trans (hw.mono (by have := HW.out; omega))
 have HS1 : Hid (SrcAt w1 A1 n1 c1 A2 n2 c2 A n d L T) := HS.out.below hw
 have HNO := Lib.hid hno
 clear hw HS BX HO ho1 hno d0 hW
 go_wp2_with fail
 go_loopg [8] (q + 1) (fun h s8 wr => ∃ i : Nat, s8 = .int .i64 i ∧ Hid (i ≤ q ∧ i + h = q + 1) ∧ Hid (opG L (OW.drop i) = v) ∧ wr = w1)
 case atStart => exact ⟨0, rfl, by show _ ∧ _; omega, HV0.out, rfl⟩
 case round =>
  obtain ⟨i, rfl, HI, HV, hww⟩ := hrel
  obtain rfl := hww.symm
  by_cases hi : i < q
  ·have hiz : (i : Int) < (q : Int) := by omega
   obtain ⟨y, hy⟩ : ∃ y, OW[i]? = some y := ⟨_, List.getElem?_eq_getElem (by have := HQ.out; omega)⟩
   obtain ⟨b1, o1, rfl, hb1, hc1⟩ := HNO.out (by have := HQ.out; omega)
   have y1 := hc1 i y hy
   obtain ⟨hy0, hy2⟩ := HM.out y (List.mem_of_getElem? hy)
   obtain ⟨z, rfl⟩ := Int.eq_ofNat_of_zero_le hy0
   obtain ⟨tb, tof, rfl, htb, t0, _, _, _, _⟩ := tv_get HS1.out.tok (at_tok (i := z) (by have := HS1.out.lt; omega))
   have HV2 : Hid (v = if punB (tokV L z).k then opG L (OW.drop (i + 1)) else (tokV L z).k) := by show _ = _; rw [← HV.out, drop_consV hy, opG_cons]
   generalize (tokV L (z : Int)).k = kx at *
   obtain ⟨pb, hpb⟩ : ∃ b, punB kx = b := ⟨_, rfl⟩
   have HIN := Lib.hid (fun w => In_run kx punS pb w (by decide +kernel) (by show inA kx punL = pb; rw [pun_eq]; exact hpb))
   rw [hpb] at HV2
   clear hc1 hy HV hpb HV0
   unfold punS punL at HIN
   go_wp2_with fail
   refine (HIN.out _).mono ?_
   rintro e w2 ⟨rfl, rfl⟩
   cases pb with
   | true =>
    have HV3 : Hid (opG L (OW.drop (i + 1)) = v) := by show _ = _; rw [HV2.out]; rfl
    clear HV2 HIN
    go_wp2_with fail
    go_roundg (q - i)
    case measure => have := HI.out; omega
    case rel => exact ⟨i + 1, by go_num, by show _ ∧ _; have := HI.out; omega, HV3.out, rfl⟩
   | false =>
    obtain rfl : v = kx := by rw [HV2.out]; rfl
    clear HV2 HIN
    go_wp2_with fail
    go_ret
    exact ⟨rfl, B1.out⟩
  ·have hiz : ¬ (i : Int) < (q : Int) := by omega
   obtain rfl : v = 0 := by rw [← HV.out, List.drop_eq_nil_of_le (by have := HQ.out; omega)]; rfl
   clear HV HV0
   go_wp2_with fail
   go_ret
   exact ⟨rfl, B1.out⟩
set_option maxHeartbeats 8000000 in
set_option maxRecDepth 100000 in
theorem vChan_run (A1 : Option Addr) (n1 c1 : Nat) (A2 : Option Addr) (n2 c2 : Nat) (A : Option Addr) (n cap : Nat) (d : List Int) (L : List Tv) (T : List Nd) (k v : Int) (w : World) (hs : SrcAt w A1 n1 c1 A2 n2 c2 A n d L T) (hV : Hid (Valid T n2)) (hv : Hid (chanV L T k = v)) :
  Calls Try.prog 16 #[.slice A2 n2 c2, trV A n cap, .int .i64 k] w fun e w' => e = .returned (.int .i64 v) ∧ Below w.heap.size w w' := by
 have hl : Hid (T.length = n) := hs.tree.len
 have hn2 := hs.st
 have hc2 := hs.ct
 obtain ⟨OW, hOW⟩ : ∃ l, ownV T k = l := ⟨_, rfl⟩
 obtain ⟨q, hq⟩ : ∃ q, OW.length = q := ⟨_, rfl⟩
 obtain ⟨b, hb⟩ : ∃ b, inT T k = b := ⟨_, rfl⟩
 have HO := Lib.hid (fun w h => vOwn_run A n cap k (n2 : Int) T w h hl hV (by omega))
 have HI := Lib.hid (fun w => vIn_run A n cap k T w hl b hb)
 rw [hOW] at HO
 have HQ := Lib.hid hq
 have hq60 : q ≤ 60 := by
  have := ownV_le hV.out k
  rw [hOW, hq] at this
  omega
 have HM : Hid (∀ y ∈ OW, 0 ≤ y ∧ y < (n2 : Int)) := fun y hy => ownV_mem hV.out (by rw [hOW]; exact hy)
 have HV : Hid ((if b = true ∧ (kd T k).k = 26 then chanG L OW else 0) = v) := by show _ = _; rw [← hb, ← hOW]; exact hv.out
 have HBB := Lib.hid hb
 unfold trV at HO HI ⊢
 obtain ⟨S, hS⟩ : ∃ S, w.heap.size = S := ⟨_, rfl⟩
 obtain ⟨W, hW⟩ : ∃ W, w.alloc (.cells #[.slice A n cap] 26) = W := ⟨_, rfl⟩
 have hB : Below S w W := by rw [← hW, ← hS]; exact (Below.refl _ _).alloc (Nat.le_refl _) _
 have hWS : W.heap.size = S + 1 := by rw [← hW, ← hS]; simp
 have d0 : W.cell? ⟨S, 0, none⟩ = some (.slice A n cap) := by rw [← hW, ← hS]; simp
 have HS : Hid (SrcAt W A1 n1 c1 A2 n2 c2 A n d L T) := hs.below (by rw [hS]; exact hB)
 rw [hS]
 have BX := Lib.hid hB
 have HW := Lib.hid hWS
 clear hB hWS hq hv hs hOW hb
 go_enter Try.func16, Try.ntmps16
 go_wp2_with fail
 refine (HO.out W HS.out.tree.at_).mono ?_
 rintro e w1 ⟨v1, rfl, ho1⟩
 obtain ⟨Ao, co, rfl, _, _, hno, hw⟩ := ho1.read
 rw [HQ.out]
 have B1 : Hid (Below S w w1) := BX.out.trans (hw.mono (by have := HW.out; omega))
 have d1 := (hw.cell (p := ⟨S, 0, none⟩) (by show S < _; have := HW.out; omega)).trans d0
 have hs1 : S < w1.heap.size := by have := hw.size; have := HW.out; omega
 have HS1 : Hid (SrcAt w1 A1 n1 c1 A2 n2 c2 A n d L T) := HS.out.below hw
 have HNO := Lib.hid hno
 clear hw HS BX HO ho1 hno d0 hW
 go_wp2_with fail
 refine (HI.out w1).mono ?_
 rintro e w2 ⟨rfl, hw⟩
 have B2 : Hid (Below S w w2) := B1.out.trans (hw.mono (by omega))
 have d2 := (hw.cell (p := ⟨S, 0, none⟩) hs1).trans d1
 have HS2 : Hid (SrcAt w2 A1 n1 c1 A2 n2 c2 A n d L T) := HS1.out.below hw
 have HNO2 : Hid (Nums w2 w2.heap.size Ao OW) := NumsK.on HNO.out (Nat.le_refl _) hw
 clear hw HS1 B1 d1 HNO HI hs1
 cases b with
 | false =>
  obtain rfl : v = 0 := by rw [← HV.out, if_neg (fun h => by cases h.1)]
  clear HV
  go_wp2_with fail
  go_ret
  exact ⟨rfl, B2.out⟩
 | true =>
  have hin := of_decide_eq_true HBB.out
  rw [hl.out] at hin
  obtain ⟨i, rfl⟩ := Int.eq_ofNat_of_zero_le hin.1
  have hi : i < n := by omega
  have hiz : (i : Int) < (n : Int) := by omega
  obtain ⟨b, o, rfl, hbB, hget⟩ := HS2.out.tree.at_.get (by have := hl.out; omega)
  obtain ⟨K, q9, c9, a0, _, _, _, gm, _, _, _⟩ := hget i _ (at_nd (by have := hl.out; omega))
  have HV2 : Hid ((if (nd T i).k = 26 then chanG L OW else 0) = v) := by
   show _ = _
   rw [← HV.out]
   unfold kd
   rw [Int.toNat_natCast]
   simp
  clear hget hin HBB HV gm
  generalize (nd T i).k = kx at *
  by_cases hk : kx = 26
  rotate_left
  ·obtain rfl : v = 0 := by rw [← HV2.out, if_neg hk]
   have hkb : (kx == 26) = false := by simpa using hk
   clear HV2
   go_wp2_with fail
   go_ret
   exact ⟨rfl, B2.out⟩
  ·subst hk
   rw [if_pos rfl] at HV2
   match OW, HQ, HM, HNO2, HV2 with
   | [], HQ, HM, HNO2, HV2 =>
    obtain rfl : q = 0 := HQ.out.symm
    obtain rfl : v = 0 := HV2.out.symm
    clear HV2 HQ HM
    go_wp2_with fail
    go_ret
    exact ⟨rfl, B2.out⟩
   | [x], HQ, HM, HNO2, HV2 =>
    obtain rfl : q = 1 := HQ.out.symm
    obtain ⟨b1, o1, rfl, hb1, hc1⟩ := HNO2.out (by simp)
    have y1 : w2.cell? ⟨b1, o1, none⟩ = some (.int .i64 x) := hc1 0 x rfl
    obtain ⟨hy0, hy2⟩ := HM.out x (by simp)
    obtain ⟨z, rfl⟩ := Int.eq_ofNat_of_zero_le hy0
    obtain ⟨tb, tof, rfl, htb, t0, _, _, _, _⟩ := tv_get HS2.out.tok (at_tok (i := z) (by have := HS2.out.lt; omega))
    have HV3 : Hid ((if (tokV L (z : Int)).k = 64 then 2 else 0) = v) := HV2.out
    generalize (tokV L (z : Int)).k = ka at *
    clear HV2 HM hc1
    by_cases h64 : ka = 64
    ·subst h64
     obtain rfl : v = 2 := by rw [← HV3.out, if_pos rfl]
     clear HV3
     go_wp2_with fail
     go_ret
     exact ⟨rfl, B2.out⟩
    ·obtain rfl : v = 0 := by rw [← HV3.out, if_neg h64]
     have hkb : (ka == 64) = false := by simpa using h64
     clear HV3
     go_wp2_with fail
     go_ret
     exact ⟨rfl, B2.out⟩
   | x :: x2 :: r, HQ, HM, HNO2, HV2 =>
    have hq2 : (1 : Int) < (q : Int) := by have := HQ.out; simp at this; omega
    have hq3 : (0 : Int) < (q : Int) := by omega
    obtain ⟨b1, o1, rfl, hb1, hc1⟩ := HNO2.out (by simp)
    have y1 : w2.cell? ⟨b1, o1, none⟩ = some (.int .i64 x) := hc1 0 x rfl
    have y2 : w2.cell? ⟨b1, o1 + 1, none⟩ = some (.int .i64 x2) := hc1 1 x2 rfl
    obtain ⟨hy0, hy2⟩ := HM.out x (by simp)
    obtain ⟨hz0, hz2⟩ := HM.out x2 (by simp)
    obtain ⟨z, rfl⟩ := Int.eq_ofNat_of_zero_le hy0
    obtain ⟨z2, rfl⟩ := Int.eq_ofNat_of_zero_le hz0
    obtain ⟨tb, tof, rfl, htb, t0, _, _, _, _⟩ := tv_get HS2.out.tok (at_tok (i := z) (by have := HS2.out.lt; omega))
    obtain ⟨_, _, et, _, t1, _, _, _, _⟩ := tv_get HS2.out.tok (at_tok (i := z2) (by have := HS2.out.lt; omega))
    cases et
    have HV3 : Hid ((if (tokV L (z : Int)).k = 64 then 2 else if (tokV L (z2 : Int)).k = 64 then 1 else 0) = v) := HV2.out
    generalize (tokV L (z : Int)).k = ka at *
    generalize (tokV L (z2 : Int)).k = kb at *
    clear HV2 HM hc1 HQ
    by_cases h64 : ka = 64
    ·subst h64
     obtain rfl : v = 2 := by rw [← HV3.out, if_pos rfl]
     clear HV3
     go_wp2_with fail
     go_ret
     exact ⟨rfl, B2.out⟩
    ·have hkb : (ka == 64) = false := by simpa using h64
     by_cases h64b : kb = 64
     ·subst h64b
      obtain rfl : v = 1 := by rw [← HV3.out, if_neg h64, if_pos rfl]
      clear HV3
      go_wp2_with fail
      go_ret
      exact ⟨rfl, B2.out⟩
     ·have hkb2 : (kb == 64) = false := by simpa using h64b
      obtain rfl : v = 0 := by rw [← HV3.out, if_neg h64, if_neg h64b]
      clear HV3
      go_wp2_with fail
      go_ret
      exact ⟨rfl, B2.out⟩
end Go.Proofs.Ytpjgapnihmiceaa
namespace Go.Proofs.Ytpjgapnihmiceaa
open Go.RowKit
set_option linter.unusedSimpArgs false
set_option linter.unusedVariables false
theorem span_box (w : World) (x : Value) (T E : TypeId) : ∃ W, (w.alloc (.cells #[x] T)).alloc (.cells #[.int .i64 0, .int .i64 0] E) = W ∧ Below w.heap.size w W ∧ W.heap.size = w.heap.size + 2 ∧ W.cell? ⟨w.heap.size, 0, none⟩ = some x ∧
  (W.cell? ⟨w.heap.size + 1, 0, none⟩ = some (.int .i64 0) ∧ W.cell? ⟨w.heap.size + 1, 1, none⟩ = some (.int .i64 0)) ∧ (W.frozen? ⟨w.heap.size + 1, 0, none⟩ = false ∧ W.frozen? ⟨w.heap.size + 1, 1, none⟩ = false) := by
 refine ⟨_, rfl, ((Below.refl _ _).alloc (Nat.le_refl _) _).alloc (by simp) _, by simp, ?_, ⟨?_, ?_⟩, ⟨?_, ?_⟩⟩
 ·rw [World.cell?_alloc_lt _ _ _ (by simp), World.cell?_alloc_at _ _ _ _ rfl]; rfl
 ·rw [World.cell?_alloc_at _ _ _ _ (by simp)]; rfl
 ·rw [World.cell?_alloc_at _ _ _ _ (by simp)]; rfl
 ·rw [World.frozen?_alloc_at _ _ _ _ (by simp)]
 ·rw [World.frozen?_alloc_at _ _ _ _ (by simp)]
theorem tv_at {w w' : World} {A2 : Option Addr} {L : List Tv} {B n2 z : Nat} (h : CellsV tvCells w B A2 L) (hl : L.length = n2) (hz : z < n2) : ∃ b o, A2 = some ⟨b, o, none⟩ ∧ b < B ∧ w.cell? ⟨b, o + z * 5 + 1, none⟩ = some (.int .i64 (tokV L (z : Int)).f) ∧ w.cell? ⟨b, o + z * 5 + 2, none⟩ = some (.int .i64 (tokV L (z : Int)).t) := by
 obtain ⟨tb, tof, rfl, htb, _, t1, t2, _, _⟩ := tv_get h (at_tok (i := z) (by omega))
 exact ⟨tb, tof, rfl, htb, t1, t2⟩
set_option maxHeartbeats 8000000 in
set_option maxRecDepth 100000 in
theorem vSpan_run (A1 : Option Addr) (n1 c1 : Nat) (A2 : Option Addr) (n2 c2 : Nat) (A : Option Addr) (n cap : Nat) (d : List Int) (L : List Tv) (T : List Nd) (k x y : Int) (w : World) (hs : SrcAt w A1 n1 c1 A2 n2 c2 A n d L T) (hV : Hid (Valid T n2)) (hv : Hid (spanV L T k = (x, y))) :
  Calls Try.prog 17 #[.slice A2 n2 c2, trV A n cap, .int .i64 k] w fun e w' => e = .returned (.agg #[.int .i64 x, .int .i64 y]) ∧ Below w.heap.size w w' := by
 have hl : Hid (T.length = n) := hs.tree.len
 have HLL := Lib.hid hs.lt
 have hn2 := hs.st
 have hc2 := hs.ct
 obtain ⟨b, hb⟩ : ∃ b, inT T k = b := ⟨_, rfl⟩
 have HI := Lib.hid (fun w => vIn_run A n cap k T w hl b hb)
 have HV : Hid ((if b = true ∧ 0 < n2 then (if (kd T k).f < (kd T k).t then ((tokV L (kd T k).f).f, (tokV L ((kd T k).t - 1)).t) else (placeV L (kd T k).f, placeV L (kd T k).f)) else (0, 0)) = (x, y)) := by
  show _ = _
  rw [← hb, ← hs.lt]
  exact hv.out
 have HBB := Lib.hid hb
 unfold trV at HI ⊢
 obtain ⟨S, hS⟩ : ∃ S, w.heap.size = S := ⟨_, rfl⟩
 obtain ⟨W, hW, hB, hWS, d0, ⟨r0, r1⟩, ⟨q0, q1⟩⟩ := span_box w (.slice A n cap) 26 37
 rw [hS] at hB hWS d0 r0 r1 q0 q1
 have HS : Hid (SrcAt W A1 n1 c1 A2 n2 c2 A n d L T) := hs.below (by rw [hS]; exact hB)
 rw [hS]
 have BX := Lib.hid hB
 clear hB hv hs hb
 go_enter Try.func17, Try.ntmps17
 go_wp2_with fail
 refine (HI.out W).mono ?_
 rintro e w1 ⟨rfl, hw⟩
 have B1 : Hid (Below S w w1) := BX.out.trans (hw.mono (by omega))
 have d1 := (hw.cell (p := ⟨S, 0, none⟩) (by show S < _; omega)).trans d0
 have s0 := (hw.cell (p := ⟨S + 1, 0, none⟩) (by show S + 1 < _; omega)).trans r0
 have s1 := (hw.cell (p := ⟨S + 1, 1, none⟩) (by show S + 1 < _; omega)).trans r1
 have z0 := (hw.frozen (p := ⟨S + 1, 0, none⟩) (by show S + 1 < _; omega)).trans q0
 have z1 := (hw.frozen (p := ⟨S + 1, 1, none⟩) (by show S + 1 < _; omega)).trans q1
 have hs1 : S + 2 ≤ w1.heap.size := by have := hw.size; omega
 have HS1 : Hid (SrcAt w1 A1 n1 c1 A2 n2 c2 A n d L T) := HS.out.below hw
 clear hw HS BX HI d0 r0 r1 q0 q1 hW hWS
 by_cases hbad : b = true ∧ 0 < n2
 rotate_left
 ·rw [if_neg hbad] at HV
  obtain ⟨rfl, rfl⟩ : x = 0 ∧ y = 0 := by have := HV.out; injection this with h1 h2; exact ⟨h1.symm, h2.symm⟩
  have BR : Hid (Below S w ((w1.setCell ⟨S + 1, 0, none⟩ (.int .i64 0)).setCell ⟨S + 1, 1, none⟩ (.int .i64 0))) := (B1.out.setCell (by show S ≤ S + 1; omega) _).setCell (by show S ≤ S + 1; omega) _
  have hcs : b = false ∨ (b = true ∧ n2 = 0) := by
   cases b
   ·exact .inl rfl
   ·exact .inr ⟨rfl, by have : ¬ 0 < n2 := fun h => hbad ⟨rfl, h⟩; omega⟩
  clear hbad HV
  rcases hcs with rfl | ⟨rfl, rfl⟩
  all_goals
   go_wp2_with fail
   (try simp only [Exit.inBlock, Exit.then])
   refine bodyPost_ret (v := .agg #[.int .i64 0, .int .i64 0]) (by rw [results_cell1 rfl]; go_simp; try rfl) rfl ⟨rfl, BR.out⟩
 ·rw [if_pos hbad] at HV
  obtain ⟨rfl, hn0⟩ := hbad
  have hn0b : ((n2 : Int) == 0) = false := by simp; omega
  have hin := of_decide_eq_true HBB.out
  rw [hl.out] at hin
  obtain ⟨i, rfl⟩ := Int.eq_ofNat_of_zero_le hin.1
  have hi : i < n := by omega
  have hiz : (i : Int) < (n : Int) := by omega
  obtain ⟨b, o, rfl, hbB, hget⟩ := HS1.out.tree.at_.get (by have := hl.out; omega)
  obtain ⟨K, q, c, a0, a1, a2, a3, gm, _, _, _⟩ := hget i _ (at_nd (by have := hl.out; omega))
  obtain ⟨_, _, v3, v4, v5⟩ := hV.out.num i (by have := hl.out; omega)
  have HV2 : Hid ((if (nd T i).f < (nd T i).t then ((tokV L (nd T i).f).f, (tokV L ((nd T i).t - 1)).t) else (placeV L (nd T i).f, placeV L (nd T i).f)) = (x, y)) := by
   show _ = _
   rw [← HV.out]
   unfold kd
   rw [Int.toNat_natCast]
  clear hget hin HBB HV gm
  generalize (nd T i).k = xk at *
  generalize (nd T i).f = xf at *
  generalize (nd T i).t = xt at *
  obtain ⟨F, rfl⟩ := Int.eq_ofNat_of_zero_le v3
  obtain ⟨t, rfl⟩ : ∃ t : Nat, xt = (t : Int) := ⟨xt.toNat, by omega⟩
  obtain ⟨W2, hW2, hB2, hs2, e0, e1, e2, e3⟩ := nd_box w1 xk (F : Int) (t : Int) K q c 49
  have B2 : Hid (Below S w W2) := B1.out.trans (hB2.mono (by omega))
  have HT2 : Hid (CellsV tvCells W2 w1.heap.size A2 L) := HS1.out.tok.below hB2 (Nat.le_refl _)
  have u0 := (hB2.cell (p := ⟨S + 1, 0, none⟩) (by show S + 1 < _; omega)).trans s0
  have u1 := (hB2.cell (p := ⟨S + 1, 1, none⟩) (by show S + 1 < _; omega)).trans s1
  have y0 := (hB2.frozen (p := ⟨S + 1, 0, none⟩) (by show S + 1 < _; omega)).trans z0
  have y1 := (hB2.frozen (p := ⟨S + 1, 1, none⟩) (by show S + 1 < _; omega)).trans z1
  obtain ⟨P, hP⟩ : ∃ P, w1.heap.size = P := ⟨_, rfl⟩
  rw [hP] at e0 e1 e2 e3 hs2
  have BR : Hid (Below S w ((W2.setCell ⟨S + 1, 0, none⟩ (.int .i64 x)).setCell ⟨S + 1, 1, none⟩ (.int .i64 y))) := (B2.out.setCell (by show S ≤ S + 1; omega) _).setCell (by show S ≤ S + 1; omega) _
  clear hB2 B1 HS1 s0 s1 z0 z1 v3
  by_cases hft : (F : Int) < (t : Int)
  ·rw [if_pos hft] at HV2
   have hFn : F < n2 := by omega
   obtain ⟨g, hg⟩ : ∃ g, t - 1 = g := ⟨_, rfl⟩
   have hgn : g < n2 := by omega
   have hgz : (t : Int) - 1 = (g : Int) := by omega
   have hwr : IntKind.i64.wrap ((t : Int) - 1) = (g : Int) := by rw [IntKind.wrap_i64]; omega
   obtain ⟨tb, tof, rfl, htb, t1, _⟩ := tv_at (w' := W2) HT2.out HLL.out hFn
   obtain ⟨_, _, et, _, _, t2⟩ := tv_at (w' := W2) HT2.out HLL.out hgn
   cases et
   rw [hgz] at HV2
   obtain ⟨hx, hy⟩ : (tokV L (F : Int)).f = x ∧ (tokV L (g : Int)).t = y := by have := HV2.out; injection this with h1 h2; exact ⟨h1, h2⟩
   rw [hx] at t1
   rw [hy] at t2
   have hFz : (F : Int) < (n2 : Int) := by omega
   have hgz2 : (g : Int) < (n2 : Int) := by omega
   have hft' : F < t := by omega
   clear HV2 hgz hg hx hy
   go_upto_region 5 with fail
   have past : ∀ (p : Addr) (v : Value), W2.cell? p = some v → W2.drew.cell? p = some v := fun p v h => h
   go_region
   all_goals go_wp2_with fail
   all_goals (try simp only [Exit.inBlock, Exit.then])
   all_goals exact bodyPost_ret (v := .agg #[.int .i64 x, .int .i64 y]) (by rw [results_cell1 rfl]; go_simp; try rfl) rfl ⟨rfl, BR.out.drew⟩
  ·rw [if_neg hft] at HV2
   obtain ⟨hx, hy⟩ : placeV L (F : Int) = x ∧ x = y := by have := HV2.out; injection this with h1 h2; exact ⟨h1, h1.symm.trans h2⟩
   subst hy
   have hHX := Lib.hid hx
   obtain ⟨g, hg⟩ : ∃ g, n2 - 1 = g := ⟨_, rfl⟩
   have hgn : g < n2 := by omega
   have hgz : (n2 : Int) - 1 = (g : Int) := by omega
   have hwr : IntKind.i64.wrap ((n2 : Int) - 1) = (g : Int) := by rw [IntKind.wrap_i64]; omega
   have hgz2 : (g : Int) < (n2 : Int) := by omega
   obtain ⟨tb, tof, rfl, htb, _, t2⟩ := tv_at (w' := W2) HT2.out HLL.out hgn
   by_cases hFn : F < n2
   ·obtain ⟨_, _, et, _, t1, _⟩ := tv_at (w' := W2) HT2.out HLL.out hFn
    cases et
    have hx2 : (tokV L (F : Int)).f = x := by rw [← hHX.out]; unfold placeV; rw [HLL.out, if_pos (by omega)]
    rw [hx2] at t1
    have hFz : (F : Int) < (n2 : Int) := by omega
    generalize (tokV L (g : Int)).t = y at *
    have hft2 : ¬ F < t := by omega
    clear HV2 hgz hg hx hx2 hHX hft
    go_wp2_with fail
    (try simp only [Exit.inBlock, Exit.then])
    exact bodyPost_ret (v := .agg #[.int .i64 x, .int .i64 x]) (by rw [results_cell1 rfl]; go_simp; try rfl) rfl ⟨rfl, BR.out⟩
   ·have hx2 : (tokV L (g : Int)).t = x := by rw [← hHX.out]; unfold placeV; rw [HLL.out, if_neg (by omega), hgz]
    rw [hx2] at t2
    have hFz : (n2 : Int) ≤ (F : Int) := by omega
    have hFz2 : ¬ (F : Int) < (n2 : Int) := by omega
    have hft2 : ¬ F < t := by omega
    clear HV2 hgz hg hx hx2 hHX
    go_wp2_with fail
    (try simp only [Exit.inBlock, Exit.then])
    exact bodyPost_ret (v := .agg #[.int .i64 x, .int .i64 x]) (by rw [results_cell1 rfl]; go_simp; try rfl) rfl ⟨rfl, BR.out⟩
end Go.Proofs.Ytpjgapnihmiceaa
namespace Go.Proofs.Ytpjgapnihmiceaa
open Go.RowKit
theorem conv_lit (w : World) (cs : Array Value) (n c : Nat) : (convert 22 22 (.slice (some ⟨w.heap.size, 0, none⟩) n c)).run Try.prog (w.alloc (.cells cs 5)) = .ok (.slice (some ⟨w.heap.size, 0, none⟩) n c) (w.alloc (.cells cs 5 (cs.size, cs.size + 1))) := by
 have hsh : (w.alloc (.cells cs 5)).shape? w.heap.size = some (5, cs.size) := by
  have : (w.alloc (.cells cs 5)).heap[w.heap.size]? = some (.cells cs 5) := by
   show (w.heap.push (.cells cs 5))[w.heap.size]? = _
   simp
  unfold World.shape?
  rw [this]
 have hfr : (w.alloc (.cells cs 5)).freeze ⟨w.heap.size, cs.size, none⟩ 1 = w.alloc (.cells cs 5 (cs.size, cs.size + 1)) := by
  have hm : ∀ (a : Array Obj) (x : Obj) (f : Obj → Obj), (a.push x).modify a.size f = a.push (f x) := by
   intro a x f
   apply Array.ext
   ·simp
   ·intro i h1 h2
    simp only [Array.getElem_modify, Array.getElem_push]
    by_cases h : a.size = i
    ·subst h
     simp
    ·have hi : i < a.size := by simp at h1; omega
     simp [h, hi]
  unfold World.freeze
  rw [if_neg (by decide)]
  show ({ w.alloc (.cells cs 5) with heap := (w.heap.push (.cells cs 5)).modify w.heap.size _ } : World) = _
  rw [hm]
  rfl
 simp [convert, run_underlying Try.underlying22, run_underlying Try.underlying5, markStringish, hsh]
 exact hfr
end Go.Proofs.Ytpjgapnihmiceaa
