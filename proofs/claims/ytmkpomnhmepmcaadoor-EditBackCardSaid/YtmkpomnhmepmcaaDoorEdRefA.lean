/-
  The contract of the reference's Apply: from the last edit to the first one.
-/
import Derived.Test.YtmkpomnhmepmcaaDoorEdValid
import Derived.Test.YtmkpomnhmepmcaaDoorEdRefC
import Derived.Test.YtmkpomnhmepmcaaDoorEdRef
namespace Go.Proofs.YtmkpomnhmepmcaaDoor
open Go.RowKit

theorem ok_drop {n : Nat} : ∀ {l : List Ed.E} {p : Nat} (j : Nat) {x : Ed.E}, Ed.Ok n p l → l[j]? = some x → Ed.Ok n x.t (l.drop (j + 1)) ∧ x.f ≤ x.t ∧ x.t ≤ n
  | [], _, j, x, _, hx => by simp at hx
  | e :: r, p, 0, x, h, hx => by
    simp at hx
    subst hx
    exact ⟨h.2.2.2, h.2.1, h.2.2.1⟩
  | e :: r, p, j + 1, x, h, hx => ok_drop j h.2.2.2 (by simpa using hx)
/-- Where the walk stands: edits j and on are done. -/
def AtApR (bl : List Int) (l : List Ei) (j : Nat) (s : ByteArray) : Prop := bts s = Ed.appR bl ((l.drop j).map toE)
theorem AtApR.next {bl : List Int} {l : List Ei} {j : Nat} {s : ByteArray} {x : Ei} (h : AtApR bl l (j + 1) s) (hok : Ed.Ok bl.length 0 (l.map toE)) (hx : l[j]? = some x) :
    x.f.toNat ≤ x.t.toNat ∧ x.t.toNat ≤ s.size ∧ AtApR bl l j (s.extract 0 x.f.toNat ++ x.s ++ s.extract x.t.toNat s.size) := by
  have hxe : (l.map toE)[j]? = some (toE x) := by rw [List.getElem?_map, hx]; rfl
  obtain ⟨h1, h2, h3⟩ := ok_drop j hok hxe
  have hd : (l.map toE).drop (j + 1) = (l.drop (j + 1)).map toE := List.map_drop.symm
  rw [hd] at h1
  have hlen : (bts s).length = s.size := bts_length s
  have hge : x.t.toNat ≤ s.size := by
    rw [← hlen, h, Ed.appR_eq bl h1, List.length_append, List.length_take]
    show x.t.toNat ≤ _
    have : (toE x).t = x.t.toNat := rfl
    rw [this] at h3 ⊢
    omega
  refine ⟨h2, hge, ?_⟩
  unfold AtApR at *
  rw [bts_append, bts_append, bts_extract, bts_extract, h, drop_at hx, List.map_cons, Ed.appR, List.drop_zero, List.append_assoc]
  congr 2
  rw [List.take_of_length_le (by rw [← h, hlen]; omega)]
  rfl
section
variable (Ab : Option Addr) (nb capb : Nat) (bl : List Int) (A : Option Addr) (n cap : Nat) (l : List Ei) (w : World)
set_option maxHeartbeats 4000000 in
theorem refApply_bad (i k : Nat) (hk : 0 < k) (hy : Byts w w.heap.size Ab bl) (hbl : Hid (bl.length = nb)) (hb : CellsV edCells w w.heap.size A l) (hl : Hid (l.length = n)) (hn : n ≤ 12) (hs : Hid (∀ e ∈ l, e.s.size ≤ 40)) (hc : Hid (checkOut bl l = some (i, k))) :
    Calls Tryd.prog 11 #[.slice Ab nb capb, .slice A n cap] w fun e w' => e = .returned (.tuple #[.slice none 0 0, .int .i64 k, .int .i64 i]) ∧ Below w.heap.size w w' := by
  have HC := Lib.hid (edRefCheck_run Ab nb capb bl A n cap l w hy hbl hb hl hn hs)
  have He : Hid (chkRef (checkOut bl l) = .tuple #[.int .i64 k, .int .i64 i]) := by
    show _ = _
    rw [hc.out]
    rfl
  have hk0 : ((k : Int) != 0) = true := by simp; omega
  clear hy hb
  go_enter Tryd.func11, Tryd.ntmps11
  go_wp2_with fail
  refine HC.out.mono ?_
  rw [He.out]
  rintro e w1 ⟨rfl, hw1⟩
  go_wp2_with fail
  go_ret3
  exact ⟨rfl, hw1⟩
set_option maxRecDepth 100000 in
set_option maxHeartbeats 8000000 in
theorem refApply_ok (hy : Byts w w.heap.size Ab bl) (hbl : Hid (bl.length = nb)) (hb : CellsV edCells w w.heap.size A l) (hl : Hid (l.length = n)) (hn : n ≤ 12) (hs : Hid (∀ e ∈ l, e.s.size ≤ 40)) (hnb : nb ≤ 300) (hc : Hid (checkOut bl l = none)) :
    Calls Tryd.prog 11 #[.slice Ab nb capb, .slice A n cap] w fun e w' => ∃ v, e = .returned (.tuple #[v, .int .i64 0, .int .i64 (-1)]) ∧ BytsOut (done bl l) w v w' := by
  have HC := Lib.hid (edRefCheck_run Ab nb capb bl A n cap l w hy hbl hb hl hn hs)
  have He : Hid (chkRef (checkOut bl l) = .tuple #[.int .i64 0, .int .i64 (-1)]) := by
    show _ = _
    rw [hc.out]
    rfl
  have HCv : Hid (∀ W, Below w.heap.size w W → (convert 22 9 (.slice Ab nb capb)).run Tryd.prog W = .ok (.string (strOf bl)) W) := fun W hW => conv_bytes (hy.below hW (Nat.le_refl _)) nb capb hbl.out
  have HS0 : Hid (AtApR bl l n (strOf bl)) := by
    show _ = _
    rw [bts_strOf hy.1, List.drop_of_length_le (by have := hl.out; omega)]
    rfl
  have HB := Lib.hid hb
  have HBy : Hid (U.Byt bl) := hy.1
  have HOk := Lib.hid (valid_ok hc.out)
  have HDl : Hid ((done bl l).length ≤ 780) := by
    have := done_le hc.out hs.out (by have := hl.out; omega)
    have := hbl.out
    show _ ≤ _
    omega
  clear hy hb
  go_enter Tryd.func11, Tryd.ntmps11
  go_wp2_with fail
  refine HC.out.mono ?_
  rw [He.out]
  rintro e w1 ⟨rfl, hw1⟩
  have B1 := Lib.hid hw1
  have hcv := HCv.out w1 hw1
  have HSz : Hid ((strOf bl).size + 40 * n ≤ 300 + 40 * n) := by
    show _ ≤ _
    have h := bts_length (strOf bl)
    rw [bts_strOf HBy.out] at h
    have := hbl.out
    omega
  obtain ⟨s0, hs0⟩ : ∃ s0, strOf bl = s0 := ⟨_, rfl⟩
  rw [hs0] at hcv HS0 HSz
  clear hw1 hs0 HCv HC
  have hn1 : wrap64 ((n : Int) - 1) = (n : Int) - 1 := by unfold wrap64; omega
  go_wp2_with fail
  clear hcv
  go_loopg [9, 10] (n + 1) (fun h s9 s10 wr => ∃ (j : Nat) (v : Int) (s : ByteArray), s10 = .int .i64 v ∧ s9 = .string s ∧ Hid (v = (j : Int) - 1 ∧ j < h ∧ j ≤ n ∧ s.size + 40 * j ≤ 300 + 40 * n) ∧ Hid (AtApR bl l j s) ∧ Hid (Below w.heap.size w wr))
  case atStart => exact ⟨n, (n : Int) - 1, s0, rfl, rfl, ⟨rfl, Nat.lt_succ_self _, Nat.le_refl _, HSz.out⟩, HS0.out, B1.out⟩
  case round =>
    obtain ⟨j, v, s, rfl, rfl, HI, HA, BW⟩ := hrel
    rcases j with _ | j
    · obtain rfl : v = -1 := by have := HI.out; omega
      have HD : Hid (bts s = done bl l) := by
        have h := HA.out
        show _ = _
        rw [h, List.drop_zero, Ed.appR_eq bl HOk.out, List.take_zero, List.nil_append]
        rfl
      have hsl : s.size ≤ 780 := by
        have := HDl.out
        rw [← HD.out, bts_length] at this
        exact this
      obtain ⟨cc, w5, hconv, hc1, hc2, hy5, hb5⟩ := run_conv_str wr s (by unfold maxLen; omega)
      have HY5 := Lib.hid hy5
      have B5 : Hid (Below w.heap.size w w5) := BW.out.trans (hb5.mono BW.out.size)
      have HC1 := Lib.hid hc1
      have HC2 := Lib.hid hc2
      clear hy5 hb5 hc1 hc2
      go_wp2_with fail
      go_ret3
      refine ⟨_, rfl, some ⟨wr.heap.size, 0, none⟩, cc, ?_, ?_, ?_, ?_, B5.out⟩
      · show Value.slice (some ⟨wr.heap.size, 0, none⟩) s.size cc = _
        rw [← HD.out, bts_length]
      · rw [← HD.out, bts_length]; exact HC1.out
      · have := HC2.out; unfold maxLen at this; exact this
      · rw [← HD.out]; exact HY5.out
    · obtain rfl : v = (j : Int) := by have := HI.out; omega
      have hjn : j < n := by have := HI.out; omega
      obtain ⟨gb, o, x, rfl, hg, hx, c0, c1, c2⟩ := eds_at (HB.out.below BW.out (Nat.le_refl _)) (show j < l.length by have := hl.out; omega)
      obtain ⟨v0, v1, v2⟩ := valid_in hc.out x (List.mem_of_getElem? hx)
      obtain ⟨hft, hts, HN⟩ := AtApR.next HA.out HOk.out hx
      have HRl : x.s.size ≤ 40 := hs.out x (List.mem_of_getElem? hx)
      obtain ⟨f, t, r⟩ := x
      obtain ⟨fn, rfl⟩ := Int.eq_ofNat_of_zero_le v0
      obtain ⟨tn, rfl⟩ := Int.eq_ofNat_of_zero_le (Int.le_trans v0 v1)
      simp only [Int.toNat_natCast] at c0 c1 c2 hft hts HN
      have HN := Lib.hid HN
      have hfs : fn ≤ s.size := by omega
      have hrl : r.size ≤ 40 := HRl
      have hI := HI.out
      obtain ⟨s1, hs1⟩ : ∃ s1, s.extract 0 fn = s1 := ⟨_, rfl⟩
      obtain ⟨s2, hs2⟩ : ∃ s2, s.extract tn s.size = s2 := ⟨_, rfl⟩
      have z1 : s1.size = fn := by rw [← hs1]; simp; omega
      have z2 : s2.size = s.size - tn := by rw [← hs2]; simp
      have hb1 : ¬ 9223372036854775807 < s1.size + r.size := by omega
      have hb2 : ¬ 9223372036854775807 < s1.size + r.size + s2.size := by omega
      have HSn : Hid ((s1 ++ r ++ s2).size + 40 * j ≤ 300 + 40 * n) := by
        show _ ≤ _
        rw [ByteArray.size_append, ByteArray.size_append]
        omega
      rw [hs1, hs2] at HN
      clear z1 z2 hI
      have hj1 : wrap64 ((j : Int) - 1) = (j : Int) - 1 := by unfold wrap64; omega
      clear hx v0 v1 v2 HRl
      go_wp2_with fail
      go_quiet (fail)
      go_wp2_with fail
      go_roundg (j + 1)
      case measure => have := HI.out; omega
      case rel => exact ⟨j, _, _, rfl, rfl, ⟨rfl, by omega, by omega, HSn.out⟩, HN.out, below_drewN BW.out _⟩
end
end Go.Proofs.YtmkpomnhmepmcaaDoor
