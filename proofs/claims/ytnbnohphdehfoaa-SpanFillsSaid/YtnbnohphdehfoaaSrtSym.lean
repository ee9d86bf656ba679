/-
  slices.symMergeCmpFunc at a slice of structs of two int's: two sorted parts are merged, from a world of the sort's to a world of the sort's.
-/
import Derived.Test.YtnbnohphdehfoaaSrtWalk
namespace Go.Proofs.Ytnbnohphdehfoaa
open Go.Shelf Go.RowKit Go.Lib Go.Sort

/-- What the family is told of the order and of its function, once. -/
structure OrdK (cf : Int × Int → Int × Int → Int) (g : Nat) (cb : Array Value) (blk off size : Nat) (w0 : World) : Prop where
  eg : ∀ args w, (callFunc g args).run Try.prog w = .ok (.enter g args) w
  cmp : CmpLays Try.prog g cb pairCells 2 cf blk off size w0
  swo : SWO (ltOf cf)
theorem lt_true {cf : Int × Int → Int × Int → Int} {x y : Int × Int} : ltOf cf x y = true ↔ cf x y < 0 := by unfold ltOf; simp
theorem lt_false {cf : Int × Int → Int × Int → Int} {x y : Int × Int} : ltOf cf x y = false ↔ ¬ cf x y < 0 := by unfold ltOf; simp
/-- What a test of two elements wants, in every world that it passes through. -/
theorem swk_test {cf : Int × Int → Int × Int → Int} {g : Nat} {cb : Array Value} {blk off : Nat} {d0 dk : Array (Int × Int)} {w0 W : World} (O : OrdK cf g cb blk off d0.size w0) (R : RowK pairCells 2 w0 blk off d0) (S : SWK pairCells 2 w0 blk off dk W) (hs : dk.size = d0.size) {i j : Nat} (hi : i < dk.size) (hj : j < dk.size) :
    (∀ n os, (grow (W.drewN n) os).cell? ⟨blk, off + i * 2, none⟩ = some (.int .i64 dk[i]!.1)) ∧ (∀ n os, (grow (W.drewN n) os).cell? ⟨blk, off + i * 2 + 1, none⟩ = some (.int .i64 dk[i]!.2)) ∧
    (∀ n os, (grow (W.drewN n) os).cell? ⟨blk, off + j * 2, none⟩ = some (.int .i64 dk[j]!.1)) ∧ (∀ n os, (grow (W.drewN n) os).cell? ⟨blk, off + j * 2 + 1, none⟩ = some (.int .i64 dk[j]!.2)) ∧
    (∀ n os, Calls Try.prog g (#[.agg #[.int .i64 dk[i]!.1, .int .i64 dk[i]!.2], .agg #[.int .i64 dk[j]!.1, .int .i64 dk[j]!.2]] ++ cb) (grow (W.drewN n) os) fun e w' => e = .returned (.int .i64 (cf dk[i]! dk[j]!)) ∧ ∃ q os', w' = grow ((grow (W.drewN n) os).drewN q) os') :=
  ⟨fun n os => (swk_cells (S.grown n os) R hs hi).1, fun n os => (swk_cells (S.grown n os) R hs hi).2.1, fun n os => (swk_cells (S.grown n os) R hs hj).1, fun n os => (swk_cells (S.grown n os) R hs hj).2.1, fun n os => S.cmp O.cmp hs dk[i]! dk[j]! n os⟩
/-- What an exchange of two elements wants, and gives. -/
theorem swk_swap {blk off : Nat} {d0 dk : Array (Int × Int)} {w0 W : World} (R : RowK pairCells 2 w0 blk off d0) (S : SWK pairCells 2 w0 blk off dk W) {i j : Nat} (hi : i < dk.size) (hj : j < dk.size) :
    SWK pairCells 2 w0 blk off (swp dk i j) ((((W.drew.setCell ⟨blk, off + i * 2, none⟩ (.int .i64 dk[j]!.1)).setCell ⟨blk, off + i * 2 + 1, none⟩ (.int .i64 dk[j]!.2)).setCell ⟨blk, off + j * 2, none⟩ (.int .i64 dk[i]!.1)).setCell ⟨blk, off + j * 2 + 1, none⟩ (.int .i64 dk[i]!.2)) :=
  S.swapped R i j hi hj

set_option maxHeartbeats 8000000 in
set_option maxRecDepth 1000000 in
theorem sym_left (blk off cap g : Nat) (cb : Array Value) (cf : Int × Int → Int × Int → Int) (d0 : Array (Int × Int)) (w0 : World) (R : RowK pairCells 2 w0 blk off d0) (O : OrdK cf g cb blk off d0.size w0) (hsz : d0.size < 4611686018427387904)
    (a m b : Nat) (d : Array (Int × Int)) (w : World) (c1 : m - a = 1) (hds : d.size = d0.size) (S : SWK pairCells 2 w0 blk off d w) (ham : a < m) (hmb : m < b) (hb : b ≤ d0.size) (h1 : SortedIn (ltOf cf) a m d) (h2 : SortedIn (ltOf cf) m b d) :
    Calls Try.prog 37 #[.slice (some ⟨blk, off, none⟩) d0.size cap, .int .i64 a, .int .i64 m, .int .i64 b, .func (.func g) #[] cb] w fun e w' => e = .returned (.tuple #[]) ∧ ∃ d', PermIn a b d d' ∧ SortedIn (ltOf cf) a b d' ∧ SWK pairCells 2 w0 blk off d' w' := by
  have mixed := mixedA
  have eg := O.eg
  have H1 := Lib.hid h1
  have H2 := Lib.hid h2
  have S0 : Aside (SWK pairCells 2 w0 blk off d w) := S
  clear S h1 h2
  have HM : Hid (m = a + 1) := show m = a + 1 by omega
  have c1z : ((m : Int) - (a : Int) == 1) = true := by simp; omega
  go_enter Try.func37, Try.ntmps37
  go_wp2_with fail
  go_loopg [10, 11] (b - a + 1) (fun h s10 s11 wr => ∃ (i j : Nat), s10 = .int .i64 i ∧ s11 = .int .i64 j ∧ m ≤ i ∧ i ≤ j ∧ j ≤ b ∧ Hid (j - i < h) ∧ Aside (i = m ∨ ltOf cf d[i - 1]! d[a]! = true) ∧ Aside (j = b ∨ ltOf cf d[j]! d[a]! = false) ∧ Aside (SWK pairCells 2 w0 blk off d wr))
  case atStart => exact ⟨m, b, rfl, rfl, Nat.le_refl _, by omega, Nat.le_refl _, by show _ < _; omega, .inl rfl, .inl rfl, S0⟩
  case round =>
    clear S0
    obtain ⟨i, j, rfl, rfl, hi, hij, hj, hh, A1, A2, S1⟩ := hrel
    by_cases hlt : i < j
    · have hltz : (i : Int) < (j : Int) := by omega
      obtain ⟨t, ht⟩ : ∃ t, t = (i + j) / 2 := ⟨_, rfl⟩
      have et : ((i : Int) + (j : Int)) / 2 = (t : Int) := by omega
      have ht1 : i ≤ t := by omega
      have ht2 : t < j := by omega
      have hts : t < d0.size := by omega
      have has : a < d0.size := by omega
      obtain ⟨l1, l2, l3, l4, hc⟩ := swk_test O R S1.out hds (show t < d.size by omega) (show a < d.size by omega)
      have CLS := fun n os => S1.out.grown n os
      obtain ⟨r, hr⟩ : ∃ r, r = cf d[t]! d[a]! := ⟨_, rfl⟩
      have RR := Lib.hid hr
      rw [← hr] at hc
      generalize d[t]!.1 = x1 at l1 hc
      generalize d[t]!.2 = x2 at l2 hc
      generalize d[a]!.1 = y1 at l3 hc
      generalize d[a]!.2 = y2 at l4 hc
      have CL : Aside _ := CLS
      clear ht hr CLS S1
      by_cases hv : r < 0
      · go_wp2_with fail
        go_quiet_grown (first | (go_at_fn g; refine Calls.grown_of (hc _ _)))
        go_wp2_with fail
        go_roundg (j - (t + 1) + 1)
        case measure => have := hh.out; omega
        case rel => exact ⟨t + 1, j, by go_num, rfl, by omega, by omega, hj, by show _ < _; omega, .inr (by rw [Nat.add_sub_cancel]; exact lt_true.2 (by have := RR.out; omega)), A2, CL.out _ _⟩
      · go_wp2_with fail
        go_quiet_grown (first | (go_at_fn g; refine Calls.grown_of (hc _ _)))
        go_wp2_with fail
        go_roundg (t - i + 1)
        case measure => have := hh.out; omega
        case rel => exact ⟨i, t, rfl, rfl, hi, ht1, by omega, by show _ < _; omega, A1, .inr (lt_false.2 (by have := RR.out; omega)), CL.out _ _⟩
    · obtain rfl : i = j := by omega
      clear hh
      have S2 : Aside (SWK pairCells 2 w0 blk off d wr) := S1
      clear S1
      generalize wr = wq at *
      go_wp2_with fail
      go_loopg [13] (i + 1) (fun h s13 wr => ∃ (n : Nat) (k : Nat) (dk : Array (Int × Int)), s13 = .int .i64 k ∧ k = a + n ∧ a + n + 1 ≤ i ∧ Hid (i < a + n + h + 1) ∧ Aside (Srt.IsRot d dk a 1 n) ∧ Aside (SWK pairCells 2 w0 blk off dk wr))
      case atStart => exact ⟨0, a, d, rfl, rfl, by omega, by show _ < _; omega, Srt.isRot_none d a 1, S2⟩
      case round =>
        clear S2
        obtain ⟨n, k, dk, rfl, hk, hni, hh, HR, S3⟩ := hrel
        have hdk : dk.size = d.size := HR.out.1
        by_cases hlt : a + n + 1 < i
        · have hltz : (k : Int) < (i : Int) - 1 := by omega
          obtain ⟨k1, hk1⟩ : ∃ k1, k1 = k + 1 := ⟨_, rfl⟩
          have ek1 : (k : Int) + 1 = (k1 : Int) := by omega
          have S4 : Aside _ := swk_swap R S3.out (i := k) (j := k1) (by omega) (by omega)
          obtain ⟨l1, l2, f1, f2⟩ := swk_cells S3.out R (by omega) (show k < dk.size by omega)
          obtain ⟨l3, l4, f3, f4⟩ := swk_cells S3.out R (by omega) (show k1 < dk.size by omega)
          have q1 : ¬ off + k1 * 2 = off + k * 2 := by omega
          have q2 : ¬ off + k1 * 2 = off + k * 2 + 1 := by omega
          have q3 : ¬ off + k1 * 2 + 1 = off + k * 2 := by omega
          have q4 : ¬ off + k1 * 2 + 1 = off + k * 2 + 1 := by omega
          have q5 : ¬ k1 = k := by omega
          have b1 : (k : Int) < (d0.size : Int) := by omega
          have b2 : (k1 : Int) < (d0.size : Int) := by omega
          have HK : Hid (swp dk k k1 = swp dk (a + n) (a + n + 1)) := by show _ = _; rw [hk1, hk]
          have HK1 : Hid (k1 = a + (n + 1)) := by show _ = _; omega
          generalize swp dk k k1 = dk2 at S4 HK
          generalize dk[k]! = x at S4 l1 l2
          generalize dk[k1]! = y at S4 l3 l4
          obtain ⟨x1, x2⟩ := x
          obtain ⟨y1, y2⟩ := y
          simp only [] at S4 l1 l2 l3 l4
          have HK0 : Hid (k = a + n ∧ a + n + 1 < i) := ⟨hk, hlt⟩
          clear S3 hk hk1
          go_wp2_with fail
          go_big_region_o
          go_wp2
          go_roundg (i - k - 1)
          case measure => have := hh.out; have := HK1.out; have := HK0.out; omega
          case rel => exact ⟨n + 1, k1, dk2, by go_num, HK1.out, by have := HK0.out; omega, by show _ < _; have := HK0.out; omega, by show Srt.IsRot _ _ _ _ _; rw [HK.out]; exact Srt.rot_up HR.out (by omega), S4⟩
        · have hltz : ¬ (k : Int) < (i : Int) - 1 := by omega
          have hn : n = i - (a + 1) := by omega
          go_wp2_with fail
          (try simp only [Exit.inBlock, Exit.then]); refine bodyPost_ret (results_none rfl _ _ _) rfl ?_
          have hm := HM.out
          subst hm hn
          refine ⟨rfl, dk, ?_, ?_, S3.out⟩
          · exact permIn_mono _ _ _ _ _ _ (Nat.le_refl _) (by omega) (by omega) HR.out.2.1
          · exact Srt.one_left O.swo H2.out hi hj A1.out A2.out HR.out

set_option maxHeartbeats 8000000 in
set_option maxRecDepth 1000000 in
theorem sym_right (blk off cap g : Nat) (cb : Array Value) (cf : Int × Int → Int × Int → Int) (d0 : Array (Int × Int)) (w0 : World) (R : RowK pairCells 2 w0 blk off d0) (O : OrdK cf g cb blk off d0.size w0) (hsz : d0.size < 4611686018427387904)
    (a m b : Nat) (d : Array (Int × Int)) (w : World) (c1 : ¬ m - a = 1) (c2 : b - m = 1) (hds : d.size = d0.size) (S : SWK pairCells 2 w0 blk off d w) (ham : a < m) (hmb : m < b) (hb : b ≤ d0.size) (h1 : SortedIn (ltOf cf) a m d) (h2 : SortedIn (ltOf cf) m b d) :
    Calls Try.prog 37 #[.slice (some ⟨blk, off, none⟩) d0.size cap, .int .i64 a, .int .i64 m, .int .i64 b, .func (.func g) #[] cb] w fun e w' => e = .returned (.tuple #[]) ∧ ∃ d', PermIn a b d d' ∧ SortedIn (ltOf cf) a b d' ∧ SWK pairCells 2 w0 blk off d' w' := by
  have mixed := mixedA
  have eg := O.eg
  have H1 := Lib.hid h1
  have H2 := Lib.hid h2
  have S0 : Aside (SWK pairCells 2 w0 blk off d w) := S
  clear S h1 h2
  have HB : Hid (b = m + 1) := show b = m + 1 by omega
  have c1z : ((m : Int) - (a : Int) == 1) = false := by simp; omega
  have c2z : ((b : Int) - (m : Int) == 1) = true := by simp; omega
  go_enter Try.func37, Try.ntmps37
  go_wp2_with fail
  go_loopg [14, 15] (m - a + 1) (fun h s14 s15 wr => ∃ (i j : Nat), s14 = .int .i64 i ∧ s15 = .int .i64 j ∧ a ≤ i ∧ i ≤ j ∧ j ≤ m ∧ Hid (j - i < h) ∧ Aside (i = a ∨ ltOf cf d[m]! d[i - 1]! = false) ∧ Aside (j = m ∨ ltOf cf d[m]! d[j]! = true) ∧ Aside (SWK pairCells 2 w0 blk off d wr))
  case atStart => exact ⟨a, m, rfl, rfl, Nat.le_refl _, by omega, Nat.le_refl _, by show _ < _; omega, .inl rfl, .inl rfl, S0⟩
  case round =>
    clear S0
    obtain ⟨i, j, rfl, rfl, hi, hij, hj, hh, A1, A2, S1⟩ := hrel
    by_cases hlt : i < j
    · have hltz : (i : Int) < (j : Int) := by omega
      obtain ⟨t, ht⟩ : ∃ t, t = (i + j) / 2 := ⟨_, rfl⟩
      have et : ((i : Int) + (j : Int)) / 2 = (t : Int) := by omega
      have ht1 : i ≤ t := by omega
      have ht2 : t < j := by omega
      have hts : t < d0.size := by omega
      have has : m < d0.size := by omega
      obtain ⟨l1, l2, l3, l4, hc⟩ := swk_test O R S1.out hds (show m < d.size by omega) (show t < d.size by omega)
      have CLS := fun n os => S1.out.grown n os
      obtain ⟨r, hr⟩ : ∃ r, r = cf d[m]! d[t]! := ⟨_, rfl⟩
      have RR := Lib.hid hr
      rw [← hr] at hc
      generalize d[m]!.1 = x1 at l1 hc
      generalize d[m]!.2 = x2 at l2 hc
      generalize d[t]!.1 = y1 at l3 hc
      generalize d[t]!.2 = y2 at l4 hc
      have CL : Aside _ := CLS
      clear ht hr CLS S1
      by_cases hv : r < 0
      · have hd : decide (r < 0) = true := decide_eq_true hv
        go_wp2_with fail
        go_quiet_grown (first | (go_at_fn g; refine Calls.grown_of (hc _ _)))
        go_wp2_with fail
        go_roundg (t - i + 1)
        case measure => have := hh.out; omega
        case rel => exact ⟨i, t, rfl, rfl, hi, ht1, by omega, by show _ < _; omega, A1, .inr (lt_true.2 (by have := RR.out; omega)), CL.out _ _⟩
      · have hd : decide (r < 0) = false := decide_eq_false hv
        go_wp2_with fail
        go_quiet_grown (first | (go_at_fn g; refine Calls.grown_of (hc _ _)))
        go_wp2_with fail
        go_roundg (j - (t + 1) + 1)
        case measure => have := hh.out; omega
        case rel => exact ⟨t + 1, j, by go_num, rfl, by omega, by omega, hj, by show _ < _; omega, .inr (by rw [Nat.add_sub_cancel]; exact lt_false.2 (by have := RR.out; omega)), A2, CL.out _ _⟩
    · obtain rfl : i = j := by omega
      clear hh
      have S2 : Aside (SWK pairCells 2 w0 blk off d wr) := S1
      clear S1
      generalize wr = wq at *
      go_wp2_with fail
      go_loopg [17] (m + 1) (fun h s17 wr => ∃ (n : Nat) (k : Nat) (dk : Array (Int × Int)), s17 = .int .i64 k ∧ k + n = m ∧ i ≤ k ∧ Hid (k < h) ∧ Aside (Srt.IsRot d dk k n 1) ∧ Aside (SWK pairCells 2 w0 blk off dk wr))
      case atStart => exact ⟨0, m, d, rfl, rfl, hj, by show _ < _; omega, Srt.isRot_none' d m 1, S2⟩
      case round =>
        clear S2
        obtain ⟨n, k, dk, rfl, hk, hni, hh, HR, S3⟩ := hrel
        have hdk : dk.size = d.size := HR.out.1
        by_cases hlt : i < k
        · have hltz : (i : Int) < (k : Int) := by omega
          obtain ⟨k1, hk1⟩ : ∃ k1, k = k1 + 1 := ⟨k - 1, by omega⟩
          have ek1 : (k : Int) - 1 = (k1 : Int) := by omega
          have S4 : Aside _ := swk_swap R S3.out (i := k) (j := k1) (by omega) (by omega)
          obtain ⟨l1, l2, f1, f2⟩ := swk_cells S3.out R (by omega) (show k < dk.size by omega)
          obtain ⟨l3, l4, f3, f4⟩ := swk_cells S3.out R (by omega) (show k1 < dk.size by omega)
          have q1 : ¬ off + k1 * 2 = off + k * 2 := by omega
          have q2 : ¬ off + k1 * 2 = off + k * 2 + 1 := by omega
          have q3 : ¬ off + k1 * 2 + 1 = off + k * 2 := by omega
          have q4 : ¬ off + k1 * 2 + 1 = off + k * 2 + 1 := by omega
          have q5 : ¬ k1 = k := by omega
          have b1 : (k : Int) < (d0.size : Int) := by omega
          have b2 : (k1 : Int) < (d0.size : Int) := by omega
          have HK : Hid (Srt.IsRot d (swp dk k k1) k1 (n + 1) 1) := by
            have h' := HR.out
            rw [hk1] at h' ⊢
            exact Srt.rot_down h' (by omega)
          have HK0 : Hid (k = k1 + 1 ∧ k + n = m ∧ i < k) := ⟨hk1, hk, hlt⟩
          generalize swp dk k k1 = dk2 at S4 HK
          generalize dk[k]! = x at S4 l1 l2
          generalize dk[k1]! = y at S4 l3 l4
          obtain ⟨x1, x2⟩ := x
          obtain ⟨y1, y2⟩ := y
          simp only [] at S4 l1 l2 l3 l4
          clear S3 HR hk hk1
          go_wp2_with fail
          go_big_region_o
          go_wp2
          go_roundg (k1 + 1)
          case measure => have := hh.out; have := HK0.out; omega
          case rel => exact ⟨n + 1, k1, dk2, by go_num, by have := HK0.out; omega, by have := HK0.out; omega, Nat.lt_succ_self _, HK.out, S4⟩
        · have hltz : ¬ (i : Int) < (k : Int) := by omega
          obtain rfl : k = i := by omega
          have hn : n = m - k := by omega
          go_wp2_with fail
          (try simp only [Exit.inBlock, Exit.then]); refine bodyPost_ret (results_none rfl _ _ _) rfl ?_
          have hm := HB.out
          subst hm hn
          refine ⟨rfl, dk, ?_, ?_, S3.out⟩
          · exact permIn_mono _ _ _ _ _ _ hi (by omega) (by omega) HR.out.2.1
          · exact Srt.one_right O.swo H1.out hi hj A2.out A1.out HR.out
end Go.Proofs.Ytnbnohphdehfoaa
