/-
  slices.stableCmpFunc and SortStableFunc at a slice of structs of two int's: behind the call the slice holds a sorted permutation of what it held.
-/
import Derived.Test.YtnbnohphdehfoaaSrtTop
namespace Go.Proofs.Ytnbnohphdehfoaa
open Go.Shelf Go.RowKit Go.Lib Go.Sort
/-- The slice of a stable sort: of whatever length below 2^61. -/
theorem symMerge_run {az mz bz : Int} (blk off cap g : Nat) (cb : Array Value) (cf : Int × Int → Int × Int → Int) (d0 : Array (Int × Int)) (w0 : World) (R : RowK pairCells 2 w0 blk off d0) (O : OrdK cf g cb blk off d0.size w0) (hsz : d0.size < 4611686018427387904)
    (a m b : Nat) (ea : az = a) (em : mz = m) (eb : bz = b) (d : Array (Int × Int)) (w : World) (hds : d.size = d0.size) (S : SWK pairCells 2 w0 blk off d w) (ham : a < m) (hmb : m < b) (hb : b ≤ d0.size) (h1 : SortedIn (ltOf cf) a m d) (h2 : SortedIn (ltOf cf) m b d) :
    Calls Try.prog 37 #[.slice (some ⟨blk, off, none⟩) d0.size cap, .int .i64 az, .int .i64 mz, .int .i64 bz, .func (.func g) #[] cb] w fun e w' => e = .returned (.tuple #[]) ∧ ∃ d', PermIn a b d d' ∧ SortedIn (ltOf cf) a b d' ∧ SWK pairCells 2 w0 blk off d' w' := by
  subst ea em eb
  exact symMerge_all blk off cap g cb cf d0 w0 R O hsz (b - a + 1) a m b d w (by omega) hds S ham hmb hb h1 h2

set_option maxHeartbeats 8000000 in
set_option maxRecDepth 1000000 in
theorem stable_run (blk off cap g : Nat) (cb : Array Value) (cf : Int × Int → Int × Int → Int) (d0 : Array (Int × Int)) (w0 : World) (R : RowK pairCells 2 w0 blk off d0) (O : OrdK cf g cb blk off d0.size w0) (hsz : d0.size < 2305843009213693952) :
    Calls Try.prog 35 #[.slice (some ⟨blk, off, none⟩) d0.size cap, .int .i64 d0.size, .func (.func g) #[] cb] w0 fun e w' => e = .returned (.tuple #[]) ∧ ∃ d', PermIn 0 d0.size d0 d' ∧ SortedIn (ltOf cf) 0 d0.size d' ∧ SWK pairCells 2 w0 blk off d' w' := by
  have S0 : Aside (SWK pairCells 2 w0 blk off d0 w0) := SWK.start R.hH
  obtain ⟨n, hn⟩ : ∃ n, n = d0.size := ⟨_, rfl⟩
  have INS := Lib.hid (insertion_run blk off cap g cb cf d0 w0 R O (by omega))
  have SYM := fun {az mz bz : Int} => @symMerge_run az mz bz blk off cap g cb cf d0 w0 R O (by omega)
  rw [← hn] at INS SYM hsz ⊢
  have SY : Hid _ := @SYM
  have HN := Lib.hid hn
  clear SYM hn
  go_enter Try.func35, Try.ntmps35
  go_wp2_with fail
  go_loopg [7, 8] (n + 1) (fun h s7 s8 wr => ∃ (a b : Nat) (dk : Array (Int × Int)), s7 = .int .i64 a ∧ s8 = .int .i64 b ∧ Hid (b = a + 20 ∧ a ≤ n ∧ n < a + h) ∧ Hid (PermIn 0 n d0 dk ∧ Srt.RunsFrom (ltOf cf) 20 dk a) ∧ Aside (SWK pairCells 2 w0 blk off dk wr))
  case atStart => exact ⟨0, 20, d0, rfl, rfl, by show _ ∧ _; omega, ⟨permIn_refl _ _ _, .zero⟩, S0⟩
  case round =>
    clear S0
    obtain ⟨a, b, dk, rfl, rfl, HA, HP, S1⟩ := hrel
    have hA := HA.out
    have hdk : dk.size = n := HP.out.1.1.trans HN.out.symm
    by_cases hlt : b ≤ n
    · have hltz : (b : Int) ≤ (n : Int) := by omega
      clear hA
      go_wp2_with fail
      refine (INS.out a b dk wr hdk S1.out (by have := HA.out; omega) (by omega)).mono ?_
      rintro e w1 ⟨rfl, d1, hp1, hs1, hw1⟩
      go_wp2_with fail
      go_roundg (n - a - 19)
      case measure => have := HA.out; omega
      case rel =>
        have hA := HA.out
        refine ⟨b, b + 20, d1, rfl, by go_num, by show _ ∧ _; omega, ⟨permIn_trans _ _ _ _ _ HP.out.1 (permIn_mono _ _ _ _ _ _ (Nat.zero_le _) hlt (by have := HN.out; omega) hp1), ?_⟩, hw1⟩
        obtain rfl : b = a + 20 := hA.1
        exact .step (HP.out.2.congr fun x hx => hp1.2.1 x (.inl hx)) hs1
    · have hltz : ¬ (b : Int) ≤ (n : Int) := by omega
      clear hA
      go_wp2_with fail
      refine (INS.out a n dk wr hdk S1.out (by have := HA.out; omega) (by omega)).mono ?_
      rintro e w1 ⟨rfl, d1, hp1, hs1, hw1⟩
      have HD1 : Hid (PermIn 0 n d0 d1 ∧ Srt.RunsTo (ltOf cf) 20 d1 n 0) := by
        have hA := HA.out
        refine ⟨permIn_trans _ _ _ _ _ HP.out.1 (permIn_mono _ _ _ _ _ _ (Nat.zero_le _) (Nat.le_refl _) (by have := HN.out; omega) hp1), ?_⟩
        exact (HP.out.2.congr fun x hx => hp1.2.1 x (.inl hx)).le_to (.last hA.2.1 (by omega) hs1) hA.2.1
      have S2 : Aside (SWK pairCells 2 w0 blk off d1 w1) := hw1
      clear hp1 hs1 hw1 HP HA S1 hdk
      generalize w1 = wq at *
      go_wp2_with fail
      go_loopg [6, 7, 8, 9] (n + 1) (fun h s6 s7 s8 s9 wr => ∃ (bs : Nat) (dk : Array (Int × Int)), s6 = .int .i64 bs ∧ Hid (0 < bs ∧ n < bs + h) ∧ Hid (PermIn 0 n d0 dk ∧ Srt.RunsTo (ltOf cf) bs dk n 0) ∧ Aside (SWK pairCells 2 w0 blk off dk wr))
      case atStart => exact ⟨20, d1, rfl, by show _ ∧ _; omega, HD1.out, S2⟩
      case round =>
        clear S2 HD1
        obtain ⟨bs, dk, rfl, HB, HP, S1⟩ := hrel
        by_cases hlt : bs < n
        · have hltz : (bs : Int) < (n : Int) := by omega
          generalize wr = wq at *
          go_wp2_with fail
          go_loopg [7, 8] (n + 1) (fun h s7 s8 wr => ∃ (a b : Nat) (dj : Array (Int × Int)), s7 = .int .i64 a ∧ s8 = .int .i64 b ∧ Hid (b = a + 2 * bs ∧ a ≤ n ∧ n < a + h) ∧ Hid (PermIn 0 n d0 dj ∧ Srt.RunsFrom (ltOf cf) (2 * bs) dj a ∧ Srt.RunsTo (ltOf cf) bs dj n a) ∧ Aside (SWK pairCells 2 w0 blk off dj wr))
          case atStart => exact ⟨0, 2 * bs, dk, rfl, by go_num, by show _ ∧ _; omega, ⟨HP.out.1, .zero, HP.out.2⟩, S1⟩
          case round =>
            clear S1
            obtain ⟨a, b, dj, rfl, rfl, HA, HJ, S2⟩ := hrel
            have hA := HA.out
            have hB := HB.out
            have ha9 : a < 2305843009213693952 := by omega
            have hb9 : bs < 2305843009213693952 := by omega
            have hdj : dj.size = n := HJ.out.1.1.trans HN.out.symm
            by_cases hlt2 : b ≤ n
            · have hltz2 : (b : Int) ≤ (n : Int) := by omega
              clear hA hB
              go_wp2_with fail
              obtain ⟨k1, k2⟩ := HJ.out.2.2.inv (by have := HA.out; omega)
              obtain ⟨k3, k4⟩ := k2.inv (by have := HA.out; omega)
              have K4 : Hid (Srt.RunsTo (ltOf cf) bs dj n (a + bs + bs)) := k4
              refine (SY.out a (a + bs) b rfl (by omega) rfl dj wr hdj S2.out (by have := HB.out; omega) (by have := HB.out; have := HA.out; omega) (by omega) k1 (by have := HA.out; rw [show b = a + bs + bs by omega]; exact k3)).mono ?_
              clear k1 k2 k3 k4
              rintro e w1 ⟨rfl, d2, hp2, hs2, hw2⟩
              go_wp2_with fail
              go_roundg (n - a - 2 * bs + 1)
              case measure => have := HA.out; have := HB.out; omega
              case rel =>
                have hA := HA.out
                refine ⟨b, b + 2 * bs, d2, rfl, by go_num, by show _ ∧ _; omega, ⟨permIn_trans _ _ _ _ _ HJ.out.1 (permIn_mono _ _ _ _ _ _ (Nat.zero_le _) hlt2 (by have := HN.out; omega) hp2), ?_, ?_⟩, hw2⟩
                · obtain rfl : b = a + 2 * bs := hA.1
                  exact .step (HJ.out.2.1.congr fun x hx => hp2.2.1 x (.inl hx)) hs2
                · obtain rfl : b = a + bs + bs := by omega
                  exact K4.out.congr fun x hx => hp2.2.1 x (.inr hx)
            · have hltz2 : ¬ (b : Int) ≤ (n : Int) := by omega
              clear hA hB
              by_cases hm : a + bs < n
              · have hmz : (a : Int) + (bs : Int) < (n : Int) := by omega
                go_wp2_with fail
                obtain ⟨k1, k2⟩ := HJ.out.2.2.inv (by omega)
                have k3 := k2.end_ (by have := HA.out; omega)
                refine (SY.out a (a + bs) n rfl (by omega) rfl dj wr hdj S2.out (by have := HB.out; omega) hm (by omega) k1 k3).mono ?_
                clear k1 k2 k3
                rintro e w1 ⟨rfl, d2, hp2, hs2, hw2⟩
                go_wp2_with fail
                go_roundg (n - 2 * bs + 1)
                case measure => have := HB.out; omega
                case rel =>
                  have hA := HA.out
                  have hB := HB.out
                  refine ⟨bs * 2, d2, by go_num, by show _ ∧ _; omega, ⟨permIn_trans _ _ _ _ _ HJ.out.1 (permIn_mono _ _ _ _ _ _ (Nat.zero_le _) (Nat.le_refl _) (by have := HN.out; omega) hp2), ?_⟩, hw2⟩
                  rw [Nat.mul_comm bs 2]
                  exact (HJ.out.2.1.congr fun x hx => hp2.2.1 x (.inl hx)).le_to (.last hA.2.1 (by omega) hs2) hA.2.1
              · have hmz : ¬ (a : Int) + (bs : Int) < (n : Int) := by omega
                go_wp2_with fail
                go_roundg (n - 2 * bs + 1)
                case measure => have := HB.out; omega
                case rel =>
                  have hA := HA.out
                  have hB := HB.out
                  refine ⟨bs * 2, dj, by go_num, by show _ ∧ _; omega, ⟨HJ.out.1, ?_⟩, S2⟩
                  rw [Nat.mul_comm bs 2]
                  exact HJ.out.2.1.le_to (.last hA.2.1 (by omega) (HJ.out.2.2.end_ (by omega))) hA.2.1
        · have hltz : ¬ (bs : Int) < (n : Int) := by omega
          go_wp2_with fail
          go_end0
          exact ⟨rfl, dk, HP.out.1, HP.out.2.end_ (by omega), S1.out⟩
set_option maxHeartbeats 2000000 in
/-- slices.SortStableFunc: a sorted permutation. -/
theorem sortStable_run (blk off cap g : Nat) (cb : Array Value) (cf : Int × Int → Int × Int → Int) (d0 : Array (Int × Int)) (w0 : World) (R : RowK pairCells 2 w0 blk off d0) (O : OrdK cf g cb blk off d0.size w0) (hsz : d0.size < 2305843009213693952) :
    Calls Try.prog 31 #[.slice (some ⟨blk, off, none⟩) d0.size cap, .func (.func g) #[] cb] w0 fun e w' => e = .returned (.tuple #[]) ∧ ∃ d', PermIn 0 d0.size d0 d' ∧ SortedIn (ltOf cf) 0 d0.size d' ∧ SWK pairCells 2 w0 blk off d' w' := by
  have H := Lib.hid (stable_run blk off cap g cb cf d0 w0 R O hsz)
  go_enter Try.func31, Try.ntmps31
  go_wp2_with fail
  refine H.out.mono ?_
  rintro e w1 ⟨rfl, h⟩
  go_wp2_with fail
  go_end0
  exact ⟨rfl, h⟩
set_option maxHeartbeats 4000000 in
/-- .. of no element, whatever the slice. -/
theorem sortStable_none (A : Option Addr) (cap : Nat) (fv : Value) (w : World) :
    Calls Try.prog 31 #[.slice A 0 cap, fv] w fun e w' => e = .returned (.tuple #[]) ∧ w = w' := by
  go_enter Try.func31, Try.ntmps31
  go_wp2
  refine wp_loop_rounds 1 ?_
  rw [rounds_succ]
  go_wp2
  refine wp_loop_rounds 1 ?_
  rw [rounds_succ]
  go_wp2
  go_end0
  go_wp2
  refine wp_loop_rounds 1 ?_
  rw [rounds_succ]
  go_wp2
  go_end0
  go_wp2
  go_end0
  exact ⟨rfl, rfl⟩
end Go.Proofs.Ytnbnohphdehfoaa
