/-
  slices.symMergeCmpFunc whole, at a slice of structs of two int's.
-/
import Derived.Test.YtnbnohphdehfoaaSrtSym
namespace Go.Proofs.Ytnbnohphdehfoaa
open Go.Shelf Go.RowKit Go.Lib Go.Sort

set_option maxHeartbeats 8000000 in
set_option maxRecDepth 1000000 in
theorem symMerge_all (blk off cap g : Nat) (cb : Array Value) (cf : Int × Int → Int × Int → Int) (d0 : Array (Int × Int)) (w0 : World) (R : RowK pairCells 2 w0 blk off d0) (O : OrdK cf g cb blk off d0.size w0) (hsz : d0.size < 4611686018427387904) :
    ∀ (N : Nat) (a m b : Nat) (d : Array (Int × Int)) (w : World), b - a < N → d.size = d0.size → SWK pairCells 2 w0 blk off d w → a < m → m < b → b ≤ d0.size → SortedIn (ltOf cf) a m d → SortedIn (ltOf cf) m b d →
    Calls Try.prog 37 #[.slice (some ⟨blk, off, none⟩) d0.size cap, .int .i64 a, .int .i64 m, .int .i64 b, .func (.func g) #[] cb] w fun e w' => e = .returned (.tuple #[]) ∧ ∃ d', PermIn a b d d' ∧ SortedIn (ltOf cf) a b d' ∧ SWK pairCells 2 w0 blk off d' w' := by
  have mixed := mixedA
  have eg := O.eg
  intro N
  induction N with
  | zero => intro _ _ _ _ _ h; exact absurd h (Nat.not_lt_zero _)
  | succ N ih =>
    intro a m b d w hN hds S ham hmb hb h1 h2
    by_cases c1 : m - a = 1
    · exact sym_left blk off cap g cb cf d0 w0 R O hsz a m b d w c1 hds S ham hmb hb h1 h2
    by_cases c2 : b - m = 1
    · exact sym_right blk off cap g cb cf d0 w0 R O hsz a m b d w c1 c2 hds S ham hmb hb h1 h2
    have IH := Lib.hid ih
    have H1 := Lib.hid h1
    have H2 := Lib.hid h2
    have S0 : Aside (SWK pairCells 2 w0 blk off d w) := S
    clear S ih h1 h2
    have c1z : ((m : Int) - (a : Int) == 1) = false := by simp; omega
    have c2z : ((b : Int) - (m : Int) == 1) = false := by simp; omega
    obtain ⟨mid, hmid⟩ : ∃ mid, mid = (a + b) / 2 := ⟨_, rfl⟩
    have emid : ((a : Int) + (b : Int)) / 2 = (mid : Int) := by omega
    obtain ⟨n, hn⟩ : ∃ n, n = mid + m := ⟨_, rfl⟩
    have en : (mid : Int) + (m : Int) = (n : Int) := by omega
    obtain ⟨p, hp⟩ : ∃ p, n = p + 1 := ⟨n - 1, by omega⟩
    have ep : (n : Int) - 1 = (p : Int) := by omega
    obtain ⟨lo, hlo⟩ : ∃ lo, lo = if mid < m then n - b else a := ⟨_, rfl⟩
    obtain ⟨hi, hhi⟩ : ∃ hi, hi = if mid < m then mid else m := ⟨_, rfl⟩
    have elo : mid < m → (n : Int) - (b : Int) = (lo : Int) := fun h => by rw [if_pos h] at hlo; omega
    have G : Hid (a ≤ lo ∧ lo ≤ hi ∧ hi ≤ m ∧ n - lo ≤ b ∧ m ≤ n - hi ∧ hi ≤ n ∧ (lo = a ∨ n - lo = b) ∧ (hi = m ∨ n - hi = m) ∧ hi ≤ mid ∧ n = mid + m ∧ a < mid ∧ mid < b) := by
      show _ ∧ _
      by_cases h : mid < m
      · rw [if_pos h] at hlo hhi; omega
      · rw [if_neg h] at hlo hhi; omega
    have ELO : Hid _ := elo
    have HLO := Lib.hid hlo
    have HHI := Lib.hid hhi
    have hbs : mid < 4611686018427387904 := by omega
    have hns : n < 9223372036854775807 := by omega
    have HPn := Lib.hid hp
    clear hmid hn elo hlo hhi hp
    go_enter Try.func37, Try.ntmps37
    go_upto_if 140 with fail
    go_cut [20, 21] (fun s20 s21 wx => s20 = .int .i64 lo ∧ s21 = .int .i64 hi ∧ w = wx)
    case first => as_aux_lemma =>
      by_cases h : mid < m
      · have hz : (mid : Int) < (m : Int) := by omega
        have elo := ELO.out h
        have ehi : hi = mid := by have := HHI.out; rwa [if_pos h] at this
        go_wp2_with fail
        go_meet
        case rel => exact ⟨rfl, by rw [ehi], rfl⟩
      · have hz : ¬ (mid : Int) < (m : Int) := by omega
        have elo : lo = a := by have := HLO.out; rwa [if_neg h] at this
        have ehi : hi = m := by have := HHI.out; rwa [if_neg h] at this
        go_wp2_with fail
        go_meet
        case rel => exact ⟨by rw [elo], by rw [ehi], rfl⟩
    case rest => as_aux_lemma =>
      obtain ⟨rfl, rfl, rfl⟩ := hcut
      clear ELO HLO HHI
      go_wp2_with fail
      go_loopg [20, 21] (hi - lo + 1) (fun h s20 s21 wr => ∃ (i j : Nat), s20 = .int .i64 i ∧ s21 = .int .i64 j ∧ Hid (lo ≤ i ∧ i ≤ j ∧ j ≤ hi) ∧ Hid (j - i < h) ∧ Aside (i = lo ∨ ltOf cf d[n - i]! d[i - 1]! = false) ∧ Aside (j = hi ∨ ltOf cf d[n - j - 1]! d[j]! = true) ∧ Aside (SWK pairCells 2 w0 blk off d wr))
      case atStart => exact ⟨lo, hi, rfl, rfl, ⟨Nat.le_refl _, G.out.2.1, Nat.le_refl _⟩, by show _ < _; omega, .inl rfl, .inl rfl, S0⟩
      case round =>
        clear S0
        obtain ⟨i, j, rfl, rfl, HIJ, hh, A1, A2, S1⟩ := hrel
        obtain ⟨g1, g2, g3, g4, g5, g6, g7, g8, g9, g10, g11, g12⟩ := G.out
        obtain ⟨i1, i2, i3⟩ := HIJ.out
        have hpn := HPn.out
        by_cases hlt : i < j
        · have hltz : (i : Int) < (j : Int) := by omega
          obtain ⟨t, ht⟩ : ∃ t, t = (i + j) / 2 := ⟨_, rfl⟩
          have et : ((i : Int) + (j : Int)) / 2 = (t : Int) := by omega
          have ht1 : i ≤ t := by omega
          have ht2 : t < j := by omega
          obtain ⟨u, hu⟩ : ∃ u, p = t + u := ⟨p - t, by omega⟩
          have ru : IntKind.i64.wrap ((p : Int) - (t : Int)) = (u : Int) := by rw [IntKind.wrap_i64]; omega
          have hts : t < d0.size := by omega
          have has : u < d0.size := by omega
          obtain ⟨l1, l2, l3, l4, hc⟩ := swk_test O R S1.out hds (show u < d.size by omega) (show t < d.size by omega)
          have CLS := fun n os => S1.out.grown n os
          obtain ⟨r, hr⟩ : ∃ r, r = cf d[u]! d[t]! := ⟨_, rfl⟩
          have RR : Hid (r = cf d[n - (t + 1)]! d[t]! ∧ r = cf d[n - t - 1]! d[t]!) := by
            show _ ∧ _
            rw [hr, show n - (t + 1) = u by omega, show n - t - 1 = u by omega]
            exact ⟨rfl, rfl⟩
          have HIT : Hid (lo ≤ i ∧ i ≤ t ∧ t < j ∧ j ≤ hi) := ⟨i1, ht1, ht2, i3⟩
          rw [← hr] at hc
          generalize d[u]!.1 = x1 at l1 hc
          generalize d[u]!.2 = x2 at l2 hc
          generalize d[t]!.1 = y1 at l3 hc
          generalize d[t]!.2 = y2 at l4 hc
          have CL : Aside _ := CLS
          clear ht hr CLS S1 hu g1 g2 g3 g4 g5 g6 g7 g8 g9 g10 g11 g12 i1 i2 i3 hpn
          by_cases hv : r < 0
          · have hd : decide (r < 0) = true := decide_eq_true hv
            go_wp2_with fail
            go_quiet_grown (first | (go_at_fn g; refine Calls.grown_of (hc _ _)))
            go_wp2_with fail
            go_roundg (t - i + 1)
            case measure => have := hh.out; omega
            case rel => exact ⟨i, t, rfl, rfl, by show _ ∧ _; have := HIT.out; omega, by show _ < _; omega, A1, .inr (lt_true.2 (by have := RR.out.2; omega)), CL.out _ _⟩
          · have hd : decide (r < 0) = false := decide_eq_false hv
            go_wp2_with fail
            go_quiet_grown (first | (go_at_fn g; refine Calls.grown_of (hc _ _)))
            go_wp2_with fail
            go_roundg (j - (t + 1) + 1)
            case measure => have := hh.out; omega
            case rel => exact ⟨t + 1, j, by go_num, rfl, by show _ ∧ _; have := HIT.out; omega, by show _ < _; omega, .inr (by rw [Nat.add_sub_cancel]; exact lt_false.2 (by have := RR.out.1; omega)), A2, CL.out _ _⟩
        · obtain rfl : i = j := by omega
          clear hh
          have S2 : Aside (SWK pairCells 2 w0 blk off d wr) := S1
          clear S1
          obtain ⟨e, he⟩ : ∃ e, n = i + e := ⟨n - i, by omega⟩
          have ee : (n : Int) - (i : Int) = (e : Int) := by omega
          have C : Hid (a ≤ i ∧ i ≤ m ∧ m ≤ e ∧ e ≤ b ∧ i + (e - m) = mid ∧ a < mid ∧ mid < b) := by show _ ∧ _; omega
          have C1 : Hid (i = m ∨ e = m ∨ ltOf cf d[e - 1]! d[i]! = true) := by
            show _ ∨ _
            rcases A2.out with h | h
            · omega
            · rw [show n - i - 1 = e - 1 by omega] at h
              exact .inr (.inr h)
          have C2 : Hid (i = a ∨ e = b ∨ ltOf cf d[e]! d[i - 1]! = false) := by
            show _ ∨ _
            rcases A1.out with h | h
            · omega
            · rw [show n - i = e by omega] at h
              exact .inr (.inr h)
          clear A1 A2 HIJ G HPn he g1 g2 g3 g4 g5 g6 g7 g8 g9 g10 g11 g12 i1 i2 i3 hpn ep en emid
          generalize wr = wq at *
          obtain ⟨rb, hrb⟩ : ∃ rb, rb = decide (i < m ∧ m < e) := ⟨_, rfl⟩
          have HRB := Lib.hid hrb
          clear hrb
          go_upto_region 39 with fail
          go_cut [185] (fun c wx => c = .bool rb ∧ wq = wx)
          case first => as_aux_lemma =>
            by_cases h3 : i < m
            · by_cases h4 : m < e
              · have h3z : (i : Int) < (m : Int) := by omega
                have h4z : (m : Int) < (e : Int) := by omega
                go_wp2_with fail
                go_meet
                case rel => exact ⟨by rw [HRB.out]; simp [h3, h4], rfl⟩
              · have h3z : (i : Int) < (m : Int) := by omega
                have h4z : ¬ (m : Int) < (e : Int) := by omega
                go_wp2_with fail
                go_meet
                case rel => exact ⟨by rw [HRB.out]; simp [h3, h4], rfl⟩
            · have h3z : decide ((i : Int) < (m : Int)) = false := by simp; omega
              go_wp2_with fail
              go_meet
              case rel => exact ⟨by rw [HRB.out]; simp [h3], rfl⟩
          case rest => as_aux_lemma =>
            obtain ⟨rfl, rfl⟩ := hcut
            go_upto_if 185 with fail
            go_cut [24] (fun s24 wx => s24 = .int .i64 e ∧ ∃ d1, Hid (Srt.IsRot d d1 i (m - i) (e - m)) ∧ Aside (SWK pairCells 2 w0 blk off d1 wx))
            case first => as_aux_lemma =>
              by_cases hR : i < m ∧ m < e
              · obtain rfl : rb = true := by rw [HRB.out]; exact decide_eq_true hR
                clear HRB
                go_wp2_with fail
                refine (rotate_run blk off cap i m e rfl rfl rfl d0 d _ _ _ _ hds.symm R hds.symm S2.out hR.1 hR.2 (by have := C.out; omega) (by omega)).mono ?_
                rintro ex w1 ⟨rfl, d1, hr1, hw1⟩
                go_wp2_with fail
                go_meet
                case rel => exact ⟨rfl, d1, hr1, hw1⟩
              · obtain rfl : rb = false := by rw [HRB.out]; exact decide_eq_false hR
                clear HRB
                go_wp2_with fail
                go_meet
                case rel =>
                  refine ⟨rfl, d, ?_, S2⟩
                  show Srt.IsRot _ _ _ _ _
                  have := C.out
                  rcases Nat.lt_or_ge i m with h | h
                  · rw [show e - m = 0 by omega]; exact Srt.isRot_none d i _
                  · rw [show m - i = 0 by omega]; exact Srt.isRot_none' d i _
            case rest => as_aux_lemma =>
              obtain ⟨rfl, d1, HR1, S3⟩ := hcut
              clear S2 HRB
              have hd1 : d1.size = d0.size := HR1.out.1.trans hds
              have K : Hid _ := Srt.cut O.swo H1.out H2.out C.out.1 C.out.2.1 C.out.2.2.1 C.out.2.2.2.1 C1.out C2.out HR1.out
              have P1 : Hid (PermIn a b d d1) := permIn_mono _ _ _ _ _ _ C.out.1 (by have := C.out; omega) (by omega) HR1.out.2.1
              rw [C.out.2.2.2.2.1] at K
              clear C1 C2 H1 H2 HR1
              obtain ⟨ra, hra⟩ : ∃ rb, rb = decide (a < i ∧ i < mid) := ⟨_, rfl⟩
              have HRA := Lib.hid hra
              clear hra
              go_upto_region 41 with fail
              go_cut [199] (fun c wx => c = .bool ra ∧ wc = wx)
              case first => as_aux_lemma =>
                by_cases h3 : a < i
                · by_cases h4 : i < mid
                  · have h3z : (a : Int) < (i : Int) := by omega
                    have h4z : (i : Int) < (mid : Int) := by omega
                    go_wp2_with fail
                    go_meet
                    case rel => exact ⟨by rw [HRA.out]; simp [h3, h4], rfl⟩
                  · have h3z : (a : Int) < (i : Int) := by omega
                    have h4z : ¬ (i : Int) < (mid : Int) := by omega
                    go_wp2_with fail
                    go_meet
                    case rel => exact ⟨by rw [HRA.out]; simp [h3, h4], rfl⟩
                · have h3z : decide ((a : Int) < (i : Int)) = false := by simp; omega
                  go_wp2_with fail
                  go_meet
                  case rel => exact ⟨by rw [HRA.out]; simp [h3], rfl⟩
              case rest => as_aux_lemma =>
                obtain ⟨rfl, rfl⟩ := hcut
                go_upto_if 199 with fail
                go_cut [24] (fun s24 wx => s24 = .int .i64 e ∧ ∃ d2, Hid (PermIn a mid d1 d2 ∧ SortedIn (ltOf cf) a mid d2) ∧ Aside (SWK pairCells 2 w0 blk off d2 wx))
                case first => as_aux_lemma =>
                  by_cases hR : a < i ∧ i < mid
                  · obtain rfl : ra = true := by rw [HRA.out]; exact decide_eq_true hR
                    clear HRA
                    go_wp2_with fail
                    refine (IH.out a i mid d1 _ (by have := C.out; omega) hd1 S3.out hR.1 hR.2 (by have := C.out; omega) K.out.1 K.out.2.1).mono ?_
                    rintro ex w1 ⟨rfl, d2, hp2, hs2, hw1⟩
                    go_wp2_with fail
                    go_meet
                    case rel => exact ⟨rfl, d2, ⟨hp2, hs2⟩, hw1⟩
                  · obtain rfl : ra = false := by rw [HRA.out]; exact decide_eq_false hR
                    clear HRA
                    go_wp2_with fail
                    go_meet
                    case rel =>
                      refine ⟨rfl, d1, ⟨permIn_refl _ _ _, ?_⟩, S3⟩
                      have c' := C.out
                      have k' := K.out
                      rcases Nat.lt_or_ge a i with h | h
                      · obtain rfl : i = mid := by omega
                        exact k'.1
                      · obtain rfl : i = a := by omega
                        exact k'.2.1
                case rest => as_aux_lemma =>
                  obtain ⟨rfl, d2, HP2, S4⟩ := hcut
                  clear S3 HRA
                  have hd2 : d2.size = d0.size := HP2.out.1.1.trans hd1
                  have K3 : Hid (SortedIn (ltOf cf) mid e d2 ∧ SortedIn (ltOf cf) e b d2) := by
                    have c' := C.out
                    exact ⟨Srt.sorted_congr K.out.2.2.1 fun x hx _ => HP2.out.1.2.1 x (.inr hx), Srt.sorted_congr K.out.2.2.2.1 fun x hx _ => HP2.out.1.2.1 x (.inr (by omega))⟩
                  have F : Hid (∀ d3, PermIn mid b d2 d3 → SortedIn (ltOf cf) mid b d3 → PermIn a b d d3 ∧ SortedIn (ltOf cf) a b d3) := by
                    show ∀ _, _
                    intro d3 hp3 hs3
                    have c' := C.out
                    obtain ⟨q1, q2⟩ := Srt.halves (show a ≤ mid by omega) (show mid ≤ b by omega) (by omega) K.out.2.2.2.2 HP2.out.1 HP2.out.2 hp3 hs3
                    exact ⟨permIn_trans _ _ _ _ _ P1.out q1, q2⟩
                  clear P1 K HP2
                  by_cases h3 : mid < e
                  · by_cases h4 : e < b
                    · have h3z : (mid : Int) < (e : Int) := by omega
                      have h4z : (e : Int) < (b : Int) := by omega
                      go_wp2_with fail
                      refine (IH.out mid e b d2 _ (by have := C.out; omega) hd2 S4.out h3 h4 hb K3.out.1 K3.out.2).mono ?_
                      rintro ex w1 ⟨rfl, d3, hp3, hs3, hw1⟩
                      go_wp2_with fail
                      go_end0
                      obtain ⟨q1, q2⟩ := F.out d3 hp3 hs3
                      exact ⟨rfl, d3, q1, q2, hw1⟩
                    · have h3z : (mid : Int) < (e : Int) := by omega
                      have h4z : ¬ (e : Int) < (b : Int) := by omega
                      go_wp2_with fail
                      go_end0
                      obtain rfl : e = b := by have := C.out; omega
                      obtain ⟨q1, q2⟩ := F.out d2 (permIn_refl _ _ _) K3.out.1
                      exact ⟨rfl, d2, q1, q2, S4.out⟩
                  · have h3z : decide ((mid : Int) < (e : Int)) = false := by simp; omega
                    go_wp2_with fail
                    go_end0
                    obtain rfl : e = mid := by have := C.out; omega
                    obtain ⟨q1, q2⟩ := F.out d2 (permIn_refl _ _ _) K3.out.2
                    exact ⟨rfl, d2, q1, q2, S4.out⟩
end Go.Proofs.Ytnbnohphdehfoaa
