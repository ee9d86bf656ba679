/-
  The contracts of Check and check.
-/
import Derived.Test.YtkgaaabecdbidaaDoorMx04
import Derived.Test.YtkgaaabecdbidaaDoorMx07
import Derived.Deep.RegionHeld3
import Derived.Test.YtkgaaabecdbidaaDoorMx05
import Derived.Lib.ItoaNum
import Derived.Test.YtkgaaabecdbidaaDoorMx02
import Derived.Laws.ResultCell
import Derived.Test.YtkgaaabecdbidaaDoorMx01
namespace Go.Proofs.YtkgaaabecdbidaaDoor
open Go.RowKit
set_option linter.unusedSimpArgs false
set_option linter.unusedVariables false
structure CSt (S : Nat) (A : Option Addr) (n cap : Nat) (T : List Nd) (w V : World) : Prop where
 e0 : V.cell? ⟨S, 0, none⟩ = some (.slice A n cap)
 tree : TreeAt V A n T
 bel : Below S w V
 lt : S < V.heap.size
theorem CSt.on {S : Nat} {A : Option Addr} {n cap : Nat} {T : List Nd} {w V V' : World} (h : CSt S A n cap T w V) (hb : Below V.heap.size V V') : CSt S A n cap T w V' := by
 have h1 := h.lt
 have h2 := hb.size
 exact ⟨(hb.cell (p := ⟨S, 0, none⟩) h1).trans h.e0, h.tree.below hb, h.bel.trans (hb.mono (by omega)), by omega⟩
theorem CSt.start {A : Option Addr} {n cap : Nat} {T : List Nd} {w V : World} (h : TreeAt w A n T) (TT : TypeId) (hV : w.alloc (.cells #[.slice A n cap] TT) = V) : CSt w.heap.size A n cap T w V := by
 subst hV
 exact ⟨by simp, h.below ((Below.refl _ _).alloc (Nat.le_refl _) _), (Below.refl _ _).alloc (Nat.le_refl _) _, by simp⟩
theorem one_kids (T : List Nd) (i : Nat) (m : Int) : oneB T i m = (numOk (nd T i) m && kidsF T i (nd T i).t (nd T i).kids (nd T i).f) := by
 unfold oneB kidsF
 rw [Bool.and_assoc]
set_option maxHeartbeats 16000000 in
set_option maxRecDepth 100000 in
theorem Check_runT : SaysCheck := by
  intro A n cap m T w h
  have hl := Lib.hid h.len
  have hn40 := h.small.1
  rw [hl.out] at hn40
  obtain ⟨S, hS⟩ : ∃ S, w.heap.size = S := ⟨_, rfl⟩
  obtain ⟨W, hW⟩ : ∃ W, w.alloc (.cells #[.slice A n cap] 24) = W := ⟨_, rfl⟩
  have hC0 := CSt.start (cap := cap) h 24 hW
  unfold trV
  rw [hS] at hC0 ⊢
  have C0 := Lib.hid hC0
  have d0 := hC0.e0
  clear h hC0
  by_cases hn0 : n = 0
  · subst hn0
    have h0 : trErr (chkT T m) = .iface 51 (.int .i64 7) := by unfold chkT; rw [if_pos hl.out]; rfl
    rw [h0]
    clear h0
    go_enter Tryd.func8, Tryd.ntmps8
    go_wp2_with fail
    go_ret
    exact ⟨rfl, C0.out.bel⟩
  · have hCe : Hid (chkT T m = _) := chk_eq (by have := hl.out; omega)
    rw [hl.out] at hCe
    have hnz : ((n : Int) == 0) = false := by simp; omega
    go_enter Tryd.func8, Tryd.ntmps8
    go_wp2_with fail
    clear d0
    go_loopg [17] (n + 1) (fun h s17 wr => ∃ i : Nat, s17 = .int .i64 i ∧ Hid (i ≤ n ∧ i + h = n + 1) ∧ Hid (firstBad (fun i => oneB T i m) n 0 = firstBad (fun i => oneB T i m) (n - i) i) ∧ Hid (CSt S A n cap T w wr))
    case atStart => exact ⟨0, rfl, by show _ ∧ _; omega, rfl, C0.out⟩
    case round =>
      clear C0
      obtain ⟨i, rfl, HI, HF, C1⟩ := hrel
      generalize wr = w1 at *
      have d0 := C1.out.e0
      by_cases hi : i < n
      · have hiz : (i : Int) < (n : Int) := by omega
        obtain ⟨b, o, rfl, hbB, hget⟩ := C1.out.tree.at_.get (by have := hl.out; omega)
        obtain ⟨K, q, c, c0, c1, c2, c3, hrest⟩ := hget i _ (at_nd (by have := hl.out; omega))
        clear hrest
        have HO := Lib.hid (one_kids T i m)
        have HNM := Lib.hid (fun V v hv => numbers_run (nd T i) K q c m V v hv)
        have HKD := Lib.hid (fun V (hV : TreeAt V (some ⟨b, o, none⟩) n T) v hv => kids_run (some ⟨b, o, none⟩) n cap i T V hV hi v hv)
        obtain ⟨v1, hv1⟩ : ∃ v, numOk (nd T i) m = v := ⟨_, rfl⟩
        obtain ⟨v2, hv2⟩ : ∃ v, kidsF T i (nd T i).t (nd T i).kids (nd T i).f = v := ⟨_, rfl⟩
        rw [hv1, hv2] at HO
        have HNM := Lib.hid (fun V => HNM.out V v1 hv1)
        have HKD := Lib.hid (fun V hV => HKD.out V hV v2 hv2)
        have hfs : n - i = n - (i + 1) + 1 := by omega
        have HFS := Lib.hid hfs
        clear hget hv1 hv2 hfs
        generalize nd T i = x at *
        obtain ⟨w2, hw2⟩ : ∃ V, w1.alloc (.cells #[.int .i64 x.k, .int .i64 x.f, .int .i64 x.t, .slice K q c] 33) = V := ⟨_, rfl⟩
        have C2 : Hid (CSt S (some ⟨b, o, none⟩) n cap T w w2) := by rw [← hw2]; exact C1.out.on ((Below.refl _ _).alloc (Nat.le_refl _) _)
        have n0 : w2.cell? ⟨w1.heap.size, 0, none⟩ = some (.int .i64 x.k) := by rw [← hw2]; simp
        have n1 : w2.cell? ⟨w1.heap.size, 1, none⟩ = some (.int .i64 x.f) := by rw [← hw2]; simp
        have n2 : w2.cell? ⟨w1.heap.size, 2, none⟩ = some (.int .i64 x.t) := by rw [← hw2]; simp
        have n3 : w2.cell? ⟨w1.heap.size, 3, none⟩ = some (.slice K q c) := by rw [← hw2]; simp
        have hbad : oneB T i m = false → trErr (chkT T m) = trErr (8, (i : Int)) := fun hv => by
          rw [hCe.out, HF.out, HFS.out, firstBad_hit hv, hit_some]
        have HBAD := Lib.hid hbad
        clear hbad C1
        cases v1 with
        | false =>
          have he := HBAD.out (by rw [HO.out]; rfl)
          have HE := Lib.hid he
          clear he HF hCe HBAD HO
          go_wp2_with fail
          refine (HNM.out w2).mono ?_
          rintro e w3 ⟨rfl, hw3⟩
          have C3 := Lib.hid (C2.out.on hw3)
          clear hw3 C2 n0 n1 n2 n3 hw2 HKD HNM
          go_wp2_with fail
          refine (malformed_run i w3).mono ?_
          rintro e w4 ⟨rfl, rfl⟩
          go_wp2_with fail
          go_ret
          exact ⟨by rw [HE.out]; rfl, C3.out.bel⟩
        | true =>
          cases v2 with
          | false =>
            have he := HBAD.out (by rw [HO.out]; rfl)
            have HE := Lib.hid he
            clear he HF hCe HBAD HO
            go_wp2_with fail
            refine (HNM.out w2).mono ?_
            rintro e w3 ⟨rfl, hw3⟩
            have C3 := Lib.hid (C2.out.on hw3)
            have d3 := C3.out.e0
            clear hw3 C2 n0 n1 n2 n3 hw2 HNM
            go_wp2_with fail
            refine (HKD.out w3 C3.out.tree).mono ?_
            rintro e w4 ⟨rfl, hw4⟩
            have C4 := Lib.hid (C3.out.on hw4)
            clear hw4 C3 d3 HKD
            go_wp2_with fail
            refine (malformed_run i w4).mono ?_
            rintro e w5 ⟨rfl, rfl⟩
            go_wp2_with fail
            go_ret
            exact ⟨by rw [HE.out]; rfl, C4.out.bel⟩
          | true =>
            have HF2 : Hid (firstBad (fun i => oneB T i m) n 0 = firstBad (fun i => oneB T i m) (n - (i + 1)) (i + 1)) := by show _ = _; rw [HF.out, HFS.out, firstBad_step (by rw [HO.out]; rfl)]
            clear HF HBAD HO
            go_wp2_with fail
            refine (HNM.out w2).mono ?_
            rintro e w3 ⟨rfl, hw3⟩
            have C3 := Lib.hid (C2.out.on hw3)
            have d3 := C3.out.e0
            clear hw3 C2 n0 n1 n2 n3 hw2 HNM
            go_wp2_with fail
            refine (HKD.out w3 C3.out.tree).mono ?_
            rintro e w4 ⟨rfl, hw4⟩
            have C4 := Lib.hid (C3.out.on hw4)
            clear hw4 C3 d3 HKD
            go_wp2_with fail
            go_roundg (n - i)
            case measure => have := HI.out; omega
            case rel => exact ⟨i + 1, by go_num, by show _ ∧ _; have := HI.out; omega, HF2.out, C4.out⟩
      · have hiz : ¬ (i : Int) < (n : Int) := by omega
        obtain rfl : i = n := by have := HI.out; omega
        have h1 : firstBad (fun j => oneB T j m) i 0 = none := by rw [HF.out, Nat.sub_self]; rfl
        have hC2 : Hid (chkT T m = hitT (firstBad (fun j => decide (parN T j = 1)) (i - 1) 0) (0, -1)) := by show _ = _; rw [hCe.out, h1, hit_none]
        have hkk : Hid (∀ j, j < i → ∀ c ∈ (nd T j).kids, 0 ≤ c ∧ c < (i : Int)) := fun j hj c hc => by
          have hg := firstBad_none h1 j (by omega) (by omega)
          simp only [oneB, Bool.and_eq_true] at hg
          have hkd := hg.1.2
          unfold kidOk at hkd
          have := of_decide_eq_true (List.all_eq_true.1 hkd c hc)
          omega
        have HT := Lib.hid (fun V (hV : TreeAt V A i T) => times_run A i cap T V hV hkk)
        have HRT := Lib.hid (fun V => root_runB A i cap V (by omega) hn40)
        obtain ⟨l, hll⟩ : ∃ l, i - 1 = l := ⟨_, rfl⟩
        rw [hll] at hC2 HRT
        have HL : Hid (i = l + 1) := by show _ = _; omega
        have hli : l ≤ i := by omega
        have hliz : (l : Int) ≤ (i : Int) := by omega
        unfold trV at HT HRT
        have NB : Hid (CSt S A i cap T w w1.drew) := C1.out.on ((Below.refl _ w1).drew)
        clear hCe HF h1 hi hll HI hkk
        go_upto_region 9 with fail
        go_cut [39, 40, 41] (fun s39 s40 s41 wx => ∃ g, s39 = .slice (some ⟨g, 0, none⟩) l i ∧ s40 = .int .i64 l ∧ s41 = .int .i64 0 ∧ Hid (RowI wx S g (parT T i 0)) ∧ Hid (CSt S A i cap T w wx))
        case first =>
          go_region_held3 (fun V => V.cell? ⟨S, 0, none⟩ = some (.slice A i cap)) (first | exact C1.out.e0 | exact NB.out.e0 | go_keep)
            (first | (go_at_call 31; have HXX := HR; clear HXX; refine (HRT.out _).mono ?_; rintro e w7 ⟨rfl, hw7⟩; have HR := Lib.hid (HR.out.below hw7); have NB := Lib.hid (NB.out.on hw7); clear hw7)
                   | (go_at_call 31; refine (HRT.out _).mono ?_; rintro e w7 ⟨rfl, hw7⟩; have NB := Lib.hid (NB.out.on hw7); clear hw7)
                   | (go_at_call 30; refine (HT.out _ NB.out.tree).mono ?_; rintro e w7 ⟨gg, rfl, hrow, hw7⟩; have HR : Hid (RowI w7 S gg (parT T i 0)) := ownK_base hrow (Nat.le_of_lt NB.out.lt); have NB := Lib.hid (NB.out.on hw7); clear hw7 hrow))
          all_goals go_wp2_with fail
          all_goals go_meet
          all_goals exact ⟨_, rfl, rfl, rfl, HR, NB⟩
        case rest =>
          obtain ⟨g, rfl, rfl, rfl, HR, C2⟩ := hcut
          clear NB C1 HT HRT d0
          have HGT := Lib.hid (fun (j : Nat) (hj : j < T.length) => parT_all T hj)
          rw [hl.out] at HGT
          go_wp2_with fail
          go_loopg [41] (l + 1) (fun h s41 wr => ∃ j : Nat, s41 = .int .i64 j ∧ Hid (j ≤ l ∧ j + h = l + 1) ∧ Hid (firstBad (fun j => decide (parN T j = 1)) l 0 = firstBad (fun j => decide (parN T j = 1)) (l - j) j) ∧ wr = wc)
          case atStart => exact ⟨0, rfl, by show _ ∧ _; omega, rfl, rfl⟩
          case round =>
            obtain ⟨j, rfl, HJ, HF, hww⟩ := hrel
            obtain rfl := hww.symm
            by_cases hj : j < l
            · have hjz : (j : Int) < (l : Int) := by omega
              have hfs : l - j = l - (j + 1) + 1 := by omega
              obtain ⟨cell, _⟩ := HR.out.at_ (HGT.out j (by omega))
              obtain ⟨p, hp⟩ : ∃ p, parN T (j : Int) = p := ⟨_, rfl⟩
              rw [hp] at cell
              by_cases hp1 : p = 1
              · subst hp1
                have HF2 : Hid (firstBad (fun j => decide (parN T j = 1)) l 0 = firstBad (fun j => decide (parN T j = 1)) (l - (j + 1)) (j + 1)) := by show _ = _; rw [HF.out, hfs, firstBad_step (decide_eq_true hp)]
                clear HF hfs hp
                go_wp2_with fail
                go_roundg (l - j)
                case measure => have := HJ.out; omega
                case rel => exact ⟨j + 1, by go_num, by show _ ∧ _; have := HJ.out; omega, HF2.out, rfl⟩
              · have h0 : trErr (chkT T m) = trErr (8, (j : Int)) := by
                  rw [hC2.out, HF.out, hfs, firstBad_hit (decide_eq_false (by rw [hp]; exact hp1)), hit_some]
                have HE := Lib.hid h0
                have hpb : ((p : Int) == 1) = false := by simp; omega
                clear h0 HF hp hfs
                go_wp2_with fail
                refine (malformed_run j _).mono ?_
                rintro e w5 ⟨rfl, rfl⟩
                go_wp2_with fail
                go_ret
                exact ⟨by rw [HE.out]; rfl, C2.out.bel⟩
            · have hjz : ¬ (j : Int) < (l : Int) := by omega
              obtain rfl : j = l := by have := HJ.out; omega
              have h0 : trErr (chkT T m) = .nilIface := by
                rw [hC2.out, HF.out, Nat.sub_self]
                rfl
              have HE := Lib.hid h0
              clear h0 HF
              go_wp2_with fail
              go_ret
              exact ⟨by rw [HE.out]; rfl, C2.out.bel⟩
end Go.Proofs.YtkgaaabecdbidaaDoor
namespace Go.Proofs.YtkgaaabecdbidaaDoor
open Go.RowKit
def dg (n i : Nat) : Nat := dig 65536 n i
def nl (n : Nat) : Nat := nlen 65536 n
theorem dg_lt (n i : Nat) : dg n i < 65536 := dig_lt (by decide) n i
theorem lt_nl (n : Nat) : n < 65536 ^ nl n := lt_nlen (by decide) n
theorem nl_zero : nl 0 = 0 := nlen_zero _
theorem nl_eq_zero {n : Nat} : nl n = 0 ↔ n = 0 := nlen_eq_zero (by decide)
theorem nl_le {n k : Nat} (h : n < 65536 ^ k) : nl n ≤ k := nlen_le_of_lt (by decide) h
theorem nl_mono {a b : Nat} (h : a ≤ b) : nl a ≤ nl b := nlen_mono (by decide) h
theorem nl_uniq {n k : Nat} (h : n < 65536 ^ k) (h2 : k ≠ 0 → 65536 ^ (k - 1) ≤ n) : nl n = k := nlen_uniq (by decide) h h2
theorem nl_of_dg {n j : Nat} (h : n < 65536 ^ (j + 1)) (hd : dg n j ≠ 0) : nl n = j + 1 :=
 nl_uniq h fun _ => by
  rcases Nat.lt_or_ge n (65536 ^ j) with h1 | h1
  ·exact absurd (dig_high h1) hd
  ·exact h1
theorem lt_of_dg {n j : Nat} (h : n < 65536 ^ (j + 1)) (hd : dg n j = 0) : n < 65536 ^ j := by
 have h1 : n / 65536 ^ (j + 1) = 0 := Nat.div_eq_of_lt h
 have h2 := div_dig 65536 n j
 rw [h1] at h2
 have h3 : n / 65536 ^ j = 0 := by
  rw [h2]
  show 65536 * 0 + dg n j = 0
  rw [hd]
 rcases Nat.lt_or_ge n (65536 ^ j) with h4 | h4
 ·exact h4
 ·have := Nat.div_pos h4 (Nat.pow_pos (by decide) : 0 < 65536 ^ j)
  omega
theorem fits_dg (n : Nat) : Fits n ↔ n < 65536 ^ 32 := by
 show n < 18446744073709551616 ^ 8 ↔ _
 have : (18446744073709551616 : Nat) ^ 8 = 65536 ^ 32 := by decide
 rw [this]
def qd (q i k : Nat) : Nat := dg q i / 2 ^ k * 2 ^ k
theorem nl_div_le (a b : Nat) : nl (a / b) ≤ nl a := nl_mono (Nat.div_le_self _ _)
end Go.Proofs.YtkgaaabecdbidaaDoor
namespace Go.Proofs.YtkgaaabecdbidaaDoor
def tr (n i : Nat) : Nat := n / 65536 ^ i % 10
theorem tr_start {n L : Nat} (h : nl n ≤ L) : tr n L = 0 := by
 unfold tr
 rw [Nat.div_eq_of_lt (Nat.lt_of_lt_of_le (lt_nl n) (Nat.pow_le_pow_right (by decide) h))]
theorem tr_end (n : Nat) : tr n 0 = n % 10 := by simp [tr]
theorem tr_key (q : Nat) : (q / 65536 % 10 * 65536 + q % 65536) / 10 = q / 10 % 65536 ∧ (q / 65536 % 10 * 65536 + q % 65536) % 10 = q % 10 := by omega
theorem tr_div (n i : Nat) : (tr n (i + 1) * 65536 + dg n i) / 10 = dg (n / 10) i := by
 unfold tr
 have e1 : n / 65536 ^ (i + 1) = n / 65536 ^ i / 65536 := by rw [Nat.div_div_eq_div_mul, ← Nat.pow_succ]
 have e2 : dg n i = n / 65536 ^ i % 65536 := rfl
 have e3 : dg (n / 10) i = n / 10 / 65536 ^ i % 65536 := rfl
 have e4 : n / 10 / 65536 ^ i = n / 65536 ^ i / 10 := by rw [Nat.div_div_eq_div_mul, Nat.div_div_eq_div_mul, Nat.mul_comm]
 rw [e1, e2, e3, e4]
 exact (tr_key _).1
theorem tr_mod (n i : Nat) : (tr n (i + 1) * 65536 + dg n i) % 10 = tr n i := by
 unfold tr
 have e1 : n / 65536 ^ (i + 1) = n / 65536 ^ i / 65536 := by rw [Nat.div_div_eq_div_mul, ← Nat.pow_succ]
 have e2 : dg n i = n / 65536 ^ i % 65536 := rfl
 rw [e1, e2]
 exact (tr_key _).2
def TxI (n x : Nat) (l : List UInt8) : Prop := if x = 0 then l = Lib.decDigits n else Lib.decDigits x ++ l = Lib.decDigits n
theorem TxI.start {n : Nat} (h : n ≠ 0) : TxI n n [] := by
 unfold TxI
 rw [if_neg h, List.append_nil]
theorem TxI.step {n x : Nat} {l : List UInt8} (h : TxI n x l) (hx : x ≠ 0) : TxI n (x / 10) (UInt8.ofNat (48 + x % 10) :: l) := by
 unfold TxI at h ⊢
 rw [if_neg hx] at h
 by_cases hs : x < 10
 ·rw [if_pos (by omega)]
  rw [Lib.decDigits_one hs] at h
  rw [← h, Nat.mod_eq_of_lt hs]
  rfl
 ·rw [if_neg (by omega)]
  rw [Lib.decDigits, dif_neg hs] at h
  rw [← h, List.append_assoc]
  rfl
theorem TxI.end {n : Nat} {l : List UInt8} (h : TxI n 0 l) : l = Lib.decDigits n := by
 unfold TxI at h
 rwa [if_pos rfl] at h
theorem tx_len {n x : Nat} {l : List UInt8} (h : TxI n x l) : l.length ≤ (Lib.decDigits n).length := by
 unfold TxI at h
 split at h
 ·rw [h]; exact Nat.le_refl _
 ·rw [← h, List.length_append]; exact Nat.le_add_left _ _
end Go.Proofs.YtkgaaabecdbidaaDoor
namespace Go.Proofs.YtkgaaabecdbidaaDoor
open Go.RowKit Go.Sort
set_option linter.unusedSimpArgs false
def digl (L n : Nat) : List Int := (List.range L).map fun i => ((dg n i : Nat) : Int)
theorem digl_length (L n : Nat) : (digl L n).length = L := by simp [digl]
theorem digl_get {L n i : Nat} (h : i < L) : (digl L n)[i]? = some ((dg n i : Nat) : Int) := by
 unfold digl
 rw [List.getElem?_map, List.getElem?_range h]
 rfl
theorem digl_succ (L n : Nat) : digl (L + 1) n = digl L n ++ [((dg n L : Nat) : Int)] := by simp [digl, List.range_succ]
def DgAt (w : World) (A : Option Addr) (L n : Nat) : Prop := 0 < L → ∃ b o, A = some ⟨b, o, none⟩ ∧ b < w.heap.size ∧ ∀ i, i < L → w.cell? ⟨b, o + i, none⟩ = some (.int .i64 ((dg n i : Nat) : Int))
theorem DgAt.of_nums {w : World} {A : Option Addr} {L n : Nat} (h : NumsK .i64 w w.heap.size A (digl L n)) : DgAt w A L n := fun hp => by
 obtain ⟨b, o, e, hb, hc⟩ := h (by rw [digl_length]; exact hp)
 exact ⟨b, o, e, hb, fun i hi => hc i _ (digl_get hi)⟩
theorem DgAt.nums {w : World} {A : Option Addr} {L n : Nat} (h : DgAt w A L n) : NumsK .i64 w w.heap.size A (digl L n) := fun hp => by
 rw [digl_length] at hp
 obtain ⟨b, o, e, hb, hc⟩ := h hp
 refine ⟨b, o, e, hb, fun i x hx => ?_⟩
 have hi : i < L := by have := (List.getElem?_eq_some_iff.1 hx).1; rwa [digl_length] at this
 rw [digl_get hi] at hx
 cases hx
 exact hc i hi
theorem DgAt.keep {w w' : World} {A : Option Addr} {L n B : Nat} (h : DgAt w A L n) (hb : Below B w w') (hB : w.heap.size ≤ B) : DgAt w' A L n := fun hp => by
 obtain ⟨b, o, e, hl, hc⟩ := h hp
 exact ⟨b, o, e, Nat.lt_of_lt_of_le hl hb.size, fun i hi => (hb.cell (p := ⟨b, o + i, none⟩) (Nat.lt_of_lt_of_le hl hB)).trans (hc i hi)⟩
theorem DgAt.below {w w' : World} {A : Option Addr} {L n : Nat} (h : DgAt w A L n) (hb : Below w.heap.size w w') : DgAt w' A L n := h.keep hb (Nat.le_refl _)
theorem DgAt.take {w : World} {A : Option Addr} {L M n : Nat} (h : DgAt w A L n) (hM : M ≤ L) : DgAt w A M n := fun hp => by
 obtain ⟨b, o, e, hl, hc⟩ := h (by omega)
 exact ⟨b, o, e, hl, fun i hi => hc i (by omega)⟩
theorem DgAt.nil {w : World} {A : Option Addr} {n : Nat} : DgAt w A 0 n := fun h => absurd h (by omega)
theorem DgAt.drew {w : World} {A : Option Addr} {L n : Nat} (h : DgAt w A L n) : DgAt w.drew A L n := h
def Cap (L cap : Nat) : Prop := L ≤ cap ∧ cap ≤ 9223372036854775807
set_option maxRecDepth 100000 in
set_option maxHeartbeats 2000000 in
theorem trim_run (s z : Bool) (A : Option Addr) (L cap n m : Nat) (w : World) (h : Hid (DgAt w A L n)) (hn : Hid (n < 65536 ^ L)) (hc : Hid (Cap L cap)) (hz : Hid (sgn s n = z)) (hm : Hid (nl n = m)) :
  Calls Tryd.prog 64 #[.bool s, .slice A L cap] w fun e w' => e = .returned (.agg #[.bool z, .slice A m cap]) ∧ Below w.heap.size w w' := by
 have b0 := Lib.hid (below_alloc w (.cells #[.bool false, .slice none 0 0] 96))
 have hcp := hc.out
 unfold Cap at hcp
 go_enter Tryd.func64, Tryd.ntmps64
 go_wp2_with fail
 go_loopg [5] (L + 1) (fun h s5 wr => ∃ j : Nat, s5 = .int .i64 (j : Int) ∧ Hid (j < h ∧ n < 65536 ^ j) ∧ j ≤ L ∧ wr = w.alloc (.cells #[.bool false, .slice none 0 0] 96))
 case atStart => exact ⟨L, rfl, ⟨Nat.lt_succ_self _, hn.out⟩, Nat.le_refl _, rfl⟩
 case round =>
  obtain ⟨j, rfl, HJ, hjl, rfl⟩ := hrel
  cases j with
  | zero =>
   have h0 : n = 0 := by have := HJ.out.2; rw [Nat.pow_zero] at this; omega
   obtain rfl : m = 0 := by rw [← hm.out, h0, nl_zero]
   obtain rfl : z = false := by rw [← hz.out, h0]; simp [sgn]
   clear h0
   cases A with
   | none =>
    cases s
    ·go_wp2_with fail
     (try simp only [Exit.inBlock, Exit.then])
     refine bodyPost_ret (v := .agg #[.bool false, .slice none 0 cap]) (by rw [results_cell1 rfl]; go_simp; try rfl) rfl ⟨rfl, below_alloc _ _⟩
    ·go_wp2_with fail
     (try simp only [Exit.inBlock, Exit.then])
     refine bodyPost_ret (v := .agg #[.bool false, .slice none 0 cap]) (by rw [results_cell1 rfl]; go_simp; try rfl) rfl ⟨rfl, below_alloc _ _⟩
   | some a =>
    cases s
    ·go_wp2_with fail
     (try simp only [Exit.inBlock, Exit.then])
     refine bodyPost_ret (v := .agg #[.bool false, .slice (some a) 0 cap]) (by rw [results_cell1 rfl]; go_simp; try rfl) rfl ⟨rfl, below_alloc _ _⟩
    ·go_wp2_with fail
     (try simp only [Exit.inBlock, Exit.then])
     refine bodyPost_ret (v := .agg #[.bool false, .slice (some a) 0 cap]) (by rw [results_cell1 rfl]; go_simp; try rfl) rfl ⟨rfl, below_alloc _ _⟩
  | succ i =>
   obtain ⟨b, o, rfl, hbl, hcell⟩ := h.out (by omega)
   have hx := (World.cell?_alloc_lt w (.cells #[.bool false, .slice none 0 0] 96) ⟨b, o + i, none⟩ hbl).trans (hcell i (by omega))
   clear hcell
   by_cases hd : dg n i = 0
   ·have HJ2 : Hid (i < i + 1 ∧ n < 65536 ^ i) := ⟨by omega, lt_of_dg HJ.out.2 hd⟩
    go_wp2_with fail
    go_roundg (i + 1)
    case measure => have := HJ.out; omega
    case rel => exact ⟨i, by go_num, HJ2, by omega, rfl⟩
   ·have hm0 : nl n = i + 1 := nl_of_dg HJ.out.2 hd
    obtain rfl : m = i + 1 := by rw [← hm.out, hm0]
    have hn0 : n ≠ 0 := fun e => by rw [e, nl_zero] at hm0; omega
    obtain rfl : z = s := by rw [← hz.out]; simp [sgn, hn0]
    clear hm0 hn0
    cases z
    ·go_wp2_with fail
     (try simp only [Exit.inBlock, Exit.then])
     refine bodyPost_ret (v := .agg #[.bool false, .slice (some ⟨b, o, none⟩) (i + 1) cap]) (by rw [results_cell1 rfl]; go_simp; try rfl) rfl ⟨rfl, below_alloc _ _⟩
    ·go_wp2_with fail
     (try simp only [Exit.inBlock, Exit.then])
     refine bodyPost_ret (v := .agg #[.bool true, .slice (some ⟨b, o, none⟩) (i + 1) cap]) (by rw [results_cell1 rfl]; go_simp; try rfl) rfl ⟨rfl, below_alloc _ _⟩
end Go.Proofs.YtkgaaabecdbidaaDoor
namespace Go.Proofs.YtkgaaabecdbidaaDoor
open Go.RowKit Go.Sort
abbrev boxN (s : Bool) (A : Option Addr) (L cap : Nat) : Obj := .cells #[.bool s, .slice A L cap] 96
abbrev boxNZ : Obj := .cells #[.bool false, .slice none 0 0] 96
structure NumAt (w : World) (b : Nat) (s : Bool) (A : Option Addr) (L cap : Nat) : Prop where
 c0 : w.cell? ⟨b, 0, none⟩ = some (.bool s)
 f0 : w.frozen? ⟨b, 0, none⟩ = false
 c1 : w.cell? ⟨b, 1, none⟩ = some (.slice A L cap)
 f1 : w.frozen? ⟨b, 1, none⟩ = false
section
variable {w w' : World} {b L cap : Nat} {s : Bool} {A : Option Addr}
theorem NumAt.keep {B : Nat} (h : NumAt w b s A L cap) (hb : Below B w w') (hB : b < B) : NumAt w' b s A L cap :=
 ⟨(hb.cell (p := ⟨b, 0, none⟩) hB).trans h.c0, (hb.frozen (p := ⟨b, 0, none⟩) hB).trans h.f0, (hb.cell (p := ⟨b, 1, none⟩) hB).trans h.c1, (hb.frozen (p := ⟨b, 1, none⟩) hB).trans h.f1⟩
theorem NumAt.lt (h : NumAt w b s A L cap) : b < w.heap.size := by
 rcases Nat.lt_or_ge b w.heap.size with h1 | h1
 ·exact h1
 ·have := h.c0
  simp [World.cell?, Array.getElem?_eq_none h1] at this
theorem NumAt.below (h : NumAt w b s A L cap) (hb : Below w.heap.size w w') : NumAt w' b s A L cap := h.keep hb h.lt
theorem NumAt.alloc (h : NumAt w b s A L cap) (o : Obj) : NumAt (w.alloc o) b s A L cap := h.keep (below_alloc w o) h.lt
theorem NumAt.but {c : Nat} (h : NumAt w b s A L cap) (hw : But1 w w' c) (hne : b ≠ c) : NumAt w' b s A L cap :=
 ⟨(hw.1 ⟨b, 0, none⟩ hne).1.trans h.c0, (hw.1 ⟨b, 0, none⟩ hne).2.trans h.f0, (hw.1 ⟨b, 1, none⟩ hne).1.trans h.c1, (hw.1 ⟨b, 1, none⟩ hne).2.trans h.f1⟩
theorem NumAt.drew (h : NumAt w b s A L cap) : NumAt w.drew b s A L cap := ⟨h.c0, h.f0, h.c1, h.f1⟩
end
theorem NumAt.new (w : World) (s : Bool) (A : Option Addr) (L cap : Nat) : NumAt (w.alloc (boxN s A L cap)) w.heap.size s A L cap :=
 ⟨World.cell?_alloc_at _ _ _ _ rfl, World.frozen?_alloc_at _ _ _ _ rfl, World.cell?_alloc_at _ _ _ _ rfl, World.frozen?_alloc_at _ _ _ _ rfl⟩
def st2 (w : World) (b : Nat) (s : Bool) (A : Option Addr) (L cap : Nat) : World := (w.setCell ⟨b, 0, none⟩ (.bool s)).setCell ⟨b, 1, none⟩ (.slice A L cap)
theorem st2_but (w : World) (b : Nat) (s : Bool) (A : Option Addr) (L cap : Nat) : But1 w (st2 w b s A L cap) b := (But1.setCell w b 0 _).trans (But1.setCell _ b 1 _)
theorem st2_at {w : World} {b L M ca cb : Nat} {s t : Bool} {A B : Option Addr} (h : NumAt w b s A L ca) : NumAt (st2 w b t B M cb) b t B M cb := by
 have e0 := h.c0
 have e1 := h.f0
 have e2 := h.c1
 have e3 := h.f1
 have d0 : (w.setCell ⟨b, 0, none⟩ (.bool t)).cell? ⟨b, 1, none⟩ = some (.slice A L ca) := (World.cell?_setCell_other _ _ _ _ (by simp)).trans e2
 refine ⟨?_, ?_, World.cell?_setCell_same _ _ _ d0, ?_⟩
 ·exact (World.cell?_setCell_other _ _ _ _ (by simp)).trans (World.cell?_setCell_same _ _ _ e0)
 ·unfold st2; rw [World.frozen?_setCell, World.frozen?_setCell]; exact e1
 ·unfold st2; rw [World.frozen?_setCell, World.frozen?_setCell]; exact e3
theorem DgAt.set {w : World} {A : Option Addr} {L n : Nat} (h : DgAt w A L n) {p : Addr} {u : Value} (hp : w.cell? p = some u) (hu : ∀ x, u ≠ .int .i64 x) (v : Value) : DgAt (w.setCell p v) A L n := fun hL => by
 obtain ⟨b, o, e, hb, hc⟩ := h hL
 refine ⟨b, o, e, by rw [World.size_setCell]; exact hb, fun i hi => ?_⟩
 have h1 := hc i hi
 have hne : (⟨b, o + i, none⟩ : Addr) ≠ p := fun e => by rw [e, hp] at h1; exact hu _ (Option.some.inj h1)
 exact (World.cell?_setCell_other _ _ _ _ (fun e => hne e.symm)).trans h1
theorem DgAt.st2 {w : World} {A B C : Option Addr} {L M K b n ca cb : Nat} {s t : Bool} (h : DgAt w A L n) (hb : NumAt w b s B M cb) : DgAt (st2 w b t C K ca) A L n := by
 have h1 := h.set hb.c0 (fun x e => by cases e) (.bool t)
 exact h1.set ((World.cell?_setCell_other _ _ _ _ (by simp)).trans hb.c1) (fun x e => by cases e) _
end Go.Proofs.YtkgaaabecdbidaaDoor
namespace Go.Proofs.YtkgaaabecdbidaaDoor
open Go.RowKit Go.Sort
structure Good (w : World) (s : Bool) (A : Option Addr) (L cap n : Nat) : Prop where
 digs : DgAt w A L n
 len : nl n = L
 cap : Cap L cap
 sg : sgn s n = s
section
variable {w w' : World} {s : Bool} {A : Option Addr} {L cap n : Nat}
theorem Good.keep {B : Nat} (h : Good w s A L cap n) (hb : Below B w w') (hB : w.heap.size ≤ B) : Good w' s A L cap n := ⟨h.digs.keep hb hB, h.len, h.cap, h.sg⟩
theorem Good.below (h : Good w s A L cap n) (hb : Below w.heap.size w w') : Good w' s A L cap n := ⟨h.digs.below hb, h.len, h.cap, h.sg⟩
end
end Go.Proofs.YtkgaaabecdbidaaDoor
namespace Go.Proofs.YtkgaaabecdbidaaDoor
open Go.RowKit Go.Sort
def DigF (w : World) (g : Nat) (f : Nat → Nat) (k : Nat) : Prop := ∀ i, i < k → w.cell? ⟨g, i, none⟩ = some (.int .i64 (f i : Int)) ∧ w.frozen? ⟨g, i, none⟩ = false
section
variable {w w' : World} {g k : Nat} {f h : Nat → Nat}
theorem DigF.keep {B : Nat} (d : DigF w g f k) (hb : Below B w w') (hB : g < B) : DigF w' g f k := fun i hi =>
 ⟨(hb.cell (p := ⟨g, i, none⟩) hB).trans (d i hi).1, (hb.frozen (p := ⟨g, i, none⟩) hB).trans (d i hi).2⟩
theorem DigF.but {c : Nat} (d : DigF w g f k) (hw : But1 w w' c) (hne : g ≠ c) : DigF w' g f k := fun i hi =>
 ⟨(hw.1 ⟨g, i, none⟩ hne).1.trans (d i hi).1, (hw.1 ⟨g, i, none⟩ hne).2.trans (d i hi).2⟩
theorem DigF.drew (d : DigF w g f k) : DigF w.drew g f k := d
theorem DigF.drewN (d : DigF w g f k) (m : Nat) : DigF (w.drewN m) g f k := d
theorem DigF.ext (d : DigF w g f k) (e : ∀ i, i < k → f i = h i) : DigF w g h k := fun i hi => by rw [← e i hi]; exact d i hi
theorem DigF.upd (d : DigF w g f k) {i : Nat} (hi : i < k) (v : Nat) : DigF (w.setCell ⟨g, i, none⟩ (.int .i64 (v : Int))) g (updF f i v) k := fun j hj => by
 refine ⟨?_, by rw [World.frozen?_setCell]; exact (d j hj).2⟩
 by_cases e : j = i
 ·subst e
  rw [updF_same]
  exact World.cell?_setCell_same _ _ _ (d j hj).1
 ·rw [updF_other e]
  exact (World.cell?_setCell_other _ _ _ _ (fun e2 => e (by injection e2 with _ e3 _; exact e3.symm))).trans (d j hj).1
theorem DigF.at_ (d : DigF w g f k) (hg : g < w.heap.size) {n : Nat} (e : ∀ i, i < k → f i = dg n i) : DgAt w (some ⟨g, 0, none⟩) k n := fun _ =>
 ⟨g, 0, rfl, hg, fun i hi => by rw [Nat.zero_add, ← e i hi]; exact (d i hi).1⟩
end
theorem make_digs (w : World) (n : Nat) (hn : n ≤ 1000000) : ∃ w', (Instr.makeSlice 31 (.int .i64 (n : Int)) (.int .i64 (n : Int))).run Tryd.prog w = .ok (.slice (some ⟨w.heap.size, 0, none⟩) n n) w' ∧ DigF w' w.heap.size (fun _ => 0) n ∧ Below w.heap.size w w' ∧ w.heap.size < w'.heap.size := by
 obtain ⟨w2, hmk, o2, g2⟩ := run_makeK int_slice w w.heap.size n n (Nat.le_refl _) hn (Nat.le_refl _)
 have o3 : w2.ownsRow w.heap.size 3 1 (.slice (some ⟨w.heap.size, 0, none⟩) n n) n ((List.replicate n (0 : Int)).map fun x => Value.int .i64 x) := by
  have := o2
  unfold OwnK at this
  rwa [List.length_replicate] at this
 refine ⟨w2, hmk, fun i hi => ⟨?_, o3.frozenAt i⟩, (Below.refl _ _).grown g2 (Nat.le_refl _) (by intro g h; cases h), (o3.lt w.heap.size rfl).2⟩
 rw [o3.cellAt i (by omega)]
 simp [hi]
end Go.Proofs.YtkgaaabecdbidaaDoor
