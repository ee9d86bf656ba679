/-
  Stage 10: internal/strconv.ParseUint at base 16 and 8, of short texts.
-/
import Derived.Test.YtgkhjeefcflmcaaGreatDoorMt23
import Derived.Test.YtgkhjeefcflmcaaGreatDoorMt03
namespace Go.Proofs.YtgkhjeefcflmcaaGreatDoor
open Go.RowKit Go.Sort
set_option linter.unusedSimpArgs false
def loN (c : Nat) : Nat := (bits .or .u8 (c : Int) 32).toNat
def pdB (c : Nat) : Bool :=
  decide (0 ≤ bits .or .u8 (c : Int) 32 ∧ bits .or .u8 (c : Int) 32 ≤ 255) &&
  ((decide (48 ≤ c ∧ c ≤ 57) && decide (dvN c = c - 48)) ||
   (decide (¬ (48 ≤ c ∧ c ≤ 57)) && decide (97 ≤ loN c ∧ loN c ≤ 122 ∧ c ≠ 95) && (decide (dvN c = loN c - 87 ∧ loN c - 87 < 16) || decide (16 ≤ loN c - 87 ∧ dvN c = 16))) ||
   (decide (¬ (48 ≤ c ∧ c ≤ 57)) && decide (¬ (97 ≤ loN c ∧ loN c ≤ 122)) && decide (dvN c = 16)))
theorem pd_all : ∀ c : Fin 256, pdB c.val = true := by decide +kernel
theorem pd_is {c : Nat} (h : c < 256) : (∃ lo : Nat, bits .or .u8 (c : Int) 32 = (lo : Int) ∧ lo ≤ 255 ∧
  ((48 ≤ c ∧ c ≤ 57 ∧ dvN c = c - 48) ∨ (¬ (48 ≤ c ∧ c ≤ 57) ∧ 97 ≤ lo ∧ lo ≤ 122 ∧ c ≠ 95 ∧ ((dvN c = lo - 87 ∧ lo - 87 < 16) ∨ (16 ≤ lo - 87 ∧ dvN c = 16))) ∨ (¬ (48 ≤ c ∧ c ≤ 57) ∧ ¬ (97 ≤ lo ∧ lo ≤ 122) ∧ dvN c = 16))) := by
 have := pd_all ⟨c, h⟩
 unfold pdB at this
 simp only [Bool.and_eq_true, Bool.or_eq_true, decide_eq_true_eq] at this
 obtain ⟨⟨h0, h1⟩, h2⟩ := this
 refine ⟨loN c, by unfold loN; omega, by unfold loN; omega, ?_⟩
 rcases h2 with (h2 | h2) | h2
 ·exact .inl ⟨h2.1.1, h2.1.2, h2.2⟩
 ·exact .inr (.inl ⟨h2.1.1, h2.1.2.1, h2.1.2.2.1, h2.1.2.2.2, h2.2⟩)
 ·exact .inr (.inr ⟨h2.1.1, h2.1.2, h2.2⟩)
def PuOk (B M : Nat) (m : List UInt8) : Prop := okDig B m = true ∧ num B m ≤ M
def PuAns (B M : Nat) (m : List UInt8) (x : Int) (er : Value) : Prop := (PuOk B M m ∧ x = (num B m : Int) ∧ er = .nilIface) ∨ (¬ PuOk B M m ∧ ∃ k : Int, (k = 1 ∨ k = 2) ∧ er = .iface 284 (.int .i64 k))
theorem PuAns.bad {B M : Nat} {m : List UInt8} {x k : Int} (h : ¬ PuOk B M m) (hk : k = 1 ∨ k = 2) : PuAns B M m x (.iface 284 (.int .i64 k)) := .inr ⟨h, k, hk, rfl⟩
theorem pu_dig {B M i : Nat} {m : List UInt8} {c : UInt8} (hc : m[i]? = some c) (h : ¬ dvN c.toNat < B) : ¬ PuOk B M m := fun g => by
 have := okDig_get g.1 hc
 exact h this
theorem pu_over {B M i : Nat} {m : List UInt8} (hB : 1 ≤ B) (h : M < num B (m.take i)) : ¬ PuOk B M m := fun g => by
 have := num_take hB m i
 have := g.2
 omega
theorem num_take_succ {B i : Nat} {m : List UInt8} {c : UInt8} (hc : m[i]? = some c) : num B (m.take (i + 1)) = num B (m.take i) * B + dvN c.toNat := by
 rw [take_succ_of hc, num_snoc]
theorem okDig_snoc {B i : Nat} {m : List UInt8} {c : UInt8} (hc : m[i]? = some c) (h : okDig B (m.take i) = true) (hd : dvN c.toNat < B) : okDig B (m.take (i + 1)) = true := by
 rw [take_succ_of hc]
 unfold okDig at h ⊢
 rw [List.all_append, h]
 simp [hd]
set_option maxRecDepth 100000 in
set_option maxHeartbeats 4000000 in
theorem parseUint_16_8 (m : List UInt8) (w : World) (h0 : m ≠ []) (hl : m.length ≤ 8) :
  Calls Tryz.prog 242 #[.string (bs m), .int .i64 16, .int .i64 8] w fun e w' => ∃ x er, e = .returned (.tuple #[.int .u64 x, er]) ∧ PuAns 16 255 m x er ∧ Below w.heap.size w w' := by
 have hsz := bs_size m
 have hemp : (bs m).toList.isEmpty = false := by rw [bs_isEmpty]; cases m with
  | nil => exact absurd rfl h0
  | cons _ _ => rfl
 obtain ⟨cap, w2, hcv, hc1, hc2, hby, hbl⟩ := run_conv_str w (bs m) (by rw [hsz]; exact Nat.le_trans hl (by decide))
 rw [bts_bs] at hby
 obtain ⟨L, hL⟩ : ∃ L, m.length = L := ⟨_, rfl⟩
 rw [hsz, hL] at hcv hc1
 rw [hL] at hsz hl
 have hmv : IntKind.u64.wrap (IntKind.u64.wrap 256 - 1) = 255 := by
  rw [IntKind.wrap_u64, IntKind.wrap_u64]
  decide
 obtain ⟨N, hN⟩ : ∃ N, w.heap.size = N := ⟨_, rfl⟩
 rw [hN] at hcv hby hbl ⊢
 have HL := Lib.hid hL
 have HB := Lib.hid hbl
 have HBY : Hid (∀ i c, m[i]? = some c → w2.cell? ⟨N, i, none⟩ = some (.int .u8 ((c : UInt8).toNat : Int))) := fun i c hc => by
  have := byts_cell hby hc
  rwa [Nat.zero_add] at this
 clear hL hby hbl hc2 hN h0
 go_enter Tryz.func242, Tryz.ntmps242
 go_wp2_with fail
 clear hcv hemp hsz
 go_loopg [12, 13, 101] (L + 1) (fun h s12 s13 s101 wr => ∃ (i acc : Nat) (a : Int), s12 = .bool false ∧ s13 = .int .u64 a ∧ s101 = .int .i64 (i : Int) ∧ Hid (i + h = L + 1) ∧ i ≤ L ∧ 0 ≤ a ∧ a ≤ 255 ∧ Hid (a = (acc : Int) ∧ okDig 16 (m.take i) = true ∧ num 16 (m.take i) = acc) ∧ wr = w2)
 case atStart => exact ⟨0, 0, 0, rfl, rfl, rfl, by show _ = _; omega, by omega, by decide, by decide, ⟨rfl, rfl, rfl⟩, rfl⟩
 case round =>
  obtain ⟨i, acc, a, rfl, rfl, rfl, HI, hin, a0, a1, HA, rfl⟩ := hrel
  by_cases hlt : i < L
  ·have hiz : (i : Int) < (L : Int) := by omega
   obtain ⟨c, hc⟩ : ∃ c, m[i]? = some c := ⟨m[i]'(by have := HL.out; omega), List.getElem?_eq_getElem _⟩
   have hx := HBY.out i c hc
   obtain ⟨lo, hlo, hlo2, hcase⟩ := pd_is c.toNat_lt
   have HLO : Hid (∀ V, Calls Tryz.prog 255 #[.int .u8 (c.toNat : Int)] V fun e w' => e = .returned (.int .u8 (lo : Int)) ∧ w' = V) := fun V => by
    have := Tryz.internal_strconv_lower (c.toNat : Int) V
    rwa [hlo] at this
   have hcb : c.toNat < 256 := c.toNat_lt
   clear hlo
   obtain ⟨cn, hcn⟩ : ∃ cn, c.toNat = cn := ⟨_, rfl⟩
   rw [hcn] at hx hcase HLO hcb
   rcases hcase with ⟨g1, g2, g3⟩ | ⟨g1, g2, g3, g4, g5⟩ | ⟨g1, g2, g3⟩
   ·obtain ⟨dd, hdd⟩ : ∃ dd, cn - 48 = dd := ⟨_, rfl⟩
    have HDD : Hid (cn = dd + 48) := by show _ = _; omega
    have hd9 : dd ≤ 9 := by omega
    have HD : Hid (dvN cn = dd) := by show _ = _; rw [g3, hdd]
    clear g3 hdd hlo2 HLO
    have hdB : dd < 16 := by omega
    have HN : Hid (num 16 (m.take (i + 1)) = acc * 16 + dd) := by show _ = _; rw [num_take_succ hc, HA.out.2.2, hcn, HD.out]
    have HK : Hid (okDig 16 (m.take (i + 1)) = true) := okDig_snoc hc HA.out.2.1 (by rw [hcn, HD.out]; exact hdB)
    have HV : Hid (a * 16 + ((cn : Int) - 48) = ((acc * 16 + dd : Nat) : Int)) := by show _ = _; rw [HA.out.1]; have := HDD.out; omega
    rcases Nat.lt_or_ge 255 (acc * 16 + dd) with hov | hov
    ·have HBAD : Hid (¬ PuOk 16 255 m) := pu_over (i := i + 1) (by decide) (by rw [HN.out]; exact hov)
     have iov : 255 < a * 16 + ((cn : Int) - 48) := by have := HV.out; omega
     clear hc hcn hov hdB
     go_wp2_with fail
     all_goals go_ret2
     all_goals exact ⟨_, _, rfl, PuAns.bad HBAD.out (.inl rfl), HB.out⟩
    ·have iov : a * 16 + ((cn : Int) - 48) ≤ 255 := by have := HV.out; omega
     have HNV : Hid (0 ≤ a * 16 + ((cn : Int) - 48)) := by show _ ≤ _; have := HV.out; omega
     clear hc hcn hov hdB
     go_wp2_with fail
     all_goals
      go_roundg (L - i)
      case measure => have := HI.out; omega
      case rel => exact ⟨i + 1, acc * 16 + dd, a * 16 + ((cn : Int) - 48), rfl, (by first | rfl | (congr 1; omega)), by go_num, by show _ = _; have := HI.out; omega, by omega, HNV.out, iov, ⟨HV.out, HK.out, HN.out⟩, rfl⟩
   ·obtain ⟨dd, hdd⟩ : ∃ dd, lo - 87 = dd := ⟨_, rfl⟩
    have HDD : Hid (lo = dd + 87) := by show _ = _; omega
    have hd10 : 10 ≤ dd := by omega
    have e95 : ((cn : Int) == 95) = false := beq_eq_false_iff_ne.2 (by omega)
    rcases Nat.lt_or_ge dd 16 with hd16 | hd16
    ·have HD : Hid (dvN cn = dd) := by show _ = _; omega
     clear g5 g4 hdd hlo2
     have hdB : dd < 16 := by omega
     have hlt16 : (lo : Int) - 97 + 10 < 16 := by have := HDD.out; omega
     have HN : Hid (num 16 (m.take (i + 1)) = acc * 16 + dd) := by show _ = _; rw [num_take_succ hc, HA.out.2.2, hcn, HD.out]
     have HK : Hid (okDig 16 (m.take (i + 1)) = true) := okDig_snoc hc HA.out.2.1 (by rw [hcn, HD.out]; exact hdB)
     have HV : Hid (a * 16 + ((lo : Int) - 97 + 10) = ((acc * 16 + dd : Nat) : Int)) := by show _ = _; rw [HA.out.1]; have := HDD.out; omega
     rcases Nat.lt_or_ge 255 (acc * 16 + dd) with hov | hov
     ·have HBAD : Hid (¬ PuOk 16 255 m) := pu_over (i := i + 1) (by decide) (by rw [HN.out]; exact hov)
      have iov : 255 < a * 16 + ((lo : Int) - 97 + 10) := by have := HV.out; omega
      clear hc hcn hov hdB
      go_wp2_with (first | (go_at_call 255; refine (HLO.out _).mono ?_; rintro e w5 ⟨rfl, rfl⟩) | fail)
      all_goals go_ret2
      all_goals exact ⟨_, _, rfl, PuAns.bad HBAD.out (.inl rfl), HB.out⟩
     ·have iov : a * 16 + ((lo : Int) - 97 + 10) ≤ 255 := by have := HV.out; omega
      have HNV : Hid (0 ≤ a * 16 + ((lo : Int) - 97 + 10)) := by show _ ≤ _; have := HV.out; omega
      clear hc hcn hov hdB
      go_wp2_with (first | (go_at_call 255; refine (HLO.out _).mono ?_; rintro e w5 ⟨rfl, rfl⟩) | fail)
      all_goals
       go_roundg (L - i)
       case measure => have := HI.out; omega
       case rel => exact ⟨i + 1, acc * 16 + dd, a * 16 + ((lo : Int) - 97 + 10), rfl, (by first | rfl | (congr 1; omega)), by go_num, by show _ = _; have := HI.out; omega, by omega, HNV.out, iov, ⟨HV.out, HK.out, HN.out⟩, rfl⟩
    ·have HBAD : Hid (¬ PuOk 16 255 m) := pu_dig hc (by rw [hcn]; omega)
     have hge : (16 : Int) ≤ (lo : Int) - 97 + 10 := by have := HDD.out; omega
     clear g5 g4 hdd hlo2 hc hcn hd16
     go_wp2_with (first | (go_at_call 255; refine (HLO.out _).mono ?_; rintro e w5 ⟨rfl, rfl⟩) | fail)
     all_goals go_ret2
     all_goals exact ⟨_, _, rfl, PuAns.bad HBAD.out (.inr rfl), HB.out⟩
   ·have HBAD : Hid (¬ PuOk 16 255 m) := pu_dig hc (by rw [hcn]; omega)
    by_cases h95 : cn = 95
    ·subst h95
     clear g3 hc hcn
     go_wp2_with (first | (go_at_call 255; refine (HLO.out _).mono ?_; rintro e w5 ⟨rfl, rfl⟩) | fail)
     all_goals go_ret2
     all_goals exact ⟨_, _, rfl, PuAns.bad HBAD.out (.inr rfl), HB.out⟩
    ·have e95 : ((cn : Int) == 95) = false := beq_eq_false_iff_ne.2 (by omega)
     clear g3 hc hcn h95
     go_wp2_with (first | (go_at_call 255; refine (HLO.out _).mono ?_; rintro e w5 ⟨rfl, rfl⟩) | fail)
     all_goals go_ret2
     all_goals exact ⟨_, _, rfl, PuAns.bad HBAD.out (.inr rfl), HB.out⟩
  ·have hip : i = L := by omega
   have hiz : ¬ (i : Int) < (L : Int) := by omega
   have HOK : Hid (PuAns 16 255 m a .nilIface) := by
    have h1 := HA.out
    rw [List.take_of_length_le (by have := HL.out; omega)] at h1
    exact .inl ⟨⟨h1.2.1, by rw [h1.2.2]; omega⟩, by rw [h1.2.2]; exact h1.1, rfl⟩
   clear hip
   go_wp2_with fail
   go_ret2
   exact ⟨_, _, rfl, HOK.out, HB.out⟩
set_option maxRecDepth 100000 in
set_option maxHeartbeats 4000000 in
theorem parseUint_16_31 (m : List UInt8) (w : World) (h0 : m ≠ []) (hl : m.length ≤ 8) :
  Calls Tryz.prog 242 #[.string (bs m), .int .i64 16, .int .i64 31] w fun e w' => ∃ x er, e = .returned (.tuple #[.int .u64 x, er]) ∧ PuAns 16 2147483647 m x er ∧ Below w.heap.size w w' := by
 have hsz := bs_size m
 have hemp : (bs m).toList.isEmpty = false := by rw [bs_isEmpty]; cases m with
  | nil => exact absurd rfl h0
  | cons _ _ => rfl
 obtain ⟨cap, w2, hcv, hc1, hc2, hby, hbl⟩ := run_conv_str w (bs m) (by rw [hsz]; exact Nat.le_trans hl (by decide))
 rw [bts_bs] at hby
 obtain ⟨L, hL⟩ : ∃ L, m.length = L := ⟨_, rfl⟩
 rw [hsz, hL] at hcv hc1
 rw [hL] at hsz hl
 have hmv : IntKind.u64.wrap (IntKind.u64.wrap 2147483648 - 1) = 2147483647 := by
  rw [IntKind.wrap_u64, IntKind.wrap_u64]
  decide
 obtain ⟨N, hN⟩ : ∃ N, w.heap.size = N := ⟨_, rfl⟩
 rw [hN] at hcv hby hbl ⊢
 have HL := Lib.hid hL
 have HB := Lib.hid hbl
 have HBY : Hid (∀ i c, m[i]? = some c → w2.cell? ⟨N, i, none⟩ = some (.int .u8 ((c : UInt8).toNat : Int))) := fun i c hc => by
  have := byts_cell hby hc
  rwa [Nat.zero_add] at this
 clear hL hby hbl hc2 hN h0
 go_enter Tryz.func242, Tryz.ntmps242
 go_wp2_with fail
 clear hcv hemp hsz
 go_loopg [12, 13, 101] (L + 1) (fun h s12 s13 s101 wr => ∃ (i acc : Nat) (a : Int), s12 = .bool false ∧ s13 = .int .u64 a ∧ s101 = .int .i64 (i : Int) ∧ Hid (i + h = L + 1) ∧ i ≤ L ∧ 0 ≤ a ∧ a ≤ 2147483647 ∧ Hid (a = (acc : Int) ∧ okDig 16 (m.take i) = true ∧ num 16 (m.take i) = acc) ∧ wr = w2)
 case atStart => exact ⟨0, 0, 0, rfl, rfl, rfl, by show _ = _; omega, by omega, by decide, by decide, ⟨rfl, rfl, rfl⟩, rfl⟩
 case round =>
  obtain ⟨i, acc, a, rfl, rfl, rfl, HI, hin, a0, a1, HA, rfl⟩ := hrel
  by_cases hlt : i < L
  ·have hiz : (i : Int) < (L : Int) := by omega
   obtain ⟨c, hc⟩ : ∃ c, m[i]? = some c := ⟨m[i]'(by have := HL.out; omega), List.getElem?_eq_getElem _⟩
   have hx := HBY.out i c hc
   obtain ⟨lo, hlo, hlo2, hcase⟩ := pd_is c.toNat_lt
   have HLO : Hid (∀ V, Calls Tryz.prog 255 #[.int .u8 (c.toNat : Int)] V fun e w' => e = .returned (.int .u8 (lo : Int)) ∧ w' = V) := fun V => by
    have := Tryz.internal_strconv_lower (c.toNat : Int) V
    rwa [hlo] at this
   have hcb : c.toNat < 256 := c.toNat_lt
   clear hlo
   obtain ⟨cn, hcn⟩ : ∃ cn, c.toNat = cn := ⟨_, rfl⟩
   rw [hcn] at hx hcase HLO hcb
   rcases hcase with ⟨g1, g2, g3⟩ | ⟨g1, g2, g3, g4, g5⟩ | ⟨g1, g2, g3⟩
   ·obtain ⟨dd, hdd⟩ : ∃ dd, cn - 48 = dd := ⟨_, rfl⟩
    have HDD : Hid (cn = dd + 48) := by show _ = _; omega
    have hd9 : dd ≤ 9 := by omega
    have HD : Hid (dvN cn = dd) := by show _ = _; rw [g3, hdd]
    clear g3 hdd hlo2 HLO
    have hdB : dd < 16 := by omega
    have HN : Hid (num 16 (m.take (i + 1)) = acc * 16 + dd) := by show _ = _; rw [num_take_succ hc, HA.out.2.2, hcn, HD.out]
    have HK : Hid (okDig 16 (m.take (i + 1)) = true) := okDig_snoc hc HA.out.2.1 (by rw [hcn, HD.out]; exact hdB)
    have HV : Hid (a * 16 + ((cn : Int) - 48) = ((acc * 16 + dd : Nat) : Int)) := by show _ = _; rw [HA.out.1]; have := HDD.out; omega
    rcases Nat.lt_or_ge 2147483647 (acc * 16 + dd) with hov | hov
    ·have HBAD : Hid (¬ PuOk 16 2147483647 m) := pu_over (i := i + 1) (by decide) (by rw [HN.out]; exact hov)
     have iov : 2147483647 < a * 16 + ((cn : Int) - 48) := by have := HV.out; omega
     clear hc hcn hov hdB
     go_wp2_with fail
     all_goals go_ret2
     all_goals exact ⟨_, _, rfl, PuAns.bad HBAD.out (.inl rfl), HB.out⟩
    ·have iov : a * 16 + ((cn : Int) - 48) ≤ 2147483647 := by have := HV.out; omega
     have HNV : Hid (0 ≤ a * 16 + ((cn : Int) - 48)) := by show _ ≤ _; have := HV.out; omega
     clear hc hcn hov hdB
     go_wp2_with fail
     all_goals
      go_roundg (L - i)
      case measure => have := HI.out; omega
      case rel => exact ⟨i + 1, acc * 16 + dd, a * 16 + ((cn : Int) - 48), rfl, (by first | rfl | (congr 1; omega)), by go_num, by show _ = _; have := HI.out; omega, by omega, HNV.out, iov, ⟨HV.out, HK.out, HN.out⟩, rfl⟩
   ·obtain ⟨dd, hdd⟩ : ∃ dd, lo - 87 = dd := ⟨_, rfl⟩
    have HDD : Hid (lo = dd + 87) := by show _ = _; omega
    have hd10 : 10 ≤ dd := by omega
    have e95 : ((cn : Int) == 95) = false := beq_eq_false_iff_ne.2 (by omega)
    rcases Nat.lt_or_ge dd 16 with hd16 | hd16
    ·have HD : Hid (dvN cn = dd) := by show _ = _; omega
     clear g5 g4 hdd hlo2
     have hdB : dd < 16 := by omega
     have hlt16 : (lo : Int) - 97 + 10 < 16 := by have := HDD.out; omega
     have HN : Hid (num 16 (m.take (i + 1)) = acc * 16 + dd) := by show _ = _; rw [num_take_succ hc, HA.out.2.2, hcn, HD.out]
     have HK : Hid (okDig 16 (m.take (i + 1)) = true) := okDig_snoc hc HA.out.2.1 (by rw [hcn, HD.out]; exact hdB)
     have HV : Hid (a * 16 + ((lo : Int) - 97 + 10) = ((acc * 16 + dd : Nat) : Int)) := by show _ = _; rw [HA.out.1]; have := HDD.out; omega
     rcases Nat.lt_or_ge 2147483647 (acc * 16 + dd) with hov | hov
     ·have HBAD : Hid (¬ PuOk 16 2147483647 m) := pu_over (i := i + 1) (by decide) (by rw [HN.out]; exact hov)
      have iov : 2147483647 < a * 16 + ((lo : Int) - 97 + 10) := by have := HV.out; omega
      clear hc hcn hov hdB
      go_wp2_with (first | (go_at_call 255; refine (HLO.out _).mono ?_; rintro e w5 ⟨rfl, rfl⟩) | fail)
      all_goals go_ret2
      all_goals exact ⟨_, _, rfl, PuAns.bad HBAD.out (.inl rfl), HB.out⟩
     ·have iov : a * 16 + ((lo : Int) - 97 + 10) ≤ 2147483647 := by have := HV.out; omega
      have HNV : Hid (0 ≤ a * 16 + ((lo : Int) - 97 + 10)) := by show _ ≤ _; have := HV.out; omega
      clear hc hcn hov hdB
      go_wp2_with (first | (go_at_call 255; refine (HLO.out _).mono ?_; rintro e w5 ⟨rfl, rfl⟩) | fail)
      all_goals
       go_roundg (L - i)
       case measure => have := HI.out; omega
       case rel => exact ⟨i + 1, acc * 16 + dd, a * 16 + ((lo : Int) - 97 + 10), rfl, (by first | rfl | (congr 1; omega)), by go_num, by show _ = _; have := HI.out; omega, by omega, HNV.out, iov, ⟨HV.out, HK.out, HN.out⟩, rfl⟩
    ·have HBAD : Hid (¬ PuOk 16 2147483647 m) := pu_dig hc (by rw [hcn]; omega)
     have hge : (16 : Int) ≤ (lo : Int) - 97 + 10 := by have := HDD.out; omega
     clear g5 g4 hdd hlo2 hc hcn hd16
     go_wp2_with (first | (go_at_call 255; refine (HLO.out _).mono ?_; rintro e w5 ⟨rfl, rfl⟩) | fail)
     all_goals go_ret2
     all_goals exact ⟨_, _, rfl, PuAns.bad HBAD.out (.inr rfl), HB.out⟩
   ·have HBAD : Hid (¬ PuOk 16 2147483647 m) := pu_dig hc (by rw [hcn]; omega)
    by_cases h95 : cn = 95
    ·subst h95
     clear g3 hc hcn
     go_wp2_with (first | (go_at_call 255; refine (HLO.out _).mono ?_; rintro e w5 ⟨rfl, rfl⟩) | fail)
     all_goals go_ret2
     all_goals exact ⟨_, _, rfl, PuAns.bad HBAD.out (.inr rfl), HB.out⟩
    ·have e95 : ((cn : Int) == 95) = false := beq_eq_false_iff_ne.2 (by omega)
     clear g3 hc hcn h95
     go_wp2_with (first | (go_at_call 255; refine (HLO.out _).mono ?_; rintro e w5 ⟨rfl, rfl⟩) | fail)
     all_goals go_ret2
     all_goals exact ⟨_, _, rfl, PuAns.bad HBAD.out (.inr rfl), HB.out⟩
  ·have hip : i = L := by omega
   have hiz : ¬ (i : Int) < (L : Int) := by omega
   have HOK : Hid (PuAns 16 2147483647 m a .nilIface) := by
    have h1 := HA.out
    rw [List.take_of_length_le (by have := HL.out; omega)] at h1
    exact .inl ⟨⟨h1.2.1, by rw [h1.2.2]; omega⟩, by rw [h1.2.2]; exact h1.1, rfl⟩
   clear hip
   go_wp2_with fail
   go_ret2
   exact ⟨_, _, rfl, HOK.out, HB.out⟩
set_option maxRecDepth 100000 in
set_option maxHeartbeats 4000000 in
theorem parseUint_8_8 (m : List UInt8) (w : World) (h0 : m ≠ []) (hl : m.length ≤ 8) :
  Calls Tryz.prog 242 #[.string (bs m), .int .i64 8, .int .i64 8] w fun e w' => ∃ x er, e = .returned (.tuple #[.int .u64 x, er]) ∧ PuAns 8 255 m x er ∧ Below w.heap.size w w' := by
 have hsz := bs_size m
 have hemp : (bs m).toList.isEmpty = false := by rw [bs_isEmpty]; cases m with
  | nil => exact absurd rfl h0
  | cons _ _ => rfl
 obtain ⟨cap, w2, hcv, hc1, hc2, hby, hbl⟩ := run_conv_str w (bs m) (by rw [hsz]; exact Nat.le_trans hl (by decide))
 rw [bts_bs] at hby
 obtain ⟨L, hL⟩ : ∃ L, m.length = L := ⟨_, rfl⟩
 rw [hsz, hL] at hcv hc1
 rw [hL] at hsz hl
 have hmv : IntKind.u64.wrap (IntKind.u64.wrap 256 - 1) = 255 := by
  rw [IntKind.wrap_u64, IntKind.wrap_u64]
  decide
 obtain ⟨N, hN⟩ : ∃ N, w.heap.size = N := ⟨_, rfl⟩
 rw [hN] at hcv hby hbl ⊢
 have HL := Lib.hid hL
 have HB := Lib.hid hbl
 have HBY : Hid (∀ i c, m[i]? = some c → w2.cell? ⟨N, i, none⟩ = some (.int .u8 ((c : UInt8).toNat : Int))) := fun i c hc => by
  have := byts_cell hby hc
  rwa [Nat.zero_add] at this
 clear hL hby hbl hc2 hN h0
 go_enter Tryz.func242, Tryz.ntmps242
 go_wp2_with fail
 clear hcv hemp hsz
 go_loopg [12, 13, 101] (L + 1) (fun h s12 s13 s101 wr => ∃ (i acc : Nat) (a : Int), s12 = .bool false ∧ s13 = .int .u64 a ∧ s101 = .int .i64 (i : Int) ∧ Hid (i + h = L + 1) ∧ i ≤ L ∧ 0 ≤ a ∧ a ≤ 255 ∧ Hid (a = (acc : Int) ∧ okDig 8 (m.take i) = true ∧ num 8 (m.take i) = acc) ∧ wr = w2)
 case atStart => exact ⟨0, 0, 0, rfl, rfl, rfl, by show _ = _; omega, by omega, by decide, by decide, ⟨rfl, rfl, rfl⟩, rfl⟩
 case round =>
  obtain ⟨i, acc, a, rfl, rfl, rfl, HI, hin, a0, a1, HA, rfl⟩ := hrel
  by_cases hlt : i < L
  ·have hiz : (i : Int) < (L : Int) := by omega
   obtain ⟨c, hc⟩ : ∃ c, m[i]? = some c := ⟨m[i]'(by have := HL.out; omega), List.getElem?_eq_getElem _⟩
   have hx := HBY.out i c hc
   obtain ⟨lo, hlo, hlo2, hcase⟩ := pd_is c.toNat_lt
   have HLO : Hid (∀ V, Calls Tryz.prog 255 #[.int .u8 (c.toNat : Int)] V fun e w' => e = .returned (.int .u8 (lo : Int)) ∧ w' = V) := fun V => by
    have := Tryz.internal_strconv_lower (c.toNat : Int) V
    rwa [hlo] at this
   have hcb : c.toNat < 256 := c.toNat_lt
   clear hlo
   obtain ⟨cn, hcn⟩ : ∃ cn, c.toNat = cn := ⟨_, rfl⟩
   rw [hcn] at hx hcase HLO hcb
   rcases hcase with ⟨g1, g2, g3⟩ | ⟨g1, g2, g3, g4, g5⟩ | ⟨g1, g2, g3⟩
   ·obtain ⟨dd, hdd⟩ : ∃ dd, cn - 48 = dd := ⟨_, rfl⟩
    have HDD : Hid (cn = dd + 48) := by show _ = _; omega
    have hd9 : dd ≤ 9 := by omega
    have HD : Hid (dvN cn = dd) := by show _ = _; rw [g3, hdd]
    clear g3 hdd hlo2 HLO
    rcases Nat.lt_or_ge dd 8 with hdB | hdB
    ·have hlt8 : ((cn : Int) - 48) < 8 := by have := HDD.out; omega
     have HN : Hid (num 8 (m.take (i + 1)) = acc * 8 + dd) := by show _ = _; rw [num_take_succ hc, HA.out.2.2, hcn, HD.out]
     have HK : Hid (okDig 8 (m.take (i + 1)) = true) := okDig_snoc hc HA.out.2.1 (by rw [hcn, HD.out]; exact hdB)
     have HV : Hid (a * 8 + ((cn : Int) - 48) = ((acc * 8 + dd : Nat) : Int)) := by show _ = _; rw [HA.out.1]; have := HDD.out; omega
     rcases Nat.lt_or_ge 255 (acc * 8 + dd) with hov | hov
     ·have HBAD : Hid (¬ PuOk 8 255 m) := pu_over (i := i + 1) (by decide) (by rw [HN.out]; exact hov)
      have iov : 255 < a * 8 + ((cn : Int) - 48) := by have := HV.out; omega
      clear hc hcn hov hdB
      go_wp2_with fail
      all_goals go_ret2
      all_goals exact ⟨_, _, rfl, PuAns.bad HBAD.out (.inl rfl), HB.out⟩
     ·have iov : a * 8 + ((cn : Int) - 48) ≤ 255 := by have := HV.out; omega
      have HNV : Hid (0 ≤ a * 8 + ((cn : Int) - 48)) := by show _ ≤ _; have := HV.out; omega
      clear hc hcn hov hdB
      go_wp2_with fail
      all_goals
       go_roundg (L - i)
       case measure => have := HI.out; omega
       case rel => exact ⟨i + 1, acc * 8 + dd, a * 8 + ((cn : Int) - 48), rfl, (by first | rfl | (congr 1; omega)), by go_num, by show _ = _; have := HI.out; omega, by omega, HNV.out, iov, ⟨HV.out, HK.out, HN.out⟩, rfl⟩
    ·have HBAD : Hid (¬ PuOk 8 255 m) := pu_dig hc (by rw [hcn, HD.out]; omega)
     have hge : (8 : Int) ≤ ((cn : Int) - 48) := by have := HDD.out; omega
     clear hc hcn hdB
     go_wp2_with fail
     all_goals go_ret2
     all_goals exact ⟨_, _, rfl, PuAns.bad HBAD.out (.inr rfl), HB.out⟩
   ·obtain ⟨dd, hdd⟩ : ∃ dd, lo - 87 = dd := ⟨_, rfl⟩
    have HDD : Hid (lo = dd + 87) := by show _ = _; omega
    have hd10 : 10 ≤ dd := by omega
    have e95 : ((cn : Int) == 95) = false := beq_eq_false_iff_ne.2 (by omega)
    rcases Nat.lt_or_ge dd 16 with hd16 | hd16
    ·have HD : Hid (dvN cn = dd) := by show _ = _; omega
     clear g5 g4 hdd hlo2
     have hdB : 8 ≤ dd := by omega
     have HBAD : Hid (¬ PuOk 8 255 m) := pu_dig hc (by rw [hcn, HD.out]; omega)
     have hge : (8 : Int) ≤ ((lo : Int) - 97 + 10) := by have := HDD.out; omega
     clear hc hcn hdB
     go_wp2_with (first | (go_at_call 255; refine (HLO.out _).mono ?_; rintro e w5 ⟨rfl, rfl⟩) | fail)
     all_goals go_ret2
     all_goals exact ⟨_, _, rfl, PuAns.bad HBAD.out (.inr rfl), HB.out⟩
    ·have HBAD : Hid (¬ PuOk 8 255 m) := pu_dig hc (by rw [hcn]; omega)
     have hge : (16 : Int) ≤ (lo : Int) - 97 + 10 := by have := HDD.out; omega
     clear g5 g4 hdd hlo2 hc hcn hd16
     go_wp2_with (first | (go_at_call 255; refine (HLO.out _).mono ?_; rintro e w5 ⟨rfl, rfl⟩) | fail)
     all_goals go_ret2
     all_goals exact ⟨_, _, rfl, PuAns.bad HBAD.out (.inr rfl), HB.out⟩
   ·have HBAD : Hid (¬ PuOk 8 255 m) := pu_dig hc (by rw [hcn]; omega)
    by_cases h95 : cn = 95
    ·subst h95
     clear g3 hc hcn
     go_wp2_with (first | (go_at_call 255; refine (HLO.out _).mono ?_; rintro e w5 ⟨rfl, rfl⟩) | fail)
     all_goals go_ret2
     all_goals exact ⟨_, _, rfl, PuAns.bad HBAD.out (.inr rfl), HB.out⟩
    ·have e95 : ((cn : Int) == 95) = false := beq_eq_false_iff_ne.2 (by omega)
     clear g3 hc hcn h95
     go_wp2_with (first | (go_at_call 255; refine (HLO.out _).mono ?_; rintro e w5 ⟨rfl, rfl⟩) | fail)
     all_goals go_ret2
     all_goals exact ⟨_, _, rfl, PuAns.bad HBAD.out (.inr rfl), HB.out⟩
  ·have hip : i = L := by omega
   have hiz : ¬ (i : Int) < (L : Int) := by omega
   have HOK : Hid (PuAns 8 255 m a .nilIface) := by
    have h1 := HA.out
    rw [List.take_of_length_le (by have := HL.out; omega)] at h1
    exact .inl ⟨⟨h1.2.1, by rw [h1.2.2]; omega⟩, by rw [h1.2.2]; exact h1.1, rfl⟩
   clear hip
   go_wp2_with fail
   go_ret2
   exact ⟨_, _, rfl, HOK.out, HB.out⟩
end Go.Proofs.YtgkhjeefcflmcaaGreatDoor
namespace Go.Proofs.YtgkhjeefcflmcaaGreatDoor
open Go.RowKit Go.Sort
set_option linter.unusedSimpArgs false
structure UAt (w : World) (b : Nat) (v : Int) (s : ByteArray) (n : Int) : Prop where
 c0 : w.cell? ⟨b, 0, none⟩ = some (.int .i32 v)
 f0 : w.frozen? ⟨b, 0, none⟩ = false
 c1 : w.cell? ⟨b, 1, none⟩ = some (.string s)
 f1 : w.frozen? ⟨b, 1, none⟩ = false
 c2 : w.cell? ⟨b, 2, none⟩ = some (.int .i64 n)
 f2 : w.frozen? ⟨b, 2, none⟩ = false
theorem UAt.keep {w w' : World} {b B : Nat} {v n : Int} {s : ByteArray} (h : UAt w b v s n) (hb : Below B w w') (hB : b < B) : UAt w' b v s n :=
 ⟨(hb.cell hB).trans h.c0, (hb.frozen hB).trans h.f0, (hb.cell hB).trans h.c1, (hb.frozen hB).trans h.f1, (hb.cell hB).trans h.c2, (hb.frozen hB).trans h.f2⟩
theorem UAt.lt {w : World} {b : Nat} {v n : Int} {s : ByteArray} (h : UAt w b v s n) : b < w.heap.size := World.block_lt_of_cell? w _ h.c0
theorem UAt.below {w w' : World} {b : Nat} {v n : Int} {s : ByteArray} (h : UAt w b v s n) (hb : Below w.heap.size w w') : UAt w' b v s n := h.keep hb h.lt
theorem UAt.new (w : World) (v n : Int) (s : ByteArray) : UAt (w.alloc (.cells #[.int .i32 v, .string s, .int .i64 n] 201)) w.heap.size v s n := by
 constructor <;> first | (rw [World.cell?_alloc_at _ _ _ _ rfl]; rfl) | (simp)
def ltrB (c : UInt8) : Bool := decide ((ltrF c ≠ 0 → Lib.indexByte [97, 98, 116, 110, 118, 102, 114] c = (ltrF c : Int) - 7 ∧ 7 ≤ ltrF c ∧ ltrF c ≤ 13) ∧ (ltrF c = 0 → Lib.indexByte [97, 98, 116, 110, 118, 102, 114] c = -1))
theorem let_all : ∀ i : Fin 256, ltrB (UInt8.ofNat i.val) = true := by decide +kernel
theorem let_is (c : UInt8) : (ltrF c ≠ 0 → Lib.indexByte [97, 98, 116, 110, 118, 102, 114] c = (ltrF c : Int) - 7 ∧ 7 ≤ ltrF c ∧ ltrF c ≤ 13) ∧ (ltrF c = 0 → Lib.indexByte [97, 98, 116, 110, 118, 102, 114] c = -1) := by
 have := let_all ⟨c.toNat, c.toNat_lt⟩
 unfold ltrB at this
 rw [decide_eq_true_eq] at this
 simpa using this
theorem index_ctl (c : UInt8) (w : World) : Calls Tryz.prog 130 #[.string ⟨#[97, 98, 116, 110, 118, 102, 114]⟩, .int .u8 (c.toNat : Int)] w fun e w' => e = .returned (.int .i64 (Lib.indexByte [97, 98, 116, 110, 118, 102, 114] c)) ∧ w' = w := by
 have := Tryz.strings_IndexByte ⟨#[97, 98, 116, 110, 118, 102, 114]⟩ (c.toNat : Int) w
 rwa [show ((c.toNat : Int).toNat.toUInt8) = c by simp] at this
theorem below_unit {B b : Nat} {w0 w : World} (h : Below B w0 w) (hb : B ≤ b) (x y z : Value) : Below B w0 (((w.setCell ⟨b, 0, none⟩ x).setCell ⟨b, 1, none⟩ y).setCell ⟨b, 2, none⟩ z) :=
 ((h.setCell (p := ⟨b, 0, none⟩) hb _).setCell (p := ⟨b, 1, none⟩) hb _).setCell (p := ⟨b, 2, none⟩) hb _
set_option maxRecDepth 100000 in
set_option maxHeartbeats 2000000 in
theorem letter_ltr (c q : UInt8) (w : World) (h : ltrF c ≠ 0) :
  Calls Tryz.prog 200 #[.int .u8 (c.toNat : Int), .int .u8 (q.toNat : Int)] w fun e w' => e = .returned (.tuple #[unitV (ltrF c : Int) [UInt8.ofNat (ltrF c)] 2, .bool true]) ∧ Below w.heap.size w w' := by
 have HI := fun V => index_ctl c V
 obtain ⟨h1, h2, h3⟩ := (let_is c).1 h
 rw [h1] at HI
 obtain ⟨k, hk⟩ : ∃ k, ltrF c = k := ⟨_, rfl⟩
 rw [hk] at HI h2 h3 ⊢
 obtain ⟨i, hi⟩ : ∃ i : Nat, (k : Int) - 7 = (i : Int) := ⟨k - 7, by omega⟩
 rw [hi] at HI
 have hk2 : (7 : Int) + (i : Int) = (k : Int) := by omega
 have hi6 : i ≤ 6 := by omega
 have HI2 := Lib.hid HI
 have HBU := Lib.hid (fun V => byteUnit_run k 2 V (by omega))
 obtain ⟨S, hS⟩ : ∃ S, w.heap.size = S := ⟨_, rfl⟩
 have HU := UAt.new w 0 0 ⟨#[]⟩
 have HS := Lib.hid hS
 rw [hS] at HU ⊢
 have HU2 := Lib.hid HU
 have HB0 : Hid (Below S w (w.alloc (.cells #[.int .i32 0, .string ⟨#[]⟩, .int .i64 0] 201))) := by show Below _ _ _; rw [← hS]; exact below_alloc _ _
 clear HU
 clear h h1 hk hi HI
 generalize c.toNat = cn at *
 generalize q.toNat = qn at *
 go_enter Tryz.func200, Tryz.ntmps200
 go_wp2_with fail
 refine (HI2.out _).mono ?_
 rintro e w1 ⟨rfl, rfl⟩
 go_wp2_with fail
 refine (HBU.out _).mono ?_
 rintro e w2 ⟨rfl, hw2⟩
 obtain ⟨c0, f0, c1, f1, c2, f2⟩ := HU2.out.below hw2
 have HB2 : Hid (Below S w w2) := HB0.out.trans (hw2.mono (by have := HS.out; simp; omega))
 clear hw2 HU2
 unfold unitV
 go_wp2_with fail
 refine bodyPost_ret (by rw [results_cell_tmp rfl]; go_simp; try rfl) rfl ⟨rfl, ?_⟩
 exact below_unit HB2.out (Nat.le_refl _) _ _ _
set_option maxRecDepth 100000 in
set_option maxHeartbeats 2000000 in
theorem letter_same (c q : UInt8) (w : World) (h : ltrF c = 0 ∧ (c = 92 ∨ c = q)) :
  Calls Tryz.prog 200 #[.int .u8 (c.toNat : Int), .int .u8 (q.toNat : Int)] w fun e w' => e = .returned (.tuple #[unitV (c.toNat : Int) [c] 2, .bool true]) ∧ Below w.heap.size w w' := by
 have HI := fun V => index_ctl c V
 rw [(let_is c).2 h.1] at HI
 have HI2 := Lib.hid HI
 have HBU : Hid (∀ V, Calls Tryz.prog 228 #[.int .u8 (c.toNat : Int), .int .i64 2] V fun e w' => e = .returned (unitV (c.toNat : Int) [c] 2) ∧ Below V.heap.size V w') := fun V => by
  have := byteUnit_run c.toNat 2 V c.toNat_lt
  rwa [show UInt8.ofNat c.toNat = c by simp] at this
 obtain ⟨S, hS⟩ : ∃ S, w.heap.size = S := ⟨_, rfl⟩
 have HU := UAt.new w 0 0 ⟨#[]⟩
 have HS := Lib.hid hS
 rw [hS] at HU ⊢
 have HU2 := Lib.hid HU
 have HB0 : Hid (Below S w (w.alloc (.cells #[.int .i32 0, .string ⟨#[]⟩, .int .i64 0] 201))) := by show Below _ _ _; rw [← hS]; exact below_alloc _ _
 clear HU
 obtain ⟨h1, h2⟩ := h
 by_cases h92 : c = 92
 ·have e92 : ((c.toNat : Int) == 92) = true := by rw [h92]; rfl
  clear h1 h2 HI h92
  generalize c.toNat = cn at *
  generalize q.toNat = qn at *
  go_enter Tryz.func200, Tryz.ntmps200
  go_wp2_with fail
  refine (HI2.out _).mono ?_
  rintro e w1 ⟨rfl, rfl⟩
  go_wp2_with fail
  refine (HBU.out _).mono ?_
  rintro e w2 ⟨rfl, hw2⟩
  obtain ⟨c0, f0, c1, f1, c2, f2⟩ := HU2.out.below hw2
  have HB2 : Hid (Below S w w2) := HB0.out.trans (hw2.mono (by have := HS.out; simp; omega))
  clear hw2 HU2
  unfold unitV
  go_wp2_with fail
  refine bodyPost_ret (by rw [results_cell_tmp rfl]; go_simp; try rfl) rfl ⟨rfl, ?_⟩
  exact below_unit HB2.out (Nat.le_refl _) _ _ _
 ·have e92 : ((c.toNat : Int) == 92) = false := eq_byte h92
  have ecq : ((c.toNat : Int) == (q.toNat : Int)) = true := by rw [h2.resolve_left h92]; simp
  clear h1 h2 HI h92
  generalize c.toNat = cn at *
  generalize q.toNat = qn at *
  go_enter Tryz.func200, Tryz.ntmps200
  go_wp2_with fail
  refine (HI2.out _).mono ?_
  rintro e w1 ⟨rfl, rfl⟩
  go_wp2_with fail
  refine (HBU.out _).mono ?_
  rintro e w2 ⟨rfl, hw2⟩
  obtain ⟨c0, f0, c1, f1, c2, f2⟩ := HU2.out.below hw2
  have HB2 : Hid (Below S w w2) := HB0.out.trans (hw2.mono (by have := HS.out; simp; omega))
  clear hw2 HU2
  unfold unitV
  go_wp2_with fail
  refine bodyPost_ret (by rw [results_cell_tmp rfl]; go_simp; try rfl) rfl ⟨rfl, ?_⟩
  exact below_unit HB2.out (Nat.le_refl _) _ _ _
set_option maxRecDepth 100000 in
set_option maxHeartbeats 2000000 in
theorem letter_none (c q : UInt8) (w : World) (h : ltrF c = 0 ∧ c ≠ 92 ∧ c ≠ q) :
  Calls Tryz.prog 200 #[.int .u8 (c.toNat : Int), .int .u8 (q.toNat : Int)] w fun e w' => e = .returned (.tuple #[unitV 0 [] 0, .bool false]) ∧ Below w.heap.size w w' := by
 have HI := fun V => index_ctl c V
 rw [(let_is c).2 h.1] at HI
 have HI2 := Lib.hid HI
 have e92 : ((c.toNat : Int) == 92) = false := eq_byte h.2.1
 have ecq : ((c.toNat : Int) == (q.toNat : Int)) = false := eq_byte h.2.2
 clear HI h
 generalize c.toNat = cn at *
 generalize q.toNat = qn at *
 go_enter Tryz.func200, Tryz.ntmps200
 go_wp2_with fail
 refine (HI2.out _).mono ?_
 rintro e w1 ⟨rfl, rfl⟩
 go_wp2_with fail
 refine bodyPost_ret (by rw [results_cell_tmp rfl]; go_simp; try rfl) rfl ⟨rfl, ?_⟩
 exact below_alloc _ _
end Go.Proofs.YtgkhjeefcflmcaaGreatDoor
namespace Go.Proofs.YtgkhjeefcflmcaaGreatDoor
open Go.RowKit Go.Sort
set_option linter.unusedSimpArgs false
def ErrVars (w : World) : Prop := (∃ v, w.cell? ⟨6, 0, none⟩ = some v ∧ (v = .nilIface ∨ ∃ te pe, v = .iface te pe)) ∧ (∃ v, w.cell? ⟨7, 0, none⟩ = some v ∧ (v = .nilIface ∨ ∃ te pe, v = .iface te pe))
theorem ErrVars.below {w w' : World} (h : ErrVars w) (hb : Below w.heap.size w w') : ErrVars w' := by
 obtain ⟨⟨v, h1, h2⟩, u, g1, g2⟩ := h
 exact ⟨⟨v, (hb.cell (World.block_lt_of_cell? w _ h1)).trans h1, h2⟩, u, (hb.cell (World.block_lt_of_cell? w _ g1)).trans g1, g2⟩
def PuPub (B M : Nat) (m : List UInt8) (x : Int) (er : Value) : Prop := (PuOk B M m ∧ x = (num B m : Int) ∧ er = .nilIface) ∨ (¬ PuOk B M m ∧ ∃ T p, er = .iface T p)
theorem toError_run (s : ByteArray) (B bits k : Int) (w : World) (hs : s.size ≤ 1000) (hk : k = 1 ∨ k = 2) (hv : ErrVars w) :
  Calls Tryz.prog 199 #[.string ⟨#[80, 97, 114, 115, 101, 85, 105, 110, 116]⟩, .string s, .int .i64 B, .int .i64 bits, .iface 284 (.int .i64 k)] w fun e w' => ∃ T p, e = .returned (.iface T p) ∧ Below w.heap.size w w' := by
 obtain ⟨⟨v, h1, h2⟩, u, g1, g2⟩ := hv
 rcases hk with rfl | rfl
 ·refine (Tryz.strconv_toError_range ⟨#[80, 97, 114, 115, 101, 85, 105, 110, 116]⟩ s B bits u w (by omega) g1 g2).mono ?_
  rintro e w' ⟨N, he, _, _, hb⟩
  exact ⟨_, _, he, hb⟩
 ·refine (Tryz.strconv_toError_syntax ⟨#[80, 97, 114, 115, 101, 85, 105, 110, 116]⟩ s B bits v w (by omega) h1 h2).mono ?_
  rintro e w' ⟨N, he, _, _, hb⟩
  exact ⟨_, _, he, hb⟩
set_option maxRecDepth 100000 in
set_option maxHeartbeats 2000000 in
theorem parsePub (m : List UInt8) (B bits M : Nat) (w : World) (hl : m.length ≤ 8) (hv : Hid (ErrVars w))
  (hp : Hid (∀ V, Calls Tryz.prog 242 #[.string (bs m), .int .i64 (B : Int), .int .i64 (bits : Int)] V fun e w' => ∃ x er, e = .returned (.tuple #[.int .u64 x, er]) ∧ PuAns B M m x er ∧ Below V.heap.size V w')) :
  Calls Tryz.prog 229 #[.string (bs m), .int .i64 (B : Int), .int .i64 (bits : Int)] w fun e w' => ∃ x er, e = .returned (.tuple #[.int .u64 x, er]) ∧ PuPub B M m x er ∧ Below w.heap.size w w' := by
 have hsz := bs_size m
 have HS : Hid ((bs m).size ≤ 1000) := by show _ ≤ _; omega
 clear hl hsz
 generalize hz : bs m = z at *
 clear hz
 go_enter Tryz.func229, Tryz.ntmps229
 go_wp2_with fail
 refine (hp.out _).mono ?_
 rintro e w1 ⟨x, er, rfl, hx, hw⟩
 have HW := Lib.hid hw
 have HX := Lib.hid hx
 rcases hx with ⟨h1, h2, rfl⟩ | ⟨h1, k, hk, rfl⟩
 ·have HA : Hid (PuPub B M m x .nilIface) := .inl ⟨h1, h2, rfl⟩
  clear h1 h2 hw HX
  go_wp2_with fail
  go_ret2
  exact ⟨_, _, rfl, HA.out, HW.out⟩
 ·have HN := Lib.hid h1
  have HT := Lib.hid (toError_run z (B : Int) (bits : Int) k w1 HS.out hk (hv.out.below hw))
  clear h1 hk hw HX
  go_wp2_with fail
  refine (HT.out).mono ?_
  rintro e w2 ⟨T, p, rfl, hw2⟩
  have HW2 := Lib.hid (HW.out.trans (hw2.mono HW.out.size))
  have HA : Hid (PuPub B M m x (.iface T p)) := .inr ⟨HN.out, T, p, rfl⟩
  clear hw2
  go_wp2_with fail
  go_ret2
  exact ⟨_, _, rfl, HA.out, HW2.out⟩
theorem pub16_8 (m : List UInt8) (w : World) (h0 : m ≠ []) (hl : m.length ≤ 8) (hv : ErrVars w) : Calls Tryz.prog 229 #[.string (bs m), .int .i64 16, .int .i64 8] w fun e w' => ∃ x er, e = .returned (.tuple #[.int .u64 x, er]) ∧ PuPub 16 255 m x er ∧ Below w.heap.size w w' :=
 parsePub m 16 8 255 w hl hv (fun V => parseUint_16_8 m V h0 hl)
theorem pub16_31 (m : List UInt8) (w : World) (h0 : m ≠ []) (hl : m.length ≤ 8) (hv : ErrVars w) : Calls Tryz.prog 229 #[.string (bs m), .int .i64 16, .int .i64 31] w fun e w' => ∃ x er, e = .returned (.tuple #[.int .u64 x, er]) ∧ PuPub 16 2147483647 m x er ∧ Below w.heap.size w w' :=
 parsePub m 16 31 2147483647 w hl hv (fun V => parseUint_16_31 m V h0 hl)
theorem pub8_8 (m : List UInt8) (w : World) (h0 : m ≠ []) (hl : m.length ≤ 8) (hv : ErrVars w) : Calls Tryz.prog 229 #[.string (bs m), .int .i64 8, .int .i64 8] w fun e w' => ∃ x er, e = .returned (.tuple #[.int .u64 x, er]) ∧ PuPub 8 255 m x er ∧ Below w.heap.size w w' :=
 parsePub m 8 8 255 w hl hv (fun V => parseUint_8_8 m V h0 hl)
end Go.Proofs.YtgkhjeefcflmcaaGreatDoor
