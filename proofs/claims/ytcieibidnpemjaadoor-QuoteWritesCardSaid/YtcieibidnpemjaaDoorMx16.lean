/-
  Stage 10: the law QuoteAlone.
-/
import Derived.Test.YtcieibidnpemjaaDoorMx15
namespace Go.Proofs.YtcieibidnpemjaaDoor
open Go.RowKit Go.Sort
set_option linter.unusedSimpArgs false
set_option maxRecDepth 100000 in
set_option maxHeartbeats 4000000 in
theorem Alone_err (A : Option Addr) (n cap : Nat) (l : List UInt8) (a : Nat) (w : World) (hb : Byts w w.heap.size A (bi l)) (hn : l.length = n) (hcap : n ≤ cap) (_hcm : cap ≤ 9223372036854775807) (ha : a ≤ 255) (hk : Kit w) (k z e : Nat) (hs : scanI (l.take (min n 60)) (a : Int) = (k, z, e)) (he : e ≠ 0) :
  Calls Tryd.prog 5 #[.slice A n cap, .int .u8 (a : Int)] w fun e w' => e = .returned (.bool true) ∧ Below w.heap.size w w' := by
 obtain ⟨m, hm⟩ : ∃ m, min n 60 = m := ⟨_, rfl⟩
 have hmz : min (n : Int) 60 = (m : Int) := by omega
 have hmn : m ≤ n := by omega
 have hmc : m ≤ cap := by omega
 have hm60 : m ≤ 60 := by omega
 have hbt := hb.take m
 rw [bi_take] at hbt
 obtain ⟨t, ht⟩ : ∃ t, l.take m = t := ⟨_, rfl⟩
 have htl : t.length = m := by rw [← ht, List.length_take]; omega
 rw [ht] at hbt
 rw [hm, ht] at hs
 obtain ⟨S, hS⟩ : ∃ S, w.heap.size = S := ⟨_, rfl⟩
 have HK : Hid (∀ V, Below S w V → Kit V) := fun V hb => hk.below (by rw [hS]; exact hb)
 have hes : errOf e = .iface 43 (.int .i64 (e : Int)) := if_neg he
 have HSC0 := ScanP_run A m cap t (a : Int) k z e w w.heap.size hbt htl (by omega) hmc hk.1 hk.2.1 hk.2.2 hs
 rw [hes] at HSC0
 have HSC := Lib.hid HSC0
 have HWK := Lib.hid (fun V (hV : Kit V) => works10_run V hV)
 have HB0 : Hid (Below S w w) := Below.refl _ _
 have HS := Lib.hid hS
 have hwr : IntKind.i64.wrap (a : Int) = (a : Int) := by rw [IntKind.wrap_i64]; omega
 rw [hS]
 clear hb hbt hn hk ht hm htl hs hes HSC0 he
 go_enter Tryd.func5, Tryd.ntmps5
 go_wp2_with fail
 refine (HSC.out).mono ?_
 rintro e1 w1 ⟨rfl, hw⟩
 have B1 := Lib.hid (HB0.out.trans (hw.mono (by have := HS.out; omega)))
 have Z1 : Hid (S ≤ w1.heap.size) := by show _ ≤ _; have := HS.out; have := hw.size; omega
 clear hw hS
 go_wp2_with fail
 refine (HWK.out _ (HK.out _ B1.out)).mono ?_
 rintro e w2 ⟨rfl, hw⟩
 have B2 := Lib.hid (B1.out.trans (hw.mono Z1.out))
 have Z2 : Hid (S ≤ w2.heap.size) := Nat.le_trans Z1.out hw.size
 clear hw
 go_wp2_with fail
 go_ret
 exact ⟨rfl, B2.out⟩
set_option maxRecDepth 100000 in
set_option maxHeartbeats 4000000 in
theorem Alone_ok (b o n cap : Nat) (l : List UInt8) (a : Nat) (w : World) (hb : Byts w w.heap.size (some ⟨b, o, none⟩) (bi l)) (hn : l.length = n) (hcap : n ≤ cap) (_hcm : cap ≤ 9223372036854775807) (ha : a ≤ 255) (hk : Kit w) (k z : Nat) (hs : scanI (l.take (min n 60)) (a : Int) = (k, z, 0)) :
  Calls Tryd.prog 5 #[.slice (some ⟨b, o, none⟩) n cap, .int .u8 (a : Int)] w fun e w' => e = .returned (.bool true) ∧ Below w.heap.size w w' := by
 obtain ⟨m, hm⟩ : ∃ m, min n 60 = m := ⟨_, rfl⟩
 have hmz : min (n : Int) 60 = (m : Int) := by omega
 have hmn : m ≤ n := by omega
 have hmc : m ≤ cap := by omega
 have hm60 : m ≤ 60 := by omega
 have hbt := hb.take m
 rw [bi_take] at hbt
 obtain ⟨t, ht⟩ : ∃ t, l.take m = t := ⟨_, rfl⟩
 have htl : t.length = m := by rw [← ht, List.length_take]; omega
 rw [ht] at hbt
 rw [hm, ht] at hs
 obtain ⟨hz2, haz, hs2, k2, z2, hs3⟩ := scan_alone hs
 rw [htl] at haz
 obtain ⟨S, hS⟩ : ∃ S, w.heap.size = S := ⟨_, rfl⟩
 have HK : Hid (∀ V, Below S w V → Kit V) := fun V hb => hk.below (by rw [hS]; exact hb)
 have HSC : Hid (Calls Tryd.prog 13 #[.slice (some ⟨b, o, none⟩) m cap, .int .i64 (a : Int)] w fun en w' => en = .returned (.tuple #[.int .i64 (k : Int), .int .i64 (z : Int), .nilIface]) ∧ Below w.heap.size w w') := ScanP_run (some ⟨b, o, none⟩) m cap t (a : Int) k z 0 w w.heap.size hbt htl (by omega) hmc hk.1 hk.2.1 hk.2.2 hs
 have hbo := (hbt.dropB (by omega) a).take z
 rw [bi_take] at hbo
 have hbo2 := hbo.take (z - 1)
 rw [bi_take] at hbo2
 have hol : ((t.drop a).take z).length = z := by rw [List.length_take, List.length_drop]; omega
 have HSC2 : Hid (∀ V, Below S w V → Calls Tryd.prog 13 #[.slice (some ⟨b, o + a, none⟩) z (cap - a), .int .i64 0] V fun en w' => en = .returned (.tuple #[.int .i64 (k : Int), .int .i64 (z : Int), .nilIface]) ∧ Below V.heap.size V w') := fun V hV => by
  have hVk := hk.below (by rw [hS]; exact hV)
  exact ScanP_run (some ⟨b, o + a, none⟩) z (cap - a) _ 0 k z 0 V w.heap.size (hbo.below (by rw [hS]; exact hV) (Nat.le_refl _)) hol (by omega) (by omega) hVk.1 hVk.2.1 hVk.2.2 hs2
 obtain ⟨z1, hz1⟩ : ∃ z1, z - 1 = z1 := ⟨_, rfl⟩
 have hz1z : (z : Int) - 1 = (z1 : Int) := by omega
 rw [hz1] at hs3 hbo2
 have HSC3 : Hid (∀ V, Below S w V → Calls Tryd.prog 13 #[.slice (some ⟨b, o + a, none⟩) z1 (cap - a), .int .i64 0] V fun en w' => en = .returned (.tuple #[.int .i64 (k2 : Int), .int .i64 (z2 : Int), .iface 43 (.int .i64 12)]) ∧ Below V.heap.size V w') := fun V hV => by
  have hVk := hk.below (by rw [hS]; exact hV)
  exact ScanP_run (some ⟨b, o + a, none⟩) z1 (cap - a) _ 0 k2 z2 12 V w.heap.size (hbo2.below (by rw [hS]; exact hV) (Nat.le_refl _)) (by rw [List.length_take, hol]; omega) (by omega) (by omega) hVk.1 hVk.2.1 hVk.2.2 hs3
 have HWK := Lib.hid (fun V (hV : Kit V) => works10_run V hV)
 have HB0 : Hid (Below S w w) := Below.refl _ _
 have HS := Lib.hid hS
 have hwr : IntKind.i64.wrap (a : Int) = (a : Int) := by rw [IntKind.wrap_i64]; omega
 have hsum : (a : Int) + (z : Int) = ((a + z : Nat) : Int) := by omega
 obtain ⟨s, hss⟩ : ∃ s, a + z = s := ⟨_, rfl⟩
 have hsz : s - a = z := by omega
 have has : a ≤ s := by omega
 have hsm : s ≤ m := by omega
 have hsc : s ≤ cap := by omega
 have hnz2 : ¬ (z : Int) < 2 := by omega
 have hngt : ¬ (m : Int) < (s : Int) := by omega
 have hca : cap ≠ a := by omega
 have hac : a ≤ cap := by omega
 have hz1c : z1 ≤ cap - a := by omega
 have hz1n : z1 ≤ z := by omega
 rw [hss] at hsum
 rw [hS]
 clear hb hbt hn hk ht hm htl hs hs2 hs3 hbo hbo2 hol hz1 hss haz
 go_enter Tryd.func5, Tryd.ntmps5
 go_wp2_with fail
 refine (HSC.out).mono ?_
 rintro e1 w1 ⟨rfl, hw⟩
 have B1 := Lib.hid (HB0.out.trans (hw.mono (by have := HS.out; omega)))
 have Z1 : Hid (S ≤ w1.heap.size) := by show _ ≤ _; have := HS.out; have := hw.size; omega
 clear hw hS
 go_wp2_with fail
 refine (HSC2.out _ B1.out).mono ?_
 rintro e2 w2 ⟨rfl, hw⟩
 have B2 := Lib.hid (B1.out.trans (hw.mono Z1.out))
 have Z2 : Hid (S ≤ w2.heap.size) := Nat.le_trans Z1.out hw.size
 clear hw
 go_wp2_with fail
 refine (HSC3.out _ B2.out).mono ?_
 rintro e3 w3 ⟨rfl, hw⟩
 have B3 := Lib.hid (B2.out.trans (hw.mono Z2.out))
 have Z3 : Hid (S ≤ w3.heap.size) := Nat.le_trans Z2.out hw.size
 clear hw
 go_wp2_with fail
 refine (HWK.out _ (HK.out _ B3.out)).mono ?_
 rintro e w4 ⟨rfl, hw⟩
 have B4 := Lib.hid (B3.out.trans (hw.mono Z3.out))
 have Z4 : Hid (S ≤ w4.heap.size) := Nat.le_trans Z3.out hw.size
 clear hw
 go_wp2_with fail
 go_ret
 exact ⟨rfl, B4.out⟩
theorem Alone_law (A : Option Addr) (n cap : Nat) (l : List UInt8) (a : Nat) (w : World) (hb : Byts w w.heap.size A (bi l)) (hn : l.length = n) (hcap : n ≤ cap) (hcm : cap ≤ 9223372036854775807) (ha : a ≤ 255) (hk : Kit w) :
  Calls Tryd.prog 5 #[.slice A n cap, .int .u8 (a : Int)] w fun e w' => e = .returned (.bool true) ∧ Below w.heap.size w w' := by
 obtain ⟨k, z, e, hs⟩ : ∃ k z e, scanI (l.take (min n 60)) (a : Int) = (k, z, e) := ⟨_, _, _, rfl⟩
 by_cases he : e = 0
 ·subst he
  have h1 := scan_alone hs
  obtain ⟨b, o, rfl⟩ := hb.some (by have := h1.2.1; rw [List.length_take] at this; omega)
  exact Alone_ok b o n cap l a w hb hn hcap hcm ha hk k z hs
 ·exact Alone_err A n cap l a w hb hn hcap hcm ha hk k z e hs he
end Go.Proofs.YtcieibidnpemjaaDoor
namespace Go.Proofs.YtcieibidnpemjaaDoor
open Go.RowKit Go.Sort
set_option linter.unusedSimpArgs false
set_option maxRecDepth 100000 in
set_option maxHeartbeats 4000000 in
theorem Reads_law (s : ByteArray) (w : World) (hsz : s.size ≤ 9223372036854775807) (hk : Kit w) :
  Calls Tryd.prog 3 #[.string s] w fun e w' => e = .returned (.bool true) ∧ Below w.heap.size w w' := by
 obtain ⟨m, hm⟩ : ∃ m, min s.size 60 = m := ⟨_, rfl⟩
 have hmz : min (s.size : Int) 60 = (m : Int) := by omega
 have hms : m ≤ s.size := by omega
 have hm60 : m ≤ 60 := by omega
 have hex : s.extract 0 m = bs (s.data.toList.take m) := by have := bs_to s.data.toList m; rwa [bs_of] at this
 obtain ⟨t, htt⟩ : ∃ t, s.data.toList.take m = t := ⟨_, rfl⟩
 have htl : t.length ≤ 60 := by rw [← htt, List.length_take]; omega
 have htm : t.length ≤ 100000 := by omega
 rw [htt] at hex
 obtain ⟨r, k, hc⟩ : ∃ r k, charF t = (r, k) := ⟨_, _, rfl⟩
 obtain ⟨kt, y, hx⟩ : ∃ kt y, textF t = (kt, y) := ⟨_, _, rfl⟩
 have hr := charF_r hc
 have hkc : k ≤ 25 := by have := charF_le t; rw [hc] at this; exact Nat.le_trans this (by decide)
 have hkt := textF_le hx
 obtain ⟨S, hS⟩ : ∃ S, w.heap.size = S := ⟨_, rfl⟩
 have HK : Hid (∀ V, Below S w V → Kit V) := fun V hb => hk.below (by rw [hS]; exact hb)
 have HC := Lib.hid (fun V (hV : Kit V) => CharP_run t r k V htm hV.1 hV.2.1 hc)
 have HCD := Lib.hid (fun V => Char_run t r k V htm hc)
 have HT := Lib.hid (fun V (hV : Kit V) => TextP_run t kt y V htm hV.1 hV.2.1 hV.2.2 hx)
 have HTD := Lib.hid (fun V => TextD_run t kt y V htm hx)
 have HCO := Lib.hid (fun V => code_errOf k hkc V)
 have HCT := Lib.hid (fun V => code_errOf kt hkt V)
 have HWK := Lib.hid (fun V (hV : Kit V) => works10_run V hV)
 have HS := Lib.hid hS
 have HB0 : Hid (Below S w w) := Below.refl _ _
 have hwr : IntKind.i64.wrap r = r := by rw [IntKind.wrap_i64]; omega
 have HK0 : Hid (Kit w) := hk
 rw [hS]
 clear hc hx hkc hkt hk htt hm htl htm hr
 generalize bs t = z at *
 generalize bs y = yz at *
 generalize errOf k = ek at *
 generalize errOf kt = et at *
 go_enter Tryd.func3, Tryd.ntmps3
 go_wp2_with fail
 refine (HC.out _ HK0.out).mono ?_
 rintro e w1 ⟨rfl, hw⟩
 have B1 := Lib.hid (HB0.out.trans (hw.mono (by have := HS.out; omega)))
 have Z1 : Hid (S ≤ w1.heap.size) := by show _ ≤ _; have := HS.out; have := hw.size; omega
 clear hw hS
 go_wp2_with fail
 refine (HCD.out _).mono ?_
 rintro e w2 ⟨rfl, hw⟩
 have B2 := Lib.hid (B1.out.trans (hw.mono Z1.out))
 have Z2 : Hid (S ≤ w2.heap.size) := Nat.le_trans Z1.out hw.size
 clear hw
 go_wp2_with fail
 refine (HT.out _ (HK.out _ B2.out)).mono ?_
 rintro e w3 ⟨rfl, hw⟩
 have B3 := Lib.hid (B2.out.trans (hw.mono Z2.out))
 have Z3 : Hid (S ≤ w3.heap.size) := Nat.le_trans Z2.out hw.size
 clear hw
 go_wp2_with fail
 refine (HTD.out _).mono ?_
 rintro e w4 ⟨rfl, hw⟩
 have B4 := Lib.hid (B3.out.trans (hw.mono Z3.out))
 have Z4 : Hid (S ≤ w4.heap.size) := Nat.le_trans Z3.out hw.size
 clear hw
 go_wp2_with fail
 refine (HCO.out _).mono ?_
 rintro e w5 ⟨rfl, hw⟩
 have B5 := Lib.hid (B4.out.trans (hw.mono Z4.out))
 have Z5 : Hid (S ≤ w5.heap.size) := Nat.le_trans Z4.out hw.size
 clear hw
 go_wp2_with fail
 refine (HCT.out _).mono ?_
 rintro e w6 ⟨rfl, hw⟩
 have B6 := Lib.hid (B5.out.trans (hw.mono Z5.out))
 have Z6 : Hid (S ≤ w6.heap.size) := Nat.le_trans Z5.out hw.size
 clear hw
 go_wp2_with fail
 refine (HWK.out _ (HK.out _ B6.out)).mono ?_
 rintro e w7 ⟨rfl, hw⟩
 have B7 := Lib.hid (B6.out.trans (hw.mono Z6.out))
 have Z7 : Hid (S ≤ w7.heap.size) := Nat.le_trans Z6.out hw.size
 clear hw
 go_wp2_with fail
 go_ret
 exact ⟨rfl, B7.out⟩
end Go.Proofs.YtcieibidnpemjaaDoor
namespace Go.Proofs.YtcieibidnpemjaaDoor
open Go.RowKit Go.Sort
theorem reads_any (s : ByteArray) (W : World) (hsz : s.size ≤ 9223372036854775807) (hs : Ml W) (hh : Heads W ∧ ErrVars W) :
  Calls Tryd.prog 3 #[.string s] W fun e w' => e = .returned (.bool true) ∧ Below W.heap.size W w' := Reads_law s W hsz ⟨hh.2, hh.1, hs⟩
theorem writes_any (s : ByteArray) (A : Option Addr) (n cap : Nat) (l : List Int) (W : World) (hb : Byts W W.heap.size A l) (hl : l.length = n) (hc : n ≤ cap) (hm : cap ≤ 9223372036854775807) (hsz : s.size ≤ 9223372036854775807) (hs : Ml W) (hh : Heads W ∧ ErrVars W) :
  Calls Tryd.prog 4 #[.string s, .slice A n cap] W fun e w' => e = .returned (.bool true) ∧ Below W.heap.size W w' := by
 obtain ⟨m, rfl⟩ := bi_back l hb.1
 rw [bi_length] at hl
 exact Writes_law s A n cap m W hsz hb hl hc hm ⟨hh.2, hh.1, hs⟩
theorem alone_any (A : Option Addr) (n cap : Nat) (l : List Int) (a : Int) (W : World) (hb : Byts W W.heap.size A l) (hl : l.length = n) (hc : n ≤ cap) (hm : cap ≤ 9223372036854775807) (ha0 : 0 ≤ a) (ha1 : a ≤ 255) (hs : Ml W) (hh : Heads W ∧ ErrVars W) :
  Calls Tryd.prog 5 #[.slice A n cap, .int .u8 a] W fun e w' => e = .returned (.bool true) ∧ Below W.heap.size W w' := by
 obtain ⟨m, rfl⟩ := bi_back l hb.1
 obtain ⟨k, rfl⟩ : ∃ k : Nat, a = (k : Int) := ⟨a.toNat, by omega⟩
 rw [bi_length] at hl
 exact Alone_law A n cap m k W hb hl hc hm (by omega) ⟨hh.2, hh.1, hs⟩
end Go.Proofs.YtcieibidnpemjaaDoor
