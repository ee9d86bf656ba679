/-
  A number's own text is read as it: mathematics.
-/
import Derived.Test.YtgoemhcngmpfbaaGreatDoorMv27
import Derived.Test.YtgoemhcngmpfbaaGreatDoorMv19
import Derived.Lib.ItoaNum
import Derived.Test.YtgoemhcngmpfbaaGreatDoorMv20
import Derived.Test.YtgoemhcngmpfbaaGreatDoorMv14
import Derived.Test.YtgoemhcngmpfbaaGreatDoorMv15
import Derived.Test.YtgoemhcngmpfbaaGreatDoorMv26
import Derived.Test.YtgoemhcngmpfbaaGreatDoorMv22
import Derived.Test.YtgoemhcngmpfbaaGreatDoorMv23
import Derived.Test.YtgoemhcngmpfbaaGreatDoorMv16
import Derived.Test.YtgoemhcngmpfbaaGreatDoorMv18
namespace Go.Proofs.YtgoemhcngmpfbaaGreatDoor
open Go.RowKit Go.Sort
set_option linter.unusedSimpArgs false
theorem dig_byte {d : Nat} (h : d < 10) : (UInt8.ofNat (48 + d)).toNat = 48 + d := by
 rw [UInt8.toNat_ofNat']
 omega
theorem dvN_byte {d : Nat} (h : d < 10) : dvN (UInt8.ofNat (48 + d)).toNat = d := by
 rw [dig_byte h]
 unfold dvN
 rw [if_pos (by omega)]
 omega
theorem dd_spec : ∀ n : Nat, (∀ c ∈ Lib.decDigits n, 48 ≤ c.toNat ∧ c.toNat ≤ 57) ∧ num 10 (Lib.decDigits n) = n ∧ Lib.decDigits n ≠ [] ∧ ((Lib.decDigits n)[0]? = some 48 → n = 0) := by
 intro n
 induction n using Nat.strongRecOn with
 | ind n ih =>
  rw [Lib.decDigits]
  by_cases h : n < 10
  ·rw [dif_pos h]
   refine ⟨fun c hc => ?_, ?_, by simp, fun e => ?_⟩
   ·obtain rfl := List.mem_singleton.1 hc
    rw [dig_byte h]; omega
   ·have := num_snoc 10 [] (UInt8.ofNat (48 + n))
    rw [List.nil_append, num_nil, dvN_byte h] at this
    rw [this]; omega
   ·have e2 : UInt8.ofNat (48 + n) = 48 := by simpa using e
    have := congrArg UInt8.toNat e2
    rw [dig_byte h] at this
    have h48 : (48 : UInt8).toNat = 48 := rfl
    omega
  ·rw [dif_neg h]
   obtain ⟨h1, h2, h3, h4⟩ := ih (n / 10) (by omega)
   have hm : n % 10 < 10 := by omega
   refine ⟨fun c hc => ?_, ?_, by simp, fun e => ?_⟩
   ·rcases List.mem_append.1 hc with hc | hc
    ·exact h1 c hc
    ·obtain rfl := List.mem_singleton.1 hc
     rw [dig_byte hm]; omega
   ·rw [num_snoc, h2, dvN_byte hm]; omega
   ·rw [List.getElem?_append_left (List.length_pos_iff.2 h3)] at e
    have := h4 e
    omega
theorem dd_ok (n : Nat) : okDig 10 (Lib.decDigits n) = true := okDig_of fun i c hc => by
 have := (dd_spec n).1 c (List.mem_of_getElem? hc)
 unfold dvN
 rw [if_pos this]
 omega
theorem not_95 {c : UInt8} (h : 48 ≤ c.toNat ∧ c.toNat ≤ 57) : c ≠ 95 := by
 rintro rfl
 have : (95 : UInt8).toNat = 95 := rfl
 omega
theorem unsc_dig {l : List UInt8} (h : ∀ c ∈ l, 48 ≤ c.toNat ∧ c.toNat ≤ 57) : unsc l = l := by
 unfold unsc
 rw [List.filter_eq_self]
 intro c hc
 simpa using not_95 (h c hc)
theorem pfx_dig {l : List UInt8} (h : ∀ c, l[1]? = some c → c = 95 ∨ (48 ≤ c.toNat ∧ c.toNat ≤ 57)) : pfxB l = 0 := by
 match l, h with
 | [], _ => rfl
 | [a], _ => exact pfx_short (by simp)
 | a :: b :: r, h =>
  have hb := h b rfl
  have hne : ∀ k : UInt8, k.toNat ≠ 95 → ¬ (48 ≤ k.toNat ∧ k.toNat ≤ 57) → b ≠ k := by
   rintro k h1 h2 rfl
   rcases hb with rfl | hb
   ·exact h1 rfl
   ·exact h2 hb
  unfold pfxB
  simp [hne 120 (by decide) (by decide), hne 88 (by decide) (by decide), hne 98 (by decide) (by decide), hne 66 (by decide) (by decide), hne 111 (by decide) (by decide), hne 79 (by decide) (by decide)]
theorem isDig_of {c : UInt8} (h : 48 ≤ c.toNat ∧ c.toNat ≤ 57) : isDig c.toNat = true := decide_eq_true h
theorem dec_int (n : Nat) (hn : Fits n) : IntIs (Lib.decDigits n) 0 n := by
 obtain ⟨h1, h2, h3, h4⟩ := dd_spec n
 have hu := unsc_dig h1
 have hk : parK 10 (Lib.decDigits n) = 0 := parK_ok (dd_ok n) h3 (by rw [h2]; exact hn)
 refine .inr ⟨pfx_dig fun c hc => .inr (h1 c (List.mem_of_getElem? hc)), .inr ⟨h3, fun i hi => absurd rfl (not_95 (h1 95 (List.mem_of_getElem? hi))), .inr ?_⟩⟩
 rw [hu, hk, parN_ok hk, h2]
 refine ⟨fun ⟨a, b⟩ => ?_, rfl, rfl⟩
 rw [h4 b] at a
 have : (Lib.decDigits 0).length = 1 := by rw [Lib.decDigits]; rfl
 omega
theorem dec_blank (n k : Nat) (hn : Fits n) (h0 : 0 < k) (hk : k < (Lib.decDigits n).length) : IntIs ((Lib.decDigits n).take k ++ 95 :: (Lib.decDigits n).drop k) 0 n := by
 obtain ⟨h1, h2, h3, h4⟩ := dd_spec n
 have hK : parK 10 (Lib.decDigits n) = 0 := parK_ok (dd_ok n) h3 (by rw [h2]; exact hn)
 have hu : unsc ((Lib.decDigits n).take k ++ 95 :: (Lib.decDigits n).drop k) = Lib.decDigits n := by
  have a := unsc_dig (l := (Lib.decDigits n).take k) fun c hc => h1 c (List.mem_of_mem_take hc)
  have b := unsc_dig (l := (Lib.decDigits n).drop k) fun c hc => h1 c (List.mem_of_mem_drop hc)
  unfold unsc at a b ⊢
  rw [List.filter_append, a, List.filter_cons_of_neg (by decide), b, List.take_append_drop]
 generalize hl : Lib.decDigits n = l at *
 have htk : (l.take k).length = k := by rw [List.length_take]; omega
 have hget : ∀ i c, (l.take k ++ 95 :: l.drop k)[i]? = some c → (i < k ∧ l[i]? = some c) ∨ (i = k ∧ c = 95) ∨ (k < i ∧ l[i - 1]? = some c) := by
  intro i c hc
  by_cases h : i < k
  ·rw [List.getElem?_append_left (by omega), List.getElem?_take_of_lt h] at hc
   exact .inl ⟨h, hc⟩
  ·rw [List.getElem?_append_right (by omega), htk] at hc
   by_cases e : i = k
   ·subst e
    rw [Nat.sub_self] at hc
    exact .inr (.inl ⟨rfl, (Option.some.inj hc).symm⟩)
   ·rw [show i - k = (i - k - 1) + 1 by omega, List.getElem?_cons_succ, List.getElem?_drop, show k + (i - k - 1) = i - 1 by omega] at hc
    exact .inr (.inr ⟨by omega, hc⟩)
 refine .inr ⟨pfx_dig fun c hc => ?_, .inr ⟨by simp, fun i hi => ?_, .inr ?_⟩⟩
 ·rcases hget 1 c hc with ⟨_, h⟩ | ⟨_, h⟩ | ⟨_, h⟩
  ·exact .inr (h1 c (List.mem_of_getElem? h))
  ·exact .inl h
  ·exact .inr (h1 c (List.mem_of_getElem? h))
 ·rcases hget i 95 hi with ⟨_, h⟩ | ⟨rfl, _⟩ | ⟨_, h⟩
  ·exact absurd rfl (not_95 (h1 95 (List.mem_of_getElem? h)))
  ·obtain ⟨a, ha⟩ : ∃ a, l[i - 1]? = some a := ⟨l[i - 1]'(by omega), List.getElem?_eq_getElem (by omega)⟩
   obtain ⟨b, hb⟩ : ∃ b, l[i]? = some b := ⟨l[i]'(by omega), List.getElem?_eq_getElem (by omega)⟩
   refine ⟨a, b, h0, ?_, ?_, isDig_of (h1 a (List.mem_of_getElem? ha)), isDig_of (h1 b (List.mem_of_getElem? hb))⟩
   ·rw [List.getElem?_append_left (by omega), List.getElem?_take_of_lt (by omega)]
    exact ha
   ·rw [List.getElem?_append_right (by omega), htk, show i + 1 - i = 0 + 1 by omega, List.getElem?_cons_succ, List.getElem?_drop]
    exact hb
  ·exact absurd rfl (not_95 (h1 95 (List.mem_of_getElem? h)))
 ·rw [hu, hK, parN_ok hK, h2]
  refine ⟨fun ⟨a, b⟩ => ?_, rfl, rfl⟩
  have hz := h4 b
  subst hz
  have : l.length = 1 := by rw [← hl, Lib.decDigits]; rfl
  omega
end Go.Proofs.YtgoemhcngmpfbaaGreatDoor
namespace Go.Proofs.YtgoemhcngmpfbaaGreatDoor
def TxI (n x : Nat) (l : List UInt8) : Prop := if x = 0 then l = Lib.decDigits n else Lib.decDigits x ++ l = Lib.decDigits n
theorem TxI.start {n : Nat} (h : n ≠ 0) : TxI n n [] := by
 unfold TxI
 rw [if_neg h, List.append_nil]
theorem TxI.step {n x : Nat} {l : List UInt8} (h : TxI n x l) (hx : x ≠ 0) : TxI n (x / 10) (UInt8.ofNat (48 + x % 10) :: l) := by
 unfold TxI at h ⊢
 rw [if_neg hx] at h
 by_cases hs : x < 10
 ·rw [if_pos (by omega)]
  rw [Lib.decDigits_one hs] at h
  rw [← h, Nat.mod_eq_of_lt hs]
  rfl
 ·rw [if_neg (by omega)]
  rw [Lib.decDigits, dif_neg hs] at h
  rw [← h, List.append_assoc]
  rfl
theorem TxI.end {n : Nat} {l : List UInt8} (h : TxI n 0 l) : l = Lib.decDigits n := by
 unfold TxI at h
 rwa [if_pos rfl] at h
end Go.Proofs.YtgoemhcngmpfbaaGreatDoor
namespace Go.Proofs.YtgoemhcngmpfbaaGreatDoor
open Go.RowKit Go.Sort
set_option linter.unusedSimpArgs false
theorem eqi_run {op : Oper} {a : Act} {w : World} {x y : Operand} {u : TypeId} {b : Bool} {s t : Bool} {n m : Nat} (hb : decide (s = t ∧ n = m) = b) (ho : op.op = .binOp .eql 25 x y u) (hx : a.eval x = intV s n) (hy : a.eval y = intV t m)
  (hn : Fits n) (hm : Fits m) : (execOp a.eval op).run Tryz.prog w = .ok (.value (.bool b)) w := by
 rw [← hb]
 unfold execOp
 simp only [ho, hx, hy, Sem.run_bind, Sem.run_pure, Result.andThen_ok, eqg_int, eqInt _ _ _ _ _ hn hm]
end Go.Proofs.YtgoemhcngmpfbaaGreatDoor
namespace Go.Proofs.YtgoemhcngmpfbaaGreatDoor
open Go.RowKit Go.Sort
set_option linter.unusedSimpArgs false
theorem cmpS_refl (s : Bool) (n : Nat) : cmpS s n s n = 0 := by
 unfold cmpS cmpN
 rw [if_neg (Nat.lt_irrefl n), if_neg (Nat.lt_irrefl n)]
 split <;> rfl
theorem txt_dec (n : Nat) : txt false n = bs (Lib.decDigits n) := by
 unfold txt sgn
 rw [Bool.false_and, if_neg (by decide)]
 rfl
theorem enters_IntN : EntersP Tryz.prog 26 := entersP_of Tryz.func26 (by kernel_rfl) rfl
theorem enters_From9 : EntersP Tryz.prog 36 := entersP_of Tryz.func36 (by kernel_rfl) rfl
theorem enters_Cmp9 : EntersP Tryz.prog 35 := entersP_of Tryz.func35 (by kernel_rfl) rfl
theorem enters_works9 : EntersP Tryz.prog 25 := entersP_of Tryz.func25 (by kernel_rfl) rfl
set_option maxRecDepth 100000 in
set_option maxHeartbeats 8000000 in
theorem Decimal_law (s0 : Bool) (n : Nat) (c : Nat) (w : World) (hn : Fits n) (hc : c ≤ 255) (hml : Hid (Ml w)) (ht : Hid (Tab w)) :
  Calls Tryz.prog 7 #[intV s0 n, .int .u8 (c : Int)] w fun e w' => e = .returned (.bool true) ∧ Below w.heap.size w w' := by
 obtain ⟨S, hS⟩ : ∃ S, w.heap.size = S := ⟨_, rfl⟩
 have I0 := (Bs.start w hS).pushInt hS s0 n 25
 obtain ⟨W0, hW⟩ : ∃ W, w.alloc (boxI s0 n 25) = W := ⟨_, rfl⟩
 rw [hW] at I0
 have I := Lib.hid I0
 have HML : Hid (∀ V, Below S w V → Ml V) := fun V hb => hml.out.below (by rw [hS]; exact hb)
 have HTB : Hid (∀ V, Below S w V → Tab V) := fun V hb => ht.out.below (by rw [hS]; exact hb)
 clear I0 hml ht
 rw [hS]
 have hlen : (Lib.decDigits n).length ≤ 160 := by have := decS_le hn; unfold decS at this; simp [ByteArray.size] at this; omega
 have hne := (dd_spec n).2.2.1
 have hint := dec_int n hn
 have hbl := fun k => dec_blank n k hn
 have hT : ∀ V, Tab V → Calls Tryz.prog 33 #[intV false n] V fun e w' => e = .returned (.string (bs (Lib.decDigits n))) ∧ Below V.heap.size V w' := fun V hV => by
  have := Text_run false n V hn hV
  rwa [txt_dec] at this
 generalize Lib.decDigits n = l at *
 obtain ⟨m, hm⟩ : ∃ m, l.length = m := ⟨_, rfl⟩
 have hm0 : 0 < m := by rw [← hm]; exact List.length_pos_iff.2 hne
 rw [hm] at hlen
 have HT := Lib.hid hT
 have HI : Hid (∀ V, Ml V → Calls Tryz.prog 26 #[.string (bs l)] V fun e w' => e = .returned (.tuple #[intV false n, .nilIface]) ∧ Below V.heap.size V w') := fun V hV => Int_run l 0 n V (by omega) hint hV
 have HCM := Lib.hid (fun V => Cmp_run false n false n 0 V hn hn (cmpS_refl false n))
 have hsz := bs_size l
 rw [hm] at hsz
 have hmz : ((m : Int) == 0) = false := beq_eq_false_iff_ne.2 (by omega)
 have hmz2 : ¬ (m : Int) = 0 := by omega
 obtain ⟨k, hk⟩ : ∃ k, c % m = k := ⟨_, rfl⟩
 have hkm : k < m := by rw [← hk]; exact Nat.mod_lt _ hm0
 have hrem : Int.tmod (c : Int) (m : Int) = (k : Int) := by rw [← hk]; exact Int.ofNat_tmod c m
 clear hT hne hint hk
 go_enter Tryz.func7, Tryz.ntmps7
 have HA := Lib.hid (I.out.int 0 rfl)
 go_wp2_with (first | (with_reducible refine wpList_box_int rfl (.tmp 0) rfl rfl ?_) | (with_reducible refine wpList_val (v := wordsV n) rfl (ld_words (.tmp 11) rfl rfl HA.out.o) ?_) | (with_reducible refine wpList_val (v := intV false n) rfl (build_words rfl rfl) ?_))
 refine (HT.out _ (HTB.out _ I.out.bl)).mono ?_
 rintro e w1 ⟨rfl, hw⟩
 have I1 := Lib.hid (I.out.below hw)
 clear hw I hW HA HT
 go_wp2_with fail
 refine (HI.out _ (HML.out _ I1.out.bl)).mono ?_
 rintro e w2 ⟨rfl, hw⟩
 have I2 := Lib.hid (I1.out.below hw)
 clear hw I1 HI
 obtain ⟨N, hN⟩ : ∃ N, w2.heap.size = N := ⟨_, rfl⟩
 have J3 := I2.out.pushIntZ hN 25
 obtain ⟨a2, ha⟩ : ∃ x, w2.alloc (boxIZ 25) = x := ⟨_, rfl⟩
 rw [ha] at J3
 have H3 := Lib.hid (J3.int 0 rfl)
 have I3 := Lib.hid (J3.putInt 0 rfl false n rfl)
 clear J3 I2
 go_upto_region 3 with (with_reducible refine wpList_store_int rfl (.tmp 6) (.tmp 18) rfl (b := N) (s := false) (n := n) rfl rfl H3.out ?_)
 clear H3 ha hN
 generalize st9 a2 N false n = w3 at *
 have HA := Lib.hid (I3.out.int 0 rfl)
 have HB := Lib.hid (I3.out.int 1 rfl)
 go_wp2_with (first | (with_reducible refine wpList_val (v := intV false n) rfl (ld_int (.tmp 6) rfl rfl HA.out.o) ?_) | (with_reducible refine wpList_val (v := wordsV n) rfl (ld_words (.tmp 29) rfl rfl HB.out.o) ?_) | (with_reducible refine wpList_val (v := intV false n) rfl (build_words rfl rfl) ?_))
 refine (HCM.out _).mono ?_
 rintro e w4 ⟨rfl, hw⟩
 have I4 := Lib.hid (I3.out.below hw)
 clear hw I3 HA HB HCM
 by_cases hk0 : k = 0
 ·subst hk0
  rw [Int.natCast_zero] at hrem
  clear hbl
  go_wp2_with fail
  refine (works9_run w4 (HML.out _ I4.out.bl) (HTB.out _ I4.out.bl)).mono ?_
  rintro e w5 ⟨rfl, hw⟩
  have I5 := Lib.hid (I4.out.below hw)
  clear hw I4
  go_wp2_with fail
  go_ret
  exact ⟨rfl, I5.out.bl⟩
 ·have hkz : ((k : Int) == 0) = false := beq_eq_false_iff_ne.2 (by omega)
  have hex := bs_to l k
  have hfr := bs_from l k m hm.symm
  have hb2 := hbl k (by omega) (by rw [hm]; exact hkm)
  have hcat : (bs (l.take k) ++ (⟨#[95]⟩ : ByteArray)) ++ bs (l.drop k) = bs (l.take k ++ 95 :: l.drop k) := by
   rw [show (⟨#[95]⟩ : ByteArray) = bs [95] from rfl, bs_app, bs_app, List.append_assoc]
   rfl
  have HI : Hid (∀ V, Ml V → Calls Tryz.prog 26 #[.string ((bs (l.take k) ++ (⟨#[95]⟩ : ByteArray)) ++ bs (l.drop k))] V fun e w' => e = .returned (.tuple #[intV false n, .nilIface]) ∧ Below V.heap.size V w') := fun V hV => by
   rw [hcat]
   exact Int_run _ 0 n V (by rw [List.length_append, List.length_cons, List.length_take, List.length_drop]; omega) hb2 hV
  have s1 : (bs (l.take k)).size ≤ 160 := by rw [bs_size, List.length_take]; omega
  have s2 : (bs (l.drop k)).size ≤ 160 := by rw [bs_size, List.length_drop]; omega
  have HFR : Hid (∀ V, Calls Tryz.prog 36 #[intV false n] V (NumOut false (nl n) n V)) := fun V =>
   (From_run false false n (nl n) V hn (by show _ = _; unfold sgn; rw [Bool.false_and]) rfl).mono fun e w' h => by
    obtain ⟨A, cap, rfl, h1, h2, h3⟩ := h
    exact NumOut.mk ⟨h2, rfl, h1, by unfold sgn; rw [Bool.false_and]⟩ h3
  obtain ⟨L, hL⟩ : ∃ L, nl n = L := ⟨_, rfl⟩
  rw [hL] at HFR
  clear hbl hb2 hcat hL
  generalize bs (l.take k) = x at *
  generalize bs (l.drop k) = y at *
  generalize bs l = z at *
  have HN := Lib.hid hn
  clear hn
  go_upto_region 8 with fail
  refine rg_begin (fun _ => True) (by kernel_rfl) trivial (fun hS => ?_)
  have hI := I4.out.drew
  clear I4
  generalize w4.drew = V0 at *
  have hkm2 : ¬ m < k := by omega
  have hx1 : x.size + 1 ≤ 9223372036854775807 := by omega
  have hx2 : x.size + 1 + y.size ≤ 9223372036854775807 := by omega
  refine rg_take 0 (.string z) rfl (by kernel_rfl) (by kernel_rfl) (by kernel_rfl) (fun _ _ _ h => h) rfl (fun w _ => ?_) hS ?_
  ·go_simp
  simp only [List.getElem_toArray, List.getElem_cons_zero, List.getElem_cons_succ, Act.put, List.setIfInBounds_toArray, List.set_cons_zero, List.set_cons_succ]
  refine rg_take 1 (.int .i64 (k : Int)) rfl (by kernel_rfl) (by kernel_rfl) (by kernel_rfl) (fun _ _ _ h => h) rfl (fun w _ => ?_) hS ?_
  ·go_simp
  simp only [List.getElem_toArray, List.getElem_cons_zero, List.getElem_cons_succ, Act.put, List.setIfInBounds_toArray, List.set_cons_zero, List.set_cons_succ]
  refine rg_take 2 (.string x) rfl (by kernel_rfl) (by kernel_rfl) (by kernel_rfl) (fun _ _ _ h => h) rfl (fun w _ => ?_) hS ?_
  ·go_simp
  simp only [List.getElem_toArray, List.getElem_cons_zero, List.getElem_cons_succ, Act.put, List.setIfInBounds_toArray, List.set_cons_zero, List.set_cons_succ]
  refine rg_take 3 (.string (x ++ (⟨#[95]⟩ : ByteArray))) rfl (by kernel_rfl) (by kernel_rfl) (by kernel_rfl) (fun _ _ _ h => h) rfl (fun w _ => ?_) hS ?_
  ·go_simp
  simp only [List.getElem_toArray, List.getElem_cons_zero, List.getElem_cons_succ, Act.put, List.setIfInBounds_toArray, List.set_cons_zero, List.set_cons_succ]
  refine rg_take 4 (.string z) rfl (by kernel_rfl) (by kernel_rfl) (by kernel_rfl) (fun _ _ _ h => h) rfl (fun w _ => ?_) hS ?_
  ·go_simp
  simp only [List.getElem_toArray, List.getElem_cons_zero, List.getElem_cons_succ, Act.put, List.setIfInBounds_toArray, List.set_cons_zero, List.set_cons_succ]
  refine rg_take 5 (.int .i64 (k : Int)) rfl (by kernel_rfl) (by kernel_rfl) (by kernel_rfl) (fun _ _ _ h => h) rfl (fun w _ => ?_) hS ?_
  ·go_simp
  simp only [List.getElem_toArray, List.getElem_cons_zero, List.getElem_cons_succ, Act.put, List.setIfInBounds_toArray, List.set_cons_zero, List.set_cons_succ]
  refine rg_take 6 (.string y) rfl (by kernel_rfl) (by kernel_rfl) (by kernel_rfl) (fun _ _ _ h => h) rfl (fun w _ => ?_) hS ?_
  ·go_simp
  simp only [List.getElem_toArray, List.getElem_cons_zero, List.getElem_cons_succ, Act.put, List.setIfInBounds_toArray, List.set_cons_zero, List.set_cons_succ]
  refine rg_take 7 (.string ((x ++ (⟨#[95]⟩ : ByteArray)) ++ y)) rfl (by kernel_rfl) (by kernel_rfl) (by kernel_rfl) (fun _ _ _ h => h) rfl (fun w _ => ?_) hS ?_
  ·go_simp
  simp only [List.getElem_toArray, List.getElem_cons_zero, List.getElem_cons_succ, Act.put, List.setIfInBounds_toArray, List.set_cons_zero, List.set_cons_succ]
  refine rg_two 8 12 (by kernel_rfl) ?_ ?_
  ·refine rs_of rfl rfl (wp_call rfl enters_IntN rfl (HI.out _ (HML.out _ hI.bl)) (fun V1 hV => ⟨trivial, ?_⟩))
   replace hI := hI.below hV
   clear hV
   simp only [List.getElem_toArray, List.getElem_cons_zero, List.getElem_cons_succ, Act.put, List.setIfInBounds_toArray, List.set_cons_zero, List.set_cons_succ]
   refine rg_take 9 (.tuple #[intV false n, .nilIface]) rfl (by kernel_rfl) (by kernel_rfl) (by kernel_rfl) (fun _ _ _ h => h) rfl (fun w _ => ?_) hS ?_
   ·go_simp
   simp only [List.getElem_toArray, List.getElem_cons_zero, List.getElem_cons_succ, Act.put, List.setIfInBounds_toArray, List.set_cons_zero, List.set_cons_succ]
   refine rg_take 10 (intV false n) rfl (by kernel_rfl) (by kernel_rfl) (by kernel_rfl) (fun _ _ _ h => h) rfl (fun w _ => ?_) hS ?_
   ·go_simp
   simp only [List.getElem_toArray, List.getElem_cons_zero, List.getElem_cons_succ, Act.put, List.setIfInBounds_toArray, List.set_cons_zero, List.set_cons_succ]
   refine rg_take 11 (.nilIface) rfl (by kernel_rfl) (by kernel_rfl) (by kernel_rfl) (fun _ _ _ h => h) rfl (fun w _ => ?_) hS ?_
   ·go_simp
   simp only [List.getElem_toArray, List.getElem_cons_zero, List.getElem_cons_succ, Act.put, List.setIfInBounds_toArray, List.set_cons_zero, List.set_cons_succ]
   refine rg_one 12 (by kernel_rfl) (rs_of rfl rfl (wp_value (alloc_int rfl) ⟨trivial, ?_⟩))
   replace hI := hI.pushIntZ (k := V1.heap.size) rfl 25
   simp only [List.getElem_toArray, List.getElem_cons_zero, List.getElem_cons_succ, Act.put, List.setIfInBounds_toArray, List.set_cons_zero, List.set_cons_succ]
   generalize V1.alloc (boxIZ 25) = V2 at *
   generalize V1.heap.size = Z at *
   refine rg_one 13 (by kernel_rfl) (rs_of rfl rfl (stores_int (.tmp 9) (.tmp 53) rfl (b := Z) (s := false) (n := n) rfl rfl (hI.int 0 rfl) ⟨trivial, ?_⟩))
   replace hI := hI.putInt 0 rfl false n rfl
   simp only [List.getElem_toArray, List.getElem_cons_zero, List.getElem_cons_succ, Act.put, List.setIfInBounds_toArray, List.set_cons_zero, List.set_cons_succ]
   generalize st9 V2 Z false n = V3 at *
   refine rg_take 14 (.nilIface) rfl (by kernel_rfl) (by kernel_rfl) (by kernel_rfl) (fun _ _ _ h => h) rfl (fun w _ => ?_) hS ?_
   ·go_simp
   simp only [List.getElem_toArray, List.getElem_cons_zero, List.getElem_cons_succ, Act.put, List.setIfInBounds_toArray, List.set_cons_zero, List.set_cons_succ]
   refine wpAnyH_done (by kernel_rfl) ?_ _
   (try simp only [Exit.inBlock, Exit.then])
   have I5 := Lib.hid hI
   clear hI
   go_upto_region 9 with fail
   refine rg_begin (fun V => Bs w S [.int Z false n, .int N false n, .int S s0 n] V) (by kernel_rfl) I5.out.drew (fun hS => ?_)
   refine rg_take 0 (.nilIface) rfl (by kernel_rfl) (by kernel_rfl) (by kernel_rfl) (fun _ _ _ h => h) rfl (fun w _ => ?_) hS ?_
   ·go_simp
   simp only [List.getElem_toArray, List.getElem_cons_zero, List.getElem_cons_succ, Act.put, List.setIfInBounds_toArray, List.set_cons_zero, List.set_cons_succ]
   refine rg_take 1 (.bool true) rfl (by kernel_rfl) (by kernel_rfl) (by kernel_rfl) (fun _ _ _ h => h) rfl (fun w _ => ?_) hS ?_
   ·go_simp
   simp only [List.getElem_toArray, List.getElem_cons_zero, List.getElem_cons_succ, Act.put, List.setIfInBounds_toArray, List.set_cons_zero, List.set_cons_succ]
   refine rg_take 2 (.bool true) rfl (by kernel_rfl) (by kernel_rfl) (by kernel_rfl) (fun _ _ _ h => h) rfl (fun w _ => ?_) hS ?_
   ·go_simp
   simp only [List.getElem_toArray, List.getElem_cons_zero, List.getElem_cons_succ, Act.put, List.setIfInBounds_toArray, List.set_cons_zero, List.set_cons_succ]
   refine rg_want 3 (intV false n) rfl (by kernel_rfl) (by kernel_rfl) (by kernel_rfl) (fun _ _ _ h => h) rfl (fun w hSw => ld_int (.tmp 9) rfl rfl (hSw.int 0 rfl).o) hS ?_
   simp only [List.getElem_toArray, List.getElem_cons_zero, List.getElem_cons_succ, Act.put, List.setIfInBounds_toArray, List.set_cons_zero, List.set_cons_succ]
   refine rg_want 4 (intV false n) rfl (by kernel_rfl) (by kernel_rfl) (by kernel_rfl) (fun _ _ _ h => h) rfl (fun w hSw => ld_int (.tmp 6) rfl rfl (hSw.int 1 rfl).o) hS ?_
   simp only [List.getElem_toArray, List.getElem_cons_zero, List.getElem_cons_succ, Act.put, List.setIfInBounds_toArray, List.set_cons_zero, List.set_cons_succ]
   refine rg_want 5 (.bool true) rfl (by kernel_rfl) (by kernel_rfl) (by kernel_rfl) (fun _ _ _ h => h) rfl (fun w hSw => eqi_run (by simp) rfl rfl rfl HN.out HN.out) hS ?_
   simp only [List.getElem_toArray, List.getElem_cons_zero, List.getElem_cons_succ, Act.put, List.setIfInBounds_toArray, List.set_cons_zero, List.set_cons_succ]
   refine rg_take 6 (.bool true) rfl (by kernel_rfl) (by kernel_rfl) (by kernel_rfl) (fun _ _ _ h => h) rfl (fun w _ => ?_) hS ?_
   ·go_simp
   simp only [List.getElem_toArray, List.getElem_cons_zero, List.getElem_cons_succ, Act.put, List.setIfInBounds_toArray, List.set_cons_zero, List.set_cons_succ]
   refine rg_take 7 (.bool true) rfl (by kernel_rfl) (by kernel_rfl) (by kernel_rfl) (fun _ _ _ h => h) rfl (fun w _ => ?_) hS ?_
   ·go_simp
   simp only [List.getElem_toArray, List.getElem_cons_zero, List.getElem_cons_succ, Act.put, List.setIfInBounds_toArray, List.set_cons_zero, List.set_cons_succ]
   refine rg_want 8 (intV false n) rfl (by kernel_rfl) (by kernel_rfl) (by kernel_rfl) (fun _ _ _ h => h) rfl (fun w hSw => ld_int (.tmp 9) rfl rfl (hSw.int 0 rfl).o) hS ?_
   simp only [List.getElem_toArray, List.getElem_cons_zero, List.getElem_cons_succ, Act.put, List.setIfInBounds_toArray, List.set_cons_zero, List.set_cons_succ]
   refine rg_want 10 (intV false n) rfl (by kernel_rfl) (by kernel_rfl) (by kernel_rfl) (fun _ _ _ h => h) rfl (fun w hSw => ld_int (.tmp 6) rfl rfl (hSw.int 1 rfl).o) hS ?_
   simp only [List.getElem_toArray, List.getElem_cons_zero, List.getElem_cons_succ, Act.put, List.setIfInBounds_toArray, List.set_cons_zero, List.set_cons_succ]
   clear I5
   refine rg_one 9 (by kernel_rfl) (rs_want rfl rfl (wp_callx rfl enters_From9 rfl (HFR.out _) (fun q1 V5 hV => ⟨hS.below hV.2, ?_⟩)))
   replace hS := hS.below hV.2
   have hq1 := hV.1
   clear hV
   simp only [List.getElem_toArray, List.getElem_cons_zero, List.getElem_cons_succ, Act.put, List.setIfInBounds_toArray, List.set_cons_zero, List.set_cons_succ]
   refine rg_one 11 (by kernel_rfl) (rs_want rfl rfl (wp_callx rfl enters_From9 rfl (HFR.out _) (fun q2 V6 hV => ⟨hS.below hV.2, ?_⟩)))
   replace hS := hS.below hV.2
   have hq2 := hV.1
   replace hq1 := hq1.below hV.2
   clear hV
   simp only [List.getElem_toArray, List.getElem_cons_zero, List.getElem_cons_succ, Act.put, List.setIfInBounds_toArray, List.set_cons_zero, List.set_cons_succ]
   refine rg_one 12 (by kernel_rfl) (rs_want rfl rfl (wp_call rfl enters_Cmp9 rfl (Cmp_run7 _ _ _ _ _ _ _ _ _ _ 0 V6 hq1 hq2 (cmpS_refl false n)) (fun V7 hV => ⟨hS.below hV, ?_⟩)))
   replace hS := hS.below hV
   clear hV hq1 hq2
   simp only [List.getElem_toArray, List.getElem_cons_zero, List.getElem_cons_succ, Act.put, List.setIfInBounds_toArray, List.set_cons_zero, List.set_cons_succ]
   refine rg_want 13 (.bool true) rfl (by kernel_rfl) (by kernel_rfl) (by kernel_rfl) (fun _ _ _ h => h) rfl (fun w _ => ?_) hS ?_
   ·go_simp
   simp only [List.getElem_toArray, List.getElem_cons_zero, List.getElem_cons_succ, Act.put, List.setIfInBounds_toArray, List.set_cons_zero, List.set_cons_succ]
   refine rg_take 14 (.bool true) rfl (by kernel_rfl) (by kernel_rfl) (by kernel_rfl) (fun _ _ _ h => h) rfl (fun w _ => ?_) hS ?_
   ·go_simp
   simp only [List.getElem_toArray, List.getElem_cons_zero, List.getElem_cons_succ, Act.put, List.setIfInBounds_toArray, List.set_cons_zero, List.set_cons_succ]
   refine rg_take 15 (.bool true) rfl (by kernel_rfl) (by kernel_rfl) (by kernel_rfl) (fun _ _ _ h => h) rfl (fun w _ => ?_) hS ?_
   ·go_simp
   simp only [List.getElem_toArray, List.getElem_cons_zero, List.getElem_cons_succ, Act.put, List.setIfInBounds_toArray, List.set_cons_zero, List.set_cons_succ]
   refine rg_one 16 (by kernel_rfl) (rs_want rfl rfl (wp_call rfl enters_works9 rfl (works9_run V7 (HML.out _ hS.bl) (HTB.out _ hS.bl)) (fun V8 hV => ⟨hS.below hV, ?_⟩)))
   replace hS := hS.below hV
   clear hV
   simp only [List.getElem_toArray, List.getElem_cons_zero, List.getElem_cons_succ, Act.put, List.setIfInBounds_toArray, List.set_cons_zero, List.set_cons_succ]
   refine rg_take 17 (.bool true) rfl (by kernel_rfl) (by kernel_rfl) (by kernel_rfl) (fun _ _ _ h => h) rfl (fun w _ => ?_) hS ?_
   ·go_simp
   simp only [List.getElem_toArray, List.getElem_cons_zero, List.getElem_cons_succ, Act.put, List.setIfInBounds_toArray, List.set_cons_zero, List.set_cons_succ]
   refine rg_take 18 (.bool true) rfl (by kernel_rfl) (by kernel_rfl) (by kernel_rfl) (fun _ _ _ h => h) rfl (fun w _ => ?_) hS ?_
   ·go_simp
   simp only [List.getElem_toArray, List.getElem_cons_zero, List.getElem_cons_succ, Act.put, List.setIfInBounds_toArray, List.set_cons_zero, List.set_cons_succ]
   refine wpAnyH_done (by kernel_rfl) ?_ _
   (try simp only [Exit.inBlock, Exit.then])
   go_wp2_with fail
   go_ret
   exact ⟨rfl, hS.bl⟩
  ·refine rs_of rfl rfl (wp_value (alloc_int rfl) ⟨trivial, ?_⟩)
   replace hI := hI.pushIntZ (k := V0.heap.size) rfl 25
   simp only [List.getElem_toArray, List.getElem_cons_zero, List.getElem_cons_succ, Act.put, List.setIfInBounds_toArray, List.set_cons_zero, List.set_cons_succ]
   generalize V0.alloc (boxIZ 25) = V1 at *
   generalize V0.heap.size = Z at *
   refine rg_one 8 (by kernel_rfl) (rs_of rfl rfl (wp_call rfl enters_IntN rfl (HI.out _ (HML.out _ hI.bl)) (fun V2 hV => ⟨trivial, ?_⟩)))
   replace hI := hI.below hV
   clear hV
   simp only [List.getElem_toArray, List.getElem_cons_zero, List.getElem_cons_succ, Act.put, List.setIfInBounds_toArray, List.set_cons_zero, List.set_cons_succ]
   refine rg_take 9 (.tuple #[intV false n, .nilIface]) rfl (by kernel_rfl) (by kernel_rfl) (by kernel_rfl) (fun _ _ _ h => h) rfl (fun w _ => ?_) hS ?_
   ·go_simp
   simp only [List.getElem_toArray, List.getElem_cons_zero, List.getElem_cons_succ, Act.put, List.setIfInBounds_toArray, List.set_cons_zero, List.set_cons_succ]
   refine rg_take 10 (intV false n) rfl (by kernel_rfl) (by kernel_rfl) (by kernel_rfl) (fun _ _ _ h => h) rfl (fun w _ => ?_) hS ?_
   ·go_simp
   simp only [List.getElem_toArray, List.getElem_cons_zero, List.getElem_cons_succ, Act.put, List.setIfInBounds_toArray, List.set_cons_zero, List.set_cons_succ]
   refine rg_take 11 (.nilIface) rfl (by kernel_rfl) (by kernel_rfl) (by kernel_rfl) (fun _ _ _ h => h) rfl (fun w _ => ?_) hS ?_
   ·go_simp
   simp only [List.getElem_toArray, List.getElem_cons_zero, List.getElem_cons_succ, Act.put, List.setIfInBounds_toArray, List.set_cons_zero, List.set_cons_succ]
   refine rg_one 13 (by kernel_rfl) (rs_of rfl rfl (stores_int (.tmp 9) (.tmp 53) rfl (b := Z) (s := false) (n := n) rfl rfl (hI.int 0 rfl) ⟨trivial, ?_⟩))
   replace hI := hI.putInt 0 rfl false n rfl
   simp only [List.getElem_toArray, List.getElem_cons_zero, List.getElem_cons_succ, Act.put, List.setIfInBounds_toArray, List.set_cons_zero, List.set_cons_succ]
   generalize st9 V2 Z false n = V3 at *
   refine rg_take 14 (.nilIface) rfl (by kernel_rfl) (by kernel_rfl) (by kernel_rfl) (fun _ _ _ h => h) rfl (fun w _ => ?_) hS ?_
   ·go_simp
   simp only [List.getElem_toArray, List.getElem_cons_zero, List.getElem_cons_succ, Act.put, List.setIfInBounds_toArray, List.set_cons_zero, List.set_cons_succ]
   refine wpAnyH_done (by kernel_rfl) ?_ _
   (try simp only [Exit.inBlock, Exit.then])
   have I5 := Lib.hid hI
   clear hI
   go_upto_region 9 with fail
   refine rg_begin (fun V => Bs w S [.int Z false n, .int N false n, .int S s0 n] V) (by kernel_rfl) I5.out.drew (fun hS => ?_)
   refine rg_take 0 (.nilIface) rfl (by kernel_rfl) (by kernel_rfl) (by kernel_rfl) (fun _ _ _ h => h) rfl (fun w _ => ?_) hS ?_
   ·go_simp
   simp only [List.getElem_toArray, List.getElem_cons_zero, List.getElem_cons_succ, Act.put, List.setIfInBounds_toArray, List.set_cons_zero, List.set_cons_succ]
   refine rg_take 1 (.bool true) rfl (by kernel_rfl) (by kernel_rfl) (by kernel_rfl) (fun _ _ _ h => h) rfl (fun w _ => ?_) hS ?_
   ·go_simp
   simp only [List.getElem_toArray, List.getElem_cons_zero, List.getElem_cons_succ, Act.put, List.setIfInBounds_toArray, List.set_cons_zero, List.set_cons_succ]
   refine rg_take 2 (.bool true) rfl (by kernel_rfl) (by kernel_rfl) (by kernel_rfl) (fun _ _ _ h => h) rfl (fun w _ => ?_) hS ?_
   ·go_simp
   simp only [List.getElem_toArray, List.getElem_cons_zero, List.getElem_cons_succ, Act.put, List.setIfInBounds_toArray, List.set_cons_zero, List.set_cons_succ]
   refine rg_want 3 (intV false n) rfl (by kernel_rfl) (by kernel_rfl) (by kernel_rfl) (fun _ _ _ h => h) rfl (fun w hSw => ld_int (.tmp 9) rfl rfl (hSw.int 0 rfl).o) hS ?_
   simp only [List.getElem_toArray, List.getElem_cons_zero, List.getElem_cons_succ, Act.put, List.setIfInBounds_toArray, List.set_cons_zero, List.set_cons_succ]
   refine rg_want 4 (intV false n) rfl (by kernel_rfl) (by kernel_rfl) (by kernel_rfl) (fun _ _ _ h => h) rfl (fun w hSw => ld_int (.tmp 6) rfl rfl (hSw.int 1 rfl).o) hS ?_
   simp only [List.getElem_toArray, List.getElem_cons_zero, List.getElem_cons_succ, Act.put, List.setIfInBounds_toArray, List.set_cons_zero, List.set_cons_succ]
   refine rg_want 5 (.bool true) rfl (by kernel_rfl) (by kernel_rfl) (by kernel_rfl) (fun _ _ _ h => h) rfl (fun w hSw => eqi_run (by simp) rfl rfl rfl HN.out HN.out) hS ?_
   simp only [List.getElem_toArray, List.getElem_cons_zero, List.getElem_cons_succ, Act.put, List.setIfInBounds_toArray, List.set_cons_zero, List.set_cons_succ]
   refine rg_take 6 (.bool true) rfl (by kernel_rfl) (by kernel_rfl) (by kernel_rfl) (fun _ _ _ h => h) rfl (fun w _ => ?_) hS ?_
   ·go_simp
   simp only [List.getElem_toArray, List.getElem_cons_zero, List.getElem_cons_succ, Act.put, List.setIfInBounds_toArray, List.set_cons_zero, List.set_cons_succ]
   refine rg_take 7 (.bool true) rfl (by kernel_rfl) (by kernel_rfl) (by kernel_rfl) (fun _ _ _ h => h) rfl (fun w _ => ?_) hS ?_
   ·go_simp
   simp only [List.getElem_toArray, List.getElem_cons_zero, List.getElem_cons_succ, Act.put, List.setIfInBounds_toArray, List.set_cons_zero, List.set_cons_succ]
   refine rg_want 8 (intV false n) rfl (by kernel_rfl) (by kernel_rfl) (by kernel_rfl) (fun _ _ _ h => h) rfl (fun w hSw => ld_int (.tmp 9) rfl rfl (hSw.int 0 rfl).o) hS ?_
   simp only [List.getElem_toArray, List.getElem_cons_zero, List.getElem_cons_succ, Act.put, List.setIfInBounds_toArray, List.set_cons_zero, List.set_cons_succ]
   refine rg_want 10 (intV false n) rfl (by kernel_rfl) (by kernel_rfl) (by kernel_rfl) (fun _ _ _ h => h) rfl (fun w hSw => ld_int (.tmp 6) rfl rfl (hSw.int 1 rfl).o) hS ?_
   simp only [List.getElem_toArray, List.getElem_cons_zero, List.getElem_cons_succ, Act.put, List.setIfInBounds_toArray, List.set_cons_zero, List.set_cons_succ]
   clear I5
   refine rg_one 9 (by kernel_rfl) (rs_want rfl rfl (wp_callx rfl enters_From9 rfl (HFR.out _) (fun q1 V5 hV => ⟨hS.below hV.2, ?_⟩)))
   replace hS := hS.below hV.2
   have hq1 := hV.1
   clear hV
   simp only [List.getElem_toArray, List.getElem_cons_zero, List.getElem_cons_succ, Act.put, List.setIfInBounds_toArray, List.set_cons_zero, List.set_cons_succ]
   refine rg_one 11 (by kernel_rfl) (rs_want rfl rfl (wp_callx rfl enters_From9 rfl (HFR.out _) (fun q2 V6 hV => ⟨hS.below hV.2, ?_⟩)))
   replace hS := hS.below hV.2
   have hq2 := hV.1
   replace hq1 := hq1.below hV.2
   clear hV
   simp only [List.getElem_toArray, List.getElem_cons_zero, List.getElem_cons_succ, Act.put, List.setIfInBounds_toArray, List.set_cons_zero, List.set_cons_succ]
   refine rg_one 12 (by kernel_rfl) (rs_want rfl rfl (wp_call rfl enters_Cmp9 rfl (Cmp_run7 _ _ _ _ _ _ _ _ _ _ 0 V6 hq1 hq2 (cmpS_refl false n)) (fun V7 hV => ⟨hS.below hV, ?_⟩)))
   replace hS := hS.below hV
   clear hV hq1 hq2
   simp only [List.getElem_toArray, List.getElem_cons_zero, List.getElem_cons_succ, Act.put, List.setIfInBounds_toArray, List.set_cons_zero, List.set_cons_succ]
   refine rg_want 13 (.bool true) rfl (by kernel_rfl) (by kernel_rfl) (by kernel_rfl) (fun _ _ _ h => h) rfl (fun w _ => ?_) hS ?_
   ·go_simp
   simp only [List.getElem_toArray, List.getElem_cons_zero, List.getElem_cons_succ, Act.put, List.setIfInBounds_toArray, List.set_cons_zero, List.set_cons_succ]
   refine rg_take 14 (.bool true) rfl (by kernel_rfl) (by kernel_rfl) (by kernel_rfl) (fun _ _ _ h => h) rfl (fun w _ => ?_) hS ?_
   ·go_simp
   simp only [List.getElem_toArray, List.getElem_cons_zero, List.getElem_cons_succ, Act.put, List.setIfInBounds_toArray, List.set_cons_zero, List.set_cons_succ]
   refine rg_take 15 (.bool true) rfl (by kernel_rfl) (by kernel_rfl) (by kernel_rfl) (fun _ _ _ h => h) rfl (fun w _ => ?_) hS ?_
   ·go_simp
   simp only [List.getElem_toArray, List.getElem_cons_zero, List.getElem_cons_succ, Act.put, List.setIfInBounds_toArray, List.set_cons_zero, List.set_cons_succ]
   refine rg_one 16 (by kernel_rfl) (rs_want rfl rfl (wp_call rfl enters_works9 rfl (works9_run V7 (HML.out _ hS.bl) (HTB.out _ hS.bl)) (fun V8 hV => ⟨hS.below hV, ?_⟩)))
   replace hS := hS.below hV
   clear hV
   simp only [List.getElem_toArray, List.getElem_cons_zero, List.getElem_cons_succ, Act.put, List.setIfInBounds_toArray, List.set_cons_zero, List.set_cons_succ]
   refine rg_take 17 (.bool true) rfl (by kernel_rfl) (by kernel_rfl) (by kernel_rfl) (fun _ _ _ h => h) rfl (fun w _ => ?_) hS ?_
   ·go_simp
   simp only [List.getElem_toArray, List.getElem_cons_zero, List.getElem_cons_succ, Act.put, List.setIfInBounds_toArray, List.set_cons_zero, List.set_cons_succ]
   refine rg_take 18 (.bool true) rfl (by kernel_rfl) (by kernel_rfl) (by kernel_rfl) (fun _ _ _ h => h) rfl (fun w _ => ?_) hS ?_
   ·go_simp
   simp only [List.getElem_toArray, List.getElem_cons_zero, List.getElem_cons_succ, Act.put, List.setIfInBounds_toArray, List.set_cons_zero, List.set_cons_succ]
   refine wpAnyH_done (by kernel_rfl) ?_ _
   (try simp only [Exit.inBlock, Exit.then])
   go_wp2_with fail
   go_ret
   exact ⟨rfl, hS.bl⟩
end Go.Proofs.YtgoemhcngmpfbaaGreatDoor
namespace Go.Proofs.YtgoemhcngmpfbaaGreatDoor
open Go.RowKit Go.Sort
theorem decimal_any (s : Bool) (n : Nat) (a : Int) (W : World) (hn : Fits n) (ha0 : 0 ≤ a) (ha1 : a ≤ 255) (hs : Ml W) (hh : Tab W) :
  Calls Tryz.prog 7 #[intV s n, .int .u8 a] W fun e w' => e = .returned (.bool true) ∧ Below W.heap.size W w' := by
 obtain ⟨k, rfl⟩ : ∃ k : Nat, a = (k : Int) := ⟨a.toNat, by omega⟩
 exact Decimal_law s n k W hn (by omega) hs hh
end Go.Proofs.YtgoemhcngmpfbaaGreatDoor
