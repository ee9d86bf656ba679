/-
  number's Int and asRatio.
-/
import Derived.Test.YtgoemhcngmpfbaaGreatDoorMv18
import Derived.Test.YtgoemhcngmpfbaaGreatDoorMv20
import Derived.Test.YtgoemhcngmpfbaaGreatDoorMv14
namespace Go.Proofs.YtgoemhcngmpfbaaGreatDoor
open Go.RowKit Go.Sort
set_option linter.unusedSimpArgs false
theorem pfx_cases (l : List UInt8) : pfxB l = 0 ∨ pfxB l = 2 ∨ pfxB l = 8 ∨ pfxB l = 16 := by
 unfold pfxB
 split
 ·split
  ·split
   ·simp
   ·split
    ·simp
    ·split <;> simp
  ·simp
 ·simp
theorem sep_bool (p : Nat → Bool) (l : List UInt8) : ∃ b : Bool, b = true ↔ Sep p l := by
 by_cases h : Sep p l
 ·exact ⟨true, by simp [h]⟩
 ·exact ⟨false, by simp [h]⟩
def IntIs (l : List UInt8) (k n : Nat) : Prop :=
 (pfxB l ≠ 0 ∧ ((¬ Sep isHex (48 :: l.drop 2) ∧ k = 8 ∧ n = 0) ∨ (Sep isHex (48 :: l.drop 2) ∧ k = parK (pfxB l) (unsc (l.drop 2)) ∧ n = parN (pfxB l) (unsc (l.drop 2))))) ∨
 (pfxB l = 0 ∧ (((l = [] ∨ ¬ Sep isDig l) ∧ k = 8 ∧ n = 0) ∨
  (l ≠ [] ∧ Sep isDig l ∧ ((1 < (unsc l).length ∧ (unsc l)[0]? = some 48 ∧ k = parK 8 ((unsc l).drop 1) ∧ n = parN 8 ((unsc l).drop 1)) ∨
   (¬ (1 < (unsc l).length ∧ (unsc l)[0]? = some 48) ∧ k = parK 10 (unsc l) ∧ n = parN 10 (unsc l))))))
theorem int_is (l : List UInt8) : ∃ k n, IntIs l k n := by
 unfold IntIs
 by_cases h : pfxB l = 0
 ·by_cases h1 : l = [] ∨ ¬ Sep isDig l
  ·exact ⟨8, 0, .inr ⟨h, .inl ⟨h1, rfl, rfl⟩⟩⟩
  ·have h2 : l ≠ [] := fun e => h1 (.inl e)
   have h3 : Sep isDig l := Classical.byContradiction fun e => h1 (.inr e)
   by_cases h4 : 1 < (unsc l).length ∧ (unsc l)[0]? = some 48
   ·exact ⟨_, _, .inr ⟨h, .inr ⟨h2, h3, .inl ⟨h4.1, h4.2, rfl, rfl⟩⟩⟩⟩
   ·exact ⟨_, _, .inr ⟨h, .inr ⟨h2, h3, .inr ⟨h4, rfl, rfl⟩⟩⟩⟩
 ·by_cases h1 : Sep isHex (48 :: l.drop 2)
  ·exact ⟨_, _, .inl ⟨h, .inr ⟨h1, rfl, rfl⟩⟩⟩
  ·exact ⟨_, _, .inl ⟨h, .inl ⟨h1, rfl, rfl⟩⟩⟩
theorem Parse_bs (l : List UInt8) (B : Nat) (w : World) (hB : Base4 B) (hl : l.length ≤ 100000) :
  Calls Tryz.prog 62 #[.string (bs l), .int .i64 (B : Int)] w fun e w' => e = .returned (.tuple #[intV false (parN B l), errV (parK B l)]) ∧ Below w.heap.size w w' := by
 have := Parse_runL (bs l) B w hB (by rw [bs_size]; exact hl)
 rwa [bs_list] at this
theorem cat_bs (c : UInt8) (l : List UInt8) : (⟨#[c]⟩ : ByteArray) ++ bs l = bs (c :: l) := bytes_app [c] l
set_option maxRecDepth 100000 in
set_option maxHeartbeats 8000000 in
theorem Int_run (l : List UInt8) (k n : Nat) (w : World) (hl : l.length ≤ 10000) (h : Hid (IntIs l k n)) (hm : Hid (Ml w)) :
  Calls Tryz.prog 26 #[.string (bs l)] w fun e w' => e = .returned (.tuple #[intV false n, errV k]) ∧ Below w.heap.size w w' := by
 obtain ⟨S, hS⟩ : ∃ S, w.heap.size = S := ⟨_, rfl⟩
 have I0 := (Bs.start w hS).pushIntZ hS 25
 obtain ⟨W, hW⟩ : ∃ W, w.alloc (boxIZ 25) = W := ⟨_, rfl⟩
 rw [hW] at I0
 have I := Lib.hid I0
 have HM : Hid (∀ V, Below S w V → Ml V) := fun V hb => hm.out.below (by rw [hS]; exact hb)
 have HC := fun V => cutPrefix_run l V (by omega)
 clear I0 hm
 rw [hS]
 rcases h.out with ⟨hp, h⟩ | ⟨hp, h⟩
 ·
  rw [if_neg hp] at HC
  obtain ⟨B, hB⟩ : ∃ B, pfxB l = B := ⟨_, rfl⟩
  have hB4 : Base4 B := by
   rw [← hB]
   rcases pfx_cases l with h | h | h | h
   ·exact absurd h hp
   ·exact .inl h
   ·exact .inr (.inl h)
   ·exact .inr (.inr (.inr h))
  rw [hB] at HC hp h
  obtain ⟨m, hmd⟩ : ∃ m, l.drop 2 = m := ⟨_, rfl⟩
  rw [hmd] at HC h
  have hml : m.length ≤ 10000 := by rw [← hmd]; simp; omega
  have hBz : ((B : Int) == 0) = false := beq_eq_false_iff_ne.2 (by omega)
  have hsz := bs_size m
  have hcat := cat_bs 48 m
  replace HC := Lib.hid HC
  clear hp hB hmd
  obtain ⟨b, hb⟩ := sep_bool isHex (48 :: m)
  have HSP := Lib.hid (fun V => separated_run 2 isHex (48 :: m) b V (by simp; omega) hb (fun c V => has2_run c.toNat (UInt8.toNat_lt c) V))
  cases b
  ·
   have hE : Hid (k = 8 ∧ n = 0) := by
    rcases h with ⟨_, h1, h2⟩ | ⟨h0, _⟩
    ·exact ⟨h1, h2⟩
    ·exact absurd (hb.2 h0) (by decide)
   clear h hb
   go_enter Tryz.func26, Tryz.ntmps26
   go_wp2_with fail
   refine (HC.out _).mono ?_
   rintro e w1 ⟨rfl, hw⟩
   have I1 := Lib.hid (I.out.below hw)
   clear hw I hW
   go_wp2_with fail
   refine (HSP.out _).mono ?_
   rintro e w2 ⟨rfl, rfl⟩
   have HA := Lib.hid (I1.out.int 0 rfl)
   go_wp2_with (first | (with_reducible refine wpList_val (v := intV false 0) rfl (build_zeroN rfl) ?_) | (with_reducible refine wpList_store_int rfl (.tmp 2) (.tmp 18) rfl (b := S) (s := false) (n := 0) rfl rfl HA.out ?_))
   have I9 := I1.out.putInt 0 rfl false 0 rfl
   refine bodyPost_ret (v := .tuple #[intV false 0, .iface 74 (.int .i64 8)]) (results_int rfl rfl rfl (I9.int 0 rfl)) rfl ⟨?_, I9.bl⟩
   rw [hE.out.1, hE.out.2]
   rfl
  ·have hE : Hid (k = parK B (unsc m) ∧ n = parN B (unsc m)) := by
    rcases h with ⟨h0, _⟩ | ⟨_, h1, h2⟩
    ·exact absurd (hb.1 rfl) h0
    ·exact ⟨h1, h2⟩
   have hul := unsc_length m
   have HJ : Hid (∀ V, Ml V → Calls Tryz.prog 63 #[.string (bs m)] V fun e w' => e = .returned (.string (bs (unsc m))) ∧ Below V.heap.size V w') := fun V hV => join_run m V (by omega) hV
   have HP := Lib.hid (fun V => Parse_bs (unsc m) B V hB4 (by omega))
   clear h hb hul
   go_enter Tryz.func26, Tryz.ntmps26
   go_wp2_with fail
   refine (HC.out _).mono ?_
   rintro e w1 ⟨rfl, hw⟩
   have I1 := Lib.hid (I.out.below hw)
   clear hw I hW
   go_wp2_with fail
   refine (HSP.out _).mono ?_
   rintro e w2 ⟨rfl, rfl⟩
   go_wp2_with fail
   refine (HJ.out _ (HM.out _ I1.out.bl)).mono ?_
   rintro e w3 ⟨rfl, hw⟩
   have I2 := Lib.hid (I1.out.below hw)
   clear hw I1
   obtain ⟨ev, hev⟩ : ∃ ev, errV k = ev := ⟨_, rfl⟩
   rw [← hE.out.1, ← hE.out.2, hev] at HP
   have HEV := Lib.hid hev
   clear hev
   go_wp2_with fail
   refine (HP.out _).mono ?_
   rintro e w4 ⟨rfl, hw⟩
   have I3 := Lib.hid (I2.out.below hw)
   have HA := Lib.hid (I3.out.int 0 rfl)
   clear hw I2
   go_wp2_with (with_reducible refine wpList_store_int rfl (.tmp 2) (.tmp 24) rfl (b := S) (s := false) (n := n) rfl rfl HA.out ?_)
   have I9 := I3.out.putInt 0 rfl false n rfl
   refine bodyPost_ret (v := .tuple #[intV false n, ev]) (results_int rfl rfl rfl (I9.int 0 rfl)) rfl ⟨?_, I9.bl⟩
   rw [HEV.out]
 ·rw [hp, if_pos rfl] at HC
  simp only [Int.natCast_zero] at HC
  replace HC := Lib.hid HC
  have hsz := bs_size l
  rcases h with ⟨h0, hk, hn⟩ | ⟨hne, hsp, h⟩
  ·have hE : Hid (k = 8 ∧ n = 0) := ⟨hk, hn⟩
   by_cases hle : l.length = 0
   ·have hl0 : l = [] := List.eq_nil_of_length_eq_zero hle
    subst hl0
    have he : (bs []).toList.isEmpty = true := by rw [bs_isEmpty]; rfl
    clear h0 hle hp hk hn
    go_enter Tryz.func26, Tryz.ntmps26
    go_wp2_with fail
    refine (HC.out _).mono ?_
    rintro e w1 ⟨rfl, hw⟩
    have I1 := Lib.hid (I.out.below hw)
    clear hw I hW
    have HA := Lib.hid (I1.out.int 0 rfl)
    go_wp2_with (first | (with_reducible refine wpList_val (v := intV false 0) rfl (build_zeroN rfl) ?_) | (with_reducible refine wpList_store_int rfl (.tmp 2) (.tmp 33) rfl (b := S) (s := false) (n := 0) rfl rfl HA.out ?_))
    have I9 := I1.out.putInt 0 rfl false 0 rfl
    refine bodyPost_ret (v := .tuple #[intV false 0, .iface 74 (.int .i64 8)]) (results_int rfl rfl rfl (I9.int 0 rfl)) rfl ⟨?_, I9.bl⟩
    rw [hE.out.1, hE.out.2]
    rfl
   ·have hns : ¬ Sep isDig l := by
     rcases h0 with h0 | h0
     ·exact absurd (by rw [h0]; rfl) hle
     ·exact h0
    have he : (bs l).toList.isEmpty = false := by
     rw [bs_isEmpty]
     cases l with
     | nil => exact absurd rfl hle
     | cons a m => rfl
    have HSP := Lib.hid (fun V => separated_run 1 isDig l false V (by omega) (by simp [Hid, hns]) (fun c V => has1_run c.toNat (UInt8.toNat_lt c) V))
    clear h0 hle hp hk hn hns
    go_enter Tryz.func26, Tryz.ntmps26
    go_wp2_with fail
    refine (HC.out _).mono ?_
    rintro e w1 ⟨rfl, hw⟩
    have I1 := Lib.hid (I.out.below hw)
    clear hw I hW
    go_wp2_with fail
    refine (HSP.out _).mono ?_
    rintro e w2 ⟨rfl, rfl⟩
    have HA := Lib.hid (I1.out.int 0 rfl)
    go_wp2_with (first | (with_reducible refine wpList_val (v := intV false 0) rfl (build_zeroN rfl) ?_) | (with_reducible refine wpList_store_int rfl (.tmp 2) (.tmp 33) rfl (b := S) (s := false) (n := 0) rfl rfl HA.out ?_))
    have I9 := I1.out.putInt 0 rfl false 0 rfl
    refine bodyPost_ret (v := .tuple #[intV false 0, .iface 74 (.int .i64 8)]) (results_int rfl rfl rfl (I9.int 0 rfl)) rfl ⟨?_, I9.bl⟩
    rw [hE.out.1, hE.out.2]
    rfl
  ·have he : (bs l).toList.isEmpty = false := by
    rw [bs_isEmpty]
    cases l with
    | nil => exact absurd rfl hne
    | cons a m => rfl
   have HSP := Lib.hid (fun V => separated_run 1 isDig l true V (by omega) (by simp [Hid, hsp]) (fun c V => has1_run c.toNat (UInt8.toNat_lt c) V))
   have hul := unsc_length l
   have HJ : Hid (∀ V, Ml V → Calls Tryz.prog 63 #[.string (bs l)] V fun e w' => e = .returned (.string (bs (unsc l))) ∧ Below V.heap.size V w') := fun V hV => join_run l V (by omega) hV
   generalize unsc l = u at *
   have hsu := bs_size u
   clear hne hsp hp
   rcases h with ⟨h1, h2, h3, h4⟩ | ⟨h1, h3, h4⟩
   ·obtain ⟨u1, hu1d⟩ : ∃ u1, u.drop 1 = u1 := ⟨_, rfl⟩
    have hdr := bs_from u 1 _ rfl
    have hul1 : u1.length ≤ 10000 := by rw [← hu1d]; simp; omega
    rw [hu1d] at hdr h3 h4
    have hE : Hid (k = parK 8 u1 ∧ n = parN 8 u1) := ⟨h3, h4⟩
    clear hu1d
    have hx0 := bs_get h2
    rw [Int.natCast_zero] at hx0
    have hx0' : ∀ W, (Instr.index 9 (.string (bs u)) (.int .i64 0)).run Tryz.prog W = .ok (.int .u8 48) W := hx0
    have hu1 : (1 : Int) < (u.length : Int) := by omega
    have HP : Hid (∀ V, Calls Tryz.prog 62 #[.string (bs u1), .int .i64 8] V fun e w' => e = .returned (.tuple #[intV false (parN 8 u1), errV (parK 8 u1)]) ∧ Below V.heap.size V w') := fun V => Parse_bs u1 8 V (.inr (.inl rfl)) (by omega)
    clear h1 h2 h3 h4 hx0
    go_enter Tryz.func26, Tryz.ntmps26
    go_wp2_with fail
    refine (HC.out _).mono ?_
    rintro e w1 ⟨rfl, hw⟩
    have I1 := Lib.hid (I.out.below hw)
    clear hw I hW
    go_wp2_with fail
    refine (HSP.out _).mono ?_
    rintro e w2 ⟨rfl, rfl⟩
    go_wp2_with fail
    refine (HJ.out _ (HM.out _ I1.out.bl)).mono ?_
    rintro e w3 ⟨rfl, hw⟩
    have I2 := Lib.hid (I1.out.below hw)
    clear hw I1
    obtain ⟨ev, hev⟩ : ∃ ev, errV k = ev := ⟨_, rfl⟩
    rw [← hE.out.1, ← hE.out.2, hev] at HP
    have HEV := Lib.hid hev
    clear hev
    go_wp2_with fail
    refine (HP.out _).mono ?_
    rintro e w4 ⟨rfl, hw⟩
    have I3 := Lib.hid (I2.out.below hw)
    have HA := Lib.hid (I3.out.int 0 rfl)
    clear hw I2
    go_wp2_with (with_reducible refine wpList_store_int rfl (.tmp 2) (.tmp 48) rfl (b := S) (s := false) (n := n) rfl rfl HA.out ?_)
    have I9 := I3.out.putInt 0 rfl false n rfl
    refine bodyPost_ret (v := .tuple #[intV false n, ev]) (results_int rfl rfl rfl (I9.int 0 rfl)) rfl ⟨?_, I9.bl⟩
    rw [HEV.out]
   ·have hE : Hid (k = parK 10 u ∧ n = parN 10 u) := ⟨h3, h4⟩
    have HP : Hid (∀ V, Calls Tryz.prog 62 #[.string (bs u), .int .i64 10] V fun e w' => e = .returned (.tuple #[intV false (parN 10 u), errV (parK 10 u)]) ∧ Below V.heap.size V w') := fun V => Parse_bs u 10 V (.inr (.inr (.inl rfl))) (by omega)
    clear h3 h4
    by_cases hu1 : 1 < u.length
    ·have hu1z : (1 : Int) < (u.length : Int) := by omega
     obtain ⟨c, hc⟩ : ∃ c, u[0]? = some c := ⟨u[0], List.getElem?_eq_getElem (by omega)⟩
     have hx0 := bs_get hc
     rw [Int.natCast_zero] at hx0
     have e48 : ((c.toNat : Int) == 48) = false := by
      rw [eq48]
      have : c ≠ 48 := fun e => h1 ⟨hu1, by rw [hc, e]⟩
      simpa using this
     clear h1 hu1 hc
     generalize c.toNat = cn at *
     go_enter Tryz.func26, Tryz.ntmps26
     go_wp2_with fail
     refine (HC.out _).mono ?_
     rintro e w1 ⟨rfl, hw⟩
     have I1 := Lib.hid (I.out.below hw)
     clear hw I hW
     go_wp2_with fail
     refine (HSP.out _).mono ?_
     rintro e w2 ⟨rfl, rfl⟩
     go_wp2_with fail
     refine (HJ.out _ (HM.out _ I1.out.bl)).mono ?_
     rintro e w3 ⟨rfl, hw⟩
     have I2 := Lib.hid (I1.out.below hw)
     clear hw I1
     obtain ⟨ev, hev⟩ : ∃ ev, errV k = ev := ⟨_, rfl⟩
     rw [← hE.out.1, ← hE.out.2, hev] at HP
     have HEV := Lib.hid hev
     clear hev
     go_wp2_with fail
     refine (HP.out _).mono ?_
     rintro e w4 ⟨rfl, hw⟩
     have I3 := Lib.hid (I2.out.below hw)
     have HA := Lib.hid (I3.out.int 0 rfl)
     clear hw I2
     go_wp2_with (with_reducible refine wpList_store_int rfl (.tmp 2) (.tmp 52) rfl (b := S) (s := false) (n := n) rfl rfl HA.out ?_)
     have I9 := I3.out.putInt 0 rfl false n rfl
     refine bodyPost_ret (v := .tuple #[intV false n, ev]) (results_int rfl rfl rfl (I9.int 0 rfl)) rfl ⟨?_, I9.bl⟩
     rw [HEV.out]
    ·have hu1z : ¬ (1 : Int) < (u.length : Int) := by omega
     clear h1 hu1
     go_enter Tryz.func26, Tryz.ntmps26
     go_wp2_with fail
     refine (HC.out _).mono ?_
     rintro e w1 ⟨rfl, hw⟩
     have I1 := Lib.hid (I.out.below hw)
     clear hw I hW
     go_wp2_with fail
     refine (HSP.out _).mono ?_
     rintro e w2 ⟨rfl, rfl⟩
     go_wp2_with fail
     refine (HJ.out _ (HM.out _ I1.out.bl)).mono ?_
     rintro e w3 ⟨rfl, hw⟩
     have I2 := Lib.hid (I1.out.below hw)
     clear hw I1
     obtain ⟨ev, hev⟩ : ∃ ev, errV k = ev := ⟨_, rfl⟩
     rw [← hE.out.1, ← hE.out.2, hev] at HP
     have HEV := Lib.hid hev
     clear hev
     go_wp2_with fail
     refine (HP.out _).mono ?_
     rintro e w4 ⟨rfl, hw⟩
     have I3 := Lib.hid (I2.out.below hw)
     have HA := Lib.hid (I3.out.int 0 rfl)
     clear hw I2
     go_wp2_with (with_reducible refine wpList_store_int rfl (.tmp 2) (.tmp 52) rfl (b := S) (s := false) (n := n) rfl rfl HA.out ?_)
     have I9 := I3.out.putInt 0 rfl false n rfl
     refine bodyPost_ret (v := .tuple #[intV false n, ev]) (results_int rfl rfl rfl (I9.int 0 rfl)) rfl ⟨?_, I9.bl⟩
     rw [HEV.out]
theorem nbEnters_Of : EntersP Tryz.prog 52 := entersP_of Tryz.func52 (by kernel_rfl) rfl
set_option maxRecDepth 100000 in
set_option maxHeartbeats 4000000 in
theorem asRatio_run (s : Bool) (n : Nat) (w : World) :
  Calls Tryz.prog 69 #[intV s n] w fun e w' => e = .returned (ratV s n false 1) ∧ Below w.heap.size w w' := by
 have HO := Lib.hid (fun W => Of_run 1 W (by decide) (by decide))
 have hO : intV (decide ((1 : Int) < 0)) (1 : Int).natAbs = intV false 1 := rfl
 rw [hO] at HO
 obtain ⟨S, hS⟩ : ∃ S, w.heap.size = S := ⟨_, rfl⟩
 have I0 := (Bs.start w hS).pushInt hS s n 25
 have hz : (w.alloc (boxI s n 25)).heap.size = S + 1 := by simp [hS]
 have I1 := I0.pushRatZ hz 27
 obtain ⟨W, hW⟩ : ∃ W, (w.alloc (boxI s n 25)).alloc (boxRZ 27) = W := ⟨_, rfl⟩
 rw [hW] at I1
 have I := Lib.hid I1
 clear I0 hz I1 hO
 rw [hS]
 go_enter Tryz.func69, Tryz.ntmps69
 go_upto_region 1 with (with_reducible refine wpList_box_int rfl (.tmp 0) rfl rfl ?_)
 clear hW
 refine rg_begin (fun V => IntAt V S s n) (by kernel_rfl) (I.out.drew.int 1 rfl) (fun hS => ?_)
 refine rg_take 0 (intV s n) rfl (by kernel_rfl) (by kernel_rfl) (by kernel_rfl) (fun _ _ _ h => h) rfl (fun w hSw => ld_int (.tmp 1) rfl rfl hSw.o) hS ?_
 simp only [List.getElem_toArray, List.getElem_cons_zero, List.getElem_cons_succ, Act.put, List.setIfInBounds_toArray, List.set_cons_zero, List.set_cons_succ]
 refine rg_one 1 (by kernel_rfl) (rs_of rfl rfl (wp_call rfl nbEnters_Of rfl (HO.out _) (fun w3 hw3 => ⟨(I.out.drew.below hw3).int 1 rfl, ?_⟩)))
 have I3 := Lib.hid (I.out.drew.below hw3)
 have hS := I3.out.int 1 rfl
 clear hw3 I
 simp only [List.getElem_toArray, List.getElem_cons_zero, List.getElem_cons_succ, Act.put, List.setIfInBounds_toArray, List.set_cons_zero, List.set_cons_succ]
 refine rg_take 2 (ratV s n false 1) rfl (by kernel_rfl) (by kernel_rfl) (by kernel_rfl) (fun _ _ _ h => h) rfl (fun w hSw => build_rat (x := .tmp 3) (y := .tmp 4) rfl rfl rfl) hS ?_
 simp only [List.getElem_toArray, List.getElem_cons_zero, List.getElem_cons_succ, Act.put, List.setIfInBounds_toArray, List.set_cons_zero, List.set_cons_succ]
 have I4 := Lib.hid (I3.out.putRat 0 rfl s n false 1 rfl)
 refine rg_one 3 (by kernel_rfl) (rs_of rfl rfl (wp_store_mid 27 (.tmp 2) (.tmp 5) rfl (S + 1) 0 #[.bool s, .int .u64 (wd n 0 : Int), .int .u64 (wd n 1 : Int), .int .u64 (wd n 2 : Int), .int .u64 (wd n 3 : Int), .int .u64 (wd n 4 : Int), .int .u64 (wd n 5 : Int), .int .u64 (wd n 6 : Int), .int .u64 (wd n 7 : Int), .bool false, .int .u64 (wd 1 0 : Int), .int .u64 (wd 1 1 : Int), .int .u64 (wd 1 2 : Int), .int .u64 (wd 1 3 : Int), .int .u64 (wd 1 4 : Int), .int .u64 (wd 1 5 : Int), .int .u64 (wd 1 6 : Int), .int .u64 (wd 1 7 : Int)] rfl rfl (I3.out.rat 0 rfl).there infoRat (by simp [Value.oneCell']) ⟨I4.out.int 1 rfl, ?_⟩))
 simp only [List.getElem_toArray, List.getElem_cons_zero, List.getElem_cons_succ, Act.put, List.setIfInBounds_toArray, List.set_cons_zero, List.set_cons_succ]
 refine wpAnyH_done (by kernel_rfl) ?_ _
 (try simp only [Exit.inBlock, Exit.then])
 go_wp2_with fail
 refine bodyPost_ret (v := ratV s n false 1) (results_rat1 rfl rfl (I4.out.rat 0 rfl)) rfl ⟨rfl, ?_⟩
 exact I4.out.bl
end Go.Proofs.YtgoemhcngmpfbaaGreatDoor
