/-
  Stage 10: the document's Char.
-/
import Derived.Test.YtcieibidnpemjaaGreatDoorMx03
import Derived.Test.YtcieibidnpemjaaGreatDoorMx00
import Derived.Deep.RegionHeld3
import Derived.Laws.EntriesVeiled
namespace Go.Proofs.YtcieibidnpemjaaGreatDoor
open Go.RowKit Go.Sort
set_option linter.unusedSimpArgs false
def charF (l : List UInt8) : Int × Nat :=
 if betB 39 l = false ∨ l.length = 2 ∨ l[1]? = some 39 ∨ l[1]? = some 10 then (0, 8)
 else if (chrIn l)[0]? = some 92 then
  (if (escF 39 (chrIn l)).2.2 = 0 then (0, 14) else if (escF 39 (chrIn l)).2.2 ≠ (chrIn l).length then (0, 8) else ((escF 39 (chrIn l)).1, 0))
 else match U.dec (bi (chrIn l)) with
  | none => (0, 3)
  | some (r, n) => if n ≠ (chrIn l).length then (0, 8) else (r, 0)
set_option maxRecDepth 100000 in
set_option maxHeartbeats 4000000 in
theorem Char_run (l : List UInt8) (r : Int) (k : Nat) (w : World) (hl : l.length ≤ 100000) (h : Hid (charF l = (r, k))) :
  Calls Tryz.prog 11 #[.string (bs l)] w fun e w' => e = .returned (.tuple #[.int .i64 r, .int .i64 (k : Int)]) ∧ Below w.heap.size w w' := by
 have hsz := bs_size l
 have HBT0 : ∀ V, Calls Tryz.prog 18 #[.string (bs l), .int .u8 39] V fun e w' => e = .returned (.bool (betB 39 l)) ∧ w' = V := fun V => between_run l 39 V hl
 cases hb : betB 39 l
 ·rw [hb] at HBT0
  have HX : Hid (r = 0 ∧ k = 8) := by
   have := h.out
   unfold charF at this
   rw [if_pos (.inl hb)] at this
   cases this
   exact ⟨rfl, rfl⟩
  have HBT := Lib.hid HBT0
  clear h hb HBT0
  generalize bs l = z at *
  go_enter Tryz.func11, Tryz.ntmps11
  go_wp2_with fail
  refine (HBT.out _).mono ?_
  rintro e w1 ⟨rfl, rfl⟩
  go_wp2_with fail
  go_ret2
  exact ⟨by rw [HX.out.1, HX.out.2]; rfl, Below.refl _ _⟩
 ·rw [hb] at HBT0
  have h2 := bet_len hb
  have HBT := Lib.hid HBT0
  clear HBT0
  by_cases h3 : l.length = 2
  ·have HX : Hid (r = 0 ∧ k = 8) := by
    have := h.out
    unfold charF at this
    rw [if_pos (.inr (.inl h3))] at this
    cases this
    exact ⟨rfl, rfl⟩
   have h3z : ((l.length : Int) == 2) = true := by rw [h3]; rfl
   clear h hb h2 h3
   generalize l.length = n at *
   generalize bs l = z at *
   go_enter Tryz.func11, Tryz.ntmps11
   go_wp2_with fail
   refine (HBT.out _).mono ?_
   rintro e w1 ⟨rfl, rfl⟩
   go_wp2_with fail
   go_ret2
   exact ⟨by rw [HX.out.1, HX.out.2]; rfl, Below.refl _ _⟩
  ·have h3z : ((l.length : Int) == 2) = false := beq_eq_false_iff_ne.2 (by omega)
   obtain ⟨c, hc⟩ : ∃ c, l[1]? = some c := ⟨l[1]'(by omega), List.getElem?_eq_getElem _⟩
   have hx0 := bs_get hc
   have hx : ∀ W, (Instr.index 9 (.string (bs l)) (.int .i64 1)).run Tryz.prog W = .ok (.int .u8 (c.toNat : Int)) W := hx0
   clear hx0
   have h1l : 1 < l.length := by omega
   by_cases h39 : c = 39
   ·have HX : Hid (r = 0 ∧ k = 8) := by
     have := h.out
     unfold charF at this
     rw [if_pos (.inr (.inr (.inl (by rw [hc, h39]))))] at this
     cases this
     exact ⟨rfl, rfl⟩
    subst h39
    have hx1 : ∀ W, (Instr.index 9 (.string (bs l)) (.int .i64 1)).run Tryz.prog W = .ok (.int .u8 39) W := hx
    clear h hb h2 h3 hc hx
    generalize l.length = n at *
    generalize bs l = z at *
    go_enter Tryz.func11, Tryz.ntmps11
    go_wp2_with fail
    refine (HBT.out _).mono ?_
    rintro e w1 ⟨rfl, rfl⟩
    go_wp2_with fail
    go_ret2
    exact ⟨by rw [HX.out.1, HX.out.2]; rfl, Below.refl _ _⟩
   ·have e39 : ((c.toNat : Int) == 39) = false := eq_byte h39
    by_cases h10 : c = 10
    ·have HX : Hid (r = 0 ∧ k = 8) := by
      have := h.out
      unfold charF at this
      rw [if_pos (.inr (.inr (.inr (by rw [hc, h10]))))] at this
      cases this
      exact ⟨rfl, rfl⟩
     subst h10
     have hx1 : ∀ W, (Instr.index 9 (.string (bs l)) (.int .i64 1)).run Tryz.prog W = .ok (.int .u8 10) W := hx
     clear h hb h2 h3 hc hx e39
     generalize l.length = n at *
     generalize bs l = z at *
     go_enter Tryz.func11, Tryz.ntmps11
     go_wp2_with fail
     refine (HBT.out _).mono ?_
     rintro e w1 ⟨rfl, rfl⟩
     go_wp2_with fail
     go_ret2
     exact ⟨by rw [HX.out.1, HX.out.2]; rfl, Below.refl _ _⟩
    ·have e10 : ((c.toNat : Int) == 10) = false := eq_byte h10
     have hcf : charF l = if (chrIn l)[0]? = some 92 then
       (if (escF 39 (chrIn l)).2.2 = 0 then (0, 14) else if (escF 39 (chrIn l)).2.2 ≠ (chrIn l).length then (0, 8) else ((escF 39 (chrIn l)).1, 0))
       else match U.dec (bi (chrIn l)) with
        | none => (0, 3)
        | some (r, n) => if n ≠ (chrIn l).length then (0, 8) else (r, 0) := if_neg (fun g => by
      rcases g with g | g | g | g
      ·rw [hb] at g; cases g
      ·exact h3 g
      ·rw [hc] at g; exact h39 (Option.some.inj g)
      ·rw [hc] at g; exact h10 (Option.some.inj g))
     obtain ⟨g1, g2⟩ := chr_in (l := l) (by omega)
     have hex : (bs l).extract 1 (l.length - 1) = bs (chrIn l) := bs_extract l 1 (l.length - 1)
     have h' := h.out
     rw [hcf] at h'
     rw [hc] at g2
     have hml : (chrIn l).length ≤ 100000 := by omega
     obtain ⟨p, hp⟩ : ∃ p, l.length - 1 = p := ⟨_, rfl⟩
     have hpz : (l.length : Int) - 1 = (p : Int) := by omega
     have hp1 : 1 ≤ p := by omega
     have hpn : p ≤ l.length := by omega
     rw [hp] at hex
     generalize chrIn l = m at *
     obtain ⟨j, hj⟩ : ∃ j, m.length = j := ⟨_, rfl⟩
     have hmz := bs_size m
     rw [hj] at hmz g1
     have hj0 : 0 < j := by omega
     clear g1
     have hxm0 := bs_get g2
     rw [Int.natCast_zero] at hxm0
     by_cases h92 : c = 92
     ·rw [g2, h92, if_pos rfl] at h'
      obtain ⟨v, bt, sz, hes⟩ : ∃ v bt sz, escF 39 m = (v, bt, sz) := ⟨_, _, _, rfl⟩
      rw [hes] at h'
      have HES : Hid (∀ V, Calls Tryz.prog 19 #[.string (bs m), .int .u8 39] V fun e w' => e = .returned (.tuple #[.int .i64 v, .int .i64 (b2i bt), .int .i64 (sz : Int)]) ∧ Below V.heap.size V w') := fun V => Escape_run m 39 v bt sz V hml hes
      subst h92
      have hx1 : ∀ W, (Instr.index 9 (.string (bs l)) (.int .i64 1)).run Tryz.prog W = .ok (.int .u8 92) W := hx
      have hx2 : ∀ W, (Instr.index 9 (.string (bs m)) (.int .i64 0)).run Tryz.prog W = .ok (.int .u8 92) W := hxm0
      have HJ := Lib.hid hj
      clear h hb h2 h3 hc hx e39 e10 h39 h10 hcf hp hxm0 g2 hes hml hj
      generalize b2i bt = bz at *
      generalize l.length = n at *
      generalize bs l = z at *
      generalize bs m = y at *
      by_cases hs0 : sz = 0
      ·have HX : Hid (r = 0 ∧ k = 14) := by
        rw [if_pos hs0] at h'
        cases h'
        exact ⟨rfl, rfl⟩
       subst hs0
       rw [Int.natCast_zero] at HES
       clear h'
       go_enter Tryz.func11, Tryz.ntmps11
       go_wp2_with fail
       refine (HBT.out _).mono ?_
       rintro e w1 ⟨rfl, rfl⟩
       go_wp2_with fail
       refine (HES.out _).mono ?_
       rintro e w2 ⟨rfl, hw⟩
       have HW := Lib.hid hw
       clear hw
       go_wp2_with fail
       go_ret2
       exact ⟨by rw [HX.out.1, HX.out.2]; rfl, HW.out⟩
      ·have hs0z : ((sz : Int) == 0) = false := beq_eq_false_iff_ne.2 (by omega)
       rw [if_neg hs0, HJ.out] at h'
       by_cases hsj : sz = j
       ·have HX : Hid (r = v ∧ k = 0) := by
         rw [if_neg (fun g => g hsj)] at h'
         cases h'
         exact ⟨rfl, rfl⟩
        have hsz2 : ((sz : Int) != (j : Int)) = false := by rw [hsj]; simp
        clear h' hs0 hsj
        go_enter Tryz.func11, Tryz.ntmps11
        go_wp2_with fail
        refine (HBT.out _).mono ?_
        rintro e w1 ⟨rfl, rfl⟩
        go_wp2_with fail
        refine (HES.out _).mono ?_
        rintro e w2 ⟨rfl, hw⟩
        have HW := Lib.hid hw
        clear hw
        go_wp2_with fail
        go_ret2
        exact ⟨by rw [HX.out.1, HX.out.2]; rfl, HW.out⟩
       ·have HX : Hid (r = 0 ∧ k = 8) := by
         rw [if_pos hsj] at h'
         cases h'
         exact ⟨rfl, rfl⟩
        have hsz2 : ((sz : Int) != (j : Int)) = true := by rw [bne_iff_ne]; omega
        clear h' hs0 hsj
        go_enter Tryz.func11, Tryz.ntmps11
        go_wp2_with fail
        refine (HBT.out _).mono ?_
        rintro e w1 ⟨rfl, rfl⟩
        go_wp2_with fail
        refine (HES.out _).mono ?_
        rintro e w2 ⟨rfl, hw⟩
        have HW := Lib.hid hw
        clear hw
        go_wp2_with fail
        go_ret2
        exact ⟨by rw [HX.out.1, HX.out.2]; rfl, HW.out⟩
     ·rw [g2, if_neg (fun g => h92 (Option.some.inj g))] at h'
      have e92 : ((c.toNat : Int) == 92) = false := eq_byte h92
      obtain ⟨N, hN⟩ : ∃ N, w.heap.size = N := ⟨_, rfl⟩
      obtain ⟨cap, w2, hcv, hc1, hc2, hby, hbl⟩ := run_conv_str w (bs m) (by rw [bs_size]; exact Nat.le_trans hml (by decide))
      rw [bts_bs] at hby
      rw [hmz] at hcv hc1
      have hDE := refDecode_any _ j cap (bi m) 0 w2 hby (by rw [bi_length, hj]) hc1 (by omega)
      have hra := refAns_at (bi m) 0 (by rw [bi_length]; omega)
      rw [Int.natCast_zero, List.drop_zero] at hra
      rw [hra] at hDE
      rw [hN] at hcv hDE hbl ⊢
      have HB2 := Lib.hid hbl
      have HJ := Lib.hid hj
      clear h hb h2 h3 hc h39 h10 hcf hp g2 hml hj hby hbl hc2 hra h92
      cases hd : U.dec (bi m) with
      | none =>
       have HX : Hid (r = 0 ∧ k = 3) := by
        rw [hd] at h'
        cases h'
        exact ⟨rfl, rfl⟩
       rw [hd] at hDE
       have HDE : Hid (Calls Tryz.prog 20 #[.slice (some ⟨N, 0, none⟩) j cap, .int .i64 0] w2 fun e w' => e = .returned (.tuple #[.int .i64 0, .int .i64 0, .int .i64 3]) ∧ Below w2.heap.size w2 w') := hDE
       clear hd h' hDE
       generalize c.toNat = cn at *
       generalize l.length = n at *
       generalize bs l = z at *
       generalize bs m = y at *
       go_enter Tryz.func11, Tryz.ntmps11
       go_wp2_with fail
       refine (HBT.out _).mono ?_
       rintro e w1 ⟨rfl, rfl⟩
       go_wp2_with fail
       refine (HDE.out).mono ?_
       rintro e w3 ⟨rfl, hw⟩
       have HW := Lib.hid (HB2.out.trans (hw.mono (by rw [← hN]; exact HB2.out.size)))
       clear hw
       go_wp2_with fail
       go_ret2
       exact ⟨by rw [HX.out.1, HX.out.2]; rfl, HW.out⟩
      | some a =>
       obtain ⟨rr, sz⟩ := a
       rw [hd] at h' hDE
       have HDE : Hid (Calls Tryz.prog 20 #[.slice (some ⟨N, 0, none⟩) j cap, .int .i64 0] w2 fun e w' => e = .returned (.tuple #[.int .i64 rr, .int .i64 (sz : Int), .int .i64 0]) ∧ Below w2.heap.size w2 w') := hDE
       simp only [HJ.out] at h'
       by_cases hsj : sz = j
       ·have HX : Hid (r = rr ∧ k = 0) := by
         rw [if_neg (fun g => g hsj)] at h'
         cases h'
         exact ⟨rfl, rfl⟩
        have hsz2 : ((sz : Int) != (j : Int)) = false := by rw [hsj]; simp
        clear hd h' hDE hsj
        generalize c.toNat = cn at *
        generalize l.length = n at *
        generalize bs l = z at *
        generalize bs m = y at *
        go_enter Tryz.func11, Tryz.ntmps11
        go_wp2_with fail
        refine (HBT.out _).mono ?_
        rintro e w1 ⟨rfl, rfl⟩
        go_wp2_with fail
        refine (HDE.out).mono ?_
        rintro e w3 ⟨rfl, hw⟩
        have HW := Lib.hid (HB2.out.trans (hw.mono (by rw [← hN]; exact HB2.out.size)))
        clear hw
        go_wp2_with fail
        go_ret2
        exact ⟨by rw [HX.out.1, HX.out.2]; rfl, HW.out⟩
       ·have HX : Hid (r = 0 ∧ k = 8) := by
         rw [if_pos hsj] at h'
         cases h'
         exact ⟨rfl, rfl⟩
        have hsz2 : ((sz : Int) != (j : Int)) = true := by rw [bne_iff_ne]; omega
        clear hd h' hDE hsj
        generalize c.toNat = cn at *
        generalize l.length = n at *
        generalize bs l = z at *
        generalize bs m = y at *
        go_enter Tryz.func11, Tryz.ntmps11
        go_wp2_with fail
        refine (HBT.out _).mono ?_
        rintro e w1 ⟨rfl, rfl⟩
        go_wp2_with fail
        refine (HDE.out).mono ?_
        rintro e w3 ⟨rfl, hw⟩
        have HW := Lib.hid (HB2.out.trans (hw.mono (by rw [← hN]; exact HB2.out.size)))
        clear hw
        go_wp2_with fail
        go_ret2
        exact ⟨by rw [HX.out.1, HX.out.2]; rfl, HW.out⟩
end Go.Proofs.YtcieibidnpemjaaGreatDoor
namespace Go.Proofs.YtcieibidnpemjaaGreatDoor
open Go.RowKit Go.Sort
set_option linter.unusedSimpArgs false
set_option maxRecDepth 100000 in
set_option maxHeartbeats 4000000 in
theorem TextD_raw (l : List UInt8) (k : Nat) (t : List UInt8) (w : World) (hl : l.length ≤ 100000) (hb : betB 96 l = true) (h : Hid (rawR (chrIn l) = (k, t))) :
  Calls Tryz.prog 12 #[.string (bs l)] w fun e w' => e = .returned (.tuple #[.string (bs t), .int .i64 (k : Int)]) ∧ w' = w := by
 have hsz := bs_size l
 have hn2 := bet_len hb
 have HBT : Hid (∀ V, Calls Tryz.prog 18 #[.string (bs l), .int .u8 96] V fun e w' => e = .returned (.bool true) ∧ w' = V) := fun V => by
  have := between_run l 96 V hl
  rwa [hb] at this
 obtain ⟨p, hp⟩ : ∃ p, l.length - 1 = p := ⟨_, rfl⟩
 have hpz : (l.length : Int) - 1 = (p : Int) := by omega
 have HP : Hid (p + 1 = l.length ∧ (chrIn l).length + 1 = p) := ⟨by omega, by have := chr_len l; omega⟩
 have hpl : p ≤ 100000 := by omega
 have hpn : p < l.length := by omega
 have hcg : ∀ j, j + 1 < p → (chrIn l)[j]? = l[j + 1]? := fun j hj => chr_get (by omega)
 have hp1 : 1 ≤ p := by omega
 clear hp hb
 obtain ⟨m, hm⟩ : ∃ m, chrIn l = m := ⟨_, rfl⟩
 rw [hm] at HP hcg h
 have hpl2 : Hid (rawR (m.drop 0) = (k, t)) := h
 clear h hm
 have HS : Hid ((k, t) = catT [] (rawR (m.drop 0))) := by
  show _ = _
  rw [catT_nil _ (rawR_plain _), hpl2.out]
 go_enter Tryz.func12, Tryz.ntmps12
 go_wp2_with fail
 refine (HBT.out _).mono ?_
 rintro e w1 ⟨rfl, rfl⟩
 go_wp2_with fail
 clear HBT hpl2
 go_loopg [4, 5] p (fun h s4 s5 wr => ∃ (i : Nat) (x : List UInt8), s4 = .string (bs x) ∧ s5 = .int .i64 (i : Int) ∧ Hid (i + h = p + 1 ∧ 1 ≤ i) ∧ i ≤ p ∧ x.length ≤ i ∧ Hid ((k, t) = catT x (rawR (m.drop (i - 1)))) ∧ wr = w1)
 case atStart => exact ⟨1, [], rfl, rfl, ⟨by omega, by omega⟩, by omega, by simp, HS, rfl⟩
 case round =>
  clear HS
  obtain ⟨i, x, rfl, rfl, HI, hin, hxl, HX, rfl⟩ := hrel
  have hxs := bs_size x
  by_cases hlt : i < p
  ·have hiz : (i : Int) < (p : Int) := by omega
   obtain ⟨c, hc⟩ : ∃ c, l[i]? = some c := ⟨l[i]'(by omega), List.getElem?_eq_getElem _⟩
   have hcm : m[i - 1]? = some c := by
    have := hcg (i - 1) (by have := HI.out; omega)
    rw [this, show i - 1 + 1 = i by have := HI.out; omega]
    exact hc
   have hdr := drop_cons hcm
   rw [show i - 1 + 1 = i by have := HI.out; omega] at hdr
   have hx := bs_get hc
   by_cases h96 : c = 96
   ·subst h96
    have HR : Hid (k = 8 ∧ t = []) := by
     have := HX.out
     rw [hdr] at this
     have e : rawR (96 :: m.drop i) = (8, []) := if_pos rfl
     rw [e, catT_err _ (by decide)] at this
     cases this
     exact ⟨rfl, rfl⟩
    have hx1 : ∀ W, (Instr.index 9 (.string (bs l)) (.int .i64 (i : Int))).run Tryz.prog W = .ok (.int .u8 96) W := hx
    clear hx hc hcm hdr HX hcg
    go_wp2_with fail
    go_ret2
    exact ⟨by rw [HR.out.1, HR.out.2]; rfl, rfl⟩
   ·have e96 : ((c.toNat : Int) == 96) = false := eq_byte h96
    have hrr : rawR (c :: m.drop i) = catT (if c = 13 then [] else [c]) (rawR (m.drop i)) := if_neg h96
    by_cases h13 : c = 13
    ·subst h13
     have hx1 : ∀ W, (Instr.index 9 (.string (bs l)) (.int .i64 (i : Int))).run Tryz.prog W = .ok (.int .u8 13) W := hx
     have HX2 : Hid ((k, t) = catT x (rawR (m.drop i))) := by
      have := HX.out
      rw [hdr, hrr, if_pos rfl, catT_catT, List.append_nil] at this
      exact this
     clear hx hc hcm hdr HX hcg hrr
     go_wp2_with fail
     go_roundg (p - i)
     case measure => have := HI.out; omega
     case rel => exact ⟨i + 1, x, rfl, by go_num, ⟨by have := HI.out; omega, by omega⟩, by omega, by omega, HX2, rfl⟩
    ·have e13 : ((c.toNat : Int) != 13) = true := by rw [bne_iff_ne]; intro e; exact h13 (UInt8.toNat_inj.1 (by show c.toNat = 13; omega))
     have HX2 : Hid ((k, t) = catT (x ++ [c]) (rawR (m.drop i))) := by
      have := HX.out
      rw [hdr, hrr, if_neg h13, catT_catT] at this
      exact this
     have he := ext_one hc
     have hcat := bs_app x [c]
     have hs1 := bs_size [c]
     have hs2 : ([c] : List UInt8).length = 1 := rfl
     rw [hs2] at hs1
     obtain ⟨ip, hip⟩ : ∃ ip, i + 1 = ip := ⟨_, rfl⟩
     have hipz : (i : Int) + 1 = (ip : Int) := by omega
     have hipl : ip ≤ l.length := by omega
     have hii : i ≤ ip := by omega
     rw [hip] at he
     have HIP := Lib.hid hip
     have HXL := Lib.hid hxl
     have hxm : x.length ≤ 100000 := by omega
     clear hx hcm hdr HX hcg hrr hip hs2 hxl
     have hx := bs_get hc
     clear hc h13 h96
     generalize c.toNat = cn at *
     go_wp2_with fail
     go_roundg (p - i)
     case measure => have := HI.out; omega
     case rel => exact ⟨i + 1, x ++ [c], rfl, by rw [HIP.out], ⟨by have := HI.out; omega, by omega⟩, by omega, by have := HXL.out; rw [List.length_append]; show _ + 1 ≤ _; omega, HX2, rfl⟩
  ·have hip : i = p := by omega
   have hiz : ¬ (i : Int) < (p : Int) := by omega
   have HR : Hid (k = 0 ∧ t = x) := by
    have := HX.out
    rw [List.drop_of_length_le (by have := HP.out.2; omega)] at this
    have e : rawR [] = (0, []) := rfl
    rw [e, catT_ok, List.append_nil] at this
    cases this
    exact ⟨rfl, rfl⟩
   clear HX hip hcg
   go_wp2_with fail
   go_ret2
   exact ⟨by rw [HR.out.1, HR.out.2]; rfl, rfl⟩
set_option maxRecDepth 100000 in
set_option maxHeartbeats 4000000 in
theorem TextD_none (l : List UInt8) (w : World) (hl : l.length ≤ 100000) (hb : betB 96 l = false) (hb2 : betB 34 l = false) :
  Calls Tryz.prog 12 #[.string (bs l)] w fun e w' => e = .returned (.tuple #[.string (bs []), .int .i64 8]) ∧ w' = w := by
 have HBT : Hid (∀ V, Calls Tryz.prog 18 #[.string (bs l), .int .u8 96] V fun e w' => e = .returned (.bool false) ∧ w' = V) := fun V => by
  have := between_run l 96 V hl
  rwa [hb] at this
 have HBT2 : Hid (∀ V, Calls Tryz.prog 18 #[.string (bs l), .int .u8 34] V fun e w' => e = .returned (.bool false) ∧ w' = V) := fun V => by
  have := between_run l 34 V hl
  rwa [hb2] at this
 clear hb hb2 hl
 generalize bs l = z at *
 go_enter Tryz.func12, Tryz.ntmps12
 go_wp2_with fail
 refine (HBT.out _).mono ?_
 rintro e w1 ⟨rfl, rfl⟩
 go_wp2_with fail
 refine (HBT2.out _).mono ?_
 rintro e w2 ⟨rfl, rfl⟩
 go_wp2_with fail
 go_ret2
 exact ⟨rfl, rfl⟩
end Go.Proofs.YtcieibidnpemjaaGreatDoor
namespace Go.Proofs.YtcieibidnpemjaaGreatDoor
open Go.RowKit Go.Sort
set_option linter.unusedSimpArgs false
set_option maxRecDepth 100000 in
set_option maxHeartbeats 4000000 in
theorem TextD_line (l : List UInt8) (k : Nat) (t : List UInt8) (w : World) (hl : l.length ≤ 100000) (hb : betB 96 l = false) (hb2 : betB 34 l = true) (h : Hid (txtR (l.length + 1) (chrIn l) = (k, t))) :
  Calls Tryz.prog 12 #[.string (bs l)] w fun e w' => e = .returned (.tuple #[.string (bs t), .int .i64 (k : Int)]) ∧ Below w.heap.size w w' := by
 have hsz := bs_size l
 have hn2 := bet_len hb2
 have HBT : Hid (∀ V, Calls Tryz.prog 18 #[.string (bs l), .int .u8 96] V fun e w' => e = .returned (.bool false) ∧ w' = V) := fun V => by
  have := between_run l 96 V hl
  rwa [hb] at this
 have HBT2 : Hid (∀ V, Calls Tryz.prog 18 #[.string (bs l), .int .u8 34] V fun e w' => e = .returned (.bool true) ∧ w' = V) := fun V => by
  have := between_run l 34 V hl
  rwa [hb2] at this
 have hex : (bs l).extract 1 (l.length - 1) = bs (chrIn l) := bs_extract l 1 (l.length - 1)
 obtain ⟨p, hp⟩ : ∃ p, l.length - 1 = p := ⟨_, rfl⟩
 rw [hp] at hex
 have hpz : (l.length : Int) - 1 = (p : Int) := by omega
 have hp1 : 1 ≤ p := by omega
 have hpn : p ≤ l.length := by omega
 have hml : (chrIn l).length ≤ 100000 := by rw [chr_len]; omega
 have HF : Hid ((chrIn l).length < l.length + 1) := by show _ < _; rw [chr_len]; omega
 obtain ⟨m, hm⟩ : ∃ m, chrIn l = m := ⟨_, rfl⟩
 rw [hm] at hex hml HF h
 obtain ⟨L, hL⟩ : ∃ L, m.length = L := ⟨_, rfl⟩
 have hms := bs_size m
 rw [hL] at hms
 rw [hL] at hml
 have HL := Lib.hid hL
 have HS : Hid ((k, t) = catT [] (txtR (l.length + 1) (m.drop 0))) := by
  show _ = _
  rw [catT_nil _ (txtR_plain _ _), List.drop_zero, h.out]
 clear hm hb hb2 hp hL h
 obtain ⟨F, hF⟩ : ∃ F, l.length + 1 = F := ⟨_, rfl⟩
 rw [hF] at HS HF
 clear hF
 go_enter Tryz.func12, Tryz.ntmps12
 go_wp2_with fail
 refine (HBT.out _).mono ?_
 rintro e w1 ⟨rfl, rfl⟩
 go_wp2_with fail
 refine (HBT2.out _).mono ?_
 rintro e w0 ⟨rfl, rfl⟩
 go_wp2_with fail
 clear HBT HBT2 hex hpz hp1 hpn hn2 hsz hl
 generalize bs l = z at *
 generalize l.length = n at *
 go_loopg [4, 7] (L + 1) (fun h s4 s7 wr => ∃ (i : Nat) (x : List UInt8), s4 = .string (bs x) ∧ s7 = .int .i64 (i : Int) ∧ Hid (L + 1 ≤ i + h) ∧ i ≤ L ∧ x.length ≤ 4 * i ∧ Hid (∃ f, L + 1 ≤ f + i ∧ (k, t) = catT x (txtR f (m.drop i))) ∧ Hid (Below w0.heap.size w0 wr))
 case atStart => exact ⟨0, [], rfl, rfl, (by show _ ≤ _; omega), by omega, by simp, ⟨F, by have := HL.out; have := HF.out; omega, HS.out⟩, Below.refl _ _⟩
 case round =>
  clear HS HF
  obtain ⟨i, x, rfl, rfl, HI, hin, hxl, HX0, HB⟩ := hrel
  obtain ⟨f, HFL0, HX1⟩ := HX0.out
  have HX := Lib.hid HX1
  have HFL := Lib.hid HFL0
  clear HX0 HX1 HFL0
  have hxs := bs_size x
  have hxm : x.length ≤ 400000 := by omega
  have HXL := Lib.hid hxl
  clear hxl
  by_cases hlt : i < L
  ·have hiz : (i : Int) < (L : Int) := by omega
   obtain ⟨c, hc⟩ : ∃ c, m[i]? = some c := ⟨m[i]'(by have := HL.out; omega), List.getElem?_eq_getElem _⟩
   have hdr := drop_cons hc
   have hx0 := bs_get hc
   obtain ⟨g, rfl⟩ : ∃ g, f = g + 1 := ⟨f - 1, by have := HFL.out; omega⟩
   by_cases h34 : c = 34
   ·subst h34
    have HR : Hid (k = 8 ∧ t = []) := by
     have := HX.out
     rw [hdr, txtR_bad (.inl rfl), catT_err _ (by decide)] at this
     cases this
     exact ⟨rfl, rfl⟩
    have hx1 : ∀ W, (Instr.index 9 (.string (bs m)) (.int .i64 (i : Int))).run Tryz.prog W = .ok (.int .u8 34) W := hx0
    clear hx0 hc hdr HX
    go_wp2_with fail
    go_ret2
    exact ⟨by rw [HR.out.1, HR.out.2]; rfl, HB.out⟩
   ·have e34 : ((c.toNat : Int) == 34) = false := eq_byte h34
    by_cases h10 : c = 10
    ·subst h10
     have HR : Hid (k = 8 ∧ t = []) := by
      have := HX.out
      rw [hdr, txtR_bad (.inr rfl), catT_err _ (by decide)] at this
      cases this
      exact ⟨rfl, rfl⟩
     have hx1 : ∀ W, (Instr.index 9 (.string (bs m)) (.int .i64 (i : Int))).run Tryz.prog W = .ok (.int .u8 10) W := hx0
     clear hx0 hc hdr HX e34
     go_wp2_with fail
     go_ret2
     exact ⟨by rw [HR.out.1, HR.out.2]; rfl, HB.out⟩
    ·have e10 : ((c.toNat : Int) == 10) = false := eq_byte h10
     by_cases h92 : c = 92
     ·subst h92
      have hx1 : ∀ W, (Instr.index 9 (.string (bs m)) (.int .i64 (i : Int))).run Tryz.prog W = .ok (.int .u8 92) W := hx0
      have hfr := bs_from m i L HL.out.symm
      obtain ⟨v, bt, sz, hes⟩ : ∃ v bt sz, escF 34 (m.drop i) = (v, bt, sz) := ⟨_, _, _, rfl⟩
      have HES : Hid (∀ V, Calls Tryz.prog 19 #[.string (bs (m.drop i)), .int .u8 34] V fun e w' => e = .returned (.tuple #[.int .i64 v, .int .i64 (b2i bt), .int .i64 (sz : Int)]) ∧ Below V.heap.size V w') := fun V => Escape_run (m.drop i) 34 v bt sz V (by rw [List.length_drop]; have := HL.out; omega) hes
      rw [hdr] at hes
      by_cases hs0 : sz = 0
      ·subst hs0
       have HR : Hid (k = 14 ∧ t = []) := by
        have := HX.out
        rw [hdr, txtR_none hes, catT_err _ (by decide)] at this
        cases this
        exact ⟨rfl, rfl⟩
       rw [Int.natCast_zero] at HES
       clear hx0 hc hdr HX e34 e10 hes
       generalize b2i bt = bz at *
       generalize bs (m.drop i) = y at *
       go_wp2_with fail
       refine (HES.out _).mono ?_
       rintro e w3 ⟨rfl, hw⟩
       have HW := Lib.hid (HB.out.trans (hw.mono HB.out.size))
       clear hw
       go_wp2_with fail
       go_ret2
       exact ⟨by rw [HR.out.1, HR.out.2]; rfl, HW.out⟩
      ·have hs0z : ((sz : Int) == 0) = false := beq_eq_false_iff_ne.2 (by omega)
       obtain ⟨q1, q2, q3, q4, q5⟩ := escF_size hes hs0
       rw [← hdr, List.length_drop, HL.out] at q2
       have HX2 : Hid (∃ f, L + 1 ≤ f + (i + sz) ∧ (k, t) = catT (x ++ encB v bt) (txtR f (m.drop (i + sz)))) := by
        refine ⟨g, by have := HFL.out; omega, ?_⟩
        have := HX.out
        rw [hdr, txtR_esc hes hs0, ← hdr, List.drop_drop, catT_catT] at this
        exact this
       have hel := encB_len v bt
       have hcat := bs_app x (encB v bt)
       have hys := bs_size (encB v bt)
       have hxsz : sz ≤ 10 := q3
       clear hx0 hc hdr HX e34 e10 hes hs0 HFL
       cases bt with
       | true =>
        obtain ⟨v0, v1⟩ := q4 rfl
        have hcv : ∀ V : World, (convert 22 9 (.slice (some ⟨V.heap.size, 0, none⟩) 1 1)).run Tryz.prog (V.alloc (.cells #[.int .u8 v] 5)) = .ok (.string (bs (encB v true))) (V.alloc (.cells #[.int .u8 v] 5)) := fun V => by
         have := conv_bytes (Byts.new (w := V) (B := V.heap.size + 1) (l := [v]) (by intro y hy; rw [List.mem_singleton] at hy; omega) 5 (Nat.lt_succ_self _)) 1 1 rfl
         exact this
        have HE1 : Hid (∀ V, Calls Tryz.prog 19 #[.string (bs (m.drop i)), .int .u8 34] V fun e w' => e = .returned (.tuple #[.int .i64 v, .int .i64 1, .int .i64 (sz : Int)]) ∧ Below V.heap.size V w') := HES
        have HEV := Lib.hid hel
        have helm : (encB v true).length ≤ 4 := hel
        generalize encB v true = ev at *
        generalize bs (m.drop i) = y at *
        clear q4 q5 HES hel
        have hsum : (i : Int) + (sz : Int) = ((i + sz : Nat) : Int) := by omega
        have hsn : i + sz ≤ 100000 := by omega
        obtain ⟨is, his⟩ : ∃ is, i + sz = is := ⟨_, rfl⟩
        rw [his] at hsum hsn HX2
        have HIS := Lib.hid his
        clear his
        go_wp2_with fail
        refine (HE1.out _).mono ?_
        rintro e w3 ⟨rfl, hw⟩
        have HW := Lib.hid (HB.out.trans (hw.mono HB.out.size))
        have hcv3 := hcv w3
        clear hw hcv
        go_wp2_with fail
        go_roundg (L + 1 - is)
        case measure => have := HI.out; have := HIS.out; omega
        case rel => exact ⟨is, x ++ ev, rfl, by first | rfl | (rw [hsum]), (by show _ ≤ _; omega), by have := HIS.out; omega, by have := HXL.out; have := HEV.out; have := HIS.out; rw [List.length_append]; omega, HX2, HW.out.alloc HW.out.size _⟩
       | false =>
        have hru := q5 rfl
        have HBY : Hid (∀ V : World, Calls Tryz.prog 21 #[.int .i64 v] V fun e w' => ∃ nb, e = .returned (.slice (some ⟨V.heap.size, 0, none⟩) nb nb) ∧ (convert 22 9 (.slice (some ⟨V.heap.size, 0, none⟩) nb nb)).run Tryz.prog w' = .ok (.string (bs (encB v false))) w' ∧ Below V.heap.size V w') := fun V => by
         refine (Bytes_any v V hru).mono ?_
         rintro e w' ⟨rfl, rfl⟩
         refine ⟨_, rfl, ?_, (Below.refl _ V).alloc (Nat.le_refl _) _⟩
         exact conv_bytes (Byts.new (w := V) (B := V.heap.size + 1) (U.enc_byt hru) 5 (Nat.lt_succ_self _)) _ _ (U.enc_length v)
        have HE1 : Hid (∀ V, Calls Tryz.prog 19 #[.string (bs (m.drop i)), .int .u8 34] V fun e w' => e = .returned (.tuple #[.int .i64 v, .int .i64 0, .int .i64 (sz : Int)]) ∧ Below V.heap.size V w') := HES
        have HEV := Lib.hid hel
        have helm : (encB v false).length ≤ 4 := hel
        generalize encB v false = ev at *
        generalize bs (m.drop i) = y at *
        clear q4 q5 HES hel hru
        have hsum : (i : Int) + (sz : Int) = ((i + sz : Nat) : Int) := by omega
        have hsn : i + sz ≤ 100000 := by omega
        obtain ⟨is, his⟩ : ∃ is, i + sz = is := ⟨_, rfl⟩
        rw [his] at hsum hsn HX2
        have HIS := Lib.hid his
        clear his
        go_wp2_with fail
        refine (HE1.out _).mono ?_
        rintro e w3 ⟨rfl, hw⟩
        have HW := Lib.hid (HB.out.trans (hw.mono HB.out.size))
        clear hw
        go_wp2_with fail
        refine (HBY.out _).mono ?_
        rintro e w4 ⟨nb, rfl, hcv, hw4⟩
        have HW4 := Lib.hid (HW.out.trans (hw4.mono HW.out.size))
        clear hw4
        go_wp2_with fail
        go_roundg (L + 1 - is)
        case measure => have := HI.out; have := HIS.out; omega
        case rel => exact ⟨is, x ++ ev, rfl, by first | rfl | (rw [hsum]), (by show _ ≤ _; omega), by have := HIS.out; omega, by have := HXL.out; have := HEV.out; have := HIS.out; rw [List.length_append]; omega, HX2, HW4⟩
     ·have e92 : ((c.toNat : Int) != 92) = true := by rw [bne_iff_ne]; intro e; exact h92 (UInt8.toNat_inj.1 (by show c.toNat = 92; omega))
      have HX2 : Hid (∃ f, L + 1 ≤ f + (i + 1) ∧ (k, t) = catT (x ++ [c]) (txtR f (m.drop (i + 1)))) := by
       refine ⟨g, by have := HFL.out; omega, ?_⟩
       have := HX.out
       rw [hdr, txtR_one (fun e => e.elim h34 h10) h92, catT_catT] at this
       exact this
      have he := ext_one hc
      have hcat := bs_app x [c]
      have hs1 := bs_size [c]
      have hs2 : ([c] : List UInt8).length = 1 := rfl
      rw [hs2] at hs1
      obtain ⟨ip, hip⟩ : ∃ ip, i + 1 = ip := ⟨_, rfl⟩
      have hipz : (i : Int) + 1 = (ip : Int) := by omega
      have hipl : ip ≤ L := by omega
      have hii : i ≤ ip := by omega
      rw [hip] at he
      have HIP := Lib.hid hip
      clear hc hdr HX h34 h10 h92 hip hs2 HFL
      generalize c.toNat = cn at *
      go_wp2_with fail
      go_roundg (L - i)
      case measure => have := HI.out; omega
      case rel => exact ⟨i + 1, x ++ [c], rfl, by rw [HIP.out], (by show _ ≤ _; omega), by omega, by have := HXL.out; rw [List.length_append]; show _ + 1 ≤ _; omega, HX2, HB⟩
  ·have hip : i = L := by omega
   have hiz : ¬ (i : Int) < (L : Int) := by omega
   have HR : Hid (k = 0 ∧ t = x) := by
    have := HX.out
    rw [List.drop_of_length_le (by have := HL.out; omega), txtR_nil, catT_ok, List.append_nil] at this
    cases this
    exact ⟨rfl, rfl⟩
   clear HX hip
   go_wp2_with fail
   go_ret2
   exact ⟨by rw [HR.out.1, HR.out.2]; rfl, HB.out⟩
end Go.Proofs.YtcieibidnpemjaaGreatDoor
namespace Go.Proofs.YtcieibidnpemjaaGreatDoor
open Go.RowKit
section
variable {P : Program} {ops : Array Oper} {Q : Exit → Act → World → Prop} {md : Region.Mode} {S : World → Prop}
theorem rg_take (i : Nat) {oi : Oper} (v : Value) {fuel : Nat} {listed : Array Bool} {a : Act} {w : World} (hi : ops[i]? = some oi)
  (hs : Region.noSelect ops = true) (hf : Region.free md ops listed i = true) (hr : (Region.ready md ops listed).contains i = true)
  (hQ : ∀ c a w, Q (.panic c) (a.put oi.dst v) w → Q (.panic c) a w) (hg : oi.guard = none) (hv : ∀ w, S w → (execOp a.eval oi).run P w = .ok (.value v) w) (hS : S w)
  (h : wpAnyH P md ops Q S fuel (listed.setIfInBounds i true) (a.put oi.dst v) w) : wpAnyH P md ops Q S (fuel + 1) listed a w :=
 wpAnyH_take hi hs hf hr hQ (.inl ⟨by simp [Region.wanted, hg], hv⟩) hS h
abbrev RStep (P : Program) (md : Region.Mode) (ops : Array Oper) (Q : Exit → Act → World → Prop) (S : World → Prop) (fuel : Nat) (listed : Array Bool) (i : Nat) (a : Act) (w : World) : Prop :=
 wpOp P ops Q i (fun a' w' => S w' ∧ wpAnyH P md ops Q S fuel (listed.setIfInBounds i true) a' w') a w
theorem rg_one (i : Nat) {fuel : Nat} {listed : Array Bool} {a : Act} {w : World} (hr : Region.ready md ops listed = [i]) (h : RStep P md ops Q S fuel listed i a w) : wpAnyH P md ops Q S (fuel + 1) listed a w :=
 wpAnyH_all hr (by simp) fun j hj => by
  obtain rfl : j = i := by simpa using hj
  exact h
theorem rs_of {i : Nat} {o : Oper} {K : Act → World → Prop} {a : Act} {w : World} (ho : ops[i]? = some o) (hg : o.guard = none) (h : o.wp P a w K Q) : wpOp P ops Q i K a w := by
 unfold wpOp
 rw [ho]
 simp only [Region.wanted, hg, if_true]
 exact .inl h
def EntersP (P : Program) (f : Nat) : Prop := ∀ (args : Array Value) (w : World), (callFunc f args).run P w = .ok (.enter f args) w
theorem entersP_of {f : FuncId} {fn : Func} {c : Code} (hf : P.funcs[f]? = some fn) (hname : (fn.name == "runtime.NumGoroutine") = false) (hb : fn.body = some c) : EntersP P f := fun args w => by
 have h1 : fn.name ≠ "runtime.NumGoroutine" := by simpa using hname
 simp [callFunc, hf, h1, hb]
theorem rg_begin (S : World → Prop) {id : Nat} {a : Act} {w : World} (hm : P.follows .mixedOrders = true) (hS : S w.drew)
  (h : S w.drew → wpAnyH P .any ops Q S ops.size (Array.replicate ops.size false) a w.drew) : (Code.region id ops true).wp P Q a w := wp_region_held_drew hm hS h
end
theorem zA {α : Type _} {xs : List α} {i : Nat} (h : i < xs.toArray.size) : xs.toArray[i] = xs[i]'(by simpa using h) := List.getElem_toArray h
theorem zB {α : Type _} (a : α) (l : List α) (h : 0 < (a :: l).length) : (a :: l)[0] = a := List.getElem_cons_zero a l h
theorem zC {α : Type _} (a : α) (l : List α) (i : Nat) (h : i + 1 < (a :: l).length) : (a :: l)[i + 1] = l[i]'(by simpa using h) := List.getElem_cons_succ a l i h
theorem zD {α : Type _} (l : List α) (i : Nat) (a : α) : l.toArray.setIfInBounds i a = (l.set i a).toArray := List.setIfInBounds_toArray l i a
theorem zE {α : Type _} {x : α} {xs : List α} {a : α} : (x :: xs).set 0 a = a :: xs := List.set_cons_zero
theorem zF {α : Type _} {x : α} {xs : List α} {i : Nat} {a : α} : (x :: xs).set (i + 1) a = x :: xs.set i a := List.set_cons_succ
end Go.Proofs.YtcieibidnpemjaaGreatDoor
namespace Go.Proofs.YtcieibidnpemjaaGreatDoor
open Go.RowKit Go.Sort
set_option linter.unusedSimpArgs false
theorem u8_slice : SliceK .u8 22 5 := ⟨Tryz.underlying22, 1, by omega, by kernel_rfl⟩
theorem bi_byt (l : List UInt8) : U.Byt (bi l) := fun x hx => by
 obtain ⟨b, _, rfl⟩ := List.mem_map.1 hx
 have := b.toNat_lt
 omega
theorem bi_app (a b : List UInt8) : bi a ++ bi b = bi (a ++ b) := (List.map_append).symm
theorem byts_nums {w : World} {B : Nat} {A : Option Addr} {l : List UInt8} (h : NumsK .u8 w B A (bi l)) : Byts w B A (bi l) := ⟨bi_byt l, h⟩
end Go.Proofs.YtcieibidnpemjaaGreatDoor
