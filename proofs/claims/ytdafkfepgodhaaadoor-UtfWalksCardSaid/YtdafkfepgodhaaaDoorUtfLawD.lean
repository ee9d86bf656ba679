/-
  The walk of the law UtfWalks: it answers true, and leaves what was there as it was.
-/
import Derived.Test.YtdafkfepgodhaaaDoorUtfLawC
namespace Go.Proofs.YtdafkfepgodhaaaDoor
open Go.RowKit

theorem OwnB.below {w w' : World} {base : Nat} {v : Value} {l : List Int} (h : OwnB w base v l) (hb : Below w.heap.size w w') : OwnB w' base v l :=
  World.ownsRow.kept h (row := none) ⟨hb.os, hb.tape, hb.output, hb.size, fun k hk _ => hb.block k hk⟩ (by cases v.ownBlock <;> simp)
theorem OwnB.byts {w : World} {base : Nat} {v : Value} {l : List Int} (h : OwnB w base v l) (hb : U.Byt l) : ∃ A cap, v = .slice A l.length cap ∧ l.length ≤ cap ∧ Byts w w.heap.size A l := by
  rcases Nat.eq_zero_or_pos l.length with h0 | h0
  · obtain rfl := List.eq_nil_of_length_eq_zero h0
    rcases h.2 with ⟨hv, _⟩ | ⟨g, cap, cur, hv, _, _, hnc, _⟩
    · exact ⟨none, 0, hv, Nat.le_refl _, Byts.nil⟩
    · exact ⟨_, cap, hv, hnc, Byts.nil⟩
  · obtain ⟨g, cap, hv, hnc, _, hy⟩ := h.open_ h0 hb
    exact ⟨_, cap, hv, hnc, hy⟩
/-- Where a walk over bytes that are runes stands before their end. -/
theorem AtPlace.rune {l : List Int} {p n m : Nat} (h : AtPlace l p n) (hp : p < l.length) (hs : scanAll l = (m, none)) :
    ∃ r k, U.isRune r = true ∧ U.rlen r = k ∧ 1 ≤ k ∧ k ≤ 4 ∧ p + k ≤ l.length ∧ AtPlace l (p + k) (n + 1) ∧ decAns l p = .tuple #[.int .i32 r, .int .i64 k, .nilIface] ∧ bound l p = true ∧
      (∀ i : Nat, 1 ≤ i → i < k → bound l ((p : Int) + i) = false) ∧ l.take (p + k) = l.take p ++ U.enc r := by
  cases hd : U.dec (l.drop p) with
  | none =>
    have := h.bad hp hd
    rw [hs] at this
    simp at this
  | some rk =>
    obtain ⟨r, k⟩ := rk
    obtain ⟨hn, _, hkl⟩ := h.next hp hd
    obtain ⟨hr, hk, t, ht⟩ := U.enc_dec hd
    have hl : l = l.take p ++ U.enc r ++ t := by rw [List.append_assoc, ← ht, List.take_append_drop]
    have hpl : (l.take p).length = p := by rw [List.length_take]; omega
    obtain ⟨a1, a2, a3, _, a5, a6⟩ := around r hr k hk.symm (l.take p) t
    rw [← hl, hpl] at a1 a2 a3
    refine ⟨r, k, hr, hk.symm, a5, a6, hkl, hn, a1, a2, a3, ?_⟩
    have e := congrArg (List.take (p + k)) hl
    rw [e, List.take_left' (by rw [List.length_append, hpl, U.enc_length, hk])]
set_option maxRecDepth 100000 in
set_option maxHeartbeats 4000000 in
theorem utfWalks_bad (A : Option Addr) (n cap : Nat) (l : List Int) (w : World) (m p : Nat) (hS : Hid (scanAll (l.take 300) = (m, some p))) (hb : Byts w w.heap.size A l) (hl : Hid (l.length = n)) (hcap : n ≤ cap) (hmax : cap ≤ 9223372036854775807) (hh : Heads w) (hg : ErrType w) :
    Calls Tryd.prog 6 #[.slice A n cap] w fun e w' => e = .returned (.bool true) ∧ Below w.heap.size w w' := by
  have Hb := Lib.hid (hb.take 300)
  have Hh := Lib.hid hh
  have Hg := Lib.hid hg
  have hlt := hh.lt
  have hlg := hg.lt
  clear hh hg hb
  have ht : Hid ((l.take 300).length = if n ≤ 300 then n else 300) := by
    show _ = _
    rw [List.length_take, hl.out]
    split <;> omega
  have E1 : Hid (checkAns (scanAll (l.take 300)) = errAt p 3) := by show _ = _; rw [hS.out]; rfl
  by_cases h300 : n ≤ 300
  all_goals
    have hlen := ht.out
    first | rw [if_pos h300] at hlen | rw [if_neg h300] at hlen
    have Hlen := Lib.hid hlen
    clear hlen ht
    go_enter Tryd.func6, Tryd.ntmps6
    go_wp2_with fail
    refine (Check_any _ _ _ _ _ Hb.out Hh.out Hlen.out (by omega) (by omega)).mono ?_
    rw [E1.out]
    rintro e w1 ⟨rfl, hw1⟩
    simp only [errAt, errno]
    have b1 : Hid (Below w.heap.size w w1) := hw1
    have hs1 := hw1.size
    clear hw1
    go_wp2_with fail
    refine (works_any _ (Hh.out.below b1.out hlt) (Hg.out.below b1.out hlg)).mono ?_
    rintro e w2 ⟨rfl, hw2⟩
    go_wp2
    go_ret
    exact ⟨rfl, b1.out.trans (hw2.mono hs1)⟩
set_option maxRecDepth 100000 in
set_option maxHeartbeats 4000000 in
theorem utfWalks_good (A : Option Addr) (n cap : Nat) (l : List Int) (w : World) (c : Nat) (hS : Hid (scanAll (l.take 300) = (c, none))) (hb : Byts w w.heap.size A l) (hl : Hid (l.length = n)) (hcap : n ≤ cap) (hmax : cap ≤ 9223372036854775807) (hh : Heads w) (hg : ErrType w) :
    Calls Tryd.prog 6 #[.slice A n cap] w fun e w' => e = .returned (.bool true) ∧ Below w.heap.size w w' := by
  have Hh := Lib.hid hh
  have Hg := Lib.hid hg
  have hlt := hh.lt
  have hlg := hg.lt
  clear hh hg
  obtain ⟨z, hz⟩ : ∃ z, z = if n ≤ 300 then n else 300 := ⟨_, rfl⟩
  have Hz := Lib.hid hz
  have hz1 : z ≤ cap := by rw [hz]; split <;> omega
  have hz2 : z ≤ 300 := by rw [hz]; split <;> omega
  clear hz
  obtain ⟨L, hL⟩ : ∃ L, L = l.take 300 := ⟨_, rfl⟩
  have Hb : Hid (Byts w w.heap.size A L) := by rw [hL]; exact hb.take 300
  have HS : Hid (scanAll L = (c, none)) := by rw [hL]; exact hS
  have HL : Hid (L.length = z) := by
    show _ = _
    rw [hL, List.length_take, hl.out, Hz.out]
    split <;> omega
  clear hL hb hS hl
  have E1 : Hid (checkAns (scanAll L) = .nilIface) := by show _ = _; rw [HS.out]; rfl
  have E3 : Hid (countAns (scanAll L) = .tuple #[.int .i64 c, .nilIface]) := by show _ = _; rw [HS.out]; rfl
  have hE : Hid (bound L z = true) := by
    show _ = _
    rw [← HL.out]
    simp [bound]
  go_enter Tryd.func6, Tryd.ntmps6
  go_upto_region 1 with fail
  go_cut [0] (fun s0 wx => s0 = .slice A z cap ∧ wx = w)
  case first =>
    by_cases h1 : n ≤ 300
    all_goals
      go_wp2_with fail
      go_meet
      case rel => exact ⟨by rw [Hz.out]; simp [h1], rfl⟩
  case rest =>
    obtain ⟨rfl, ew⟩ := hcut
    replace ew := ew.symm
    subst ew
    go_wp2_with fail
    refine (Check_any _ _ _ _ _ Hb.out Hh.out HL.out hz1 (by omega)).mono ?_
    rw [E1.out]
    rintro e w1 ⟨rfl, hw1⟩
    have b1 : Hid (Below w.heap.size w w1) := hw1
    have hs1 := hw1.size
    have Y1 : Hid (Byts w1 w.heap.size A L) := Hb.out.below hw1 (Nat.le_refl _)
    have H1 : Hid (Heads w1) := Hh.out.below hw1 hlt
    have O1 : Hid (OwnB w1 w1.heap.size (.slice none 0 0) (L.take 0)) := World.ownsRow_nil _ _ _ _
    clear hw1
    go_wp2_with fail
    go_loopg [3, 4, 5] (z + 1) (fun h s3 s4 s5 wr => ∃ p m : Nat, Hid (p + h = z + 1) ∧ p ≤ z ∧ m ≤ p ∧ s4 = .int .i64 m ∧ s5 = .int .i64 p ∧ Hid (AtPlace L p m) ∧ Hid (OwnB wr w1.heap.size s3 (L.take p)) ∧ Hid (Below w1.heap.size w1 wr))
    case atStart => exact ⟨0, 0, by show _ = _; omega, by omega, by omega, rfl, rfl, AtPlace.start L, O1, Below.refl _ _⟩
    case round =>
      obtain ⟨p, m, hph, hp, hmp, rfl, rfl, HP, HO, HB⟩ := hrel
      by_cases hlt2 : p < z
      · have hpl : p < L.length := by have := HL.out; omega
        obtain ⟨r, k, hr, hk, hk1, hk4, hkl, hN, hD, hB0, hBi, hT⟩ := HP.out.rune hpl HS.out
        have Hr := Lib.hid hr
        have Hk := Lib.hid hk
        have HN := Lib.hid hN
        have HD := Lib.hid hD
        have HB0 := Lib.hid hB0
        have HBi := Lib.hid hBi
        have HT := Lib.hid hT
        have hkz : p + k ≤ z := by have := HL.out; omega
        have hEl : Hid ((U.enc r).length = k) := by show _ = _; rw [U.enc_length, hk]
        clear hr hk hN hD hB0 hBi hT hkl hpl
        have hsr := HB.out.size
        go_wp2_with fail
        refine (decode_any (B := w.heap.size) A z cap L _ _ (Y1.out.below HB.out hs1) (H1.out.below HB.out (by omega)) HL.out hz1 (by omega)).mono ?_
        rw [HD.out]
        rintro e w2 ⟨rfl, q, rfl⟩
        have B2 : Hid (Below w1.heap.size w1 (wr.drewN q)) := below_drewN HB.out q
        have Y2 : Hid (Byts (wr.drewN q) w.heap.size A L) := Y1.out.below B2.out hs1
        have O2 : Hid (OwnB (wr.drewN q) w1.heap.size _ (L.take p)) := HO.out
        have hs2 := B2.out.size
        go_wp2_with fail
        refine (encode_run r k _ Hr.out Hk (H1.out.below B2.out (by omega))).mono ?_
        rintro e w3 ⟨A3, rfl, hy3, hw3⟩
        have B3 : Hid (Below w1.heap.size w1 w3) := B2.out.trans (hw3.mono hs2)
        have Y3 : Hid (Byts w3 w.heap.size A L) := Y1.out.below B3.out hs1
        have O3 : Hid (OwnB w3 w1.heap.size _ (L.take p)) := O2.out.below hw3
        have X3 : Hid (Byts w3 w3.heap.size A3 (U.enc r)) := hy3
        have hs3 := B3.out.size
        clear hw3 hy3 O2 Y2 B2 HO HB
        go_wp2_with fail
        refine (Boundary_any _ _ _ L _ _ Y3.out HL.out).mono ?_
        rw [HB0.out]
        rintro e w4 ⟨rfl, hw4⟩
        have B4 : Hid (Below w1.heap.size w1 w4) := B3.out.trans (hw4.mono hs3)
        have O4 : Hid (OwnB w4 w1.heap.size _ (L.take p)) := O3.out.below hw4
        have X4 : Hid (Byts w4 w4.heap.size A3 (U.enc r)) := X3.out.len_cap (Nat.le_refl _) hw4
        have hs4 := B4.out.size
        clear hw4 O3 Y3 B3 X3
        go_wp2_with fail
        go_loopg [11] k (fun h s wx => ∃ i : Nat, Hid (i + h = k + 1) ∧ 1 ≤ i ∧ i ≤ k ∧ s = .int .i64 i ∧ Below w4.heap.size w4 wx)
        case atStart => exact ⟨1, by show _ = _; omega, by omega, by omega, rfl, Below.refl _ _⟩
        case round =>
          obtain ⟨i, hi, hi1, hik, rfl, hbw⟩ := hrel
          have B5 : Hid (Below w1.heap.size w1 wr) := B4.out.trans (hbw.mono hs4)
          have hs5 := hbw.size
          by_cases hlt3 : i < k
          · go_wp2_with fail
            refine (Boundary_any _ _ _ L _ _ (Y1.out.below B5.out hs1) HL.out).mono ?_
            rw [HBi.out i hi1 hlt3]
            rintro e w6 ⟨rfl, hw6⟩
            go_wp2_with fail
            go_roundg (k - i)
            case measure => have := hi.out; omega
            case rel => exact ⟨i + 1, by show _ = _; omega, by omega, by omega, by go_num, hbw.trans (hw6.mono hs5)⟩
          · have O5 : Hid (OwnB wr w1.heap.size _ (L.take p)) := O4.out.below hbw
            have X5 : Hid (Byts wr w4.heap.size A3 (U.enc r)) := X4.out.below hbw (Nat.le_refl _)
            have hNp : Hid ((L.take p).length ≤ 500000) := by show _ ≤ _; rw [List.length_take]; omega
            have hNk : Hid ((U.enc r).length ≤ 500000) := by show _ ≤ _; rw [hEl.out]; omega
            have hs6 := B5.out.size
            go_wp2_with
              (at_builtin
               refine wpList_app _ rfl (.tmp 71) (.tmp 72) rfl w1.heap.size u3 _ rfl O5.out w4.heap.size A3 k k (U.enc r) rfl X5.out hEl.out hNp.out hNk.out hs6 ?_
               intro v7 w7 o7 g7 t7
               have B7 : Hid (Below w1.heap.size w1 w7) := B5.out.grown g7 hs6 (own_ge O5.out)
               have O7 : Hid (OwnB w7 w1.heap.size v7 (L.take (p + k))) := by show OwnB _ _ _ _; rw [HT.out]; exact o7
               clear o7 g7 t7)
            go_roundg (z + 1 - (p + k))
            case measure => have := hph.out; omega
            case rel => exact ⟨p + k, m + 1, by show _ = _; omega, hkz, by omega, by go_num, by go_num, HN.out, O7.out, B7.out⟩
      · obtain rfl : p = z := by omega
        have HO' : OwnB wr w1.heap.size u3 L := by have := HO.out; rwa [List.take_of_length_le (by rw [HL.out]; exact Nat.le_refl _)] at this
        have hcm : Hid (c = m) := by
          have e := HP.out.done (by rw [HL.out]; exact Nat.le_refl _)
          rw [HS.out] at e
          exact congrArg Prod.fst e
        obtain ⟨A9, cap9, hv9, hc9, hy9⟩ := HO'.byts Hb.out.1
        rw [HL.out] at hv9 hc9
        subst hv9
        have Y9 := Lib.hid hy9
        have bq : Hid (Below w.heap.size w wr) := b1.out.trans (HB.out.mono hs1)
        have hsq := bq.out.size
        clear HO HO' hy9
        go_wp2_with fail
        refine (Count_any A p cap L _ (Hb.out.below bq.out (Nat.le_refl _) |>.more hsq) (Hh.out.below bq.out hlt) HL.out hz1 (by omega)).mono ?_
        rw [E3.out, hcm.out]
        rintro e w2 ⟨rfl, hw2⟩
        have b2 : Hid (Below w.heap.size w w2) := bq.out.trans (hw2.mono hsq)
        have Y2 : Hid (Byts w2 wr.heap.size A9 L) := Y9.out.below hw2 (Nat.le_refl _)
        have hs2 := b2.out.size
        clear hw2 Y9
        go_wp2_with fail
        refine (Equal_any A9 A p cap9 p cap L L Y2.out (Hb.out.below b2.out (Nat.le_refl _)) HL.out HL.out).mono ?_
        rw [decide_eq_true (rfl : L = L)]
        rintro e w3 ⟨rfl, rfl⟩
        clear Y2
        go_wp2_with fail
        refine (Boundary_any _ _ _ L _ _ (Hb.out.below b2.out (Nat.le_refl _)) HL.out).mono ?_
        rw [hE.out]
        rintro e w4 ⟨rfl, hw4⟩
        have b4 : Hid (Below w.heap.size w w4) := b2.out.trans (hw4.mono hs2)
        have hs4 := b4.out.size
        clear hw4 b2
        go_wp2_with fail
        refine (works_any _ (Hh.out.below b4.out hlt) (Hg.out.below b4.out hlg)).mono ?_
        rintro e w5 ⟨rfl, hw5⟩
        go_wp2
        go_ret
        exact ⟨rfl, b4.out.trans (hw5.mono hs4)⟩
theorem utfWalks_any (A : Option Addr) (n cap : Nat) (l : List Int) (w : World) (hb : Byts w w.heap.size A l) (hl : l.length = n) (hcap : n ≤ cap) (hmax : cap ≤ 9223372036854775807) (hh : Heads w) (hg : ErrType w) :
    Calls Tryd.prog 6 #[.slice A n cap] w fun e w' => e = .returned (.bool true) ∧ Below w.heap.size w w' := by
  obtain ⟨m, o, hS⟩ : ∃ m o, scanAll (l.take 300) = (m, o) := ⟨_, _, rfl⟩
  cases o with
  | none => exact utfWalks_good A n cap l w m hS hb hl hcap hmax hh hg
  | some p => exact utfWalks_bad A n cap l w m p hS hb hl hcap hmax hh hg
end Go.Proofs.YtdafkfepgodhaaaDoor
