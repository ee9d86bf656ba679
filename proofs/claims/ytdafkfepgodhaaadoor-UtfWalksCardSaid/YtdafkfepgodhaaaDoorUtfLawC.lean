/-
  The walk of the law UtfBack: it answers true, and leaves what was there as it was.
-/
import Derived.Test.YtdafkfepgodhaaaDoorUtfApp
import Derived.Deep.DeepCutAuto
namespace Go.Proofs.YtdafkfepgodhaaaDoor
open Go.RowKit

def EncRun (r : Int) (k : Nat) (W : World) (e : Ending) (w' : World) : Prop := ∃ A, e = .returned (.tuple #[.slice A k k, .nilIface]) ∧ Byts w' w'.heap.size A (U.enc r) ∧ Below W.heap.size W w'
theorem encode_run (r : Int) (k : Nat) (W : World) (hr : U.isRune r = true) (hk : Hid (U.rlen r = k)) (hh : Heads W) : Calls Tryd.prog 9 #[.int .i32 r] W (EncRun r k W) := by
  have := encode_any r W hh
  unfold encL encE at this
  rw [if_pos hr, if_pos hr] at this
  refine this.mono ?_
  rintro e w' ⟨A, rfl, h1, h2⟩
  exact ⟨A, by rw [U.enc_length, hk.out], h1, h2⟩
theorem own_empty (w : World) : OwnB (w.alloc (.cells #[] 5)) w.heap.size (.slice (some ⟨w.heap.size, 0, none⟩) 0 0) [] := by
  have := World.ownsRow_lit (e := 5) (size := 1) (base := w.heap.size) w #[] 0 (Nat.le_refl _) (by simp [maxLen]) (by simp)
  simpa [OwnB] using this
theorem own_ge {w : World} {base : Nat} {v : Value} {l : List Int} (h : OwnB w base v l) : ∀ g, v.ownBlock = some g → base ≤ g := fun g hg => (World.ownsRow.lt h g hg).1
/-- What the encoding of r says of the bytes around it. -/
theorem around (r : Int) (hr : U.isRune r = true) (k : Nat) (hk : U.rlen r = k) (L1 L2 : List Int) :
    decAns (L1 ++ U.enc r ++ L2) L1.length = .tuple #[.int .i32 r, .int .i64 k, .nilIface] ∧ bound (L1 ++ U.enc r ++ L2) L1.length = true ∧
    (∀ i : Nat, 1 ≤ i → i < k → bound (L1 ++ U.enc r ++ L2) ((L1.length : Int) + i) = false) ∧ scanAll (U.enc r) = (1, none) ∧ 1 ≤ k ∧ k ≤ 4 := by
  subst hk
  have hrl := U.rlen_pos r
  obtain ⟨c, u, he, ha, hcont, _, hul⟩ := U.enc_head hr
  have hcn : U.cont c = false := by
    rw [U.cont_false]
    rintro ⟨h1, h2⟩
    have : U.ann c = 0 := by simp [U.ann, h2, show ¬ c < 128 by omega]
    omega
  have hlen := U.enc_length r
  refine ⟨?_, ?_, ?_, ?_, hrl.1, hrl.2⟩
  · rw [decAns_at _ _ (by simp; omega), List.append_assoc, List.drop_left, U.dec_enc hr]
    rfl
  · rcases bound_cases (L1 ++ U.enc r ++ L2) L1.length with ⟨h, _⟩ | ⟨_, e⟩ | ⟨j, hj, hlt, e⟩
    · simp at h; omega
    · exact e
    · have : j = L1.length := by omega
      subst this
      rw [e]
      have : (L1 ++ U.enc r ++ L2)[L1.length]? = some c := by
        rw [List.append_assoc, List.getElem?_append_right (Nat.le_refl _), Nat.sub_self, he]; rfl
      rw [List.getElem?_eq_getElem hlt] at this
      rw [Option.some.inj this, hcn]
      rfl
  · intro i h1 hi
    rcases bound_cases (L1 ++ U.enc r ++ L2) ((L1.length : Int) + i) with ⟨_, e⟩ | ⟨h, _⟩ | ⟨j, hj, hlt, e⟩
    · exact e
    · simp at h; omega
    · have : j = L1.length + i := by omega
      subst this
      rw [e]
      have hx : (L1 ++ U.enc r ++ L2)[L1.length + i]? = (U.enc r)[i]? := by
        rw [List.append_assoc, List.getElem?_append_right (by omega), List.getElem?_append_left (by omega)]
        congr 1; omega
      have hx2 : (U.enc r)[i]? = u[i - 1]? := by
        rw [he, show i = (i - 1) + 1 by omega, List.getElem?_cons_succ]; rfl
      rw [List.getElem?_eq_getElem hlt, hx2] at hx
      rw [hcont _ (List.mem_of_getElem? hx.symm)]
      rfl
  · have hd := U.dec_enc hr []
    rw [List.append_nil] at hd
    unfold scanAll
    rw [he] at hd hlen ⊢
    simp only [scan, hd]
    have : (c :: u).drop (U.rlen r) = [] := List.drop_eq_nil_of_le (by omega)
    rw [this, ← hlen]
    simp only [List.length_cons, scan]
set_option maxRecDepth 100000 in
set_option maxHeartbeats 4000000 in
theorem utfBack_rune (r : Int) (A1 : Option Addr) (n1 cap1 : Nat) (l1 : List Int) (A2 : Option Addr) (n2 cap2 : Nat) (l2 : List Int) (w : World)
    (hb1 : Byts w w.heap.size A1 l1) (hl1 : Hid (l1.length = n1)) (hcap1 : n1 ≤ cap1) (hmax1 : cap1 ≤ 9223372036854775807)
    (hb2 : Byts w w.heap.size A2 l2) (hl2 : Hid (l2.length = n2)) (hcap2 : n2 ≤ cap2) (hmax2 : cap2 ≤ 9223372036854775807)
    (hr : U.isRune r = true) (hh : Heads w) (hg : ErrType w) :
    Calls Tryd.prog 5 #[.int .i32 r, .slice A1 n1 cap1, .slice A2 n2 cap2] w fun e w' => e = .returned (.bool true) ∧ Below w.heap.size w w' := by
  have Hb1 := Lib.hid (hb1.take 100)
  have Hb2 := Lib.hid (hb2.take 100)
  have Hh := Lib.hid hh
  have Hg := Lib.hid hg
  have hlt := hh.lt
  have hlg := hg.lt
  clear hh hg hb1 hb2
  obtain ⟨k, hk⟩ : ∃ k, U.rlen r = k := ⟨_, rfl⟩
  have har := around r hr k hk (l1.take 100) (l2.take 100)
  obtain ⟨hD, hB0, hBi, hS, hk1, hk4⟩ := har
  have HD0 := Lib.hid hD
  have HB00 := Lib.hid hB0
  have HBi0 := Lib.hid hBi
  have HS := Lib.hid hS
  have Hk := Lib.hid hk
  have Hr := Lib.hid hr
  clear hD hB0 hBi hS hk hr
  obtain ⟨m1, hm1⟩ : ∃ m, m = if n1 ≤ 100 then n1 else 100 := ⟨_, rfl⟩
  obtain ⟨m2, hm2⟩ : ∃ m, m = if n2 ≤ 100 then n2 else 100 := ⟨_, rfl⟩
  have Hlen1 : Hid ((l1.take 100).length = m1) := by
    show _ = _
    rw [List.length_take, hl1.out, hm1]
    split <;> omega
  have Hlen2 : Hid ((l2.take 100).length = m2) := by
    show _ = _
    rw [List.length_take, hl2.out, hm2]
    split <;> omega
  have hc1 : m1 ≤ cap1 := by rw [hm1]; split <;> omega
  have hc2 : m2 ≤ cap2 := by rw [hm2]; split <;> omega
  have hs1 : m1 ≤ 100 := by rw [hm1]; split <;> omega
  have hs2 : m2 ≤ 100 := by rw [hm2]; split <;> omega
  have Hm1 := Lib.hid hm1
  have Hm2 := Lib.hid hm2
  clear hm1 hm2
  obtain ⟨L, hL⟩ : ∃ L, L = l1.take 100 ++ U.enc r ++ l2.take 100 := ⟨_, rfl⟩
  have HL := Lib.hid hL
  have HD : Hid (decAns L m1 = .tuple #[.int .i32 r, .int .i64 k, .nilIface]) := by show _ = _; rw [hL, ← Hlen1.out]; exact HD0.out
  have HB0 : Hid (bound L m1 = true) := by show _ = _; rw [hL, ← Hlen1.out]; exact HB00.out
  have HBi : Hid (∀ i : Nat, 1 ≤ i → i < k → bound L ((m1 : Int) + i) = false) := by rw [hL, ← Hlen1.out]; exact HBi0
  have HLen : Hid (L.length = m1 + k + m2) := by
    show _ = _
    rw [hL, List.length_append, List.length_append, Hlen1.out, Hlen2.out, U.enc_length, Hk.out]
  have HByt : Hid (U.Byt L) := by
    intro x hx
    rw [hL] at hx
    rcases List.mem_append.1 hx with hx | hx
    · rcases List.mem_append.1 hx with hx | hx
      · exact Hb1.out.1 x hx
      · exact U.enc_byt Hr.out x hx
    · exact Hb2.out.1 x hx
  clear hL HD0 HB00 HBi0
  have hEl : Hid ((U.enc r).length = k) := by show _ = _; rw [U.enc_length, Hk.out]
  have hN0 : Hid (([] : List Int).length ≤ 500000) := by show _ ≤ _; simp
  have hN1 : Hid ((l1.take 100).length ≤ 500000) := by show _ ≤ _; rw [List.length_take]; omega
  have hN2 : Hid ((l2.take 100).length ≤ 500000) := by show _ ≤ _; rw [List.length_take]; omega
  have hNE : Hid ((U.enc r).length ≤ 500000) := by show _ ≤ _; rw [hEl.out]; omega
  have hN01 : Hid (([] ++ l1.take 100).length ≤ 500000) := by show _ ≤ _; simp; omega
  have hN012 : Hid (([] ++ l1.take 100 ++ U.enc r).length ≤ 500000) := by
    have := hEl.out
    show _ ≤ _
    simp
    omega
  go_enter Tryd.func5, Tryd.ntmps5
  go_upto_region 1 with fail
  go_cut [1, 2] (fun s1 s2 wx => s1 = .slice A1 m1 cap1 ∧ s2 = .slice A2 m2 cap2 ∧ wx = w.drew)
  case first =>
    by_cases h1 : n1 ≤ 100
    all_goals by_cases h2 : n2 ≤ 100
    all_goals
      go_region
      go_wp2_with fail
      go_meet
      case rel => exact ⟨by rw [Hm1.out]; simp [h1], by rw [Hm2.out]; simp [h2], rfl⟩
  case rest =>
    obtain ⟨rfl, rfl, rfl⟩ := hcut
    go_wp2_with fail
    refine (encode_run r k _ Hr.out Hk (show Heads w.drew from Hh.out)).mono ?_
    rintro e w1 ⟨A3, rfl, hy3, hw1⟩
    have b1 : Hid (Below w.heap.size w w1) := (Below.refl _ w).drew.trans hw1
    have O0 := Lib.hid (own_empty w1)
    have hbase : Hid (w1.heap.size ≤ (w1.alloc (.cells #[] 5)).heap.size) := by show _ ≤ _; simp
    have B0 : Hid (Below w1.heap.size w1 (w1.alloc (.cells #[] 5))) := (Below.refl _ _).alloc (Nat.le_refl _) _
    have Y1 : Hid (Byts (w1.alloc (.cells #[] 5)) w1.heap.size A1 (l1.take 100)) := (Hb1.out.len_cap (Nat.le_refl _) b1.out).below B0.out (Nat.le_refl _)
    have Y2 : Hid (Byts (w1.alloc (.cells #[] 5)) w1.heap.size A2 (l2.take 100)) := (Hb2.out.len_cap (Nat.le_refl _) b1.out).below B0.out (Nat.le_refl _)
    have Y3 : Hid (Byts (w1.alloc (.cells #[] 5)) w1.heap.size A3 (U.enc r)) := hy3.below B0.out (Nat.le_refl _)
    clear hy3 hw1
    go_upto_region 6 with (first
      | (at_builtin
         refine wpList_app _ rfl (.tmp 37) (.tmp 38) rfl w1.heap.size (.slice (some ⟨w1.heap.size, 0, none⟩) 0 0) [] rfl O0.out w1.heap.size A1 _ cap1 (l1.take 100) rfl Y1.out Hlen1.out hN0.out hN1.out hbase.out ?_
         intro v2 w2 o2 g2 t2
         have B2 : Hid (Below w1.heap.size w1 w2) := B0.out.grown g2 hbase.out (own_ge O0.out)
         have O2 := Lib.hid o2
         have Z2 : Hid (Byts w2 w1.heap.size A2 (l2.take 100)) := Y2.out.grown g2 hbase.out (own_ge O0.out)
         have Z3 : Hid (Byts w2 w1.heap.size A3 (U.enc r)) := Y3.out.grown g2 hbase.out (own_ge O0.out)
         clear o2 g2 t2)
      | (at_builtin
         refine wpList_app _ rfl (.tmp 39) (.tmp 40) rfl w1.heap.size v2 _ rfl O2.out w1.heap.size A3 k k (U.enc r) rfl Z3.out hEl.out hN01.out hNE.out B2.out.size ?_
         intro v3 w3 o3 g3 t3
         have B3 : Hid (Below w1.heap.size w1 w3) := B2.out.grown g3 B2.out.size (own_ge O2.out)
         have O3 := Lib.hid o3
         have X2 : Hid (Byts w3 w1.heap.size A2 (l2.take 100)) := Z2.out.grown g3 B2.out.size (own_ge O2.out)
         have X3 : Hid (Byts w3 w1.heap.size A3 (U.enc r)) := Z3.out.grown g3 B2.out.size (own_ge O2.out)
         clear o3 g3 t3)
      | (at_builtin
         refine wpList_app _ rfl (.tmp 41) (.tmp 42) rfl w1.heap.size v3 _ rfl O3.out w1.heap.size A2 _ cap2 (l2.take 100) rfl X2.out Hlen2.out hN012.out hN2.out B3.out.size ?_
         intro v4 w4 o4 g4 t4
         have B4 : Hid (Below w1.heap.size w1 w4) := B3.out.grown g4 B3.out.size (own_ge O3.out)
         have O4 := Lib.hid o4
         have W3 : Hid (Byts w4 w1.heap.size A3 (U.enc r)) := X3.out.grown g4 B3.out.size (own_ge O3.out)
         clear o4 g4 t4))
    have O4' : OwnB w4 w1.heap.size v4 L := by rw [HL.out]; simpa only [List.nil_append] using O4.out
    obtain ⟨g, cap4, hv4, hc4, hg4, y4⟩ := O4'.open_ (by rw [HLen.out]; omega) HByt.out
    rw [HLen.out] at hv4 hc4
    subst hv4
    have Y4 := Lib.hid y4
    have b4 : Hid (Below w.heap.size w w4) := b1.out.trans (B4.out.mono b1.out.size)
    have hs4 := b4.out.size
    clear O4' O4 y4 B3 B2 B0 O3 O2 O0 Y1 Y2 Y3 Z2 Z3 X2 X3 b1
    go_wp2_with fail
    refine (decode_any _ _ _ L _ _ Y4.out (Hh.out.below b4.out hlt) HLen.out hc4 (by omega)).mono ?_
    rw [HD.out]
    rintro e w5 ⟨rfl, q, rfl⟩
    have b5 : Hid (Below w.heap.size w (w4.drewN q)) := below_drewN b4.out q
    have Y5 : Hid (Byts (w4.drewN q) (w4.drewN q).heap.size (some ⟨g, 0, none⟩) L) := Y4.out
    have W5 : Hid (Byts (w4.drewN q) (w4.drewN q).heap.size A3 (U.enc r)) := W3.out.more B4.out.size
    have hs5 := b5.out.size
    go_wp2_with fail
    refine (Check_any _ _ _ _ _ W5.out (Hh.out.below b5.out hlt) hEl.out (Nat.le_refl _) (by omega)).mono ?_
    rw [HS.out]
    rintro e w6 ⟨rfl, hw6⟩
    simp only [checkAns]
    have b6 : Hid (Below w.heap.size w w6) := b5.out.trans (hw6.mono hs5)
    have hs6 := b6.out.size
    have Y6 : Hid (Byts w6 w6.heap.size (some ⟨g, 0, none⟩) L) := Y5.out.len_cap (Nat.le_refl _) hw6
    clear hw6 W5 W3 Y5 Y4 b4 B4
    go_wp2_with fail
    refine (Boundary_any _ _ _ L _ _ Y6.out HLen.out).mono ?_
    rw [HB0.out]
    rintro e w7 ⟨rfl, hw7⟩
    have b7 : Hid (Below w.heap.size w w7) := b6.out.trans (hw7.mono hs6)
    have hs7 := b7.out.size
    have Y7 : Hid (Byts w7 w7.heap.size (some ⟨g, 0, none⟩) L) := Y6.out.len_cap (Nat.le_refl _) hw7
    clear hw7 Y6 b6 b5
    go_wp2_with fail
    go_loopg [13] k (fun h s wr => ∃ i : Nat, Hid (i + h = k + 1) ∧ 1 ≤ i ∧ i ≤ k ∧ s = .int .i64 i ∧ Below w7.heap.size w7 wr)
    case atStart => exact ⟨1, by show _ = _; omega, by omega, by omega, rfl, Below.refl _ _⟩
    case round =>
      obtain ⟨i, hi, hi1, hik, rfl, hbw⟩ := hrel
      have b8 : Hid (Below w.heap.size w wr) := b7.out.trans (hbw.mono hs7)
      have Y8 : Hid (Byts wr wr.heap.size (some ⟨g, 0, none⟩) L) := Y7.out.len_cap (Nat.le_refl _) hbw
      have hs8 := hbw.size
      by_cases hlt3 : i < k
      · go_wp2_with fail
        refine (Boundary_any _ _ _ L _ _ Y8.out HLen.out).mono ?_
        rw [HBi.out i hi1 hlt3]
        rintro e w9 ⟨rfl, hw9⟩
        go_wp2_with fail
        go_roundg (k - i)
        case measure => have := hi.out; omega
        case rel => exact ⟨i + 1, by show _ = _; omega, by omega, by omega, by go_num, hbw.trans (hw9.mono hs8)⟩
      · go_wp2_with fail
        refine (works_any _ (Hh.out.below b8.out hlt) (Hg.out.below b8.out hlg)).mono ?_
        rintro e w9 ⟨rfl, hw9⟩
        go_wp2
        go_ret
        exact ⟨rfl, b8.out.trans (hw9.mono (by omega))⟩
set_option maxRecDepth 100000 in
set_option maxHeartbeats 4000000 in
theorem utfBack_none (r : Int) (A1 : Option Addr) (n1 cap1 : Nat) (A2 : Option Addr) (n2 cap2 : Nat) (w : World)
    (hcap1 : n1 ≤ cap1) (hmax1 : cap1 ≤ 9223372036854775807) (hcap2 : n2 ≤ cap2) (hmax2 : cap2 ≤ 9223372036854775807)
    (hr : U.isRune r = false) (hh : Heads w) (hg : ErrType w) :
    Calls Tryd.prog 5 #[.int .i32 r, .slice A1 n1 cap1, .slice A2 n2 cap2] w fun e w' => e = .returned (.bool true) ∧ Below w.heap.size w w' := by
  have Hh := Lib.hid hh
  have Hg := Lib.hid hg
  have hlt := hh.lt
  have hlg := hg.lt
  clear hh hg
  obtain ⟨m1, hm1⟩ : ∃ m, m = if n1 ≤ 100 then n1 else 100 := ⟨_, rfl⟩
  obtain ⟨m2, hm2⟩ : ∃ m, m = if n2 ≤ 100 then n2 else 100 := ⟨_, rfl⟩
  have Hm1 := Lib.hid hm1
  have Hm2 := Lib.hid hm2
  have Hr := Lib.hid hr
  clear hm1 hm2 hr
  go_enter Tryd.func5, Tryd.ntmps5
  go_upto_region 1 with fail
  go_cut [1, 2] (fun s1 s2 wx => s1 = .slice A1 m1 cap1 ∧ s2 = .slice A2 m2 cap2 ∧ wx = w.drew)
  case first =>
    by_cases h1 : n1 ≤ 100
    all_goals by_cases h2 : n2 ≤ 100
    all_goals
      go_region
      go_wp2_with fail
      go_meet
      case rel => exact ⟨by rw [Hm1.out]; simp [h1], by rw [Hm2.out]; simp [h2], rfl⟩
  case rest =>
    obtain ⟨rfl, rfl, rfl⟩ := hcut
    go_wp2_with fail
    have hE := encode_any r w.drew (show Heads w.drew from Hh.out)
    unfold encL encE at hE
    rw [if_neg (by rw [Hr.out]; simp), if_neg (by rw [Hr.out]; simp)] at hE
    refine hE.mono ?_
    rintro e w1 ⟨A3, rfl, hy3, hw1⟩
    simp only [List.length_nil, errno]
    have b1 : Hid (Below w.heap.size w w1) := (Below.refl _ w).drew.trans hw1
    have hs1 := b1.out.size
    clear hw1 hy3
    go_wp2_with fail
    refine (works_any _ (Hh.out.below b1.out hlt) (Hg.out.below b1.out hlg)).mono ?_
    rintro e w9 ⟨rfl, hw9⟩
    go_wp2
    go_ret
    exact ⟨rfl, b1.out.trans (hw9.mono (by omega))⟩
theorem utfBack_any (r : Int) (A1 : Option Addr) (n1 cap1 : Nat) (l1 : List Int) (A2 : Option Addr) (n2 cap2 : Nat) (l2 : List Int) (w : World)
    (hb1 : Byts w w.heap.size A1 l1) (hl1 : Hid (l1.length = n1)) (hcap1 : n1 ≤ cap1) (hmax1 : cap1 ≤ 9223372036854775807)
    (hb2 : Byts w w.heap.size A2 l2) (hl2 : Hid (l2.length = n2)) (hcap2 : n2 ≤ cap2) (hmax2 : cap2 ≤ 9223372036854775807)
    (_ : -2147483648 ≤ r) (_ : r ≤ 2147483647) (hh : Heads w) (hg : ErrType w) :
    Calls Tryd.prog 5 #[.int .i32 r, .slice A1 n1 cap1, .slice A2 n2 cap2] w fun e w' => e = .returned (.bool true) ∧ Below w.heap.size w w' := by
  cases hr : U.isRune r with
  | true => exact utfBack_rune r A1 n1 cap1 l1 A2 n2 cap2 l2 w hb1 hl1 hcap1 hmax1 hb2 hl2 hcap2 hmax2 hr hh hg
  | false => exact utfBack_none r A1 n1 cap1 A2 n2 cap2 w hcap1 hmax1 hcap2 hmax2 hr hh hg
end Go.Proofs.YtdafkfepgodhaaaDoor
