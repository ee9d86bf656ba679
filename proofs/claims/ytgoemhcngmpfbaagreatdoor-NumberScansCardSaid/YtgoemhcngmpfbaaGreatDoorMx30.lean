/-
  number's body.
-/
import Derived.Test.YtgoemhcngmpfbaaGreatDoorMx29
import Derived.Test.YtgoemhcngmpfbaaGreatDoorMx12
import Derived.Test.YtgoemhcngmpfbaaGreatDoorMx09
namespace Go.Proofs.YtgoemhcngmpfbaaGreatDoor
open Go.RowKit Go.Sort
set_option linter.unusedSimpArgs false
def okAt (sg : Bool) (l : List UInt8) (i : Nat) : Bool := isPart (l.getD i 0).toNat || (sg && (decide (0 < i) && (isSgn (l.getD i 0).toNat && isMrk (l.getD (i - 1) 0).toNat)))
def BodyN (sg : Bool) (l : List UInt8) (k : Nat) : Prop := k ≤ l.length ∧ (∀ i, i < k → okAt sg l i = true) ∧ (k < l.length → okAt sg l k = false)
theorem bodyN_uniq {sg : Bool} {l : List UInt8} {k j : Nat} (h : BodyN sg l k) (g : BodyN sg l j) : k = j := by
 rcases Nat.lt_trichotomy k j with h1 | h1 | h1
 ·have a := g.2.1 k h1
  rw [h.2.2 (by have := g.1; omega)] at a
  cases a
 ·exact h1
 ·have a := h.2.1 j h1
  rw [g.2.2 (by have := h.1; omega)] at a
  cases a
theorem bodyN_is (sg : Bool) (l : List UInt8) : ∃ k, BodyN sg l k := by
 have key : ∀ d i, i + d = l.length → (∀ j, j < i → okAt sg l j = true) → ∃ k, BodyN sg l k := by
  intro d
  induction d with
  | zero => intro i hi h; exact ⟨i, by omega, h, fun h => by omega⟩
  | succ d ih =>
   intro i hi h
   cases hk : okAt sg l i
   ·exact ⟨i, by omega, h, fun _ => hk⟩
   ·exact ih (i + 1) (by omega) (fun j hj => by
     by_cases e : j = i
     ·rw [e]; exact hk
     ·exact h j (by omega))
 exact key l.length 0 (by omega) (fun j hj => by omega)
theorem getD_of {l : List UInt8} {i : Nat} {c : UInt8} (h : l[i]? = some c) : l.getD i 0 = c := by
 rw [List.getD_eq_getElem?_getD, h]; rfl
def sgOf (l : List UInt8) : Bool := !decide (pfxB (l.take 2) = 16)
set_option maxRecDepth 100000 in
set_option maxHeartbeats 4000000 in
theorem body_run (b o n cap k : Nat) (l : List UInt8) (w : World) (B : Nat) (hb : Byts w B (some ⟨b, o, none⟩) (bi l)) (hB : B ≤ w.heap.size) (hn : l.length = n) (hm : n ≤ 10000) (hcap : n ≤ cap) (h0 : 0 < n) (hk : Hid (BodyN (sgOf l) l k)) :
  Calls Tryz.prog 56 #[.slice (some ⟨b, o, none⟩) n cap] w fun e w' => e = .returned (.slice (some ⟨b, o, none⟩) k cap) ∧ Below w.heap.size w w' := by
 have hl2 : (l.take 2).length ≤ 2 := by rw [List.length_take]; omega
 have HC0 := fun V => cutPrefix_run (l.take 2) V (by omega)
 generalize (if pfxB (l.take 2) = 0 then l.take 2 else (l.take 2).drop 2) = rst at HC0
 have HC := Lib.hid HC0
 clear HC0
 obtain ⟨m2, hm2⟩ : ∃ m2, (l.take 2).length = m2 := ⟨_, rfl⟩
 have hmz : min (n : Int) 2 = (m2 : Int) := by rw [← hm2, List.length_take, hn]; omega
 have hcv := conv_bytes (hb.take 2) m2 cap (by rw [bi_take, bi_length, hm2])
 rw [bi_take, bi_str] at hcv
 have hm2n : m2 ≤ n := by rw [← hm2, List.length_take]; omega
 have hm2c : m2 ≤ cap := by omega
 clear hm2
 go_enter Tryz.func56, Tryz.ntmps56
 go_wp2_with fail
 refine (HC.out _).mono ?_
 rintro e w1 ⟨rfl, hw⟩
 have HB1 := Lib.hid hw
 have HY := Lib.hid (hb.below hw hB)
 have hk' := hk.out
 obtain ⟨sg, hsg⟩ : ∃ sg, sgOf l = sg := ⟨_, rfl⟩
 rw [hsg] at hk'
 unfold sgOf at hsg
 generalize pfxB (l.take 2) = Q at *
 have hPz : ((Q : Int) != 16) = sg := by
  rw [← hsg]
  show (!((Q : Int) == 16)) = _
  congr 1
  rw [Bool.eq_iff_iff]
  simp only [beq_iff_eq, decide_eq_true_eq]
  omega
 clear hw hk hb hB hsg hcv hmz hm2n hm2c HC hl2
 have hk := Lib.hid hk'
 clear hk'
 go_wp2_with fail
 go_loopg [22] (n + 1) (fun h s22 wr => ∃ i : Nat, s22 = .int .i64 (i : Int) ∧ Hid (i + h = n + 1) ∧ i ≤ n ∧ Hid (∀ j, j < i → okAt sg l j = true) ∧ wr = w1)
 case atStart => exact ⟨0, rfl, by show _ = _; omega, by omega, fun j hj => absurd hj (by omega), rfl⟩
 case round =>
  obtain ⟨i, rfl, HI, hin, HS, rfl⟩ := hrel
  clear hPz
  by_cases hlt : i < n
  ·have hiz : (i : Int) < (n : Int) := by omega
   have hic : i ≤ cap := by omega
   obtain ⟨c, hc⟩ : ∃ c, l[i]? = some c := ⟨l[i]'(by omega), List.getElem?_eq_getElem (by omega)⟩
   have hx := byts_cell HY.out hc
   have hok : okAt sg l i = (isPart c.toNat || (sg && (decide (0 < i) && (isSgn c.toNat && isMrk (l.getD (i - 1) 0).toNat)))) := by
    unfold okAt
    rw [getD_of hc]
   have HP := fun W => has4_run c.toNat (UInt8.toNat_lt c) W
   have HG := fun W => isSign_run c.toNat W
   clear hc
   cases hp : isPart c.toNat
   ·rw [hp] at HP hok
    replace HP := Lib.hid HP
    rw [Bool.false_or] at hok
    clear hp
    cases sg
    ·have HK : Hid (k = i) := bodyN_uniq hk.out ⟨by omega, HS.out, fun _ => hok⟩
     clear HS HG hok
     generalize c.toNat = cn at *
     go_wp2_with fail
     refine (HP.out _).mono ?_
     rintro e w2 ⟨rfl, rfl⟩
     go_wp2_with fail
     go_ret
     exact ⟨by rw [HK.out]; rfl, HB1.out⟩
    ·by_cases hi0 : 0 < i
     ·have h0z : (0 : Int) < (i : Int) := by omega
      rw [Bool.true_and, decide_eq_true hi0, Bool.true_and] at hok
      cases hg : isSgn c.toNat
      ·rw [hg] at HG hok
       have HK : Hid (k = i) := bodyN_uniq hk.out ⟨by omega, HS.out, fun _ => hok⟩
       replace HG := Lib.hid HG
       clear HS hok hg
       generalize c.toNat = cn at *
       go_wp2_with fail
       refine (HP.out _).mono ?_
       rintro e w2 ⟨rfl, rfl⟩
       go_wp2_with fail
       refine (HG.out _).mono ?_
       rintro e w2 ⟨rfl, rfl⟩
       go_wp2_with fail
       go_ret
       exact ⟨by rw [HK.out]; rfl, HB1.out⟩
      ·rw [hg, Bool.true_and] at hok
       rw [hg] at HG
       replace HG := Lib.hid HG
       obtain ⟨im, him⟩ : ∃ im, i = im + 1 := ⟨i - 1, by omega⟩
       have hmz : (i : Int) - 1 = (im : Int) := by omega
       have him2 : im < n := by omega
       obtain ⟨d, hd⟩ : ∃ d, l[im]? = some d := ⟨l[im]'(by omega), List.getElem?_eq_getElem (by omega)⟩
       have hy := byts_cell HY.out hd
       rw [show i - 1 = im by omega, getD_of hd] at hok
       have HM := fun W => isMark_run d W
       have HIM := Lib.hid him
       clear hd hg him
       cases hmk : isMrk d.toNat
       ·rw [hmk] at HM hok
        have HK : Hid (k = i) := bodyN_uniq hk.out ⟨by omega, HS.out, fun _ => hok⟩
        replace HM := Lib.hid HM
        clear HS hok hmk
        generalize c.toNat = cn at *
        generalize d.toNat = dn at *
        go_wp2_with fail
        refine (HP.out _).mono ?_
        rintro e w2 ⟨rfl, rfl⟩
        go_wp2_with fail
        refine (HG.out _).mono ?_
        rintro e w2 ⟨rfl, rfl⟩
        go_wp2_with fail
        refine (HM.out _).mono ?_
        rintro e w2 ⟨rfl, rfl⟩
        go_wp2_with fail
        go_ret
        exact ⟨by rw [HK.out]; rfl, HB1.out⟩
       ·rw [hmk] at HM hok
        have HS2 : Hid (∀ j, j < i + 1 → okAt true l j = true) := fun j hj => by
         by_cases e : j = i
         ·rw [e]; exact hok
         ·exact HS.out j (by omega)
        replace HM := Lib.hid HM
        clear HS hok hmk
        generalize c.toNat = cn at *
        generalize d.toNat = dn at *
        go_wp2_with fail
        refine (HP.out _).mono ?_
        rintro e w2 ⟨rfl, rfl⟩
        go_wp2_with fail
        refine (HG.out _).mono ?_
        rintro e w2 ⟨rfl, rfl⟩
        go_wp2_with fail
        refine (HM.out _).mono ?_
        rintro e w2 ⟨rfl, rfl⟩
        go_wp2_with fail
        go_roundg (n - i)
        case measure => have := HI.out; omega
        case rel => exact ⟨i + 1, by go_num, by show _ = _; have := HI.out; omega, by omega, HS2, rfl⟩
     ·obtain rfl : i = 0 := by omega
      rw [decide_eq_false hi0, Bool.false_and, Bool.and_false] at hok
      have HK : Hid (k = 0) := bodyN_uniq hk.out ⟨by omega, HS.out, fun _ => hok⟩
      rw [Nat.add_zero] at hx
      clear HS HG hok hi0
      generalize c.toNat = cn at *
      rw [Int.natCast_zero] at *
      go_wp2_with fail
      refine (HP.out _).mono ?_
      rintro e w2 ⟨rfl, rfl⟩
      go_wp2_with fail
      go_ret
      exact ⟨by rw [HK.out]; rfl, HB1.out⟩
   ·rw [hp] at HP hok
    rw [Bool.true_or] at hok
    have HS2 : Hid (∀ j, j < i + 1 → okAt sg l j = true) := fun j hj => by
     by_cases e : j = i
     ·rw [e]; exact hok
     ·exact HS.out j (by omega)
    replace HP := Lib.hid HP
    clear hp HS HG hok
    generalize c.toNat = cn at *
    go_wp2_with fail
    refine (HP.out _).mono ?_
    rintro e w2 ⟨rfl, rfl⟩
    go_wp2_with fail
    go_roundg (n - i)
    case measure => have := HI.out; omega
    case rel => exact ⟨i + 1, by go_num, by show _ = _; have := HI.out; omega, by omega, HS2, rfl⟩
  ·obtain rfl : i = n := by omega
   have HK : Hid (k = i) := bodyN_uniq hk.out ⟨by omega, HS.out, fun h => by omega⟩
   clear HS
   go_wp2_with fail
   go_ret
   exact ⟨by rw [HK.out]; rfl, HB1.out⟩
end Go.Proofs.YtgoemhcngmpfbaaGreatDoor
namespace Go.Proofs.YtgoemhcngmpfbaaGreatDoor
open Go.RowKit Go.Sort
set_option linter.unusedSimpArgs false
theorem Byts.dropN {w : World} {B : Nat} {A : Option Addr} {l : List Int} (h : Byts w B A l) {i : Nat} (hi : i < l.length) : ∃ b o, A = some ⟨b, o, none⟩ ∧ Byts w B (some ⟨b, o + i, none⟩) (l.drop i) := by
 obtain ⟨b, o, e, hb, hc⟩ := h.2 (by omega)
 refine ⟨b, o, e, fun x hx => h.1 x (List.mem_of_mem_drop hx), fun _ => ⟨b, o + i, rfl, hb, fun j x hx => ?_⟩⟩
 rw [List.getElem?_drop] at hx
 rw [Nat.add_assoc]
 exact hc _ _ hx
theorem part_ascii {c : Nat} (h : isPart c = true) : c < 128 := by
 unfold isPart clsN at h
 rw [decide_eq_true_eq] at h
 split at h
 ·omega
 ·split at h
  ·omega
  ·split at h
   ·omega
   ·exact absurd rfl h
theorem sgn_ascii {c : Nat} (h : isSgn c = true) : c < 128 := by
 unfold isSgn at h
 rw [decide_eq_true_eq] at h
 omega
theorem ok_ascii {sg : Bool} {l : List UInt8} {i : Nat} {c : UInt8} (hc : l[i]? = some c) (h : okAt sg l i = true) : c.toNat < 128 := by
 unfold okAt at h
 rw [getD_of hc, Bool.or_eq_true] at h
 rcases h with h | h
 ·exact part_ascii h
 ·rw [Bool.and_eq_true, Bool.and_eq_true, Bool.and_eq_true] at h
  exact sgn_ascii h.2.2.1
theorem body_ascii {sg : Bool} {l : List UInt8} {k : Nat} (h : BodyN sg l k) : ∀ (j : Nat) b, (l.take k)[j]? = some b → b.toNat < 128 := fun j b hb => by
 rw [List.getElem?_take] at hb
 split at hb
 ·rename_i hj
  exact ok_ascii hb (h.2.1 j hj)
 ·cases hb
def ScanIs (l : List UInt8) (at_ : Int) (kind : Int) (k e : Nat) : Prop :=
 ((at_ < 0 ∨ (l.length : Int) ≤ at_ ∨ begL (l.drop at_.toNat) = false) ∧ kind = 0 ∧ k = 0 ∧ e = 7) ∨
 (0 ≤ at_ ∧ at_ < (l.length : Int) ∧ begL (l.drop at_.toNat) = true ∧ BodyN (sgOf (l.drop at_.toNat)) (l.drop at_.toNat) k ∧
  kind = kndZ ((l.drop at_.toNat).take k) ∧ ∃ y, ValueIs kind ((l.drop at_.toNat).take k) y ∧ e = y.k)
theorem scan_is (l : List UInt8) (at_ : Int) : ∃ kind k e, ScanIs l at_ kind k e := by
 unfold ScanIs
 by_cases h : at_ < 0 ∨ (l.length : Int) ≤ at_ ∨ begL (l.drop at_.toNat) = false
 ·exact ⟨0, 0, 7, .inl ⟨h, rfl, rfl, rfl⟩⟩
 ·have h1 : ¬ at_ < 0 := fun e => h (.inl e)
  have h2 : ¬ (l.length : Int) ≤ at_ := fun e => h (.inr (.inl e))
  have h3 : begL (l.drop at_.toNat) = true := by
   cases e : begL (l.drop at_.toNat)
   ·exact absurd (.inr (.inr e)) h
   ·rfl
  obtain ⟨k, hk⟩ := bodyN_is (sgOf (l.drop at_.toNat)) (l.drop at_.toNat)
  obtain ⟨y, hy⟩ := value_is (kndZ ((l.drop at_.toNat).take k)) ((l.drop at_.toNat).take k)
  exact ⟨_, k, y.k, .inr ⟨by omega, by omega, h3, hk, rfl, y, hy, rfl⟩⟩
def scanV (kind : Int) (k e : Nat) : Value := .tuple #[.int .i64 kind, .int .i64 (k : Int), errV e]
set_option maxRecDepth 100000 in
set_option maxHeartbeats 4000000 in
theorem Scan_run (A : Option Addr) (n cap : Nat) (at_ : Int) (l : List UInt8) (kind : Int) (k e0 : Nat) (w : World) (B : Nat) (hb : Byts w B A (bi l)) (hB : B ≤ w.heap.size) (hn : l.length = n) (hm : n ≤ 10000) (hcap : n ≤ cap) (h : Hid (ScanIs l at_ kind k e0)) (hml : Hid (Ml w)) :
  Calls Tryz.prog 23 #[.slice A n cap, .int .i64 at_] w fun e w' => e = .returned (scanV kind k e0) ∧ Below w.heap.size w w' := by
 by_cases h1 : at_ < 0
 ·have HE : Hid (kind = 0 ∧ k = 0 ∧ e0 = 7) := by
   rcases h.out with ⟨_, h⟩ | ⟨h, _⟩
   ·exact h
   ·omega
  clear h hb hml
  go_enter Tryz.func23, Tryz.ntmps23
  go_wp2_with fail
  go_ret3
  exact ⟨by rw [HE.out.1, HE.out.2.1, HE.out.2.2]; rfl, Below.refl _ _⟩
 ·by_cases h2 : (n : Int) ≤ at_
  ·have HE : Hid (kind = 0 ∧ k = 0 ∧ e0 = 7) := by
    rcases h.out with ⟨_, h⟩ | ⟨_, h, _⟩
    ·exact h
    ·omega
   have h1' : decide (at_ < 0) = false := by simpa using h1
   clear h hb hml
   go_enter Tryz.func23, Tryz.ntmps23
   go_wp2_with fail
   go_ret3
   exact ⟨by rw [HE.out.1, HE.out.2.1, HE.out.2.2]; rfl, Below.refl _ _⟩
  ·obtain ⟨a, rfl⟩ : ∃ a : Nat, at_ = (a : Int) := ⟨at_.toNat, by omega⟩
   have han : a < n := by omega
   obtain ⟨b, o, rfl, hd⟩ := hb.dropN (i := a) (by rw [bi_length]; omega)
   rw [bi_drop] at hd
   have h' := h.out
   unfold ScanIs at h'
   rw [Int.toNat_natCast] at h'
   have hdl : (l.drop a).length = n - a := by rw [List.length_drop, hn]
   generalize l.drop a = m at *
   have ha0 : decide ((a : Int) < 0) = false := by simp
   have ha1 : decide (n ≤ a) = false := decide_eq_false (by omega)
   have hne : ¬ cap = a := by omega
   have HBe := begins_runN b (o + a) (n - a) (cap - a) m w B hd hdl (by omega) (by omega)
   have HD := Lib.hid hd
   clear h hb hd
   cases hv : begL m
   ·have HE : Hid (kind = 0 ∧ k = 0 ∧ e0 = 7) := by
     rcases h' with ⟨_, h⟩ | ⟨_, _, h, _⟩
     ·exact h
     ·rw [hv] at h; cases h
    rw [hv] at HBe
    replace HBe := Lib.hid HBe
    clear h' hv hml
    go_enter Tryz.func23, Tryz.ntmps23
    go_wp2_with fail
    refine HBe.out.mono ?_
    rintro e w1 ⟨rfl, rfl⟩
    go_wp2_with fail
    go_ret3
    exact ⟨by rw [HE.out.1, HE.out.2.1, HE.out.2.2]; rfl, Below.refl _ _⟩
   ·rw [hv] at HBe
    replace HBe := Lib.hid HBe
    rcases h' with ⟨h, _⟩ | ⟨_, _, _, hk, rfl, y, hy, rfl⟩
    ·rcases h with h | h | h
     ·omega
     ·omega
     ·rw [hv] at h; cases h
    ·have HBo := Lib.hid (body_run b (o + a) (n - a) (cap - a) k m w B HD.out hB hdl (by omega) (by omega) (by omega) hk)
     have hkn : k ≤ n - a := by rw [← hdl]; exact hk.1
     have hsl : (m.take k).length = k := by rw [List.length_take, hdl]; omega
     have hasc := body_ascii hk
     have hcv : ∀ V, Byts V B (some ⟨b, o + a, none⟩) (bi m) → (convert 48 9 (.slice (some ⟨b, o + a, none⟩) k (cap - a))).run Tryz.prog V = .ok (.string (bs (m.take k))) V := fun V hV => by
      have := conv_bytes (hV.take k) k (cap - a) (by rw [bi_take, bi_length, hsl])
      rwa [bi_take, bi_str] at this
     have HCV := Lib.hid hcv
     clear hcv hv hk
     generalize m.take k = s at *
     have hsz := bs_size s
     rw [hsl] at hsz
     obtain ⟨kd, hkd⟩ : ∃ kd, kndZ s = kd := ⟨_, rfl⟩
     have HK := fun V => kindOf_run s V (by omega) hasc
     rw [hkd] at HK hy
     obtain ⟨ys, yn, yd, yk⟩ := y
     obtain ⟨ev, hev⟩ : ∃ v, errV yk = v := ⟨_, rfl⟩
     have HV : Hid (∀ V, Ml V → Calls Tryz.prog 31 #[.int .i64 kd, .string (bs s)] V fun e w' => e = .returned (.tuple #[ratV ys yn false yd, ev]) ∧ Below V.heap.size V w') := fun V hV => by
      have := Value_run kd s _ V (by omega) hy hV
      dsimp only at this
      rwa [hev] at this
     have HR : Hid (scanV kd k yk = .tuple #[.int .i64 kd, .int .i64 (k : Int), ev]) := by
      unfold Hid scanV
      rw [hev]
     dsimp only
     rw [hkd, HR.out]
     replace HK := Lib.hid HK
     have HML : Hid (∀ V, Below w.heap.size w V → Ml V) := fun V hV => hml.out.below hV
     have HSz : Hid (B ≤ w.heap.size) := hB
     clear hy hev hkd hasc HR hml hB
     go_enter Tryz.func23, Tryz.ntmps23
     go_wp2_with fail
     refine HBe.out.mono ?_
     rintro e w1 ⟨rfl, rfl⟩
     go_wp2_with fail
     refine HBo.out.mono ?_
     rintro e w2 ⟨rfl, hw⟩
     have hc2 := HCV.out w2 (HD.out.below hw HSz.out)
     have HB2 := Lib.hid hw
     clear hw
     go_wp2_with fail
     refine (HK.out _).mono ?_
     rintro e w3 ⟨rfl, hw⟩
     have HB3 := Lib.hid (HB2.out.trans (hw.mono HB2.out.size))
     clear hw hc2 HB2
     go_wp2_with fail
     refine (HV.out _ (HML.out _ HB3.out)).mono ?_
     rintro e w4 ⟨rfl, hw⟩
     have HB4 := Lib.hid (HB3.out.trans (hw.mono HB3.out.size))
     clear hw HB3
     go_wp2_with fail
     go_ret3
     exact ⟨rfl, HB4.out⟩
end Go.Proofs.YtgoemhcngmpfbaaGreatDoor
namespace Go.Proofs.YtgoemhcngmpfbaaGreatDoor
open Go.RowKit Go.Sort
set_option linter.unusedSimpArgs false
theorem decS_size (n : Nat) : (decS n).size = (Lib.decDigits n).length := by simp [decS, ByteArray.size]
theorem fits_dec {n : Nat} (h : Fits n) : n < 10 ^ 155 := Nat.lt_of_lt_of_le h (by decide)
theorem decS_le {n : Nat} (h : Fits n) : (decS n).size ≤ 155 := by rw [decS_size]; exact decDigits_le (by decide) (fits_dec h)
def TD (n q : Nat) (t : ByteArray) : Prop := decS n = decS q ++ t
theorem TD.start (n : Nat) : TD n n ⟨#[]⟩ := (empty_right _).symm
theorem TD.size {n q : Nat} {t : ByteArray} (h : TD n q t) : t.size ≤ (decS n).size := by
 rw [show decS n = decS q ++ t from h, bytes_size_app]; omega
theorem TD.stop {n q : Nat} {t : ByteArray} (h : TD n q t) (h0 : q / 10000000000000000000 = 0) : decS (q % 10000000000000000000) ++ t = decS n := by
 have : q % 10000000000000000000 = q := by omega
 rw [this]
 exact h.symm
theorem TD.step {n q c : Nat} {t : ByteArray} (h : TD n q t) (h0 : q / 10000000000000000000 ≠ 0) (hc : 19 - (decS (q % 10000000000000000000)).size = c) :
  TD n (q / 10000000000000000000) ((((⟨(Lib.repeatL [48] c).toArray⟩ : ByteArray) ++ decS (q % 10000000000000000000))) ++ t) := by
 unfold TD at h ⊢
 rw [h, ← bytes_assoc]
 congr 1
 have e : q = q / 10000000000000000000 * 10 ^ 19 + q % 10000000000000000000 := by
  rw [show (10 : Nat) ^ 19 = 10000000000000000000 by decide]
  omega
 have hr : q % 10000000000000000000 < 10 ^ 19 := Nat.mod_lt _ (by decide)
 have h2 := dec_pieces 19 (q / 10000000000000000000) (q % 10000000000000000000) (by decide) (Nat.pos_of_ne_zero h0) hr
 rw [← e] at h2
 rw [decS_size] at hc
 show (⟨(Lib.decDigits q).toArray⟩ : ByteArray) = ⟨_⟩ ++ (⟨_⟩ ++ ⟨_⟩)
 rw [bytes_app, bytes_app, h2, repeat_zero, ← hc]
 rfl
theorem chunk_small (q : Nat) : (decS (q % 10000000000000000000)).size ≤ 19 := by
 rw [decS_size]
 exact decDigits_le (by decide) (Nat.mod_lt _ (by decide))
theorem chunk_lt {q : Nat} (h : q / 10000000000000000000 ≠ 0) : q / 10000000000000000000 < q := by omega
set_option maxRecDepth 100000 in
set_option maxHeartbeats 4000000 in
theorem decimal_run (n : Nat) (w : World) (hn : Hid (Fits n)) (ht : Hid (Tab w)) :
  Calls Tryz.prog 73 #[wordsV n] w fun e w' => e = .returned (.string (decS n)) ∧ Below w.heap.size w w' := by
 have hN := decS_le hn.out
 obtain ⟨N, hNe⟩ : ∃ N, decS n = N := ⟨_, rfl⟩
 rw [hNe] at hN ⊢
 have HNE := Lib.hid hNe
 clear hNe
 obtain ⟨S, hS⟩ : ∃ S, w.heap.size = S := ⟨_, rfl⟩
 obtain ⟨W, hW⟩ : ∃ W, w.alloc (boxO n 119) = W := ⟨_, rfl⟩
 have A1 := WordsAt.new w n 119
 have B1 := below_alloc w (boxO n 119)
 have z1 : (w.alloc (boxO n 119)).heap.size = S + 1 := by simp [hS]
 rw [show w.alloc (.cells #[.int .u64 (wd n 0 : Int), .int .u64 (wd n 1 : Int), .int .u64 (wd n 2 : Int), .int .u64 (wd n 3 : Int), .int .u64 (wd n 4 : Int), .int .u64 (wd n 5 : Int), .int .u64 (wd n 6 : Int), .int .u64 (wd n 7 : Int)] 119) = W from hW, hS] at A1
 rw [hW, hS] at B1
 rw [hW] at z1
 have HA := Lib.hid A1
 have HB := Lib.hid B1
 have HZ : Hid (S + 1 ≤ W.heap.size) := Nat.le_of_eq z1.symm
 have HT0 : Hid (∀ w', Below S w w' → Tab w') := fun w' hb => ht.out.below (by rw [hS]; exact hb)
 clear A1 B1 z1 ht
 rw [hS]
 unfold wordsV
 go_enter Tryz.func73, Tryz.ntmps73
 go_wp2_with fail
 clear hW
 go_loopg [3] (n + 1) (fun h s3 wr => ∃ (q : Nat) (t : ByteArray), s3 = .string t ∧ Hid (q < h) ∧ Hid (TD n q t) ∧ Hid (Fits q) ∧ Hid (WordsAt wr S 0 q 8) ∧ Hid (Below S w wr) ∧ Hid (S + 1 ≤ wr.heap.size))
 case atStart => exact ⟨n, ⟨#[]⟩, rfl, Nat.lt_succ_self n, TD.start n, hn, HA, HB, HZ⟩
 case round =>
  clear HA HB HZ
  obtain ⟨q, t, rfl, HQ, HD, HF, HA, HB, HZ⟩ := hrel
  have htl : t.size ≤ N.size := by have := HD.out.size; rwa [HNE.out] at this
  have HC := fun V => divide_run q 10000000000000000000 V HF (Nat.lt_of_lt_of_le (show 10000000000000000000 < 18446744073709551616 by decide) (Nat.le_self_pow (by decide) _)) (by decide)
  rw [wordsV_small (show 10000000000000000000 < 18446744073709551616 by decide)] at HC
  have hsr := chunk_small q
  have HST : Hid (q / 10000000000000000000 = 0 → decS (q % 10000000000000000000) ++ t = N) := fun h => by rw [← HNE.out]; exact HD.out.stop h
  have HSP := Lib.hid (fun (h : q / 10000000000000000000 ≠ 0) => HD.out.step h rfl)
  have HFq : Hid (Fits (q / 10000000000000000000)) := Nat.lt_of_le_of_lt (Nat.div_le_self _ _) HF.out
  have HLT : Hid (q / 10000000000000000000 ≠ 0 → q / 10000000000000000000 < q) := fun h => chunk_lt h
  have hr64 : q % 10000000000000000000 < 18446744073709551616 := Nat.lt_trans (Nat.mod_lt _ (by decide)) (by decide)
  generalize hq' : q / 10000000000000000000 = q' at *
  generalize q % 10000000000000000000 = r at *
  clear hq'
  have HFU : Hid (∀ V, Tab V → Calls Tryz.prog 116 #[.int .u64 (wd r 0 : Int), .int .i64 10] V fun e w' => e = .returned (.string (decS r)) ∧ Below V.heap.size V w') := fun V hV => by rw [(wd_small hr64).1]; exact format_run r hr64 V hV
  generalize decS r = dr at *
  obtain ⟨c, hc⟩ : ∃ c, 19 - dr.size = c := ⟨_, rfl⟩
  have hcz : (19 : Int) - (dr.size : Int) = (c : Int) := by omega
  have hc19 : c ≤ 19 := by omega
  have HRP : Hid (∀ V, Calls Tryz.prog 117 #[.string ⟨#[48]⟩, .int .i64 (c : Int)] V fun e w' => e = .returned (.string ⟨(Lib.repeatL [48] c).toArray⟩) ∧ Below V.heap.size V w') := fun V => Tryz.strings_Repeat ⟨#[48]⟩ c V (by omega) (by show 1 * c ≤ _; omega)
  rw [hc] at HSP
  have hrs : (⟨(Lib.repeatL [48] c).toArray⟩ : ByteArray).size = c := by simp [ByteArray.size, Lib.repeatL_length]
  generalize (⟨(Lib.repeatL [48] c).toArray⟩ : ByteArray) = zs at *
  clear hc
  have heq := fun V => eqWords q' 0 V HFq.out (Nat.pow_pos (by decide))
  simp only [wordsV, wd_zero, Int.natCast_zero] at heq
  unfold wordsV at HC
  have HC := Lib.hid HC
  obtain ⟨⟨a0, b0⟩, ⟨a1, b1⟩, ⟨a2, b2⟩, ⟨a3, b3⟩, ⟨a4, b4⟩, ⟨a5, b5⟩, ⟨a6, b6⟩, ⟨a7, b7⟩⟩ := HA.out.eight
  by_cases hq0 : q' = 0
  ·have HE := Lib.hid (HST.out hq0)
   rw [decide_eq_true hq0] at heq
   clear HSP HLT HRP hq0
   go_wp2_with fail
   refine (HC.out _).mono ?_
   rintro e w1 ⟨rfl, hw1⟩
   have HZ1 : Hid (S + 1 ≤ w1.heap.size) := Nat.le_trans HZ.out hw1.size
   have B2 : Hid (∀ o p : Obj, Below S w ((w1.alloc o).alloc p)) := fun o p => ((HB.out.trans (hw1.mono (by have := HZ.out; omega))).alloc (by have := HZ1.out; omega) o).alloc (by have := HZ1.out; simp; omega) p
   obtain ⟨R, hR⟩ : ∃ R, w1.heap.size = R := ⟨_, rfl⟩
   have P2 := Lib.hid (two_boxes w1 q' r 119 119)
   rw [hR] at P2
   have HR : Hid (S + 1 ≤ R) := by rw [← hR]; exact HZ1
   clear hw1 HC a0 a1 a2 a3 a4 a5 a6 a7 b0 b1 b2 b3 b4 b5 b6 b7 HA HZ1
   go_wp2_with fail
   refine (HFU.out _ (HT0.out _ (B2.out _ _))).mono ?_
   rintro e w2 ⟨rfl, hw2⟩
   have B3 : Hid (Below S w w2) := (B2.out _ _).trans (hw2.mono (by have := HR.out; simp; omega))
   have K2 : Hid (WordsAt w2 R 0 q' 8) := P2.out.1.keep hw2 (by simp; omega)
   clear hw2 HFU HT0 B2 P2
   obtain ⟨⟨a0, b0⟩, ⟨a1, b1⟩, ⟨a2, b2⟩, ⟨a3, b3⟩, ⟨a4, b4⟩, ⟨a5, b5⟩, ⟨a6, b6⟩, ⟨a7, b7⟩⟩ := K2.out.eight
   clear b0 b1 b2 b3 b4 b5 b6 b7
   go_wp2_with fail
   go_ret
   exact ⟨congrArg (fun x => Ending.returned (.string x)) HE.out, B3.out⟩
  ·have HE := Lib.hid (HSP.out hq0)
   have HL := Lib.hid (HLT.out hq0)
   rw [decide_eq_false hq0] at heq
   clear HST HSP HLT hq0
   go_wp2_with fail
   refine (HC.out _).mono ?_
   rintro e w1 ⟨rfl, hw1⟩
   have HZ1 : Hid (S + 1 ≤ w1.heap.size) := Nat.le_trans HZ.out hw1.size
   have B2 : Hid (∀ o p : Obj, Below S w ((w1.alloc o).alloc p)) := fun o p => ((HB.out.trans (hw1.mono (by have := HZ.out; omega))).alloc (by have := HZ1.out; omega) o).alloc (by have := HZ1.out; simp; omega) p
   have A2 : Hid (∀ o p : Obj, WordsAt ((w1.alloc o).alloc p) S 0 q 8) := fun o p => ((HA.out.keep hw1 (by have := HZ.out; omega)).alloc (by have := HZ1.out; omega) o).alloc (by have := HZ1.out; simp; omega) p
   obtain ⟨R, hR⟩ : ∃ R, w1.heap.size = R := ⟨_, rfl⟩
   have P2 := Lib.hid (two_boxes w1 q' r 119 119)
   rw [hR] at P2
   have HR : Hid (S + 1 ≤ R) := by rw [← hR]; exact HZ1
   clear hw1 HC a0 a1 a2 a3 a4 a5 a6 a7 b0 b1 b2 b3 b4 b5 b6 b7 HA HZ1
   go_wp2_with fail
   refine (HFU.out _ (HT0.out _ (B2.out _ _))).mono ?_
   rintro e w2 ⟨rfl, hw2⟩
   have B3 : Hid (Below S w w2) := (B2.out _ _).trans (hw2.mono (by have := HR.out; simp; omega))
   have K2 : Hid (WordsAt w2 R 0 q' 8) := P2.out.1.keep hw2 (by simp; omega)
   have A3 : Hid (WordsAt w2 S 0 q 8) := (A2.out _ _).keep hw2 (by have := HR.out; simp; omega)
   have Z3 : Hid (R + 1 ≤ w2.heap.size) := by have := hw2.size; simp at this; show _ ≤ _; omega
   clear hw2 HFU HT0 B2 A2 P2
   obtain ⟨⟨a0, b0⟩, ⟨a1, b1⟩, ⟨a2, b2⟩, ⟨a3, b3⟩, ⟨a4, b4⟩, ⟨a5, b5⟩, ⟨a6, b6⟩, ⟨a7, b7⟩⟩ := K2.out.eight
   clear b0 b1 b2 b3 b4 b5 b6 b7
   go_wp2_with fail
   refine (HRP.out _).mono ?_
   rintro e w3 ⟨rfl, hw3⟩
   have B4 : Hid (Below S w w3) := B3.out.trans (hw3.mono (by have := Z3.out; have := HR.out; omega))
   have K4 : Hid (WordsAt w3 R 0 q' 8) := K2.out.keep hw3 (by have := Z3.out; omega)
   have A4 : Hid (WordsAt w3 S 0 q 8) := A3.out.keep hw3 (by have := Z3.out; have := HR.out; omega)
   have Z4 : Hid (R + 1 ≤ w3.heap.size) := Nat.le_trans Z3.out hw3.size
   clear hw3 a0 a1 a2 a3 a4 a5 a6 a7
   obtain ⟨⟨a0, b0⟩, ⟨a1, b1⟩, ⟨a2, b2⟩, ⟨a3, b3⟩, ⟨a4, b4⟩, ⟨a5, b5⟩, ⟨a6, b6⟩, ⟨a7, b7⟩⟩ := K4.out.eight
   obtain ⟨⟨c0, d0⟩, ⟨c1, d1⟩, ⟨c2, d2⟩, ⟨c3, d3⟩, ⟨c4, d4⟩, ⟨c5, d5⟩, ⟨c6, d6⟩, ⟨c7, d7⟩⟩ := A4.out.eight
   clear b0 b1 b2 b3 b4 b5 b6 b7
   go_wp2_with fail
   go_roundg q
   case measure => exact HQ.out
   case rel => exact ⟨q', _, rfl, HL.out, HE.out, HFq, st8_at A4.out, (st8_but w3 S q').2.1 S w (Nat.le_refl _) B4.out, by show _ ≤ (st8 w3 S q').heap.size; rw [(st8_but w3 S q').2.2]; have := Z4.out; have := HR.out; omega⟩
set_option maxRecDepth 100000 in
set_option maxHeartbeats 4000000 in
theorem Text_run (s : Bool) (n : Nat) (w : World) (hn : Hid (Fits n)) (ht : Hid (Tab w)) :
  Calls Tryz.prog 33 #[intV s n] w fun e w' => e = .returned (.string (txt s n)) ∧ Below w.heap.size w w' := by
 have HC := Lib.hid (fun W => Canon_run s n W hn)
 have HD : Hid (∀ W, Tab W → Calls Tryz.prog 73 #[wordsV n] W fun e w' => e = .returned (.string (decS n)) ∧ Below W.heap.size W w') := fun W hW => decimal_run n W hn hW
 have HT0 : Hid (∀ w', Below w.heap.size w w' → Tab w') := fun w' hb => ht.out.below hb
 have hsz := decS_le hn.out
 unfold txt
 generalize decS n = x at *
 obtain ⟨z, hz⟩ : ∃ z, sgn s n = z := ⟨_, rfl⟩
 rw [hz] at HC ⊢
 clear hz hn ht
 obtain ⟨S, hS⟩ : ∃ S, w.heap.size = S := ⟨_, rfl⟩
 obtain ⟨W, hW⟩ : ∃ W, w.alloc (boxI s n 25) = W := ⟨_, rfl⟩
 have T1 := IntAt.new w s n 25
 have T2 := below_alloc w (boxI s n 25)
 have T3 : (w.alloc (boxI s n 25)).heap.size = w.heap.size + 1 := by simp
 rw [hW] at T1 T2 T3
 rw [hS] at T1 T2 T3 HT0 ⊢
 have HT := Lib.hid (And.intro T1 (And.intro T2 T3))
 clear T1 T2 T3
 unfold wordsV at HD
 cases z with
 | true =>
  simp only [if_true]
  go_enter Tryz.func33, Tryz.ntmps33
  go_wp2_with (first | (refine wpList_box_int rfl (.tmp 0) rfl rfl ?_) | (refine wpList_load_int rfl (.tmp 1) rfl rfl HT.out.1.o ?_))
  refine (HC.out _).mono ?_
  rintro e w1 ⟨rfl, hw1⟩
  have hz := HT.out.2.2
  have H1 := Lib.hid (HT.out.1.keep hw1 (by omega))
  have B1 := Lib.hid (HT.out.2.1.trans (hw1.mono (by omega)))
  have H2 := Lib.hid (st9_at (t := true) (m := n) H1.out)
  have B2 := Lib.hid ((st9_but w1 S true n).2.1 S w (by omega) B1.out)
  have z2 : S + 1 ≤ (st9 w1 S true n).heap.size := by rw [(st9_but w1 S true n).2.2]; exact Nat.le_trans (Nat.le_of_eq hz.symm) hw1.size
  clear hw1 HT hW HC hz
  obtain ⟨w2, hw2⟩ : ∃ w2, st9 w1 S true n = w2 := ⟨_, rfl⟩
  rw [hw2] at H2 B2 z2
  have Hw2 := Lib.hid hw2
  obtain ⟨⟨a0, x0⟩, ⟨a1, x1⟩, ⟨a2, x2⟩, ⟨a3, x3⟩, ⟨a4, x4⟩, ⟨a5, x5⟩, ⟨a6, x6⟩, ⟨a7, x7⟩, ⟨a8, x8⟩⟩ := H2.out.nine
  clear x0 x1 x2 x3 x4 x5 x6 x7 x8 hw2
  go_upto_region 2 with (refine wpList_store_int rfl (.tmp 1) (.tmp 4) rfl (b := S) (s := true) (n := n) rfl rfl H1.out ?_)
  rw [Hw2.out]
  clear Hw2
  go_wp2_with fail
  refine (HD.out _ (HT0.out _ B2.out)).mono ?_
  rintro e w3 ⟨rfl, hw3⟩
  have B3 := Lib.hid (B2.out.trans (hw3.mono (by omega)))
  clear hw3
  go_wp2_with fail
  go_ret
  exact ⟨rfl, B3.out⟩
 | false =>
  simp only [Bool.false_eq_true, if_false]
  go_enter Tryz.func33, Tryz.ntmps33
  go_wp2_with (first | (refine wpList_box_int rfl (.tmp 0) rfl rfl ?_) | (refine wpList_load_int rfl (.tmp 1) rfl rfl HT.out.1.o ?_))
  refine (HC.out _).mono ?_
  rintro e w1 ⟨rfl, hw1⟩
  have hz := HT.out.2.2
  have H1 := Lib.hid (HT.out.1.keep hw1 (by omega))
  have B1 := Lib.hid (HT.out.2.1.trans (hw1.mono (by omega)))
  have H2 := Lib.hid (st9_at (t := false) (m := n) H1.out)
  have B2 := Lib.hid ((st9_but w1 S false n).2.1 S w (by omega) B1.out)
  have z2 : S + 1 ≤ (st9 w1 S false n).heap.size := by rw [(st9_but w1 S false n).2.2]; exact Nat.le_trans (Nat.le_of_eq hz.symm) hw1.size
  clear hw1 HT hW HC hz
  obtain ⟨w2, hw2⟩ : ∃ w2, st9 w1 S false n = w2 := ⟨_, rfl⟩
  rw [hw2] at H2 B2 z2
  have Hw2 := Lib.hid hw2
  obtain ⟨⟨a0, x0⟩, ⟨a1, x1⟩, ⟨a2, x2⟩, ⟨a3, x3⟩, ⟨a4, x4⟩, ⟨a5, x5⟩, ⟨a6, x6⟩, ⟨a7, x7⟩, ⟨a8, x8⟩⟩ := H2.out.nine
  clear x0 x1 x2 x3 x4 x5 x6 x7 x8 hw2
  go_upto_region 2 with (refine wpList_store_int rfl (.tmp 1) (.tmp 4) rfl (b := S) (s := false) (n := n) rfl rfl H1.out ?_)
  rw [Hw2.out]
  clear Hw2
  go_wp2_with fail
  refine (HD.out _ (HT0.out _ B2.out)).mono ?_
  rintro e w3 ⟨rfl, hw3⟩
  have B3 := Lib.hid (B2.out.trans (hw3.mono (by omega)))
  clear hw3
  go_wp2_with fail
  go_ret
  exact ⟨rfl, B3.out⟩
end Go.Proofs.YtgoemhcngmpfbaaGreatDoor
namespace Go.Proofs.YtgoemhcngmpfbaaGreatDoor
open Go.RowKit Go.Sort
set_option linter.unusedSimpArgs false
theorem txt_le (s : Bool) {n : Nat} (h : Fits n) : (txt s n).size ≤ 156 := by
 have := decS_le h
 unfold txt
 split
 ·rw [bytes_size_app]
  have : (⟨#[45]⟩ : ByteArray).size = 1 := rfl
  omega
 ·omega
theorem fits_one : Fits 1 := by show 1 < _; decide
def rtxt (s : Bool) (n : Nat) (t : Bool) (d : Nat) : ByteArray := if sgn t d = false ∧ d = 1 then txt s n else (txt s n ++ (⟨#[47]⟩ : ByteArray)) ++ txt t d
set_option maxRecDepth 100000 in
set_option maxHeartbeats 4000000 in
theorem RText_part (s : Bool) (n : Nat) (t : Bool) (d : Nat) (hn : Hid (Fits n)) (hfd : Hid (Fits d)) (hd1 : ¬ (sgn t d = false ∧ d = 1)) (w : World) (ht : Hid (Tab w)) :
  Calls Tryz.prog 20 #[ratV s n t d] w fun e w' => e = .returned (.string ((txt s n ++ (⟨#[47]⟩ : ByteArray)) ++ txt t d)) ∧ Below w.heap.size w w' := by
 have HC := Lib.hid (fun W => Canon_run t d W hfd)
 have HO := Lib.hid (fun W => Of_run 1 W (by decide) (by decide))
 have hO : intV (decide ((1 : Int) < 0)) (1 : Int).natAbs = intV false 1 := rfl
 rw [hO] at HO
 have E := fun W => eqInt (sgn t d) d false 1 W hfd.out fits_one
 rw [decide_eq_false hd1] at E
 have EG := fun x y W => eqg_int .eql x y (sgn t d) d false 1 W
 have HT0 : Hid (∀ w', Below w.heap.size w w' → Tab w') := fun w' hb => ht.out.below hb
 have HT1 : Hid (∀ W, Tab W → Calls Tryz.prog 33 #[intV s n] W fun e w' => e = .returned (.string (txt s n)) ∧ Below W.heap.size W w') := fun W hW => Text_run s n W hn hW
 have HT2 : Hid (∀ W, Tab W → Calls Tryz.prog 33 #[intV t d] W fun e w' => e = .returned (.string (txt t d)) ∧ Below W.heap.size W w') := fun W hW => Text_run t d W hfd hW
 have hx := txt_le s hn.out
 have hy := txt_le t hfd.out
 generalize txt s n = x at *
 generalize txt t d = y at *
 generalize sgn t d = z at *
 have hxa : x.size + 1 ≤ 9223372036854775807 := by omega
 have hxb : x.size + 1 + y.size ≤ 9223372036854775807 := by omega
 clear hx hy
 clear hfd hO hn hd1 ht
 obtain ⟨S, hS⟩ : ∃ S, w.heap.size = S := ⟨_, rfl⟩
 obtain ⟨W, hW⟩ : ∃ W, w.alloc (boxR s n t d 27) = W := ⟨_, rfl⟩
 have T1 := RatAt.new w s n t d 27
 have T2 := below_alloc w (boxR s n t d 27)
 have T3 : (w.alloc (boxR s n t d 27)).heap.size = w.heap.size + 1 := by simp
 rw [hW] at T1 T2 T3
 rw [hS] at T1 T2 T3 HT0 ⊢
 have HT := Lib.hid (And.intro T1 (And.intro T2 T3))
 clear T1 T2 T3
 go_enter Tryz.func20, Tryz.ntmps20
 go_wp2_with (first | (with_reducible refine wpList_box_rat rfl (.tmp 0) rfl rfl ?_) | (with_reducible refine wpList_load_int rfl (.tmp 3) rfl rfl HT.out.1.den ?_))
 refine (HC.out _).mono ?_
 rintro e w1 ⟨rfl, hw1⟩
 have hz := HT.out.2.2
 have H1 := Lib.hid (HT.out.1.keep hw1 (by omega))
 have B1 := Lib.hid (HT.out.2.1.trans (hw1.mono (by omega)))
 have z1 : S + 1 ≤ w1.heap.size := Nat.le_trans (Nat.le_of_eq hz.symm) hw1.size
 clear hw1 HT hW HC hz
 go_wp2_with fail
 refine (HO.out _).mono ?_
 rintro e w2 ⟨rfl, hw2⟩
 have H2 := Lib.hid (H1.out.keep hw2 (by omega))
 have B2 := Lib.hid (B1.out.trans (hw2.mono (by omega)))
 have z2 : S + 1 ≤ w2.heap.size := Nat.le_trans z1 hw2.size
 clear hw2 H1 B1 HO z1
 go_wp2_with fail
 refine rg_begin (fun W' => RatAt W' S s n t d) (by kernel_rfl) H2.out.drew (fun hS => ?_)
 refine rg_take 0 (.pointer (some ⟨S, 0, none⟩)) rfl (by kernel_rfl) (by kernel_rfl) (by kernel_rfl) (fun _ _ _ h => h) rfl (fun w _ => ?_) hS ?_
 ·go_simp
 simp only [zA, zB, zC, Act.put, zD, zE, zF]
 refine rg_take 1 (intV s n) rfl (by kernel_rfl) (by kernel_rfl) (by kernel_rfl) (fun _ _ _ h => h) rfl (fun w hSw => ld_int (.tmp 11) rfl rfl hSw.num) hS ?_
 simp only [zA, zB, zC, Act.put, zD, zE, zF]
 refine rg_take 4 (.pointer (some ⟨S, 9, none⟩)) rfl (by kernel_rfl) (by kernel_rfl) (by kernel_rfl) (fun _ _ _ h => h) rfl (fun w _ => ?_) hS ?_
 ·go_simp
 simp only [zA, zB, zC, Act.put, zD, zE, zF]
 refine rg_take 5 (intV t d) rfl (by kernel_rfl) (by kernel_rfl) (by kernel_rfl) (fun _ _ _ h => h) rfl (fun w hSw => ld_int (.tmp 15) rfl rfl hSw.den) hS ?_
 simp only [zA, zB, zC, Act.put, zD, zE, zF]
 have hz2 : S + 1 ≤ w2.drew.heap.size := z2
 refine rg_one 2 (by kernel_rfl) (rs_of rfl rfl (wp_call rfl enters_Text rfl (HT1.out _ (HT0.out _ B2.out.drew)) (fun w3 hw3 => ⟨hS.keep hw3 (by omega), ?_⟩)))
 have hS3 := hS.keep hw3 (by omega)
 have B3 := Lib.hid (B2.out.drew.trans (hw3.mono (by omega)))
 have z3 := Nat.le_trans hz2 hw3.size
 clear hS hw3 hz2 B2 H2
 simp only [zA, zB, zC, Act.put, zD, zE, zF]
 have hS := hS3
 refine rg_take 3 (.string (x ++ (⟨#[47]⟩ : ByteArray))) rfl (by kernel_rfl) (by kernel_rfl) (by kernel_rfl) (fun _ _ _ h => h) rfl (fun w _ => ?_) hS ?_
 ·go_simp
 simp only [zA, zB, zC, Act.put, zD, zE, zF]
 refine rg_one 6 (by kernel_rfl) (rs_of rfl rfl (wp_call rfl enters_Text rfl (HT2.out _ (HT0.out _ B3.out)) (fun w4 hw4 => ⟨hS.keep hw4 (by omega), ?_⟩)))
 have hS4 := hS3.keep hw4 (by omega)
 have B4 := Lib.hid (B3.out.trans (hw4.mono (by omega)))
 clear hS hS3 hw4 B3
 simp only [zA, zB, zC, Act.put, zD, zE, zF]
 have hS := hS4
 refine rg_take 7 (.string ((x ++ (⟨#[47]⟩ : ByteArray)) ++ y)) rfl (by kernel_rfl) (by kernel_rfl) (by kernel_rfl) (fun _ _ _ h => h) rfl (fun w _ => ?_) hS ?_
 ·go_simp
 simp only [zA, zB, zC, Act.put, zD, zE, zF]
 refine rg_take 8 (.string ((x ++ (⟨#[47]⟩ : ByteArray)) ++ y)) rfl (by kernel_rfl) (by kernel_rfl) (by kernel_rfl) (fun _ _ _ h => h) rfl (fun w _ => ?_) hS ?_
 ·go_simp
 simp only [zA, zB, zC, Act.put, zD, zE, zF]
 refine wpAnyH_done (by kernel_rfl) ?_ _
 go_wp2_with fail
 go_ret
 exact ⟨rfl, B4.out⟩
set_option maxRecDepth 100000 in
set_option maxHeartbeats 4000000 in
theorem RText_whole (s : Bool) (n : Nat) (t : Bool) (d : Nat) (hn : Hid (Fits n)) (hd1 : sgn t d = false ∧ d = 1) (w : World) (ht : Hid (Tab w)) :
  Calls Tryz.prog 20 #[ratV s n t d] w fun e w' => e = .returned (.string (txt s n)) ∧ Below w.heap.size w w' := by
 obtain ⟨hz1, rfl⟩ := hd1
 have hfd : Hid (Fits 1) := fits_one
 have HC := Lib.hid (fun W => Canon_run t 1 W hfd)
 have HO := Lib.hid (fun W => Of_run 1 W (by decide) (by decide))
 have hO : intV (decide ((1 : Int) < 0)) (1 : Int).natAbs = intV false 1 := rfl
 rw [hO] at HO
 rw [hz1] at HC
 have E := fun W => eqInt false 1 false 1 W hfd.out fits_one
 rw [decide_eq_true ⟨rfl, rfl⟩] at E
 have EG := fun x y W => eqg_int .eql x y false 1 false 1 W
 have HT0 : Hid (∀ w', Below w.heap.size w w' → Tab w') := fun w' hb => ht.out.below hb
 have HT1 : Hid (∀ W, Tab W → Calls Tryz.prog 33 #[intV s n] W fun e w' => e = .returned (.string (txt s n)) ∧ Below W.heap.size W w') := fun W hW => Text_run s n W hn hW
 generalize txt s n = x at *
 clear hfd hO hn ht hz1
 obtain ⟨S, hS⟩ : ∃ S, w.heap.size = S := ⟨_, rfl⟩
 obtain ⟨W, hW⟩ : ∃ W, w.alloc (boxR s n t 1 27) = W := ⟨_, rfl⟩
 have T1 := RatAt.new w s n t 1 27
 have T2 := below_alloc w (boxR s n t 1 27)
 have T3 : (w.alloc (boxR s n t 1 27)).heap.size = w.heap.size + 1 := by simp
 rw [hW] at T1 T2 T3
 rw [hS] at T1 T2 T3 HT0 ⊢
 have HT := Lib.hid (And.intro T1 (And.intro T2 T3))
 clear T1 T2 T3
 go_enter Tryz.func20, Tryz.ntmps20
 go_wp2_with (first | (with_reducible refine wpList_box_rat rfl (.tmp 0) rfl rfl ?_) | (with_reducible refine wpList_load_int rfl (.tmp 3) rfl rfl HT.out.1.den ?_))
 refine (HC.out _).mono ?_
 rintro e w1 ⟨rfl, hw1⟩
 have hz := HT.out.2.2
 have H1 := Lib.hid (HT.out.1.keep hw1 (by omega))
 have B1 := Lib.hid (HT.out.2.1.trans (hw1.mono (by omega)))
 have z1 : S + 1 ≤ w1.heap.size := Nat.le_trans (Nat.le_of_eq hz.symm) hw1.size
 clear hw1 HT hW HC hz
 go_wp2_with fail
 refine (HO.out _).mono ?_
 rintro e w2 ⟨rfl, hw2⟩
 have H2 := Lib.hid (H1.out.keep hw2 (by omega))
 have B2 := Lib.hid (B1.out.trans (hw2.mono (by omega)))
 clear hw2 H1 B1 HO z1
 go_wp2_with (first | (with_reducible refine wpList_load_int rfl (.tmp 8) rfl rfl H2.out.num ?_))
 refine (HT1.out _ (HT0.out _ B2.out)).mono ?_
 rintro e w3 ⟨rfl, hw3⟩
 have B3 := Lib.hid (B2.out.trans (hw3.mono (by have := B2.out.size; omega)))
 clear hw3
 go_wp2_with fail
 go_ret
 exact ⟨rfl, B3.out⟩
theorem RText_run (s : Bool) (n : Nat) (t : Bool) (d : Nat) (hn : Hid (Fits n)) (hd : Hid (Fits d)) (w : World) (ht : Hid (Tab w)) :
  Calls Tryz.prog 20 #[ratV s n t d] w fun e w' => e = .returned (.string (rtxt s n t d)) ∧ Below w.heap.size w w' := by
 unfold rtxt
 by_cases h : sgn t d = false ∧ d = 1
 ·rw [if_pos h]; exact RText_whole s n t d hn h w ht
 ·rw [if_neg h]; exact RText_part s n t d hn hd h w ht
end Go.Proofs.YtgoemhcngmpfbaaGreatDoor
