/-
  number's body.
-/
import Derived.Test.YtgkhjeefcflmcaaGreatDoorMt21
import Derived.Test.YtgkhjeefcflmcaaGreatDoorMt17
import Derived.Test.YtgkhjeefcflmcaaGreatDoorMt16
import Derived.Test.YtgkhjeefcflmcaaGreatDoorMt20
import Derived.Test.YtgkhjeefcflmcaaGreatDoorMt19
import Derived.Test.YtgkhjeefcflmcaaGreatDoorMt08
import Derived.Laws.IdiomStrings
import Derived.IntWalk
namespace Go.Proofs.YtgkhjeefcflmcaaGreatDoor
open Go.RowKit Go.Sort
set_option linter.unusedSimpArgs false
def okAt (sg : Bool) (l : List UInt8) (i : Nat) : Bool := isPart (l.getD i 0).toNat || (sg && (decide (0 < i) && (isSgn (l.getD i 0).toNat && isMrk (l.getD (i - 1) 0).toNat)))
def BodyN (sg : Bool) (l : List UInt8) (k : Nat) : Prop := k ≤ l.length ∧ (∀ i, i < k → okAt sg l i = true) ∧ (k < l.length → okAt sg l k = false)
theorem bodyN_uniq {sg : Bool} {l : List UInt8} {k j : Nat} (h : BodyN sg l k) (g : BodyN sg l j) : k = j := by
 rcases Nat.lt_trichotomy k j with h1 | h1 | h1
 ·have a := g.2.1 k h1
  rw [h.2.2 (by have := g.1; omega)] at a
  cases a
 ·exact h1
 ·have a := h.2.1 j h1
  rw [g.2.2 (by have := h.1; omega)] at a
  cases a
theorem bodyN_is (sg : Bool) (l : List UInt8) : ∃ k, BodyN sg l k := by
 have key : ∀ d i, i + d = l.length → (∀ j, j < i → okAt sg l j = true) → ∃ k, BodyN sg l k := by
  intro d
  induction d with
  | zero => intro i hi h; exact ⟨i, by omega, h, fun h => by omega⟩
  | succ d ih =>
   intro i hi h
   cases hk : okAt sg l i
   ·exact ⟨i, by omega, h, fun _ => hk⟩
   ·exact ih (i + 1) (by omega) (fun j hj => by
     by_cases e : j = i
     ·rw [e]; exact hk
     ·exact h j (by omega))
 exact key l.length 0 (by omega) (fun j hj => by omega)
theorem getD_of {l : List UInt8} {i : Nat} {c : UInt8} (h : l[i]? = some c) : l.getD i 0 = c := by
 rw [List.getD_eq_getElem?_getD, h]; rfl
def sgOf (l : List UInt8) : Bool := !decide (pfxB (l.take 2) = 16)
set_option maxRecDepth 100000 in
set_option maxHeartbeats 4000000 in
theorem body_run (b o n cap k : Nat) (l : List UInt8) (w : World) (B : Nat) (hb : Byts w B (some ⟨b, o, none⟩) (bi l)) (hB : B ≤ w.heap.size) (hn : l.length = n) (hm : n ≤ 10000) (hcap : n ≤ cap) (h0 : 0 < n) (hk : Hid (BodyN (sgOf l) l k)) :
  Calls Tryz.prog 74 #[.slice (some ⟨b, o, none⟩) n cap] w fun e w' => e = .returned (.slice (some ⟨b, o, none⟩) k cap) ∧ Below w.heap.size w w' := by
 have hl2 : (l.take 2).length ≤ 2 := by rw [List.length_take]; omega
 have HC0 := fun V => cutPrefix_run (l.take 2) V (by omega)
 generalize (if pfxB (l.take 2) = 0 then l.take 2 else (l.take 2).drop 2) = rst at HC0
 have HC := Lib.hid HC0
 clear HC0
 obtain ⟨m2, hm2⟩ : ∃ m2, (l.take 2).length = m2 := ⟨_, rfl⟩
 have hmz : min (n : Int) 2 = (m2 : Int) := by rw [← hm2, List.length_take, hn]; omega
 have hcv := conv_bytes (hb.take 2) m2 cap (by rw [bi_take, bi_length, hm2])
 rw [bi_take, bi_str] at hcv
 have hm2n : m2 ≤ n := by rw [← hm2, List.length_take]; omega
 have hm2c : m2 ≤ cap := by omega
 clear hm2
 go_enter Tryz.func74, Tryz.ntmps74
 go_wp2_with fail
 refine (HC.out _).mono ?_
 rintro e w1 ⟨rfl, hw⟩
 have HB1 := Lib.hid hw
 have HY := Lib.hid (hb.below hw hB)
 have hk' := hk.out
 obtain ⟨sg, hsg⟩ : ∃ sg, sgOf l = sg := ⟨_, rfl⟩
 rw [hsg] at hk'
 unfold sgOf at hsg
 generalize pfxB (l.take 2) = Q at *
 have hPz : ((Q : Int) != 16) = sg := by
  rw [← hsg]
  show (!((Q : Int) == 16)) = _
  congr 1
  rw [Bool.eq_iff_iff]
  simp only [beq_iff_eq, decide_eq_true_eq]
  omega
 clear hw hk hb hB hsg hcv hmz hm2n hm2c HC hl2
 have hk := Lib.hid hk'
 clear hk'
 go_wp2_with fail
 go_loopg [22] (n + 1) (fun h s22 wr => ∃ i : Nat, s22 = .int .i64 (i : Int) ∧ Hid (i + h = n + 1) ∧ i ≤ n ∧ Hid (∀ j, j < i → okAt sg l j = true) ∧ wr = w1)
 case atStart => exact ⟨0, rfl, by show _ = _; omega, by omega, fun j hj => absurd hj (by omega), rfl⟩
 case round =>
  obtain ⟨i, rfl, HI, hin, HS, rfl⟩ := hrel
  clear hPz
  by_cases hlt : i < n
  ·have hiz : (i : Int) < (n : Int) := by omega
   have hic : i ≤ cap := by omega
   obtain ⟨c, hc⟩ : ∃ c, l[i]? = some c := ⟨l[i]'(by omega), List.getElem?_eq_getElem (by omega)⟩
   have hx := byts_cell HY.out hc
   have hok : okAt sg l i = (isPart c.toNat || (sg && (decide (0 < i) && (isSgn c.toNat && isMrk (l.getD (i - 1) 0).toNat)))) := by
    unfold okAt
    rw [getD_of hc]
   have HP := fun W => has4_run c.toNat (UInt8.toNat_lt c) W
   have HG := fun W => isSign_run c.toNat W
   clear hc
   cases hp : isPart c.toNat
   ·rw [hp] at HP hok
    replace HP := Lib.hid HP
    rw [Bool.false_or] at hok
    clear hp
    cases sg
    ·have HK : Hid (k = i) := bodyN_uniq hk.out ⟨by omega, HS.out, fun _ => hok⟩
     clear HS HG hok
     generalize c.toNat = cn at *
     go_wp2_with fail
     refine (HP.out _).mono ?_
     rintro e w2 ⟨rfl, rfl⟩
     go_wp2_with fail
     go_ret
     exact ⟨by rw [HK.out]; rfl, HB1.out⟩
    ·by_cases hi0 : 0 < i
     ·have h0z : (0 : Int) < (i : Int) := by omega
      rw [Bool.true_and, decide_eq_true hi0, Bool.true_and] at hok
      cases hg : isSgn c.toNat
      ·rw [hg] at HG hok
       have HK : Hid (k = i) := bodyN_uniq hk.out ⟨by omega, HS.out, fun _ => hok⟩
       replace HG := Lib.hid HG
       clear HS hok hg
       generalize c.toNat = cn at *
       go_wp2_with fail
       refine (HP.out _).mono ?_
       rintro e w2 ⟨rfl, rfl⟩
       go_wp2_with fail
       refine (HG.out _).mono ?_
       rintro e w2 ⟨rfl, rfl⟩
       go_wp2_with fail
       go_ret
       exact ⟨by rw [HK.out]; rfl, HB1.out⟩
      ·rw [hg, Bool.true_and] at hok
       rw [hg] at HG
       replace HG := Lib.hid HG
       obtain ⟨im, him⟩ : ∃ im, i = im + 1 := ⟨i - 1, by omega⟩
       have hmz : (i : Int) - 1 = (im : Int) := by omega
       have him2 : im < n := by omega
       obtain ⟨d, hd⟩ : ∃ d, l[im]? = some d := ⟨l[im]'(by omega), List.getElem?_eq_getElem (by omega)⟩
       have hy := byts_cell HY.out hd
       rw [show i - 1 = im by omega, getD_of hd] at hok
       have HM := fun W => isMark_run d W
       have HIM := Lib.hid him
       clear hd hg him
       cases hmk : isMrk d.toNat
       ·rw [hmk] at HM hok
        have HK : Hid (k = i) := bodyN_uniq hk.out ⟨by omega, HS.out, fun _ => hok⟩
        replace HM := Lib.hid HM
        clear HS hok hmk
        generalize c.toNat = cn at *
        generalize d.toNat = dn at *
        go_wp2_with fail
        refine (HP.out _).mono ?_
        rintro e w2 ⟨rfl, rfl⟩
        go_wp2_with fail
        refine (HG.out _).mono ?_
        rintro e w2 ⟨rfl, rfl⟩
        go_wp2_with fail
        refine (HM.out _).mono ?_
        rintro e w2 ⟨rfl, rfl⟩
        go_wp2_with fail
        go_ret
        exact ⟨by rw [HK.out]; rfl, HB1.out⟩
       ·rw [hmk] at HM hok
        have HS2 : Hid (∀ j, j < i + 1 → okAt true l j = true) := fun j hj => by
         by_cases e : j = i
         ·rw [e]; exact hok
         ·exact HS.out j (by omega)
        replace HM := Lib.hid HM
        clear HS hok hmk
        generalize c.toNat = cn at *
        generalize d.toNat = dn at *
        go_wp2_with fail
        refine (HP.out _).mono ?_
        rintro e w2 ⟨rfl, rfl⟩
        go_wp2_with fail
        refine (HG.out _).mono ?_
        rintro e w2 ⟨rfl, rfl⟩
        go_wp2_with fail
        refine (HM.out _).mono ?_
        rintro e w2 ⟨rfl, rfl⟩
        go_wp2_with fail
        go_roundg (n - i)
        case measure => have := HI.out; omega
        case rel => exact ⟨i + 1, by go_num, by show _ = _; have := HI.out; omega, by omega, HS2, rfl⟩
     ·obtain rfl : i = 0 := by omega
      rw [decide_eq_false hi0, Bool.false_and, Bool.and_false] at hok
      have HK : Hid (k = 0) := bodyN_uniq hk.out ⟨by omega, HS.out, fun _ => hok⟩
      rw [Nat.add_zero] at hx
      clear HS HG hok hi0
      generalize c.toNat = cn at *
      rw [Int.natCast_zero] at *
      go_wp2_with fail
      refine (HP.out _).mono ?_
      rintro e w2 ⟨rfl, rfl⟩
      go_wp2_with fail
      go_ret
      exact ⟨by rw [HK.out]; rfl, HB1.out⟩
   ·rw [hp] at HP hok
    rw [Bool.true_or] at hok
    have HS2 : Hid (∀ j, j < i + 1 → okAt sg l j = true) := fun j hj => by
     by_cases e : j = i
     ·rw [e]; exact hok
     ·exact HS.out j (by omega)
    replace HP := Lib.hid HP
    clear hp HS HG hok
    generalize c.toNat = cn at *
    go_wp2_with fail
    refine (HP.out _).mono ?_
    rintro e w2 ⟨rfl, rfl⟩
    go_wp2_with fail
    go_roundg (n - i)
    case measure => have := HI.out; omega
    case rel => exact ⟨i + 1, by go_num, by show _ = _; have := HI.out; omega, by omega, HS2, rfl⟩
  ·obtain rfl : i = n := by omega
   have HK : Hid (k = i) := bodyN_uniq hk.out ⟨by omega, HS.out, fun h => by omega⟩
   clear HS
   go_wp2_with fail
   go_ret
   exact ⟨by rw [HK.out]; rfl, HB1.out⟩
end Go.Proofs.YtgkhjeefcflmcaaGreatDoor
namespace Go.Proofs.YtgkhjeefcflmcaaGreatDoor
open Go.RowKit Go.Sort
set_option linter.unusedSimpArgs false
theorem Byts.dropN {w : World} {B : Nat} {A : Option Addr} {l : List Int} (h : Byts w B A l) {i : Nat} (hi : i < l.length) : ∃ b o, A = some ⟨b, o, none⟩ ∧ Byts w B (some ⟨b, o + i, none⟩) (l.drop i) := by
 obtain ⟨b, o, e, hb, hc⟩ := h.2 (by omega)
 refine ⟨b, o, e, fun x hx => h.1 x (List.mem_of_mem_drop hx), fun _ => ⟨b, o + i, rfl, hb, fun j x hx => ?_⟩⟩
 rw [List.getElem?_drop] at hx
 rw [Nat.add_assoc]
 exact hc _ _ hx
theorem part_ascii {c : Nat} (h : isPart c = true) : c < 128 := by
 unfold isPart clsN at h
 rw [decide_eq_true_eq] at h
 split at h
 ·omega
 ·split at h
  ·omega
  ·split at h
   ·omega
   ·exact absurd rfl h
theorem sgn_ascii {c : Nat} (h : isSgn c = true) : c < 128 := by
 unfold isSgn at h
 rw [decide_eq_true_eq] at h
 omega
theorem ok_ascii {sg : Bool} {l : List UInt8} {i : Nat} {c : UInt8} (hc : l[i]? = some c) (h : okAt sg l i = true) : c.toNat < 128 := by
 unfold okAt at h
 rw [getD_of hc, Bool.or_eq_true] at h
 rcases h with h | h
 ·exact part_ascii h
 ·rw [Bool.and_eq_true, Bool.and_eq_true, Bool.and_eq_true] at h
  exact sgn_ascii h.2.2.1
theorem body_ascii {sg : Bool} {l : List UInt8} {k : Nat} (h : BodyN sg l k) : ∀ (j : Nat) b, (l.take k)[j]? = some b → b.toNat < 128 := fun j b hb => by
 rw [List.getElem?_take] at hb
 split at hb
 ·rename_i hj
  exact ok_ascii hb (h.2.1 j hj)
 ·cases hb
def ScanIs (l : List UInt8) (at_ : Int) (kind : Int) (k e : Nat) : Prop :=
 ((at_ < 0 ∨ (l.length : Int) ≤ at_ ∨ begL (l.drop at_.toNat) = false) ∧ kind = 0 ∧ k = 0 ∧ e = 7) ∨
 (0 ≤ at_ ∧ at_ < (l.length : Int) ∧ begL (l.drop at_.toNat) = true ∧ BodyN (sgOf (l.drop at_.toNat)) (l.drop at_.toNat) k ∧
  kind = kndZ ((l.drop at_.toNat).take k) ∧ ∃ y, ValueIs kind ((l.drop at_.toNat).take k) y ∧ e = y.k)
theorem scan_is (l : List UInt8) (at_ : Int) : ∃ kind k e, ScanIs l at_ kind k e := by
 unfold ScanIs
 by_cases h : at_ < 0 ∨ (l.length : Int) ≤ at_ ∨ begL (l.drop at_.toNat) = false
 ·exact ⟨0, 0, 7, .inl ⟨h, rfl, rfl, rfl⟩⟩
 ·have h1 : ¬ at_ < 0 := fun e => h (.inl e)
  have h2 : ¬ (l.length : Int) ≤ at_ := fun e => h (.inr (.inl e))
  have h3 : begL (l.drop at_.toNat) = true := by
   cases e : begL (l.drop at_.toNat)
   ·exact absurd (.inr (.inr e)) h
   ·rfl
  obtain ⟨k, hk⟩ := bodyN_is (sgOf (l.drop at_.toNat)) (l.drop at_.toNat)
  obtain ⟨y, hy⟩ := value_is (kndZ ((l.drop at_.toNat).take k)) ((l.drop at_.toNat).take k)
  exact ⟨_, k, y.k, .inr ⟨by omega, by omega, h3, hk, rfl, y, hy, rfl⟩⟩
def scanV (kind : Int) (k e : Nat) : Value := .tuple #[.int .i64 kind, .int .i64 (k : Int), errV e]
set_option maxRecDepth 100000 in
set_option maxHeartbeats 4000000 in
theorem Scan_run (A : Option Addr) (n cap : Nat) (at_ : Int) (l : List UInt8) (kind : Int) (k e0 : Nat) (w : World) (B : Nat) (hb : Byts w B A (bi l)) (hB : B ≤ w.heap.size) (hn : l.length = n) (hm : n ≤ 10000) (hcap : n ≤ cap) (h : Hid (ScanIs l at_ kind k e0)) (hml : Hid (Ml w)) :
  Calls Tryz.prog 49 #[.slice A n cap, .int .i64 at_] w fun e w' => e = .returned (scanV kind k e0) ∧ Below w.heap.size w w' := by
 by_cases h1 : at_ < 0
 ·have HE : Hid (kind = 0 ∧ k = 0 ∧ e0 = 7) := by
   rcases h.out with ⟨_, h⟩ | ⟨h, _⟩
   ·exact h
   ·omega
  clear h hb hml
  go_enter Tryz.func49, Tryz.ntmps49
  go_wp2_with fail
  go_ret3
  exact ⟨by rw [HE.out.1, HE.out.2.1, HE.out.2.2]; rfl, Below.refl _ _⟩
 ·by_cases h2 : (n : Int) ≤ at_
  ·have HE : Hid (kind = 0 ∧ k = 0 ∧ e0 = 7) := by
    rcases h.out with ⟨_, h⟩ | ⟨_, h, _⟩
    ·exact h
    ·omega
   have h1' : decide (at_ < 0) = false := by simpa using h1
   clear h hb hml
   go_enter Tryz.func49, Tryz.ntmps49
   go_wp2_with fail
   go_ret3
   exact ⟨by rw [HE.out.1, HE.out.2.1, HE.out.2.2]; rfl, Below.refl _ _⟩
  ·obtain ⟨a, rfl⟩ : ∃ a : Nat, at_ = (a : Int) := ⟨at_.toNat, by omega⟩
   have han : a < n := by omega
   obtain ⟨b, o, rfl, hd⟩ := hb.dropN (i := a) (by rw [bi_length]; omega)
   rw [bi_drop] at hd
   have h' := h.out
   unfold ScanIs at h'
   rw [Int.toNat_natCast] at h'
   have hdl : (l.drop a).length = n - a := by rw [List.length_drop, hn]
   generalize l.drop a = m at *
   have ha0 : decide ((a : Int) < 0) = false := by simp
   have ha1 : decide (n ≤ a) = false := decide_eq_false (by omega)
   have hne : ¬ cap = a := by omega
   have HBe := begins_runN b (o + a) (n - a) (cap - a) m w B hd hdl (by omega) (by omega)
   have HD := Lib.hid hd
   clear h hb hd
   cases hv : begL m
   ·have HE : Hid (kind = 0 ∧ k = 0 ∧ e0 = 7) := by
     rcases h' with ⟨_, h⟩ | ⟨_, _, h, _⟩
     ·exact h
     ·rw [hv] at h; cases h
    rw [hv] at HBe
    replace HBe := Lib.hid HBe
    clear h' hv hml
    go_enter Tryz.func49, Tryz.ntmps49
    go_wp2_with fail
    refine HBe.out.mono ?_
    rintro e w1 ⟨rfl, rfl⟩
    go_wp2_with fail
    go_ret3
    exact ⟨by rw [HE.out.1, HE.out.2.1, HE.out.2.2]; rfl, Below.refl _ _⟩
   ·rw [hv] at HBe
    replace HBe := Lib.hid HBe
    rcases h' with ⟨h, _⟩ | ⟨_, _, _, hk, rfl, y, hy, rfl⟩
    ·rcases h with h | h | h
     ·omega
     ·omega
     ·rw [hv] at h; cases h
    ·have HBo := Lib.hid (body_run b (o + a) (n - a) (cap - a) k m w B HD.out hB hdl (by omega) (by omega) (by omega) hk)
     have hkn : k ≤ n - a := by rw [← hdl]; exact hk.1
     have hsl : (m.take k).length = k := by rw [List.length_take, hdl]; omega
     have hasc := body_ascii hk
     have hcv : ∀ V, Byts V B (some ⟨b, o + a, none⟩) (bi m) → (convert 22 9 (.slice (some ⟨b, o + a, none⟩) k (cap - a))).run Tryz.prog V = .ok (.string (bs (m.take k))) V := fun V hV => by
      have := conv_bytes (hV.take k) k (cap - a) (by rw [bi_take, bi_length, hsl])
      rwa [bi_take, bi_str] at this
     have HCV := Lib.hid hcv
     clear hcv hv hk
     generalize m.take k = s at *
     have hsz := bs_size s
     rw [hsl] at hsz
     obtain ⟨kd, hkd⟩ : ∃ kd, kndZ s = kd := ⟨_, rfl⟩
     have HK := fun V => kindOf_run s V (by omega) hasc
     rw [hkd] at HK hy
     obtain ⟨ys, yn, yd, yk⟩ := y
     obtain ⟨ev, hev⟩ : ∃ v, errV yk = v := ⟨_, rfl⟩
     have HV : Hid (∀ V, Ml V → Calls Tryz.prog 76 #[.int .i64 kd, .string (bs s)] V fun e w' => e = .returned (.tuple #[ratV ys yn false yd, ev]) ∧ Below V.heap.size V w') := fun V hV => by
      have := Value_run kd s _ V (by omega) hy hV
      dsimp only at this
      rwa [hev] at this
     have HR : Hid (scanV kd k yk = .tuple #[.int .i64 kd, .int .i64 (k : Int), ev]) := by
      unfold Hid scanV
      rw [hev]
     dsimp only
     rw [hkd, HR.out]
     replace HK := Lib.hid HK
     have HML : Hid (∀ V, Below w.heap.size w V → Ml V) := fun V hV => hml.out.below hV
     have HSz : Hid (B ≤ w.heap.size) := hB
     clear hy hev hkd hasc HR hml hB
     go_enter Tryz.func49, Tryz.ntmps49
     go_wp2_with fail
     refine HBe.out.mono ?_
     rintro e w1 ⟨rfl, rfl⟩
     go_wp2_with fail
     refine HBo.out.mono ?_
     rintro e w2 ⟨rfl, hw⟩
     have hc2 := HCV.out w2 (HD.out.below hw HSz.out)
     have HB2 := Lib.hid hw
     clear hw
     go_wp2_with fail
     refine (HK.out _).mono ?_
     rintro e w3 ⟨rfl, hw⟩
     have HB3 := Lib.hid (HB2.out.trans (hw.mono HB2.out.size))
     clear hw hc2 HB2
     go_wp2_with fail
     refine (HV.out _ (HML.out _ HB3.out)).mono ?_
     rintro e w4 ⟨rfl, hw⟩
     have HB4 := Lib.hid (HB3.out.trans (hw.mono HB3.out.size))
     clear hw HB3
     go_wp2_with fail
     go_ret3
     exact ⟨rfl, HB4.out⟩
end Go.Proofs.YtgkhjeefcflmcaaGreatDoor
namespace Go.Proofs.YtgkhjeefcflmcaaGreatDoor
open Go.RowKit Go.Sort
set_option linter.unusedSimpArgs false
def Pre (P : List UInt8) : Prop := (∀ c ∈ P, isDig c.toNat = true ∨ c = 46) ∧ (postP isP P).any isP = false
def Stop (t : List UInt8) (i : Nat) : Prop := i ≤ t.length ∧ Pre (t.take i) ∧ (∀ c, t[i]? = some c → isDig c.toNat = false ∧ (c = 46 → (t.take i).any isP = true))
end Go.Proofs.YtgkhjeefcflmcaaGreatDoor
namespace Go.Proofs.YtgkhjeefcflmcaaGreatDoor
open Go.RowKit Go.Sort
set_option linter.unusedSimpArgs false
def isLet (c : Nat) : Bool := decide ((97 ≤ c ∧ c ≤ 122) ∨ (65 ≤ c ∧ c ≤ 90))
theorem part_doc (c : Nat) : isPart c = (isLet c || (isDig c || (decide (c = 95) || decide (c = 46)))) := by
 rw [Bool.eq_iff_iff]
 unfold isPart isLet isDig clsN
 simp only [Bool.or_eq_true, decide_eq_true_eq]
 split
 ·omega
 ·split
  ·omega
  ·split <;> omega
theorem beg_not {m : List UInt8} {c : UInt8} (h : m[0]? = some c) (hd : isDig c.toNat = false) (h46 : c ≠ 46 ∨ m.length < 2) : begL m = false := by
 match m, h with
 | [], h => cases h
 | a :: r, h =>
  obtain rfl : a = c := Option.some.inj h
  show (isDig a.toNat || (a == 46 && _)) = false
  rw [hd, Bool.false_or]
  rcases h46 with h46 | h46
  ·rw [show (a == 46) = false from beq_eq_false_iff_ne.2 h46, Bool.false_and]
  ·cases r with
   | nil => exact Bool.and_false _
   | cons x y =>
    simp only [List.length_cons] at h46
    omega
end Go.Proofs.YtgkhjeefcflmcaaGreatDoor
namespace Go.Proofs.YtgkhjeefcflmcaaGreatDoor
open Go.RowKit Go.Sort
set_option linter.unusedSimpArgs false
def q8 : Q4 := ⟨false, 0, 0, 8⟩
end Go.Proofs.YtgkhjeefcflmcaaGreatDoor
namespace Go.Proofs.YtgkhjeefcflmcaaGreatDoor
open Go.RowKit Go.Sort
set_option linter.unusedSimpArgs false
theorem beg_pos {sg : Bool} {m : List UInt8} {k : Nat} (h : begL m = true) (g : BodyN sg m k) : k ≠ 0 := by
 rintro rfl
 match m, h with
 | [], h => cases h
 | c :: r, h =>
  have h2 := g.2.2 (by simp)
  unfold okAt at h2
  rw [Bool.or_eq_false_iff] at h2
  have h3 : isPart c.toNat = false := h2.1
  rw [part_doc] at h3
  simp only [Bool.or_eq_false_iff, decide_eq_false_iff_not] at h3
  rw [beg_not (c := c) rfl h3.2.1 (.inl (fun e => h3.2.2.2 (by rw [e]; rfl)))] at h
  cases h
end Go.Proofs.YtgkhjeefcflmcaaGreatDoor
namespace Go.Proofs.YtgkhjeefcflmcaaGreatDoor
open Go.RowKit
def tabL : List (List UInt8) := [
 [],
 [110, 97, 109, 101],
 [105, 110, 116],
 [102, 108, 111, 97, 116],
 [99, 104, 97, 114],
 [115, 116, 114, 105, 110, 103],
 [],
 [],
 [],
 [],
 [98, 114, 101, 97, 107],
 [99, 97, 115, 101],
 [99, 104, 97, 110],
 [99, 111, 110, 115, 116],
 [99, 111, 110, 116, 105, 110, 117, 101],
 [100, 101, 102, 97, 117, 108, 116],
 [100, 101, 102, 101, 114],
 [101, 108, 115, 101],
 [102, 97, 108, 108, 116, 104, 114, 111, 117, 103, 104],
 [102, 111, 114],
 [102, 117, 110, 99],
 [103, 111],
 [103, 111, 116, 111],
 [105, 102],
 [105, 109, 112, 111, 114, 116],
 [105, 110, 116, 101, 114, 102, 97, 99, 101],
 [109, 97, 112],
 [112, 97, 99, 107, 97, 103, 101],
 [114, 97, 110, 103, 101],
 [114, 101, 116, 117, 114, 110],
 [115, 101, 108, 101, 99, 116],
 [115, 116, 114, 117, 99, 116],
 [115, 119, 105, 116, 99, 104],
 [116, 121, 112, 101],
 [118, 97, 114],
 [],
 [],
 [],
 [],
 [],
 [43],
 [45],
 [42],
 [47],
 [37],
 [38],
 [124],
 [94],
 [60, 60],
 [62, 62],
 [38, 94],
 [43, 61],
 [45, 61],
 [42, 61],
 [47, 61],
 [37, 61],
 [38, 61],
 [124, 61],
 [94, 61],
 [60, 60, 61],
 [62, 62, 61],
 [38, 94, 61],
 [38, 38],
 [124, 124],
 [60, 45],
 [43, 43],
 [45, 45],
 [61, 61],
 [60],
 [62],
 [61],
 [33],
 [126],
 [33, 61],
 [60, 61],
 [62, 61],
 [58, 61],
 [46, 46, 46],
 [40],
 [91],
 [123],
 [44],
 [46],
 [41],
 [93],
 [125],
 [59],
 [58]]
def txl (k : Nat) : List UInt8 := tabL.getD k []
def tx (k : Nat) : ByteArray := ⟨(txl k).toArray⟩
theorem tx_toList (k : Nat) : (tx k).data.toList = txl k := rfl
theorem tx_size (k : Nat) : (tx k).size = (txl k).length := by simp [tx, ByteArray.size]
theorem bytes_inj {s t : ByteArray} (h : s.data.toList = t.data.toList) : s = t := by
 obtain ⟨⟨a⟩⟩ := s; obtain ⟨⟨b⟩⟩ := t; simp at h; rw [h]
theorem tab_all {p : Nat → Bool} {n : Nat} (h : (List.range n).all p = true) {k : Nat} (hk : k < n) : p k = true := List.all_eq_true.1 h k (List.mem_range.2 hk)
theorem txl_out {k : Nat} (h : 88 ≤ k) : txl k = [] := by
 unfold txl; rw [List.getD_eq_getElem?_getD, List.getElem?_eq_none (by simpa [tabL] using h)]; rfl
def nthF : List UInt8 → List UInt8 → Nat → List UInt8
 | [], _, _ => []
 | c :: r, acc, n => if c = 32 then (match n with
  | 0 => acc
  | m + 1 => nthF r [] m) else nthF r (acc ++ [c]) n
def endsA (k : Int) : Bool := k == 1 || k == 2 || k == 3 || k == 4 || k == 5 || k == 10 || k == 14 || k == 18 || k == 29 || k == 65 || k == 66 || k == 83 || k == 84 || k == 85
def KwIs (s : ByteArray) (r : Nat) : Prop := (r = 0 ∧ ∀ j, 10 ≤ j → j < 35 → tx j ≠ s) ∨ (10 ≤ r ∧ r < 35 ∧ tx r = s)
theorem txl_inj {i j : Nat} (hi : i < 88) (hj : j < 88) (hn : txl i ≠ []) (h : txl i = txl j) : i = j := by
 have h1 := tab_all (p := fun i => (List.range 88).all fun j => txl i != txl j || txl i == [] || i == j) (n := 88) (by decide +kernel) hi
 have h2 := tab_all h1 hj
 simp [h] at h2
 rcases h2 with h2 | h2
 ·exact absurd (h ▸ h2) hn
 ·exact h2
theorem tx_inj {i j : Nat} (hi : i < 88) (hj : j < 88) (hn : txl i ≠ []) (h : tx i = tx j) : i = j :=
 txl_inj hi hj hn (by have := congrArg (fun s : ByteArray => s.data.toList) h; exact this)
theorem txl_kw {i : Nat} (h : 10 ≤ i) (h2 : i < 35) : txl i ≠ [] := by
 have := tab_all (p := fun i => txl (i + 10) != []) (n := 25) (by decide +kernel) (k := i - 10) (by omega)
 rw [show i - 10 + 10 = i by omega] at this
 simpa using this
theorem txl_op {i : Nat} (h : 40 ≤ i) (h2 : i < 88) : 1 ≤ (txl i).length ∧ (txl i).length ≤ 3 := by
 have := tab_all (p := fun i => decide (1 ≤ (txl (i + 40)).length ∧ (txl (i + 40)).length ≤ 3)) (n := 48) (by decide +kernel) (k := i - 40) (by omega)
 rw [show i - 40 + 40 = i by omega] at this
 simpa using this
theorem txl_short (i : Nat) : (txl i).length ≤ 11 := by
 by_cases h : i < 88
 ·have := tab_all (p := fun i => decide ((txl i).length ≤ 11)) (n := 88) (by decide +kernel) h
  simpa using this
 ·rw [txl_out (by omega)]; simp
theorem KwIs.uniq {s : ByteArray} {r q : Nat} (h : KwIs s r) (h' : KwIs s q) : r = q := by
 rcases h with ⟨h1, h2⟩ | ⟨h1, h2, h3⟩ <;> rcases h' with ⟨g1, g2⟩ | ⟨g1, g2, g3⟩
 ·omega
 ·exact absurd g3 (h2 q g1 g2)
 ·exact absurd h3 (g2 r h1 h2)
 ·exact tx_inj (by omega) (by omega) (txl_kw h1 h2) (h3.trans g3.symm)
theorem kw_ex (s : ByteArray) : ∃ r, KwIs s r := by
 by_cases h : ∃ j, 10 ≤ j ∧ j < 35 ∧ tx j = s
 ·obtain ⟨j, h1, h2, h3⟩ := h; exact ⟨j, .inr ⟨h1, h2, h3⟩⟩
 ·exact ⟨0, .inl ⟨rfl, fun j h1 h2 h3 => h ⟨j, h1, h2, h3⟩⟩⟩
def Beg (d : List Int) (j : Nat) : Prop := bts (tx j) <+: d
def OpIs (d : List Int) (k n : Nat) : Prop :=
 (k = 0 ∧ n = 0 ∧ ∀ j, 40 ≤ j → j < 88 → ¬ Beg d j) ∨ (40 ≤ k ∧ k < 88 ∧ n = (tx k).size ∧ Beg d k ∧ ∀ j, 40 ≤ j → j < 88 → Beg d j → (tx j).size ≤ n)
def OpTo (d : List Int) (m k n : Nat) : Prop :=
 (k = 0 ∧ n = 0 ∧ ∀ j, 40 ≤ j → j < m → ¬ Beg d j) ∨ (40 ≤ k ∧ k < m ∧ n = (tx k).size ∧ Beg d k ∧ ∀ j, 40 ≤ j → j < m → Beg d j → (tx j).size ≤ n)
theorem bts_inj' {s t : ByteArray} (h : bts s = bts t) : s = t := by
 apply bytes_inj
 have : ∀ l m : List UInt8, (l.map fun b => (b.toNat : Int)) = m.map (fun b => (b.toNat : Int)) → l = m := by
  intro l
  induction l with
  | nil => intro m h; cases m with
   | nil => rfl
   | cons => simp at h
  | cons a l ih => intro m h; cases m with
   | nil => simp at h
   | cons b m =>
    simp only [List.map_cons, List.cons.injEq] at h
    rw [UInt8.toNat.inj (by omega : a.toNat = b.toNat), ih m h.2]
 exact this _ _ h
theorem Beg.eq {d : List Int} {i j : Nat} (hi : 40 ≤ i ∧ i < 88) (hj : 40 ≤ j ∧ j < 88) (h : Beg d i) (h' : Beg d j) (hs : (tx i).size = (tx j).size) : i = j := by
 have h1 := List.prefix_of_prefix_length_le h h' (by rw [bts_length, bts_length]; omega)
 have h2 := h1.eq_of_length (by rw [bts_length, bts_length]; exact hs)
 exact tx_inj hi.2 hj.2 (fun e => by have := (txl_op hi.1 hi.2).1; rw [e] at this; simp at this) (bts_inj' h2)
theorem OpIs.uniq {d : List Int} {k n k' n' : Nat} (h : OpIs d k n) (h' : OpIs d k' n') : k = k' ∧ n = n' := by
 rcases h with ⟨h1, h2, h3⟩ | ⟨h1, h2, h3, h4, h5⟩ <;> rcases h' with ⟨g1, g2, g3⟩ | ⟨g1, g2, g3, g4, g5⟩
 ·omega
 ·exact absurd g4 (h3 _ g1 g2)
 ·exact absurd h4 (g3 _ h1 h2)
 ·have a := h5 k' g1 g2 g4
  have b := g5 k h1 h2 h4
  have : n = n' := by omega
  exact ⟨Beg.eq ⟨h1, h2⟩ ⟨g1, g2⟩ h4 g4 (by omega), this⟩
theorem OpTo.zero (d : List Int) : OpTo d 40 0 0 := .inl ⟨rfl, rfl, fun j h h' => by omega⟩
theorem OpTo.next {d : List Int} {m k n : Nat} (h : OpTo d m k n) (hm : m < 88) (hn : n < (tx m).size → ¬ Beg d m) : OpTo d (m + 1) k n := by
 rcases h with ⟨h1, h2, h3⟩ | ⟨h1, h2, h3, h4, h5⟩
 ·refine .inl ⟨h1, h2, fun j g g' hb => ?_⟩
  by_cases e : j = m
  ·subst e
   exact hn (by have := (txl_op g hm).1; rw [tx_size]; omega) hb
  ·exact h3 j g (by omega) hb
 ·refine .inr ⟨h1, by omega, h3, h4, fun j g g' hb => ?_⟩
  by_cases e : j = m
  ·subst e
   rcases Nat.lt_or_ge n (tx j).size with hx | hx
   ·exact absurd hb (hn hx)
   ·exact hx
  ·exact h5 j g (by omega) hb
theorem OpTo.hit {d : List Int} {m k n : Nat} (h : OpTo d m k n) (hm : 40 ≤ m) (hn : n < (tx m).size) (hb : Beg d m) : OpTo d (m + 1) m (tx m).size := by
 refine .inr ⟨hm, by omega, rfl, hb, fun j g g' hj => ?_⟩
 by_cases e : j = m
 ·subst e; exact Nat.le_refl _
 ·rcases h with ⟨h1, h2, h3⟩ | ⟨h1, h2, h3, h4, h5⟩
  ·exact absurd hj (h3 j g (by omega))
  ·have := h5 j g (by omega) hj
   omega
theorem OpTo.done {d : List Int} {k n : Nat} (h : OpTo d 88 k n) : OpIs d k n := h
theorem OpTo.bound {d : List Int} {m k n : Nat} (h : OpTo d m k n) : n ≤ 11 ∧ k < 88 + m := by
 rcases h with ⟨h1, h2, h3⟩ | ⟨h1, h2, h3, h4, h5⟩
 ·omega
 ·have := txl_short k; rw [h3, tx_size]; omega
theorem op_to (d : List Int) (i : Nat) (hi : i ≤ 48) : ∃ k n, OpTo d (40 + i) k n := by
 induction i with
 | zero => exact ⟨0, 0, OpTo.zero d⟩
 | succ i ih =>
  obtain ⟨k, n, h⟩ := ih (by omega)
  by_cases hc : n < (tx (40 + i)).size ∧ Beg d (40 + i)
  ·exact ⟨_, _, h.hit (by omega) hc.1 hc.2⟩
  ·exact ⟨k, n, h.next (by omega) fun h1 h2 => hc ⟨h1, h2⟩⟩
theorem op_ex (d : List Int) : ∃ k n, OpIs d k n := op_to d 48 (by omega)
theorem OpIs.bound {d : List Int} {k n : Nat} (h : OpIs d k n) : n ≤ 3 ∧ k < 88 := by
 rcases h with ⟨h1, h2, h3⟩ | ⟨h1, h2, h3, h4, h5⟩
 ·omega
 ·have := (txl_op h1 h2).2; rw [h3, tx_size]; omega
theorem beg_nil {j : Nat} (h : 40 ≤ j) (h2 : j < 88) : ¬ Beg [] j := fun hb => by
 have h1 := hb.length_le
 rw [bts_length, tx_size] at h1
 have h3 := (txl_op h h2).1
 simp only [List.length_nil] at h1
 omega
theorem op_nil : OpIs [] 0 0 := .inl ⟨rfl, rfl, fun _ h h2 => beg_nil h h2⟩
end Go.Proofs.YtgkhjeefcflmcaaGreatDoor
namespace Go.Proofs.YtgkhjeefcflmcaaGreatDoor
open Go.RowKit
def TabAt (w : World) : Prop := ∀ k : Nat, k < 88 → w.cell? ⟨1, k, none⟩ = some (.string (tx k))
theorem TabAt.lt {w : World} (h : TabAt w) : 1 < w.heap.size := by
 have h1 := h 1 (by omega)
 rcases Nat.lt_or_ge 1 w.heap.size with h2 | h2
 ·exact h2
 ·simp [World.cell?, Array.getElem?_eq_none h2] at h1
theorem TabAt.below {w w' : World} {B : Nat} (h : TabAt w) (hB : 1 < B) (hb : Below B w w') : TabAt w' := fun k hk => (hb.cell hB).trans (h k hk)
set_option maxHeartbeats 4000000 in
theorem Ends_run (k : Int) (r : Bool) (w : World) (hr : Hid (endsA k = r)) :
  Calls Tryz.prog 29 #[.int .i64 k] w fun e w' => e = .returned (.bool r) ∧ w = w' := by
 have hk : k = 1 ∨ k = 2 ∨ k = 3 ∨ k = 4 ∨ k = 5 ∨ k = 10 ∨ k = 14 ∨ k = 18 ∨ k = 29 ∨ k = 65 ∨ k = 66 ∨ k = 83 ∨ k = 84 ∨ k = 85 ∨ (k ≠ 1 ∧ k ≠ 2 ∧ k ≠ 3 ∧ k ≠ 4 ∧ k ≠ 5 ∧ k ≠ 10 ∧ k ≠ 14 ∧ k ≠ 18 ∧ k ≠ 29 ∧ k ≠ 65 ∧ k ≠ 66 ∧ k ≠ 83 ∧ k ≠ 84 ∧ k ≠ 85) := by omega
 rcases hk with rfl | rfl | rfl | rfl | rfl | rfl | rfl | rfl | rfl | rfl | rfl | rfl | rfl | rfl | hk
 rotate_right 1
 ·have hn := fun c => (beq_eq_false_iff_ne (a := k) (b := c)).2
  obtain ⟨h1, h2, h3, h4, h5, h10, h14, h18, h29, h65, h66, h83, h84, h85⟩ := hk
  have g1 := hn 1 h1
  have g2 := hn 2 h2
  have g3 := hn 3 h3
  have g4 := hn 4 h4
  have g5 := hn 5 h5
  have g10 := hn 10 h10
  have g14 := hn 14 h14
  have g18 := hn 18 h18
  have g29 := hn 29 h29
  have g65 := hn 65 h65
  have g66 := hn 66 h66
  have g83 := hn 83 h83
  have g84 := hn 84 h84
  have g85 := hn 85 h85
  have HE : Hid (endsA k = false) := by
   show _ = _
   rw [Bool.eq_false_iff]; simp [endsA]; omega
  have HR := hr.out.symm.trans HE.out
  subst HR
  clear hn HE hr h1 h2 h3 h4 h5 h10 h14 h18 h29 h65 h66 h83 h84 h85
  go_enter Tryz.func29, Tryz.ntmps29
  go_wp2
  go_ret
  exact ⟨rfl, rfl⟩
 all_goals
  have HR := hr.out.symm
  subst HR
  clear hr
  go_enter Tryz.func29, Tryz.ntmps29
  go_wp2
  go_ret
  exact ⟨rfl, rfl⟩
end Go.Proofs.YtgkhjeefcflmcaaGreatDoor
namespace Go.Proofs.YtgkhjeefcflmcaaGreatDoor
open Go.RowKit
theorem drop_at {l : List UInt8} {i : Nat} {c : UInt8} (h : l[i]? = some c) : l.drop i = c :: l.drop (i + 1) := by
 obtain ⟨hi, he⟩ := List.getElem?_eq_some_iff.1 h
 rw [List.drop_eq_getElem_cons hi, he]
theorem nthF_other {c : UInt8} {r acc : List UInt8} {n : Nat} (h : c ≠ 32) : nthF (c :: r) acc n = nthF r (acc ++ [c]) n := by cases n <;> simp [nthF, h]
theorem nthF_hit {r acc : List UInt8} : nthF (32 :: r) acc 0 = acc := by simp [nthF]
def NthTo (l : List UInt8) (i f m : Nat) (r : List UInt8) : Prop := f ≤ i ∧ i ≤ l.length ∧ nthF (l.drop i) ((l.take i).drop f) m = r
theorem NthTo.other {l : List UInt8} {i f m : Nat} {r : List UInt8} {c : UInt8} (h : NthTo l i f m r) (hc : l[i]? = some c) (hb : c ≠ 32) : NthTo l (i + 1) f m r := by
 obtain ⟨h1, h2, h3⟩ := h
 have hi := (List.getElem?_eq_some_iff.1 hc).1
 refine ⟨by omega, by omega, ?_⟩
 rw [drop_at hc, nthF_other hb] at h3
 rw [← h3, List.take_add_one, hc, Option.toList_some, List.drop_append_of_le_length (by rw [List.length_take]; omega)]
theorem NthTo.hit {l : List UInt8} {i f m : Nat} {r : List UInt8} {c : UInt8} (h : NthTo l i f m r) (hc : l[i]? = some c) (hb : c = 32) (hm : m = 0) : (l.take i).drop f = r := by
 obtain ⟨h1, h2, h3⟩ := h
 subst hm
 subst hb
 rw [drop_at hc, nthF_hit] at h3
 exact h3
end Go.Proofs.YtgkhjeefcflmcaaGreatDoor
namespace Go.Proofs.YtgkhjeefcflmcaaGreatDoor
open Go.RowKit
def NoKw (s : ByteArray) (m : Nat) : Prop := ∀ j, 10 ≤ j → j < m → tx j ≠ s
theorem NoKw.next {s : ByteArray} {m : Nat} (h : NoKw s m) (h2 : tx m ≠ s) : NoKw s (m + 1) := fun j h1 hj => by
 by_cases e : j = m
 ·subst e; exact h2
 ·exact h j h1 (by omega)
theorem str_eq {s t : ByteArray} (h : s = t) : (s.toList == t.toList) = true := by rw [h]; simp
theorem str_ne {s t : ByteArray} (h : s ≠ t) : (s.toList == t.toList) = false := by
 rw [beq_eq_false_iff_ne]
 intro e
 rw [Lib.toList_data, Lib.toList_data] at e
 exact h (bytes_inj e)
set_option maxRecDepth 100000 in
set_option maxHeartbeats 1000000 in
theorem Keyword_run (s : ByteArray) (r : Nat) (w : World) (ht : TabAt w) (hr : Hid (KwIs s r)) :
  Calls Tryz.prog 71 #[.string s] w fun e w' => e = .returned (.int .i64 (r : Int)) ∧ w = w' := by
 have HT := Lib.hid ht
 clear ht
 go_enter Tryz.func71, Tryz.ntmps71
 go_wp2_with fail
 go_loopg [3] 36 (fun h s3 wr => ∃ j : Nat, s3 = .int .i64 j ∧ Hid (10 ≤ j ∧ j ≤ 35 ∧ j + h = 46) ∧ Hid (NoKw s j) ∧ wr = w)
 case atStart => exact ⟨10, rfl, by show _ ∧ _; omega, fun j h1 h2 => by omega, rfl⟩
 case round =>
  obtain ⟨j, rfl, HJ, HN, rfl⟩ := hrel
  by_cases hlt : j ≤ 34
  ·have hlz : (j : Int) ≤ 34 := by omega
   have hj88 : j < 88 := by omega
   have hc := HT.out j hj88
   obtain ⟨t, htx⟩ : ∃ t, tx j = t := ⟨_, rfl⟩
   rw [htx] at hc
   have HX := Lib.hid htx
   clear htx
   by_cases hq : t = s
   ·have he := str_eq hq
    have HE : Hid (j = r) := KwIs.uniq (.inr ⟨HJ.out.1, by omega, HX.out.trans hq⟩) hr.out
    clear hq
    go_wp2_with fail
    go_ret
    exact ⟨by rw [← HE.out]; rfl, rfl⟩
   ·have he := str_ne hq
    have HM := Lib.hid (HN.out.next (m := j) (by rw [HX.out]; exact hq))
    clear hq
    go_wp2_with fail
    go_roundg (45 - j)
    case measure => have := HJ.out; omega
    case rel => exact ⟨j + 1, by go_num, by show _ ∧ _; have := HJ.out; omega, HM.out, rfl⟩
  ·have hlz : ¬ (j : Int) ≤ 34 := by omega
   have HE : Hid (0 = r) := KwIs.uniq (.inl ⟨rfl, fun i h1 h2 => HN.out i h1 (by omega)⟩) hr.out
   go_wp2_with fail
   go_ret
   exact ⟨by rw [← HE.out]; rfl, rfl⟩
end Go.Proofs.YtgkhjeefcflmcaaGreatDoor
namespace Go.Proofs.YtgkhjeefcflmcaaGreatDoor
open Go.RowKit
def NotYet (l s : ByteArray) (n : Nat) : Prop := ∀ j, j < n → nthF l.data.toList [] j ≠ s.data.toList
theorem NotYet.next {l s : ByteArray} {n : Nat} (h : NotYet l s n) (h2 : nthF l.data.toList [] n ≠ s.data.toList) : NotYet l s (n + 1) := fun j hj => by
 by_cases e : j = n
 ·subst e; exact h2
 ·exact h j (by omega)
end Go.Proofs.YtgkhjeefcflmcaaGreatDoor
namespace Go.Proofs.YtgkhjeefcflmcaaGreatDoor
open Go.RowKit
def Ans (v : Value) (w : World) (e : Ending) (w' : World) : Prop := e = .returned v ∧ ∃ n, w' = w.drewN n
end Go.Proofs.YtgkhjeefcflmcaaGreatDoor
