/-
  number's kindOf and begins.
-/
import Derived.Test.YtgoemhcngmpfbaaGreatDoorMw38
import Derived.Test.YtgoemhcngmpfbaaGreatDoorMw17

namespace Go.Proofs.YtgoemhcngmpfbaaGreatDoor
open Go.RowKit Go.Sort
set_option linter.unusedSimpArgs false

/-- A byte that tells a number with a point. -/
def isKd (c : UInt8) : Bool := ([46, 101, 69] : List UInt8).contains c
theorem indexAny_kd : ∀ t : List UInt8, Lib.indexAny t [46, 101, 69] = gidx isKd t
  | [] => rfl
  | b :: m => by
    have ih := indexAny_kd m
    cases h : isKd b
    · rw [gidx_miss m h, ← ih]
      show (if ([46, 101, 69] : List UInt8).contains b then _ else _) = _
      rw [show ([46, 101, 69] : List UInt8).contains b = false from h]
      rfl
    · rw [gidx_hit m h]
      show (if ([46, 101, 69] : List UInt8).contains b then _ else _) = _
      rw [show ([46, 101, 69] : List UInt8).contains b = true from h]
      rfl
theorem contains_kd (t : List UInt8) : Lib.containsAny t [46, 101, 69] = t.any isKd := by
  unfold Lib.containsAny
  rw [indexAny_kd]
  unfold gidx
  cases t.any isKd
  · rfl
  · rw [if_pos rfl]
    exact decide_eq_true (Int.natCast_nonneg _)
/-- The kind of a body. -/
def kndZ (l : List UInt8) : Int := if pfxB l = 0 ∧ l.any isKd = true then 3 else 2
set_option maxRecDepth 100000 in
set_option maxHeartbeats 4000000 in
theorem kindOf_run (l : List UInt8) (w : World) (hl : l.length ≤ 10000) (ha : ∀ (j : Nat) b, l[j]? = some b → b.toNat < 128) :
    Calls Tryz.prog 57 #[.string (bs l)] w fun e w' => e = .returned (.int .i64 (kndZ l)) ∧ Below w.heap.size w w' := by
  have HC := fun V => cutPrefix_run l V (by omega)
  have HK := fun V => Tryz.strings_ContainsAny_laid (bs l) ⟨#[46, 101, 69]⟩ V (by rw [bs_size]; omega) (by decide) (by rw [bs_list]; exact ha) (fun j b hb => by
    match j, hb with
    | 0, hb => cases hb; decide
    | 1, hb => cases hb; decide
    | 2, hb => cases hb; decide)
  rw [bs_list, show (⟨#[46, 101, 69]⟩ : ByteArray).data.toList = [46, 101, 69] from rfl, contains_kd] at HK
  unfold kndZ
  clear ha
  generalize l.any isKd = v at *
  by_cases hp : pfxB l = 0
  · rw [hp, if_pos rfl] at HC
    rw [hp]
    replace HC := Lib.hid HC
    replace HK := Lib.hid HK
    clear hp
    cases v
    · go_enter Tryz.func57, Tryz.ntmps57
      go_wp2_with fail
      refine (HC.out _).mono ?_
      rintro e w1 ⟨rfl, hw⟩
      have HB := Lib.hid hw
      clear hw
      go_wp2_with fail
      refine (HK.out _).mono ?_
      rintro e w2 ⟨rfl, hw⟩
      have HB2 := Lib.hid (HB.out.trans (hw.mono HB.out.size))
      clear hw HB
      go_wp2_with fail
      go_ret
      exact ⟨rfl, HB2.out⟩
    · go_enter Tryz.func57, Tryz.ntmps57
      go_wp2_with fail
      refine (HC.out _).mono ?_
      rintro e w1 ⟨rfl, hw⟩
      have HB := Lib.hid hw
      clear hw
      go_wp2_with fail
      refine (HK.out _).mono ?_
      rintro e w2 ⟨rfl, hw⟩
      have HB2 := Lib.hid (HB.out.trans (hw.mono HB.out.size))
      clear hw HB
      go_wp2_with fail
      go_ret
      exact ⟨rfl, HB2.out⟩
  · rw [if_neg hp] at HC
    have hk : Hid ((if pfxB l = 0 ∧ v = true then (3 : Int) else 2) = 2) := if_neg (fun h => hp h.1)
    generalize pfxB l = B at *
    have hBz : ((B : Int) == 0) = false := beq_eq_false_iff_ne.2 (by omega)
    replace HC := Lib.hid HC
    clear hp HK
    rw [hk.out]
    clear hk
    go_enter Tryz.func57, Tryz.ntmps57
    go_wp2_with fail
    refine (HC.out _).mono ?_
    rintro e w1 ⟨rfl, hw⟩
    have HB := Lib.hid hw
    clear hw
    go_wp2_with fail
    go_ret
    exact ⟨rfl, HB.out⟩
/-- A text's bytes as numbers. -/
def bi (l : List UInt8) : List Int := l.map fun b => (b.toNat : Int)
theorem bi_length (l : List UInt8) : (bi l).length = l.length := List.length_map ..
theorem bi_take (l : List UInt8) (n : Nat) : (bi l).take n = bi (l.take n) := (List.map_take).symm
theorem bi_drop (l : List UInt8) (n : Nat) : (bi l).drop n = bi (l.drop n) := (List.map_drop).symm
theorem bi_str (l : List UInt8) : strOf (bi l) = bs l := by
  unfold strOf strOfNums bi bs
  rw [List.map_map]
  congr 2
  have : ((fun n : Int => UInt8.ofNat n.toNat) ∘ fun b : UInt8 => (b.toNat : Int)) = id := by
    funext b
    simp
  rw [this, List.map_id]
theorem byts_cell {w : World} {B b o : Nat} {l : List UInt8} (h : Byts w B (some ⟨b, o, none⟩) (bi l)) {i : Nat} {c : UInt8} (hc : l[i]? = some c) : w.cell? ⟨b, o + i, none⟩ = some (.int .u8 (c.toNat : Int)) := by
  obtain ⟨b', o', e, _, hq⟩ := h.2 (by rw [bi_length]; exact Nat.lt_of_le_of_lt (Nat.zero_le _) (List.getElem?_eq_some_iff.1 hc).1)
  cases e
  refine hq i _ ?_
  unfold bi
  rw [List.getElem?_map, hc]
  rfl
theorem eq46 {a : UInt8} : ((a.toNat : Int) == 46) = decide (a = 46) := by
  rw [Bool.eq_iff_iff]
  simp only [beq_iff_eq, decide_eq_true_eq]
  constructor
  · intro h
    exact UInt8.toNat_inj.1 (by show a.toNat = 46; omega)
  · rintro rfl; rfl
/-- Does a body begin here? -/
def begL : List UInt8 → Bool
  | [] => false
  | c :: m => isDig c.toNat || (c == 46 && (match m with | [] => false | d :: _ => isDig d.toNat))
set_option maxRecDepth 100000 in
set_option maxHeartbeats 4000000 in
theorem begins_runN (b o n cap : Nat) (l : List UInt8) (w : World) (B : Nat) (hb : Byts w B (some ⟨b, o, none⟩) (bi l)) (hn : l.length = n) (_hcap : n ≤ cap) (h0 : 0 < n) :
    Calls Tryz.prog 55 #[.slice (some ⟨b, o, none⟩) n cap] w fun e w' => e = .returned (.bool (begL l)) ∧ w' = w := by
  match l, hb, hn with
  | [], _, hn => simp at hn; omega
  | c :: m, hb, hn =>
    have hc0 := byts_cell hb (i := 0) (c := c) rfl
    rw [Nat.add_zero] at hc0
    by_cases hu : c = 46
    · subst hu
      have hc46 : w.cell? ⟨b, o, none⟩ = some (.int .u8 46) := hc0
      have H1 : Hid (∀ W, Calls Tryz.prog 94 #[.int .i64 1, .int .u8 46] W fun e w' => e = .returned (.bool false) ∧ w' = W) := fun W => has1_run 46 (by decide) W
      clear hc0
      match m, hb, hn with
      | [], hb, hn =>
        have h1z : ¬ (1 : Int) < (n : Int) := by simp at hn; omega
        clear hb hn
        go_enter Tryz.func55, Tryz.ntmps55
        go_wp2_with fail
        refine (H1.out _).mono ?_
        rintro e w1 ⟨rfl, rfl⟩
        go_wp2_with fail
        go_ret
        exact ⟨rfl, rfl⟩
      | d :: r, hb, hn =>
        have h1z : (1 : Int) < (n : Int) := by simp at hn; omega
        have h1n : 1 < n := by simp at hn; omega
        have hc1 := byts_cell hb (i := 1) (c := d) rfl
        have H2 := Lib.hid (fun W => has1_run d.toNat (UInt8.toNat_lt d) W)
        have hr : Hid (begL (46 :: d :: r) = isDig d.toNat) := rfl
        rw [hr.out]
        clear hb hn hr
        generalize isDig d.toNat = v at *
        generalize d.toNat = dn at *
        cases v <;>
        · go_enter Tryz.func55, Tryz.ntmps55
          go_wp2_with fail
          refine (H1.out _).mono ?_
          rintro e w1 ⟨rfl, rfl⟩
          go_wp2_with fail
          refine (H2.out _).mono ?_
          rintro e w1 ⟨rfl, rfl⟩
          go_wp2_with fail
          go_ret
          exact ⟨rfl, rfl⟩
    · have e46 : ((c.toNat : Int) == 46) = false := by rw [eq46]; exact decide_eq_false hu
      have H1 := Lib.hid (fun W => has1_run c.toNat (UInt8.toNat_lt c) W)
      have hr : Hid (begL (c :: m) = isDig c.toNat) := by
        show (isDig c.toNat || (c == 46 && _)) = _
        rw [show (c == 46) = false from beq_eq_false_iff_ne.2 hu, Bool.false_and, Bool.or_false]
      rw [hr.out]
      clear hb hn hr hu
      generalize isDig c.toNat = v at *
      generalize c.toNat = cn at *
      cases v <;>
      · go_enter Tryz.func55, Tryz.ntmps55
        go_wp2_with fail
        refine (H1.out _).mono ?_
        rintro e w1 ⟨rfl, rfl⟩
        go_wp2_with fail
        go_ret
        exact ⟨rfl, rfl⟩
end Go.Proofs.YtgoemhcngmpfbaaGreatDoor

/-
  number's body.
-/
namespace Go.Proofs.YtgoemhcngmpfbaaGreatDoor
open Go.RowKit Go.Sort
set_option linter.unusedSimpArgs false

/-- Does the byte at a place belong to the body? -/
def okAt (sg : Bool) (l : List UInt8) (i : Nat) : Bool := isPart (l.getD i 0).toNat || (sg && (decide (0 < i) && (isSgn (l.getD i 0).toNat && isMrk (l.getD (i - 1) 0).toNat)))
/-- The body's length. -/
def BodyN (sg : Bool) (l : List UInt8) (k : Nat) : Prop := k ≤ l.length ∧ (∀ i, i < k → okAt sg l i = true) ∧ (k < l.length → okAt sg l k = false)
theorem bodyN_uniq {sg : Bool} {l : List UInt8} {k j : Nat} (h : BodyN sg l k) (g : BodyN sg l j) : k = j := by
  rcases Nat.lt_trichotomy k j with h1 | h1 | h1
  · have a := g.2.1 k h1
    rw [h.2.2 (by have := g.1; omega)] at a
    cases a
  · exact h1
  · have a := h.2.1 j h1
    rw [g.2.2 (by have := h.1; omega)] at a
    cases a
theorem bodyN_is (sg : Bool) (l : List UInt8) : ∃ k, BodyN sg l k := by
  have key : ∀ d i, i + d = l.length → (∀ j, j < i → okAt sg l j = true) → ∃ k, BodyN sg l k := by
    intro d
    induction d with
    | zero => intro i hi h; exact ⟨i, by omega, h, fun h => by omega⟩
    | succ d ih =>
      intro i hi h
      cases hk : okAt sg l i
      · exact ⟨i, by omega, h, fun _ => hk⟩
      · exact ih (i + 1) (by omega) (fun j hj => by
          by_cases e : j = i
          · rw [e]; exact hk
          · exact h j (by omega))
  exact key l.length 0 (by omega) (fun j hj => by omega)
theorem getD_of {l : List UInt8} {i : Nat} {c : UInt8} (h : l[i]? = some c) : l.getD i 0 = c := by
  rw [List.getD_eq_getElem?_getD, h]; rfl
/-- Is a sign after an exponent's letter of the body? -/
def sgOf (l : List UInt8) : Bool := !decide (pfxB (l.take 2) = 16)
set_option maxRecDepth 100000 in
set_option maxHeartbeats 4000000 in
theorem body_run (b o n cap k : Nat) (l : List UInt8) (w : World) (B : Nat) (hb : Byts w B (some ⟨b, o, none⟩) (bi l)) (hB : B ≤ w.heap.size) (hn : l.length = n) (hm : n ≤ 10000) (hcap : n ≤ cap) (h0 : 0 < n) (hk : Hid (BodyN (sgOf l) l k)) :
    Calls Tryz.prog 56 #[.slice (some ⟨b, o, none⟩) n cap] w fun e w' => e = .returned (.slice (some ⟨b, o, none⟩) k cap) ∧ Below w.heap.size w w' := by
  have hl2 : (l.take 2).length ≤ 2 := by rw [List.length_take]; omega
  have HC0 := fun V => cutPrefix_run (l.take 2) V (by omega)
  generalize (if pfxB (l.take 2) = 0 then l.take 2 else (l.take 2).drop 2) = rst at HC0
  have HC := Lib.hid HC0
  clear HC0
  obtain ⟨m2, hm2⟩ : ∃ m2, (l.take 2).length = m2 := ⟨_, rfl⟩
  have hmz : min (n : Int) 2 = (m2 : Int) := by rw [← hm2, List.length_take, hn]; omega
  have hcv := conv_bytes (hb.take 2) m2 cap (by rw [bi_take, bi_length, hm2])
  rw [bi_take, bi_str] at hcv
  have hm2n : m2 ≤ n := by rw [← hm2, List.length_take]; omega
  have hm2c : m2 ≤ cap := by omega
  clear hm2
  go_enter Tryz.func56, Tryz.ntmps56
  go_wp2_with fail
  refine (HC.out _).mono ?_
  rintro e w1 ⟨rfl, hw⟩
  have HB1 := Lib.hid hw
  have HY := Lib.hid (hb.below hw hB)
  have hk' := hk.out
  obtain ⟨sg, hsg⟩ : ∃ sg, sgOf l = sg := ⟨_, rfl⟩
  rw [hsg] at hk'
  unfold sgOf at hsg
  generalize pfxB (l.take 2) = Q at *
  have hPz : ((Q : Int) != 16) = sg := by
    rw [← hsg]
    show (!((Q : Int) == 16)) = _
    congr 1
    rw [Bool.eq_iff_iff]
    simp only [beq_iff_eq, decide_eq_true_eq]
    omega
  clear hw hk hb hB hsg hcv hmz hm2n hm2c HC hl2
  have hk := Lib.hid hk'
  clear hk'
  go_wp2_with fail
  go_loopg [22] (n + 1) (fun h s22 wr => ∃ i : Nat, s22 = .int .i64 (i : Int) ∧ Hid (i + h = n + 1) ∧ i ≤ n ∧ Hid (∀ j, j < i → okAt sg l j = true) ∧ wr = w1)
  case atStart => exact ⟨0, rfl, by show _ = _; omega, by omega, fun j hj => absurd hj (by omega), rfl⟩
  case round =>
    obtain ⟨i, rfl, HI, hin, HS, rfl⟩ := hrel
    clear hPz
    by_cases hlt : i < n
    · have hiz : (i : Int) < (n : Int) := by omega
      have hic : i ≤ cap := by omega
      obtain ⟨c, hc⟩ : ∃ c, l[i]? = some c := ⟨l[i]'(by omega), List.getElem?_eq_getElem (by omega)⟩
      have hx := byts_cell HY.out hc
      have hok : okAt sg l i = (isPart c.toNat || (sg && (decide (0 < i) && (isSgn c.toNat && isMrk (l.getD (i - 1) 0).toNat)))) := by
        unfold okAt
        rw [getD_of hc]
      have HP := fun W => has4_run c.toNat (UInt8.toNat_lt c) W
      have HG := fun W => isSign_run c.toNat W
      clear hc
      cases hp : isPart c.toNat
      · rw [hp] at HP hok
        replace HP := Lib.hid HP
        rw [Bool.false_or] at hok
        clear hp
        cases sg
        · have HK : Hid (k = i) := bodyN_uniq hk.out ⟨by omega, HS.out, fun _ => hok⟩
          clear HS HG hok
          generalize c.toNat = cn at *
          go_wp2_with fail
          refine (HP.out _).mono ?_
          rintro e w2 ⟨rfl, rfl⟩
          go_wp2_with fail
          go_ret
          exact ⟨by rw [HK.out]; rfl, HB1.out⟩
        · by_cases hi0 : 0 < i
          · have h0z : (0 : Int) < (i : Int) := by omega
            rw [Bool.true_and, decide_eq_true hi0, Bool.true_and] at hok
            cases hg : isSgn c.toNat
            · rw [hg] at HG hok
              have HK : Hid (k = i) := bodyN_uniq hk.out ⟨by omega, HS.out, fun _ => hok⟩
              replace HG := Lib.hid HG
              clear HS hok hg
              generalize c.toNat = cn at *
              go_wp2_with fail
              refine (HP.out _).mono ?_
              rintro e w2 ⟨rfl, rfl⟩
              go_wp2_with fail
              refine (HG.out _).mono ?_
              rintro e w2 ⟨rfl, rfl⟩
              go_wp2_with fail
              go_ret
              exact ⟨by rw [HK.out]; rfl, HB1.out⟩
            · rw [hg, Bool.true_and] at hok
              rw [hg] at HG
              replace HG := Lib.hid HG
              obtain ⟨im, him⟩ : ∃ im, i = im + 1 := ⟨i - 1, by omega⟩
              have hmz : (i : Int) - 1 = (im : Int) := by omega
              have him2 : im < n := by omega
              obtain ⟨d, hd⟩ : ∃ d, l[im]? = some d := ⟨l[im]'(by omega), List.getElem?_eq_getElem (by omega)⟩
              have hy := byts_cell HY.out hd
              rw [show i - 1 = im by omega, getD_of hd] at hok
              have HM := fun W => isMark_run d W
              have HIM := Lib.hid him
              clear hd hg him
              cases hmk : isMrk d.toNat
              · rw [hmk] at HM hok
                have HK : Hid (k = i) := bodyN_uniq hk.out ⟨by omega, HS.out, fun _ => hok⟩
                replace HM := Lib.hid HM
                clear HS hok hmk
                generalize c.toNat = cn at *
                generalize d.toNat = dn at *
                go_wp2_with fail
                refine (HP.out _).mono ?_
                rintro e w2 ⟨rfl, rfl⟩
                go_wp2_with fail
                refine (HG.out _).mono ?_
                rintro e w2 ⟨rfl, rfl⟩
                go_wp2_with fail
                refine (HM.out _).mono ?_
                rintro e w2 ⟨rfl, rfl⟩
                go_wp2_with fail
                go_ret
                exact ⟨by rw [HK.out]; rfl, HB1.out⟩
              · rw [hmk] at HM hok
                have HS2 : Hid (∀ j, j < i + 1 → okAt true l j = true) := fun j hj => by
                  by_cases e : j = i
                  · rw [e]; exact hok
                  · exact HS.out j (by omega)
                replace HM := Lib.hid HM
                clear HS hok hmk
                generalize c.toNat = cn at *
                generalize d.toNat = dn at *
                go_wp2_with fail
                refine (HP.out _).mono ?_
                rintro e w2 ⟨rfl, rfl⟩
                go_wp2_with fail
                refine (HG.out _).mono ?_
                rintro e w2 ⟨rfl, rfl⟩
                go_wp2_with fail
                refine (HM.out _).mono ?_
                rintro e w2 ⟨rfl, rfl⟩
                go_wp2_with fail
                go_roundg (n - i)
                case measure => have := HI.out; omega
                case rel => exact ⟨i + 1, by go_num, by show _ = _; have := HI.out; omega, by omega, HS2, rfl⟩
          · obtain rfl : i = 0 := by omega
            rw [decide_eq_false hi0, Bool.false_and, Bool.and_false] at hok
            have HK : Hid (k = 0) := bodyN_uniq hk.out ⟨by omega, HS.out, fun _ => hok⟩
            rw [Nat.add_zero] at hx
            clear HS HG hok hi0
            generalize c.toNat = cn at *
            rw [Int.natCast_zero] at *
            go_wp2_with fail
            refine (HP.out _).mono ?_
            rintro e w2 ⟨rfl, rfl⟩
            go_wp2_with fail
            go_ret
            exact ⟨by rw [HK.out]; rfl, HB1.out⟩
      · rw [hp] at HP hok
        rw [Bool.true_or] at hok
        have HS2 : Hid (∀ j, j < i + 1 → okAt sg l j = true) := fun j hj => by
          by_cases e : j = i
          · rw [e]; exact hok
          · exact HS.out j (by omega)
        replace HP := Lib.hid HP
        clear hp HS HG hok
        generalize c.toNat = cn at *
        go_wp2_with fail
        refine (HP.out _).mono ?_
        rintro e w2 ⟨rfl, rfl⟩
        go_wp2_with fail
        go_roundg (n - i)
        case measure => have := HI.out; omega
        case rel => exact ⟨i + 1, by go_num, by show _ = _; have := HI.out; omega, by omega, HS2, rfl⟩
    · obtain rfl : i = n := by omega
      have HK : Hid (k = i) := bodyN_uniq hk.out ⟨by omega, HS.out, fun h => by omega⟩
      clear HS
      go_wp2_with fail
      go_ret
      exact ⟨by rw [HK.out]; rfl, HB1.out⟩
end Go.Proofs.YtgoemhcngmpfbaaGreatDoor

/-
  number's Scan.
-/
namespace Go.Proofs.YtgoemhcngmpfbaaGreatDoor
open Go.RowKit Go.Sort
set_option linter.unusedSimpArgs false

/-- The bytes behind a place. -/
theorem Byts.dropN {w : World} {B : Nat} {A : Option Addr} {l : List Int} (h : Byts w B A l) {i : Nat} (hi : i < l.length) : ∃ b o, A = some ⟨b, o, none⟩ ∧ Byts w B (some ⟨b, o + i, none⟩) (l.drop i) := by
  obtain ⟨b, o, e, hb, hc⟩ := h.2 (by omega)
  refine ⟨b, o, e, fun x hx => h.1 x (List.mem_of_mem_drop hx), fun _ => ⟨b, o + i, rfl, hb, fun j x hx => ?_⟩⟩
  rw [List.getElem?_drop] at hx
  rw [Nat.add_assoc]
  exact hc _ _ hx
theorem part_ascii {c : Nat} (h : isPart c = true) : c < 128 := by
  unfold isPart clsN at h
  rw [decide_eq_true_eq] at h
  split at h
  · omega
  · split at h
    · omega
    · split at h
      · omega
      · exact absurd rfl h
theorem sgn_ascii {c : Nat} (h : isSgn c = true) : c < 128 := by
  unfold isSgn at h
  rw [decide_eq_true_eq] at h
  omega
theorem ok_ascii {sg : Bool} {l : List UInt8} {i : Nat} {c : UInt8} (hc : l[i]? = some c) (h : okAt sg l i = true) : c.toNat < 128 := by
  unfold okAt at h
  rw [getD_of hc, Bool.or_eq_true] at h
  rcases h with h | h
  · exact part_ascii h
  · rw [Bool.and_eq_true, Bool.and_eq_true, Bool.and_eq_true] at h
    exact sgn_ascii h.2.2.1
theorem body_ascii {sg : Bool} {l : List UInt8} {k : Nat} (h : BodyN sg l k) : ∀ (j : Nat) b, (l.take k)[j]? = some b → b.toNat < 128 := fun j b hb => by
  rw [List.getElem?_take] at hb
  split at hb
  · rename_i hj
    exact ok_ascii hb (h.2.1 j hj)
  · cases hb
/-- What Scan answers. -/
def ScanIs (l : List UInt8) (at_ : Int) (kind : Int) (k e : Nat) : Prop :=
  ((at_ < 0 ∨ (l.length : Int) ≤ at_ ∨ begL (l.drop at_.toNat) = false) ∧ kind = 0 ∧ k = 0 ∧ e = 7) ∨
  (0 ≤ at_ ∧ at_ < (l.length : Int) ∧ begL (l.drop at_.toNat) = true ∧ BodyN (sgOf (l.drop at_.toNat)) (l.drop at_.toNat) k ∧
    kind = kndZ ((l.drop at_.toNat).take k) ∧ ∃ y, ValueIs kind ((l.drop at_.toNat).take k) y ∧ e = y.k)
theorem scan_is (l : List UInt8) (at_ : Int) : ∃ kind k e, ScanIs l at_ kind k e := by
  unfold ScanIs
  by_cases h : at_ < 0 ∨ (l.length : Int) ≤ at_ ∨ begL (l.drop at_.toNat) = false
  · exact ⟨0, 0, 7, .inl ⟨h, rfl, rfl, rfl⟩⟩
  · have h1 : ¬ at_ < 0 := fun e => h (.inl e)
    have h2 : ¬ (l.length : Int) ≤ at_ := fun e => h (.inr (.inl e))
    have h3 : begL (l.drop at_.toNat) = true := by
      cases e : begL (l.drop at_.toNat)
      · exact absurd (.inr (.inr e)) h
      · rfl
    obtain ⟨k, hk⟩ := bodyN_is (sgOf (l.drop at_.toNat)) (l.drop at_.toNat)
    obtain ⟨y, hy⟩ := value_is (kndZ ((l.drop at_.toNat).take k)) ((l.drop at_.toNat).take k)
    exact ⟨_, k, y.k, .inr ⟨by omega, by omega, h3, hk, rfl, y, hy, rfl⟩⟩
/-- Scan's answer as a value. -/
def scanV (kind : Int) (k e : Nat) : Value := .tuple #[.int .i64 kind, .int .i64 (k : Int), errV e]
set_option maxRecDepth 100000 in
set_option maxHeartbeats 4000000 in
theorem Scan_run (A : Option Addr) (n cap : Nat) (at_ : Int) (l : List UInt8) (kind : Int) (k e0 : Nat) (w : World) (B : Nat) (hb : Byts w B A (bi l)) (hB : B ≤ w.heap.size) (hn : l.length = n) (hm : n ≤ 10000) (hcap : n ≤ cap) (h : Hid (ScanIs l at_ kind k e0)) (hml : Hid (Ml w)) :
    Calls Tryz.prog 23 #[.slice A n cap, .int .i64 at_] w fun e w' => e = .returned (scanV kind k e0) ∧ Below w.heap.size w w' := by
  by_cases h1 : at_ < 0
  · have HE : Hid (kind = 0 ∧ k = 0 ∧ e0 = 7) := by
      rcases h.out with ⟨_, h⟩ | ⟨h, _⟩
      · exact h
      · omega
    clear h hb hml
    go_enter Tryz.func23, Tryz.ntmps23
    go_wp2_with fail
    go_ret3
    exact ⟨by rw [HE.out.1, HE.out.2.1, HE.out.2.2]; rfl, Below.refl _ _⟩
  · by_cases h2 : (n : Int) ≤ at_
    · have HE : Hid (kind = 0 ∧ k = 0 ∧ e0 = 7) := by
        rcases h.out with ⟨_, h⟩ | ⟨_, h, _⟩
        · exact h
        · omega
      have h1' : decide (at_ < 0) = false := by simpa using h1
      clear h hb hml
      go_enter Tryz.func23, Tryz.ntmps23
      go_wp2_with fail
      go_ret3
      exact ⟨by rw [HE.out.1, HE.out.2.1, HE.out.2.2]; rfl, Below.refl _ _⟩
    · obtain ⟨a, rfl⟩ : ∃ a : Nat, at_ = (a : Int) := ⟨at_.toNat, by omega⟩
      have han : a < n := by omega
      obtain ⟨b, o, rfl, hd⟩ := hb.dropN (i := a) (by rw [bi_length]; omega)
      rw [bi_drop] at hd
      have h' := h.out
      unfold ScanIs at h'
      rw [Int.toNat_natCast] at h'
      have hdl : (l.drop a).length = n - a := by rw [List.length_drop, hn]
      generalize l.drop a = m at *
      have ha0 : decide ((a : Int) < 0) = false := by simp
      have ha1 : decide (n ≤ a) = false := decide_eq_false (by omega)
      have hne : ¬ cap = a := by omega
      have HBe := begins_runN b (o + a) (n - a) (cap - a) m w B hd hdl (by omega) (by omega)
      have HD := Lib.hid hd
      clear h hb hd
      cases hv : begL m
      · have HE : Hid (kind = 0 ∧ k = 0 ∧ e0 = 7) := by
          rcases h' with ⟨_, h⟩ | ⟨_, _, h, _⟩
          · exact h
          · rw [hv] at h; cases h
        rw [hv] at HBe
        replace HBe := Lib.hid HBe
        clear h' hv hml
        go_enter Tryz.func23, Tryz.ntmps23
        go_wp2_with fail
        refine HBe.out.mono ?_
        rintro e w1 ⟨rfl, rfl⟩
        go_wp2_with fail
        go_ret3
        exact ⟨by rw [HE.out.1, HE.out.2.1, HE.out.2.2]; rfl, Below.refl _ _⟩
      · rw [hv] at HBe
        replace HBe := Lib.hid HBe
        rcases h' with ⟨h, _⟩ | ⟨_, _, _, hk, rfl, y, hy, rfl⟩
        · rcases h with h | h | h
          · omega
          · omega
          · rw [hv] at h; cases h
        · have HBo := Lib.hid (body_run b (o + a) (n - a) (cap - a) k m w B HD.out hB hdl (by omega) (by omega) (by omega) hk)
          have hkn : k ≤ n - a := by rw [← hdl]; exact hk.1
          have hsl : (m.take k).length = k := by rw [List.length_take, hdl]; omega
          have hasc := body_ascii hk
          have hcv : ∀ V, Byts V B (some ⟨b, o + a, none⟩) (bi m) → (convert 48 9 (.slice (some ⟨b, o + a, none⟩) k (cap - a))).run Tryz.prog V = .ok (.string (bs (m.take k))) V := fun V hV => by
            have := conv_bytes (hV.take k) k (cap - a) (by rw [bi_take, bi_length, hsl])
            rwa [bi_take, bi_str] at this
          have HCV := Lib.hid hcv
          clear hcv hv hk
          generalize m.take k = s at *
          have hsz := bs_size s
          rw [hsl] at hsz
          obtain ⟨kd, hkd⟩ : ∃ kd, kndZ s = kd := ⟨_, rfl⟩
          have HK := fun V => kindOf_run s V (by omega) hasc
          rw [hkd] at HK hy
          obtain ⟨ys, yn, yd, yk⟩ := y
          obtain ⟨ev, hev⟩ : ∃ v, errV yk = v := ⟨_, rfl⟩
          have HV : Hid (∀ V, Ml V → Calls Tryz.prog 31 #[.int .i64 kd, .string (bs s)] V fun e w' => e = .returned (.tuple #[ratV ys yn false yd, ev]) ∧ Below V.heap.size V w') := fun V hV => by
            have := Value_run kd s _ V (by omega) hy hV
            dsimp only at this
            rwa [hev] at this
          have HR : Hid (scanV kd k yk = .tuple #[.int .i64 kd, .int .i64 (k : Int), ev]) := by
            unfold Hid scanV
            rw [hev]
          dsimp only
          rw [hkd, HR.out]
          replace HK := Lib.hid HK
          have HML : Hid (∀ V, Below w.heap.size w V → Ml V) := fun V hV => hml.out.below hV
          have HSz : Hid (B ≤ w.heap.size) := hB
          clear hy hev hkd hasc HR hml hB
          go_enter Tryz.func23, Tryz.ntmps23
          go_wp2_with fail
          refine HBe.out.mono ?_
          rintro e w1 ⟨rfl, rfl⟩
          go_wp2_with fail
          refine HBo.out.mono ?_
          rintro e w2 ⟨rfl, hw⟩
          have hc2 := HCV.out w2 (HD.out.below hw HSz.out)
          have HB2 := Lib.hid hw
          clear hw
          go_wp2_with fail
          refine (HK.out _).mono ?_
          rintro e w3 ⟨rfl, hw⟩
          have HB3 := Lib.hid (HB2.out.trans (hw.mono HB2.out.size))
          clear hw hc2 HB2
          go_wp2_with fail
          refine (HV.out _ (HML.out _ HB3.out)).mono ?_
          rintro e w4 ⟨rfl, hw⟩
          have HB4 := Lib.hid (HB3.out.trans (hw.mono HB3.out.size))
          clear hw HB3
          go_wp2_with fail
          go_ret3
          exact ⟨rfl, HB4.out⟩
end Go.Proofs.YtgoemhcngmpfbaaGreatDoor
