/-
  Stage 10 (quote), as mathematics: where a literal ends, the number of so many digits, what an escape says.
-/
import Derived.Test.YtcieibidnpemjaaGreatDoorMx01
namespace Go.Proofs.YtcieibidnpemjaaGreatDoor
open Go.RowKit Go.Sort
set_option linter.unusedSimpArgs false
def endF (q : UInt8) : List UInt8 → Nat × Bool
 | [] => (0, false)
 | [c] => if q ≠ 96 ∧ c = 10 then (0, false) else if c = q then (1, true) else (1, false)
 | c :: d :: t =>
  if q ≠ 96 ∧ c = 10 then (0, false)
  else if c = q then (1, true)
  else if q ≠ 96 ∧ c = 92 ∧ d ≠ 10 then ((endF q t).1 + 2, (endF q t).2)
  else ((endF q (d :: t)).1 + 1, (endF q (d :: t)).2)
theorem endF_lf {q : UInt8} (t : List UInt8) (h : q ≠ 96) : endF q (10 :: t) = (0, false) := by
 cases t with
 | nil => unfold endF; rw [if_pos ⟨h, rfl⟩]
 | cons d t => unfold endF; rw [if_pos ⟨h, rfl⟩]
theorem endF_hit {q : UInt8} (t : List UInt8) (h : q ≠ 10) : endF q (q :: t) = (1, true) := by
 cases t with
 | nil => unfold endF; rw [if_neg (fun e => h e.2), if_pos rfl]
 | cons d t => unfold endF; rw [if_neg (fun e => h e.2), if_pos rfl]
theorem endF_esc {q d : UInt8} (t : List UInt8) (h : q ≠ 96) (h2 : q ≠ 92) (hd : d ≠ 10) : endF q (92 :: d :: t) = ((endF q t).1 + 2, (endF q t).2) := by
 rw [endF, if_neg (fun e => absurd e.2 (by decide)), if_neg (fun e => h2 e.symm), if_pos ⟨h, rfl, hd⟩]
theorem endF_one {q c : UInt8} (t : List UInt8) (h1 : ¬ (q ≠ 96 ∧ c = 10)) (h2 : c ≠ q) (h3 : ¬ (q ≠ 96 ∧ c = 92 ∧ ∃ d, t[0]? = some d ∧ d ≠ 10)) : endF q (c :: t) = ((endF q t).1 + 1, (endF q t).2) := by
 cases t with
 | nil =>
  show endF q [c] = (1, false)
  rw [endF, if_neg h1, if_neg h2]
 | cons d t => rw [endF, if_neg h1, if_neg h2, if_neg (fun e => h3 ⟨e.1, e.2.1, d, rfl, e.2.2⟩)]
theorem endF_le (q : UInt8) : ∀ l : List UInt8, (endF q l).1 ≤ l.length
 | [] => Nat.le_refl _
 | [c] => by
  unfold endF
  split
  ·exact Nat.zero_le _
  ·split <;> exact Nat.le_refl _
 | c :: d :: t => by
  have h1 := endF_le q t
  have h2 := endF_le q (d :: t)
  rw [endF]
  simp only [List.length_cons] at h2 ⊢
  split
  ·exact Nat.zero_le _
  ·split
   ·show 1 ≤ _; omega
   ·split
    ·show _ + 2 ≤ _; omega
    ·show _ + 1 ≤ _; omega
def numZ (B k : Nat) (l : List UInt8) : Int := if l.length < k ∨ okDig B (l.take k) = false then -1 else (num B (l.take k) : Int)
theorem numZ_short {B k : Nat} {l : List UInt8} (h : l.length < k) : numZ B k l = -1 := if_pos (.inl h)
theorem numZ_bad {B k i : Nat} {l : List UInt8} {c : UInt8} (hc : l[i]? = some c) (hi : i < k) (h : ¬ dvN c.toNat < B) : numZ B k l = -1 := if_pos (.inr (okDig_not (i := i) (c := c) (by rw [List.getElem?_take, if_pos hi]; exact hc) h))
theorem numZ_ok {B k : Nat} {l : List UInt8} (h : k ≤ l.length) (hd : ∀ i c, i < k → l[i]? = some c → dvN c.toNat < B) : numZ B k l = (num B (l.take k) : Int) := by
 refine if_neg ?_
 rintro (g | g)
 ·omega
 ·rw [okDig_of (fun i c hc => by
   rw [List.getElem?_take] at hc
   split at hc
   ·exact hd i c (by assumption) hc
   ·cases hc)] at g
  cases g
theorem num_lt {B : Nat} (hB : 1 ≤ B) : ∀ (k : Nat) (l : List UInt8), okDig B l = true → l.length ≤ k → num B l < B ^ k := by
 intro k l h hl
 have key : ∀ (m : List UInt8) (a : Nat), okDig B m = true → m.foldl (fun a c => a * B + dvN c.toNat) a < (a + 1) * B ^ m.length := by
  intro m
  induction m with
  | nil => intro a _; simp
  | cons c m ih =>
   intro a h
   unfold okDig at h
   rw [List.all_cons, Bool.and_eq_true, decide_eq_true_eq] at h
   have := ih (a * B + dvN c.toNat) h.2
   rw [List.foldl_cons, List.length_cons]
   refine Nat.lt_of_lt_of_le this ?_
   rw [Nat.pow_succ, Nat.mul_comm (B ^ m.length) B, ← Nat.mul_assoc]
   refine Nat.mul_le_mul_right _ ?_
   have h1 := h.1
   rw [Nat.add_mul, Nat.one_mul]
   omega
 have := key l 0 h
 rw [Nat.zero_add, Nat.one_mul] at this
 exact Nat.lt_of_lt_of_le this (Nat.pow_le_pow_right hB hl)
theorem numZ_lt (k : Nat) (B : Nat) (l : List UInt8) (hB : 1 ≤ B) : numZ B k l < (B ^ k : Nat) ∧ -1 ≤ numZ B k l := by
 unfold numZ
 split
 ·exact ⟨by omega, Int.le_refl _⟩
 ·rename_i h
  have h2 : okDig B (l.take k) = true := by
   cases e : okDig B (l.take k)
   ·exact absurd (.inr e) h
   ·rfl
  have := num_lt hB k (l.take k) h2 (by rw [List.length_take]; omega)
  exact ⟨by exact_mod_cast this, by omega⟩
def ltrF (c : UInt8) : Nat := if c = 97 then 7 else if c = 98 then 8 else if c = 102 then 12 else if c = 110 then 10 else if c = 114 then 13 else if c = 116 then 9 else if c = 118 then 11 else 0
def runE (z : Int) (sz : Nat) : Int × Bool × Nat := if 0 ≤ z ∧ U.isRune z = true then (z, false, sz) else (0, false, 0)
def escF (q : UInt8) : List UInt8 → Int × Bool × Nat
 | _ :: c :: t =>
  if ltrF c ≠ 0 then ((ltrF c : Int), true, 2)
  else if c = 92 ∨ c = q then ((c.toNat : Int), true, 2)
  else if c = 120 then (if 0 ≤ numZ 16 2 t then (numZ 16 2 t, true, 4) else (0, false, 0))
  else if c = 117 then runE (numZ 16 4 t) 6
  else if c = 85 then runE (numZ 16 8 t) 10
  else if 0 ≤ numZ 8 3 (c :: t) ∧ numZ 8 3 (c :: t) < 256 then (numZ 8 3 (c :: t), true, 4) else (0, false, 0)
 | _ => (0, false, 0)
end Go.Proofs.YtcieibidnpemjaaGreatDoor
namespace Go.Proofs.YtcieibidnpemjaaGreatDoor
open Go.RowKit Go.Sort
set_option linter.unusedSimpArgs false
theorem pow_bd {B j : Nat} (hB : B ≤ 16) (hj : j ≤ 8) : B ^ j ≤ 4294967296 :=
 Nat.le_trans (Nat.pow_le_pow_left hB j) (Nat.le_trans (Nat.pow_le_pow_right (by decide) hj) (by decide))
set_option maxRecDepth 100000 in
set_option maxHeartbeats 2000000 in
theorem number_run (l : List UInt8) (f k B : Nat) (w : World) (hl : l.length ≤ 100000) (hf : f ≤ 10) (hk : 0 < k ∧ k ≤ 8) (hB : 2 ≤ B ∧ B ≤ 16) :
  Calls Tryz.prog 30 #[.string (bs l), .int .i64 (f : Int), .int .i64 (k : Int), .int .i64 (B : Int)] w fun e w' => e = .returned (.int .i64 (numZ B k (l.drop f))) ∧ w' = w := by
 have hsz := bs_size l
 have hfk : (f : Int) + (k : Int) = ((f + k : Nat) : Int) := by omega
 have hld : (l.drop f).length = l.length - f := List.length_drop ..
 by_cases hs : l.length < f + k
 ·have hsz2 : (l.length : Int) < ((f + k : Nat) : Int) := by omega
  have HZ : Hid (numZ B k (l.drop f) = -1) := numZ_short (by omega)
  obtain ⟨q, hq⟩ : ∃ q, f + k = q := ⟨_, rfl⟩
  rw [hq] at hfk hsz2
  clear hs hq
  go_enter Tryz.func30, Tryz.ntmps30
  go_wp2_with fail
  go_ret
  exact ⟨by rw [HZ.out]; rfl, rfl⟩
 ·have hsz2 : ¬ (l.length : Int) < ((f + k : Nat) : Int) := by omega
  obtain ⟨q, hq⟩ : ∃ q, f + k = q := ⟨_, rfl⟩
  rw [hq] at hfk hsz2
  have HQ := Lib.hid hq
  have hql : q ≤ l.length := by omega
  clear hs hq
  go_enter Tryz.func30, Tryz.ntmps30
  go_wp2_with fail
  go_loopg [9, 10] (k + 1) (fun h s9 s10 wr => ∃ j : Nat, s9 = .int .i64 ((num B ((l.drop f).take j) : Nat) : Int) ∧ s10 = .int .i64 ((f + j : Nat) : Int) ∧ Hid (j + h = k + 1) ∧ j ≤ k ∧ Hid (∀ i c, i < j → (l.drop f)[i]? = some c → dvN c.toNat < B) ∧ wr = w)
  case atStart => exact ⟨0, rfl, rfl, by show _ = _; omega, by omega, fun i c hi => absurd hi (by omega), rfl⟩
  case round =>
   obtain ⟨j, rfl, rfl, HI, hjk, HD, rfl⟩ := hrel
   obtain ⟨i, hi⟩ : ∃ i, f + j = i := ⟨_, rfl⟩
   rw [hi]
   by_cases hlt : j < k
   ·have hiq : (i : Int) < (q : Int) := by have := HQ.out; omega
    have hil : i < l.length := by have := HQ.out; omega
    obtain ⟨c, hc⟩ : ∃ c, l[i]? = some c := ⟨l[i], List.getElem?_eq_getElem hil⟩
    have hcd : (l.drop f)[j]? = some c := by rw [List.getElem?_drop, hi]; exact hc
    have hx := bs_get hc
    have HDG := Lib.hid (fun V => Digit_run7 c.toNat V)
    have hrd := rd_lt (c := c.toNat) hB.2
    have HII := Lib.hid hi
    by_cases hd : dvN c.toNat < B
    ·have hdz : (rdN c.toNat : Int) < (B : Int) := by have := hrd.2 hd; omega
     have hdv : rdN c.toNat = dvN c.toNat := if_pos (by omega)
     have ht := take_succ_of hcd
     have HD2 : Hid (∀ i c, i < j + 1 → (l.drop f)[i]? = some c → dvN c.toNat < B) := fun i' c' hi' hc' => by
      by_cases e : i' = j
      ·subst e
       rw [hcd] at hc'
       cases hc'
       exact hd
      ·exact HD.out i' c' (by omega) hc'
     have hvb : num B ((l.drop f).take j) < 4294967296 := Nat.lt_of_lt_of_le (num_lt (by omega) j _ (okDig_of fun i' c' hc' => by
      rw [List.getElem?_take] at hc'
      split at hc'
      ·exact HD.out i' c' (by assumption) hc'
      ·cases hc') (by rw [List.length_take]; omega)) (pow_bd hB.2 (by omega))
     have hns := num_snoc B ((l.drop f).take j) c
     rw [← ht] at hns
     rw [hdv] at hdz HDG
     generalize num B ((l.drop f).take j) = v at *
     generalize dvN c.toNat = d at *
     obtain ⟨p, hp⟩ : ∃ p, v * B = p := ⟨_, rfl⟩
     have hpb : p ≤ 4294967296 * 16 := by rw [← hp]; exact Nat.mul_le_mul (by omega) hB.2
     have hmul : (v : Int) * (B : Int) = (p : Int) := by rw [← hp]; exact (Int.natCast_mul _ _).symm
     obtain ⟨v2, hv2⟩ : ∃ v2, p + d = v2 := ⟨_, rfl⟩
     have hadd : (p : Int) + (d : Int) = (v2 : Int) := by omega
     rw [hp, hv2] at hns
     replace hns := Lib.hid hns
     clear hc hcd ht hdv hd hp hv2 hrd hi HD
     generalize c.toNat = cn at *
     go_wp2_with fail
     refine (HDG.out _).mono ?_
     rintro e w3 ⟨rfl, rfl⟩
     go_wp2_with fail
     go_roundg (k - j)
     case measure => have := HI.out; omega
     case rel => exact ⟨j + 1, by rw [hns.out], by have := HII.out; go_num, by show _ = _; have := HI.out; omega, by omega, HD2, rfl⟩
    ·have hdz : (B : Int) ≤ (rdN c.toNat : Int) := by have := (not_congr hrd).2 hd; omega
     have HZ : Hid (numZ B k (l.drop f) = -1) := numZ_bad hcd hlt hd
     obtain ⟨v, hv⟩ : ∃ v, num B ((l.drop f).take j) = v := ⟨_, rfl⟩
     rw [hv]
     clear hc hcd hd hrd hi HD hv
     generalize rdN c.toNat = d at *
     generalize c.toNat = cn at *
     go_wp2_with fail
     refine (HDG.out _).mono ?_
     rintro e w3 ⟨rfl, rfl⟩
     go_wp2_with fail
     go_ret
     exact ⟨by rw [HZ.out]; rfl, rfl⟩
   ·obtain rfl : j = k := by omega
    have hiq : ¬ (i : Int) < (q : Int) := by have := HQ.out; omega
    have HZ : Hid (numZ B j (l.drop f) = (num B ((l.drop f).take j) : Int)) := numZ_ok (by have := HQ.out; omega) HD.out
    obtain ⟨v, hv⟩ : ∃ v, num B ((l.drop f).take j) = v := ⟨_, rfl⟩
    rw [hv] at HZ ⊢
    clear hi HD hv
    go_wp2_with fail
    go_ret
    exact ⟨by rw [HZ.out]; rfl, rfl⟩
end Go.Proofs.YtcieibidnpemjaaGreatDoor
namespace Go.Proofs.YtcieibidnpemjaaGreatDoor
open Go.RowKit Go.Sort
set_option linter.unusedSimpArgs false
theorem drop_cons {t : List UInt8} {i : Nat} {c : UInt8} (h : t[i]? = some c) : t.drop i = c :: t.drop (i + 1) := by
 obtain ⟨hi, rfl⟩ := List.getElem?_eq_some_iff.1 h
 exact List.drop_eq_getElem_cons hi
set_option maxRecDepth 100000 in
set_option maxHeartbeats 4000000 in
theorem End_raw (b o n cap a : Nat) (l : List UInt8) (E : Nat) (K : Bool) (w : World) (B : Nat) (hb : Byts w B (some ⟨b, o, none⟩) (bi l)) (hn : l.length = n) (hm : n ≤ 100000) (_hcap : n ≤ cap) (hq : l[a]? = some 96) (hE : Hid (endF 96 (l.drop (a + 1)) = (E, K))) :
  Calls Tryz.prog 10 #[.slice (some ⟨b, o, none⟩) n cap, .int .i64 (a : Int)] w fun e w' => e = .returned (.tuple #[.int .i64 ((a + 1 + E : Nat) : Int), .bool K]) ∧ w' = w := by
 have han : a < n := by rw [← hn]; exact (List.getElem?_eq_some_iff.1 hq).1
 have hx0 := byts_cell hb hq
 have hml : ∀ j, (l.drop (a + 1))[j]? = l[a + 1 + j]? := fun j => List.getElem?_drop
 have hld : (l.drop (a + 1)).length = n - (a + 1) := by rw [List.length_drop, hn]
 have HB := Lib.hid hb
 obtain ⟨m, hmm⟩ : ∃ m, l.drop (a + 1) = m := ⟨_, rfl⟩
 rw [hmm] at hml hld hE
 have HE0 : Hid (E = 0 + (endF 96 (m.drop 0)).1 ∧ K = (endF 96 (m.drop 0)).2) := by
  rw [List.drop_zero, hE.out]
  exact ⟨(Nat.zero_add _).symm, rfl⟩
 clear hb hmm hE hq
 have hx1 : w.cell? ⟨b, o + a, none⟩ = some (.int .u8 96) := hx0
 clear hx0
 go_enter Tryz.func10, Tryz.ntmps10
 go_wp2_with fail
 clear hx1
 go_loopg [7] (n + 1) (fun h s7 wr => ∃ j : Nat, s7 = .int .i64 ((a + 1 + j : Nat) : Int) ∧ Hid (n + 1 ≤ a + 1 + j + h) ∧ a + 1 + j ≤ n ∧ Hid (E = j + (endF 96 (m.drop j)).1 ∧ K = (endF 96 (m.drop j)).2) ∧ wr = w)
 case atStart => exact ⟨0, by go_num, (by show _ ≤ _; omega), by omega, HE0, rfl⟩
 case round =>
  clear HE0
  obtain ⟨j, rfl, HI, hin, HE, rfl⟩ := hrel
  obtain ⟨i, hi⟩ : ∃ i, a + 1 + j = i := ⟨_, rfl⟩
  rw [hi] at hin ⊢
  have HII := Lib.hid hi
  by_cases hlt : i < n
  ·have hiz : (i : Int) < (n : Int) := by omega
   obtain ⟨c, hc⟩ : ∃ c, l[i]? = some c := ⟨l[i]'(by omega), List.getElem?_eq_getElem _⟩
   have hcm : m[j]? = some c := by rw [hml, hi]; exact hc
   have hx := byts_cell HB.out hc
   have hdr := drop_cons hcm
   by_cases hcq : c = (96 : UInt8)
   ·have HF : Hid (E = j + 1 ∧ K = true) := by
     have := HE.out
     rw [hdr, hcq, endF_hit _ (by decide)] at this
     exact ⟨this.1, this.2⟩
    subst hcq
    have hx2 : wr.cell? ⟨b, o + i, none⟩ = some (.int .u8 96) := hx
    clear hc hcm hdr hx hi HE
    go_wp2_with fail
    go_ret2
    exact ⟨by have h1 := HII.out; have h3 := HF.out.1; rw [HF.out.2, show a + 1 + E = i + 1 by omega]; rfl, rfl⟩
   ·have ecq : ((c.toNat : Int) == 96) = false := eq_byte hcq
    have HE2 : Hid (E = j + 1 + (endF 96 (m.drop (j + 1))).1 ∧ K = (endF 96 (m.drop (j + 1))).2) := by
     have := HE.out
     rw [hdr, endF_one _ (fun g => g.1 rfl) hcq (fun g => g.1 rfl)] at this
     exact ⟨by have := this.1; omega, this.2⟩
    clear hc hcm hdr hi HE hcq
    generalize c.toNat = cn at *
    go_wp2_with fail
    go_roundg (n - i)
    case measure => have := HI.out; have := HII.out; omega
    case rel => exact ⟨j + 1, by have := HII.out; go_num, by show _ ≤ _; have := HI.out; have := HII.out; omega, by have := HII.out; omega, HE2, rfl⟩
  ·have hin2 : i = n := by omega
   have hiz : ¬ (i : Int) < (n : Int) := by omega
   have HF : Hid (E = j ∧ K = false) := by
    have := HE.out
    rw [List.drop_of_length_le (by omega)] at this
    exact ⟨by have := this.1; simp only [endF] at this; omega, this.2⟩
   have HN := Lib.hid hin2
   clear hi HE hin2
   go_wp2_with fail
   go_ret2
   exact ⟨by have h1 := HII.out; have h2 := HN.out; have h3 := HF.out.1; rw [HF.out.2]; (first | rw [show (a : Int) + 1 + (E : Int) = (n : Int) by omega] | rw [show a + 1 + E = n by omega]); rfl, rfl⟩
set_option maxRecDepth 100000 in
set_option maxHeartbeats 4000000 in
theorem End_line (b o n cap a : Nat) (l : List UInt8) (q : UInt8) (hq96 : q ≠ 96) (hq92 : q ≠ 92) (hq10 : q ≠ 10) (E : Nat) (K : Bool) (w : World) (B : Nat) (hb : Byts w B (some ⟨b, o, none⟩) (bi l)) (hn : l.length = n) (hm : n ≤ 100000) (_hcap : n ≤ cap) (hq : l[a]? = some q) (hE : Hid (endF q (l.drop (a + 1)) = (E, K))) :
  Calls Tryz.prog 10 #[.slice (some ⟨b, o, none⟩) n cap, .int .i64 (a : Int)] w fun e w' => e = .returned (.tuple #[.int .i64 ((a + 1 + E : Nat) : Int), .bool K]) ∧ w' = w := by
 have han : a < n := by rw [← hn]; exact (List.getElem?_eq_some_iff.1 hq).1
 have hx0 := byts_cell hb hq
 have hml : ∀ j, (l.drop (a + 1))[j]? = l[a + 1 + j]? := fun j => List.getElem?_drop
 have hld : (l.drop (a + 1)).length = n - (a + 1) := by rw [List.length_drop, hn]
 have HB := Lib.hid hb
 obtain ⟨m, hmm⟩ : ∃ m, l.drop (a + 1) = m := ⟨_, rfl⟩
 rw [hmm] at hml hld hE
 have HE0 : Hid (E = 0 + (endF q (m.drop 0)).1 ∧ K = (endF q (m.drop 0)).2) := by
  rw [List.drop_zero, hE.out]
  exact ⟨(Nat.zero_add _).symm, rfl⟩
 clear hb hmm hE hq
 have e96 : ((q.toNat : Int) != 96) = true := by rw [bne_iff_ne]; intro e; exact hq96 (UInt8.toNat_inj.1 (by show q.toNat = 96; omega))
 go_enter Tryz.func10, Tryz.ntmps10
 go_wp2_with fail
 clear hx0
 go_loopg [7] (n + 1) (fun h s7 wr => ∃ j : Nat, s7 = .int .i64 ((a + 1 + j : Nat) : Int) ∧ Hid (n + 1 ≤ a + 1 + j + h) ∧ a + 1 + j ≤ n ∧ Hid (E = j + (endF q (m.drop j)).1 ∧ K = (endF q (m.drop j)).2) ∧ wr = w)
 case atStart => exact ⟨0, by go_num, (by show _ ≤ _; omega), by omega, HE0, rfl⟩
 case round =>
  clear HE0
  obtain ⟨j, rfl, HI, hin, HE, rfl⟩ := hrel
  obtain ⟨i, hi⟩ : ∃ i, a + 1 + j = i := ⟨_, rfl⟩
  rw [hi] at hin ⊢
  have HII := Lib.hid hi
  by_cases hlt : i < n
  ·have hiz : (i : Int) < (n : Int) := by omega
   obtain ⟨c, hc⟩ : ∃ c, l[i]? = some c := ⟨l[i]'(by omega), List.getElem?_eq_getElem _⟩
   have hcm : m[j]? = some c := by rw [hml, hi]; exact hc
   have hx := byts_cell HB.out hc
   have hdr := drop_cons hcm
   by_cases h10 : c = 10
   ·subst h10
    have HF : Hid (E = j ∧ K = false) := by
     have := HE.out
     rw [hdr, endF_lf _ hq96] at this
     exact ⟨by have := this.1; omega, this.2⟩
    have hx2 : wr.cell? ⟨b, o + i, none⟩ = some (.int .u8 10) := hx
    clear hc hcm hdr hx hi HE
    go_wp2_with fail
    go_ret2
    exact ⟨by rw [HF.out.1, HF.out.2, HII.out]; rfl, rfl⟩
   ·have e10 : ((c.toNat : Int) == 10) = false := eq_byte h10
    by_cases hcq : c = q
    ·have HF : Hid (E = j + 1 ∧ K = true) := by
      have := HE.out
      rw [hdr, hcq, endF_hit _ hq10] at this
      exact ⟨this.1, this.2⟩
     rw [hcq] at hx e10
     have eqq : ((q.toNat : Int) == (q.toNat : Int)) = true := beq_self_eq_true _
     clear hc hcm hdr hi HE hcq h10
     generalize q.toNat = qn at *
     go_wp2_with fail
     go_ret2
     exact ⟨by have h1 := HII.out; have h3 := HF.out.1; rw [HF.out.2, show a + 1 + E = i + 1 by omega]; rfl, rfl⟩
    ·have ecq : ((c.toNat : Int) == (q.toNat : Int)) = false := eq_byte hcq
     by_cases h92 : c = 92
     ·subst h92
      have hx2 : wr.cell? ⟨b, o + i, none⟩ = some (.int .u8 92) := hx
      have ecq2 : ((92 : Int) == (q.toNat : Int)) = false := ecq
      clear hx e10 ecq
      by_cases hl2 : i + 1 < n
      ·obtain ⟨ip, hip⟩ : ∃ ip, i + 1 = ip := ⟨_, rfl⟩
       have hipz : (i : Int) + 1 = (ip : Int) := by omega
       have hipn : ip < n := by omega
       have hipz2 : (ip : Int) < (n : Int) := by omega
       obtain ⟨d, hd⟩ : ∃ d, l[ip]? = some d := ⟨l[ip]'(by omega), List.getElem?_eq_getElem _⟩
       have hdm : m[j + 1]? = some d := by rw [hml, show a + 1 + (j + 1) = ip by omega]; exact hd
       have hy := byts_cell HB.out hd
       have hdr2 := drop_cons hdm
       have HIP := Lib.hid hip
       by_cases hd10 : d = 10
       ·have HE2 : Hid (E = j + 1 + (endF q (m.drop (j + 1))).1 ∧ K = (endF q (m.drop (j + 1))).2) := by
         have := HE.out
         rw [hdr, endF_one _ (fun g => h10 g.2) hcq (fun g => by
          obtain ⟨_, _, d', g1, g2⟩ := g
          rw [List.getElem?_drop, Nat.add_zero, hdm] at g1
          cases g1
          exact g2 hd10)] at this
         exact ⟨by have := this.1; omega, this.2⟩
        subst hd10
        have hy2 : wr.cell? ⟨b, o + ip, none⟩ = some (.int .u8 10) := hy
        clear hc hcm hdr hi HE hcq hd hdm hy hdr2 h10 hip hl2
        generalize q.toNat = qn at *
        go_wp2_with fail
        go_roundg (n - i)
        case measure => have := HI.out; have := HII.out; omega
        case rel => exact ⟨j + 1, by have := HII.out; have := HIP.out; go_num, by show _ ≤ _; have := HI.out; have := HII.out; omega, by have := HII.out; omega, HE2, rfl⟩
       ·have ed10 : ((d.toNat : Int) != 10) = true := by rw [bne_iff_ne]; intro e; exact hd10 (UInt8.toNat_inj.1 (by show d.toNat = 10; omega))
        have HE2 : Hid (E = j + 2 + (endF q (m.drop (j + 2))).1 ∧ K = (endF q (m.drop (j + 2))).2) := by
         have := HE.out
         rw [hdr, hdr2, endF_esc _ hq96 hq92 hd10] at this
         have h2 : E = j + ((endF q (m.drop (j + 2))).1 + 2) := this.1
         exact ⟨by omega, this.2⟩
        clear hc hcm hdr hi HE hcq hd hdm hdr2 h10 hip hl2 hd10
        generalize q.toNat = qn at *
        generalize d.toNat = dn at *
        go_wp2_with fail
        go_roundg (n - i - 1)
        case measure => have := HI.out; have := HII.out; have := HIP.out; omega
        case rel => exact ⟨j + 2, by have := HII.out; have := HIP.out; go_num, by show _ ≤ _; have := HI.out; have := HII.out; have := HIP.out; omega, by have := HII.out; have := HIP.out; omega, HE2, rfl⟩
      ·have hl2z : ¬ (i : Int) + 1 < (n : Int) := by omega
       have HE2 : Hid (E = j + 1 + (endF q (m.drop (j + 1))).1 ∧ K = (endF q (m.drop (j + 1))).2) := by
        have := HE.out
        rw [hdr, endF_one _ (fun g => h10 g.2) hcq (fun g => by
         obtain ⟨_, _, d', g1, g2⟩ := g
         rw [List.getElem?_drop, Nat.add_zero] at g1
         have := (List.getElem?_eq_some_iff.1 g1).1
         omega)] at this
        exact ⟨by have := this.1; omega, this.2⟩
       clear hc hcm hdr hi HE hcq h10 hl2
       generalize q.toNat = qn at *
       go_wp2_with fail
       go_roundg (n - i)
       case measure => have := HI.out; have := HII.out; omega
       case rel => exact ⟨j + 1, by have := HII.out; go_num, by show _ ≤ _; have := HI.out; have := HII.out; omega, by have := HII.out; omega, HE2, rfl⟩
     ·have e92 : ((c.toNat : Int) == 92) = false := eq_byte h92
      have HE2 : Hid (E = j + 1 + (endF q (m.drop (j + 1))).1 ∧ K = (endF q (m.drop (j + 1))).2) := by
       have := HE.out
       rw [hdr, endF_one _ (fun g => h10 g.2) hcq (fun g => h92 g.2.1)] at this
       exact ⟨by have := this.1; omega, this.2⟩
      clear hc hcm hdr hi HE hcq h10 h92
      generalize c.toNat = cn at *
      generalize q.toNat = qn at *
      go_wp2_with fail
      go_roundg (n - i)
      case measure => have := HI.out; have := HII.out; omega
      case rel => exact ⟨j + 1, by have := HII.out; go_num, by show _ ≤ _; have := HI.out; have := HII.out; omega, by have := HII.out; omega, HE2, rfl⟩
  ·have hin2 : i = n := by omega
   have hiz : ¬ (i : Int) < (n : Int) := by omega
   have HF : Hid (E = j ∧ K = false) := by
    have := HE.out
    rw [List.drop_of_length_le (by omega)] at this
    exact ⟨by have := this.1; simp only [endF] at this; omega, this.2⟩
   have HN := Lib.hid hin2
   clear hi HE hin2
   go_wp2_with fail
   go_ret2
   exact ⟨by have h1 := HII.out; have h2 := HN.out; have h3 := HF.out.1; rw [HF.out.2]; (first | rw [show (a : Int) + 1 + (E : Int) = (n : Int) by omega] | rw [show a + 1 + E = n by omega]); rfl, rfl⟩
end Go.Proofs.YtcieibidnpemjaaGreatDoor
