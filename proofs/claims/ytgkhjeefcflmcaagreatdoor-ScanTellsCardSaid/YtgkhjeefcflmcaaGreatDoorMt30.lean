/-
  Stage 10: Text of both, whole; the program's extent.
-/
import Derived.Test.YtgkhjeefcflmcaaGreatDoorMt29
namespace Go.Proofs.YtgkhjeefcflmcaaGreatDoor
open Go.RowKit Go.Sort
set_option linter.unusedSimpArgs false
theorem TextP_run (l : List UInt8) (k : Nat) (t : List UInt8) (w : World) (hl : l.length ≤ 100000) (hv : ErrVars w) (hh : Heads w) (hm : Ml w) (h : textF l = (k, t)) :
  Calls Tryz.prog 109 #[.string (bs l)] w fun e w' => e = .returned (.tuple #[.string (bs t), errOf k]) ∧ Below w.heap.size w w' := by
 unfold textF at h
 cases hb : betB 96 l
 ·rw [if_neg (by rw [hb]; decide)] at h
  cases hb2 : betB 34 l
  ·rw [if_neg (by rw [hb2]; decide)] at h
   cases h
   refine (TextP_none l w hl hb hb2).mono ?_
   rintro e w' ⟨rfl, rfl⟩
   exact ⟨rfl, Below.refl _ _⟩
  ·rw [if_pos hb2] at h
   exact TextP_line l k t w hl hb hb2 h hv hh
 ·rw [if_pos hb] at h
  refine TextP_raw l k t w hl hb ?_
  have hcl : (chrIn l).length ≤ 100000 := by rw [chr_len]; omega
  by_cases hi : (96 : UInt8) ∈ chrIn l
  ·rw [rawR_hit hi] at h
   cases h
   exact rawText_hit (chrIn l) w hi
  ·rw [rawR_miss hi] at h
   cases h
   exact rawText_miss (chrIn l) w hcl hi hm
def endS (q : UInt8) : List UInt8 → Nat × Bool
 | [] => (0, false)
 | d :: t => if d = 10 then (0, false) else ((endF q t).1 + 1, (endF q t).2)
theorem endF_bs {q : UInt8} (t : List UInt8) (h : q ≠ 96) (h2 : q ≠ 92) : endF q (92 :: t) = ((endS q t).1 + 1, (endS q t).2) := by
 cases t with
 | nil =>
  rw [endF_one [] (fun e => absurd e.2 (by decide)) (fun e => h2 e.symm) (fun e => by obtain ⟨_, _, d, g, _⟩ := e; cases g)]
  rfl
 | cons d u =>
  by_cases hd : d = 10
  ·subst hd
   rw [endF_one _ (fun e => absurd e.2 (by decide)) (fun e => h2 e.symm) (fun e => by obtain ⟨_, _, d, g, g2⟩ := e; cases g; exact g2 rfl), endF_lf _ h]
   rfl
  ·rw [endF_esc u h h2 hd]
   show _ = ((if d = 10 then (0, false) else ((endF q u).1 + 1, (endF q u).2)).1 + 1, (if d = 10 then (0, false) else ((endF q u).1 + 1, (endF q u).2)).2)
   rw [if_neg hd]
set_option maxRecDepth 100000 in
set_option maxHeartbeats 4000000 in
theorem extent_raw (b o cap : Nat) (t : List UInt8) (E : Nat) (K : Bool) (w : World) (B : Nat) (hb : Byts w B (some ⟨b, o, none⟩) (bi (96 :: t))) (hm : t.length ≤ 100000) (hcap : t.length + 1 ≤ cap) (hE : endF 96 t = (E, K)) :
  Calls Tryz.prog 78 #[.slice (some ⟨b, o, none⟩) (t.length + 1) cap] w fun e w' => e = .returned (.tuple #[.int .i64 ((E + 1 : Nat) : Int), .bool K]) ∧ w' = w := by
 have hx0 := byts_cell hb (i := 0) (c := 96) rfl
 rw [Nat.add_zero] at hx0
 have HBY : Hid (∀ i c, t[i]? = some c → w.cell? ⟨b, o + 1 + i, none⟩ = some (.int .u8 ((c : UInt8).toNat : Int))) := fun i c hc => by
  have := byts_cell hb (i := i + 1) (c := c) (by rw [List.getElem?_cons_succ]; exact hc)
  rwa [show o + (i + 1) = o + 1 + i by omega] at this
 obtain ⟨L, hL⟩ : ∃ L, t.length = L := ⟨_, rfl⟩
 rw [hL] at hm hcap ⊢
 have HL := Lib.hid hL
 obtain ⟨n, hn⟩ : ∃ n, L + 1 = n := ⟨_, rfl⟩
 rw [hn] at hcap ⊢
 have hn1 : 1 ≤ n := by omega
 have hnz : (n : Int) - 1 = (L : Int) := by omega
 have hnL : n - 1 = L := by omega
 have hnm : n ≤ 100001 := by omega
 have HN := Lib.hid hn
 have HE0 : Hid (E = 0 + (endF 96 (t.drop 0)).1 ∧ K = (endF 96 (t.drop 0)).2) := by
  rw [List.drop_zero, hE]
  exact ⟨(Nat.zero_add _).symm, rfl⟩
 have hx1 : w.cell? ⟨b, o, none⟩ = some (.int .u8 96) := hx0
 clear hb hE hL hn hx0
 by_cases hc1 : cap = 1
 ·have hL0 : L = 0 := by omega
  have HR : Hid (E = 0 ∧ K = false) := by
   have h0 : t.drop 0 = [] := by rw [List.drop_zero]; exact List.eq_nil_of_length_eq_zero (by rw [HL.out, hL0])
   have := HE0.out
   rw [h0] at this
   exact this
  have hn11 : n = 1 := by omega
  subst hL0 hn11 hc1
  clear HE0
  go_enter Tryz.func78, Tryz.ntmps78
  go_wp2_with fail
  refine wp_loop_rounds 1 ?_
  rw [rounds_succ]
  go_wp2_with fail
  go_ret2
  exact ⟨by rw [HR.out.1, HR.out.2]; rfl, rfl⟩
 ·have hc1z : (cap : Int) ≠ 1 := by omega
  go_enter Tryz.func78, Tryz.ntmps78
  go_wp2_with fail
  go_loopg [5, 14] (L + 1) (fun h s5 s14 wr => ∃ (j : Nat), s5 = .bool false ∧ s14 = .int .i64 (j : Int) ∧ Hid (j + h = L + 1) ∧ j ≤ L ∧ Hid (E = j + (endF 96 (t.drop j)).1 ∧ K = (endF 96 (t.drop j)).2) ∧ wr = w)
  case atStart => exact ⟨0, rfl, rfl, by show _ = _; omega, by omega, HE0, rfl⟩
  case round =>
   clear HE0
   obtain ⟨j, rfl, rfl, HI, hjl, HE, rfl⟩ := hrel
   by_cases hlt : j < L
   ·have hjz : (j : Int) < (L : Int) := by omega
    obtain ⟨c, hc⟩ : ∃ c, t[j]? = some c := ⟨t[j]'(by rw [HL.out]; exact hlt), List.getElem?_eq_getElem _⟩
    have hx := HBY.out j c hc
    have hdr := drop_cons hc
    by_cases h96 : c = 96
    ·have HR : Hid (E = j + 1 ∧ K = true) := by
      have := HE.out
      rw [hdr, h96, endF_hit _ (by decide)] at this
      exact this
     subst h96
     have hx2 : wr.cell? ⟨b, o + 1 + j, none⟩ = some (.int .u8 96) := hx
     clear hx hc hdr HE
     go_wp2_with fail
     go_ret2
     exact ⟨by rw [HR.out.1, HR.out.2]; (first | rfl | (congr 3; omega)), rfl⟩
    ·have HE2 : Hid (E = j + 1 + (endF 96 (t.drop (j + 1))).1 ∧ K = (endF 96 (t.drop (j + 1))).2) := by
      have := HE.out
      rw [hdr, endF_one _ (fun g => g.1 rfl) h96 (fun g => g.1 rfl)] at this
      exact ⟨by have := this.1; omega, this.2⟩
     have ec : ((c.toNat : Int) == 96) = false := eq_byte h96
     by_cases h10 : c = 10
     ·subst h10
      have hx2 : wr.cell? ⟨b, o + 1 + j, none⟩ = some (.int .u8 10) := hx
      clear hx hc hdr HE ec h96
      go_wp2_with fail
      go_roundg (L - j)
      case measure => have := HI.out; omega
      case rel => exact ⟨j + 1, rfl, by go_num, by show _ = _; have := HI.out; omega, by omega, HE2.out, rfl⟩
     ·have e10 : ((c.toNat : Int) == 10) = false := eq_byte h10
      by_cases h92 : c = 92
      ·subst h92
       have hx2 : wr.cell? ⟨b, o + 1 + j, none⟩ = some (.int .u8 92) := hx
       clear hx hc hdr HE ec e10 h96 h10
       go_wp2_with fail
       go_roundg (L - j)
       case measure => have := HI.out; omega
       case rel => exact ⟨j + 1, rfl, by go_num, by show _ = _; have := HI.out; omega, by omega, HE2.out, rfl⟩
      ·have e92 : ((c.toNat : Int) == 92) = false := eq_byte h92
       clear hc hdr HE h96 h10 h92
       generalize c.toNat = cn at *
       go_wp2_with fail
       go_roundg (L - j)
       case measure => have := HI.out; omega
       case rel => exact ⟨j + 1, rfl, by go_num, by show _ = _; have := HI.out; omega, by omega, HE2.out, rfl⟩
   ·have hjL : j = L := by omega
    have hjz : ¬ (j : Int) < (L : Int) := by omega
    have HR : Hid (E = L ∧ K = false) := by
     have h0 : t.drop j = [] := List.drop_of_length_le (by rw [HL.out]; omega)
     have := HE.out
     rw [h0] at this
     exact ⟨by have := this.1; simp only [endF] at this; omega, this.2⟩
    clear hjL
    go_wp2_with fail
    go_ret2
    exact ⟨by rw [HR.out.1, HR.out.2]; have hn9 := HN.out; (first | rw [show (L : Int) + 1 = (n : Int) by omega] | rw [show ((L + 1 : Nat) : Int) = (n : Int) by omega]); rfl, rfl⟩
set_option maxRecDepth 100000 in
set_option maxHeartbeats 4000000 in
theorem extent_line (b o cap : Nat) (q : UInt8) (t : List UInt8) (hq96 : q ≠ 96) (hq92 : q ≠ 92) (hq10 : q ≠ 10) (E : Nat) (K : Bool) (w : World) (B : Nat) (hb : Byts w B (some ⟨b, o, none⟩) (bi (q :: t))) (hm : t.length ≤ 100000) (hcap : t.length + 1 ≤ cap) (hE : endF q t = (E, K)) :
  Calls Tryz.prog 78 #[.slice (some ⟨b, o, none⟩) (t.length + 1) cap] w fun e w' => e = .returned (.tuple #[.int .i64 ((E + 1 : Nat) : Int), .bool K]) ∧ w' = w := by
 have hx0 := byts_cell hb (i := 0) (c := q) rfl
 rw [Nat.add_zero] at hx0
 have HBY : Hid (∀ i c, t[i]? = some c → w.cell? ⟨b, o + 1 + i, none⟩ = some (.int .u8 ((c : UInt8).toNat : Int))) := fun i c hc => by
  have := byts_cell hb (i := i + 1) (c := c) (by rw [List.getElem?_cons_succ]; exact hc)
  rwa [show o + (i + 1) = o + 1 + i by omega] at this
 obtain ⟨L, hL⟩ : ∃ L, t.length = L := ⟨_, rfl⟩
 rw [hL] at hm hcap ⊢
 have HL := Lib.hid hL
 obtain ⟨n, hn⟩ : ∃ n, L + 1 = n := ⟨_, rfl⟩
 rw [hn] at hcap ⊢
 have hn1 : 1 ≤ n := by omega
 have hnz : (n : Int) - 1 = (L : Int) := by omega
 have hnL : n - 1 = L := by omega
 have hnm : n ≤ 100001 := by omega
 have HN := Lib.hid hn
 have HE0 : Hid (E = 0 + (endF q (t.drop 0)).1 ∧ K = (endF q (t.drop 0)).2) := by
  rw [List.drop_zero, hE]
  exact ⟨(Nat.zero_add _).symm, rfl⟩
 have e96 : ((q.toNat : Int) != 96) = true := by rw [bne_iff_ne]; intro e; exact hq96 (UInt8.toNat_inj.1 (by show q.toNat = 96; omega))
 clear hb hE hL hn
 by_cases hc1 : cap = 1
 ·have hL0 : L = 0 := by omega
  have HR : Hid (E = 0 ∧ K = false) := by
   have h0 : t.drop 0 = [] := by rw [List.drop_zero]; exact List.eq_nil_of_length_eq_zero (by rw [HL.out, hL0])
   have := HE0.out
   rw [h0] at this
   exact this
  have hn11 : n = 1 := by omega
  subst hL0 hn11 hc1
  clear HE0
  go_enter Tryz.func78, Tryz.ntmps78
  go_wp2_with fail
  refine wp_loop_rounds 1 ?_
  rw [rounds_succ]
  go_wp2_with fail
  go_ret2
  exact ⟨by rw [HR.out.1, HR.out.2]; rfl, rfl⟩
 ·have hc1z : (cap : Int) ≠ 1 := by omega
  go_enter Tryz.func78, Tryz.ntmps78
  go_wp2_with fail
  go_loopg [5, 14] (L + 1) (fun h s5 s14 wr => ∃ (j : Nat) (sk : Bool), s5 = .bool sk ∧ s14 = .int .i64 (j : Int) ∧ Hid (j + h = L + 1) ∧ j ≤ L ∧ Hid (sk = false → E = j + (endF q (t.drop j)).1 ∧ K = (endF q (t.drop j)).2) ∧ Hid (sk = true → E = j + (endS q (t.drop j)).1 ∧ K = (endS q (t.drop j)).2) ∧ wr = w)
  case atStart => exact ⟨0, false, rfl, rfl, by show _ = _; omega, by omega, (fun _ => HE0.out), (fun e => by cases e), rfl⟩
  case round =>
   clear HE0
   obtain ⟨j, sk, rfl, rfl, HI, hjl, HE, HES, rfl⟩ := hrel
   by_cases hlt : j < L
   ·have hjz : (j : Int) < (L : Int) := by omega
    obtain ⟨c, hc⟩ : ∃ c, t[j]? = some c := ⟨t[j]'(by rw [HL.out]; exact hlt), List.getElem?_eq_getElem _⟩
    have hx := HBY.out j c hc
    have hdr := drop_cons hc
    by_cases h10 : c = 10
    ·have HR : Hid (E = j ∧ K = false) := by
      cases sk
      ·have := HE.out rfl
       rw [hdr, h10, endF_lf _ hq96] at this
       exact this
      ·have := HES.out rfl
       rw [hdr, h10] at this
       exact this
     subst h10
     have hx2 : wr.cell? ⟨b, o + 1 + j, none⟩ = some (.int .u8 10) := hx
     clear hx hc hdr HE HES
     generalize q.toNat = qn at *
     go_wp2_with fail
     go_ret2
     exact ⟨by rw [HR.out.1, HR.out.2]; (first | rfl | (congr 3; omega)), rfl⟩
    ·have e10 : ((c.toNat : Int) == 10) = false := eq_byte h10
     cases sk
     ·by_cases hcq : c = q
      ·have HR : Hid (E = j + 1 ∧ K = true) := by
        have := HE.out rfl
        rw [hdr, hcq, endF_hit _ hq10] at this
        exact this
       have eqq : ((c.toNat : Int) == (q.toNat : Int)) = true := by rw [hcq]; simp
       clear hc hdr HE HES h10 hcq
       generalize c.toNat = cn at *
       generalize q.toNat = qn at *
       go_wp2_with fail
       go_ret2
       exact ⟨by rw [HR.out.1, HR.out.2]; (first | rfl | (congr 3; omega)), rfl⟩
      ·have ecq : ((c.toNat : Int) == (q.toNat : Int)) = false := eq_byte hcq
       by_cases h92 : c = 92
       ·have HS2 : Hid (E = j + 1 + (endS q (t.drop (j + 1))).1 ∧ K = (endS q (t.drop (j + 1))).2) := by
         have := HE.out rfl
         rw [hdr, h92, endF_bs _ hq96 hq92] at this
         exact ⟨by have := this.1; omega, this.2⟩
        have e92 : ((c.toNat : Int) == 92) = true := by rw [h92]; rfl
        clear hc hdr HE HES h10 hcq h92
        generalize c.toNat = cn at *
        generalize q.toNat = qn at *
        go_wp2_with fail
        go_roundg (L - j)
        case measure => have := HI.out; omega
        case rel => exact ⟨j + 1, true, rfl, by go_num, by show _ = _; have := HI.out; omega, by omega, (fun e => by cases e), (fun _ => HS2.out), rfl⟩
       ·have e92 : ((c.toNat : Int) == 92) = false := eq_byte h92
        have HE2 : Hid (E = j + 1 + (endF q (t.drop (j + 1))).1 ∧ K = (endF q (t.drop (j + 1))).2) := by
         have := HE.out rfl
         rw [hdr, endF_one _ (fun g => h10 g.2) hcq (fun g => h92 g.2.1)] at this
         exact ⟨by have := this.1; omega, this.2⟩
        clear hc hdr HE HES h10 hcq h92
        generalize c.toNat = cn at *
        generalize q.toNat = qn at *
        go_wp2_with fail
        go_roundg (L - j)
        case measure => have := HI.out; omega
        case rel => exact ⟨j + 1, false, rfl, by go_num, by show _ = _; have := HI.out; omega, by omega, (fun _ => HE2.out), (fun e => by cases e), rfl⟩
     ·have HE2 : Hid (E = j + 1 + (endF q (t.drop (j + 1))).1 ∧ K = (endF q (t.drop (j + 1))).2) := by
       have h1 := HES.out rfl
       rw [hdr] at h1
       have h2 : endS q (c :: t.drop (j + 1)) = ((endF q (t.drop (j + 1))).1 + 1, (endF q (t.drop (j + 1))).2) := if_neg h10
       rw [h2] at h1
       exact ⟨by have := h1.1; omega, h1.2⟩
      clear hc hdr HE HES h10
      generalize c.toNat = cn at *
      generalize q.toNat = qn at *
      go_wp2_with fail
      go_roundg (L - j)
      case measure => have := HI.out; omega
      case rel => exact ⟨j + 1, false, rfl, by go_num, by show _ = _; have := HI.out; omega, by omega, (fun _ => HE2.out), (fun e => by cases e), rfl⟩
   ·have hjL : j = L := by omega
    have hjz : ¬ (j : Int) < (L : Int) := by omega
    have HR : Hid (E = L ∧ K = false) := by
     have h0 : t.drop j = [] := List.drop_of_length_le (by rw [HL.out]; omega)
     cases sk
     ·have := HE.out rfl
      rw [h0] at this
      exact ⟨by have := this.1; simp only [endF] at this; omega, this.2⟩
     ·have := HES.out rfl
      rw [h0] at this
      exact ⟨by have := this.1; simp only [endS] at this; omega, this.2⟩
    clear hjL
    go_wp2_with fail
    go_ret2
    exact ⟨by rw [HR.out.1, HR.out.2]; have hn9 := HN.out; (first | rw [show (L : Int) + 1 = (n : Int) by omega] | rw [show ((L + 1 : Nat) : Int) = (n : Int) by omega]); rfl, rfl⟩
end Go.Proofs.YtgkhjeefcflmcaaGreatDoor
namespace Go.Proofs.YtgkhjeefcflmcaaGreatDoor
open Go.RowKit Go.Sort
set_option linter.unusedSimpArgs false
def kindN (q : UInt8) : Nat := if q = 39 then 4 else 5
def litE (q : UInt8) (l : List UInt8) : Nat := if q = 39 then (charF l).2 else (textF l).1
def litA (q : UInt8) (l : List UInt8) : Nat × Nat × Nat := if (endF q (l.drop 1)).2 = true then (kindN q, (endF q (l.drop 1)).1 + 1, litE q (l.take ((endF q (l.drop 1)).1 + 1))) else (kindN q, (endF q (l.drop 1)).1 + 1, 12)
def scanL : List UInt8 → Nat × Nat × Nat
 | [] => (0, 0, 7)
 | q :: t => if q = 39 ∨ q = 34 ∨ q = 96 then litA q (q :: t) else (0, 0, 7)
def scanI (l : List UInt8) (at_ : Int) : Nat × Nat × Nat := if at_ < 0 ∨ (l.length : Int) ≤ at_ then (0, 0, 7) else scanL (l.drop at_.toNat)
theorem Byts.dropB {w : World} {B b o : Nat} {l : List UInt8} (h : Byts w B (some ⟨b, o, none⟩) (bi l)) (hp : 0 < l.length) (a : Nat) : Byts w B (some ⟨b, o + a, none⟩) (bi (l.drop a)) := by
 obtain ⟨b', o', e, hb, hc⟩ := h.2 (by rw [bi_length]; exact hp)
 cases e
 refine ⟨bi_byt _, fun _ => ⟨b, o + a, rfl, hb, fun i x hx => ?_⟩⟩
 rw [show o + a + i = o + (a + i) by omega]
 refine hc (a + i) x ?_
 rw [← bi_drop, List.getElem?_drop] at hx
 exact hx
theorem Byts.some {w : World} {B : Nat} {A : Option Addr} {l : List UInt8} (h : Byts w B A (bi l)) (hp : 0 < l.length) : ∃ b o, A = Option.some ⟨b, o, Option.none⟩ := by
 obtain ⟨b, o, e, _⟩ := h.2 (by rw [bi_length]; exact hp)
 exact ⟨b, o, e⟩
set_option maxRecDepth 100000 in
set_option maxHeartbeats 2000000 in
theorem kindOf_39 (w : World) : Calls Tryz.prog 77 #[.int .u8 39] w fun e w' => e = .returned (.tuple #[.int .i64 4, .func (.func 106) #[] #[]]) ∧ w' = w := by
 go_enter Tryz.func77, Tryz.ntmps77
 go_wp2_with fail
 go_ret2
 exact ⟨rfl, rfl⟩
set_option maxRecDepth 100000 in
set_option maxHeartbeats 2000000 in
theorem kindOf_34 (w : World) : Calls Tryz.prog 77 #[.int .u8 34] w fun e w' => e = .returned (.tuple #[.int .i64 5, .func (.func 108) #[] #[]]) ∧ w' = w := by
 go_enter Tryz.func77, Tryz.ntmps77
 go_wp2_with fail
 go_ret2
 exact ⟨rfl, rfl⟩
set_option maxRecDepth 100000 in
set_option maxHeartbeats 2000000 in
theorem kindOf_96 (w : World) : Calls Tryz.prog 77 #[.int .u8 96] w fun e w' => e = .returned (.tuple #[.int .i64 5, .func (.func 108) #[] #[]]) ∧ w' = w := by
 go_enter Tryz.func77, Tryz.ntmps77
 go_wp2_with fail
 go_ret2
 exact ⟨rfl, rfl⟩
set_option maxRecDepth 100000 in
set_option maxHeartbeats 2000000 in
theorem kindOf_no (c : UInt8) (h : ¬ (c = 39 ∨ c = 34 ∨ c = 96)) (w : World) : Calls Tryz.prog 77 #[.int .u8 (c.toNat : Int)] w fun e w' => e = .returned (.tuple #[.int .i64 0, .nilFunc]) ∧ w' = w := by
 have e39 : ((c.toNat : Int) == 39) = false := eq_byte (fun e => h (.inl e))
 have e34 : ((c.toNat : Int) == 34) = false := eq_byte (fun e => h (.inr (.inl e)))
 have e96 : ((c.toNat : Int) == 96) = false := eq_byte (fun e => h (.inr (.inr e)))
 clear h
 generalize c.toNat = cn at *
 go_enter Tryz.func77, Tryz.ntmps77
 go_wp2_with fail
 go_ret2
 exact ⟨rfl, rfl⟩
set_option maxRecDepth 100000 in
set_option maxHeartbeats 2000000 in
theorem wrongC (s : ByteArray) (x er : Value) (w : World) (HC : Hid (Calls Tryz.prog 107 #[.string s] w fun e w' => e = .returned (.tuple #[x, er]) ∧ Below w.heap.size w w')) :
  Calls Tryz.prog 106 #[.string s] w fun e w' => e = .returned er ∧ Below w.heap.size w w' := by
 go_enter Tryz.func106, Tryz.ntmps106
 go_wp2_with fail
 refine (HC.out).mono ?_
 rintro e w1 ⟨rfl, hw⟩
 have HW := Lib.hid hw
 clear hw
 go_wp2_with fail
 go_ret
 exact ⟨rfl, HW.out⟩
set_option maxRecDepth 100000 in
set_option maxHeartbeats 2000000 in
theorem wrongT (s : ByteArray) (x er : Value) (w : World) (HC : Hid (Calls Tryz.prog 109 #[.string s] w fun e w' => e = .returned (.tuple #[x, er]) ∧ Below w.heap.size w w')) :
  Calls Tryz.prog 108 #[.string s] w fun e w' => e = .returned er ∧ Below w.heap.size w w' := by
 go_enter Tryz.func108, Tryz.ntmps108
 go_wp2_with fail
 refine (HC.out).mono ?_
 rintro e w1 ⟨rfl, hw⟩
 have HW := Lib.hid hw
 clear hw
 go_wp2_with fail
 go_ret
 exact ⟨rfl, HW.out⟩
set_option maxRecDepth 100000 in
set_option maxHeartbeats 2000000 in
theorem ScanP_out (A : Option Addr) (n cap : Nat) (at_ : Int) (w : World) (h : at_ < 0 ∨ (n : Int) ≤ at_) :
  Calls Tryz.prog 50 #[.slice A n cap, .int .i64 at_] w fun e w' => e = .returned (.tuple #[.int .i64 0, .int .i64 0, .iface 35 (.int .i64 7)]) ∧ w' = w := by
 by_cases h0 : at_ < 0
 ·clear h
  go_enter Tryz.func50, Tryz.ntmps50
  go_wp2_with fail
  go_ret3
  exact ⟨rfl, rfl⟩
 ·have h1 : (n : Int) ≤ at_ := h.resolve_left h0
  clear h
  go_enter Tryz.func50, Tryz.ntmps50
  go_wp2_with fail
  go_ret3
  exact ⟨rfl, rfl⟩
set_option maxRecDepth 100000 in
set_option maxHeartbeats 2000000 in
theorem ScanP_no (b o n cap a : Nat) (l : List UInt8) (c : UInt8) (w : World) (B : Nat) (hb : Byts w B (some ⟨b, o, none⟩) (bi l)) (hn : l.length = n) (_hm : n ≤ 100000) (_hcap : n ≤ cap) (hc : l[a]? = some c) (hq : ¬ (c = 39 ∨ c = 34 ∨ c = 96)) :
  Calls Tryz.prog 50 #[.slice (some ⟨b, o, none⟩) n cap, .int .i64 (a : Int)] w fun e w' => e = .returned (.tuple #[.int .i64 0, .int .i64 0, .iface 35 (.int .i64 7)]) ∧ w' = w := by
 have hx := byts_cell hb hc
 have han : a < n := by rw [← hn]; exact (List.getElem?_eq_some_iff.1 hc).1
 have hz : (a : Int) < (n : Int) := by omega
 have hz2 : ¬ (n : Int) ≤ (a : Int) := by omega
 have HK := Lib.hid (fun V => kindOf_no c hq V)
 clear hb hc hq hn
 generalize c.toNat = cn at *
 go_enter Tryz.func50, Tryz.ntmps50
 go_wp2_with fail
 refine (HK.out _).mono ?_
 rintro e w1 ⟨rfl, rfl⟩
 go_wp2_with fail
 go_ret3
 exact ⟨rfl, rfl⟩
set_option maxRecDepth 100000 in
set_option maxHeartbeats 4000000 in
theorem ScanP_openC (b o n cap a : Nat) (l : List UInt8) (c : UInt8) (E : Nat) (w : World) (B : Nat) (hb : Byts w B (some ⟨b, o, none⟩) (bi l)) (hn : l.length = n) (_hm : n ≤ 100000) (hcap : n ≤ cap) (hc : l[a]? = some c)
  (_hEl : E + 1 ≤ n - a) (HK : Hid (∀ V, Calls Tryz.prog 77 #[.int .u8 (c.toNat : Int)] V fun e w' => e = .returned (.tuple #[.int .i64 4, .func (.func 106) #[] #[]]) ∧ w' = V))
  (HX : Hid (Calls Tryz.prog 78 #[.slice (some ⟨b, o + a, none⟩) (n - a) (cap - a)] w fun e w' => e = .returned (.tuple #[.int .i64 ((E + 1 : Nat) : Int), .bool false]) ∧ w' = w)) :
  Calls Tryz.prog 50 #[.slice (some ⟨b, o, none⟩) n cap, .int .i64 (a : Int)] w fun e w' => e = .returned (.tuple #[.int .i64 4, .int .i64 ((E + 1 : Nat) : Int), .iface 35 (.int .i64 12)]) ∧ w' = w := by
 have hx := byts_cell hb hc
 have han : a < n := by rw [← hn]; exact (List.getElem?_eq_some_iff.1 hc).1
 have hz : (a : Int) < (n : Int) := by omega
 have hz2 : ¬ (n : Int) ≤ (a : Int) := by omega
 have hca : cap ≠ a := by omega
 have hac : a ≤ cap := by omega
 obtain ⟨z, hzz⟩ : ∃ z, E + 1 = z := ⟨_, rfl⟩
 rw [hzz] at HX _hEl ⊢
 clear hb hc hn hzz
 generalize c.toNat = cn at *
 go_enter Tryz.func50, Tryz.ntmps50
 go_wp2_with fail
 refine (HK.out _).mono ?_
 rintro e w1 ⟨rfl, rfl⟩
 go_wp2_with fail
 refine (HX.out).mono ?_
 rintro e w2 ⟨rfl, rfl⟩
 go_wp2_with fail
 go_ret3
 exact ⟨rfl, rfl⟩
set_option maxRecDepth 100000 in
set_option maxHeartbeats 4000000 in
theorem ScanP_shutC (b o n cap a : Nat) (l : List UInt8) (c : UInt8) (E : Nat) (er : Value) (w : World) (B : Nat) (hb : Byts w B (some ⟨b, o, none⟩) (bi l)) (hn : l.length = n) (hm : n ≤ 100000) (hcap : n ≤ cap) (hc : l[a]? = some c)
  (hEl : E + 1 ≤ n - a) (HK : Hid (∀ V, Calls Tryz.prog 77 #[.int .u8 (c.toNat : Int)] V fun e w' => e = .returned (.tuple #[.int .i64 4, .func (.func 106) #[] #[]]) ∧ w' = V))
  (HX : Hid (Calls Tryz.prog 78 #[.slice (some ⟨b, o + a, none⟩) (n - a) (cap - a)] w fun e w' => e = .returned (.tuple #[.int .i64 ((E + 1 : Nat) : Int), .bool true]) ∧ w' = w)) (HW : Hid (Calls Tryz.prog 106 #[.string (bs ((l.drop a).take (E + 1)))] w fun e w' => e = .returned er ∧ Below w.heap.size w w')) :
  Calls Tryz.prog 50 #[.slice (some ⟨b, o, none⟩) n cap, .int .i64 (a : Int)] w fun e w' => e = .returned (.tuple #[.int .i64 4, .int .i64 ((E + 1 : Nat) : Int), er]) ∧ Below w.heap.size w w' := by
 have hx := byts_cell hb hc
 have han : a < n := by rw [← hn]; exact (List.getElem?_eq_some_iff.1 hc).1
 have hz : (a : Int) < (n : Int) := by omega
 have hz2 : ¬ (n : Int) ≤ (a : Int) := by omega
 have hca : cap ≠ a := by omega
 have hac : a ≤ cap := by omega
 obtain ⟨z, hzz⟩ : ∃ z, E + 1 = z := ⟨_, rfl⟩
 rw [hzz] at HX hEl ⊢
 rw [hzz] at HW
 obtain ⟨y, hy⟩ : ∃ y, bs ((l.drop a).take z) = y := ⟨_, rfl⟩
 rw [hy] at HW
 have hbd := (hb.dropB (by omega) a).take z
 rw [bi_take] at hbd
 have hcv := conv_bytes hbd z (cap - a) (by rw [bi_length, List.length_take, List.length_drop, hn]; omega)
 rw [bi_str, hy] at hcv
 have hsum : (a : Int) + (z : Int) = ((a + z : Nat) : Int) := by omega
 have haz : a + z ≤ n := by omega
 obtain ⟨s, hs⟩ : ∃ s, a + z = s := ⟨_, rfl⟩
 have hsz : s - a = z := by omega
 rw [hs] at hsum haz
 have has : a ≤ s := by omega
 have hsc : s ≤ cap := by omega
 clear hbd hy hs
 clear hb hc hn hzz
 generalize c.toNat = cn at *
 go_enter Tryz.func50, Tryz.ntmps50
 go_wp2_with fail
 refine (HK.out _).mono ?_
 rintro e w1 ⟨rfl, rfl⟩
 go_wp2_with fail
 refine (HX.out).mono ?_
 rintro e w2 ⟨rfl, rfl⟩
 go_wp2_with fail
 refine (HW.out).mono ?_
 rintro e w3 ⟨rfl, hw3⟩
 have HW3 := Lib.hid hw3
 clear hw3
 go_wp2_with fail
 go_ret3
 exact ⟨rfl, HW3.out⟩
set_option maxRecDepth 100000 in
set_option maxHeartbeats 4000000 in
theorem ScanP_openT (b o n cap a : Nat) (l : List UInt8) (c : UInt8) (E : Nat) (w : World) (B : Nat) (hb : Byts w B (some ⟨b, o, none⟩) (bi l)) (hn : l.length = n) (_hm : n ≤ 100000) (hcap : n ≤ cap) (hc : l[a]? = some c)
  (_hEl : E + 1 ≤ n - a) (HK : Hid (∀ V, Calls Tryz.prog 77 #[.int .u8 (c.toNat : Int)] V fun e w' => e = .returned (.tuple #[.int .i64 5, .func (.func 108) #[] #[]]) ∧ w' = V))
  (HX : Hid (Calls Tryz.prog 78 #[.slice (some ⟨b, o + a, none⟩) (n - a) (cap - a)] w fun e w' => e = .returned (.tuple #[.int .i64 ((E + 1 : Nat) : Int), .bool false]) ∧ w' = w)) :
  Calls Tryz.prog 50 #[.slice (some ⟨b, o, none⟩) n cap, .int .i64 (a : Int)] w fun e w' => e = .returned (.tuple #[.int .i64 5, .int .i64 ((E + 1 : Nat) : Int), .iface 35 (.int .i64 12)]) ∧ w' = w := by
 have hx := byts_cell hb hc
 have han : a < n := by rw [← hn]; exact (List.getElem?_eq_some_iff.1 hc).1
 have hz : (a : Int) < (n : Int) := by omega
 have hz2 : ¬ (n : Int) ≤ (a : Int) := by omega
 have hca : cap ≠ a := by omega
 have hac : a ≤ cap := by omega
 obtain ⟨z, hzz⟩ : ∃ z, E + 1 = z := ⟨_, rfl⟩
 rw [hzz] at HX _hEl ⊢
 clear hb hc hn hzz
 generalize c.toNat = cn at *
 go_enter Tryz.func50, Tryz.ntmps50
 go_wp2_with fail
 refine (HK.out _).mono ?_
 rintro e w1 ⟨rfl, rfl⟩
 go_wp2_with fail
 refine (HX.out).mono ?_
 rintro e w2 ⟨rfl, rfl⟩
 go_wp2_with fail
 go_ret3
 exact ⟨rfl, rfl⟩
set_option maxRecDepth 100000 in
set_option maxHeartbeats 4000000 in
theorem ScanP_shutT (b o n cap a : Nat) (l : List UInt8) (c : UInt8) (E : Nat) (er : Value) (w : World) (B : Nat) (hb : Byts w B (some ⟨b, o, none⟩) (bi l)) (hn : l.length = n) (hm : n ≤ 100000) (hcap : n ≤ cap) (hc : l[a]? = some c)
  (hEl : E + 1 ≤ n - a) (HK : Hid (∀ V, Calls Tryz.prog 77 #[.int .u8 (c.toNat : Int)] V fun e w' => e = .returned (.tuple #[.int .i64 5, .func (.func 108) #[] #[]]) ∧ w' = V))
  (HX : Hid (Calls Tryz.prog 78 #[.slice (some ⟨b, o + a, none⟩) (n - a) (cap - a)] w fun e w' => e = .returned (.tuple #[.int .i64 ((E + 1 : Nat) : Int), .bool true]) ∧ w' = w)) (HW : Hid (Calls Tryz.prog 108 #[.string (bs ((l.drop a).take (E + 1)))] w fun e w' => e = .returned er ∧ Below w.heap.size w w')) :
  Calls Tryz.prog 50 #[.slice (some ⟨b, o, none⟩) n cap, .int .i64 (a : Int)] w fun e w' => e = .returned (.tuple #[.int .i64 5, .int .i64 ((E + 1 : Nat) : Int), er]) ∧ Below w.heap.size w w' := by
 have hx := byts_cell hb hc
 have han : a < n := by rw [← hn]; exact (List.getElem?_eq_some_iff.1 hc).1
 have hz : (a : Int) < (n : Int) := by omega
 have hz2 : ¬ (n : Int) ≤ (a : Int) := by omega
 have hca : cap ≠ a := by omega
 have hac : a ≤ cap := by omega
 obtain ⟨z, hzz⟩ : ∃ z, E + 1 = z := ⟨_, rfl⟩
 rw [hzz] at HX hEl ⊢
 rw [hzz] at HW
 obtain ⟨y, hy⟩ : ∃ y, bs ((l.drop a).take z) = y := ⟨_, rfl⟩
 rw [hy] at HW
 have hbd := (hb.dropB (by omega) a).take z
 rw [bi_take] at hbd
 have hcv := conv_bytes hbd z (cap - a) (by rw [bi_length, List.length_take, List.length_drop, hn]; omega)
 rw [bi_str, hy] at hcv
 have hsum : (a : Int) + (z : Int) = ((a + z : Nat) : Int) := by omega
 have haz : a + z ≤ n := by omega
 obtain ⟨s, hs⟩ : ∃ s, a + z = s := ⟨_, rfl⟩
 have hsz : s - a = z := by omega
 rw [hs] at hsum haz
 have has : a ≤ s := by omega
 have hsc : s ≤ cap := by omega
 clear hbd hy hs
 clear hb hc hn hzz
 generalize c.toNat = cn at *
 go_enter Tryz.func50, Tryz.ntmps50
 go_wp2_with fail
 refine (HK.out _).mono ?_
 rintro e w1 ⟨rfl, rfl⟩
 go_wp2_with fail
 refine (HX.out).mono ?_
 rintro e w2 ⟨rfl, rfl⟩
 go_wp2_with fail
 refine (HW.out).mono ?_
 rintro e w3 ⟨rfl, hw3⟩
 have HW3 := Lib.hid hw3
 clear hw3
 go_wp2_with fail
 go_ret3
 exact ⟨rfl, HW3.out⟩
theorem litA_eq (q : UInt8) (t : List UInt8) {E : Nat} {K : Bool} (h : endF q t = (E, K)) : litA q (q :: t) = if K = true then (kindN q, E + 1, litE q ((q :: t).take (E + 1))) else (kindN q, E + 1, 12) := by
 unfold litA
 rw [show (q :: t).drop 1 = t from rfl, h]
theorem ScanP_run (A : Option Addr) (n cap : Nat) (l : List UInt8) (at_ : Int) (k z e : Nat) (w : World) (B : Nat) (hb : Byts w B A (bi l)) (hn : l.length = n) (hm : n ≤ 1000) (hcap : n ≤ cap) (hv : ErrVars w) (hh : Heads w) (hml : Ml w) (h : scanI l at_ = (k, z, e)) :
  Calls Tryz.prog 50 #[.slice A n cap, .int .i64 at_] w fun en w' => en = .returned (.tuple #[.int .i64 (k : Int), .int .i64 (z : Int), errOf e]) ∧ Below w.heap.size w w' := by
 unfold scanI at h
 by_cases ho : at_ < 0 ∨ (l.length : Int) ≤ at_
 ·rw [if_pos ho] at h
  cases h
  refine (ScanP_out A n cap at_ w (by rw [hn] at ho; exact ho)).mono ?_
  rintro en w' ⟨rfl, rfl⟩
  exact ⟨rfl, Below.refl _ _⟩
 ·rw [if_neg ho] at h
  obtain ⟨a, ha⟩ : ∃ a : Nat, at_ = (a : Int) := ⟨at_.toNat, by omega⟩
  subst ha
  rw [Int.toNat_natCast] at h
  have hal : a < l.length := by omega
  obtain ⟨b, o, rfl⟩ := hb.some (by omega)
  obtain ⟨q, hq⟩ : ∃ q, l[a]? = some q := ⟨l[a], List.getElem?_eq_getElem hal⟩
  have hdr := drop_cons hq
  rw [hdr] at h
  by_cases hqq : q = 39 ∨ q = 34 ∨ q = 96
  ·have hs : scanL (q :: l.drop (a + 1)) = litA q (q :: l.drop (a + 1)) := if_pos hqq
   rw [hs] at h
   obtain ⟨E, K, hE⟩ : ∃ E K, endF q (l.drop (a + 1)) = (E, K) := ⟨_, _, rfl⟩
   rw [litA_eq q _ hE, ← hdr] at h
   have hEl : E + 1 ≤ n - a := by
    have := endF_le q (l.drop (a + 1))
    rw [hE, List.length_drop] at this
    have h2 : E ≤ l.length - (a + 1) := this
    omega
   have hbd := hb.dropB (by omega) a
   rw [hdr] at hbd
   have htl : (l.drop (a + 1)).length + 1 = n - a := by rw [List.length_drop]; omega
   have htm : ((l.drop a).take (E + 1)).length ≤ 100000 := by rw [List.length_take, List.length_drop]; omega
   have HX : Calls Tryz.prog 78 #[.slice (some ⟨b, o + a, none⟩) (n - a) (cap - a)] w fun e w' => e = .returned (.tuple #[.int .i64 ((E + 1 : Nat) : Int), .bool K]) ∧ w' = w := by
    rw [← htl]
    by_cases h96 : q = 96
    ·subst h96
     exact extent_raw b (o + a) (cap - a) (l.drop (a + 1)) E K w B hbd (by omega) (by omega) hE
    ·exact extent_line b (o + a) (cap - a) q (l.drop (a + 1)) h96 (by rcases hqq with rfl | rfl | rfl <;> decide) (by rcases hqq with rfl | rfl | rfl <;> decide) E K w B hbd (by omega) (by omega) hE
   obtain ⟨rr, kk, hce⟩ : ∃ rr kk, charF ((l.drop a).take (E + 1)) = (rr, kk) := ⟨_, _, rfl⟩
   obtain ⟨kt, tt, hte⟩ : ∃ kt tt, textF ((l.drop a).take (E + 1)) = (kt, tt) := ⟨_, _, rfl⟩
   rcases hqq with rfl | rfl | rfl
   ·cases K with
    | false =>
     cases h
     refine (ScanP_openC b o n cap a l 39 E w B hb hn (by omega) hcap hq hEl (fun V => kindOf_39 V) HX).mono ?_
     rintro en w' ⟨rfl, rfl⟩
     exact ⟨rfl, Below.refl _ _⟩
    | true =>
     have he : litE 39 ((l.drop a).take (E + 1)) = kk := by show (charF _).2 = kk; rw [hce]
     rw [if_pos rfl, he] at h
     cases h
     exact ScanP_shutC b o n cap a l 39 E _ w B hb hn (by omega) hcap hq hEl (fun V => kindOf_39 V) HX (wrongC _ _ _ w (CharP_run _ _ _ w htm hv hh hce))
   ·cases K with
    | false =>
     cases h
     refine (ScanP_openT b o n cap a l 34 E w B hb hn (by omega) hcap hq hEl (fun V => kindOf_34 V) HX).mono ?_
     rintro en w' ⟨rfl, rfl⟩
     exact ⟨rfl, Below.refl _ _⟩
    | true =>
     have he : litE 34 ((l.drop a).take (E + 1)) = kt := by show (textF _).1 = kt; rw [hte]
     rw [if_pos rfl, he] at h
     cases h
     exact ScanP_shutT b o n cap a l 34 E _ w B hb hn (by omega) hcap hq hEl (fun V => kindOf_34 V) HX (wrongT _ _ _ w (TextP_run _ _ _ w htm hv hh hml hte))
   ·cases K with
    | false =>
     cases h
     refine (ScanP_openT b o n cap a l 96 E w B hb hn (by omega) hcap hq hEl (fun V => kindOf_96 V) HX).mono ?_
     rintro en w' ⟨rfl, rfl⟩
     exact ⟨rfl, Below.refl _ _⟩
    | true =>
     have he : litE 96 ((l.drop a).take (E + 1)) = kt := by show (textF _).1 = kt; rw [hte]
     rw [if_pos rfl, he] at h
     cases h
     exact ScanP_shutT b o n cap a l 96 E _ w B hb hn (by omega) hcap hq hEl (fun V => kindOf_96 V) HX (wrongT _ _ _ w (TextP_run _ _ _ w htm hv hh hml hte))
  ·have hs : scanL (q :: l.drop (a + 1)) = (0, 0, 7) := if_neg hqq
   rw [hs] at h
   cases h
   refine (ScanP_no b o n cap a l q w B hb hn (by omega) hcap hq hqq).mono ?_
   rintro en w' ⟨rfl, rfl⟩
   exact ⟨rfl, Below.refl _ _⟩
end Go.Proofs.YtgkhjeefcflmcaaGreatDoor
namespace Go.Proofs.YtgkhjeefcflmcaaGreatDoor
open Go.RowKit Go.Sort
set_option linter.unusedSimpArgs false
theorem scanL_q {q : UInt8} (t : List UInt8) (h : q = 39 ∨ q = 34 ∨ q = 96) : scanL (q :: t) = litA q (q :: t) := if_pos h
theorem endF_pos {q : UInt8} : ∀ {t : List UInt8} {E : Nat}, endF q t = (E, true) → 1 ≤ E
 | [], E, h => by cases h
 | [c], E, h => by
  unfold endF at h
  split at h
  ·cases h
  ·split at h <;> cases h
   exact Nat.le_refl _
 | c :: d :: t, E, h => by
  rw [endF] at h
  split at h
  ·cases h
  ·split at h
   ·cases h; exact Nat.le_refl _
   ·split at h
    ·have h1 : (endF q t).1 + 2 = E := congrArg Prod.fst h
     omega
    ·have h1 : (endF q (d :: t)).1 + 1 = E := congrArg Prod.fst h
     omega
theorem endF_alone {q : UInt8} : ∀ {t : List UInt8} {E : Nat}, endF q t = (E, true) → endF q (t.take E) = (E, true) ∧ (endF q (t.take (E - 1))).2 = false
 | [], E, h => by cases h
 | [c], E, h => by
  have h0 := h
  unfold endF at h
  split at h
  ·cases h
  ·split at h
   ·cases h
    exact ⟨h0, rfl⟩
   ·cases h
 | c :: d :: t, E, h => by
  rw [endF] at h
  split at h
  ·cases h
  ·rename_i n1
   split at h
   ·rename_i n2
    cases h
    refine ⟨?_, rfl⟩
    show endF q [c] = _
    rw [endF, if_neg n1, if_pos n2]
   ·rename_i n2
    split at h
    ·rename_i n3
     cases hE : endF q t with
     | mk E' K' =>
      rw [hE] at h
      cases h
      have hp := endF_pos hE
      obtain ⟨i1, i2⟩ := endF_alone hE
      constructor
      ·show endF q (c :: d :: t.take E') = _
       rw [endF, if_neg n1, if_neg n2, if_pos n3, i1]
      ·have e : (c :: d :: t).take (E' + 2 - 1) = c :: d :: t.take (E' - 1) := by
        rw [show E' + 2 - 1 = (E' - 1) + 1 + 1 by omega]
        rfl
       show (endF q ((c :: d :: t).take (E' + 2 - 1))).2 = false
       rw [e, endF, if_neg n1, if_neg n2, if_pos n3]
       exact i2
    ·rename_i n3
     cases hE : endF q (d :: t) with
     | mk E' K' =>
      rw [hE] at h
      cases h
      have hp := endF_pos hE
      obtain ⟨i1, i2⟩ := endF_alone hE
      obtain ⟨j, rfl⟩ : ∃ j, E' = j + 1 := ⟨E' - 1, by omega⟩
      constructor
      ·show endF q (c :: d :: t.take j) = _
       rw [endF, if_neg n1, if_neg n2, if_neg n3]
       have i3 : endF q (d :: t.take j) = (j + 1, true) := i1
       rw [i3]
      ·show (endF q ((c :: d :: t).take (j + 1))).2 = false
       match j, i2 with
       | 0, _ =>
        show (endF q [c]).2 = false
        rw [endF, if_neg n1, if_neg n2]
       | j + 1, i2 =>
        show (endF q (c :: d :: t.take j)).2 = false
        rw [endF, if_neg n1, if_neg n2, if_neg n3]
        have i3 : (endF q (d :: t.take j)).2 = false := i2
        exact i3
end Go.Proofs.YtgkhjeefcflmcaaGreatDoor
