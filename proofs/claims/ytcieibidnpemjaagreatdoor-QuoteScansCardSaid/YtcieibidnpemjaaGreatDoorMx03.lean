/-
  Stage 10: the document's Escape.
-/
import Derived.Test.YtcieibidnpemjaaGreatDoorMx02
import Derived.Deep.CutBlock
import Derived.Laws.IdiomStrings
namespace Go.Proofs.YtcieibidnpemjaaGreatDoor
open Go.RowKit Go.Sort
set_option linter.unusedSimpArgs false
theorem bel_drN {B : Nat} {w W : World} (h : Below B w W) (m : Nat) : Below B w (W.drewN m) := by
 induction m with
 | zero => exact h
 | succ m ih => exact ih.drew
def b2i (b : Bool) : Int := if b = true then 1 else 0
def LT : List UInt8 := [97, 98, 102, 110, 114, 116, 118]
def VL : List Nat := [7, 8, 12, 10, 13, 9, 11]
theorem ltr_fin : ∀ i : Fin 7, VL[i.val]? = some (ltrF (LT.getD i.val 0)) ∧ ltrF (LT.getD i.val 0) ≠ 0 := by decide
theorem ltr_hit {i : Nat} {c : UInt8} (hi : i < 7) (h : LT[i]? = some c) : VL[i]? = some (ltrF c) ∧ ltrF c ≠ 0 := by
 have := ltr_fin ⟨i, hi⟩
 simp only at this
 rwa [show LT.getD i 0 = c by rw [List.getD_eq_getElem?_getD, h]; rfl] at this
theorem ltr_miss {c : UInt8} (h : ∀ i, i < 7 → LT[i]? ≠ some c) : ltrF c = 0 := by
 unfold ltrF
 rw [if_neg (fun e => h 0 (by decide) (by rw [e]; rfl)), if_neg (fun e => h 1 (by decide) (by rw [e]; rfl)), if_neg (fun e => h 2 (by decide) (by rw [e]; rfl)), if_neg (fun e => h 3 (by decide) (by rw [e]; rfl)), if_neg (fun e => h 4 (by decide) (by rw [e]; rfl)), if_neg (fun e => h 5 (by decide) (by rw [e]; rfl)), if_neg (fun e => h 6 (by decide) (by rw [e]; rfl))]
theorem esc_ltr {q x c : UInt8} {t : List UInt8} (h : ltrF c ≠ 0) : escF q (x :: c :: t) = ((ltrF c : Int), true, 2) := if_pos h
theorem esc_same {q x c : UInt8} {t : List UInt8} (h : ltrF c = 0) (g : c = 92 ∨ c = q) : escF q (x :: c :: t) = ((c.toNat : Int), true, 2) := (if_neg (fun e => e h)).trans (if_pos g)
theorem escF_eq (q x c : UInt8) (t : List UInt8) : escF q (x :: c :: t) = if ltrF c ≠ 0 then ((ltrF c : Int), true, 2) else if c = 92 ∨ c = q then ((c.toNat : Int), true, 2) else if c = 120 then (if 0 ≤ numZ 16 2 t then (numZ 16 2 t, true, 4) else (0, false, 0)) else if c = 117 then runE (numZ 16 4 t) 6 else if c = 85 then runE (numZ 16 8 t) 10 else if 0 ≤ numZ 8 3 (c :: t) ∧ numZ 8 3 (c :: t) < 256 then (numZ 8 3 (c :: t), true, 4) else (0, false, 0) := rfl
theorem esc_x {q x : UInt8} {t : List UInt8} (g : ¬ ((120 : UInt8) = 92 ∨ 120 = q)) : escF q (x :: 120 :: t) = if 0 ≤ numZ 16 2 t then (numZ 16 2 t, true, 4) else (0, false, 0) := by
 rw [escF_eq, if_neg (show ¬ ltrF 120 ≠ 0 by decide), if_neg g, if_pos rfl]
theorem esc_u {q x : UInt8} {t : List UInt8} (g : ¬ ((117 : UInt8) = 92 ∨ 117 = q)) : escF q (x :: 117 :: t) = runE (numZ 16 4 t) 6 := by
 rw [escF_eq, if_neg (show ¬ ltrF 117 ≠ 0 by decide), if_neg g, if_neg (by decide), if_pos rfl]
theorem esc_U {q x : UInt8} {t : List UInt8} (g : ¬ ((85 : UInt8) = 92 ∨ 85 = q)) : escF q (x :: 85 :: t) = runE (numZ 16 8 t) 10 := by
 rw [escF_eq, if_neg (show ¬ ltrF 85 ≠ 0 by decide), if_neg g, if_neg (by decide), if_neg (by decide), if_pos rfl]
theorem esc_o {q x c : UInt8} {t : List UInt8} (h : ltrF c = 0) (g : ¬ (c = 92 ∨ c = q)) (h1 : c ≠ 120) (h2 : c ≠ 117) (h3 : c ≠ 85) : escF q (x :: c :: t) = if 0 ≤ numZ 8 3 (c :: t) ∧ numZ 8 3 (c :: t) < 256 then (numZ 8 3 (c :: t), true, 4) else (0, false, 0) :=
 (if_neg (fun e => e h)).trans ((if_neg g).trans ((if_neg h1).trans ((if_neg h2).trans (if_neg h3))))
theorem esc_short {q : UInt8} : ∀ {l : List UInt8}, l.length < 2 → escF q l = (0, false, 0)
 | [], _ => rfl
 | [_], _ => rfl
 | _ :: _ :: _, h => by simp only [List.length_cons] at h; omega
set_option maxRecDepth 100000 in
set_option maxHeartbeats 4000000 in
theorem Escape_run (l : List UInt8) (q : UInt8) (v : Int) (bt : Bool) (sz : Nat) (w : World) (hl : l.length ≤ 100000) (h : Hid (escF q l = (v, bt, sz))) :
  Calls Tryz.prog 19 #[.string (bs l), .int .u8 (q.toNat : Int)] w fun e w' => e = .returned (.tuple #[.int .i64 v, .int .i64 (b2i bt), .int .i64 (sz : Int)]) ∧ Below w.heap.size w w' := by
 have hsz := bs_size l
 by_cases h2 : l.length < 2
 ·have HX : Hid (v = 0 ∧ bt = false ∧ sz = 0) := by
   have := h.out
   rw [esc_short h2] at this
   cases this
   exact ⟨rfl, rfl, rfl⟩
  have h2z : (l.length : Int) < 2 := by omega
  have HBl : Hid (Below w.heap.size w w) := Below.refl _ _
  clear h2 h
  go_enter Tryz.func19, Tryz.ntmps19
  go_wp2_with fail
  go_ret3
  exact ⟨by rw [HX.out.1, HX.out.2.1, HX.out.2.2]; rfl, HBl.out⟩
 ·match l, h2, hl, h, hsz with
  | [], h2, _, _, _ => exact absurd (show ([] : List UInt8).length < 2 by simp) h2
  | [a], h2, _, _, _ => exact absurd (show [a].length < 2 by simp) h2
  | x :: c :: t, _, hl, h, hsz =>
   have hx0 := bs_get (l := x :: c :: t) (i := 1) (c := c) rfl
   have hx : ∀ W, (Instr.index 9 (.string (bs (x :: c :: t))) (.int .i64 1)).run Tryz.prog W = .ok (.int .u8 (c.toNat : Int)) W := hx0
   clear hx0
   have hlen : 2 ≤ (x :: c :: t).length := by simp
   have HN0 := fun (f k B : Nat) V => number_run (x :: c :: t) f k B V hl
   obtain ⟨n, hn⟩ : ∃ n, (x :: c :: t).length = n := ⟨_, rfl⟩
   rw [hn] at hlen hsz
   have h2z : ¬ (n : Int) < 2 := by omega
   have hn1 : 1 < n := by omega
   obtain ⟨z, hz⟩ : ∃ z, bs (x :: c :: t) = z := ⟨_, rfl⟩
   rw [hz] at hx HN0 hsz ⊢
   have HN1 := Lib.hid HN0
   clear HN0 hz hn hl hlen
   go_enter Tryz.func19, Tryz.ntmps19
   obtain ⟨N, hN⟩ : ∃ N, w.heap.size = N := ⟨_, rfl⟩
   obtain ⟨W, hW⟩ : ∃ W, w.alloc (.cells #[.int .i64 7, .int .i64 8, .int .i64 12, .int .i64 10, .int .i64 13, .int .i64 9, .int .i64 11] 3) = W := ⟨_, rfl⟩
   have HBl : Hid (Below N w W) := by rw [← hN, ← hW]; exact (Below.refl _ _).alloc (Nat.le_refl _) _
   have HV : Hid (∀ (i v : Nat), VL[i]? = some v → W.cell? ⟨N, i, none⟩ = some (.int .i64 (v : Int))) := fun i v hv => by
    rw [← hW, ← hN]
    match i, hv with
    | 0, hv => cases hv; rw [World.cell?_alloc_at _ _ _ _ rfl]; rfl
    | 1, hv => cases hv; rw [World.cell?_alloc_at _ _ _ _ rfl]; rfl
    | 2, hv => cases hv; rw [World.cell?_alloc_at _ _ _ _ rfl]; rfl
    | 3, hv => cases hv; rw [World.cell?_alloc_at _ _ _ _ rfl]; rfl
    | 4, hv => cases hv; rw [World.cell?_alloc_at _ _ _ _ rfl]; rfl
    | 5, hv => cases hv; rw [World.cell?_alloc_at _ _ _ _ rfl]; rfl
    | 6, hv => cases hv; rw [World.cell?_alloc_at _ _ _ _ rfl]; rfl
   rw [hN]
   go_upto_block 0 with fail
   clear hW
   go_cut [] (fun wx => Hid (ltrF c = 0) ∧ Hid (∃ m, wx = W.drewN m))
   case first =>
    go_wp2_with fail
    go_loopg [9] 8 (fun h s9 wr => ∃ i : Nat, s9 = .int .i64 (i : Int) ∧ Hid (i + h = 8) ∧ i ≤ 7 ∧ Hid (∀ k, k < i → LT[k]? ≠ some c) ∧ Hid (∃ m, wr = W.drewN m))
    case atStart => exact ⟨0, rfl, by show _ = _; omega, by omega, fun k hk => absurd hk (by omega), 0, rfl⟩
    case round =>
     obtain ⟨i, rfl, HI, hi7, HM, HW⟩ := hrel
     by_cases hlt : i < 7
     ·have hiz : (i : Int) < 7 := by omega
      obtain ⟨d, hd⟩ : ∃ d, LT[i]? = some d := ⟨LT[i]'hlt, List.getElem?_eq_getElem _⟩
      have hy : ∀ W, (Instr.index 9 (.string ⟨#[97, 98, 102, 110, 114, 116, 118]⟩) (.int .i64 (i : Int))).run Tryz.prog W = .ok (.int .u8 (d.toNat : Int)) W := index_at hd
      by_cases hdc : d = c
      ·obtain ⟨g1, g2⟩ := ltr_hit hlt (hd.trans (congrArg some hdc))
       have HX : Hid (v = (ltrF c : Int) ∧ bt = true ∧ sz = 2) := by
        have := h.out
        rw [esc_ltr g2] at this
        cases this
        exact ⟨rfl, rfl, rfl⟩
       have hc0 : wr.cell? ⟨N, i, none⟩ = some (.int .i64 (ltrF c : Int)) := by
        obtain ⟨m, hm⟩ := HW.out
        rw [hm]
        exact HV.out i _ g1
       have HB2 : Hid (∀ k, Below N w (wr.drewN k)) := fun k => by
        obtain ⟨m, hm⟩ := HW.out
        rw [hm]
        exact bel_drN (bel_drN HBl.out m) k
       subst hdc
       clear h hd g1 g2 HM HV HBl HN1
       generalize ltrF d = lv at *
       generalize d.toNat = dn at *
       go_wp2_with fail
       go_quiet (fail)
       go_wp2_with fail
       go_ret3
       exact ⟨by rw [HX.out.1, HX.out.2.1, HX.out.2.2]; rfl, HB2.out _⟩
      ·have edc : ((d.toNat : Int) == (c.toNat : Int)) = false := eq_byte hdc
       have HM2 : Hid (∀ k, k < i + 1 → LT[k]? ≠ some c) := fun k hk g => by
        by_cases e : k = i
        ·subst e
         rw [hd] at g
         exact hdc (Option.some.inj g)
        ·exact HM.out k (by omega) g
       clear hd hdc HM HV HBl HN1
       generalize d.toNat = dn at *
       generalize c.toNat = cn at *
       go_wp2_with fail
       go_quiet (fail)
       go_wp2_with fail
       go_roundg (7 - i)
       case measure => have := HI.out; omega
       case rel => exact ⟨i + 1, by go_num, by show _ = _; have := HI.out; omega, by omega, HM2, by obtain ⟨m, hm⟩ := HW.out; exact ⟨_, by rw [hm, World.drewN_drewN]⟩⟩
     ·obtain rfl : i = 7 := by omega
      have hz0 := Lib.hid (ltr_miss HM.out)
      go_wp2_with fail
      go_meet
      exact ⟨hz0.out, HW.out⟩
   case rest =>
   obtain ⟨hlz, hdr⟩ := hcut
   have HB2 : Hid (Below N w wc) := by
    obtain ⟨m, hm⟩ := hdr.out
    rw [hm]
    exact bel_drN HBl.out m
   clear HBl HV hdr
   by_cases h92 : c = 92
   ·have HX : Hid (v = 92 ∧ bt = true ∧ sz = 2) := by
     have := h.out
     rw [esc_same hlz.out (.inl h92), h92] at this
     cases this
     exact ⟨rfl, rfl, rfl⟩
    subst h92
    have hx1 : ∀ W, (Instr.index 9 (.string z) (.int .i64 1)).run Tryz.prog W = .ok (.int .u8 92) W := hx
    clear h hx HN1
    generalize q.toNat = qn at *
    go_wp2_with fail
    go_ret3
    exact ⟨by rw [HX.out.1, HX.out.2.1, HX.out.2.2]; rfl, HB2.out⟩
   ·have e92 : ((c.toNat : Int) == 92) = false := eq_byte h92
    by_cases hcq : c = q
    ·have HX : Hid (v = (c.toNat : Int) ∧ bt = true ∧ sz = 2) := by
      have := h.out
      rw [esc_same hlz.out (.inr hcq)] at this
      cases this
      exact ⟨rfl, rfl, rfl⟩
     have hcb : c.toNat < 256 := UInt8.toNat_lt c
     subst hcq
     clear h h92 HN1
     generalize c.toNat = cn at *
     go_wp2_with fail
     go_ret3
     exact ⟨by rw [HX.out.1, HX.out.2.1, HX.out.2.2]; rfl, HB2.out⟩
    ·have ecq : ((c.toNat : Int) == (q.toNat : Int)) = false := eq_byte hcq
     by_cases h120 : c = 120
     ·subst h120
      have hx1 : ∀ W, (Instr.index 9 (.string z) (.int .i64 1)).run Tryz.prog W = .ok (.int .u8 120) W := hx
      have ecq2 : ((120 : Int) == (q.toNat : Int)) = false := ecq
      clear hx ecq e92
      have HN : Hid (∀ V, Calls Tryz.prog 30 #[.string z, .int .i64 2, .int .i64 2, .int .i64 16] V fun e w' => e = .returned (.int .i64 (numZ 16 2 t)) ∧ w' = V) := fun V => HN1.out 2 2 16 V (by decide) (by decide) (by decide)
      by_cases h0 : 0 ≤ numZ 16 2 t
      ·have HX : Hid (v = numZ 16 2 t ∧ bt = true ∧ sz = 4) := by
        have := h.out
        rw [esc_x (fun g => g.elim h92 hcq), if_pos h0] at this
        cases this
        exact ⟨rfl, rfl, rfl⟩
       clear h h92 hcq HN1
       generalize numZ 16 2 t = zz at *
       generalize q.toNat = qn at *
       go_wp2_with fail
       refine (HN.out _).mono ?_
       rintro e w3 ⟨rfl, rfl⟩
       go_wp2_with fail
       go_ret3
       exact ⟨by rw [HX.out.1, HX.out.2.1, HX.out.2.2]; rfl, HB2.out⟩
      ·have HX : Hid (v = 0 ∧ bt = false ∧ sz = 0) := by
        have := h.out
        rw [esc_x (fun g => g.elim h92 hcq), if_neg h0] at this
        cases this
        exact ⟨rfl, rfl, rfl⟩
       clear h h92 hcq HN1
       generalize numZ 16 2 t = zz at *
       generalize q.toNat = qn at *
       go_wp2_with fail
       refine (HN.out _).mono ?_
       rintro e w3 ⟨rfl, rfl⟩
       go_wp2_with fail
       go_ret3
       exact ⟨by rw [HX.out.1, HX.out.2.1, HX.out.2.2]; rfl, HB2.out⟩
     ·have e120 : ((c.toNat : Int) == 120) = false := eq_byte h120
      by_cases h117 : c = 117
      ·subst h117
       have hx1 : ∀ W, (Instr.index 9 (.string z) (.int .i64 1)).run Tryz.prog W = .ok (.int .u8 117) W := hx
       have ecq2 : ((117 : Int) == (q.toNat : Int)) = false := ecq
       clear hx ecq e92
       have HN : Hid (∀ V, Calls Tryz.prog 30 #[.string z, .int .i64 2, .int .i64 4, .int .i64 16] V fun e w' => e = .returned (.int .i64 (numZ 16 4 t)) ∧ w' = V) := fun V => HN1.out 2 4 16 V (by decide) (by decide) (by decide)
       have HR := Lib.hid (fun V => Rune_any (numZ 16 4 t) V)
       have hlt2 := numZ_lt 4 16 t (by decide)
       by_cases h0 : 0 ≤ numZ 16 4 t
       ·cases hr : U.isRune (numZ 16 4 t)
        ·rw [hr] at HR
         have HX : Hid (v = 0 ∧ bt = false ∧ sz = 0) := by
          have := h.out
          rw [esc_u (fun g => g.elim h92 hcq)] at this
          unfold runE at this
          rw [if_neg (fun g => by rw [hr] at g; cases g.2)] at this
          cases this
          exact ⟨rfl, rfl, rfl⟩
         clear h hr h92 hcq hlt2 HN1
         generalize numZ 16 4 t = zz at *
         generalize q.toNat = qn at *
         go_wp2_with fail
         refine (HN.out _).mono ?_
         rintro e w3 ⟨rfl, rfl⟩
         go_wp2_with fail
         refine (HR.out _).mono ?_
         rintro e w4 ⟨rfl, rfl⟩
         go_wp2_with fail
         go_ret3
         exact ⟨by rw [HX.out.1, HX.out.2.1, HX.out.2.2]; rfl, HB2.out⟩
        ·rw [hr] at HR
         have HX : Hid (v = numZ 16 4 t ∧ bt = false ∧ sz = 6) := by
          have := h.out
          rw [esc_u (fun g => g.elim h92 hcq)] at this
          unfold runE at this
          rw [if_pos ⟨h0, hr⟩] at this
          cases this
          exact ⟨rfl, rfl, rfl⟩
         clear h hr h92 hcq hlt2 HN1
         generalize numZ 16 4 t = zz at *
         generalize q.toNat = qn at *
         go_wp2_with fail
         refine (HN.out _).mono ?_
         rintro e w3 ⟨rfl, rfl⟩
         go_wp2_with fail
         refine (HR.out _).mono ?_
         rintro e w4 ⟨rfl, rfl⟩
         go_wp2_with fail
         go_ret3
         exact ⟨by rw [HX.out.1, HX.out.2.1, HX.out.2.2]; rfl, HB2.out⟩
       ·have HX : Hid (v = 0 ∧ bt = false ∧ sz = 0) := by
         have := h.out
         rw [esc_u (fun g => g.elim h92 hcq)] at this
         unfold runE at this
         rw [if_neg (fun g => h0 g.1)] at this
         cases this
         exact ⟨rfl, rfl, rfl⟩
        clear h h92 hcq hlt2 HN1
        generalize numZ 16 4 t = zz at *
        generalize q.toNat = qn at *
        go_wp2_with fail
        refine (HN.out _).mono ?_
        rintro e w3 ⟨rfl, rfl⟩
        go_wp2_with fail
        go_ret3
        exact ⟨by rw [HX.out.1, HX.out.2.1, HX.out.2.2]; rfl, HB2.out⟩
      ·have e117 : ((c.toNat : Int) == 117) = false := eq_byte h117
       by_cases h85 : c = 85
       ·subst h85
        have hx1 : ∀ W, (Instr.index 9 (.string z) (.int .i64 1)).run Tryz.prog W = .ok (.int .u8 85) W := hx
        have ecq2 : ((85 : Int) == (q.toNat : Int)) = false := ecq
        clear hx ecq e92
        have HN : Hid (∀ V, Calls Tryz.prog 30 #[.string z, .int .i64 2, .int .i64 8, .int .i64 16] V fun e w' => e = .returned (.int .i64 (numZ 16 8 t)) ∧ w' = V) := fun V => HN1.out 2 8 16 V (by decide) (by decide) (by decide)
        have HR := Lib.hid (fun V => Rune_any (numZ 16 8 t) V)
        have hlt2 := numZ_lt 8 16 t (by decide)
        by_cases h0 : 0 ≤ numZ 16 8 t
        ·cases hr : U.isRune (numZ 16 8 t)
         ·rw [hr] at HR
          have HX : Hid (v = 0 ∧ bt = false ∧ sz = 0) := by
           have := h.out
           rw [esc_U (fun g => g.elim h92 hcq)] at this
           unfold runE at this
           rw [if_neg (fun g => by rw [hr] at g; cases g.2)] at this
           cases this
           exact ⟨rfl, rfl, rfl⟩
          clear h hr h92 hcq hlt2 HN1
          generalize numZ 16 8 t = zz at *
          generalize q.toNat = qn at *
          go_wp2_with fail
          refine (HN.out _).mono ?_
          rintro e w3 ⟨rfl, rfl⟩
          go_wp2_with fail
          refine (HR.out _).mono ?_
          rintro e w4 ⟨rfl, rfl⟩
          go_wp2_with fail
          go_ret3
          exact ⟨by rw [HX.out.1, HX.out.2.1, HX.out.2.2]; rfl, HB2.out⟩
         ·rw [hr] at HR
          have HX : Hid (v = numZ 16 8 t ∧ bt = false ∧ sz = 10) := by
           have := h.out
           rw [esc_U (fun g => g.elim h92 hcq)] at this
           unfold runE at this
           rw [if_pos ⟨h0, hr⟩] at this
           cases this
           exact ⟨rfl, rfl, rfl⟩
          clear h hr h92 hcq hlt2 HN1
          generalize numZ 16 8 t = zz at *
          generalize q.toNat = qn at *
          go_wp2_with fail
          refine (HN.out _).mono ?_
          rintro e w3 ⟨rfl, rfl⟩
          go_wp2_with fail
          refine (HR.out _).mono ?_
          rintro e w4 ⟨rfl, rfl⟩
          go_wp2_with fail
          go_ret3
          exact ⟨by rw [HX.out.1, HX.out.2.1, HX.out.2.2]; rfl, HB2.out⟩
        ·have HX : Hid (v = 0 ∧ bt = false ∧ sz = 0) := by
          have := h.out
          rw [esc_U (fun g => g.elim h92 hcq)] at this
          unfold runE at this
          rw [if_neg (fun g => h0 g.1)] at this
          cases this
          exact ⟨rfl, rfl, rfl⟩
         clear h h92 hcq hlt2 HN1
         generalize numZ 16 8 t = zz at *
         generalize q.toNat = qn at *
         go_wp2_with fail
         refine (HN.out _).mono ?_
         rintro e w3 ⟨rfl, rfl⟩
         go_wp2_with fail
         go_ret3
         exact ⟨by rw [HX.out.1, HX.out.2.1, HX.out.2.2]; rfl, HB2.out⟩
       ·have e85 : ((c.toNat : Int) == 85) = false := eq_byte h85
        have HN : Hid (∀ V, Calls Tryz.prog 30 #[.string z, .int .i64 1, .int .i64 3, .int .i64 8] V fun e w' => e = .returned (.int .i64 (numZ 8 3 (c :: t))) ∧ w' = V) := fun V => HN1.out 1 3 8 V (by decide) (by decide) (by decide)
        by_cases h0 : 0 ≤ numZ 8 3 (c :: t) ∧ numZ 8 3 (c :: t) < 256
        ·have HX : Hid (v = numZ 8 3 (c :: t) ∧ bt = true ∧ sz = 4) := by
          have := h.out
          rw [esc_o hlz.out (fun g => g.elim h92 hcq) h120 h117 h85, if_pos h0] at this
          cases this
          exact ⟨rfl, rfl, rfl⟩
         obtain ⟨h01, h02⟩ := h0
         clear h h92 hcq h120 h117 h85 HN1
         generalize numZ 8 3 (c :: t) = zz at *
         generalize q.toNat = qn at *
         generalize c.toNat = cn at *
         go_wp2_with fail
         refine (HN.out _).mono ?_
         rintro e w3 ⟨rfl, rfl⟩
         go_wp2_with fail
         go_ret3
         exact ⟨by rw [HX.out.1, HX.out.2.1, HX.out.2.2]; rfl, HB2.out⟩
        ·have HX : Hid (v = 0 ∧ bt = false ∧ sz = 0) := by
          have := h.out
          rw [esc_o hlz.out (fun g => g.elim h92 hcq) h120 h117 h85, if_neg h0] at this
          cases this
          exact ⟨rfl, rfl, rfl⟩
         by_cases h01 : 0 ≤ numZ 8 3 (c :: t)
         ·have h02 : ¬ numZ 8 3 (c :: t) < 256 := fun g => h0 ⟨h01, g⟩
          clear h h0 h92 hcq h120 h117 h85 HN1
          generalize numZ 8 3 (c :: t) = zz at *
          generalize q.toNat = qn at *
          generalize c.toNat = cn at *
          go_wp2_with fail
          refine (HN.out _).mono ?_
          rintro e w3 ⟨rfl, rfl⟩
          go_wp2_with fail
          go_ret3
          exact ⟨by rw [HX.out.1, HX.out.2.1, HX.out.2.2]; rfl, HB2.out⟩
         ·clear h h0 h92 hcq h120 h117 h85 HN1
          generalize numZ 8 3 (c :: t) = zz at *
          generalize q.toNat = qn at *
          generalize c.toNat = cn at *
          go_wp2_with fail
          refine (HN.out _).mono ?_
          rintro e w3 ⟨rfl, rfl⟩
          go_wp2_with fail
          go_ret3
          exact ⟨by rw [HX.out.1, HX.out.2.1, HX.out.2.2]; rfl, HB2.out⟩
end Go.Proofs.YtcieibidnpemjaaGreatDoor
namespace Go.Proofs.YtcieibidnpemjaaGreatDoor
open Go.RowKit Go.Sort
set_option linter.unusedSimpArgs false
def betB (q : UInt8) (l : List UInt8) : Bool := decide (2 ≤ l.length) && (decide (l[0]? = some q) && decide (l[l.length - 1]? = some q))
theorem eq_byteq {a k : UInt8} : ((a.toNat : Int) == (k.toNat : Int)) = decide (some a = some k) := by
 rw [Bool.eq_iff_iff]
 simp only [beq_iff_eq, decide_eq_true_eq, Option.some.injEq]
 constructor
 ·intro h
  exact UInt8.toNat_inj.1 (by omega)
 ·rintro rfl; rfl
set_option maxRecDepth 100000 in
set_option maxHeartbeats 2000000 in
theorem between_run (l : List UInt8) (q : UInt8) (w : World) (hl : l.length ≤ 100000) :
  Calls Tryz.prog 18 #[.string (bs l), .int .u8 (q.toNat : Int)] w fun e w' => e = .returned (.bool (betB q l)) ∧ w' = w := by
 have hsz := bs_size l
 by_cases h2 : 2 ≤ l.length
 ·have h2z : (2 : Int) ≤ (l.length : Int) := by omega
  obtain ⟨a, ha⟩ : ∃ a, l[0]? = some a := ⟨l[0]'(by omega), List.getElem?_eq_getElem _⟩
  obtain ⟨k, hk⟩ : ∃ k, l.length - 1 = k := ⟨_, rfl⟩
  obtain ⟨c, hc⟩ : ∃ c, l[k]? = some c := ⟨l[k]'(by omega), List.getElem?_eq_getElem _⟩
  have hx := bs_get ha
  rw [Int.natCast_zero] at hx
  have hy := bs_get hc
  have hkz : (l.length : Int) - 1 = (k : Int) := by omega
  have hkl : k < l.length := by omega
  have hb : Hid (betB q l = (((a.toNat : Int) == (q.toNat : Int)) && ((c.toNat : Int) == (q.toNat : Int)))) := by
   show _ = _
   unfold betB
   rw [hk, ha, hc, decide_eq_true h2, Bool.true_and, eq_byteq, eq_byteq]
  obtain ⟨p, hp⟩ : ∃ p, ((a.toNat : Int) == (q.toNat : Int)) = p := ⟨_, rfl⟩
  obtain ⟨r, hr⟩ : ∃ r, ((c.toNat : Int) == (q.toNat : Int)) = r := ⟨_, rfl⟩
  rw [hp, hr] at hb
  clear ha hc hk h2
  generalize a.toNat = an at *
  generalize c.toNat = cn at *
  generalize q.toNat = qn at *
  generalize l.length = n at *
  generalize bs l = z at *
  cases p <;> cases r <;>
  ·go_enter Tryz.func18, Tryz.ntmps18
   go_wp2_with fail
   go_ret
   exact ⟨by rw [hb.out]; rfl, rfl⟩
 ·have h2z : ¬ (2 : Int) ≤ (l.length : Int) := by omega
  have hb : Hid (betB q l = false) := by
   show _ = _
   unfold betB
   rw [decide_eq_false h2, Bool.false_and]
  clear h2
  go_enter Tryz.func18, Tryz.ntmps18
  go_wp2_with fail
  go_ret
  exact ⟨by rw [hb.out]; rfl, rfl⟩
end Go.Proofs.YtcieibidnpemjaaGreatDoor
namespace Go.Proofs.YtcieibidnpemjaaGreatDoor
open Go.RowKit Go.Sort
set_option linter.unusedSimpArgs false
def bts (s : ByteArray) : List Int := s.data.toList.map fun b => (b.toNat : Int)
theorem bts_length (s : ByteArray) : (bts s).length = s.size := by simp [bts]
theorem bts_byt (s : ByteArray) : U.Byt (bts s) := fun x hx => by
 simp only [bts, List.mem_map] at hx
 obtain ⟨b, _, rfl⟩ := hx
 have := b.toNat_lt
 omega
theorem bts_cells (s : ByteArray) : s.data.map (fun b => Value.int .u8 b.toNat) = ((bts s).map fun x => Value.int .u8 x).toArray := by
 apply Array.ext'
 simp [bts, Function.comp_def]
theorem run_conv_str (w : World) (s : ByteArray) (hs : s.size ≤ maxLen) : ∃ cap w', (convert 9 22 (.string s)).run Tryz.prog w = .ok (.slice (some ⟨w.heap.size, 0, none⟩) s.size cap) w' ∧ s.size ≤ cap ∧ cap ≤ maxLen ∧ Byts w' w'.heap.size (some ⟨w.heap.size, 0, none⟩) (bts s) ∧ Below w.heap.size w w' := by
 refine ⟨_, _, run_bytes_of_string w _ _ _ s Tryz.underlying9 Tryz.underlying22 Tryz.underlying5, grownCap_ge _ _ _ _, grownCap_le_maxLen _ _ _ _ hs, ⟨bts_byt s, fun _ => ⟨_, _, rfl, by simp, fun i x hx => ?_⟩⟩, ?_⟩
 ·have := World.cell?_alloc_mark w.drew (bytesRow s (grownCap w s.size 0 5)) 5 ((bytesRow s (grownCap w s.size 0 5)).size, (bytesRow s (grownCap w s.size 0 5)).size + 1) (0 + i)
  rw [show w.drew.heap.size = w.heap.size from rfl] at this
  rw [this, bytesRow, bts_cells, Nat.zero_add]
  have hi := (List.getElem?_eq_some_iff.1 hx).1
  rw [Array.getElem?_append_left (by simpa using hi)]
  simp [hx]
 ·exact (Below.refl _ w).drew.alloc (Nat.le_refl _) _
theorem bts_bs (l : List UInt8) : bts (bs l) = bi l := by
 unfold bts bi
 rw [bs_list]
end Go.Proofs.YtcieibidnpemjaaGreatDoor
namespace Go.Proofs.YtcieibidnpemjaaGreatDoor
open Go.RowKit Go.Sort
set_option linter.unusedSimpArgs false
def chrIn (l : List UInt8) : List UInt8 := (l.take (l.length - 1)).drop 1
theorem chr_in {l : List UInt8} (h : 3 ≤ l.length) : (chrIn l).length = l.length - 2 ∧ (chrIn l)[0]? = l[1]? := by
 unfold chrIn
 constructor
 ·rw [List.length_drop, List.length_take]; omega
 ·rw [List.getElem?_drop, List.getElem?_take, if_pos (by omega)]
theorem chr_len (l : List UInt8) : (chrIn l).length = l.length - 2 := by
 unfold chrIn
 rw [List.length_drop, List.length_take]; omega
theorem chr_get {l : List UInt8} {j : Nat} (h : j + 2 < l.length) : (chrIn l)[j]? = l[j + 1]? := by
 unfold chrIn
 rw [List.getElem?_drop, List.getElem?_take, if_pos (by omega), Nat.add_comm]
theorem bet_len {q : UInt8} {l : List UInt8} (h : betB q l = true) : 2 ≤ l.length := by
 unfold betB at h
 rw [Bool.and_eq_true, decide_eq_true_eq] at h
 exact h.1
def encI (v : Int) (bt : Bool) : List Int := if bt = true then [v] else U.enc v
def encB (v : Int) (bt : Bool) : List UInt8 := (encI v bt).map fun x => UInt8.ofNat x.toNat
theorem encB_len (v : Int) (bt : Bool) : (encB v bt).length ≤ 4 := by
 unfold encB encI
 rw [List.length_map]
 split
 ·show 1 ≤ 4; decide
 ·rw [U.enc_length]; exact (U.rlen_pos v).2
def catT (x : List UInt8) (r : Nat × List UInt8) : Nat × List UInt8 := if r.1 = 0 then (0, x ++ r.2) else (r.1, [])
theorem catT_catT (x y : List UInt8) (r : Nat × List UInt8) : catT x (catT y r) = catT (x ++ y) r := by
 unfold catT
 by_cases h : r.1 = 0
 ·rw [if_pos h, if_pos rfl, if_pos h, List.append_assoc]
 ·rw [if_neg h, if_neg h, if_neg h]
theorem catT_err (x : List UInt8) {n : Nat} (h : n ≠ 0) : catT x (n, []) = (n, []) := if_neg h
theorem catT_ok (x y : List UInt8) : catT x (0, y) = (0, x ++ y) := if_pos rfl
theorem catT_nil (r : Nat × List UInt8) (h : r.1 ≠ 0 → r.2 = []) : catT [] r = r := by
 unfold catT
 obtain ⟨a, b⟩ := r
 by_cases g : a = 0
 ·subst g; rfl
 ·rw [if_neg g]; rw [show b = [] from h g]
def rawR : List UInt8 → Nat × List UInt8
 | [] => (0, [])
 | c :: t => if c = 96 then (8, []) else catT (if c = 13 then [] else [c]) (rawR t)
def txtR : Nat → List UInt8 → Nat × List UInt8
 | 0, _ => (0, [])
 | _ + 1, [] => (0, [])
 | f + 1, c :: t => if c = 34 ∨ c = 10 then (8, []) else if c = 92 then (if (escF 34 (c :: t)).2.2 = 0 then (14, []) else catT (encB (escF 34 (c :: t)).1 (escF 34 (c :: t)).2.1) (txtR f ((c :: t).drop (escF 34 (c :: t)).2.2))) else catT [c] (txtR f t)
theorem txtR_nil (f : Nat) : txtR f [] = (0, []) := by cases f <;> rfl
theorem txtR_bad {f : Nat} {c : UInt8} {t : List UInt8} (h : c = 34 ∨ c = 10) : txtR (f + 1) (c :: t) = (8, []) := if_pos h
theorem txtR_one {f : Nat} {c : UInt8} {t : List UInt8} (h : ¬ (c = 34 ∨ c = 10)) (g : c ≠ 92) : txtR (f + 1) (c :: t) = catT [c] (txtR f t) := (if_neg h).trans (if_neg g)
theorem txtR_none {f : Nat} {t : List UInt8} {v : Int} {bt : Bool} (h : escF 34 (92 :: t) = (v, bt, 0)) : txtR (f + 1) (92 :: t) = (14, []) := by
 show (if _ then _ else _) = _
 rw [if_neg (by decide), if_pos rfl, h, if_pos rfl]
theorem txtR_esc {f : Nat} {t : List UInt8} {v : Int} {bt : Bool} {sz : Nat} (h : escF 34 (92 :: t) = (v, bt, sz)) (hs : sz ≠ 0) : txtR (f + 1) (92 :: t) = catT (encB v bt) (txtR f ((92 :: t).drop sz)) := by
 show (if _ then _ else _) = _
 rw [if_neg (by decide), if_pos rfl, h, if_neg hs]
theorem txtR_plain : ∀ (f : Nat) (l : List UInt8), (txtR f l).1 ≠ 0 → (txtR f l).2 = []
 | 0, _, h => absurd rfl h
 | _ + 1, [], h => absurd rfl h
 | f + 1, c :: t, h => by
  unfold txtR at h ⊢
  split
  ·rfl
  ·split
   ·split
    ·rfl
    ·rename_i h1 h2 h3
     rw [if_neg h1, if_pos h2, if_neg h3] at h
     unfold catT at h ⊢
     split
     ·rename_i h4; rw [if_pos h4] at h; exact absurd rfl h
     ·rfl
   ·rename_i h1 h2
    rw [if_neg h1, if_neg h2] at h
    unfold catT at h ⊢
    split
    ·rename_i h4; rw [if_pos h4] at h; exact absurd rfl h
    ·rfl
theorem rawR_plain : ∀ (l : List UInt8), (rawR l).1 ≠ 0 → (rawR l).2 = []
 | [], h => absurd rfl h
 | c :: t, h => by
  unfold rawR at h ⊢
  split
  ·rfl
  ·rename_i h1
   rw [if_neg h1] at h
   unfold catT at h ⊢
   split
   ·rename_i h4; rw [if_pos h4] at h; exact absurd rfl h
   ·rfl
def textF (l : List UInt8) : Nat × List UInt8 :=
 if betB 96 l = true then rawR (chrIn l) else if betB 34 l = true then txtR (l.length + 1) (chrIn l) else (8, [])
theorem numZ_len {B k : Nat} {l : List UInt8} (h : 0 ≤ numZ B k l) : k ≤ l.length := by
 rcases Nat.lt_or_ge l.length k with g | g
 ·rw [numZ_short g] at h; exact absurd h (by decide)
 ·exact g
theorem escF_size {q : UInt8} {l : List UInt8} {v : Int} {bt : Bool} {sz : Nat} (h : escF q l = (v, bt, sz)) (hs : sz ≠ 0) : 2 ≤ sz ∧ sz ≤ l.length ∧ sz ≤ 10 ∧ (bt = true → 0 ≤ v ∧ v < 256) ∧ (bt = false → U.isRune v = true) := by
 match l, h with
 | [], h => cases h; exact absurd rfl hs
 | [x], h => cases h; exact absurd rfl hs
 | x :: c :: t, h =>
  have hr : ∀ (z : Int) (n : Nat), runE z n = (v, bt, sz) → 2 ≤ n → n ≤ 10 → (0 ≤ z → n ≤ t.length + 2) → 2 ≤ sz ∧ sz ≤ t.length + 2 ∧ sz ≤ 10 ∧ (bt = true → 0 ≤ v ∧ v < 256) ∧ (bt = false → U.isRune v = true) := by
   intro z n hz h2 h10 hl
   unfold runE at hz
   split at hz
   ·rename_i g
    cases hz
    exact ⟨h2, hl g.1, h10, nofun, fun _ => g.2⟩
   ·cases hz; exact absurd rfl hs
  have hl : (x :: c :: t).length = t.length + 2 := rfl
  rw [hl]
  rw [escF_eq] at h
  split at h
  ·cases h
   refine ⟨Nat.le_refl _, by omega, by decide, fun _ => ⟨by omega, ?_⟩, nofun⟩
   unfold ltrF
   repeat' split
   all_goals decide
  ·split at h
   ·cases h
    exact ⟨Nat.le_refl _, by omega, by decide, fun _ => ⟨by omega, by have := c.toNat_lt; omega⟩, nofun⟩
   ·split at h
    ·split at h
     ·rename_i g
      cases h
      have h1 := numZ_len g
      have h2 := (numZ_lt 2 16 t (by decide)).1
      exact ⟨by decide, by omega, by decide, fun _ => ⟨g, by omega⟩, nofun⟩
     ·cases h; exact absurd rfl hs
    ·split at h
     ·exact hr _ _ h (by decide) (by decide) fun g => by have := numZ_len g; omega
     ·split at h
      ·exact hr _ _ h (by decide) (by decide) fun g => by have := numZ_len g; omega
      ·split at h
       ·rename_i g
        cases h
        have h1 := numZ_len g.1
        rw [List.length_cons] at h1
        exact ⟨by decide, by omega, by decide, fun _ => g, nofun⟩
       ·cases h; exact absurd rfl hs
end Go.Proofs.YtcieibidnpemjaaGreatDoor
