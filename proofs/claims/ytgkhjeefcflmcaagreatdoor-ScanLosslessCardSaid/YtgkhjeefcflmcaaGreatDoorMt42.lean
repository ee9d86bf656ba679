/-
  Layer 11 (scan): the program's Sound.
-/
import Derived.Test.YtgkhjeefcflmcaaGreatDoorMt39
import Derived.Test.YtgkhjeefcflmcaaGreatDoorMt41
import Derived.Test.YtgkhjeefcflmcaaGreatDoorMt01
import Derived.Test.YtgkhjeefcflmcaaGreatDoorMt40
import Derived.Test.YtgkhjeefcflmcaaGreatDoorMt33
import Derived.Test.YtgkhjeefcflmcaaGreatDoorMt00
import Derived.Deep.QuietTactic
import Derived.BigQuiet
namespace Go.Proofs.YtgkhjeefcflmcaaGreatDoor
open Go.RowKit Go.Sort
set_option linter.unusedSimpArgs false
set_option linter.unusedVariables false
def sndV (K : Nat) (O : Int) : Value := if K = 0 then .nilIface else errAt O K
set_option maxRecDepth 100000 in
set_option maxHeartbeats 8000000 in
theorem SoundP_run (A A2 : Option Addr) (n cap n2 cap2 B B2 : Nat) (l : List UInt8) (L : List Tk) (w : World) (KK : Kit11 w) (hb : Byts w B A (bi l)) (hB : B ≤ w.heap.size) (hn : l.length = n) (hm : n ≤ 900) (hcap : n ≤ cap) (hcm : cap ≤ 9223372036854775807)
  (hL : CellsV tkCells w B2 A2 L) (hB2 : B2 ≤ w.heap.size) (hl : L.length = n2) (hm2 : n2 ≤ 2000) {K : Nat} {O : Int} (hS : soundF l 0 0 L = (K, O)) :
  Calls Tryz.prog 11 #[.slice A n cap, .slice A2 n2 cap2] w fun e w' => e = .returned (sndV K O) ∧ Below w.heap.size w w' := by
 obtain ⟨S, hSz⟩ : ∃ S, w.heap.size = S := ⟨_, rfl⟩
 rw [hSz]
 rw [hSz] at hB hB2
 have HG : Hid (∀ (V : World) (e k : Nat), Below S w V → e ≤ n → k ≤ n - e → Calls Tryz.prog 16 #[.slice (if cap = e then A else A.map fun x => x.add e) k (cap - e)] V fun r w' => r = .returned (.bool (gapF ((l.drop e).take k))) ∧ Below V.heap.size V w') := fun V e k hV he hk => by
  have hsz : S ≤ V.heap.size := by rw [← hSz]; exact hV.size
  refine GapP_run _ k (cap - e) S _ V (KK.keep hSz hV) ?_ hsz (by rw [List.length_take, List.length_drop]; omega) (by omega) (by omega) (by omega)
  split
  ·next h =>
   have h0 : k = 0 := by omega
   subst h0
   exact Byts.nil
  ·exact (byts_sl (hb.below (B' := S) hV hB) e k).more hB
 have HL : Hid (∀ V, Below S w V → CellsV tkCells V S A2 L) := fun V hV => (hL.below hV hB2).more hB2
 have HZ : Hid (∀ V, Below S w V → S ≤ V.heap.size) := fun V hV => by rw [← hSz]; exact hV.size
 have HN := Lib.hid hn
 have HLN := Lib.hid hl
 have HS0 : Hid (soundF l 0 0 (L.drop 0) = (K, O)) := hS
 have HB0 : Hid (Below S w w) := Below.refl _ _
 clear hb hn hL hl hS hSz KK
 go_enter Tryz.func11, Tryz.ntmps11
 go_wp2_with fail
 go_loopg [5, 10] (n2 + 1) (fun h s5 s10 wr => ∃ e i : Nat, s5 = .int .i64 (e : Int) ∧ s10 = .int .i64 (i : Int) ∧ e ≤ n ∧ Hid (i ≤ n2 ∧ n2 < i + h) ∧ Hid (soundF l e i (L.drop i) = (K, O)) ∧ Hid (Below S w wr))
 case atStart => exact ⟨0, 0, rfl, rfl, Nat.zero_le _, by show _ ∧ _; omega, HS0, HB0⟩
 case round =>
  clear HS0 HB0
  obtain ⟨e, i, rfl, rfl, hen, HI, HV, HW⟩ := hrel
  by_cases hlt : i < n2
  ·have hltz : (i : Int) < (n2 : Int) := by omega
   obtain ⟨x, hx⟩ : ∃ x, L[i]? = some x := ⟨_, List.getElem?_eq_getElem (by rw [HLN.out]; exact hlt)⟩
   have hv := sound_cons hx HV.out
   rw [HN.out] at hv
   obtain ⟨g1, o1, rfl, hg1, a0, a1, a2, a3, a4⟩ := tk_get (HL.out wr HW.out) hx
   obtain ⟨k, f, t, au, en⟩ := x
   have c0 : wr.cell? ⟨g1, o1 + i * 5, none⟩ = some (.int .i64 k) := a0
   have c1 : wr.cell? ⟨g1, o1 + i * 5 + 1, none⟩ = some (.int .i64 f) := a1
   have c2 : wr.cell? ⟨g1, o1 + i * 5 + 2, none⟩ = some (.int .i64 t) := a2
   have c3 : wr.cell? ⟨g1, o1 + i * 5 + 3, none⟩ = some (.bool au) := a3
   have c4 : wr.cell? ⟨g1, o1 + i * 5 + 4, none⟩ = some (.int .i64 en) := a4
   obtain ⟨W7, hW7⟩ : ∃ W7, wr.alloc (.cells #[.int .i64 k, .int .i64 f, .int .i64 t, .bool au, .int .i64 en] 37) = W7 := ⟨_, rfl⟩
   have HTA : Hid (TAt W7 wr.heap.size ⟨k, f, t, au, en⟩) := by rw [← hW7]; exact TAt.new wr ⟨k, f, t, au, en⟩ _
   have HB7 : Hid (Below S w W7) := by rw [← hW7]; exact HW.out.alloc (HZ.out _ HW.out) _
   have HW7 := Lib.hid hW7
   simp only [] at hv
   have hi9 : i ≤ 2000 := by omega
   clear a0 a1 a2 a3 a4 hx HV hW7 HL
   by_cases hbad : f > t ∨ f < e ∨ t > n
   ·rw [if_pos hbad] at hv
    cases hv
    have hcs : f > t ∨ (¬ f > t ∧ f < e) ∨ (¬ f > t ∧ ¬ f < e ∧ t > n) := by omega
    clear hbad HG
    rcases hcs with h1 | ⟨h1, h2⟩ | ⟨h1, h2, h3⟩
    ·have b1 : t < f := h1
     go_wp2_with fail
     rw [HW7.out]
     obtain ⟨e0, e1, e2, e3, e4, _, _, _, _, _⟩ := HTA.out
     clear c0 c1 c2 c3 c4 HW7 HTA
     simp only [] at e0 e1 e2 e3 e4
     go_wp2_with fail
     go_ret
     exact ⟨rfl, HB7.out⟩
    ·have b1 : ¬ t < f := h1
     go_wp2_with fail
     rw [HW7.out]
     obtain ⟨e0, e1, e2, e3, e4, _, _, _, _, _⟩ := HTA.out
     clear c0 c1 c2 c3 c4 HW7 HTA
     simp only [] at e0 e1 e2 e3 e4
     go_wp2_with fail
     go_ret
     exact ⟨rfl, HB7.out⟩
    ·have b1 : ¬ t < f := h1
     have b3 : (n : Int) < t := h3
     go_wp2_with fail
     rw [HW7.out]
     obtain ⟨e0, e1, e2, e3, e4, _, _, _, _, _⟩ := HTA.out
     clear c0 c1 c2 c3 c4 HW7 HTA
     simp only [] at e0 e1 e2 e3 e4
     go_wp2_with fail
     go_ret
     exact ⟨rfl, HB7.out⟩
   ·rw [if_neg hbad] at hv
    obtain ⟨F, rfl⟩ : ∃ F : Nat, f = (F : Int) := ⟨f.toNat, by omega⟩
    obtain ⟨T, rfl⟩ : ∃ T : Nat, t = (T : Int) := ⟨t.toNat, by omega⟩
    rw [Int.toNat_natCast, Int.toNat_natCast] at hv
    have h1 : ¬ T < F := by omega
    have h2 : ¬ F < e := by omega
    have h3 : ¬ n < T := by omega
    have h4 : e ≤ F := by omega
    have h5 : F ≤ n := by omega
    have h6 : T ≤ n := by omega
    have h7 : F ≤ cap := by omega
    have hF9 : F ≤ 900 := by omega
    have hT9 : T ≤ 900 := by omega
    have HC := Lib.hid (HG.out W7 e (F - e) HB7.out hen (by omega))
    obtain ⟨g, hg⟩ : ∃ g, gapF ((l.drop e).take (F - e)) = g := ⟨_, rfl⟩
    rw [hg] at hv HC
    have HVV := Lib.hid hv
    have HGE := Lib.hid hg
    clear hbad HG hg hv
    by_cases hce : cap = e
    ·subst hce
     have hF0 : F - cap = 0 := by omega
     rw [if_pos rfl, hF0, Nat.sub_self] at HC
     have HC0 := HC
     have hg0 : g = true := by
      rw [← HGE.out, hF0, List.take_zero]
      rfl
     subst hg0
     have HV2 : Hid (soundF l T (i + 1) (L.drop (i + 1)) = (K, O)) := HVV.out
     clear HVV HGE HC
     go_wp2_with fail
     rw [HW7.out]
     obtain ⟨e0, e1, e2, e3, e4, _, _, _, _, _⟩ := HTA.out
     clear c0 c1 c2 c3 c4 HW7
     simp only [] at e0 e1 e2 e3 e4
     go_wp2_with fail
     refine (HC0.out).mono ?_
     rintro r w' ⟨rfl, hw'⟩
     have HB8 := Lib.hid (HB7.out.trans (hw'.mono (HZ.out _ HB7.out)))
     have m2 : w'.cell? ⟨wr.heap.size, 2, none⟩ = some (.int .i64 (T : Int)) := (hw'.cell (p := ⟨_, 2, none⟩) HTA.out.lt).trans e2
     clear e0 e1 e2 e3 e4 hw' HTA
     go_wp2_with fail
     go_roundg (n2 - i)
     case measure => have := HI.out; omega
     case rel => exact ⟨T, i + 1, rfl, by go_num, h6, by show _ ∧ _; have := HI.out; omega, HV2, HB8⟩
    ·rw [if_neg hce] at HC
     go_wp2_with fail
     rw [HW7.out]
     obtain ⟨e0, e1, e2, e3, e4, _, _, _, _, _⟩ := HTA.out
     clear c0 c1 c2 c3 c4 HW7
     simp only [] at e0 e1 e2 e3 e4
     go_wp2_with fail
     refine (HC.out).mono ?_
     rintro r w' ⟨rfl, hw'⟩
     have HB8 := Lib.hid (HB7.out.trans (hw'.mono (HZ.out _ HB7.out)))
     have m2 : w'.cell? ⟨wr.heap.size, 2, none⟩ = some (.int .i64 (T : Int)) := (hw'.cell (p := ⟨_, 2, none⟩) HTA.out.lt).trans e2
     clear e0 e1 e2 e3 e4 hw' HTA HC
     cases g
     ·cases HVV.out
      clear HVV
      go_wp2_with fail
      go_ret
      exact ⟨rfl, HB8.out⟩
     ·have HV2 : Hid (soundF l T (i + 1) (L.drop (i + 1)) = (K, O)) := HVV.out
      clear HVV
      go_wp2_with fail
      go_roundg (n2 - i)
      case measure => have := HI.out; omega
      case rel => exact ⟨T, i + 1, rfl, by go_num, h6, by show _ ∧ _; have := HI.out; omega, HV2, HB8⟩
  ·have hltz : ¬ (i : Int) < (n2 : Int) := by omega
   have hii : i = n2 := by have := HI.out.1; omega
   have hv := sound_nil (by rw [HLN.out]; omega) HV.out
   have HC : Hid (Calls Tryz.prog 16 #[.slice (if cap = e then A else A.map fun x => x.add e) (n - e) (cap - e)] wr fun r w' => r = .returned (.bool (gapF (l.drop e))) ∧ Below wr.heap.size wr w') := by
    have := HG.out wr e (n - e) HW.out hen (Nat.le_refl _)
    rw [List.take_of_length_le (by rw [List.length_drop, HN.out]; exact Nat.le_refl _)] at this
    exact this
   obtain ⟨g, hg⟩ : ∃ g, gapF (l.drop e) = g := ⟨_, rfl⟩
   rw [hg] at hv HC
   subst hii
   have HVV := Lib.hid hv
   have HGE := Lib.hid hg
   clear HG hg HV hv HL
   by_cases hce : cap = e
   ·subst hce
    have hc0 : n - cap = 0 := by omega
    rw [if_pos rfl, hc0, Nat.sub_self] at HC
    have hg0 : g = true := by
     rw [← HGE.out, List.drop_of_length_le (by rw [HN.out]; omega)]
     rfl
    subst hg0
    cases HVV.out
    clear HVV HGE
    go_wp2_with fail
    refine HC.out.mono ?_
    rintro r w' ⟨rfl, hw'⟩
    have HB8 := Lib.hid (HW.out.trans (hw'.mono (HZ.out _ HW.out)))
    clear hw'
    go_wp2_with fail
    go_ret
    exact ⟨rfl, HB8.out⟩
   ·rw [if_neg hce] at HC
    go_wp2_with fail
    refine HC.out.mono ?_
    rintro r w' ⟨rfl, hw'⟩
    have HB8 := Lib.hid (HW.out.trans (hw'.mono (HZ.out _ HW.out)))
    clear hw'
    cases g
    ·cases HVV.out
     clear HVV
     go_wp2_with fail
     go_ret
     exact ⟨rfl, HB8.out⟩
    ·cases HVV.out
     clear HVV
     go_wp2_with fail
     go_ret
     exact ⟨rfl, HB8.out⟩
end Go.Proofs.YtgkhjeefcflmcaaGreatDoor
namespace Go.Proofs.YtgkhjeefcflmcaaGreatDoor
open Go.RowKit Go.Sort
set_option linter.unusedSimpArgs false
set_option linter.unusedVariables false
def txtF (l : List UInt8) (f t : Int) : ByteArray := if f < 0 ∨ f > t ∨ t > l.length then bs [] else bs ((l.drop f.toNat).take (t.toNat - f.toNat))
theorem conv_sl {V : World} {B : Nat} {A : Option Addr} {l : List UInt8} {n cap e k : Nat} (hb : Byts V B A (bi l)) (hn : l.length = n) (he : e ≤ n) (hk : k ≤ n - e) :
  (convert 22 9 (.slice (A.map fun x => x.add e) k (cap - e))).run Tryz.prog V = .ok (.string (bs ((l.drop e).take k))) V := by
 rw [← bi_str]
 exact conv_bytes (byts_sl hb e k) k (cap - e) (by rw [bi_length, List.length_take, List.length_drop]; omega)
theorem conv_no {V : World} {A : Option Addr} : (convert 22 9 (.slice A 0 0)).run Tryz.prog V = .ok (.string (bs [])) V := by
 rw [← bi_str]
 exact conv_bytes (B := 0) Byts.nil 0 0 rfl
set_option maxRecDepth 100000 in
set_option maxHeartbeats 8000000 in
theorem TextT_run (A : Option Addr) (n cap B : Nat) (l : List UInt8) (k f t : Int) (au : Bool) (en : Int) (w : World) (hb : Byts w B A (bi l)) (hB : B ≤ w.heap.size) (hn : l.length = n) (hm : n ≤ 900) (hcap : n ≤ cap) :
  Calls Tryz.prog 13 #[.slice A n cap, .agg #[.int .i64 k, .int .i64 f, .int .i64 t, .bool au, .int .i64 en]] w fun e w' => e = .returned (.string (txtF l f t)) ∧ Below w.heap.size w w' := by
 obtain ⟨W7, hW7⟩ : ∃ W7, w.alloc (.cells #[.int .i64 k, .int .i64 f, .int .i64 t, .bool au, .int .i64 en] 37) = W7 := ⟨_, rfl⟩
 have HTA : Hid (TAt W7 w.heap.size ⟨k, f, t, au, en⟩) := by rw [← hW7]; exact TAt.new w ⟨k, f, t, au, en⟩ _
 have HB7 : Hid (Below w.heap.size w W7) := by rw [← hW7]; exact (Below.refl _ _).alloc (Nat.le_refl _) _
 have HBy : Hid (Byts W7 w.heap.size A (bi l)) := (hb.below HB7.out hB).more hB
 have HW7 := Lib.hid hW7
 have HN := Lib.hid hn
 clear hb hB hn hW7
 by_cases hbad : f < 0 ∨ f > t ∨ t > n
 ·have hx : txtF l f t = bs [] := if_pos (by rw [HN.out]; exact hbad)
  rw [hx]
  have hcs : f < 0 ∨ (¬ f < 0 ∧ f > t) ∨ (¬ f < 0 ∧ ¬ f > t ∧ t > n) := by omega
  clear hbad hx
  rcases hcs with h1 | ⟨h1, h2⟩ | ⟨h1, h2, h3⟩
  ·go_enter Tryz.func13, Tryz.ntmps13
   go_wp2_with fail
   rw [HW7.out]
   obtain ⟨e0, e1, e2, e3, e4, _, _, _, _, _⟩ := HTA.out
   simp only [] at e1 e2
   clear HTA HW7
   go_wp2_with fail
   go_ret
   exact ⟨rfl, HB7.out⟩
  ·have b1 : decide (f < 0) = false := decide_eq_false h1
   have b2 : t < f := h2
   go_enter Tryz.func13, Tryz.ntmps13
   go_wp2_with fail
   rw [HW7.out]
   obtain ⟨e0, e1, e2, e3, e4, _, _, _, _, _⟩ := HTA.out
   simp only [] at e1 e2
   clear HTA HW7
   go_wp2_with fail
   go_ret
   exact ⟨rfl, HB7.out⟩
  ·have b1 : decide (f < 0) = false := decide_eq_false h1
   have b2 : decide (t < f) = false := decide_eq_false h2
   have b3 : (n : Int) < t := h3
   go_enter Tryz.func13, Tryz.ntmps13
   go_wp2_with fail
   rw [HW7.out]
   obtain ⟨e0, e1, e2, e3, e4, _, _, _, _, _⟩ := HTA.out
   simp only [] at e1 e2
   clear HTA HW7
   go_wp2_with fail
   go_ret
   exact ⟨rfl, HB7.out⟩
 ·obtain ⟨F, rfl⟩ : ∃ F : Nat, f = (F : Int) := ⟨f.toNat, by omega⟩
  obtain ⟨T, rfl⟩ : ∃ T : Nat, t = (T : Int) := ⟨t.toNat, by omega⟩
  have hx : txtF l F T = bs ((l.drop F).take (T - F)) := by
   unfold txtF
   rw [HN.out, if_neg hbad, Int.toNat_natCast, Int.toNat_natCast]
  rw [hx]
  have b2 : decide (T < F) = false := decide_eq_false (by omega)
  have b3 : decide (n < T) = false := decide_eq_false (by omega)
  have b0 : decide ((F : Int) < 0) = false := decide_eq_false (by omega)
  have h4 : F ≤ T := by omega
  have h5 : T ≤ n := by omega
  have h6 : T ≤ cap := by omega
  have hF9 : F ≤ 900 := by omega
  have hT9 : T ≤ 900 := by omega
  clear hbad hx
  by_cases hce : cap = F
  ·subst hce
   have hT : T = cap := by omega
   subst hT
   have hl0 : (l.drop T).take (T - T) = [] := by rw [Nat.sub_self, List.take_zero]
   rw [hl0]
   have hcv := conv_no (V := W7) (A := A)
   clear hl0
   go_enter Tryz.func13, Tryz.ntmps13
   go_wp2_with fail
   rw [HW7.out]
   obtain ⟨e0, e1, e2, e3, e4, _, _, _, _, _⟩ := HTA.out
   simp only [] at e1 e2
   clear HTA HW7
   go_wp2_with fail
   go_ret
   exact ⟨rfl, HB7.out⟩
  ·have hcv := conv_sl (cap := cap) HBy.out HN.out (e := F) (k := T - F) (by omega) (by omega)
   obtain ⟨y, hy⟩ : ∃ y, bs ((l.drop F).take (T - F)) = y := ⟨_, rfl⟩
   rw [hy] at hcv ⊢
   clear hy
   go_enter Tryz.func13, Tryz.ntmps13
   go_wp2_with fail
   rw [HW7.out]
   obtain ⟨e0, e1, e2, e3, e4, _, _, _, _, _⟩ := HTA.out
   simp only [] at e1 e2
   clear HTA HW7
   go_wp2_with fail
   go_ret
   exact ⟨rfl, HB7.out⟩
end Go.Proofs.YtgkhjeefcflmcaaGreatDoor
namespace Go.Proofs.YtgkhjeefcflmcaaGreatDoor
open Go.RowKit Go.Sort
set_option linter.unusedSimpArgs false
set_option linter.unusedVariables false
theorem sound_o {all : List UInt8} : ∀ (L : List Tk) (e i : Nat), (soundF all e i L).1 = 0 → (soundF all e i L).2 = -1
 | [], e, i, h => by
  unfold soundF at h ⊢
  split
  ·rfl
  ·next hn => rw [if_neg hn] at h; cases h
 | t :: L, e, i, h => by
  unfold soundF at h ⊢
  split
  ·next hn => rw [if_pos hn] at h; cases h
  ·next hn =>
   rw [if_neg hn] at h
   split
   ·next hg => rw [if_pos hg] at h; exact sound_o L _ _ h
   ·next hg => rw [if_neg hg] at h; cases h
theorem snd_code {l : List UInt8} {L : List Tk} {K : Nat} {O : Int} (h : soundF l 0 0 L = (K, O)) (w : World) : Calls Tryz.prog 18 #[sndV K O] w fun e w' => e = .returned (.int .i64 (K : Int)) ∧ Below w.heap.size w w' := by
 have hk := sound_e (all := l) L 0 0
 rw [h] at hk
 unfold sndV
 rcases hk with rfl | rfl | rfl
 ·exact code_nil w
 ·exact code_at O 5 (by omega) (by omega) w
 ·exact code_at O 8 (by omega) (by omega) w
theorem snd_off {l : List UInt8} {L : List Tk} {K : Nat} {O : Int} (h : soundF l 0 0 L = (K, O)) (w : World) (hg : ErrType w) : Calls Tryz.prog 19 #[sndV K O] w fun e w' => e = .returned (.int .i64 O) ∧ Below w.heap.size w w' := by
 have hk := sound_e (all := l) L 0 0
 have ho := sound_o (all := l) L 0 0
 rw [h] at hk ho
 unfold sndV
 rcases hk with rfl | rfl | rfl
 ·rw [show O = -1 from ho rfl]
  exact off_nil w
 ·exact off_at O 5 w hg
 ·exact off_at O 8 w hg
set_option maxRecDepth 100000 in
set_option maxHeartbeats 8000000 in
theorem Tells_law (A1 A2 : Option Addr) (n1 cap1 n2 cap2 : Nat) (l1 : List UInt8) (L2 : List Tk) (r : Int) (w : World) (hb1 : Byts w w.heap.size A1 (bi l1)) (hb2 : CellsV tkCells w w.heap.size A2 L2) (hn1 : l1.length = n1) (hn2 : L2.length = n2) (hcap1 : n1 ≤ cap1) (hcap2 : n2 ≤ cap2)
  (hcm1 : cap1 ≤ 9223372036854775807) (hcm2 : cap2 ≤ 9223372036854775807) (hr0 : -2147483648 ≤ r) (hr1 : r ≤ 2147483647) (K : Kit11 w) :
  Calls Tryz.prog 4 #[.slice A1 n1 cap1, .slice A2 n2 cap2, .int .i32 r] w fun e w' => e = .returned (.bool true) ∧ Below w.heap.size w w' := by
 obtain ⟨m1, hm1⟩ : ∃ m, min n1 100 = m := ⟨_, rfl⟩
 obtain ⟨m2, hm2⟩ : ∃ m, min n2 40 = m := ⟨_, rfl⟩
 have hmz1 : min (n1 : Int) 100 = (m1 : Int) := by omega
 have hmz2 : min (n2 : Int) 40 = (m2 : Int) := by omega
 have hmn1 : m1 ≤ n1 := by omega
 have hmn2 : m2 ≤ n2 := by omega
 have hmc1 : m1 ≤ cap1 := by omega
 have hmc2 : m2 ≤ cap2 := by omega
 have h100 : m1 ≤ 100 := by omega
 have h200 : m2 ≤ 40 := by omega
 have hbt1 := hb1.take m1
 rw [bi_take] at hbt1
 have hbt2 := hb2.take tk_enc m2
 obtain ⟨ta, hta⟩ : ∃ t, l1.take m1 = t := ⟨_, rfl⟩
 obtain ⟨La, hLa⟩ : ∃ t, L2.take m2 = t := ⟨_, rfl⟩
 have hl1 : ta.length = m1 := by rw [← hta, List.length_take]; omega
 have hl2 : La.length = m2 := by rw [← hLa, List.length_take]; omega
 rw [hta] at hbt1
 rw [hLa] at hbt2
 obtain ⟨S, hS⟩ : ∃ S, w.heap.size = S := ⟨_, rfl⟩
 have HZ1 : Hid (∀ V, Below S w V → S ≤ V.heap.size) := fun V h => by rw [← hS]; exact h.size
 have HK : Hid (∀ V, Below S w V → Kit11 V) := fun V h => K.keep hS h
 have HBY1 : Hid (∀ V, Below S w V → Byts V S A1 (bi ta)) := fun V h => by rw [hS] at hbt1; exact hbt1.below h (Nat.le_refl _)
 have HLS : Hid (∀ V, Below S w V → CellsV tkCells V S A2 La) := fun V h => by rw [hS] at hbt2; exact hbt2.below h (Nat.le_refl _)
 obtain ⟨KK, O, hKO⟩ : ∃ KK O, soundF ta 0 0 La = (KK, O) := ⟨_, _, rfl⟩
 have HSP : Hid (∀ V, Below S w V → Calls Tryz.prog 11 #[.slice A1 m1 cap1, .slice A2 m2 cap2] V fun e w' => e = .returned (sndV KK O) ∧ Below V.heap.size V w') := fun V h =>
  SoundP_run A1 A2 m1 cap1 m2 cap2 S S ta La V (HK.out V h) (HBY1.out V h) (HZ1.out V h) hl1 (by omega) hmc1 hcm1 (HLS.out V h) (HZ1.out V h) hl2 (by omega) hKO
 have HSD : Hid (∀ V, Below S w V → Calls Tryz.prog 12 #[.slice A1 m1 cap1, .slice A2 m2 cap2] V fun e w' => e = .returned (.tuple #[.int .i64 (KK : Int), .int .i64 O]) ∧ ∃ q, w' = V.drewN q) := fun V h =>
  SoundD_run A1 A2 m1 cap1 m2 cap2 ta La V S S (HBY1.out V h) hl1 (by omega) hmc1 (HLS.out V h) hl2 (by omega) hKO
 have HGP : Hid (∀ V, Below S w V → Calls Tryz.prog 16 #[.slice A1 m1 cap1] V fun e w' => e = .returned (.bool (gapF ta)) ∧ Below V.heap.size V w') := fun V h =>
  GapP_run A1 m1 cap1 S ta V (HK.out V h) (HBY1.out V h) (HZ1.out V h) hl1 (by omega) hmc1 hcm1
 have HGD : Hid (∀ V, Below S w V → Calls Tryz.prog 17 #[.slice A1 m1 cap1] V fun e w' => e = .returned (.bool (gapF ta)) ∧ w' = V) := fun V h =>
  GapD_run A1 m1 cap1 ta V S (HBY1.out V h) hl1 (by omega) hmc1
 have HCO : Hid (∀ V, Calls Tryz.prog 18 #[sndV KK O] V fun e w' => e = .returned (.int .i64 (KK : Int)) ∧ Below V.heap.size V w') := fun V => snd_code hKO V
 have HOF : Hid (∀ V, Below S w V → Calls Tryz.prog 19 #[sndV KK O] V fun e w' => e = .returned (.int .i64 O) ∧ Below V.heap.size V w') := fun V h => snd_off hKO V (HK.out V h).et
 have HTT : Hid (∀ (V : World) (k f t : Int) (au : Bool) (en : Int), Below S w V → Calls Tryz.prog 13 #[.slice A1 m1 cap1, .agg #[.int .i64 k, .int .i64 f, .int .i64 t, .bool au, .int .i64 en]] V fun e w' => e = .returned (.string (txtF ta f t)) ∧ Below V.heap.size V w') := fun V k f t au en h =>
  TextT_run A1 m1 cap1 S ta k f t au en V (HBY1.out V h) (HZ1.out V h) hl1 (by omega) hmc1
 have HB0 : Hid (Below S w w) := Below.refl _ _
 have HL1 := Lib.hid hl1
 have HL2 := Lib.hid hl2
 obtain ⟨gg, hgg⟩ : ∃ g, gapF ta = g := ⟨_, rfl⟩
 rw [hgg] at HGP HGD
 obtain ⟨lb, hlb⟩ : ∃ g, letB r = g := ⟨_, rfl⟩
 have HLP : Hid (∀ V, Calls Tryz.prog 14 #[.int .i32 r] V fun e w' => e = .returned (.bool lb) ∧ w' = V) := fun V => by rw [← hlb]; exact LetterP_run r V
 have HLD : Hid (∀ V, Calls Tryz.prog 15 #[.int .i64 r] V fun e w' => e = .returned (.bool lb) ∧ w' = V) := fun V => by rw [← hlb]; exact LetterD_run r V
 rw [hS]
 clear hb1 hb2 hbt1 hbt2 hn1 hn2 K hta hLa hm1 hm2 hS hl1 hl2 hKO hgg hlb
 go_enter Tryz.func4, Tryz.ntmps4
 go_wp2_with fail
 go_quiet (fail)
 have B1 := Lib.hid (below_drewN HB0.out nq)
 generalize w.drewN nq = W at *
 go_wp2_with fail
 refine (HSP.out W B1.out).mono ?_
 rintro e V2 ⟨rfl, hb2⟩
 have B2 := Lib.hid (B1.out.trans (hb2.mono (HZ1.out _ B1.out)))
 clear hb2
 obtain ⟨er, her⟩ : ∃ er, sndV KK O = er := ⟨_, rfl⟩
 rw [her] at HCO HOF ⊢
 clear her HSP
 go_wp2_with fail
 refine (HSD.out V2 B2.out).mono ?_
 rintro e V3 ⟨rfl, q, rfl⟩
 have B3 := Lib.hid (below_drewN B2.out q)
 generalize V2.drewN q = V3 at *
 clear HSD
 go_wp2_with fail
 go_loopg [34] (m2 + 1) (fun h s34 wr => ∃ i : Nat, s34 = .int .i64 (i : Int) ∧ Hid (i ≤ m2 ∧ m2 < i + h) ∧ Hid (Below S w wr))
 case atStart => exact ⟨0, rfl, by show _ ∧ _; omega, B3⟩
 case round =>
  obtain ⟨i, rfl, HI, HW⟩ := hrel
  by_cases hlt : i < m2
  ·have hltz : (i : Int) < (m2 : Int) := by omega
   obtain ⟨x, hx⟩ : ∃ x, La[i]? = some x := ⟨_, List.getElem?_eq_getElem (by rw [HL2.out]; exact hlt)⟩
   obtain ⟨g1, o1, rfl, hg1, a0, a1, a2, a3, a4⟩ := tk_get (HLS.out wr HW.out) hx
   obtain ⟨k, f, t, au, en⟩ := x
   have c0 : wr.cell? ⟨g1, o1 + i * 5, none⟩ = some (.int .i64 k) := a0
   have c1 : wr.cell? ⟨g1, o1 + i * 5 + 1, none⟩ = some (.int .i64 f) := a1
   have c2 : wr.cell? ⟨g1, o1 + i * 5 + 2, none⟩ = some (.int .i64 t) := a2
   have c3 : wr.cell? ⟨g1, o1 + i * 5 + 3, none⟩ = some (.bool au) := a3
   have c4 : wr.cell? ⟨g1, o1 + i * 5 + 4, none⟩ = some (.int .i64 en) := a4
   obtain ⟨W7, hW7⟩ : ∃ W7, wr.alloc (.cells #[.int .i64 k, .int .i64 f, .int .i64 t, .bool au, .int .i64 en] 37) = W7 := ⟨_, rfl⟩
   have HTA : Hid (TAt W7 wr.heap.size ⟨k, f, t, au, en⟩) := by rw [← hW7]; exact TAt.new wr ⟨k, f, t, au, en⟩ _
   have HB7 : Hid (Below S w W7) := by rw [← hW7]; exact HW.out.alloc (HZ1.out _ HW.out) _
   have HW7 := Lib.hid hW7
   have hi9 : i ≤ 2000 := by omega
   have HTX := Lib.hid (HTT.out W7 k f t au en HB7.out)
   have HBW := Lib.hid (HBY1.out W7 HB7.out)
   clear a0 a1 a2 a3 a4 hx hW7 HLS HTT HGP HGD HCO HOF HLP HLD HBY1 HK
   by_cases hbad : f < 0 ∨ f > t ∨ t > m1
   ·have hxx : txtF ta f t = ⟨#[]⟩ := if_pos (by rw [HL1.out]; exact hbad)
    rw [hxx] at HTX
    have hcs : f < 0 ∨ (¬ f < 0 ∧ f > t) ∨ (¬ f < 0 ∧ ¬ f > t ∧ t > m1) := by omega
    clear hbad hxx HBW
    rcases hcs with h1 | ⟨h1, h2⟩ | ⟨h1, h2, h3⟩
    ·have b1 : decide (0 ≤ f) = false := decide_eq_false (by omega)
     go_wp2_with fail
     rw [HW7.out]
     obtain ⟨e0, e1, e2, e3, e4, _, _, _, _, _⟩ := HTA.out
     simp only [] at e0 e1 e2 e3 e4
     clear c0 c1 c2 c3 c4 HW7 HTA
     go_wp2_with fail
     refine HTX.out.mono ?_
     rintro e w' ⟨rfl, hw'⟩
     have HB8 := Lib.hid (HB7.out.trans (hw'.mono (HZ1.out _ HB7.out)))
     clear hw' HTX e0 e1 e2 e3 e4
     go_wp2_with fail
     go_roundg (m2 - i)
     case measure => have := HI.out; omega
     case rel => exact ⟨i + 1, by go_num, by show _ ∧ _; have := HI.out; omega, HB8⟩
    ·have b1 : 0 ≤ f := by omega
     have b2 : decide (f ≤ t) = false := decide_eq_false (by omega)
     go_wp2_with fail
     rw [HW7.out]
     obtain ⟨e0, e1, e2, e3, e4, _, _, _, _, _⟩ := HTA.out
     simp only [] at e0 e1 e2 e3 e4
     clear c0 c1 c2 c3 c4 HW7 HTA
     go_wp2_with fail
     refine HTX.out.mono ?_
     rintro e w' ⟨rfl, hw'⟩
     have HB8 := Lib.hid (HB7.out.trans (hw'.mono (HZ1.out _ HB7.out)))
     clear hw' HTX e0 e1 e2 e3 e4
     go_wp2_with fail
     go_roundg (m2 - i)
     case measure => have := HI.out; omega
     case rel => exact ⟨i + 1, by go_num, by show _ ∧ _; have := HI.out; omega, HB8⟩
    ·have b1 : 0 ≤ f := by omega
     have b2 : f ≤ t := by omega
     have b3 : decide (t ≤ (m1 : Int)) = false := decide_eq_false (by omega)
     go_wp2_with fail
     rw [HW7.out]
     obtain ⟨e0, e1, e2, e3, e4, _, _, _, _, _⟩ := HTA.out
     simp only [] at e0 e1 e2 e3 e4
     clear c0 c1 c2 c3 c4 HW7 HTA
     go_wp2_with fail
     refine HTX.out.mono ?_
     rintro e w' ⟨rfl, hw'⟩
     have HB8 := Lib.hid (HB7.out.trans (hw'.mono (HZ1.out _ HB7.out)))
     clear hw' HTX e0 e1 e2 e3 e4
     go_wp2_with fail
     go_roundg (m2 - i)
     case measure => have := HI.out; omega
     case rel => exact ⟨i + 1, by go_num, by show _ ∧ _; have := HI.out; omega, HB8⟩
   ·obtain ⟨F, rfl⟩ : ∃ F : Nat, f = (F : Int) := ⟨f.toNat, by omega⟩
    obtain ⟨T, rfl⟩ : ∃ T : Nat, t = (T : Int) := ⟨t.toNat, by omega⟩
    have hxx : txtF ta F T = bs ((ta.drop F).take (T - F)) := by
     unfold txtF
     rw [HL1.out, if_neg hbad, Int.toNat_natCast, Int.toNat_natCast]
    rw [hxx] at HTX
    have h4 : F ≤ T := by omega
    have h5 : T ≤ m1 := by omega
    have h6 : T ≤ cap1 := by omega
    have hF9 : F ≤ 900 := by omega
    have hT9 : T ≤ 900 := by omega
    clear hbad hxx
    by_cases hce : cap1 = F
    ·subst hce
     have hT : T = cap1 := by omega
     subst hT
     have hl0 : bs ((ta.drop T).take (T - T)) = bs [] := by rw [Nat.sub_self, List.take_zero]
     rw [hl0] at HTX
     have hcv := conv_no (V := W7) (A := A1)
     clear hl0
     go_wp2_with fail
     rw [HW7.out]
     obtain ⟨e0, e1, e2, e3, e4, _, _, _, _, _⟩ := HTA.out
     simp only [] at e0 e1 e2 e3 e4
     clear c0 c1 c2 c3 c4 HW7 HTA
     go_wp2_with fail
     rw [hcv]
     go_wp2_with fail
     refine HTX.out.mono ?_
     rintro e w' ⟨rfl, hw'⟩
     have HB8 := Lib.hid (HB7.out.trans (hw'.mono (HZ1.out _ HB7.out)))
     clear hw' HTX e0 e1 e2 e3 e4
     go_wp2_with fail
     go_roundg (m2 - i)
     case measure => have := HI.out; omega
     case rel => exact ⟨i + 1, by go_num, by show _ ∧ _; have := HI.out; omega, HB8⟩
    ·have hcv := conv_sl (cap := cap1) HBW.out HL1.out (e := F) (k := T - F) (by omega) (by omega)
     obtain ⟨y, hy⟩ : ∃ y, bs ((ta.drop F).take (T - F)) = y := ⟨_, rfl⟩
     rw [hy] at hcv HTX
     clear hy
     go_wp2_with fail
     rw [HW7.out]
     obtain ⟨e0, e1, e2, e3, e4, _, _, _, _, _⟩ := HTA.out
     simp only [] at e0 e1 e2 e3 e4
     clear c0 c1 c2 c3 c4 HW7 HTA
     go_wp2_with fail
     rw [hcv]
     go_wp2_with fail
     refine HTX.out.mono ?_
     rintro e w' ⟨rfl, hw'⟩
     have HB8 := Lib.hid (HB7.out.trans (hw'.mono (HZ1.out _ HB7.out)))
     clear hw' HTX e0 e1 e2 e3 e4
     go_wp2_with fail
     go_roundg (m2 - i)
     case measure => have := HI.out; omega
     case rel => exact ⟨i + 1, by go_num, by show _ ∧ _; have := HI.out; omega, HB8⟩
  ·have hltz : ¬ (i : Int) < (m2 : Int) := by omega
   clear HTT HLS HBY1
   go_wp2_with fail
   refine (HLP.out wr).mono ?_
   rintro e w' ⟨rfl, rfl⟩
   go_wp2_with fail
   refine (HLD.out _).mono ?_
   rintro e w' ⟨rfl, rfl⟩
   go_wp2_with fail
   refine (HGP.out _ HW.out).mono ?_
   rintro e V4 ⟨rfl, hb4⟩
   have B4 := Lib.hid (HW.out.trans (hb4.mono (HZ1.out _ HW.out)))
   clear hb4
   go_wp2_with fail
   refine (HGD.out _ B4.out).mono ?_
   rintro e w' ⟨rfl, rfl⟩
   go_wp2_with fail
   refine (HCO.out _).mono ?_
   rintro e V5 ⟨rfl, hb5⟩
   have B5 := Lib.hid (B4.out.trans (hb5.mono (HZ1.out _ B4.out)))
   clear hb5
   go_wp2_with fail
   refine (HOF.out _ B5.out).mono ?_
   rintro e V6 ⟨rfl, hb6⟩
   have B6 := Lib.hid (B5.out.trans (hb6.mono (HZ1.out _ B5.out)))
   clear hb6
   go_wp2_with fail
   refine (works11_run _ (HK.out _ B6.out)).mono ?_
   rintro e V7 ⟨rfl, hb7⟩
   have B7 := Lib.hid (B6.out.trans (hb7.mono (HZ1.out _ B6.out)))
   go_wp2_with fail
   go_ret
   exact ⟨rfl, B7.out⟩
end Go.Proofs.YtgkhjeefcflmcaaGreatDoor
namespace Go.Proofs.YtgkhjeefcflmcaaGreatDoor
open Go.RowKit Go.Sort
theorem tells_any (A1 : Option Addr) (n1 cap1 : Nat) (l1 : List Int) (A2 : Option Addr) (n2 cap2 : Nat) (L2 : List Tk) (r : Int) (W : World) (hb1 : Byts W W.heap.size A1 l1) (hl1 : l1.length = n1) (hc1 : n1 ≤ cap1) (hm1 : cap1 ≤ 9223372036854775807) (hb2 : CellsV tkCells W W.heap.size A2 L2) (hl2 : L2.length = n2) (hc2 : n2 ≤ cap2) (hm2 : cap2 ≤ 9223372036854775807) (hr0 : -2147483648 ≤ r) (hr1 : r ≤ 2147483647) (hs : Ml W) (hh : TabAt W ∧ Heads W ∧ ErrVars W ∧ ErrType W) :
  Calls Tryz.prog 4 #[.slice A1 n1 cap1, .slice A2 n2 cap2, .int .i32 r] W fun e w' => e = .returned (.bool true) ∧ Below W.heap.size W w' := by
 obtain ⟨m1, rfl⟩ := bi_back l1 hb1.1
 rw [bi_length] at hl1
 exact Tells_law A1 A2 n1 cap1 n2 cap2 m1 L2 r W hb1 hb2 hl1 hl2 hc1 hc2 hm1 hm2 hr0 hr1 ⟨hs, hh.1, hh.2.1, hh.2.2.1, hh.2.2.2⟩
end Go.Proofs.YtgkhjeefcflmcaaGreatDoor
