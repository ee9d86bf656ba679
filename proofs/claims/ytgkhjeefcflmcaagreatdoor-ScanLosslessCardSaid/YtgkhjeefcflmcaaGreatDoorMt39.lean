/-
  Layer 11 (scan): next: the piece at a place.
-/
import Derived.Test.YtgkhjeefcflmcaaGreatDoorMt38
import Derived.RangeFuncNested
import Derived.RangeFuncBound
import Derived.RangeFuncCalls
import Derived.RangeFuncLeaves
import Derived.Shelf.Abstract
import Derived.Shelf.RegionOpen
import Derived.WalkKit
import Derived.OwnWalkIn
import Derived.TacticsInMore
import Derived.LoopNIn
import Derived.LoopIn
import Derived.Test.YtgkhjeefcflmcaaGreatDoorMt22
namespace Go.Proofs.YtgkhjeefcflmcaaGreatDoor
open Go.RowKit Go.Sort
set_option linter.unusedSimpArgs false
set_option linter.unusedVariables false
structure Kit11 (w : World) : Prop where
 ml : Ml w
 tb : TabAt w
 hd : Heads w
 ev : ErrVars w
 et : ErrType w
theorem Kit11.keep {w W : World} {S : Nat} (h : Kit11 w) (hS : w.heap.size = S) (hb : Below S w W) : Kit11 W := by
 subst hS
 exact ⟨h.ml.below hb, fun k hk => (hb.cell (p := ⟨1, k, none⟩) (World.block_lt_of_cell? w _ (h.tb k hk))).trans (h.tb k hk), heads_below h.hd hb, h.ev.below hb, h.et.below hb h.et.lt⟩
section
variable {w : World} {S B b o n cap a : Nat} {l : List UInt8}
theorem nx_byts (hS : w.heap.size = S) (hb : Byts w B (some ⟨b, o, none⟩) (bi l)) (hB : B ≤ S) (V : World) (hV : Below S w V) : Byts V (S + 1) (some ⟨b, o, none⟩) (bi l) := (hb.below (B' := S) hV hB).more (by omega)
theorem nx_blanks (hS : w.heap.size = S) (hb : Byts w B (some ⟨b, o, none⟩) (bi l)) (hB : B ≤ S) (hn : l.length = n) (hm : n ≤ 900) (hcap : n ≤ cap) (hcm : cap ≤ 9223372036854775807) (ha : a < n) :
  if blkN (l.drop a) = 0 then AnsF w S (some ⟨b, o, none⟩) n cap a 44 #[] else AnsT w S (some ⟨b, o, none⟩) n cap a 44 #[] (piAt ⟨0, blkN (l.drop a), 0, false⟩ a) false := by
 have key := fun V t br hV hC => blanks_run V (S + 1) b o n cap a l t br hC (nx_byts hS hb hB V hV) hn hm hcap hcm ha _ rfl
 split
 ·next h =>
  intro V t br hV hC
  have := key V t br hV hC
  rw [h] at this
  exact this.mono fun e V' ⟨h1, h2⟩ => ⟨h1, _, _, h2⟩
 ·next h =>
  intro V t br hV hC
  have := key V t br hV hC
  rw [decide_eq_true (by omega)] at this
  exact this
theorem nx_comment (hS : w.heap.size = S) (K : Kit11 w) (hb : Byts w B (some ⟨b, o, none⟩) (bi l)) (hB : B ≤ S) (hn : l.length = n) (hm : n ≤ 900) (hcap : n ≤ cap) (hcm : cap ≤ 9223372036854775807) (ha : a < n) {q : Option (Nat × Bool × Bool)} (hq : cmtF (l.drop a) = q) :
  (q = none → AnsF w S (some ⟨b, o, none⟩) n cap a 45 #[]) ∧
  (∀ k ld, q = some (k, true, ld) → AnsT w S (some ⟨b, o, none⟩) n cap a 45 #[] (piAt ⟨0, k, 0, ld⟩ a) ld) ∧
  (∀ k ld, q = some (k, false, ld) → AnsT w S (some ⟨b, o, none⟩) n cap a 45 #[] (piAt ⟨6, k, 12, false⟩ a) false) := by
 have hmc : 3 < S + 1 := by
  obtain ⟨m, hmx⟩ := K.ml
  have := World.block_lt_of_cell? w _ hmx
  simp only at this
  omega
 have key := fun V t br hV hC => comment_run V (S + 1) b o n cap a l t br hC (nx_byts hS hb hB V hV) hn hm hcap hcm ha q hq (K.keep hS hV).ml hmc
 refine ⟨?_, ?_, ?_⟩
 ·rintro rfl V t br hV hC
  exact (key V t br hV hC).mono fun e V' ⟨h1, h2⟩ => ⟨h1, _, _, h2⟩
 ·rintro k ld rfl V t br hV hC
  exact key V t br hV hC
 ·rintro k ld rfl V t br hV hC
  exact key V t br hV hC
theorem nx_lf (hS : w.heap.size = S) (hb : Byts w B (some ⟨b, o, none⟩) (bi l)) (hB : B ≤ S) (hn : l.length = n) (hm : n ≤ 900) (hcap : n ≤ cap) (hcm : cap ≤ 9223372036854775807) (ha : a < n) {c : UInt8} (hc : l[a]? = some c) :
  (c ≠ 10 → AnsF w S (some ⟨b, o, none⟩) n cap a 46 #[]) ∧ (c = 10 → AnsT w S (some ⟨b, o, none⟩) n cap a 46 #[] (piAt ⟨0, 1, 0, true⟩ a) true) := by
 have key := fun V t br hV hC => lineFeed_run V (S + 1) b o n cap a l t br hC (nx_byts hS hb hB V hV) hn hm hcap hcm ha c hc _ rfl
 constructor
 ·intro h V t br hV hC
  have := key V t br hV hC
  rw [decide_eq_false h] at this
  exact this.mono fun e V' ⟨h1, h2⟩ => ⟨h1, _, _, h2⟩
 ·intro h V t br hV hC
  have := key V t br hV hC
  rw [decide_eq_true h] at this
  exact this
theorem nx_name_no (hS : w.heap.size = S) (K : Kit11 w) (hb : Byts w B (some ⟨b, o, none⟩) (bi l)) (hB : B ≤ S) (hn : l.length = n) (hm : n ≤ 900) (hcap : n ≤ cap) (hcm : cap ≤ 9223372036854775807) (ha : a < n) (h : nmF (l.drop a) = 0) :
  AnsF w S (some ⟨b, o, none⟩) n cap a 47 #[] := fun V t br hV hC =>
 (name_no V (S + 1) b o n cap a l t br hC (nx_byts hS hb hB V hV) hn hm hcap hcm ha h (K.keep hS hV).hd).mono fun e V' ⟨h1, h2⟩ => ⟨h1, _, _, h2⟩
theorem nx_name (hS : w.heap.size = S) (K : Kit11 w) (hb : Byts w B (some ⟨b, o, none⟩) (bi l)) (hB : B ≤ S) (hn : l.length = n) (hm : n ≤ 900) (hcap : n ≤ cap) (hcm : cap ≤ 9223372036854775807) (ha : a < n) {E : Nat} (h : nmF (l.drop a) = E) (h1 : 1 ≤ E) (h2 : E ≤ n - a) :
  AnsT w S (some ⟨b, o, none⟩) n cap a 47 #[] (piAt ⟨kwK ((l.drop a).take E), E, 0, false⟩ a) false := fun V t br hV hC => by
 have hTc : 1 < S + 1 := by have := World.block_lt_of_cell? w _ (K.tb 0 (by omega)); simp only at this; omega
 rcases kwZ_is ((l.drop a).take E) with ⟨g1, g2⟩ | ⟨g1, g2, g3⟩
 ·have hk : kwK ((l.drop a).take E) = 1 := by unfold kwK; rw [if_pos g1]
  rw [hk]
  exact name_word V (S + 1) b o n cap a l t br hC (nx_byts hS hb hB V hV) hn hm hcap hcm ha E _ h h1 h2 rfl (by have := kwZ_is ((l.drop a).take E); rw [g1] at this; exact this) (K.keep hS hV).hd (K.keep hS hV).tb hTc
 ·have hk : kwK ((l.drop a).take E) = kwZ ((l.drop a).take E) := by unfold kwK; rw [if_neg (by omega)]
  rw [hk]
  exact name_kw V (S + 1) b o n cap a l t br hC (nx_byts hS hb hB V hV) hn hm hcap hcm ha E _ h h1 h2 rfl _ (kwZ_is _) ⟨g1, g2⟩ (K.keep hS hV).hd (K.keep hS hV).tb hTc
theorem nx_scan (hS : w.heap.size = S) (K : Kit11 w) (hb : Byts w B (some ⟨b, o, none⟩) (bi l)) (hB : B ≤ S) (hn : l.length = n) (hm : n ≤ 900) (hcap : n ≤ cap) {kind : Int} {k e : Nat} (h : ScanIs l (a : Int) kind k e) (V : World) (hV : Below S w V) :
  Hid (∀ W, Below (S + 1) V W → Calls Tryz.prog 49 #[.slice (some ⟨b, o, none⟩) n cap, .int .i64 (a : Int)] W fun en w' => en = .returned (.tuple #[.int .i64 kind, .int .i64 (k : Int), errV e]) ∧ Below W.heap.size W w') := fun W hW =>
 have hW' : Below S w W := hV.trans (hW.mono (Nat.le_succ S))
 Scan_run (some ⟨b, o, none⟩) n cap a l kind k e W B (hb.below (B' := S) hW' hB) (by have := hW'.size; omega) hn (by omega) hcap h (K.keep hS hW').ml
theorem nx_quote (hS : w.heap.size = S) (K : Kit11 w) (hb : Byts w B (some ⟨b, o, none⟩) (bi l)) (hB : B ≤ S) (hn : l.length = n) (hm : n ≤ 900) (hcap : n ≤ cap) {k z e : Nat} (h : scanI l (a : Int) = (k, z, e)) (V : World) (hV : Below S w V) :
  Hid (∀ W, Below (S + 1) V W → Calls Tryz.prog 50 #[.slice (some ⟨b, o, none⟩) n cap, .int .i64 (a : Int)] W fun en w' => en = .returned (.tuple #[.int .i64 (k : Int), .int .i64 (z : Int), errOf e]) ∧ Below W.heap.size W w') := fun W hW =>
 have hW' : Below S w W := hV.trans (hW.mono (Nat.le_succ S))
 ScanP_run (some ⟨b, o, none⟩) n cap l a k z e W B (hb.below (B' := S) hW' hB) hn (by omega) hcap (K.keep hS hW').ev (K.keep hS hW').hd (K.keep hS hW').ml h
theorem et_lt (hS : w.heap.size = S) (K : Kit11 w) : 0 < S + 1 := by have := K.et.lt; omega
theorem nx_num_no (hS : w.heap.size = S) (K : Kit11 w) (hb : Byts w B (some ⟨b, o, none⟩) (bi l)) (hB : B ≤ S) (hn : l.length = n) (hm : n ≤ 900) (hcap : n ≤ cap) (hcm : cap ≤ 9223372036854775807) (ha : a < n) (h : begL (l.drop a) = false) :
  AnsF w S (some ⟨b, o, none⟩) n cap a 48 #[.func (.func 49) #[] #[]] := fun V t br hV hC =>
 (literal_noP V (S + 1) b o n cap a l t br hC (nx_byts hS hb hB V hV) hn hm hcap hcm ha 0 0 _ (nx_scan hS K hb hB hn hm hcap (numZ_no h) V hV)).mono fun e V' ⟨h1, h2⟩ => ⟨h1, _, _, h2⟩
theorem nx_num (hS : w.heap.size = S) (K : Kit11 w) (hb : Byts w B (some ⟨b, o, none⟩) (bi l)) (hB : B ≤ S) (hn : l.length = n) (hm : n ≤ 900) (hcap : n ≤ cap) (hcm : cap ≤ 9223372036854775807) (ha : a < n) (h : begL (l.drop a) = true) :
  AnsT w S (some ⟨b, o, none⟩) n cap a 48 #[.func (.func 49) #[] #[]] (piAt (numP (l.drop a)) a) false := fun V t br hV hC => by
 have hs := nx_scan hS K hb hB hn hm hcap (numZ_is (by omega) h) V hV
 have h0 := beg_pos h (bodyZ_is (l.drop a))
 have h1 := (bodyZ_is (l.drop a)).1
 rw [List.length_drop, hn] at h1
 unfold numP
 by_cases he : valE ((l.drop a).take (bodyZ (l.drop a))) = 0
 ·rw [he, if_neg (by simp)]
  rw [he] at hs
  obtain ⟨kn, hkn⟩ : ∃ kn : Nat, (kn : Int) = kndZ ((l.drop a).take (bodyZ (l.drop a))) := ⟨(kndZ ((l.drop a).take (bodyZ (l.drop a)))).toNat, by rcases kndZ_is ((l.drop a).take (bodyZ (l.drop a))) with g | g <;> rw [g] <;> rfl⟩
  rw [← hkn] at hs ⊢
  exact literal_okP V (S + 1) b o n cap a l t br hC (nx_byts hS hb hB V hV) hn hm hcap hcm ha kn _ hs (by omega) (by omega) (K.keep hS hV).et (et_lt hS K)
 ·rw [if_pos he]
  unfold errV at hs
  rw [if_neg he] at hs
  exact literal_badP V (S + 1) b o n cap a l t br hC (nx_byts hS hb hB V hV) hn hm hcap hcm ha _ _ _ hs (by omega) (by omega) he (K.keep hS hV).et (et_lt hS K)
theorem nx_lit_no (hS : w.heap.size = S) (K : Kit11 w) (hb : Byts w B (some ⟨b, o, none⟩) (bi l)) (hB : B ≤ S) (hn : l.length = n) (hm : n ≤ 900) (hcap : n ≤ cap) (hcm : cap ≤ 9223372036854775807) (ha : a < n) (h : (scanL (l.drop a)).2.1 = 0) :
  AnsF w S (some ⟨b, o, none⟩) n cap a 48 #[.func (.func 50) #[] #[]] := fun V t br hV hC => by
 have hq : scanI l (a : Int) = ((scanL (l.drop a)).1, 0, (scanL (l.drop a)).2.2) := by rw [scanI_at (by omega), ← h]
 exact (literal_noQ V (S + 1) b o n cap a l t br hC (nx_byts hS hb hB V hV) hn hm hcap hcm ha _ 0 _ (nx_quote hS K hb hB hn hm hcap hq V hV)).mono fun e V' ⟨h1, h2⟩ => ⟨h1, _, _, h2⟩
theorem nx_lit (hS : w.heap.size = S) (K : Kit11 w) (hb : Byts w B (some ⟨b, o, none⟩) (bi l)) (hB : B ≤ S) (hn : l.length = n) (hm : n ≤ 900) (hcap : n ≤ cap) (hcm : cap ≤ 9223372036854775807) (ha : a < n) (h : (scanL (l.drop a)).2.1 ≠ 0) :
  AnsT w S (some ⟨b, o, none⟩) n cap a 48 #[.func (.func 50) #[] #[]] (piAt (litP (l.drop a)) a) false := fun V t br hV hC => by
 have hs := nx_quote (k := (scanL (l.drop a)).1) (z := (scanL (l.drop a)).2.1) (e := (scanL (l.drop a)).2.2) hS K hb hB hn hm hcap (scanI_at (l := l) (a := a) (by omega)) V hV
 have h1 := scanL_le (l.drop a)
 rw [List.length_drop, hn] at h1
 unfold litP
 by_cases he : (scanL (l.drop a)).2.2 = 0
 ·rw [he] at hs
  rw [he, if_neg (by simp)]
  exact literal_okQ V (S + 1) b o n cap a l t br hC (nx_byts hS hb hB V hV) hn hm hcap hcm ha _ _ hs (by omega) (by omega) (K.keep hS hV).et (et_lt hS K)
 ·rw [if_pos he]
  unfold errOf at hs
  rw [if_neg he] at hs
  exact literal_badQ V (S + 1) b o n cap a l t br hC (nx_byts hS hb hB V hV) hn hm hcap hcm ha _ _ _ hs (by omega) (by omega) he (K.keep hS hV).et (et_lt hS K)
theorem nx_op (hS : w.heap.size = S) (K : Kit11 w) (hb : Byts w B (some ⟨b, o, none⟩) (bi l)) (hB : B ≤ S) (hn : l.length = n) (hm : n ≤ 900) (hcap : n ≤ cap) (hcm : cap ≤ 9223372036854775807) (ha : a < n) :
  (opN (l.drop a) = 0 → AnsF w S (some ⟨b, o, none⟩) n cap a 51 #[]) ∧ (opN (l.drop a) ≠ 0 → AnsT w S (some ⟨b, o, none⟩) n cap a 51 #[] (piAt ⟨opK (l.drop a), opN (l.drop a), 0, false⟩ a) false) := by
 have hTc : 1 < S + 1 := by have := World.block_lt_of_cell? w _ (K.tb 0 (by omega)); simp only at this; omega
 have key := fun V t br hV hC => operator_run V (S + 1) b o n cap a l t br hC (nx_byts hS hb hB V hV) hn hm hcap hcm ha _ _ (op_is (l.drop a)) (op_is (l.drop a)).bound.1 (K.keep hS hV).tb hTc
 constructor
 ·intro h V t br hV hC
  have := key V t br hV hC
  rw [decide_eq_false (by omega)] at this
  exact this.mono fun e V' ⟨h1, h2⟩ => ⟨h1, _, _, h2⟩
 ·intro h V t br hV hC
  have := key V t br hV hC
  rw [decide_eq_true (by omega)] at this
  exact this
theorem next_run (hS : w.heap.size = S) (K : Kit11 w) (hb : Byts w B (some ⟨b, o, none⟩) (bi l)) (hB : B ≤ S) (hn : l.length = n) (hm : n ≤ 900) (hcap : n ≤ cap) (hcm : cap ≤ 9223372036854775807) (ha : a < n) :
  Calls Tryz.prog 28 #[.slice (some ⟨b, o, none⟩) n cap, .int .i64 (a : Int)] w fun e w' => e = .returned (piV (piAt (nextF (l.drop a)) a) (nextF (l.drop a)).b) ∧ Below S w w' := by
 obtain ⟨c, t, hct, hc⟩ := drop_cons2 hn ha
 have hbl := nx_blanks (a := a) hS hb hB hn hm hcap hcm ha
 by_cases hk : blkN (l.drop a) = 0
 ·rw [if_pos hk] at hbl
  have H0 := Lib.hid hbl
  rw [nextF_pc hk]
  rw [hct] at hk
  have hnb := blkN_zero hk
  obtain ⟨q1, q2, q3⟩ := nx_comment (a := a) hS K hb hB hn hm hcap hcm ha rfl
  obtain ⟨l1, l2⟩ := nx_lf (a := a) hS hb hB hn hm hcap hcm ha hc
  cases hq : cmtF (l.drop a) with
  | some q =>
   obtain ⟨k, ed, ld⟩ := q
   cases ed with
   | true =>
    rw [hct] at hq ⊢
    rw [pcF_cmt hq]
    rw [hct] at q2
    exact next_1 w S b o n cap a _ _ hS H0 (q2 k ld hq)
   | false =>
    rw [hct] at hq ⊢
    rw [pcF_cut hq]
    rw [hct] at q3
    exact next_1 w S b o n cap a _ _ hS H0 (q3 k ld hq)
  | none =>
   have H1 := Lib.hid (q1 hq)
   by_cases h10 : c = 10
   ·have H2 := Lib.hid (l2 h10)
    rw [hct, h10, pcF_lf10]
    exact next_2 w S b o n cap a _ _ hS H0 H1 H2
   ·have H2 := Lib.hid (l1 h10)
    have hp : pcF (l.drop a) = oneF (l.drop a) := by
     rw [hct] at hq ⊢
     exact pcF_one (by rw [hnb]; simp) h10 hq
    have hbb : (oneF (l.drop a)).b = false := by rw [hct]; exact oneF_tok.nb
    rw [hp, hbb]
    have lit : ∀ z : Pc, nmF (l.drop a) = 0 →
      (∀ V t br, Below S w V → CAt V (S + 1) (some ⟨b, o, none⟩) n cap a t br → Calls Tryz.prog 52 #[.pointer (some ⟨S + 1, 0, none⟩)] V fun e V' => e = .returned (.tuple #[]) ∧ Left V (S + 1) (some ⟨b, o, none⟩) n cap a (piAt z a) false V') →
      Calls Tryz.prog 28 #[.slice (some ⟨b, o, none⟩) n cap, .int .i64 (a : Int)] w fun e w' => e = .returned (piV (piAt (litF (l.drop a) z) a) false) ∧ Below S w w' := by
     intro z hnm hst
     have H3 := Lib.hid (nx_name_no hS K hb hB hn hm hcap hcm ha hnm)
     by_cases hbg : begL (l.drop a) = true
     ·rw [litF_num z hbg]
      exact next_4 w S b o n cap a _ _ hS H0 H1 H2 H3 (nx_num hS K hb hB hn hm hcap hcm ha hbg)
     ·have H4 := Lib.hid (nx_num_no hS K hb hB hn hm hcap hcm ha (by simpa using hbg))
      by_cases hsl : (scanL (l.drop a)).2.1 = 0
      ·have H5 := Lib.hid (nx_lit_no hS K hb hB hn hm hcap hcm ha hsl)
       obtain ⟨o1, o2⟩ := nx_op (a := a) hS K hb hB hn hm hcap hcm ha
       by_cases ho : opN (l.drop a) = 0
       ·rw [litF_no z hbg hsl ho]
        exact next_7 w S b o n cap a _ _ hS H0 H1 H2 H3 H4 H5 (o1 ho) hst
       ·rw [litF_op z hbg hsl ho]
        exact next_6 w S b o n cap a _ _ hS H0 H1 H2 H3 H4 H5 (o2 ho)
      ·rw [litF_lit z hbg hsl]
       exact next_5 w S b o n cap a _ _ hS H0 H1 H2 H3 H4 (nx_lit hS K hb hB hn hm hcap hcm ha hsl)
    cases hd : dcF (l.drop a) with
    | none =>
     rw [oneF_none hd]
     exact lit _ (nmF_none hd) fun V t br hV hC => stray_none V (S + 1) b o n cap a l t br hC (nx_byts hS hb hB V hV) hn hm hcap hcm ha hd (K.keep hS hV).hd (K.keep hS hV).et (et_lt hS K)
    | some p =>
     obtain ⟨r, z⟩ := p
     have hz := dcF_size hd
     rw [List.length_drop, hn] at hz
     by_cases hl : letB r = true
     ·rw [oneF_name hd hl]
      have hw := wordF_le _ (l.drop a) (Nat.le_refl _)
      have hg := wordF_at (r := l.drop a) (j := 0) (by rw [List.drop_zero]; exact hd) (.inl hl)
      rw [List.drop_zero] at hg
      rw [List.length_drop, hn] at hw
      exact next_3 w S b o n cap a _ _ hS H0 H1 H2 (nx_name hS K hb hB hn hm hcap hcm ha (by rw [nmF_some hd, if_pos hl]) (by omega) hw)
     ·rw [oneF_rune hd hl]
      exact lit _ (by rw [nmF_some hd, if_neg hl]) fun V t br hV hC => stray_some V (S + 1) b o n cap a l t br hC (nx_byts hS hb hB V hV) hn hm hcap hcm ha r z hz.2.1 hd (K.keep hS hV).hd
 ·rw [if_neg hk] at hbl
  rw [nextF_blk hk]
  exact next_0 w S b o n cap a _ _ hS hbl
end
end Go.Proofs.YtgkhjeefcflmcaaGreatDoor
namespace Go.Proofs.YtgkhjeefcflmcaaGreatDoor
open Go.RowKit Go.Sort Go.Shelf
set_option linter.unusedSimpArgs false
set_option linter.unusedVariables false
attribute [local go_sem] Oper.semAt_some
def KpS (n₀ : Nat) (W W' : World) : Prop := Below n₀ W W' ∧ ∀ (k : Nat) (cs : Array Value) (T : TypeId) (fr : Nat × Nat), W.heap[k]? = some (Obj.cells cs T fr) → (T = 48 ∨ T = 22) → W'.heap[k]? = some (Obj.cells cs T fr)
theorem KpS.trans {n₀ : Nat} {A B C : World} (h : KpS n₀ A B) (g : KpS n₀ B C) : KpS n₀ A C := ⟨h.1.trans g.1, fun k cs T fr hk hT => g.2 k cs T fr (h.2 k cs T fr hk hT) hT⟩
theorem KpS.refl (n₀ : Nat) (W : World) : KpS n₀ W W := ⟨Below.refl _ _, fun _ _ _ _ h _ => h⟩
theorem KpS.of_below {n₀ : Nat} {W W' : World} (hn : n₀ ≤ W.heap.size) (h : Below W.heap.size W W') : KpS n₀ W W' :=
 ⟨h.mono hn, fun k cs T fr hk _ => (h.block k (Array.getElem?_eq_some_iff.1 hk).1).trans hk⟩
theorem KpS.putObj {n₀ B : Nat} (hn : n₀ ≤ B) (W : World) (l : Nat) (o o' : Obj) (hl : B ≤ l) (h : W.heap[l]? = some o) (hc : o.isCells = false) (hw : o.isWalk = false) : KpS n₀ W (W.putObj l o') :=
 ⟨(Below.refl n₀ W).grown (grownBy_putObj' W l o') (by have := (Array.getElem?_eq_some_iff.1 h).1; omega) (fun k e => by cases e; omega), fun k cs T fr hk _ => by
  by_cases e : k = l
  ·subst e
   rw [h] at hk
   cases hk
   cases hc
  ·exact (World.putObj_heap_other e).trans hk⟩
theorem grown_none {W W' : World} (hb : Below W.heap.size W W') : W.grownBy W' none := ⟨hb.os, hb.tape, hb.output, hb.size, fun k hk _ => hb.block k hk⟩
def encP (y : Pi) : Array Value := #[.agg #[.int .i64 (piAt y.p y.x).k, .int .i64 (piAt y.p y.x).f, .int .i64 (piAt y.p y.x).t, .bool (piAt y.p y.x).a, .int .i64 (piAt y.p y.x).e, .bool y.p.b]]
theorem pieces_run (A : Option Addr) (n cap : Nat) (w : World) :
  Calls Tryz.prog 20 #[.slice A n cap] w fun e w' => e = .returned (.func (.func 27) #[] #[.pointer (some ⟨w.heap.size, 0, none⟩)]) ∧ w' = w.alloc (.cells #[.slice A n cap] 22) := by
 go_enter Tryz.func20, Tryz.ntmps20
 go_wp2_with fail
 go_ret
 exact ⟨rfl, rfl⟩
theorem pcs_at {l t : List UInt8} {c : UInt8} {i : Nat} (h : l.drop i = c :: t) : pcsF (l.drop i) i = ⟨i, nextF (l.drop i)⟩ :: pcsF (l.drop (i + (nextF (l.drop i)).s)) (i + (nextF (l.drop i)).s) := by
 rw [← List.drop_drop, h, pcsF_go]
set_option maxRecDepth 100000 in
set_option maxHeartbeats 4000000 in
theorem pieces1_in (m : Nat) (hm1 : 1 ≤ m) (li Bn n₀ n cap B : Nat) (A : Option Addr) (l : List UInt8) (w : World) (hS : w.heap.size = n₀) (K : Kit11 w) (hb : Byts w B A (bi l)) (hB : B ≤ n₀) (hn : l.length = n) (hm : n ≤ 900) (hcap : n ≤ cap) (hcm : cap ≤ 9223372036854775807)
  (J Jx : List Pi → World → Prop) (W : World) (hW : Below n₀ w W) (hJ : AbidesFrom W.heap.size J) (hbx : W.heap[Bn]? = some (Obj.cells #[.slice A n cap] 22 (0, 0)))
  (hY : ∀ pre y W1, J pre W1 → pre.length < (pcsF l 0).length → YieldAt Fence.wide (m - 1) Tryz.prog li (encP y) W1 fun e W' =>
   (e = .returned (.bool true) ∧ J (pre ++ [y]) W' ∧ KpS n₀ W1 W') ∨ (e = .returned (.bool false) ∧ Jx (pre ++ [y]) W')) (h0 : J [] W) :
  CallsIn Fence.wide m Tryz.prog 27 #[.func (.yield li) #[] #[], .pointer (some ⟨Bn, 0, none⟩)] W fun e W' => (∃ v, e = .returned v) ∧
   ((∃ xs, xs = pcsF l 0 ∧ J xs W') ∨ (∃ pre, pre <+: pcsF l 0 ∧ Jx pre W')) := by
 have hro : Fence.wide.round = none := rfl
 refine callsIn_of_wp Tryz.func27 rfl trivial ?_ hro
 simp only [Tryz.ntmps27, List.size_toArray, List.length_cons, List.length_nil, Nat.reduceAdd, Nat.reduceSub, Array.replicate_succ, Array.replicate_zero, List.push_toArray, List.append_toArray, List.nil_append, List.cons_append]
 have HN := Lib.hid hn
 gi_wp2
 gi_loopw [3] (fun p wr => ∃ (pre : List Pi) (i : Nat), p = .int .i64 (i : Int) ∧ i ≤ n ∧ Hid (pcsF l 0 = pre ++ pcsF (l.drop i) i) ∧ Hid (J pre wr) ∧ Hid (Below n₀ w wr) ∧ Hid (wr.heap[Bn]? = some (Obj.cells #[.slice A n cap] 22 (0, 0)) ∧ ∀ pre' W1 W2, J pre' W1 → Below W1.heap.size W1 W2 → J pre' W2))
  (fun p wr => n - (intOf p).toNat)
 case atStart =>
  exact ⟨[], 0, rfl, by omega, rfl, h0, hW, hbx, fun pre' W1 W2 h1 h2 => hJ pre' W1 W2 none h1 (grown_none h2) (fun r e => by cases e)⟩
 case round =>
  obtain ⟨pre, i, rfl, hin, HP, HJ, HBW, HX⟩ := hrel
  have hi9 : i ≤ 900 := by omega
  have hcB : wr.cell? ⟨Bn, 0, none⟩ = some (.slice A n cap) := by
   have := HX.out.1
   simp [World.cell?, this]
  by_cases hlt : i < n
  ·have hiz : (i : Int) < (n : Int) := by omega
   obtain ⟨c, t, hct, _⟩ := drop_cons2 HN.out hlt
   obtain ⟨b, o, rfl, hbB, _⟩ := (hb.below (B' := n₀) HBW.out hB).2 (by rw [bi_length, HN.out]; omega)
   have hsz := nextF_size c t
   have hlen : (c :: t).length = n - i := by rw [← hct, List.length_drop, HN.out]
   have hN := next_run (w := wr) (S := wr.heap.size) (a := i) rfl (K.keep hS HBW.out) (hb.below (B' := n₀) HBW.out hB) (by have := HBW.out.size; omega) hn hm hcap hcm hlt
   have hpcs := pcs_at hct
   obtain ⟨p, hp⟩ : ∃ p, nextF (l.drop i) = p := ⟨_, rfl⟩
   rw [hp] at hN hpcs
   rw [← hct, hp] at hsz
   simp only [List.length_cons] at hlen
   have HP2 : Hid (pcsF l 0 = (pre ++ [⟨i, p⟩]) ++ pcsF (l.drop (i + p.s)) (i + p.s)) := by
    show _ = _
    rw [HP.out, hpcs, List.append_assoc]
    rfl
   have hpl : pre.length < (pcsF l 0).length := by rw [HP2.out]; simp only [List.length_append, List.length_cons]; omega
   obtain ⟨E, hE⟩ : ∃ E, i + p.s = E := ⟨_, rfl⟩
   have hEn : E ≤ n := by omega
   have hEi : i + 1 ≤ E := by omega
   have hYp : ∀ W1, J pre W1 → YieldAt Fence.wide (m - 1) Tryz.prog li #[.agg #[.int .i64 (p.k : Int), .int .i64 (i : Int), .int .i64 (E : Int), .bool false, .int .i64 (p.e : Int), .bool p.b]] W1 fun e W' =>
     (e = .returned (.bool true) ∧ J (pre ++ [⟨i, p⟩]) W' ∧ KpS n₀ W1 W') ∨ (e = .returned (.bool false) ∧ Jx (pre ++ [⟨i, p⟩]) W') := fun W1 h1 => by
    rw [← hE]
    exact hY pre ⟨i, p⟩ W1 h1 hpl
   have hN' : Calls Tryz.prog 28 #[.slice (some ⟨b, o, none⟩) n cap, .int .i64 (i : Int)] wr fun e w' => e = .returned (.agg #[.int .i64 (p.k : Int), .int .i64 (i : Int), .int .i64 (E : Int), .bool false, .int .i64 (p.e : Int), .bool p.b]) ∧ Below wr.heap.size wr w' := by
    rw [← hE]
    exact hN
   have HP3 : Hid (pcsF l 0 = (pre ++ [⟨i, p⟩]) ++ pcsF (l.drop E) E) := by rw [← hE]; exact HP2
   clear hN hpcs hp hsz hlen HP2 hE hct hpl
   gi_wp2
   refine ⟨trivial, ?_⟩
   refine (callsIn_wide.2 hN').mono ?_
   rintro e W2 ⟨rfl, hW2⟩
   have hJ2 := HX.out.2 pre wr W2 HJ.out hW2
   have hJ3 := HX.out.2 pre W2 (W2.alloc (.cells #[.int .i64 (p.k : Int), .int .i64 (i : Int), .int .i64 (E : Int), .bool false, .int .i64 (p.e : Int), .bool p.b] 48)) hJ2 ((Below.refl _ _).alloc (Nat.le_refl _) _)
   obtain ⟨fn, tmps, assign, body, hy, hR⟩ := hYp _ hJ3
   have HW2 := Lib.hid hW2
   have hcB2 : W2.cell? ⟨Bn, 0, none⟩ = some (.slice (some ⟨b, o, none⟩) n cap) := (hW2.cell (p := ⟨Bn, 0, none⟩) (World.block_lt_of_cell? wr _ hcB)).trans hcB
   clear hW2 hJ2 hJ3 hN'
   gi_wp2
   refine hR.mono ?_
   rintro e W4 (⟨rfl, hJ4, hk4⟩ | ⟨rfl, hJx4⟩)
   ·have hp4 := hk4.2 W2.heap.size #[.int .i64 (p.k : Int), .int .i64 (i : Int), .int .i64 (E : Int), .bool false, .int .i64 (p.e : Int), .bool p.b] 48 (0, 0) (World.alloc_heap_new W2 _) (.inl rfl)
    have hx4 : W4.cell? ⟨W2.heap.size, 2, none⟩ = some (.int .i64 (E : Int)) := by simp [World.cell?, hp4]
    have HB4 : Hid (Below n₀ w W4) := by
     refine (HBW.out.trans (HW2.out.mono (by rw [← hS]; exact HBW.out.size))).trans (Below.trans ?_ hk4.1)
     exact (Below.refl n₀ W2).alloc (by have h1 := HBW.out.size; have h2 := HW2.out.size; omega) _
    have HX4 : Hid (W4.heap[Bn]? = some (Obj.cells #[.slice (some ⟨b, o, none⟩) n cap] 22 (0, 0)) ∧ ∀ pre' W1 W2, J pre' W1 → Below W1.heap.size W1 W2 → J pre' W2) := by
     refine ⟨hk4.2 Bn _ _ _ ?_ (.inr rfl), HX.out.2⟩
     have hlt2 := (Array.getElem?_eq_some_iff.1 HX.out.1).1
     have h1 := (HW2.out.block Bn hlt2).trans HX.out.1
     exact (Below.heap_alloc W2 _ Bn (Array.getElem?_eq_some_iff.1 h1).1).trans h1
    have HJ4 := Lib.hid hJ4
    clear hp4 hk4 hJ4
    gi_wp2
    go_roundw
    case rel => exact ⟨pre ++ [⟨i, p⟩], E, by go_num, hEn, HP3, HJ4, HB4, HX4⟩
    case measure => simp [intOf]; omega
   ·gi_wp2
    refine bodyPost_ret (results_none rfl _ _ _) rfl ?_
    exact ⟨⟨_, rfl⟩, .inr ⟨pre ++ [⟨i, p⟩], ⟨_, HP3.out.symm⟩, hJx4⟩⟩
  ·have hiz : ¬ (i : Int) < (n : Int) := by omega
   have hin2 : i = n := by omega
   have HP2 : Hid (pcsF l 0 = pre ++ [⟨n, ⟨0, 0, 0, true⟩⟩]) := by
    have := HP.out
    rw [List.drop_of_length_le (by rw [HN.out]; omega), pcsF_nil, hin2] at this
    exact this
   have hpl : pre.length < (pcsF l 0).length := by rw [HP2.out]; simp only [List.length_append, List.length_cons]; omega
   have hYp : YieldAt Fence.wide (m - 1) Tryz.prog li #[.agg #[.int .i64 0, .int .i64 (n : Int), .int .i64 (n : Int), .bool false, .int .i64 0, .bool true]] wr fun e W' =>
     (e = .returned (.bool true) ∧ J (pre ++ [⟨n, ⟨0, 0, 0, true⟩⟩]) W' ∧ KpS n₀ wr W') ∨ (e = .returned (.bool false) ∧ Jx (pre ++ [⟨n, ⟨0, 0, 0, true⟩⟩]) W') :=
    hY pre ⟨n, ⟨0, 0, 0, true⟩⟩ wr HJ.out hpl
   obtain ⟨fn, tmps, assign, body, hy, hR⟩ := hYp
   gi_wp2
   refine hR.mono ?_
   rintro e W4 (⟨rfl, hJ4, hk4⟩ | ⟨rfl, hJx4⟩)
   ·gi_wp2
    go_end0
    exact ⟨⟨_, rfl⟩, .inl ⟨_, HP2.out.symm, hJ4⟩⟩
   ·gi_wp2
    go_end0
    exact ⟨⟨_, rfl⟩, .inr ⟨_, ⟨[], by rw [HP2.out, List.append_nil]⟩, hJx4⟩⟩
end Go.Proofs.YtgkhjeefcflmcaaGreatDoor
namespace Go.Proofs.YtgkhjeefcflmcaaGreatDoor
open Go.RowKit Go.Sort Go.Shelf
set_option linter.unusedSimpArgs false
set_option linter.unusedVariables false
attribute [local go_sem] Oper.semAt_some
theorem pieces_stops (m : Nat) (hm1 : 1 ≤ m) (Bn n₀ n cap B : Nat) (A : Option Addr) (l : List UInt8) (w w1 : World) (hS : w.heap.size = n₀) (K : Kit11 w) (hb : Byts w B A (bi l)) (hB : B ≤ n₀) (hn : l.length = n) (hm : n ≤ 900) (hcap : n ≤ cap) (hcm : cap ≤ 9223372036854775807)
  (h1 : Below n₀ w w1) (hbx : w1.heap[Bn]? = some (Obj.cells #[.slice A n cap] 22 (0, 0))) :
  SeqStopsK Fence.wide m Tryz.prog 27 #[.pointer (some ⟨Bn, 0, none⟩)] encP (KpS n₀) (fun xs => xs = pcsF l 0) (fun pre => pre <+: pcsF l 0) (pcsF l 0).length w1 := fun li J Jx W hW hJ hJx hY h0 =>
 pieces1_in m hm1 li Bn n₀ n cap B A l w hS K hb hB hn hm hcap hcm J Jx W (h1.trans (hW.mono (by rw [← hS]; exact h1.size))) hJ ((hW.block Bn (Array.getElem?_eq_some_iff.1 hbx).1).trans hbx) hY h0
theorem cells_keep {W W' : World} {row : Option Nat} {k : Nat} {cs : Array Value} {T : TypeId} {fr : Nat × Nat} (h : W.heap[k]? = some (Obj.cells cs T fr)) (hg : W.grownBy W' row) (hr : ∀ r, row = some r → ∃ o : Obj, W.heap[r]? = some o ∧ o.isCells = false) : W'.heap[k]? = some (Obj.cells cs T fr) := by
 refine (hg.block k (Array.getElem?_eq_some_iff.1 h).1 (fun e => ?_)).trans h
 obtain ⟨o, ho, hc⟩ := hr k e.symm
 rw [h] at ho
 cases ho
 cases hc
def PcBox (W : World) (k : Nat) (y : Pi) : Prop := W.heap[k]? = some (Obj.cells #[.int .i64 (piAt y.p y.x).k, .int .i64 (piAt y.p y.x).f, .int .i64 (piAt y.p y.x).t, .bool (piAt y.p y.x).a, .int .i64 (piAt y.p y.x).e, .bool y.p.b] 48 (0, 0))
theorem PcBox.cell {W : World} {k : Nat} {y : Pi} (h : PcBox W k y) : W.cell? ⟨k, 0, none⟩ = some (.int .i64 (piAt y.p y.x).k) ∧ W.cell? ⟨k, 1, none⟩ = some (.int .i64 (piAt y.p y.x).f) ∧ W.cell? ⟨k, 2, none⟩ = some (.int .i64 (piAt y.p y.x).t) ∧ W.cell? ⟨k, 3, none⟩ = some (.bool (piAt y.p y.x).a) ∧ W.cell? ⟨k, 4, none⟩ = some (.int .i64 (piAt y.p y.x).e) ∧ W.cell? ⟨k, 5, none⟩ = some (.bool y.p.b) := by
 unfold PcBox at h
 refine ⟨?_, ?_, ?_, ?_, ?_, ?_⟩ <;> simp [World.cell?, h]
theorem all_gap {l : List Pi} (h : ∀ y ∈ l, y.p.k = 0) : (l.all fun y => y.p.k == 0) = true := by
 rw [List.all_eq_true]
 intro y hy
 simpa using h y hy
set_option maxRecDepth 100000 in
set_option maxHeartbeats 4000000 in
theorem GapP_run (A : Option Addr) (n cap B : Nat) (l : List UInt8) (w : World) (K : Kit11 w) (hb : Byts w B A (bi l)) (hB : B ≤ w.heap.size) (hn : l.length = n) (hm : n ≤ 900) (hcap : n ≤ cap) (hcm : cap ≤ 9223372036854775807) :
  Calls Tryz.prog 16 #[.slice A n cap] w fun e w' => e = .returned (.bool (gapF l)) ∧ Below w.heap.size w w' := by
 have hgap := gap_pcs _ l 0 (Nat.le_refl _)
 refine (callsIn_wide (n := 6)).1 ?_
 have h1 : 1 ≤ 6 := by omega
 have hro : Fence.wide.round = none := rfl
 refine callsIn_of_wp_marks Tryz.func16 rfl trivial ?_ hro
 simp only [Tryz.ntmps16, List.size_toArray, List.length_cons, List.length_nil, Nat.reduceAdd, Nat.reduceSub, Array.replicate_succ, Array.replicate_zero, List.push_toArray, List.append_toArray, List.nil_append, List.cons_append]
 gi_wp2
 refine ⟨trivial, ?_⟩
 refine (callsIn_wide.2 (pieces_run A n cap _)).mono ?_
 rintro e w' ⟨rfl, rfl⟩
 gi_wp2
 have bR := (Boxed.new w 4 (.bool false)).alloc (.cells #[.slice A n cap] 22)
 have bA := Boxed.new (w.alloc (.cells #[.bool false] 4)) 22 (.slice A n cap)
 simp only [World.size_alloc] at bR bA
 have hB0 : Below w.heap.size w ((w.alloc (.cells #[.bool false] 4)).alloc (.cells #[.slice A n cap] 22)) := ((Below.refl _ w).alloc (Nat.le_refl _) _).alloc (by simp) _
 have hsz : ((w.alloc (.cells #[.bool false] 4)).alloc (.cells #[.slice A n cap] 22)).heap.size = w.heap.size + 2 := by simp
 obtain ⟨W0, hW0⟩ : ∃ W0, (w.alloc (.cells #[.bool false] 4)).alloc (.cells #[.slice A n cap] 22) = W0 := ⟨_, rfl⟩
 rw [hW0] at bR bA hB0 hsz ⊢
 clear hW0
 refine wpIn_rangeFunc_ownH hro h1 (gf := 27) (lb := #[.pointer (some ⟨w.heap.size + 1, 0, none⟩)]) rfl trivial (enters_of Tryz.func27 (by kernel_rfl) rfl)
  (pieces_stops (6 - 1) (by omega) (w.heap.size + 1) w.heap.size n cap B A l w W0 rfl K hb hB hn hm hcap hcm hB0 bA) KpS.trans (KpS.putObj (by omega)) (Below.refl _ _) (fun _ => rfl)
  (fun pre W => (Boxed W w.heap.size 4 (.bool false) ∧ (∀ y ∈ pre, y.p.k = 0) ∧ w.heap.size + 2 ≤ W.heap.size) ∧ Below w.heap.size w W)
  (fun c pre W => (c = .ret ∧ Boxed W w.heap.size 4 (.bool false) ∧ ∃ y ∈ pre, y.p.k ≠ 0) ∧ Below w.heap.size w W)
  (OwnFrom.and (Own.from (fun s X Y row hs hg hr => ⟨cells_keep hs.1 hg hr, hs.2.1, Nat.le_trans hs.2.2 hg.size⟩) _) (ownFrom_below (Nat.le_refl _) (by omega)))
  (fun c => OwnFrom.and (Own.from (fun s X Y row hs hg hr => ⟨hs.1, cells_keep hs.2.1 hg hr, hs.2.2⟩) _) (ownFrom_below (Nat.le_refl _) (by omega)))
  ⟨⟨bR, fun y hy => (by cases hy), by omega⟩, hB0⟩
  (fun y a' W => ∃ Bx, w.heap.size + 1 < Bx ∧ PcBox W Bx y ∧ a' = { tmps := #[.slice A n cap, undef, .pointer (some ⟨w.heap.size, 0, none⟩), .pointer (some ⟨Bx, 0, none⟩), .slice A n cap, .func (.func 27) #[] #[.pointer (some ⟨w.heap.size + 1, 0, none⟩)], .agg #[.int .i64 (piAt y.p y.x).k, .int .i64 (piAt y.p y.x).f, .int .i64 (piAt y.p y.x).t, .bool (piAt y.p y.x).a, .int .i64 (piAt y.p y.x).e, .bool y.p.b], undef, undef, undef, undef], defers := [] })
  (fun y a' _ X Y row hs hg hr => by obtain ⟨Bx, h1, h2, h3⟩ := hs; exact ⟨Bx, h1, cells_keep h2 hg (fun r e => (hr r e).2), h3⟩)
  ?assign ?body ?done ?stop
 case assign =>
  rintro li pre y W K' ⟨⟨bR1, hp, hz⟩, hB1⟩ hK
  unfold encP
  gi_wp2
  exact hK _ _ ((KeepsOthers.alloc _ _).from _) (KpS.of_below hB1.size ((Below.refl _ W).alloc (Nat.le_refl _) _)) ⟨⟨bR1.alloc _, hp, by simp; omega⟩, hB1.alloc hB1.size _⟩ ⟨W.heap.size, by omega, World.alloc_heap_new W _, rfl⟩
 case body =>
  rintro li pre y a' W hl ⟨r, hr⟩ ⟨⟨bR1, hp, hz⟩, hB1⟩ ⟨Bx, hBx, hbx, rfl⟩ hlt
  obtain ⟨d0, d1, d2, d3, d4, d5⟩ := hbx.cell
  have cR := bR1.cell
  have fR := bR1.frozen
  have d0' : W.cell? ⟨Bx, 0, none⟩ = some (.int .i64 (y.p.k : Int)) := d0
  clear d0
  by_cases hk : y.p.k = 0
  ·have hk2 : ((y.p.k : Int) != 0) = false := by rw [hk]; rfl
   gi_wp2
   exact ⟨KeepsFrom.refl _ _, KpS.refl _ _, ⟨bR1, fun z hz2 => (List.mem_append.1 hz2).elim (hp z) (fun e => by rw [List.mem_singleton.1 e]; exact hk), hz⟩, hB1⟩
  ·have hk2 : ((y.p.k : Int) != 0) = true := by rw [bne, beq_eq_false_iff_ne.2 (by omega)]; rfl
   gi_wp2
   exact ⟨(KeepsOthers.setCell _ _ _).from _, ⟨rfl, bR1.set _, y, List.mem_append.2 (.inr (List.mem_singleton.2 rfl)), hk⟩, hB1.setCell (p := ⟨w.heap.size, 0, none⟩) (Nat.le_refl _) _⟩
 case done =>
  rintro D ys W hD rfl ⟨⟨bR1, hp, hz⟩, hB1⟩ hK
  have cR := bR1.cell
  have fR := bR1.frozen
  have hv : gapF l = true := by rw [← hgap]; exact all_gap hp
  gi_wp2
  have hK' := (KeepsOthers.setCell W ⟨w.heap.size, 0, none⟩ (.bool true)).same D _ hK rfl
  refine ⟨by simp, .inl ⟨_, _, rfl, run_takeDeferred hK', ?_⟩⟩
  have hc5 := cell_kept (World.cell?_setCell_same' W ⟨w.heap.size, 0, none⟩ (.bool true) (by rw [cR]; rfl)) (grownBy_putObj' _ D (.deferred none)) (fun r e => by cases e; exact ⟨_, hK', rfl⟩)
  refine ⟨.bool true, ?_, by rw [hv], (hB1.setCell (p := ⟨w.heap.size, 0, none⟩) (Nat.le_refl _) _).trans (belowK_b (w := w) (Nat.le_refl _) _ D _ _ (by omega) hK' rfl rfl)⟩
  simp [results, Tryz.f16, go_sem, hc5]
 case stop =>
  rintro D c pre W hD hpre ⟨⟨rfl, bR1, y, hy, hk⟩, hB1⟩ hK
  have cR := bR1.cell
  have hv : gapF l = false := by
   rw [← hgap, List.all_eq_false]
   exact ⟨y, hpre.subset hy, by simpa using hk⟩
  gi_wp2
  refine ⟨by simp, .inl ⟨_, _, rfl, run_takeDeferred hK, ?_⟩⟩
  have hc5 := cell_kept cR (grownBy_putObj' _ D (.deferred none)) (fun r e => by cases e; exact ⟨_, hK, rfl⟩)
  refine ⟨.bool false, ?_, by rw [hv], hB1.trans (belowK_b (w := w) (Nat.le_refl _) W D _ _ (by omega) hK rfl rfl)⟩
  simp [results, Tryz.f16, go_sem, hc5]
end Go.Proofs.YtgkhjeefcflmcaaGreatDoor
namespace Go.Proofs.YtgkhjeefcflmcaaGreatDoor
open Go.RowKit Go.Sort Go.Shelf
set_option linter.unusedSimpArgs false
set_option linter.unusedVariables false
set_option maxRecDepth 100000 in
set_option maxHeartbeats 4000000 in
theorem endsSt_run (v : Value) (L : List TkN) (base : Nat) (w : World) (hv : OwnV tkC 5 37 w base v L) (hL : L.length ≤ 2000) :
  Calls Tryz.prog 21 #[v] w fun e w' => e = .returned (.bool (endsA (lastK L))) ∧ w' = w := by
 obtain ⟨A, cap, rfl, hcap, hcm, hc⟩ := hv.cells
 rcases List.eq_nil_or_concat L with rfl | ⟨L0, t, rfl⟩
 ·simp only [List.length_nil] at *
  show Calls _ _ _ _ fun e w' => e = .returned (.bool false) ∧ w' = w
  clear hv hc
  go_enter Tryz.func21, Tryz.ntmps21
  go_wp2_with fail
  go_ret
  exact ⟨rfl, rfl⟩
 ·rw [List.concat_eq_append] at *
  have hk : lastK (L0 ++ [t]) = t.k := lastK_snoc L0 t
  obtain ⟨b, o, rfl, hb, c0, c1, c2, c3, c4⟩ := tk_get (tk_up hc) (i := L0.length) (x := t.up) (by rw [List.map_append, List.getElem?_append_right (by rw [List.length_map]; exact Nat.le_refl _), List.length_map, Nat.sub_self]; rfl)
  have d0 : w.cell? ⟨b, o + L0.length * 5, none⟩ = some (.int .i64 (t.k : Int)) := c0
  rw [hk]
  obtain ⟨q, hq⟩ : ∃ q, L0.length = q := ⟨_, rfl⟩
  have hlen : (L0 ++ [t]).length = q + 1 := by rw [List.length_append, hq]; rfl
  rw [hlen] at hL hcap ⊢
  rw [hq] at d0
  have g0 : ((q + 1 : Nat) : Int) > 0 := by omega
  have g1 : ((q + 1 : Nat) : Int) - 1 = (q : Int) := by omega
  have hq9 : q ≤ 1999 := by omega
  have HE := Lib.hid (fun V => Ends_run (t.k : Int) (endsA t.k) V rfl)
  clear hv hc c0 c1 c2 c3 c4 hlen hk hq
  go_enter Tryz.func21, Tryz.ntmps21
  go_wp2_with fail
  refine (HE.out _).mono ?_
  rintro e w1 ⟨rfl, rfl⟩
  go_wp2_with fail
  go_ret
  exact ⟨rfl, rfl⟩
theorem OwnV.isCells {α : Type} {f : α → List Value} {size : Nat} {E : TypeId} {w : World} {base : Nat} {v : Value} {l : List α} (h : OwnV f size E w base v l) {j : Nat} (hj : v.ownBlock = some j) : ∃ cs fr, w.heap[j]? = some (Obj.cells cs E fr) := by
 rcases h.2 with ⟨rfl, _⟩ | ⟨g, cap, cur, rfl, _, hgb, _⟩
 ·cases hj
 ·cases hj
  exact ⟨_, _, hgb⟩
theorem OwnV.keepRow {α : Type} {f : α → List Value} {size : Nat} {E : TypeId} {w w' : World} {base : Nat} {v : Value} {l : List α} (h : OwnV f size E w base v l) {row : Option Nat} (hg : w.grownBy w' row) (hr : ∀ r, row = some r → ∃ o : Obj, w.heap[r]? = some o ∧ o.isCells = false) : OwnV f size E w' base v l := by
 refine World.ownsRow.kept h hg ?_
 rcases h.2 with ⟨rfl, _⟩ | ⟨g, cap, cur, rfl, _, hgb, _⟩
 ·exact .inl rfl
 ·refine .inr fun e => ?_
  obtain ⟨o, ho, hc⟩ := hr g e.symm
  rw [hgb] at ho
  cases ho
  cases hc
theorem KpS.set {n₀ : Nat} {W : World} {b : Nat} {v u : Value} {T : TypeId} (hn : n₀ ≤ b) (h : W.heap[b]? = some (Obj.cells #[v] T (0, 0))) (hT : T ≠ 48 ∧ T ≠ 22) : KpS n₀ W (W.setCell ⟨b, 0, none⟩ u) :=
 ⟨(Below.refl n₀ W).setCell (p := ⟨b, 0, none⟩) hn u, fun k cs T' fr hk hT' => by
  by_cases e : k = b
  ·subst e
   rw [h] at hk
   cases hk
   rcases hT' with e | e
   ·exact absurd e hT.1
   ·exact absurd e hT.2
  ·rw [Below.heap_setCell W ⟨b, 0, none⟩ u k e]
   exact hk⟩
theorem KpS.grown {n₀ : Nat} {W W' : World} {v : Value} {L : List TkN} (h : OwnV tkC 5 37 W n₀ v L) (hn : n₀ ≤ W.heap.size) (hg : W.grownBy W' v.ownBlock) : KpS n₀ W W' :=
 ⟨(Below.refl n₀ W).grown hg hn (ownV_ge h), fun k cs T fr hk hT => by
  refine (hg.block k (Array.getElem?_eq_some_iff.1 hk).1 (fun e => ?_)).trans hk
  obtain ⟨cs', fr', h'⟩ := h.isCells e.symm
  rw [h'] at hk
  cases hk
  rcases hT with e | e <;> exact absurd e (by decide)⟩
section
variable {α : Type} {f : α → List Value} {size : Nat} {T E : TypeId}
theorem wpListIn_appV {F : Fence} {n : Nat} (hT : SliceV f size T E) {ops : Array Oper} {rest : List Oper} {o : Oper} {a : Act} {Q : Exit → Act → World → Prop} (w : World) (hgd : o.guard = none) (s x : Operand)
  (ho : o.op = .call { callee := .builtin .append, args := #[s, x], argTypes := #[T, T] })
  (base : Nat) (v : Value) (l : List α) (hs : a.eval s = v) (hown : OwnV f size E w base v l)
  (B : Nat) (A : Option Addr) (m c : Nat) (news : List α) (hx : a.eval x = .slice A m c) (hb : CellsV f w B A news) (hm : news.length = m) (hlen : l.length ≤ 500000) (hlen2 : news.length ≤ 500000) (hbase : base ≤ w.heap.size)
  (h : ∀ v' w', OwnV f size E w' base v' (l ++ news) → w.grownBy w' v.ownBlock → (v'.ownBlock = v.ownBlock ∨ v'.ownBlock = some w.heap.size) → wpListIn F n Tryz.prog ops Q rest (a.put o.dst v') w') : wpListIn F n Tryz.prog ops Q (o :: rest) a w := by
 refine wpListIn_plain hgd fun K hK' => ?_
 obtain ⟨v', w', hrun, r1, r2, r3⟩ := run_appV hT o.type hown B A m c news hb hm (by omega) hbase
 unfold Oper.wpIn
 refine ⟨?_, ?_⟩
 ·simp [Oper.about, ho, resolve, Target.leads, Sem.run_pure]
 ·rw [Oper.semAt_plain F _ _ (by rw [ho]; intro c hc'; cases hc')]
  simp [execOp, ho, resolve, invoke, builtin, hs, hx, hrun, Result.andThen]
  exact hK' _ _ (h v' w' r1 r2 r3)
end
end Go.Proofs.YtgkhjeefcflmcaaGreatDoor
