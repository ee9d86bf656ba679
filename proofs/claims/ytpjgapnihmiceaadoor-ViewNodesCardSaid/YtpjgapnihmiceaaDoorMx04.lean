/-
  Layer 15 (view): a file's bytes, tokens and tree in memory; the document's Word.
-/
import Derived.Test.YtpjgapnihmiceaaDoorMx03
import Derived.Deep.RegionHeld3
import Derived.Test.YtpjgapnihmiceaaDoorMx01
import Derived.Test.YtpjgapnihmiceaaDoorMx00
namespace Go.Proofs.YtpjgapnihmiceaaDoor
open Go.RowKit
set_option linter.unusedSimpArgs false
set_option linter.unusedVariables false
structure SrcAt (w : World) (A1 : Option Addr) (n1 c1 : Nat) (A2 : Option Addr) (n2 c2 : Nat) (A : Option Addr) (n : Nat) (d : List Int) (L : List Tv) (T : List Nd) : Prop where
 byt : Byts w w.heap.size A1 d
 lb : d.length = n1
 cb : n1 ≤ c1
 sb : n1 ≤ 300
 tok : CellsV tvCells w w.heap.size A2 L
 lt : L.length = n2
 ct : n2 ≤ c2
 st : n2 ≤ 60
 tree : TreeAt w A n T
theorem SrcAt.below {w w' : World} {A1 A2 A : Option Addr} {n1 c1 n2 c2 n : Nat} {d : List Int} {L : List Tv} {T : List Nd} (h : SrcAt w A1 n1 c1 A2 n2 c2 A n d L T) (hb : Below w.heap.size w w') : SrcAt w' A1 n1 c1 A2 n2 c2 A n d L T :=
 ⟨h.byt.on (Nat.le_refl _) hb, h.lb, h.cb, h.sb, (h.tok.below hb (Nat.le_refl _)).more hb.size, h.lt, h.ct, h.st, h.tree.below hb⟩
theorem byts_int {w : World} {B : Nat} {A : Option Addr} {l : List Int} (h : Byts w B A l) (e k : Nat) : Byts w B (A.map fun x => x.add e) ((l.drop e).take k) := by
 by_cases hp : 0 < l.length
 ·obtain ⟨b, o, rfl, hb, hc⟩ := h.2 hp
  have hadd : (⟨b, o, none⟩ : Addr).add e = ⟨b, o + e, none⟩ := Go.WideShapes.add_plain _ _ _
  rw [Option.map_some, hadd]
  refine ⟨fun x hx => h.1 x (List.mem_of_mem_drop (List.mem_of_mem_take hx)), fun _ => ⟨b, o + e, rfl, hb, fun i x hx => ?_⟩⟩
  rw [List.getElem?_take] at hx
  split at hx
  ·rw [List.getElem?_drop] at hx
   rw [show o + e + i = o + (e + i) by omega]
   exact hc _ x hx
  ·cases hx
 ·have hl : l = [] := List.eq_nil_of_length_eq_zero (by omega)
  subst hl
  rw [List.drop_nil, List.take_nil]
  exact Byts.nil
theorem conv_int {V : World} {B : Nat} {A : Option Addr} {l : List Int} {n cap e k : Nat} (hb : Byts V B A l) (hn : l.length = n) (he : e ≤ n) (hk : k ≤ n - e) :
  (convert 22 9 (.slice (A.map fun x => x.add e) k (cap - e))).run Tryd.prog V = .ok (.string (strOf ((l.drop e).take k))) V :=
 conv_bytes (byts_int hb e k) k (cap - e) (by rw [List.length_take, List.length_drop]; omega)
theorem str_nil : strOf [] = ⟨#[]⟩ := rfl
theorem conv_nil {V : World} {A : Option Addr} : (convert 22 9 (.slice A 0 0)).run Tryd.prog V = .ok (.string ⟨#[]⟩) V := by
 rw [← str_nil]
 exact conv_bytes (B := 0) Byts.nil 0 0 rfl
theorem nd_box (w : World) (xk xf xt : Int) (K : Option Addr) (q c : Nat) (E : TypeId) : ∃ W, w.alloc (.cells #[.int .i64 xk, .int .i64 xf, .int .i64 xt, .slice K q c] E) = W ∧ Below w.heap.size w W ∧ W.heap.size = w.heap.size + 1 ∧
  W.cell? ⟨w.heap.size, 0, none⟩ = some (.int .i64 xk) ∧ W.cell? ⟨w.heap.size, 1, none⟩ = some (.int .i64 xf) ∧ W.cell? ⟨w.heap.size, 2, none⟩ = some (.int .i64 xt) ∧ W.cell? ⟨w.heap.size, 3, none⟩ = some (.slice K q c) :=
 ⟨_, rfl, (Below.refl _ _).alloc (Nat.le_refl _) _, by simp, World.cell?_alloc_at _ _ _ _ rfl, World.cell?_alloc_at _ _ _ _ rfl, World.cell?_alloc_at _ _ _ _ rfl, World.cell?_alloc_at _ _ _ _ rfl⟩
theorem tv_box (w : World) (x : Tv) (E : TypeId) : ∃ W, w.alloc (.cells #[.int .i64 x.k, .int .i64 x.f, .int .i64 x.t, .bool x.a, .int .i64 x.e] E) = W ∧ Below w.heap.size w W ∧ W.heap.size = w.heap.size + 1 ∧
  W.cell? ⟨w.heap.size, 0, none⟩ = some (.int .i64 x.k) ∧ W.cell? ⟨w.heap.size, 1, none⟩ = some (.int .i64 x.f) ∧ W.cell? ⟨w.heap.size, 2, none⟩ = some (.int .i64 x.t) ∧ W.cell? ⟨w.heap.size, 3, none⟩ = some (.bool x.a) ∧ W.cell? ⟨w.heap.size, 4, none⟩ = some (.int .i64 x.e) :=
 ⟨_, rfl, (Below.refl _ _).alloc (Nat.le_refl _) _, by simp, World.cell?_alloc_at _ _ _ _ rfl, World.cell?_alloc_at _ _ _ _ rfl, World.cell?_alloc_at _ _ _ _ rfl, World.cell?_alloc_at _ _ _ _ rfl, World.cell?_alloc_at _ _ _ _ rfl⟩
set_option maxHeartbeats 8000000 in
set_option maxRecDepth 100000 in
theorem vWord_run (A1 : Option Addr) (n1 c1 : Nat) (A2 : Option Addr) (n2 c2 : Nat) (A : Option Addr) (n cap : Nat) (d : List Int) (L : List Tv) (T : List Nd) (k : Int) (v : ByteArray) (w : World) (hs : SrcAt w A1 n1 c1 A2 n2 c2 A n d L T) (hV : Hid (Valid T n2)) (hv : Hid (wordV d L T k = v)) :
  Calls Tryd.prog 17 #[.slice A1 n1 c1, .slice A2 n2 c2, trV A n cap, .int .i64 k] w fun e w' => e = .returned (.string v) ∧ Below w.heap.size w w' := by
 have hl : Hid (T.length = n) := hs.tree.len
 obtain ⟨q, hq⟩ : ∃ q, inT T k = q := ⟨_, rfl⟩
 have HI := Lib.hid (fun w => vIn_run A n cap k T w hl q hq)
 have hn1 := hs.sb
 have hn2 := hs.st
 have hc1 := hs.cb
 have hc2 := hs.ct
 unfold trV at HI ⊢
 obtain ⟨S, hS⟩ : ∃ S, w.heap.size = S := ⟨_, rfl⟩
 obtain ⟨W, hW⟩ : ∃ W, w.alloc (.cells #[.slice A n cap] 26) = W := ⟨_, rfl⟩
 have hB : Below S w W := by rw [← hW, ← hS]; exact (Below.refl _ _).alloc (Nat.le_refl _) _
 have hWS : W.heap.size = S + 1 := by rw [← hW, ← hS]; simp
 have d0 : W.cell? ⟨S, 0, none⟩ = some (.slice A n cap) := by rw [← hW, ← hS]; simp
 have HS : Hid (SrcAt W A1 n1 c1 A2 n2 c2 A n d L T) := hs.below (by rw [hS]; exact hB)
 rw [hS]
 have BX := Lib.hid hB
 have HW := Lib.hid hWS
 have HK := Lib.hid hq
 have HV := Lib.hid hv
 clear hB hWS hq hv hs
 go_enter Tryd.func17, Tryd.ntmps17
 go_wp2_with fail
 refine (HI.out W).mono ?_
 rintro e w1 ⟨rfl, hw⟩
 have B1 : Hid (Below S w w1) := BX.out.trans (hw.mono (by have := HW.out; omega))
 have d1 := (hw.cell (p := ⟨S, 0, none⟩) (by show S < _; have := HW.out; omega)).trans d0
 have hs1 : S < w1.heap.size := by have := hw.size; have := HW.out; omega
 have HS1 : Hid (SrcAt w1 A1 n1 c1 A2 n2 c2 A n d L T) := HS.out.below hw
 clear hw HS BX HI d0 HW hW
 cases q with
 | false =>
  obtain rfl : v = ⟨#[]⟩ := by
   rw [← HV.out.out]
   unfold wordV
   rw [HK.out, if_neg (fun h => by cases h.1)]
  clear HV
  go_wp2_with fail
  go_ret
  exact ⟨rfl, B1.out⟩
 | true =>
  have hin := of_decide_eq_true HK.out
  rw [hl.out] at hin
  obtain ⟨i, rfl⟩ := Int.eq_ofNat_of_zero_le hin.1
  have hi : i < n := by omega
  have hiz : (i : Int) < (n : Int) := by omega
  obtain ⟨b, o, rfl, hbB, hget⟩ := HS1.out.tree.at_.get (by have := hl.out; omega)
  obtain ⟨K, q, c, a0, a1, a2, a3, gm, _, _, _⟩ := hget i _ (at_nd (by have := hl.out; omega))
  obtain ⟨_, _, v3, v4, v5⟩ := hV.out.num i (by have := hl.out; omega)
  have HV2 : Hid (v = if (((nd T i).k = 2 ∨ (nd T i).k = 3) ∧ (nd T i).f ≠ (nd T i).t) then cutV d (tokV L (nd T i).f) else ⟨#[]⟩) := by
   show _ = _
   rw [← HV.out.out]
   unfold wordV
   rw [HK.out]
   unfold kd
   rw [Int.toNat_natCast]
   simp
  clear hget hin HK HV gm
  generalize (nd T i).k = xk at *
  generalize (nd T i).f = xf at *
  generalize (nd T i).t = xt at *
  obtain ⟨W2, hW2, hB2, hs2, e0, e1, e2, e3⟩ := nd_box w1 xk xf xt K q c 40
  have B2 : Hid (Below S w W2) := B1.out.trans (hB2.mono (by omega))
  have HS2 : Hid (SrcAt W2 A1 n1 c1 A2 n2 c2 (some ⟨b, o, none⟩) n d L T) := HS1.out.below hB2
  have d2 := (hB2.cell (p := ⟨S, 0, none⟩) hs1).trans d1
  obtain ⟨P, hP⟩ : ∃ P, w1.heap.size = P := ⟨_, rfl⟩
  rw [hP] at e0 e1 e2 e3 hs2 hB2
  clear hB2 B1 HS1
  by_cases hbad : ¬ (xk = 2 ∨ xk = 3) ∨ xf = xt
  ·obtain rfl : v = ⟨#[]⟩ := by
    rw [HV2.out, if_neg]
    rintro ⟨h1, h2⟩
    rcases hbad with h | h
    ·exact h h1
    ·exact h2 h
   have hcs : ((xk == 2) = false ∧ (xk == 3) = false) ∨ ((xk = 2 ∨ xk = 3) ∧ xf = xt) := by
    by_cases g : xk = 2 ∨ xk = 3
    ·rcases hbad with h | h
     ·exact absurd g h
     ·exact .inr ⟨g, h⟩
    ·exact .inl ⟨by simp; omega, by simp; omega⟩
   clear hbad HV2
   rcases hcs with ⟨g1, g2⟩ | ⟨rfl | rfl, rfl⟩
   all_goals
    go_wp2_with fail
    go_ret
    exact ⟨rfl, B2.out⟩
  ·have hk : xk = 2 ∨ xk = 3 := by omega
   have hft : ¬ xf = xt := fun h => hbad (.inr h)
   have hfb : (xf == xt) = false := by simpa using hft
   obtain ⟨j, rfl⟩ := Int.eq_ofNat_of_zero_le v3
   have hj2 : j < n2 := by omega
   have hjz : (j : Int) < (n2 : Int) := by omega
   obtain ⟨tb, tof, rfl, htb, t0, t1, t2, t3, t4⟩ := tv_get HS2.out.tok (at_tok (i := j) (by have := HS2.out.lt; omega))
   have HV3 : Hid (v = cutV d (tokV L j)) := by
    show _ = _
    rw [HV2.out, if_pos ⟨hk, hft⟩]
   generalize tokV L j = y at *
   obtain ⟨W3, hW3, hB3, hs3, f0, f1, f2, f3, f4⟩ := tv_box W2 y 68
   have B3 : Hid (Below S w W3) := B2.out.trans (hB3.mono (by omega))
   have HBy : Hid (Byts W3 W3.heap.size A1 d) := HS2.out.byt.on (Nat.le_refl _) hB3
   have HLb := Lib.hid HS2.out.lb
   rw [hs2] at f0 f1 f2 f3 f4
   clear hbad hft HV2 hB3 v3 v4 v5 B2 HS2
   by_cases hyb : y.f < 0 ∨ y.f > y.t ∨ y.t > (n1 : Int)
   ·obtain rfl : v = ⟨#[]⟩ := by
     rw [HV3.out]
     unfold cutV
     rw [if_pos (by rw [HLb.out]; exact hyb)]
    have hys : decide (y.f < 0) = true ∨ (decide (y.f < 0) = false ∧ decide (y.t < y.f) = true) ∨ (decide (y.f < 0) = false ∧ decide (y.t < y.f) = false ∧ decide ((n1 : Int) < y.t) = true) := by
     simp only [decide_eq_true_eq, decide_eq_false_iff_not]
     omega
    clear hyb HV3
    rcases hk with rfl | rfl <;> rcases hys with y1 | ⟨y1, y2⟩ | ⟨y1, y2, y3⟩
    all_goals
     go_wp2_with fail
     go_ret
     exact ⟨rfl, B3.out⟩
   ·obtain ⟨F, hF⟩ : ∃ F : Nat, y.f = (F : Int) := ⟨y.f.toNat, by omega⟩
    obtain ⟨t, ht⟩ : ∃ t : Nat, y.t = (t : Int) := ⟨y.t.toNat, by omega⟩
    have hx : v = strOf ((d.drop F).take (t - F)) := by
     rw [HV3.out]
     unfold cutV
     rw [HLb.out, if_neg hyb, hF, ht, Int.toNat_natCast, Int.toNat_natCast]
    rw [hF] at f1
    rw [ht] at f2
    have b2 : decide (t < F) = false := decide_eq_false (by omega)
    have b3 : decide (n1 < t) = false := decide_eq_false (by omega)
    have b0 : decide ((F : Int) < 0) = false := decide_eq_false (by omega)
    have h4 : F ≤ t := by omega
    have h5 : t ≤ n1 := by omega
    have h6 : t ≤ c1 := by omega
    have hF9 : F ≤ 900 := by omega
    have hT9 : t ≤ 900 := by omega
    clear hyb HV3 hF ht
    by_cases hce : c1 = F
    ·subst hce
     have hT : t = c1 := by omega
     subst hT
     have hl0 : (d.drop t).take (t - t) = [] := by rw [Nat.sub_self, List.take_zero]
     rw [hl0, str_nil] at hx
     subst hx
     have hcv := conv_nil (V := W3) (A := A1)
     clear hl0
     rcases hk with rfl | rfl
     all_goals
      go_wp2_with fail
      go_ret
      exact ⟨rfl, B3.out⟩
    ·have hcv := conv_int (cap := c1) HBy.out HLb.out (e := F) (k := t - F) (by omega) (by omega)
     rw [← hx] at hcv
     clear hx
     rcases hk with rfl | rfl
     all_goals
      go_wp2_with fail
      go_ret
      exact ⟨rfl, B3.out⟩
end Go.Proofs.YtpjgapnihmiceaaDoor
namespace Go.Proofs.YtpjgapnihmiceaaDoor
open Go.RowKit
set_option linter.unusedSimpArgs false
set_option linter.unusedVariables false
def srcV (A1 : Option Addr) (n1 c1 : Nat) (A2 : Option Addr) (n2 c2 : Nat) (A : Option Addr) (n c : Nat) : Value := .agg #[.slice A1 n1 c1, .slice A2 n2 c2, .slice A n c]
theorem two_box3 (w : World) (x y z x2 y2 z2 : Value) (T : TypeId) : ∃ W, (w.alloc (.cells #[x, y, z] T)).alloc (.cells #[x2, y2, z2] T) = W ∧ Below w.heap.size w W ∧ W.heap.size = w.heap.size + 2 ∧
  (W.cell? ⟨w.heap.size, 0, none⟩ = some x ∧ W.cell? ⟨w.heap.size, 1, none⟩ = some y ∧ W.cell? ⟨w.heap.size, 2, none⟩ = some z) ∧
  (W.cell? ⟨w.heap.size + 1, 0, none⟩ = some x2 ∧ W.cell? ⟨w.heap.size + 1, 1, none⟩ = some y2 ∧ W.cell? ⟨w.heap.size + 1, 2, none⟩ = some z2) ∧
  (W.frozen? ⟨w.heap.size + 1, 0, none⟩ = false ∧ W.frozen? ⟨w.heap.size + 1, 1, none⟩ = false ∧ W.frozen? ⟨w.heap.size + 1, 2, none⟩ = false) := by
 refine ⟨_, rfl, ((Below.refl _ _).alloc (Nat.le_refl _) _).alloc (by simp) _, by simp, ⟨?_, ?_, ?_⟩, ⟨?_, ?_, ?_⟩, ⟨?_, ?_, ?_⟩⟩
 ·rw [World.cell?_alloc_lt _ _ _ (by simp), World.cell?_alloc_at _ _ _ _ rfl]; rfl
 ·rw [World.cell?_alloc_lt _ _ _ (by simp), World.cell?_alloc_at _ _ _ _ rfl]; rfl
 ·rw [World.cell?_alloc_lt _ _ _ (by simp), World.cell?_alloc_at _ _ _ _ rfl]; rfl
 ·rw [World.cell?_alloc_at _ _ _ _ (by simp)]; rfl
 ·rw [World.cell?_alloc_at _ _ _ _ (by simp)]; rfl
 ·rw [World.cell?_alloc_at _ _ _ _ (by simp)]; rfl
 ·rw [World.frozen?_alloc_at _ _ _ _ (by simp)]
 ·rw [World.frozen?_alloc_at _ _ _ _ (by simp)]
 ·rw [World.frozen?_alloc_at _ _ _ _ (by simp)]
theorem setAll_app (w : World) (a b : List (Addr × Value)) : setAll w (a ++ b) = setAll (setAll w a) b := by unfold setAll; rw [List.foldl_append]
theorem in_app {a b : List (Addr × Value)} {B S : Nat} (ha : CellsIn a B S) (hb : CellsIn b B S) : CellsIn (a ++ b) B S := fun x hx => by
 rcases List.mem_append.1 hx with h | h
 ·exact ha x h
 ·exact hb x h
theorem in_res {S B : Nat} {W : World} {x y z : Value} (hB : B ≤ S) (hW : W.heap.size = S + 2) : CellsIn [(⟨S + 1, 0, none⟩, x), (⟨S + 1, 1, none⟩, y), (⟨S + 1, 2, none⟩, z)] B W.drew.heap.size := fun u hu => by
 have h : u.1.block = S + 1 := by
  simp only [List.mem_cons, List.not_mem_nil, or_false] at hu
  rcases hu with rfl | rfl | rfl <;> rfl
 rw [h]
 show B ≤ S + 1 ∧ S + 1 < W.heap.size
 omega
def FewSrc (B : Nat) (A1 : Option Addr) (m1 c1 : Nat) (A2 : Option Addr) (m2 c2 l : Nat) (T : List Nd) (w : World) (v : Value) (w' : World) : Prop :=
 ∃ A c, v = srcV A1 m1 c1 A2 m2 c2 A l c ∧ l ≤ c ∧ c ≤ 9223372036854775807 ∧ (NdsAt w' w'.heap.size A T ∧ ∀ lq : List (Addr × Value), CellsIn lq B w.heap.size → NdsAt (setAll w' lq) w'.heap.size A T) ∧ Below w.heap.size w w'
set_option maxHeartbeats 8000000 in
set_option maxRecDepth 100000 in
theorem vFew_run (A1 : Option Addr) (n1 c1 : Nat) (A2 : Option Addr) (n2 c2 : Nat) (A : Option Addr) (n c B : Nat) (T : List Nd) (m1 m2 l : Nat) (w : World) (hb : NdsAt w B A T) (hBw : B ≤ w.heap.size) (hl : Hid (T.length = n)) (hcap : n ≤ 9223372036854775807)
  (hm1 : min n1 300 = m1) (hm2 : min n2 60 = m2) (hc1 : n1 ≤ c1) (hc2 : n2 ≤ c2) (hll : Hid ((fewT T).length = l)) :
  Calls Tryd.prog 4 #[srcV A1 n1 c1 A2 n2 c2 A n c] w fun e w' => ∃ v, e = .returned v ∧ FewSrc B A1 m1 c1 A2 m2 c2 l (fewT T) w v w' := by
 have HF := Lib.hid (fun w h1 h2 => FewT_run A n c B T w h1 h2 hl hcap)
 obtain ⟨S, hS⟩ : ∃ S, w.heap.size = S := ⟨_, rfl⟩
 obtain ⟨W, hW, hB, hWS, ⟨d0, d1, d2⟩, ⟨r0, r1, r2⟩, ⟨q0, q1, q2⟩⟩ := two_box3 w (.slice A1 n1 c1) (.slice A2 n2 c2) (.slice A n c) (.slice none 0 0) (.slice none 0 0) (.slice none 0 0) 28
 rw [hS] at hB hWS d0 d1 d2 r0 r1 r2 q0 q1 q2
 unfold FewOutT at HF
 unfold FewSrc
 unfold srcV
 unfold trV at HF
 rw [hS] at hBw ⊢
 have HWS := Lib.hid hWS
 have HN : Hid (NdsAt W.drew B A T ∧ B ≤ W.drew.heap.size) := ⟨(hb.below hB hBw).below ((Below.refl _ W).drew) (by show B ≤ W.heap.size; omega), by show B ≤ W.heap.size; omega⟩
 have BX := Lib.hid hB
 have HB := Lib.hid hBw
 have k1 : m1 ≤ c1 := by omega
 have k2 : m2 ≤ c2 := by omega
 have kz1 : (m1 : Int) ≤ (c1 : Int) := by omega
 have kz2 : (m2 : Int) ≤ (c2 : Int) := by omega
 have k3 : m1 ≤ 300 := by omega
 have k4 : m2 ≤ 60 := by omega
 have hz1 : (if (300 : Int) < (n1 : Int) then (300 : Int) else (n1 : Int)) = (m1 : Int) := by split <;> omega
 have hz2 : (if (60 : Int) < (n2 : Int) then (60 : Int) else (n2 : Int)) = (m2 : Int) := by split <;> omega
 obtain ⟨R, hR⟩ : ∃ R, fewT T = R := ⟨_, rfl⟩
 rw [hR] at HF hll ⊢
 clear hb hB hWS hBw hm1 hm2 hc1 hc2 hR
 go_enter Tryd.func4, Tryd.ntmps4
 go_wp2_with fail
 go_region_held3 (fun W' => W'.cell? ⟨S, 0, none⟩ = some (.slice A1 n1 c1) ∧ W'.cell? ⟨S, 1, none⟩ = some (.slice A2 n2 c2) ∧ W'.cell? ⟨S, 2, none⟩ = some (.slice A n c)) (first | exact ⟨d0, d1, d2⟩ | exact D1.out | go_keep)
  (first | (go_at_call 19; refine (HF.out _ HN.out.1 HN.out.2).mono ?_; rintro e w1 ⟨v, rfl, A7, c7, rfl, k7, k8, hn7, hw7⟩; rw [hll.out] at k7; have B7 : Hid (Below (S + 2) W w1) := (Below.refl _ W).drew.trans (hw7.mono (by show _ ≤ W.heap.size; have := HWS.out; omega)); have D1 : Hid (w1.cell? ⟨S, 0, none⟩ = some (.slice A1 n1 c1) ∧ w1.cell? ⟨S, 1, none⟩ = some (.slice A2 n2 c2) ∧ w1.cell? ⟨S, 2, none⟩ = some (.slice A n c)) := ⟨(B7.out.cell (p := ⟨S, 0, none⟩) (by show S < _; omega)).trans d0, (B7.out.cell (p := ⟨S, 1, none⟩) (by show S < _; omega)).trans d1, (B7.out.cell (p := ⟨S, 2, none⟩) (by show S < _; omega)).trans d2⟩; have g0 := (B7.out.cell (p := ⟨S + 1, 0, none⟩) (by show S + 1 < _; omega)).trans r0; have g1 := (B7.out.cell (p := ⟨S + 1, 1, none⟩) (by show S + 1 < _; omega)).trans r1; have g2 := (B7.out.cell (p := ⟨S + 1, 2, none⟩) (by show S + 1 < _; omega)).trans r2; have z0 := (B7.out.frozen (p := ⟨S + 1, 0, none⟩) (by show S + 1 < _; omega)).trans q0; have z1 := (B7.out.frozen (p := ⟨S + 1, 1, none⟩) (by show S + 1 < _; omega)).trans q1; have z2 := (B7.out.frozen (p := ⟨S + 1, 2, none⟩) (by show S + 1 < _; omega)).trans q2; have HN7 := Lib.hid hn7; rw [hll.out]; clear hn7 hw7) | fail)
 all_goals
  go_wp2_with fail
  (try simp only [Exit.inBlock, Exit.then])
  refine bodyPost_ret (v := .agg #[.slice A1 m1 c1, .slice A2 m2 c2, .slice A7 l c7]) (by rw [results_cell1 rfl]; go_simp; try rfl) rfl ⟨_, rfl, A7, c7, rfl, k7, k8, ⟨?_, fun lq hlq => ?_⟩, ?_⟩
  ·have := HN7.out.2 [(⟨S + 1, 0, none⟩, .slice A1 m1 c1), (⟨S + 1, 1, none⟩, .slice A2 m2 c2), (⟨S + 1, 2, none⟩, .slice A7 l c7)] (in_res HB.out HWS.out)
   simpa [setAll] using this
  ·have := HN7.out.2 ([(⟨S + 1, 0, none⟩, .slice A1 m1 c1), (⟨S + 1, 1, none⟩, .slice A2 m2 c2), (⟨S + 1, 2, none⟩, .slice A7 l c7)] ++ lq) (in_app (in_res HB.out HWS.out) (fun x hx => ⟨(hlq x hx).1, by have := (hlq x hx).2; show _ < W.heap.size; rw [HWS.out]; omega⟩))
   rw [setAll_app] at this
   simpa [setAll] using this
  ·exact (((BX.out.trans (B7.out.mono (by omega))).setCell (by show S ≤ S + 1; omega) _).setCell (by show S ≤ S + 1; omega) _).setCell (by show S ≤ S + 1; omega) _
end Go.Proofs.YtpjgapnihmiceaaDoor
namespace Go.Proofs.YtpjgapnihmiceaaDoor
open Go.RowKit
set_option linter.unusedSimpArgs false
set_option linter.unusedVariables false
def FileAt (w : World) (b : Nat) (d : List Int) (L : List Tv) (T : List Nd) : Prop :=
 ∃ A1 n1 c1 A2 n2 c2 A n c, (w.cell? ⟨b, 0, none⟩ = some (.slice A1 n1 c1) ∧ w.cell? ⟨b, 1, none⟩ = some (.slice A2 n2 c2) ∧ w.cell? ⟨b, 2, none⟩ = some (.slice A n c)) ∧
  (c1 ≤ 9223372036854775807 ∧ c2 ≤ 9223372036854775807 ∧ n ≤ c ∧ c ≤ 9223372036854775807) ∧ SrcAt w A1 n1 c1 A2 n2 c2 A n d L T ∧ b < w.heap.size ∧ Valid T n2
theorem FileAt.below {w w' : World} {b : Nat} {d : List Int} {L : List Tv} {T : List Nd} (h : FileAt w b d L T) (hb : Below w.heap.size w w') : FileAt w' b d L T := by
 obtain ⟨A1, n1, c1, A2, n2, c2, A, n, c, ⟨h1, h2, h3⟩, h4, h5, h6, h7⟩ := h
 exact ⟨A1, n1, c1, A2, n2, c2, A, n, c, ⟨(hb.cell (p := ⟨b, 0, none⟩) h6).trans h1, (hb.cell (p := ⟨b, 1, none⟩) h6).trans h2, (hb.cell (p := ⟨b, 2, none⟩) h6).trans h3⟩, h4, h5.below hb, Nat.lt_of_lt_of_le h6 hb.size, h7⟩
def FileIs (w : World) (v : Value) (d : List Int) (L : List Tv) (T : List Nd) : Prop := (v = .pointer none ∧ T = []) ∨ ∃ b, v = .pointer (some ⟨b, 0, none⟩) ∧ FileAt w b d L T
theorem FileIs.below {w w' : World} {v : Value} {d : List Int} {L : List Tv} {T : List Nd} (h : FileIs w v d L T) (hb : Below w.heap.size w w') : FileIs w' v d L T := by
 rcases h with h | ⟨b, h1, h2⟩
 ·exact .inl h
 ·exact .inr ⟨b, h1, h2.below hb⟩
def nodeV (T : List Nd) (n : Int) : Nd := if inT T n = true then kd T n else default
def wrdsV (d : List Int) (L : List Tv) (T : List Nd) (n : Int) : List ByteArray := (nodeV T n).kids.map (wordV d L T)
def stCells (s : ByteArray) : List Value := [.string s]
theorem st_enc : EncOk stCells 1 := ⟨by omega, fun e => ⟨rfl, fun u hu => by simp [stCells] at hu; subst hu; rfl⟩⟩
theorem inT_nil (n : Int) : inT [] n = false := decide_eq_false (by show ¬ (0 ≤ n ∧ n < 0); omega)
theorem Valid.ne {T : List Nd} {m : Int} (h : Valid T m) : T ≠ [] := fun e => by have := h.pos; rw [e] at this; exact absurd this (by decide)
def SaysNew : Prop := ∀ (A1 : Option Addr) (n1 c1 : Nat) (A2 : Option Addr) (n2 c2 : Nat) (A : Option Addr) (n c : Nat) (d : List Int) (L : List Tv) (T : List Nd) (w : World),
 SrcAt w A1 n1 c1 A2 n2 c2 A n d L T → c1 ≤ 9223372036854775807 ∧ c2 ≤ 9223372036854775807 ∧ n ≤ c ∧ c ≤ 9223372036854775807 →
 Calls Tryd.prog 5 #[.slice A1 n1 c1, .slice A2 n2 c2, trV A n c] w fun e w' => ∃ v, e = .returned (.tuple #[v, trErr (chkT T n2)]) ∧ FileIs w' v d L (resOf (chkT T n2) T []) ∧ Below w.heap.size w w'
def SaysKid : Prop := ∀ (v : Value) (d : List Int) (L : List Tv) (T : List Nd) (n i : Int) (w : World), FileIs w v d L T →
 Calls Tryd.prog 10 #[v, .int .i64 n, .int .i64 i] w fun e w' => e = .returned (.int .i64 (kidV T n i)) ∧ Below w.heap.size w w'
def SaysWord : Prop := ∀ (v : Value) (d : List Int) (L : List Tv) (T : List Nd) (n : Int) (w : World), FileIs w v d L T →
 Calls Tryd.prog 11 #[v, .int .i64 n] w fun e w' => e = .returned (.string (wordV d L T n)) ∧ Below w.heap.size w w'
def SaysOp : Prop := ∀ (v : Value) (d : List Int) (L : List Tv) (T : List Nd) (n : Int) (w : World), FileIs w v d L T →
 Calls Tryd.prog 30 #[v, .int .i64 n] w fun e w' => e = .returned (.int .i64 (opV L T n)) ∧ Below w.heap.size w w'
def SaysSpan : Prop := ∀ (v : Value) (d : List Int) (L : List Tv) (T : List Nd) (n : Int) (w : World), FileIs w v d L T →
 Calls Tryd.prog 31 #[v, .int .i64 n] w fun e w' => e = .returned (.agg #[.int .i64 (spanV L T n).1, .int .i64 (spanV L T n).2]) ∧ Below w.heap.size w w'
def SaysNode : Prop := ∀ (v : Value) (d : List Int) (L : List Tv) (T : List Nd) (n : Int) (w : World), FileIs w v d L T →
 Calls Tryd.prog 9 #[v, .int .i64 n] w fun e w' => ∃ K m c, e = .returned (.agg #[.int .i64 (nodeV T n).k, .int .i64 (nodeV T n).f, .int .i64 (nodeV T n).t, .slice K m c]) ∧ m = (nodeV T n).kids.length ∧ Below w.heap.size w w'
def SaysWords : Prop := ∀ (v : Value) (d : List Int) (L : List Tv) (T : List Nd) (n : Int) (w : World), FileIs w v d L T →
 Calls Tryd.prog 12 #[v, .int .i64 n] w fun e w' => ∃ A m c, e = .returned (.slice A m c) ∧ m = (wrdsV d L T n).length ∧ m ≤ c ∧ c ≤ 9223372036854775807 ∧ CellsV stCells w' w'.heap.size A (wrdsV d L T n) ∧ Below w.heap.size w w'
def SaysOwnV : Prop := ∀ (v : Value) (d : List Int) (L : List Tv) (T : List Nd) (n : Int) (w : World), FileIs w v d L T →
 Calls Tryd.prog 13 #[v, .int .i64 n] w fun e w' => ∃ A m c, e = .returned (.slice A m c) ∧ m = (ownV T n).length ∧ m ≤ c ∧ c ≤ 9223372036854775807 ∧ Nums w' w'.heap.size A (ownV T n) ∧ Below w.heap.size w w'
end Go.Proofs.YtpjgapnihmiceaaDoor
namespace Go.Proofs.YtpjgapnihmiceaaDoor
open Go.RowKit
set_option linter.unusedSimpArgs false
set_option linter.unusedVariables false
structure NSt (S : Nat) (W w : World) (v : Value) (A1 : Option Addr) (n1 c1 : Nat) (A2 : Option Addr) (n2 c2 : Nat) (A : Option Addr) (n c : Nat) (d : List Int) (L : List Tv) (T Tf : List Nd) : Prop where
 src : SrcAt w A1 n1 c1 A2 n2 c2 A n d L T
 fil : FileIs w v d L Tf
 e0 : w.cell? ⟨S, 0, none⟩ = some (.slice A1 n1 c1)
 e1 : w.cell? ⟨S, 1, none⟩ = some (.slice A2 n2 c2)
 e2 : w.cell? ⟨S, 2, none⟩ = some (.slice A n c)
 bel : Below S W w
 sz : S < w.heap.size
theorem NSt.on {S : Nat} {W w w' : World} {v : Value} {A1 A2 A : Option Addr} {n1 c1 n2 c2 n c : Nat} {d : List Int} {L : List Tv} {T Tf : List Nd} (h : NSt S W w v A1 n1 c1 A2 n2 c2 A n c d L T Tf) (hw : Below w.heap.size w w') : NSt S W w' v A1 n1 c1 A2 n2 c2 A n c d L T Tf :=
 ⟨h.src.below hw, h.fil.below hw, (hw.cell (p := ⟨S, 0, none⟩) h.sz).trans h.e0, (hw.cell (p := ⟨S, 1, none⟩) h.sz).trans h.e1, (hw.cell (p := ⟨S, 2, none⟩) h.sz).trans h.e2, h.bel.trans (hw.mono (Nat.le_of_lt h.sz)), Nat.lt_of_lt_of_le h.sz hw.size⟩
theorem src_few {W w1 : World} {A1 A2 A A9 : Option Addr} {n1 c1 n2 c2 n c m1 m2 l c9 : Nat} {d : List Int} {L : List Tv} {T : List Nd} (E : TypeId)
  (hy : Byts W W.heap.size A1 d) (hd : d.length = n1) (hm1 : min n1 300 = m1) (hc1 : n1 ≤ c1) (ht : CellsV tvCells W W.heap.size A2 L) (hL : L.length = n2) (hm2 : min n2 60 = m2) (hc2 : n2 ≤ c2) (hll : (fewT T).length = l)
  (h : NdsAt w1 w1.heap.size A9 (fewT T) ∧ ∀ lq : List (Addr × Value), CellsIn lq W.heap.size (W.alloc (.cells #[.slice A1 n1 c1, .slice A2 n2 c2, .slice A n c] E)).heap.size → NdsAt (setAll w1 lq) w1.heap.size A9 (fewT T))
  (hw : Below (W.alloc (.cells #[.slice A1 n1 c1, .slice A2 n2 c2, .slice A n c] E)).heap.size (W.alloc (.cells #[.slice A1 n1 c1, .slice A2 n2 c2, .slice A n c] E)) w1) :
  (w1.cell? ⟨W.heap.size, 0, none⟩ = some (.slice A1 n1 c1) ∧ w1.cell? ⟨W.heap.size, 1, none⟩ = some (.slice A2 n2 c2) ∧ w1.cell? ⟨W.heap.size, 2, none⟩ = some (.slice A n c)) ∧
  (w1.frozen? ⟨W.heap.size, 0, none⟩ = false ∧ w1.frozen? ⟨W.heap.size, 1, none⟩ = false ∧ w1.frozen? ⟨W.heap.size, 2, none⟩ = false) ∧
  ∃ V, ((w1.setCell ⟨W.heap.size, 0, none⟩ (.slice A1 m1 c1)).setCell ⟨W.heap.size, 1, none⟩ (.slice A2 m2 c2)).setCell ⟨W.heap.size, 2, none⟩ (.slice A9 l c9) = V ∧
   (V.cell? ⟨W.heap.size, 0, none⟩ = some (.slice A1 m1 c1) ∧ V.cell? ⟨W.heap.size, 1, none⟩ = some (.slice A2 m2 c2) ∧ V.cell? ⟨W.heap.size, 2, none⟩ = some (.slice A9 l c9)) ∧
   SrcAt V A1 m1 c1 A2 m2 c2 A9 l (d.take m1) (L.take m2) (fewT T) ∧ Below W.heap.size W V ∧ W.heap.size < V.heap.size := by
 have hs := hw.size
 rw [World.size_alloc] at hs
 have g0 : w1.cell? ⟨W.heap.size, 0, none⟩ = some (.slice A1 n1 c1) := (hw.cell (p := ⟨W.heap.size, 0, none⟩) (by simp)).trans (by rw [World.cell?_alloc_at _ _ _ _ rfl]; rfl)
 have g1 : w1.cell? ⟨W.heap.size, 1, none⟩ = some (.slice A2 n2 c2) := (hw.cell (p := ⟨W.heap.size, 1, none⟩) (by simp)).trans (by rw [World.cell?_alloc_at _ _ _ _ rfl]; rfl)
 have g2 : w1.cell? ⟨W.heap.size, 2, none⟩ = some (.slice A n c) := (hw.cell (p := ⟨W.heap.size, 2, none⟩) (by simp)).trans (by rw [World.cell?_alloc_at _ _ _ _ rfl]; rfl)
 have f0 : w1.frozen? ⟨W.heap.size, 0, none⟩ = false := (hw.frozen (p := ⟨W.heap.size, 0, none⟩) (by simp)).trans (by rw [World.frozen?_alloc_at _ _ _ _ rfl])
 have f1 : w1.frozen? ⟨W.heap.size, 1, none⟩ = false := (hw.frozen (p := ⟨W.heap.size, 1, none⟩) (by simp)).trans (by rw [World.frozen?_alloc_at _ _ _ _ rfl])
 have f2 : w1.frozen? ⟨W.heap.size, 2, none⟩ = false := (hw.frozen (p := ⟨W.heap.size, 2, none⟩) (by simp)).trans (by rw [World.frozen?_alloc_at _ _ _ _ rfl])
 have hBV : Below W.heap.size W (((w1.setCell ⟨W.heap.size, 0, none⟩ (.slice A1 m1 c1)).setCell ⟨W.heap.size, 1, none⟩ (.slice A2 m2 c2)).setCell ⟨W.heap.size, 2, none⟩ (.slice A9 l c9)) :=
  (((((Below.refl _ _).alloc (Nat.le_refl _) _).trans (hw.mono (by simp))).setCell (Nat.le_refl _) _).setCell (Nat.le_refl _) _).setCell (Nat.le_refl _) _
 have hne : ∀ i j : Nat, i ≠ j → (⟨W.heap.size, i, none⟩ : Addr) ≠ ⟨W.heap.size, j, none⟩ := fun i j hij e => hij (by injection e)
 have k1 : (w1.setCell ⟨W.heap.size, 0, none⟩ (.slice A1 m1 c1)).cell? ⟨W.heap.size, 1, none⟩ = some (.slice A2 n2 c2) := by rw [World.cell?_setCell_other _ _ _ _ (by simp)]; exact g1
 have k2 : ((w1.setCell ⟨W.heap.size, 0, none⟩ (.slice A1 m1 c1)).setCell ⟨W.heap.size, 1, none⟩ (.slice A2 m2 c2)).cell? ⟨W.heap.size, 2, none⟩ = some (.slice A n c) := by rw [World.cell?_setCell_other _ _ _ _ (by simp), World.cell?_setCell_other _ _ _ _ (by simp)]; exact g2
 refine ⟨⟨g0, g1, g2⟩, ⟨f0, f1, f2⟩, _, rfl, ⟨?_, ?_, ?_⟩, ⟨(hy.take m1).on (Nat.le_refl _) hBV, by rw [List.length_take]; omega, by omega, by omega, ((ht.take tv_enc m2).below hBV (Nat.le_refl _)).more hBV.size, by rw [List.length_take]; omega, by omega, by omega, ⟨?_, hll, few_smallT T⟩⟩, hBV, by simp; omega⟩
 ·rw [World.cell?_setCell_other _ _ _ _ (by simp), World.cell?_setCell_other _ _ _ _ (by simp)]
  exact World.cell?_setCell_same' _ _ _ (by rw [g0]; rfl)
 ·rw [World.cell?_setCell_other _ _ _ _ (by simp)]
  exact World.cell?_setCell_same' _ _ _ (by rw [k1]; rfl)
 ·exact World.cell?_setCell_same' _ _ _ (by rw [k2]; rfl)
 ·have := h.2 [(⟨W.heap.size, 0, none⟩, .slice A1 m1 c1), (⟨W.heap.size, 1, none⟩, .slice A2 m2 c2), (⟨W.heap.size, 2, none⟩, .slice A9 l c9)] (fun u hu => by
   have hb : u.1.block = W.heap.size := by
    simp only [List.mem_cons, List.not_mem_nil, or_false] at hu
    rcases hu with rfl | rfl | rfl <;> rfl
   rw [hb]
   simp)
  simpa [setAll] using this
end Go.Proofs.YtpjgapnihmiceaaDoor
namespace Go.Proofs.YtpjgapnihmiceaaDoor
open Go.RowKit
set_option linter.unusedSimpArgs false
theorem FileIs.none {w : World} {v : Value} {d : List Int} {L : List Tv} (h : FileIs w v d L []) : v = .pointer none := by
 rcases h with h | ⟨b, _, _, _, _, _, _, _, _, _, _, _, _, _, _, hv⟩
 ·exact h.1
 ·exact absurd rfl hv.ne
theorem FileIs.some {w : World} {v : Value} {d : List Int} {L : List Tv} {T : List Nd} (h : FileIs w v d L T) (hT : T ≠ []) : ∃ b, v = .pointer (some ⟨b, 0, .none⟩) := by
 rcases h with h | ⟨b, h, _⟩
 ·exact absurd h.2 hT
 ·exact ⟨b, h⟩
theorem nodeV_nil (n : Int) : nodeV [] n = ⟨0, 0, 0, []⟩ := by unfold nodeV; rw [inT_nil]; rfl
theorem kidV_nil (n i : Int) : kidV [] n i = -1 := by unfold kidV; rw [inT_nil]; rfl
theorem wordV_nil (d : List Int) (L : List Tv) (n : Int) : wordV d L [] n = ⟨#[]⟩ := by unfold wordV; rw [inT_nil]; rfl
theorem ownV_nil (n : Int) : ownV [] n = [] := by unfold ownV; rw [inT_nil]; rfl
theorem wrdsV_nil (d : List Int) (L : List Tv) (n : Int) : wrdsV d L [] n = [] := by unfold wrdsV; rw [nodeV_nil]; rfl
theorem ownsF_le (T : List Nd) (i : Nat) : ∀ (h : Nat) (f : Int), (ownsF T i h f).length ≤ h
 | 0, f => Nat.le_refl _
 | h + 1, f => by
  have := ownsF_le T i h (f + 1)
  unfold ownsF
  split
  ·rw [List.length_cons]; omega
  ·omega
theorem ownV_le {T : List Nd} {m : Nat} (h : Valid T (m : Int)) (k : Int) : (ownV T k).length ≤ m := by
 unfold ownV
 split
 ·next hi =>
  have hi := of_decide_eq_true hi
  have h1 := ownsF_le T k.toNat ((nd T k.toNat).t - (nd T k.toNat).f).toNat (nd T k.toNat).f
  have h2 := h.num k.toNat (by omega)
  unfold ownL
  omega
 ·exact Nat.zero_le _
theorem ownsF_in {T : List Nd} {i : Nat} {tok : Int} : ∀ {h : Nat} {f : Int}, tok ∈ ownsF T i h f → f ≤ tok ∧ tok < f + h
 | 0, f, hm => by cases hm
 | h + 1, f, hm => by
  unfold ownsF at hm
  split at hm
  ·rcases List.mem_cons.1 hm with rfl | hm
   ·omega
   ·have := ownsF_in hm; omega
  ·have := ownsF_in hm; omega
theorem ownV_mem {T : List Nd} {m : Nat} (h : Valid T (m : Int)) {k tok : Int} (ht : tok ∈ ownV T k) : 0 ≤ tok ∧ tok < m := by
 unfold ownV at ht
 split at ht
 ·next hi =>
  have hi := of_decide_eq_true hi
  have h1 := ownsF_in ht
  have h2 := h.num k.toNat (by omega)
  omega
 ·cases ht
end Go.Proofs.YtpjgapnihmiceaaDoor
namespace Go.Proofs.YtpjgapnihmiceaaDoor
open Go.RowKit
theorem conv_lit (w : World) (cs : Array Value) (n c : Nat) : (convert 22 22 (.slice (some ⟨w.heap.size, 0, none⟩) n c)).run Tryd.prog (w.alloc (.cells cs 5)) = .ok (.slice (some ⟨w.heap.size, 0, none⟩) n c) (w.alloc (.cells cs 5 (cs.size, cs.size + 1))) := by
 have hsh : (w.alloc (.cells cs 5)).shape? w.heap.size = some (5, cs.size) := by
  have : (w.alloc (.cells cs 5)).heap[w.heap.size]? = some (.cells cs 5) := by
   show (w.heap.push (.cells cs 5))[w.heap.size]? = _
   simp
  unfold World.shape?
  rw [this]
 have hfr : (w.alloc (.cells cs 5)).freeze ⟨w.heap.size, cs.size, none⟩ 1 = w.alloc (.cells cs 5 (cs.size, cs.size + 1)) := by
  have hm : ∀ (a : Array Obj) (x : Obj) (f : Obj → Obj), (a.push x).modify a.size f = a.push (f x) := by
   intro a x f
   apply Array.ext
   ·simp
   ·intro i h1 h2
    simp only [Array.getElem_modify, Array.getElem_push]
    by_cases h : a.size = i
    ·subst h
     simp
    ·have hi : i < a.size := by simp at h1; omega
     simp [h, hi]
  unfold World.freeze
  rw [if_neg (by decide)]
  show ({ w.alloc (.cells cs 5) with heap := (w.heap.push (.cells cs 5)).modify w.heap.size _ } : World) = _
  rw [hm]
  rfl
 simp [convert, run_underlying Tryd.underlying22, run_underlying Tryd.underlying5, markStringish, hsh]
 exact hfr
end Go.Proofs.YtpjgapnihmiceaaDoor
namespace Go.Proofs.YtpjgapnihmiceaaDoor
open Go.RowKit
set_option linter.unusedSimpArgs false
set_option linter.unusedVariables false
def exD : List Int := [97, 32, 43, 32, 98]
def exL : List Tv := [⟨1, 0, 1, false, 0⟩, ⟨40, 2, 3, false, 0⟩, ⟨1, 4, 5, false, 0⟩]
def exV : List Nd := [⟨2, 0, 1, []⟩, ⟨2, 2, 3, []⟩, ⟨66, 0, 3, [0, 1]⟩]
theorem ex_chk : chkT exV ((3 : Nat) : Int) = (0, -1) := by decide +kernel
theorem ex_op : opV exL exV 2 = 40 := by decide +kernel
theorem ex_word : wordV exD exL exV 1 = ⟨#[98]⟩ := by decide +kernel
theorem ex_span : spanV exL exV 2 = (0, 5) := by decide +kernel
theorem ex_src (w : World) : ∃ W, (((w.alloc (.cells #[.int .i64 1, .int .i64 0, .int .i64 1, .bool false, .int .i64 0, .int .i64 40, .int .i64 2, .int .i64 3, .bool false, .int .i64 0, .int .i64 1, .int .i64 4, .int .i64 5, .bool false, .int .i64 0] 68)).alloc (.cells #[.int .u8 97, .int .u8 32, .int .u8 43, .int .u8 32, .int .u8 98] 5 (5, 6))).alloc (.cells #[.int .i64 0, .int .i64 1] 3)).alloc (.cells #[.int .i64 2, .int .i64 0, .int .i64 1, .slice none 0 0, .int .i64 2, .int .i64 2, .int .i64 3, .slice none 0 0, .int .i64 66, .int .i64 0, .int .i64 3, .slice (some ⟨w.heap.size + 1 + 1, 0, none⟩) 2 2] 40) = W ∧
  Below w.heap.size w W ∧ SrcAt W (some ⟨w.heap.size + 1, 0, none⟩) 5 5 (some ⟨w.heap.size, 0, none⟩) 3 3 (some ⟨w.heap.size + 1 + 1 + 1, 0, none⟩) 3 exD exL exV := by
 refine ⟨_, rfl, ((((Below.refl _ _).alloc (Nat.le_refl _) _).alloc (by simp) _).alloc (by simp <;> omega) _).alloc (by simp <;> omega) _, ⟨⟨fun x hx => (by simp [exD] at hx; omega), fun _ => ⟨_, _, rfl, by simp <;> omega, fun i x hx => ?_⟩⟩, rfl, by decide, by decide, fun _ => ⟨_, _, rfl, by simp <;> omega, fun j u hu => ?_⟩, rfl, by decide, by decide, ⟨⟨[⟨2, 0, 1, none, 0, 0⟩, ⟨2, 2, 3, none, 0, 0⟩, ⟨66, 0, 3, some ⟨w.heap.size + 1 + 1, 0, none⟩, 2, 2⟩], fun _ => ⟨_, _, rfl, by simp, fun j u hu => ?_⟩, rfl, fun i x n hx hn => ?_⟩, rfl, by decide, by decide⟩⟩⟩
 ·have hm := World.cell?_alloc_mark (w.alloc (.cells #[.int .i64 1, .int .i64 0, .int .i64 1, .bool false, .int .i64 0, .int .i64 40, .int .i64 2, .int .i64 3, .bool false, .int .i64 0, .int .i64 1, .int .i64 4, .int .i64 5, .bool false, .int .i64 0] 68)) #[.int .u8 97, .int .u8 32, .int .u8 43, .int .u8 32, .int .u8 98] 5 (5, 6) (0 + i)
  rw [World.size_alloc] at hm
  rw [World.cell?_alloc_lt _ _ _ (by simp <;> omega), World.cell?_alloc_lt _ _ _ (by simp), hm]
  match i, hx with
  | 0, hx => cases hx; rfl
  | 1, hx => cases hx; rfl
  | 2, hx => cases hx; rfl
  | 3, hx => cases hx; rfl
  | 4, hx => cases hx; rfl
 ·rw [World.cell?_alloc_lt _ _ _ (by simp <;> omega), World.cell?_alloc_lt _ _ _ (by simp <;> omega), World.cell?_alloc_lt _ _ _ (by simp), World.cell?_alloc_at _ _ _ _ rfl]
  match j, hu with
  | 0, hu => cases hu; rfl
  | 1, hu => cases hu; rfl
  | 2, hu => cases hu; rfl
  | 3, hu => cases hu; rfl
  | 4, hu => cases hu; rfl
  | 5, hu => cases hu; rfl
  | 6, hu => cases hu; rfl
  | 7, hu => cases hu; rfl
  | 8, hu => cases hu; rfl
  | 9, hu => cases hu; rfl
  | 10, hu => cases hu; rfl
  | 11, hu => cases hu; rfl
  | 12, hu => cases hu; rfl
  | 13, hu => cases hu; rfl
  | 14, hu => cases hu; rfl
 ·rw [World.cell?_alloc_at _ _ _ _ (by simp)]
  match j, hu with
  | 0, hu => cases hu; rfl
  | 1, hu => cases hu; rfl
  | 2, hu => cases hu; rfl
  | 3, hu => cases hu; rfl
  | 4, hu => cases hu; rfl
  | 5, hu => cases hu; rfl
  | 6, hu => cases hu; rfl
  | 7, hu => cases hu; rfl
  | 8, hu => cases hu; rfl
  | 9, hu => cases hu; rfl
  | 10, hu => cases hu; rfl
  | 11, hu => cases hu; rfl
 ·match i, hx, hn with
  | 0, hx, hn => cases hx; cases hn; exact ⟨rfl, rfl, rfl, rfl, by decide, by decide, NumsK.nil⟩
  | 1, hx, hn => cases hx; cases hn; exact ⟨rfl, rfl, rfl, rfl, by decide, by decide, NumsK.nil⟩
  | 2, hx, hn =>
   cases hx; cases hn
   refine ⟨rfl, rfl, rfl, rfl, Nat.le_refl _, by show 2 ≤ _; omega, fun _ => ⟨_, _, rfl, by simp <;> omega, fun i x hx => ?_⟩⟩
   rw [World.cell?_alloc_lt _ _ _ (by simp), World.cell?_alloc_at _ _ _ _ (by simp)]
   match i, hx with
   | 0, hx => cases hx; rfl
   | 1, hx => cases hx; rfl
set_option maxHeartbeats 4000000 in
set_option maxRecDepth 100000 in
theorem works15_run (hN : SaysNew) (hO : SaysOp) (hW : SaysWord) (hP : SaysSpan) (w : World) : Calls Tryd.prog 14 #[] w fun e w' => e = .returned (.bool true) ∧ Below w.heap.size w w' := by
 obtain ⟨W, hWW, hB, hsrc⟩ := ex_src w
 have HC := Lib.hid (hN _ _ _ _ _ _ _ _ 3 _ _ _ _ hsrc ⟨by decide, by decide, by decide, by decide⟩)
 rw [ex_chk] at HC
 simp only [resOf, if_true, trErr] at HC
 have HO := Lib.hid (fun v w h => hO v exD exL exV 2 w h)
 have HW := Lib.hid (fun v w h => hW v exD exL exV 1 w h)
 have HP := Lib.hid (fun v w h => hP v exD exL exV 2 w h)
 rw [ex_op] at HO
 rw [ex_word] at HW
 rw [ex_span] at HP
 obtain ⟨s, hs⟩ : ∃ s : ByteArray, s = ⟨#[98]⟩ := ⟨_, rfl⟩
 have hsl : (s.toList == [98]) = true := by rw [hs, ByteArray.toList_mk]; rfl
 rw [← hs] at HW
 have BX := Lib.hid hB
 have hcl := conv_lit (w.alloc (.cells #[.int .i64 1, .int .i64 0, .int .i64 1, .bool false, .int .i64 0, .int .i64 40, .int .i64 2, .int .i64 3, .bool false, .int .i64 0, .int .i64 1, .int .i64 4, .int .i64 5, .bool false, .int .i64 0] 68)) #[.int .u8 97, .int .u8 32, .int .u8 43, .int .u8 32, .int .u8 98] 5 5
 simp at hcl
 obtain ⟨S, hS⟩ : ∃ S, w.heap.size = S := ⟨_, rfl⟩
 rw [hS] at HC hWW BX hcl ⊢
 clear hs hB hsrc hN hO hW hP
 unfold trV at HC
 go_enter Tryd.func14, Tryd.ntmps14
 go_wp2_with fail
 refine HC.out.mono ?_
 rintro e w1 ⟨v, rfl, hf, hw⟩
 have HF := Lib.hid hf
 have B1 : Hid (Below S w w1) := BX.out.trans (hw.mono (by have := BX.out.size; omega))
 clear hw HC hf
 go_wp2_with fail
 refine (HO.out v w1 HF.out).mono ?_
 rintro e w2 ⟨rfl, hw⟩
 have HF2 := Lib.hid (HF.out.below hw)
 have B2 : Hid (Below S w w2) := B1.out.trans (hw.mono (by have := B1.out.size; omega))
 clear hw HF HO
 go_wp2_with fail
 refine (HW.out v w2 HF2.out).mono ?_
 rintro e w3 ⟨rfl, hw⟩
 have HF3 := Lib.hid (HF2.out.below hw)
 have B3 : Hid (Below S w w3) := B2.out.trans (hw.mono (by have := B2.out.size; omega))
 clear hw HF2 HW
 go_wp2_with fail
 refine (HP.out v w3 HF3.out).mono ?_
 rintro e w4 ⟨rfl, hw⟩
 have B4 : Hid (Below S w w4) := B3.out.trans (hw.mono (by have := B3.out.size; omega))
 clear hw HF3 HP
 go_wp2_with fail
 go_ret
 exact ⟨rfl, B4.out⟩
end Go.Proofs.YtpjgapnihmiceaaDoor
namespace Go.Proofs.YtpjgapnihmiceaaDoor
open Go.RowKit
set_option linter.unusedSimpArgs false
theorem off_trErr (p : Nat × Int) (h : p.1 = 0 → p.2 = -1) (k : Int) (hk : p.2 = k) (w : World) (hg : ErrType w) : Calls Tryd.prog 8 #[trErr p] w fun e w' => e = .returned (.int .i64 k) ∧ Below w.heap.size w w' := by
 subst hk
 unfold trErr
 split
 ·next h0 => rw [h h0]; exact off_nil w
 ·split
  ·next h1 => rw [h1]; exact off_errno p.1 w hg
  ·exact off_at p.2 p.1 w hg
end Go.Proofs.YtpjgapnihmiceaaDoor
