/-
  The contracts of the document's Own, Parent, Owner and Sound.
-/
import Derived.Test.YtpjgapnihmiceaaDoorMx02
import Derived.Deep.RegionHeld
import Derived.Test.YtpjgapnihmiceaaDoorMx01
import Derived.BigQuiet
import Derived.Deep.RegionHeld3
import Derived.Test.YtpjgapnihmiceaaDoorMx00
namespace Go.Proofs.YtpjgapnihmiceaaDoor
open Go.RowKit
set_option linter.unusedSimpArgs false
theorem one_i64 (w : World) (x : Int) (T : TypeId) : NumsK .i64 (w.alloc (.cells #[.int .i64 x] T)) (w.heap.size + 1) (some ⟨w.heap.size, 0, none⟩) [x] := fun _ => by
 refine ⟨_, _, rfl, by omega, fun i y hy => ?_⟩
 match i, hy with
 | 0, hy => cases hy; rw [World.cell?_alloc_at _ _ _ _ rfl]; rfl
theorem ownK_base {k : IntKind} {E : TypeId} {w : World} {b b2 : Nat} {v : Value} {l : List Int} (h : OwnK k E w b v l) (hb : b2 ≤ b) : OwnK k E w b2 v l := by
 obtain ⟨h1, h2⟩ := h
 refine ⟨h1, ?_⟩
 rcases h2 with h2 | ⟨g, cap, cur, hv, hg, r⟩
 ·exact .inl h2
 ·exact .inr ⟨g, cap, cur, hv, Nat.le_trans hb hg, r⟩
def OutK (L : List Int) (w : World) (v : Value) (w' : World) : Prop := OwnK .i64 3 w' w.heap.size v L ∧ Below w.heap.size w w'
theorem ownsF_step {T : List Nd} {i h : Nat} {f : Int} {v : Bool} (hv : ownB T i f = v) : ownsF T i (h + 1) f = (if v then [f] else []) ++ ownsF T i h (f + 1) := by
 rw [ownsF, hv]
 cases v <;> rfl
set_option maxHeartbeats 4000000 in
set_option maxRecDepth 100000 in
theorem refOwn_run (A : Option Addr) (n cap i : Nat) (m : Int) (T : List Nd) (w : World) (hb : NdsAt w w.heap.size A T) (hl : Hid (T.length = n)) (hi : i < n) (hV : Hid (Valid T m)) (hm : m ≤ 100) :
    Calls Tryd.prog 32 #[trV A n cap, .int .i64 i] w fun e w' => ∃ v, e = .returned v ∧ OutK (ownL T i) w v w' := by
  obtain ⟨b, o, K, q, c, rfl, hbB, c0, c1, c2, c3, _, hmc, hcc, _, _⟩ := one_set (cap := cap) hb hl.out hi 26 40
  have hiz : (i : Int) < (n : Int) := by omega
  obtain ⟨_, _, k3, k4, k5⟩ := hV.out.num i (by have := hl.out; omega)
  obtain ⟨N, hN⟩ : ∃ N : Nat, (nd T i).t = (nd T i).f + (N : Int) := ⟨((nd T i).t - (nd T i).f).toNat, by omega⟩
  have HL : Hid (ownL T i = ownsF T i N (nd T i).f) := by
    show _ = _
    unfold ownL
    rw [show ((nd T i).t - (nd T i).f).toNat = N by omega]
  have hN100 : N ≤ 100 := by omega
  rw [hN] at c2 k5
  have HO : Hid (∀ (tok : Int) (w : World), NdsAt w w.heap.size (some ⟨b, o, none⟩) T → ∀ v, ownB T i tok = v → Calls Tryd.prog 49 #[.agg #[.slice (some ⟨b, o, none⟩) n cap], .int .i64 i, .int .i64 tok] w fun e w' => e = .returned (.bool v) ∧ Below w.heap.size w w') := fun tok w hw v hv => refOwns_run (some ⟨b, o, none⟩) n cap i tok m T w hw hl hi hV v hv
  obtain ⟨f, hf⟩ : ∃ f, (nd T i).f = f := ⟨_, rfl⟩
  rw [hf] at c1 c2 k3 HL k5
  clear k4 hN hV hf
  unfold trV
  obtain ⟨S, hS⟩ : ∃ S, w.heap.size = S := ⟨_, rfl⟩
  unfold OutK
  rw [hS] at hbB hb ⊢
  obtain ⟨W, hW⟩ : ∃ W, w.alloc (.cells #[.slice (some ⟨b, o, none⟩) n cap] 26) = W := ⟨_, rfl⟩
  have hB : Below S w W := by rw [← hW, ← hS]; exact (Below.refl _ _).alloc (Nat.le_refl _) _
  have hWS : W.heap.size = S + 1 := by rw [← hW, ← hS]; simp
  have d0 : W.cell? ⟨S, 0, none⟩ = some (.slice (some ⟨b, o, none⟩) n cap) := by rw [← hW, ← hS]; simp
  have g1 := (hB.cell (p := ⟨b, o + i * 4 + 1, none⟩) (by show b < _; omega)).trans c1
  have g2 := (hB.cell (p := ⟨b, o + i * 4 + 2, none⟩) (by show b < _; omega)).trans c2
  have HG : Hid (NdsAt W S (some ⟨b, o, none⟩) T) := hb.below hB (Nat.le_refl _)
  have BX := Lib.hid hB
  have HW := Lib.hid hWS
  clear hb hB hWS c0 c1 c2 c3
  go_enter Tryd.func32, Tryd.ntmps32
  go_wp2_with fail
  go_loopg [5, 6] (N + 1) (fun h s5 s6 wr => ∃ (d : Nat) (tok : Int) (l : List Int), s6 = .int .i64 tok ∧ Hid (tok = f + (d : Int) ∧ d ≤ N ∧ d + h = N + 1 ∧ l.length ≤ d) ∧ Hid (ownsF T i N f = l ++ ownsF T i (N - d) tok) ∧ Hid (OwnK .i64 3 wr (S + 1) s5 l) ∧ Hid (Below (S + 1) W wr))
  case atStart => exact ⟨0, f, [], rfl, by show _ ∧ _; simp, rfl, OwnK.nil _ _ _ _, Below.refl _ _⟩
  case round =>
    obtain ⟨d, tok, l, rfl, HD, HF, OW, BW⟩ := hrel
    generalize wr = wq at *
    have d0' := (BW.out.cell (p := ⟨S, 0, none⟩) (by show S < _; omega)).trans d0
    have g1' := (BW.out.cell (p := ⟨b, o + i * 4 + 1, none⟩) (by show b < _; omega)).trans g1
    have g2' := (BW.out.cell (p := ⟨b, o + i * 4 + 2, none⟩) (by show b < _; omega)).trans g2
    have hsz : S + 1 ≤ wq.heap.size := by rw [← HW.out]; exact BW.out.size
    by_cases hd : d < N
    · have hdz : tok < f + (N : Int) := by have := HD.out; omega
      obtain ⟨v, hv⟩ : ∃ v, ownB T i tok = v := ⟨_, rfl⟩
      have HC := Lib.hid (HO.out tok wq ((HG.out.below BW.out (by omega)).more (by omega)) v hv)
      have HF2 : Hid (ownsF T i N f = l ++ ((if v then [tok] else []) ++ ownsF T i (N - (d + 1)) (tok + 1))) := by
        show _ = _
        rw [HF.out, show N - d = N - (d + 1) + 1 by omega, ownsF_step hv]
      have htw : IntKind.i64.wrap (tok + 1) = tok + 1 := by rw [IntKind.wrap_i64]; have := HD.out; omega
      clear hv HF
      go_wp2_with fail
      refine HC.out.mono ?_
      rintro e w1 ⟨rfl, hw⟩
      have O1 : Hid (OwnK .i64 3 w1 (S + 1) u5 l) := OW.out.below hw
      have B1 : Hid (Below (S + 1) W w1) := BW.out.trans (hw.mono hsz)
      have hs1 : S + 1 ≤ w1.heap.size := Nat.le_trans hsz hw.size
      clear hw OW BW HC d0' g1' g2'
      cases v with
      | false =>
        have HF3 : Hid (ownsF T i N f = l ++ ownsF T i (N - (d + 1)) (tok + 1)) := by show _ = _; rw [HF2.out]; rfl
        clear HF2
        go_wp2_with fail
        go_roundg (N - d)
        case measure => have := HD.out; omega
        case rel => exact ⟨d + 1, tok + 1, l, by go_num, by show _ ∧ _; have := HD.out; omega, HF3.out, O1.out, B1.out⟩
      | true =>
        have HF3 : Hid (ownsF T i N f = (l ++ [tok]) ++ ownsF T i (N - (d + 1)) (tok + 1)) := by show _ = _; rw [HF2.out, List.append_assoc]; rfl
        have OA : Hid (OwnK .i64 3 (w1.alloc (.cells #[.int .i64 tok] 3)) (S + 1) u5 l) := O1.out.below ((Below.refl _ _).alloc (Nat.le_refl _) _)
        have NA : Hid (NumsK .i64 (w1.alloc (.cells #[.int .i64 tok] 3)) (w1.heap.size + 1) (some ⟨w1.heap.size, 0, none⟩) [tok]) := one_i64 _ _ _
        have BA : Hid (Below (S + 1) W (w1.alloc (.cells #[.int .i64 tok] 3))) := B1.out.alloc hs1 _
        have hll : Hid (l.length ≤ 500000) := by show _ ≤ _; have := HD.out; omega
        clear HF2
        go_wp2_with (first
          | (at_builtin
             refine wpList_app int_slice _ rfl (.tmp 27) (.tmp 29) rfl (S + 1) u5 l rfl OA.out (w1.heap.size + 1) (some ⟨w1.heap.size, 0, none⟩) 1 1 [tok] rfl NA.out rfl hll.out (by simp) (by simp; omega) ?_
             intro v7 w7 o7 g7 t7
             have O7 := Lib.hid o7
             have B7 : Hid (Below (S + 1) W w7) := BA.out.grown g7 (by simp; omega) (own_ge OA.out)
             clear o7 g7 t7)
          | fail)
        go_roundg (N - d)
        case measure => have := HD.out; omega
        case rel => exact ⟨d + 1, tok + 1, l ++ [tok], by go_num, by show _ ∧ _; have := HD.out; simp; omega, HF3.out, O7.out, B7.out⟩
    · have hdz : ¬ tok < f + (N : Int) := by have := HD.out; omega
      have hL : ownL T i = l := by
        rw [HL.out, HF.out, show N - d = 0 by omega]
        exact List.append_nil _
      have BR : Hid (Below S w wq) := BX.out.trans (BW.out.mono (by omega))
      have OR : Hid (OwnK .i64 3 wq S u5 (ownL T i)) := by show OwnK _ _ _ _ _ _; rw [hL]; exact ownK_base OW.out (by omega)
      clear hL HF
      go_wp2_with fail
      go_ret
      exact ⟨_, rfl, OR.out, BR.out⟩
end Go.Proofs.YtpjgapnihmiceaaDoor
namespace Go.Proofs.YtpjgapnihmiceaaDoor
open Go.RowKit
set_option linter.unusedSimpArgs false
set_option linter.unusedVariables false
set_option maxHeartbeats 4000000 in
set_option maxRecDepth 100000 in
theorem vIn_run (A : Option Addr) (n cap : Nat) (k : Int) (T : List Nd) (w : World) (hl : Hid (T.length = n)) (v : Bool) (hv : Hid (inT T k = v)) :
  Calls Tryd.prog 18 #[trV A n cap, .int .i64 k] w fun e w' => e = .returned (.bool v) ∧ Below w.heap.size w w' := by
 have HV : Hid (decide (0 ≤ k ∧ k < (n : Int)) = v) := by show _ = _; rw [← hl.out]; exact hv.out
 unfold trV
 obtain ⟨S, hS⟩ : ∃ S, w.heap.size = S := ⟨_, rfl⟩
 obtain ⟨W, hW⟩ : ∃ W, w.alloc (.cells #[.slice A n cap] 26) = W := ⟨_, rfl⟩
 have BX : Hid (Below S w W) := by show Below _ _ _; rw [← hW, ← hS]; exact (Below.refl _ _).alloc (Nat.le_refl _) _
 have d0 : W.cell? ⟨S, 0, none⟩ = some (.slice A n cap) := by rw [← hW, ← hS]; simp
 rw [hS]
 clear hv hl
 by_cases h0 : 0 ≤ k
 ·by_cases h1 : k < (n : Int)
  ·obtain rfl : v = true := by rw [← HV.out, decide_eq_true ⟨h0, h1⟩]
   clear HV
   go_enter Tryd.func18, Tryd.ntmps18
   go_wp2_with fail
   go_ret
   exact ⟨rfl, BX.out⟩
  ·obtain rfl : v = false := by rw [← HV.out, decide_eq_false (fun h => h1 h.2)]
   clear HV
   go_enter Tryd.func18, Tryd.ntmps18
   go_wp2_with fail
   go_ret
   exact ⟨rfl, BX.out⟩
 ·obtain rfl : v = false := by rw [← HV.out, decide_eq_false (fun h => h0 h.1)]
  clear HV
  go_enter Tryd.func18, Tryd.ntmps18
  go_wp2_with fail
  go_ret
  exact ⟨rfl, BX.out⟩
set_option maxHeartbeats 4000000 in
set_option maxRecDepth 100000 in
theorem vKid_run (A : Option Addr) (n cap : Nat) (k j v : Int) (T : List Nd) (w : World) (hb : NdsAt w w.heap.size A T) (hl : Hid (T.length = n)) (hv : Hid (kidV T k j = v)) :
  Calls Tryd.prog 16 #[trV A n cap, .int .i64 k, .int .i64 j] w fun e w' => e = .returned (.int .i64 v) ∧ Below w.heap.size w w' := by
 obtain ⟨q, hq⟩ : ∃ q, inT T k = q := ⟨_, rfl⟩
 have HI := Lib.hid (fun w => vIn_run A n cap k T w hl q hq)
 unfold trV at HI ⊢
 obtain ⟨S, hS⟩ : ∃ S, w.heap.size = S := ⟨_, rfl⟩
 obtain ⟨W, hW⟩ : ∃ W, w.alloc (.cells #[.slice A n cap] 26) = W := ⟨_, rfl⟩
 have hB : Below S w W := by rw [← hW, ← hS]; exact (Below.refl _ _).alloc (Nat.le_refl _) _
 have hWS : W.heap.size = S + 1 := by rw [← hW, ← hS]; simp
 have d0 : W.cell? ⟨S, 0, none⟩ = some (.slice A n cap) := by rw [← hW, ← hS]; simp
 rw [hS] at hb ⊢
 have HG : Hid (NdsAt W S A T) := hb.below hB (Nat.le_refl _)
 have BX := Lib.hid hB
 have HW := Lib.hid hWS
 have HK := Lib.hid hq
 have HV := Lib.hid hv
 clear hb hB hWS hq hv
 go_enter Tryd.func16, Tryd.ntmps16
 go_wp2_with fail
 refine (HI.out W).mono ?_
 rintro e w1 ⟨rfl, hw⟩
 have B1 : Hid (Below S w w1) := BX.out.trans (hw.mono (by have := HW.out; omega))
 have d1 := (hw.cell (p := ⟨S, 0, none⟩) (by show S < _; have := HW.out; omega)).trans d0
 have HG1 : Hid (NdsAt w1 S A T) := HG.out.below hw (by have := HW.out; omega)
 clear hw HG BX HI
 cases q with
 | false =>
  obtain rfl : v = -1 := by
   rw [← HV.out.out]
   unfold kidV
   rw [HK.out, if_neg (fun h => by cases h.1)]
  clear HV
  go_wp2_with fail
  go_ret
  exact ⟨rfl, B1.out⟩
 | true =>
  have hin := of_decide_eq_true HK.out
  rw [hl.out] at hin
  obtain ⟨i, rfl⟩ := Int.eq_ofNat_of_zero_le hin.1
  have hi : i < n := by omega
  have hiz : (i : Int) < (n : Int) := by omega
  obtain ⟨b, o, rfl, hbB, hget⟩ := HG1.out.get (by have := hl.out; omega)
  obtain ⟨K, q, c, _, _, _, c3, hm, hmc, hcc, hN⟩ := hget i _ (at_nd (by have := hl.out; omega))
  have HN := Lib.hid hN
  have HM := Lib.hid hm
  have HV2 : Hid (kidV T i j = if 0 ≤ j ∧ j < (q : Int) then (nd T i).kids.getD j.toNat 0 else -1) := by
   show _ = _
   unfold kidV
   rw [HK.out]
   unfold kd
   rw [Int.toNat_natCast, ← HM.out]
   simp
  clear hget hin hN hm HK
  by_cases h0 : 0 ≤ j
  ·by_cases h1 : j < (q : Int)
   ·obtain ⟨r, rfl⟩ := Int.eq_ofNat_of_zero_le h0
    have hr : r < q := by omega
    obtain ⟨y, hy⟩ : ∃ y, (nd T i).kids[r]? = some y := ⟨_, List.getElem?_eq_getElem (by have := HM.out; omega)⟩
    obtain ⟨kb, ko, rfl, hkb, hkc⟩ := HN.out (by have := HM.out; omega)
    have k0 := hkc r y hy
    obtain rfl : v = y := by
     rw [← HV.out.out, HV2.out, if_pos ⟨h0, h1⟩, List.getD_eq_getElem?_getD, Int.toNat_natCast, hy]
     rfl
    clear hkc hy HV HV2
    go_wp2_with fail
    go_ret
    exact ⟨rfl, B1.out⟩
   ·obtain rfl : v = -1 := by rw [← HV.out.out, HV2.out, if_neg (fun h => h1 h.2)]
    have h2 : (q : Int) ≤ j := by omega
    clear HV HV2
    go_wp2_with fail
    go_ret
    exact ⟨rfl, B1.out⟩
  ·obtain rfl : v = -1 := by rw [← HV.out.out, HV2.out, if_neg (fun h => h0 h.1)]
   clear HV HV2
   go_wp2_with fail
   go_ret
   exact ⟨rfl, B1.out⟩
set_option maxHeartbeats 4000000 in
set_option maxRecDepth 100000 in
theorem vOwn_run (A : Option Addr) (n cap : Nat) (k m : Int) (T : List Nd) (w : World) (hb : NdsAt w w.heap.size A T) (hl : Hid (T.length = n)) (hV : Hid (Valid T m)) (hm : m ≤ 100) :
  Calls Tryd.prog 15 #[trV A n cap, .int .i64 k] w fun e w' => ∃ v, e = .returned v ∧ OutK (ownV T k) w v w' := by
 obtain ⟨q, hq⟩ : ∃ q, inT T k = q := ⟨_, rfl⟩
 obtain ⟨lx, hlx⟩ : ∃ lx, ownV T k = lx := ⟨_, rfl⟩
 rw [hlx]
 have HLX := Lib.hid hlx
 clear hlx
 have HI := Lib.hid (fun w => vIn_run A n cap k T w hl q hq)
 have HO := Lib.hid (fun i hi w hb => refOwn_run A n cap i m T w hb hl hi hV hm)
 unfold OutK at *
 unfold trV at *
 obtain ⟨S, hS⟩ : ∃ S, w.heap.size = S := ⟨_, rfl⟩
 obtain ⟨W, hW⟩ : ∃ W, w.alloc (.cells #[.slice A n cap] 26) = W := ⟨_, rfl⟩
 have hB : Below S w W := by rw [← hW, ← hS]; exact (Below.refl _ _).alloc (Nat.le_refl _) _
 have hWS : W.heap.size = S + 1 := by rw [← hW, ← hS]; simp
 have d0 : W.cell? ⟨S, 0, none⟩ = some (.slice A n cap) := by rw [← hW, ← hS]; simp
 rw [hS] at hb ⊢
 have HG : Hid (NdsAt W S A T) := hb.below hB (Nat.le_refl _)
 have BX := Lib.hid hB
 have HW := Lib.hid hWS
 have HK := Lib.hid hq
 clear hb hB hWS hq
 go_enter Tryd.func15, Tryd.ntmps15
 go_wp2_with fail
 refine (HI.out W).mono ?_
 rintro e w1 ⟨rfl, hw⟩
 have B1 : Hid (Below S w w1) := BX.out.trans (hw.mono (by have := HW.out; omega))
 have d1 := (hw.cell (p := ⟨S, 0, none⟩) (by show S < _; have := HW.out; omega)).trans d0
 have hs1 : S ≤ w1.heap.size := by have := hw.size; have := HW.out; omega
 have HG1 : Hid (NdsAt w1 w1.heap.size A T) := (HG.out.below hw (by have := HW.out; omega)).more hs1
 clear hw HG BX HI
 cases q with
 | false =>
  obtain rfl : lx = [] := by rw [← HLX.out]; unfold ownV; rw [HK.out]; rfl
  go_wp2_with fail
  go_ret
  exact ⟨_, rfl, OwnK.nil _ _ _ _, B1.out⟩
 | true =>
  have hin := of_decide_eq_true HK.out
  rw [hl.out] at hin
  obtain ⟨i, rfl⟩ := Int.eq_ofNat_of_zero_le hin.1
  obtain rfl : lx = ownL T i := by rw [← HLX.out]; unfold ownV; rw [HK.out]; rfl
  have HC := Lib.hid (HO.out i (by omega) w1 HG1.out)
  clear HO HK hin HLX
  go_wp2_with fail
  refine HC.out.mono ?_
  rintro e w2 ⟨v, rfl, ho, hw2⟩
  have HOo : Hid (OwnK .i64 3 w2 S v (ownL T i)) := ownK_base ho hs1
  have B2 : Hid (Below S w w2) := B1.out.trans (hw2.mono hs1)
  clear ho hw2
  go_wp2_with fail
  go_ret
  exact ⟨_, rfl, HOo.out, B2.out⟩
end Go.Proofs.YtpjgapnihmiceaaDoor
namespace Go.Proofs.YtpjgapnihmiceaaDoor
open Go.RowKit
set_option linter.unusedSimpArgs false
def cutN (n : Nd) : Nd := ⟨n.k, n.f, n.t, n.kids.take 20⟩
def fewT (T : List Nd) : List Nd := (T.take 40).map cutN
theorem few_smallT (T : List Nd) : SmallT (fewT T) := by
 refine ⟨by simp [fewT]; omega, fun n hn => ?_⟩
 obtain ⟨q, _, rfl⟩ := List.mem_map.1 hn
 simp [cutN]
 omega
theorem one_ne (w : World) (x : Ne) (T : TypeId) : CellsV neCells (w.alloc (.cells #[.int .i64 x.k, .int .i64 x.f, .int .i64 x.t, .slice x.A x.n x.c] T)) (w.heap.size + 1) (some ⟨w.heap.size, 0, none⟩) [x] := fun _ => by
 refine ⟨_, _, rfl, by omega, fun j u hu => ?_⟩
 match j, hu with
 | 0, hu => cases hu; rw [World.cell?_alloc_at _ _ _ _ rfl]; rfl
 | 1, hu => cases hu; rw [World.cell?_alloc_at _ _ _ _ rfl]; rfl
 | 2, hu => cases hu; rw [World.cell?_alloc_at _ _ _ _ rfl]; rfl
 | 3, hu => cases hu; rw [World.cell?_alloc_at _ _ _ _ rfl]; rfl
structure FewN (w : World) (S base : Nat) (v : Value) (T : List Nd) : Prop where
 row : ∃ xs, OwnV neCells 4 40 w base v xs ∧ xs.length = T.length ∧ ∀ (i : Nat) (x : Ne) (n : Nd), xs[i]? = some x → T[i]? = some n → IsNd w S x n
theorem FewN.nil (w : World) (S base : Nat) : FewN w S base (.slice none 0 0) [] := ⟨[], OwnV.nil _ _ _ _ _, rfl, fun i x n hx => by simp at hx⟩
theorem FewN.snoc {w w' : World} {S base : Nat} {v' : Value} {T : List Nd} {xs : List Ne} {x : Ne} {n : Nd} (ho : OwnV neCells 4 40 w' base v' (xs ++ [x])) (hl : xs.length = T.length) (hz : ∀ (i : Nat) (x : Ne) (n : Nd), xs[i]? = some x → T[i]? = some n → IsNd w S x n) (hb : Below S w w') (hx : IsNd w S x n) : FewN w' S base v' (T ++ [n]) := by
 refine ⟨xs ++ [x], ho, by simp [hl], fun i y m hy hm => ?_⟩
 rcases Nat.lt_trichotomy i xs.length with h | h | h
 ·rw [List.getElem?_append_left h] at hy
  rw [List.getElem?_append_left (by omega)] at hm
  exact (hz i y m hy hm).below hb (Nat.le_refl _)
 ·subst h
  rw [List.getElem?_append_right (Nat.le_refl _), Nat.sub_self] at hy
  rw [List.getElem?_append_right (by omega), hl, Nat.sub_self] at hm
  cases hy; cases hm
  exact hx.below hb (Nat.le_refl _)
 ·rw [List.getElem?_eq_none (by simp; omega)] at hy
  cases hy
theorem FewN.setCell {w : World} {S base : Nat} {v : Value} {T : List Nd} (h : FewN w S base v T) {p : Addr} (hp : p.block < base) (hS : S ≤ p.block) (u : Value) : FewN (w.setCell p u) S base v T := by
 obtain ⟨xs, h1, h2, h3⟩ := h
 exact ⟨xs, h1.setCell hp u, h2, fun i x n hx hn => (h3 i x n hx hn).below ((Below.refl S w).setCell hS u) (Nat.le_refl _)⟩
theorem FewN.read {w : World} {S base : Nat} {v : Value} {T : List Nd} (h : FewN w S base v T) (hS : S ≤ w.heap.size) : ∃ A cap, v = .slice A T.length cap ∧ T.length ≤ cap ∧ cap ≤ 9223372036854775807 ∧ NdsAt w w.heap.size A T := by
 obtain ⟨xs, h1, h2, h3⟩ := h
 obtain ⟨A, cap, hv, k1, k2, k3⟩ := h1.cells
 rw [h2] at hv k1
 exact ⟨A, cap, hv, k1, k2, xs, k3, h2, fun i x n hx hn => (h3 i x n hx hn).more hS⟩
def setAll (w : World) (l : List (Addr × Value)) : World := l.foldl (fun W x => W.setCell x.1 x.2) w
def CellsIn (l : List (Addr × Value)) (B S : Nat) : Prop := ∀ x ∈ l, B ≤ x.1.block ∧ x.1.block < S
theorem setAll_size (l : List (Addr × Value)) : ∀ w : World, (setAll w l).heap.size = w.heap.size := by
 induction l with
 | nil => exact fun w => rfl
 | cons x l ih => exact fun w => (ih (w.setCell x.1 x.2)).trans (by simp)
theorem FewN.setAll {S base : Nat} {v : Value} {T : List Nd} (l : List (Addr × Value)) : ∀ {w : World}, FewN w S base v T → (∀ x ∈ l, S ≤ x.1.block ∧ x.1.block < base) → FewN (setAll w l) S base v T := by
 induction l with
 | nil => exact fun h _ => h
 | cons x l ih => exact fun h hl => ih (h.setCell (hl x (by simp)).2 (hl x (by simp)).1 x.2) (fun y hy => hl y (by simp [hy]))
def FewOutT (B : Nat) (L : List Nd) (w : World) (v : Value) (w' : World) : Prop := ∃ A cap, v = trV A L.length cap ∧ L.length ≤ cap ∧ cap ≤ 9223372036854775807 ∧ (NdsAt w' w'.heap.size A L ∧ ∀ l : List (Addr × Value), CellsIn l B w.heap.size → NdsAt (setAll w' l) w'.heap.size A L) ∧ Below w.heap.size w w'
theorem three_box (w : World) (x y z : Value) (T : TypeId) : ∃ W, ((w.alloc (.cells #[x] T)).alloc (.cells #[y] T)).alloc (.cells #[z] T) = W ∧ Below w.heap.size w W ∧ W.heap.size = w.heap.size + 3 ∧ W.cell? ⟨w.heap.size, 0, none⟩ = some x ∧ W.cell? ⟨w.heap.size + 1, 0, none⟩ = some y ∧ W.frozen? ⟨w.heap.size + 1, 0, none⟩ = false ∧ W.cell? ⟨w.heap.size + 1 + 1, 0, none⟩ = some z ∧ W.frozen? ⟨w.heap.size + 1 + 1, 0, none⟩ = false := by
 refine ⟨_, rfl, (((Below.refl _ _).alloc (Nat.le_refl _) _).alloc (by simp) _).alloc (by simp; omega) _, by simp, ?_, ?_, ?_, ?_, ?_⟩
 ·rw [World.cell?_alloc_lt _ _ _ (by simp; omega), World.cell?_alloc_lt _ _ _ (by simp), World.cell?_alloc_at _ _ _ _ rfl]; rfl
 ·rw [World.cell?_alloc_lt _ _ _ (by simp), World.cell?_alloc_at _ _ _ _ (by simp)]; rfl
 ·rw [World.frozen?_alloc_old _ _ _ (by simp), World.frozen?_alloc_at _ _ _ _ (by simp)]
 ·rw [World.cell?_alloc_at _ _ _ _ (by simp)]; rfl
 ·rw [World.frozen?_alloc_at _ _ _ _ (by simp)]
set_option maxHeartbeats 8000000 in
set_option maxRecDepth 100000 in
theorem FewT_run (A : Option Addr) (n cap B : Nat) (T : List Nd) (w : World) (hb : NdsAt w B A T) (hBw : B ≤ w.heap.size) (hl : Hid (T.length = n)) (hcap : n ≤ 9223372036854775807) :
    Calls Tryd.prog 19 #[trV A n cap] w fun e w' => ∃ v, e = .returned v ∧ FewOutT B (fewT T) w v w' := by
  obtain ⟨S, hS⟩ : ∃ S, w.heap.size = S := ⟨_, rfl⟩
  obtain ⟨W, hW, hB, hWS, d0, d1, q1, d2, q2⟩ := three_box w (.slice A n cap) (.slice none 0 0) (.slice none 0 0) 26
  rw [hS] at hB hWS d0 d1 q1 d2 q2
  unfold FewOutT
  unfold trV
  rw [hS] at hBw ⊢
  have HG : Hid (NdsAt W B A T) := hb.below hB hBw
  have BX := Lib.hid hB
  have HW := Lib.hid hWS
  have D2 := Lib.hid (And.intro d2 q2)
  clear hb hB hWS d2 q2
  go_enter Tryd.func19, Tryd.ntmps19
  go_wp2_with fail
  go_loopg [4] 41 (fun h s4 wr => ∃ (i : Nat) (v : Value), s4 = .int .i64 i ∧ Hid (i ≤ n ∧ i ≤ 40 ∧ i + h = 41) ∧ Hid (FewN wr B (S + 3) v ((T.take i).map cutN)) ∧ Hid (Below (S + 2) W wr) ∧ Hid (wr.cell? ⟨S + 1 + 1, 0, none⟩ = some v ∧ wr.frozen? ⟨S + 1 + 1, 0, none⟩ = false))
  case atStart => exact ⟨0, _, rfl, by show _ ∧ _; omega, FewN.nil _ _ _, Below.refl _ _, D2.out⟩
  case round =>
    obtain ⟨i, v, rfl, HI, HF, BW, HD⟩ := hrel
    generalize wr = wq at *
    have d0' := (BW.out.cell (p := ⟨S, 0, none⟩) (by show S < _; omega)).trans d0
    have d1' := (BW.out.cell (p := ⟨S + 1, 0, none⟩) (by show S + 1 < _; omega)).trans d1
    have q1' := (BW.out.frozen (p := ⟨S + 1, 0, none⟩) (by show S + 1 < _; omega)).trans q1
    obtain ⟨d2', q2'⟩ := HD.out
    have hsz : S + 3 ≤ wq.heap.size := by rw [← HW.out]; exact BW.out.size
    by_cases hi : i < n ∧ i < 40
    · obtain ⟨hin, hi40⟩ := hi
      have hiz : (i : Int) < (n : Int) := by omega
      have hi4z : (i : Int) < 40 := by omega
      obtain ⟨b, o, rfl, hbB, hget⟩ := HG.out.get (by have := hl.out; omega)
      obtain ⟨x, hx⟩ : ∃ x, T[i]? = some x := ⟨_, List.getElem?_eq_getElem (by have := hl.out; omega)⟩
      obtain ⟨K, q, c, c0, c1, c2, c3, hm, hmc, hcc, hK⟩ := hget i x hx
      have g0 := (BW.out.cell (p := ⟨b, o + i * 4, none⟩) (by show b < _; omega)).trans c0
      have g1 := (BW.out.cell (p := ⟨b, o + i * 4 + 1, none⟩) (by show b < _; omega)).trans c1
      have g2 := (BW.out.cell (p := ⟨b, o + i * 4 + 2, none⟩) (by show b < _; omega)).trans c2
      have g3 := (BW.out.cell (p := ⟨b, o + i * 4 + 3, none⟩) (by show b < _; omega)).trans c3
      obtain ⟨m, hmm⟩ : ∃ m, min q 20 = m := ⟨_, rfl⟩
      have hmz : min (q : Int) 20 = (m : Int) := by omega
      have hmc2 : m ≤ c := by omega
      have hmcz : (m : Int) ≤ (c : Int) := by omega
      have HX := Lib.hid hx
      have HM := Lib.hid hm
      have HK := Lib.hid (NumsK.below hK BW.out (by omega))
      clear hget c0 c1 c2 c3 hm hK hx
      obtain ⟨P, hP⟩ : ∃ P, wq.heap.size = P := ⟨_, rfl⟩
      obtain ⟨xs, ox, lx, zx⟩ := HF.out.row
      have hxl : xs.length ≤ 40 := by rw [lx]; simp; omega
      have OX : Hid (OwnV neCells 4 40 ((wq.alloc (.cells #[.int .i64 x.k, .int .i64 x.f, .int .i64 x.t, .slice K m c] 40)).alloc (.cells #[.int .i64 x.k, .int .i64 x.f, .int .i64 x.t, .slice K m c] 40)) (S + 3) v xs) := (ox.alloc _).alloc _
      have NX : Hid (CellsV neCells ((wq.alloc (.cells #[.int .i64 x.k, .int .i64 x.f, .int .i64 x.t, .slice K m c] 40)).alloc (.cells #[.int .i64 x.k, .int .i64 x.f, .int .i64 x.t, .slice K m c] 40)) (P + 2) (some ⟨P + 1, 0, none⟩) [⟨x.k, x.f, x.t, K, m, c⟩]) := by
        have := one_ne (wq.alloc (.cells #[.int .i64 x.k, .int .i64 x.f, .int .i64 x.t, .slice K m c] 40)) ⟨x.k, x.f, x.t, K, m, c⟩ 40
        simp only [World.size_alloc, hP] at this
        exact this
      have hsq : S + 3 ≤ wq.heap.size := by omega
      have BB : Hid (Below (S + 3) wq ((wq.alloc (.cells #[.int .i64 x.k, .int .i64 x.f, .int .i64 x.t, .slice K m c] 40)).alloc (.cells #[.int .i64 x.k, .int .i64 x.f, .int .i64 x.t, .slice K m c] 40))) := ((Below.refl _ _).alloc hsq _).alloc (by simp; omega) _
      have hm500 : m ≤ 20 := by omega
      have HNS : Hid (IsNd wq B ⟨x.k, x.f, x.t, K, m, c⟩ (cutN x)) := ⟨rfl, rfl, rfl, by simp only [cutN, List.length_take, ← HM.out]; rw [Nat.min_comm]; exact hmm.symm, hmc2, hcc, HK.out.take 20⟩
      have HZ := Lib.hid (fun (v7 : Value) (w7 : World) (o7 : OwnV neCells 4 40 w7 (S + 3) v7 (xs ++ [⟨x.k, x.f, x.t, K, m, c⟩])) (b7 : Below B wq w7) => FewN.snoc o7 lx zx b7 HNS.out)
      have HTK : Hid ((T.take i).map cutN ++ [cutN x] = (T.take (i + 1)).map cutN) := by
        show _ = _
        rw [List.take_add_one, HX.out, List.map_append]
        rfl
      have hmc3 : (m = 20 ∧ 20 < q) ∨ (m = q ∧ ¬ 20 < q) := by omega
      rw [hP] at hsz
      have hs0 : S < P := by omega
      have hs1 : S + 1 < P := by omega
      have hs2 : S + 1 + 1 < P := by omega
      clear hmz HNS HK ox lx zx HF hmm hmc
      rcases hmc3 with ⟨rfl, hq⟩ | ⟨rfl, hq⟩
      · go_wp2_with (first
          | (at_builtin
             refine wpList_appV node_slice _ rfl (.tmp 31) (.tmp 33) rfl (S + 3) v xs rfl OX.out (P + 2) (some ⟨P + 1, 0, none⟩) 1 1 _ rfl NX.out rfl (by omega) (by simp) (by simp; omega) ?_
             intro v7 w7 o7 g7 t7
             have B7 : Hid (Below (S + 3) wq w7) := BB.out.grown g7 (by simp; omega) (ownV_ge OX.out)
             have Z7 := Lib.hid (HZ.out v7 w7 o7 (B7.out.mono (by omega)))
             have d27 : w7.cell? ⟨S + 1 + 1, 0, none⟩ = some v := (B7.out.cell (p := ⟨S + 1 + 1, 0, none⟩) (by show S + 1 + 1 < _; omega)).trans d2'
             have q27 : w7.frozen? ⟨S + 1 + 1, 0, none⟩ = false := (B7.out.frozen (p := ⟨S + 1 + 1, 0, none⟩) (by show S + 1 + 1 < _; omega)).trans q2'
             obtain ⟨A7, l7, c7, hv7⟩ : ∃ A l c, v7 = .slice A l c := by obtain ⟨A, c, h, _⟩ := Z7.out.read (Nat.le_trans (by omega) B7.out.size); exact ⟨A, _, c, h⟩
             subst hv7
             clear o7 g7 t7)
          | fail)
        go_roundg (40 - i)
        case measure => have := HI.out; omega
        case rel =>
          refine ⟨i + 1, .slice A7 l7 c7, by go_num, by show _ ∧ _; have := HI.out; omega, ?_, ?_, ?_, ?_⟩
          · rw [← HTK.out]; exact Z7.out.setCell (by show S + 1 + 1 < _; omega) (by show B ≤ S + 1 + 1; omega) _
          · exact (BW.out.trans (B7.out.mono (by omega))).setCell (Nat.le_refl _) _
          · exact World.cell?_setCell_same' _ _ _ (by rw [d27]; rfl)
          · simpa using q27
      · go_wp2_with (first
          | (at_builtin
             refine wpList_appV node_slice _ rfl (.tmp 31) (.tmp 33) rfl (S + 3) v xs rfl OX.out (P + 2) (some ⟨P + 1, 0, none⟩) 1 1 _ rfl NX.out rfl (by omega) (by simp) (by simp; omega) ?_
             intro v7 w7 o7 g7 t7
             have B7 : Hid (Below (S + 3) wq w7) := BB.out.grown g7 (by simp; omega) (ownV_ge OX.out)
             have Z7 := Lib.hid (HZ.out v7 w7 o7 (B7.out.mono (by omega)))
             have d27 : w7.cell? ⟨S + 1 + 1, 0, none⟩ = some v := (B7.out.cell (p := ⟨S + 1 + 1, 0, none⟩) (by show S + 1 + 1 < _; omega)).trans d2'
             have q27 : w7.frozen? ⟨S + 1 + 1, 0, none⟩ = false := (B7.out.frozen (p := ⟨S + 1 + 1, 0, none⟩) (by show S + 1 + 1 < _; omega)).trans q2'
             obtain ⟨A7, l7, c7, hv7⟩ : ∃ A l c, v7 = .slice A l c := by obtain ⟨A, c, h, _⟩ := Z7.out.read (Nat.le_trans (by omega) B7.out.size); exact ⟨A, _, c, h⟩
             subst hv7
             clear o7 g7 t7)
          | fail)
        go_roundg (40 - i)
        case measure => have := HI.out; omega
        case rel =>
          refine ⟨i + 1, .slice A7 l7 c7, by go_num, by show _ ∧ _; have := HI.out; omega, ?_, ?_, ?_, ?_⟩
          · rw [← HTK.out]; exact Z7.out.setCell (by show S + 1 + 1 < _; omega) (by show B ≤ S + 1 + 1; omega) _
          · exact (BW.out.trans (B7.out.mono (by omega))).setCell (Nat.le_refl _) _
          · exact World.cell?_setCell_same' _ _ _ (by rw [d27]; rfl)
          · simpa using q27
    · have hcut : (T.take i).map cutN = fewT T := by
        unfold fewT
        rcases Nat.lt_or_ge i 40 with h | h
        · rw [List.take_of_length_le (by have := hl.out; have := HI.out; omega), List.take_of_length_le (by have := hl.out; have := HI.out; omega)]
        · obtain rfl : i = 40 := by have := HI.out; omega
          rfl
      have hd : ¬ (i : Int) < (n : Int) ∨ ((i : Int) < (n : Int) ∧ ¬ (i : Int) < 40) := by have := HI.out; omega
      rw [hcut] at HF
      have hZ := fun u => HF.out.setCell (p := ⟨S + 1, 0, none⟩) (by show S + 1 < _; omega) (by show B ≤ S + 1; omega) u
      obtain ⟨A9, c9, hv9, k1, k2, _⟩ := HF.out.read (by omega)
      obtain ⟨l9, hl9⟩ : ∃ l, (fewT T).length = l := ⟨_, rfl⟩
      subst hv9
      have HS2 : B ≤ wq.heap.size := by omega
      have BR : Hid (Below S w wq) := BX.out.trans (BW.out.mono (by omega))
      have HR : Hid (∃ A cap, trV A9 l9 c9 = trV A (fewT T).length cap ∧ (fewT T).length ≤ cap ∧ cap ≤ 9223372036854775807 ∧ (NdsAt (wq.setCell ⟨S + 1, 0, none⟩ (.slice A9 l9 c9)) (wq.setCell ⟨S + 1, 0, none⟩ (.slice A9 l9 c9)).heap.size A (fewT T) ∧ ∀ l : List (Addr × Value), CellsIn l B S → NdsAt (setAll (wq.setCell ⟨S + 1, 0, none⟩ (.slice A9 l9 c9)) l) (wq.setCell ⟨S + 1, 0, none⟩ (.slice A9 l9 c9)).heap.size A (fewT T)) ∧ Below S w (wq.setCell ⟨S + 1, 0, none⟩ (.slice A9 l9 c9))) := by
        obtain ⟨A8, c8, hv8, _, _, k3⟩ := (hZ (.slice A9 l9 c9)).read (by simpa using HS2)
        injection hv8 with e1 e2 e3
        subst e1 e3
        refine ⟨A9, c9, by rw [hl9], k1, k2, ⟨k3, fun lq h1 => ?_⟩, BR.out.setCell (by show S ≤ S + 1; omega) _⟩
        obtain ⟨A8, c8, hv8, _, _, k4⟩ := ((hZ (.slice A9 l9 c9)).setAll lq (fun x hx => ⟨(h1 x hx).1, by have := (h1 x hx).2; omega⟩)).read (by rw [setAll_size]; simpa using HS2)
        injection hv8 with e1 e2 e3
        subst e1 e3
        rw [setAll_size] at k4
        exact k4
      rw [hl9] at HD d2'
      clear hZ k1 k2 HF hcut hl9 HD hi D2 q2'
      rcases hd with h | ⟨h, h40⟩
      all_goals
        go_wp2_with fail
        (try simp only [Exit.inBlock, Exit.then])
        refine bodyPost_ret (v := trV A9 l9 c9) (by rw [results_cell1 rfl]; unfold trV; go_simp; try rfl) rfl ⟨_, rfl, ?_⟩
        exact HR.out
end Go.Proofs.YtpjgapnihmiceaaDoor
namespace Go.Proofs.YtpjgapnihmiceaaDoor
open Go.RowKit
set_option linter.unusedSimpArgs false
def trErr (p : Nat × Int) : Value := if p.1 = 0 then .nilIface else if p.2 = -1 then errno p.1 else errAt p.2 p.1
theorem code_trErr (p : Nat × Int) (h : p.1 ≤ 25) (k : Int) (hk : (p.1 : Int) = k) (w : World) : Calls Tryd.prog 7 #[trErr p] w fun e w' => e = .returned (.int .i64 k) ∧ Below w.heap.size w w' := by
 subst hk
 unfold trErr
 split
 ·next h0 => rw [h0]; exact code_nil w
 ·split
  ·exact code_errno p.1 (by omega) h w
  ·exact code_at p.2 p.1 (by omega) h w
theorem chkT_le (T : List Nd) (m : Int) : (chkT T m).1 ≤ 25 ∧ ((chkT T m).1 = 0 → (chkT T m).2 = -1) := by
 rcases chk_num T m with ⟨h1, h2⟩ | ⟨h1, h2⟩ | ⟨h1, _⟩
 ·exact ⟨by omega, fun _ => h2⟩
 ·exact ⟨by omega, fun _ => h2⟩
 ·exact ⟨by omega, fun h => by omega⟩
def resOf {α : Type} (p : Nat × Int) (x z : α) : α := if p.1 = 0 then x else z
theorem resOf_ok {α : Type} {p : Nat × Int} (h : p.1 = 0) (x z : α) : resOf p x z = x := if_pos h
theorem resOf_bad {α : Type} {p : Nat × Int} (h : ¬ p.1 = 0) (x z : α) : resOf p x z = z := if_neg h
structure TreeAt (w : World) (A : Option Addr) (n : Nat) (T : List Nd) : Prop where
 at_ : NdsAt w w.heap.size A T
 len : T.length = n
 small : SmallT T
theorem TreeAt.below {w w' : World} {A : Option Addr} {n : Nat} {T : List Nd} (h : TreeAt w A n T) (hb : Below w.heap.size w w') : TreeAt w' A n T := ⟨h.at_.on (Nat.le_refl _) hb, h.len, h.small⟩
theorem OutK.read {L : List Int} {w w' : World} {v : Value} (h : OutK L w v w') : ∃ A c, v = .slice A L.length c ∧ L.length ≤ c ∧ c ≤ 9223372036854775807 ∧ Nums w' w'.heap.size A L ∧ Below w.heap.size w w' := by
 obtain ⟨h1, h2⟩ := h
 obtain ⟨A, c, hv, k1, k2, k3⟩ := h1.nums
 unfold maxLen at k2
 exact ⟨A, c, hv, k1, k2, k3, h2⟩
theorem trErr_zero {p : Nat × Int} (h : p.1 = 0) : trErr p = .nilIface := if_pos h
theorem trErr_some {p : Nat × Int} (h : ¬ p.1 = 0) : ∃ t v, trErr p = .iface t v := by
 unfold trErr
 rw [if_neg h]
 split
 ·exact ⟨_, _, rfl⟩
 ·exact ⟨_, _, rfl⟩
def SaysCheck : Prop := ∀ (A : Option Addr) (n cap : Nat) (m : Int) (T : List Nd) (w : World), TreeAt w A n T →
 Calls Tryd.prog 20 #[trV A n cap, .int .i64 m] w fun e w' => e = .returned (trErr (chkT T m)) ∧ Below w.heap.size w w'
end Go.Proofs.YtpjgapnihmiceaaDoor
