/-
  The document's text of a number.
-/
import Derived.Test.YtkgaaabecdbidaaDoorMx08
import Derived.Test.YtkgaaabecdbidaaDoorMx06
import Derived.Test.YtkgaaabecdbidaaDoorMx05
import Derived.Laws.ResultCell
import Derived.Test.YtkgaaabecdbidaaDoorMx01
import Derived.Deep.AppendLies
import Derived.Deep.RegionHeld3
namespace Go.Proofs.YtkgaaabecdbidaaDoor
open Go.RowKit Go.Sort
set_option linter.unusedSimpArgs false
theorem fieldT (C : Option Addr) (l c : Nat) (w : World) : (Instr.field 96 (.agg #[.bool false, .slice C l c]) 1).run Tryd.prog w = .ok (.slice C l c) w := by kernel_rfl
theorem digit_piece (r : Nat) (h : r < 10) : (⟨#[48, 49, 50, 51, 52, 53, 54, 55, 56, 57]⟩ : ByteArray).extract r (r + 1) = ⟨#[UInt8.ofNat (48 + r)]⟩ := by
 have : ∀ i : Fin 10, (⟨#[48, 49, 50, 51, 52, 53, 54, 55, 56, 57]⟩ : ByteArray).extract i.val (i.val + 1) = ⟨#[UInt8.ofNat (48 + i.val)]⟩ := by decide +kernel
 exact this ⟨r, h⟩
theorem own_digs {w : World} {base n cap x : Nat} {A : Option Addr} (h : OwnK .i64 3 w base (.slice A n cap) (digl n x)) (hn : 0 < n) (hc : n ≤ cap) : ∃ g, A = some ⟨g, 0, none⟩ ∧ base ≤ g ∧ g < w.heap.size ∧ DigF w g (fun i => dg x i) n := by
 have h1 : w.ownsRow base 3 1 (.slice A n cap) n ((digl n x).map fun x => Value.int .i64 x) := by
  have := h
  unfold OwnK at this
  rwa [digl_length] at this
 rcases (show w.ownsRow base 3 1 _ _ _ from h1).2 with ⟨h2, _⟩ | ⟨g, c, _, h2, _⟩
 ·cases h2; omega
 ·cases h2
  refine ⟨g, rfl, (h1.lt g rfl).1, (h1.lt g rfl).2, fun i hi => ⟨?_, h1.frozenAt i⟩⟩
  rw [h1.cellAt i (by omega)]
  rw [List.getElem?_map, digl_get hi]
  rfl
def mid (x j : Nat) : Nat → Nat := fun k => if k < j then dg x k else dg (x / 10) k
theorem mid_start {x L : Nat} : ∀ i, i < L → dg x i = mid x L i := fun i hi => by unfold mid; rw [if_pos hi]
theorem mid_end {x : Nat} : ∀ i, mid x 0 i = dg (x / 10) i := fun i => by unfold mid; rw [if_neg (by omega)]
theorem mid_at {x j : Nat} : mid x (j + 1) j = dg x j := by unfold mid; rw [if_pos (by omega)]
theorem mid_step {x j L v : Nat} (h : v = dg (x / 10) j) : ∀ i, i < L → updF (mid x (j + 1)) j v i = mid x j i := fun i _ => by
 by_cases e : i = j
 ·subst e
  rw [updF_same]
  unfold mid
  rw [if_neg (by omega)]
  exact h
 ·rw [updF_other e]
  unfold mid
  by_cases e2 : i < j
  ·rw [if_pos e2, if_pos (by omega)]
  ·rw [if_neg e2, if_neg (by omega)]
set_option maxRecDepth 100000 in
set_option maxHeartbeats 8000000 in
theorem Text_run7 (s : Bool) (A : Option Addr) (L cap n : Nat) (w : World) (h : Hid (Good w s A L cap n)) (hn : Hid (Fits n)) :
    Calls Tryd.prog 58 #[.agg #[.bool s, .slice A L cap]] w fun e w' => e = .returned (.string (txt s n)) ∧ Below w.heap.size w w' := by
  have hsl := decS_le hn.out
  rw [decS_size] at hsl
  have hcp := h.out.cap
  unfold Cap at hcp
  have hL32 : L ≤ 32 := by
    rw [← h.out.len]
    exact nl_le ((fits_dg n).1 hn.out)
  obtain ⟨S, hS⟩ : ∃ S, w.heap.size = S := ⟨_, rfl⟩
  by_cases h0 : n = 0
  · subst h0
    obtain rfl : L = 0 := by rw [← h.out.len, nl_zero]
    obtain rfl : s = false := by have := h.out.sg; simpa [sgn] using this.symm
    have ht : txt false 0 = ⟨#[48]⟩ := by unfold txt decS; rw [Lib.decDigits_one (by decide)]; rfl
    rw [ht]
    go_enter Tryd.func58, Tryd.ntmps58
    go_wp2_with fail
    go_ret
    exact ⟨rfl, below_alloc _ _⟩
  · have hL0 : 0 < L := by
      rw [← h.out.len]
      rcases Nat.eq_zero_or_pos (nl n) with h1 | h1
      · have := lt_nl n; rw [h1, Nat.pow_zero] at this; omega
      · exact h1
    have hLz : ¬ ((L : Int) = 0) := by omega
    have htx : txt s n = if s then (⟨#[45]⟩ : ByteArray) ++ decS n else decS n := by unfold txt; rw [h.out.sg]
    rw [htx]
    have HN0 := Lib.hid (NumAt.new w s A L cap)
    have HB0 := Lib.hid (below_alloc w (boxN s A L cap))
    have HZ0 : Hid ((w.alloc (boxN s A L cap)).heap.size = S + 1) := by show _ = _; simp [hS]
    rw [hS] at HB0 HN0
    have HW0 := h
    rw [hS]
    clear htx h0
    obtain ⟨W, hW⟩ : ∃ W, w.alloc (boxN s A L cap) = W := ⟨_, rfl⟩
    rw [hW] at HN0 HB0 HZ0
    obtain ⟨q0, q1, q2, q3⟩ := HN0.out
    have hWs : W.heap.size = S + 1 := HZ0.out
    obtain ⟨W1, hW1⟩ : ∃ W1, W.alloc (.cells #[] 3) = W1 := ⟨_, rfl⟩
    have b1 := below_alloc W (.cells #[] 3)
    have z1 : (W.alloc (.cells #[] 3)).heap.size = S + 1 + 1 := by simp [hWs]
    have o1 := OwnK.lit .i64 3 W (S + 1) [] (Nat.le_of_eq hWs.symm) (by simp)
    rw [show W.alloc (.cells ([].map fun x => Value.int .i64 x).toArray 3) = W1 from hW1, hWs] at o1
    rw [hW1] at b1 z1
    have HB1 := Lib.hid (HB0.out.trans (b1.mono (by omega)))
    have HN1 := Lib.hid (HN0.out.keep b1 (by omega))
    have HO1 := Lib.hid o1
    have HZ1 := Lib.hid z1
    have HD1 := Lib.hid ((h.out.digs.keep HB1.out (Nat.le_of_eq hS)).nums)
    rw [z1] at HD1
    obtain ⟨p0, p1, p2, p3⟩ := HN1.out
    have hlen : Hid ((digl L n).length ≤ 500000) := by show _ ≤ _; rw [digl_length]; omega
    clear b1 z1 o1
    go_enter Tryd.func58, Tryd.ntmps58
    go_wp2_with
      (at_builtin
       refine wpList_app int_slice _ rfl (.tmp 13) (.tmp 15) rfl (S + 1) (.slice (some ⟨S + 1, 0, none⟩) 0 0) [] rfl HO1.out (S + 1 + 1) A L cap (digl L n) rfl HD1.out (digl_length L n) (by simp) hlen.out (by have := HZ1.out; omega) ?_
       intro v3 w3 o3 g3 t3)
    rw [List.nil_append] at o3
    have B3 : Hid (Below S w w3) := HB1.out.trans ((Below.refl _ _).grown g3 (by rw [HZ1.out]; omega) (by intro g hg; cases hg; show S ≤ S + 1; omega))
    have N3 : Hid (NumAt w3 S s A L cap) := HN1.out.keep ((Below.refl (S + 1) W1).grown g3 (by rw [HZ1.out]; omega) (by intro g hg; cases hg; exact Nat.le_refl _)) (by omega)
    obtain ⟨A9, cap9, hv9, hc9, hm9, -⟩ := OwnK.nums o3
    rw [digl_length] at hv9 hc9
    subst hv9
    obtain ⟨g, rfl, hg1, hg2, D3⟩ := own_digs o3 hL0 hc9
    have HC9 : Hid (L ≤ cap9 ∧ cap9 ≤ 9223372036854775807) := ⟨hc9, by unfold maxLen at hm9; exact hm9⟩
    have HG : Hid (S + 1 ≤ g ∧ g < w3.heap.size) := ⟨hg1, hg2⟩
    have HD3 := Lib.hid D3
    clear o3 g3 t3 hg1 hg2 hc9 hm9 D3 p0 p1 p2 p3 q0 q1 q2 q3 hW hW1 HB1 HN1 HO1 HD1 HZ1 HN0 HB0 HZ0
    have HB3 : Hid (Below S w w3 ∧ NumAt w3 S s A L cap ∧ g < w3.heap.size) := ⟨B3.out, N3.out, HG.out.2⟩
    have HGS : Hid (S + 1 ≤ g) := HG.out.1
    have hLlen := h.out.len
    have HLL := Lib.hid hLlen
    have HSL := Lib.hid hsl
    clear B3 N3 HG hlen hsl hcp hLlen
    go_wp2_with fail
    go_loopg [4, 5] (n + 1) (fun h s4 s5 wr => ∃ (x K : Nat) (l : List UInt8) (t : ByteArray), s4 = .string t ∧ s5 = .slice (some ⟨g, 0, none⟩) K cap9 ∧ Hid (x < h ∧ x ≤ n) ∧ Hid (nl x = K) ∧ K ≤ L ∧ Hid (TxI n x l) ∧ Hid (t = ⟨l.toArray⟩) ∧ t.size ≤ 155 ∧ Hid (DigF wr g (fun i => dg x i) K) ∧ Hid (Below S w wr ∧ NumAt wr S s A L cap ∧ g < wr.heap.size))
    case atStart => exact ⟨n, L, [], ⟨#[]⟩, rfl, rfl, ⟨Nat.lt_succ_self n, Nat.le_refl n⟩, HLL, Nat.le_refl _, TxI.start (by intro e; rw [← HLL.out, e, nl_zero] at hL0; omega), rfl, by show 0 ≤ 155; omega, HD3, HB3⟩
    case round =>
      clear HD3 HB3
      obtain ⟨x, K, l, t, rfl, rfl, HX, HK, hKL, HT, HTL, htl, HD, HW⟩ := hrel
      by_cases hK0 : K = 0
      · subst hK0
        have HE : Hid (decS n = t) := by
          obtain rfl : x = 0 := nl_eq_zero.1 HK.out
          show _ = _
          rw [HTL.out, HT.out.end]
          rfl
        obtain ⟨q0, q1, q2, q3⟩ := HW.out.2.1
        cases s
        · go_wp2_with fail
          go_ret
          exact ⟨congrArg (fun x => Ending.returned (.string x)) HE.out.symm, HW.out.1⟩
        · go_wp2_with fail
          go_ret
          exact ⟨congrArg (fun x => Ending.returned (.string ((⟨#[45]⟩ : ByteArray) ++ x))) HE.out.symm, HW.out.1⟩
      · have hKpos : 0 < K := by omega
        have hKz : (0 : Int) < (K : Int) := by omega
        have HMS : Hid (DigF wr g (mid x K) K) := HD.out.ext mid_start
        have hx0 : x ≠ 0 := by intro e; rw [← HK.out, e, nl_zero] at hKpos; omega
        have HX0 := Lib.hid hx0
        clear HD hx0 hK0
        go_wp2_with fail
        go_loopg [6, 7, 8] (K + 1) (fun h s6 s7 s8 wr => ∃ (j r : Nat) (z : Int), s6 = .int .i64 (r : Int) ∧ s7 = .int .i64 z ∧ Hid (z = (j : Int) - 1 ∧ j < h) ∧ Hid (r = tr x j) ∧ r < 10 ∧ j ≤ K ∧ Hid (DigF wr g (mid x j) K) ∧ Hid (Below S w wr ∧ NumAt wr S s A L cap ∧ g < wr.heap.size))
        case atStart => exact ⟨K, 0, (K : Int) - 1, rfl, by go_num, ⟨rfl, Nat.lt_succ_self K⟩, (tr_start (Nat.le_of_eq HK.out)).symm, by omega, Nat.le_refl K, HMS, HW⟩
        case round =>
          clear HMS HW
          obtain ⟨j, r, z, rfl, rfl, HJ, HR, hr10, hjK, HD, HW⟩ := hrel
          cases j with
          | zero =>
            obtain rfl : z = -1 := by have := HJ.out.1; omega
            have HR2 : Hid (r = x % 10) := HR.out.trans (tr_end x)
            have HDA : Hid (DgAt wr (some ⟨g, 0, none⟩) K (x / 10)) := HD.out.at_ HW.out.2.2 (fun i _ => mid_end i)
            obtain ⟨M, hM⟩ : ∃ M, nl (x / 10) = M := ⟨_, rfl⟩
            have HM := Lib.hid hM
            have hMK : M ≤ K := by rw [← hM, ← HK.out]; exact nl_div_le x 10
            have HLT : Hid (x / 10 < 65536 ^ K) := Nat.lt_of_le_of_lt (Nat.div_le_self x 10) (by rw [← HK.out]; exact lt_nl x)
            have HTR := Lib.hid (trim_run false false (some ⟨g, 0, none⟩) K cap9 (x / 10) M wr HDA HLT ⟨by have := HC9.out; omega, HC9.out.2⟩ rfl HM)
            have HS := Lib.hid (HT.out.step HX0.out)
            clear hM
            go_wp2_with fail
            refine (HTR.out).mono ?_
            rintro e w4 ⟨rfl, hw4⟩
            have HD4 : Hid (DigF w4 g (fun i => dg (x / 10) i) M) := fun i hi => by
              have h1 := (HD.out.ext (h := fun i => dg (x / 10) i) (fun i _ => mid_end i)) i (by omega)
              exact ⟨(hw4.cell (p := ⟨g, i, none⟩) HW.out.2.2).trans h1.1, (hw4.frozen (p := ⟨g, i, none⟩) HW.out.2.2).trans h1.2⟩
            have HW4 : Hid (Below S w w4 ∧ NumAt w4 S s A L cap ∧ g < w4.heap.size) := ⟨HW.out.1.trans (hw4.mono (by have := HGS.out; have := HW.out.2.2; omega)), HW.out.2.1.below hw4, Nat.lt_of_lt_of_le HW.out.2.2 hw4.size⟩
            have hft := fieldT (some ⟨g, 0, none⟩) M cap9
            have hsz2 : ((⟨#[48, 49, 50, 51, 52, 53, 54, 55, 56, 57]⟩ : ByteArray).extract r (r + 1) ++ t).size ≤ 155 := by
              have h1 := tx_len HS.out
              rw [digit_piece r hr10, HR2.out, HTL.out]
              show ((⟨[UInt8.ofNat (48 + x % 10)].toArray⟩ : ByteArray) ++ ⟨l.toArray⟩).size ≤ 155
              rw [bytes_app]
              exact Nat.le_trans (by simpa [ByteArray.size] using h1) HSL.out
            have HT2 : Hid ((⟨#[48, 49, 50, 51, 52, 53, 54, 55, 56, 57]⟩ : ByteArray).extract r (r + 1) ++ t = ⟨(UInt8.ofNat (48 + x % 10) :: l).toArray⟩) := by
              show _ = _
              rw [digit_piece r hr10, HR2.out, HTL.out]
              show ((⟨[UInt8.ofNat (48 + x % 10)].toArray⟩ : ByteArray) ++ ⟨l.toArray⟩) = _
              rw [bytes_app]
              rfl
            clear hw4 HTR HDA HD HW
            generalize (⟨#[48, 49, 50, 51, 52, 53, 54, 55, 56, 57]⟩ : ByteArray).extract r (r + 1) ++ t = t2 at *
            go_wp2_with fail
            go_roundg x
            case measure => exact HX.out.1
            case rel => exact ⟨x / 10, M, _, t2, rfl, rfl, ⟨Nat.div_lt_self (Nat.pos_of_ne_zero HX0.out) (by decide), Nat.le_trans (Nat.div_le_self x 10) HX.out.2⟩, HM, by omega, HS, HT2, hsz2, HD4, HW4⟩
          | succ i =>
            obtain rfl : z = (i : Int) := by have := HJ.out.1; omega
            obtain ⟨d, hd⟩ : ∃ d, dg x i = d := ⟨_, rfl⟩
            have hd6 : d < 65536 := by rw [← hd]; exact dg_lt _ _
            have hc := HD.out i (by omega)
            rw [mid_at, hd] at hc
            obtain ⟨c1, c2⟩ := hc
            have hiK : i < K := by omega
            have hiz : (i : Int) < (K : Int) := by omega
            obtain ⟨u, hu⟩ : ∃ u, (r * 65536 + d) / 10 = u := ⟨_, rfl⟩
            obtain ⟨v, hv⟩ : ∃ v, (r * 65536 + d) % 10 = v := ⟨_, rfl⟩
            have huz : ((r : Int) * 65536 + (d : Int)) / 10 = (u : Int) := by omega
            have hvz : ((r : Int) * 65536 + (d : Int)) % 10 = (v : Int) := by omega
            have HU : Hid (u = dg (x / 10) i) := by show _ = _; rw [← hu, HR.out, ← hd]; exact tr_div x i
            have HV : Hid (v = tr x i) := by show _ = _; rw [← hv, HR.out, ← hd]; exact tr_mod x i
            have hv10 : v < 10 := by rw [← hv]; exact Nat.mod_lt _ (by decide)
            clear hu hv hd
            go_wp2_with fail
            go_roundg (i + 1)
            case measure => have := HJ.out; omega
            case rel =>
              refine ⟨i, v, (i : Int) - 1, by go_num, by go_num, ⟨rfl, Nat.lt_succ_self i⟩, HV, hv10, by omega, (HD.out.upd hiK u).ext (mid_step HU.out), HW.out.1.setCell (p := ⟨g, i, none⟩) (by have := HGS.out; show S ≤ g; omega) _, ?_, ?_⟩
              · exact HW.out.2.1.but (But1.setCell wr g i _) (by have := HGS.out; omega)
              · rw [World.size_setCell]; exact HW.out.2.2
end Go.Proofs.YtkgaaabecdbidaaDoor
namespace Go.Proofs.YtkgaaabecdbidaaDoor
open Go.RowKit Go.Sort
theorem NumAt.range {w : World} {b L cap : Nat} {s : Bool} {A : Option Addr} (h : NumAt w b s A L cap) : w.rangeAt b 0 [.bool s, .slice A L cap] := by
 intro j v hv
 rw [Nat.zero_add]
 rcases j with _ | _ | j
 ·exact h.c0.trans hv
 ·exact h.c1.trans hv
 ·simp at hv
theorem NumAt.there {w : World} {b L cap : Nat} {s : Bool} {A : Option Addr} (h : NumAt w b s A L cap) : w.there b 0 2 := by
 intro j hj
 rw [Nat.zero_add]
 rcases j with _ | _ | j
 ·exact ⟨by rw [h.c0]; rfl, h.f0⟩
 ·exact ⟨by rw [h.c1]; rfl, h.f1⟩
 ·omega
theorem infoNum : (Tryd.prog.info? 96).map (·.size) = some 2 := by kernel_rfl
theorem load_num {W : World} {b L cap : Nat} {s : Bool} {A : Option Addr} (h : NumAt W b s A L cap) : (loadVar 96 ⟨b, 0, none⟩).run Tryd.prog W = .ok (.agg #[.bool s, .slice A L cap]) W :=
 run_loadVar_mid W b 0 96 [.bool s, .slice A L cap] (.struct (Tryd.prog.fieldsOf 96)) h.range (by kernel_rfl) rfl (by kernel_rfl)
theorem results_num1 {fn : Func} {p : Tmp} (hf : fn.results = #[.cell p 96]) {tmps : Array Value} {W : World} {b L cap : Nat} {s : Bool} {A : Option Addr} (hp : tmps.getD p undef = .pointer (some ⟨b, 0, none⟩)) (h : NumAt W b s A L cap) :
  (results fn tmps).run Tryd.prog W = .ok (.agg #[.bool s, .slice A L cap]) W := by
 rw [results_cell1 hf, hp]
 simp [asAddr, load_num h]
end Go.Proofs.YtkgaaabecdbidaaDoor
namespace Go.Proofs.YtkgaaabecdbidaaDoor
open Go.RowKit Go.Sort
set_option linter.unusedSimpArgs false
theorem Good.sto {w : World} {s u t : Bool} {A B C : Option Addr} {L M K b n ca cb cc : Nat} (h : Good w s A L ca n) (hb : NumAt w b u B M cb) : Good (st2 w b t C K cc) s A L ca n := by
 refine ⟨?_, h.len, h.cap, h.sg⟩
 have h1 := h.digs.set hb.c0 (fun x e => by cases e) (.bool t)
 exact h1.set ((World.cell?_setCell_other _ _ _ _ (by simp)).trans hb.c1) (fun x e => by cases e) _
theorem Good.drew {w : World} {s : Bool} {A : Option Addr} {L ca n : Nat} (h : Good w s A L ca n) : Good w.drew s A L ca n := ⟨h.digs.drew, h.len, h.cap, h.sg⟩
structure GcI (w W : World) (S : Nat) (s : Bool) (A : Option Addr) (L ca : Nat) (t : Bool) (B : Option Addr) (M cb n m : Nat) : Prop where
 pa : NumAt W S s A L ca
 pb : NumAt W (S + 1) t B M cb
 pz : NumAt W (S + 1 + 1) false none 0 0
 ga : Good W false A L ca n
 gb : Good W false B M cb m
 bl : Below S w W
section
variable {w W W' : World} {S L ca M cb n m : Nat} {s t : Bool} {A B : Option Addr}
theorem GcI.sz (h : GcI w W S s A L ca t B M cb n m) : S + 1 + 1 + 1 ≤ W.heap.size := h.pz.lt
theorem GcI.below (h : GcI w W S s A L ca t B M cb n m) (hw : Below W.heap.size W W') : GcI w W' S s A L ca t B M cb n m :=
 ⟨h.pa.below hw, h.pb.below hw, h.pz.below hw, h.ga.below hw, h.gb.below hw, h.bl.trans (hw.mono (by have := h.sz; omega))⟩
theorem GcI.alloc (h : GcI w W S s A L ca t B M cb n m) (o : Obj) : GcI w (W.alloc o) S s A L ca t B M cb n m := h.below (below_alloc W o)
theorem GcI.drew (h : GcI w W S s A L ca t B M cb n m) : GcI w W.drew S s A L ca t B M cb n m := ⟨h.pa.drew, h.pb.drew, h.pz.drew, h.ga.drew, h.gb.drew, h.bl.drew⟩
theorem GcI.sto (h : GcI w W S s A L ca t B M cb n m) {b l c : Nat} {u : Bool} {C : Option Addr} (hb : NumAt W b u C l c) (hS : S + 1 + 1 + 1 ≤ b) (v : Bool) (D : Option Addr) (k d : Nat) : GcI w (st2 W b v D k d) S s A L ca t B M cb n m :=
 ⟨h.pa.but (st2_but W b v D k d) (by omega), h.pb.but (st2_but W b v D k d) (by omega), h.pz.but (st2_but W b v D k d) (by omega), h.ga.sto hb, h.gb.sto hb, (st2_but W b v D k d).2.1 S w (by omega) h.bl⟩
end
structure GcO (w W : World) (S X Y : Nat) (A : Option Addr) (L ca n : Nat) (B : Option Addr) (M cb m : Nat) : Prop where
 px : NumAt W X false A L ca
 py : NumAt W Y false B M cb
 gx : Good W false A L ca n
 gy : Good W false B M cb m
 pz : NumAt W (S + 1 + 1) false none 0 0
 bl : Below S w W
 hX : S + 1 + 1 + 1 ≤ X
 hY : S + 1 + 1 + 1 ≤ Y
 hne : X ≠ Y
section
variable {w W W' : World} {S X Y L ca M cb n m : Nat} {A B : Option Addr}
theorem GcO.sz (h : GcO w W S X Y A L ca n B M cb m) : S + 1 + 1 + 1 ≤ W.heap.size := h.pz.lt
theorem GcO.below (h : GcO w W S X Y A L ca n B M cb m) (hw : Below W.heap.size W W') : GcO w W' S X Y A L ca n B M cb m :=
 ⟨h.px.below hw, h.py.below hw, h.gx.below hw, h.gy.below hw, h.pz.below hw, h.bl.trans (hw.mono (by have := h.sz; omega)), h.hX, h.hY, h.hne⟩
theorem GcO.alloc (h : GcO w W S X Y A L ca n B M cb m) (o : Obj) : GcO w (W.alloc o) S X Y A L ca n B M cb m := h.below (below_alloc W o)
theorem GcO.drew (h : GcO w W S X Y A L ca n B M cb m) : GcO w W.drew S X Y A L ca n B M cb m := ⟨h.px.drew, h.py.drew, h.gx.drew, h.gy.drew, h.pz.drew, h.bl.drew, h.hX, h.hY, h.hne⟩
theorem GcO.sto (h : GcO w W S X Y A L ca n B M cb m) {b l c : Nat} {u : Bool} {C : Option Addr} (hb : NumAt W b u C l c) (hS : S + 1 + 1 + 1 ≤ b) (h1 : X ≠ b) (h2 : Y ≠ b) (v : Bool) (D : Option Addr) (k d : Nat) : GcO w (st2 W b v D k d) S X Y A L ca n B M cb m :=
 ⟨h.px.but (st2_but W b v D k d) h1, h.py.but (st2_but W b v D k d) h2, h.gx.sto hb, h.gy.sto hb, h.pz.but (st2_but W b v D k d) (by omega), (st2_but W b v D k d).2.1 S w (by omega) h.bl, h.hX, h.hY, h.hne⟩
end
end Go.Proofs.YtkgaaabecdbidaaDoor
namespace Go.Proofs.YtkgaaabecdbidaaDoor
open Go.RowKit Go.Sort
inductive Bx where
 | num (b : Nat) (s : Bool) (A : Option Addr) (L c : Nat)
 | int (b : Nat) (s : Bool) (n : Nat)
 | rat (b : Nat) (s : Bool) (n : Nat) (t : Bool) (d : Nat)
 | one (b : Nat) (v : Value)
 | row (b : Nat) (v : Value) (vs : List Value)
 | dig (s : Bool) (A : Option Addr) (L c n : Nat)
def Bx.At (w : World) : Bx → Prop
 | .num b s A L c => NumAt w b s A L c
 | .int b s n => IntAt w b s n
 | .rat b s n t d => RatAt w b s n t d
 | .one b v => w.cell? ⟨b, 0, none⟩ = some v ∧ w.frozen? ⟨b, 0, none⟩ = false
 | .row b v vs => w.rangeAt b 0 (v :: vs)
 | .dig s A L c n => Good w s A L c n
def Bx.blk : Bx → Option Nat
 | .num b .. => some b
 | .int b .. => some b
 | .rat b .. => some b
 | .one b _ => some b
 | .row b _ _ => some b
 | .dig .. => none
theorem lt_of_cell {w : World} {b o : Nat} {v : Value} (h : w.cell? ⟨b, o, none⟩ = some v) : b < w.heap.size := by
 rcases Nat.lt_or_ge b w.heap.size with h1 | h1
 ·exact h1
 ·simp [World.cell?, Array.getElem?_eq_none h1] at h
theorem Bx.At.lt {w : World} {x : Bx} (h : x.At w) {b : Nat} (e : x.blk = some b) : b < w.heap.size := by
 cases x with
 | num b' s A L c => cases e; exact NumAt.lt h
 | int b' s n => cases e; exact lt_of_cell (IntAt.sign h)
 | rat b' s n t d => cases e; exact lt_of_cell (RatAt.num h).sign
 | one b' v => cases e; exact lt_of_cell (show _ ∧ _ from h).1
 | row b' v vs => cases e; exact lt_of_cell ((show w.rangeAt _ 0 (v :: vs) from h) 0 v rfl)
 | dig s A L c n => cases e
theorem Bx.At.below {w w' : World} {x : Bx} (h : x.At w) (hw : Below w.heap.size w w') : x.At w' := by
 have hl := fun b => h.lt (b := b)
 cases x with
 | num b' s A L c => exact NumAt.below h hw
 | int b' s n => exact IntAt.keep h hw (hl _ rfl)
 | rat b' s n t d => exact RatAt.keep h hw (hl _ rfl)
 | one b' v =>
  have h1 : w.cell? ⟨b', 0, none⟩ = some v ∧ w.frozen? ⟨b', 0, none⟩ = false := h
  exact ⟨(hw.cell (p := ⟨b', 0, none⟩) (hl _ rfl)).trans h1.1, (hw.frozen (p := ⟨b', 0, none⟩) (hl _ rfl)).trans h1.2⟩
 | row b' v vs =>
  have h1 : w.rangeAt b' 0 (v :: vs) := h
  exact fun j u hu => (hw.cell (p := ⟨b', 0 + j, none⟩) (hl _ rfl)).trans (h1 j u hu)
 | dig s A L c n => exact Good.below h hw
theorem Bx.At.drew {w : World} {x : Bx} (h : x.At w) : x.At w.drew := by
 cases x with
 | num b' s A L c => exact NumAt.drew h
 | int b' s n => exact IntAt.drew h
 | rat b' s n t d => exact RatAt.drew h
 | one b' v => exact h
 | row b' v vs => exact h
 | dig s A L c n => exact Good.drew h
structure Sto (w w' : World) (c : Nat) : Prop where
 but : But1 w w' c
 dig : ∀ (A : Option Addr) (L n : Nat), DgAt w A L n → DgAt w' A L n
theorem Bx.At.sto {w w' : World} {x : Bx} {c : Nat} (h : x.At w) (hw : Sto w w' c) (hne : x.blk ≠ some c) : x.At w' := by
 cases x with
 | num b' s A L c' => exact NumAt.but h hw.but (fun e => hne (congrArg some e))
 | int b' s n => exact IntAt.but h hw.but (fun e => hne (congrArg some e))
 | rat b' s n t d => exact RatAt.but h hw.but (fun e => hne (congrArg some e))
 | one b' v =>
  have h1 : w.cell? ⟨b', 0, none⟩ = some v ∧ w.frozen? ⟨b', 0, none⟩ = false := h
  have e := hw.but.1 ⟨b', 0, none⟩ (fun e => hne (congrArg some e))
  exact ⟨e.1.trans h1.1, e.2.trans h1.2⟩
 | row b' v vs =>
  have h1 : w.rangeAt b' 0 (v :: vs) := h
  exact fun j u hu => (hw.but.1 ⟨b', 0 + j, none⟩ (fun e => hne (congrArg some e))).1.trans (h1 j u hu)
 | dig s A L c' n => exact ⟨hw.dig _ _ _ (Good.digs h), Good.len h, Good.cap h, Good.sg h⟩
theorem sto_num {w : World} {b L c : Nat} {s : Bool} {A : Option Addr} (h : NumAt w b s A L c) (t : Bool) (B : Option Addr) (M d : Nat) : Sto w (st2 w b t B M d) b :=
 ⟨st2_but w b t B M d, fun A' L' n' g => by
  have h1 := g.set h.c0 (fun x e => by cases e) (.bool t)
  exact h1.set ((World.cell?_setCell_other _ _ _ _ (by simp)).trans h.c1) (fun x e => by cases e) _⟩
theorem Sto.trans {u v w : World} {b : Nat} (h : Sto u v b) (g : Sto v w b) : Sto u w b := ⟨h.but.trans g.but, fun A L n d => g.dig A L n (h.dig A L n d)⟩
structure Bs (w0 : World) (S : Nat) (l : List Bx) (w : World) : Prop where
 all : ∀ x ∈ l, x.At w
 low : ∀ x ∈ l, ∀ b, x.blk = some b → S ≤ b
 dist : (l.filterMap Bx.blk).Nodup
 bl : Below S w0 w
 sz : S ≤ w.heap.size
section
variable {w0 w w' : World} {S : Nat} {l : List Bx}
theorem Bs.start (w : World) {S : Nat} (h : w.heap.size = S) : Bs w S [] w := ⟨fun _ h => absurd h (by simp), fun _ h => absurd h (by simp), List.nodup_nil, Below.refl _ _, Nat.le_of_eq h.symm⟩
theorem Bs.at (h : Bs w0 S l w) (i : Nat) {x : Bx} (e : l[i]? = some x) : x.At w := h.all x (List.mem_of_getElem? e)
theorem Bs.num (h : Bs w0 S l w) (i : Nat) {b L c : Nat} {s : Bool} {A : Option Addr} (e : l[i]? = some (.num b s A L c)) : NumAt w b s A L c := h.at i e
theorem Bs.int (h : Bs w0 S l w) (i : Nat) {b n : Nat} {s : Bool} (e : l[i]? = some (.int b s n)) : IntAt w b s n := h.at i e
theorem Bs.rat (h : Bs w0 S l w) (i : Nat) {b n d : Nat} {s t : Bool} (e : l[i]? = some (.rat b s n t d)) : RatAt w b s n t d := h.at i e
theorem Bs.one (h : Bs w0 S l w) (i : Nat) {b : Nat} {v : Value} (e : l[i]? = some (.one b v)) : w.cell? ⟨b, 0, none⟩ = some v ∧ w.frozen? ⟨b, 0, none⟩ = false := h.at i e
theorem Bs.dig (h : Bs w0 S l w) (i : Nat) {s : Bool} {A : Option Addr} {L c n : Nat} (e : l[i]? = some (.dig s A L c n)) : Good w s A L c n := h.at i e
theorem Bs.row (h : Bs w0 S l w) (i : Nat) {b : Nat} {v : Value} {vs : List Value} (e : l[i]? = some (.row b v vs)) : w.rangeAt b 0 (v :: vs) := h.at i e
theorem Bs.below (h : Bs w0 S l w) (hw : Below w.heap.size w w') : Bs w0 S l w' :=
 ⟨fun x hx => (h.all x hx).below hw, h.low, h.dist, h.bl.trans (hw.mono h.sz), Nat.le_trans h.sz hw.size⟩
theorem Bs.drew (h : Bs w0 S l w) : Bs w0 S l w.drew := ⟨fun x hx => (h.all x hx).drew, h.low, h.dist, h.bl.drew, h.sz⟩
theorem Bs.alloc (h : Bs w0 S l w) (o : Obj) : Bs w0 S l (w.alloc o) := h.below (below_alloc w o)
theorem Bs.sub {l' : List Bx} (h : Bs w0 S l w) (hs : l'.Sublist l) : Bs w0 S l' w :=
 ⟨fun x hx => h.all x (hs.subset hx), fun x hx => h.low x (hs.subset hx), (hs.filterMap _).nodup h.dist, h.bl, h.sz⟩
theorem Bs.blk_lt (h : Bs w0 S l w) {b : Nat} (hb : b ∈ l.filterMap Bx.blk) : b < w.heap.size := by
 obtain ⟨x, hx, e⟩ := List.mem_filterMap.1 hb
 exact (h.all x hx).lt e
theorem Bs.push (h : Bs w0 S l w) {x : Bx} {k : Nat} (hk : w.heap.size = k) (hw : Below w.heap.size w w') (hx : x.At w') (hb : x.blk = some k) : Bs w0 S (x :: l) w' := by
 have g := h.below hw
 refine ⟨fun y hy => ?_, fun y hy b e => ?_, ?_, g.bl, g.sz⟩
 ·rcases List.mem_cons.1 hy with rfl | hy
  ·exact hx
  ·exact g.all y hy
 ·rcases List.mem_cons.1 hy with rfl | hy
  ·rw [hb] at e
   cases e
   rw [← hk]
   exact h.sz
  ·exact g.low y hy b e
 ·rw [List.filterMap_cons_some hb]
  exact List.nodup_cons.2 ⟨fun hm => by have := h.blk_lt hm; omega, g.dist⟩
theorem Bs.pushDig (h : Bs w0 S l w) {s : Bool} {A : Option Addr} {L c n : Nat} (g : Good w s A L c n) : Bs w0 S (.dig s A L c n :: l) w := by
 refine ⟨fun y hy => ?_, fun y hy b e => ?_, ?_, h.bl, h.sz⟩
 ·rcases List.mem_cons.1 hy with rfl | hy
  ·exact g
  ·exact h.all y hy
 ·rcases List.mem_cons.1 hy with rfl | hy
  ·cases e
  ·exact h.low y hy b e
 ·rw [List.filterMap_cons_none rfl]
  exact h.dist
theorem Bs.pushNum (h : Bs w0 S l w) {k : Nat} (hk : w.heap.size = k) (s : Bool) (A : Option Addr) (L c : Nat) : Bs w0 S (.num k s A L c :: l) (w.alloc (boxN s A L c)) :=
 h.push hk (below_alloc w _) (x := .num k s A L c) (by rw [← hk]; exact NumAt.new w s A L c) rfl
theorem Bs.apart (h : Bs w0 S l w) {i j : Nat} {x y : Bx} (hi : l[i]? = some x) (hj : l[j]? = some y) (hij : i ≠ j) {b : Nat} (hx : x.blk = some b) : y.blk ≠ some b := by
 intro hy
 have key : ∀ (l : List Bx) (i j : Nat), i < j → ∀ x y : Bx, l[i]? = some x → l[j]? = some y → x.blk = some b → y.blk = some b → (l.filterMap Bx.blk).Nodup → False := by
  intro l
  induction l with
  | nil => intro i j _ x y hi; simp at hi
  | cons z l ih =>
   intro i j hij x y hi hj hx hy hd
   have hd2 : (l.filterMap Bx.blk).Nodup := by
    cases hz : z.blk with
    | none => rwa [List.filterMap_cons_none hz] at hd
    | some c => rw [List.filterMap_cons_some hz] at hd; exact (List.nodup_cons.1 hd).2
   cases j with
   | zero => omega
   | succ j =>
    cases i with
    | zero =>
     have ez : z = x := by simpa using hi
     subst ez
     rw [List.filterMap_cons_some hx] at hd
     have hm : y ∈ l := List.mem_of_getElem? (by simpa using hj)
     exact (List.nodup_cons.1 hd).1 (List.mem_filterMap.2 ⟨y, hm, hy⟩)
    | succ i => exact ih i j (by omega) x y (by simpa using hi) (by simpa using hj) hx hy hd2
 rcases Nat.lt_or_ge i j with h1 | h1
 ·exact key l i j h1 x y hi hj hx hy h.dist
 ·exact key l j i (by omega) y x hj hi hy hx h.dist
theorem filterMap_set_blk : ∀ (l : List Bx) (i : Nat) (x y : Bx), l[i]? = some x → x.blk = y.blk → (l.set i y).filterMap Bx.blk = l.filterMap Bx.blk := by
 intro l
 induction l with
 | nil => intro i x y h; simp at h
 | cons z l ih =>
  intro i x y h e
  cases i with
  | zero =>
   have ez : z = x := by simpa using h
   subst ez
   show List.filterMap Bx.blk (y :: l) = _
   cases hz : z.blk with
   | none => rw [List.filterMap_cons_none (by rw [← e, hz]), List.filterMap_cons_none hz]
   | some c => rw [List.filterMap_cons_some (by rw [← e, hz]), List.filterMap_cons_some hz]
  | succ i =>
   show List.filterMap Bx.blk (z :: l.set i y) = _
   have := ih i x y (by simpa using h) e
   cases hz : z.blk with
   | none => rw [List.filterMap_cons_none hz, List.filterMap_cons_none hz, this]
   | some c => rw [List.filterMap_cons_some hz, List.filterMap_cons_some hz, this]
theorem Bs.put (h : Bs w0 S l w) (i : Nat) {x y : Bx} {b : Nat} (e : l[i]? = some x) (hx : x.blk = some b) (hy : y.blk = some b) (hs : Sto w w' b) (ha : y.At w') {l' : List Bx} (hl : l.set i y = l') : Bs w0 S l' w' := by
 subst hl
 have hSb := h.low x (List.mem_of_getElem? e) b hx
 refine ⟨fun z hz => ?_, fun z hz c ec => ?_, ?_, hs.but.2.1 S w0 hSb h.bl, by rw [hs.but.2.2]; exact h.sz⟩
 ·obtain ⟨j, hj⟩ := List.mem_iff_getElem?.1 hz
  by_cases hij : i = j
  ·subst hij
   have hl := (List.getElem?_eq_some_iff.1 e).1
   rw [List.getElem?_set_self hl] at hj
   cases hj
   exact ha
  ·rw [List.getElem?_set_ne hij] at hj
   exact (h.at j hj).sto hs (h.apart e hj hij hx)
 ·rcases List.mem_or_eq_of_mem_set hz with h1 | h1
  ·exact h.low z h1 c ec
  ·subst h1
   rw [hy] at ec
   cases ec
   exact hSb
 ·rw [filterMap_set_blk l i x y e (by rw [hx, hy])]
  exact h.dist
theorem Bs.putNum (h : Bs w0 S l w) (i : Nat) {b L c : Nat} {s : Bool} {A : Option Addr} (e : l[i]? = some (.num b s A L c)) (t : Bool) (B : Option Addr) (M d : Nat) {l' : List Bx} (hl : l.set i (.num b t B M d) = l') : Bs w0 S l' (st2 w b t B M d) :=
 h.put i e rfl (y := .num b t B M d) rfl (sto_num (h.num i e) t B M d) (st2_at (h.num i e)) hl
end
theorem wpList_store_num {ops : Array Oper} {rest : List Oper} {op : Oper} {a : Act} {w : World} {Q : Exit → Act → World → Prop} (hgd : op.guard = none) (x y : Operand) (ho : op.op = .store 96 x y)
  {b L c M d : Nat} {s t : Bool} {A B : Option Addr} (hx : a.eval x = .pointer (some ⟨b, 0, none⟩)) (hy : a.eval y = .agg #[.bool t, .slice B M d]) (h : NumAt w b s A L c)
  (hK : wpList Tryd.prog ops Q rest (a.put op.dst undef) (st2 w b t B M d)) : wpList Tryd.prog ops Q (op :: rest) a w :=
 wpList_store_mid hgd 96 x y ho b 0 #[.bool t, .slice B M d] hx hy h.there infoNum (by simp [Value.oneCell']) hK
end Go.Proofs.YtkgaaabecdbidaaDoor
