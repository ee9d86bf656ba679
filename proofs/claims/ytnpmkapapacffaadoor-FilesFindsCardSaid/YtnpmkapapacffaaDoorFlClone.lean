/-
  bytes.Clone, files.cloneFile and files.clone: packages of the call's own.
-/
import Derived.Test.YtnpmkapapacffaaDoorFlGrow
namespace Go.Proofs.YtnpmkapapacffaaDoor
open Go.Shelf Go.RowKit Go.Lib Go.Sort Fm

set_option maxHeartbeats 2000000 in
theorem bclone_run (A : Option Addr) (n cap : Nat) (l : List Int) (w : World) (hb : Byts w w.heap.size A l) (hl : Hid (l.length = n)) (hn : n ≤ 400000) :
    Calls Tryd.prog 43 #[.slice A n cap] w fun e w' => ∃ v, e = .returned v ∧ OwnK .u8 5 w' w.heap.size v l ∧ Below w.heap.size w w' := by
  have HB := Lib.hid hb.nums
  have q22 : ∀ (w : World) (a : Option Addr) (n c n' c' : Nat), (binOp .eql 37 (.slice a n c) (.slice none n' c')).run Tryd.prog w = .ok (.bool a.isNone) w := fun w a n c n' c' => Lib.run_eql_slice_nil w _ _ a n c n' c' Tryd.underlying37
  clear hb
  cases A with
  | none =>
    have hnil : l = [] := by
      rcases Nat.eq_zero_or_pos l.length with h0 | h0
      · exact List.eq_nil_of_length_eq_zero h0
      · obtain ⟨b, o, e, _⟩ := HB.out h0
        cases e
    subst hnil
    go_enter Tryd.func43, Tryd.ntmps43
    go_wp2
    go_ret
    exact ⟨_, rfl, OwnK.nil _ _ _ _, Below.refl _ _⟩
  | some a =>
    have O1 : Hid (OwnK .u8 5 (w.alloc (.cells #[] 5)) w.heap.size (.slice (some ⟨w.heap.size, 0, none⟩) 0 0) ([] : List Int)) := OwnK.lit _ _ w w.heap.size [] (Nat.le_refl _) (by simp)
    have B1 : Hid (Below w.heap.size w (w.alloc (.cells #[] 5))) := (Below.refl _ _).alloc (Nat.le_refl _) _
    have H1 : Hid (NumsK .u8 (w.alloc (.cells #[] 5)) w.heap.size (some a) l) := HB.out.below B1.out (Nat.le_refl _)
    clear HB
    go_enter Tryd.func43, Tryd.ntmps43
    go_wp2_with
      (at_builtin
       refine wpList_app u8_slice _ rfl (.tmp 5) (.tmp 6) rfl w.heap.size _ _ rfl O1.out w.heap.size (some a) n cap l rfl H1.out hl.out (by simp) (by have := hl.out; omega) (by simp) ?_
       intro v3 w3 o3 g3 t3
       have BV : Hid (Below w.heap.size w w3) := B1.out.grown g3 (by simp) (own_ge O1.out)
       clear g3 t3)
    go_ret
    exact ⟨_, rfl, o3, BV.out⟩
set_option maxHeartbeats 4000000 in
theorem cloneFile_run (s : ByteArray) (A : Option Addr) (n cap : Nat) (l : List Int) (w : World) (hb : Byts w w.heap.size A l) (hl : Hid (l.length = n)) (hn : n ≤ 400000) :
    Calls Tryd.prog 42 #[.agg #[.string s, .slice A n cap]] w fun e w' => ∃ B m c, e = .returned (.agg #[.string s, .slice B m c]) ∧ OwnK .u8 5 w' w.heap.size (.slice B m c) l ∧ Below w.heap.size w w' := by
  have HB := Lib.hid hb
  clear hb
  go_enter Tryd.func42, Tryd.ntmps42
  go_wp2_with fail
  have BX : Hid (Below w.heap.size w ((w.alloc (.cells #[.string s, .slice A n cap] 39)).alloc (.cells #[.string ⟨#[]⟩, .slice none 0 0] 39))) := ((Below.refl _ _).alloc (Nat.le_refl _) _).alloc (by simp) _
  go_region_with (first | (go_at_call 43; refine (bclone_run A n cap l _ (HB.out.on (Nat.le_refl _) BX.out.drew) hl hn).mono ?_; rintro e w1 ⟨v, rfl, ho, hw1⟩; obtain ⟨B9, c9, rfl, hn9, hc9, _⟩ := OwnK.nums ho; have HO := Lib.hid ho; have HW := Lib.hid hw1; have g0 : w1.cell? ⟨w.heap.size + 1, 0, none⟩ = some (.string ⟨#[]⟩) := (hw1.cell (p := ⟨w.heap.size + 1, 0, none⟩) (by simp)).trans (by simp); have g1 : w1.cell? ⟨w.heap.size + 1, 1, none⟩ = some (.slice none 0 0) := (hw1.cell (p := ⟨w.heap.size + 1, 1, none⟩) (by simp)).trans (by simp); have g2 : w1.frozen? ⟨w.heap.size + 1, 0, none⟩ = false := (hw1.frozen (p := ⟨w.heap.size + 1, 0, none⟩) (by simp)).trans (by simp); have g3 : w1.frozen? ⟨w.heap.size + 1, 1, none⟩ = false := (hw1.frozen (p := ⟨w.heap.size + 1, 1, none⟩) (by simp)).trans (by simp); have g4 : w1.cell? ⟨w.heap.size, 0, none⟩ = some (.string s) := (hw1.cell (p := ⟨w.heap.size, 0, none⟩) (by simp; omega)).trans (by simp); clear ho hw1))
  all_goals go_wp2
  all_goals refine bodyPost_ret (v := .agg #[.string s, .slice B9 l.length c9]) (by rw [results_cell1 rfl]; go_simp; try rfl) rfl ⟨_, _, _, rfl, ?_, ?_⟩
  all_goals first | exact ownK_base ((HO.out.setCell (by simp) _).setCell (by simp) _) (by simp; omega) | exact ((BX.out.drew.trans (HW.out.mono (show w.heap.size ≤ _ by simp; omega))).setCell (by simp) _).setCell (by simp) _
/-- A row of the call's own that is there. -/
theorem own_form {E : TypeId} {w : World} {base : Nat} {v : Value} {l : List Re} (h : OwnV reCells 2 E w base v l) (hv : ∃ g, v.ownBlock = some g) : ∃ g c, v = .slice (some ⟨g, 0, none⟩) l.length c ∧ base ≤ g ∧ g < w.heap.size := by
  obtain ⟨g, hg⟩ := hv
  rcases h.2 with ⟨e, _⟩ | ⟨g', cap, cur, e, hb, hh, _⟩
  · rw [e] at hg; cases hg
  · exact ⟨g', cap, e, hb, (Array.getElem?_eq_some_iff.1 hh).1⟩
/-- What a call hands back that makes packages of its own. -/
def OwnOut (n : Nat) (ps : List Pk) (w : World) (e : Ending) (w' : World) : Prop := ∃ g c xs, e = .returned (.slice (some ⟨g, 0, none⟩) n c) ∧ OwnX w' w.heap.size (.slice (some ⟨g, 0, none⟩) n c) xs ps ∧ Below w.heap.size w w'
theorem blk_or {v v' : Value} {n : Nat} (h : v'.ownBlock = v.ownBlock ∨ v'.ownBlock = some n) (hg : ∃ g, v.ownBlock = some g) : ∃ g, v'.ownBlock = some g := by
  rcases h with h | h
  · obtain ⟨g, hg⟩ := hg; exact ⟨g, h.trans hg⟩
  · exact ⟨_, h⟩
set_option maxHeartbeats 8000000 in
set_option maxRecDepth 100000 in
theorem clone_run (A : Option Addr) (n cap : Nat) (ps : List Pk) (w : World) (hb : PksAt w w.heap.size A ps) (hl : Hid (ps.length = n)) (hs : Hid (Small ps)) :
    Calls Tryd.prog 35 #[.slice A n cap] w fun e w' => OwnOut n ps w e w' := by
  have HB := Lib.hid hb
  have hn8 : n ≤ 8 := by have := hs.out.1; have := hl.out; omega
  clear hb
  go_enter Tryd.func35, Tryd.ntmps35
  go_wp2_with (first
    | (at_make
       refine wpList_makeV pkg_slice _ rfl _ _ rfl w.heap.size n rfl rfl (by omega) (Nat.le_refl _) ?_
       intro w2 o2 g2
       have B2 : Hid (Below w.heap.size w w2) := (Below.refl _ _).grown g2 (Nat.le_refl _) (fun g hg => by cases hg)
       have X2 : Hid (OwnX w2 w.heap.size (.slice (some ⟨w.heap.size, 0, none⟩) 0 n) [] []) := ⟨o2, .nil, Zip.nil⟩
       clear o2 g2)
    | fail)
  go_loopg [3, 14] (n + 1) (fun h s3 s14 wr => ∃ (i : Nat) (xs : List Re), s14 = .int .i64 i ∧ Hid (i ≤ n ∧ i + h = n + 1) ∧ Hid (OwnX wr w.heap.size s3 xs (ps.take i)) ∧ Hid (∃ g, s3.ownBlock = some g) ∧ Hid (Below w.heap.size w wr))
  case atStart => exact ⟨0, [], rfl, by show _ ∧ _; omega, X2.out, ⟨_, rfl⟩, B2.out⟩
  case round =>
    clear X2 B2
    obtain ⟨i, xs, rfl, HI, HX, HG, BW⟩ := hrel
    by_cases hlt : i < n
    · have hltz : (i : Int) < (n : Int) := by omega
      have hsz := BW.out.size
      obtain ⟨p, hp⟩ : ∃ p, ps[i]? = some p := ⟨_, List.getElem?_eq_getElem (by have := hl.out; omega)⟩
      obtain ⟨b, o, F, m, c, rfl, hblt, c0, c1, hm, hmc, hcm, hF⟩ := (HB.out.below BW.out (Nat.le_refl _)).at hp
      have hsp := hs.out.2 p (List.mem_of_getElem? hp)
      have hm6 : m ≤ 6 := by omega
      have HM := Lib.hid hm
      have HP := Lib.hid hp
      have HF := Lib.hid hF
      have HS := Lib.hid hsp
      clear hm hp hF hsp
      generalize wr = wq at *
      have BQ : Hid (Below wq.heap.size wq (wq.alloc (.cells #[.string p.path, .slice F m c] 48))) := (Below.refl _ _).alloc (Nat.le_refl _) _
      go_wp2_with (first
        | (at_make
           refine wpList_makeV file_slice _ rfl _ _ rfl (wq.heap.size + 1) m rfl rfl (by omega) (by simp) ?_
           intro w3 o3 g3
           have B3 : Hid (Below (wq.heap.size + 1) (wq.alloc (.cells #[.string p.path, .slice F m c] 48)) w3) := (Below.refl _ _).grown g3 (by simp) (fun g hg => by cases hg)
           rw [show (wq.alloc (.cells #[.string p.path, .slice F m c] 48)).heap.size = wq.heap.size + 1 by simp] at o3
           have O3 := Lib.hid o3
           have k1 : w3.cell? ⟨wq.heap.size, 1, none⟩ = some (.slice F m c) := (B3.out.cell (p := ⟨wq.heap.size, 1, none⟩) (by simp)).trans (by simp)
           clear o3 g3)
        | fail)
      obtain ⟨W1, hW1⟩ : ∃ W1, W1 = wq.alloc (.cells #[.string p.path, .slice F m c] 48) := ⟨_, rfl⟩
      have hN1 : W1.heap.size = wq.heap.size + 1 := by rw [hW1]; simp
      have hc0 : W1.cell? ⟨wq.heap.size, 0, none⟩ = some (.string p.path) := by rw [hW1]; simp
      have hc1 : W1.cell? ⟨wq.heap.size, 1, none⟩ = some (.slice F m c) := by rw [hW1]; simp
      rw [← hW1] at BQ B3
      have HC0 := Lib.hid hc0
      have HC1 := Lib.hid hc1
      have HN1 := Lib.hid hN1
      clear hW1 hc0 hc1 hN1 k1 c0 c1
      go_wp2_with fail
      go_loopg [6, 25] (m + 1) (fun h s6 s25 wr => ∃ (k : Nat) (ys : List Re), s25 = .int .i64 k ∧ Hid (k ≤ m ∧ k + h = m + 1) ∧ Hid (OwnV reCells 2 39 wr (wq.heap.size + 1) s6 ys) ∧ Hid (Zip (IsFlT wr w.heap.size) ys (p.files.take k)) ∧ Hid (∃ g, s6.ownBlock = some g) ∧ Hid (Below (wq.heap.size + 1) W1 wr))
      case atStart => exact ⟨0, [], rfl, by show _ ∧ _; omega, O3.out, Zip.nil, ⟨_, rfl⟩, B3.out⟩
      case round =>
        clear O3 B3
        obtain ⟨k, ys, rfl, HK, OY, ZY, GY, BY⟩ := hrel
        have d1 : wr.cell? ⟨wq.heap.size, 1, none⟩ = some (.slice F m c) := (BY.out.cell (p := ⟨wq.heap.size, 1, none⟩) (by simp)).trans HC1.out
        have d0 : wr.cell? ⟨wq.heap.size, 0, none⟩ = some (.string p.path) := (BY.out.cell (p := ⟨wq.heap.size, 0, none⟩) (by simp)).trans HC0.out
        have hszr := BY.out.size
        have hN1 := HN1.out
        have BF : Hid (Below w.heap.size w wr) := (BW.out.trans (BQ.out.mono hsz)).trans (BY.out.mono (by omega))
        by_cases hk : k < m
        · have hkz : (k : Int) < (m : Int) := by omega
          obtain ⟨f, hf⟩ : ∃ f, p.files[k]? = some f := ⟨_, List.getElem?_eq_getElem (by have := HM.out; omega)⟩
          obtain ⟨b2, o2, G, m2, c2, rfl, hb2, e0, e1, hm2, hmc2, hcm2, hG⟩ := (HF.out.below (BQ.out.trans (BY.out.mono (by omega))) hsz).at hf
          have ht := HS.out.2 f (List.mem_of_getElem? hf)
          have hm300 : m2 ≤ 300 := by omega
          have HM2 : Hid (f.text.length = m2) := hm2.symm
          have HFF := Lib.hid hf
          have HBT : Hid (U.Byt f.text) := hG.1
          have HCF := Lib.hid (cloneFile_run f.name G m2 c2 f.text (wr.alloc (.cells #[.string f.name, .slice G m2 c2] 39)) ((hG.more (by omega)).on (Nat.le_refl _) ((Below.refl _ _).alloc (Nat.le_refl _) _)) HM2 (by omega))
          clear hf hm2 hG ht d0
          go_wp2_with fail
          refine HCF.out.mono ?_
          rintro e w5 ⟨B9, m9, c9, rfl, ho, hw5⟩
          obtain ⟨A9, cc9, hv9, hlc9, hcc9, hT9⟩ := TxtAt.own (base := w.heap.size) ho HBT.out
          cases hv9
          have h5 := hw5.size
          have B5 : Hid (Below wr.heap.size wr w5) := ((Below.refl _ _).alloc (Nat.le_refl _) _).trans (hw5.mono (by simp))
          have HT9 : Hid (IsFlT w5 w.heap.size ⟨f.name, B9, f.text.length, c9⟩ f) := ⟨rfl, rfl, hlc9, hcc9, hT9⟩
          have OA : Hid (OwnV reCells 2 39 (w5.alloc (.cells #[.string f.name, .slice B9 f.text.length c9] 39)) (wq.heap.size + 1) u6 ys) := (OY.out.below B5.out).alloc _
          have NA : Hid (CellsV reCells (w5.alloc (.cells #[.string f.name, .slice B9 f.text.length c9] 39)) (w5.heap.size + 1) (some ⟨w5.heap.size, 0, none⟩) [⟨f.name, B9, f.text.length, c9⟩]) := one_re w5 _ _ _ _ _
          have BA : Hid (Below (wq.heap.size + 1) W1 (w5.alloc (.cells #[.string f.name, .slice B9 f.text.length c9] 39))) := (BY.out.trans (B5.out.mono (by omega))).alloc (by have := B5.out.size; omega) _
          have ZA : Hid (Zip (IsFlT (w5.alloc (.cells #[.string f.name, .slice B9 f.text.length c9] 39)) w.heap.size) ys (p.files.take k)) := (ZY.out.mono fun _ _ h => h.but (bs := []) (But.of_below B5.out) (by simp)).mono fun _ _ h => h.but (bs := []) (But.of_below ((Below.refl _ _).alloc (Nat.le_refl _) _)) (by simp)
          have HBA : Hid (wq.heap.size + 1 ≤ (w5.alloc (.cells #[.string f.name, .slice B9 f.text.length c9] 39)).heap.size) := by have := BA.out.size; show _ ≤ _; omega
          have hylen : ys.length = k := by have := ZY.out.len; rw [this, List.length_take]; have := HM.out; omega
          have HYL := Lib.hid hylen
          clear ho hw5 hT9 hlc9 hcc9 HCF d1 hylen
          go_wp2_with (first
            | (at_builtin
               refine wpList_appV file_slice _ rfl (.tmp 29) (.tmp 32) rfl (wq.heap.size + 1) u6 ys rfl OA.out (w5.heap.size + 1) (some ⟨w5.heap.size, 0, none⟩) 1 1 _ rfl NA.out rfl (by have := HYL.out; omega) (by simp) HBA.out ?_
               intro v6 w6 o6 g6 t6
               have O6 := Lib.hid o6
               have B6 : Hid (Below (wq.heap.size + 1) W1 w6) := BA.out.grown g6 HBA.out (ownV_ge OA.out)
               have Z6 : Hid (Zip (IsFlT w6 w.heap.size) (ys ++ [⟨f.name, B9, f.text.length, c9⟩]) (p.files.take k ++ [f])) := fls_snoc OA.out (by omega) ZA.out g6 (HT9.out.but (bs := []) (But.of_below ((Below.refl _ _).alloc (Nat.le_refl _) _)) (by simp))
               have G6 : Hid (∃ g, v6.ownBlock = some g) := blk_or t6 GY.out
               clear o6 g6 t6)
            | fail)
          go_roundg (m - k)
          case measure => have := HK.out; omega
          case rel => exact ⟨k + 1, _, by go_num, by show _ ∧ _; have := HK.out; omega, O6.out, by rw [take_at HFF.out]; exact Z6.out, G6.out, B6.out⟩
        · have hkz : ¬ (k : Int) < (m : Int) := by omega
          have hfull : p.files.take k = p.files := List.take_of_length_le (by have := HM.out; omega)
          rw [hfull] at ZY
          obtain ⟨g6, c6, hv6, hbg, hgl⟩ := own_form OY.out GY.out
          subst hv6
          have hylen : ys.length = m := by rw [ZY.out.len]; exact HM.out.symm
          rw [hylen] at OY ⊢
          have HR : Hid (IsPkT wr w.heap.size ⟨p.path, some ⟨g6, 0, none⟩, m, c6⟩ p) := ⟨rfl, HM.out, g6, rfl, ys, ownV_base OY.out (by omega), hylen, ZY.out⟩
          have XR : Hid (OwnX wr w.heap.size u3 xs (ps.take i)) := HX.out.below (BQ.out.trans (BY.out.mono (by omega)))
          have HNE : Hid (∀ y ∈ xs, y.A ≠ some ⟨g6, 0, none⟩) := HX.out.old (by omega)
          have HGL := Lib.hid hgl
          clear hfull hylen hbg hgl OY ZY GY
          have XA : Hid (OwnX (wr.alloc (.cells #[.string p.path, .slice (some ⟨g6, 0, none⟩) m c6] 48)) w.heap.size u3 xs (ps.take i)) := XR.out.below ((Below.refl _ _).alloc (Nat.le_refl _) _)
          have NA : Hid (CellsV reCells (wr.alloc (.cells #[.string p.path, .slice (some ⟨g6, 0, none⟩) m c6] 48)) (wr.heap.size + 1) (some ⟨wr.heap.size, 0, none⟩) [⟨p.path, some ⟨g6, 0, none⟩, m, c6⟩]) := one_re wr _ _ _ _ _
          have BA : Hid (Below w.heap.size w (wr.alloc (.cells #[.string p.path, .slice (some ⟨g6, 0, none⟩) m c6] 48))) := BF.out.alloc BF.out.size _
          have hxlen : xs.length = i := by have := XR.out.zip.len; rw [this, List.length_take]; have := hl.out; omega
          have HXL := Lib.hid hxlen
          clear hxlen d1
          go_wp2_with (first
            | (at_builtin
               refine wpList_appV pkg_slice _ rfl (.tmp 35) (.tmp 40) rfl w.heap.size u3 xs rfl XA.out.row (wr.heap.size + 1) (some ⟨wr.heap.size, 0, none⟩) 1 1 _ rfl NA.out rfl (by have := HXL.out; omega) (by simp) BA.out.size ?_
               intro v7 w7 o7 g7 t7
               have X7 : Hid (OwnX w7 w.heap.size v7 (xs ++ [⟨p.path, some ⟨g6, 0, none⟩, m, c6⟩]) (ps.take i ++ [p])) := XA.out.snoc g7 o7 (HR.out.but (bs := []) (But.of_below ((Below.refl _ _).alloc (Nat.le_refl _) _)) (by simp) (by simp)) HNE.out
               have B7 : Hid (Below w.heap.size w w7) := BA.out.grown g7 BA.out.size (ownV_ge XA.out.row)
               have G7 : Hid (∃ g, v7.ownBlock = some g) := blk_or t7 HG.out
               clear o7 g7 t7)
            | fail)
          go_roundg (n - i)
          case measure => have := HI.out; omega
          case rel => exact ⟨i + 1, _, by go_num, by show _ ∧ _; have := HI.out; omega, by rw [take_at HP.out]; exact X7.out, G7.out, B7.out⟩
    · have hltz : ¬ (i : Int) < (n : Int) := by omega
      have hfull : ps.take i = ps := List.take_of_length_le (by have := hl.out; omega)
      rw [hfull] at HX
      obtain ⟨g, c, hv, _, _⟩ := own_form HX.out.row HG.out
      subst hv
      have hxlen : xs.length = n := by rw [HX.out.zip.len]; exact hl.out
      rw [hxlen] at HX ⊢
      go_wp2_with fail
      go_ret
      exact ⟨g, c, xs, rfl, HX.out, BW.out⟩
end Go.Proofs.YtnpmkapapacffaaDoor
