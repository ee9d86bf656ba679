/-
  files.tooMany and files.Check, of packages as the laws' own looks go.
-/
import Derived.Test.YtnpmkapapacffaaDoorFlPFault
namespace Go.Proofs.YtnpmkapapacffaaDoor
open Go.Shelf Go.RowKit Go.Lib Go.Sort Go.Maps Fm

set_option maxHeartbeats 1000000 in
theorem many1_run (s : ByteArray) (A : Option Addr) (n c : Nat) (hn : n ≤ 6) (w : World) : Calls Tryd.prog 50 #[.agg #[.string s, .slice A n c]] w fun e w' => e = .returned (.bool false) ∧ Below w.heap.size w w' := by
  have h : ¬ (4096 : Int) < (n : Int) := by omega
  go_enter Tryd.func50, Tryd.ntmps50
  go_wp2
  go_ret
  exact ⟨ret_bool (by simp), (Below.refl _ _).alloc (Nat.le_refl _) _⟩
set_option maxHeartbeats 4000000 in
theorem indexFunc_run (A : Option Addr) (n cap : Nat) (ps : List Pk) (w : World) (hb : PksAt w w.heap.size A ps) (hl : Hid (ps.length = n)) (hs : Hid (Small ps)) :
    Calls Tryd.prog 70 #[.slice A n cap, .func (.func 50) #[] #[]] w fun e w' => e = .returned (.int .i64 (-1)) ∧ Below w.heap.size w w' := by
  have HB := Lib.hid hb
  have hn8 : n ≤ 8 := by have := hs.out.1; have := hl.out; omega
  clear hb
  go_enter Tryd.func70, Tryd.ntmps70
  go_wp2_with fail
  go_loopg [8] (n + 1) (fun h s8 wr => ∃ i : Nat, s8 = .int .i64 i ∧ Hid (i ≤ n ∧ i + h = n + 1) ∧ Hid (Below w.heap.size w wr))
  case atStart => exact ⟨0, rfl, by show _ ∧ _; omega, Below.refl _ _⟩
  case round =>
    obtain ⟨i, rfl, HI, BW⟩ := hrel
    by_cases hlt : i < n
    · have hltz : (i : Int) < (n : Int) := by omega
      obtain ⟨p, hp⟩ : ∃ p, ps[i]? = some p := ⟨_, List.getElem?_eq_getElem (by have := hl.out; omega)⟩
      obtain ⟨b, o, F, m, c, rfl, _, c0, c1, hm, _, _, _⟩ := (HB.out.below BW.out (Nat.le_refl _)).at hp
      have hm6 : m ≤ 6 := by rw [hm]; exact (hs.out.2 p (List.mem_of_getElem? hp)).1
      clear hp hm
      have HC := Lib.hid (many1_run p.path F m c hm6 wr)
      go_wp2_with fail
      refine HC.out.mono ?_
      rintro e w1 ⟨rfl, hw1⟩
      have B1 : Hid (Below w.heap.size w w1) := BW.out.trans (hw1.mono BW.out.size)
      clear hw1
      go_wp2_with fail
      go_roundg (n - i)
      case measure => have := HI.out; omega
      case rel => exact ⟨i + 1, by go_num, by show _ ∧ _; have := HI.out; omega, B1.out⟩
    · have hltz : ¬ (i : Int) < (n : Int) := by omega
      go_wp2_with fail
      go_ret
      exact ⟨rfl, BW.out⟩
set_option maxHeartbeats 1000000 in
theorem tooMany_run (A : Option Addr) (n cap : Nat) (ps : List Pk) (w : World) (hb : PksAt w w.heap.size A ps) (hl : Hid (ps.length = n)) (hs : Hid (Small ps)) :
    Calls Tryd.prog 30 #[.slice A n cap] w fun e w' => e = .returned (.bool false) ∧ Below w.heap.size w w' := by
  have HC := Lib.hid (indexFunc_run A n cap ps w hb hl hs)
  have h : ¬ (4096 : Int) < (n : Int) := by have := hs.out.1; have := hl.out; omega
  have HD : Hid (Calls Tryd.prog 49 #[.slice A n cap, .func (.func 50) #[] #[]] w fun e w' => e = .returned (.bool false) ∧ Below w.heap.size w w') := by
    show Calls _ _ _ _ _
    clear h hb
    go_enter Tryd.func49, Tryd.ntmps49
    go_wp2_with fail
    refine HC.out.mono ?_
    rintro e w1 ⟨rfl, hw1⟩
    go_wp2_with fail
    go_ret
    exact ⟨rfl, hw1⟩
  clear HC hb
  go_enter Tryd.func30, Tryd.ntmps30
  go_wp2_with fail
  refine HD.out.mono ?_
  rintro e w1 ⟨rfl, hw1⟩
  go_wp2_with fail
  go_ret
  exact ⟨rfl, hw1⟩
set_option maxHeartbeats 8000000 in
set_option maxRecDepth 100000 in
theorem Check_run (A : Option Addr) (n cap : Nat) (ps : List Pk) (w : World) (hb : PksAt w w.heap.size A ps) (hl : Hid (ps.length = n)) (hs : Hid (Small ps)) (hsh : Hid (Short ps)) (hg : ErrType w) :
    Calls Tryd.prog 13 #[.slice A n cap] w fun e w' => e = .returned (flErr (pkFault [] ps)) ∧ Below w.heap.size w w' := by
  have hmm := @run_makeMap Tryd.prog
  have HC := Lib.hid (tooMany_run A n cap ps w hb hl hs)
  have HB := Lib.hid hb
  have HG := Lib.hid hg
  have hgl := hg.lt
  have hn8 : n ≤ 8 := by have := hs.out.1; have := hl.out; omega
  clear hb hg
  go_enter Tryd.func13, Tryd.ntmps13
  go_wp2_with fail
  refine HC.out.mono ?_
  rintro e w1 ⟨rfl, hw1⟩
  have B1 := Lib.hid hw1
  have hs1 := hw1.size
  clear hw1
  obtain ⟨m, hm⟩ : ∃ m, w1.heap.size = m := ⟨_, rfl⟩
  have NM : Hid (NamesAt (w1.alloc (.map #[] 0)) m []) := by
    show NamesAt _ _ _
    rw [← hm]
    exact World.ownsMap_made _ _ _ _
  have BM : Hid (Below w.heap.size w (w1.alloc (.map #[] 0))) := B1.out.alloc hs1 _
  have HFI : Hid (pkFault [] ps = pkFault (ps.take 0) (ps.drop 0)) := by show _ = _; simp
  have hbm : w.heap.size ≤ m := by omega
  go_wp2_with fail
  clear hmm hm
  go_loopg [13] (n + 1) (fun h s13 wr => ∃ i : Nat, s13 = .int .i64 i ∧ Hid (i ≤ n ∧ i + h = n + 1) ∧ Hid (NamesAt wr m ((ps.take i).map Pk.path)) ∧ Hid (pkFault [] ps = pkFault (ps.take i) (ps.drop i)) ∧ Hid (Below w.heap.size w wr))
  case atStart => exact ⟨0, rfl, by show _ ∧ _; omega, NM.out, HFI.out, BM.out⟩
  case round =>
    clear NM BM HFI
    obtain ⟨i, rfl, HI, HN, HX, BW⟩ := hrel
    generalize wr = wq at *
    by_cases hlt : i < n
    · have hltz : (i : Int) < (n : Int) := by omega
      obtain ⟨p, hp⟩ : ∃ p, ps[i]? = some p := ⟨_, List.getElem?_eq_getElem (by have := hl.out; omega)⟩
      obtain ⟨x, y, G, l, z, rfl, hxb, c0, c1, hlm, _, _, hF⟩ := (HB.out.below BW.out (Nat.le_refl _)).at hp
      have hsp := hs.out.2 p (List.mem_of_getElem? hp)
      have hss := hsh.out p (List.mem_of_getElem? hp)
      have hl6 : l ≤ 6 := by omega
      have HST := Lib.hid (pkFault_step hp)
      have HP0 := Lib.hid hp
      have HLM : Hid (p.files.length = l) := hlm.symm
      have HSF : Hid (∀ f ∈ p.files, f.text.length ≤ 300 ∧ f.name.size ≤ 1000) := fun f hf => ⟨hsp.2 f hf, hss.2 f hf⟩
      have HPS : Hid (p.path.size ≤ 1000) := hss.1
      have HLL : Hid (((ps.take i).map Pk.path).length ≤ 1000) := by show _ ≤ _; rw [List.length_map, List.length_take]; omega
      have hmq : m < wq.heap.size := HN.out.lt
      have HNE : Hid (wq.heap.size ∉ [m]) := by show _ ∉ _; simp; omega
      have HMS : Hid (m ≤ wq.heap.size + 1) := by show _ ≤ _; omega
      have HN1 : Hid (NamesAt ((wq.alloc (.cells #[.string p.path, .slice G l z] 48)).drew) m ((ps.take i).map Pk.path)) := HN.out.below ((Below.refl _ _).alloc (Nat.le_refl _) _).drew
      have BQ : Hid (Below m wq ((wq.alloc (.cells #[.string p.path, .slice G l z] 48)).drew)) := ((Below.refl _ _).alloc (by omega) _).drew
      have HE1 : Hid (ErrType ((wq.alloc (.cells #[.string p.path, .slice G l z] 48)).drew)) := HG.out.below (BW.out.trans (BQ.out.mono hbm)) hgl
      have HGM : Hid (0 < m) := by show _ < _; omega
      have HF1 : Hid (FlsAt ((wq.alloc (.cells #[.string p.path, .slice G l z] 48)).drew) w.heap.size G p.files) := hF.below (BQ.out.mono hbm) (Nat.le_refl _)
      clear hsp hss hlm hp hF
      obtain ⟨k, hk2⟩ : ∃ k, meetK (pathOk p.path.data.toList) ((ps.take i).map Pk.path) p.path = k := ⟨_, rfl⟩
      have HK2 := Lib.hid hk2
      rw [hk2] at HST
      clear hk2
      by_cases hk0 : k = 0
      · subst hk0
        have HFF := Lib.hid (packageFault_ok p.path G l z m p.files ((ps.take i).map Pk.path) HPS.out _ HF1.out HLM hl6 HSF HE1.out hgl hbm HN1.out HLL.out HK2)
        obtain ⟨r, hr⟩ : ∃ r, flFault [] p.files = r := ⟨_, rfl⟩
        have HR := Lib.hid hr
        rw [hr] at HST
        clear hr
        cases r with
        | none =>
          have HFR : Hid (flErr (flFault [] p.files) = .nilIface) := by show flErr _ = _; rw [HR.out]; rfl
          have HX2 : Hid (pkFault [] ps = pkFault (ps.take (i + 1)) (ps.drop (i + 1))) := by
            have := HST.out
            rw [if_pos rfl] at this
            exact HX.out.trans this
          clear HST HX HR
          go_wp2_with fail
          go_region_held (fun W => W.cell? ⟨wq.heap.size, 0, none⟩ = some (.string p.path) ∧ W.cell? ⟨wq.heap.size, 1, none⟩ = some (.slice G l z)) (first | exact ⟨(H6.out.cell (p := ⟨wq.heap.size, 0, none⟩) (Nat.lt_of_lt_of_le (by simp) K5.out.size)).trans C5.out.1, (H6.out.cell (p := ⟨wq.heap.size, 1, none⟩) (Nat.lt_of_lt_of_le (by simp) K5.out.size)).trans C5.out.2⟩ | exact C5.out | go_keep)
            (first | (go_at_call 32; refine HFF.out.mono ?_; rw [HFR.out]; rintro e w5 ⟨rfl, hn5, hk5⟩; have N5 := Lib.hid hn5; have K5 := Lib.hid hk5; have C5 : Hid (w5.cell? ⟨wq.heap.size, 0, none⟩ = some (.string p.path) ∧ w5.cell? ⟨wq.heap.size, 1, none⟩ = some (.slice G l z)) := ⟨(K5.out.cell (p := ⟨wq.heap.size, 0, none⟩) (by simp) HNE.out).trans (by simp), (K5.out.cell (p := ⟨wq.heap.size, 1, none⟩) (by simp) HNE.out).trans (by simp)⟩; have E5 : Hid (ErrType w5) := HE1.out.below (K5.out.to_below (B := m) (by simp; exact HMS.out) (by simp)) HGM.out; clear hn5 hk5) | (go_at_call 31; refine (about_nil _ _).mono ?_; rintro e w6 ⟨rfl, hw6⟩; have H6 := Lib.hid hw6; clear hw6))
          go_wp2_with fail
          go_roundg (n - i)
          case measure => have := HI.out; omega
          case rel =>
            refine ⟨i + 1, by go_num, by show _ ∧ _; have := HI.out; omega, ?_, HX2.out, ?_⟩
            · rw [take_at HP0.out, List.map_append, List.map_singleton]
              exact N5.out.below H6.out
            · exact BW.out.trans (((BQ.out.trans (K5.out.to_below (by simp; exact HMS.out) (by simp))).trans (H6.out.mono (Nat.le_trans (by simp; exact HMS.out) K5.out.size))).mono hbm)
        | some r2 =>
          obtain ⟨k2, t⟩ := r2
          have HFR : Hid (flErr (flFault [] p.files) = .iface 64 (.agg #[.string t, .iface 57 (.int .i64 (k2 : Int))])) := by show flErr _ = _; rw [HR.out]; rfl
          have HX2 : Hid (flErr (pkFault [] ps) = .iface 64 (.agg #[.string t, .iface 57 (.int .i64 (k2 : Int))])) := by
            have := HST.out
            rw [if_pos rfl] at this
            show flErr _ = _
            rw [HX.out, this]
            rfl
          clear HST HX HR
          go_wp2_with fail
          go_region_held (fun W => W.cell? ⟨wq.heap.size, 0, none⟩ = some (.string p.path) ∧ W.cell? ⟨wq.heap.size, 1, none⟩ = some (.slice G l z)) (first | exact ⟨(H6.out.cell (p := ⟨wq.heap.size, 0, none⟩) (Nat.lt_of_lt_of_le (by simp) K5.out.size)).trans C5.out.1, (H6.out.cell (p := ⟨wq.heap.size, 1, none⟩) (Nat.lt_of_lt_of_le (by simp) K5.out.size)).trans C5.out.2⟩ | exact C5.out | go_keep)
            (first | (go_at_call 32; refine HFF.out.mono ?_; rw [HFR.out]; rintro e w5 ⟨rfl, hn5, hk5⟩; have K5 := Lib.hid hk5; have C5 : Hid (w5.cell? ⟨wq.heap.size, 0, none⟩ = some (.string p.path) ∧ w5.cell? ⟨wq.heap.size, 1, none⟩ = some (.slice G l z)) := ⟨(K5.out.cell (p := ⟨wq.heap.size, 0, none⟩) (by simp) HNE.out).trans (by simp), (K5.out.cell (p := ⟨wq.heap.size, 1, none⟩) (by simp) HNE.out).trans (by simp)⟩; have E5 : Hid (ErrType w5) := HE1.out.below (K5.out.to_below (B := m) (by simp; exact HMS.out) (by simp)) HGM.out; clear hn5 hk5) | (go_at_call 31; refine (about_lack _ t k2 _ E5.out).mono ?_; unfold lackOf errno; rintro e w6 ⟨rfl, hw6⟩; have H6 := Lib.hid hw6; clear hw6))
          go_wp2_with fail
          go_ret
          exact ⟨by rw [HX2.out]; rfl, BW.out.trans (((BQ.out.trans (K5.out.to_below (by simp; exact HMS.out) (by simp))).trans (H6.out.mono (Nat.le_trans (by simp; exact HMS.out) K5.out.size))).mono hbm)⟩
      · have HFF := Lib.hid (packageFault_err p.path G l z m ((ps.take i).map Pk.path) k HPS.out _ HN1.out HK2 (by omega))
        have HX2 : Hid (flErr (pkFault [] ps) = .iface 64 (.agg #[.string p.path, .iface 57 (.int .i64 (k : Int))])) := by
          have := HST.out
          rw [if_neg hk0] at this
          show flErr _ = _
          rw [HX.out, this]
          rfl
        clear HST HX
        go_wp2_with fail
        go_region_held (fun W => W.cell? ⟨wq.heap.size, 0, none⟩ = some (.string p.path) ∧ W.cell? ⟨wq.heap.size, 1, none⟩ = some (.slice G l z)) (first | exact ⟨(H6.out.cell (p := ⟨wq.heap.size, 0, none⟩) (Nat.lt_of_lt_of_le (by simp) K5.out.size)).trans C5.out.1, (H6.out.cell (p := ⟨wq.heap.size, 1, none⟩) (Nat.lt_of_lt_of_le (by simp) K5.out.size)).trans C5.out.2⟩ | exact C5.out | go_keep)
          (first | (go_at_call 32; refine HFF.out.mono ?_; unfold errno; rintro e w5 ⟨rfl, hk5⟩; have K5 := Lib.hid hk5; have C5 : Hid (w5.cell? ⟨wq.heap.size, 0, none⟩ = some (.string p.path) ∧ w5.cell? ⟨wq.heap.size, 1, none⟩ = some (.slice G l z)) := ⟨(K5.out.cell (p := ⟨wq.heap.size, 0, none⟩) (by simp) HNE.out).trans (by simp), (K5.out.cell (p := ⟨wq.heap.size, 1, none⟩) (by simp) HNE.out).trans (by simp)⟩; have E5 : Hid (ErrType w5) := HE1.out.below (K5.out.to_below (B := m) (by simp; exact HMS.out) (by simp)) HGM.out; clear hk5) | (go_at_call 31; refine (about_errno _ _ _ E5.out).mono ?_; unfold lackOf errno; rintro e w6 ⟨rfl, hw6⟩; have H6 := Lib.hid hw6; clear hw6))
        go_wp2_with fail
        go_ret
        exact ⟨by rw [HX2.out]; rfl, BW.out.trans (((BQ.out.trans (K5.out.to_below (by simp; exact HMS.out) (by simp))).trans (H6.out.mono (Nat.le_trans (by simp; exact HMS.out) K5.out.size))).mono hbm)⟩
    · have hltz : ¬ (i : Int) < (n : Int) := by omega
      have HX2 : Hid (flErr (pkFault [] ps) = .nilIface) := by
        show flErr _ = _
        rw [HX.out, List.drop_of_length_le (by have := hl.out; omega)]
        rfl
      go_wp2_with fail
      go_ret
      exact ⟨by rw [HX2.out]; rfl, BW.out⟩
end Go.Proofs.YtnpmkapapacffaaDoor
