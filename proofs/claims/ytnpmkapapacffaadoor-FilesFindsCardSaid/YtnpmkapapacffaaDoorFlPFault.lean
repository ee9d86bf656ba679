/-
  files.packageFault.
-/
import Derived.Test.YtnpmkapapacffaaDoorFlFault
namespace Go.Proofs.YtnpmkapapacffaaDoor
open Go.Shelf Go.RowKit Go.Lib Go.Sort Go.Maps Fm

set_option maxHeartbeats 2000000 in
theorem packageFault_err (s : ByteArray) (A : Option Addr) (n c b : Nat) (L : List ByteArray) (k : Nat) (hs : s.size ≤ 1000) (w : World) (hn : NamesAt w b L) (hk : Hid (meetK (pathOk s.data.toList) L s = k)) (h0 : 0 < k) :
    Calls Tryd.prog 32 #[.agg #[.string s, .slice A n c], .map (some b)] w fun e w' => e = .returned (errno k) ∧ But w w' [b] := by
  have HM := Lib.hid (meetP_err s b L k hs (w.alloc (.cells #[.string s, .slice A n c] 48)) (hn.below ((Below.refl _ _).alloc (Nat.le_refl _) _)) hk h0)
  clear hn
  unfold errno at *
  go_enter Tryd.func32, Tryd.ntmps32
  go_wp2_with fail
  refine HM.out.mono ?_
  rintro e w1 ⟨rfl, hw1⟩
  have H1 := Lib.hid hw1
  clear hw1
  go_wp2_with fail
  go_ret
  exact ⟨rfl, ((But.refl w _).alloc _).trans H1.out⟩
set_option maxHeartbeats 8000000 in
set_option maxRecDepth 100000 in
theorem packageFault_ok {base : Nat} (s : ByteArray) (A : Option Addr) (n c b : Nat) (fs : List Fl) (L : List ByteArray) (hs : s.size ≤ 1000) (w : World) (hF : FlsAt w base A fs) (hfl : Hid (fs.length = n)) (hn6 : n ≤ 6) (hsm : Hid (∀ f ∈ fs, f.text.length ≤ 300 ∧ f.name.size ≤ 1000)) (hg : ErrType w) (hgb : 0 < base) (hbb : base ≤ b) (hn : NamesAt w b L) (hl : L.length ≤ 1000) (hk : Hid (meetK (pathOk s.data.toList) L s = 0)) :
    Calls Tryd.prog 32 #[.agg #[.string s, .slice A n c], .map (some b)] w fun e w' => e = .returned (flErr (flFault [] fs)) ∧ NamesAt w' b (L ++ [s]) ∧ But w w' [b] := by
  have hmm := @run_makeMap Tryd.prog
  have hb := hn.lt
  have HM := Lib.hid (meetP_ok s b L hs (w.alloc (.cells #[.string s, .slice A n c] 48)) (hn.below ((Below.refl _ _).alloc (Nat.le_refl _) _)) hl hk)
  have HF := Lib.hid hF
  have HG := Lib.hid hg
  clear hn hF hg
  go_enter Tryd.func32, Tryd.ntmps32
  go_wp2_with fail
  refine HM.out.mono ?_
  rintro e w1 ⟨rfl, hn1, hw1⟩
  have K1 : Hid (But w w1 [b]) := ((But.refl w _).alloc _).trans hw1
  have N1 := Lib.hid hn1
  have c1 : w1.cell? ⟨w.heap.size, 1, none⟩ = some (.slice A n c) := (hw1.cell (p := ⟨w.heap.size, 1, none⟩) (by simp) (by simp; omega)).trans (by simp)
  have hs1 := K1.out.size
  have hs2 : w.heap.size < w1.heap.size := Nat.lt_of_lt_of_le (by simp) hw1.size
  clear hw1 hn1
  obtain ⟨m, hm⟩ : ∃ m, w1.heap.size = m := ⟨_, rfl⟩
  have NM : Hid (NamesAt (w1.alloc (.map #[] 0)) m []) := by
    show NamesAt _ _ _
    rw [← hm]
    exact World.ownsMap_made _ _ _ _
  have BM : Hid (Below m w1 (w1.alloc (.map #[] 0))) := by show Below _ _ _; rw [← hm]; exact (Below.refl _ _).alloc (Nat.le_refl _) _
  have HM1 := Lib.hid hm
  have d1 : (w1.alloc (.map #[] 0)).cell? ⟨w.heap.size, 1, none⟩ = some (.slice A n c) := (BM.out.cell (p := ⟨w.heap.size, 1, none⟩) (by show w.heap.size < m; omega)).trans c1
  have HBW : Hid (Below base w w1) := K1.out.to_below (by omega) (by intro q hq; rw [List.mem_singleton.1 hq]; exact hbb)
  have HFI : Hid (flFault [] fs = flFault (fs.take 0) (fs.drop 0)) := by show _ = _; simp
  have hbm : base ≤ m := by omega
  go_wp2_with fail
  clear hmm c1 hm
  go_loopg [21] (n + 1) (fun h s21 wr => ∃ i : Nat, s21 = .int .i64 i ∧ Hid (i ≤ n ∧ i + h = n + 1) ∧ Hid (NamesAt wr m ((fs.take i).map Fl.name)) ∧ Hid (flFault [] fs = flFault (fs.take i) (fs.drop i)) ∧ Hid (Below m w1 wr))
  case atStart => exact ⟨0, rfl, by show _ ∧ _; omega, NM.out, HFI.out, BM.out⟩
  case round =>
    clear NM BM HFI d1
    obtain ⟨i, rfl, HI, HN, HX, BW⟩ := hrel
    generalize wr = wq at *
    by_cases hlt : i < n
    · have hltz : (i : Int) < (n : Int) := by omega
      obtain ⟨f, hf⟩ : ∃ f, fs[i]? = some f := ⟨_, List.getElem?_eq_getElem (by have := hfl.out; omega)⟩
      have HB2 : Hid (Below base w wq) := HBW.out.trans (BW.out.mono hbm)
      obtain ⟨x, y, G, l, z, rfl, hxb, c0, c1, hlt9, _, _, _⟩ := (HF.out.below HB2.out (Nat.le_refl _)).at hf
      have hsf := hsm.out f (List.mem_of_getElem? hf)
      have hl3 : l ≤ 300 := by omega
      have HST := Lib.hid (flFault_step hf hsf.1)
      have HNS : Hid (f.name.size ≤ 1000) := hsf.2
      have HF0 := Lib.hid hf
      have HLL : Hid (((fs.take i).map Fl.name).length ≤ 1000) := by show _ ≤ _; rw [List.length_map, List.length_take]; omega
      have hmq : m < wq.heap.size := HN.out.lt
      have HNE : Hid (wq.heap.size ∉ [m]) := by show _ ∉ _; simp; omega
      have HMS : Hid (m ≤ wq.heap.size + 1) := by show _ ≤ _; omega
      have HN1 : Hid (NamesAt ((wq.alloc (.cells #[.string f.name, .slice G l z] 39)).drew) m ((fs.take i).map Fl.name)) := HN.out.below ((Below.refl _ _).alloc (Nat.le_refl _) _).drew
      have BQ : Hid (Below m wq ((wq.alloc (.cells #[.string f.name, .slice G l z] 39)).drew)) := ((Below.refl _ _).alloc (by omega) _).drew
      have HE1 : Hid (ErrType ((wq.alloc (.cells #[.string f.name, .slice G l z] 39)).drew)) := HG.out.below (HB2.out.trans (BQ.out.mono hbm)) hgb
      have HGM : Hid (0 < m) := by show _ < _; omega
      clear hsf hlt9 hf
      obtain ⟨k, hk2⟩ : ∃ k, meetK (nameOk true f.name.data.toList) ((fs.take i).map Fl.name) f.name = k := ⟨_, rfl⟩
      have HK2 := Lib.hid hk2
      rw [hk2] at HST
      clear hk2
      by_cases hk0 : k = 0
      · subst hk0
        have HFF := Lib.hid (fileFault_ok f.name G l z m ((fs.take i).map Fl.name) HNS.out hl3 _ HN1.out HLL.out HK2)
        have HX2 : Hid (flFault [] fs = flFault (fs.take (i + 1)) (fs.drop (i + 1))) := by
          have := HST.out
          rw [if_pos rfl] at this
          exact HX.out.trans this
        clear HST HX
        go_wp2_with fail
        go_region_held (fun W => W.cell? ⟨wq.heap.size, 0, none⟩ = some (.string f.name) ∧ W.cell? ⟨wq.heap.size, 1, none⟩ = some (.slice G l z)) (first | exact ⟨(H6.out.cell (p := ⟨wq.heap.size, 0, none⟩) (Nat.lt_of_lt_of_le (by simp) K5.out.size)).trans C5.out.1, (H6.out.cell (p := ⟨wq.heap.size, 1, none⟩) (Nat.lt_of_lt_of_le (by simp) K5.out.size)).trans C5.out.2⟩ | exact C5.out | go_keep)
          (first | (go_at_call 52; refine HFF.out.mono ?_; rintro e w5 ⟨rfl, hn5, hk5⟩; have N5 := Lib.hid hn5; have K5 := Lib.hid hk5; have C5 : Hid (w5.cell? ⟨wq.heap.size, 0, none⟩ = some (.string f.name) ∧ w5.cell? ⟨wq.heap.size, 1, none⟩ = some (.slice G l z)) := ⟨(K5.out.cell (p := ⟨wq.heap.size, 0, none⟩) (by simp) HNE.out).trans (by simp), (K5.out.cell (p := ⟨wq.heap.size, 1, none⟩) (by simp) HNE.out).trans (by simp)⟩; clear hn5 hk5) | (go_at_call 31; refine (about_nil _ _).mono ?_; rintro e w6 ⟨rfl, hw6⟩; have H6 := Lib.hid hw6; clear hw6))
        go_wp2_with fail
        go_roundg (n - i)
        case measure => have := HI.out; omega
        case rel =>
          refine ⟨i + 1, by go_num, by show _ ∧ _; have := HI.out; omega, ?_, HX2.out, ?_⟩
          · rw [take_at HF0.out, List.map_append, List.map_singleton]
            exact N5.out.below H6.out
          · exact (BW.out.trans (BQ.out.trans (K5.out.to_below (by simp; exact HMS.out) (by simp)))).trans (H6.out.mono (Nat.le_trans (by simp; exact HMS.out) K5.out.size))
      · have HFF := Lib.hid (fileFault_err f.name G l z m ((fs.take i).map Fl.name) k HNS.out _ HN1.out HK2 (by omega))
        have HX2 : Hid (flErr (flFault [] fs) = .iface 64 (.agg #[.string f.name, .iface 57 (.int .i64 (k : Int))])) := by
          have := HST.out
          rw [if_neg hk0] at this
          show flErr _ = _
          rw [HX.out, this]
          rfl
        clear HST HX
        go_wp2_with fail
        go_region_held (fun W => W.cell? ⟨wq.heap.size, 0, none⟩ = some (.string f.name) ∧ W.cell? ⟨wq.heap.size, 1, none⟩ = some (.slice G l z)) (first | exact ⟨(H6.out.cell (p := ⟨wq.heap.size, 0, none⟩) (Nat.lt_of_lt_of_le (by simp) K5.out.size)).trans C5.out.1, (H6.out.cell (p := ⟨wq.heap.size, 1, none⟩) (Nat.lt_of_lt_of_le (by simp) K5.out.size)).trans C5.out.2⟩ | exact C5.out | go_keep)
          (first | (go_at_call 52; refine HFF.out.mono ?_; unfold errno; rintro e w5 ⟨rfl, hk5⟩; have K5 := Lib.hid hk5; have C5 : Hid (w5.cell? ⟨wq.heap.size, 0, none⟩ = some (.string f.name) ∧ w5.cell? ⟨wq.heap.size, 1, none⟩ = some (.slice G l z)) := ⟨(K5.out.cell (p := ⟨wq.heap.size, 0, none⟩) (by simp) HNE.out).trans (by simp), (K5.out.cell (p := ⟨wq.heap.size, 1, none⟩) (by simp) HNE.out).trans (by simp)⟩; have E5 : Hid (ErrType w5) := HE1.out.below (K5.out.to_below (B := m) (by simp; exact HMS.out) (by simp)) HGM.out; clear hk5) | (go_at_call 31; refine (about_errno _ _ _ E5.out).mono ?_; unfold lackOf errno; rintro e w6 ⟨rfl, hw6⟩; have H6 := Lib.hid hw6; clear hw6))
        go_wp2_with fail
        go_ret
        have B6 : Below m w1 w6 := (BW.out.trans (BQ.out.trans (K5.out.to_below (by simp; exact HMS.out) (by simp)))).trans (H6.out.mono (Nat.le_trans (by simp; exact HMS.out) K5.out.size))
        rw [← HM1.out] at B6
        exact ⟨by rw [HX2.out]; rfl, N1.out.below B6, K1.out.trans (But.of_below B6)⟩
    · have hltz : ¬ (i : Int) < (n : Int) := by omega
      have HX2 : Hid (flErr (flFault [] fs) = .nilIface) := by
        show flErr _ = _
        rw [HX.out, List.drop_of_length_le (by have := hfl.out; omega)]
        rfl
      go_wp2_with fail
      go_ret
      have B6 := BW.out
      rw [← HM1.out] at B6
      exact ⟨by rw [HX2.out]; rfl, N1.out.below B6, K1.out.trans (But.of_below B6)⟩
end Go.Proofs.YtnpmkapapacffaaDoor
