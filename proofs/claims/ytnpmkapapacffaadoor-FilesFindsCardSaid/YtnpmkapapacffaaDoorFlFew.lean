/-
  The contract of the laws' Few: at most eight packages of six files, paths, names and texts cut.
-/
import Derived.Test.YtnpmkapapacffaaDoorFlOwn
namespace Go.Proofs.YtnpmkapapacffaaDoor
open Go.Shelf Go.RowKit Go.Lib Go.Sort Fm

/-- To be read alone: a row of packages of the call's own, texts where they were before the call. -/
def IsPkN (w : World) (base : Nat) (x : Re) (p : Pk) : Prop := x.s = p.path ∧ x.n = p.files.length ∧ ∃ ys, OwnV reCells 2 39 w base (.slice x.A x.n x.c) ys ∧ ys.length = x.n ∧ Zip (IsFl w base) ys p.files
structure FewX (w : World) (base : Nat) (v : Value) (xs : List Re) (ps : List Pk) : Prop where
  row : OwnV reCells 2 48 w base v xs
  zip : Zip (IsPkN w base) xs ps
theorem IsPkN.but {w w' : World} {base : Nat} {x : Re} {p : Pk} {bs : List Nat} (h : IsPkN w base x p) (k : But w w' bs) (hB : base ≤ w.heap.size) (hb : ∀ b ∈ bs, base ≤ b) (hn : ∀ a, x.A = some a → a.block ∉ bs) : IsPkN w' base x p := by
  obtain ⟨h1, h2, ys, h3, h4, h5⟩ := h
  exact ⟨h1, h2, ys, ownsRow_but h3 k (fun g hg => by
    cases hA : x.A with
    | none => rw [hA] at hg; cases hg
    | some a => rw [hA] at hg; cases hg; exact hn a hA), h4, h5.mono fun _ _ h => h.below (k.to_below hB hb) (Nat.le_refl _)⟩
theorem IsPkN.read {w : World} {base : Nat} {x : Re} {p : Pk} (h : IsPkN w base x p) (hB : base ≤ w.heap.size) : IsPk w w.heap.size x p := by
  obtain ⟨h1, h2, ys, h3, h4, h5⟩ := h
  obtain ⟨A, cap, hv, k1, k2, k3⟩ := h3.cells
  injection hv with e1 e2 e3
  subst e1
  exact ⟨h1, h2, by omega, by omega, ys, k3, h5.mono fun _ _ h => h.more hB⟩
theorem FewX.read {w : World} {base : Nat} {v : Value} {xs : List Re} {ps : List Pk} (h : FewX w base v xs ps) (hB : base ≤ w.heap.size) : ∃ A cap, v = .slice A ps.length cap ∧ ps.length ≤ cap ∧ cap ≤ 9223372036854775807 ∧ PksAt w w.heap.size A ps := by
  obtain ⟨A, cap, hv, h1, h2, h3⟩ := h.row.cells
  rw [h.zip.len] at hv h1
  exact ⟨A, cap, hv, h1, h2, xs, h3, h.zip.mono fun _ _ h => h.read hB⟩
theorem FewX.below {w w' : World} {base : Nat} {v : Value} {xs : List Re} {ps : List Pk} (h : FewX w base v xs ps) (hB : base ≤ w.heap.size) (k : Below w.heap.size w w') : FewX w' base v xs ps :=
  ⟨h.row.below k, h.zip.mono fun _ _ h => h.but (bs := []) (But.of_below k) hB (by simp) (by simp)⟩
theorem IsPkN.far {w : World} {base : Nat} {v : Value} {xs : List Re} {y : Re} {q : Pk} (hr : OwnV reCells 2 48 w base v xs) (hy : IsPkN w base y q) : ∀ a, y.A = some a → a.block ∉ v.ownBlock.toList := by
  intro a hya hm
  obtain ⟨_, _, ys, k1, _⟩ := hy
  rcases k1.2 with ⟨hv, _⟩ | ⟨g, cap, cur, hv, _, hh, _⟩
  · injection hv with e; rw [hya] at e; cases e
  · injection hv with e
    rw [hya] at e
    cases e
    rcases hr.2 with ⟨hv, _⟩ | ⟨g2, cap, cur, hv, _, hh2, _⟩
    · rw [hv] at hm; simp [Value.ownBlock] at hm
    · rw [hv] at hm
      simp [Value.ownBlock] at hm
      subst hm
      rw [hh] at hh2
      cases hh2
theorem FewX.snoc {w w' : World} {base : Nat} {v v' : Value} {xs : List Re} {ps : List Pk} {x : Re} {p : Pk} (h : FewX w base v xs ps) (hB : base ≤ w.heap.size) (hg : w.grownBy w' v.ownBlock) (ho : OwnV reCells 2 48 w' base v' (xs ++ [x])) (hr : IsPkN w base x p) : FewX w' base v' (xs ++ [x]) (ps ++ [p]) := by
  have hb : ∀ b ∈ v.ownBlock.toList, base ≤ b := fun b hb => (ownV_blk (.inr rfl) h.row b hb).1
  exact ⟨ho, (h.zip.mono fun y q hy => hy.but (grown_but hg) hB hb (hy.far h.row)).snoc (hr.but (grown_but hg) hB hb (hr.far h.row))⟩
def cutF (f : Fl) : Fl := ⟨f.name.extract 0 (min f.name.size 70), f.text.take (min f.text.length 300)⟩
def cutP (p : Pk) : Pk := ⟨p.path.extract 0 (min p.path.size 140), (p.files.take 6).map cutF⟩
def fewP (ps : List Pk) : List Pk := (ps.take 8).map cutP
theorem few_small (ps : List Pk) : Small (fewP ps) := by
  refine ⟨by simp [fewP]; omega, fun p hp => ?_⟩
  obtain ⟨q, _, rfl⟩ := List.mem_map.1 hp
  refine ⟨by simp [cutP]; omega, fun f hf => ?_⟩
  obtain ⟨g, _, rfl⟩ := List.mem_map.1 hf
  simp [cutF]
  omega
theorem few_short (ps : List Pk) : ∀ p ∈ fewP ps, p.path.size ≤ 1000 ∧ ∀ f ∈ p.files, f.name.size ≤ 1000 := by
  intro p hp
  obtain ⟨q, _, rfl⟩ := List.mem_map.1 hp
  refine ⟨by simp [cutP]; omega, fun f hf => ?_⟩
  obtain ⟨g, _, rfl⟩ := List.mem_map.1 hf
  simp [cutF]
  omega
theorem ext_all (s : ByteArray) : s.extract 0 s.size = s := by
  apply Fm.bytes_inj
  rw [Lib.extract_data]
  simp
  exact List.take_of_length_le (by simp)
theorem cut_long {s : ByteArray} {k : Nat} (h : k < s.size) : s.extract 0 (min s.size k) = s.extract 0 k := by rw [Nat.min_eq_right (by omega)]
theorem cut_short {s : ByteArray} {k : Nat} (h : ¬ k < s.size) : s.extract 0 (min s.size k) = s := by rw [Nat.min_eq_left (by omega)]; exact ext_all s
/-- What Few hands back. -/
def FewOut (L : List Pk) (w : World) (v : Value) (w' : World) : Prop := ∃ A cap, v = .slice A L.length cap ∧ L.length ≤ cap ∧ cap ≤ 9223372036854775807 ∧ PksAt w' w'.heap.size A L ∧ Below w.heap.size w w'
set_option maxHeartbeats 16000000 in
set_option maxRecDepth 100000 in
theorem Few_run (A : Option Addr) (n cap : Nat) (ps : List Pk) (w : World) (hb : PksAt w w.heap.size A ps) (hl : Hid (ps.length = n)) (hcap : n ≤ 9223372036854775807) :
    Calls Tryd.prog 12 #[.slice A n cap] w fun e w' => ∃ v, e = .returned v ∧ FewOut (fewP ps) w v w' := by
  have HB := Lib.hid hb
  clear hb
  go_enter Tryd.func12, Tryd.ntmps12
  go_wp2_with fail
  go_loopg [3, 4] 9 (fun h s3 s4 wr => ∃ (i : Nat) (xs : List Re), s4 = .int .i64 i ∧ Hid (i ≤ n ∧ i ≤ 8 ∧ i + h = 9) ∧ Hid (FewX wr w.heap.size s3 xs ((ps.take i).map cutP)) ∧ Hid (Below w.heap.size w wr))
  case atStart => exact ⟨0, [], rfl, by show _ ∧ _; omega, ⟨OwnV.nil _ _ _ _ _, Zip.nil⟩, Below.refl _ _⟩
  case round =>
    obtain ⟨i, xs, rfl, HI, HX, BW⟩ := hrel
    have hi8 := HI.out.2.1
    generalize wr = wq at *
    by_cases hlt : i < n
    · have hltz : (i : Int) < (n : Int) := by omega
      by_cases h8 : i < 8
      · have h8z : (i : Int) < 8 := by omega
        have hsz := BW.out.size
        obtain ⟨p, hp⟩ : ∃ p, ps[i]? = some p := ⟨_, List.getElem?_eq_getElem (by have := hl.out; omega)⟩
        obtain ⟨b, o, F, m, c, rfl, hblt, c0, c1, hm, hmc, hcm, hF⟩ := (HB.out.below BW.out (Nat.le_refl _)).at hp
        have HM : Hid (p.files.length = m) := hm.symm
        have HP := Lib.hid hp
        have HF := Lib.hid hF
        have HK : Hid (∀ W, Below w.heap.size wq W → W.cell? ⟨b, o + i * 2, none⟩ = some (.string p.path) ∧ W.cell? ⟨b, o + i * 2 + 1, none⟩ = some (.slice F m c)) := fun W h => ⟨(h.cell (p := ⟨b, o + i * 2, none⟩) hblt).trans c0, (h.cell (p := ⟨b, o + i * 2 + 1, none⟩) hblt).trans c1⟩
        have hxlen : xs.length = i := by have := HX.out.zip.len; rw [this, List.length_map, List.length_take]; have := hl.out; omega
        have HXL := Lib.hid hxlen
        have HB0 : Hid (∀ o, Below w.heap.size wq (wq.alloc o)) := fun o => (Below.refl _ _).alloc hsz o
        clear hp hm hF hxlen c1
        obtain ⟨pt, hpt⟩ : ∃ pt, p.path.extract 0 (min p.path.size 140) = pt := ⟨_, rfl⟩
        have HPT := Lib.hid hpt
        go_wp2_with fail
        have n0 := World.new_ne wq ⟨b, o + i * 2, none⟩ c0
        go_cut [5] (fun s5 wx => s5 = .pointer (some ⟨wq.heap.size, 0, none⟩) ∧ wx = (wq.alloc (.cells #[.string pt, .slice none 0 0] 48)).drew)
        case first =>
          obtain ⟨mp, hmp⟩ : ∃ mp, min p.path.size 140 = mp := ⟨_, rfl⟩
          rw [hmp] at hpt
          have z1 : min (p.path.size : Int) 140 = (mp : Int) := by omega
          have z2 : (mp : Int) ≤ (p.path.size : Int) := by omega
          have z3 : ¬ (mp : Int) < 0 := by omega
          clear hmp HPT
          go_region_held_law (fun W => W.cell? ⟨b, o + i * 2, none⟩ = some (.string p.path)) (first | exact (HK.out _ (((Below.refl _ _).alloc hsz _).drew)).1 | exact (HK.out _ (((Below.refl _ _).alloc hsz _).drew.setCell hsz _)).1 | go_keep) (fail)
          all_goals first | done | (go_meet; exact ⟨rfl, rfl⟩) | (go_wp2_with fail; go_meet; exact ⟨rfl, rfl⟩)
        case rest =>
          obtain ⟨rfl, rfl⟩ := hcut
          obtain ⟨N, hN⟩ : ∃ N, wq.heap.size = N := ⟨_, rfl⟩
          have BB : Hid (Below N wq ((wq.alloc (.cells #[.string pt, .slice none 0 0] 48)).drew)) := by show Below _ _ _; rw [← hN]; exact ((Below.refl _ _).alloc (Nat.le_refl _) _).drew
          have S0 : Hid (((wq.alloc (.cells #[.string pt, .slice none 0 0] 48)).drew).heap.size = N + 1) := by show _ = _; rw [← hN]; simp
          have k0 : Hid (((wq.alloc (.cells #[.string pt, .slice none 0 0] 48)).drew).cell? ⟨N, 0, none⟩ = some (.string pt)) := by show _ = _; rw [← hN]; simp
          have k1 : Hid (((wq.alloc (.cells #[.string pt, .slice none 0 0] 48)).drew).cell? ⟨N, 1, none⟩ = some (.slice none 0 0)) := by show _ = _; rw [← hN]; simp
          have k2 : Hid (((wq.alloc (.cells #[.string pt, .slice none 0 0] 48)).drew).frozen? ⟨N, 1, none⟩ = false) := by show _ = _; rw [← hN]; simp
          have HWN : Hid (w.heap.size ≤ N) := by show _ ≤ _; omega
          have HX2 : Hid (∀ W, Below N wq W → FewX W w.heap.size u3 xs ((ps.take i).map cutP)) := fun W h => HX.out.below hsz (by rw [hN]; exact h)
          clear c0 hpt
          rw [hN]
          clear hN
          generalize (wq.alloc (.cells #[.string pt, .slice none 0 0] 48)).drew = W1 at *
          go_wp2_with fail
          go_loopg [6] 7 (fun h s6 wr => ∃ (k : Nat) (ys : List Re) (v : Value), s6 = .int .i64 k ∧ Hid (k ≤ m ∧ k ≤ 6 ∧ k + h = 7) ∧ Hid (wr.cell? ⟨N, 0, none⟩ = some (.string pt)) ∧ Hid (wr.cell? ⟨N, 1, none⟩ = some v) ∧ Hid (wr.frozen? ⟨N, 1, none⟩ = false) ∧ Hid (OwnV reCells 2 39 wr (N + 1) v ys) ∧ Hid (Zip (IsFl wr w.heap.size) ys ((p.files.take k).map cutF)) ∧ Hid (Below N wq wr))
          case atStart => exact ⟨0, [], _, rfl, by show _ ∧ _; omega, k0.out, k1.out, k2.out, OwnV.nil _ _ _ _ _, Zip.nil, BB.out⟩
          case round =>
            clear BB k0 k1 k2 S0
            obtain ⟨k, ys, v, rfl, HKI, K0, K1, K2, OY, HZY, BN⟩ := hrel
            have hk6 := HKI.out.2.1
            have BWR : Hid (Below w.heap.size wq wr) := BN.out.mono HWN.out
            have d1 := (HK.out _ BWR.out).2
            have d0 := (HK.out _ BWR.out).1
            have HNN : Hid (N < wr.heap.size) := World.block_lt_of_cell? wr _ K1.out
            have HYL : Hid (ys.length ≤ 6) := by show _ ≤ _; rw [HZY.out.len, List.length_map, List.length_take]; omega
            by_cases hkm : k < m
            · have hkz : (k : Int) < (m : Int) := by omega
              by_cases hk5 : k < 6
              · have hk5z : (k : Int) < 6 := by omega
                obtain ⟨f, hf⟩ : ∃ f, p.files[k]? = some f := ⟨_, List.getElem?_eq_getElem (by have := HM.out; omega)⟩
                obtain ⟨x, y, G, l, z, rfl, _, e0, e1, hl3, hlz, hz9, hG⟩ := (HF.out.below BWR.out (Nat.le_refl _)).at hf
                have HF0 := Lib.hid hf
                have HLL : Hid (l = f.text.length) := hl3
                have HZC : Hid (l ≤ z ∧ z ≤ 9223372036854775807) := ⟨hlz, hz9⟩
                have BWF : Hid (Below wr.heap.size wr (wr.alloc (.cells #[.string f.name, .slice G l z] 39))) := (Below.refl _ _).alloc (Nat.le_refl _) _
                have HTX : Hid (Byts (wr.alloc (.cells #[.string f.name, .slice G l z] 39)) w.heap.size G f.text) := hG.below (BWF.out.mono (by have := HNN.out; have := HWN.out; omega)) (Nat.le_refl _)
                have OF : Hid (OwnV reCells 2 39 (wr.alloc (.cells #[.string f.name, .slice G l z] 39)) (N + 1) v ys) := OY.out.below BWF.out
                have HFV : Hid (some wr.heap.size ≠ v.ownBlock) := fun e => by have := (World.ownsRow.lt OY.out wr.heap.size e.symm).2; omega
                have b0 : (wr.alloc (.cells #[.string f.name, .slice G l z] 39)).cell? ⟨wr.heap.size, 0, none⟩ = some (.string f.name) := by simp
                have b1 : (wr.alloc (.cells #[.string f.name, .slice G l z] 39)).cell? ⟨wr.heap.size, 1, none⟩ = some (.slice G l z) := by simp
                have a0 : (wr.alloc (.cells #[.string f.name, .slice G l z] 39)).cell? ⟨N, 0, none⟩ = some (.string pt) := (BWF.out.cell (p := ⟨N, 0, none⟩) HNN.out).trans K0.out
                have a1 : (wr.alloc (.cells #[.string f.name, .slice G l z] 39)).cell? ⟨N, 1, none⟩ = some v := (BWF.out.cell (p := ⟨N, 1, none⟩) HNN.out).trans K1.out
                have a2 : (wr.alloc (.cells #[.string f.name, .slice G l z] 39)).frozen? ⟨N, 1, none⟩ = false := (BWF.out.frozen (p := ⟨N, 1, none⟩) HNN.out).trans K2.out
                have HNR : Hid (N ≤ wr.heap.size) := Nat.le_of_lt HNN.out
                have HNF : Hid (N + 1 ≤ (wr.alloc (.cells #[.string f.name, .slice G l z] 39)).heap.size) := by have := HNN.out; show _ ≤ _; simp; omega
                have HFB : Hid (wr.heap.size < (wr.alloc (.cells #[.string f.name, .slice G l z] 39)).heap.size) := by show _ < _; simp
                have hlz1 : (l : Int) ≤ (z : Int) := by omega
                clear hf hl3 hG
                go_wp2_with fail
                clear d0 d1 e0 e1
                obtain ⟨fb, hfb⟩ : ∃ fb, wr.heap.size = fb := ⟨_, rfl⟩
                have HNB : Hid (N < wr.heap.size) := HNN
                rw [hfb] at b0 b1 HFV HNR HFB BWF HNB ⊢
                clear hfb
                generalize wr.alloc (.cells #[.string f.name, .slice G l z] 39) = wf at *
                have n1 := World.new_ne wf ⟨N, 1, none⟩ a1
                have n2 := World.new_ne wf ⟨fb, 0, none⟩ b0
                obtain ⟨nn, hnn⟩ : ∃ nn, min f.name.size 70 = nn := ⟨_, rfl⟩
                have y1 : min (f.name.size : Int) 70 = (nn : Int) := by omega
                have y2 : (nn : Int) ≤ (f.name.size : Int) := by omega
                obtain ⟨fn, hfn⟩ : ∃ fn, f.name.extract 0 nn = fn := ⟨_, rfl⟩
                obtain ⟨ml, hml⟩ : ∃ ml, min l 300 = ml := ⟨_, rfl⟩
                have y3 : min (l : Int) 300 = (ml : Int) := by omega
                have y4 : (ml : Int) ≤ (z : Int) := by omega
                have HML : Hid (ml ≤ l ∧ ml = min l 300) := by show _ ∧ _; omega
                have HNM : Hid (f.name.extract 0 (min f.name.size 70) = fn) := by show _ = _; rw [hnn, hfn]
                have OA : Hid (OwnV reCells 2 39 ((wf.alloc (.cells #[.string fn, .slice G ml z] 39)).drew) (N + 1) v ys) := OwnV.alloc OF.out _
                have NA : Hid (CellsV reCells ((wf.alloc (.cells #[.string fn, .slice G ml z] 39)).drew) (wf.heap.size + 1) (some ⟨wf.heap.size, 0, none⟩) [⟨fn, G, ml, z⟩]) := one_re wf _ _ _ _ _
                have BA : Hid (Below wf.heap.size wf ((wf.alloc (.cells #[.string fn, .slice G ml z] 39)).drew)) := ((Below.refl _ _).alloc (Nat.le_refl _) _).drew
                have HBA : Hid (N + 1 ≤ ((wf.alloc (.cells #[.string fn, .slice G ml z] 39)).drew).heap.size) := by have := BA.out.size; have := HNF.out; show _ ≤ _; omega
                have HZ2 : Hid (IsFl wf w.heap.size ⟨fn, G, ml, z⟩ (cutF f)) := by
                  refine ⟨HNM.out.symm, ?_, ?_, HZC.out.2, ?_⟩
                  · show ml = (f.text.take (min f.text.length 300)).length
                    have := HLL.out
                    have := HML.out.2
                    rw [List.length_take]; omega
                  · show ml ≤ z
                    have := HZC.out.1
                    have := HML.out.1
                    omega
                  · exact HTX.out.take _
                clear hnn hml
                go_wp2_with fail
                refine wp_region_held_drew (S := fun W => W.cell? ⟨fb, 0, none⟩ = some (.string f.name) ∧ W.cell? ⟨fb, 1, none⟩ = some (.slice G l z)) (by kernel_rfl) ⟨b0, b1⟩ (fun hHeld => ?_)
                refine wpAnyH_take (i := 0) (v := ?_) rfl (by kernel_rfl) (by kernel_rfl) (by kernel_rfl) (fun _ _ _ h => h) (Or.inl ⟨by rfl, ?_⟩) (by assumption) ?_
                rotate_left 1
                · intro w hSw
                  try dsimp only at hSw
                  go_simp
                  all_goals with_reducible rfl
                try simp only [Act.put, List.setIfInBounds_toArray, List.set_cons_zero, List.set_cons_succ, List.getElem_toArray, List.getElem_cons_zero]
                refine wpAnyH_take (i := 2) (v := ?_) rfl (by kernel_rfl) (by kernel_rfl) (by kernel_rfl) (fun _ _ _ h => h) (Or.inl ⟨by rfl, ?_⟩) (by assumption) ?_
                rotate_left 1
                · intro w hSw
                  try dsimp only at hSw
                  go_simp
                  all_goals with_reducible rfl
                try simp only [Act.put, List.setIfInBounds_toArray, List.set_cons_zero, List.set_cons_succ, List.getElem_toArray, List.getElem_cons_zero, List.getElem_cons_succ]
                refine wpAnyH_take (i := 3) (v := ?_) rfl (by kernel_rfl) (by kernel_rfl) (by kernel_rfl) (fun _ _ _ h => h) (Or.inl ⟨by rfl, ?_⟩) (by assumption) ?_
                rotate_left 1
                · intro w hSw
                  try dsimp only at hSw
                  go_simp
                  all_goals with_reducible rfl
                try simp only [Act.put, List.setIfInBounds_toArray, List.set_cons_zero, List.set_cons_succ, List.getElem_toArray, List.getElem_cons_zero, List.getElem_cons_succ]
                refine wpAnyH_take (i := 4) (v := ?_) rfl (by kernel_rfl) (by kernel_rfl) (by kernel_rfl) (fun _ _ _ h => h) (Or.inl ⟨by rfl, ?_⟩) (by assumption) ?_
                rotate_left 1
                · intro w hSw
                  try dsimp only at hSw
                  go_simp
                  all_goals with_reducible rfl
                try simp only [Act.put, List.setIfInBounds_toArray, List.set_cons_zero, List.set_cons_succ, List.getElem_toArray, List.getElem_cons_zero, List.getElem_cons_succ]
                refine wpAnyH_take (i := 5) (v := ?_) rfl (by kernel_rfl) (by kernel_rfl) (by kernel_rfl) (fun _ _ _ h => h) (Or.inl ⟨by rfl, ?_⟩) (by assumption) ?_
                rotate_left 1
                · intro w hSw
                  try dsimp only at hSw
                  go_simp
                  all_goals with_reducible rfl
                try simp only [Act.put, List.setIfInBounds_toArray, List.set_cons_zero, List.set_cons_succ, List.getElem_toArray, List.getElem_cons_zero, List.getElem_cons_succ]
                refine wpAnyH_take (i := 6) (v := ?_) rfl (by kernel_rfl) (by kernel_rfl) (by kernel_rfl) (fun _ _ _ h => h) (Or.inl ⟨by rfl, ?_⟩) (by assumption) ?_
                rotate_left 1
                · intro w hSw
                  try dsimp only at hSw
                  go_simp
                  all_goals with_reducible rfl
                try simp only [Act.put, List.setIfInBounds_toArray, List.set_cons_zero, List.set_cons_succ, List.getElem_toArray, List.getElem_cons_zero, List.getElem_cons_succ]
                refine wpAnyH_take (i := 7) (v := ?_) rfl (by kernel_rfl) (by kernel_rfl) (by kernel_rfl) (fun _ _ _ h => h) (Or.inl ⟨by rfl, ?_⟩) (by assumption) ?_
                rotate_left 1
                · intro w hSw
                  try dsimp only at hSw
                  go_simp
                  all_goals with_reducible rfl
                try simp only [Act.put, List.setIfInBounds_toArray, List.set_cons_zero, List.set_cons_succ, List.getElem_toArray, List.getElem_cons_zero, List.getElem_cons_succ]
                refine wpAnyH_take (i := 8) (v := ?_) rfl (by kernel_rfl) (by kernel_rfl) (by kernel_rfl) (fun _ _ _ h => h) (Or.inl ⟨by rfl, ?_⟩) (by assumption) ?_
                rotate_left 1
                · intro w hSw
                  try dsimp only at hSw
                  go_simp
                  all_goals with_reducible rfl
                try simp only [Act.put, List.setIfInBounds_toArray, List.set_cons_zero, List.set_cons_succ, List.getElem_toArray, List.getElem_cons_zero, List.getElem_cons_succ]
                refine wpAnyH_take (i := 9) (v := ?_) rfl (by kernel_rfl) (by kernel_rfl) (by kernel_rfl) (fun _ _ _ h => h) (Or.inl ⟨by rfl, ?_⟩) (by assumption) ?_
                rotate_left 1
                · intro w hSw
                  try dsimp only at hSw
                  go_simp
                  all_goals with_reducible rfl
                try simp only [Act.put, List.setIfInBounds_toArray, List.set_cons_zero, List.set_cons_succ, List.getElem_toArray, List.getElem_cons_zero, List.getElem_cons_succ]
                refine wpAnyH_take (i := 10) (v := ?_) rfl (by kernel_rfl) (by kernel_rfl) (by kernel_rfl) (fun _ _ _ h => h) (Or.inl ⟨by rfl, ?_⟩) (by assumption) ?_
                rotate_left 1
                · intro w hSw
                  try dsimp only at hSw
                  go_simp
                  all_goals with_reducible rfl
                try simp only [Act.put, List.setIfInBounds_toArray, List.set_cons_zero, List.set_cons_succ, List.getElem_toArray, List.getElem_cons_zero, List.getElem_cons_succ]
                refine wpAnyH_take (i := 11) (v := ?_) rfl (by kernel_rfl) (by kernel_rfl) (by kernel_rfl) (fun _ _ _ h => h) (Or.inl ⟨by rfl, ?_⟩) (by assumption) ?_
                rotate_left 1
                · intro w hSw
                  try dsimp only at hSw
                  go_simp
                  all_goals with_reducible rfl
                try simp only [Act.put, List.setIfInBounds_toArray, List.set_cons_zero, List.set_cons_succ, List.getElem_toArray, List.getElem_cons_zero, List.getElem_cons_succ]
                refine wpAnyH_take (i := 12) (v := ?_) rfl (by kernel_rfl) (by kernel_rfl) (by kernel_rfl) (fun _ _ _ h => h) (Or.inl ⟨by rfl, ?_⟩) (by assumption) ?_
                rotate_left 1
                · intro w hSw
                  try dsimp only at hSw
                  go_simp
                  all_goals with_reducible rfl
                try simp only [Act.put, List.setIfInBounds_toArray, List.set_cons_zero, List.set_cons_succ, List.getElem_toArray, List.getElem_cons_zero, List.getElem_cons_succ]
                refine wpAnyH_take (i := 13) (v := ?_) rfl (by kernel_rfl) (by kernel_rfl) (by kernel_rfl) (fun _ _ _ h => h) (Or.inl ⟨by rfl, ?_⟩) (by assumption) ?_
                rotate_left 1
                · intro w hSw
                  try dsimp only at hSw
                  go_simp
                  all_goals with_reducible rfl
                try simp only [Act.put, List.setIfInBounds_toArray, List.set_cons_zero, List.set_cons_succ, List.getElem_toArray, List.getElem_cons_zero, List.getElem_cons_succ]
                refine wpAnyH_take (i := 14) (v := ?_) rfl (by kernel_rfl) (by kernel_rfl) (by kernel_rfl) (fun _ _ _ h => h) (Or.inl ⟨by rfl, ?_⟩) (by assumption) ?_
                rotate_left 1
                · intro w hSw
                  try dsimp only at hSw
                  go_simp
                  all_goals with_reducible rfl
                try simp only [Act.put, List.setIfInBounds_toArray, List.set_cons_zero, List.set_cons_succ, List.getElem_toArray, List.getElem_cons_zero, List.getElem_cons_succ]
                refine wpAnyH_take (i := 15) (v := ?_) rfl (by kernel_rfl) (by kernel_rfl) (by kernel_rfl) (fun _ _ _ h => h) (Or.inl ⟨by rfl, ?_⟩) (by assumption) ?_
                rotate_left 1
                · intro w hSw
                  try dsimp only at hSw
                  go_simp
                  all_goals with_reducible rfl
                try simp only [Act.put, List.setIfInBounds_toArray, List.set_cons_zero, List.set_cons_succ, List.getElem_toArray, List.getElem_cons_zero, List.getElem_cons_succ]
                refine wpAnyH_take (i := 16) (v := ?_) rfl (by kernel_rfl) (by kernel_rfl) (by kernel_rfl) (fun _ _ _ h => h) (Or.inl ⟨by rfl, ?_⟩) (by assumption) ?_
                rotate_left 1
                · intro w hSw
                  try dsimp only at hSw
                  go_simp
                  all_goals with_reducible rfl
                try simp only [Act.put, List.setIfInBounds_toArray, List.set_cons_zero, List.set_cons_succ, List.getElem_toArray, List.getElem_cons_zero, List.getElem_cons_succ]
                have a1A : Hid (((wf.alloc (.cells #[.string fn, .slice G ml z] 39)).drew).cell? ⟨N, 1, none⟩ = some v) := (BA.out.cell (p := ⟨N, 1, none⟩) HNF.out).trans a1
                refine wpAnyH_ready (rs := [1, 17]) (by kernel_rfl) (by simp) ?_
                refine AllReadyH.cons rfl (fun K hK => ?_) (AllReadyH.cons rfl (fun K hK => ?_) AllReadyH.nil)
                · go_simp
                  refine hK.out _ _ (by assumption) (fun _ => ?_)
                  clear hK K
                  refine wpAnyH_ready (rs := [17]) (by kernel_rfl) (by simp) ?_
                  refine AllReadyH.cons rfl (fun K hK => ?_) AllReadyH.nil
                  go_simp
                  refine hK.out _ _ ⟨(BA.out.cell (p := ⟨fb, 0, none⟩) HFB.out).trans b0, (BA.out.cell (p := ⟨fb, 1, none⟩) HFB.out).trans b1⟩ (fun hHeld => ?_)
                  clear hK K
                  refine wpAnyH_ready (rs := [18]) (by kernel_rfl) (by simp) ?_
                  refine AllReadyH.cons rfl (fun K hK => ?_) AllReadyH.nil
                  refine step_appV file_slice _ (by rfl) (.tmp 55) (.tmp 71) (by rfl) (N + 1) v ys (by rfl) OA.out (wf.heap.size + 1) (some ⟨wf.heap.size, 0, none⟩) 1 1 [⟨fn, G, ml, z⟩] (by rfl) NA.out rfl (by have := HYL.out; omega) (by simp) HBA.out ?_
                  intro v3 w3 o3 g3 t3
                  have C3 : Hid (w3.cell? ⟨fb, 0, none⟩ = some (.string f.name) ∧ w3.cell? ⟨fb, 1, none⟩ = some (.slice G l z)) := ⟨(g3.cell_far ⟨fb, 0, none⟩ (Nat.lt_of_lt_of_le HFB.out BA.out.size) HFV.out).trans ((BA.out.cell (p := ⟨fb, 0, none⟩) HFB.out).trans b0), (g3.cell_far ⟨fb, 1, none⟩ (Nat.lt_of_lt_of_le HFB.out BA.out.size) HFV.out).trans ((BA.out.cell (p := ⟨fb, 1, none⟩) HFB.out).trans b1)⟩
                  have B3 : Hid (Below (N + 1) wf w3) := (BA.out.mono HNF.out).grown g3 HBA.out (ownV_ge OA.out)
                  have p0 : w3.cell? ⟨N, 0, none⟩ = some (.string pt) := (B3.out.cell (p := ⟨N, 0, none⟩) (Nat.lt_succ_self _)).trans a0
                  have p1 : w3.cell? ⟨N, 1, none⟩ = some v := (B3.out.cell (p := ⟨N, 1, none⟩) (Nat.lt_succ_self _)).trans a1
                  have p2 : w3.frozen? ⟨N, 1, none⟩ = false := (B3.out.frozen (p := ⟨N, 1, none⟩) (Nat.lt_succ_self _)).trans a2
                  obtain ⟨A7, l7, c7, hv7⟩ : ∃ A l c, v3 = .slice A l c := by obtain ⟨A, c, h, _⟩ := o3.cells; exact ⟨A, _, c, h⟩
                  subst hv7
                  have O3 := Lib.hid o3
                  clear o3 g3 t3
                  have C5 : Hid ((fun W : World => W.cell? ⟨fb, 0, none⟩ = some (.string f.name) ∧ W.cell? ⟨fb, 1, none⟩ = some (.slice G l z)) (w3.setCell ⟨N, 1, none⟩ (.slice A7 l7 c7))) := ⟨(World.cell?_setCell_far _ _ _ _ (by have := HNR.out; have := HNB.out; show N ≠ fb; omega)).trans C3.out.1, (World.cell?_setCell_far _ _ _ _ (by have := HNR.out; have := HNB.out; show N ≠ fb; omega)).trans C3.out.2⟩
                  refine hK.out _ _ C3.out (fun hHeld => ?_)
                  clear hK K
                  refine wpAnyH_take (i := 19) (v := ?_) rfl (by kernel_rfl) (by kernel_rfl) (by kernel_rfl) (fun _ _ _ h => h) (Or.inl ⟨by rfl, ?_⟩) (by assumption) ?_
                  rotate_left 1
                  · intro w hSw
                    try dsimp only at hSw
                    go_simp
                    all_goals with_reducible rfl
                  try simp only [Act.put, List.setIfInBounds_toArray, List.set_cons_zero, List.set_cons_succ, List.getElem_toArray, List.getElem_cons_zero, List.getElem_cons_succ]
                  refine wpAnyH_ready (rs := [20]) (by kernel_rfl) (by simp) ?_
                  refine AllReadyH.cons rfl (fun K hK => ?_) AllReadyH.nil
                  go_simp
                  refine hK.out _ _ C5.out (fun hHeld => ?_)
                  refine wpAnyH_done (by kernel_rfl) ?_ _
                  go_wp2_with fail
                  have BE : Hid (Below w.heap.size wr (w3.setCell ⟨N, 1, none⟩ (.slice A7 l7 c7))) := ((BWF.out.mono (by have := HNR.out; have := HWN.out; omega)).trans (B3.out.mono (by have := HWN.out; omega))).setCell (by have := HWN.out; show _ ≤ N; omega) _
                  have r2 : Hid ((w3.setCell ⟨N, 1, none⟩ (.slice A7 l7 c7)).frozen? ⟨N, 1, none⟩ = false) := by show _ = _; simpa using p2
                  have r3 : Hid (OwnV reCells 2 39 (w3.setCell ⟨N, 1, none⟩ (.slice A7 l7 c7)) (N + 1) (.slice A7 l7 c7) (ys ++ [⟨fn, G, ml, z⟩])) := O3.out.setCell (p := ⟨N, 1, none⟩) (Nat.lt_succ_self N) _
                  go_roundg (6 - k)
                  case measure => have := HKI.out; omega
                  case rel =>
                    refine ⟨k + 1, ys ++ [⟨fn, G, ml, z⟩], _, by go_num, by show _ ∧ _; have := HKI.out; omega, ?_, World.cell?_setCell_same' _ _ _ (by rw [p1]; rfl), r2, r3, ?_, ?_⟩
                    · show World.cell? _ _ = _
                      rw [World.cell?_setCell_other _ _ _ _ (by simp)]; exact p0
                    · rw [take_at HF0.out, List.map_append, List.map_singleton]
                      exact (HZY.out.mono fun _ _ h => h.below BE.out (Nat.le_refl _)).snoc ((HZ2.out.below (((B3.out.mono (by have := HWN.out; omega))).setCell (by have := HWN.out; show _ ≤ N; omega) _) (Nat.le_refl _)))
                    · exact (BN.out.trans ((BWF.out.mono HNR.out).trans (B3.out.mono (by omega)))).setCell (Nat.le_refl _) _
                · go_simp
                  refine hK.out _ _ ⟨(BA.out.cell (p := ⟨fb, 0, none⟩) HFB.out).trans b0, (BA.out.cell (p := ⟨fb, 1, none⟩) HFB.out).trans b1⟩ (fun hHeld => ?_)
                  clear hK K
                  refine wpAnyH_ready (rs := [1]) (by kernel_rfl) (by simp) ?_
                  refine AllReadyH.cons rfl (fun K hK => ?_) AllReadyH.nil
                  have a1b := a1A.out
                  go_simp
                  refine hK.out _ _ (by assumption) (fun _ => ?_)
                  clear hK K
                  refine wpAnyH_ready (rs := [18]) (by kernel_rfl) (by simp) ?_
                  refine AllReadyH.cons rfl (fun K hK => ?_) AllReadyH.nil
                  refine step_appV file_slice _ (by rfl) (.tmp 55) (.tmp 71) (by rfl) (N + 1) v ys (by rfl) OA.out (wf.heap.size + 1) (some ⟨wf.heap.size, 0, none⟩) 1 1 [⟨fn, G, ml, z⟩] (by rfl) NA.out rfl (by have := HYL.out; omega) (by simp) HBA.out ?_
                  intro v3 w3 o3 g3 t3
                  have C3 : Hid (w3.cell? ⟨fb, 0, none⟩ = some (.string f.name) ∧ w3.cell? ⟨fb, 1, none⟩ = some (.slice G l z)) := ⟨(g3.cell_far ⟨fb, 0, none⟩ (Nat.lt_of_lt_of_le HFB.out BA.out.size) HFV.out).trans ((BA.out.cell (p := ⟨fb, 0, none⟩) HFB.out).trans b0), (g3.cell_far ⟨fb, 1, none⟩ (Nat.lt_of_lt_of_le HFB.out BA.out.size) HFV.out).trans ((BA.out.cell (p := ⟨fb, 1, none⟩) HFB.out).trans b1)⟩
                  have B3 : Hid (Below (N + 1) wf w3) := (BA.out.mono HNF.out).grown g3 HBA.out (ownV_ge OA.out)
                  have p0 : w3.cell? ⟨N, 0, none⟩ = some (.string pt) := (B3.out.cell (p := ⟨N, 0, none⟩) (Nat.lt_succ_self _)).trans a0
                  have p1 : w3.cell? ⟨N, 1, none⟩ = some v := (B3.out.cell (p := ⟨N, 1, none⟩) (Nat.lt_succ_self _)).trans a1
                  have p2 : w3.frozen? ⟨N, 1, none⟩ = false := (B3.out.frozen (p := ⟨N, 1, none⟩) (Nat.lt_succ_self _)).trans a2
                  obtain ⟨A7, l7, c7, hv7⟩ : ∃ A l c, v3 = .slice A l c := by obtain ⟨A, c, h, _⟩ := o3.cells; exact ⟨A, _, c, h⟩
                  subst hv7
                  have O3 := Lib.hid o3
                  clear o3 g3 t3
                  have C5 : Hid ((fun W : World => W.cell? ⟨fb, 0, none⟩ = some (.string f.name) ∧ W.cell? ⟨fb, 1, none⟩ = some (.slice G l z)) (w3.setCell ⟨N, 1, none⟩ (.slice A7 l7 c7))) := ⟨(World.cell?_setCell_far _ _ _ _ (by have := HNR.out; have := HNB.out; show N ≠ fb; omega)).trans C3.out.1, (World.cell?_setCell_far _ _ _ _ (by have := HNR.out; have := HNB.out; show N ≠ fb; omega)).trans C3.out.2⟩
                  refine hK.out _ _ C3.out (fun hHeld => ?_)
                  clear hK K
                  refine wpAnyH_take (i := 19) (v := ?_) rfl (by kernel_rfl) (by kernel_rfl) (by kernel_rfl) (fun _ _ _ h => h) (Or.inl ⟨by rfl, ?_⟩) (by assumption) ?_
                  rotate_left 1
                  · intro w hSw
                    try dsimp only at hSw
                    go_simp
                    all_goals with_reducible rfl
                  try simp only [Act.put, List.setIfInBounds_toArray, List.set_cons_zero, List.set_cons_succ, List.getElem_toArray, List.getElem_cons_zero, List.getElem_cons_succ]
                  refine wpAnyH_ready (rs := [20]) (by kernel_rfl) (by simp) ?_
                  refine AllReadyH.cons rfl (fun K hK => ?_) AllReadyH.nil
                  go_simp
                  refine hK.out _ _ C5.out (fun hHeld => ?_)
                  refine wpAnyH_done (by kernel_rfl) ?_ _
                  go_wp2_with fail
                  have BE : Hid (Below w.heap.size wr (w3.setCell ⟨N, 1, none⟩ (.slice A7 l7 c7))) := ((BWF.out.mono (by have := HNR.out; have := HWN.out; omega)).trans (B3.out.mono (by have := HWN.out; omega))).setCell (by have := HWN.out; show _ ≤ N; omega) _
                  have r2 : Hid ((w3.setCell ⟨N, 1, none⟩ (.slice A7 l7 c7)).frozen? ⟨N, 1, none⟩ = false) := by show _ = _; simpa using p2
                  have r3 : Hid (OwnV reCells 2 39 (w3.setCell ⟨N, 1, none⟩ (.slice A7 l7 c7)) (N + 1) (.slice A7 l7 c7) (ys ++ [⟨fn, G, ml, z⟩])) := O3.out.setCell (p := ⟨N, 1, none⟩) (Nat.lt_succ_self N) _
                  go_roundg (6 - k)
                  case measure => have := HKI.out; omega
                  case rel =>
                    refine ⟨k + 1, ys ++ [⟨fn, G, ml, z⟩], _, by go_num, by show _ ∧ _; have := HKI.out; omega, ?_, World.cell?_setCell_same' _ _ _ (by rw [p1]; rfl), r2, r3, ?_, ?_⟩
                    · show World.cell? _ _ = _
                      rw [World.cell?_setCell_other _ _ _ _ (by simp)]; exact p0
                    · rw [take_at HF0.out, List.map_append, List.map_singleton]
                      exact (HZY.out.mono fun _ _ h => h.below BE.out (Nat.le_refl _)).snoc ((HZ2.out.below (((B3.out.mono (by have := HWN.out; omega))).setCell (by have := HWN.out; show _ ≤ N; omega) _) (Nat.le_refl _)))
                    · exact (BN.out.trans ((BWF.out.mono HNR.out).trans (B3.out.mono (by omega)))).setCell (Nat.le_refl _) _
              · have hk5z : ¬ (k : Int) < 6 := by omega
                have HFU : Hid ((p.files.take k).map cutF = (cutP p).files) := by
                  obtain rfl : k = 6 := by omega
                  rfl
                have q0 := K0.out
                have q1 := K1.out
                obtain ⟨F2, c2, rfl, hf2, hc2, _⟩ := OY.out.cells
                obtain ⟨l2, hl2⟩ : ∃ l2, ys.length = l2 := ⟨_, rfl⟩
                have HR : Hid (IsPkN wr w.heap.size ⟨pt, F2, ys.length, c2⟩ (cutP p)) := ⟨HPT.out.symm, by show ys.length = _; rw [← HFU.out]; exact HZY.out.len, ys, ownV_base OY.out (by have := HWN.out; omega), rfl, by rw [← HFU.out]; exact HZY.out⟩
                rw [hl2] at q1 HR hf2
                have HF2 : Hid (l2 ≤ c2 ∧ c2 ≤ 9223372036854775807) := ⟨hf2, hc2⟩
                have XA : Hid (FewX (wr.alloc (.cells #[.string pt, .slice F2 l2 c2] 48)) w.heap.size u3 xs ((ps.take i).map cutP)) := HX2.out _ (BN.out.alloc (Nat.le_of_lt HNN.out) _)
                have RA : Hid (IsPkN (wr.alloc (.cells #[.string pt, .slice F2 l2 c2] 48)) w.heap.size ⟨pt, F2, l2, c2⟩ (cutP p)) := HR.out.but (bs := []) (But.of_below ((Below.refl _ _).alloc (Nat.le_refl _) _)) (by have := BWR.out.size; omega) (by simp) (by simp)
                have NA : Hid (CellsV reCells (wr.alloc (.cells #[.string pt, .slice F2 l2 c2] 48)) (wr.heap.size + 1) (some ⟨wr.heap.size, 0, none⟩) [⟨pt, F2, l2, c2⟩]) := one_re wr _ _ _ _ _
                have BA : Hid (Below w.heap.size w (wr.alloc (.cells #[.string pt, .slice F2 l2 c2] 48))) := (BW.out.trans BWR.out).alloc (by have := BW.out.size; have := BWR.out.size; omega) _
                clear hf2 hc2 hl2 d0 HR OY HZY K1
                go_wp2_with (first
                  | (at_builtin
                     refine wpList_appV pkg_slice _ rfl (.tmp 74) (.tmp 76) rfl w.heap.size u3 xs rfl XA.out.row (wr.heap.size + 1) (some ⟨wr.heap.size, 0, none⟩) 1 1 _ rfl NA.out rfl (by have := HXL.out; omega) (by simp) BA.out.size ?_
                     intro v7 w7 o7 g7 t7
                     have X7 : Hid (FewX w7 w.heap.size v7 (xs ++ [⟨pt, F2, l2, c2⟩]) ((ps.take i).map cutP ++ [cutP p])) := XA.out.snoc BA.out.size g7 o7 RA.out
                     have B7 : Hid (Below w.heap.size w w7) := BA.out.grown g7 BA.out.size (ownV_ge XA.out.row)
                     clear o7 g7 t7)
                  | fail)
                go_roundg (8 - i)
                case measure => have := HI.out; omega
                case rel => exact ⟨i + 1, _, by go_num, by show _ ∧ _; have := HI.out; omega, by rw [take_at HP.out, List.map_append, List.map_singleton]; exact X7.out, B7.out⟩
            · have hkz : ¬ (k : Int) < (m : Int) := by omega
              have HFU : Hid ((p.files.take k).map cutF = (cutP p).files) := by
                show _ = (p.files.take 6).map cutF
                rw [List.take_of_length_le (by have := HM.out; omega), List.take_of_length_le (by have := HM.out; omega)]
              have q0 := K0.out
              have q1 := K1.out
              obtain ⟨F2, c2, rfl, hf2, hc2, _⟩ := OY.out.cells
              obtain ⟨l2, hl2⟩ : ∃ l2, ys.length = l2 := ⟨_, rfl⟩
              have HR : Hid (IsPkN wr w.heap.size ⟨pt, F2, ys.length, c2⟩ (cutP p)) := ⟨HPT.out.symm, by show ys.length = _; rw [← HFU.out]; exact HZY.out.len, ys, ownV_base OY.out (by have := HWN.out; omega), rfl, by rw [← HFU.out]; exact HZY.out⟩
              rw [hl2] at q1 HR hf2
              have HF2 : Hid (l2 ≤ c2 ∧ c2 ≤ 9223372036854775807) := ⟨hf2, hc2⟩
              have XA : Hid (FewX (wr.alloc (.cells #[.string pt, .slice F2 l2 c2] 48)) w.heap.size u3 xs ((ps.take i).map cutP)) := HX2.out _ (BN.out.alloc (Nat.le_of_lt HNN.out) _)
              have RA : Hid (IsPkN (wr.alloc (.cells #[.string pt, .slice F2 l2 c2] 48)) w.heap.size ⟨pt, F2, l2, c2⟩ (cutP p)) := HR.out.but (bs := []) (But.of_below ((Below.refl _ _).alloc (Nat.le_refl _) _)) (by have := BWR.out.size; omega) (by simp) (by simp)
              have NA : Hid (CellsV reCells (wr.alloc (.cells #[.string pt, .slice F2 l2 c2] 48)) (wr.heap.size + 1) (some ⟨wr.heap.size, 0, none⟩) [⟨pt, F2, l2, c2⟩]) := one_re wr _ _ _ _ _
              have BA : Hid (Below w.heap.size w (wr.alloc (.cells #[.string pt, .slice F2 l2 c2] 48))) := (BW.out.trans BWR.out).alloc (by have := BW.out.size; have := BWR.out.size; omega) _
              clear hf2 hc2 hl2 d0 HR OY HZY K1
              go_wp2_with (first
                | (at_builtin
                   refine wpList_appV pkg_slice _ rfl (.tmp 74) (.tmp 76) rfl w.heap.size u3 xs rfl XA.out.row (wr.heap.size + 1) (some ⟨wr.heap.size, 0, none⟩) 1 1 _ rfl NA.out rfl (by have := HXL.out; omega) (by simp) BA.out.size ?_
                   intro v7 w7 o7 g7 t7
                   have X7 : Hid (FewX w7 w.heap.size v7 (xs ++ [⟨pt, F2, l2, c2⟩]) ((ps.take i).map cutP ++ [cutP p])) := XA.out.snoc BA.out.size g7 o7 RA.out
                   have B7 : Hid (Below w.heap.size w w7) := BA.out.grown g7 BA.out.size (ownV_ge XA.out.row)
                   clear o7 g7 t7)
                | fail)
              go_roundg (8 - i)
              case measure => have := HI.out; omega
              case rel => exact ⟨i + 1, _, by go_num, by show _ ∧ _; have := HI.out; omega, by rw [take_at HP.out, List.map_append, List.map_singleton]; exact X7.out, B7.out⟩
      · have h8z : ¬ (i : Int) < 8 := by omega
        have HFW : Hid ((ps.take i).map cutP = fewP ps) := by
          obtain rfl : i = 8 := by omega
          rfl
        rw [HFW.out] at HX
        obtain ⟨A9, c9, hv9, h1, h2, h3⟩ := HX.out.read BW.out.size
        have HO : Hid (FewOut (fewP ps) w u3 wq) := ⟨A9, c9, hv9, h1, h2, h3, BW.out⟩
        clear hv9 h1 h2 h3
        go_wp2_with fail
        go_ret
        exact ⟨_, rfl, HO.out⟩
    · have hltz : ¬ (i : Int) < (n : Int) := by omega
      have HFW : Hid ((ps.take i).map cutP = fewP ps) := by
        show _ = (ps.take 8).map cutP
        rw [List.take_of_length_le (by have := hl.out; omega), List.take_of_length_le (by have := hl.out; have := HI.out; omega)]
      rw [HFW.out] at HX
      obtain ⟨A9, c9, hv9, h1, h2, h3⟩ := HX.out.read BW.out.size
      have HO : Hid (FewOut (fewP ps) w u3 wq) := ⟨A9, c9, hv9, h1, h2, h3, BW.out⟩
      clear hv9 h1 h2 h3
      go_wp2_with fail
      go_ret
      exact ⟨_, rfl, HO.out⟩
end Go.Proofs.YtnpmkapapacffaaDoor
