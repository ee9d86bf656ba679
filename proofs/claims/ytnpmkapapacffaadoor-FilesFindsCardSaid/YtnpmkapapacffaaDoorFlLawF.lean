/-
  The walk of the law FilesFinds: it answers true, and leaves what was there as it was.
-/
import Derived.Test.YtnpmkapapacffaaDoorFlLawC
import Derived.Test.YtnpmkapapacffaaDoorFlRepl
namespace Go.Proofs.YtnpmkapapacffaaDoor
open Go.Shelf Go.RowKit Go.Lib Go.Sort Fm

theorem put_set {l : List Pk} {i k : Nat} {p : Pk} {f : Fl} (hp : l[i]? = some p) (hf : p.files[k]? = some f) (x : List Int) : put l i k x = l.set i ⟨p.path, p.files.set k ⟨f.name, x⟩⟩ := by
  unfold put
  rw [modify_set _ hp, modify_set _ hf]
theorem put_at {l : List Pk} {i k : Nat} {p : Pk} {f : Fl} (hp : l[i]? = some p) (hf : p.files[k]? = some f) (x : List Int) : (put l i k x)[i]? = some ⟨p.path, p.files.set k ⟨f.name, x⟩⟩ := by
  rw [put_set hp hf]
  have hi := (List.getElem?_eq_some_iff.1 hp).1
  simp [hi]
theorem put_in {p : Pk} {f : Fl} {k : Nat} (hf : p.files[k]? = some f) (x : List Int) : (p.files.set k ⟨f.name, x⟩)[k]? = some ⟨f.name, x⟩ := by
  have hi := (List.getElem?_eq_some_iff.1 hf).1
  simp [hi]
theorem set_self {α : Type} {l : List α} {i : Nat} {x : α} (h : l[i]? = some x) : l.set i x = l := by
  apply List.ext_getElem?
  intro j
  by_cases e : i = j
  · subst e
    obtain ⟨hi, hx⟩ := List.getElem?_eq_some_iff.1 h
    simp [hi, hx]
  · simp [e]
theorem put_back {l : List Pk} {i k : Nat} {p : Pk} {f : Fl} (hp : l[i]? = some p) (hf : p.files[k]? = some f) (x : List Int) : put (put l i k x) i k f.text = l := by
  rw [put_set (put_at hp hf x) (put_in hf x), put_set hp hf]
  simp only [List.set_set]
  rw [set_self (x := (⟨f.name, f.text⟩ : Fl)) hf]
  exact set_self hp
theorem put_small {l : List Pk} (h : Small l) {i k : Nat} {p : Pk} {f : Fl} (hp : l[i]? = some p) (hf : p.files[k]? = some f) {x : List Int} (hx : x.length ≤ 300) : Small (put l i k x) := by
  refine ⟨by rw [put_length]; exact h.1, fun q hq => ?_⟩
  rw [put_set hp hf] at hq
  rcases List.mem_or_eq_of_mem_set hq with hq | rfl
  · exact h.2 q hq
  · have hpp := h.2 p (List.mem_of_getElem? hp)
    refine ⟨by simpa using hpp.1, fun g hg => ?_⟩
    rcases List.mem_or_eq_of_mem_set hg with hg | rfl
    · exact hpp.2 g hg
    · exact hx

set_option maxRecDepth 100000 in
set_option maxHeartbeats 8000000 in
theorem filesFinds_any (A : Option Addr) (n cap : Nat) (ps : List Pk) (s t : ByteArray) (T : Option Addr) (m tc : Nat) (txt : List Int) (W : World) (hb : PksAt W W.heap.size A ps) (hl : Hid (ps.length = n)) (hcap : n ≤ 9223372036854775807)
    (ht : Byts W W.heap.size T txt) (htl : Hid (txt.length = m)) (hmc : m ≤ tc) (hg : ErrType W) :
    Calls Tryd.prog 5 #[.slice A n cap, .agg #[.string s, .string t], .slice T m tc] W fun e w' => e = .returned (.bool true) ∧ Below W.heap.size W w' := by
  have BA : Hid (Below W.heap.size W (W.alloc (.cells #[.string s, .string t] 36))) := (Below.refl _ _).alloc (Nat.le_refl _) _
  have HFW := Lib.hid (Few_run A n cap ps (W.alloc (.cells #[.string s, .string t] 36)) ((hb.below BA.out (Nat.le_refl _)).more BA.out.size) hl hcap)
  have HG := Lib.hid hg
  have hgl := hg.lt
  obtain ⟨L, hL⟩ : ∃ L, fewP ps = L := ⟨_, rfl⟩
  have HS : Hid (Small L) := by show Small _; rw [← hL]; exact few_small ps
  rw [hL] at HFW
  obtain ⟨l, hll⟩ : ∃ l, L.length = l := ⟨_, rfl⟩
  have HL := Lib.hid hll
  obtain ⟨k, hk0⟩ : ∃ k : Nat, min m 100 = k := ⟨_, rfl⟩
  have hk1 : min (m : Int) 100 = (k : Int) := by omega
  have hk2 : (k : Int) ≤ (tc : Int) := by omega
  have hk3 : k ≤ 300 := by omega
  obtain ⟨tx, htx⟩ : ∃ tx, txt.take k = tx := ⟨_, rfl⟩
  have HT : Hid (Byts W W.heap.size T tx) := by
    show Byts _ _ _ _
    rw [← htx]
    exact ht.take k
  have HTL : Hid (tx.length = k) := by
    show _ = _
    rw [← htx, List.length_take]
    have := htl.out
    omega
  clear hb hL hg hll ht htx htl hk0
  go_enter Tryd.func5, Tryd.ntmps5
  go_wp2_with fail
  refine HFW.out.mono ?_
  rintro e w1 ⟨v, rfl, ho⟩
  obtain ⟨A1, c1, hv, _, _, hp1, hw1⟩ := ho
  rw [HL.out] at hv
  subst hv
  have B1 : Hid (Below W.heap.size W w1) := BA.out.trans (hw1.mono BA.out.size)
  have HP1 := Lib.hid hp1
  have hs1 := B1.out.size
  have hbl : W.heap.size < w1.heap.size := by have := hw1.size; simp at this; omega
  have x0 : w1.cell? ⟨W.heap.size, 0, none⟩ = some (.string s) := (hw1.cell (p := ⟨W.heap.size, 0, none⟩) (by simp)).trans (by simp)
  have x1 : w1.cell? ⟨W.heap.size, 1, none⟩ = some (.string t) := (hw1.cell (p := ⟨W.heap.size, 1, none⟩) (by simp)).trans (by simp)
  have HX : Hid (∀ w', Below w1.heap.size w1 w' → w'.cell? ⟨W.heap.size, 0, none⟩ = some (.string s) ∧ w'.cell? ⟨W.heap.size, 1, none⟩ = some (.string t)) := fun w' h => ⟨(h.cell (p := ⟨W.heap.size, 0, none⟩) hbl).trans x0, (h.cell (p := ⟨W.heap.size, 1, none⟩) hbl).trans x1⟩
  have HT1 : Hid (Byts w1 w1.heap.size T tx) := (HT.out.below B1.out (Nat.le_refl _)).more hs1
  clear hw1 hp1 HFW BA HT
  cases hfd : find L s t with
  | none =>
    go_wp2_with fail
    refine (Find_none A1 l c1 L s t w1 HP1.out HL HS hfd).mono ?_
    unfold errno
    rintro e w2 ⟨rfl, hw2⟩
    have B2 : Hid (Below w1.heap.size w1 (w2.alloc (.cells #[.string ⟨#[]⟩, .slice none 0 0] 39))) := hw2.alloc hw2.size _
    obtain ⟨x2, x3⟩ := HX.out w2 hw2
    obtain ⟨y2, y3⟩ := HX.out _ B2.out
    clear hw2
    go_wp2_with fail
    obtain ⟨w3, hw3⟩ : ∃ w3, w2.alloc (.cells #[.string ⟨#[]⟩, .slice none 0 0] 39) = w3 := ⟨_, rfl⟩
    have z0 : w3.cell? ⟨w2.heap.size, 0, none⟩ = some (.string ⟨#[]⟩) := by rw [← hw3]; simp
    have hlz : w2.heap.size < w3.heap.size := by rw [← hw3]; simp
    rw [hw3] at B2 y2 y3 ⊢
    generalize w2.heap.size = z at *
    clear hw3 x2 x3
    have HF := Lib.hid (refFind_run A1 l c1 L s t w3 ((HP1.out.below B2.out (Nat.le_refl _)).more B2.out.size) HL HS)
    rw [hfd] at HF
    unfold findAns at HF
    refine HF.out.mono ?_
    rintro e w4 ⟨rfl, rfl⟩
    clear HF
    have HR := Lib.hid (Replace_none A1 l c1 L s t T k tc w3 ((HP1.out.below B2.out (Nat.le_refl _)).more B2.out.size) HL HS hfd)
    unfold errno at HR
    go_wp2_with fail
    refine HR.out.mono ?_
    rintro e w4 ⟨rfl, hw4⟩
    have B4 : Hid (Below w1.heap.size w1 w4) := B2.out.trans (hw4.mono B2.out.size)
    have z1 : w4.cell? ⟨z, 0, none⟩ = some (.string ⟨#[]⟩) := (hw4.cell (p := ⟨z, 0, none⟩) hlz).trans z0
    have hlz4 : z < w4.heap.size := Nat.lt_of_lt_of_le hlz hw4.size
    have HC7 : Hid (∀ w, Calls Tryd.prog 15 #[.iface 57 (.int .i64 7)] w fun e w' => e = .returned (.int .i64 7) ∧ Below w.heap.size w w') := fun w => code_errno 7 (by omega) (by omega) w
    clear hw4 z0 hlz HR B2 y2 y3
    go_wp2_with fail
    refine (HC7.out _).mono ?_
    rintro e w5 ⟨rfl, hw5⟩
    have B5 : Hid (Below w1.heap.size w1 w5) := B4.out.trans (hw5.mono B4.out.size)
    have z2 : w5.cell? ⟨z, 0, none⟩ = some (.string ⟨#[]⟩) := (hw5.cell (p := ⟨z, 0, none⟩) hlz4).trans z1
    have hlz5 : z < w5.heap.size := Nat.lt_of_lt_of_le hlz4 hw5.size
    clear hw5 z1 hlz4 B4
    go_wp2_with fail
    refine (HC7.out _).mono ?_
    rintro e w6 ⟨rfl, hw6⟩
    have B6 : Hid (Below W.heap.size W w6) := B1.out.trans ((B5.out.trans (hw6.mono B5.out.size)).mono hs1)
    have z3 : w6.cell? ⟨z, 0, none⟩ = some (.string ⟨#[]⟩) := (hw6.cell (p := ⟨z, 0, none⟩) hlz5).trans z2
    clear hw6 z2 hlz5 B5
    go_wp2_with fail
    refine (works_run _ (HG.out.below B6.out hgl)).mono ?_
    rintro e w9 ⟨rfl, hw9⟩
    go_wp2_with fail
    go_ret
    exact ⟨rfl, B6.out.trans (hw9.mono B6.out.size)⟩
  | some ik =>
    obtain ⟨i, q⟩ := ik
    obtain ⟨p, f, hp, hf, hft⟩ := find_get hfd
    subst hft
    have hil : (i : Int) < (l : Int) := by have := (List.getElem?_eq_some_iff.1 hp).1; have := HL.out; omega
    have hi0 : decide ((i : Int) < 0) = false := decide_eq_false (by omega)
    have HP := Lib.hid hp
    have HF := Lib.hid hf
    have HFD := Lib.hid hfd
    have hpp := HS.out.2 p (List.mem_of_getElem? hp)
    have HFT : Hid (f.text.length ≤ 300) := hpp.2 f (List.mem_of_getElem? hf)
    obtain ⟨b, o, F, fm, fc, hA1, hbb, _, u1, hfm, _, _, hF⟩ := HP1.out.at hp
    obtain ⟨b2, o2, G, gm, gc, hF1, hbb2, _, u2, hgm, _, _, hG⟩ := hF.at hf
    have hqm : (q : Int) < (fm : Int) := by have := (List.getElem?_eq_some_iff.1 hf).1; omega
    obtain ⟨fl, hfl⟩ : ∃ fl, f.text.length = fl := ⟨_, rfl⟩
    rw [hfl] at hgm HFT
    subst hgm
    have HFL := Lib.hid hfl
    have HG1 := Lib.hid hG
    have HX4 : Hid (∀ w', Below w1.heap.size w1 w' → w'.cell? ⟨W.heap.size, 0, none⟩ = some (.string s) ∧ w'.cell? ⟨W.heap.size, 1, none⟩ = some (.string f.name) ∧ w'.cell? ⟨b, o + i * 2 + 1, none⟩ = some (.slice F fm fc) ∧ w'.cell? ⟨b2, o2 + q * 2 + 1, none⟩ = some (.slice G gm gc)) := fun w' h => ⟨(h.cell (p := ⟨W.heap.size, 0, none⟩) hbl).trans x0, (h.cell (p := ⟨W.heap.size, 1, none⟩) hbl).trans x1, (h.cell (p := ⟨b, o + i * 2 + 1, none⟩) hbb).trans u1, (h.cell (p := ⟨b2, o2 + q * 2 + 1, none⟩) hbb2).trans u2⟩
    have HPUT : Hid (put (put L i q tx) i q f.text = L) := put_back hp hf tx
    have HS2 : Hid (Small (put L i q tx)) := put_small HS.out hp hf (by have := HTL.out; omega)
    have HL2 : Hid ((put L i q tx).length = l) := (put_length L i q tx).trans HL.out
    have HP2 : Hid ((put L i q tx)[i]? = some ⟨p.path, p.files.set q ⟨f.name, tx⟩⟩) := put_at hp hf tx
    have HF2 : Hid ((p.files.set q ⟨f.name, tx⟩)[q]? = some ⟨f.name, tx⟩) := put_in hf tx
    have HFD2 : Hid (find (put L i q tx) s f.name = some (i, q)) := (find_put L i q tx s f.name).trans hfd
    subst hA1
    subst hF1
    clear hfd hp hf hpp hF hG hfm hfl u1 u2 hbb hbb2 HX
    go_wp2_with fail
    refine (Find_some (some ⟨b, o, none⟩) l c1 L s f.name i q p f w1 HP1.out HL HS HFD.out HP.out HF.out).mono ?_
    rintro e w2 ⟨A2, c2, rfl, hby2, hlc2, hcc2, hw2⟩
    rw [HFL.out] at hlc2 ⊢
    have B2 : Hid (Below w1.heap.size w1 (w2.alloc (.cells #[.string f.name, .slice A2 gm c2] 39))) := hw2.alloc hw2.size _
    have HB2 : Hid (Byts (w2.alloc (.cells #[.string f.name, .slice A2 gm c2] 39)) (w2.alloc (.cells #[.string f.name, .slice A2 gm c2] 39)).heap.size A2 f.text) := hby2.on (Nat.le_refl _) ((Below.refl _ _).alloc (Nat.le_refl _) _)
    have x2 := (HX4.out w2 hw2).1
    have x3 := (HX4.out w2 hw2).2.1
    have y2 := (HX4.out _ B2.out).1
    have y3 := (HX4.out _ B2.out).2.1
    clear hw2 hby2
    go_wp2_with fail
    obtain ⟨w3, hw3⟩ : ∃ w3, w2.alloc (.cells #[.string f.name, .slice A2 gm c2] 39) = w3 := ⟨_, rfl⟩
    have z0 : w3.cell? ⟨w2.heap.size, 0, none⟩ = some (.string f.name) := by rw [← hw3]; simp
    have z1 : w3.cell? ⟨w2.heap.size, 1, none⟩ = some (.slice A2 gm c2) := by rw [← hw3]; simp
    have hlz : w2.heap.size < w3.heap.size := by rw [← hw3]; simp
    rw [hw3] at B2 HB2 ⊢
    clear hw3 x2 x3 y2 y3
    generalize w2.heap.size = z at *
    obtain ⟨x2, x3, x4, x5⟩ := HX4.out w3 B2.out
    have HRF := Lib.hid (refFind_run (some ⟨b, o, none⟩) l c1 L s f.name w3 ((HP1.out.below B2.out (Nat.le_refl _)).more B2.out.size) HL HS)
    rw [HFD.out] at HRF
    unfold findAns at HRF
    refine HRF.out.mono ?_
    rintro e w4 ⟨rfl, rfl⟩
    clear HRF
    have HR := Lib.hid (Replace_some (some ⟨b, o, none⟩) l c1 L s f.name T k tc tx i q p f w3 ((HP1.out.below B2.out (Nat.le_refl _)).more B2.out.size) HL HS HFD.out HP.out HF.out ((HT1.out.below B2.out (Nat.le_refl _)).more B2.out.size) HTL hk3)
    go_wp2_with fail
    refine HR.out.mono ?_
    rintro e w5 ⟨A5, c5, rfl, _, hp5, hw5⟩
    have B5 : Hid (Below w1.heap.size w1 w5) := B2.out.trans (hw5.mono B2.out.size)
    have HP5 := Lib.hid hp5
    have HB5 := Lib.hid (HB2.out.on (Nat.le_refl _) hw5)
    have t0 : w5.cell? ⟨z, 0, none⟩ = some (.string f.name) := (hw5.cell (p := ⟨z, 0, none⟩) hlz).trans z0
    have t1 : w5.cell? ⟨z, 1, none⟩ = some (.slice A2 gm c2) := (hw5.cell (p := ⟨z, 1, none⟩) hlz).trans z1
    have v1 : ∀ j, (convert 37 9 (.slice A2 gm c2)).run Tryd.prog (w5.drewN j) = .ok (.string (strOf f.text)) (w5.drewN j) := fun j => conv_bytes (w := w5.drewN j) (B := w5.heap.size) HB5.out gm c2 HFL.out
    have v2 : ∀ j, (convert 37 9 (.slice G gm gc)).run Tryd.prog (w5.drewN j) = .ok (.string (strOf f.text)) (w5.drewN j) := fun j => conv_bytes (w := w5.drewN j) (B := w1.heap.size) (HG1.out.below (below_drewN B5.out j) (Nat.le_refl _)) gm gc HFL.out
    clear hw5 hp5 HR z0 z1 hlz HB2 B2 x2 x3 x4 x5
    obtain ⟨x2, x3, x4, x5⟩ := HX4.out w5 B5.out
    go_wp2_with fail
    go_quiet (fail)
    go_wp2_with fail
    have B6 : Hid (Below w1.heap.size w1 (w5.drewN nq)) := below_drewN B5.out nq
    have HP6 : Hid (PksAt (w5.drewN nq) (w5.drewN nq).heap.size A5 (put L i q tx)) := HP5.out.on (Nat.le_refl _) (below_drewN (Below.refl w5.heap.size w5) nq)
    clear v1 v2 t0 t1 x2 x3 x4 x5 B5 HP5 HB5 hlc2 hcc2
    generalize w5.drewN nq = w6 at *
    have HF6 : Hid (Calls Tryd.prog 20 #[.slice A5 l c5, .string s, .string f.name] w6 fun e w' => ∃ A c, e = .returned (.tuple #[.agg #[.string f.name, .slice A k c], .nilIface]) ∧ Byts w' w'.heap.size A tx ∧ Below w6.heap.size w6 w') := by
      show Calls _ _ _ _ _
      refine (Find_some A5 l c5 (put L i q tx) s f.name i q _ _ w6 HP6.out HL2 HS2 HFD2.out HP2.out HF2.out).mono ?_
      rintro e w' ⟨A, c, h1, h2, _, _, h3⟩
      refine ⟨A, c, ?_, h2, h3⟩
      rw [h1]
      show Ending.returned (.tuple #[.agg #[.string f.name, .slice A tx.length c], .nilIface]) = _
      rw [HTL.out]
    refine HF6.out.mono ?_
    rintro e w7 ⟨A7, c7, rfl, hby7, hw7⟩
    have B7 : Hid (Below w1.heap.size w1 (w7.alloc (.cells #[.string f.name, .slice A7 k c7] 39))) := (B6.out.trans (hw7.mono B6.out.size)).alloc (Nat.le_trans B6.out.size hw7.size) _
    have HB7 : Hid (Byts (w7.alloc (.cells #[.string f.name, .slice A7 k c7] 39)) (w7.alloc (.cells #[.string f.name, .slice A7 k c7] 39)).heap.size A7 tx) := hby7.on (Nat.le_refl _) ((Below.refl _ _).alloc (Nat.le_refl _) _)
    have HP7 : Hid (PksAt (w7.alloc (.cells #[.string f.name, .slice A7 k c7] 39)) (w7.alloc (.cells #[.string f.name, .slice A7 k c7] 39)).heap.size A5 (put L i q tx)) := (HP6.out.on (Nat.le_refl _) hw7).on (Nat.le_refl _) ((Below.refl _ _).alloc (Nat.le_refl _) _)
    have x2 := (HX4.out w7 (B6.out.trans (hw7.mono B6.out.size))).1
    have x3 := (HX4.out w7 (B6.out.trans (hw7.mono B6.out.size))).2.1
    clear hw7 hby7 HF6 HP6 B6
    go_wp2_with fail
    obtain ⟨w8, hw8⟩ : ∃ w8, w7.alloc (.cells #[.string f.name, .slice A7 k c7] 39) = w8 := ⟨_, rfl⟩
    have z1 : w8.cell? ⟨w7.heap.size, 1, none⟩ = some (.slice A7 k c7) := by rw [← hw8]; simp
    have hlz : w7.heap.size < w8.heap.size := by rw [← hw8]; simp
    rw [hw8] at B7 HB7 HP7 ⊢
    clear hw8 x2 x3
    generalize w7.heap.size = z at *
    have HR8 : Hid (Calls Tryd.prog 22 #[.slice A5 l c5, .string s, .string f.name, .slice G gm gc] w8.drew fun e w' => RepOut l L w8.drew e w') := by
      have := Replace_some A5 l c5 (put L i q tx) s f.name G gm gc f.text i q _ _ w8.drew (HP7.out.on (Nat.le_refl _) (Below.refl w8.heap.size w8).drew) HL2 HS2 HFD2.out HP2.out HF2.out ((HG1.out.below B7.out.drew (Nat.le_refl _)).more B7.out.size) HFL HFT.out
      rw [HPUT.out] at this
      exact this
    have B8 : Hid (Below w1.heap.size w1 w8.drew) := B7.out.drew
    go_region_held3 (fun W' => W'.cell? ⟨W.heap.size, 0, none⟩ = some (.string s) ∧ W'.cell? ⟨W.heap.size, 1, none⟩ = some (.string f.name) ∧ W'.cell? ⟨b, o + i * 2 + 1, none⟩ = some (.slice (some ⟨b2, o2, none⟩) fm fc) ∧ W'.cell? ⟨b2, o2 + q * 2 + 1, none⟩ = some (.slice G gm gc)) (first | exact HX4.out _ B7.out | exact HX4.out _ B8.out | exact HX4.out _ B9.out | go_keep)
      (first | (go_at_call 22; refine HR8.out.mono ?_; rintro e w9 ⟨A9, c9, rfl, _, hp9, hw8⟩; have hw9 : Below w8.heap.size w8 w9 := (Below.refl w8.heap.size w8).drew.trans hw8; have B9 : Hid (Below w1.heap.size w1 w9) := B7.out.trans (hw9.mono B7.out.size); have HP9 := Lib.hid hp9; have z2 : w9.cell? ⟨z, 1, none⟩ = some (.slice A7 k c7) := (hw9.cell (p := ⟨z, 1, none⟩) hlz).trans z1; have HB9 : Hid (Byts w9 w9.heap.size A7 tx) := (HB7.out.below hw9 (Nat.le_refl _)).more hw9.size; clear hw9 hw8 hp9) | fail)
    have v3 : (convert 37 9 (.slice A7 k c7)).run Tryd.prog w9 = .ok (.string (strOf tx)) w9 := conv_bytes HB9.out k c7 HTL.out
    have v4 : (convert 37 9 (.slice T k tc)).run Tryd.prog w9 = .ok (.string (strOf tx)) w9 := conv_bytes (HT1.out.below B9.out (Nat.le_refl _)) k tc HTL.out
    clear z1 hlz HB7 HP7 B7 B8
    go_wp2_with fail
    refine (Same_run A9 (some ⟨b, o, none⟩) l c9 c1 L w9 HP9.out ((HP1.out.below B9.out (Nat.le_refl _)).more B9.out.size) HL HS).mono ?_
    rintro e w10 ⟨rfl, q10, rfl⟩
    have B10 : Hid (Below W.heap.size W (w9.drewN q10)) := below_drewN (B1.out.trans (B9.out.mono hs1)) q10
    go_wp2_with fail
    refine (works_run _ (HG.out.below B10.out hgl)).mono ?_
    rintro e w11 ⟨rfl, hw11⟩
    go_wp2_with fail
    go_ret
    exact ⟨rfl, B10.out.trans (hw11.mono B10.out.size)⟩
theorem filesFinds_row (A : Option Addr) (n cap : Nat) (ps : List Pk) (s t : ByteArray) (T : Option Addr) (m tc : Nat) (txt : List Int) (W : World) (hb : PksAt W W.heap.size A ps) (hl : ps.length = n) (hc : n ≤ cap) (hm : cap ≤ 9223372036854775807)
    (ht : Byts W W.heap.size T txt) (htl : txt.length = m) (htc : m ≤ tc) (_ : tc ≤ 9223372036854775807) (hg : ErrType W) :
    Calls Tryd.prog 5 #[.slice A n cap, .agg #[.string s, .string t], .slice T m tc] W fun e w' => e = .returned (.bool true) ∧ Below W.heap.size W w' :=
  filesFinds_any A n cap ps s t T m tc txt W hb hl (Nat.le_trans hc hm) ht htl htc hg
end Go.Proofs.YtnpmkapapacffaaDoor
