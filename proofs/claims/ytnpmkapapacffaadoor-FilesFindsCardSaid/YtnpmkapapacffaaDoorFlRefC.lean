/-
  The contract of the reference's Check.
-/
import Derived.Test.YtnpmkapapacffaaDoorFlCheck
import Derived.Test.YtnpmkapapacffaaDoorFlPath
import Derived.Laws.IdiomStrings
namespace Go.Proofs.YtnpmkapapacffaaDoor
open Go.Shelf Go.RowKit Go.Lib Go.Sort Fm

theorem meetK_bad {ok : Bool} (L : List ByteArray) (s : ByteArray) (h : ok = false) : meetK ok L s = 8 := by simp [meetK, h]
theorem meetK_dup {ok : Bool} {L : List ByteArray} {s : ByteArray} (h : ok = true) (hm : s ∈ L) : meetK ok L s = 6 := by
  unfold meetK
  rw [if_neg (by simp [h]), if_pos ⟨s, hm, rfl⟩]
theorem meetK_good {ok : Bool} {L : List ByteArray} {s : ByteArray} (h : ok = true) (hm : ∀ g ∈ L, g ≠ s) : meetK ok L s = 0 := by
  unfold meetK
  rw [if_neg (by simp [h]), if_neg]
  rintro ⟨g, hg, e⟩
  exact hm g hg e
/-- What the reference's Check answers: a number and a name. -/
def refFlt : Option (Nat × ByteArray) → Value
  | none => .tuple #[.int .i64 0, .string ⟨#[]⟩]
  | some (k, s) => .tuple #[.int .i64 k, .string s]
theorem take_ne {α : Type} {g : α → ByteArray} {l : List α} {j : Nat} {x : α} {s : ByteArray} (hx : l[j]? = some x) (h : ∀ q ∈ (l.take j).map g, q ≠ s) (hne : ¬ g x = s) : ∀ q ∈ (l.take (j + 1)).map g, q ≠ s := by
  rw [take_at hx, List.map_append, List.map_singleton]
  intro q hq
  rcases List.mem_append.1 hq with hq | hq
  · exact h q hq
  · rw [List.mem_singleton.1 hq]; exact hne
theorem mem_takeM {α : Type} {g : α → ByteArray} {l : List α} {i j : Nat} {x : α} (hx : l[j]? = some x) (hj : j < i) : g x ∈ (l.take i).map g := by
  refine List.mem_map_of_mem ?_
  refine List.mem_of_getElem? (i := j) ?_
  rw [List.getElem?_take_of_lt hj]
  exact hx
theorem str_ne {s t : ByteArray} (h : ¬ s = t) : (s.toList == t.toList) = false := by
  rw [beq_eq_false_iff_ne]
  intro e
  rw [Lib.toList_data, Lib.toList_data] at e
  exact h (bytes_inj e)
set_option maxHeartbeats 16000000 in
set_option maxRecDepth 100000 in
theorem refCheck_run (A : Option Addr) (n cap : Nat) (ps : List Pk) (w : World) (hb : PksAt w w.heap.size A ps) (hl : Hid (ps.length = n)) (hs : Hid (Small ps)) (hsh : Hid (Short ps)) :
    Calls Tryd.prog 14 #[.slice A n cap] w fun e w' => e = .returned (refFlt (pkFault [] ps)) ∧ ∃ q, w' = w.drewN q := by
  have HB := Lib.hid hb
  have hn8 : n ≤ 8 := by have := hs.out.1; have := hl.out; omega
  have h40 : ¬ (4096 : Int) < (n : Int) := by omega
  clear hb
  go_enter Tryd.func14, Tryd.ntmps14
  go_wp2_with fail
  go_loopg [4] (n + 1) (fun h s4 wr => ∃ (i q : Nat), s4 = .int .i64 i ∧ Hid (i ≤ n ∧ i + h = n + 1) ∧ wr = w.drewN q)
  case atStart => exact ⟨0, 0, rfl, by show _ ∧ _; omega, rfl⟩
  case round =>
    obtain ⟨i, q, rfl, HI, rfl⟩ := hrel
    by_cases hlt : i < n
    · have hltz : (i : Int) < (n : Int) := by omega
      obtain ⟨p, hp⟩ : ∃ p, ps[i]? = some p := ⟨_, List.getElem?_eq_getElem (by have := hl.out; omega)⟩
      obtain ⟨b, o, F, m, c, rfl, _, c0, c1, hm, _, _, _⟩ := HB.out.at hp
      have hm6 : m ≤ 6 := by rw [hm]; exact (hs.out.2 p (List.mem_of_getElem? hp)).1
      have hmz : ¬ (4096 : Int) < (m : Int) := by omega
      clear hp hm
      go_wp2_with fail
      go_roundg (n - i)
      case measure => have := HI.out; omega
      case rel => exact ⟨i + 1, q, by go_num, by show _ ∧ _; have := HI.out; omega, rfl⟩
    · have hltz : ¬ (i : Int) < (n : Int) := by omega
      go_wp2_with fail
      clear hltz hlt HI
      go_loopg [5] (n + 1) (fun h s5 wr => ∃ (i q : Nat), s5 = .int .i64 i ∧ Hid (i ≤ n ∧ i + h = n + 1) ∧ Hid (pkFault [] ps = pkFault (ps.take i) (ps.drop i)) ∧ wr = w.drewN q)
      case atStart => exact ⟨0, q, rfl, by show _ ∧ _; omega, by show _ = _; simp, rfl⟩
      case round =>
        obtain ⟨i, q, rfl, HI, HX, rfl⟩ := hrel
        by_cases hlt : i < n
        · have hltz : (i : Int) < (n : Int) := by omega
          obtain ⟨p, hp⟩ : ∃ p, ps[i]? = some p := ⟨_, List.getElem?_eq_getElem (by have := hl.out; omega)⟩
          obtain ⟨b, o, F, m, c, rfl, _, c0, c1, hm, _, _, hF⟩ := HB.out.at hp
          have hsp := hs.out.2 p (List.mem_of_getElem? hp)
          have hss := hsh.out p (List.mem_of_getElem? hp)
          have hm6 : m ≤ 6 := by omega
          have HM : Hid (p.files.length = m) := hm.symm
          have HF := Lib.hid hF
          have HST := Lib.hid (pkFault_step hp)
          have HSF : Hid (∀ f ∈ p.files, f.text.length ≤ 300 ∧ f.name.size ≤ 1000) := fun f hf => ⟨hsp.2 f hf, hss.2 f hf⟩
          have HP0 := Lib.hid hp
          have HPS : Hid (p.path.size < 100000) := by show _ < _; omega
          clear hp hm hF hsp hss
          obtain ⟨v, hv⟩ : ∃ v, pathOk p.path.data.toList = v := ⟨_, rfl⟩
          have HV := Lib.hid hv
          have HRP := Lib.hid (refPath_run p.path v HPS.out HV (w.drewN q))
          clear hv
          cases v with
          | false =>
            have HE : Hid (pkFault [] ps = some (8, p.path)) := by
              show _ = _
              rw [HX.out, HST.out, meetK_bad _ _ HV.out, if_neg (by omega)]
            go_wp2_with fail
            refine HRP.out.mono ?_
            rintro e w1 ⟨rfl, rfl⟩
            go_wp2_with fail
            go_quiet (fail)
            go_wp2_with fail
            go_ret2
            exact ⟨by rw [HE.out]; rfl, _, by first | rfl | exact World.drewN_drewN _ _ _ | (rw [World.drewN_drewN, World.drewN_drewN])⟩
          | true =>
            go_wp2_with fail
            refine HRP.out.mono ?_
            rintro e w1 ⟨rfl, rfl⟩
            clear HRP
            go_wp2_with fail
            go_loopg [6] (i + 1) (fun h s6 wr => ∃ (j q : Nat), s6 = .int .i64 j ∧ Hid (j ≤ i ∧ j + h = i + 1) ∧ Hid (∀ g ∈ (ps.take j).map Pk.path, g ≠ p.path) ∧ wr = w.drewN q)
            case atStart => exact ⟨0, q, rfl, by show _ ∧ _; omega, by simp [Hid], rfl⟩
            case round =>
              obtain ⟨j, q, rfl, HJ, HN, rfl⟩ := hrel
              by_cases hji : j < i
              · have hjz : (j : Int) < (i : Int) := by omega
                have hjn : (j : Int) < (n : Int) := by omega
                obtain ⟨p2, hp2⟩ : ∃ p2, ps[j]? = some p2 := ⟨_, List.getElem?_eq_getElem (by have := hl.out; omega)⟩
                obtain ⟨b2, o2, F2, m2, c2, he2, _, d0, _, _, _, _, _⟩ := HB.out.at hp2
                obtain ⟨rfl, rfl⟩ : b = b2 ∧ o = o2 := by injection he2 with e; injection e with e1 e2; exact ⟨e1, e2⟩
                clear he2
                have HP2 := Lib.hid hp2
                clear hp2
                by_cases heq : p2.path = p.path
                · rw [heq] at d0
                  have HE : Hid (pkFault [] ps = some (6, p.path)) := by
                    show _ = _
                    rw [HX.out, HST.out, meetK_dup HV.out (by rw [← heq]; exact mem_takeM HP2.out hji), if_neg (by omega)]
                  clear heq HN
                  go_wp2_with fail
                  go_quiet (fail)
                  go_wp2_with fail
                  go_quiet (fail)
                  go_wp2_with fail
                  go_ret2
                  exact ⟨by rw [HE.out]; rfl, _, by first | rfl | exact World.drewN_drewN _ _ _ | (rw [World.drewN_drewN, World.drewN_drewN])⟩
                · have HN2 := Lib.hid (take_ne HP2.out HN.out heq)
                  have hse := str_ne heq
                  clear HN
                  go_wp2_with fail
                  go_quiet (fail)
                  go_wp2_with fail
                  go_roundg (i - j)
                  case measure => have := HJ.out; omega
                  case rel => exact ⟨j + 1, _, by go_num, by show _ ∧ _; have := HJ.out; omega, HN2.out, by first | rfl | exact World.drewN_drewN _ _ _⟩
              · have hjz : ¬ (j : Int) < (i : Int) := by omega
                obtain rfl : j = i := by have := HJ.out; omega
                have HX2 : Hid (pkFault [] ps = (match flFault [] p.files with | some e => some e | none => pkFault (ps.take (j + 1)) (ps.drop (j + 1)))) := by
                  show _ = _
                  rw [HX.out, HST.out, meetK_good HV.out HN.out, if_pos rfl]
                  cases flFault [] p.files <;> rfl
                clear HX HST HN HJ
                go_wp2_with fail
                go_loopg [8] (m + 1) (fun h s8 wr => ∃ (k q : Nat), s8 = .int .i64 k ∧ Hid (k ≤ m ∧ k + h = m + 1) ∧ Hid (flFault [] p.files = flFault (p.files.take k) (p.files.drop k)) ∧ wr = w.drewN q)
                case atStart => exact ⟨0, _, rfl, by show _ ∧ _; omega, by show _ = _; simp, by first | rfl | exact World.drewN_drewN _ _ _⟩
                case round =>
                  obtain ⟨k, q, rfl, HK, HY, rfl⟩ := hrel
                  by_cases hk : k < m
                  · have hkz : (k : Int) < (m : Int) := by omega
                    obtain ⟨f, hf⟩ : ∃ f, p.files[k]? = some f := ⟨_, List.getElem?_eq_getElem (by have := HM.out; omega)⟩
                    obtain ⟨x, y, G, l, z, rfl, _, e0, e1, hl1, _, _, _⟩ := HF.out.at hf
                    have hsf := HSF.out f (List.mem_of_getElem? hf)
                    have hlz : ¬ (16777216 : Int) < (l : Int) := by omega
                    have HFS := Lib.hid (flFault_step hf hsf.1)
                    have HF0 := Lib.hid hf
                    have HFN : Hid (f.name.size ≤ 100000) := by show _ ≤ _; omega
                    clear hf hl1 hsf
                    obtain ⟨v, hv⟩ : ∃ v, nameOk true f.name.data.toList = v := ⟨_, rfl⟩
                    have HV := Lib.hid hv
                    have HRN := Lib.hid (refName_run true f.name v HFN.out HV (w.drewN q))
                    clear hv
                    cases v with
                    | false =>
                      have HE : Hid (pkFault [] ps = some (8, f.name)) := by
                        show _ = _
                        rw [HX2.out, HY.out, HFS.out, meetK_bad _ _ HV.out, if_neg (by omega)]
                      go_wp2_with fail
                      refine HRN.out.mono ?_
                      rintro e w1 ⟨rfl, rfl⟩
                      go_wp2_with fail
                      go_quiet (fail)
                      go_wp2_with fail
                      go_ret2
                      exact ⟨by rw [HE.out]; rfl, _, by first | rfl | exact World.drewN_drewN _ _ _ | (rw [World.drewN_drewN, World.drewN_drewN])⟩
                    | true =>
                      go_wp2_with fail
                      refine HRN.out.mono ?_
                      rintro e w1 ⟨rfl, rfl⟩
                      clear HRN
                      go_wp2_with fail
                      go_loopg [9] (k + 1) (fun h s9 wr => ∃ (j q : Nat), s9 = .int .i64 j ∧ Hid (j ≤ k ∧ j + h = k + 1) ∧ Hid (∀ g ∈ (p.files.take j).map Fl.name, g ≠ f.name) ∧ wr = w.drewN q)
                      case atStart => exact ⟨0, q, rfl, by show _ ∧ _; omega, by simp [Hid], rfl⟩
                      case round =>
                        obtain ⟨j2, q, rfl, HJ, HN, rfl⟩ := hrel
                        by_cases hji : j2 < k
                        · have hjz : (j2 : Int) < (k : Int) := by omega
                          have hjn : (j2 : Int) < (m : Int) := by omega
                          obtain ⟨f2, hp2⟩ : ∃ f2, p.files[j2]? = some f2 := ⟨_, List.getElem?_eq_getElem (by have := HM.out; omega)⟩
                          obtain ⟨x2, y2, F2, m2, c2, he2, _, d0, _, _, _, _, _⟩ := HF.out.at hp2
                          obtain ⟨rfl, rfl⟩ : x = x2 ∧ y = y2 := by injection he2 with e; injection e with e1 e2; exact ⟨e1, e2⟩
                          clear he2
                          have HP2 := Lib.hid hp2
                          clear hp2
                          by_cases heq : f2.name = f.name
                          · rw [heq] at d0
                            have HE : Hid (pkFault [] ps = some (6, f.name)) := by
                              show _ = _
                              rw [HX2.out, HY.out, HFS.out, meetK_dup HV.out (by rw [← heq]; exact mem_takeM HP2.out hji), if_neg (by omega)]
                            clear heq HN
                            go_wp2_with fail
                            go_quiet (fail)
                            go_wp2_with fail
                            go_quiet (fail)
                            go_wp2_with fail
                            go_ret2
                            exact ⟨by rw [HE.out]; rfl, _, by first | rfl | exact World.drewN_drewN _ _ _ | (rw [World.drewN_drewN, World.drewN_drewN])⟩
                          · have HN2 := Lib.hid (take_ne HP2.out HN.out heq)
                            have hse := str_ne heq
                            clear HN
                            go_wp2_with fail
                            go_quiet (fail)
                            go_wp2_with fail
                            go_roundg (k - j2)
                            case measure => have := HJ.out; omega
                            case rel => exact ⟨j2 + 1, _, by go_num, by show _ ∧ _; have := HJ.out; omega, HN2.out, by first | rfl | exact World.drewN_drewN _ _ _⟩
                        · have hjz : ¬ (j2 : Int) < (k : Int) := by omega
                          obtain rfl : j2 = k := by have := HJ.out; omega
                          have HY2 : Hid (flFault [] p.files = flFault (p.files.take (j2 + 1)) (p.files.drop (j2 + 1))) := by
                            show _ = _
                            rw [HY.out, HFS.out, meetK_good HV.out HN.out, if_pos rfl]
                          clear HY HFS HN HJ
                          go_wp2_with fail
                          go_roundg (m - j2)
                          case measure => have := HK.out; omega
                          case rel => exact ⟨j2 + 1, _, by go_num, by show _ ∧ _; have := HK.out; omega, HY2.out, rfl⟩
                  · have hkz : ¬ (k : Int) < (m : Int) := by omega
                    have HX3 : Hid (pkFault [] ps = pkFault (ps.take (j + 1)) (ps.drop (j + 1))) := by
                      show _ = _
                      rw [HX2.out, HY.out, List.drop_eq_nil_of_le (by have := HM.out; omega)]
                      rfl
                    go_wp2_with fail
                    go_roundg (n - j)
                    case measure => have := HI.out; omega
                    case rel => exact ⟨j + 1, _, by go_num, by show _ ∧ _; have := HI.out; omega, HX3.out, rfl⟩
        · have hltz : ¬ (i : Int) < (n : Int) := by omega
          have HE : Hid (pkFault [] ps = none) := by
            show _ = _
            rw [HX.out, List.drop_eq_nil_of_le (by have := hl.out; omega)]
            rfl
          go_wp2_with fail
          go_ret2
          exact ⟨by rw [HE.out]; rfl, _, rfl⟩
end Go.Proofs.YtnpmkapapacffaaDoor
