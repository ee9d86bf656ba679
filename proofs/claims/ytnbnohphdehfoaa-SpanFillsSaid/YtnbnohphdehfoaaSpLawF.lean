/-
  The walk of the law SpanFills: it answers true, and leaves what was there as it was.
-/
import Derived.Test.YtnbnohphdehfoaaSpLawS
namespace Go.Proofs.Ytnbnohphdehfoaa
open Go.RowKit Go.Sort

/-- How many places a span has. -/
def lenS (s : Int × Int) : Int := s.2 - s.1
/-- The lengths of a list's spans, added up. -/
def lenL : List (Int × Int) → Int
  | [] => 0
  | s :: r => lenS s + lenL r
theorem lenL_append (a b : List (Int × Int)) : lenL (a ++ b) = lenL a + lenL b := by
  induction a with
  | nil => simp [lenL]
  | cons s r ih => simp only [List.cons_append, lenL, ih]; omega
theorem lenL_take {l : List (Int × Int)} {i : Nat} {s : Int × Int} (h : l[i]? = some s) : lenL (l.take (i + 1)) = lenL (l.take i) + (s.2 - s.1) := by
  rw [List.take_add_one, h, Option.toList_some, lenL_append]
  simp [lenL, lenS]
/-- .. of the places ahead of x. -/
def clip (s : Int × Int) (x : Int) : Int := if x ≤ s.1 then 0 else if x ≤ s.2 then x - s.1 else s.2 - s.1
def part : List (Int × Int) → Int → Int
  | [], _ => 0
  | s :: r, x => clip s x + part r x
theorem part_out : ∀ {l : List (Int × Int)} {x : Int}, (∀ s ∈ l, s.1 < s.2) → ¬ Sp.Has l x → part l (x + 1) = part l x
  | [], _, _, _ => rfl
  | s :: r, x, hn, h => by
    have h1 : ¬ (s.1 ≤ x ∧ x < s.2) := fun h' => h ((Sp.has_cons _ _ _).2 (.inl h'))
    have h2 := part_out (fun t ht => hn t (List.mem_cons_of_mem _ ht)) (fun h' => h ((Sp.has_cons _ _ _).2 (.inr h')))
    have h3 := hn s List.mem_cons_self
    simp only [part, h2]
    have : clip s (x + 1) = clip s x := by
      unfold clip
      repeat' split
      all_goals omega
    omega
theorem part_in : ∀ {l : List (Int × Int)} {x : Int}, Sp.Norm l → Sp.Has l x → part l (x + 1) = part l x + 1
  | [], x, _, h => absurd h (Sp.has_nil x)
  | s :: r, x, hn, h => by
    have h3 := hn.1 s List.mem_cons_self
    simp only [part]
    rcases (Sp.has_cons _ _ _).1 h with h1 | h1
    · have h2 := part_out (l := r) (x := x) (fun t ht => hn.1 t (List.mem_cons_of_mem _ ht)) (fun h' => by have := hn.behind h'; omega)
      have : clip s (x + 1) = clip s x + 1 := by
        unfold clip
        repeat' split
        all_goals omega
      omega
    · have h2 := part_in hn.tail h1
      have h4 := hn.behind h1
      have : clip s (x + 1) = clip s x := by
        unfold clip
        repeat' split
        all_goals omega
      omega
theorem part_zero : ∀ {l : List (Int × Int)}, (∀ s ∈ l, 0 ≤ s.1) → part l 0 = 0
  | [], _ => rfl
  | s :: r, h => by
    have h1 := part_zero fun t ht => h t (List.mem_cons_of_mem _ ht)
    have h2 := h s List.mem_cons_self
    simp only [part, h1]
    unfold clip
    rw [if_pos h2]
    rfl
theorem part_full : ∀ {l : List (Int × Int)} {z : Int}, (∀ s ∈ l, s.1 < s.2 ∧ s.2 ≤ z) → part l z = lenL l
  | [], _, _ => rfl
  | s :: r, z, h => by
    have h1 := part_full fun t ht => h t (List.mem_cons_of_mem _ ht)
    have h2 := h s List.mem_cons_self
    simp only [part, lenL, lenS, h1]
    unfold clip
    repeat' split
    all_goals omega
/-- Two lists that have each place once, between them: their lengths are the whole's. -/
theorem fills {m g : List (Int × Int)} {z : Nat} (hm : Sp.Norm m) (hg : Sp.Norm g) (im : ∀ s ∈ m, 0 ≤ s.1 ∧ s.2 ≤ z) (ig : ∀ s ∈ g, 0 ≤ s.1 ∧ s.2 ≤ z) (h : ∀ x : Int, 0 ≤ x → x < z → (Sp.Has g x ↔ ¬ Sp.Has m x)) : lenL m + lenL g = z := by
  have step : ∀ k : Nat, k ≤ z → part m k + part g k = k := by
    intro k
    induction k with
    | zero => intro _; rw [Int.natCast_zero, part_zero fun s hs => (im s hs).1, part_zero fun s hs => (ig s hs).1]; rfl
    | succ k ih =>
      intro hk
      have := ih (by omega)
      have hx := h k (by omega) (by omega)
      rw [show ((k + 1 : Nat) : Int) = (k : Int) + 1 by omega]
      by_cases hh : Sp.Has m k
      · rw [part_in hm hh, part_out (x := (k : Int)) hg.1 (fun h' => hx.1 h' hh)]; omega
      · rw [part_out (x := (k : Int)) hm.1 hh, part_in hg (hx.2 hh)]; omega
  have := step z (Nat.le_refl _)
  rwa [part_full fun s hs => ⟨hm.1 s hs, (im s hs).2⟩, part_full fun s hs => ⟨hg.1 s hs, (ig s hs).2⟩] at this
theorem lenL_ge : ∀ {l : List (Int × Int)}, (∀ s ∈ l, s.1 < s.2) → (l.length : Int) ≤ lenL l
  | [], _ => by simp [lenL]
  | s :: r, h => by
    have h1 := lenL_ge fun t ht => h t (List.mem_cons_of_mem _ ht)
    have h2 := h s List.mem_cons_self
    simp only [List.length_cons, lenL, lenS]
    omega
theorem runs_in {P : Int → Prop} {z : Int} {G : List (Int × Int)} (h : RunsOf P 0 z G) : ∀ s ∈ G, 0 ≤ s.1 ∧ s.2 ≤ z := by
  intro s hs
  have hlt := h.1.1 s hs
  have h1 := (h.2 s.1).1 ⟨s, hs, Int.le_refl _, hlt⟩
  have h2 := (h.2 (s.2 - 1)).1 ⟨s, hs, by omega, by omega⟩
  omega
theorem norm_all {z : Nat} {M : List (Int × Int)} (hM : Sp.Norm M) (h : ∀ x, Sp.Has M x ↔ 0 ≤ x ∧ x < z) : M = if z = 0 then [] else [((0 : Int), (z : Int))] := by
  split
  · next h0 =>
    subst h0
    refine Sp.norm_unique hM Sp.norm_nil fun x => ?_
    rw [h]
    exact ⟨fun h => by omega, fun h => absurd h (Sp.has_nil x)⟩
  · next h0 =>
    refine Sp.norm_unique hM ⟨by simp; omega, by simp⟩ fun x => ?_
    rw [h, Sp.has_one]
theorem u8_bounds {n : Int} (h : (Lit.int .u8 n).wf = true) : 0 ≤ n ∧ n ≤ 255 := by
  simpa [Lit.wf, IntKind.min, IntKind.max, IntKind.signed, IntKind.bits] using h
/-- A list appended to nothing, and another to it. -/
theorem two_lists {m g : List (Int × Int)} : ([] ++ m) ++ g = m ++ g := by simp
set_option maxRecDepth 100000 in
set_option maxHeartbeats 8000000 in
theorem spanFills_any (A : Option Addr) (n cap : Nat) (L : List (Int × Int)) (z : Int) (w : World) (hb : CellsV pairCells w w.heap.size A L) (hl : L.length = n) (hcap : n ≤ cap) (hz : 0 ≤ z ∧ z ≤ 255) :
    Calls Try.prog 6 #[.slice A n cap, .int .u8 z] w fun e w' => e = .returned (.bool true) ∧ Below w.heap.size w w' := by
  have hm := few20_le n
  have HB : Hid (CellsV pairCells w w.heap.size A (L.take (few20 n))) := CellsV.take pair_enc hb _
  have HL : Hid ((L.take (few20 n)).length = few20 n) := take_few hl
  have HF := Lib.hid (few_run A n cap w hcap)
  have HWk : Hid (∀ W, Calls Try.prog 15 #[] W fun e w' => e = .returned (.bool true) ∧ Below W.heap.size W w') := fun W => works_run W
  generalize few20 n = k at *
  generalize L.take k = l at *
  obtain ⟨s, hs⟩ : ∃ s : Nat, z = s := ⟨z.toNat, by omega⟩
  subst hs
  have hs255 : s ≤ 255 := by omega
  clear hb hl hz
  go_enter Try.func6, Try.ntmps6
  go_wp2_with fail
  refine HF.out.mono ?_
  rintro e w1 ⟨rfl, rfl⟩
  go_wp2_with fail
  refine (gaps_run A k cap l s w HB.out HL (by omega)).mono ?_
  rintro e w2 ⟨v2, G, rfl, hG1, hG2, hGl, A2, cap2, rfl, hc2, hm2, hy2, hb2⟩
  have Y2 := Lib.hid hy2
  have B2 := Lib.hid hb2
  have hs2 := hb2.size
  clear hy2 hb2 hm2
  obtain ⟨c, hc⟩ : ∃ c, errOfL s l = c := ⟨_, rfl⟩
  by_cases h0 : c = 0
  · subst h0
    have hR := hG2 hc
    have HR := Lib.hid hR
    have HE0 := Lib.hid hc
    rw [hc, show errOf 0 = .nilIface from rfl]
    clear hG1 hG2 hGl hR hc
    go_wp2_with fail
    refine (merge_run A k cap l w2 (HB.out.on (Nat.le_refl _) B2.out) HL (by omega)).mono ?_
    rintro e w3 ⟨v3, M, rfl, hM1, hM2, hMl, A3, cap3, rfl, hc3, hm3, hy3, hb3⟩
    have HM : Hid (Sp.Norm M ∧ (∀ x, Sp.Has M x ↔ Sp.Has l x) ∧ M.length ≤ 20) := ⟨hM1, hM2, by have := HL.out; omega⟩
    have HMin : Hid (∀ t ∈ M, 0 ≤ t.1 ∧ t.2 ≤ (s : Int)) := merged_in hM1 hM2 HE0.out
    have HGin : Hid (∀ t ∈ G, 0 ≤ t.1 ∧ t.2 ≤ (s : Int)) := runs_in HR.out
    have HFill : Hid (lenL M + lenL G = s) := fills HM.out.1 HR.out.1 HMin.out HGin.out fun x h1 h2 => by
      rw [HR.out.2 x]
      show 0 ≤ x ∧ x < s ∧ ¬ Sp.Has l x ↔ _
      rw [HM.out.2.1]
      exact ⟨fun h => h.2.2, fun h => ⟨h1, h2, h⟩⟩
    have hMl2 : M.length ≤ 20 := HM.out.2.2
    have hGl2 : G.length ≤ 255 := by
      have h1 := lenL_ge (l := M) HM.out.1.1
      have h2 := lenL_ge (l := G) HR.out.1.1
      have h3 := HFill.out
      omega
    have Y3 := Lib.hid hy3
    have Y2' := Lib.hid (Y2.out.on (Nat.le_refl _) hb3)
    have B3 : Hid (Below w.heap.size w w3) := B2.out.trans (hb3.mono hs2)
    have hs3 := B3.out.size
    clear hM1 hM2 hMl hy3 hb3 hm3 Y2
    go_wp2_with fail
    refine (merge_run A3 M.length cap3 M w3 Y3.out rfl (by omega)).mono ?_
    rintro e w4 ⟨v4, M', rfl, hM1, hM2, _, A4, cap4, rfl, hc4, hm4, hy4, hb4⟩
    have HEq : Hid (M' = M) := Sp.norm_unique hM1 HM.out.1 hM2
    obtain rfl := HEq.out
    have Y4 := Lib.hid hy4
    have Y3' := Lib.hid (Y3.out.on (Nat.le_refl _) hb4)
    have Y2 := Lib.hid (Y2'.out.on (Nat.le_refl _) hb4)
    have B4 : Hid (Below w.heap.size w w4) := B3.out.trans (hb4.mono hs3)
    have hs4 := B4.out.size
    clear hM1 hM2 hy4 hb4 hm4 hc4 Y3 Y2' HEq
    go_wp2_with fail
    refine (same_run A4 A3 M'.length M'.length cap4 cap3 M' M' true w4 Y4.out Y3'.out rfl rfl (by show _ = _; simp) (by omega) (by omega)).mono ?_
    rintro e w5 ⟨rfl, q5, hq5⟩
    have hb5 : Below w4.heap.size w4 w5 := hq5 ▸ below_drewN (Below.refl _ _) q5
    have Y2' := Lib.hid (Y2.out.on (Nat.le_refl _) hb5)
    have Y3 := Lib.hid (Y3'.out.on (Nat.le_refl _) hb5)
    have B5 : Hid (Below w.heap.size w w5) := B4.out.trans (hb5.mono hs4)
    have hs5 := B5.out.size
    clear hq5 hb5 Y4 Y2 Y3'
    go_wp2_with fail
    refine (merge_run A2 G.length cap2 G w5 Y2'.out rfl (by omega)).mono ?_
    rintro e w6 ⟨v6, G', rfl, hM1, hM2, _, A6, cap6, rfl, hc6, hm6, hy6, hb6⟩
    have HEq : Hid (G' = G) := Sp.norm_unique hM1 HR.out.1 hM2
    obtain rfl := HEq.out
    have Y6 := Lib.hid hy6
    have Y3' := Lib.hid (Y3.out.on (Nat.le_refl _) hb6)
    have Y2 := Lib.hid (Y2'.out.on (Nat.le_refl _) hb6)
    have B6 : Hid (Below w.heap.size w w6) := B5.out.trans (hb6.mono hs5)
    have hs6 := B6.out.size
    clear hM1 hM2 hy6 hb6 hm6 hc6 Y3 Y2' HEq
    go_wp2_with fail
    refine (same_run A6 A2 G'.length G'.length cap6 cap2 G' G' true w6 Y6.out Y2.out rfl rfl (by show _ = _; simp) (by omega) (by omega)).mono ?_
    rintro e w7 ⟨rfl, q7, hq7⟩
    have hb7 : Below w6.heap.size w6 w7 := hq7 ▸ below_drewN (Below.refl _ _) q7
    have Y2' := Lib.hid (Y2.out.on (Nat.le_refl _) hb7)
    have Y3 := Lib.hid (Y3'.out.on (Nat.le_refl _) hb7)
    have B7 : Hid (Below w.heap.size w w7) := B6.out.trans (hb7.mono hs6)
    have hs7 := B7.out.size
    clear hq7 hb7 Y6 Y2 Y3'
    -- the first two appends
    have O0 : Hid (OwnV pairCells 2 23 (w7.alloc (.cells #[] 23)) w7.heap.size (.slice (some ⟨w7.heap.size, 0, none⟩) 0 0) ([] : List (Int × Int))) := OwnV.lit pair_enc _ w7 w7.heap.size [] (Nat.le_refl _) (by simp)
    have BX : Hid (Below w7.heap.size w7 (w7.alloc (.cells #[] 23))) := (Below.refl _ _).alloc (Nat.le_refl _) _
    have NM := Lib.hid (Y3.out.below BX.out (Nat.le_refl _))
    have hb0 : w7.heap.size ≤ (w7.alloc (.cells #[] 23)).heap.size := by simp
    go_wp2_with (first
      | (at_builtin
         refine wpList_appV span_slice _ rfl (.tmp 45) (.tmp 46) rfl w7.heap.size _ _ rfl O0.out w7.heap.size A3 M'.length cap3 M' rfl NM.out rfl (by simp) (by omega) hb0 ?_
         intro v8 w8 o8 g8 t8
         have BY : Hid (Below w7.heap.size w7 w8) := BX.out.grown g8 hb0 (ownV_ge O0.out)
         have O8 : Hid (OwnV pairCells 2 23 w8 w7.heap.size v8 M') := by show OwnV _ _ _ _ _ _ _; simpa using o8
         have NG := Lib.hid (Y2'.out.below BY.out (Nat.le_refl _))
         have hb8 : w7.heap.size ≤ w8.heap.size := BY.out.size
         clear o8 g8 t8)
      | (at_builtin
         refine wpList_appV span_slice _ rfl (.tmp 47) (.tmp 48) rfl w7.heap.size _ _ rfl O8.out w7.heap.size A2 G'.length cap2 G' rfl NG.out rfl (by omega) (by omega) hb8 ?_
         intro v9 w9 o9 g9 t9
         have BZ : Hid (Below w7.heap.size w7 w9) := BY.out.grown g9 hb8 (ownV_ge O8.out)
         obtain ⟨A9, cap9, hv9, hc9, hm9, y9⟩ := OwnV.cells o9
         have Y9 := Lib.hid y9
         have hs9 : w7.heap.size ≤ w9.heap.size := BZ.out.size
         clear o9 g9 t9 y9
         subst hv9))
    have B9 : Hid (Below w.heap.size w w9) := B7.out.trans (BZ.out.mono hs7)
    have hsw9 := B9.out.size
    have HMl : Hid (M'.length ≤ 20 ∧ G'.length ≤ 255) := ⟨hMl2, hGl2⟩
    refine (merge_run A9 (M'.length + G'.length) cap9 (M' ++ G') w9 Y9.out (by show _ = _; rw [List.length_append]) (by omega)).mono ?_
    rintro e w10 ⟨v10, AL, rfl, hM1, hM2, hM3, A10, cap10, rfl, hc10, hm10, hy10, hb10⟩
    have HAL : Hid (AL = if s = 0 then [] else [((0 : Int), (s : Int))]) := norm_all hM1 fun x => by
      rw [hM2, Sp.has_append, HR.out.2 x, HM.out.2.1]
      show _ ∨ 0 ≤ x ∧ x < s ∧ ¬ Sp.Has l x ↔ _
      constructor
      · rintro (h | h)
        · obtain ⟨t, ht, h1, h2⟩ := (HM.out.2.1 x).2 h
          have := HMin.out t ht
          omega
        · exact ⟨h.1, h.2.1⟩
      · rintro ⟨h1, h2⟩
        by_cases h : Sp.Has l x
        · exact .inl h
        · exact .inr ⟨h1, h2, h⟩
    have Y10 := Lib.hid hy10
    have Y3' : Hid (CellsV pairCells w10 w10.heap.size A3 M') := (Y3.out.on (Nat.le_refl _) BZ.out).on (Nat.le_refl _) hb10
    have Y2 : Hid (CellsV pairCells w10 w10.heap.size A2 G') := (Y2'.out.on (Nat.le_refl _) BZ.out).on (Nat.le_refl _) hb10
    have B10 : Hid (Below w.heap.size w w10) := B9.out.trans (hb10.mono hsw9)
    have hs10 := B10.out.size
    clear hM1 hM2 hM3 hy10 hb10 hm10 hc10 Y9 Y3 Y2' BX BY BZ O0 O8 NM NG hb0 hb8 hs9 B7 hs7 hsw9 B9
    have O0 : Hid (OwnV pairCells 2 23 (w10.alloc (.cells #[] 23)) w10.heap.size (.slice (some ⟨w10.heap.size, 0, none⟩) 0 0) ([] : List (Int × Int))) := OwnV.lit pair_enc _ w10 w10.heap.size [] (Nat.le_refl _) (by simp)
    have BX : Hid (Below w10.heap.size w10 (w10.alloc (.cells #[] 23))) := (Below.refl _ _).alloc (Nat.le_refl _) _
    have NM := Lib.hid (Y3'.out.below BX.out (Nat.le_refl _))
    have hb0 : w10.heap.size ≤ (w10.alloc (.cells #[] 23)).heap.size := by simp
    go_wp2_with (first
      | (at_builtin
         refine wpList_appV span_slice _ rfl (.tmp 51) (.tmp 52) rfl w10.heap.size _ _ rfl O0.out w10.heap.size A3 M'.length cap3 M' rfl NM.out rfl (by simp) (by omega) hb0 ?_
         intro v11 w11 o8 g8 t8
         have BY : Hid (Below w10.heap.size w10 w11) := BX.out.grown g8 hb0 (ownV_ge O0.out)
         have O8 : Hid (OwnV pairCells 2 23 w11 w10.heap.size v11 M') := by show OwnV _ _ _ _ _ _ _; simpa using o8
         have NG := Lib.hid (Y2.out.below BY.out (Nat.le_refl _))
         have hb8 : w10.heap.size ≤ w11.heap.size := BY.out.size
         clear o8 g8 t8)
      | (at_builtin
         refine wpList_appV span_slice _ rfl (.tmp 53) (.tmp 54) rfl w10.heap.size _ _ rfl O8.out w10.heap.size A2 G'.length cap2 G' rfl NG.out rfl (by omega) (by omega) hb8 ?_
         intro v12 w12 o9 g9 t9
         have BZ : Hid (Below w10.heap.size w10 w12) := BY.out.grown g9 hb8 (ownV_ge O8.out)
         obtain ⟨A12, cap12, hv9, hc9, hm9, y9⟩ := OwnV.cells o9
         have Y12 := Lib.hid y9
         have hs12 : w10.heap.size ≤ w12.heap.size := BZ.out.size
         clear o9 g9 t9 y9
         subst hv9))
    have B12 : Hid (Below w.heap.size w w12) := B10.out.trans (BZ.out.mono hs10)
    have hsw12 := B12.out.size
    have Y10' : Hid (CellsV pairCells w12 w12.heap.size A10 AL) := Y10.out.on (Nat.le_refl _) BZ.out
    obtain ⟨Q, hQ⟩ : ∃ Q, Q = M' ++ G' := ⟨_, rfl⟩
    have HQ := Lib.hid hQ
    rw [← hQ] at Y12
    obtain ⟨m, hm'⟩ : ∃ m, m = M'.length + G'.length := ⟨_, rfl⟩
    have HQl : Hid (Q.length = m) := by show _ = _; rw [hQ, List.length_append, hm']
    have hm275 : m ≤ 275 := by omega
    have HQin : Hid (∀ t ∈ Q, 0 ≤ t.1 ∧ t.1 < t.2 ∧ t.2 ≤ 255) := fun t ht => by
      rw [hQ] at ht
      rcases List.mem_append.1 ht with h | h
      · have h1 := HMin.out t h
        have h2 := HM.out.1.1 t h
        omega
      · have h1 := HGin.out t h
        have h2 := HR.out.1.1 t h
        omega
    have HSum : Hid (lenL Q = s) := by show _ = _; rw [hQ, lenL_append]; exact HFill.out
    simp only [← hm']
    have hmI : (M'.length : Int) + (G'.length : Int) = (m : Int) := by omega
    simp only [hmI]
    clear hQ hm' BX BY BZ O0 O8 NM NG hb0 hb8 hs12 Y10 Y3' Y2 HMl hMl2 hGl2 HQ
    go_wp2_with fail
    go_loopg [10, 57] (m + 1) (fun h s10 s57 wr => ∃ (j : Nat) (c : Int), s10 = .int .i64 c ∧ s57 = .int .i64 j ∧ Hid (j ≤ m ∧ m < j + h) ∧ Hid (c = lenL (Q.take j) ∧ 0 ≤ c ∧ c ≤ 255 * (j : Int)) ∧ Hid (Below w12.heap.size w12 wr))
    case atStart => exact ⟨0, 0, rfl, rfl, by show _ ∧ _; omega, by show _ ∧ _; rw [List.take_zero]; simp [lenL], Below.refl _ _⟩
    case round =>
      obtain ⟨j, c, rfl, rfl, HJ, HCt, BJ⟩ := hrel
      have hsJ := BJ.out.size
      by_cases hlt2 : j < m
      · have hltz2 : (j : Int) < (m : Int) := by omega
        obtain ⟨g, o, rfl, hg, hc⟩ := spans_get Y12.out (by have := HQl.out; omega)
        obtain ⟨p, hp⟩ : ∃ p, Q[j]? = some p := ⟨_, List.getElem?_eq_getElem (by rw [HQl.out]; exact hlt2)⟩
        have HT := Lib.hid (lenL_take hp)
        have HPi := Lib.hid (HQin.out p (List.mem_of_getElem? hp))
        have c0 := (BJ.out.cell (p := ⟨g, o + j * 2, none⟩) hg).trans (hc j p hp).1
        have c1 := (BJ.out.cell (p := ⟨g, o + j * 2 + 1, none⟩) hg).trans (hc j p hp).2
        obtain ⟨p, q⟩ := p
        simp only [] at c0 c1
        have b1 := HPi.out
        simp only [] at b1
        obtain ⟨b1, b2, b3⟩ := b1
        have hcb : 0 ≤ c := HCt.out.2.1
        have hcb2 : c ≤ 255 * 275 := by have := HCt.out.2.2; omega
        clear hc hp hg
        go_wp2_with fail
        go_roundg (m - j)
        case measure => have := HJ.out; omega
        case rel => exact ⟨j + 1, _, rfl, by go_num, by show _ ∧ _; have := HJ.out; omega, by show _ ∧ _; have h1 := HT.out; have h2 := HCt.out; omega, BJ.out.alloc hsJ _⟩
      · have hltz2 : ¬ (j : Int) < (m : Int) := by omega
        have HCs : Hid (c = s) := by
          show _ = _
          rw [HCt.out.1, List.take_of_length_le (by have := HQl.out; omega), HSum.out]
        have BF : Hid (Below w.heap.size w wr) := B12.out.trans (BJ.out.mono hsw12)
        have hsF := BF.out.size
        have YF : Hid (CellsV pairCells wr wr.heap.size A10 AL) := Y10'.out.on (Nat.le_refl _) BJ.out
        obtain rfl := HCs.out
        clear BJ HJ HCt Y10' B12 hsJ HCs
        by_cases hs0 : s = 0
        · have hAL : AL = [] := by rw [HAL.out, if_pos hs0]
          have e0 : ((s : Int) == 0) = true := by simp; omega
          subst hAL
          simp only [List.length_nil]
          clear HAL
          go_wp2_with fail
          refine (HWk.out wr).mono ?_
          rintro e w14 ⟨rfl, hw14⟩
          go_wp2_with fail
          go_ret
          exact ⟨rfl, BF.out.trans (hw14.mono hsF)⟩
        · have hAL : AL = [((0 : Int), (s : Int))] := by rw [HAL.out, if_neg hs0]
          have e0 : ((s : Int) == 0) = false := by simp; omega
          have e1 : ((s : Int) == (s : Int)) = true := by simp
          subst hAL
          simp only [List.length_cons, List.length_nil]
          clear HAL
          have S1 : Hid (CellsV pairCells (wr.alloc (.cells #[.int .i64 0, .int .i64 s] 23)) (wr.heap.size + 1) (some ⟨wr.heap.size, 0, none⟩) [(0, (s : Int))]) := one_cells wr 0 s _
          have BX : Hid (Below wr.heap.size wr (wr.alloc (.cells #[.int .i64 0, .int .i64 s] 23))) := (Below.refl _ _).alloc (Nat.le_refl _) _
          have YF' := Lib.hid (YF.out.below BX.out (Nat.le_refl _))
          go_wp2_with fail
          refine (same_run A10 (some ⟨wr.heap.size, 0, none⟩) 1 1 cap10 1 [(0, (s : Int))] [(0, (s : Int))] true _ YF'.out S1.out rfl rfl (by show _ = _; simp) (by omega) (by omega)).mono ?_
          rintro e w13 ⟨rfl, q13, hq13⟩
          have B13 : Hid (Below w.heap.size w w13) := BF.out.trans ((BX.out.trans (hq13 ▸ below_drewN (Below.refl _ _) q13)).mono hsF)
          have hs13 := B13.out.size
          clear hq13 YF YF' S1 BX
          go_wp2_with fail
          refine (HWk.out w13).mono ?_
          rintro e w14 ⟨rfl, hw14⟩
          go_wp2_with fail
          go_ret
          exact ⟨rfl, B13.out.trans (hw14.mono hs13)⟩
  · have HG : Hid (G = []) := hG1 (by rw [hc]; exact h0)
    obtain rfl := HG.out
    rw [hc, errOf_pos h0]
    clear hG1 hG2 hGl hc
    simp only [List.length_nil]
    go_wp2_with fail
    refine (HWk.out w2).mono ?_
    rintro e w3 ⟨rfl, hw3⟩
    go_wp2_with fail
    go_ret
    exact ⟨rfl, B2.out.trans (hw3.mono hs2)⟩
end Go.Proofs.Ytnbnohphdehfoaa
