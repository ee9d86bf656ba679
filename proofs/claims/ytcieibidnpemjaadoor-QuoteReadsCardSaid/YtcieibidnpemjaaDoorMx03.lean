/-
  Stage 10: the document's between.
-/
import Derived.Test.YtcieibidnpemjaaDoorMx02
import Derived.Laws.IdiomStrings
namespace Go.Proofs.YtcieibidnpemjaaDoor
open Go.RowKit Go.Sort
set_option linter.unusedSimpArgs false
def betB (q : UInt8) (l : List UInt8) : Bool := decide (2 ≤ l.length) && (decide (l[0]? = some q) && decide (l[l.length - 1]? = some q))
theorem eq_byteq {a k : UInt8} : ((a.toNat : Int) == (k.toNat : Int)) = decide (some a = some k) := by
 rw [Bool.eq_iff_iff]
 simp only [beq_iff_eq, decide_eq_true_eq, Option.some.injEq]
 constructor
 ·intro h
  exact UInt8.toNat_inj.1 (by omega)
 ·rintro rfl; rfl
set_option maxRecDepth 100000 in
set_option maxHeartbeats 2000000 in
theorem between_run (l : List UInt8) (q : UInt8) (w : World) (hl : l.length ≤ 100000) :
  Calls Tryd.prog 19 #[.string (bs l), .int .u8 (q.toNat : Int)] w fun e w' => e = .returned (.bool (betB q l)) ∧ w' = w := by
 have hsz := bs_size l
 by_cases h2 : 2 ≤ l.length
 ·have h2z : (2 : Int) ≤ (l.length : Int) := by omega
  obtain ⟨a, ha⟩ : ∃ a, l[0]? = some a := ⟨l[0]'(by omega), List.getElem?_eq_getElem _⟩
  obtain ⟨k, hk⟩ : ∃ k, l.length - 1 = k := ⟨_, rfl⟩
  obtain ⟨c, hc⟩ : ∃ c, l[k]? = some c := ⟨l[k]'(by omega), List.getElem?_eq_getElem _⟩
  have hx := bs_get ha
  rw [Int.natCast_zero] at hx
  have hy := bs_get hc
  have hkz : (l.length : Int) - 1 = (k : Int) := by omega
  have hkl : k < l.length := by omega
  have hb : Hid (betB q l = (((a.toNat : Int) == (q.toNat : Int)) && ((c.toNat : Int) == (q.toNat : Int)))) := by
   show _ = _
   unfold betB
   rw [hk, ha, hc, decide_eq_true h2, Bool.true_and, eq_byteq, eq_byteq]
  obtain ⟨p, hp⟩ : ∃ p, ((a.toNat : Int) == (q.toNat : Int)) = p := ⟨_, rfl⟩
  obtain ⟨r, hr⟩ : ∃ r, ((c.toNat : Int) == (q.toNat : Int)) = r := ⟨_, rfl⟩
  rw [hp, hr] at hb
  clear ha hc hk h2
  generalize a.toNat = an at *
  generalize c.toNat = cn at *
  generalize q.toNat = qn at *
  generalize l.length = n at *
  generalize bs l = z at *
  cases p <;> cases r <;>
  ·go_enter Tryd.func19, Tryd.ntmps19
   go_wp2_with fail
   go_ret
   exact ⟨by rw [hb.out]; rfl, rfl⟩
 ·have h2z : ¬ (2 : Int) ≤ (l.length : Int) := by omega
  have hb : Hid (betB q l = false) := by
   show _ = _
   unfold betB
   rw [decide_eq_false h2, Bool.false_and]
  clear h2
  go_enter Tryd.func19, Tryd.ntmps19
  go_wp2_with fail
  go_ret
  exact ⟨by rw [hb.out]; rfl, rfl⟩
end Go.Proofs.YtcieibidnpemjaaDoor
namespace Go.Proofs.YtcieibidnpemjaaDoor
open Go.RowKit Go.Sort
set_option linter.unusedSimpArgs false
def bts (s : ByteArray) : List Int := s.data.toList.map fun b => (b.toNat : Int)
theorem bts_length (s : ByteArray) : (bts s).length = s.size := by simp [bts]
theorem bts_byt (s : ByteArray) : U.Byt (bts s) := fun x hx => by
 simp only [bts, List.mem_map] at hx
 obtain ⟨b, _, rfl⟩ := hx
 have := b.toNat_lt
 omega
theorem bts_cells (s : ByteArray) : s.data.map (fun b => Value.int .u8 b.toNat) = ((bts s).map fun x => Value.int .u8 x).toArray := by
 apply Array.ext'
 simp [bts, Function.comp_def]
theorem run_conv_str (w : World) (s : ByteArray) (hs : s.size ≤ maxLen) : ∃ cap w', (convert 9 35 (.string s)).run Tryd.prog w = .ok (.slice (some ⟨w.heap.size, 0, none⟩) s.size cap) w' ∧ s.size ≤ cap ∧ cap ≤ maxLen ∧ Byts w' w'.heap.size (some ⟨w.heap.size, 0, none⟩) (bts s) ∧ Below w.heap.size w w' := by
 refine ⟨_, _, run_bytes_of_string w _ _ _ s Tryd.underlying9 Tryd.underlying35 Tryd.underlying5, grownCap_ge _ _ _ _, grownCap_le_maxLen _ _ _ _ hs, ⟨bts_byt s, fun _ => ⟨_, _, rfl, by simp, fun i x hx => ?_⟩⟩, ?_⟩
 ·have := World.cell?_alloc_mark w.drew (bytesRow s (grownCap w s.size 0 5)) 5 ((bytesRow s (grownCap w s.size 0 5)).size, (bytesRow s (grownCap w s.size 0 5)).size + 1) (0 + i)
  rw [show w.drew.heap.size = w.heap.size from rfl] at this
  rw [this, bytesRow, bts_cells, Nat.zero_add]
  have hi := (List.getElem?_eq_some_iff.1 hx).1
  rw [Array.getElem?_append_left (by simpa using hi)]
  simp [hx]
 ·exact (Below.refl _ w).drew.alloc (Nat.le_refl _) _
theorem bts_bs (l : List UInt8) : bts (bs l) = bi l := by
 unfold bts bi
 rw [bs_list]
end Go.Proofs.YtcieibidnpemjaaDoor
namespace Go.Proofs.YtcieibidnpemjaaDoor
open Go.RowKit Go.Sort
set_option linter.unusedSimpArgs false
def chrIn (l : List UInt8) : List UInt8 := (l.take (l.length - 1)).drop 1
theorem chr_in {l : List UInt8} (h : 3 ≤ l.length) : (chrIn l).length = l.length - 2 ∧ (chrIn l)[0]? = l[1]? := by
 unfold chrIn
 constructor
 ·rw [List.length_drop, List.length_take]; omega
 ·rw [List.getElem?_drop, List.getElem?_take, if_pos (by omega)]
theorem chr_len (l : List UInt8) : (chrIn l).length = l.length - 2 := by
 unfold chrIn
 rw [List.length_drop, List.length_take]; omega
theorem chr_get {l : List UInt8} {j : Nat} (h : j + 2 < l.length) : (chrIn l)[j]? = l[j + 1]? := by
 unfold chrIn
 rw [List.getElem?_drop, List.getElem?_take, if_pos (by omega), Nat.add_comm]
theorem bet_len {q : UInt8} {l : List UInt8} (h : betB q l = true) : 2 ≤ l.length := by
 unfold betB at h
 rw [Bool.and_eq_true, decide_eq_true_eq] at h
 exact h.1
def encI (v : Int) (bt : Bool) : List Int := if bt = true then [v] else U.enc v
def encB (v : Int) (bt : Bool) : List UInt8 := (encI v bt).map fun x => UInt8.ofNat x.toNat
theorem encB_len (v : Int) (bt : Bool) : (encB v bt).length ≤ 4 := by
 unfold encB encI
 rw [List.length_map]
 split
 ·show 1 ≤ 4; decide
 ·rw [U.enc_length]; exact (U.rlen_pos v).2
def catT (x : List UInt8) (r : Nat × List UInt8) : Nat × List UInt8 := if r.1 = 0 then (0, x ++ r.2) else (r.1, [])
theorem catT_catT (x y : List UInt8) (r : Nat × List UInt8) : catT x (catT y r) = catT (x ++ y) r := by
 unfold catT
 by_cases h : r.1 = 0
 ·rw [if_pos h, if_pos rfl, if_pos h, List.append_assoc]
 ·rw [if_neg h, if_neg h, if_neg h]
theorem catT_err (x : List UInt8) {n : Nat} (h : n ≠ 0) : catT x (n, []) = (n, []) := if_neg h
theorem catT_ok (x y : List UInt8) : catT x (0, y) = (0, x ++ y) := if_pos rfl
theorem catT_nil (r : Nat × List UInt8) (h : r.1 ≠ 0 → r.2 = []) : catT [] r = r := by
 unfold catT
 obtain ⟨a, b⟩ := r
 by_cases g : a = 0
 ·subst g; rfl
 ·rw [if_neg g]; rw [show b = [] from h g]
def rawR : List UInt8 → Nat × List UInt8
 | [] => (0, [])
 | c :: t => if c = 96 then (8, []) else catT (if c = 13 then [] else [c]) (rawR t)
def txtR : Nat → List UInt8 → Nat × List UInt8
 | 0, _ => (0, [])
 | _ + 1, [] => (0, [])
 | f + 1, c :: t => if c = 34 ∨ c = 10 then (8, []) else if c = 92 then (if (escF 34 (c :: t)).2.2 = 0 then (14, []) else catT (encB (escF 34 (c :: t)).1 (escF 34 (c :: t)).2.1) (txtR f ((c :: t).drop (escF 34 (c :: t)).2.2))) else catT [c] (txtR f t)
theorem txtR_nil (f : Nat) : txtR f [] = (0, []) := by cases f <;> rfl
theorem txtR_bad {f : Nat} {c : UInt8} {t : List UInt8} (h : c = 34 ∨ c = 10) : txtR (f + 1) (c :: t) = (8, []) := if_pos h
theorem txtR_one {f : Nat} {c : UInt8} {t : List UInt8} (h : ¬ (c = 34 ∨ c = 10)) (g : c ≠ 92) : txtR (f + 1) (c :: t) = catT [c] (txtR f t) := (if_neg h).trans (if_neg g)
theorem txtR_none {f : Nat} {t : List UInt8} {v : Int} {bt : Bool} (h : escF 34 (92 :: t) = (v, bt, 0)) : txtR (f + 1) (92 :: t) = (14, []) := by
 show (if _ then _ else _) = _
 rw [if_neg (by decide), if_pos rfl, h, if_pos rfl]
theorem txtR_esc {f : Nat} {t : List UInt8} {v : Int} {bt : Bool} {sz : Nat} (h : escF 34 (92 :: t) = (v, bt, sz)) (hs : sz ≠ 0) : txtR (f + 1) (92 :: t) = catT (encB v bt) (txtR f ((92 :: t).drop sz)) := by
 show (if _ then _ else _) = _
 rw [if_neg (by decide), if_pos rfl, h, if_neg hs]
theorem txtR_plain : ∀ (f : Nat) (l : List UInt8), (txtR f l).1 ≠ 0 → (txtR f l).2 = []
 | 0, _, h => absurd rfl h
 | _ + 1, [], h => absurd rfl h
 | f + 1, c :: t, h => by
  unfold txtR at h ⊢
  split
  ·rfl
  ·split
   ·split
    ·rfl
    ·rename_i h1 h2 h3
     rw [if_neg h1, if_pos h2, if_neg h3] at h
     unfold catT at h ⊢
     split
     ·rename_i h4; rw [if_pos h4] at h; exact absurd rfl h
     ·rfl
   ·rename_i h1 h2
    rw [if_neg h1, if_neg h2] at h
    unfold catT at h ⊢
    split
    ·rename_i h4; rw [if_pos h4] at h; exact absurd rfl h
    ·rfl
theorem rawR_plain : ∀ (l : List UInt8), (rawR l).1 ≠ 0 → (rawR l).2 = []
 | [], h => absurd rfl h
 | c :: t, h => by
  unfold rawR at h ⊢
  split
  ·rfl
  ·rename_i h1
   rw [if_neg h1] at h
   unfold catT at h ⊢
   split
   ·rename_i h4; rw [if_pos h4] at h; exact absurd rfl h
   ·rfl
def textF (l : List UInt8) : Nat × List UInt8 :=
 if betB 96 l = true then rawR (chrIn l) else if betB 34 l = true then txtR (l.length + 1) (chrIn l) else (8, [])
theorem numZ_len {B k : Nat} {l : List UInt8} (h : 0 ≤ numZ B k l) : k ≤ l.length := by
 rcases Nat.lt_or_ge l.length k with g | g
 ·rw [numZ_short g] at h; exact absurd h (by decide)
 ·exact g
theorem escF_size {q : UInt8} {l : List UInt8} {v : Int} {bt : Bool} {sz : Nat} (h : escF q l = (v, bt, sz)) (hs : sz ≠ 0) : 2 ≤ sz ∧ sz ≤ l.length ∧ sz ≤ 10 ∧ (bt = true → 0 ≤ v ∧ v < 256) ∧ (bt = false → U.isRune v = true) := by
 match l, h with
 | [], h => cases h; exact absurd rfl hs
 | [x], h => cases h; exact absurd rfl hs
 | x :: c :: t, h =>
  have hr : ∀ (z : Int) (n : Nat), runE z n = (v, bt, sz) → 2 ≤ n → n ≤ 10 → (0 ≤ z → n ≤ t.length + 2) → 2 ≤ sz ∧ sz ≤ t.length + 2 ∧ sz ≤ 10 ∧ (bt = true → 0 ≤ v ∧ v < 256) ∧ (bt = false → U.isRune v = true) := by
   intro z n hz h2 h10 hl
   unfold runE at hz
   split at hz
   ·rename_i g
    cases hz
    exact ⟨h2, hl g.1, h10, nofun, fun _ => g.2⟩
   ·cases hz; exact absurd rfl hs
  have hl : (x :: c :: t).length = t.length + 2 := rfl
  rw [hl]
  rw [escF_eq] at h
  split at h
  ·cases h
   refine ⟨Nat.le_refl _, by omega, by decide, fun _ => ⟨by omega, ?_⟩, nofun⟩
   unfold ltrF
   repeat' split
   all_goals decide
  ·split at h
   ·cases h
    exact ⟨Nat.le_refl _, by omega, by decide, fun _ => ⟨by omega, by have := c.toNat_lt; omega⟩, nofun⟩
   ·split at h
    ·split at h
     ·rename_i g
      cases h
      have h1 := numZ_len g
      have h2 := (numZ_lt 2 16 t (by decide)).1
      exact ⟨by decide, by omega, by decide, fun _ => ⟨g, by omega⟩, nofun⟩
     ·cases h; exact absurd rfl hs
    ·split at h
     ·exact hr _ _ h (by decide) (by decide) fun g => by have := numZ_len g; omega
     ·split at h
      ·exact hr _ _ h (by decide) (by decide) fun g => by have := numZ_len g; omega
      ·split at h
       ·rename_i g
        cases h
        have h1 := numZ_len g.1
        rw [List.length_cons] at h1
        exact ⟨by decide, by omega, by decide, fun _ => g, nofun⟩
       ·cases h; exact absurd rfl hs
end Go.Proofs.YtcieibidnpemjaaDoor
namespace Go.Proofs.YtcieibidnpemjaaDoor
open Go.RowKit Go.Sort
set_option linter.unusedSimpArgs false
def charF (l : List UInt8) : Int × Nat :=
 if betB 39 l = false ∨ l.length = 2 ∨ l[1]? = some 39 ∨ l[1]? = some 10 then (0, 8)
 else if (chrIn l)[0]? = some 92 then
  (if (escF 39 (chrIn l)).2.2 = 0 then (0, 14) else if (escF 39 (chrIn l)).2.2 ≠ (chrIn l).length then (0, 8) else ((escF 39 (chrIn l)).1, 0))
 else match U.dec (bi (chrIn l)) with
  | none => (0, 3)
  | some (r, n) => if n ≠ (chrIn l).length then (0, 8) else (r, 0)
set_option maxRecDepth 100000 in
set_option maxHeartbeats 4000000 in
theorem Char_run (l : List UInt8) (r : Int) (k : Nat) (w : World) (hl : l.length ≤ 100000) (h : Hid (charF l = (r, k))) :
  Calls Tryd.prog 7 #[.string (bs l)] w fun e w' => e = .returned (.tuple #[.int .i64 r, .int .i64 (k : Int)]) ∧ Below w.heap.size w w' := by
 have hsz := bs_size l
 have HBT0 : ∀ V, Calls Tryd.prog 19 #[.string (bs l), .int .u8 39] V fun e w' => e = .returned (.bool (betB 39 l)) ∧ w' = V := fun V => between_run l 39 V hl
 cases hb : betB 39 l
 ·rw [hb] at HBT0
  have HX : Hid (r = 0 ∧ k = 8) := by
   have := h.out
   unfold charF at this
   rw [if_pos (.inl hb)] at this
   cases this
   exact ⟨rfl, rfl⟩
  have HBT := Lib.hid HBT0
  clear h hb HBT0
  generalize bs l = z at *
  go_enter Tryd.func7, Tryd.ntmps7
  go_wp2_with fail
  refine (HBT.out _).mono ?_
  rintro e w1 ⟨rfl, rfl⟩
  go_wp2_with fail
  go_ret2
  exact ⟨by rw [HX.out.1, HX.out.2]; rfl, Below.refl _ _⟩
 ·rw [hb] at HBT0
  have h2 := bet_len hb
  have HBT := Lib.hid HBT0
  clear HBT0
  by_cases h3 : l.length = 2
  ·have HX : Hid (r = 0 ∧ k = 8) := by
    have := h.out
    unfold charF at this
    rw [if_pos (.inr (.inl h3))] at this
    cases this
    exact ⟨rfl, rfl⟩
   have h3z : ((l.length : Int) == 2) = true := by rw [h3]; rfl
   clear h hb h2 h3
   generalize l.length = n at *
   generalize bs l = z at *
   go_enter Tryd.func7, Tryd.ntmps7
   go_wp2_with fail
   refine (HBT.out _).mono ?_
   rintro e w1 ⟨rfl, rfl⟩
   go_wp2_with fail
   go_ret2
   exact ⟨by rw [HX.out.1, HX.out.2]; rfl, Below.refl _ _⟩
  ·have h3z : ((l.length : Int) == 2) = false := beq_eq_false_iff_ne.2 (by omega)
   obtain ⟨c, hc⟩ : ∃ c, l[1]? = some c := ⟨l[1]'(by omega), List.getElem?_eq_getElem _⟩
   have hx0 := bs_get hc
   have hx : ∀ W, (Instr.index 9 (.string (bs l)) (.int .i64 1)).run Tryd.prog W = .ok (.int .u8 (c.toNat : Int)) W := hx0
   clear hx0
   have h1l : 1 < l.length := by omega
   by_cases h39 : c = 39
   ·have HX : Hid (r = 0 ∧ k = 8) := by
     have := h.out
     unfold charF at this
     rw [if_pos (.inr (.inr (.inl (by rw [hc, h39]))))] at this
     cases this
     exact ⟨rfl, rfl⟩
    subst h39
    have hx1 : ∀ W, (Instr.index 9 (.string (bs l)) (.int .i64 1)).run Tryd.prog W = .ok (.int .u8 39) W := hx
    clear h hb h2 h3 hc hx
    generalize l.length = n at *
    generalize bs l = z at *
    go_enter Tryd.func7, Tryd.ntmps7
    go_wp2_with fail
    refine (HBT.out _).mono ?_
    rintro e w1 ⟨rfl, rfl⟩
    go_wp2_with fail
    go_ret2
    exact ⟨by rw [HX.out.1, HX.out.2]; rfl, Below.refl _ _⟩
   ·have e39 : ((c.toNat : Int) == 39) = false := eq_byte h39
    by_cases h10 : c = 10
    ·have HX : Hid (r = 0 ∧ k = 8) := by
      have := h.out
      unfold charF at this
      rw [if_pos (.inr (.inr (.inr (by rw [hc, h10]))))] at this
      cases this
      exact ⟨rfl, rfl⟩
     subst h10
     have hx1 : ∀ W, (Instr.index 9 (.string (bs l)) (.int .i64 1)).run Tryd.prog W = .ok (.int .u8 10) W := hx
     clear h hb h2 h3 hc hx e39
     generalize l.length = n at *
     generalize bs l = z at *
     go_enter Tryd.func7, Tryd.ntmps7
     go_wp2_with fail
     refine (HBT.out _).mono ?_
     rintro e w1 ⟨rfl, rfl⟩
     go_wp2_with fail
     go_ret2
     exact ⟨by rw [HX.out.1, HX.out.2]; rfl, Below.refl _ _⟩
    ·have e10 : ((c.toNat : Int) == 10) = false := eq_byte h10
     have hcf : charF l = if (chrIn l)[0]? = some 92 then
       (if (escF 39 (chrIn l)).2.2 = 0 then (0, 14) else if (escF 39 (chrIn l)).2.2 ≠ (chrIn l).length then (0, 8) else ((escF 39 (chrIn l)).1, 0))
       else match U.dec (bi (chrIn l)) with
        | none => (0, 3)
        | some (r, n) => if n ≠ (chrIn l).length then (0, 8) else (r, 0) := if_neg (fun g => by
      rcases g with g | g | g | g
      ·rw [hb] at g; cases g
      ·exact h3 g
      ·rw [hc] at g; exact h39 (Option.some.inj g)
      ·rw [hc] at g; exact h10 (Option.some.inj g))
     obtain ⟨g1, g2⟩ := chr_in (l := l) (by omega)
     have hex : (bs l).extract 1 (l.length - 1) = bs (chrIn l) := bs_extract l 1 (l.length - 1)
     have h' := h.out
     rw [hcf] at h'
     rw [hc] at g2
     have hml : (chrIn l).length ≤ 100000 := by omega
     obtain ⟨p, hp⟩ : ∃ p, l.length - 1 = p := ⟨_, rfl⟩
     have hpz : (l.length : Int) - 1 = (p : Int) := by omega
     have hp1 : 1 ≤ p := by omega
     have hpn : p ≤ l.length := by omega
     rw [hp] at hex
     generalize chrIn l = m at *
     obtain ⟨j, hj⟩ : ∃ j, m.length = j := ⟨_, rfl⟩
     have hmz := bs_size m
     rw [hj] at hmz g1
     have hj0 : 0 < j := by omega
     clear g1
     have hxm0 := bs_get g2
     rw [Int.natCast_zero] at hxm0
     by_cases h92 : c = 92
     ·rw [g2, h92, if_pos rfl] at h'
      obtain ⟨v, bt, sz, hes⟩ : ∃ v bt sz, escF 39 m = (v, bt, sz) := ⟨_, _, _, rfl⟩
      rw [hes] at h'
      have HES : Hid (∀ V, Calls Tryd.prog 20 #[.string (bs m), .int .u8 39] V fun e w' => e = .returned (.tuple #[.int .i64 v, .int .i64 (b2i bt), .int .i64 (sz : Int)]) ∧ Below V.heap.size V w') := fun V => Escape_run m 39 v bt sz V hml hes
      subst h92
      have hx1 : ∀ W, (Instr.index 9 (.string (bs l)) (.int .i64 1)).run Tryd.prog W = .ok (.int .u8 92) W := hx
      have hx2 : ∀ W, (Instr.index 9 (.string (bs m)) (.int .i64 0)).run Tryd.prog W = .ok (.int .u8 92) W := hxm0
      have HJ := Lib.hid hj
      clear h hb h2 h3 hc hx e39 e10 h39 h10 hcf hp hxm0 g2 hes hml hj
      generalize b2i bt = bz at *
      generalize l.length = n at *
      generalize bs l = z at *
      generalize bs m = y at *
      by_cases hs0 : sz = 0
      ·have HX : Hid (r = 0 ∧ k = 14) := by
        rw [if_pos hs0] at h'
        cases h'
        exact ⟨rfl, rfl⟩
       subst hs0
       rw [Int.natCast_zero] at HES
       clear h'
       go_enter Tryd.func7, Tryd.ntmps7
       go_wp2_with fail
       refine (HBT.out _).mono ?_
       rintro e w1 ⟨rfl, rfl⟩
       go_wp2_with fail
       refine (HES.out _).mono ?_
       rintro e w2 ⟨rfl, hw⟩
       have HW := Lib.hid hw
       clear hw
       go_wp2_with fail
       go_ret2
       exact ⟨by rw [HX.out.1, HX.out.2]; rfl, HW.out⟩
      ·have hs0z : ((sz : Int) == 0) = false := beq_eq_false_iff_ne.2 (by omega)
       rw [if_neg hs0, HJ.out] at h'
       by_cases hsj : sz = j
       ·have HX : Hid (r = v ∧ k = 0) := by
         rw [if_neg (fun g => g hsj)] at h'
         cases h'
         exact ⟨rfl, rfl⟩
        have hsz2 : ((sz : Int) != (j : Int)) = false := by rw [hsj]; simp
        clear h' hs0 hsj
        go_enter Tryd.func7, Tryd.ntmps7
        go_wp2_with fail
        refine (HBT.out _).mono ?_
        rintro e w1 ⟨rfl, rfl⟩
        go_wp2_with fail
        refine (HES.out _).mono ?_
        rintro e w2 ⟨rfl, hw⟩
        have HW := Lib.hid hw
        clear hw
        go_wp2_with fail
        go_ret2
        exact ⟨by rw [HX.out.1, HX.out.2]; rfl, HW.out⟩
       ·have HX : Hid (r = 0 ∧ k = 8) := by
         rw [if_pos hsj] at h'
         cases h'
         exact ⟨rfl, rfl⟩
        have hsz2 : ((sz : Int) != (j : Int)) = true := by rw [bne_iff_ne]; omega
        clear h' hs0 hsj
        go_enter Tryd.func7, Tryd.ntmps7
        go_wp2_with fail
        refine (HBT.out _).mono ?_
        rintro e w1 ⟨rfl, rfl⟩
        go_wp2_with fail
        refine (HES.out _).mono ?_
        rintro e w2 ⟨rfl, hw⟩
        have HW := Lib.hid hw
        clear hw
        go_wp2_with fail
        go_ret2
        exact ⟨by rw [HX.out.1, HX.out.2]; rfl, HW.out⟩
     ·rw [g2, if_neg (fun g => h92 (Option.some.inj g))] at h'
      have e92 : ((c.toNat : Int) == 92) = false := eq_byte h92
      obtain ⟨N, hN⟩ : ∃ N, w.heap.size = N := ⟨_, rfl⟩
      obtain ⟨cap, w2, hcv, hc1, hc2, hby, hbl⟩ := run_conv_str w (bs m) (by rw [bs_size]; exact Nat.le_trans hml (by decide))
      rw [bts_bs] at hby
      rw [hmz] at hcv hc1
      have hDE := refDecode_any _ j cap (bi m) 0 w2 hby (by rw [bi_length, hj]) hc1 (by omega)
      have hra := refAns_at (bi m) 0 (by rw [bi_length]; omega)
      rw [Int.natCast_zero, List.drop_zero] at hra
      rw [hra] at hDE
      rw [hN] at hcv hDE hbl ⊢
      have HB2 := Lib.hid hbl
      have HJ := Lib.hid hj
      clear h hb h2 h3 hc h39 h10 hcf hp g2 hml hj hby hbl hc2 hra h92
      cases hd : U.dec (bi m) with
      | none =>
       have HX : Hid (r = 0 ∧ k = 3) := by
        rw [hd] at h'
        cases h'
        exact ⟨rfl, rfl⟩
       rw [hd] at hDE
       have HDE : Hid (Calls Tryd.prog 21 #[.slice (some ⟨N, 0, none⟩) j cap, .int .i64 0] w2 fun e w' => e = .returned (.tuple #[.int .i64 0, .int .i64 0, .int .i64 3]) ∧ Below w2.heap.size w2 w') := hDE
       clear hd h' hDE
       generalize c.toNat = cn at *
       generalize l.length = n at *
       generalize bs l = z at *
       generalize bs m = y at *
       go_enter Tryd.func7, Tryd.ntmps7
       go_wp2_with fail
       refine (HBT.out _).mono ?_
       rintro e w1 ⟨rfl, rfl⟩
       go_wp2_with fail
       refine (HDE.out).mono ?_
       rintro e w3 ⟨rfl, hw⟩
       have HW := Lib.hid (HB2.out.trans (hw.mono (by rw [← hN]; exact HB2.out.size)))
       clear hw
       go_wp2_with fail
       go_ret2
       exact ⟨by rw [HX.out.1, HX.out.2]; rfl, HW.out⟩
      | some a =>
       obtain ⟨rr, sz⟩ := a
       rw [hd] at h' hDE
       have HDE : Hid (Calls Tryd.prog 21 #[.slice (some ⟨N, 0, none⟩) j cap, .int .i64 0] w2 fun e w' => e = .returned (.tuple #[.int .i64 rr, .int .i64 (sz : Int), .int .i64 0]) ∧ Below w2.heap.size w2 w') := hDE
       simp only [HJ.out] at h'
       by_cases hsj : sz = j
       ·have HX : Hid (r = rr ∧ k = 0) := by
         rw [if_neg (fun g => g hsj)] at h'
         cases h'
         exact ⟨rfl, rfl⟩
        have hsz2 : ((sz : Int) != (j : Int)) = false := by rw [hsj]; simp
        clear hd h' hDE hsj
        generalize c.toNat = cn at *
        generalize l.length = n at *
        generalize bs l = z at *
        generalize bs m = y at *
        go_enter Tryd.func7, Tryd.ntmps7
        go_wp2_with fail
        refine (HBT.out _).mono ?_
        rintro e w1 ⟨rfl, rfl⟩
        go_wp2_with fail
        refine (HDE.out).mono ?_
        rintro e w3 ⟨rfl, hw⟩
        have HW := Lib.hid (HB2.out.trans (hw.mono (by rw [← hN]; exact HB2.out.size)))
        clear hw
        go_wp2_with fail
        go_ret2
        exact ⟨by rw [HX.out.1, HX.out.2]; rfl, HW.out⟩
       ·have HX : Hid (r = 0 ∧ k = 8) := by
         rw [if_pos hsj] at h'
         cases h'
         exact ⟨rfl, rfl⟩
        have hsz2 : ((sz : Int) != (j : Int)) = true := by rw [bne_iff_ne]; omega
        clear hd h' hDE hsj
        generalize c.toNat = cn at *
        generalize l.length = n at *
        generalize bs l = z at *
        generalize bs m = y at *
        go_enter Tryd.func7, Tryd.ntmps7
        go_wp2_with fail
        refine (HBT.out _).mono ?_
        rintro e w1 ⟨rfl, rfl⟩
        go_wp2_with fail
        refine (HDE.out).mono ?_
        rintro e w3 ⟨rfl, hw⟩
        have HW := Lib.hid (HB2.out.trans (hw.mono (by rw [← hN]; exact HB2.out.size)))
        clear hw
        go_wp2_with fail
        go_ret2
        exact ⟨by rw [HX.out.1, HX.out.2]; rfl, HW.out⟩
end Go.Proofs.YtcieibidnpemjaaDoor
namespace Go.Proofs.YtcieibidnpemjaaDoor
open Go.RowKit Go.Sort
set_option linter.unusedSimpArgs false
set_option maxRecDepth 100000 in
set_option maxHeartbeats 4000000 in
theorem TextD_raw (l : List UInt8) (k : Nat) (t : List UInt8) (w : World) (hl : l.length ≤ 100000) (hb : betB 96 l = true) (h : Hid (rawR (chrIn l) = (k, t))) :
  Calls Tryd.prog 9 #[.string (bs l)] w fun e w' => e = .returned (.tuple #[.string (bs t), .int .i64 (k : Int)]) ∧ w' = w := by
 have hsz := bs_size l
 have hn2 := bet_len hb
 have HBT : Hid (∀ V, Calls Tryd.prog 19 #[.string (bs l), .int .u8 96] V fun e w' => e = .returned (.bool true) ∧ w' = V) := fun V => by
  have := between_run l 96 V hl
  rwa [hb] at this
 obtain ⟨p, hp⟩ : ∃ p, l.length - 1 = p := ⟨_, rfl⟩
 have hpz : (l.length : Int) - 1 = (p : Int) := by omega
 have HP : Hid (p + 1 = l.length ∧ (chrIn l).length + 1 = p) := ⟨by omega, by have := chr_len l; omega⟩
 have hpl : p ≤ 100000 := by omega
 have hpn : p < l.length := by omega
 have hcg : ∀ j, j + 1 < p → (chrIn l)[j]? = l[j + 1]? := fun j hj => chr_get (by omega)
 have hp1 : 1 ≤ p := by omega
 have hcat0 : ∀ r, (r : Nat × List UInt8).1 ≠ 0 → r.2 = [] → True := fun _ _ _ => trivial
 clear hcat0 hp hb
 obtain ⟨m, hm⟩ : ∃ m, chrIn l = m := ⟨_, rfl⟩
 rw [hm] at HP hcg h
 have hpl2 : Hid (rawR (m.drop 0) = (k, t)) := h
 clear h hm
 have HS : Hid ((k, t) = catT [] (rawR (m.drop 0))) := by
  show _ = _
  rw [catT_nil _ (rawR_plain _), hpl2.out]
 go_enter Tryd.func9, Tryd.ntmps9
 go_wp2_with fail
 refine (HBT.out _).mono ?_
 rintro e w1 ⟨rfl, rfl⟩
 go_wp2_with fail
 clear HBT hpl2
 go_loopg [4, 5] p (fun h s4 s5 wr => ∃ (i : Nat) (x : List UInt8), s4 = .string (bs x) ∧ s5 = .int .i64 (i : Int) ∧ Hid (i + h = p + 1 ∧ 1 ≤ i) ∧ i ≤ p ∧ x.length ≤ i ∧ Hid ((k, t) = catT x (rawR (m.drop (i - 1)))) ∧ wr = w1)
 case atStart => exact ⟨1, [], rfl, rfl, ⟨by omega, by omega⟩, by omega, by simp, HS, rfl⟩
 case round =>
  clear HS
  obtain ⟨i, x, rfl, rfl, HI, hin, hxl, HX, rfl⟩ := hrel
  have hxs := bs_size x
  by_cases hlt : i < p
  ·have hiz : (i : Int) < (p : Int) := by omega
   obtain ⟨c, hc⟩ : ∃ c, l[i]? = some c := ⟨l[i]'(by omega), List.getElem?_eq_getElem _⟩
   have hcm : m[i - 1]? = some c := by
    have := hcg (i - 1) (by have := HI.out; omega)
    rw [this, show i - 1 + 1 = i by have := HI.out; omega]
    exact hc
   have hdr := drop_cons hcm
   rw [show i - 1 + 1 = i by have := HI.out; omega] at hdr
   have hx := bs_get hc
   by_cases h96 : c = 96
   ·subst h96
    have HR : Hid (k = 8 ∧ t = []) := by
     have := HX.out
     rw [hdr] at this
     have e : rawR (96 :: m.drop i) = (8, []) := if_pos rfl
     rw [e, catT_err _ (by decide)] at this
     cases this
     exact ⟨rfl, rfl⟩
    have hx1 : ∀ W, (Instr.index 9 (.string (bs l)) (.int .i64 (i : Int))).run Tryd.prog W = .ok (.int .u8 96) W := hx
    clear hx hc hcm hdr HX hcg
    go_wp2_with fail
    go_ret2
    exact ⟨by rw [HR.out.1, HR.out.2]; rfl, rfl⟩
   ·have e96 : ((c.toNat : Int) == 96) = false := eq_byte h96
    have hrr : rawR (c :: m.drop i) = catT (if c = 13 then [] else [c]) (rawR (m.drop i)) := if_neg h96
    by_cases h13 : c = 13
    ·subst h13
     have hx1 : ∀ W, (Instr.index 9 (.string (bs l)) (.int .i64 (i : Int))).run Tryd.prog W = .ok (.int .u8 13) W := hx
     have HX2 : Hid ((k, t) = catT x (rawR (m.drop i))) := by
      have := HX.out
      rw [hdr, hrr, if_pos rfl, catT_catT, List.append_nil] at this
      exact this
     clear hx hc hcm hdr HX hcg hrr
     go_wp2_with fail
     go_roundg (p - i)
     case measure => have := HI.out; omega
     case rel => exact ⟨i + 1, x, rfl, by go_num, ⟨by have := HI.out; omega, by omega⟩, by omega, by omega, HX2, rfl⟩
    ·have e13 : ((c.toNat : Int) != 13) = true := by rw [bne_iff_ne]; intro e; exact h13 (UInt8.toNat_inj.1 (by show c.toNat = 13; omega))
     have HX2 : Hid ((k, t) = catT (x ++ [c]) (rawR (m.drop i))) := by
      have := HX.out
      rw [hdr, hrr, if_neg h13, catT_catT] at this
      exact this
     have he := ext_one hc
     have hcat := bs_app x [c]
     have hs1 := bs_size [c]
     have hs2 : ([c] : List UInt8).length = 1 := rfl
     rw [hs2] at hs1
     obtain ⟨ip, hip⟩ : ∃ ip, i + 1 = ip := ⟨_, rfl⟩
     have hipz : (i : Int) + 1 = (ip : Int) := by omega
     have hipl : ip ≤ l.length := by omega
     have hii : i ≤ ip := by omega
     rw [hip] at he
     have HIP := Lib.hid hip
     have HXL := Lib.hid hxl
     have hxm : x.length ≤ 100000 := by omega
     clear hx hcm hdr HX hcg hrr hip hs2 hxl
     have hx := bs_get hc
     clear hc h13 h96
     generalize c.toNat = cn at *
     go_wp2_with fail
     go_roundg (p - i)
     case measure => have := HI.out; omega
     case rel => exact ⟨i + 1, x ++ [c], rfl, by rw [HIP.out], ⟨by have := HI.out; omega, by omega⟩, by omega, by have := HXL.out; rw [List.length_append]; show _ + 1 ≤ _; omega, HX2, rfl⟩
  ·have hip : i = p := by omega
   have hiz : ¬ (i : Int) < (p : Int) := by omega
   have HR : Hid (k = 0 ∧ t = x) := by
    have := HX.out
    rw [List.drop_of_length_le (by have := HP.out.2; omega)] at this
    have e : rawR [] = (0, []) := rfl
    rw [e, catT_ok, List.append_nil] at this
    cases this
    exact ⟨rfl, rfl⟩
   clear HX hip hcg
   go_wp2_with fail
   go_ret2
   exact ⟨by rw [HR.out.1, HR.out.2]; rfl, rfl⟩
set_option maxRecDepth 100000 in
set_option maxHeartbeats 4000000 in
theorem TextD_none (l : List UInt8) (w : World) (hl : l.length ≤ 100000) (hb : betB 96 l = false) (hb2 : betB 34 l = false) :
  Calls Tryd.prog 9 #[.string (bs l)] w fun e w' => e = .returned (.tuple #[.string (bs []), .int .i64 8]) ∧ w' = w := by
 have HBT : Hid (∀ V, Calls Tryd.prog 19 #[.string (bs l), .int .u8 96] V fun e w' => e = .returned (.bool false) ∧ w' = V) := fun V => by
  have := between_run l 96 V hl
  rwa [hb] at this
 have HBT2 : Hid (∀ V, Calls Tryd.prog 19 #[.string (bs l), .int .u8 34] V fun e w' => e = .returned (.bool false) ∧ w' = V) := fun V => by
  have := between_run l 34 V hl
  rwa [hb2] at this
 clear hb hb2 hl
 generalize bs l = z at *
 go_enter Tryd.func9, Tryd.ntmps9
 go_wp2_with fail
 refine (HBT.out _).mono ?_
 rintro e w1 ⟨rfl, rfl⟩
 go_wp2_with fail
 refine (HBT2.out _).mono ?_
 rintro e w2 ⟨rfl, rfl⟩
 go_wp2_with fail
 go_ret2
 exact ⟨rfl, rfl⟩
end Go.Proofs.YtcieibidnpemjaaDoor
