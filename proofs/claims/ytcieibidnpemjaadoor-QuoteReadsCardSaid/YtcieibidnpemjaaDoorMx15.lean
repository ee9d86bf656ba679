/-
  Stage 10: the laws' mathematics: what Write writes is read back and scanned whole; a literal is scanned alone as it was.
-/
import Derived.Test.YtcieibidnpemjaaDoorMx14
import Derived.Test.YtcieibidnpemjaaDoorRows
import Derived.ProofKit
import Derived.LaidMore
import Derived.OpenShut
import Derived.Stop.Joined
import Derived.Stop.LaidErr
import Derived.ChangeOld
import Derived.Lib.LaidTab
import Derived.Deep.Slices
import Derived.HandedShaped
import Derived.Shelf.Vars
import Derived.Lay
import Derived.ArgAppend
namespace Go.Proofs.YtcieibidnpemjaaDoor
open Go.RowKit Go.Sort
set_option linter.unusedSimpArgs false
theorem hex_all : ∀ i : Fin 16, (hexD i.val ≠ 10 ∧ hexD i.val ≠ 34 ∧ hexD i.val ≠ 92) ∧ dvN (hexD i.val).toNat = i.val := by decide +kernel
theorem hex_is {i : Nat} (h : i < 16) : (hexD i ≠ 10 ∧ hexD i ≠ 34 ∧ hexD i ≠ 92) ∧ dvN (hexD i).toNat = i := hex_all ⟨i, h⟩
theorem esc_hex {c : Nat} (h : c < 256) (t : List UInt8) : escF 34 (92 :: 120 :: hexD (c / 16) :: hexD (c % 16) :: t) = ((c : Int), true, 4) := by
 have h1 := (hex_is (show c / 16 < 16 by omega)).2
 have h2 := (hex_is (show c % 16 < 16 by omega)).2
 have hz : numZ 16 2 (hexD (c / 16) :: hexD (c % 16) :: t) = (c : Int) := by
  rw [numZ_ok (by simp) (fun i x hi hx => ?_)]
  ·show ((num 16 [hexD (c / 16), hexD (c % 16)] : Nat) : Int) = _
   have e : num 16 [hexD (c / 16), hexD (c % 16)] = (0 * 16 + dvN (hexD (c / 16)).toNat) * 16 + dvN (hexD (c % 16)).toNat := rfl
   rw [e, h1, h2]
   omega
  ·match i, hi, hx with
   | 0, _, hx => cases hx; rw [h1]; omega
   | 1, _, hx => cases hx; rw [h2]; omega
 rw [esc_x (by decide), hz, if_pos (Int.natCast_nonneg _)]
theorem wrM_cons (c : UInt8) (t : List UInt8) : wrM (c :: t) = wr1 c ++ wrM t := rfl
theorem txt_wr : ∀ (l : List UInt8) (f : Nat), (wrM l).length < f → txtR f (wrM l) = (0, l)
 | [], f, _ => txtR_nil f
 | c :: t, f, hf => by
  rw [wrM_cons] at hf ⊢
  by_cases hq : c = 34 ∨ c = 92
  ·have h1 : wr1 c = [92, c] := if_pos hq
   rw [h1] at hf ⊢
   obtain ⟨g, rfl⟩ : ∃ g, f = g + 1 := ⟨f - 1, by simp at hf; omega⟩
   have he : escF 34 (92 :: c :: wrM t) = ((c.toNat : Int), true, 2) := esc_same (by rcases hq with rfl | rfl <;> decide) (hq.elim .inr .inl)
   show txtR (g + 1) (92 :: c :: wrM t) = _
   rw [txtR_esc he (by decide)]
   show catT (encB (c.toNat : Int) true) (txtR g (wrM t)) = _
   rw [txt_wr t g (by simp at hf; omega), show encB (c.toNat : Int) true = [c] by simp [encB, encI], catT_ok]
   rfl
  ·by_cases hp : 32 ≤ c.toNat ∧ c.toNat < 127
   ·have h1 : wr1 c = [c] := (if_neg hq).trans (if_pos hp)
    rw [h1] at hf ⊢
    obtain ⟨g, rfl⟩ : ∃ g, f = g + 1 := ⟨f - 1, by simp at hf; omega⟩
    show txtR (g + 1) (c :: wrM t) = _
    rw [txtR_one (fun e => e.elim (fun e => hq (.inl e)) (fun e => by rw [e] at hp; exact absurd hp (by decide))) (fun e => hq (.inr e)), txt_wr t g (by simp at hf; omega), catT_ok]
    rfl
   ·have h1 : wr1 c = [92, 120, hexD (c.toNat / 16), hexD (c.toNat % 16)] := (if_neg hq).trans (if_neg hp)
    rw [h1] at hf ⊢
    obtain ⟨g, rfl⟩ : ∃ g, f = g + 1 := ⟨f - 1, by simp at hf; omega⟩
    have he := esc_hex c.toNat_lt (wrM t)
    show txtR (g + 1) (92 :: 120 :: hexD (c.toNat / 16) :: hexD (c.toNat % 16) :: wrM t) = _
    rw [txtR_esc he (by decide)]
    show catT (encB (c.toNat : Int) true) (txtR g (wrM t)) = _
    rw [txt_wr t g (by simp at hf; omega), show encB (c.toNat : Int) true = [c] by simp [encB, encI], catT_ok]
    rfl
theorem wrF_in (l : List UInt8) : chrIn (wrF l) = wrM l := by
 unfold chrIn wrF
 have : (34 :: wrM l ++ [34]).length - 1 = (34 :: wrM l).length := by simp
 rw [this, List.take_left]
 rfl
theorem wrF_bet (l : List UInt8) : betB 34 (wrF l) = true ∧ betB 96 (wrF l) = false := by
 have h0 : (wrF l)[0]? = some 34 := rfl
 have h1 : 2 ≤ (wrF l).length := by unfold wrF; simp
 have h2 : (wrF l)[(wrF l).length - 1]? = some 34 := by
  have e : (wrF l).length - 1 = (34 :: wrM l).length := by unfold wrF; simp
  rw [e]
  unfold wrF
  rw [List.getElem?_append_right (Nat.le_refl _), Nat.sub_self]
  rfl
 unfold betB
 rw [h0, h2, decide_eq_true h1]
 exact ⟨by decide, by decide⟩
theorem text_wr (l : List UInt8) : textF (wrF l) = (0, l) := by
 unfold textF
 rw [if_neg (by rw [(wrF_bet l).2]; decide), if_pos (wrF_bet l).1, wrF_in]
 exact txt_wr l _ (by unfold wrF; simp; omega)
theorem end_wr : ∀ (l u : List UInt8), endF 34 (wrM l ++ 34 :: u) = ((wrM l).length + 1, true)
 | [], u => endF_hit u (by decide)
 | c :: t, u => by
  have ih := end_wr t u
  rw [wrM_cons, List.append_assoc, List.length_append]
  by_cases hq : c = 34 ∨ c = 92
  ·have h1 : wr1 c = [92, c] := if_pos hq
   rw [h1]
   show endF 34 (92 :: c :: (wrM t ++ 34 :: u)) = _
   rw [endF_esc _ (by decide) (by decide) (by rcases hq with rfl | rfl <;> decide), ih]
   show ((wrM t).length + 1 + 2, true) = (2 + (wrM t).length + 1, true)
   congr 1; omega
  ·by_cases hp : 32 ≤ c.toNat ∧ c.toNat < 127
   ·have h1 : wr1 c = [c] := (if_neg hq).trans (if_pos hp)
    rw [h1]
    show endF 34 (c :: (wrM t ++ 34 :: u)) = _
    rw [endF_one _ (fun e => by rw [e.2] at hp; exact absurd hp (by decide)) (fun e => hq (.inl e)) (fun e => hq (.inr e.2.1)), ih]
    show ((wrM t).length + 1 + 1, true) = (1 + (wrM t).length + 1, true)
    congr 1; omega
   ·have h1 : wr1 c = [92, 120, hexD (c.toNat / 16), hexD (c.toNat % 16)] := (if_neg hq).trans (if_neg hp)
    have hc := c.toNat_lt
    obtain ⟨⟨a1, a2, a3⟩, _⟩ := hex_is (show c.toNat / 16 < 16 by omega)
    obtain ⟨⟨b1, b2, b3⟩, _⟩ := hex_is (show c.toNat % 16 < 16 by omega)
    rw [h1]
    show endF 34 (92 :: 120 :: hexD (c.toNat / 16) :: hexD (c.toNat % 16) :: (wrM t ++ 34 :: u)) = _
    rw [endF_esc _ (by decide) (by decide) (by decide), endF_one _ (fun e => a1 e.2) a2 (fun e => a3 e.2.1), endF_one _ (fun e => b1 e.2) b2 (fun e => b3 e.2.1), ih]
    show ((wrM t).length + 1 + 1 + 1 + 2, true) = (4 + (wrM t).length + 1, true)
    congr 1; omega
theorem scanL_q {q : UInt8} (t : List UInt8) (h : q = 39 ∨ q = 34 ∨ q = 96) : scanL (q :: t) = litA q (q :: t) := if_pos h
theorem scan_wr (l u : List UInt8) : scanI (wrF l ++ u) 0 = (5, (wrF l).length, 0) := by
 have hl : ¬ ((0 : Int) < 0 ∨ ((wrF l ++ u).length : Int) ≤ 0) := by
  unfold wrF
  simp
  omega
 unfold scanI
 rw [if_neg hl]
 have e0 : (wrF l ++ u).drop (0 : Int).toNat = 34 :: (wrM l ++ 34 :: u) := by
  show 34 :: wrM l ++ [34] ++ u = _
  simp
 rw [e0]
 have hs : scanL (34 :: (wrM l ++ 34 :: u)) = litA 34 (34 :: (wrM l ++ 34 :: u)) := scanL_q _ (.inr (.inl rfl))
 have hlen : (wrF l).length = (wrM l).length + 1 + 1 := by unfold wrF; simp
 have htk : (34 :: (wrM l ++ 34 :: u)).take ((wrM l).length + 1 + 1) = wrF l := by
  rw [← hlen, ← e0]
  show (wrF l ++ u).take (wrF l).length = wrF l
  rw [List.take_left]
 rw [hs, litA_eq 34 _ (end_wr l u), if_pos rfl, htk, hlen]
 show (5, _, (textF (wrF l)).1) = _
 rw [text_wr]
theorem endF_pos {q : UInt8} : ∀ {t : List UInt8} {E : Nat}, endF q t = (E, true) → 1 ≤ E
 | [], E, h => by cases h
 | [c], E, h => by
  unfold endF at h
  split at h
  ·cases h
  ·split at h <;> cases h
   exact Nat.le_refl _
 | c :: d :: t, E, h => by
  rw [endF] at h
  split at h
  ·cases h
  ·split at h
   ·cases h; exact Nat.le_refl _
   ·split at h
    ·have h1 : (endF q t).1 + 2 = E := congrArg Prod.fst h
     omega
    ·have h1 : (endF q (d :: t)).1 + 1 = E := congrArg Prod.fst h
     omega
theorem endF_alone {q : UInt8} : ∀ {t : List UInt8} {E : Nat}, endF q t = (E, true) → endF q (t.take E) = (E, true) ∧ (endF q (t.take (E - 1))).2 = false
 | [], E, h => by cases h
 | [c], E, h => by
  have h0 := h
  unfold endF at h
  split at h
  ·cases h
  ·split at h
   ·cases h
    exact ⟨h0, rfl⟩
   ·cases h
 | c :: d :: t, E, h => by
  rw [endF] at h
  split at h
  ·cases h
  ·rename_i n1
   split at h
   ·rename_i n2
    cases h
    refine ⟨?_, rfl⟩
    show endF q [c] = _
    rw [endF, if_neg n1, if_pos n2]
   ·rename_i n2
    split at h
    ·rename_i n3
     cases hE : endF q t with
     | mk E' K' =>
      rw [hE] at h
      cases h
      have hp := endF_pos hE
      obtain ⟨i1, i2⟩ := endF_alone hE
      constructor
      ·show endF q (c :: d :: t.take E') = _
       rw [endF, if_neg n1, if_neg n2, if_pos n3, i1]
      ·have e : (c :: d :: t).take (E' + 2 - 1) = c :: d :: t.take (E' - 1) := by
        rw [show E' + 2 - 1 = (E' - 1) + 1 + 1 by omega]
        rfl
       show (endF q ((c :: d :: t).take (E' + 2 - 1))).2 = false
       rw [e, endF, if_neg n1, if_neg n2, if_pos n3]
       exact i2
    ·rename_i n3
     cases hE : endF q (d :: t) with
     | mk E' K' =>
      rw [hE] at h
      cases h
      have hp := endF_pos hE
      obtain ⟨i1, i2⟩ := endF_alone hE
      obtain ⟨j, rfl⟩ : ∃ j, E' = j + 1 := ⟨E' - 1, by omega⟩
      constructor
      ·show endF q (c :: d :: t.take j) = _
       rw [endF, if_neg n1, if_neg n2, if_neg n3]
       have i3 : endF q (d :: t.take j) = (j + 1, true) := i1
       rw [i3]
      ·show (endF q ((c :: d :: t).take (j + 1))).2 = false
       match j, i2 with
       | 0, _ =>
        show (endF q [c]).2 = false
        rw [endF, if_neg n1, if_neg n2]
       | j + 1, i2 =>
        show (endF q (c :: d :: t.take j)).2 = false
        rw [endF, if_neg n1, if_neg n2, if_neg n3]
        have i3 : (endF q (d :: t.take j)).2 = false := i2
        exact i3
theorem scan_alone {l : List UInt8} {a k z : Nat} (h : scanI l (a : Int) = (k, z, 0)) :
  2 ≤ z ∧ a + z ≤ l.length ∧ scanI ((l.drop a).take z) 0 = (k, z, 0) ∧ ∃ k2 z2, scanI (((l.drop a).take z).take (z - 1)) 0 = (k2, z2, 12) := by
 unfold scanI at h
 split at h
 ·cases h
 ·rename_i ho
  rw [Int.toNat_natCast] at h
  have hal : a < l.length := by omega
  obtain ⟨q, hq⟩ : ∃ q, l[a]? = some q := ⟨l[a], List.getElem?_eq_getElem hal⟩
  have hdr := drop_cons hq
  rw [hdr] at h ⊢
  obtain ⟨t, ht⟩ : ∃ t, l.drop (a + 1) = t := ⟨_, rfl⟩
  have htl : t.length = l.length - (a + 1) := by rw [← ht, List.length_drop]
  rw [ht] at h ⊢
  unfold scanL at h
  simp only at h
  split at h
  ·rename_i hqq
   obtain ⟨E, K, hE⟩ : ∃ E K, endF q t = (E, K) := ⟨_, _, rfl⟩
   rw [litA_eq q t hE] at h
   split at h
   ·rename_i hK
    subst hK
    have hp := endF_pos hE
    have hle := endF_le q t
    rw [hE] at hle
    obtain ⟨i1, i2⟩ := endF_alone hE
    have hz : E + 1 = z := by injection h with _ h2; injection h2
    have hk : kindN q = k := by injection h
    have he : litE q ((q :: t).take (E + 1)) = 0 := by injection h with _ h2; injection h2
    have hle2 : E ≤ t.length := hle
    refine ⟨by omega, by omega, ?_, ?_⟩
    ·rw [← hz]
     unfold scanI
     rw [if_neg (by simp)]
     show scanL (q :: t.take E) = _
     have hs : scanL (q :: t.take E) = litA q (q :: t.take E) := if_pos hqq
     rw [hs, litA_eq q _ i1, if_pos rfl]
     have e1 : (q :: t.take E).take (E + 1) = (q :: t).take (E + 1) := by
      show q :: (t.take E).take E = q :: t.take E
      rw [List.take_take, Nat.min_self]
     rw [e1, he, hk]
    ·rw [← hz]
     have e1 : ((q :: t).take (E + 1)).take (E + 1 - 1) = q :: t.take (E - 1) := by
      rw [List.take_take, show min (E + 1 - 1) (E + 1) = (E - 1) + 1 by omega]
      rfl
     rw [e1]
     unfold scanI
     rw [if_neg (by simp)]
     show ∃ k2 z2, scanL (q :: t.take (E - 1)) = _
     have hs : scanL (q :: t.take (E - 1)) = litA q (q :: t.take (E - 1)) := if_pos hqq
     obtain ⟨E2, K2, hE2⟩ : ∃ E2 K2, endF q (t.take (E - 1)) = (E2, K2) := ⟨_, _, rfl⟩
     rw [hE2] at i2
     have i3 : K2 = false := i2
     subst i3
     rw [hs, litA_eq q _ hE2]
     exact ⟨_, _, rfl⟩
   ·cases h
  ·cases h
end Go.Proofs.YtcieibidnpemjaaDoor
namespace Go.Proofs.YtcieibidnpemjaaDoor
open Go.RowKit Go.Sort
set_option linter.unusedSimpArgs false
def Kit (w : World) : Prop := ErrVars w ∧ Heads w ∧ Ml w
theorem Kit.below {w w' : World} (h : Kit w) (hb : Below w.heap.size w w') : Kit w' := ⟨h.1.below hb, heads_below h.2.1 hb, h.2.2.below hb⟩
theorem works_char : charF [39, 92, 117, 48, 48, 101, 57, 39] = (233, 0) := by decide +kernel
theorem works_text : textF [34, 97, 92, 120, 52, 49, 92, 110, 34] = (0, [97, 65, 10]) := by decide +kernel
theorem charF_r {l : List UInt8} {r : Int} {k : Nat} (h : charF l = (r, k)) : 0 ≤ r ∧ r ≤ 1114111 := by
 unfold charF at h
 split at h
 ·cases h; decide
 ·split at h
  ·split at h
   ·cases h; decide
   ·split at h
    ·cases h; decide
    ·rename_i hs _
     obtain ⟨v, bt, sz, he⟩ : ∃ v bt sz, escF 39 (chrIn l) = (v, bt, sz) := ⟨_, _, _, rfl⟩
     rw [he] at h hs
     cases h
     have h5 := escF_size he hs
     cases bt with
     | true => have := h5.2.2.2.1 rfl; omega
     | false => have := U.isRune_iff.1 (h5.2.2.2.2 rfl); omega
  ·split at h
   ·cases h; decide
   ·rename_i hd
    split at h
    ·cases h; decide
    ·cases h
     have := U.isRune_iff.1 (U.enc_dec hd).1
     omega
theorem textF_le {l : List UInt8} {k : Nat} {t : List UInt8} (h : textF l = (k, t)) : k ≤ 25 := by
 have raw : ∀ m : List UInt8, (rawR m).1 ≤ 25 := by
  intro m
  by_cases hi : (96 : UInt8) ∈ m
  ·rw [rawR_hit hi]; decide
  ·rw [rawR_miss hi]; exact Nat.zero_le _
 have txt : ∀ (f : Nat) (m : List UInt8), (txtR f m).1 ≤ 25 := by
  intro f
  induction f with
  | zero => intro m; show 0 ≤ 25; decide
  | succ f ih =>
   intro m
   match m with
   | [] => show 0 ≤ 25; decide
   | c :: t =>
    have hc : ∀ x r, (r : Nat × List UInt8).1 ≤ 25 → (catT x r).1 ≤ 25 := by
     intro x r hr
     unfold catT
     split
     ·show 0 ≤ 25; decide
     ·exact hr
    unfold txtR
    split
    ·show 8 ≤ 25; decide
    ·split
     ·split
      ·show 14 ≤ 25; decide
      ·exact hc _ _ (ih _)
     ·exact hc _ _ (ih _)
 unfold textF at h
 split at h
 ·have := raw (chrIn l); rw [h] at this; exact this
 ·split at h
  ·have := txt (l.length + 1) (chrIn l); rw [h] at this; exact this
  ·cases h; decide
set_option maxRecDepth 100000 in
set_option maxHeartbeats 2000000 in
theorem works10_run (w : World) (hk : Kit w) : Calls Tryd.prog 11 #[] w fun e w' => e = .returned (.bool true) ∧ Below w.heap.size w w' := by
 have HC : Hid (Calls Tryd.prog 6 #[.string ⟨#[39, 92, 117, 48, 48, 101, 57, 39]⟩] w fun e w' => e = .returned (.tuple #[.int .i32 233, .nilIface]) ∧ Below w.heap.size w w') := CharP_run [39, 92, 117, 48, 48, 101, 57, 39] 233 0 w (by decide) hk.1 hk.2.1 works_char
 have HT : Hid (∀ V, Kit V → Calls Tryd.prog 8 #[.string ⟨#[34, 97, 92, 120, 52, 49, 92, 110, 34]⟩] V fun e w' => e = .returned (.tuple #[.string ⟨#[97, 65, 10]⟩, .nilIface]) ∧ Below V.heap.size V w') := fun V hV => TextP_run [34, 97, 92, 120, 52, 49, 92, 110, 34] 0 [97, 65, 10] V (by decide) hV.1 hV.2.1 hV.2.2 works_text
 have HK := Lib.hid hk
 clear hk
 go_enter Tryd.func11, Tryd.ntmps11
 go_wp2_with fail
 refine (HC.out).mono ?_
 rintro e w1 ⟨rfl, hw1⟩
 have HW1 := Lib.hid hw1
 have HT1 := Lib.hid (HT.out w1 (HK.out.below hw1))
 clear hw1
 go_wp2_with fail
 refine (HT1.out).mono ?_
 rintro e w2 ⟨rfl, hw2⟩
 have HW2 := Lib.hid (HW1.out.trans (hw2.mono HW1.out.size))
 clear hw2
 go_wp2_with fail
 go_ret
 exact ⟨rfl, HW2.out⟩
end Go.Proofs.YtcieibidnpemjaaDoor
namespace Go.Proofs.YtcieibidnpemjaaDoor
open Go.ChangeShapes Go.WideShapes Go.ChangeAt Go.RowKit Go.Deep
theorem own : ownKnob Tryd.prog.godebug = none := by kernel_rfl
theorem laidOut : laidOutB Tryd.prog = true := by kernel_rfl
theorem str_bound {s : ByteArray} (h : s.size ≤ maxLen) : s.size ≤ 9223372036854775807 := by unfold maxLen at h; exact h
theorem u8_bounds {n : Int} (h : (Lit.int .u8 n).wf = true) : 0 ≤ n ∧ n ≤ 255 := by
 simpa [Lit.wf, IntKind.min, IntKind.max, IntKind.signed, IntKind.bits] using h
theorem open_bytes {H : Type} {enc : TypeId × Value → H} {W : World} {fuel : Nat} {cs : List Value} {x : DataW H × List MemPlace} {sp : Nat → Bool} (h : DataW.trod enc Tryd.prog W 0 sp true fuel 35 cs = some x) :
  ∃ A len cap l, cs = [.slice A len cap] ∧ l.length = len ∧ len ≤ cap ∧ cap ≤ 9223372036854775807 ∧ Byts W W.heap.size A l := by
 rcases open_ints Tryd.underlying35 Tryd.underlying5 (by kernel_rfl) h with ⟨hcs, _⟩ | ⟨x, l, c, zs, hcs, _, hl, hm, hz, _, hcell, hwz⟩
 ·exact ⟨none, 0, 0, [], hcs, rfl, Nat.le_refl _, by omega, Byts.nil⟩
 ·unfold maxLen at hm
  have hlz : l ≤ zs.length := by rw [hz]; split <;> omega
  have hlen : (zs.take l).length = l := by rw [List.length_take]; omega
  refine ⟨some x, l, c, zs.take l, hcs, hlen, hl, hm, ⟨fun n hn => bounds_u8 (hwz n (List.mem_of_mem_take hn)), fun hp => ?_⟩⟩
  obtain ⟨b, off, rfl, hc⟩ := ints_at hcell (by omega)
  have h0 := hc 0 (by omega)
  refine ⟨b, off, rfl, ?_, fun i y hy => ?_⟩
  ·rcases Nat.lt_or_ge b W.heap.size with h1 | h1
   ·exact h1
   ·simp [World.cell?, Array.getElem?_eq_none h1] at h0
  ·rw [List.getElem?_take] at hy
   split at hy
   ·have hi := (List.getElem?_eq_some_iff.1 hy).1
    rw [hc i hi]
    simp [List.getD, hy]
   ·cases hy
section
variable {H : Type} {enc : TypeId × Value → H}
theorem returns_and_shaped {a : Assume} {C : Checked} {os : Os} {f : FuncId} {fn : Func} {s : ChangeSpec} {conds : List PathCond} {apart fresh handsOn again : Bool} {X : World → Array Value → Prop}
  (hX : ∀ (w w' : World) (args : Array Value), w.heap = w'.heap → X w args → X w' args)
  (own : ownKnob C.prog.godebug = none) (started : os.Started) (noInit : C.prog.inits.idxOf? f = none) (hfn : C.prog.funcs[f]? = some fn)
  (witness : ∃ (w : World) (tape : Tape) (i : Input), w.os = os ∧ (w.forCall tape i).Shaped C.prog ∧ i.vars = [] ∧ Input.okWide C.prog (w.forCall tape i) .any w.heap.size f i ∧
   ((s.pre enc C.prog fn conds apart (w.forCall tape i).memory i.args ∧ X (w.forCall tape i).memory i.args) ∧ sizedMet enc C.prog fn (OpenSpec.ofChange s) apart (w.forCall tape i).memory i.args) ∧ a.holds C.prog (lone (Frame.enter C.prog f i.args .normal) [] (w.forCall tape i)))
  (walk : ∀ (W : World) (base : Nat) (args : Array Value) (ds gs : List (DataW H)) (before : List MemPlace),
   (∀ (j : Nat) t v, fn.params[j]? = some t → args[j]? = some v → Value.okWide C.prog W .any base t v) →
   DataW.Whole enc C.prog fn.params.toList s.vars apart W args.toList ds gs before → X W args → W.ShapedOpen C.prog →
   Calls C.prog f args W fun e W' => ∃ v, e = .returned v ∧ s.post enc C.prog fn apart fresh handsOn again W args v W') :
  ReturnsInHanded a C os f .any (fun w args => (s.pre enc C.prog fn conds apart w args ∧ X w args) ∧ sizedMet enc C.prog fn (OpenSpec.ofChange s) apart w args) (s.post enc C.prog fn apart fresh handsOn again) := by
 refine returnsInHanded_of_calls own started noInit witness ?_
 intro w tape i _ hsh _ hok hpre _
 obtain ⟨_, _, _, fn', hfn', _, _, _, _, hval⟩ := hok
 obtain rfl : fn' = fn := Option.some.inj (hfn'.symm.trans hfn)
 obtain ⟨⟨⟨ds, gs, before, hw, _⟩, hx⟩, _⟩ := hpre
 refine (walk (w.forCall tape i) w.heap.size i.args ds gs before hval (DataW.Whole.of_heap (w' := w.forCall tape i) (by rfl) hw) (hX _ _ _ (by rfl) hx) hsh).mono fun e W' ⟨v, he, hp⟩ => ?_
 subst he
 exact ChangeSpec.post_blind hp
end
theorem ml_of {W : World} (h : W.ShapedOpen Tryd.prog) : Ml W :=
 cell_of_shapedOpen_int (P := Tryd.prog) (g := 1) (t := 3) (zero := #[.int .i64 0]) h (of_decide_eq_true (by kernel_rfl)) (by kernel_rfl) rfl (by kernel_rfl) (by kernel_rfl) Tryd.underlying3
def laid10 : List (String × DataW Unit) := Rows.quoteReadsRow.laid
def great10 : List String := laid10.map fun x => x.1
noncomputable def door10 (os : Os) : World := (World.doorLaid Tryd.prog 77 os).layVars Tryd.prog (laid10.filter fun x => great10.contains x.1)
theorem door10_os (os : Os) : (door10 os).os = os := World.layVars_os _ _ _
theorem none10 : (laid10.filter fun x => !great10.contains x.1) = [] := by kernel_rfl
theorem all10 : (laid10.filter fun x => x.2.handleName?.isNone) = laid10 := by kernel_rfl
theorem data_met10 (os : Os) : laidMet Tryd.prog laid10 (door10 os) :=
 laidMet_layVars (w0 := World.doorLaid Tryd.prog 77 os) (w' := door10 os) (laid := laid10) great10 [] (by unfold door10; rfl) (by kernel_rfl) (by kernel_rfl) (by rw [none10]; exact LaidIn.none)
theorem all_met10 (os : Os) : laidMetH Tryd.prog laid10 (door10 os) :=
 laidMetH_of_parts3 (fuel := 8) (by rw [all10]; exact data_met10 os) (by kernel_rfl) (by kernel_rfl)
theorem door_met10 (os : Os) (args : Array Value) : laidMetH Tryd.prog laid10 ((door10 os).forCall (fun _ _ => 0) ⟨#[], args, []⟩).memory :=
 (all_met10 os).of_heap (by simp [World.memory, World.forCall, Input.heap])
theorem laidMet_tl {P : Program} {W : World} {x : String × DataW Unit} {rest : List (String × DataW Unit)} (h : laidMet P (x :: rest) W) : laidMet P rest W := by
 obtain ⟨ps, ⟨g', t', cs, fuel, p, q, hg', ht', hvar, hd, hr, rfl⟩, hnd, hall⟩ := h
 exact ⟨q, hr, (List.nodup_append.1 hnd).2.1, fun b off hm => hall b off (List.mem_append_right _ hm)⟩
theorem gHeads10 : Tryd.prog.globalNamed "cavil/utf.heads" = some 0 := by kernel_rfl
theorem tHeads10 : (Tryd.prog.globals[0]?).map (·.type) = some 64 := by kernel_rfl
theorem gSyn10 : Tryd.prog.globalNamed "strconv.ErrSyntax" = some 4 := by kernel_rfl
theorem tSyn10 : (Tryd.prog.globals[4]?).map (·.type) = some 23 := by kernel_rfl
theorem gRan10 : Tryd.prog.globalNamed "strconv.ErrRange" = some 5 := by kernel_rfl
theorem tRan10 : (Tryd.prog.globals[5]?).map (·.type) = some 23 := by kernel_rfl
theorem cES10 : Tryd.prog.cellsOf 134 = 1 := by kernel_rfl
theorem cStr10 : Tryd.prog.cellsOf 9 = 1 := by kernel_rfl
theorem star10 : "*" ++ "errors.errorString" = "*errors.errorString" := by decide
theorem rowES10 (u : TypeId) (h : Tryd.prog.typeName? 3 u = some "*errors.errorString") : u = 132 :=
 typeName_ptr_named (nm := "errors.errorString") (by rw [star10]; kernel_rfl) (by kernel_rfl) (by decide) u (by rw [star10]; exact h)
theorem of_laid10 {W : World} (h : laidMetH Tryd.prog laid10 W) : Heads W ∧ ErrVars W := by
 have h' : laidMet Tryd.prog [("cavil/utf.heads", Lib.tabData .u8 [0, 0, 192, 224, 240]), ("math/bits.deBruijn32tab", Rows.laid_math_bits_deBruijn32tab), ("math/bits.deBruijn64tab", Rows.laid_math_bits_deBruijn64tab), ("internal/strconv.uint64pow10", Rows.laid_internal_strconv_uint64pow10), ("unicode/utf8.acceptRanges", Rows.laid_unicode_utf8_acceptRanges), ("strconv.ErrRange", Rows.laid_strconv_ErrRange), ("strconv.ErrSyntax", Rows.laid_strconv_ErrSyntax), ("unicode/utf8.first", Rows.laid_unicode_utf8_first)] W := h
 have h5 := laidMet_tl (laidMet_tl (laidMet_tl (laidMet_tl (laidMet_tl h'))))
 have h6 := laidMet_tl h5
 refine ⟨?_, ?_, ?_⟩
 ·have ht := Lib.tabIs_of_head gHeads10 tHeads10 Tryd.underlying64 Tryd.underlying5 (by kernel_rfl) (by kernel_rfl) h'
  intro k h1 h4
  have hc := ht.cell gHeads10 k (by simp; omega)
  rw [hc]
  match k, h1, h4 with
  | 1, _, _ => rfl
  | 2, _, _ => rfl
  | 3, _, _ => rfl
  | 4, _, _ => rfl
 ·obtain ⟨a, s, hv, _⟩ := laid_sentinel h6 gSyn10 tSyn10 Tryd.underlying23 rowES10 Tryd.underlying132 Tryd.underlying134 rfl rfl Tryd.underlying9 cES10 cStr10
  exact ⟨_, World.var?_cell gSyn10 hv 0, .inr ⟨_, _, rfl⟩⟩
 ·obtain ⟨a, s, hv, _⟩ := laid_sentinel h5 gRan10 tRan10 Tryd.underlying23 rowES10 Tryd.underlying132 Tryd.underlying134 rfl rfl Tryd.underlying9 cES10 cStr10
  exact ⟨_, World.var?_cell gRan10 hv 0, .inr ⟨_, _, rfl⟩⟩
theorem bi_back : ∀ (l : List Int), U.Byt l → ∃ m : List UInt8, bi m = l
 | [], _ => ⟨[], rfl⟩
 | x :: t, h => by
  obtain ⟨m, hm⟩ := bi_back t (fun y hy => h y (List.mem_cons_of_mem _ hy))
  have hx := h x List.mem_cons_self
  refine ⟨UInt8.ofNat x.toNat :: m, ?_⟩
  show ((UInt8.ofNat x.toNat).toNat : Int) :: bi m = _
  rw [hm]
  congr 1
  simp only [UInt8.toNat_ofNat']
  omega
end Go.Proofs.YtcieibidnpemjaaDoor
namespace Go.Proofs.YtcieibidnpemjaaDoor
open Go.RowKit Go.Sort
set_option linter.unusedSimpArgs false
theorem run_conv_row (w : World) (l : List UInt8) (hs : l.length ≤ 1000000) : ∃ cap w', (convert 9 35 (.string (bs l))).run Tryd.prog w = .ok (.slice (some ⟨w.heap.size, 0, none⟩) l.length cap) w' ∧ l.length ≤ cap ∧ cap ≤ maxLen ∧ Byts w' w'.heap.size (some ⟨w.heap.size, 0, none⟩) (bi l) ∧ Below w.heap.size w w' ∧ w.heap.size < w'.heap.size ∧
  ∀ j, j < cap → (w'.cell? ⟨w.heap.size, j, none⟩).isSome = true ∧ w'.frozen? ⟨w.heap.size, j, none⟩ = false := by
 have hsz := bs_size l
 have hle : (bs l).size ≤ maxLen := by rw [hsz]; simp only [maxLen]; omega
 have hge := grownCap_ge w (bs l).size 0 5
 have hrow : (bytesRow (bs l) (grownCap w (bs l).size 0 5)).size = grownCap w (bs l).size 0 5 := by
  unfold bytesRow
  have : (bs l).data.size = (bs l).size := rfl
  simp [this]
  omega
 have hrun := run_bytes_of_string w 9 35 5 (bs l) Tryd.underlying9 Tryd.underlying35 Tryd.underlying5
 refine ⟨grownCap w (bs l).size 0 5, _, by rw [← hsz]; exact hrun, by rw [← hsz]; exact hge, grownCap_le_maxLen _ _ _ _ hle, ⟨bi_byt l, fun _ => ⟨_, _, rfl, by simp, fun i x hx => ?_⟩⟩, (Below.refl _ w).drew.alloc (Nat.le_refl _) _, Nat.lt_of_lt_of_le (Nat.lt_succ_self _) (Nat.le_of_eq (by simp)), fun j hj => ⟨?_, ?_⟩⟩
 ·have := World.cell?_alloc_mark w.drew (bytesRow (bs l) (grownCap w (bs l).size 0 5)) 5 ((bytesRow (bs l) (grownCap w (bs l).size 0 5)).size, (bytesRow (bs l) (grownCap w (bs l).size 0 5)).size + 1) (0 + i)
  rw [show w.drew.heap.size = w.heap.size from rfl] at this
  rw [this, bytesRow, bts_cells, Nat.zero_add, bts_bs]
  have hi := (List.getElem?_eq_some_iff.1 hx).1
  rw [Array.getElem?_append_left (by simpa using hi)]
  simp [hx]
 ·have := World.cell?_alloc_mark w.drew (bytesRow (bs l) (grownCap w (bs l).size 0 5)) 5 ((bytesRow (bs l) (grownCap w (bs l).size 0 5)).size, (bytesRow (bs l) (grownCap w (bs l).size 0 5)).size + 1) j
  rw [show w.drew.heap.size = w.heap.size from rfl] at this
  rw [this]
  have hj2 : j < (bytesRow (bs l) (grownCap w (bs l).size 0 5)).size := by rw [hrow]; exact hj
  simp [hj2]
 ·have := World.frozen?_alloc_mark w.drew (bytesRow (bs l) (grownCap w (bs l).size 0 5)) 5 (bytesRow (bs l) (grownCap w (bs l).size 0 5)).size ((bytesRow (bs l) (grownCap w (bs l).size 0 5)).size + 1) j
  rw [show w.drew.heap.size = w.heap.size from rfl] at this
  rw [this, hrow]
  simp
  omega
theorem sc_below {B b : Nat} {a : World} (hb : B ≤ b) : ∀ (vs : List Value) (o : Nat) (w : World), Below B a w → Below B a (w.setCells b o vs)
 | [], _, _, h => h
 | v :: r, o, _, h => sc_below hb r (o + 1) _ (h.setCell (p := ⟨b, o, none⟩) hb v)
theorem sc_size (b : Nat) (vs : List Value) (o : Nat) (w : World) : w.heap.size ≤ (w.setCells b o vs).heap.size := (sc_below (Nat.zero_le b) vs o w (Below.refl 0 w) : Below 0 w _).size
theorem run_app_row (w : World) (ty : TypeId) (b n cap S : Nat) (l m : List UInt8) (hb : ∀ i c, l[i]? = some c → w.cell? ⟨b, i, none⟩ = some (.int .u8 ((c : UInt8).toNat : Int))) (hn : l.length = n) (hcap : n ≤ cap)
  (hroom : ∀ j, j < cap → (w.cell? ⟨b, j, none⟩).isSome = true ∧ w.frozen? ⟨b, j, none⟩ = false) (B : Nat) (A : Option Addr) (k c : Nat) (hx : Byts w B A (bi m)) (hm : m.length = k) (hl1 : n ≤ 100000) (hl2 : k ≤ 100000) (hS : S ≤ b) (hbw : b < w.heap.size) :
  ∃ A' cap' w', (Builtin.append_ #[35, 35] ty #[.slice (some ⟨b, 0, none⟩) n cap, .slice A k c]).run Tryd.prog w = .ok (.slice A' (n + k) cap') w' ∧ n + k ≤ cap' ∧ Byts w' w'.heap.size A' (bi (l ++ m)) ∧ Below S w w' := by
 obtain ⟨hu, bb, hbb, hi0⟩ := u8_slice
 obtain ⟨i, hi, hi2⟩ := Option.map_eq_some_iff.1 hi0
 simp only [Prod.mk.injEq] at hi2
 obtain ⟨hz, hs, hby⟩ := hi2
 have hml : (bi m).length = k := by rw [bi_length, hm]
 cases A with
 | none =>
  have hm0 : m = [] := by
   rcases Nat.eq_zero_or_pos m.length with h0 | h0
   ·exact List.eq_nil_of_length_eq_zero h0
   ·obtain ⟨_, _, e, _⟩ := hx.2 (by rw [bi_length]; exact h0)
    cases e
  subst hm0
  have hk0 : k = 0 := by rw [← hm]; rfl
  subst hk0
  refine ⟨some ⟨b, 0, none⟩, cap, w, ?_, by omega, ⟨bi_byt _, fun _ => ⟨b, 0, rfl, hbw, fun j x hx => ?_⟩⟩, Below.refl _ _⟩
  ·simp [Builtin.append_, run_underlying hu, sizeOf, typeInfo, hi, Builtin.lenOf, Builtin.firstCells, hcap, storeCells]
  ·rw [List.append_nil] at hx
   obtain ⟨d, hd, rfl⟩ := List.getElem?_map .. ▸ hx |> Option.map_eq_some_iff.1
   rw [Nat.zero_add]
   exact hb j d hd
 | some a =>
  have hnews : ∀ j u, ((bi m).map fun x => Value.int .u8 x)[j]? = some u → w.cell? (a.add j) = some u := by
   intro j u hu
   rw [List.getElem?_map, Option.map_eq_some_iff] at hu
   obtain ⟨x, hx', rfl⟩ := hu
   obtain ⟨b', o', e, _, hc⟩ := hx.2 (by have := (List.getElem?_eq_some_iff.1 hx').1; omega)
   cases e
   have hp : (⟨b', o', none⟩ : Addr).add j = ⟨b', o' + j, none⟩ := by unfold Addr.add; split <;> simp_all
   rw [hp]
   exact hc j x hx'
  by_cases hfit : n + k ≤ cap
  ·have hr := run_append_room_cells (P := Tryd.prog) (w := w) 35 ty 5 i hu hi b 0 n cap a k c ((bi m).map fun x => Value.int .u8 x) (by rw [List.length_map, hml, hs, Nat.mul_one]) hnews (fun u hu => by
     obtain ⟨x, _, rfl⟩ := List.mem_map.1 hu
     rfl) hfit (fun j hj => by
     rw [List.length_map, hml] at hj
     rw [hs, Nat.mul_one, Nat.zero_add]
     exact (hroom (n + j) (by omega)).1) (fun j hj => by
     rw [List.length_map, hml] at hj
     rw [hs, Nat.mul_one, Nat.zero_add]
     exact (hroom (n + j) (by omega)).2)
   rw [hs, Nat.mul_one, Nat.zero_add] at hr
   refine ⟨_, _, _, hr, hfit, ⟨bi_byt _, fun _ => ⟨b, 0, rfl, Nat.lt_of_lt_of_le hbw (sc_size b _ n w), fun j x hx => ?_⟩⟩, sc_below hS _ _ _ (Below.refl _ _)⟩
   rw [Nat.zero_add]
   by_cases hj : j < n
   ·rw [World.cell?_setCells_out b _ n w ⟨b, j, none⟩ (fun _ _ => .inl hj)]
    rw [← bi_app, List.getElem?_append_left (by rw [bi_length, hn]; exact hj)] at hx
    obtain ⟨d, hd, rfl⟩ := Option.map_eq_some_iff.1 (List.getElem?_map .. ▸ hx)
    exact hb j d hd
   ·have hj2 : j - n < ((bi m).map fun x => Value.int .u8 x).length := by
     rw [List.length_map]
     have := (List.getElem?_eq_some_iff.1 hx).1
     rw [bi_length, List.length_append] at this
     rw [bi_length]
     omega
    have := World.cell?_setCells_in b ((bi m).map fun x => Value.int .u8 x) n w (fun q hq => (hroom (n + q) (by rw [List.length_map, hml] at hq; omega)).1) (j - n) hj2
    rw [show n + (j - n) = j by omega] at this
    rw [this]
    rw [← bi_app, List.getElem?_append_right (by rw [bi_length, hn]; omega), bi_length, hn] at hx
    rw [List.getElem_map]
    rw [(List.getElem?_eq_some_iff.1 hx).2]
  ·have holds : ∀ j u, ((bi l).map fun x => Value.int .u8 x)[j]? = some u → w.cell? ((⟨b, 0, none⟩ : Addr).add j) = some u := by
    intro j u hu
    rw [List.getElem?_map, Option.map_eq_some_iff] at hu
    obtain ⟨x, hx', rfl⟩ := hu
    obtain ⟨d, hd, rfl⟩ := Option.map_eq_some_iff.1 (List.getElem?_map .. ▸ hx')
    have hp : (⟨b, 0, none⟩ : Addr).add j = ⟨b, j, none⟩ := by unfold Addr.add; split <;> simp_all
    rw [hp]
    exact hb j d hd
   obtain ⟨v', w', hr, h2, h3⟩ := run_append_arg_grows (P := Tryd.prog) (w := w) 35 ty 5 i (.int .u8 0) 1 bb hu hi hz hs hby rfl (by omega) ⟨b, 0, none⟩ n cap ((bi l).map fun x => Value.int .u8 x) (by rw [List.length_map, bi_length, hn, Nat.mul_one]) holds a k c ((bi m).map fun x => Value.int .u8 x) (by rw [List.length_map, hml, Nat.mul_one]) hnews (by omega) (by simp only [maxLen]; omega) (by
    have : (n + k) * bb ≤ 200000 * 8 := Nat.mul_le_mul (by omega) hbb
    omega)
   have hown : OwnK .u8 5 w' w.heap.size v' (bi (l ++ m)) := by
    unfold OwnK
    rw [← bi_app, List.map_append, List.length_append, bi_length, hn, hml]
    exact h2
   obtain ⟨A', cap', hv', hc', _, y⟩ := hown.nums
   rw [bi_length, List.length_append, hn, hm] at hv' hc'
   subst hv'
   exact ⟨A', cap', w', hr, hc', byts_nums y, (Below.refl S w).grown h3 (by omega) (fun g hg => by cases hg)⟩
theorem wpList_app_row {ops : Array Oper} {rest : List Oper} {o : Oper} {a : Act} {Q : Exit → Act → World → Prop} (w : World) (hgd : o.guard = none) (s x : Operand)
  (ho : o.op = .call { callee := .builtin .append, args := #[s, x], argTypes := #[35, 35] })
  (b n cap S : Nat) (l m : List UInt8) (hs : a.eval s = .slice (some ⟨b, 0, none⟩) n cap) (hb : ∀ i c, l[i]? = some c → w.cell? ⟨b, i, none⟩ = some (.int .u8 ((c : UInt8).toNat : Int))) (hn : l.length = n) (hcap : n ≤ cap)
  (hroom : ∀ j, j < cap → (w.cell? ⟨b, j, none⟩).isSome = true ∧ w.frozen? ⟨b, j, none⟩ = false) (B : Nat) (A : Option Addr) (k c : Nat) (hxe : a.eval x = .slice A k c) (hx : Byts w B A (bi m)) (hm : m.length = k) (hl1 : n ≤ 100000) (hl2 : k ≤ 100000) (hS : S ≤ b) (hbw : b < w.heap.size)
  (h : ∀ A' cap' w', n + k ≤ cap' → Byts w' w'.heap.size A' (bi (l ++ m)) → Below S w w' → wpList Tryd.prog ops Q rest (a.put o.dst (.slice A' (n + k) cap')) w') : wpList Tryd.prog ops Q (o :: rest) a w :=
 wpList_plain hgd fun _ hK => by
  obtain ⟨A', cap', w', hrun, h2, h3, h4⟩ := run_app_row w o.type b n cap S l m hb hn hcap hroom B A k c hx hm hl1 hl2 hS hbw
  unfold Oper.wp execOp
  simp only [ho, resolve, invoke, builtin, Sem.run_bind, Sem.run_pure, Result.andThen_ok, List.map_toArray, List.map_cons, List.map_nil, hs, hxe, hrun]
  exact hK _ _ (h A' cap' w' h2 h3 h4)
end Go.Proofs.YtcieibidnpemjaaDoor
namespace Go.Proofs.YtcieibidnpemjaaDoor
open Go.RowKit Go.Sort
set_option linter.unusedSimpArgs false
theorem eq_str (z : ByteArray) : (z.toList == z.toList) = true := beq_self_eq_true _
set_option maxRecDepth 100000 in
set_option maxHeartbeats 4000000 in
theorem Writes_law (s : ByteArray) (A : Option Addr) (n cap : Nat) (l2 : List UInt8) (w : World) (hsz : s.size ≤ 9223372036854775807) (hb : Byts w w.heap.size A (bi l2)) (hn : l2.length = n) (hcap : n ≤ cap) (_hcm : cap ≤ 9223372036854775807) (hk : Kit w) :
    Calls Tryd.prog 4 #[.string s, .slice A n cap] w fun e w' => e = .returned (.bool true) ∧ Below w.heap.size w w' := by
  obtain ⟨m, hm⟩ : ∃ m, min s.size 60 = m := ⟨_, rfl⟩
  have hmz : min (s.size : Int) 60 = (m : Int) := by omega
  have hms : m ≤ s.size := by omega
  have hm60 : m ≤ 60 := by omega
  have hex : s.extract 0 m = bs (s.data.toList.take m) := by have := bs_to s.data.toList m; rwa [bs_of] at this
  obtain ⟨t, htt⟩ : ∃ t, s.data.toList.take m = t := ⟨_, rfl⟩
  have htl : t.length ≤ 60 := by rw [← htt, List.length_take]; omega
  have htm : t.length ≤ 100000 := by omega
  rw [htt] at hex
  obtain ⟨m2, hm2⟩ : ∃ m2, min n 20 = m2 := ⟨_, rfl⟩
  have hm2z : min (n : Int) 20 = (m2 : Int) := by omega
  have hm2n : m2 ≤ n := by omega
  have hm2c : m2 ≤ cap := by omega
  have hm20 : m2 ≤ 20 := by omega
  have hbt := hb.take m2
  rw [bi_take] at hbt
  obtain ⟨u, hu⟩ : ∃ u, l2.take m2 = u := ⟨_, rfl⟩
  have hul : u.length = m2 := by rw [← hu, List.length_take]; omega
  rw [hu] at hbt
  have hwl : (wrF t).length ≤ 242 := by have := wrM_len t; unfold wrF; simp only [List.length_append, List.length_cons, List.length_nil]; omega
  have hWt := textF_le (text_wr t)
  obtain ⟨S, hS⟩ : ∃ S, w.heap.size = S := ⟨_, rfl⟩
  have HK : Hid (∀ V, Below S w V → Kit V) := fun V hb => hk.below (by rw [hS]; exact hb)
  have HBT : Hid (∀ V, Below S w V → Byts V S A (bi u)) := fun V hV => by rw [hS] at hbt; exact hbt.below hV (Nat.le_refl _)
  have HW := Lib.hid (fun V => WriteP_run t V (by omega))
  have HT : Hid (∀ V, Kit V → Calls Tryd.prog 8 #[.string (bs (wrF t))] V fun e w' => e = .returned (.tuple #[.string (bs t), .nilIface]) ∧ Below V.heap.size V w') := fun V hV => TextP_run (wrF t) 0 t V (by omega) hV.1 hV.2.1 hV.2.2 (text_wr t)
  have HSC : Hid (∀ V A' cap', Kit V → Byts V V.heap.size A' (bi (wrF t ++ u)) → (wrF t).length + m2 ≤ cap' → Calls Tryd.prog 13 #[.slice A' ((wrF t).length + m2) cap', .int .i64 0] V fun e w' => e = .returned (.tuple #[.int .i64 5, .int .i64 ((wrF t).length : Int), .nilIface]) ∧ Below V.heap.size V w') := fun V A' cap' hV hB hc =>
    ScanP_run A' ((wrF t).length + m2) cap' (wrF t ++ u) 0 5 (wrF t).length 0 V V.heap.size hB (by rw [List.length_append, hul]) (by omega) hc hV.1 hV.2.1 hV.2.2 (scan_wr t u)
  have HWD := Lib.hid (fun V => WriteD_run t V (by omega))
  have HWK := Lib.hid (fun V (hV : Kit V) => works10_run V hV)
  have HCV := Lib.hid (fun V => run_conv_row V (wrF t) (by omega))
  have HS := Lib.hid hS
  have HUL := Lib.hid hul
  have HB0 : Hid (Below S w w) := Below.refl _ _
  have HK0 : Hid (Kit w) := hk
  have hws := bs_size (wrF t)
  rw [hS]
  clear hb hbt hn hk htt hm hm2 hu htl htm hWt hul
  obtain ⟨L, hL⟩ : ∃ L, (wrF t).length = L := ⟨_, rfl⟩
  have HL := Lib.hid hL
  rw [hL] at hwl hws HSC HCV
  obtain ⟨zz, hzz⟩ : ∃ zz, bs (wrF t) = zz := ⟨_, rfl⟩
  rw [hzz] at hws HW HT HWD HCV
  clear hL hzz
  generalize bs t = z at *
  have ez := eq_str z
  have ezz := eq_str zz
  go_enter Tryd.func4, Tryd.ntmps4
  go_wp2_with fail
  refine (HW.out _).mono ?_
  rintro e w1 ⟨rfl, hw⟩
  have B1 := Lib.hid (HB0.out.trans (hw.mono (by have := HS.out; omega)))
  have Z1 : Hid (S ≤ w1.heap.size) := by show _ ≤ _; have := HS.out; have := hw.size; omega
  clear hw hS
  go_wp2_with fail
  refine (HT.out _ (HK.out _ B1.out)).mono ?_
  rintro e w2 ⟨rfl, hw⟩
  have B2 := Lib.hid (B1.out.trans (hw.mono Z1.out))
  have Z2 : Hid (S ≤ w2.heap.size) := Nat.le_trans Z1.out hw.size
  clear hw
  obtain ⟨capw, w3, hcv, hc1, _, hby, hbl, hts, hrm⟩ := HCV.out w2
  have B3 := Lib.hid (B2.out.trans (hbl.mono Z2.out))
  have Z3 : Hid (S ≤ w3.heap.size) := Nat.le_trans Z2.out hbl.size
  have hcell : ∀ i c, (wrF t)[i]? = some c → w3.cell? ⟨w2.heap.size, i, none⟩ = some (.int .u8 ((c : UInt8).toNat : Int)) := fun i c hc => by
    have := byts_cell hby hc
    rwa [Nat.zero_add] at this
  have HCL := Lib.hid hcell
  have HRM := Lib.hid hrm
  have HTS := Lib.hid hts
  clear hcell hrm hts hby hbl
  go_wp2_with
    (at_builtin
     refine wpList_app_row w3 rfl (.tmp 30) (.tmp 31) rfl w2.heap.size L capw S (wrF t) u rfl HCL.out HL.out hc1 HRM.out S A m2 cap rfl (HBT.out _ B3.out) HUL.out (by omega) (by omega) Z2.out HTS.out ?_
     intro A' cap' w4 hc4 hy4 hb4
     have B4 := Lib.hid (B3.out.trans hb4)
     have Z4 : Hid (S ≤ w4.heap.size) := Nat.le_trans Z3.out hb4.size
     have HSC4 := Lib.hid (HSC.out w4 A' cap' (HK.out _ B4.out) hy4 hc4)
     clear hc4 hy4 hb4)
  refine (HSC4.out).mono ?_
  rintro e w5 ⟨rfl, hw⟩
  have B5 := Lib.hid (B4.out.trans (hw.mono Z4.out))
  have Z5 : Hid (S ≤ w5.heap.size) := Nat.le_trans Z4.out hw.size
  clear hw
  go_wp2_with fail
  refine (HWD.out _).mono ?_
  rintro e w6 ⟨rfl, hw⟩
  have B6 := Lib.hid (B5.out.trans (hw.mono Z5.out))
  have Z6 : Hid (S ≤ w6.heap.size) := Nat.le_trans Z5.out hw.size
  clear hw
  go_wp2_with fail
  refine (HWK.out _ (HK.out _ B6.out)).mono ?_
  rintro e w7 ⟨rfl, hw⟩
  have B7 := Lib.hid (B6.out.trans (hw.mono Z6.out))
  have Z7 : Hid (S ≤ w7.heap.size) := Nat.le_trans Z6.out hw.size
  clear hw
  go_wp2_with fail
  go_ret
  exact ⟨rfl, B7.out⟩
end Go.Proofs.YtcieibidnpemjaaDoor
