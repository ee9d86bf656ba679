/-
  The closure of Text by its contract.
-/
import Derived.Test.YtkgaaabecdbidaaDoorMx14
import Derived.Test.YtkgaaabecdbidaaDoorMx01
import Derived.ProofKit
import Derived.OpenShut
import Derived.Lib.SmallJoins
import Derived.Deep.SlicePairs
import Derived.Deep.Slices
import Derived.Test.YtkgaaabecdbidaaDoorMx04
import Derived.Test.YtkgaaabecdbidaaDoorMx06
namespace Go.Proofs.YtkgaaabecdbidaaDoor
open Go.RowKit
set_option linter.unusedSimpArgs false
set_option linter.unusedVariables false
theorem numS_dec (n : Nat) : numS (n : Int) = ⟨(Lib.decDigits n).toArray⟩ := by
 unfold numS txt
 rw [Int.toNat_natCast, show sgn false n = false by simp [sgn], if_neg (by decide)]
 rfl
structure TxS (V : World) (b : Nat) (bs : List Nat) (acc : ByteArray) (p v : Value) (w : World) : Prop where
 bld : BldAt w b p v acc
 pok : p = .pointer none ∨ p = .pointer (some ⟨b, 0, none⟩)
 but : But V w bs
 blk : ∀ g, v.ownBlock = some g → g ∈ bs ∨ V.heap.size ≤ g
theorem TxS.below {V w w' : World} {b : Nat} {bs : List Nat} {acc : ByteArray} {p v : Value} (h : TxS V b bs acc p v w) (hb : Below w.heap.size w w') : TxS V b bs acc p v w' := ⟨h.bld.below hb, h.pok, h.but.trans (But.of_below hb), h.blk⟩
theorem TxS.write {V w w' : World} {b : Nat} {bs : List Nat} {acc acc2 : ByteArray} {p v : Value} (h : TxS V b bs acc p v w) (hm : b ∈ bs) (ho : BldOut w b v acc2 w') : ∃ v', TxS V b bs acc2 (.pointer (some ⟨b, 0, none⟩)) v' w' := by
 obtain ⟨v', k1, k2, k3⟩ := ho
 have hs := h.but.size
 refine ⟨v', k1, .inr rfl, ⟨k2.os.trans h.but.os, k2.tape.trans h.but.tape, k2.output.trans h.but.output, Nat.le_trans hs k2.size, fun k hk hn => ?_⟩, fun g hg => ?_⟩
 ·refine (k2.block k (by omega) fun hmem => ?_).trans (h.but.block k hk hn)
  rcases List.mem_cons.1 hmem with rfl | hmem
  ·exact hn hm
  ·rcases h.blk k (by simpa using hmem) with h5 | h5
   ·exact hn h5
   ·omega
 ·rcases k3 with k3 | ⟨x, k3, h5⟩
  ·exact h.blk g (k3 ▸ hg)
  ·rw [k3] at hg
   cases hg
   exact .inr (by omega)
def TxOut (w : World) (b : Nat) (v : Value) (acc : ByteArray) (w' : World) : Prop := ∃ p' v', TxS w b (b :: v.ownBlock.toList) acc p' v' w'
theorem TxS.out {w V w' : World} {b : Nat} {p v v0 : Value} {acc : ByteArray} (h : TxS V b (b :: v0.ownBlock.toList) acc p v w') (hb : Below w.heap.size w V) : TxOut w b v0 acc w' :=
 ⟨p, v, h.bld, h.pok, (But.of_below hb).trans h.but, fun g hg => (h.blk g hg).imp id fun h2 => Nat.le_trans hb.size h2⟩
section
variable {T : List Nd} {A : Option Addr} {n cap a b B N R : Nat} {c f t : Int} {j : Nat} {p v : Value} {acc : ByteArray} {w V : World}
structure TxIn (T : List Nd) (A : Option Addr) (n cap a b B : Nat) (c f t : Int) (j : Nat) (p v : Value) (acc : ByteArray) (w V : World) : Prop where
 hV : w.alloc (.cells #[.int .i64 c, .int .i64 j, .int .i64 f, .int .i64 t] 64) = V
 tx : TxS V b (b :: v.ownBlock.toList) acc p v V
 ha : VarAt V a (.slice A n cap)
 nds : NdsAt V B A T
 sep : a ∉ b :: v.ownBlock.toList ∧ w.heap.size ∉ b :: v.ownBlock.toList ∧ ∀ x ∈ b :: v.ownBlock.toList, B ≤ x
 lt : B ≤ w.heap.size
theorem TxIn.mk' (h : BldAt w b p v acc) (hp : p = .pointer none ∨ p = .pointer (some ⟨b, 0, none⟩)) (ha : VarAt w a (.slice A n cap)) (hn : NdsAt w B A T) (hB : B ≤ b) (hab : a < b) (c f t : Int) (j : Nat) : ∃ V, TxIn T A n cap a b B c f t j p v acc w V := by
 have hb : Below w.heap.size w (w.alloc (.cells #[.int .i64 c, .int .i64 j, .int .i64 f, .int .i64 t] 64)) := (Below.refl _ _).alloc (Nat.le_refl _) _
 have hown := h.own
 have hlt := h.lt
 refine ⟨_, rfl, ⟨h.below hb, hp, But.refl _ _, fun g hg => .inl (by simp [hg])⟩, ha.below hb, hn.below hb (by omega), ⟨fun hm => ?_, fun hm => ?_, fun x hx => ?_⟩, by omega⟩
 ·rcases List.mem_cons.1 hm with rfl | hm
  ·omega
  ·have := (World.ownsRow.lt hown a (by simpa using hm)).1; omega
 ·rcases List.mem_cons.1 hm with h5 | hm
  ·omega
  ·have := (World.ownsRow.lt hown _ (by simpa using hm)).2; omega
 ·rcases List.mem_cons.1 hx with rfl | hx
  ·exact hB
  ·have := (World.ownsRow.lt hown x (by simpa using hx)).1; omega
theorem TxIn.bel (h : TxIn T A n cap a b B c f t j p v acc w V) : Below w.heap.size w V := by rw [← h.hV]; exact (Below.refl _ _).alloc (Nat.le_refl _) _
theorem TxIn.cells (h : TxIn T A n cap a b B c f t j p v acc w V) {w' : World} {acc' : ByteArray} {p' v' : Value} (k : TxS V b (b :: v.ownBlock.toList) acc' p' v' w') : w'.cell? ⟨w.heap.size, 0, none⟩ = some (.int .i64 c) ∧ w'.cell? ⟨w.heap.size, 1, none⟩ = some (.int .i64 j) ∧ w'.cell? ⟨w.heap.size, 2, none⟩ = some (.int .i64 f) ∧ w'.cell? ⟨w.heap.size, 3, none⟩ = some (.int .i64 t) ∧ w'.cell? ⟨a, 0, none⟩ = some (.slice A n cap) := by
 have hlt : w.heap.size < V.heap.size := by rw [← h.hV]; simp
 have hc : ∀ (i : Nat) (u : Value), V.cell? ⟨w.heap.size, i, none⟩ = some u → w'.cell? ⟨w.heap.size, i, none⟩ = some u := fun i u hu => (k.but.cell (p := ⟨w.heap.size, i, none⟩) hlt h.sep.2.1).trans hu
 refine ⟨hc 0 _ ?_, hc 1 _ ?_, hc 2 _ ?_, hc 3 _ ?_, (h.ha.but k.but h.sep.1).1⟩
 all_goals (rw [← h.hV]; simp)
theorem TxIn.kind (h : TxIn T A n cap a b B c f t j p v acc w V) {w' : World} {acc' : ByteArray} {p' v' : Value} (k : TxS V b (b :: v.ownBlock.toList) acc' p' v' w') (hj : j < T.length) : ∃ tb tf, A = some ⟨tb, tf, none⟩ ∧ w'.cell? ⟨tb, tf + j * 4, none⟩ = some (.int .i64 (nd T j).k) := by
 obtain ⟨tb, tf, e, hb, hget⟩ := h.nds.get (by omega)
 obtain ⟨_, _, _, h0, _⟩ := hget j _ (at_nd hj)
 have hl := h.lt
 have hs := h.bel.size
 exact ⟨tb, tf, e, (k.but.cell (p := ⟨tb, tf + j * 4, none⟩) (by show tb < _; omega) fun hm => by have := h.sep.2.2 _ hm; simp only at this; omega).trans h0⟩
end
theorem spS_bts : bts spS = [((32 : Nat) : Int)] := rfl
theorem clS_bts : bts (⟨#[41]⟩ : ByteArray) = [((41 : Nat) : Int)] := rfl
set_option maxHeartbeats 4000000 in
set_option maxRecDepth 100000 in
theorem text1_out {T : List Nd} {A : Option Addr} {n cap a b B : Nat} {f t : Int} {j : Nat} {p v : Value} {acc : ByteArray} {w V : World} (h : TxIn T A n cap a b B 2 f t j p v acc w V) (hsz : acc.size ≤ 300000) :
  Calls Tryd.prog 41 #[.agg #[.int .i64 2, .int .i64 j, .int .i64 f, .int .i64 t], .pointer (some ⟨a, 0, none⟩), .pointer (some ⟨b, 0, none⟩)] w fun e w' => e = .returned (.tuple #[]) ∧ TxOut w b v (acc ++ (⟨#[41]⟩ : ByteArray)) w' := by
 have hV := h.hV
 obtain ⟨s0, s1, s2, s3, sa⟩ := h.cells h.tx
 have H := Lib.hid h
 have HW := Lib.hid (writeByte_run h.tx.bld h.tx.pok (by omega) 41 _ clS_bts)
 clear h hsz
 go_enter Tryd.func41, Tryd.ntmps41
 go_wp2_with fail
 refine HW.out.mono ?_
 rintro e w1 ⟨rfl, h1⟩
 obtain ⟨v1, k1⟩ := H.out.tx.write (by simp) h1
 have hout := Lib.hid (k1.out H.out.bel)
 clear HW h1 k1
 go_wp2_with fail
 go_end0
 exact ⟨rfl, hout.out⟩
theorem toks_snoc (a : ByteArray) (k : Nat) (f : Int) : toksA a (runW (k + 1) f) = toksA a (runW k f) ++ (spS ++ numS (f + k)) := by
 rw [runW_snoc, toksA_app, ← ByteArray.append_assoc]
 rfl
set_option maxHeartbeats 4000000 in
set_option maxRecDepth 100000 in
theorem text1_over {T : List Nd} {A : Option Addr} {n cap a b B : Nat} {f t : Int} {j : Nat} {p v : Value} {acc : ByteArray} {w V : World} (h : TxIn T A n cap a b B 1 f t j p v acc w V) (hft : (0 ≤ f ∧ t ≤ 100) ∨ t ≤ f) (hsz : (toksA acc (spanW f t)).size ≤ 300000) :
  Calls Tryd.prog 41 #[.agg #[.int .i64 1, .int .i64 j, .int .i64 f, .int .i64 t], .pointer (some ⟨a, 0, none⟩), .pointer (some ⟨b, 0, none⟩)] w fun e w' => e = .returned (.tuple #[]) ∧ TxOut w b v (toksA acc (spanW f t)) w' := by
 have hV := h.hV
 obtain ⟨s0, s1, s2, s3, sa⟩ := h.cells h.tx
 have H := Lib.hid h
 have HFT := Lib.hid hft
 obtain ⟨N, hN⟩ : ∃ N, w.heap.size = N := ⟨_, rfl⟩
 have HCL := Lib.hid (fun (w' : World) (acc' : ByteArray) (p' v' : Value) (k : TxS V b (b :: v.ownBlock.toList) acc' p' v' w') => h.cells k)
 rw [hN] at HCL s0 s1 s2 s3
 obtain ⟨q, hq⟩ : ∃ q : Nat, (t - f).toNat = q := ⟨_, rfl⟩
 have hspan : Hid (spanW f t = runW q f) := by show _ = _; unfold spanW; rw [hq]
 have HN2 : Hid ((f < t → t = f + q) ∧ (¬ f < t → q = 0)) := ⟨fun h => by omega, fun h => by omega⟩
 have HSZ : Hid (∀ k, k ≤ q → (toksA acc (runW k f)).size ≤ 300000) := fun k hk => by
  refine Nat.le_trans ?_ hsz
  rw [hspan.out, show q = k + (q - k) by omega, runW_add, toksA_app]
  exact toksA_ge _ _
 clear h hsz hft hq
 go_enter Tryd.func41, Tryd.ntmps41
 go_wp2_with fail
 clear s0 s1 s2 s3 sa
 go_loopg [4] (q + 1) (fun h s4 wr => ∃ (k : Nat) (z : Int) (acc1 : ByteArray) (p1 v1 : Value), s4 = .int .i64 z ∧ Hid (z = f + (k : Int) ∧ k ≤ q ∧ k + h = q + 1) ∧ Hid (toksA acc (runW k f) = acc1) ∧ Hid (TxS V b (b :: v.ownBlock.toList) acc1 p1 v1 wr))
 case atStart => exact ⟨0, f, acc, p, v, rfl, by show _ ∧ _; simp, rfl, H.out.tx⟩
 case round =>
  obtain ⟨k, z, acc1, p1, v1, rfl, HK, HA, HX⟩ := hrel
  generalize wr = w1 at *
  obtain ⟨s0, s1, s2, s3, sa⟩ := HCL.out w1 _ _ _ HX.out
  by_cases hk : k < q
  ·have hzt : z < t := by
    have h1 := HK.out
    have h2 := HN2.out
    rcases Int.lt_or_le f t with h3 | h3
    ·have := h2.1 h3; omega
    ·have := h2.2 (by omega); omega
   obtain ⟨y, rfl⟩ : ∃ y : Nat, z = y := ⟨z.toNat, by have := HFT.out; have := HK.out; omega⟩
   have hy100 : y < 100 := by have := HFT.out; have := HK.out; omega
   have HIT := Lib.hid (Tryd.strconv_Itoa_small y hy100 w1)
   rw [← numS_dec] at HIT
   obtain ⟨sy, hsy⟩ : ∃ s, numS (y : Int) = s := ⟨_, rfl⟩
   have hsy3 : sy.size ≤ 3 := by rw [← hsy]; exact numS_size (by omega)
   rw [hsy] at HIT
   have hk1 := HSZ.out k (by omega)
   have hA2 : Hid (toksA acc (runW (k + 1) f) = acc1 ++ ((⟨#[32]⟩ : ByteArray) ++ sy)) := by show _ = _; rw [toks_snoc, HA.out, ← HK.out.1, hsy]; rfl
   have hss : ((⟨#[32]⟩ : ByteArray) ++ sy).size ≤ 400000 := by rw [ByteArray.size_append]; show 1 + _ ≤ _; omega
   have HW := Lib.hid (writeString_run HX.out.bld HX.out.pok (by have := HA.out; rw [this] at hk1; omega) ((⟨#[32]⟩ : ByteArray) ++ sy) hss)
   have hss9 : 1 + sy.size ≤ 9223372036854775807 := by omega
   clear hsy hk1 hss hsy3
   go_wp2_with fail
   refine HIT.out.mono ?_
   rintro e w2 ⟨rfl, rfl⟩
   clear HIT
   go_wp2_with fail
   refine HW.out.mono ?_
   rintro e w3 ⟨rfl, h3⟩
   obtain ⟨v3, k3⟩ := HX.out.write (by simp) h3
   have HX3 := Lib.hid k3
   clear HW h3 k3 HX s0 s1 s2 s3 sa
   go_wp2_with fail
   go_roundg (q - k)
   case measure => have := HK.out; omega
   case rel => exact ⟨k + 1, (y : Int) + 1, _, _, _, by go_num, by show _ ∧ _; have := HK.out; omega, hA2.out, HX3.out⟩
  ·obtain rfl : k = q := by have := HK.out; omega
   have hzt : ¬ z < t := by
    have h1 := HK.out
    have h2 := HN2.out
    rcases Int.lt_or_le f t with h3 | h3
    ·have := h2.1 h3; omega
    ·have := h2.2 (by omega); omega
   have hout : Hid (TxOut w b v (toksA acc (spanW f t)) w1) := by show TxOut _ _ _ _ _; rw [hspan.out, HA.out]; exact HX.out.out H.out.bel
   go_wp2_with fail
   go_end0
   exact ⟨rfl, hout.out⟩
set_option maxHeartbeats 8000000 in
set_option maxRecDepth 100000 in
theorem text1_into {T : List Nd} {A : Option Addr} {n cap a b B : Nat} {f t : Int} {j : Nat} {p v : Value} {acc : ByteArray} {w V : World} (h : TxIn T A n cap a b B 0 f t j p v acc w V) (hl : T.length = n) (hn : n ≤ 40) (hj : j < n) (hk0 : 0 ≤ (nd T j).k) (hk66 : (nd T j).k ≤ 66) (hsz : acc.size ≤ 300000) :
  Calls Tryd.prog 41 #[.agg #[.int .i64 0, .int .i64 j, .int .i64 f, .int .i64 t], .pointer (some ⟨a, 0, none⟩), .pointer (some ⟨b, 0, none⟩)] w fun e w' => e = .returned (.tuple #[]) ∧ TxOut w b v ((if j = n - 1 then acc else acc ++ spS) ++ ((⟨#[40]⟩ : ByteArray) ++ numS (nd T j).k)) w' := by
 have hV := h.hV
 obtain ⟨s0, s1, s2, s3, sa⟩ := h.cells h.tx
 have H := Lib.hid h
 obtain ⟨N, hN⟩ : ∃ N, w.heap.size = N := ⟨_, rfl⟩
 have HCL := Lib.hid (fun (w' : World) (acc' : ByteArray) (p' v' : Value) (k : TxS V b (b :: v.ownBlock.toList) acc' p' v' w') => h.cells k)
 have HKD := Lib.hid (fun (w' : World) (acc' : ByteArray) (p' v' : Value) (k : TxS V b (b :: v.ownBlock.toList) acc' p' v' w') => h.kind k (by omega))
 rw [hN] at HCL s0 s1 s2 s3
 obtain ⟨kk, hkk⟩ : ∃ kk : Nat, (nd T j).k = kk := ⟨(nd T j).k.toNat, by omega⟩
 rw [hkk] at HKD ⊢
 have HIT := Lib.hid (fun V => Tryd.strconv_Itoa_small kk (by omega) V)
 rw [← numS_dec] at HIT
 obtain ⟨sy, hsy⟩ : ∃ s, numS (kk : Int) = s := ⟨_, rfl⟩
 have hsy3 : sy.size ≤ 3 := by rw [← hsy]; exact numS_size (by omega)
 rw [hsy] at HIT ⊢
 have hss : ((⟨#[40]⟩ : ByteArray) ++ sy).size ≤ 400000 := by rw [ByteArray.size_append]; show 1 + _ ≤ _; omega
 have hss9 : 1 + sy.size ≤ 9223372036854775807 := by omega
 have HRT := Lib.hid (fun V => root_runB A n cap V (by omega) hn)
 have hjz : (j : Int) < (n : Int) := by omega
 obtain ⟨l, hll⟩ : ∃ l, n - 1 = l := ⟨_, rfl⟩
 rw [hll] at HRT ⊢
 have HSP : Hid ((acc ++ spS).size ≤ 400000) := by show _ ≤ _; rw [ByteArray.size_append]; show _ + 1 ≤ _; omega
 have HSZ := Lib.hid hsz
 have NB : Hid (TxS V b (b :: v.ownBlock.toList) acc p v V.drew) := H.out.tx.below (Below.refl _ V).drew
 unfold trV at HRT
 clear h hkk hsy hsy3 hk0 hk66 hsz hll
 go_enter Tryd.func41, Tryd.ntmps41
 go_wp2_with fail
 go_cut [13] (fun s13 wx => s13 = .bool ((j : Int) != (l : Int)) ∧ Hid (TxS V b (b :: v.ownBlock.toList) acc p v wx))
 case first =>
  go_region_held3 (fun W' => W'.cell? ⟨N, 1, none⟩ = some (.int .i64 j) ∧ W'.cell? ⟨a, 0, none⟩ = some (.slice A n cap)) (first | exact ⟨(HCL.out _ _ _ _ H.out.tx).2.1, (HCL.out _ _ _ _ H.out.tx).2.2.2.2⟩ | exact ⟨(HCL.out _ _ _ _ NB.out).2.1, (HCL.out _ _ _ _ NB.out).2.2.2.2⟩ | go_keep)
   (first | (go_at_call 31; refine (HRT.out _).mono ?_; rintro e w7 ⟨rfl, hw7⟩; have NB := Lib.hid (NB.out.below hw7); clear hw7))
  all_goals go_wp2_with fail
  all_goals go_meet
  all_goals exact ⟨rfl, NB⟩
 case rest =>
  obtain ⟨rfl, HX⟩ := hcut
  generalize wc = w2 at *
  clear s0 s1 s2 s3 sa
  by_cases hjl : j = l
  ·subst hjl
   have hjb : ((j : Int) != (j : Int)) = false := by simp
   have HSX : Hid (acc.size ≤ 400000) := by show _ ≤ _; have := HSZ.out; omega
   obtain ⟨wz, hwz⟩ : ∃ z, z = w2 := ⟨_, rfl⟩
   subst hwz
   obtain ⟨s0, s1, s2, s3, sa⟩ := HCL.out _ _ _ _ HX.out
   obtain ⟨tb, tf, rfl, kc⟩ := HKD.out _ _ _ _ HX.out
   have HI := Lib.hid (HIT.out wz)
   have HW := Lib.hid (writeString_run HX.out.bld HX.out.pok HSX.out ((⟨#[40]⟩ : ByteArray) ++ sy) hss)
   go_wp2_with fail
   refine HI.out.mono ?_
   rintro e w8 ⟨rfl, rfl⟩
   clear HI
   go_wp2_with fail
   refine HW.out.mono ?_
   rintro e w9 ⟨rfl, h9⟩
   obtain ⟨v9, k9⟩ := HX.out.write (by simp) h9
   have hout := Lib.hid (k9.out H.out.bel)
   clear HW h9 k9 HX NB
   go_wp2_with fail
   go_end0
   refine ⟨rfl, ?_⟩
   first
    | exact hout.out
    | (rw [if_pos rfl]; exact hout.out)
  ·have hjb : ((j : Int) != (l : Int)) = true := by simp; omega
   have HSX : Hid ((acc ++ spS).size ≤ 400000) := HSP.out
   have HB := Lib.hid (writeByte_run HX.out.bld HX.out.pok (by have := HSZ.out; omega) 32 _ spS_bts)
   go_wp2_with fail
   refine HB.out.mono ?_
   rintro e wz ⟨rfl, h3⟩
   obtain ⟨v3, k3⟩ := HX.out.write (by simp) h3
   have HX := Lib.hid k3
   clear HB h3 k3
   obtain ⟨s0, s1, s2, s3, sa⟩ := HCL.out _ _ _ _ HX.out
   obtain ⟨tb, tf, rfl, kc⟩ := HKD.out _ _ _ _ HX.out
   have HI := Lib.hid (HIT.out wz)
   have HW := Lib.hid (writeString_run HX.out.bld HX.out.pok HSX.out ((⟨#[40]⟩ : ByteArray) ++ sy) hss)
   go_wp2_with fail
   refine HI.out.mono ?_
   rintro e w8 ⟨rfl, rfl⟩
   clear HI
   go_wp2_with fail
   refine HW.out.mono ?_
   rintro e w9 ⟨rfl, h9⟩
   obtain ⟨v9, k9⟩ := HX.out.write (by simp) h9
   have hout := Lib.hid (k9.out H.out.bel)
   clear HW h9 k9 HX NB
   go_wp2_with fail
   go_end0
   exact ⟨rfl, hout.out⟩
end Go.Proofs.YtkgaaabecdbidaaDoor
namespace Go.Proofs.YtkgaaabecdbidaaDoor
open Go.RowKit
set_option linter.unusedSimpArgs false
set_option linter.unusedVariables false
theorem text_act {T : List Nd} {m : Int} (hV : Valid T m) (hm : m ≤ 100) {A : Option Addr} {n cap : Nat} (hl : T.length = n) (hn : n ≤ 40) (S B a b : Nat) (hB : B ≤ b) (hab : a < b) (hb : b < S) : ActW T S 41 #[.pointer (some ⟨a, 0, none⟩), .pointer (some ⟨b, 0, none⟩)]
  (fun D bs w => ∃ p v, bs = b :: v.ownBlock.toList ∧ (p = .pointer none ∨ p = .pointer (some ⟨b, 0, none⟩)) ∧ BldAt w b p v (D.foldl (txA T (T.length - 1)) ⟨#[]⟩) ∧ VarAt w a (.slice A n cap) ∧ NdsAt w B A T) := by
 refine ⟨entersP_of Tryd.func41 (by kernel_rfl) rfl, fun D s R bs w hs hI hS => ?_, fun D bs w w' hI hap => ?_⟩
 ·obtain ⟨p, v, rfl, hp, h1, h2, h3⟩ := hI
  have hsz := tx_small hV hm (by omega) hs
  have hge := txA_ge T (T.length - 1) (D.foldl (txA T (T.length - 1)) ⟨#[]⟩) s
  have hmem : s ∈ stepsW T (T.length - 1) := hs ▸ (by simp)
  obtain ⟨hsj, hsc⟩ := steps_in hV hmem
  have hnum := hV.num s.j hsj
  have hroot := hV.num (T.length - 1) (by have := hV.pos; omega)
  have hr1 : 0 ≤ (rootOf T).f := hroot.2.2.1
  have hr2 : (rootOf T).t ≤ m := hroot.2.2.2.2
  obtain ⟨V, hin⟩ := TxIn.mk' h1 hp h2 h3 hB hab s.c s.f s.t s.j
  have key : Calls Tryd.prog 41 (#[stpV s] ++ #[.pointer (some ⟨a, 0, none⟩), .pointer (some ⟨b, 0, none⟩)]) w fun e w' => e = .returned (.tuple #[]) ∧ TxOut w b v (txA T (T.length - 1) (D.foldl (txA T (T.length - 1)) ⟨#[]⟩) s) w' := by
   have hacc : (D.foldl (txA T (T.length - 1)) ⟨#[]⟩).size ≤ 300000 := by omega
   obtain ⟨c, j, f, t⟩ := s
   have hsj2 : j < n := by rw [← hl]; exact hsj
   have hk1 : 0 ≤ (nd T j).k := hnum.1
   have hk2 : (nd T j).k ≤ 66 := hnum.2.1
   rcases hsc with hc | hc | hc
   ·simp only at hc
    subst hc
    have e : txA T (T.length - 1) (D.foldl (txA T (T.length - 1)) ⟨#[]⟩) ⟨0, j, f, t⟩ = (if j = n - 1 then D.foldl (txA T (T.length - 1)) ⟨#[]⟩ else D.foldl (txA T (T.length - 1)) ⟨#[]⟩ ++ spS) ++ ((⟨#[40]⟩ : ByteArray) ++ numS (nd T j).k) := by rw [← hl]; unfold txA; rw [if_pos rfl]
    rw [e]
    exact text1_into hin hl hn hsj2 hk1 hk2 hacc
   ·simp only at hc
    subst hc
    rw [tx_over] at hsz ⊢
    refine text1_over hin ?_ (Nat.le_trans hsz (by decide))
    show (0 ≤ f ∧ t ≤ 100) ∨ t ≤ f
    rcases Int.lt_or_le f t with h5 | h5
    ·have a1 := step_in hV hmem (Int.le_refl _) h5
     have a2 := step_in hV hmem (x := t - 1) (by show f ≤ t - 1; omega) (by show t - 1 < t; omega)
     have a3 : (rootOf T).f ≤ f := a1.1
     have a4 : t - 1 < (rootOf T).t := a2.2
     exact .inl ⟨by omega, by omega⟩
    ·exact .inr h5
   ·simp only at hc
    subst hc
    have e : txA T (T.length - 1) (D.foldl (txA T (T.length - 1)) ⟨#[]⟩) ⟨2, j, f, t⟩ = D.foldl (txA T (T.length - 1)) ⟨#[]⟩ ++ (⟨#[41]⟩ : ByteArray) := by unfold txA; rw [if_neg (show ¬ (2 : Int) = 0 by decide), if_neg (show ¬ (2 : Int) = 1 by decide), if_pos rfl]
    rw [e]
    exact text1_out hin hacc
  refine key.mono ?_
  rintro e w' ⟨rfl, p', v', k⟩
  have hown := k.bld.own
  have hsep := hin.sep
  refine ⟨rfl, b :: v'.ownBlock.toList, ⟨p', v', rfl, k.pok, ?_, h2.but k.but hsep.1, ?_⟩, k.but, fun x hx => ?_⟩
  ·rw [List.foldl_append]; exact k.bld
  ·exact h3.below (B' := B) ⟨k.but.os, k.but.tape, k.but.output, k.but.size, fun x hx => k.but.block x (by omega) fun hmm => by have := hsep.2.2 x hmm; omega⟩ (Nat.le_refl _)
  ·rcases List.mem_cons.1 hx with rfl | hx
   ·exact ⟨.inl (by simp), k.bld.lt⟩
   ·have hg : v'.ownBlock = some x := by simpa using hx
    exact ⟨k.blk x hg, (World.ownsRow.lt hown x hg).2⟩
 ·obtain ⟨p, v, rfl, hp, h1, h2, h3⟩ := hI
  have hown := h1.own
  exact ⟨p, v, rfl, hp, h1.keep (hap.block b h1.lt (.inl (by simp))) (fun g hg => hap.block g (World.ownsRow.lt hown g hg).2 (.inl (by simp [hg]))), h2.heap (hap.block a h2.lt (.inr (by omega))), h3.below (B' := B) ⟨hap.os, hap.tape, hap.output, hap.size, fun x hx => hap.block x (by have := h1.lt; omega) (.inr (by omega))⟩ (Nat.le_refl _)⟩
set_option maxHeartbeats 8000000 in
set_option maxRecDepth 100000 in
theorem Text_runT : SaysText := by
 intro A n cap T w h ht100
 have hl := Lib.hid h.len
 have hn40 := h.small.1
 obtain ⟨S, hS⟩ : ∃ S, w.heap.size = S := ⟨_, rfl⟩
 obtain ⟨W, hW⟩ : ∃ W, w.alloc (.cells #[.slice A n cap] 24) = W := ⟨_, rfl⟩
 have hC0 := CSt.start (cap := cap) h 24 hW
 have hX0 : VarAt W S (.slice A n cap) := by rw [← hW, ← hS]; exact VarAt.new _ _ _
 have HC := Lib.hid (fun V hV => check_runT A n cap T V hV)
 rw [hS] at hC0 ⊢
 have C0 := Lib.hid hC0
 have X0 := Lib.hid hX0
 have d0 := hC0.e0
 rw [hl.out] at hn40
 have hmf' := hmf
 clear h hC0 hX0
 by_cases hk : (sndT T).1 = 0
 ·have hV := chk_valid hk
  have HV := Lib.hid hV
  have he := trErr_zero hk
  rw [he] at HC ⊢
  rw [resOf_ok hk]
  have HT1 := Lib.hid ht100
  have HWK := Lib.hid (fun (W2 : World) B a b (hB : NdsAt W2 B A T) (hBW : B ≤ W2.heap.size) (h1 : VarAt W2 a (.slice A n cap)) (h2 : BldAt W2 b (.pointer none) (.slice none 0 0) ⟨#[]⟩) (hb : a < b ∧ B ≤ b ∧ b < W2.heap.size) => walk_run (n := n) (cap := cap) (text_act HV.out HT1.out hl.out hn40 W2.heap.size B a b hb.2.1 hb.1 hb.2.2) _ HV hl hn40 hB hBW (bs0 := [b]) ⟨.pointer none, .slice none 0 0, rfl, .inl rfl, h2, h1, hB⟩ (fun x hx => by simp at hx; omega))
  have HEND : Hid ((stepsW T (T.length - 1)).foldl (txA T (T.length - 1)) ⟨#[]⟩ = textF T (n - 1)) := by show _ = _; rw [tx_all HV.out, hl.out]
  clear hk hV he ht100 HT1
  unfold trV at *
  go_enter Tryd.func22, Tryd.ntmps22
  go_wp2_with fail
  refine (HC.out W C0.out.tree).mono ?_
  rintro e w1 ⟨rfl, hw1⟩
  have C1 := Lib.hid (C0.out.on hw1)
  have X1 := Lib.hid (X0.out.below hw1)
  clear hw1 HC C0 d0 X0
  obtain ⟨N, hN⟩ : ∃ N, w1.heap.size = N := ⟨_, rfl⟩
  obtain ⟨w2, hw2⟩ : ∃ V, w1.alloc (.cells #[.pointer none, .slice none 0 0] 69) = V := ⟨_, rfl⟩
  have V1 : Hid (VarAt w2 S (.slice A n cap) ∧ BldAt w2 N (.pointer none) (.slice none 0 0) ⟨#[]⟩) := by
   subst hN
   rw [← hw2]
   exact ⟨X1.out.alloc _, BldAt.new _⟩
  have C2 : Hid (CSt S A n cap T w w2) := by rw [← hw2]; exact C1.out.on ((Below.refl _ _).alloc (Nat.le_refl _) _)
  have H2 : Hid (NdsAt w2 N A T) := by
   rw [← hN, ← hw2]
   exact C1.out.tree.at_.below ((Below.refl _ _).alloc (Nat.le_refl _) _) (Nat.le_refl _)
  have HS : Hid (w2.heap.size = N + 1 ∧ S < N) := by refine ⟨by rw [← hw2]; simp [hN], by have := C1.out.lt; omega⟩
  have d2 := C2.out.e0
  subst hw2
  have hSN : S < w1.heap.size := by have := HS.out.2; omega
  clear C1 X1
  go_wp2_with fail
  refine (HWK.out _ N S N H2.out (by have := HS.out; omega) V1.out.1 V1.out.2 (by have := HS.out; omega)).mono ?_
  rintro e w3 ⟨rfl, bs', ⟨p3, v3, _, hp3, k2, _, _⟩, hbut⟩
  rw [HEND.out] at k2
  have BR : Hid (Below S w w3) := C2.out.bel.but hbut (fun x hx => by have := HS.out; simp at hx; omega) (by have := HS.out; omega)
  have HSt := Lib.hid (string_run k2 hp3)
  have hNl : S ≤ N := by have := HS.out; omega
  clear HWK k2 hbut C2 H2 V1 HEND
  go_wp2_with fail
  refine HSt.out.mono ?_
  rintro e w4 ⟨rfl, hw4⟩
  have BR2 : Hid (Below S w w4) := BR.out.trans (hw4.mono hNl)
  clear hw4 HSt
  go_wp2_with fail
  go_ret2
  exact ⟨rfl, BR2.out⟩
 ·obtain ⟨te, ve, he⟩ := trErr_some hk
  rw [resOf_bad hk]
  rw [he] at HC ⊢
  clear ht100
  unfold trV at *
  go_enter Tryd.func22, Tryd.ntmps22
  go_wp2_with fail
  refine (HC.out W C0.out.tree).mono ?_
  rintro e w1 ⟨rfl, hw1⟩
  have C1 := Lib.hid (C0.out.on hw1)
  clear hw1 HC C0 d0 X0
  go_wp2_with fail
  go_ret2
  exact ⟨rfl, C1.out.bel⟩
end Go.Proofs.YtkgaaabecdbidaaDoor
namespace Go.Proofs.YtkgaaabecdbidaaDoor
set_option maxRecDepth 100000
open Go.ChangeShapes Go.WideShapes Go.ChangeAt Go.RowKit Go.Deep
theorem tr_nums {H : Type} {enc : TypeId × Value → H} {W : World} {fuel : Nat} {cs : List Value} {x : DataW H × List MemPlace} {sp : Nat → Bool} (h : DataW.trod enc Tryd.prog W 0 sp true fuel 31 cs = some x) :
  ∃ A len cap l, cs = [.slice A len cap] ∧ l.length = len ∧ len ≤ cap ∧ cap ≤ 9223372036854775807 ∧ Nums W W.heap.size A l := by
 rcases open_ints Tryd.underlying31 Tryd.underlying3 (by kernel_rfl) h with ⟨hcs, _⟩ | ⟨a, len, cap, zs, hcs, _, hl, hm, hz, _, hcell, hwz⟩
 ·exact ⟨none, 0, 0, [], hcs, rfl, Nat.le_refl _, by omega, NumsK.nil⟩
 ·unfold maxLen at hm
  have hlen : (zs.take len).length = len := by
   rw [List.length_take]
   have : zs.length = cap ∨ zs.length = len := by rw [hz]; split <;> simp
   omega
  refine ⟨some a, len, cap, zs.take len, hcs, hlen, hl, hm, fun hp => ?_⟩
  obtain ⟨b, off, rfl, hcell'⟩ := ints_at hcell (by rw [List.length_take] at hp; omega)
  have h0 := hcell' 0 (by rw [List.length_take] at hp; omega)
  refine ⟨b, off, rfl, ?_, fun i y hy => ?_⟩
  ·rcases Nat.lt_or_ge b W.heap.size with h1 | h1
   ·exact h1
   ·simp [World.cell?, Array.getElem?_eq_none h1] at h0
  ·rw [List.getElem?_take] at hy
   split at hy
   ·have hi := (List.getElem?_eq_some_iff.1 hy).1
    rw [hcell' i hi]
    simp [List.getD, hy]
   ·cases hy
theorem tr_list4 {α : Type} {l : List α} (h : l.length = 4) : ∃ a b c d, l = [a, b, c, d] := by
 match l, h with
 | [a, b, c, d], _ => exact ⟨a, b, c, d, rfl⟩
set_option maxRecDepth 100000 in
theorem open_nodes {H : Type} {enc : TypeId × Value → H} {W : World} {fuel : Nat} {cs : List Value} {x : DataW H × List MemPlace} {sp : Nat → Bool} (h : DataW.trod enc Tryd.prog W 0 sp true fuel 22 cs = some x) :
  ∃ A len cap T, cs = [.slice A len cap] ∧ List.length T = len ∧ len ≤ cap ∧ cap ≤ 9223372036854775807 ∧ NdsAt W W.heap.size A T := by
 have hC : Tryd.prog.cellsOf 33 = 4 := by kernel_rfl
 have hCi : Tryd.prog.cellsOf 3 = 1 := by kernel_rfl
 have hCs : Tryd.prog.cellsOf 31 = 1 := by kernel_rfl
 rcases open_slice Tryd.underlying22 h with ⟨hcs, _⟩ | ⟨a, len, cap, m, n, D, Pl, hcs, hb, hl, hm, hmm, _, hx⟩
 ·exact ⟨none, 0, 0, [], hcs, rfl, Nat.le_refl _, by omega, NdsAt.nil⟩
 ·unfold maxLen at hm
  have hlm : len ≤ m := by rw [hmm]; split <;> omega
  have each : ∀ i, i < len → ∃ e : Ne × Nd, W.cell? (a.add (i * 4)) = some (.int .i64 e.1.k) ∧ W.cell? (a.add (i * 4 + 1)) = some (.int .i64 e.1.f) ∧ W.cell? (a.add (i * 4 + 2)) = some (.int .i64 e.1.t) ∧ W.cell? (a.add (i * 4 + 3)) = some (.slice e.1.A e.1.n e.1.c) ∧ IsNd W W.heap.size e.1 e.2 := fun i hi => by
   obtain ⟨cs', h1, h2⟩ := hx i (by omega)
   rw [hC] at h1
   obtain ⟨_, hlen, hcell⟩ := World.cells?_some h1
   obtain ⟨xs, k, _, _, _, hxl, hf⟩ := DataW.trod_struct Tryd.underlying33 h2
   obtain ⟨c0, c1, c2, c3, rfl⟩ := tr_list4 hlen
   obtain ⟨y0, y1, y2, y3, rfl⟩ := tr_list4 (show xs.length = 4 from hxl)
   have g0 := hf 0 _ rfl
   have g1 := hf 1 _ rfl
   have g2 := hf 2 _ rfl
   have g3 := hf 3 _ rfl
   simp [hCi, hCs] at g0 g1 g2 g3
   obtain ⟨e0, h0, _, _⟩ := DataW.trod_int Tryd.underlying3 g0
   obtain ⟨e1, h1', _, _⟩ := DataW.trod_int Tryd.underlying3 g1
   obtain ⟨e2, h2', _, _⟩ := DataW.trod_int Tryd.underlying3 g2
   obtain ⟨K, q, c, l, h3', k1, k2, k3, k4⟩ := tr_nums g3
   have d0 := hcell 0 (by omega)
   have d1 := hcell 1 (by omega)
   have d2 := hcell 2 (by omega)
   have d3 := hcell 3 (by omega)
   rw [add_add] at d0 d1 d2 d3
   simp at h0 h1' h2' h3' d0 d1 d2 d3
   exact ⟨(⟨e0, e1, e2, K, q, c⟩, ⟨e0, e1, e2, l⟩), by rw [d0, h0], by rw [d1, h1'], by rw [d2, h2'], by rw [d3, h3'], rfl, rfl, rfl, k1.symm, k2, k3, k4⟩
  have pick : ∃ F : Nat → Ne × Nd, ∀ i, i < len → W.cell? (a.add (i * 4)) = some (.int .i64 (F i).1.k) ∧ W.cell? (a.add (i * 4 + 1)) = some (.int .i64 (F i).1.f) ∧ W.cell? (a.add (i * 4 + 2)) = some (.int .i64 (F i).1.t) ∧ W.cell? (a.add (i * 4 + 3)) = some (.slice (F i).1.A (F i).1.n (F i).1.c) ∧ IsNd W W.heap.size (F i).1 (F i).2 := by
   refine ⟨fun i => if hi : i < len then (each i hi).choose else default, fun i hi => ?_⟩
   simp only [dif_pos hi]
   exact (each i hi).choose_spec
  obtain ⟨F, hF⟩ := pick
  refine ⟨some a, len, cap, (List.range len).map fun i => (F i).2, hcs, by simp, hl, hm, (List.range len).map (fun i => (F i).1), fun hp => ?_, by simp, fun i y d hy hd => ?_⟩
  ·have hp' : 0 < len := by simpa using hp
   have h0 := (hF 0 hp').1
   obtain ⟨b, off, spot⟩ := a
   have hspot : spot = none := by simpa [Addr.add] using World.cell?_spot h0
   subst hspot
   have hadd : ∀ j, (⟨b, off, none⟩ : Addr).add j = ⟨b, off + j, none⟩ := fun j => Go.WideShapes.add_plain _ _ _
   refine ⟨b, off, rfl, ?_, fun j u hu => ?_⟩
   ·rcases Nat.lt_or_ge b W.heap.size with h1 | h1
    ·exact h1
    ·rw [hadd] at h0
     simp [World.cell?, Array.getElem?_eq_none h1] at h0
   ·have hj := (List.getElem?_eq_some_iff.1 hu).1
    rw [flat_length ne_enc, List.length_map, List.length_range] at hj
    have hx : ((List.range len).map fun i => (F i).1)[j / 4]? = some (F (j / 4)).1 := by
     rw [List.getElem?_map, List.getElem?_range (by omega)]
     rfl
    obtain ⟨c0, c1, c2, c3, _⟩ := hF (j / 4) (by omega)
    rw [hadd] at c0 c1 c2 c3
    rcases (show j % 4 = 0 ∨ j % 4 = 1 ∨ j % 4 = 2 ∨ j % 4 = 3 by omega) with h2 | h2 | h2 | h2
    ·have := flat_get ne_enc (j := 0) hx rfl
     rw [show j / 4 * 4 + 0 = j by omega] at this
     rw [this] at hu
     cases hu
     rw [show off + j = off + j / 4 * 4 by omega]
     exact c0
    ·have := flat_get ne_enc (j := 1) hx rfl
     rw [show j / 4 * 4 + 1 = j by omega] at this
     rw [this] at hu
     cases hu
     rw [show off + j = off + (j / 4 * 4 + 1) by omega]
     exact c1
    ·have := flat_get ne_enc (j := 2) hx rfl
     rw [show j / 4 * 4 + 2 = j by omega] at this
     rw [this] at hu
     cases hu
     rw [show off + j = off + (j / 4 * 4 + 2) by omega]
     exact c2
    ·have := flat_get ne_enc (j := 3) hx rfl
     rw [show j / 4 * 4 + 3 = j by omega] at this
     rw [this] at hu
     cases hu
     rw [show off + j = off + (j / 4 * 4 + 3) by omega]
     exact c3
  ·have hi : i < len := by have := (List.getElem?_eq_some_iff.1 hy).1; simpa using this
   rw [List.getElem?_map, List.getElem?_range hi] at hy hd
   cases hy
   cases hd
   exact (hF i hi).2.2.2.2
theorem open_tree {H : Type} {enc : TypeId × Value → H} {W : World} {b0 : Nat} {sp : Nat → Bool} {v : Value} {d : DataW H} {p : List MemPlace} (hv : Value.okWide Tryd.prog W .any b0 24 v) (h : DataW.Trod enc Tryd.prog W 0 sp true 24 v d p) :
  ∃ A n c T, v = .agg #[.slice A n c] ∧ List.length T = n ∧ n ≤ c ∧ c ≤ 9223372036854775807 ∧ NdsAt W W.heap.size A T := by
 have hu := Tryd.underlying24
 have hC : Tryd.prog.cellsOf 24 = 1 := by kernel_rfl
 have hCs : Tryd.prog.cellsOf 22 = 1 := by kernel_rfl
 simp only [Value.okWide, hu] at hv
 obtain ⟨cs, rfl, h2, _⟩ := hv
 obtain ⟨fuel, hf⟩ := h
 obtain ⟨xs, k, _, _, _, hxl, hg⟩ := DataW.trod_struct hu hf
 obtain ⟨l⟩ := cs
 have hlen : l.length = 1 := by simpa [hC] using h2
 match l, hlen with
 | [c0], _ =>
  match xs, hxl with
  | [y0], _ =>
   have g0 := hg 0 _ rfl
   simp [hCs, Value.cells] at g0
   obtain ⟨A, n, c, T, k1, k2, k3, k4, k5⟩ := open_nodes g0
   simp at k1
   exact ⟨A, n, c, T, by rw [k1], k2, k3, k4, k5⟩
end Go.Proofs.YtkgaaabecdbidaaDoor
namespace Go.Proofs.YtkgaaabecdbidaaDoor
open Go.RowKit
set_option linter.unusedSimpArgs false
def lastP (T : List Nd) : Nat → Int → Int
 | 0, j => if j = ((T.length - 1 : Nat) : Int) then -1 else 0
 | k + 1, j => if j ∈ (nd T k).kids then (k : Int) else lastP T k j
def lastT (T : List Nd) (k r : Nat) : List Int := (List.range T.length).map fun (j : Nat) => if (j : Int) ∈ (nd T k).kids.take r then (k : Int) else lastP T k (j : Int)
section
variable {T : List Nd} {m : Int}
theorem lastT_len (T : List Nd) (k r : Nat) : (lastT T k r).length = T.length := by simp [lastT]
theorem lastT_get (T : List Nd) (k r : Nat) {j : Nat} (hj : j < T.length) : (lastT T k r)[j]? = some (if (j : Int) ∈ (nd T k).kids.take r then (k : Int) else lastP T k (j : Int)) := by
 unfold lastT
 rw [List.getElem?_map, List.getElem?_range hj]
 rfl
theorem lastT_zero (T : List Nd) : (List.replicate T.length (0 : Int)).set (T.length - 1) (-1) = lastT T 0 0 := by
 apply List.ext_getElem?
 intro i
 rcases Nat.lt_or_ge i T.length with h | h
 ·rw [lastT_get T 0 0 h]
  simp only [List.take_zero, List.not_mem_nil, if_false, lastP]
  by_cases e : i = T.length - 1
  ·subst e
   rw [List.getElem?_set_self (by simpa using h), if_pos rfl]
  ·rw [List.getElem?_set_ne (by omega), List.getElem?_replicate, if_pos h, if_neg (by omega)]
 ·rw [List.getElem?_eq_none (by simpa using h), List.getElem?_eq_none (by rw [lastT_len]; exact h)]
theorem lastT_next (T : List Nd) (k : Nat) : lastT T k (nd T k).kids.length = lastT T (k + 1) 0 := by
 unfold lastT
 apply List.map_congr_left
 intro j _
 rw [List.take_length]
 simp [lastP]
theorem lastT_step {k r : Nat} {y : Nat} (hy : (nd T k).kids[r]? = some (y : Int)) : (lastT T k r).set y (k : Int) = lastT T k (r + 1) := by
 apply List.ext_getElem?
 intro i
 rcases Nat.lt_or_ge i T.length with h | h
 ·rw [lastT_get T k (r + 1) h, List.take_add_one, hy]
  by_cases e : i = y
  ·subst e
   rw [List.getElem?_set_self (by rw [lastT_len]; exact h), if_pos (by simp)]
  ·rw [List.getElem?_set_ne (by omega), lastT_get T k r h]
   congr 1
   have hi : ((i : Int) ∈ (nd T k).kids.take r ++ (some (y : Int)).toList) ↔ (i : Int) ∈ (nd T k).kids.take r := by
    simp
    omega
   by_cases hm : (i : Int) ∈ (nd T k).kids.take r
   ·rw [if_pos hm, if_pos (hi.2 hm)]
   ·rw [if_neg hm, if_neg fun h2 => hm (hi.1 h2)]
 ·rw [List.getElem?_eq_none (by rw [List.length_set, lastT_len]; exact h), List.getElem?_eq_none (by rw [lastT_len]; exact h)]
theorem Valid.oneP (hV : Valid T m) {j : Nat} (hj : j + 1 < T.length) {a b : Nat} (ha : a < b) (hb : b < T.length) (h1 : (j : Int) ∈ (nd T a).kids) (h2 : (j : Int) ∈ (nd T b).kids) : False := by
 have p1 := par_take (T := T) (k := a) (at_nd (by omega)) (j : Int)
 have p2 := par_take (T := T) (k := b) (at_nd hb) (j : Int)
 have p3 := par_take_le T (j : Int) (b + 1)
 have p4 := hV.par j hj
 have c1 : 0 < (nd T a).kids.count (j : Int) := List.count_pos_iff.2 h1
 have c2 : 0 < (nd T b).kids.count (j : Int) := List.count_pos_iff.2 h2
 have p5 := par_take_le (T.take b) (j : Int) (a + 1)
 rw [List.take_take, Nat.min_eq_left (by omega)] at p5
 omega
theorem lastP_none : ∀ (k : Nat) (j : Int), (∀ i, i < k → j ∉ (nd T i).kids) → lastP T k j = if j = ((T.length - 1 : Nat) : Int) then -1 else 0
 | 0, j, _ => rfl
 | k + 1, j, h => by rw [lastP, if_neg (h k (Nat.lt_succ_self k)), lastP_none k j fun i hi => h i (by omega)]
theorem lastP_one (hV : Valid T m) {j : Nat} (hj : j + 1 < T.length) {a : Nat} (h1 : (j : Int) ∈ (nd T a).kids) : ∀ k, a < k → k ≤ T.length → lastP T k (j : Int) = (a : Int)
 | 0, h, _ => by omega
 | k + 1, h, hk => by
  rw [lastP]
  by_cases e : a = k
  ·subst e; rw [if_pos h1]
  ·rw [if_neg fun h2 => hV.oneP hj (show a < k by omega) (by omega) h1 h2, lastP_one hV hj h1 k (by omega) (by omega)]
theorem parG_none : ∀ (L : List Nd) (j : Int) (k : Nat), (∀ x ∈ L, j ∉ x.kids) → parG L j k = -1
 | [], _, _, _ => rfl
 | x :: r, j, k, h => by rw [parG, if_neg (h x (List.mem_cons_self ..)), parG_none r j (k + 1) fun y hy => h y (List.mem_cons_of_mem _ hy)]
theorem parG_some : ∀ (L : List Nd) (j : Int) (k : Nat), (∃ x ∈ L, j ∈ x.kids) → 0 ≤ parG L j k
 | [], _, _, h => by obtain ⟨x, hx, _⟩ := h; cases hx
 | x :: r, j, k, h => by
  rw [parG]
  split
  ·omega
  ·next hn =>
   obtain ⟨y, hy, hj⟩ := h
   rcases List.mem_cons.1 hy with rfl | hy
   ·exact absurd hj hn
   ·exact parG_some r j (k + 1) ⟨y, hy, hj⟩
theorem parents_all (hV : Valid T m) : lastT T T.length 0 = (List.range T.length).map fun (i : Nat) => parF T (i : Int) := by
 unfold lastT
 apply List.map_congr_left
 intro j hj
 have hj := List.mem_range.1 hj
 simp only [List.take_zero, List.not_mem_nil, if_false]
 rcases Nat.lt_or_ge (j + 1) T.length with h | h
 ·obtain ⟨a, ha, _, hm⟩ := hV.parent h
  rw [lastP_one hV h hm T.length ha (Nat.le_refl _)]
  have h0 : 0 ≤ parF T (j : Int) := parG_some T _ 0 ⟨nd T a, List.mem_of_getElem? (at_nd ha), hm⟩
  obtain ⟨i, hi, e, hmi⟩ := parG_mem (L := T) (i := (j : Int)) (k := 0) rfl h0
  rw [Nat.zero_add] at e
  show (a : Int) = parG T (j : Int) 0
  rw [e]
  rcases Nat.lt_trichotomy a i with h3 | h3 | h3
  ·exact (hV.oneP h h3 hi hm hmi).elim
  ·rw [h3]
  ·exact (hV.oneP h h3 ha hmi hm).elim
 ·have hno : ∀ i, i < T.length → (j : Int) ∉ (nd T i).kids := fun i hi hm => by have := hV.kid i hi _ hm; omega
  rw [lastP_none T.length _ hno, if_pos (by omega)]
  refine (parG_none T _ 0 fun x hx hm => ?_).symm
  obtain ⟨i, hi⟩ := List.mem_iff_getElem?.1 hx
  exact hno i (List.getElem?_eq_some_iff.1 hi).1 (by rw [nd_at hi]; exact hm)
end
end Go.Proofs.YtkgaaabecdbidaaDoor
