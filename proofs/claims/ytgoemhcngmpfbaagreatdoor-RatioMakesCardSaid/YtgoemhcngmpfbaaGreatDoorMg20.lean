/-
  The document's order of numbers.
-/
import Derived.Test.YtgoemhcngmpfbaaGreatDoorMg19
import Derived.Test.YtgoemhcngmpfbaaGreatDoorMg08
import Derived.Test.YtgoemhcngmpfbaaGreatDoorMg02
import Derived.Deep.RegionHeld3
import Derived.Test.YtgoemhcngmpfbaaGreatDoorMg00
import Derived.Lib.ItoaNum
import Derived.Lib.Repeat

namespace Go.Proofs.YtgoemhcngmpfbaaGreatDoor
open Go.RowKit Go.Sort

/-- A number of the document: its sign and its digits. -/
structure Good (w : World) (s : Bool) (A : Option Addr) (L cap n : Nat) : Prop where
  digs : DgAt w A L n
  len : nl n = L
  cap : Cap L cap
  sg : sgn s n = s
section
variable {w w' : World} {s : Bool} {A : Option Addr} {L cap n : Nat}
theorem Good.keep {B : Nat} (h : Good w s A L cap n) (hb : Below B w w') (hB : w.heap.size ≤ B) : Good w' s A L cap n := ⟨h.digs.keep hb hB, h.len, h.cap, h.sg⟩
theorem Good.below (h : Good w s A L cap n) (hb : Below w.heap.size w w') : Good w' s A L cap n := ⟨h.digs.below hb, h.len, h.cap, h.sg⟩
theorem Good.abs (h : Good w s A L cap n) : Good w false A L cap n := ⟨h.digs, h.len, h.cap, by simp [sgn]⟩
end
theorem two_nums (w : World) (s : Bool) (A : Option Addr) (L ca : Nat) (t : Bool) (B : Option Addr) (M cb S : Nat) (hS : w.heap.size = S) : NumAt ((w.alloc (boxN s A L ca)).alloc (boxN t B M cb)) S s A L ca ∧ NumAt ((w.alloc (boxN s A L ca)).alloc (boxN t B M cb)) (S + 1) t B M cb ∧ Below S w ((w.alloc (boxN s A L ca)).alloc (boxN t B M cb)) ∧ ((w.alloc (boxN s A L ca)).alloc (boxN t B M cb)).heap.size = S + 1 + 1 := by
  subst hS
  refine ⟨(NumAt.new w s A L ca).alloc _, ?_, (below_alloc w _).alloc (by simp) _, by simp⟩
  have := NumAt.new (w.alloc (boxN s A L ca)) t B M cb
  simpa using this
set_option maxRecDepth 100000 in
set_option maxHeartbeats 4000000 in
theorem Cmp_run7 (s : Bool) (A : Option Addr) (L ca n : Nat) (t : Bool) (B : Option Addr) (M cb m : Nat) (c : Int) (w : World) (ha : Hid (Good w s A L ca n)) (hb : Hid (Good w t B M cb m)) (hc : Hid (cmpS s n t m = c)) :
    Calls Tryz.prog 35 #[.agg #[.bool s, .slice A L ca], .agg #[.bool t, .slice B M cb]] w fun e w' => e = .returned (.int .i64 c) ∧ Below w.heap.size w w' := by
  have HB := Lib.hid (two_nums w s A L ca t B M cb w.heap.size rfl).2.2.1
  have HO : Hid (∀ W, Below w.heap.size w W → Calls Tryz.prog 75 #[.slice A L ca, .slice B M cb] W fun e w' => e = .returned (.int .i64 (cmpN n m)) ∧ Below W.heap.size W w') := fun W hW =>
    Order_run7 A B L M ca cb n m _ W (ha.out.digs.keep hW (Nat.le_refl _)) (hb.out.digs.keep hW (Nat.le_refl _)) ha.out.len hb.out.len ha.out.cap hb.out.cap rfl
  have HP : Hid (∀ W, Below w.heap.size w W → Calls Tryz.prog 75 #[.slice B M cb, .slice A L ca] W fun e w' => e = .returned (.int .i64 (cmpN m n)) ∧ Below W.heap.size W w') := fun W hW =>
    Order_run7 B A M L cb ca m n _ W (hb.out.digs.keep hW (Nat.le_refl _)) (ha.out.digs.keep hW (Nat.le_refl _)) hb.out.len ha.out.len hb.out.cap ha.out.cap rfl
  have hcc := hc.out
  unfold cmpS at hcc
  rw [ha.out.sg, hb.out.sg] at hcc
  have hsz : Hid (w.heap.size ≤ ((w.alloc (boxN s A L ca)).alloc (boxN t B M cb)).heap.size) := by show _ ≤ _; simp; omega
  cases s <;> cases t <;> simp only [if_true, if_false, Bool.false_eq_true] at hcc <;> subst hcc
  · go_enter Tryz.func35, Tryz.ntmps35
    go_wp2_with fail
    refine (HO.out _ HB.out).mono ?_
    rintro e w1 ⟨rfl, hw1⟩
    have B1 : Hid (Below w.heap.size w w1) := HB.out.trans (hw1.mono hsz.out)
    clear hw1
    go_wp2_with fail
    go_ret
    exact ⟨rfl, B1.out⟩
  · go_enter Tryz.func35, Tryz.ntmps35
    go_wp2_with fail
    go_ret
    exact ⟨rfl, HB.out⟩
  · go_enter Tryz.func35, Tryz.ntmps35
    go_wp2_with fail
    go_ret
    exact ⟨rfl, HB.out⟩
  · go_enter Tryz.func35, Tryz.ntmps35
    go_wp2_with fail
    refine (HP.out _ HB.out).mono ?_
    rintro e w1 ⟨rfl, hw1⟩
    have B1 : Hid (Below w.heap.size w w1) := HB.out.trans (hw1.mono hsz.out)
    clear hw1
    go_wp2_with fail
    go_ret
    exact ⟨rfl, B1.out⟩
end Go.Proofs.YtgoemhcngmpfbaaGreatDoor

/-
  Digits in an array of the call's own; powers of two.
-/
namespace Go.Proofs.YtgoemhcngmpfbaaGreatDoor
open Go.RowKit Go.Sort

def DigF (w : World) (g : Nat) (f : Nat → Nat) (k : Nat) : Prop := ∀ i, i < k → w.cell? ⟨g, i, none⟩ = some (.int .i64 (f i : Int)) ∧ w.frozen? ⟨g, i, none⟩ = false
section
variable {w w' : World} {g k : Nat} {f h : Nat → Nat}
theorem DigF.keep {B : Nat} (d : DigF w g f k) (hb : Below B w w') (hB : g < B) : DigF w' g f k := fun i hi =>
  ⟨(hb.cell (p := ⟨g, i, none⟩) hB).trans (d i hi).1, (hb.frozen (p := ⟨g, i, none⟩) hB).trans (d i hi).2⟩
theorem DigF.but {c : Nat} (d : DigF w g f k) (hw : But1 w w' c) (hne : g ≠ c) : DigF w' g f k := fun i hi =>
  ⟨(hw.1 ⟨g, i, none⟩ hne).1.trans (d i hi).1, (hw.1 ⟨g, i, none⟩ hne).2.trans (d i hi).2⟩
theorem DigF.drew (d : DigF w g f k) : DigF w.drew g f k := d
theorem DigF.drewN (d : DigF w g f k) (m : Nat) : DigF (w.drewN m) g f k := d
theorem DigF.ext (d : DigF w g f k) (e : ∀ i, i < k → f i = h i) : DigF w g h k := fun i hi => by rw [← e i hi]; exact d i hi
theorem DigF.upd (d : DigF w g f k) {i : Nat} (hi : i < k) (v : Nat) : DigF (w.setCell ⟨g, i, none⟩ (.int .i64 (v : Int))) g (updF f i v) k := fun j hj => by
  refine ⟨?_, by rw [World.frozen?_setCell]; exact (d j hj).2⟩
  by_cases e : j = i
  · subst e
    rw [updF_same]
    exact World.cell?_setCell_same _ _ _ (d j hj).1
  · rw [updF_other e]
    exact (World.cell?_setCell_other _ _ _ _ (fun e2 => e (by injection e2 with _ e3 _; exact e3.symm))).trans (d j hj).1
theorem DigF.at_ (d : DigF w g f k) (hg : g < w.heap.size) {n : Nat} (e : ∀ i, i < k → f i = dg n i) : DgAt w (some ⟨g, 0, none⟩) k n := fun _ =>
  ⟨g, 0, rfl, hg, fun i hi => by rw [Nat.zero_add, ← e i hi]; exact (d i hi).1⟩
end
theorem make_digs (w : World) (n : Nat) (hn : n ≤ 1000000) : ∃ w', (Instr.makeSlice 55 (.int .i64 (n : Int)) (.int .i64 (n : Int))).run Tryz.prog w = .ok (.slice (some ⟨w.heap.size, 0, none⟩) n n) w' ∧ DigF w' w.heap.size (fun _ => 0) n ∧ Below w.heap.size w w' ∧ w.heap.size < w'.heap.size := by
  obtain ⟨w2, hmk, o2, g2⟩ := run_makeK int_slice w w.heap.size n n (Nat.le_refl _) hn (Nat.le_refl _)
  have o3 : w2.ownsRow w.heap.size 3 1 (.slice (some ⟨w.heap.size, 0, none⟩) n n) n ((List.replicate n (0 : Int)).map fun x => Value.int .i64 x) := by
    have := o2
    unfold OwnK at this
    rwa [List.length_replicate] at this
  refine ⟨w2, hmk, fun i hi => ⟨?_, o3.frozenAt i⟩, (Below.refl _ _).grown g2 (Nat.le_refl _) (by intro g h; cases h), (o3.lt w.heap.size rfl).2⟩
  rw [o3.cellAt i (by omega)]
  simp [hi]
set_option maxRecDepth 100000 in
set_option maxHeartbeats 4000000 in
theorem Power_run (n R : Nat) (w : World) (hn : n ≤ 1000000) (hR : Hid (nl (2 ^ n) = R)) :
    Calls Tryz.prog 86 #[.int .i64 (n : Int)] w fun e w' => ∃ C cc, e = .returned (.agg #[.bool false, .slice C R cc]) ∧ Good w' false C R cc (2 ^ n) ∧ Below w.heap.size w w' := by
  obtain ⟨S, hS⟩ : ∃ S, w.heap.size = S := ⟨_, rfl⟩
  obtain ⟨W0, hW0⟩ : ∃ W0, w.alloc boxNZ = W0 := ⟨_, rfl⟩
  have HB := Lib.hid (below_alloc w boxNZ)
  have HN := Lib.hid (NumAt.new w false none 0 0)
  have HZ : Hid ((w.alloc boxNZ).heap.size = S + 1) := by show _ = _; simp [hS]
  rw [hW0, hS] at HB HN
  rw [hW0] at HZ
  rw [hS]
  obtain ⟨q, hq⟩ : ∃ q, n / 16 = q := ⟨_, rfl⟩
  obtain ⟨k, hk⟩ : ∃ k, n % 16 = k := ⟨_, rfl⟩
  have hqz : (n : Int) / 16 = (q : Int) := by omega
  have hkz : (n : Int) % 16 = (k : Int) := by omega
  have hk16 : k < 16 := by omega
  have hq6 : q ≤ 100000 := by omega
  obtain ⟨w2, hmk, HD, HW, hsz⟩ := make_digs W0 (q + 1) (by omega)
  rw [HZ.out] at hmk HD HW hsz
  have hmk' : (Instr.makeSlice 55 (.int .i64 ((q : Int) + 1)) (.int .i64 ((q : Int) + 1))).run Tryz.prog W0 = .ok (.slice (some ⟨S + 1, 0, none⟩) (q + 1) (q + 1)) w2 := by
    simpa using hmk
  obtain ⟨c0, f0⟩ := HD q (by omega)
  have N2 := Lib.hid (HN.out.keep HW (Nat.lt_succ_self _))
  have HD2 := Lib.hid HD
  have B2 : Hid (Below S w w2) := HB.out.trans (HW.mono (by omega))
  have HP := Lib.hid (dg_pow n)
  have HR : Hid (2 ^ n < 65536 ^ (q + 1)) := by
    show _ < _
    have := lt_nl (2 ^ n)
    rwa [nl_pow, hq] at this
  have HRR : Hid (R = q + 1) := by show _ = _; rw [← hR.out, nl_pow, hq]
  have HQ := Lib.hid hq
  have HK := Lib.hid hk
  clear hmk HD HW hq hk
  go_enter Tryz.func86, Tryz.ntmps86
  go_wp2_with fail
  have hlt : 2 ^ k < 65536 := by
    have := Nat.pow_lt_pow_right (a := 2) (by decide) hk16
    omega
  have hp : wrap64 ((2 : Int) ^ k) = ((2 ^ k : Nat) : Int) := by
    have e : ((2 : Int) ^ k) = ((2 ^ k : Nat) : Int) := by simp
    rw [e]
    generalize 2 ^ k = y at hlt
    unfold wrap64
    omega
  rw [hp]
  have D3 := (HD2.out.upd (i := q) (by omega) (2 ^ k)).at_ (by rw [World.size_setCell]; exact hsz) (n := 2 ^ n) fun i hi => by
    by_cases e : i = q
    · rw [e, updF_same, ← HK.out, ← HQ.out]; exact HP.out.2.symm
    · rw [updF_other e]; exact (HP.out.1 i (by rw [HQ.out]; omega)).symm
  have N3 := Lib.hid (N2.out.but (But1.setCell w2 (S + 1) q (.int .i64 ((2 ^ k : Nat) : Int))) (by omega))
  have B3 : Hid (Below S w (w2.setCell ⟨S + 1, q, none⟩ (.int .i64 ((2 ^ k : Nat) : Int)))) := B2.out.setCell (p := ⟨S + 1, q, none⟩) (by show S ≤ S + 1; omega) _
  have z3 : S + 1 < (w2.setCell ⟨S + 1, q, none⟩ (.int .i64 ((2 ^ k : Nat) : Int))).heap.size := by rw [World.size_setCell]; exact hsz
  have HC : Hid (Cap (q + 1) (q + 1)) := ⟨Nat.le_refl _, by omega⟩
  have HT := Lib.hid (trim_run false false (some ⟨S + 1, 0, none⟩) (q + 1) (q + 1) (2 ^ n) R _ D3 HR HC (by show _ = _; simp [sgn]) hR)
  have D3' := Lib.hid D3
  clear D3
  generalize w2.setCell ⟨S + 1, q, none⟩ (.int .i64 ((2 ^ k : Nat) : Int)) = w3 at *
  refine HT.out.mono ?_
  rintro e w4 ⟨rfl, hw4⟩
  have N4 := Lib.hid (N3.out.below hw4)
  have D4 := Lib.hid (D3'.out.below hw4)
  have B4 := Lib.hid (B3.out.trans (hw4.mono (by omega)))
  obtain ⟨a0, b0, a1, b1⟩ := N4.out
  clear hw4 N3 D3' B3 HT
  go_wp2_with fail
  refine bodyPost_ret (v := .agg #[.bool false, .slice (some ⟨S + 1, 0, none⟩) R (q + 1)]) (by rw [results_cell1 rfl]; go_simp; try rfl) rfl ⟨_, _, rfl, ⟨(D4.out.st2 N4.out).take (by rw [HRR.out]; exact Nat.le_refl _), hR.out, by rw [HRR.out]; exact HC.out, by simp [sgn]⟩, (st2_but w4 S false _ R (q + 1)).2.1 S w (Nat.le_refl _) B4.out⟩
end Go.Proofs.YtgoemhcngmpfbaaGreatDoor

/-
  Decimal texts as mathematics: a number's digits in pieces of k digits; how long they are.
-/
namespace Go.Proofs.YtgoemhcngmpfbaaGreatDoor
open Go.RowKit

theorem nDigits_le : ∀ (k n : Nat), 1 ≤ k → n < 10 ^ k → Lib.nDigits n ≤ k
  | 0, _, h, _ => by omega
  | 1, n, _, h => by rw [Lib.nDigits_small (by simpa using h)]; exact Nat.le_refl 1
  | k + 2, n, _, h => by
    by_cases hs : n < 10
    · rw [Lib.nDigits_small hs]; omega
    · rw [Lib.nDigits_big hs]
      have := nDigits_le (k + 1) (n / 10) (by omega) (by rw [Nat.pow_succ] at h; exact Nat.div_lt_of_lt_mul (by rw [Nat.mul_comm]; exact h))
      omega
theorem decDigits_pos (n : Nat) : 1 ≤ (Lib.decDigits n).length := by rw [Lib.decDigits_length]; exact Lib.nDigits_pos n
theorem decDigits_le {k n : Nat} (hk : 1 ≤ k) (h : n < 10 ^ k) : (Lib.decDigits n).length ≤ k := by rw [Lib.decDigits_length]; exact nDigits_le k n hk h
theorem decDigits_small {n : Nat} (h : n < 10) : Lib.decDigits n = [UInt8.ofNat (48 + n)] := Lib.decDigits_one h
theorem decDigits_big {n : Nat} (h : ¬ n < 10) : Lib.decDigits n = Lib.decDigits (n / 10) ++ [UInt8.ofNat (48 + n % 10)] := by
  rw [Lib.decDigits, dif_neg h]
/-- The decimal digits of r, with zeros ahead: k in all. -/
def pad (k r : Nat) : List UInt8 := List.replicate (k - (Lib.decDigits r).length) 48 ++ Lib.decDigits r
theorem pad_one {r : Nat} (h : r < 10) : pad 1 r = [UInt8.ofNat (48 + r)] := by
  unfold pad
  rw [decDigits_small h]
  rfl
theorem pad_succ {k r : Nat} (hk : 1 ≤ k) : pad (k + 1) r = pad k (r / 10) ++ [UInt8.ofNat (48 + r % 10)] := by
  unfold pad
  by_cases h : r < 10
  · have h1 : r / 10 = 0 := Nat.div_eq_of_lt h
    have h2 : r % 10 = r := Nat.mod_eq_of_lt h
    rw [h1, h2, decDigits_small h, decDigits_small (show 0 < 10 by omega)]
    obtain ⟨j, rfl⟩ : ∃ j, k = j + 1 := ⟨k - 1, by omega⟩
    show List.replicate (j + 1 + 1 - 1) 48 ++ [_] = (List.replicate (j + 1 - 1) 48 ++ [UInt8.ofNat (48 + 0)]) ++ [_]
    have h3 : (UInt8.ofNat (48 + 0)) = 48 := rfl
    rw [h3, show j + 1 + 1 - 1 = j + 1 by omega, show j + 1 - 1 = j by omega, List.replicate_succ']
  · rw [decDigits_big h, List.length_append, List.append_assoc]
    have : k + 1 - ((Lib.decDigits (r / 10)).length + [UInt8.ofNat (48 + r % 10)].length) = k - (Lib.decDigits (r / 10)).length := by
      show k + 1 - (_ + 1) = _
      omega
    rw [this]
theorem dec_pieces : ∀ (k q r : Nat), 1 ≤ k → 1 ≤ q → r < 10 ^ k → Lib.decDigits (q * 10 ^ k + r) = Lib.decDigits q ++ pad k r
  | 0, _, _, h, _, _ => by omega
  | 1, q, r, _, hq, hr => by
    have hr : r < 10 := by simpa using hr
    rw [decDigits_big (by rw [Nat.pow_one]; omega), pad_one hr, Nat.pow_one]
    have h1 : (q * 10 + r) / 10 = q := by omega
    have h2 : (q * 10 + r) % 10 = r := by omega
    rw [h1, h2]
  | k + 2, q, r, _, hq, hr => by
    have hb : q * 10 ^ (k + 2) + r = (q * 10 ^ (k + 1)) * 10 + r := by rw [Nat.pow_succ, ← Nat.mul_assoc]
    have hp : 1 ≤ 10 ^ (k + 1) := Nat.pow_pos (by decide)
    have hq1 : 1 ≤ q * 10 ^ (k + 1) := Nat.mul_pos hq hp
    have h1 : (q * 10 ^ (k + 2) + r) / 10 = q * 10 ^ (k + 1) + r / 10 := by rw [hb]; omega
    have h2 : (q * 10 ^ (k + 2) + r) % 10 = r % 10 := by rw [hb]; omega
    have hr2 : r / 10 < 10 ^ (k + 1) := Nat.div_lt_of_lt_mul (by rw [Nat.mul_comm, ← Nat.pow_succ]; exact hr)
    rw [decDigits_big (by rw [hb]; omega), h1, h2, dec_pieces (k + 1) q (r / 10) (by omega) hq hr2, List.append_assoc, ← pad_succ (by omega)]
theorem repeat_zero : ∀ (n : Nat), Lib.repeatL [48] n = List.replicate n 48
  | 0 => rfl
  | n + 1 => by
    rw [List.replicate_succ]
    show [48] ++ Lib.repeatL [48] n = _
    rw [repeat_zero n]
    rfl
theorem bytes_app (a b : List UInt8) : (⟨a.toArray⟩ : ByteArray) ++ ⟨b.toArray⟩ = ⟨(a ++ b).toArray⟩ := by
  apply ByteArray.ext
  simp [ByteArray.data_append]
theorem bytes_assoc (a b c : ByteArray) : (a ++ b) ++ c = a ++ (b ++ c) := by
  apply ByteArray.ext
  simp [ByteArray.data_append]
theorem bytes_size_app (a b : ByteArray) : (a ++ b).size = a.size + b.size := by
  show (a ++ b).data.size = a.data.size + b.data.size
  rw [ByteArray.data_append, Array.size_append]
end Go.Proofs.YtgoemhcngmpfbaaGreatDoor
