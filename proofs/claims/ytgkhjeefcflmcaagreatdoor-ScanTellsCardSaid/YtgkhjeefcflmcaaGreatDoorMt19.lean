/-
  number's power.
-/
import Derived.Test.YtgkhjeefcflmcaaGreatDoorMt18
import Derived.Lib.Atoi
import Derived.Lib.SmallJoins
import Derived.Test.YtgkhjeefcflmcaaGreatDoorMt17
import Derived.Test.YtgkhjeefcflmcaaGreatDoorMt16
import Derived.Test.YtgkhjeefcflmcaaGreatDoorMt08
import Derived.Deep.RegionHeld3
import Derived.Test.YtgkhjeefcflmcaaGreatDoorMt13
import Derived.Test.YtgkhjeefcflmcaaGreatDoorMt14
import Derived.Test.YtgkhjeefcflmcaaGreatDoorMt00
namespace Go.Proofs.YtgkhjeefcflmcaaGreatDoor
open Go.RowKit Go.Sort
set_option linter.unusedSimpArgs false
theorem dv10 {c : UInt8} (h : dvN c.toNat < 10) : 48 ≤ c.toNat ∧ c.toNat ≤ 57 ∧ dvN c.toNat = c.toNat - 48 := by
 unfold dvN at h ⊢
 by_cases h1 : 48 ≤ c.toNat ∧ c.toNat ≤ 57
 ·rw [if_pos h1]; exact ⟨h1.1, h1.2, rfl⟩
 ·rw [if_neg h1] at h
  split at h
  ·omega
  ·split at h
   ·omega
   ·omega
theorem decFrom_num : ∀ (l : List UInt8) (a : Nat), okDig 10 l = true → Lib.decFrom a l = some (l.foldl (fun a c => a * 10 + dvN c.toNat) a)
 | [], _, _ => rfl
 | c :: m, a, h => by
  unfold okDig at h
  rw [List.all_cons, Bool.and_eq_true, decide_eq_true_eq] at h
  obtain ⟨h1, h2, h3⟩ := dv10 h.1
  unfold Lib.decFrom Lib.digitVal
  rw [if_pos ⟨h1, h2⟩]
  rw [List.foldl_cons, h3]
  exact decFrom_num m _ h.2
theorem decNat_num {l : List UInt8} (h : decB l = true) : Lib.decNat l = some (num 10 l) := by
 unfold decB at h
 rw [Bool.and_eq_true] at h
 unfold Lib.decNat
 rw [if_neg (by simpa using h.1)]
 exact decFrom_num l 0 h.2
def powZ (sg ex : List UInt8) : Int := if sg = [45] then -(num 10 ex : Int) else (num 10 ex : Int)
theorem atoi_cons (b : UInt8) (r : List UInt8) : Lib.atoi (b :: r) = if b == 45 then (Lib.decNat r).map fun (m : Nat) => -(m : Int) else if b == 43 then (Lib.decNat r).map fun (m : Nat) => (m : Int) else (Lib.decNat (b :: r)).map fun (m : Nat) => (m : Int) := rfl
theorem atoi_pow {sg ex : List UInt8} (hs : sg = [] ∨ sg = [43] ∨ sg = [45]) (h : decB ex = true) : Lib.atoi (sg ++ ex) = some (powZ sg ex) := by
 have hd := decNat_num h
 unfold powZ
 rcases hs with rfl | rfl | rfl
 ·rw [if_neg (by decide), List.nil_append]
  cases ex with
  | nil => simp [decB] at h
  | cons c m =>
   have h2 : dvN c.toNat < 10 := by
    unfold decB okDig at h
    rw [Bool.and_eq_true, List.all_cons, Bool.and_eq_true, decide_eq_true_eq] at h
    exact h.2.1
   obtain ⟨h3, h4, _⟩ := dv10 h2
   have n1 : (c == 45) = false := by
    rw [beq_eq_false_iff_ne]; rintro rfl; exact absurd h3 (by decide)
   have n2 : (c == 43) = false := by
    rw [beq_eq_false_iff_ne]; rintro rfl; exact absurd h3 (by decide)
   rw [atoi_cons, n1, n2, if_neg (by decide), if_neg (by decide), hd]
   rfl
 ·rw [if_neg (by decide)]
  show Lib.atoi (43 :: ex) = _
  rw [atoi_cons, if_neg (by decide), if_pos (by decide), hd]
  rfl
 ·rw [if_pos rfl]
  show Lib.atoi (45 :: ex) = _
  rw [atoi_cons, if_pos (by decide), hd]
  rfl
theorem num10_lt : ∀ (k : Nat) (l : List UInt8), okDig 10 l = true → l.length ≤ k → num 10 l < 10 ^ k := by
 intro k l h hl
 have key : ∀ (m : List UInt8) (a : Nat), okDig 10 m = true → m.foldl (fun a c => a * 10 + dvN c.toNat) a < (a + 1) * 10 ^ m.length := by
  intro m
  induction m with
  | nil => intro a _; simp
  | cons c m ih =>
   intro a h
   unfold okDig at h
   rw [List.all_cons, Bool.and_eq_true, decide_eq_true_eq] at h
   have := ih (a * 10 + dvN c.toNat) h.2
   rw [List.foldl_cons, List.length_cons]
   refine Nat.lt_of_lt_of_le this ?_
   rw [Nat.pow_succ, Nat.mul_comm (10 ^ m.length) 10, ← Nat.mul_assoc]
   exact Nat.mul_le_mul_right _ (by omega)
 have := key l 0 h
 rw [Nat.zero_add, Nat.one_mul] at this
 exact Nat.lt_of_lt_of_le this (Nat.pow_le_pow_right (by decide) hl)
theorem powZ_small {sg ex : List UInt8} (h : decB ex = true) (hl : ex.length ≤ 5) : -100000 < powZ sg ex ∧ powZ sg ex < 100000 := by
 unfold decB at h
 rw [Bool.and_eq_true] at h
 have := num10_lt 5 ex h.2 hl
 unfold powZ
 split <;> omega
theorem ptS_cases (l : List UInt8) : ptS l = [] ∨ ptS l = [43] ∨ ptS l = [45] := by
 unfold ptS
 split
 ·generalize postP isM (unsc l) = m
  cases m with
  | nil => exact .inl rfl
  | cons c r =>
   unfold sgnL
   by_cases h : c = 43
   ·subst h; exact .inr (.inl rfl)
   ·by_cases h2 : c = 45
    ·subst h2; exact .inr (.inr rfl)
    ·left
     have h' : c.toNat ≠ 43 := fun e => h (UInt8.toNat_inj.1 e)
     have h2' : c.toNat ≠ 45 := fun e => h2 (UInt8.toNat_inj.1 e)
     simp [isSgn, h', h2']
 ·exact .inl rfl
set_option maxRecDepth 100000 in
set_option maxHeartbeats 4000000 in
theorem power_run (W F sg ex : List UInt8) (z : Int) (w : World) (hs : sg = [] ∨ sg = [43] ∨ sg = [45]) (hx : decB ex = true) (hlx : ex.length ≤ 5) (lF : F.length ≤ 10000) (hz : Hid (powZ sg ex - F.length = z)) :
  Calls Tryz.prog 138 #[partsV (bs W) (bs F) (bs sg) (bs ex)] w fun e w' => e = .returned (.int .i64 z) ∧ Below w.heap.size w w' := by
 obtain ⟨p, hp⟩ : ∃ p, powZ sg ex = p := ⟨_, rfl⟩
 have hb := powZ_small (sg := sg) hx hlx
 have hA := Lib.hid (fun V => Tryz.strconv_Atoi (bs (sg ++ ex)) p (by rw [bs_size, List.length_append]; rcases hs with rfl | rfl | rfl <;> simp <;> omega) (by rw [bs_list, ← hp]; exact atoi_pow hs hx) V)
 rw [hp] at hb hz
 have hcat : bs sg ++ bs ex = bs (sg ++ ex) := bs_app sg ex
 have hsz := bs_size F
 have hs1 := bs_size sg
 have hs2 := bs_size ex
 have hs3 : sg.length ≤ 1 := by rcases hs with rfl | rfl | rfl <;> simp
 clear hp hs
 obtain ⟨S, hS⟩ : ∃ S, w.heap.size = S := ⟨_, rfl⟩
 have hP0 := PartsAt.new w (bs W) (bs F) (bs sg) (bs ex) 193
 have hB0 : Below S w (w.alloc (.cells #[.string (bs W), .string (bs F), .string (bs sg), .string (bs ex)] 193)) := hS ▸ below_alloc w _
 rw [hS] at hP0
 rw [hS]
 unfold partsV
 have HP0 := Lib.hid hP0
 have HB0 := Lib.hid hB0
 clear hP0 hB0
 go_enter Tryz.func138, Tryz.ntmps138
 go_upto_region 1 with fail
 generalize w.alloc (.cells #[.string (bs W), .string (bs F), .string (bs sg), .string (bs ex)] 193) = w0 at *
 have hc2 := HP0.out.c2
 have hc3 := HP0.out.c3
 go_wp2_with fail
 refine (hA.out _).mono ?_
 rintro e w1 ⟨rfl, t, hw⟩
 have hbw : Below w0.heap.size w0 w1 := by rw [hw]; exact Joins.below_bytesWorld _ _ _ _ (Nat.le_refl _)
 clear hw hc2 hc3
 have HP1 := Lib.hid (HP0.out.below hbw)
 have HB1 := Lib.hid (HB0.out.trans (hbw.mono (by have := HB0.out.size; omega)))
 clear hbw HP0 HB0
 have hc1 := HP1.out.c1
 go_wp2_with fail
 go_ret
 exact ⟨by rw [← hz.out]; rfl, HB1.out⟩
end Go.Proofs.YtgkhjeefcflmcaaGreatDoor
namespace Go.Proofs.YtgkhjeefcflmcaaGreatDoor
open Go.RowKit Go.Sort
set_option linter.unusedSimpArgs false
theorem ld_cell {op : Oper} {a : Act} {w : World} {v : Value} (T : TypeId) (x : Operand) (ho : op.op = .load T x) {p : Addr} (hx : a.eval x = .pointer (some p)) (hv : (loadVar T p).run Tryz.prog w = .ok v w) : (execOp a.eval op).run Tryz.prog w = .ok (.value v) w := by
 unfold execOp
 simp only [ho, hx, Instr.loadAt, Instr.sureAddr, Sem.run_bind, Sem.run_pure, Result.andThen_ok, hv]
end Go.Proofs.YtgkhjeefcflmcaaGreatDoor
namespace Go.Proofs.YtgkhjeefcflmcaaGreatDoor
open Go.RowKit Go.Sort
set_option linter.unusedSimpArgs false
structure Rest (w : World) (g : Nat) (C : Option Addr) (l c x : Nat) : Prop where
 digs : DgAt w C l x
 len : nl x = l
 cap : Cap l c
 ne : ∀ b o, C = some ⟨b, o, none⟩ → b ≠ g
theorem Rest.below {w w' : World} {g l c x : Nat} {C : Option Addr} (h : Rest w g C l c x) (hb : Below w.heap.size w w') : Rest w' g C l c x := ⟨h.digs.below hb, h.len, h.cap, h.ne⟩
theorem Rest.drew {w : World} {g l c x : Nat} {C : Option Addr} (h : Rest w g C l c x) : Rest w.drew g C l c x := ⟨h.digs, h.len, h.cap, h.ne⟩
theorem Rest.set {w : World} {g l c x i : Nat} {C : Option Addr} (h : Rest w g C l c x) (v : Value) : Rest (w.setCell ⟨g, i, none⟩ v) g C l c x := ⟨h.digs.setOther h.ne v, h.len, h.cap, h.ne⟩
structure DvF (w2 W : World) (S L : Nat) (f : Nat → Nat) : Prop where
 fr : Below (S + 1 + 1 + 1 + 1) w2 W
 dg : DigF W (S + 1 + 1 + 1 + 1) f L
 sz : S + 1 + 1 + 1 + 1 + 1 ≤ W.heap.size
theorem DvF.below {w2 W V : World} {S L : Nat} {f : Nat → Nat} (h : DvF w2 W S L f) (hb : Below W.heap.size W V) : DvF w2 V S L f :=
 ⟨h.fr.trans (hb.mono (by have := h.sz; omega)), h.dg.keep hb (by have := h.sz; omega), Nat.le_trans h.sz hb.size⟩
theorem Fresh.ne {w : World} {C : Option Addr} {g : Nat} (h : Fresh w C) (hg : g < w.heap.size) : ∀ b o, C = some ⟨b, o, none⟩ → b ≠ g := fun b o e => by
 have := h b o e
 omega
end Go.Proofs.YtgkhjeefcflmcaaGreatDoor
namespace Go.Proofs.YtgkhjeefcflmcaaGreatDoor
open Go.RowKit Go.Sort
set_option linter.unusedSimpArgs false
theorem Good.zero (w : World) : Good w false none 0 0 0 := ⟨DgAt.nil, nl_zero, ⟨Nat.le_refl _, by omega⟩, rfl⟩
end Go.Proofs.YtgkhjeefcflmcaaGreatDoor
namespace Go.Proofs.YtgkhjeefcflmcaaGreatDoor
open Go.RowKit Go.Sort
set_option linter.unusedSimpArgs false
theorem build_zero {a : Act} {w : World} {op : Oper} (ho : op.op = .build 94 #[]) : (execOp a.eval op).run Tryz.prog w = .ok (.value (ratV false 0 false 0)) w := by
 rw [ratV_zero]
 unfold execOp
 simp only [ho]
 go_simp
theorem wpList_build_zero {ops : Array Oper} {rest : List Oper} {op : Oper} {a : Act} {w : World} {Q : Exit → Act → World → Prop} (hgd : op.guard = none) (ho : op.op = .build 94 #[])
  (hK : wpList Tryz.prog ops Q rest (a.put op.dst (ratV false 0 false 0)) w) : wpList Tryz.prog ops Q (op :: rest) a w := by
 refine wpList_plain hgd fun K hK' => ?_
 unfold Oper.wp
 rw [build_zero ho]
 exact hK' _ _ hK
end Go.Proofs.YtgkhjeefcflmcaaGreatDoor
namespace Go.Proofs.YtgkhjeefcflmcaaGreatDoor
open Go.RowKit Go.Sort
set_option linter.unusedSimpArgs false
theorem kept_nil (j : Nat) : kept 0 j = j := if_pos rfl
section
variable (s : Bool) (n : Nat) (t : Bool) (d : Nat) (s' : Bool) (n' : Nat) (t' : Bool) (d' : Nat)
end
end Go.Proofs.YtgkhjeefcflmcaaGreatDoor
namespace Go.Proofs.YtgkhjeefcflmcaaGreatDoor
open Go.RowKit Go.Sort
set_option linter.unusedSimpArgs false
set_option maxHeartbeats 2000000 in
theorem failedR_zero (b : Nat) (w : World) (h : Hid (ErrAt w b 0)) :
  Calls Tryz.prog 196 #[.pointer (some ⟨b, 0, none⟩)] w fun e w' => e = .returned (.bool false) ∧ w = w' := by
 have h1 : w.cell? ⟨b, 0, none⟩ = some .nilIface := h.out.cell
 go_enter Tryz.func196, Tryz.ntmps196
 go_wp2_with fail
 go_ret
 exact ⟨rfl, rfl⟩
set_option maxHeartbeats 2000000 in
theorem failedR_pos (b k : Nat) (hk : k ≠ 0) (w : World) (h : Hid (ErrAt w b k)) :
  Calls Tryz.prog 196 #[.pointer (some ⟨b, 0, none⟩)] w fun e w' => e = .returned (.bool true) ∧ w = w' := by
 have h1 : w.cell? ⟨b, 0, none⟩ = some (.iface 35 (.int .i64 k)) := h.out.cell.trans (by rw [errV_pos hk])
 go_enter Tryz.func196, Tryz.ntmps196
 go_wp2_with fail
 go_ret
 exact ⟨rfl, rfl⟩
set_option maxHeartbeats 2000000 in
theorem keepR_run (b k j : Nat) (w : World) (h : Hid (ErrAt w b k)) :
  Calls Tryz.prog 197 #[.pointer (some ⟨b, 0, none⟩), errV j] w fun e w' => e = .returned (.tuple #[]) ∧ Ste w w' b (kept k j) := by
 by_cases hk : k = 0
 ·subst hk
  have HF := Lib.hid (failedR_zero b w h)
  have h1 : w.cell? ⟨b, 0, none⟩ = some .nilIface := h.out.cell
  have h2 := h.out.free
  have HS := Lib.hid (h.out.set j)
  have hj := errV_one j
  generalize errV j = v at *
  rcases hj with rfl | ⟨x, rfl⟩
  all_goals
   go_enter Tryz.func197, Tryz.ntmps197
   go_wp2_with fail
   refine HF.out.mono ?_
   rintro e w1 ⟨rfl, rfl⟩
   go_wp2_with fail
   go_end0
   exact ⟨rfl, HS.out⟩
 ·have HF := Lib.hid (failedR_pos b k hk w h)
  have HS : Hid (Ste w w b (kept k j)) := by rw [kept, if_neg hk]; exact Ste.refl h.out
  clear hk
  generalize errV j = v
  go_enter Tryz.func197, Tryz.ntmps197
  go_wp2_with fail
  refine HF.out.mono ?_
  rintro e w1 ⟨rfl, rfl⟩
  go_wp2_with fail
  go_end0
  exact ⟨rfl, HS.out⟩
theorem Bs.ratSte {w0 w w' : World} {S b k : Nat} {l : List Bx} (h : Bs w0 S l w) (g : Ste w w' b k) (hb : b < S) (i : Nat) {c n d : Nat} {s t : Bool} (e : l[i]? = some (.rat c s n t d)) : RatAt w' c s n t d := by
 have h1 := h.rat i e
 have h2 := h.low _ (List.mem_of_getElem? e) c rfl
 exact h1.ste g (lt_of_cell h1.num.sign) (by omega)
set_option maxRecDepth 100000 in
set_option maxHeartbeats 4000000 in
theorem doR_past (f b k : Nat) (hk : k ≠ 0) (s : Bool) (n : Nat) (t : Bool) (d : Nat) (s' : Bool) (n' : Nat) (t' : Bool) (d' : Nat) (w : World) (h : Hid (ErrAt w b k)) :
  Calls Tryz.prog 167 #[.pointer (some ⟨b, 0, none⟩), fnV f, ratV s n t d, ratV s' n' t' d'] w fun e w' => e = .returned (ratV false 0 false 0) ∧ Ste w w' b k := by
 obtain ⟨S, hS⟩ : ∃ S, w.heap.size = S := ⟨_, rfl⟩
 obtain ⟨W0, hW0⟩ : ∃ W, (((w.alloc (boxR s n t d 94)).alloc (boxR s' n' t' d' 94)).alloc (boxRZ 94)).alloc (boxRZ 94) = W := ⟨_, rfl⟩
 have I := ((((Bs.start w hS).pushRat hS s n t d 94).pushRat (k := S + 1) (by simp [hS]) s' n' t' d' 94).pushRatZ (k := S + 1 + 1) (by simp [hS]) 94).pushRatZ (k := S + 1 + 1 + 1) (by simp [hS]) 94
 rw [hW0] at I
 replace I := Lib.hid I
 have HE : Hid (ErrAt W0 b k) := h.out.below (by rw [hS]; exact I.out.bl)
 have HF := Lib.hid (failedR_pos b k hk W0 HE)
 have hh := Lib.hid h.out
 have hSS := Lib.hid hS
 clear hk h
 go_enter Tryz.func167, Tryz.ntmps167
 go_wp2_with (first | (with_reducible refine wpList_box_rat rfl (.tmp 2) rfl rfl ?_) | (with_reducible refine wpList_box_rat rfl (.tmp 3) rfl rfl ?_))
 refine HF.out.mono ?_
 rintro e w1 ⟨rfl, rfl⟩
 have H0 := Lib.hid (I.out.rat 0 rfl)
 have H1 := Lib.hid (I.out.rat 1 rfl)
 go_wp2_with (first | (with_reducible refine wpList_load_rat rfl (.tmp 9) rfl rfl H0.out ?_) | (with_reducible refine wpList_store_rat rfl (.tmp 8) (.tmp 14) rfl (b := S + 1 + 1) (s := false) (n := 0) (t := false) (d := 0) rfl rfl H1.out ?_))
 have I2 := I.out.putRat 1 rfl false 0 false 0 rfl
 exact bodyPost_ret (v := ratV false 0 false 0) (results_rat1 rfl rfl (I2.rat 1 rfl)) rfl ⟨rfl, Ste.of_below hh.out (by rw [hSS.out]; exact I2.bl)⟩
set_option maxRecDepth 100000 in
set_option maxHeartbeats 4000000 in
theorem doR_first (f b j : Nat) (s : Bool) (n : Nat) (t : Bool) (d : Nat) (s' : Bool) (n' : Nat) (t' : Bool) (d' : Nat) (Z : Bool) (N D : Nat) (w : World) (h : Hid (ErrAt w b 0))
  (hcf : Hid (EntersP Tryz.prog f)) (hop : Hid (∀ W, Calls Tryz.prog f #[ratV s n t d, ratV s' n' t' d'] W fun e w' => e = .returned (.tuple #[ratV Z N false D, errV j]) ∧ Below W.heap.size W w')) :
  Calls Tryz.prog 167 #[.pointer (some ⟨b, 0, none⟩), fnV f, ratV s n t d, ratV s' n' t' d'] w fun e w' => e = .returned (ratV Z N false D) ∧ Ste w w' b j := by
 obtain ⟨S, hS⟩ : ∃ S, w.heap.size = S := ⟨_, rfl⟩
 obtain ⟨W0, hW0⟩ : ∃ W, (((w.alloc (boxR s n t d 94)).alloc (boxR s' n' t' d' 94)).alloc (boxRZ 94)).alloc (boxRZ 94) = W := ⟨_, rfl⟩
 have I := ((((Bs.start w hS).pushRat hS s n t d 94).pushRat (k := S + 1) (by simp [hS]) s' n' t' d' 94).pushRatZ (k := S + 1 + 1) (by simp [hS]) 94).pushRatZ (k := S + 1 + 1 + 1) (by simp [hS]) 94
 rw [hW0] at I
 replace I := Lib.hid I
 have hbl := h.out.lt
 rw [hS] at hbl
 have HE : Hid (ErrAt W0 b 0) := h.out.below (by rw [hS]; exact I.out.bl)
 have HF := Lib.hid (failedR_zero b W0 HE)
 have hSS := Lib.hid hS
 have hen : ∀ (args : Array Value) (w : World), (callFunc f args).run Tryz.prog w = .ok (.enter f args) w := hcf.out
 have HK := Lib.hid (fun W h => keepR_run b 0 j W h)
 clear h
 go_enter Tryz.func167, Tryz.ntmps167
 go_wp2_with (first | (with_reducible refine wpList_box_rat rfl (.tmp 2) rfl rfl ?_) | (with_reducible refine wpList_box_rat rfl (.tmp 3) rfl rfl ?_))
 refine HF.out.mono ?_
 rintro e w1 ⟨rfl, rfl⟩
 have H0 := Lib.hid (I.out.rat 3 rfl)
 have H1 := Lib.hid (I.out.rat 2 rfl)
 go_wp2_with (first | (with_reducible refine wpList_load_rat rfl (.tmp 6) rfl rfl H0.out ?_) | (with_reducible refine wpList_load_rat rfl (.tmp 7) rfl rfl H1.out ?_))
 refine (hop.out _).mono ?_
 rintro e w1 ⟨rfl, hw⟩
 replace HE := Lib.hid (HE.out.below hw)
 replace I := Lib.hid (I.out.below hw)
 clear hw H0 H1 HF hW0 hop
 obtain ⟨B, hB⟩ : ∃ K, w1.heap.size = K := ⟨_, rfl⟩
 obtain ⟨a, ha⟩ : ∃ W, w1.alloc (boxRZ 94) = W := ⟨_, rfl⟩
 have I2 := I.out.pushRatZ hB 94
 have HE2 := HE.out.below (below_alloc w1 (boxRZ 94))
 rw [ha] at I2 HE2
 have hbB : b < B := by have := I.out.sz; omega
 have HZ := Lib.hid (I2.rat 0 rfl)
 have I3 := Lib.hid (I2.putRat 0 rfl Z N false D rfl)
 have HE3 : Hid (ErrAt (st18 a B Z N false D) b 0) := HE2.but1 (st18_but a B Z N false D) (by omega)
 clear I2 I HE HE2
 go_upto_region 5 with (with_reducible refine wpList_store_rat rfl (.tmp 10) (.tmp 20) rfl (b := B) (s := Z) (n := N) (t := false) (d := D) rfl rfl HZ.out ?_)
 clear ha HZ hB
 generalize st18 a B Z N false D = x at *
 have HKx := Lib.hid (HK.out x HE3)
 clear HK
 go_wp2_with fail
 refine HKx.out.mono ?_
 rintro e y ⟨rfl, hst⟩
 rw [kept_nil] at hst
 have H0 := Lib.hid (I3.out.ratSte hst hbl 0 rfl)
 have H1 := Lib.hid (I3.out.ratSte hst hbl 2 rfl)
 have HS3 : Hid (Ste w y b j) := Ste.below_trans (by rw [hSS.out]; exact I3.out.bl) hst
 clear hst HKx I3 HE3
 go_wp2_with (first | (with_reducible refine wpList_load_rat rfl (.tmp 10) rfl rfl H0.out ?_) | (with_reducible refine wpList_store_rat rfl (.tmp 8) (.tmp 25) rfl (b := S + 1 + 1) (s := Z) (n := N) (t := false) (d := D) rfl rfl H1.out ?_))
 exact bodyPost_ret (v := ratV Z N false D) (results_rat1 rfl rfl (st18_at H1.out)) rfl ⟨rfl, HS3.out.but (st18_but y (S + 1 + 1) Z N false D) (by rw [hSS.out]; omega) (by rw [hSS.out]; exact hbl)⟩
def scK (k : Nat) (base exp : Int) : Nat := if k ≠ 0 then k else if base ≠ 2 ∧ base ≠ 10 then 1 else if 1000 < exp ∨ exp < -1000 then 9 else 0
set_option maxRecDepth 100000 in
set_option maxHeartbeats 4000000 in
theorem checkScale_run (s : Bool) (n : Nat) (t : Bool) (d : Nat) (base exp : Int) (K : Nat) (w : World) (hn : Hid (Fits n)) (hd : Hid (Fits d)) (hK : Hid (scK (chk s n t d) base exp = K)) :
  Calls Tryz.prog 164 #[ratV s n t d, .int .i64 base, .int .i64 exp] w fun e w' => e = .returned (errV K) ∧ Below w.heap.size w w' := by
 obtain ⟨S, hS⟩ : ∃ S, w.heap.size = S := ⟨_, rfl⟩
 obtain ⟨W0, hW0⟩ : ∃ W, w.alloc (boxR s n t d 94) = W := ⟨_, rfl⟩
 have I := (Bs.start w hS).pushRat hS s n t d 94
 rw [hW0] at I
 replace I := Lib.hid I
 have HC := Lib.hid (fun W => Check_run s n t d W hn hd)
 have hk8 := chk_le s n t d
 generalize chk s n t d = k at *
 rw [hS]
 have HRa := Lib.hid (I.out.rat 0 rfl)
 go_enter Tryz.func164, Tryz.ntmps164
 go_wp2_with (first | (with_reducible refine wpList_box_rat rfl (.tmp 0) rfl rfl ?_) | (with_reducible refine wpList_load_rat rfl (.tmp 3) rfl rfl HRa.out ?_))
 refine (HC.out _).mono ?_
 rintro e w1 ⟨rfl, hw⟩
 replace I := Lib.hid (I.out.below hw)
 clear hw HC HRa hW0
 rcases hk8 with rfl | rfl
 ·have e0 : errV 0 = .nilIface := rfl
  rw [e0]
  clear e0
  by_cases hb : base ≠ 2 ∧ base ≠ 10
  ·obtain rfl : K = 1 := by rw [← hK.out]; simp [scK, hb]
   have h2 : (base != 2) = true := by simp [hb.1]
   have h10 : (base != 10) = true := by simp [hb.2]
   go_wp2_with fail
   go_ret
   exact ⟨rfl, I.out.bl⟩
  ·have hbb : base = 2 ∨ base = 10 := by omega
   have hKx : K = if 1000 < exp ∨ exp < -1000 then 9 else 0 := by rw [← hK.out]; simp only [scK, if_neg hb]; simp
   by_cases h1 : 1000 < exp
   ·obtain rfl : K = 9 := by rw [hKx, if_pos (.inl h1)]
    rcases hbb with rfl | rfl <;>
    ·go_wp2_with fail
     go_ret
     exact ⟨rfl, I.out.bl⟩
   ·by_cases h2 : exp < -1000
    ·obtain rfl : K = 9 := by rw [hKx, if_pos (.inr h2)]
     have d1 : decide (1000 < exp) = false := decide_eq_false h1
     have d2 : decide (exp < -1000) = true := decide_eq_true h2
     clear h1 h2 hKx hK
     rcases hbb with rfl | rfl <;>
     ·go_wp2_with fail
      go_ret
      exact ⟨rfl, I.out.bl⟩
    ·obtain rfl : K = 0 := by rw [hKx, if_neg (by omega)]
     have d1 : decide (1000 < exp) = false := decide_eq_false h1
     have d2 : decide (exp < -1000) = false := decide_eq_false h2
     clear h1 h2 hKx hK
     rcases hbb with rfl | rfl <;>
     ·go_wp2_with fail
      go_ret
      exact ⟨rfl, I.out.bl⟩
 ·obtain rfl : K = 8 := by rw [← hK.out]; simp [scK]
  have e8 : errV 8 = .iface 35 (.int .i64 (8 : Nat)) := rfl
  rw [e8]
  go_wp2_with fail
  go_ret
  exact ⟨rfl, I.out.bl⟩
end Go.Proofs.YtgkhjeefcflmcaaGreatDoor
