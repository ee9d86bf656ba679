/-
  RatioScales: for every ratio, valid or not, every base and exponent (as the law reads them), Scale answers as the document does, or with its error, and Of of a small whole number is the document's: the law returns true and leaves its arguments as they were. Condition: the listed package-level variables hold what the program's own text lays (tied by the card).
-/
import Derived.Test.YtbcnpajdmlbieaaGreatDoorMg27
import Derived.Test.YtbcnpajdmlbieaaGreatDoorMg34
import Derived.Test.YtbcnpajdmlbieaaGreatDoorMg11
import Derived.Test.YtbcnpajdmlbieaaGreatDoorTie
import Derived.Test.YtbcnpajdmlbieaaGreatDoorCards
import Derived.SevenTiedAt

/-
  The document's Of.
-/
namespace Go.Proofs.YtbcnpajdmlbieaaGreatDoor
open Go.RowKit Go.Sort
set_option linter.unusedSimpArgs false
set_option maxRecDepth 100000 in
set_option maxHeartbeats 8000000 in
theorem Of_run8 (z : Int) (x : Bool) (N : Nat) (w : World) (hz : -1000000 ≤ z ∧ z ≤ 1000000) (hN : Hid (z.natAbs = N)) (hx : Hid (decide (z < 0) = x)) :
    Calls Tryz.prog 12 #[.int .i64 z] w fun e w' => e = .returned (ratV x N false 1) ∧ Below w.heap.size w w' := by
  obtain ⟨S, hS⟩ : ∃ S, w.heap.size = S := ⟨_, rfl⟩
  obtain ⟨W0, hW0⟩ : ∃ W, w.alloc (boxRZ 27) = W := ⟨_, rfl⟩
  have I := (Bs.start w hS).pushRatZ hS 27
  rw [hW0] at I
  replace I := Lib.hid I
  obtain ⟨M, hM⟩ : ∃ M, nl N = M := ⟨_, rfl⟩
  have HSM := Lib.hid (fun W => Small_run z x N M W hz hN hM hx)
  have HO := Lib.hid (fun W => One_run W)
  have hfN : Hid (Fits N) := by
    have h1 : N < 18446744073709551616 := by have := hN.out; omega
    exact Nat.lt_of_lt_of_le h1 (Nat.le_self_pow (by decide) _)
  have hf1 : Hid (Fits 1) := by show _ < _; decide
  replace hM := Lib.hid hM
  clear hz
  rw [hS]
  go_enter Tryz.func12, Tryz.ntmps12
  go_wp2_with fail
  refine (HSM.out _).mono ?_
  rintro e w1 ⟨⟨A, c⟩, rfl, hgg, hw⟩
  replace I := Lib.hid ((I.out.below hw).pushDig hgg)
  clear hw hgg HSM hW0
  have HT1 := Lib.hid (To_run x A M c N w1 hfN (I.out.dig 0 rfl).digs hM (I.out.dig 0 rfl).cap)
  go_wp2_with fail
  refine HT1.out.mono ?_
  rintro e x1 ⟨rfl, hw⟩
  replace I := Lib.hid (I.out.below hw)
  clear hw HT1
  obtain ⟨K4, hK4⟩ : ∃ K, x1.heap.size = K := ⟨_, rfl⟩
  obtain ⟨x2, hx2⟩ : ∃ W, x1.alloc (boxIZ 25) = W := ⟨_, rfl⟩
  have I2 := I.out.pushIntZ hK4 25
  rw [hx2] at I2
  have I3 := Lib.hid (I2.putInt 0 rfl x N rfl)
  have H0 := Lib.hid (I2.int 0 rfl)
  clear I2 I
  go_upto_region 2 with (with_reducible refine wpList_store_int rfl (.tmp 3) (.tmp 11) rfl (b := K4) (s := x) (n := N) rfl rfl H0.out ?_)
  clear hx2 H0
  generalize st9 x2 K4 x N = x3 at *
  have I := I3
  clear I3
  go_wp2_with fail
  refine (HO.out _).mono ?_
  rintro e x4 ⟨⟨B, cB⟩, rfl, hgg, hw⟩
  replace I := Lib.hid ((I.out.below hw).pushDig hgg)
  clear hw hgg HO
  have HT1 := Lib.hid (To_run false B 1 cB 1 x4 hf1 (I.out.dig 0 rfl).digs nl_one (I.out.dig 0 rfl).cap)
  go_wp2_with fail
  refine HT1.out.mono ?_
  rintro e x5 ⟨rfl, hw⟩
  replace I := Lib.hid (I.out.below hw)
  clear hw HT1
  obtain ⟨K5, hK5⟩ : ∃ K, x5.heap.size = K := ⟨_, rfl⟩
  obtain ⟨x6, hx6⟩ : ∃ W, x5.alloc (boxIZ 25) = W := ⟨_, rfl⟩
  have I2 := I.out.pushIntZ hK5 25
  rw [hx6] at I2
  have I3 := Lib.hid (I2.putInt 0 rfl false 1 rfl)
  have H0 := Lib.hid (I2.int 0 rfl)
  clear I2 I
  go_upto_region 3 with (with_reducible refine wpList_store_int rfl (.tmp 5) (.tmp 16) rfl (b := K5) (s := false) (n := 1) rfl rfl H0.out ?_)
  clear hx6 H0
  generalize st9 x6 K5 false 1 = x7 at *
  have H1 := Lib.hid (I3.out.int 2 rfl)
  have H2 := Lib.hid (I3.out.int 0 rfl)
  have H3 := Lib.hid (I3.out.rat 4 rfl)
  go_wp2_with (first | (with_reducible refine wpList_load_int rfl (.tmp 3) rfl rfl H1.out.o ?_) | (with_reducible refine wpList_load_int rfl (.tmp 5) rfl rfl H2.out.o ?_) | (with_reducible refine wpList_build_rat rfl (.tmp 18) (.tmp 19) rfl rfl rfl ?_) | (with_reducible refine wpList_store_rat rfl (.tmp 2) (.tmp 20) rfl (b := S) (s := x) (n := N) (t := false) (d := 1) rfl rfl H3.out ?_))
  have I4 := I3.out.putRat 4 rfl x N false 1 rfl
  exact bodyPost_ret (v := ratV x N false 1) (results_rat1 rfl rfl (I4.rat 4 rfl)) rfl ⟨rfl, I4.bl⟩
end Go.Proofs.YtbcnpajdmlbieaaGreatDoor

/-
  Stage 8: ratio's steps over ratios; what Scale checks.
-/
namespace Go.Proofs.YtbcnpajdmlbieaaGreatDoor
open Go.RowKit Go.Sort
set_option linter.unusedSimpArgs false

set_option maxHeartbeats 2000000 in
theorem failedR_zero (b : Nat) (w : World) (h : Hid (ErrAt w b 0)) :
    Calls Tryz.prog 81 #[.pointer (some ⟨b, 0, none⟩)] w fun e w' => e = .returned (.bool false) ∧ w = w' := by
  have h1 : w.cell? ⟨b, 0, none⟩ = some .nilIface := h.out.cell
  go_enter Tryz.func81, Tryz.ntmps81
  go_wp2_with fail
  go_ret
  exact ⟨rfl, rfl⟩
set_option maxHeartbeats 2000000 in
theorem failedR_pos (b k : Nat) (hk : k ≠ 0) (w : World) (h : Hid (ErrAt w b k)) :
    Calls Tryz.prog 81 #[.pointer (some ⟨b, 0, none⟩)] w fun e w' => e = .returned (.bool true) ∧ w = w' := by
  have h1 : w.cell? ⟨b, 0, none⟩ = some (.iface 62 (.int .i64 k)) := h.out.cell.trans (by rw [errV_pos hk])
  go_enter Tryz.func81, Tryz.ntmps81
  go_wp2_with fail
  go_ret
  exact ⟨rfl, rfl⟩
set_option maxHeartbeats 2000000 in
theorem keepR_run (b k j : Nat) (w : World) (h : Hid (ErrAt w b k)) :
    Calls Tryz.prog 82 #[.pointer (some ⟨b, 0, none⟩), errV j] w fun e w' => e = .returned (.tuple #[]) ∧ Ste w w' b (kept k j) := by
  by_cases hk : k = 0
  · subst hk
    have HF := Lib.hid (failedR_zero b w h)
    have h1 : w.cell? ⟨b, 0, none⟩ = some .nilIface := h.out.cell
    have h2 := h.out.free
    have HS := Lib.hid (h.out.set j)
    have hj := errV_one j
    generalize errV j = v at *
    rcases hj with rfl | ⟨x, rfl⟩
    all_goals
      go_enter Tryz.func82, Tryz.ntmps82
      go_wp2_with fail
      refine HF.out.mono ?_
      rintro e w1 ⟨rfl, rfl⟩
      go_wp2_with fail
      go_end0
      exact ⟨rfl, HS.out⟩
  · have HF := Lib.hid (failedR_pos b k hk w h)
    have HS : Hid (Ste w w b (kept k j)) := by rw [kept, if_neg hk]; exact Ste.refl h.out
    clear hk
    generalize errV j = v
    go_enter Tryz.func82, Tryz.ntmps82
    go_wp2_with fail
    refine HF.out.mono ?_
    rintro e w1 ⟨rfl, rfl⟩
    go_wp2_with fail
    go_end0
    exact ⟨rfl, HS.out⟩
theorem Bs.ratSte {w0 w w' : World} {S b k : Nat} {l : List Bx} (h : Bs w0 S l w) (g : Ste w w' b k) (hb : b < S) (i : Nat) {c n d : Nat} {s t : Bool} (e : l[i]? = some (.rat c s n t d)) : RatAt w' c s n t d := by
  have h1 := h.rat i e
  have h2 := h.low _ (List.mem_of_getElem? e) c rfl
  exact h1.ste g (lt_of_cell h1.num.sign) (by omega)
set_option maxRecDepth 100000 in
set_option maxHeartbeats 4000000 in
theorem doR_past (f b k : Nat) (hk : k ≠ 0) (s : Bool) (n : Nat) (t : Bool) (d : Nat) (s' : Bool) (n' : Nat) (t' : Bool) (d' : Nat) (w : World) (h : Hid (ErrAt w b k)) :
    Calls Tryz.prog 63 #[.pointer (some ⟨b, 0, none⟩), fnV f, ratV s n t d, ratV s' n' t' d'] w fun e w' => e = .returned (ratV false 0 false 0) ∧ Ste w w' b k := by
  obtain ⟨S, hS⟩ : ∃ S, w.heap.size = S := ⟨_, rfl⟩
  obtain ⟨W0, hW0⟩ : ∃ W, (((w.alloc (boxR s n t d 27)).alloc (boxR s' n' t' d' 27)).alloc (boxRZ 27)).alloc (boxRZ 27) = W := ⟨_, rfl⟩
  have I := ((((Bs.start w hS).pushRat hS s n t d 27).pushRat (k := S + 1) (by simp [hS]) s' n' t' d' 27).pushRatZ (k := S + 1 + 1) (by simp [hS]) 27).pushRatZ (k := S + 1 + 1 + 1) (by simp [hS]) 27
  rw [hW0] at I
  replace I := Lib.hid I
  have HE : Hid (ErrAt W0 b k) := h.out.below (by rw [hS]; exact I.out.bl)
  have HF := Lib.hid (failedR_pos b k hk W0 HE)
  have hh := Lib.hid h.out
  have hSS := Lib.hid hS
  clear hk h
  go_enter Tryz.func63, Tryz.ntmps63
  go_wp2_with (first | (with_reducible refine wpList_box_rat rfl (.tmp 2) rfl rfl ?_) | (with_reducible refine wpList_box_rat rfl (.tmp 3) rfl rfl ?_))
  refine HF.out.mono ?_
  rintro e w1 ⟨rfl, rfl⟩
  have H0 := Lib.hid (I.out.rat 0 rfl)
  have H1 := Lib.hid (I.out.rat 1 rfl)
  go_wp2_with (first | (with_reducible refine wpList_load_rat rfl (.tmp 9) rfl rfl H0.out ?_) | (with_reducible refine wpList_store_rat rfl (.tmp 8) (.tmp 14) rfl (b := S + 1 + 1) (s := false) (n := 0) (t := false) (d := 0) rfl rfl H1.out ?_))
  have I2 := I.out.putRat 1 rfl false 0 false 0 rfl
  exact bodyPost_ret (v := ratV false 0 false 0) (results_rat1 rfl rfl (I2.rat 1 rfl)) rfl ⟨rfl, Ste.of_below hh.out (by rw [hSS.out]; exact I2.bl)⟩
set_option maxRecDepth 100000 in
set_option maxHeartbeats 4000000 in
theorem doR_first (f b j : Nat) (s : Bool) (n : Nat) (t : Bool) (d : Nat) (s' : Bool) (n' : Nat) (t' : Bool) (d' : Nat) (Z : Bool) (N D : Nat) (w : World) (h : Hid (ErrAt w b 0))
    (hcf : Hid (EntersP Tryz.prog f)) (hop : Hid (∀ W, Calls Tryz.prog f #[ratV s n t d, ratV s' n' t' d'] W fun e w' => e = .returned (.tuple #[ratV Z N false D, errV j]) ∧ Below W.heap.size W w')) :
    Calls Tryz.prog 63 #[.pointer (some ⟨b, 0, none⟩), fnV f, ratV s n t d, ratV s' n' t' d'] w fun e w' => e = .returned (ratV Z N false D) ∧ Ste w w' b j := by
  obtain ⟨S, hS⟩ : ∃ S, w.heap.size = S := ⟨_, rfl⟩
  obtain ⟨W0, hW0⟩ : ∃ W, (((w.alloc (boxR s n t d 27)).alloc (boxR s' n' t' d' 27)).alloc (boxRZ 27)).alloc (boxRZ 27) = W := ⟨_, rfl⟩
  have I := ((((Bs.start w hS).pushRat hS s n t d 27).pushRat (k := S + 1) (by simp [hS]) s' n' t' d' 27).pushRatZ (k := S + 1 + 1) (by simp [hS]) 27).pushRatZ (k := S + 1 + 1 + 1) (by simp [hS]) 27
  rw [hW0] at I
  replace I := Lib.hid I
  have hbl := h.out.lt
  rw [hS] at hbl
  have HE : Hid (ErrAt W0 b 0) := h.out.below (by rw [hS]; exact I.out.bl)
  have HF := Lib.hid (failedR_zero b W0 HE)
  have hSS := Lib.hid hS
  have hen : ∀ (args : Array Value) (w : World), (callFunc f args).run Tryz.prog w = .ok (.enter f args) w := hcf.out
  have HK := Lib.hid (fun W h => keepR_run b 0 j W h)
  clear h
  go_enter Tryz.func63, Tryz.ntmps63
  go_wp2_with (first | (with_reducible refine wpList_box_rat rfl (.tmp 2) rfl rfl ?_) | (with_reducible refine wpList_box_rat rfl (.tmp 3) rfl rfl ?_))
  refine HF.out.mono ?_
  rintro e w1 ⟨rfl, rfl⟩
  have H0 := Lib.hid (I.out.rat 3 rfl)
  have H1 := Lib.hid (I.out.rat 2 rfl)
  go_wp2_with (first | (with_reducible refine wpList_load_rat rfl (.tmp 6) rfl rfl H0.out ?_) | (with_reducible refine wpList_load_rat rfl (.tmp 7) rfl rfl H1.out ?_))
  refine (hop.out _).mono ?_
  rintro e w1 ⟨rfl, hw⟩
  replace HE := Lib.hid (HE.out.below hw)
  replace I := Lib.hid (I.out.below hw)
  clear hw H0 H1 HF hW0 hop
  obtain ⟨B, hB⟩ : ∃ K, w1.heap.size = K := ⟨_, rfl⟩
  obtain ⟨a, ha⟩ : ∃ W, w1.alloc (boxRZ 27) = W := ⟨_, rfl⟩
  have I2 := I.out.pushRatZ hB 27
  have HE2 := HE.out.below (below_alloc w1 (boxRZ 27))
  rw [ha] at I2 HE2
  have hbB : b < B := by have := I.out.sz; omega
  have HZ := Lib.hid (I2.rat 0 rfl)
  have I3 := Lib.hid (I2.putRat 0 rfl Z N false D rfl)
  have HE3 : Hid (ErrAt (st18 a B Z N false D) b 0) := HE2.but1 (st18_but a B Z N false D) (by omega)
  clear I2 I HE HE2
  go_upto_region 5 with (with_reducible refine wpList_store_rat rfl (.tmp 10) (.tmp 20) rfl (b := B) (s := Z) (n := N) (t := false) (d := D) rfl rfl HZ.out ?_)
  clear ha HZ hB
  generalize st18 a B Z N false D = x at *
  have HKx := Lib.hid (HK.out x HE3)
  clear HK
  go_wp2_with fail
  refine HKx.out.mono ?_
  rintro e y ⟨rfl, hst⟩
  rw [kept_nil] at hst
  have H0 := Lib.hid (I3.out.ratSte hst hbl 0 rfl)
  have H1 := Lib.hid (I3.out.ratSte hst hbl 2 rfl)
  have HS3 : Hid (Ste w y b j) := Ste.below_trans (by rw [hSS.out]; exact I3.out.bl) hst
  clear hst HKx I3 HE3
  go_wp2_with (first | (with_reducible refine wpList_load_rat rfl (.tmp 10) rfl rfl H0.out ?_) | (with_reducible refine wpList_store_rat rfl (.tmp 8) (.tmp 25) rfl (b := S + 1 + 1) (s := Z) (n := N) (t := false) (d := D) rfl rfl H1.out ?_))
  exact bodyPost_ret (v := ratV Z N false D) (results_rat1 rfl rfl (st18_at H1.out)) rfl ⟨rfl, HS3.out.but (st18_but y (S + 1 + 1) Z N false D) (by rw [hSS.out]; omega) (by rw [hSS.out]; exact hbl)⟩
/-- What Scale finds wrong with its arguments. -/
def scK (k : Nat) (base exp : Int) : Nat := if k ≠ 0 then k else if base ≠ 2 ∧ base ≠ 10 then 1 else if 1000 < exp ∨ exp < -1000 then 9 else 0
set_option maxRecDepth 100000 in
set_option maxHeartbeats 4000000 in
theorem checkScale_run (s : Bool) (n : Nat) (t : Bool) (d : Nat) (base exp : Int) (K : Nat) (w : World) (hn : Hid (Fits n)) (hd : Hid (Fits d)) (hK : Hid (scK (chk s n t d) base exp = K)) :
    Calls Tryz.prog 62 #[ratV s n t d, .int .i64 base, .int .i64 exp] w fun e w' => e = .returned (errV K) ∧ Below w.heap.size w w' := by
  obtain ⟨S, hS⟩ : ∃ S, w.heap.size = S := ⟨_, rfl⟩
  obtain ⟨W0, hW0⟩ : ∃ W, w.alloc (boxR s n t d 27) = W := ⟨_, rfl⟩
  have I := (Bs.start w hS).pushRat hS s n t d 27
  rw [hW0] at I
  replace I := Lib.hid I
  have HC := Lib.hid (fun W => Check_run s n t d W hn hd)
  have hk8 := chk_le s n t d
  generalize chk s n t d = k at *
  rw [hS]
  have HRa := Lib.hid (I.out.rat 0 rfl)
  go_enter Tryz.func62, Tryz.ntmps62
  go_wp2_with (first | (with_reducible refine wpList_box_rat rfl (.tmp 0) rfl rfl ?_) | (with_reducible refine wpList_load_rat rfl (.tmp 3) rfl rfl HRa.out ?_))
  refine (HC.out _).mono ?_
  rintro e w1 ⟨rfl, hw⟩
  replace I := Lib.hid (I.out.below hw)
  clear hw HC HRa hW0
  rcases hk8 with rfl | rfl
  · have e0 : errV 0 = .nilIface := rfl
    rw [e0]
    clear e0
    by_cases hb : base ≠ 2 ∧ base ≠ 10
    · obtain rfl : K = 1 := by rw [← hK.out]; simp [scK, hb]
      have h2 : (base != 2) = true := by simp [hb.1]
      have h10 : (base != 10) = true := by simp [hb.2]
      go_wp2_with fail
      go_ret
      exact ⟨rfl, I.out.bl⟩
    · have hbb : base = 2 ∨ base = 10 := by omega
      have hKx : K = if 1000 < exp ∨ exp < -1000 then 9 else 0 := by rw [← hK.out]; simp only [scK, if_neg hb]; simp
      by_cases h1 : 1000 < exp
      · obtain rfl : K = 9 := by rw [hKx, if_pos (.inl h1)]
        rcases hbb with rfl | rfl <;>
        · go_wp2_with fail
          go_ret
          exact ⟨rfl, I.out.bl⟩
      · by_cases h2 : exp < -1000
        · obtain rfl : K = 9 := by rw [hKx, if_pos (.inr h2)]
          have d1 : decide (1000 < exp) = false := decide_eq_false h1
          have d2 : decide (exp < -1000) = true := decide_eq_true h2
          clear h1 h2 hKx hK
          rcases hbb with rfl | rfl <;>
          · go_wp2_with fail
            go_ret
            exact ⟨rfl, I.out.bl⟩
        · obtain rfl : K = 0 := by rw [hKx, if_neg (by omega)]
          have d1 : decide (1000 < exp) = false := decide_eq_false h1
          have d2 : decide (exp < -1000) = false := decide_eq_false h2
          clear h1 h2 hKx hK
          rcases hbb with rfl | rfl <;>
          · go_wp2_with fail
            go_ret
            exact ⟨rfl, I.out.bl⟩
  · obtain rfl : K = 8 := by rw [← hK.out]; simp [scK]
    have e8 : errV 8 = .iface 62 (.int .i64 (8 : Nat)) := rfl
    rw [e8]
    go_wp2_with fail
    go_ret
    exact ⟨rfl, I.out.bl⟩
end Go.Proofs.YtbcnpajdmlbieaaGreatDoor

/-
  Stage 8: Scale, step by step; the program's Scale.
-/
namespace Go.Proofs.YtbcnpajdmlbieaaGreatDoor
open Go.RowKit Go.Sort
set_option linter.unusedSimpArgs false

/-- A ratio and an error. -/
structure Q4 where
  s : Bool
  n : Nat
  d : Nat
  k : Nat
def mu4 (B : Nat) (x : Q4) : Q4 := ⟨muS x.s x.n false x.d false B false 1, muN x.s x.n false x.d false B false 1, muD x.s x.n false x.d false B false 1, muK x.s x.n false x.d false B false 1⟩
def qu4 (B : Nat) (x : Q4) : Q4 := ⟨quS x.s x.n false x.d false B false 1, quN x.s x.n false x.d false B false 1, quD x.s x.n false x.d false B false 1, quK x.s x.n false x.d false B false 1⟩
def op4 (neg : Bool) (B : Nat) (x : Q4) : Q4 := if neg then qu4 B x else mu4 B x
def stp (neg : Bool) (B : Nat) (x : Q4) : Q4 := if x.k = 0 then op4 neg B x else ⟨false, 0, 0, x.k⟩
def its (neg : Bool) (B : Nat) (x : Q4) : Nat → Q4
  | 0 => x
  | i + 1 => stp neg B (its neg B x i)
theorem Fits.zero : Fits 0 := Nat.pow_pos (by decide)
theorem op4_fits (neg : Bool) (B : Nat) (x : Q4) : Fits (op4 neg B x).n ∧ Fits (op4 neg B x).d := by
  cases neg
  · exact mu_fits x.s x.n false x.d false B false 1
  · exact qu_fits x.s x.n false x.d false B false 1
theorem its_fits (neg : Bool) (B : Nat) (x : Q4) (hx : Fits x.n ∧ Fits x.d) : ∀ i, Fits (its neg B x i).n ∧ Fits (its neg B x i).d
  | 0 => hx
  | i + 1 => by
    show Fits (stp neg B (its neg B x i)).n ∧ Fits (stp neg B (its neg B x i)).d
    unfold stp
    split
    · exact op4_fits neg B _
    · exact ⟨Fits.zero, Fits.zero⟩
/-- An error makes the zero ratio. -/
theorem op4_err {neg : Bool} {B : Nat} {x : Q4} (h : (op4 neg B x).k ≠ 0) : op4 neg B x = ⟨false, 0, 0, (op4 neg B x).k⟩ := by
  have key : ∀ {ka kb : Nat} {zr : Bool} {r : Nat} {zd : Bool} {dd : Nat} {zero fit : Prop} {Z : Bool} {N D K : Nat}, DoIs ka kb zr r zd dd zero fit Z N D K → K ≠ 0 → (⟨Z, N, D, K⟩ : Q4) = ⟨false, 0, 0, K⟩ := by
    intro ka kb zr r zd dd zero fit Z N D K h hK
    have h0 : Z = false ∧ N = 0 ∧ D = 0 := by
      by_cases h1 : ka = 0
      · by_cases h2 : kb = 0
        · by_cases h3 : zero
          · have := h.b3 h1 h2 h3; exact ⟨this.1, this.2.1, this.2.2.1⟩
          · by_cases h4 : fit
            · exact absurd (h.ok h1 h2 h3 h4).2.2.2.1 hK
            · have := h.b4 h1 h2 h3 h4; exact ⟨this.1, this.2.1, this.2.2.1⟩
        · have := h.b2 h2; exact ⟨this.1, this.2.1, this.2.2.1⟩
      · have := h.b1 h1; exact ⟨this.1, this.2.1, this.2.2.1⟩
    obtain ⟨rfl, rfl, rfl⟩ := h0
    rfl
  cases neg
  · exact key (is_mu x.s x.n false x.d false B false 1) h
  · exact key (is_qu x.s x.n false x.d false B false 1) h
theorem op4_le (neg : Bool) (B : Nat) (x : Q4) : (op4 neg B x).k ≤ 25 := by
  cases neg
  · exact (is_mu x.s x.n false x.d false B false 1).le
  · exact (is_qu x.s x.n false x.d false B false 1).le
theorem its_le (neg : Bool) (B : Nat) (x : Q4) (hx : x.k ≤ 25) : ∀ i, (its neg B x i).k ≤ 25
  | 0 => hx
  | i + 1 => by
    show (stp neg B (its neg B x i)).k ≤ 25
    unfold stp
    split
    · exact op4_le neg B _
    · exact its_le neg B x hx i
theorem its_stuck {neg : Bool} {B : Nat} {x : Q4} {i k : Nat} (h : its neg B x i = ⟨false, 0, 0, k⟩) (hk : k ≠ 0) : ∀ j, its neg B x (i + j) = ⟨false, 0, 0, k⟩
  | 0 => h
  | j + 1 => by
    show stp neg B (its neg B x (i + j)) = _
    rw [its_stuck h hk j]
    exact if_neg hk
/-- What Scale answers, of a valid ratio or any. -/
def scl (s : Bool) (n : Nat) (t : Bool) (d : Nat) (base exp : Int) : Q4 := if scK (chk s n t d) base exp ≠ 0 then ⟨false, 0, 0, scK (chk s n t d) base exp⟩ else its (decide (exp < 0)) base.natAbs ⟨s, n, d, 0⟩ exp.natAbs
theorem scK_zero {k : Nat} {base exp : Int} (h : scK k base exp = 0) : k = 0 ∧ (base = 2 ∨ base = 10) ∧ -1000 ≤ exp ∧ exp ≤ 1000 := by
  unfold scK at h
  split at h
  · omega
  · split at h
    · omega
    · split at h
      · omega
      · omega
theorem scl_fits (s : Bool) (n : Nat) (t : Bool) (d : Nat) (base exp : Int) (hn : Fits n) (hd : Fits d) : Fits (scl s n t d base exp).n ∧ Fits (scl s n t d base exp).d := by
  unfold scl
  split
  · exact ⟨Fits.zero, Fits.zero⟩
  · exact its_fits _ _ _ ⟨hn, hd⟩ _
theorem scK_le (s : Bool) (n : Nat) (t : Bool) (d : Nat) (base exp : Int) : scK (chk s n t d) base exp ≤ 25 := by
  unfold scK
  have := chk_le s n t d
  split
  · omega
  · split
    · omega
    · split <;> omega
theorem scl_le (s : Bool) (n : Nat) (t : Bool) (d : Nat) (base exp : Int) : (scl s n t d base exp).k ≤ 25 := by
  unfold scl
  split
  · exact scK_le s n t d base exp
  · exact its_le _ _ _ (Nat.zero_le _) _
theorem Bx.At.ste {w w' : World} {x : Bx} {E k j : Nat} (h : x.At w) (he : ErrAt w E k) (g : Ste w w' E j) (hne : x.blk ≠ some E) : x.At w' := by
  have hl := fun b => h.lt (b := b)
  have hc : ∀ b o, b < w.heap.size → b ≠ E → w'.cell? ⟨b, o, none⟩ = w.cell? ⟨b, o, none⟩ := fun b o h1 h2 => g.cell b o h1 (fun e => h2 e.1)
  cases x with
  | num b s A L c =>
    have hb : b ≠ E := fun e => hne (congrArg some e)
    have h1 : NumAt w b s A L c := h
    exact ⟨(hc _ _ h1.lt hb).trans h1.c0, (g.free _ _ h1.lt).trans h1.f0, (hc _ _ h1.lt hb).trans h1.c1, (g.free _ _ h1.lt).trans h1.f1⟩
  | int b s n => exact IntAt.ste h g (hl _ rfl) (fun e => hne (congrArg some e))
  | rat b s n t d => exact RatAt.ste h g (hl _ rfl) (fun e => hne (congrArg some e))
  | one b v =>
    have hb : b ≠ E := fun e => hne (congrArg some e)
    have h1 : w.cell? ⟨b, 0, none⟩ = some v ∧ w.frozen? ⟨b, 0, none⟩ = false := h
    exact ⟨(hc _ _ (hl _ rfl) hb).trans h1.1, (g.free _ _ (hl _ rfl)).trans h1.2⟩
  | row b v vs =>
    have hb : b ≠ E := fun e => hne (congrArg some e)
    have h1 : w.rangeAt b 0 (v :: vs) := h
    exact fun i u hu => (hc _ _ (hl _ rfl) hb).trans (h1 i u hu)
  | dig s A L c n =>
    have h1 : Good w s A L c n := h
    refine ⟨fun hL => ?_, h1.len, h1.cap, h1.sg⟩
    obtain ⟨b, o, e, hb, hd⟩ := h1.digs hL
    refine ⟨b, o, e, Nat.lt_of_lt_of_le hb g.size, fun i hi => (g.cell b (o + i) hb (fun e2 => ?_)).trans (hd i hi)⟩
    have h3 := hd i hi
    rw [e2.1, e2.2, he.cell] at h3
    have h4 := Option.some.inj h3
    unfold errV errno at h4
    split at h4 <;> cases h4
theorem Bs.ste {w0 w w' : World} {S E k j : Nat} {l : List Bx} (h : Bs w0 S l w) (i : Nat) (e : l[i]? = some (.one E (errV k))) (g : Ste w w' E j) {l' : List Bx} (hl : l.set i (.one E (errV j)) = l') : Bs w0 S l' w' := by
  subst hl
  have hE : ErrAt w E k := ⟨(h.one i e).1, (h.one i e).2⟩
  have hSb := h.low _ (List.mem_of_getElem? e) E rfl
  refine ⟨fun z hz => ?_, fun z hz c ec => ?_, ?_, g.below S w0 hSb h.sz h.bl, Nat.le_trans h.sz g.size⟩
  · obtain ⟨m, hm⟩ := List.mem_iff_getElem?.1 hz
    by_cases hij : i = m
    · subst hij
      have hl := (List.getElem?_eq_some_iff.1 e).1
      rw [List.getElem?_set_self hl] at hm
      cases hm
      exact ⟨g.err.cell, g.err.free⟩
    · rw [List.getElem?_set_ne hij] at hm
      exact (h.at m hm).ste hE g (h.apart e hm hij rfl)
  · rcases List.mem_or_eq_of_mem_set hz with h1 | h1
    · exact h.low z h1 c ec
    · subst h1
      cases ec
      exact hSb
  · rw [filterMap_set_blk l i _ (.one E (errV j)) e rfl]
    exact h.dist
theorem load_err {w : World} {p : Addr} {k : Nat} (h : w.cell? p = some (errV k)) : (loadVar 29 p).run Tryz.prog w = .ok (errV k) w := by
  rcases errV_one k with e | ⟨v, e⟩ <;> rw [e] at h ⊢ <;> go_simp
theorem ld_err {op : Oper} {a : Act} {w : World} (x : Operand) (ho : op.op = .load 29 x) {p : Addr} {k : Nat} (hx : a.eval x = .pointer (some p)) (h : w.cell? p = some (errV k)) : (execOp a.eval op).run Tryz.prog w = .ok (.value (errV k)) w := ld_cell 29 x ho hx (load_err h)
theorem enters_doR : EntersP Tryz.prog 63 := entersP_of Tryz.func63 (by kernel_rfl) rfl
theorem enters_ROf : EntersP Tryz.prog 29 := entersP_of Tryz.func29 (by kernel_rfl) rfl
theorem enters_RMul : EntersP Tryz.prog 22 := entersP_of Tryz.func22 (by kernel_rfl) rfl
theorem enters_RQuo : EntersP Tryz.prog 23 := entersP_of Tryz.func23 (by kernel_rfl) rfl
def opF (neg : Bool) : Nat := if neg then 23 else 22
theorem do4_run (neg : Bool) (B : Nat) (x y : Q4) (E : Nat) (W : World) (hx : Fits x.n ∧ Fits x.d) (hB : Fits B) (h : ErrAt W E x.k) (hy : stp neg B x = y) :
    Calls Tryz.prog 63 #[.pointer (some ⟨E, 0, none⟩), fnV (opF neg), ratV x.s x.n false x.d, ratV false B false 1] W fun e w' => e = .returned (ratV y.s y.n false y.d) ∧ Ste W w' E y.k := by
  obtain ⟨xs, xn, xd, xk⟩ := x
  subst hy
  have hf1 : Fits 1 := by show _ < _; decide
  by_cases hk : xk = 0
  · subst hk
    have e : stp neg B ⟨xs, xn, xd, 0⟩ = op4 neg B ⟨xs, xn, xd, 0⟩ := rfl
    rw [e]
    cases neg
    · exact doR_first _ E _ xs xn false xd false B false 1 _ _ _ W h enters_RMul fun V => by
        have := RMul_run xs xn false xd false B false 1 V hx.1 hx.2 hB hf1
        rwa [mulV_eq] at this
    · exact doR_first _ E _ xs xn false xd false B false 1 _ _ _ W h enters_RQuo fun V => by
        have := RQuo_run xs xn false xd false B false 1 V hx.1 hx.2 hB hf1
        rwa [quoV_eq] at this
  · have e : stp neg B ⟨xs, xn, xd, xk⟩ = ⟨false, 0, 0, xk⟩ := if_neg hk
    rw [e]
    exact doR_past _ E xk hk xs xn false xd false B false 1 W h
set_option maxRecDepth 100000 in
set_option maxHeartbeats 8000000 in
theorem Scale_runP (s : Bool) (n : Nat) (t : Bool) (d : Nat) (base exp : Int) (y : Q4) (w : World) (hn : Hid (Fits n)) (hd : Hid (Fits d)) (hy : Hid (scl s n t d base exp = y)) :
    Calls Tryz.prog 27 #[ratV s n t d, .int .i64 base, .int .i64 exp] w fun e w' => e = .returned (.tuple #[ratV y.s y.n false y.d, errV y.k]) ∧ Below w.heap.size w w' := by
  obtain ⟨S, hS⟩ : ∃ S, w.heap.size = S := ⟨_, rfl⟩
  obtain ⟨W0, hW0⟩ : ∃ W, (w.alloc (boxR s n t d 27)).alloc (boxRZ 27) = W := ⟨_, rfl⟩
  have I := ((Bs.start w hS).pushRat hS s n t d 27).pushRatZ (k := S + 1) (by simp [hS]) 27
  rw [hW0] at I
  replace I := Lib.hid I
  obtain ⟨K, hK⟩ : ∃ K, scK (chk s n t d) base exp = K := ⟨_, rfl⟩
  have HC := Lib.hid (fun W => checkScale_run s n t d base exp K W hn hd hK)
  have HK := Lib.hid hK
  have hy2 := hy.out
  unfold scl at hy2
  rw [hK] at hy2
  replace hy2 := Lib.hid hy2
  clear hK hy
  rw [hS]
  have HRa := Lib.hid (I.out.rat 1 rfl)
  go_enter Tryz.func27, Tryz.ntmps27
  go_wp2_with (first | (with_reducible refine wpList_box_rat rfl (.tmp 0) rfl rfl ?_) | (with_reducible refine wpList_load_rat rfl (.tmp 3) rfl rfl HRa.out ?_))
  refine (HC.out _).mono ?_
  rintro e w1 ⟨rfl, hw⟩
  replace I := Lib.hid (I.out.below hw)
  clear hw HC HRa hW0
  by_cases hk : K = 0
  · subst hk
    obtain ⟨hk0, hbase, he1, he2⟩ := scK_zero HK.out
    obtain ⟨v1, v2, v3, v4⟩ := vld_spec (chk_zero.1 hk0)
    subst v2
    have hy3 : its (decide (exp < 0)) base.natAbs ⟨s, n, d, 0⟩ exp.natAbs = y := hy2.out
    replace hy3 := Lib.hid hy3
    obtain ⟨B, hB⟩ : ∃ B, base.natAbs = B := ⟨_, rfl⟩
    obtain ⟨cnt, hcnt⟩ : ∃ c, exp.natAbs = c := ⟨_, rfl⟩
    rw [hB, hcnt] at hy3
    have hfB : Hid (Fits B) := Nat.lt_of_lt_of_le (show B < 18446744073709551616 by omega) (Nat.le_self_pow (by decide) _)
    have HOF : Hid (∀ W, Calls Tryz.prog 29 #[.int .i64 base] W fun e w' => e = .returned (ratV false B false 1) ∧ Below W.heap.size W w') := fun W => by
      have := ROf_run base W (by omega) (by omega)
      rwa [show decide (base < 0) = false from decide_eq_false (by omega), hB] at this
    have hcb : cnt ≤ 1000 := by omega
    have e0 : errV 0 = .nilIface := rfl
    rw [e0]
    clear e0 hy2 HK hk0 v1 v3 v4
    obtain ⟨E, hE⟩ : ∃ K, w1.heap.size = K := ⟨_, rfl⟩
    obtain ⟨w2, hw2⟩ : ∃ W, w1.alloc (.cells #[.nilIface] 97) = W := ⟨_, rfl⟩
    have I2 := I.out.pushOne hE .nilIface 97
    rw [hw2] at I2
    replace I := Lib.hid (show Bs w S [.one E (errV 0), .rat (S + 1) false 0 false 0, .rat S s n false d] w2 from I2)
    clear I2
    by_cases hneg : exp < 0
    · have hec : -exp = (cnt : Int) := by omega
      rw [show decide (exp < 0) = true from decide_eq_true hneg] at hy3
      clear hcnt he1 he2
      go_wp2_with fail
      go_loopg [26] (cnt + 1) (fun h s26 wr => ∃ i : Nat, s26 = .int .i64 (i : Int) ∧ Hid (i + h = cnt + 1) ∧ i ≤ cnt ∧ Hid (Bs w S [.one E (errV (its true B ⟨s, n, d, 0⟩ i).k), .rat (S + 1) false 0 false 0, .rat S (its true B ⟨s, n, d, 0⟩ i).s (its true B ⟨s, n, d, 0⟩ i).n false (its true B ⟨s, n, d, 0⟩ i).d] wr))
      case atStart => exact ⟨0, rfl, by show _ = _; omega, by omega, I⟩
      case round =>
        clear I
        obtain ⟨i, rfl, HI, hic, I⟩ := hrel
        have hfx := Lib.hid (its_fits true B ⟨s, n, d, 0⟩ ⟨hn.out, hd.out⟩ i)
        have hst : Hid (stp true B (its true B ⟨s, n, d, 0⟩ i) = its true B ⟨s, n, d, 0⟩ (i + 1)) := rfl
        have hyi : Hid (i = cnt → its true B ⟨s, n, d, 0⟩ i = y) := fun e => by rw [e]; exact hy3.out
        obtain ⟨x', hx'⟩ : ∃ x, its true B ⟨s, n, d, 0⟩ (i + 1) = x := ⟨_, rfl⟩
        rw [hx'] at hst
        replace hx' := Lib.hid hx'
        obtain ⟨x, hx⟩ : ∃ x, its true B ⟨s, n, d, 0⟩ i = x := ⟨_, rfl⟩
        rw [hx] at hst hfx hyi I
        clear hx
        obtain ⟨xs, xn, xd, xk⟩ := x
        obtain ⟨zs, zn, zd, zk⟩ := x'
        by_cases hlt : i < cnt
        · have HDO : Hid (∀ W, ErrAt W E xk → Calls Tryz.prog 63 #[.pointer (some ⟨E, 0, none⟩), fnV 23, ratV xs xn false xd, ratV false B false 1] W fun e w' => e = .returned (ratV zs zn false zd) ∧ Ste W w' E zk) := fun W h =>
            do4_run true B ⟨xs, xn, xd, xk⟩ ⟨zs, zn, zd, zk⟩ E W hfx.out hfB.out h hst.out
          clear hst hyi hfx
          go_upto_region 10 with fail
          refine rg_begin (fun V => Bs w S [] V) (by kernel_rfl) (I.out.drew.sub (.cons _ (.cons _ (.cons _ .slnil)))) (fun hS => ?_)
          refine rg_take 0 (fnV 23) rfl (by kernel_rfl) (by kernel_rfl) (by kernel_rfl) (fun _ _ _ h => h) rfl (fun w _ => ?_) hS ?_
          · go_simp
          simp only [List.getElem_toArray, List.getElem_cons_zero, List.getElem_cons_succ, Act.put, List.setIfInBounds_toArray, List.set_cons_zero, List.set_cons_succ]
          refine rg_take 2 (.int .i64 base) rfl (by kernel_rfl) (by kernel_rfl) (by kernel_rfl) (fun _ _ _ h => h) rfl (fun w _ => ?_) hS ?_
          · go_simp
          simp only [List.getElem_toArray, List.getElem_cons_zero, List.getElem_cons_succ, Act.put, List.setIfInBounds_toArray, List.set_cons_zero, List.set_cons_succ]
          replace hS := I.out.drew
          clear I
          generalize wr.drew = V0 at *
          refine rg_two 1 3 (by kernel_rfl) ?_ ?_
          · refine rs_of rfl rfl (wp_value (ld_rat (.tmp 3) rfl rfl (hS.rat 2 rfl)) ⟨hS.sub (.cons _ (.cons _ (.cons _ .slnil))), ?_⟩)
            simp only [List.getElem_toArray, List.getElem_cons_zero, List.getElem_cons_succ, Act.put, List.setIfInBounds_toArray, List.set_cons_zero, List.set_cons_succ]
            refine rg_one 3 (by kernel_rfl) (rs_of rfl rfl (wp_call rfl enters_ROf rfl (HOF.out _) (fun V1 hV => ⟨(hS.sub (.cons _ (.cons _ (.cons _ .slnil)))).below hV, ?_⟩)))
            replace hS := hS.below hV
            clear hV
            simp only [List.getElem_toArray, List.getElem_cons_zero, List.getElem_cons_succ, Act.put, List.setIfInBounds_toArray, List.set_cons_zero, List.set_cons_succ]
            refine rg_one 4 (by kernel_rfl) (rs_of rfl rfl (wp_call rfl enters_doR rfl (HDO.out _ ⟨(hS.one 0 rfl).1, (hS.one 0 rfl).2⟩) (fun V2 hV => ⟨(hS.ste 0 rfl hV rfl).sub (.cons _ (.cons _ (.cons _ .slnil))), ?_⟩)))
            replace hS := hS.ste 0 rfl hV rfl
            clear hV
            simp only [List.getElem_toArray, List.getElem_cons_zero, List.getElem_cons_succ, Act.put, List.setIfInBounds_toArray, List.set_cons_zero, List.set_cons_succ]
            have hSn := hS.putRat 2 rfl zs zn false zd rfl
            refine rg_one 5 (by kernel_rfl) (rs_of rfl rfl (stores_rat (.tmp 3) (.tmp 32) rfl (s := zs) (n := zn) (t := false) (d := zd) rfl rfl (hS.rat 2 rfl) ⟨hSn.sub (.cons _ (.cons _ (.cons _ .slnil))), ?_⟩))
            replace hS := hSn
            clear hSn
            simp only [List.getElem_toArray, List.getElem_cons_zero, List.getElem_cons_succ, Act.put, List.setIfInBounds_toArray, List.set_cons_zero, List.set_cons_succ]
            generalize st18 V2 S zs zn false zd = V3 at *
            refine wpAnyH_done (by kernel_rfl) ?_ _
            replace hS := Lib.hid hS
            go_wp2_with fail
            go_roundg (cnt - i)
            case measure => have := HI.out; omega
            case rel => exact ⟨i + 1, by go_num, by show _ = _; have := HI.out; omega, by omega, by show Bs _ _ _ _; rw [hx'.out]; exact hS.out⟩
          · refine rs_of rfl rfl (wp_call rfl enters_ROf rfl (HOF.out _) (fun V1 hV => ⟨(hS.sub (.cons _ (.cons _ (.cons _ .slnil)))).below hV, ?_⟩))
            replace hS := hS.below hV
            clear hV
            simp only [List.getElem_toArray, List.getElem_cons_zero, List.getElem_cons_succ, Act.put, List.setIfInBounds_toArray, List.set_cons_zero, List.set_cons_succ]
            refine rg_one 1 (by kernel_rfl) (rs_of rfl rfl (wp_value (ld_rat (.tmp 3) rfl rfl (hS.rat 2 rfl)) ⟨hS.sub (.cons _ (.cons _ (.cons _ .slnil))), ?_⟩))
            simp only [List.getElem_toArray, List.getElem_cons_zero, List.getElem_cons_succ, Act.put, List.setIfInBounds_toArray, List.set_cons_zero, List.set_cons_succ]
            refine rg_one 4 (by kernel_rfl) (rs_of rfl rfl (wp_call rfl enters_doR rfl (HDO.out _ ⟨(hS.one 0 rfl).1, (hS.one 0 rfl).2⟩) (fun V2 hV => ⟨(hS.ste 0 rfl hV rfl).sub (.cons _ (.cons _ (.cons _ .slnil))), ?_⟩)))
            replace hS := hS.ste 0 rfl hV rfl
            clear hV
            simp only [List.getElem_toArray, List.getElem_cons_zero, List.getElem_cons_succ, Act.put, List.setIfInBounds_toArray, List.set_cons_zero, List.set_cons_succ]
            have hSn := hS.putRat 2 rfl zs zn false zd rfl
            refine rg_one 5 (by kernel_rfl) (rs_of rfl rfl (stores_rat (.tmp 3) (.tmp 32) rfl (s := zs) (n := zn) (t := false) (d := zd) rfl rfl (hS.rat 2 rfl) ⟨hSn.sub (.cons _ (.cons _ (.cons _ .slnil))), ?_⟩))
            replace hS := hSn
            clear hSn
            simp only [List.getElem_toArray, List.getElem_cons_zero, List.getElem_cons_succ, Act.put, List.setIfInBounds_toArray, List.set_cons_zero, List.set_cons_succ]
            generalize st18 V2 S zs zn false zd = V3 at *
            refine wpAnyH_done (by kernel_rfl) ?_ _
            replace hS := Lib.hid hS
            go_wp2_with fail
            go_roundg (cnt - i)
            case measure => have := HI.out; omega
            case rel => exact ⟨i + 1, by go_num, by show _ = _; have := HI.out; omega, by omega, by show Bs _ _ _ _; rw [hx'.out]; exact hS.out⟩
        · obtain rfl : i = cnt := by omega
          obtain rfl : (⟨xs, xn, xd, xk⟩ : Q4) = y := hyi.out rfl
          clear hst hyi hfx hy3
          go_upto_region 12 with fail
          refine rg_begin (fun V => Bs w S [.one E (errV xk), .rat S xs xn false xd] V) (by kernel_rfl) (I.out.drew.sub (.cons_cons _ (.cons _ (.cons_cons _ .slnil)))) (fun hS => ?_)
          refine rg_take 0 (ratV xs xn false xd) rfl (by kernel_rfl) (by kernel_rfl) (by kernel_rfl) (fun _ _ _ h => h) rfl (fun w hSw => ld_rat (.tmp 3) rfl rfl (hSw.rat 1 rfl)) hS ?_
          simp only [List.getElem_toArray, List.getElem_cons_zero, List.getElem_cons_succ, Act.put, List.setIfInBounds_toArray, List.set_cons_zero, List.set_cons_succ]
          refine rg_take 1 (.pointer (some ⟨E, 0, none⟩)) rfl (by kernel_rfl) (by kernel_rfl) (by kernel_rfl) (fun _ _ _ h => h) rfl (fun w _ => ?_) hS ?_
          · go_simp
          simp only [List.getElem_toArray, List.getElem_cons_zero, List.getElem_cons_succ, Act.put, List.setIfInBounds_toArray, List.set_cons_zero, List.set_cons_succ]
          refine rg_take 2 (errV xk) rfl (by kernel_rfl) (by kernel_rfl) (by kernel_rfl) (fun _ _ _ h => h) rfl (fun w hSw => ld_err (.tmp 35) rfl rfl (hSw.one 0 rfl).1) hS ?_
          simp only [List.getElem_toArray, List.getElem_cons_zero, List.getElem_cons_succ, Act.put, List.setIfInBounds_toArray, List.set_cons_zero, List.set_cons_succ]
          replace hS := I.out.drew
          clear I
          generalize wr.drew = V0 at *
          have hSn := hS.putRat 1 rfl xs xn false xd rfl
          refine rg_one 3 (by kernel_rfl) (rs_of rfl rfl (stores_rat (.tmp 6) (.tmp 34) rfl (s := xs) (n := xn) (t := false) (d := xd) rfl rfl (hS.rat 1 rfl) ⟨hSn.sub (.cons_cons _ (.cons _ (.cons_cons _ .slnil))), ?_⟩))
          have hI := hSn
          replace hS := hSn.sub (l' := [.one E (errV xk), .rat S xs xn false xd]) (.cons_cons _ (.cons _ (.cons_cons _ .slnil)))
          clear hSn
          simp only [List.getElem_toArray, List.getElem_cons_zero, List.getElem_cons_succ, Act.put, List.setIfInBounds_toArray, List.set_cons_zero, List.set_cons_succ]
          generalize st18 V0 (S + 1) xs xn false xd = V1 at *
          refine rg_take 4 (errV xk) rfl (by kernel_rfl) (by kernel_rfl) (by kernel_rfl) (fun _ _ _ h => h) rfl (fun w _ => ?_) hS ?_
          · go_simp
          simp only [List.getElem_toArray, List.getElem_cons_zero, List.getElem_cons_succ, Act.put, List.setIfInBounds_toArray, List.set_cons_zero, List.set_cons_succ]
          refine wpAnyH_done (by kernel_rfl) ?_ _
          go_wp2_with fail
          exact bodyPost_ret (v := .tuple #[ratV xs xn false xd, errV xk]) (results_rat rfl rfl rfl (hI.rat 1 rfl)) rfl ⟨rfl, hI.bl⟩
    · obtain rfl : exp = (cnt : Int) := by omega
      rw [show decide ((cnt : Int) < 0) = false from decide_eq_false hneg] at hy3
      clear hcnt he1 he2
      go_wp2_with fail
      go_loopg [26] (cnt + 1) (fun h s26 wr => ∃ i : Nat, s26 = .int .i64 (i : Int) ∧ Hid (i + h = cnt + 1) ∧ i ≤ cnt ∧ Hid (Bs w S [.one E (errV (its false B ⟨s, n, d, 0⟩ i).k), .rat (S + 1) false 0 false 0, .rat S (its false B ⟨s, n, d, 0⟩ i).s (its false B ⟨s, n, d, 0⟩ i).n false (its false B ⟨s, n, d, 0⟩ i).d] wr))
      case atStart => exact ⟨0, rfl, by show _ = _; omega, by omega, I⟩
      case round =>
        clear I
        obtain ⟨i, rfl, HI, hic, I⟩ := hrel
        have hfx := Lib.hid (its_fits false B ⟨s, n, d, 0⟩ ⟨hn.out, hd.out⟩ i)
        have hst : Hid (stp false B (its false B ⟨s, n, d, 0⟩ i) = its false B ⟨s, n, d, 0⟩ (i + 1)) := rfl
        have hyi : Hid (i = cnt → its false B ⟨s, n, d, 0⟩ i = y) := fun e => by rw [e]; exact hy3.out
        obtain ⟨x', hx'⟩ : ∃ x, its false B ⟨s, n, d, 0⟩ (i + 1) = x := ⟨_, rfl⟩
        rw [hx'] at hst
        replace hx' := Lib.hid hx'
        obtain ⟨x, hx⟩ : ∃ x, its false B ⟨s, n, d, 0⟩ i = x := ⟨_, rfl⟩
        rw [hx] at hst hfx hyi I
        clear hx
        obtain ⟨xs, xn, xd, xk⟩ := x
        obtain ⟨zs, zn, zd, zk⟩ := x'
        by_cases hlt : i < cnt
        · have HDO : Hid (∀ W, ErrAt W E xk → Calls Tryz.prog 63 #[.pointer (some ⟨E, 0, none⟩), fnV 22, ratV xs xn false xd, ratV false B false 1] W fun e w' => e = .returned (ratV zs zn false zd) ∧ Ste W w' E zk) := fun W h =>
            do4_run false B ⟨xs, xn, xd, xk⟩ ⟨zs, zn, zd, zk⟩ E W hfx.out hfB.out h hst.out
          clear hst hyi hfx
          go_upto_region 10 with fail
          refine rg_begin (fun V => Bs w S [] V) (by kernel_rfl) (I.out.drew.sub (.cons _ (.cons _ (.cons _ .slnil)))) (fun hS => ?_)
          refine rg_take 0 (fnV 22) rfl (by kernel_rfl) (by kernel_rfl) (by kernel_rfl) (fun _ _ _ h => h) rfl (fun w _ => ?_) hS ?_
          · go_simp
          simp only [List.getElem_toArray, List.getElem_cons_zero, List.getElem_cons_succ, Act.put, List.setIfInBounds_toArray, List.set_cons_zero, List.set_cons_succ]
          refine rg_take 2 (.int .i64 base) rfl (by kernel_rfl) (by kernel_rfl) (by kernel_rfl) (fun _ _ _ h => h) rfl (fun w _ => ?_) hS ?_
          · go_simp
          simp only [List.getElem_toArray, List.getElem_cons_zero, List.getElem_cons_succ, Act.put, List.setIfInBounds_toArray, List.set_cons_zero, List.set_cons_succ]
          replace hS := I.out.drew
          clear I
          generalize wr.drew = V0 at *
          refine rg_two 1 3 (by kernel_rfl) ?_ ?_
          · refine rs_of rfl rfl (wp_value (ld_rat (.tmp 3) rfl rfl (hS.rat 2 rfl)) ⟨hS.sub (.cons _ (.cons _ (.cons _ .slnil))), ?_⟩)
            simp only [List.getElem_toArray, List.getElem_cons_zero, List.getElem_cons_succ, Act.put, List.setIfInBounds_toArray, List.set_cons_zero, List.set_cons_succ]
            refine rg_one 3 (by kernel_rfl) (rs_of rfl rfl (wp_call rfl enters_ROf rfl (HOF.out _) (fun V1 hV => ⟨(hS.sub (.cons _ (.cons _ (.cons _ .slnil)))).below hV, ?_⟩)))
            replace hS := hS.below hV
            clear hV
            simp only [List.getElem_toArray, List.getElem_cons_zero, List.getElem_cons_succ, Act.put, List.setIfInBounds_toArray, List.set_cons_zero, List.set_cons_succ]
            refine rg_one 4 (by kernel_rfl) (rs_of rfl rfl (wp_call rfl enters_doR rfl (HDO.out _ ⟨(hS.one 0 rfl).1, (hS.one 0 rfl).2⟩) (fun V2 hV => ⟨(hS.ste 0 rfl hV rfl).sub (.cons _ (.cons _ (.cons _ .slnil))), ?_⟩)))
            replace hS := hS.ste 0 rfl hV rfl
            clear hV
            simp only [List.getElem_toArray, List.getElem_cons_zero, List.getElem_cons_succ, Act.put, List.setIfInBounds_toArray, List.set_cons_zero, List.set_cons_succ]
            have hSn := hS.putRat 2 rfl zs zn false zd rfl
            refine rg_one 5 (by kernel_rfl) (rs_of rfl rfl (stores_rat (.tmp 3) (.tmp 32) rfl (s := zs) (n := zn) (t := false) (d := zd) rfl rfl (hS.rat 2 rfl) ⟨hSn.sub (.cons _ (.cons _ (.cons _ .slnil))), ?_⟩))
            replace hS := hSn
            clear hSn
            simp only [List.getElem_toArray, List.getElem_cons_zero, List.getElem_cons_succ, Act.put, List.setIfInBounds_toArray, List.set_cons_zero, List.set_cons_succ]
            generalize st18 V2 S zs zn false zd = V3 at *
            refine wpAnyH_done (by kernel_rfl) ?_ _
            replace hS := Lib.hid hS
            go_wp2_with fail
            go_roundg (cnt - i)
            case measure => have := HI.out; omega
            case rel => exact ⟨i + 1, by go_num, by show _ = _; have := HI.out; omega, by omega, by show Bs _ _ _ _; rw [hx'.out]; exact hS.out⟩
          · refine rs_of rfl rfl (wp_call rfl enters_ROf rfl (HOF.out _) (fun V1 hV => ⟨(hS.sub (.cons _ (.cons _ (.cons _ .slnil)))).below hV, ?_⟩))
            replace hS := hS.below hV
            clear hV
            simp only [List.getElem_toArray, List.getElem_cons_zero, List.getElem_cons_succ, Act.put, List.setIfInBounds_toArray, List.set_cons_zero, List.set_cons_succ]
            refine rg_one 1 (by kernel_rfl) (rs_of rfl rfl (wp_value (ld_rat (.tmp 3) rfl rfl (hS.rat 2 rfl)) ⟨hS.sub (.cons _ (.cons _ (.cons _ .slnil))), ?_⟩))
            simp only [List.getElem_toArray, List.getElem_cons_zero, List.getElem_cons_succ, Act.put, List.setIfInBounds_toArray, List.set_cons_zero, List.set_cons_succ]
            refine rg_one 4 (by kernel_rfl) (rs_of rfl rfl (wp_call rfl enters_doR rfl (HDO.out _ ⟨(hS.one 0 rfl).1, (hS.one 0 rfl).2⟩) (fun V2 hV => ⟨(hS.ste 0 rfl hV rfl).sub (.cons _ (.cons _ (.cons _ .slnil))), ?_⟩)))
            replace hS := hS.ste 0 rfl hV rfl
            clear hV
            simp only [List.getElem_toArray, List.getElem_cons_zero, List.getElem_cons_succ, Act.put, List.setIfInBounds_toArray, List.set_cons_zero, List.set_cons_succ]
            have hSn := hS.putRat 2 rfl zs zn false zd rfl
            refine rg_one 5 (by kernel_rfl) (rs_of rfl rfl (stores_rat (.tmp 3) (.tmp 32) rfl (s := zs) (n := zn) (t := false) (d := zd) rfl rfl (hS.rat 2 rfl) ⟨hSn.sub (.cons _ (.cons _ (.cons _ .slnil))), ?_⟩))
            replace hS := hSn
            clear hSn
            simp only [List.getElem_toArray, List.getElem_cons_zero, List.getElem_cons_succ, Act.put, List.setIfInBounds_toArray, List.set_cons_zero, List.set_cons_succ]
            generalize st18 V2 S zs zn false zd = V3 at *
            refine wpAnyH_done (by kernel_rfl) ?_ _
            replace hS := Lib.hid hS
            go_wp2_with fail
            go_roundg (cnt - i)
            case measure => have := HI.out; omega
            case rel => exact ⟨i + 1, by go_num, by show _ = _; have := HI.out; omega, by omega, by show Bs _ _ _ _; rw [hx'.out]; exact hS.out⟩
        · obtain rfl : i = cnt := by omega
          obtain rfl : (⟨xs, xn, xd, xk⟩ : Q4) = y := hyi.out rfl
          clear hst hyi hfx hy3
          go_upto_region 12 with fail
          refine rg_begin (fun V => Bs w S [.one E (errV xk), .rat S xs xn false xd] V) (by kernel_rfl) (I.out.drew.sub (.cons_cons _ (.cons _ (.cons_cons _ .slnil)))) (fun hS => ?_)
          refine rg_take 0 (ratV xs xn false xd) rfl (by kernel_rfl) (by kernel_rfl) (by kernel_rfl) (fun _ _ _ h => h) rfl (fun w hSw => ld_rat (.tmp 3) rfl rfl (hSw.rat 1 rfl)) hS ?_
          simp only [List.getElem_toArray, List.getElem_cons_zero, List.getElem_cons_succ, Act.put, List.setIfInBounds_toArray, List.set_cons_zero, List.set_cons_succ]
          refine rg_take 1 (.pointer (some ⟨E, 0, none⟩)) rfl (by kernel_rfl) (by kernel_rfl) (by kernel_rfl) (fun _ _ _ h => h) rfl (fun w _ => ?_) hS ?_
          · go_simp
          simp only [List.getElem_toArray, List.getElem_cons_zero, List.getElem_cons_succ, Act.put, List.setIfInBounds_toArray, List.set_cons_zero, List.set_cons_succ]
          refine rg_take 2 (errV xk) rfl (by kernel_rfl) (by kernel_rfl) (by kernel_rfl) (fun _ _ _ h => h) rfl (fun w hSw => ld_err (.tmp 35) rfl rfl (hSw.one 0 rfl).1) hS ?_
          simp only [List.getElem_toArray, List.getElem_cons_zero, List.getElem_cons_succ, Act.put, List.setIfInBounds_toArray, List.set_cons_zero, List.set_cons_succ]
          replace hS := I.out.drew
          clear I
          generalize wr.drew = V0 at *
          have hSn := hS.putRat 1 rfl xs xn false xd rfl
          refine rg_one 3 (by kernel_rfl) (rs_of rfl rfl (stores_rat (.tmp 6) (.tmp 34) rfl (s := xs) (n := xn) (t := false) (d := xd) rfl rfl (hS.rat 1 rfl) ⟨hSn.sub (.cons_cons _ (.cons _ (.cons_cons _ .slnil))), ?_⟩))
          have hI := hSn
          replace hS := hSn.sub (l' := [.one E (errV xk), .rat S xs xn false xd]) (.cons_cons _ (.cons _ (.cons_cons _ .slnil)))
          clear hSn
          simp only [List.getElem_toArray, List.getElem_cons_zero, List.getElem_cons_succ, Act.put, List.setIfInBounds_toArray, List.set_cons_zero, List.set_cons_succ]
          generalize st18 V0 (S + 1) xs xn false xd = V1 at *
          refine rg_take 4 (errV xk) rfl (by kernel_rfl) (by kernel_rfl) (by kernel_rfl) (fun _ _ _ h => h) rfl (fun w _ => ?_) hS ?_
          · go_simp
          simp only [List.getElem_toArray, List.getElem_cons_zero, List.getElem_cons_succ, Act.put, List.setIfInBounds_toArray, List.set_cons_zero, List.set_cons_succ]
          refine wpAnyH_done (by kernel_rfl) ?_ _
          go_wp2_with fail
          exact bodyPost_ret (v := .tuple #[ratV xs xn false xd, errV xk]) (results_rat rfl rfl rfl (hI.rat 1 rfl)) rfl ⟨rfl, hI.bl⟩
  · have hyk : y = ⟨false, 0, 0, K⟩ := by rw [← hy2.out, if_pos hk]
    subst hyk
    have HZ := Lib.hid (I.out.rat 0 rfl)
    have hek : errV K = .iface 62 (.int .i64 K) := errV_pos hk
    rw [hek]
    clear hek hy2 HK
    go_wp2_with (first | (with_reducible refine wpList_build_zero rfl rfl ?_) | (with_reducible refine wpList_store_rat rfl (.tmp 6) (.tmp 18) rfl (b := S + 1) (s := false) (n := 0) (t := false) (d := 0) rfl rfl HZ.out ?_))
    have I2 := I.out.putRat 0 rfl false 0 false 0 rfl
    exact bodyPost_ret (v := .tuple #[ratV false 0 false 0, .iface 62 (.int .i64 K)]) (results_rat rfl rfl rfl (I2.rat 0 rfl)) rfl ⟨by rw [errV_pos hk], I2.bl⟩
end Go.Proofs.YtbcnpajdmlbieaaGreatDoor

/-
  Stage 8: the document's Scale.
-/
namespace Go.Proofs.YtbcnpajdmlbieaaGreatDoor
open Go.RowKit Go.Sort
set_option linter.unusedSimpArgs false

theorem enters_Of8 : EntersP Tryz.prog 12 := entersP_of Tryz.func12 (by kernel_rfl) rfl
theorem enters_Do8 : EntersP Tryz.prog 24 := entersP_of Tryz.func24 (by kernel_rfl) rfl
theorem Do4_run (neg : Bool) (B : Nat) (x y : Q4) (W : World) (hx : Fits x.n ∧ Fits x.d) (hB : Fits B) (h0 : x.k = 0) (hy : stp neg B x = y) :
    Calls Tryz.prog 24 #[ratV x.s x.n false x.d, ratV false B false 1, .int .i64 (if neg then 3 else 2)] W fun e w' => e = .returned (.tuple #[ratV y.s y.n false y.d, .int .i64 (y.k : Int)]) ∧ Below W.heap.size W w' := by
  obtain ⟨xs, xn, xd, xk⟩ := x
  obtain rfl : xk = 0 := h0
  subst hy
  have hf1 : Fits 1 := by show _ < _; decide
  have e : stp neg B ⟨xs, xn, xd, 0⟩ = op4 neg B ⟨xs, xn, xd, 0⟩ := rfl
  rw [e]
  cases neg
  · exact Do_run2 xs xn false xd false B false 1 _ _ _ _ W hx.1 hx.2 hB hf1 (is_mu xs xn false xd false B false 1)
  · exact Do_run3 xs xn false xd false B false 1 _ _ _ _ W hx.1 hx.2 hB hf1 (is_qu xs xn false xd false B false 1)
theorem stp_err {neg : Bool} {B : Nat} {x y : Q4} (h0 : x.k = 0) (hy : stp neg B x = y) (hk : y.k ≠ 0) : y = ⟨false, 0, 0, y.k⟩ := by
  have e : stp neg B x = op4 neg B x := if_pos h0
  rw [e] at hy
  subst hy
  exact op4_err hk
set_option maxRecDepth 100000 in
set_option maxHeartbeats 8000000 in
theorem Scale_run8 (s : Bool) (n : Nat) (t : Bool) (d : Nat) (base exp : Int) (y : Q4) (w : World) (hn : Hid (Fits n)) (hd : Hid (Fits d)) (hy : Hid (scl s n t d base exp = y)) :
    Calls Tryz.prog 28 #[ratV s n t d, .int .i64 base, .int .i64 exp] w fun e w' => e = .returned (.tuple #[ratV y.s y.n false y.d, .int .i64 (y.k : Int)]) ∧ Below w.heap.size w w' := by
  obtain ⟨S, hS⟩ : ∃ S, w.heap.size = S := ⟨_, rfl⟩
  obtain ⟨W0, hW0⟩ : ∃ W, (w.alloc (boxR s n t d 27)).alloc (boxRZ 27) = W := ⟨_, rfl⟩
  have I := ((Bs.start w hS).pushRat hS s n t d 27).pushRatZ (k := S + 1) (by simp [hS]) 27
  rw [hW0] at I
  replace I := Lib.hid I
  obtain ⟨K, hK⟩ : ∃ K, scK (chk s n t d) base exp = K := ⟨_, rfl⟩
  obtain ⟨k, hkk⟩ : ∃ k, chk s n t d = k := ⟨_, rfl⟩
  have HC := Lib.hid (fun W => Check_run8 s n t d k W hn hd hkk)
  have hk8 : k = 0 ∨ k = 8 := by rw [← hkk]; exact chk_le s n t d
  have hy2 := hy.out
  unfold scl at hy2
  rw [hK] at hy2
  rw [hkk] at hK
  have HK := Lib.hid hK
  have hbad : Hid (K ≠ 0 → y = ⟨false, 0, 0, K⟩) := fun h => by rw [← hy2, if_pos h]
  have hgood : Hid (K = 0 → its (decide (exp < 0)) base.natAbs ⟨s, n, d, 0⟩ exp.natAbs = y) := fun h => by rw [← hy2, if_neg (by omega)]
  replace hkk := Lib.hid hkk
  clear hK hy hy2
  rw [hS]
  have HRa := Lib.hid (I.out.rat 1 rfl)
  go_enter Tryz.func28, Tryz.ntmps28
  go_wp2_with (first | (with_reducible refine wpList_box_rat rfl (.tmp 0) rfl rfl ?_) | (with_reducible refine wpList_load_rat rfl (.tmp 3) rfl rfl HRa.out ?_))
  refine (HC.out _).mono ?_
  rintro e w1 ⟨rfl, hw⟩
  replace I := Lib.hid (I.out.below hw)
  clear hw HC HRa hW0
  rcases hk8 with rfl | rfl
  rotate_left
  · obtain rfl := hbad.out (by rw [← HK.out]; unfold scK; simp)
    obtain rfl : K = 8 := by rw [← HK.out]; unfold scK; simp
    clear hbad hgood HK
    have HZ := Lib.hid (I.out.rat 0 rfl)
    go_wp2_with (first | (with_reducible refine wpList_build_zero rfl rfl ?_) | (with_reducible refine wpList_store_rat rfl (.tmp 6) (.tmp 12) rfl (b := S + 1) (s := false) (n := 0) (t := false) (d := 0) rfl rfl HZ.out ?_))
    have I2 := I.out.putRat 0 rfl false 0 false 0 rfl
    exact bodyPost_ret (v := .tuple #[ratV false 0 false 0, .int .i64 (8 : Nat)]) (results_rat rfl rfl rfl (I2.rat 0 rfl)) rfl ⟨rfl, I2.bl⟩
  by_cases hb : base ≠ 2 ∧ base ≠ 10
  · have hk1 : K = 1 := by rw [← HK.out]; simp [scK, hb]
    obtain rfl := hbad.out (by omega)
    subst hk1
    have h2 : (base != 2) = true := by simp [hb.1]
    have h10 : (base != 10) = true := by simp [hb.2]
    clear hbad hgood HK
    have HZ := Lib.hid (I.out.rat 0 rfl)
    go_wp2_with (first | (with_reducible refine wpList_build_zero rfl rfl ?_) | (with_reducible refine wpList_store_rat rfl (.tmp 6) (.tmp 19) rfl (b := S + 1) (s := false) (n := 0) (t := false) (d := 0) rfl rfl HZ.out ?_))
    have I2 := I.out.putRat 0 rfl false 0 false 0 rfl
    exact bodyPost_ret (v := .tuple #[ratV false 0 false 0, .int .i64 (1 : Nat)]) (results_rat rfl rfl rfl (I2.rat 0 rfl)) rfl ⟨rfl, I2.bl⟩
  have hbb : base = 2 ∨ base = 10 := by omega
  have hb2 : Hid (base = 2 ∨ base = 10) := hbb
  have hKx : K = if 1000 < exp ∨ exp < -1000 then 9 else 0 := by rw [← HK.out]; simp only [scK, if_neg hb]; simp
  have c2 : (base != 2 && base != 10) = false := by rcases hbb with rfl | rfl <;> rfl
  by_cases hout : 1000 < exp ∨ exp < -1000
  · obtain rfl : K = 9 := by rw [hKx, if_pos hout]
    obtain rfl := hbad.out (by omega)
    by_cases h1 : 1000 < exp
    · have d1 : decide (1000 < exp) = true := decide_eq_true h1
      clear h1 hout hKx HK hbad hgood hb c2
      rcases hbb with rfl | rfl
      all_goals
        have HZ := Lib.hid (I.out.rat 0 rfl)
        go_wp2_with (first | (with_reducible refine wpList_build_zero rfl rfl ?_) | (with_reducible refine wpList_store_rat rfl (.tmp 6) (.tmp 26) rfl (b := S + 1) (s := false) (n := 0) (t := false) (d := 0) rfl rfl HZ.out ?_))
        have I2 := I.out.putRat 0 rfl false 0 false 0 rfl
        exact bodyPost_ret (v := .tuple #[ratV false 0 false 0, .int .i64 (9 : Nat)]) (results_rat rfl rfl rfl (I2.rat 0 rfl)) rfl ⟨rfl, I2.bl⟩
    · have d1 : decide (1000 < exp) = false := decide_eq_false h1
      have d2 : decide (exp < -1000) = true := decide_eq_true (by omega)
      clear h1 hout hKx HK hbad hgood hb c2
      rcases hbb with rfl | rfl
      all_goals
        have HZ := Lib.hid (I.out.rat 0 rfl)
        go_wp2_with (first | (with_reducible refine wpList_build_zero rfl rfl ?_) | (with_reducible refine wpList_store_rat rfl (.tmp 6) (.tmp 26) rfl (b := S + 1) (s := false) (n := 0) (t := false) (d := 0) rfl rfl HZ.out ?_))
        have I2 := I.out.putRat 0 rfl false 0 false 0 rfl
        exact bodyPost_ret (v := .tuple #[ratV false 0 false 0, .int .i64 (9 : Nat)]) (results_rat rfl rfl rfl (I2.rat 0 rfl)) rfl ⟨rfl, I2.bl⟩
  obtain rfl : K = 0 := by rw [hKx, if_neg hout]
  have d1 : decide (1000 < exp) = false := decide_eq_false (by omega)
  have d2 : decide (exp < -1000) = false := decide_eq_false (by omega)
  obtain ⟨v1, v2, v3, v4⟩ := vld_spec (chk_zero.1 hkk.out)
  subst v2
  have hy3 := Lib.hid (hgood.out rfl)
  obtain ⟨B, hB⟩ : ∃ B, base.natAbs = B := ⟨_, rfl⟩
  obtain ⟨cnt, hcnt⟩ : ∃ c, exp.natAbs = c := ⟨_, rfl⟩
  rw [hB, hcnt] at hy3
  have hfB : Hid (Fits B) := Nat.lt_of_lt_of_le (show B < 18446744073709551616 by omega) (Nat.le_self_pow (by decide) _)
  have HOF : Hid (∀ W, Calls Tryz.prog 12 #[.int .i64 base] W fun e w' => e = .returned (ratV false B false 1) ∧ Below W.heap.size W w') := fun W =>
    Of_run8 base false B W (by omega) hB (decide_eq_false (by omega))
  have hcb : cnt ≤ 1000 := by omega
  by_cases hneg : exp < 0
  · obtain rfl : exp = -(cnt : Int) := by omega
    rw [show decide (-(cnt : Int) < 0) = true from decide_eq_true hneg] at hy3
    clear hcnt hneg hbad hgood hKx HK v1 v3 v4 hout hb hB
    rcases hbb with rfl | rfl
    · clear c2
      go_upto_region 7 with fail
      skip
      go_loopg [2] (cnt + 1) (fun h s2 wr => ∃ i j : Nat, s2 = .int .i64 (-(j : Int)) ∧ Hid (i + j = cnt ∧ j < h) ∧ j ≤ 1000 ∧ Hid ((its true B ⟨s, n, d, 0⟩ i).k = 0) ∧ Hid (Bs w S [.rat (S + 1) false 0 false 0, .rat S (its true B ⟨s, n, d, 0⟩ i).s (its true B ⟨s, n, d, 0⟩ i).n false (its true B ⟨s, n, d, 0⟩ i).d] wr))
      case atStart => exact ⟨0, cnt, rfl, ⟨Nat.zero_add _, Nat.lt_succ_self _⟩, hcb, rfl, I⟩
      case round =>
        clear I d1 d2 hcb
        obtain ⟨i, j, rfl, HI, hj, hk0, I⟩ := hrel
        have hfx := Lib.hid (its_fits true B ⟨s, n, d, 0⟩ ⟨hn.out, hd.out⟩ i)
        have hst : Hid (stp true B (its true B ⟨s, n, d, 0⟩ i) = its true B ⟨s, n, d, 0⟩ (i + 1)) := rfl
        have hyi : Hid (i = cnt → its true B ⟨s, n, d, 0⟩ i = y) := fun e => by rw [e]; exact hy3.out
        obtain ⟨x', hx'⟩ : ∃ x, its true B ⟨s, n, d, 0⟩ (i + 1) = x := ⟨_, rfl⟩
        rw [hx'] at hst
        replace hx' := Lib.hid hx'
        obtain ⟨x, hx⟩ : ∃ x, its true B ⟨s, n, d, 0⟩ i = x := ⟨_, rfl⟩
        rw [hx] at hst hfx hyi I hk0
        clear hx
        obtain ⟨xs, xn, xd, xk⟩ := x
        obtain ⟨zs, zn, zd, zk⟩ := x'
        obtain rfl : xk = 0 := hk0.out
        cases j with
        | zero =>
          obtain rfl : (⟨xs, xn, xd, 0⟩ : Q4) = y := hyi.out (by have := HI.out; omega)
          clear hst hyi hfx hy3 hx'
          have H0 := Lib.hid (I.out.rat 1 rfl)
          have H1 := Lib.hid (I.out.rat 0 rfl)
          go_wp2_with (first | (with_reducible refine wpList_load_rat rfl (.tmp 3) rfl rfl H0.out ?_) | (with_reducible refine wpList_store_rat rfl (.tmp 6) (.tmp 53) rfl (b := S + 1) (s := xs) (n := xn) (t := false) (d := xd) rfl rfl H1.out ?_))
          have I2 := I.out.putRat 0 rfl xs xn false xd rfl
          exact bodyPost_ret (v := .tuple #[ratV xs xn false xd, .int .i64 (0 : Nat)]) (results_rat rfl rfl rfl (I2.rat 0 rfl)) rfl ⟨rfl, I2.bl⟩
        | succ j =>
          have HDO := Lib.hid (fun W => Do4_run true B ⟨xs, xn, xd, 0⟩ ⟨zs, zn, zd, zk⟩ W hfx.out hfB.out rfl hst.out)
          have hze : Hid (zk ≠ 0 → (⟨zs, zn, zd, zk⟩ : Q4) = ⟨false, 0, 0, zk⟩) := fun h => stp_err (x := ⟨xs, xn, xd, 0⟩) (y := ⟨zs, zn, zd, zk⟩) rfl hst.out h
          have hj1 : ((j + 1 : Nat) : Int) = (j : Int) + 1 := by omega
          rw [hj1]
          have hn1 : ((-((j : Int) + 1)) != 0) = true := by simp; omega
          have hp1 : decide (0 < -((j : Int) + 1)) = false := by simp; try omega
          clear hst hyi hfx hj1
          go_upto_region 12 with fail
          refine rg_begin (fun V => Bs w S [] V) (by kernel_rfl) (I.out.drew.sub (.cons _ (.cons _ .slnil))) (fun hS => ?_)
          refine rg_take 1 (.int .i64 2) rfl (by kernel_rfl) (by kernel_rfl) (by kernel_rfl) (fun _ _ _ h => h) rfl (fun w _ => ?_) hS ?_
          · go_simp
          simp only [List.getElem_toArray, List.getElem_cons_zero, List.getElem_cons_succ, Act.put, List.setIfInBounds_toArray, List.set_cons_zero, List.set_cons_succ]
          replace hS := I.out.drew
          clear I hn1 hp1
          generalize wr.drew = V0 at *
          refine rg_two 0 2 (by kernel_rfl) ?_ ?_
          · refine rs_of rfl rfl (wp_value (ld_rat (.tmp 3) rfl rfl (hS.rat 1 rfl)) ⟨hS.sub (.cons _ (.cons _ .slnil)), ?_⟩)
            simp only [List.getElem_toArray, List.getElem_cons_zero, List.getElem_cons_succ, Act.put, List.setIfInBounds_toArray, List.set_cons_zero, List.set_cons_succ]
            refine rg_one 2 (by kernel_rfl) (rs_of rfl rfl (wp_call rfl enters_Of8 rfl (HOF.out _) (fun V1 hV => ⟨(hS.sub (.cons _ (.cons _ .slnil))).below hV, ?_⟩)))
            replace hS := hS.below hV
            clear hV
            simp only [List.getElem_toArray, List.getElem_cons_zero, List.getElem_cons_succ, Act.put, List.setIfInBounds_toArray, List.set_cons_zero, List.set_cons_succ]
            refine rg_one 3 (by kernel_rfl) (rs_of rfl rfl (wp_call rfl enters_Do8 rfl (HDO.out _) (fun V2 hV => ⟨(hS.below hV).sub (.cons _ (.cons _ .slnil)), ?_⟩)))
            replace hS := hS.below hV
            clear hV
            simp only [List.getElem_toArray, List.getElem_cons_zero, List.getElem_cons_succ, Act.put, List.setIfInBounds_toArray, List.set_cons_zero, List.set_cons_succ]
            have hT := hS
            replace hS : Bs w S [] V2 := hS.sub (.cons _ (.cons _ .slnil))
            refine rg_take 4 (.tuple #[ratV zs zn false zd, .int .i64 (zk : Int)]) rfl (by kernel_rfl) (by kernel_rfl) (by kernel_rfl) (fun _ _ _ h => h) rfl (fun w _ => ?_) hS ?_
            · go_simp
            simp only [List.getElem_toArray, List.getElem_cons_zero, List.getElem_cons_succ, Act.put, List.setIfInBounds_toArray, List.set_cons_zero, List.set_cons_succ]
            refine rg_take 5 (ratV zs zn false zd) rfl (by kernel_rfl) (by kernel_rfl) (by kernel_rfl) (fun _ _ _ h => h) rfl (fun w _ => ?_) hS ?_
            · go_simp
            simp only [List.getElem_toArray, List.getElem_cons_zero, List.getElem_cons_succ, Act.put, List.setIfInBounds_toArray, List.set_cons_zero, List.set_cons_succ]
            refine rg_take 6 (.int .i64 (zk : Int)) rfl (by kernel_rfl) (by kernel_rfl) (by kernel_rfl) (fun _ _ _ h => h) rfl (fun w _ => ?_) hS ?_
            · go_simp
            simp only [List.getElem_toArray, List.getElem_cons_zero, List.getElem_cons_succ, Act.put, List.setIfInBounds_toArray, List.set_cons_zero, List.set_cons_succ]
            replace hS := hT
            clear hT
            have hSn := hS.putRat 1 rfl zs zn false zd rfl
            refine rg_one 7 (by kernel_rfl) (rs_of rfl rfl (stores_rat (.tmp 3) (.tmp 45) rfl (s := zs) (n := zn) (t := false) (d := zd) rfl rfl (hS.rat 1 rfl) ⟨hSn.sub (.cons _ (.cons _ .slnil)), ?_⟩))
            replace hS := hSn.sub (l' := []) (.cons _ (.cons _ .slnil))
            simp only [List.getElem_toArray, List.getElem_cons_zero, List.getElem_cons_succ, Act.put, List.setIfInBounds_toArray, List.set_cons_zero, List.set_cons_succ]
            generalize st18 V2 S zs zn false zd = V3 at *
            refine rg_take 8 (.int .i64 (zk : Int)) rfl (by kernel_rfl) (by kernel_rfl) (by kernel_rfl) (fun _ _ _ h => h) rfl (fun w _ => ?_) hS ?_
            · go_simp
            simp only [List.getElem_toArray, List.getElem_cons_zero, List.getElem_cons_succ, Act.put, List.setIfInBounds_toArray, List.set_cons_zero, List.set_cons_succ]
            refine wpAnyH_done (by kernel_rfl) ?_ _
            have I := Lib.hid hSn
            clear hS hSn
            by_cases hz : zk = 0
            · subst hz
              have e0 : (((0 : Nat) : Int) != 0) = false := rfl
              go_wp2_with fail
              go_roundg (j + 1)
              case measure => have := HI.out; omega
              case rel => exact ⟨i + 1, j, by go_num, by show _ ∧ _; have := HI.out; omega, by omega, by show Q4.k _ = 0; rw [hx'.out], by show Bs _ _ _ _; rw [hx'.out]; exact I.out⟩
            · have hzz := hze.out hz
              have hyy : Hid (y = ⟨false, 0, 0, zk⟩) := by
                show y = _
                rw [← hy3.out]
                have := its_stuck (hx'.out.trans hzz) hz j
                rwa [show i + 1 + j = cnt by have := HI.out; omega] at this
              have hzb : ((zk : Int) != 0) = true := by simp [hz]
              obtain rfl := hyy.out
              clear hzz hyy hze hx' hy3
              have HZ := Lib.hid (I.out.rat 0 rfl)
              go_wp2_with (first | (with_reducible refine wpList_build_zero rfl rfl ?_) | (with_reducible refine wpList_store_rat rfl (.tmp 6) (.tmp 51) rfl (b := S + 1) (s := false) (n := 0) (t := false) (d := 0) rfl rfl HZ.out ?_))
              have I2 := I.out.putRat 0 rfl false 0 false 0 rfl
              exact bodyPost_ret (v := .tuple #[ratV false 0 false 0, .int .i64 (zk : Nat)]) (results_rat rfl rfl rfl (I2.rat 0 rfl)) rfl ⟨rfl, I2.bl⟩
          · refine rs_of rfl rfl (wp_call rfl enters_Of8 rfl (HOF.out _) (fun V1 hV => ⟨(hS.sub (.cons _ (.cons _ .slnil))).below hV, ?_⟩))
            replace hS := hS.below hV
            clear hV
            simp only [List.getElem_toArray, List.getElem_cons_zero, List.getElem_cons_succ, Act.put, List.setIfInBounds_toArray, List.set_cons_zero, List.set_cons_succ]
            refine rg_one 0 (by kernel_rfl) (rs_of rfl rfl (wp_value (ld_rat (.tmp 3) rfl rfl (hS.rat 1 rfl)) ⟨hS.sub (.cons _ (.cons _ .slnil)), ?_⟩))
            simp only [List.getElem_toArray, List.getElem_cons_zero, List.getElem_cons_succ, Act.put, List.setIfInBounds_toArray, List.set_cons_zero, List.set_cons_succ]
            refine rg_one 3 (by kernel_rfl) (rs_of rfl rfl (wp_call rfl enters_Do8 rfl (HDO.out _) (fun V2 hV => ⟨(hS.below hV).sub (.cons _ (.cons _ .slnil)), ?_⟩)))
            replace hS := hS.below hV
            clear hV
            simp only [List.getElem_toArray, List.getElem_cons_zero, List.getElem_cons_succ, Act.put, List.setIfInBounds_toArray, List.set_cons_zero, List.set_cons_succ]
            have hT := hS
            replace hS : Bs w S [] V2 := hS.sub (.cons _ (.cons _ .slnil))
            refine rg_take 4 (.tuple #[ratV zs zn false zd, .int .i64 (zk : Int)]) rfl (by kernel_rfl) (by kernel_rfl) (by kernel_rfl) (fun _ _ _ h => h) rfl (fun w _ => ?_) hS ?_
            · go_simp
            simp only [List.getElem_toArray, List.getElem_cons_zero, List.getElem_cons_succ, Act.put, List.setIfInBounds_toArray, List.set_cons_zero, List.set_cons_succ]
            refine rg_take 5 (ratV zs zn false zd) rfl (by kernel_rfl) (by kernel_rfl) (by kernel_rfl) (fun _ _ _ h => h) rfl (fun w _ => ?_) hS ?_
            · go_simp
            simp only [List.getElem_toArray, List.getElem_cons_zero, List.getElem_cons_succ, Act.put, List.setIfInBounds_toArray, List.set_cons_zero, List.set_cons_succ]
            refine rg_take 6 (.int .i64 (zk : Int)) rfl (by kernel_rfl) (by kernel_rfl) (by kernel_rfl) (fun _ _ _ h => h) rfl (fun w _ => ?_) hS ?_
            · go_simp
            simp only [List.getElem_toArray, List.getElem_cons_zero, List.getElem_cons_succ, Act.put, List.setIfInBounds_toArray, List.set_cons_zero, List.set_cons_succ]
            replace hS := hT
            clear hT
            have hSn := hS.putRat 1 rfl zs zn false zd rfl
            refine rg_one 7 (by kernel_rfl) (rs_of rfl rfl (stores_rat (.tmp 3) (.tmp 45) rfl (s := zs) (n := zn) (t := false) (d := zd) rfl rfl (hS.rat 1 rfl) ⟨hSn.sub (.cons _ (.cons _ .slnil)), ?_⟩))
            replace hS := hSn.sub (l' := []) (.cons _ (.cons _ .slnil))
            simp only [List.getElem_toArray, List.getElem_cons_zero, List.getElem_cons_succ, Act.put, List.setIfInBounds_toArray, List.set_cons_zero, List.set_cons_succ]
            generalize st18 V2 S zs zn false zd = V3 at *
            refine rg_take 8 (.int .i64 (zk : Int)) rfl (by kernel_rfl) (by kernel_rfl) (by kernel_rfl) (fun _ _ _ h => h) rfl (fun w _ => ?_) hS ?_
            · go_simp
            simp only [List.getElem_toArray, List.getElem_cons_zero, List.getElem_cons_succ, Act.put, List.setIfInBounds_toArray, List.set_cons_zero, List.set_cons_succ]
            refine wpAnyH_done (by kernel_rfl) ?_ _
            have I := Lib.hid hSn
            clear hS hSn
            by_cases hz : zk = 0
            · subst hz
              have e0 : (((0 : Nat) : Int) != 0) = false := rfl
              go_wp2_with fail
              go_roundg (j + 1)
              case measure => have := HI.out; omega
              case rel => exact ⟨i + 1, j, by go_num, by show _ ∧ _; have := HI.out; omega, by omega, by show Q4.k _ = 0; rw [hx'.out], by show Bs _ _ _ _; rw [hx'.out]; exact I.out⟩
            · have hzz := hze.out hz
              have hyy : Hid (y = ⟨false, 0, 0, zk⟩) := by
                show y = _
                rw [← hy3.out]
                have := its_stuck (hx'.out.trans hzz) hz j
                rwa [show i + 1 + j = cnt by have := HI.out; omega] at this
              have hzb : ((zk : Int) != 0) = true := by simp [hz]
              obtain rfl := hyy.out
              clear hzz hyy hze hx' hy3
              have HZ := Lib.hid (I.out.rat 0 rfl)
              go_wp2_with (first | (with_reducible refine wpList_build_zero rfl rfl ?_) | (with_reducible refine wpList_store_rat rfl (.tmp 6) (.tmp 51) rfl (b := S + 1) (s := false) (n := 0) (t := false) (d := 0) rfl rfl HZ.out ?_))
              have I2 := I.out.putRat 0 rfl false 0 false 0 rfl
              exact bodyPost_ret (v := .tuple #[ratV false 0 false 0, .int .i64 (zk : Nat)]) (results_rat rfl rfl rfl (I2.rat 0 rfl)) rfl ⟨rfl, I2.bl⟩
    · clear c2
      go_upto_region 7 with fail
      skip
      go_loopg [2] (cnt + 1) (fun h s2 wr => ∃ i j : Nat, s2 = .int .i64 (-(j : Int)) ∧ Hid (i + j = cnt ∧ j < h) ∧ j ≤ 1000 ∧ Hid ((its true B ⟨s, n, d, 0⟩ i).k = 0) ∧ Hid (Bs w S [.rat (S + 1) false 0 false 0, .rat S (its true B ⟨s, n, d, 0⟩ i).s (its true B ⟨s, n, d, 0⟩ i).n false (its true B ⟨s, n, d, 0⟩ i).d] wr))
      case atStart => exact ⟨0, cnt, rfl, ⟨Nat.zero_add _, Nat.lt_succ_self _⟩, hcb, rfl, I⟩
      case round =>
        clear I d1 d2 hcb
        obtain ⟨i, j, rfl, HI, hj, hk0, I⟩ := hrel
        have hfx := Lib.hid (its_fits true B ⟨s, n, d, 0⟩ ⟨hn.out, hd.out⟩ i)
        have hst : Hid (stp true B (its true B ⟨s, n, d, 0⟩ i) = its true B ⟨s, n, d, 0⟩ (i + 1)) := rfl
        have hyi : Hid (i = cnt → its true B ⟨s, n, d, 0⟩ i = y) := fun e => by rw [e]; exact hy3.out
        obtain ⟨x', hx'⟩ : ∃ x, its true B ⟨s, n, d, 0⟩ (i + 1) = x := ⟨_, rfl⟩
        rw [hx'] at hst
        replace hx' := Lib.hid hx'
        obtain ⟨x, hx⟩ : ∃ x, its true B ⟨s, n, d, 0⟩ i = x := ⟨_, rfl⟩
        rw [hx] at hst hfx hyi I hk0
        clear hx
        obtain ⟨xs, xn, xd, xk⟩ := x
        obtain ⟨zs, zn, zd, zk⟩ := x'
        obtain rfl : xk = 0 := hk0.out
        cases j with
        | zero =>
          obtain rfl : (⟨xs, xn, xd, 0⟩ : Q4) = y := hyi.out (by have := HI.out; omega)
          clear hst hyi hfx hy3 hx'
          have H0 := Lib.hid (I.out.rat 1 rfl)
          have H1 := Lib.hid (I.out.rat 0 rfl)
          go_wp2_with (first | (with_reducible refine wpList_load_rat rfl (.tmp 3) rfl rfl H0.out ?_) | (with_reducible refine wpList_store_rat rfl (.tmp 6) (.tmp 53) rfl (b := S + 1) (s := xs) (n := xn) (t := false) (d := xd) rfl rfl H1.out ?_))
          have I2 := I.out.putRat 0 rfl xs xn false xd rfl
          exact bodyPost_ret (v := .tuple #[ratV xs xn false xd, .int .i64 (0 : Nat)]) (results_rat rfl rfl rfl (I2.rat 0 rfl)) rfl ⟨rfl, I2.bl⟩
        | succ j =>
          have HDO := Lib.hid (fun W => Do4_run true B ⟨xs, xn, xd, 0⟩ ⟨zs, zn, zd, zk⟩ W hfx.out hfB.out rfl hst.out)
          have hze : Hid (zk ≠ 0 → (⟨zs, zn, zd, zk⟩ : Q4) = ⟨false, 0, 0, zk⟩) := fun h => stp_err (x := ⟨xs, xn, xd, 0⟩) (y := ⟨zs, zn, zd, zk⟩) rfl hst.out h
          have hj1 : ((j + 1 : Nat) : Int) = (j : Int) + 1 := by omega
          rw [hj1]
          have hn1 : ((-((j : Int) + 1)) != 0) = true := by simp; omega
          have hp1 : decide (0 < -((j : Int) + 1)) = false := by simp; try omega
          clear hst hyi hfx hj1
          go_upto_region 12 with fail
          refine rg_begin (fun V => Bs w S [] V) (by kernel_rfl) (I.out.drew.sub (.cons _ (.cons _ .slnil))) (fun hS => ?_)
          refine rg_take 1 (.int .i64 10) rfl (by kernel_rfl) (by kernel_rfl) (by kernel_rfl) (fun _ _ _ h => h) rfl (fun w _ => ?_) hS ?_
          · go_simp
          simp only [List.getElem_toArray, List.getElem_cons_zero, List.getElem_cons_succ, Act.put, List.setIfInBounds_toArray, List.set_cons_zero, List.set_cons_succ]
          replace hS := I.out.drew
          clear I hn1 hp1
          generalize wr.drew = V0 at *
          refine rg_two 0 2 (by kernel_rfl) ?_ ?_
          · refine rs_of rfl rfl (wp_value (ld_rat (.tmp 3) rfl rfl (hS.rat 1 rfl)) ⟨hS.sub (.cons _ (.cons _ .slnil)), ?_⟩)
            simp only [List.getElem_toArray, List.getElem_cons_zero, List.getElem_cons_succ, Act.put, List.setIfInBounds_toArray, List.set_cons_zero, List.set_cons_succ]
            refine rg_one 2 (by kernel_rfl) (rs_of rfl rfl (wp_call rfl enters_Of8 rfl (HOF.out _) (fun V1 hV => ⟨(hS.sub (.cons _ (.cons _ .slnil))).below hV, ?_⟩)))
            replace hS := hS.below hV
            clear hV
            simp only [List.getElem_toArray, List.getElem_cons_zero, List.getElem_cons_succ, Act.put, List.setIfInBounds_toArray, List.set_cons_zero, List.set_cons_succ]
            refine rg_one 3 (by kernel_rfl) (rs_of rfl rfl (wp_call rfl enters_Do8 rfl (HDO.out _) (fun V2 hV => ⟨(hS.below hV).sub (.cons _ (.cons _ .slnil)), ?_⟩)))
            replace hS := hS.below hV
            clear hV
            simp only [List.getElem_toArray, List.getElem_cons_zero, List.getElem_cons_succ, Act.put, List.setIfInBounds_toArray, List.set_cons_zero, List.set_cons_succ]
            have hT := hS
            replace hS : Bs w S [] V2 := hS.sub (.cons _ (.cons _ .slnil))
            refine rg_take 4 (.tuple #[ratV zs zn false zd, .int .i64 (zk : Int)]) rfl (by kernel_rfl) (by kernel_rfl) (by kernel_rfl) (fun _ _ _ h => h) rfl (fun w _ => ?_) hS ?_
            · go_simp
            simp only [List.getElem_toArray, List.getElem_cons_zero, List.getElem_cons_succ, Act.put, List.setIfInBounds_toArray, List.set_cons_zero, List.set_cons_succ]
            refine rg_take 5 (ratV zs zn false zd) rfl (by kernel_rfl) (by kernel_rfl) (by kernel_rfl) (fun _ _ _ h => h) rfl (fun w _ => ?_) hS ?_
            · go_simp
            simp only [List.getElem_toArray, List.getElem_cons_zero, List.getElem_cons_succ, Act.put, List.setIfInBounds_toArray, List.set_cons_zero, List.set_cons_succ]
            refine rg_take 6 (.int .i64 (zk : Int)) rfl (by kernel_rfl) (by kernel_rfl) (by kernel_rfl) (fun _ _ _ h => h) rfl (fun w _ => ?_) hS ?_
            · go_simp
            simp only [List.getElem_toArray, List.getElem_cons_zero, List.getElem_cons_succ, Act.put, List.setIfInBounds_toArray, List.set_cons_zero, List.set_cons_succ]
            replace hS := hT
            clear hT
            have hSn := hS.putRat 1 rfl zs zn false zd rfl
            refine rg_one 7 (by kernel_rfl) (rs_of rfl rfl (stores_rat (.tmp 3) (.tmp 45) rfl (s := zs) (n := zn) (t := false) (d := zd) rfl rfl (hS.rat 1 rfl) ⟨hSn.sub (.cons _ (.cons _ .slnil)), ?_⟩))
            replace hS := hSn.sub (l' := []) (.cons _ (.cons _ .slnil))
            simp only [List.getElem_toArray, List.getElem_cons_zero, List.getElem_cons_succ, Act.put, List.setIfInBounds_toArray, List.set_cons_zero, List.set_cons_succ]
            generalize st18 V2 S zs zn false zd = V3 at *
            refine rg_take 8 (.int .i64 (zk : Int)) rfl (by kernel_rfl) (by kernel_rfl) (by kernel_rfl) (fun _ _ _ h => h) rfl (fun w _ => ?_) hS ?_
            · go_simp
            simp only [List.getElem_toArray, List.getElem_cons_zero, List.getElem_cons_succ, Act.put, List.setIfInBounds_toArray, List.set_cons_zero, List.set_cons_succ]
            refine wpAnyH_done (by kernel_rfl) ?_ _
            have I := Lib.hid hSn
            clear hS hSn
            by_cases hz : zk = 0
            · subst hz
              have e0 : (((0 : Nat) : Int) != 0) = false := rfl
              go_wp2_with fail
              go_roundg (j + 1)
              case measure => have := HI.out; omega
              case rel => exact ⟨i + 1, j, by go_num, by show _ ∧ _; have := HI.out; omega, by omega, by show Q4.k _ = 0; rw [hx'.out], by show Bs _ _ _ _; rw [hx'.out]; exact I.out⟩
            · have hzz := hze.out hz
              have hyy : Hid (y = ⟨false, 0, 0, zk⟩) := by
                show y = _
                rw [← hy3.out]
                have := its_stuck (hx'.out.trans hzz) hz j
                rwa [show i + 1 + j = cnt by have := HI.out; omega] at this
              have hzb : ((zk : Int) != 0) = true := by simp [hz]
              obtain rfl := hyy.out
              clear hzz hyy hze hx' hy3
              have HZ := Lib.hid (I.out.rat 0 rfl)
              go_wp2_with (first | (with_reducible refine wpList_build_zero rfl rfl ?_) | (with_reducible refine wpList_store_rat rfl (.tmp 6) (.tmp 51) rfl (b := S + 1) (s := false) (n := 0) (t := false) (d := 0) rfl rfl HZ.out ?_))
              have I2 := I.out.putRat 0 rfl false 0 false 0 rfl
              exact bodyPost_ret (v := .tuple #[ratV false 0 false 0, .int .i64 (zk : Nat)]) (results_rat rfl rfl rfl (I2.rat 0 rfl)) rfl ⟨rfl, I2.bl⟩
          · refine rs_of rfl rfl (wp_call rfl enters_Of8 rfl (HOF.out _) (fun V1 hV => ⟨(hS.sub (.cons _ (.cons _ .slnil))).below hV, ?_⟩))
            replace hS := hS.below hV
            clear hV
            simp only [List.getElem_toArray, List.getElem_cons_zero, List.getElem_cons_succ, Act.put, List.setIfInBounds_toArray, List.set_cons_zero, List.set_cons_succ]
            refine rg_one 0 (by kernel_rfl) (rs_of rfl rfl (wp_value (ld_rat (.tmp 3) rfl rfl (hS.rat 1 rfl)) ⟨hS.sub (.cons _ (.cons _ .slnil)), ?_⟩))
            simp only [List.getElem_toArray, List.getElem_cons_zero, List.getElem_cons_succ, Act.put, List.setIfInBounds_toArray, List.set_cons_zero, List.set_cons_succ]
            refine rg_one 3 (by kernel_rfl) (rs_of rfl rfl (wp_call rfl enters_Do8 rfl (HDO.out _) (fun V2 hV => ⟨(hS.below hV).sub (.cons _ (.cons _ .slnil)), ?_⟩)))
            replace hS := hS.below hV
            clear hV
            simp only [List.getElem_toArray, List.getElem_cons_zero, List.getElem_cons_succ, Act.put, List.setIfInBounds_toArray, List.set_cons_zero, List.set_cons_succ]
            have hT := hS
            replace hS : Bs w S [] V2 := hS.sub (.cons _ (.cons _ .slnil))
            refine rg_take 4 (.tuple #[ratV zs zn false zd, .int .i64 (zk : Int)]) rfl (by kernel_rfl) (by kernel_rfl) (by kernel_rfl) (fun _ _ _ h => h) rfl (fun w _ => ?_) hS ?_
            · go_simp
            simp only [List.getElem_toArray, List.getElem_cons_zero, List.getElem_cons_succ, Act.put, List.setIfInBounds_toArray, List.set_cons_zero, List.set_cons_succ]
            refine rg_take 5 (ratV zs zn false zd) rfl (by kernel_rfl) (by kernel_rfl) (by kernel_rfl) (fun _ _ _ h => h) rfl (fun w _ => ?_) hS ?_
            · go_simp
            simp only [List.getElem_toArray, List.getElem_cons_zero, List.getElem_cons_succ, Act.put, List.setIfInBounds_toArray, List.set_cons_zero, List.set_cons_succ]
            refine rg_take 6 (.int .i64 (zk : Int)) rfl (by kernel_rfl) (by kernel_rfl) (by kernel_rfl) (fun _ _ _ h => h) rfl (fun w _ => ?_) hS ?_
            · go_simp
            simp only [List.getElem_toArray, List.getElem_cons_zero, List.getElem_cons_succ, Act.put, List.setIfInBounds_toArray, List.set_cons_zero, List.set_cons_succ]
            replace hS := hT
            clear hT
            have hSn := hS.putRat 1 rfl zs zn false zd rfl
            refine rg_one 7 (by kernel_rfl) (rs_of rfl rfl (stores_rat (.tmp 3) (.tmp 45) rfl (s := zs) (n := zn) (t := false) (d := zd) rfl rfl (hS.rat 1 rfl) ⟨hSn.sub (.cons _ (.cons _ .slnil)), ?_⟩))
            replace hS := hSn.sub (l' := []) (.cons _ (.cons _ .slnil))
            simp only [List.getElem_toArray, List.getElem_cons_zero, List.getElem_cons_succ, Act.put, List.setIfInBounds_toArray, List.set_cons_zero, List.set_cons_succ]
            generalize st18 V2 S zs zn false zd = V3 at *
            refine rg_take 8 (.int .i64 (zk : Int)) rfl (by kernel_rfl) (by kernel_rfl) (by kernel_rfl) (fun _ _ _ h => h) rfl (fun w _ => ?_) hS ?_
            · go_simp
            simp only [List.getElem_toArray, List.getElem_cons_zero, List.getElem_cons_succ, Act.put, List.setIfInBounds_toArray, List.set_cons_zero, List.set_cons_succ]
            refine wpAnyH_done (by kernel_rfl) ?_ _
            have I := Lib.hid hSn
            clear hS hSn
            by_cases hz : zk = 0
            · subst hz
              have e0 : (((0 : Nat) : Int) != 0) = false := rfl
              go_wp2_with fail
              go_roundg (j + 1)
              case measure => have := HI.out; omega
              case rel => exact ⟨i + 1, j, by go_num, by show _ ∧ _; have := HI.out; omega, by omega, by show Q4.k _ = 0; rw [hx'.out], by show Bs _ _ _ _; rw [hx'.out]; exact I.out⟩
            · have hzz := hze.out hz
              have hyy : Hid (y = ⟨false, 0, 0, zk⟩) := by
                show y = _
                rw [← hy3.out]
                have := its_stuck (hx'.out.trans hzz) hz j
                rwa [show i + 1 + j = cnt by have := HI.out; omega] at this
              have hzb : ((zk : Int) != 0) = true := by simp [hz]
              obtain rfl := hyy.out
              clear hzz hyy hze hx' hy3
              have HZ := Lib.hid (I.out.rat 0 rfl)
              go_wp2_with (first | (with_reducible refine wpList_build_zero rfl rfl ?_) | (with_reducible refine wpList_store_rat rfl (.tmp 6) (.tmp 51) rfl (b := S + 1) (s := false) (n := 0) (t := false) (d := 0) rfl rfl HZ.out ?_))
              have I2 := I.out.putRat 0 rfl false 0 false 0 rfl
              exact bodyPost_ret (v := .tuple #[ratV false 0 false 0, .int .i64 (zk : Nat)]) (results_rat rfl rfl rfl (I2.rat 0 rfl)) rfl ⟨rfl, I2.bl⟩
  · obtain rfl : exp = (cnt : Int) := by omega
    rw [show decide ((cnt : Int) < 0) = false from decide_eq_false hneg] at hy3
    clear hcnt hneg hbad hgood hKx HK v1 v3 v4 hout hb hB
    rcases hbb with rfl | rfl
    · clear c2
      go_upto_region 7 with fail
      skip
      go_loopg [2] (cnt + 1) (fun h s2 wr => ∃ i j : Nat, s2 = .int .i64 ((j : Int)) ∧ Hid (i + j = cnt ∧ j < h) ∧ j ≤ 1000 ∧ Hid ((its false B ⟨s, n, d, 0⟩ i).k = 0) ∧ Hid (Bs w S [.rat (S + 1) false 0 false 0, .rat S (its false B ⟨s, n, d, 0⟩ i).s (its false B ⟨s, n, d, 0⟩ i).n false (its false B ⟨s, n, d, 0⟩ i).d] wr))
      case atStart => exact ⟨0, cnt, rfl, ⟨Nat.zero_add _, Nat.lt_succ_self _⟩, hcb, rfl, I⟩
      case round =>
        clear I d1 d2 hcb
        obtain ⟨i, j, rfl, HI, hj, hk0, I⟩ := hrel
        have hfx := Lib.hid (its_fits false B ⟨s, n, d, 0⟩ ⟨hn.out, hd.out⟩ i)
        have hst : Hid (stp false B (its false B ⟨s, n, d, 0⟩ i) = its false B ⟨s, n, d, 0⟩ (i + 1)) := rfl
        have hyi : Hid (i = cnt → its false B ⟨s, n, d, 0⟩ i = y) := fun e => by rw [e]; exact hy3.out
        obtain ⟨x', hx'⟩ : ∃ x, its false B ⟨s, n, d, 0⟩ (i + 1) = x := ⟨_, rfl⟩
        rw [hx'] at hst
        replace hx' := Lib.hid hx'
        obtain ⟨x, hx⟩ : ∃ x, its false B ⟨s, n, d, 0⟩ i = x := ⟨_, rfl⟩
        rw [hx] at hst hfx hyi I hk0
        clear hx
        obtain ⟨xs, xn, xd, xk⟩ := x
        obtain ⟨zs, zn, zd, zk⟩ := x'
        obtain rfl : xk = 0 := hk0.out
        cases j with
        | zero =>
          obtain rfl : (⟨xs, xn, xd, 0⟩ : Q4) = y := hyi.out (by have := HI.out; omega)
          clear hst hyi hfx hy3 hx'
          have H0 := Lib.hid (I.out.rat 1 rfl)
          have H1 := Lib.hid (I.out.rat 0 rfl)
          go_wp2_with (first | (with_reducible refine wpList_load_rat rfl (.tmp 3) rfl rfl H0.out ?_) | (with_reducible refine wpList_store_rat rfl (.tmp 6) (.tmp 53) rfl (b := S + 1) (s := xs) (n := xn) (t := false) (d := xd) rfl rfl H1.out ?_))
          have I2 := I.out.putRat 0 rfl xs xn false xd rfl
          exact bodyPost_ret (v := .tuple #[ratV xs xn false xd, .int .i64 (0 : Nat)]) (results_rat rfl rfl rfl (I2.rat 0 rfl)) rfl ⟨rfl, I2.bl⟩
        | succ j =>
          have HDO := Lib.hid (fun W => Do4_run false B ⟨xs, xn, xd, 0⟩ ⟨zs, zn, zd, zk⟩ W hfx.out hfB.out rfl hst.out)
          have hze : Hid (zk ≠ 0 → (⟨zs, zn, zd, zk⟩ : Q4) = ⟨false, 0, 0, zk⟩) := fun h => stp_err (x := ⟨xs, xn, xd, 0⟩) (y := ⟨zs, zn, zd, zk⟩) rfl hst.out h
          have hj1 : ((j + 1 : Nat) : Int) = (j : Int) + 1 := by omega
          rw [hj1]
          have hn1 : ((((j : Int) + 1)) != 0) = true := by simp; omega
          have hp1 : decide (0 < ((j : Int) + 1)) = true := by simp; try omega
          clear hst hyi hfx hj1
          go_upto_region 10 with fail
          refine rg_begin (fun V => Bs w S [] V) (by kernel_rfl) (I.out.drew.sub (.cons _ (.cons _ .slnil))) (fun hS => ?_)
          refine rg_take 1 (.int .i64 2) rfl (by kernel_rfl) (by kernel_rfl) (by kernel_rfl) (fun _ _ _ h => h) rfl (fun w _ => ?_) hS ?_
          · go_simp
          simp only [List.getElem_toArray, List.getElem_cons_zero, List.getElem_cons_succ, Act.put, List.setIfInBounds_toArray, List.set_cons_zero, List.set_cons_succ]
          replace hS := I.out.drew
          clear I hn1 hp1
          generalize wr.drew = V0 at *
          refine rg_two 0 2 (by kernel_rfl) ?_ ?_
          · refine rs_of rfl rfl (wp_value (ld_rat (.tmp 3) rfl rfl (hS.rat 1 rfl)) ⟨hS.sub (.cons _ (.cons _ .slnil)), ?_⟩)
            simp only [List.getElem_toArray, List.getElem_cons_zero, List.getElem_cons_succ, Act.put, List.setIfInBounds_toArray, List.set_cons_zero, List.set_cons_succ]
            refine rg_one 2 (by kernel_rfl) (rs_of rfl rfl (wp_call rfl enters_Of8 rfl (HOF.out _) (fun V1 hV => ⟨(hS.sub (.cons _ (.cons _ .slnil))).below hV, ?_⟩)))
            replace hS := hS.below hV
            clear hV
            simp only [List.getElem_toArray, List.getElem_cons_zero, List.getElem_cons_succ, Act.put, List.setIfInBounds_toArray, List.set_cons_zero, List.set_cons_succ]
            refine rg_one 3 (by kernel_rfl) (rs_of rfl rfl (wp_call rfl enters_Do8 rfl (HDO.out _) (fun V2 hV => ⟨(hS.below hV).sub (.cons _ (.cons _ .slnil)), ?_⟩)))
            replace hS := hS.below hV
            clear hV
            simp only [List.getElem_toArray, List.getElem_cons_zero, List.getElem_cons_succ, Act.put, List.setIfInBounds_toArray, List.set_cons_zero, List.set_cons_succ]
            have hT := hS
            replace hS : Bs w S [] V2 := hS.sub (.cons _ (.cons _ .slnil))
            refine rg_take 4 (.tuple #[ratV zs zn false zd, .int .i64 (zk : Int)]) rfl (by kernel_rfl) (by kernel_rfl) (by kernel_rfl) (fun _ _ _ h => h) rfl (fun w _ => ?_) hS ?_
            · go_simp
            simp only [List.getElem_toArray, List.getElem_cons_zero, List.getElem_cons_succ, Act.put, List.setIfInBounds_toArray, List.set_cons_zero, List.set_cons_succ]
            refine rg_take 5 (ratV zs zn false zd) rfl (by kernel_rfl) (by kernel_rfl) (by kernel_rfl) (fun _ _ _ h => h) rfl (fun w _ => ?_) hS ?_
            · go_simp
            simp only [List.getElem_toArray, List.getElem_cons_zero, List.getElem_cons_succ, Act.put, List.setIfInBounds_toArray, List.set_cons_zero, List.set_cons_succ]
            refine rg_take 6 (.int .i64 (zk : Int)) rfl (by kernel_rfl) (by kernel_rfl) (by kernel_rfl) (fun _ _ _ h => h) rfl (fun w _ => ?_) hS ?_
            · go_simp
            simp only [List.getElem_toArray, List.getElem_cons_zero, List.getElem_cons_succ, Act.put, List.setIfInBounds_toArray, List.set_cons_zero, List.set_cons_succ]
            replace hS := hT
            clear hT
            have hSn := hS.putRat 1 rfl zs zn false zd rfl
            refine rg_one 7 (by kernel_rfl) (rs_of rfl rfl (stores_rat (.tmp 3) (.tmp 36) rfl (s := zs) (n := zn) (t := false) (d := zd) rfl rfl (hS.rat 1 rfl) ⟨hSn.sub (.cons _ (.cons _ .slnil)), ?_⟩))
            replace hS := hSn.sub (l' := []) (.cons _ (.cons _ .slnil))
            simp only [List.getElem_toArray, List.getElem_cons_zero, List.getElem_cons_succ, Act.put, List.setIfInBounds_toArray, List.set_cons_zero, List.set_cons_succ]
            generalize st18 V2 S zs zn false zd = V3 at *
            refine rg_take 8 (.int .i64 (zk : Int)) rfl (by kernel_rfl) (by kernel_rfl) (by kernel_rfl) (fun _ _ _ h => h) rfl (fun w _ => ?_) hS ?_
            · go_simp
            simp only [List.getElem_toArray, List.getElem_cons_zero, List.getElem_cons_succ, Act.put, List.setIfInBounds_toArray, List.set_cons_zero, List.set_cons_succ]
            refine wpAnyH_done (by kernel_rfl) ?_ _
            have I := Lib.hid hSn
            clear hS hSn
            by_cases hz : zk = 0
            · subst hz
              have e0 : (((0 : Nat) : Int) != 0) = false := rfl
              go_wp2_with fail
              go_roundg (j + 1)
              case measure => have := HI.out; omega
              case rel => exact ⟨i + 1, j, by go_num, by show _ ∧ _; have := HI.out; omega, by omega, by show Q4.k _ = 0; rw [hx'.out], by show Bs _ _ _ _; rw [hx'.out]; exact I.out⟩
            · have hzz := hze.out hz
              have hyy : Hid (y = ⟨false, 0, 0, zk⟩) := by
                show y = _
                rw [← hy3.out]
                have := its_stuck (hx'.out.trans hzz) hz j
                rwa [show i + 1 + j = cnt by have := HI.out; omega] at this
              have hzb : ((zk : Int) != 0) = true := by simp [hz]
              obtain rfl := hyy.out
              clear hzz hyy hze hx' hy3
              have HZ := Lib.hid (I.out.rat 0 rfl)
              go_wp2_with (first | (with_reducible refine wpList_build_zero rfl rfl ?_) | (with_reducible refine wpList_store_rat rfl (.tmp 6) (.tmp 51) rfl (b := S + 1) (s := false) (n := 0) (t := false) (d := 0) rfl rfl HZ.out ?_))
              have I2 := I.out.putRat 0 rfl false 0 false 0 rfl
              exact bodyPost_ret (v := .tuple #[ratV false 0 false 0, .int .i64 (zk : Nat)]) (results_rat rfl rfl rfl (I2.rat 0 rfl)) rfl ⟨rfl, I2.bl⟩
          · refine rs_of rfl rfl (wp_call rfl enters_Of8 rfl (HOF.out _) (fun V1 hV => ⟨(hS.sub (.cons _ (.cons _ .slnil))).below hV, ?_⟩))
            replace hS := hS.below hV
            clear hV
            simp only [List.getElem_toArray, List.getElem_cons_zero, List.getElem_cons_succ, Act.put, List.setIfInBounds_toArray, List.set_cons_zero, List.set_cons_succ]
            refine rg_one 0 (by kernel_rfl) (rs_of rfl rfl (wp_value (ld_rat (.tmp 3) rfl rfl (hS.rat 1 rfl)) ⟨hS.sub (.cons _ (.cons _ .slnil)), ?_⟩))
            simp only [List.getElem_toArray, List.getElem_cons_zero, List.getElem_cons_succ, Act.put, List.setIfInBounds_toArray, List.set_cons_zero, List.set_cons_succ]
            refine rg_one 3 (by kernel_rfl) (rs_of rfl rfl (wp_call rfl enters_Do8 rfl (HDO.out _) (fun V2 hV => ⟨(hS.below hV).sub (.cons _ (.cons _ .slnil)), ?_⟩)))
            replace hS := hS.below hV
            clear hV
            simp only [List.getElem_toArray, List.getElem_cons_zero, List.getElem_cons_succ, Act.put, List.setIfInBounds_toArray, List.set_cons_zero, List.set_cons_succ]
            have hT := hS
            replace hS : Bs w S [] V2 := hS.sub (.cons _ (.cons _ .slnil))
            refine rg_take 4 (.tuple #[ratV zs zn false zd, .int .i64 (zk : Int)]) rfl (by kernel_rfl) (by kernel_rfl) (by kernel_rfl) (fun _ _ _ h => h) rfl (fun w _ => ?_) hS ?_
            · go_simp
            simp only [List.getElem_toArray, List.getElem_cons_zero, List.getElem_cons_succ, Act.put, List.setIfInBounds_toArray, List.set_cons_zero, List.set_cons_succ]
            refine rg_take 5 (ratV zs zn false zd) rfl (by kernel_rfl) (by kernel_rfl) (by kernel_rfl) (fun _ _ _ h => h) rfl (fun w _ => ?_) hS ?_
            · go_simp
            simp only [List.getElem_toArray, List.getElem_cons_zero, List.getElem_cons_succ, Act.put, List.setIfInBounds_toArray, List.set_cons_zero, List.set_cons_succ]
            refine rg_take 6 (.int .i64 (zk : Int)) rfl (by kernel_rfl) (by kernel_rfl) (by kernel_rfl) (fun _ _ _ h => h) rfl (fun w _ => ?_) hS ?_
            · go_simp
            simp only [List.getElem_toArray, List.getElem_cons_zero, List.getElem_cons_succ, Act.put, List.setIfInBounds_toArray, List.set_cons_zero, List.set_cons_succ]
            replace hS := hT
            clear hT
            have hSn := hS.putRat 1 rfl zs zn false zd rfl
            refine rg_one 7 (by kernel_rfl) (rs_of rfl rfl (stores_rat (.tmp 3) (.tmp 36) rfl (s := zs) (n := zn) (t := false) (d := zd) rfl rfl (hS.rat 1 rfl) ⟨hSn.sub (.cons _ (.cons _ .slnil)), ?_⟩))
            replace hS := hSn.sub (l' := []) (.cons _ (.cons _ .slnil))
            simp only [List.getElem_toArray, List.getElem_cons_zero, List.getElem_cons_succ, Act.put, List.setIfInBounds_toArray, List.set_cons_zero, List.set_cons_succ]
            generalize st18 V2 S zs zn false zd = V3 at *
            refine rg_take 8 (.int .i64 (zk : Int)) rfl (by kernel_rfl) (by kernel_rfl) (by kernel_rfl) (fun _ _ _ h => h) rfl (fun w _ => ?_) hS ?_
            · go_simp
            simp only [List.getElem_toArray, List.getElem_cons_zero, List.getElem_cons_succ, Act.put, List.setIfInBounds_toArray, List.set_cons_zero, List.set_cons_succ]
            refine wpAnyH_done (by kernel_rfl) ?_ _
            have I := Lib.hid hSn
            clear hS hSn
            by_cases hz : zk = 0
            · subst hz
              have e0 : (((0 : Nat) : Int) != 0) = false := rfl
              go_wp2_with fail
              go_roundg (j + 1)
              case measure => have := HI.out; omega
              case rel => exact ⟨i + 1, j, by go_num, by show _ ∧ _; have := HI.out; omega, by omega, by show Q4.k _ = 0; rw [hx'.out], by show Bs _ _ _ _; rw [hx'.out]; exact I.out⟩
            · have hzz := hze.out hz
              have hyy : Hid (y = ⟨false, 0, 0, zk⟩) := by
                show y = _
                rw [← hy3.out]
                have := its_stuck (hx'.out.trans hzz) hz j
                rwa [show i + 1 + j = cnt by have := HI.out; omega] at this
              have hzb : ((zk : Int) != 0) = true := by simp [hz]
              obtain rfl := hyy.out
              clear hzz hyy hze hx' hy3
              have HZ := Lib.hid (I.out.rat 0 rfl)
              go_wp2_with (first | (with_reducible refine wpList_build_zero rfl rfl ?_) | (with_reducible refine wpList_store_rat rfl (.tmp 6) (.tmp 51) rfl (b := S + 1) (s := false) (n := 0) (t := false) (d := 0) rfl rfl HZ.out ?_))
              have I2 := I.out.putRat 0 rfl false 0 false 0 rfl
              exact bodyPost_ret (v := .tuple #[ratV false 0 false 0, .int .i64 (zk : Nat)]) (results_rat rfl rfl rfl (I2.rat 0 rfl)) rfl ⟨rfl, I2.bl⟩
    · clear c2
      go_upto_region 7 with fail
      skip
      go_loopg [2] (cnt + 1) (fun h s2 wr => ∃ i j : Nat, s2 = .int .i64 ((j : Int)) ∧ Hid (i + j = cnt ∧ j < h) ∧ j ≤ 1000 ∧ Hid ((its false B ⟨s, n, d, 0⟩ i).k = 0) ∧ Hid (Bs w S [.rat (S + 1) false 0 false 0, .rat S (its false B ⟨s, n, d, 0⟩ i).s (its false B ⟨s, n, d, 0⟩ i).n false (its false B ⟨s, n, d, 0⟩ i).d] wr))
      case atStart => exact ⟨0, cnt, rfl, ⟨Nat.zero_add _, Nat.lt_succ_self _⟩, hcb, rfl, I⟩
      case round =>
        clear I d1 d2 hcb
        obtain ⟨i, j, rfl, HI, hj, hk0, I⟩ := hrel
        have hfx := Lib.hid (its_fits false B ⟨s, n, d, 0⟩ ⟨hn.out, hd.out⟩ i)
        have hst : Hid (stp false B (its false B ⟨s, n, d, 0⟩ i) = its false B ⟨s, n, d, 0⟩ (i + 1)) := rfl
        have hyi : Hid (i = cnt → its false B ⟨s, n, d, 0⟩ i = y) := fun e => by rw [e]; exact hy3.out
        obtain ⟨x', hx'⟩ : ∃ x, its false B ⟨s, n, d, 0⟩ (i + 1) = x := ⟨_, rfl⟩
        rw [hx'] at hst
        replace hx' := Lib.hid hx'
        obtain ⟨x, hx⟩ : ∃ x, its false B ⟨s, n, d, 0⟩ i = x := ⟨_, rfl⟩
        rw [hx] at hst hfx hyi I hk0
        clear hx
        obtain ⟨xs, xn, xd, xk⟩ := x
        obtain ⟨zs, zn, zd, zk⟩ := x'
        obtain rfl : xk = 0 := hk0.out
        cases j with
        | zero =>
          obtain rfl : (⟨xs, xn, xd, 0⟩ : Q4) = y := hyi.out (by have := HI.out; omega)
          clear hst hyi hfx hy3 hx'
          have H0 := Lib.hid (I.out.rat 1 rfl)
          have H1 := Lib.hid (I.out.rat 0 rfl)
          go_wp2_with (first | (with_reducible refine wpList_load_rat rfl (.tmp 3) rfl rfl H0.out ?_) | (with_reducible refine wpList_store_rat rfl (.tmp 6) (.tmp 53) rfl (b := S + 1) (s := xs) (n := xn) (t := false) (d := xd) rfl rfl H1.out ?_))
          have I2 := I.out.putRat 0 rfl xs xn false xd rfl
          exact bodyPost_ret (v := .tuple #[ratV xs xn false xd, .int .i64 (0 : Nat)]) (results_rat rfl rfl rfl (I2.rat 0 rfl)) rfl ⟨rfl, I2.bl⟩
        | succ j =>
          have HDO := Lib.hid (fun W => Do4_run false B ⟨xs, xn, xd, 0⟩ ⟨zs, zn, zd, zk⟩ W hfx.out hfB.out rfl hst.out)
          have hze : Hid (zk ≠ 0 → (⟨zs, zn, zd, zk⟩ : Q4) = ⟨false, 0, 0, zk⟩) := fun h => stp_err (x := ⟨xs, xn, xd, 0⟩) (y := ⟨zs, zn, zd, zk⟩) rfl hst.out h
          have hj1 : ((j + 1 : Nat) : Int) = (j : Int) + 1 := by omega
          rw [hj1]
          have hn1 : ((((j : Int) + 1)) != 0) = true := by simp; omega
          have hp1 : decide (0 < ((j : Int) + 1)) = true := by simp; try omega
          clear hst hyi hfx hj1
          go_upto_region 10 with fail
          refine rg_begin (fun V => Bs w S [] V) (by kernel_rfl) (I.out.drew.sub (.cons _ (.cons _ .slnil))) (fun hS => ?_)
          refine rg_take 1 (.int .i64 10) rfl (by kernel_rfl) (by kernel_rfl) (by kernel_rfl) (fun _ _ _ h => h) rfl (fun w _ => ?_) hS ?_
          · go_simp
          simp only [List.getElem_toArray, List.getElem_cons_zero, List.getElem_cons_succ, Act.put, List.setIfInBounds_toArray, List.set_cons_zero, List.set_cons_succ]
          replace hS := I.out.drew
          clear I hn1 hp1
          generalize wr.drew = V0 at *
          refine rg_two 0 2 (by kernel_rfl) ?_ ?_
          · refine rs_of rfl rfl (wp_value (ld_rat (.tmp 3) rfl rfl (hS.rat 1 rfl)) ⟨hS.sub (.cons _ (.cons _ .slnil)), ?_⟩)
            simp only [List.getElem_toArray, List.getElem_cons_zero, List.getElem_cons_succ, Act.put, List.setIfInBounds_toArray, List.set_cons_zero, List.set_cons_succ]
            refine rg_one 2 (by kernel_rfl) (rs_of rfl rfl (wp_call rfl enters_Of8 rfl (HOF.out _) (fun V1 hV => ⟨(hS.sub (.cons _ (.cons _ .slnil))).below hV, ?_⟩)))
            replace hS := hS.below hV
            clear hV
            simp only [List.getElem_toArray, List.getElem_cons_zero, List.getElem_cons_succ, Act.put, List.setIfInBounds_toArray, List.set_cons_zero, List.set_cons_succ]
            refine rg_one 3 (by kernel_rfl) (rs_of rfl rfl (wp_call rfl enters_Do8 rfl (HDO.out _) (fun V2 hV => ⟨(hS.below hV).sub (.cons _ (.cons _ .slnil)), ?_⟩)))
            replace hS := hS.below hV
            clear hV
            simp only [List.getElem_toArray, List.getElem_cons_zero, List.getElem_cons_succ, Act.put, List.setIfInBounds_toArray, List.set_cons_zero, List.set_cons_succ]
            have hT := hS
            replace hS : Bs w S [] V2 := hS.sub (.cons _ (.cons _ .slnil))
            refine rg_take 4 (.tuple #[ratV zs zn false zd, .int .i64 (zk : Int)]) rfl (by kernel_rfl) (by kernel_rfl) (by kernel_rfl) (fun _ _ _ h => h) rfl (fun w _ => ?_) hS ?_
            · go_simp
            simp only [List.getElem_toArray, List.getElem_cons_zero, List.getElem_cons_succ, Act.put, List.setIfInBounds_toArray, List.set_cons_zero, List.set_cons_succ]
            refine rg_take 5 (ratV zs zn false zd) rfl (by kernel_rfl) (by kernel_rfl) (by kernel_rfl) (fun _ _ _ h => h) rfl (fun w _ => ?_) hS ?_
            · go_simp
            simp only [List.getElem_toArray, List.getElem_cons_zero, List.getElem_cons_succ, Act.put, List.setIfInBounds_toArray, List.set_cons_zero, List.set_cons_succ]
            refine rg_take 6 (.int .i64 (zk : Int)) rfl (by kernel_rfl) (by kernel_rfl) (by kernel_rfl) (fun _ _ _ h => h) rfl (fun w _ => ?_) hS ?_
            · go_simp
            simp only [List.getElem_toArray, List.getElem_cons_zero, List.getElem_cons_succ, Act.put, List.setIfInBounds_toArray, List.set_cons_zero, List.set_cons_succ]
            replace hS := hT
            clear hT
            have hSn := hS.putRat 1 rfl zs zn false zd rfl
            refine rg_one 7 (by kernel_rfl) (rs_of rfl rfl (stores_rat (.tmp 3) (.tmp 36) rfl (s := zs) (n := zn) (t := false) (d := zd) rfl rfl (hS.rat 1 rfl) ⟨hSn.sub (.cons _ (.cons _ .slnil)), ?_⟩))
            replace hS := hSn.sub (l' := []) (.cons _ (.cons _ .slnil))
            simp only [List.getElem_toArray, List.getElem_cons_zero, List.getElem_cons_succ, Act.put, List.setIfInBounds_toArray, List.set_cons_zero, List.set_cons_succ]
            generalize st18 V2 S zs zn false zd = V3 at *
            refine rg_take 8 (.int .i64 (zk : Int)) rfl (by kernel_rfl) (by kernel_rfl) (by kernel_rfl) (fun _ _ _ h => h) rfl (fun w _ => ?_) hS ?_
            · go_simp
            simp only [List.getElem_toArray, List.getElem_cons_zero, List.getElem_cons_succ, Act.put, List.setIfInBounds_toArray, List.set_cons_zero, List.set_cons_succ]
            refine wpAnyH_done (by kernel_rfl) ?_ _
            have I := Lib.hid hSn
            clear hS hSn
            by_cases hz : zk = 0
            · subst hz
              have e0 : (((0 : Nat) : Int) != 0) = false := rfl
              go_wp2_with fail
              go_roundg (j + 1)
              case measure => have := HI.out; omega
              case rel => exact ⟨i + 1, j, by go_num, by show _ ∧ _; have := HI.out; omega, by omega, by show Q4.k _ = 0; rw [hx'.out], by show Bs _ _ _ _; rw [hx'.out]; exact I.out⟩
            · have hzz := hze.out hz
              have hyy : Hid (y = ⟨false, 0, 0, zk⟩) := by
                show y = _
                rw [← hy3.out]
                have := its_stuck (hx'.out.trans hzz) hz j
                rwa [show i + 1 + j = cnt by have := HI.out; omega] at this
              have hzb : ((zk : Int) != 0) = true := by simp [hz]
              obtain rfl := hyy.out
              clear hzz hyy hze hx' hy3
              have HZ := Lib.hid (I.out.rat 0 rfl)
              go_wp2_with (first | (with_reducible refine wpList_build_zero rfl rfl ?_) | (with_reducible refine wpList_store_rat rfl (.tmp 6) (.tmp 51) rfl (b := S + 1) (s := false) (n := 0) (t := false) (d := 0) rfl rfl HZ.out ?_))
              have I2 := I.out.putRat 0 rfl false 0 false 0 rfl
              exact bodyPost_ret (v := .tuple #[ratV false 0 false 0, .int .i64 (zk : Nat)]) (results_rat rfl rfl rfl (I2.rat 0 rfl)) rfl ⟨rfl, I2.bl⟩
          · refine rs_of rfl rfl (wp_call rfl enters_Of8 rfl (HOF.out _) (fun V1 hV => ⟨(hS.sub (.cons _ (.cons _ .slnil))).below hV, ?_⟩))
            replace hS := hS.below hV
            clear hV
            simp only [List.getElem_toArray, List.getElem_cons_zero, List.getElem_cons_succ, Act.put, List.setIfInBounds_toArray, List.set_cons_zero, List.set_cons_succ]
            refine rg_one 0 (by kernel_rfl) (rs_of rfl rfl (wp_value (ld_rat (.tmp 3) rfl rfl (hS.rat 1 rfl)) ⟨hS.sub (.cons _ (.cons _ .slnil)), ?_⟩))
            simp only [List.getElem_toArray, List.getElem_cons_zero, List.getElem_cons_succ, Act.put, List.setIfInBounds_toArray, List.set_cons_zero, List.set_cons_succ]
            refine rg_one 3 (by kernel_rfl) (rs_of rfl rfl (wp_call rfl enters_Do8 rfl (HDO.out _) (fun V2 hV => ⟨(hS.below hV).sub (.cons _ (.cons _ .slnil)), ?_⟩)))
            replace hS := hS.below hV
            clear hV
            simp only [List.getElem_toArray, List.getElem_cons_zero, List.getElem_cons_succ, Act.put, List.setIfInBounds_toArray, List.set_cons_zero, List.set_cons_succ]
            have hT := hS
            replace hS : Bs w S [] V2 := hS.sub (.cons _ (.cons _ .slnil))
            refine rg_take 4 (.tuple #[ratV zs zn false zd, .int .i64 (zk : Int)]) rfl (by kernel_rfl) (by kernel_rfl) (by kernel_rfl) (fun _ _ _ h => h) rfl (fun w _ => ?_) hS ?_
            · go_simp
            simp only [List.getElem_toArray, List.getElem_cons_zero, List.getElem_cons_succ, Act.put, List.setIfInBounds_toArray, List.set_cons_zero, List.set_cons_succ]
            refine rg_take 5 (ratV zs zn false zd) rfl (by kernel_rfl) (by kernel_rfl) (by kernel_rfl) (fun _ _ _ h => h) rfl (fun w _ => ?_) hS ?_
            · go_simp
            simp only [List.getElem_toArray, List.getElem_cons_zero, List.getElem_cons_succ, Act.put, List.setIfInBounds_toArray, List.set_cons_zero, List.set_cons_succ]
            refine rg_take 6 (.int .i64 (zk : Int)) rfl (by kernel_rfl) (by kernel_rfl) (by kernel_rfl) (fun _ _ _ h => h) rfl (fun w _ => ?_) hS ?_
            · go_simp
            simp only [List.getElem_toArray, List.getElem_cons_zero, List.getElem_cons_succ, Act.put, List.setIfInBounds_toArray, List.set_cons_zero, List.set_cons_succ]
            replace hS := hT
            clear hT
            have hSn := hS.putRat 1 rfl zs zn false zd rfl
            refine rg_one 7 (by kernel_rfl) (rs_of rfl rfl (stores_rat (.tmp 3) (.tmp 36) rfl (s := zs) (n := zn) (t := false) (d := zd) rfl rfl (hS.rat 1 rfl) ⟨hSn.sub (.cons _ (.cons _ .slnil)), ?_⟩))
            replace hS := hSn.sub (l' := []) (.cons _ (.cons _ .slnil))
            simp only [List.getElem_toArray, List.getElem_cons_zero, List.getElem_cons_succ, Act.put, List.setIfInBounds_toArray, List.set_cons_zero, List.set_cons_succ]
            generalize st18 V2 S zs zn false zd = V3 at *
            refine rg_take 8 (.int .i64 (zk : Int)) rfl (by kernel_rfl) (by kernel_rfl) (by kernel_rfl) (fun _ _ _ h => h) rfl (fun w _ => ?_) hS ?_
            · go_simp
            simp only [List.getElem_toArray, List.getElem_cons_zero, List.getElem_cons_succ, Act.put, List.setIfInBounds_toArray, List.set_cons_zero, List.set_cons_succ]
            refine wpAnyH_done (by kernel_rfl) ?_ _
            have I := Lib.hid hSn
            clear hS hSn
            by_cases hz : zk = 0
            · subst hz
              have e0 : (((0 : Nat) : Int) != 0) = false := rfl
              go_wp2_with fail
              go_roundg (j + 1)
              case measure => have := HI.out; omega
              case rel => exact ⟨i + 1, j, by go_num, by show _ ∧ _; have := HI.out; omega, by omega, by show Q4.k _ = 0; rw [hx'.out], by show Bs _ _ _ _; rw [hx'.out]; exact I.out⟩
            · have hzz := hze.out hz
              have hyy : Hid (y = ⟨false, 0, 0, zk⟩) := by
                show y = _
                rw [← hy3.out]
                have := its_stuck (hx'.out.trans hzz) hz j
                rwa [show i + 1 + j = cnt by have := HI.out; omega] at this
              have hzb : ((zk : Int) != 0) = true := by simp [hz]
              obtain rfl := hyy.out
              clear hzz hyy hze hx' hy3
              have HZ := Lib.hid (I.out.rat 0 rfl)
              go_wp2_with (first | (with_reducible refine wpList_build_zero rfl rfl ?_) | (with_reducible refine wpList_store_rat rfl (.tmp 6) (.tmp 51) rfl (b := S + 1) (s := false) (n := 0) (t := false) (d := 0) rfl rfl HZ.out ?_))
              have I2 := I.out.putRat 0 rfl false 0 false 0 rfl
              exact bodyPost_ret (v := .tuple #[ratV false 0 false 0, .int .i64 (zk : Nat)]) (results_rat rfl rfl rfl (I2.rat 0 rfl)) rfl ⟨rfl, I2.bl⟩
end Go.Proofs.YtbcnpajdmlbieaaGreatDoor

/-
  Stage 8: the law RatioScales.
-/
namespace Go.Proofs.YtbcnpajdmlbieaaGreatDoor
open Go.RowKit Go.Sort
set_option linter.unusedSimpArgs false

theorem tmod_bounds (e : Int) : -1000 < Int.tmod e 1000 ∧ Int.tmod e 1000 < 1000 := by
  have h2 := Int.tmod_lt_of_pos e (show (0 : Int) < 1000 by decide)
  have h3 := Int.tmod_lt_of_pos (-e) (show (0 : Int) < 1000 by decide)
  rw [Int.neg_tmod] at h3
  omega
set_option maxRecDepth 100000 in
set_option maxHeartbeats 8000000 in
theorem scales_run (s : Bool) (n : Nat) (t : Bool) (d : Nat) (base exp : Int) (w : World) (hn : Hid (Fits n)) (hd : Hid (Fits d)) :
    Calls Tryz.prog 5 #[ratV s n t d, .int .i64 base, .int .i64 exp] w fun e w' => e = .returned (.bool true) ∧ Below w.heap.size w w' := by
  obtain ⟨S, hS⟩ : ∃ S, w.heap.size = S := ⟨_, rfl⟩
  obtain ⟨W0, hW0⟩ : ∃ W, w.alloc (boxR s n t d 27) = W := ⟨_, rfl⟩
  have I := (Bs.start w hS).pushRat hS s n t d 27
  rw [hW0] at I
  replace I := Lib.hid I
  have HW := Lib.hid (fun W => works_run W)
  rw [hS]
  go_enter Tryz.func5, Tryz.ntmps5
  go_upto_region 1 with (with_reducible refine wpList_box_rat rfl (.tmp 0) rfl rfl ?_)
  clear hW0
  go_cut [24] (fun s24 wx => (∃ b : Bool, s24 = .bool b) ∧ Bs w S [.rat S s n t d] wx)
  case first =>
    by_cases h1 : 40 < exp
    · have d1 : decide (40 < exp) = true := decide_eq_true h1
      by_cases h2 : exp ≤ 1000
      · have d2 : decide (exp ≤ 1000) = true := decide_eq_true h2
        clear h1 h2
        go_wp2_with fail
        go_meet
        exact ⟨⟨_, rfl⟩, I.out⟩
      · have d2 : decide (exp ≤ 1000) = false := decide_eq_false h2
        have d3 : decide (exp < -40) = false := decide_eq_false (by omega)
        clear h1 h2
        go_wp2_with fail
        go_meet
        exact ⟨⟨_, rfl⟩, I.out⟩
    · have d1 : decide (40 < exp) = false := decide_eq_false h1
      by_cases h3 : exp < -40
      · have d3 : decide (exp < -40) = true := decide_eq_true h3
        by_cases h4 : -1000 ≤ exp
        · have d4 : decide (-1000 ≤ exp) = true := decide_eq_true h4
          clear h1 h3 h4
          go_wp2_with fail
          go_meet
          exact ⟨⟨_, rfl⟩, I.out⟩
        · have d4 : decide (-1000 ≤ exp) = false := decide_eq_false h4
          clear h1 h3 h4
          go_wp2_with fail
          go_meet
          exact ⟨⟨_, rfl⟩, I.out⟩
      · have d3 : decide (exp < -40) = false := decide_eq_false h3
        clear h1 h3
        go_wp2_with fail
        go_meet
        exact ⟨⟨_, rfl⟩, I.out⟩
  case rest =>
    obtain ⟨⟨b, rfl⟩, I2⟩ := hcut
    clear I
    have I := Lib.hid I2
    clear I2
    cases b
    · go_upto_region 3 with fail
      obtain ⟨y, hy⟩ : ∃ y, scl s n t d base exp = y := ⟨_, rfl⟩
      have HP := Lib.hid (fun W => Scale_runP s n t d base exp y W hn hd hy)
      have HD := Lib.hid (fun W => Scale_run8 s n t d base exp y W hn hd hy)
      have hfy : Hid (Fits y.n ∧ Fits y.d) := by rw [← hy]; exact scl_fits s n t d base exp hn.out hd.out
      have HE : Hid (∀ W, Calls Tryz.prog 14 #[errV y.k] W fun e w' => e = .returned (.int .i64 (y.k : Int)) ∧ Below W.heap.size W w') := fun W => code_errV y.k (by rw [← hy]; exact scl_le s n t d base exp) W
      clear hy hn hd
      obtain ⟨Z, N, D, K⟩ := y
      obtain ⟨m, hm⟩ : ∃ m, Int.tmod exp 1000 = m := ⟨_, rfl⟩
      have hb := tmod_bounds exp
      rw [hm] at hb
      have HO1 := Lib.hid (fun W => ROf_run m W (by omega) (by omega))
      have HO2 := Lib.hid (fun W => Of_run8 m _ _ W (by omega) rfl rfl)
      have hfm : Hid (Fits m.natAbs ∧ Fits 1) := ⟨Nat.lt_of_lt_of_le (show m.natAbs < 18446744073709551616 by omega) (Nat.le_self_pow (by decide) _), by show _ < _; decide⟩
      generalize m.natAbs = M at *
      generalize decide (m < 0) = x at *
      clear hb
      have HRa := Lib.hid (I.out.rat 0 rfl)
      go_wp2_with (with_reducible refine wpList_load_rat rfl (.tmp 3) rfl rfl HRa.out ?_)
      refine (HP.out _).mono ?_
      rintro e w1 ⟨rfl, hw⟩
      replace I := Lib.hid (I.out.below hw)
      clear hw HP HRa
      obtain ⟨B1, hB1⟩ : ∃ K, w1.heap.size = K := ⟨_, rfl⟩
      obtain ⟨a1, ha1⟩ : ∃ W, w1.alloc (boxRZ 27) = W := ⟨_, rfl⟩
      have I2 := I.out.pushRatZ hB1 27
      rw [ha1] at I2
      have HZ := Lib.hid (I2.rat 0 rfl)
      have I3 := Lib.hid (I2.putRat 0 rfl Z N false D rfl)
      clear I2 I
      go_upto_region 4 with (with_reducible refine wpList_store_rat rfl (.tmp 7) (.tmp 32) rfl (b := B1) (s := Z) (n := N) (t := false) (d := D) rfl rfl HZ.out ?_)
      clear ha1 HZ hB1
      generalize st18 a1 B1 Z N false D = x1 at *
      have I := I3
      clear I3
      have HRa := Lib.hid (I.out.rat 1 rfl)
      go_wp2_with (with_reducible refine wpList_load_rat rfl (.tmp 3) rfl rfl HRa.out ?_)
      refine (HD.out _).mono ?_
      rintro e w2 ⟨rfl, hw⟩
      replace I := Lib.hid (I.out.below hw)
      clear hw HD HRa
      obtain ⟨B2, hB2⟩ : ∃ K, w2.heap.size = K := ⟨_, rfl⟩
      obtain ⟨a2, ha2⟩ : ∃ W, w2.alloc (boxRZ 27) = W := ⟨_, rfl⟩
      have I2 := I.out.pushRatZ hB2 27
      rw [ha2] at I2
      have HZ := Lib.hid (I2.rat 0 rfl)
      have I3 := Lib.hid (I2.putRat 0 rfl Z N false D rfl)
      clear I2 I
      go_upto_region 5 with (with_reducible refine wpList_store_rat rfl (.tmp 9) (.tmp 39) rfl (b := B2) (s := Z) (n := N) (t := false) (d := D) rfl rfl HZ.out ?_)
      clear ha2 HZ hB2
      generalize st18 a2 B2 Z N false D = x2 at *
      have HX := Lib.hid (I3.out.rat 1 rfl)
      have HY := Lib.hid (I3.out.rat 0 rfl)
      go_wp2_with (first | (with_reducible refine wpList_load_rat rfl (.tmp 7) rfl rfl HX.out ?_) | (with_reducible refine wpList_load_rat rfl (.tmp 9) rfl rfl HY.out ?_) | (with_reducible refine wpList_val (v := .bool true) rfl (eqr_self (x := .tmp 41) (y := .tmp 42) rfl rfl rfl hfy.out.1 hfy.out.2) ?_))
      refine (HE.out _).mono ?_
      rintro e w3 ⟨rfl, hw⟩
      have I := Lib.hid (I3.out.below hw)
      clear hw HX HY I3 HE
      go_wp2_with fail
      refine (HO1.out _).mono ?_
      rintro e w4 ⟨rfl, hw⟩
      replace I := Lib.hid (I.out.below hw)
      clear hw HO1
      go_wp2_with fail
      refine (HO2.out _).mono ?_
      rintro e w5 ⟨rfl, hw⟩
      replace I := Lib.hid (I.out.below hw)
      clear hw HO2
      go_wp2_with (with_reducible refine wpList_val (v := .bool true) rfl (eqr_self (x := .tmp 53) (y := .tmp 56) rfl rfl rfl hfm.out.1 hfm.out.2) ?_)
      refine (HW.out _).mono ?_
      rintro e w6 ⟨rfl, hw⟩
      replace I := Lib.hid (I.out.below hw)
      clear hw HW
      go_wp2_with fail
      go_ret
      exact ⟨rfl, I.out.bl⟩
    · obtain ⟨ex, hex⟩ : ∃ ex, Int.tmod exp 40 = ex := ⟨_, rfl⟩
      go_upto_region 3 with fail
      clear hex
      obtain ⟨y, hy⟩ : ∃ y, scl s n t d base ex = y := ⟨_, rfl⟩
      have HP := Lib.hid (fun W => Scale_runP s n t d base ex y W hn hd hy)
      have HD := Lib.hid (fun W => Scale_run8 s n t d base ex y W hn hd hy)
      have hfy : Hid (Fits y.n ∧ Fits y.d) := by rw [← hy]; exact scl_fits s n t d base ex hn.out hd.out
      have HE : Hid (∀ W, Calls Tryz.prog 14 #[errV y.k] W fun e w' => e = .returned (.int .i64 (y.k : Int)) ∧ Below W.heap.size W w') := fun W => code_errV y.k (by rw [← hy]; exact scl_le s n t d base ex) W
      clear hy hn hd
      obtain ⟨Z, N, D, K⟩ := y
      obtain ⟨m, hm⟩ : ∃ m, Int.tmod ex 1000 = m := ⟨_, rfl⟩
      have hb := tmod_bounds ex
      rw [hm] at hb
      have HO1 := Lib.hid (fun W => ROf_run m W (by omega) (by omega))
      have HO2 := Lib.hid (fun W => Of_run8 m _ _ W (by omega) rfl rfl)
      have hfm : Hid (Fits m.natAbs ∧ Fits 1) := ⟨Nat.lt_of_lt_of_le (show m.natAbs < 18446744073709551616 by omega) (Nat.le_self_pow (by decide) _), by show _ < _; decide⟩
      generalize m.natAbs = M at *
      generalize decide (m < 0) = x at *
      clear hb
      have HRa := Lib.hid (I.out.rat 0 rfl)
      go_wp2_with (with_reducible refine wpList_load_rat rfl (.tmp 3) rfl rfl HRa.out ?_)
      refine (HP.out _).mono ?_
      rintro e w1 ⟨rfl, hw⟩
      replace I := Lib.hid (I.out.below hw)
      clear hw HP HRa
      obtain ⟨B1, hB1⟩ : ∃ K, w1.heap.size = K := ⟨_, rfl⟩
      obtain ⟨a1, ha1⟩ : ∃ W, w1.alloc (boxRZ 27) = W := ⟨_, rfl⟩
      have I2 := I.out.pushRatZ hB1 27
      rw [ha1] at I2
      have HZ := Lib.hid (I2.rat 0 rfl)
      have I3 := Lib.hid (I2.putRat 0 rfl Z N false D rfl)
      clear I2 I
      go_upto_region 4 with (with_reducible refine wpList_store_rat rfl (.tmp 7) (.tmp 32) rfl (b := B1) (s := Z) (n := N) (t := false) (d := D) rfl rfl HZ.out ?_)
      clear ha1 HZ hB1
      generalize st18 a1 B1 Z N false D = x1 at *
      have I := I3
      clear I3
      have HRa := Lib.hid (I.out.rat 1 rfl)
      go_wp2_with (with_reducible refine wpList_load_rat rfl (.tmp 3) rfl rfl HRa.out ?_)
      refine (HD.out _).mono ?_
      rintro e w2 ⟨rfl, hw⟩
      replace I := Lib.hid (I.out.below hw)
      clear hw HD HRa
      obtain ⟨B2, hB2⟩ : ∃ K, w2.heap.size = K := ⟨_, rfl⟩
      obtain ⟨a2, ha2⟩ : ∃ W, w2.alloc (boxRZ 27) = W := ⟨_, rfl⟩
      have I2 := I.out.pushRatZ hB2 27
      rw [ha2] at I2
      have HZ := Lib.hid (I2.rat 0 rfl)
      have I3 := Lib.hid (I2.putRat 0 rfl Z N false D rfl)
      clear I2 I
      go_upto_region 5 with (with_reducible refine wpList_store_rat rfl (.tmp 9) (.tmp 39) rfl (b := B2) (s := Z) (n := N) (t := false) (d := D) rfl rfl HZ.out ?_)
      clear ha2 HZ hB2
      generalize st18 a2 B2 Z N false D = x2 at *
      have HX := Lib.hid (I3.out.rat 1 rfl)
      have HY := Lib.hid (I3.out.rat 0 rfl)
      go_wp2_with (first | (with_reducible refine wpList_load_rat rfl (.tmp 7) rfl rfl HX.out ?_) | (with_reducible refine wpList_load_rat rfl (.tmp 9) rfl rfl HY.out ?_) | (with_reducible refine wpList_val (v := .bool true) rfl (eqr_self (x := .tmp 41) (y := .tmp 42) rfl rfl rfl hfy.out.1 hfy.out.2) ?_))
      refine (HE.out _).mono ?_
      rintro e w3 ⟨rfl, hw⟩
      have I := Lib.hid (I3.out.below hw)
      clear hw HX HY I3 HE
      go_wp2_with fail
      refine (HO1.out _).mono ?_
      rintro e w4 ⟨rfl, hw⟩
      replace I := Lib.hid (I.out.below hw)
      clear hw HO1
      go_wp2_with fail
      refine (HO2.out _).mono ?_
      rintro e w5 ⟨rfl, hw⟩
      replace I := Lib.hid (I.out.below hw)
      clear hw HO2
      go_wp2_with (with_reducible refine wpList_val (v := .bool true) rfl (eqr_self (x := .tmp 53) (y := .tmp 56) rfl rfl rfl hfm.out.1 hfm.out.2) ?_)
      refine (HW.out _).mono ?_
      rintro e w6 ⟨rfl, hw⟩
      replace I := Lib.hid (I.out.below hw)
      clear hw HW
      go_wp2_with fail
      go_ret
      exact ⟨rfl, I.out.bl⟩
end Go.Proofs.YtbcnpajdmlbieaaGreatDoor

/-
  Stage 8: the law of Scale as the row asks for it.
-/
namespace Go.Proofs.YtbcnpajdmlbieaaGreatDoor
open Go.RowKit

theorem scales_any (s : Bool) (n : Nat) (t : Bool) (d : Nat) (base exp : Int) (W : World) (h : Fits n ∧ Fits d) (_ : True) :
    Calls Tryz.prog 5 #[ratV s n t d, .int .i64 base, .int .i64 exp] W fun e w' => e = .returned (.bool true) ∧ Below W.heap.size W w' := scales_run s n t d base exp W h.1 h.2
end Go.Proofs.YtbcnpajdmlbieaaGreatDoor

/-
  RatioScales: for every ratio, valid or not, every base and exponent (as the law reads them), Scale answers as the document does, or with its error, and Of of a small whole number is the document's: the law returns true and leaves its arguments as they were. Condition: the listed package-level variables hold what the program's own text lays (tied by the card).
-/
namespace Go.Proofs.YtbcnpajdmlbieaaGreatDoor.rscales
open Go.ChangeShapes Go.WideShapes Go.ChangeAt Go.RowKit
open Go.ChangeMaps (open_string shut_string)

set_option maxRecDepth 100000 in
theorem lifted (os : Os) (started : os.Started) (H : Type) (enc : TypeId × Value → H) :
    ReturnsInHanded {} Tryz.checked os 5 .any (fun w args => (Rows.ratioScalesSpec.pre enc Tryz.prog Tryz.f5 [] false w args ∧ laidMetH Tryz.prog laid8 w) ∧ sizedMet enc Tryz.prog Tryz.f5 (OpenSpec.ofChange Rows.ratioScalesSpec) false w args)
      (Rows.ratioScalesSpec.post enc Tryz.prog Tryz.f5 false true false false) := by
  refine returnsInHanded_of_change_and (C := Tryz.checked) (X := fun w _ => laidMetH Tryz.prog laid8 w) (fun _ _ _ hh h => h.of_heap hh) own started (by kernel_rfl) Tryz.func5
    (ChangeSpec.witness_shaped (enc := enc) (C := Tryz.checked) (os := os) (X := fun w _ => laidMetH Tryz.prog laid8 w) false (World.doorLaid Tryz.prog 24 os) #[.agg #[.bool false, .int .u64 0, .int .u64 0, .int .u64 0, .int .u64 0, .int .u64 0, .int .u64 0, .int .u64 0, .int .u64 0, .bool false, .int .u64 0, .int .u64 0, .int .u64 0, .int .u64 0, .int .u64 0, .int .u64 0, .int .u64 0, .int .u64 0], .int .i64 0, .int .i64 0] 8 rfl (World.shaped_of_RefB (by kernel_rfl) (by kernel_rfl)) (by kernel_rfl) (by kernel_rfl) (by kernel_rfl) (door_met8 os _)) ?_
  intro W base args ds gs before hval0 hW _ _ hL _
  have hval : ∀ (j : Nat) t v, Tryz.f5.params[j]? = some t → args[j]? = some v → Value.okWide Tryz.prog W .any base t v := hval0
  have hW' := hW
  obtain ⟨p, q, hA0, hV, rfl, hfz, hnd⟩ := hW
  have hA : DataW.TrodAll enc Tryz.prog W 0 (fun _ => true) true Tryz.f5.params.toList args.toList ds p := hA0
  rw [Tryz.params5] at hA hval
  obtain ⟨v0, vs0, d0, ds0, p0, q0, hargs, rfl, rfl, h0, r0⟩ := trodAll_cons hA
  obtain ⟨v1, vs1, d1, ds1, p1, q1, rfl, rfl, rfl, h1, r1⟩ := trodAll_cons r0
  obtain ⟨v2, vs2, d2, ds2, p2, q2, rfl, rfl, rfl, h2, r2⟩ := trodAll_cons r1
  obtain ⟨rfl, rfl, rfl⟩ := trodAll_nil r2
  obtain rfl : args = #[v0, v1, v2] := by cases args; simp_all
  obtain ⟨rfl, rfl⟩ := trodVars_none hV
  have k0 := h0
  have lt0 : ∀ x ∈ p0, x.block < W.heap.size := by obtain ⟨m, hm⟩ := k0; exact DataW.trod_lt m _ _ _ hm
  obtain ⟨a0_0, a0_1, a0_2, a0_3, rfl, hv0⟩ := open_rat (hval 0 27 v0 rfl rfl) h0
  obtain ⟨a1, rfl, rfl, rfl, w1⟩ := open_int Tryz.underlying3 (hval 1 3 v1 rfl rfl) h1
  obtain ⟨a2, rfl, rfl, rfl, w2⟩ := open_int Tryz.underlying3 (hval 2 3 v2 rfl rfl) h2
  have hh := of_laid8 hL
  clear hA0 hval0
  refine (scales_any a0_0 a0_1 a0_2 a0_3 a1 a2 W hv0 hh).mono fun e W' ⟨he, bel⟩ => ?_
  subst he
  exact ⟨_, rfl, _, _, _, [], _, [], hW', trodAll_mk1 (shut_bool Tryz.underlying4 _), (trodAll_cons_mk (Below.trod laidOut (by kernel_rfl) (of_decide_eq_true (by kernel_rfl)) k0 bel lt0) (trodAll_cons_mk (shut_int Tryz.underlying3 w1) (trodAll_cons_mk (shut_int Tryz.underlying3 w2) trodAll_mk0))), rfl, bel.frame _, fun h => by cases h⟩

theorem over : Rows.RatioScalesSaid :=
  OpenClaim.holds_of_wide 5 Tryz.f5 rfl rfl rfl rfl rfl rfl rfl ⟨rfl, rfl, rfl, rfl, rfl⟩ rfl rfl rfl rfl rfl (by kernel_rfl) Tryz.func5 (by kernel_rfl)
    (of_decide_eq_true (by kernel_rfl)) (by unfold Func.isWrapper; rw [if_neg (of_decide_eq_false (by kernel_rfl))]; exact ⟨rfl, rfl⟩)
    (fun os started H enc _ => lifted os started H enc)

/-- THE CARD. -/
theorem card_holds : Rows.RatioScalesCardSaid :=
  Claim7.holds_tied_plain_at .later [] [.data, .data, .data] true Rows.ratioScalesCard.stood.harness Rows.ratioScalesCard.stood.looks
    over (fun _ h => by cases h) (by kernel_rfl) (fun _ h => by cases h) ratioScales_row_tie rfl ⟨rfl, rfl⟩ (by kernel_rfl) rfl
    (fun f fn hf hfn => by
      obtain rfl : f = 5 := Option.some.inj ((show Tryz.prog.funcNamed Rows.ratioScalesRow.func = some 5 by kernel_rfl).symm.trans hf) |>.symm
      obtain rfl : fn = Tryz.f5 := (Option.some.inj (Tryz.func5.symm.trans hfn)).symm
      exact ⟨by kernel_rfl, fun j t ht => by
        rw [Tryz.params5] at ht
        have hm : t ∈ [27, 3] := by simpa using Array.mem_of_getElem? ht
        have hall : ([27, 3].all fun u => !Tryz.prog.wantsStandIn u) = true := by kernel_rfl
        exact (show Tryz.prog.wantsStandIn t = false by simpa using List.all_eq_true.1 hall t hm)⟩)
    (by kernel_rfl)
end Go.Proofs.YtbcnpajdmlbieaaGreatDoor.rscales
