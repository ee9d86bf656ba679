/-
  The contract of utf.Decode: at every place of every slice of bytes it answers what 'U.dec' says.
-/
import Derived.Test.YtmkpomnhmepmcaaDoorUtfA
import Derived.Deep.QuietTactic
import Derived.BigQuiet
namespace Go.Proofs.YtmkpomnhmepmcaaDoor
open Go.RowKit

/-- The answer of utf.Decode where 'U.dec' answers d. -/
def decT : Option (Int × Nat) → Value
  | none => .tuple #[.int .i32 0, .int .i64 0, errno 3]
  | some (r, n) => .tuple #[.int .i32 r, .int .i64 n, .nilIface]
/-- The slice at A holds just the bytes l. -/
def Byts (w : World) (B : Nat) (A : Option Addr) (l : List Int) : Prop :=
  U.Byt l ∧ (0 < l.length → ∃ b o, A = some ⟨b, o, none⟩ ∧ b < B ∧ ∀ i x, l[i]? = some x → w.cell? ⟨b, o + i, none⟩ = some (.int .u8 x))
/-- The table of utf: the upper bits of first bytes. -/
def Heads (w : World) : Prop := ∀ k : Nat, 1 ≤ k → k ≤ 4 → w.cell? ⟨1, k, none⟩ = some (.int .u8 (U.hd k))

def U.Bnd (j : Nat) (s : Int) : Prop := 0 ≤ s ∧ ((j = 0 ∧ s ≤ 127) ∨ (j = 1 ∧ s ≤ 8191) ∨ (j = 2 ∧ s ≤ 524287) ∨ (j = 3 ∧ s ≤ 33554431))
theorem U.Bnd.step {j : Nat} {s x : Int} (h : U.Bnd j s) (hj : j < 3) (_hx : 128 ≤ x ∧ x < 192) : U.Bnd (j + 1) (s * 64 + x % 64) := by
  unfold U.Bnd at *; omega
theorem ann_bd {c : Int} (h : U.ann c ≠ 0) (h1 : c ≤ 255) (h0 : 0 ≤ c) : 0 ≤ U.hd (U.ann c) ∧ U.hd (U.ann c) ≤ c ∧ c - U.hd (U.ann c) ≤ 127 ∧ 1 ≤ U.ann c ∧ U.ann c ≤ 4 := by
  rcases U.ann_inv h with ⟨e, hc⟩ | ⟨e, hc⟩ | ⟨e, hc⟩ | ⟨e, hc⟩ <;> rw [e] <;> simp [U.hd] <;> omega

set_option maxHeartbeats 400000 in
theorem decode_out (A : Option Addr) (n cap : Nat) (at_ : Int) (w : World) (h : at_ < 0 ∨ (n : Int) ≤ at_) :
    Calls Tryd.prog 49 #[.slice A n cap, .int .i64 at_] w fun e w' => e = .returned (.tuple #[.int .i32 0, .int .i64 0, errno 4]) ∧ ∃ m, w' = w.drewN m := by
  by_cases h1 : at_ < 0
  · go_enter Tryd.func49, Tryd.ntmps49
    go_wp2
    go_ret3
    exact ⟨rfl, 0, rfl⟩
  · have h2 : (n : Int) ≤ at_ := by omega
    have h1' : decide (at_ < 0) = false := by simpa using h1
    go_enter Tryd.func49, Tryd.ntmps49
    go_wp2
    go_ret3
    exact ⟨rfl, 0, rfl⟩

set_option maxHeartbeats 400000 in
theorem decode_cut (b o n cap : Nat) (t : List Int) (at_ : Nat) (w : World) (hn : n ≤ 9223372036854775807) (hat : at_ < n)
    (c : Int) (hc0 : 0 ≤ c) (hc1 : c ≤ 255) (hc : w.cell? ⟨b, o + at_, none⟩ = some (.int .u8 c)) (k : Nat) (hk : Hid (k = U.ann c)) (hk0 : k = 0 ∨ n < at_ + k) (ht : t.length + 1 + at_ = n) :
    Calls Tryd.prog 49 #[.slice (some ⟨b, o, none⟩) n cap, .int .i64 at_] w fun e w' => e = .returned (decT (U.dec (c :: t))) ∧ ∃ m, w' = w.drewN m := by
  have Hd : Hid (U.dec (c :: t) = none) := by
    show U.dec (c :: t) = none
    rw [U.dec, if_pos (by rw [← hk.out]; omega)]
  clear ht
  by_cases h0 : k = 0
  · subst h0
    go_enter Tryd.func49, Tryd.ntmps49
    go_wp2_with (go_at_call 50; refine (announced_any _ _ hc0 hc1).mono ?_; rintro e w' ⟨rfl, rfl⟩; rw [← hk.out])
    go_ret3
    rw [Hd.out]
    exact ⟨rfl, 0, rfl⟩
  · have h2 : n < at_ + k := by omega
    have hb1 : ((k : Int) == 0) = false := by simp; omega
    have hb2 : decide ((n : Int) - (at_ : Int) < (k : Int)) = true := by simp; omega
    clear hk0
    go_enter Tryd.func49, Tryd.ntmps49
    go_wp2_with (go_at_call 50; refine (announced_any _ _ hc0 hc1).mono ?_; rintro e w' ⟨rfl, rfl⟩; rw [← hk.out])
    go_ret3
    rw [Hd.out]
    exact ⟨rfl, 0, rfl⟩

set_option maxHeartbeats 1000000 in
theorem decode_in (b o n cap : Nat) (t : List Int) (at_ : Nat) (w : World) (hn : n ≤ 9223372036854775807) (hcap : n ≤ cap) (hat : at_ < n) (hcp : at_ + 1 < cap)
    (c : Int) (hc0 : 0 ≤ c) (hc1 : c ≤ 255) (hc : w.cell? ⟨b, o + at_, none⟩ = some (.int .u8 c)) (k : Nat) (hk : Hid (k = U.ann c)) (hk1 : 1 ≤ k) (hk4 : k ≤ 4) (hkn : at_ + k ≤ n) (h : Int) (_hd0 : 0 ≤ h) (hd1 : h ≤ c)
    (hhk : Hid (h = U.hd k)) (hh : w.cell? ⟨1, k, none⟩ = some (.int .u8 h)) (hb127 : c - h ≤ 127) (hrest : ∀ j, j < k - 1 → ∃ x, w.cell? ⟨b, o + (at_ + 1) + j, none⟩ = some (.int .u8 x) ∧ t[j]? = some x ∧ 0 ≤ x ∧ x ≤ 255) (ht : Hid (t.length + 1 + at_ = n)) :
    Calls Tryd.prog 49 #[.slice (some ⟨b, o, none⟩) n cap, .int .i64 at_] w fun e w' => e = .returned (decT (U.dec (c :: t))) ∧ ∃ m, w' = w.drewN m := by
  have Hd : Hid (U.dec (c :: t) = match U.more (c - h) (t.take (k - 1)) with
      | none => none
      | some r => if U.isRune r = true ∧ U.rlen r = k then some (r, k) else none) := by
    show U.dec (c :: t) = _
    rw [U.dec, ← hk.out, ← hhk.out, if_neg (by have := ht.out; omega)]
    cases U.more (c - h) (t.take (k - 1)) <;> rfl
  have hb1 : ((k : Int) == 0) = false := by simp; omega
  have hb2 : decide ((n : Int) - (at_ : Int) < (k : Int)) = false := by simp; omega
  go_enter Tryd.func49, Tryd.ntmps49
  go_wp2_with (go_at_call 50; refine (announced_any _ _ hc0 hc1).mono ?_; rintro e w' ⟨rfl, rfl⟩; rw [← hk.out])
  go_quiet (fail)
  go_wp2
  go_loop [4, 52] (fun r i => ∃ j : Nat, j ≤ k - 1 ∧ i = .int .i64 j ∧ ∃ s : Int, r = .int .i32 s ∧ U.more (c - h) (t.take j) = some s ∧ U.Bnd j s) (fun _ i => k - 1 - (intOf i).toNat)
  case atStart => exact ⟨0, by omega, rfl, c - h, rfl, rfl, by omega, .inl ⟨rfl, by omega⟩⟩
  case round =>
    obtain ⟨j, hj, rfl, s, rfl, hm, hbd⟩ := hrel
    have Hm := Lib.hid hm
    have Hbd := Lib.hid hbd
    have hs0 : 0 ≤ s := hbd.1
    have hs1 : s ≤ 33554431 := by unfold U.Bnd at hbd; omega
    clear hm hbd
    by_cases hlt : j < k - 1
    · obtain ⟨x, hx, hlx, hx0, hx1⟩ := hrest j hlt
      have Hlx := Lib.hid hlx
      have hs2 : s ≤ 524287 := by have := Hbd.out; unfold U.Bnd at this; omega
      clear hlx hrest
      have hlt2 : j < at_ + k - (at_ + 1) := by omega
      by_cases hct : U.cont x = true
      · go_wp2_with (go_at_call 43; refine (continues_any _ _ hx0 hx1).mono ?_; rintro e w' ⟨rfl, rfl⟩)
        go_round
        case rel =>
          have hx2 := U.cont_iff.1 hct
          refine ⟨j + 1, by omega, by go_num, _, rfl, ?_, Hbd.out.step (by omega) hx2⟩
          rw [List.take_add_one, Hlx.out, Option.toList_some, U.more_snoc, Hm.out, Option.bind_some, if_pos hct]
          congr 1
          omega
        case measure => simp [intOf]; omega
      · have hcf : U.cont x = false := by simpa using hct
        clear hct
        go_wp2_with (go_at_call 43; refine (continues_any _ _ hx0 hx1).mono ?_; rintro e w' ⟨rfl, rfl⟩)
        go_ret3
        rw [Hd.out, U.more_short Hlx.out hcf hlt]
        exact ⟨rfl, _, rfl⟩
    · have hje : Hid (j = k - 1) := show j = k - 1 by omega
      have hlt2 : ¬ j < at_ + k - (at_ + 1) := by omega
      clear hrest
      by_cases hr : U.isRune s = true
      · by_cases hl : U.rlen s = k
        · have Hl := Lib.hid hl
          have hb3 : ((U.rlen s : Int) != (k : Int)) = false := by rw [hl]; simp
          clear hl
          go_wp2_with (first | (go_at_call 51; refine (isRune_any _ _).mono ?_; rintro e w' ⟨rfl, rfl⟩) | (go_at_call 52; refine (length_any _ _).mono ?_; rintro e w' ⟨rfl, rfl⟩))
          go_ret3
          rw [Hd.out, ← hje.out, Hm.out]
          exact ⟨by simp [decT, hr, Hl.out], _, rfl⟩
        · have hb3 : ((U.rlen s : Int) != (k : Int)) = true := by rw [bne_iff_ne]; omega
          have Hl := Lib.hid hl
          clear hl
          go_wp2_with (first | (go_at_call 51; refine (isRune_any _ _).mono ?_; rintro e w' ⟨rfl, rfl⟩) | (go_at_call 52; refine (length_any _ _).mono ?_; rintro e w' ⟨rfl, rfl⟩))
          go_ret3
          rw [Hd.out, ← hje.out, Hm.out]
          exact ⟨by simp [decT, errno, Hl.out], _, rfl⟩
      · have hrf : U.isRune s = false := by simpa using hr
        clear hr
        go_wp2_with (first | (go_at_call 51; refine (isRune_any _ _).mono ?_; rintro e w' ⟨rfl, rfl⟩) | (go_at_call 52; refine (length_any _ _).mono ?_; rintro e w' ⟨rfl, rfl⟩))
        go_ret3
        rw [Hd.out, ← hje.out, Hm.out]
        exact ⟨by simp [decT, errno, hrf], _, rfl⟩
set_option maxHeartbeats 1000000 in
/-- As 'decode_in', where nothing lies behind the one byte (the slice's capacity ends there). -/
theorem decode_in_end (b o n : Nat) (at_ : Nat) (w : World) (hn : n ≤ 9223372036854775807) (hcap : n ≤ at_ + 1) (hat : at_ < n)
    (c : Int) (hc0 : 0 ≤ c) (hc1 : c ≤ 255) (hc : w.cell? ⟨b, o + at_, none⟩ = some (.int .u8 c)) (hk : Hid (1 = U.ann c)) (hc127 : c ≤ 127)
    (hh : w.cell? ⟨1, 1, none⟩ = some (.int .u8 0)) :
    Calls Tryd.prog 49 #[.slice (some ⟨b, o, none⟩) n (at_ + 1), .int .i64 at_] w fun e w' => e = .returned (decT (U.dec [c])) ∧ ∃ m, w' = w.drewN m := by
  have hr : U.isRune c = true := U.isRune_iff.2 (by omega)
  have Hd : Hid (U.dec [c] = some (c, 1)) := by
    show U.dec [c] = _
    simp [U.dec, ← hk.out, U.more, U.hd, hr, U.rlen, show c < 128 by omega]
  have Hl : Hid (U.rlen c = 1) := by
    show U.rlen c = 1
    simp [U.rlen, show c < 128 by omega]
  have hb3 : ((U.rlen c : Int) != 1) = false := by rw [Hl.out]; rfl
  have hb2 : decide ((n : Int) - (at_ : Int) < 1) = false := by simp; omega
  go_enter Tryd.func49, Tryd.ntmps49
  go_wp2_with (go_at_call 50; refine (announced_any _ _ hc0 hc1).mono ?_; rintro e w' ⟨rfl, rfl⟩; rw [← hk.out])
  go_quiet (fail)
  go_wp2
  go_loop [4, 52] (fun r i => r = .int .i32 c ∧ i = .int .i64 0) (fun _ _ => 0)
  case atStart => exact ⟨rfl, rfl⟩
  case round =>
    obtain ⟨rfl, rfl⟩ := hrel
    go_wp2_with (first | (go_at_call 51; refine (isRune_any _ _).mono ?_; rintro e w' ⟨rfl, rfl⟩) | (go_at_call 52; refine (length_any _ _).mono ?_; rintro e w' ⟨rfl, rfl⟩))
    go_ret3
    rw [Hd.out]
    exact ⟨rfl, _, rfl⟩
/-- The answer of utf.Decode over the bytes l, at any place. -/
def decAns (l : List Int) (at_ : Int) : Value :=
  if at_ < 0 ∨ (l.length : Int) ≤ at_ then .tuple #[.int .i32 0, .int .i64 0, errno 4] else decT (U.dec (l.drop at_.toNat))
theorem decAns_at (l : List Int) (k : Nat) (h : k < l.length) : decAns l k = decT (U.dec (l.drop k)) := by
  unfold decAns
  rw [if_neg (by omega), Int.toNat_natCast]

theorem decode_any {B : Nat} (A : Option Addr) (n cap : Nat) (l : List Int) (at_ : Int) (w : World) (hb : Byts w B A l) (hh : Heads w) (hl : l.length = n) (hcap : n ≤ cap) (hmax : n ≤ 9223372036854775807) :
    Calls Tryd.prog 49 #[.slice A n cap, .int .i64 at_] w fun e w' => e = .returned (decAns l at_) ∧ ∃ m, w' = w.drewN m := by
  by_cases ho : at_ < 0 ∨ (n : Int) ≤ at_
  · have e : decAns l at_ = .tuple #[.int .i32 0, .int .i64 0, errno 4] := by unfold decAns; rw [if_pos (by omega)]
    rw [e]
    exact decode_out A n cap at_ w ho
  · obtain ⟨k, rfl⟩ := Int.eq_ofNat_of_zero_le (show 0 ≤ at_ by omega)
    have hk : k < l.length := by omega
    rw [decAns_at l k hk]
    obtain ⟨hbt, hb2⟩ := hb
    obtain ⟨b, o, rfl, _, hcell⟩ := hb2 (by omega)
    rw [List.drop_eq_getElem_cons hk]
    have hc := hbt l[k] (List.getElem_mem hk)
    have hck := hcell k _ (List.getElem?_eq_getElem hk)
    have ht : (l.drop (k + 1)).length + 1 + k = n := by rw [List.length_drop]; omega
    have hrest : ∀ j x, (l.drop (k + 1))[j]? = some x → w.cell? ⟨b, o + (k + 1) + j, none⟩ = some (.int .u8 x) ∧ 0 ≤ x ∧ x ≤ 255 := by
      intro j x hx
      rw [List.getElem?_drop] at hx
      have hm := hbt x (List.mem_of_getElem? hx)
      refine ⟨?_, hm.1, hm.2⟩
      rw [show o + (k + 1) + j = o + (k + 1 + j) by omega]
      exact hcell _ _ hx
    by_cases h0 : U.ann l[k] = 0 ∨ n < k + U.ann l[k]
    · exact decode_cut b o n cap (l.drop (k + 1)) k w hmax (by omega) l[k] hc.1 hc.2 hck (U.ann l[k]) rfl h0 ht
    · obtain ⟨hd0, hd1, hd2, hk1, hk4⟩ := ann_bd (show U.ann l[k] ≠ 0 by omega) hc.2 hc.1
      by_cases hcp : k + 1 < cap
      · refine decode_in b o n cap (l.drop (k + 1)) k w hmax hcap (by omega) hcp l[k] hc.1 hc.2 hck (U.ann l[k]) rfl hk1 hk4 (by omega) (U.hd (U.ann l[k])) hd0 hd1 rfl (hh _ hk1 hk4) hd2 ?_ ht
        intro j hj
        have hjl : j < (l.drop (k + 1)).length := by omega
        exact ⟨_, (hrest j _ (List.getElem?_eq_getElem hjl)).1, List.getElem?_eq_getElem hjl, (hrest j _ (List.getElem?_eq_getElem hjl)).2⟩
      · obtain rfl : cap = k + 1 := by omega
        have ha : U.ann l[k] = 1 := by omega
        have hnil : l.drop (k + 1) = [] := List.drop_eq_nil_of_le (by omega)
        rw [hnil]
        have h127 : l[k] ≤ 127 := by rw [ha] at hd2; simpa [U.hd] using hd2
        exact decode_in_end b o n k w hmax hcap (by omega) l[k] hc.1 hc.2 hck ha.symm h127 (by simpa [U.hd] using hh 1 (by omega) (by omega))
end Go.Proofs.YtmkpomnhmepmcaaDoor
