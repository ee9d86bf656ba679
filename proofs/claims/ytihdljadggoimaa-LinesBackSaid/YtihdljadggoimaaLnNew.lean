/-
  The contracts of bytes.Count at one byte, of lines.New and of the reference's Starts.
-/
import Derived.Test.YtihdljadggoimaaLnOffset
import Derived.Test.YtihdljadggoimaaApp
import Derived.Shelf.Bytes.SlCountOne
namespace Go.Proofs.Ytihdljadggoimaa
open Go.RowKit

theorem runCount (args : Array Value) (w : World) : (callFunc 27 args).run Try.prog w = ((Extern.BytealgCount.count args).run Try.prog w).andThen fun v w' => .ok (.value v) w' :=
  @run_callFunc_extern Try.prog 27 _ Extern.BytealgCount.count Try.func27 (by kernel_rfl) (by kernel_rfl) (by kernel_rfl) (by kernel_rfl) args w
theorem countByte_le (xs : List Int) (c : UInt8) : Lib.countByte (Lib.bytesOf xs) c ≤ xs.length := by
  have h : (Lib.bytesOf xs).length = xs.length := by simp [Lib.bytesOf]
  rw [← h]
  exact List.count_le_length
/-- The entry at whatever slice. -/
theorem count_entry (A : Option Addr) (n cap : Nat) (l : List Int) (c : Int) (w : World) {B : Nat} (hb : NumsK .u8 w B A l) (hl : l.length = n) :
    ∃ m : Nat, m ≤ n ∧ (Extern.BytealgCount.count #[.slice A n cap, .int .u8 c]).run Try.prog w = .ok (.int .i64 m) w := by
  cases A with
  | none => exact ⟨0, by omega, Lib.run_countNil w n cap c⟩
  | some a =>
    refine ⟨_, ?_, Lib.run_countAt w a n cap l hl (fun i hi => ?_) c⟩
    · rw [← hl]; exact countByte_le _ _
    · obtain ⟨b, o, e, _, hc⟩ := hb (by omega)
      cases e
      have hp : (⟨b, o, none⟩ : Addr).add i = ⟨b, o + i, none⟩ := by unfold Addr.add; split <;> simp_all
      rw [hp, hc i _ (List.getElem?_eq_getElem (by omega))]
      simp [List.getD, List.getElem?_eq_getElem (show i < l.length by omega)]
set_option maxHeartbeats 1000000 in
theorem count_run (A : Option Addr) (n cap g : Nat) (l : List Int) (c : Int) (w : World) {B : Nat} (hb : NumsK .u8 w B A l) (hl : l.length = n) (hc : w.cell? ⟨g, 0, none⟩ = some (.int .u8 c)) :
    Calls Try.prog 23 #[.slice A n cap, .slice (some ⟨g, 0, none⟩) 1 1] w fun e w' => (∃ m : Nat, m ≤ n ∧ e = .returned (.int .i64 m)) ∧ w = w' := by
  obtain ⟨m, hm, he⟩ := count_entry A n cap l c w hb hl
  have h1 := runCount
  clear hb
  go_enter Try.func23, Try.ntmps23
  go_wp2
  go_ret
  exact ⟨⟨m, hm, rfl⟩, rfl⟩
/-- What is known of a table that was made. -/
def TableOf (w : World) (v : Value) (L : List Int) (z : Nat) : Prop := ∃ A cap, v = .agg #[.slice A L.length cap, .int .i64 z] ∧ L.length ≤ cap ∧ cap ≤ 9223372036854775807 ∧ Nums w w.heap.size A L
set_option maxRecDepth 100000 in
set_option maxHeartbeats 2000000 in
theorem new_run (A : Option Addr) (n cap : Nat) (l : List Int) (w : World) (hb : NumsK .u8 w w.heap.size A l) (hl : Hid (l.length = n)) (hn : n ≤ 300) :
    Calls Try.prog 16 #[.slice A n cap] w fun e w' => ∃ v, e = .returned v ∧ TableOf w' v (Ln.starts l) n ∧ Below w.heap.size w w' := by
  have b1 : Below w.heap.size w (w.alloc (.cells #[.slice none 0 0, .int .i64 0] 24)) := (Below.refl _ _).alloc (Nat.le_refl _) _
  have B1 := Lib.hid b1
  have B2 : Hid (Below w.heap.size w ((w.alloc (.cells #[.slice none 0 0, .int .i64 0] 24)).alloc (.cells #[.int .u8 10] 5))) := b1.alloc (by simp) _
  have hC := Lib.hid (count_run A n cap (w.heap.size + 1) l 10 ((w.alloc (.cells #[.slice none 0 0, .int .i64 0] 24)).alloc (.cells #[.int .u8 10] 5)) (B := w.heap.size) (hb.below B2.out (Nat.le_refl _)) hl.out (by rw [World.cell?_alloc_at _ _ _ _ (by simp)]; rfl))
  have HB := Lib.hid hb
  clear b1 hb
  go_enter Try.func16, Try.ntmps16
  go_wp2_with fail
  refine hC.out.mono ?_
  rintro e w1 ⟨⟨m, hm, rfl⟩, rfl⟩
  obtain ⟨w2, hmk, o2, g2⟩ := run_makeK int_slice ((w.alloc (.cells #[.slice none 0 0, .int .i64 0] 24)).alloc (.cells #[.int .u8 10] 5)) (w.heap.size + 1) 1 (1 + m) (by omega) (by omega) (by simp)
  have hmk' : (Instr.makeSlice 22 (.int .i64 1) (.int .i64 (1 + (m : Int)))).run Try.prog ((w.alloc (.cells #[.slice none 0 0, .int .i64 0] 24)).alloc (.cells #[.int .u8 10] 5)) = .ok (.slice (some ⟨w.heap.size + 1 + 1, 0, none⟩) 1 (1 + m)) w2 := by
    simpa using hmk
  have O2 : Hid (OwnK .i64 3 w2 (w.heap.size + 1) (.slice (some ⟨w.heap.size + 1 + 1, 0, none⟩) 1 (1 + m)) (Ln.starts (l.take 0))) := by
    show OwnK _ _ _ _ _ _
    have := o2
    simpa [Ln.starts, Ln.from_] using this
  have B3 : Hid (Below (w.heap.size + 1) (w.alloc (.cells #[.slice none 0 0, .int .i64 0] 24)) w2) :=
    (((Below.refl _ _).alloc (by simp) _).grown g2 (by simp) (by intro g h; cases h))
  clear hmk o2 g2
  go_wp2_with fail
  go_loopg [3, 13] (n + 1) (fun h s3 s13 wr => ∃ p : Nat, Hid (p + h = n + 1) ∧ p ≤ n ∧ s13 = .int .i64 p ∧ Hid (OwnK .i64 3 wr (w.heap.size + 1) s3 (Ln.starts (l.take p))) ∧ Hid (Below (w.heap.size + 1) (w.alloc (.cells #[.slice none 0 0, .int .i64 0] 24)) wr))
  case atStart => exact ⟨0, by show _ = _; omega, by omega, rfl, O2, B3⟩
  case round =>
    obtain ⟨p, hp, hpn, rfl, O, BW⟩ := hrel
    by_cases hlt : p < n
    · obtain ⟨b, o, rfl, hbl, hcell⟩ := HB.out (by have := hl.out; omega)
      have hc : l[p]? = some (l[p]'(by rw [hl.out]; exact hlt)) := List.getElem?_eq_getElem _
      generalize l[p]'(by rw [hl.out]; exact hlt) = c at hc
      have hx : wr.cell? ⟨b, o + p, none⟩ = some (.int .u8 c) := (BW.out.cell (p := ⟨b, o + p, none⟩) (by show b < _; omega)).trans (by
        rw [World.cell?_alloc_lt _ _ ⟨b, o + p, none⟩ hbl]; exact hcell p c hc)
      have ST := Lib.hid (Ln.starts_take hc)
      have hlen : Hid ((Ln.starts (l.take p)).length ≤ 500000) := by
        have := Ln.starts_length (l.take p)
        rw [List.length_take] at this
        show _ ≤ _
        omega
      have hsz := BW.out.size
      simp at hsz
      clear hcell hc
      by_cases h10 : c = 10
      · subst h10
        have OA : Hid (OwnK .i64 3 (wr.alloc (.cells #[.int .i64 ((p : Int) + 1)] 3)) (w.heap.size + 1) u3 (Ln.starts (l.take p))) := World.ownsRow.alloc O.out _
        have NA : Hid (NumsK .i64 (wr.alloc (.cells #[.int .i64 ((p : Int) + 1)] 3)) (wr.heap.size + 1) (some ⟨wr.heap.size, 0, none⟩) [(p : Int) + 1]) := by
          intro _
          refine ⟨_, _, rfl, by omega, fun i x hx => ?_⟩
          match i, hx with
          | 0, hx => cases hx; rw [World.cell?_alloc_at _ _ _ _ rfl]; rfl
        have ST' : Hid (Ln.starts (l.take (p + 1)) = Ln.starts (l.take p) ++ [(p : Int) + 1]) := by
          have := ST.out
          rwa [if_pos rfl] at this
        have hbase : w.heap.size + 1 ≤ (wr.alloc (.cells #[.int .i64 ((p : Int) + 1)] 3)).heap.size := by simp; omega
        clear ST
        go_wp2_with
          (at_builtin
           refine wpList_app int_slice _ rfl (.tmp 20) (.tmp 23) rfl (w.heap.size + 1) u3 _ rfl OA.out (wr.heap.size + 1) (some ⟨wr.heap.size, 0, none⟩) 1 1 [(p : Int) + 1] rfl NA.out rfl hlen.out (by simp) hbase ?_
           intro v3 w3 o3 g3 t3
           have BV : Hid (Below (w.heap.size + 1) (w.alloc (.cells #[.slice none 0 0, .int .i64 0] 24)) w3) := (BW.out.alloc hsz _).grown g3 hbase (own_ge OA.out)
           have OV : Hid (OwnK .i64 3 w3 (w.heap.size + 1) v3 (Ln.starts (l.take (p + 1)))) := by show OwnK _ _ _ _ _ _; rw [ST'.out]; exact o3
           clear o3 g3 t3)
        go_roundg (n - p)
        case measure => have := hp.out; omega
        case rel => exact ⟨p + 1, by show _ = _; have := hp.out; omega, by omega, by go_num, OV.out, BV.out⟩
      · have ST' : Hid (Ln.starts (l.take (p + 1)) = Ln.starts (l.take p)) := by
          have := ST.out
          rwa [if_neg h10, List.append_nil] at this
        have OV : Hid (OwnK .i64 3 wr (w.heap.size + 1) u3 (Ln.starts (l.take (p + 1)))) := by show OwnK _ _ _ _ _ _; rw [ST'.out]; exact O.out
        clear ST ST'
        go_wp2_with fail
        go_roundg (n - p)
        case measure => have := hp.out; omega
        case rel => exact ⟨p + 1, by show _ = _; have := hp.out; omega, by omega, by go_num, OV.out, BW.out⟩
    · obtain rfl : p = n := by omega
      have e0 := (BW.out.cell (p := ⟨w.heap.size, 0, none⟩) (by simp)).trans (World.cell?_alloc_at _ _ _ _ rfl)
      have e1 := (BW.out.cell (p := ⟨w.heap.size, 1, none⟩) (by simp)).trans (World.cell?_alloc_at _ _ _ _ rfl)
      have f0 := (BW.out.frozen (p := ⟨w.heap.size, 0, none⟩) (by simp)).trans (World.frozen?_alloc_at _ _ _ _ rfl)
      have f1 := (BW.out.frozen (p := ⟨w.heap.size, 1, none⟩) (by simp)).trans (World.frozen?_alloc_at _ _ _ _ rfl)
      have O' : OwnK .i64 3 wr (w.heap.size + 1) u3 (Ln.starts l) := by
        have := O.out
        rwa [List.take_of_length_le (by rw [hl.out]; exact Nat.le_refl _)] at this
      obtain ⟨A9, cap9, hv9, hc9, hm9, y9⟩ := O'.nums
      subst hv9
      have O9 := Lib.hid O'
      have BF : Hid (Below w.heap.size w wr) := B1.out.trans (BW.out.mono (by omega))
      clear O' O y9
      go_wp2_with fail
      (try simp only [Exit.inBlock, Exit.then])
      refine bodyPost_ret (v := .agg #[.slice A9 (Ln.starts l).length cap9, .int .i64 p]) (by rw [results_cell1 rfl]; go_simp; try rfl) rfl ⟨_, rfl, ?_, ?_⟩
      · obtain ⟨A8, cap8, hv8, hc8, hm8, y8⟩ := ((O9.out.setCell (p := ⟨w.heap.size, 0, none⟩) (by simp) (.slice A9 (Ln.starts l).length cap9)).setCell (p := ⟨w.heap.size, 1, none⟩) (by simp) (.int .i64 p)).nums
        cases hv8
        exact ⟨_, _, rfl, hc8, by unfold maxLen at hm8; exact hm8, y8⟩
      · exact (BF.out.setCell (by simp) _).setCell (by simp) _
set_option maxRecDepth 100000 in
set_option maxHeartbeats 2000000 in
theorem starts_run (A : Option Addr) (n cap : Nat) (l : List Int) (w : World) (hb : NumsK .u8 w w.heap.size A l) (hl : Hid (l.length = n)) (hn : n ≤ 300) :
    Calls Try.prog 17 #[.slice A n cap] w fun e w' => ∃ A9 cap9, e = .returned (.slice A9 (Ln.starts l).length cap9) ∧ (Ln.starts l).length ≤ cap9 ∧ cap9 ≤ 9223372036854775807 ∧ Nums w' w'.heap.size A9 (Ln.starts l) ∧ Below w.heap.size w w' := by
  have HB := Lib.hid hb
  have O1 : Hid (OwnK .i64 3 (w.alloc (.cells #[.int .i64 0] 3)) w.heap.size (.slice (some ⟨w.heap.size, 0, none⟩) 1 1) (Ln.starts (l.take 0))) := by
    show OwnK _ _ _ _ _ _
    have := OwnK.lit .i64 3 w w.heap.size [0] (Nat.le_refl _) (by simp)
    simpa [Ln.starts, Ln.from_] using this
  have B1 : Hid (Below w.heap.size w (w.alloc (.cells #[.int .i64 0] 3))) := (Below.refl _ _).alloc (Nat.le_refl _) _
  clear hb
  go_enter Try.func17, Try.ntmps17
  go_wp2_with fail
  go_loopg [3, 4] (n + 1) (fun h s3 s13 wr => ∃ p : Nat, Hid (p + h = n + 1) ∧ p ≤ n ∧ s13 = .int .i64 p ∧ Hid (OwnK .i64 3 wr w.heap.size s3 (Ln.starts (l.take p))) ∧ Hid (Below w.heap.size w wr))
  case atStart => exact ⟨0, by show _ = _; omega, by omega, rfl, O1, B1⟩
  case round =>
    obtain ⟨p, hp, hpn, rfl, O, BW⟩ := hrel
    by_cases hlt : p < n
    · obtain ⟨b, o, rfl, hbl, hcell⟩ := HB.out (by have := hl.out; omega)
      have hc : l[p]? = some (l[p]'(by rw [hl.out]; exact hlt)) := List.getElem?_eq_getElem _
      generalize l[p]'(by rw [hl.out]; exact hlt) = c at hc
      have hx : wr.cell? ⟨b, o + p, none⟩ = some (.int .u8 c) := (BW.out.cell (p := ⟨b, o + p, none⟩) hbl).trans (hcell p c hc)
      have ST := Lib.hid (Ln.starts_take hc)
      have hlen : Hid ((Ln.starts (l.take p)).length ≤ 500000) := by
        have := Ln.starts_length (l.take p)
        rw [List.length_take] at this
        show _ ≤ _
        omega
      have hsz := BW.out.size
      clear hcell hc
      by_cases h10 : c = 10
      · subst h10
        have OA : Hid (OwnK .i64 3 (wr.alloc (.cells #[.int .i64 ((p : Int) + 1)] 3)) w.heap.size u3 (Ln.starts (l.take p))) := World.ownsRow.alloc O.out _
        have NA : Hid (NumsK .i64 (wr.alloc (.cells #[.int .i64 ((p : Int) + 1)] 3)) (wr.heap.size + 1) (some ⟨wr.heap.size, 0, none⟩) [(p : Int) + 1]) := by
          intro _
          refine ⟨_, _, rfl, by omega, fun i x hx => ?_⟩
          match i, hx with
          | 0, hx => cases hx; rw [World.cell?_alloc_at _ _ _ _ rfl]; rfl
        have ST' : Hid (Ln.starts (l.take (p + 1)) = Ln.starts (l.take p) ++ [(p : Int) + 1]) := by
          have := ST.out
          rwa [if_pos rfl] at this
        have hbase : w.heap.size ≤ (wr.alloc (.cells #[.int .i64 ((p : Int) + 1)] 3)).heap.size := by simp; omega
        clear ST
        go_wp2_with
          (at_builtin
           refine wpList_app int_slice _ rfl (.tmp 17) (.tmp 20) rfl w.heap.size u3 _ rfl OA.out (wr.heap.size + 1) (some ⟨wr.heap.size, 0, none⟩) 1 1 [(p : Int) + 1] rfl NA.out rfl hlen.out (by simp) hbase ?_
           intro v3 w3 o3 g3 t3
           have BV : Hid (Below w.heap.size w w3) := (BW.out.alloc hsz _).grown g3 hbase (own_ge OA.out)
           have OV : Hid (OwnK .i64 3 w3 w.heap.size v3 (Ln.starts (l.take (p + 1)))) := by show OwnK _ _ _ _ _ _; rw [ST'.out]; exact o3
           clear o3 g3 t3)
        go_roundg (n - p)
        case measure => have := hp.out; omega
        case rel => exact ⟨p + 1, by show _ = _; have := hp.out; omega, by omega, by go_num, OV.out, BV.out⟩
      · have ST' : Hid (Ln.starts (l.take (p + 1)) = Ln.starts (l.take p)) := by
          have := ST.out
          rwa [if_neg h10, List.append_nil] at this
        have OV : Hid (OwnK .i64 3 wr w.heap.size u3 (Ln.starts (l.take (p + 1)))) := by show OwnK _ _ _ _ _ _; rw [ST'.out]; exact O.out
        clear ST ST'
        go_wp2_with fail
        go_roundg (n - p)
        case measure => have := hp.out; omega
        case rel => exact ⟨p + 1, by show _ = _; have := hp.out; omega, by omega, by go_num, OV.out, BW.out⟩
    · obtain rfl : p = n := by omega
      have O' : OwnK .i64 3 wr w.heap.size u3 (Ln.starts l) := by
        have := O.out
        rwa [List.take_of_length_le (by rw [hl.out]; exact Nat.le_refl _)] at this
      obtain ⟨A9, cap9, hv9, hc9, hm9, y9⟩ := O'.nums
      subst hv9
      have Y9 := Lib.hid y9
      clear O' O y9
      go_wp2_with fail
      go_ret
      exact ⟨_, _, rfl, hc9, by unfold maxLen at hm9; exact hm9, Y9.out, BW.out⟩
end Go.Proofs.Ytihdljadggoimaa
