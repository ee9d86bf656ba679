/-
  Stage 10: the document's Write.
-/
import Derived.Test.YtcieibidnpemjaaDoorMx04
namespace Go.Proofs.YtcieibidnpemjaaDoor
open Go.RowKit Go.Sort
set_option linter.unusedSimpArgs false
set_option maxRecDepth 100000 in
set_option maxHeartbeats 4000000 in
theorem WriteD_run (l : List UInt8) (w : World) (hl : l.length ≤ 10000) :
    Calls Tryd.prog 14 #[.string (bs l)] w fun e w' => e = .returned (.string (bs (wrF l))) ∧ Below w.heap.size w w' := by
  have hsz := bs_size l
  have hwl := fun i => Nat.le_trans (wrM_len (l.take i)) (Nat.mul_le_mul_left 4 (show (l.take i).length ≤ 10000 by rw [List.length_take]; omega))
  have HWL : Hid (∀ i, (bi (34 :: wrM (l.take i))).length ≤ 40001) := fun i => by rw [bi_length]; have := hwl i; simp only [List.length_cons]; omega
  clear hwl
  obtain ⟨L, hL⟩ : ∃ L, l.length = L := ⟨_, rfl⟩
  rw [hL] at hsz hl
  have HL := Lib.hid hL
  have O0 : Hid (OwnK .u8 5 (w.alloc (.cells #[.int .u8 34] 5)) w.heap.size (.slice (some ⟨w.heap.size, 0, none⟩) 1 1) (bi (34 :: wrM (l.take 0)))) := OwnK.lit .u8 5 w w.heap.size [34] (Nat.le_refl _) (by simp)
  have B0 : Hid (Below w.heap.size w (w.alloc (.cells #[.int .u8 34] 5))) := (Below.refl _ w).alloc (Nat.le_refl _) _
  obtain ⟨S, hS⟩ : ∃ S, w.heap.size = S := ⟨_, rfl⟩
  rw [hS] at O0 B0 ⊢
  clear hL
  go_enter Tryd.func14, Tryd.ntmps14
  go_wp2_with fail
  generalize w.alloc (.cells #[.int .u8 34] 5) = W0 at *
  have HS := Lib.hid hS
  clear hS
  go_loopg [4, 5] (L + 1) (fun h s4 s5 wr => ∃ i : Nat, s5 = .int .i64 (i : Int) ∧ Hid (i + h = L + 1) ∧ i ≤ L ∧ Hid (OwnK .u8 5 wr S s4 (bi (34 :: wrM (l.take i)))) ∧ Hid (Below S w wr))
  case atStart => exact ⟨0, rfl, by show _ = _; omega, by omega, by first | exact O0 | (rw [HS.out]; exact O0), B0⟩
  case round =>
    clear O0 B0
    obtain ⟨i, rfl, HI, hin, O, HB⟩ := hrel
    have hbs : S ≤ wr.heap.size := by rw [← HS.out]; exact HB.out.size
    by_cases hlt : i < L
    · have hiz : (i : Int) < (L : Int) := by omega
      obtain ⟨c, hc⟩ : ∃ c, l[i]? = some c := ⟨l[i]'(by have := HL.out; omega), List.getElem?_eq_getElem _⟩
      have htk : Hid (bi (34 :: wrM (l.take (i + 1))) = bi (34 :: wrM (l.take i)) ++ bi (wr1 c)) := by
        show _ = _
        rw [bi_app, wrM_take hc]
        rfl
      have hx0 := bs_get hc
      have hcb : c.toNat < 256 := c.toNat_lt
      by_cases h34 : c = 34
      · subst h34
        have hxc : ∀ W, (Instr.index 9 (.string (bs l)) (.int .i64 (i : Int))).run Tryd.prog W = .ok (.int .u8 34) W := hx0
        have HW1 : Hid (bi (wr1 34) = [92, 34]) := by show _ = _; decide
        clear hx0 hcb hc
        have NA : Hid (NumsK .u8 (wr.alloc (.cells #[.int .u8 (92), .int .u8 (34)] 5)) (wr.heap.size + 1) (some ⟨wr.heap.size, 0, none⟩) [92, 34]) := nums_new wr [92, 34]
        have OA : Hid (OwnK .u8 5 (wr.alloc (.cells #[.int .u8 (92), .int .u8 (34)] 5)) S u4 (bi (34 :: wrM (l.take i)))) := World.ownsRow.alloc O.out _
        have hbase : S ≤ (wr.alloc (.cells #[.int .u8 (92), .int .u8 (34)] 5)).heap.size := by have := hbs; simp; omega
        clear O
        go_wp2_with
          (at_builtin
           refine wpList_app u8_slice _ rfl (.tmp 23) (.tmp 25) rfl S u4 _ rfl OA.out (wr.heap.size + 1) (some ⟨wr.heap.size, 0, none⟩) 2 2 [92, 34] rfl NA.out rfl (Nat.le_trans (HWL.out i) (by decide)) (by simp) hbase ?_
           intro v3 w3 o3 g3 t3
           have BV : Hid (Below S w w3) := (HB.out.alloc hbs _).grown g3 hbase (own_ge OA.out)
           have OV : Hid (OwnK .u8 5 w3 S v3 (bi (34 :: wrM (l.take (i + 1))))) := by show OwnK _ _ _ _ _ _; rw [htk.out, HW1.out]; exact o3
           clear o3 g3 t3)
        go_roundg (L - i)
        case measure => have := HI.out; omega
        case rel => exact ⟨i + 1, by go_num, by show _ = _; have := HI.out; omega, by omega, OV.out, BV.out⟩
      · have e34 : ((c.toNat : Int) == 34) = false := eq_byte h34
        by_cases h92 : c = 92
        · subst h92
          have hxc : ∀ W, (Instr.index 9 (.string (bs l)) (.int .i64 (i : Int))).run Tryd.prog W = .ok (.int .u8 92) W := hx0
          have HW1 : Hid (bi (wr1 92) = [92, 92]) := by show _ = _; decide
          clear hx0 hcb hc
          have NA : Hid (NumsK .u8 (wr.alloc (.cells #[.int .u8 (92), .int .u8 (92)] 5)) (wr.heap.size + 1) (some ⟨wr.heap.size, 0, none⟩) [92, 92]) := nums_new wr [92, 92]
          have OA : Hid (OwnK .u8 5 (wr.alloc (.cells #[.int .u8 (92), .int .u8 (92)] 5)) S u4 (bi (34 :: wrM (l.take i)))) := World.ownsRow.alloc O.out _
          have hbase : S ≤ (wr.alloc (.cells #[.int .u8 (92), .int .u8 (92)] 5)).heap.size := by have := hbs; simp; omega
          clear O
          go_wp2_with
            (at_builtin
             refine wpList_app u8_slice _ rfl (.tmp 23) (.tmp 25) rfl S u4 _ rfl OA.out (wr.heap.size + 1) (some ⟨wr.heap.size, 0, none⟩) 2 2 [92, 92] rfl NA.out rfl (Nat.le_trans (HWL.out i) (by decide)) (by simp) hbase ?_
             intro v3 w3 o3 g3 t3
             have BV : Hid (Below S w w3) := (HB.out.alloc hbs _).grown g3 hbase (own_ge OA.out)
             have OV : Hid (OwnK .u8 5 w3 S v3 (bi (34 :: wrM (l.take (i + 1))))) := by show OwnK _ _ _ _ _ _; rw [htk.out, HW1.out]; exact o3
             clear o3 g3 t3)
          go_roundg (L - i)
          case measure => have := HI.out; omega
          case rel => exact ⟨i + 1, by go_num, by show _ = _; have := HI.out; omega, by omega, OV.out, BV.out⟩
        · have e92 : ((c.toNat : Int) == 92) = false := eq_byte h92
          by_cases hpl : 32 ≤ c.toNat ∧ c.toNat < 127
          · obtain ⟨hp1, hp2⟩ := hpl
            have HW1 : Hid (bi (wr1 c) = [(c.toNat : Int)]) := by
              show _ = _
              unfold wr1
              rw [if_neg (fun e => e.elim h34 h92), if_pos ⟨hp1, hp2⟩]
              rfl
            have hg1 : (32 : Int) ≤ (c.toNat : Int) := by omega
            have hg2 : (c.toNat : Int) < 127 := by omega
            clear hc h34 h92
            generalize c.toNat = cn at *
            have NA : Hid (NumsK .u8 (wr.alloc (.cells #[.int .u8 ((cn : Int))] 5)) (wr.heap.size + 1) (some ⟨wr.heap.size, 0, none⟩) [(cn : Int)]) := nums_new wr [(cn : Int)]
            have OA : Hid (OwnK .u8 5 (wr.alloc (.cells #[.int .u8 ((cn : Int))] 5)) S u4 (bi (34 :: wrM (l.take i)))) := World.ownsRow.alloc O.out _
            have hbase : S ≤ (wr.alloc (.cells #[.int .u8 ((cn : Int))] 5)).heap.size := by have := hbs; simp; omega
            clear O
            go_wp2_with
              (at_builtin
               refine wpList_app u8_slice _ rfl (.tmp 33) (.tmp 35) rfl S u4 _ rfl OA.out (wr.heap.size + 1) (some ⟨wr.heap.size, 0, none⟩) 1 1 [(cn : Int)] rfl NA.out rfl (Nat.le_trans (HWL.out i) (by decide)) (by simp) hbase ?_
               intro v3 w3 o3 g3 t3
               have BV : Hid (Below S w w3) := (HB.out.alloc hbs _).grown g3 hbase (own_ge OA.out)
               have OV : Hid (OwnK .u8 5 w3 S v3 (bi (34 :: wrM (l.take (i + 1))))) := by show OwnK _ _ _ _ _ _; rw [htk.out, HW1.out]; exact o3
               clear o3 g3 t3)
            go_roundg (L - i)
            case measure => have := HI.out; omega
            case rel => exact ⟨i + 1, by go_num, by show _ = _; have := HI.out; omega, by omega, OV.out, BV.out⟩
          · obtain ⟨cn, hcn⟩ : ∃ cn, c.toNat = cn := ⟨_, rfl⟩
            have hpl2 : ¬ (32 ≤ cn ∧ cn < 127) := by rw [← hcn]; exact hpl
            rw [hcn] at hx0 e34 e92 hcb
            obtain ⟨a1, ha1⟩ : ∃ a, (hexD (cn / 16)).toNat = a := ⟨_, rfl⟩
            obtain ⟨a2, ha2⟩ : ∃ a, (hexD (cn % 16)).toNat = a := ⟨_, rfl⟩
            have HW1 : Hid (bi (wr1 c) = [92, 120, (a1 : Int), (a2 : Int)]) := by
              show _ = _
              unfold wr1
              rw [if_neg (fun e => e.elim h34 h92), if_neg hpl, hcn, ← ha1, ← ha2]
              rfl
            have hix1 := hexD_at (show cn / 16 < 16 by omega)
            have hix2 := hexD_at (show cn % 16 < 16 by omega)
            clear hc h34 h92 hpl hcn
            rcases Nat.lt_or_ge cn 32 with hlo | hhi
            · have hg1 : ¬ (32 : Int) ≤ (cn : Int) := by omega
              go_wp2_with fail
              go_upto_region 11 with fail
              refine rg_begin (fun _ => True) (by kernel_rfl) trivial (fun hS => ?_)
              have O1 := Lib.hid (O.out.below ((Below.refl _ wr).drew))
              have HB1 := Lib.hid HB.out.drew
              have hbs1 : S ≤ wr.drew.heap.size := hbs
              clear O HB hbs
              have O := O1
              have HB := HB1
              have hbs := hbs1
              clear O1 HB1 hbs1
              generalize wr.drew = wq at *
              refine rg_take 0 (u4) rfl (by kernel_rfl) (by kernel_rfl) (by kernel_rfl) (fun _ _ _ h => h) rfl (fun w _ => ?_) hS ?_
              · go_simp
              simp only [zA, zB, zC, Act.put, zD, zE, zF]
              refine rg_take 1 (.string ⟨#[48, 49, 50, 51, 52, 53, 54, 55, 56, 57, 97, 98, 99, 100, 101, 102]⟩) rfl (by kernel_rfl) (by kernel_rfl) (by kernel_rfl) (fun _ _ _ h => h) rfl (fun w _ => ?_) hS ?_
              · go_simp
              simp only [zA, zB, zC, Act.put, zD, zE, zF]
              refine rg_take 2 (.int .u8 (cn : Int)) rfl (by kernel_rfl) (by kernel_rfl) (by kernel_rfl) (fun _ _ _ h => h) rfl (fun w _ => ?_) hS ?_
              · go_simp
              simp only [zA, zB, zC, Act.put, zD, zE, zF]
              refine rg_take 3 (.int .u8 ((cn / 16 : Nat) : Int)) rfl (by kernel_rfl) (by kernel_rfl) (by kernel_rfl) (fun _ _ _ h => h) rfl (fun w hSw => ?_) hS ?_
              · have e1 : IntKind.u8.wrap ((cn : Int) / 16) = (cn : Int) / 16 := by (rw [IntKind.wrap_u8]; omega)
                go_simp
              simp only [zA, zB, zC, Act.put, zD, zE, zF]
              refine rg_take 4 (.int .u8 (a1 : Int)) rfl (by kernel_rfl) (by kernel_rfl) (by kernel_rfl) (fun _ _ _ h => h) rfl (fun w hSw => (index_exec rfl rfl rfl hix1).trans (by rw [ha1])) hS ?_
              simp only [zA, zB, zC, Act.put, zD, zE, zF]
              refine rg_take 5 (.string ⟨#[48, 49, 50, 51, 52, 53, 54, 55, 56, 57, 97, 98, 99, 100, 101, 102]⟩) rfl (by kernel_rfl) (by kernel_rfl) (by kernel_rfl) (fun _ _ _ h => h) rfl (fun w _ => ?_) hS ?_
              · go_simp
              simp only [zA, zB, zC, Act.put, zD, zE, zF]
              refine rg_take 6 (.int .u8 (cn : Int)) rfl (by kernel_rfl) (by kernel_rfl) (by kernel_rfl) (fun _ _ _ h => h) rfl (fun w _ => ?_) hS ?_
              · go_simp
              simp only [zA, zB, zC, Act.put, zD, zE, zF]
              refine rg_take 7 (.int .u8 ((cn % 16 : Nat) : Int)) rfl (by kernel_rfl) (by kernel_rfl) (by kernel_rfl) (fun _ _ _ h => h) rfl (fun w hSw => ?_) hS ?_
              · have e1 : (cn : Int).tmod 16 = (cn : Int) % 16 := Int.tmod_eq_emod_of_nonneg (by omega)
                go_simp
              simp only [zA, zB, zC, Act.put, zD, zE, zF]
              refine rg_take 8 (.int .u8 (a2 : Int)) rfl (by kernel_rfl) (by kernel_rfl) (by kernel_rfl) (fun _ _ _ h => h) rfl (fun w hSw => (index_exec rfl rfl rfl hix2).trans (by rw [ha2])) hS ?_
              simp only [zA, zB, zC, Act.put, zD, zE, zF]
              have NA : Hid (NumsK .u8 (wq.alloc (.cells #[.int .u8 92, .int .u8 120, .int .u8 (a1 : Int), .int .u8 (a2 : Int)] 5)) (wq.heap.size + 1) (some ⟨wq.heap.size, 0, none⟩) [92, 120, (a1 : Int), (a2 : Int)]) := nums_new wq [92, 120, (a1 : Int), (a2 : Int)]
              have OA : Hid (OwnK .u8 5 (wq.alloc (.cells #[.int .u8 92, .int .u8 120, .int .u8 (a1 : Int), .int .u8 (a2 : Int)] 5)) S u4 (bi (34 :: wrM (l.take i)))) := World.ownsRow.alloc O.out _
              have hbase : S ≤ (wq.alloc (.cells #[.int .u8 92, .int .u8 120, .int .u8 (a1 : Int), .int .u8 (a2 : Int)] 5)).heap.size := by have := hbs; simp; omega
              refine rg_one 9 (by kernel_rfl) (rs_of rfl rfl (wp_value (w' := wq.alloc (.cells #[.int .u8 92, .int .u8 120, .int .u8 (a1 : Int), .int .u8 (a2 : Int)] 5)) (v := .slice (some ⟨wq.heap.size, 0, none⟩) 4 4) (by go_simp) ⟨trivial, ?_⟩))
              simp only [zA, zB, zC, Act.put, zD, zE, zF]
              refine rg_one 10 (by kernel_rfl) (rs_of rfl rfl (wp_app u8_slice _ (.tmp 37) (.tmp 46) rfl S u4 _ rfl OA.out (wq.heap.size + 1) (some ⟨wq.heap.size, 0, none⟩) 4 4 [92, 120, (a1 : Int), (a2 : Int)] rfl NA.out rfl (Nat.le_trans (HWL.out i) (by decide)) (by simp) hbase (fun v3 w3 o3 g3 t3 => ⟨trivial, ?_⟩)))
              have BV : Hid (Below S w w3) := (HB.out.alloc hbs _).grown g3 hbase (own_ge OA.out)
              have OV : Hid (OwnK .u8 5 w3 S v3 (bi (34 :: wrM (l.take (i + 1))))) := by show OwnK _ _ _ _ _ _; rw [htk.out, HW1.out]; exact o3
              clear o3 g3 t3
              simp only [zA, zB, zC, Act.put, zD, zE, zF]
              refine rg_take 11 (v3) rfl (by kernel_rfl) (by kernel_rfl) (by kernel_rfl) (fun _ _ _ h => h) rfl (fun w _ => ?_) hS ?_
              · go_simp
              simp only [zA, zB, zC, Act.put, zD, zE, zF]
              refine wpAnyH_done (by kernel_rfl) ?_ _
              (try simp only [Exit.inBlock, Exit.then])
              go_wp2_with fail
              go_roundg (L - i)
              case measure => have := HI.out; omega
              case rel => exact ⟨i + 1, by go_num, by show _ = _; have := HI.out; omega, by omega, OV.out, BV.out⟩
            · have hg1 : (32 : Int) ≤ (cn : Int) := by omega
              have hg2 : ¬ (cn : Int) < 127 := by omega
              go_wp2_with fail
              go_upto_region 11 with fail
              refine rg_begin (fun _ => True) (by kernel_rfl) trivial (fun hS => ?_)
              have O1 := Lib.hid (O.out.below ((Below.refl _ wr).drew))
              have HB1 := Lib.hid HB.out.drew
              have hbs1 : S ≤ wr.drew.heap.size := hbs
              clear O HB hbs
              have O := O1
              have HB := HB1
              have hbs := hbs1
              clear O1 HB1 hbs1
              generalize wr.drew = wq at *
              refine rg_take 0 (u4) rfl (by kernel_rfl) (by kernel_rfl) (by kernel_rfl) (fun _ _ _ h => h) rfl (fun w _ => ?_) hS ?_
              · go_simp
              simp only [zA, zB, zC, Act.put, zD, zE, zF]
              refine rg_take 1 (.string ⟨#[48, 49, 50, 51, 52, 53, 54, 55, 56, 57, 97, 98, 99, 100, 101, 102]⟩) rfl (by kernel_rfl) (by kernel_rfl) (by kernel_rfl) (fun _ _ _ h => h) rfl (fun w _ => ?_) hS ?_
              · go_simp
              simp only [zA, zB, zC, Act.put, zD, zE, zF]
              refine rg_take 2 (.int .u8 (cn : Int)) rfl (by kernel_rfl) (by kernel_rfl) (by kernel_rfl) (fun _ _ _ h => h) rfl (fun w _ => ?_) hS ?_
              · go_simp
              simp only [zA, zB, zC, Act.put, zD, zE, zF]
              refine rg_take 3 (.int .u8 ((cn / 16 : Nat) : Int)) rfl (by kernel_rfl) (by kernel_rfl) (by kernel_rfl) (fun _ _ _ h => h) rfl (fun w hSw => ?_) hS ?_
              · have e1 : IntKind.u8.wrap ((cn : Int) / 16) = (cn : Int) / 16 := by (rw [IntKind.wrap_u8]; omega)
                go_simp
              simp only [zA, zB, zC, Act.put, zD, zE, zF]
              refine rg_take 4 (.int .u8 (a1 : Int)) rfl (by kernel_rfl) (by kernel_rfl) (by kernel_rfl) (fun _ _ _ h => h) rfl (fun w hSw => (index_exec rfl rfl rfl hix1).trans (by rw [ha1])) hS ?_
              simp only [zA, zB, zC, Act.put, zD, zE, zF]
              refine rg_take 5 (.string ⟨#[48, 49, 50, 51, 52, 53, 54, 55, 56, 57, 97, 98, 99, 100, 101, 102]⟩) rfl (by kernel_rfl) (by kernel_rfl) (by kernel_rfl) (fun _ _ _ h => h) rfl (fun w _ => ?_) hS ?_
              · go_simp
              simp only [zA, zB, zC, Act.put, zD, zE, zF]
              refine rg_take 6 (.int .u8 (cn : Int)) rfl (by kernel_rfl) (by kernel_rfl) (by kernel_rfl) (fun _ _ _ h => h) rfl (fun w _ => ?_) hS ?_
              · go_simp
              simp only [zA, zB, zC, Act.put, zD, zE, zF]
              refine rg_take 7 (.int .u8 ((cn % 16 : Nat) : Int)) rfl (by kernel_rfl) (by kernel_rfl) (by kernel_rfl) (fun _ _ _ h => h) rfl (fun w hSw => ?_) hS ?_
              · have e1 : (cn : Int).tmod 16 = (cn : Int) % 16 := Int.tmod_eq_emod_of_nonneg (by omega)
                go_simp
              simp only [zA, zB, zC, Act.put, zD, zE, zF]
              refine rg_take 8 (.int .u8 (a2 : Int)) rfl (by kernel_rfl) (by kernel_rfl) (by kernel_rfl) (fun _ _ _ h => h) rfl (fun w hSw => (index_exec rfl rfl rfl hix2).trans (by rw [ha2])) hS ?_
              simp only [zA, zB, zC, Act.put, zD, zE, zF]
              have NA : Hid (NumsK .u8 (wq.alloc (.cells #[.int .u8 92, .int .u8 120, .int .u8 (a1 : Int), .int .u8 (a2 : Int)] 5)) (wq.heap.size + 1) (some ⟨wq.heap.size, 0, none⟩) [92, 120, (a1 : Int), (a2 : Int)]) := nums_new wq [92, 120, (a1 : Int), (a2 : Int)]
              have OA : Hid (OwnK .u8 5 (wq.alloc (.cells #[.int .u8 92, .int .u8 120, .int .u8 (a1 : Int), .int .u8 (a2 : Int)] 5)) S u4 (bi (34 :: wrM (l.take i)))) := World.ownsRow.alloc O.out _
              have hbase : S ≤ (wq.alloc (.cells #[.int .u8 92, .int .u8 120, .int .u8 (a1 : Int), .int .u8 (a2 : Int)] 5)).heap.size := by have := hbs; simp; omega
              refine rg_one 9 (by kernel_rfl) (rs_of rfl rfl (wp_value (w' := wq.alloc (.cells #[.int .u8 92, .int .u8 120, .int .u8 (a1 : Int), .int .u8 (a2 : Int)] 5)) (v := .slice (some ⟨wq.heap.size, 0, none⟩) 4 4) (by go_simp) ⟨trivial, ?_⟩))
              simp only [zA, zB, zC, Act.put, zD, zE, zF]
              refine rg_one 10 (by kernel_rfl) (rs_of rfl rfl (wp_app u8_slice _ (.tmp 37) (.tmp 46) rfl S u4 _ rfl OA.out (wq.heap.size + 1) (some ⟨wq.heap.size, 0, none⟩) 4 4 [92, 120, (a1 : Int), (a2 : Int)] rfl NA.out rfl (Nat.le_trans (HWL.out i) (by decide)) (by simp) hbase (fun v3 w3 o3 g3 t3 => ⟨trivial, ?_⟩)))
              have BV : Hid (Below S w w3) := (HB.out.alloc hbs _).grown g3 hbase (own_ge OA.out)
              have OV : Hid (OwnK .u8 5 w3 S v3 (bi (34 :: wrM (l.take (i + 1))))) := by show OwnK _ _ _ _ _ _; rw [htk.out, HW1.out]; exact o3
              clear o3 g3 t3
              simp only [zA, zB, zC, Act.put, zD, zE, zF]
              refine rg_take 11 (v3) rfl (by kernel_rfl) (by kernel_rfl) (by kernel_rfl) (fun _ _ _ h => h) rfl (fun w _ => ?_) hS ?_
              · go_simp
              simp only [zA, zB, zC, Act.put, zD, zE, zF]
              refine wpAnyH_done (by kernel_rfl) ?_ _
              (try simp only [Exit.inBlock, Exit.then])
              go_wp2_with fail
              go_roundg (L - i)
              case measure => have := HI.out; omega
              case rel => exact ⟨i + 1, by go_num, by show _ = _; have := HI.out; omega, by omega, OV.out, BV.out⟩
    · have hip : i = L := by omega
      have hiz : ¬ (i : Int) < (L : Int) := by omega
      have htk : Hid (bi (34 :: wrM (l.take i)) ++ [34] = bi (wrF l)) := by
        show _ = _
        rw [List.take_of_length_le (by have := HL.out; omega), show ([34] : List Int) = bi [34] from rfl, bi_app]
        rfl
      clear hip
      have NA : Hid (NumsK .u8 (wr.alloc (.cells #[.int .u8 (34)] 5)) (wr.heap.size + 1) (some ⟨wr.heap.size, 0, none⟩) [34]) := nums_new wr [34]
      have OA : Hid (OwnK .u8 5 (wr.alloc (.cells #[.int .u8 (34)] 5)) S u4 (bi (34 :: wrM (l.take i)))) := World.ownsRow.alloc O.out _
      have hbase : S ≤ (wr.alloc (.cells #[.int .u8 (34)] 5)).heap.size := by have := hbs; simp; omega
      clear O
      go_wp2_with
        (at_builtin
         refine wpList_app u8_slice _ rfl (.tmp 48) (.tmp 49) rfl S u4 _ rfl OA.out (wr.heap.size + 1) (some ⟨wr.heap.size, 0, none⟩) 1 1 [34] rfl NA.out rfl (Nat.le_trans (HWL.out i) (by decide)) (by simp) hbase ?_
         intro v3 w3 o3 g3 t3
         have BV : Hid (Below S w w3) := (HB.out.alloc hbs _).grown g3 hbase (own_ge OA.out)
         rw [htk.out] at o3
         obtain ⟨A9, cap9, rfl, hc9, hm9, y9⟩ := o3.nums
         have hcv := conv_bytes (byts_nums y9) _ cap9 rfl
         rw [bi_str] at hcv
         clear o3 g3 t3 y9 hm9)
      go_ret
      exact ⟨rfl, BV.out⟩
end Go.Proofs.YtcieibidnpemjaaDoor
