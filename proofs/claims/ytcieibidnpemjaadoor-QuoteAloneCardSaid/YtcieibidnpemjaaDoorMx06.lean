/-
  Stage 10: the program's Write.
-/
import Derived.Test.YtcieibidnpemjaaDoorMx05
namespace Go.Proofs.YtcieibidnpemjaaDoor
open Go.RowKit Go.Sort
set_option linter.unusedSimpArgs false
theorem u8_and15 {c : Nat} (h : c < 256) : bits .and .u8 (c : Int) 15 = (c : Int) % 16 := by
 simpa using byte_all (p := fun c => bits .and .u8 c 15 == c % 16) (by decide +kernel) (show (0 : Int) ≤ (c : Int) by omega) (by omega)
set_option maxRecDepth 100000 in
set_option maxHeartbeats 4000000 in
theorem WriteP_run (l : List UInt8) (w : World) (hl : l.length ≤ 10000) :
    Calls Tryd.prog 12 #[.string (bs l)] w fun e w' => e = .returned (.string (bs (wrF l))) ∧ Below w.heap.size w w' := by
  have hsz := bs_size l
  have hwl := fun i => Nat.le_trans (wrM_len (l.take i)) (Nat.mul_le_mul_left 4 (show (l.take i).length ≤ 10000 by rw [List.length_take]; omega))
  have HWL : Hid (∀ i, (bi (34 :: wrM (l.take i))).length ≤ 40001) := fun i => by rw [bi_length]; have := hwl i; simp only [List.length_cons]; omega
  clear hwl
  obtain ⟨L, hL⟩ : ∃ L, l.length = L := ⟨_, rfl⟩
  rw [hL] at hsz hl
  have HL := Lib.hid hL
  have O0 : OwnK .u8 5 (w.alloc (.cells #[.int .u8 34] 5)) w.heap.size (.slice (some ⟨w.heap.size, 0, none⟩) 1 1) (bi (34 :: wrM (l.take 0))) := OwnK.lit .u8 5 w w.heap.size [34] (Nat.le_refl _) (by simp)
  have B0 : Below w.heap.size w (w.alloc (.cells #[.int .u8 34] 5)) := (Below.refl _ w).alloc (Nat.le_refl _) _
  obtain ⟨cap, w2, hcv, hc1, hc2, hby, hbl, hts⟩ := run_conv_strT (w.alloc (.cells #[.int .u8 34] 5)) (bs l) (by rw [hsz]; exact Nat.le_trans hl (by decide))
  rw [bts_bs] at hby
  rw [hsz] at hcv hc1
  obtain ⟨T, hT⟩ : ∃ T, (w.alloc (.cells #[.int .u8 34] 5)).heap.size = T := ⟨_, rfl⟩
  obtain ⟨S, hS⟩ : ∃ S, w.heap.size = S := ⟨_, rfl⟩
  have hTS : T = S + 1 := by rw [← hT, ← hS]; simp
  rw [hT] at hcv hby hbl hts
  have HC0 : Hid (T < w2.heap.size ∧ ∀ j c, l[j]? = some c → w2.cell? ⟨T, j, none⟩ = some (.int .u8 ((c : UInt8).toNat : Int))) := by
    exact ⟨hts, fun j c hj => by rw [show j = 0 + j by omega]; exact byts_cell hby hj⟩
  rw [hS] at O0 B0
  have O1 : Hid (OwnK .u8 5 w2 S (.slice (some ⟨S, 0, none⟩) 1 1) (bi (34 :: wrM (l.take 0)))) := O0.below (by rw [hT]; exact hbl)
  have B1 : Hid (Below S w w2) := B0.trans (hbl.mono (by omega))
  have HTS : Hid (T = S + 1) := hTS
  rw [hS]
  have HS := Lib.hid hS
  clear hL O0 B0 hby hbl hc2 hTS hS hT hts
  go_enter Tryd.func12, Tryd.ntmps12
  go_wp2_with fail
  clear hcv
  go_loopg [3, 10] (L + 1) (fun h s3 s10 wr => ∃ i : Nat, s10 = .int .i64 (i : Int) ∧ Hid (i + h = L + 1) ∧ i ≤ L ∧ Hid (OwnK .u8 5 wr S s3 (bi (34 :: wrM (l.take i)))) ∧ Hid (Below S w wr) ∧ Hid (∀ g, s3.ownBlock = some g → g ≠ T) ∧ Hid (T < wr.heap.size ∧ ∀ j c, l[j]? = some c → wr.cell? ⟨T, j, none⟩ = some (.int .u8 ((c : UInt8).toNat : Int))))
  case atStart => exact ⟨0, rfl, by show _ = _; omega, by omega, by first | exact O1 | (rw [HS.out]; exact O1), B1, (fun g hg => by cases hg; first | (show w.heap.size ≠ T; have := HTS.out; have := HS.out; omega) | (show S ≠ T; have := HTS.out; omega)), HC0⟩
  case round =>
    clear O1 B1 HC0
    obtain ⟨i, rfl, HI, hin, O, HB, HN, HC⟩ := hrel
    have hbs : S ≤ wr.heap.size := by rw [← HS.out]; exact HB.out.size
    by_cases hlt : i < L
    · have hiz : (i : Int) < (L : Int) := by omega
      obtain ⟨c, hc⟩ : ∃ c, l[i]? = some c := ⟨l[i]'(by have := HL.out; omega), List.getElem?_eq_getElem _⟩
      have htk : Hid (bi (34 :: wrM (l.take (i + 1))) = bi (34 :: wrM (l.take i)) ++ bi (wr1 c)) := by
        show _ = _
        rw [bi_app, wrM_take hc]
        rfl
      have hx0 := HC.out.2 i c hc
      have hcb : c.toNat < 256 := c.toNat_lt
      by_cases h34 : c = 34
      · subst h34
        have hxc : wr.cell? ⟨T, i, none⟩ = some (.int .u8 34) := hx0
        have HW1 : Hid (bi (wr1 34) = [92, 34]) := by show _ = _; decide
        clear hx0 hcb hc
        have NA : Hid (NumsK .u8 (wr.alloc (.cells #[.int .u8 (92), .int .u8 (34)] 5)) (wr.heap.size + 1) (some ⟨wr.heap.size, 0, none⟩) [92, 34]) := nums_new wr [92, 34]
        have OA : Hid (OwnK .u8 5 (wr.alloc (.cells #[.int .u8 (92), .int .u8 (34)] 5)) S u3 (bi (34 :: wrM (l.take i)))) := World.ownsRow.alloc O.out _
        have hbase : S ≤ (wr.alloc (.cells #[.int .u8 (92), .int .u8 (34)] 5)).heap.size := by have := hbs; simp; omega
        have hWA : Hid ((wr.alloc (.cells #[.int .u8 (92), .int .u8 (34)] 5)).heap.size = wr.heap.size + 1) := by show _ = _; simp
        have CA : Hid (Below wr.heap.size wr (wr.alloc (.cells #[.int .u8 (92), .int .u8 (34)] 5))) := (Below.refl _ wr).alloc (Nat.le_refl _) _
        clear O
        go_wp2_with
          (at_builtin
           refine wpList_app u8_slice _ rfl (.tmp 28) (.tmp 30) rfl S u3 _ rfl OA.out (wr.heap.size + 1) (some ⟨wr.heap.size, 0, none⟩) 2 2 [92, 34] rfl NA.out rfl (Nat.le_trans (HWL.out i) (by decide)) (by simp) hbase ?_
           intro v3 w3 o3 g3 t3
           have BV : Hid (Below S w w3) := (HB.out.alloc hbs _).grown g3 hbase (own_ge OA.out)
           have OV : Hid (OwnK .u8 5 w3 S v3 (bi (34 :: wrM (l.take (i + 1))))) := by show OwnK _ _ _ _ _ _; rw [htk.out, HW1.out]; exact o3
           have CV : Hid (T < w3.heap.size ∧ ∀ j c, l[j]? = some c → w3.cell? ⟨T, j, none⟩ = some (.int .u8 ((c : UInt8).toNat : Int))) := by
             refine ⟨Nat.lt_of_lt_of_le (by have := HC.out.1; have := hWA.out; omega) g3.size, fun j c hj => ?_⟩
             rw [World.cell?_of_block (g3.block T (by have := HC.out.1; have := hWA.out; omega) (fun e => HN.out T e.symm rfl)), CA.out.cell HC.out.1]
             exact HC.out.2 j c hj
           have NV : Hid (∀ g, v3.ownBlock = some g → g ≠ T) := fun g hg => by
             rcases t3 with e | e
             · exact HN.out g (by rw [← e]; exact hg)
             · rw [e] at hg
               cases hg
               have := HC.out.1; have := hWA.out; omega
           clear o3 g3 t3)
        go_roundg (L - i)
        case measure => have := HI.out; omega
        case rel => exact ⟨i + 1, by go_num, by show _ = _; have := HI.out; omega, by omega, OV.out, BV.out, NV.out, CV.out⟩
      · have e34 : ((c.toNat : Int) == 34) = false := eq_byte h34
        by_cases h92 : c = 92
        · subst h92
          have hxc : wr.cell? ⟨T, i, none⟩ = some (.int .u8 92) := hx0
          have HW1 : Hid (bi (wr1 92) = [92, 92]) := by show _ = _; decide
          clear hx0 hcb hc
          have NA : Hid (NumsK .u8 (wr.alloc (.cells #[.int .u8 (92), .int .u8 (92)] 5)) (wr.heap.size + 1) (some ⟨wr.heap.size, 0, none⟩) [92, 92]) := nums_new wr [92, 92]
          have OA : Hid (OwnK .u8 5 (wr.alloc (.cells #[.int .u8 (92), .int .u8 (92)] 5)) S u3 (bi (34 :: wrM (l.take i)))) := World.ownsRow.alloc O.out _
          have hbase : S ≤ (wr.alloc (.cells #[.int .u8 (92), .int .u8 (92)] 5)).heap.size := by have := hbs; simp; omega
          have hWA : Hid ((wr.alloc (.cells #[.int .u8 (92), .int .u8 (92)] 5)).heap.size = wr.heap.size + 1) := by show _ = _; simp
          have CA : Hid (Below wr.heap.size wr (wr.alloc (.cells #[.int .u8 (92), .int .u8 (92)] 5))) := (Below.refl _ wr).alloc (Nat.le_refl _) _
          clear O
          go_wp2_with
            (at_builtin
             refine wpList_app u8_slice _ rfl (.tmp 28) (.tmp 30) rfl S u3 _ rfl OA.out (wr.heap.size + 1) (some ⟨wr.heap.size, 0, none⟩) 2 2 [92, 92] rfl NA.out rfl (Nat.le_trans (HWL.out i) (by decide)) (by simp) hbase ?_
             intro v3 w3 o3 g3 t3
             have BV : Hid (Below S w w3) := (HB.out.alloc hbs _).grown g3 hbase (own_ge OA.out)
             have OV : Hid (OwnK .u8 5 w3 S v3 (bi (34 :: wrM (l.take (i + 1))))) := by show OwnK _ _ _ _ _ _; rw [htk.out, HW1.out]; exact o3
             have CV : Hid (T < w3.heap.size ∧ ∀ j c, l[j]? = some c → w3.cell? ⟨T, j, none⟩ = some (.int .u8 ((c : UInt8).toNat : Int))) := by
               refine ⟨Nat.lt_of_lt_of_le (by have := HC.out.1; have := hWA.out; omega) g3.size, fun j c hj => ?_⟩
               rw [World.cell?_of_block (g3.block T (by have := HC.out.1; have := hWA.out; omega) (fun e => HN.out T e.symm rfl)), CA.out.cell HC.out.1]
               exact HC.out.2 j c hj
             have NV : Hid (∀ g, v3.ownBlock = some g → g ≠ T) := fun g hg => by
               rcases t3 with e | e
               · exact HN.out g (by rw [← e]; exact hg)
               · rw [e] at hg
                 cases hg
                 have := HC.out.1; have := hWA.out; omega
             clear o3 g3 t3)
          go_roundg (L - i)
          case measure => have := HI.out; omega
          case rel => exact ⟨i + 1, by go_num, by show _ = _; have := HI.out; omega, by omega, OV.out, BV.out, NV.out, CV.out⟩
        · have e92 : ((c.toNat : Int) == 92) = false := eq_byte h92
          by_cases hpl : 32 ≤ c.toNat ∧ c.toNat < 127
          · obtain ⟨hp1, hp2⟩ := hpl
            have HW1 : Hid (bi (wr1 c) = [(c.toNat : Int)]) := by
              show _ = _
              unfold wr1
              rw [if_neg (fun e => e.elim h34 h92), if_pos ⟨hp1, hp2⟩]
              rfl
            have hg1 : (32 : Int) ≤ (c.toNat : Int) := by omega
            have hg2 : (c.toNat : Int) ≤ 126 := by omega
            clear hc h34 h92
            generalize c.toNat = cn at *
            have NA : Hid (NumsK .u8 (wr.alloc (.cells #[.int .u8 ((cn : Int))] 5)) (wr.heap.size + 1) (some ⟨wr.heap.size, 0, none⟩) [(cn : Int)]) := nums_new wr [(cn : Int)]
            have OA : Hid (OwnK .u8 5 (wr.alloc (.cells #[.int .u8 ((cn : Int))] 5)) S u3 (bi (34 :: wrM (l.take i)))) := World.ownsRow.alloc O.out _
            have hbase : S ≤ (wr.alloc (.cells #[.int .u8 ((cn : Int))] 5)).heap.size := by have := hbs; simp; omega
            have hWA : Hid ((wr.alloc (.cells #[.int .u8 ((cn : Int))] 5)).heap.size = wr.heap.size + 1) := by show _ = _; simp
            have CA : Hid (Below wr.heap.size wr (wr.alloc (.cells #[.int .u8 ((cn : Int))] 5))) := (Below.refl _ wr).alloc (Nat.le_refl _) _
            clear O
            go_wp2_with
              (at_builtin
               refine wpList_app u8_slice _ rfl (.tmp 39) (.tmp 41) rfl S u3 _ rfl OA.out (wr.heap.size + 1) (some ⟨wr.heap.size, 0, none⟩) 1 1 [(cn : Int)] rfl NA.out rfl (Nat.le_trans (HWL.out i) (by decide)) (by simp) hbase ?_
               intro v3 w3 o3 g3 t3
               have BV : Hid (Below S w w3) := (HB.out.alloc hbs _).grown g3 hbase (own_ge OA.out)
               have OV : Hid (OwnK .u8 5 w3 S v3 (bi (34 :: wrM (l.take (i + 1))))) := by show OwnK _ _ _ _ _ _; rw [htk.out, HW1.out]; exact o3
               have CV : Hid (T < w3.heap.size ∧ ∀ j c, l[j]? = some c → w3.cell? ⟨T, j, none⟩ = some (.int .u8 ((c : UInt8).toNat : Int))) := by
                 refine ⟨Nat.lt_of_lt_of_le (by have := HC.out.1; have := hWA.out; omega) g3.size, fun j c hj => ?_⟩
                 rw [World.cell?_of_block (g3.block T (by have := HC.out.1; have := hWA.out; omega) (fun e => HN.out T e.symm rfl)), CA.out.cell HC.out.1]
                 exact HC.out.2 j c hj
               have NV : Hid (∀ g, v3.ownBlock = some g → g ≠ T) := fun g hg => by
                 rcases t3 with e | e
                 · exact HN.out g (by rw [← e]; exact hg)
                 · rw [e] at hg
                   cases hg
                   have := HC.out.1; have := hWA.out; omega
               clear o3 g3 t3)
            go_roundg (L - i)
            case measure => have := HI.out; omega
            case rel => exact ⟨i + 1, by go_num, by show _ = _; have := HI.out; omega, by omega, OV.out, BV.out, NV.out, CV.out⟩
          · obtain ⟨cn, hcn⟩ : ∃ cn, c.toNat = cn := ⟨_, rfl⟩
            have hpl2 : ¬ (32 ≤ cn ∧ cn < 127) := by rw [← hcn]; exact hpl
            rw [hcn] at hx0 e34 e92 hcb
            obtain ⟨a1, ha1⟩ : ∃ a, (hexD (cn / 16)).toNat = a := ⟨_, rfl⟩
            obtain ⟨a2, ha2⟩ : ∃ a, (hexD (cn % 16)).toNat = a := ⟨_, rfl⟩
            have HW1 : Hid (bi (wr1 c) = [92, 120, (a1 : Int), (a2 : Int)]) := by
              show _ = _
              unfold wr1
              rw [if_neg (fun e => e.elim h34 h92), if_neg hpl, hcn, ← ha1, ← ha2]
              rfl
            have hix1 := hexD_at (show cn / 16 < 16 by omega)
            have hix2 := hexD_at (show cn % 16 < 16 by omega)
            clear hc h34 h92 hpl hcn
            rcases Nat.lt_or_ge cn 32 with hlo | hhi
            · have hg1 : ¬ (32 : Int) ≤ (cn : Int) := by omega
              go_wp2_with fail
              go_upto_region 5 with fail
              refine rg_begin (fun _ => True) (by kernel_rfl) trivial (fun hS => ?_)
              have O1 := Lib.hid (O.out.below ((Below.refl _ wr).drew))
              have HB1 := Lib.hid HB.out.drew
              have hbs1 : S ≤ wr.drew.heap.size := hbs
              have HC1 : Hid (T < wr.drew.heap.size ∧ ∀ j c, l[j]? = some c → wr.drew.cell? ⟨T, j, none⟩ = some (.int .u8 ((c : UInt8).toNat : Int))) := HC
              clear O HB hbs HC hx0
              have O := O1
              have HB := HB1
              have hbs := hbs1
              have HC := HC1
              clear O1 HB1 hbs1 HC1
              generalize wr.drew = wq at *
              refine rg_take 0 (u3) rfl (by kernel_rfl) (by kernel_rfl) (by kernel_rfl) (fun _ _ _ h => h) rfl (fun w _ => ?_) hS ?_
              · go_simp
              simp only [zA, zB, zC, Act.put, zD, zE, zF]
              refine rg_take 1 (.int .u8 (cn : Int)) rfl (by kernel_rfl) (by kernel_rfl) (by kernel_rfl) (fun _ _ _ h => h) rfl (fun w _ => ?_) hS ?_
              · go_simp
              simp only [zA, zB, zC, Act.put, zD, zE, zF]
              refine rg_take 2 (.int .u8 ((cn / 16 : Nat) : Int)) rfl (by kernel_rfl) (by kernel_rfl) (by kernel_rfl) (fun _ _ _ h => h) rfl (fun w hSw => ?_) hS ?_
              · have e1 : IntKind.u8.wrap ((cn : Int) / 16) = (cn : Int) / 16 := by (rw [IntKind.wrap_u8]; omega)
                go_simp
              simp only [zA, zB, zC, Act.put, zD, zE, zF]
              refine rg_take 3 (.int .u8 (a1 : Int)) rfl (by kernel_rfl) (by kernel_rfl) (by kernel_rfl) (fun _ _ _ h => h) rfl (fun w hSw => (index_exec rfl rfl rfl hix1).trans (by rw [ha1])) hS ?_
              simp only [zA, zB, zC, Act.put, zD, zE, zF]
              refine rg_take 4 (.int .u8 (cn : Int)) rfl (by kernel_rfl) (by kernel_rfl) (by kernel_rfl) (fun _ _ _ h => h) rfl (fun w _ => ?_) hS ?_
              · go_simp
              simp only [zA, zB, zC, Act.put, zD, zE, zF]
              refine rg_take 5 (.int .u8 ((cn % 16 : Nat) : Int)) rfl (by kernel_rfl) (by kernel_rfl) (by kernel_rfl) (fun _ _ _ h => h) rfl (fun w hSw => ?_) hS ?_
              · have e1 : bits .and .u8 (cn : Int) 15 = (cn : Int) % 16 := u8_and15 hcb
                go_simp
              simp only [zA, zB, zC, Act.put, zD, zE, zF]
              refine rg_take 6 (.int .u8 (a2 : Int)) rfl (by kernel_rfl) (by kernel_rfl) (by kernel_rfl) (fun _ _ _ h => h) rfl (fun w hSw => (index_exec rfl rfl rfl hix2).trans (by rw [ha2])) hS ?_
              simp only [zA, zB, zC, Act.put, zD, zE, zF]
              have NA : Hid (NumsK .u8 (wq.alloc (.cells #[.int .u8 (92), .int .u8 (120), .int .u8 ((a1 : Int)), .int .u8 ((a2 : Int))] 5)) (wq.heap.size + 1) (some ⟨wq.heap.size, 0, none⟩) [92, 120, (a1 : Int), (a2 : Int)]) := nums_new wq [92, 120, (a1 : Int), (a2 : Int)]
              have OA : Hid (OwnK .u8 5 (wq.alloc (.cells #[.int .u8 (92), .int .u8 (120), .int .u8 ((a1 : Int)), .int .u8 ((a2 : Int))] 5)) S u3 (bi (34 :: wrM (l.take i)))) := World.ownsRow.alloc O.out _
              have hbase : S ≤ (wq.alloc (.cells #[.int .u8 (92), .int .u8 (120), .int .u8 ((a1 : Int)), .int .u8 ((a2 : Int))] 5)).heap.size := by have := hbs; simp; omega
              have hWA : Hid ((wq.alloc (.cells #[.int .u8 (92), .int .u8 (120), .int .u8 ((a1 : Int)), .int .u8 ((a2 : Int))] 5)).heap.size = wq.heap.size + 1) := by show _ = _; simp
              have CA : Hid (Below wq.heap.size wq (wq.alloc (.cells #[.int .u8 (92), .int .u8 (120), .int .u8 ((a1 : Int)), .int .u8 ((a2 : Int))] 5))) := (Below.refl _ wq).alloc (Nat.le_refl _) _
              clear O
              refine rg_one 7 (by kernel_rfl) (rs_of rfl rfl (wp_value (w' := wq.alloc (.cells #[.int .u8 92, .int .u8 120, .int .u8 (a1 : Int), .int .u8 (a2 : Int)] 5)) (v := .slice (some ⟨wq.heap.size, 0, none⟩) 4 4) (by go_simp) ⟨trivial, ?_⟩))
              simp only [zA, zB, zC, Act.put, zD, zE, zF]
              refine rg_one 8 (by kernel_rfl) (rs_of rfl rfl (wp_app u8_slice _ (.tmp 14) (.tmp 21) rfl S u3 _ rfl OA.out (wq.heap.size + 1) (some ⟨wq.heap.size, 0, none⟩) 4 4 [92, 120, (a1 : Int), (a2 : Int)] rfl NA.out rfl (Nat.le_trans (HWL.out i) (by decide)) (by simp) hbase (fun v3 w3 o3 g3 t3 => ⟨trivial, ?_⟩)))
              have BV : Hid (Below S w w3) := (HB.out.alloc hbs _).grown g3 hbase (own_ge OA.out)
              have OV : Hid (OwnK .u8 5 w3 S v3 (bi (34 :: wrM (l.take (i + 1))))) := by show OwnK _ _ _ _ _ _; rw [htk.out, HW1.out]; exact o3
              have CV : Hid (T < w3.heap.size ∧ ∀ j c, l[j]? = some c → w3.cell? ⟨T, j, none⟩ = some (.int .u8 ((c : UInt8).toNat : Int))) := by
                refine ⟨Nat.lt_of_lt_of_le (by have := HC.out.1; have := hWA.out; omega) g3.size, fun j c hj => ?_⟩
                rw [World.cell?_of_block (g3.block T (by have := HC.out.1; have := hWA.out; omega) (fun e => HN.out T e.symm rfl)), CA.out.cell HC.out.1]
                exact HC.out.2 j c hj
              have NV : Hid (∀ g, v3.ownBlock = some g → g ≠ T) := fun g hg => by
                rcases t3 with e | e
                · exact HN.out g (by rw [← e]; exact hg)
                · rw [e] at hg
                  cases hg
                  have := HC.out.1; have := hWA.out; omega
              clear o3 g3 t3
              simp only [zA, zB, zC, Act.put, zD, zE, zF]
              refine rg_take 9 (v3) rfl (by kernel_rfl) (by kernel_rfl) (by kernel_rfl) (fun _ _ _ h => h) rfl (fun w _ => ?_) hS ?_
              · go_simp
              simp only [zA, zB, zC, Act.put, zD, zE, zF]
              refine wpAnyH_done (by kernel_rfl) ?_ _
              (try simp only [Exit.inBlock, Exit.then])
              go_wp2_with fail
              go_roundg (L - i)
              case measure => have := HI.out; omega
              case rel => exact ⟨i + 1, by go_num, by show _ = _; have := HI.out; omega, by omega, OV.out, BV.out, NV.out, CV.out⟩
            · have hg1 : (32 : Int) ≤ (cn : Int) := by omega
              have hg2 : ¬ (cn : Int) ≤ 126 := by omega
              go_wp2_with fail
              go_upto_region 5 with fail
              refine rg_begin (fun _ => True) (by kernel_rfl) trivial (fun hS => ?_)
              have O1 := Lib.hid (O.out.below ((Below.refl _ wr).drew))
              have HB1 := Lib.hid HB.out.drew
              have hbs1 : S ≤ wr.drew.heap.size := hbs
              have HC1 : Hid (T < wr.drew.heap.size ∧ ∀ j c, l[j]? = some c → wr.drew.cell? ⟨T, j, none⟩ = some (.int .u8 ((c : UInt8).toNat : Int))) := HC
              clear O HB hbs HC hx0
              have O := O1
              have HB := HB1
              have hbs := hbs1
              have HC := HC1
              clear O1 HB1 hbs1 HC1
              generalize wr.drew = wq at *
              refine rg_take 0 (u3) rfl (by kernel_rfl) (by kernel_rfl) (by kernel_rfl) (fun _ _ _ h => h) rfl (fun w _ => ?_) hS ?_
              · go_simp
              simp only [zA, zB, zC, Act.put, zD, zE, zF]
              refine rg_take 1 (.int .u8 (cn : Int)) rfl (by kernel_rfl) (by kernel_rfl) (by kernel_rfl) (fun _ _ _ h => h) rfl (fun w _ => ?_) hS ?_
              · go_simp
              simp only [zA, zB, zC, Act.put, zD, zE, zF]
              refine rg_take 2 (.int .u8 ((cn / 16 : Nat) : Int)) rfl (by kernel_rfl) (by kernel_rfl) (by kernel_rfl) (fun _ _ _ h => h) rfl (fun w hSw => ?_) hS ?_
              · have e1 : IntKind.u8.wrap ((cn : Int) / 16) = (cn : Int) / 16 := by (rw [IntKind.wrap_u8]; omega)
                go_simp
              simp only [zA, zB, zC, Act.put, zD, zE, zF]
              refine rg_take 3 (.int .u8 (a1 : Int)) rfl (by kernel_rfl) (by kernel_rfl) (by kernel_rfl) (fun _ _ _ h => h) rfl (fun w hSw => (index_exec rfl rfl rfl hix1).trans (by rw [ha1])) hS ?_
              simp only [zA, zB, zC, Act.put, zD, zE, zF]
              refine rg_take 4 (.int .u8 (cn : Int)) rfl (by kernel_rfl) (by kernel_rfl) (by kernel_rfl) (fun _ _ _ h => h) rfl (fun w _ => ?_) hS ?_
              · go_simp
              simp only [zA, zB, zC, Act.put, zD, zE, zF]
              refine rg_take 5 (.int .u8 ((cn % 16 : Nat) : Int)) rfl (by kernel_rfl) (by kernel_rfl) (by kernel_rfl) (fun _ _ _ h => h) rfl (fun w hSw => ?_) hS ?_
              · have e1 : bits .and .u8 (cn : Int) 15 = (cn : Int) % 16 := u8_and15 hcb
                go_simp
              simp only [zA, zB, zC, Act.put, zD, zE, zF]
              refine rg_take 6 (.int .u8 (a2 : Int)) rfl (by kernel_rfl) (by kernel_rfl) (by kernel_rfl) (fun _ _ _ h => h) rfl (fun w hSw => (index_exec rfl rfl rfl hix2).trans (by rw [ha2])) hS ?_
              simp only [zA, zB, zC, Act.put, zD, zE, zF]
              have NA : Hid (NumsK .u8 (wq.alloc (.cells #[.int .u8 (92), .int .u8 (120), .int .u8 ((a1 : Int)), .int .u8 ((a2 : Int))] 5)) (wq.heap.size + 1) (some ⟨wq.heap.size, 0, none⟩) [92, 120, (a1 : Int), (a2 : Int)]) := nums_new wq [92, 120, (a1 : Int), (a2 : Int)]
              have OA : Hid (OwnK .u8 5 (wq.alloc (.cells #[.int .u8 (92), .int .u8 (120), .int .u8 ((a1 : Int)), .int .u8 ((a2 : Int))] 5)) S u3 (bi (34 :: wrM (l.take i)))) := World.ownsRow.alloc O.out _
              have hbase : S ≤ (wq.alloc (.cells #[.int .u8 (92), .int .u8 (120), .int .u8 ((a1 : Int)), .int .u8 ((a2 : Int))] 5)).heap.size := by have := hbs; simp; omega
              have hWA : Hid ((wq.alloc (.cells #[.int .u8 (92), .int .u8 (120), .int .u8 ((a1 : Int)), .int .u8 ((a2 : Int))] 5)).heap.size = wq.heap.size + 1) := by show _ = _; simp
              have CA : Hid (Below wq.heap.size wq (wq.alloc (.cells #[.int .u8 (92), .int .u8 (120), .int .u8 ((a1 : Int)), .int .u8 ((a2 : Int))] 5))) := (Below.refl _ wq).alloc (Nat.le_refl _) _
              clear O
              refine rg_one 7 (by kernel_rfl) (rs_of rfl rfl (wp_value (w' := wq.alloc (.cells #[.int .u8 92, .int .u8 120, .int .u8 (a1 : Int), .int .u8 (a2 : Int)] 5)) (v := .slice (some ⟨wq.heap.size, 0, none⟩) 4 4) (by go_simp) ⟨trivial, ?_⟩))
              simp only [zA, zB, zC, Act.put, zD, zE, zF]
              refine rg_one 8 (by kernel_rfl) (rs_of rfl rfl (wp_app u8_slice _ (.tmp 14) (.tmp 21) rfl S u3 _ rfl OA.out (wq.heap.size + 1) (some ⟨wq.heap.size, 0, none⟩) 4 4 [92, 120, (a1 : Int), (a2 : Int)] rfl NA.out rfl (Nat.le_trans (HWL.out i) (by decide)) (by simp) hbase (fun v3 w3 o3 g3 t3 => ⟨trivial, ?_⟩)))
              have BV : Hid (Below S w w3) := (HB.out.alloc hbs _).grown g3 hbase (own_ge OA.out)
              have OV : Hid (OwnK .u8 5 w3 S v3 (bi (34 :: wrM (l.take (i + 1))))) := by show OwnK _ _ _ _ _ _; rw [htk.out, HW1.out]; exact o3
              have CV : Hid (T < w3.heap.size ∧ ∀ j c, l[j]? = some c → w3.cell? ⟨T, j, none⟩ = some (.int .u8 ((c : UInt8).toNat : Int))) := by
                refine ⟨Nat.lt_of_lt_of_le (by have := HC.out.1; have := hWA.out; omega) g3.size, fun j c hj => ?_⟩
                rw [World.cell?_of_block (g3.block T (by have := HC.out.1; have := hWA.out; omega) (fun e => HN.out T e.symm rfl)), CA.out.cell HC.out.1]
                exact HC.out.2 j c hj
              have NV : Hid (∀ g, v3.ownBlock = some g → g ≠ T) := fun g hg => by
                rcases t3 with e | e
                · exact HN.out g (by rw [← e]; exact hg)
                · rw [e] at hg
                  cases hg
                  have := HC.out.1; have := hWA.out; omega
              clear o3 g3 t3
              simp only [zA, zB, zC, Act.put, zD, zE, zF]
              refine rg_take 9 (v3) rfl (by kernel_rfl) (by kernel_rfl) (by kernel_rfl) (fun _ _ _ h => h) rfl (fun w _ => ?_) hS ?_
              · go_simp
              simp only [zA, zB, zC, Act.put, zD, zE, zF]
              refine wpAnyH_done (by kernel_rfl) ?_ _
              (try simp only [Exit.inBlock, Exit.then])
              go_wp2_with fail
              go_roundg (L - i)
              case measure => have := HI.out; omega
              case rel => exact ⟨i + 1, by go_num, by show _ = _; have := HI.out; omega, by omega, OV.out, BV.out, NV.out, CV.out⟩
    · have hip : i = L := by omega
      have hiz : ¬ (i : Int) < (L : Int) := by omega
      have htk : Hid (bi (34 :: wrM (l.take i)) ++ [34] = bi (wrF l)) := by
        show _ = _
        rw [List.take_of_length_le (by have := HL.out; omega), show ([34] : List Int) = bi [34] from rfl, bi_app]
        rfl
      clear hip
      have NA : Hid (NumsK .u8 (wr.alloc (.cells #[.int .u8 (34)] 5)) (wr.heap.size + 1) (some ⟨wr.heap.size, 0, none⟩) [34]) := nums_new wr [34]
      have OA : Hid (OwnK .u8 5 (wr.alloc (.cells #[.int .u8 (34)] 5)) S u3 (bi (34 :: wrM (l.take i)))) := World.ownsRow.alloc O.out _
      have hbase : S ≤ (wr.alloc (.cells #[.int .u8 (34)] 5)).heap.size := by have := hbs; simp; omega
      have hWA : Hid ((wr.alloc (.cells #[.int .u8 (34)] 5)).heap.size = wr.heap.size + 1) := by show _ = _; simp
      have CA : Hid (Below wr.heap.size wr (wr.alloc (.cells #[.int .u8 (34)] 5))) := (Below.refl _ wr).alloc (Nat.le_refl _) _
      clear O
      go_wp2_with
        (at_builtin
         refine wpList_app u8_slice _ rfl (.tmp 44) (.tmp 45) rfl S u3 _ rfl OA.out (wr.heap.size + 1) (some ⟨wr.heap.size, 0, none⟩) 1 1 [34] rfl NA.out rfl (Nat.le_trans (HWL.out i) (by decide)) (by simp) hbase ?_
         intro v3 w3 o3 g3 t3
         have BV : Hid (Below S w w3) := (HB.out.alloc hbs _).grown g3 hbase (own_ge OA.out)
         rw [htk.out] at o3
         obtain ⟨A9, cap9, rfl, hc9, hm9, y9⟩ := o3.nums
         have hcv := conv_bytes (byts_nums y9) _ cap9 rfl
         rw [bi_str] at hcv
         clear o3 g3 t3 y9 hm9)
      go_ret
      exact ⟨rfl, BV.out⟩
end Go.Proofs.YtcieibidnpemjaaDoor
