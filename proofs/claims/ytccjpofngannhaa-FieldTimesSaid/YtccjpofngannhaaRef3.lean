/- The contract of package citadelref01's Double: it answers the double that the code reckons, and writes nothing that was there. Condition: the key's bytes are bytes. -/
import Derived.Test.YtccjpofngannhaaRef2
import Derived.Test.YtccjpofngannhaaKeyD
import Derived.Deep.WholeRow
namespace Go.Proofs.Ytccjpofngannhaa
open Go.ChangeShapes Go.WideShapes Go.ChangeAt Go.RowKit

theorem zero129 : (Try.prog.info? 42).map (fun i => (i.zero, i.size)) = some (some (.agg (cellsOf .i64 (mk 129 zeroK))), 129) := by kernel_rfl

set_option maxRecDepth 100000 in
set_option maxHeartbeats 4000000 in
theorem refDouble_any (f : Nat → Nat) (hf : IsKey f) (w : World) :
    Calls Try.prog 20 #[.agg (cellsOf .u8 (mk 16 f))] w fun e w' => e = .returned (.agg (cellsOf .u8 (mk 16 (dbl f)))) ∧ Below w.heap.size w w' := by
  have hz := (zero_of_info zero129).1
  go_enter Try.func20, Try.ntmps20
  go_wp2
  clear hz
  go_loopw [4] (fun v4 wr => ∃ i : Nat, i ≤ 128 ∧ v4 = .int .i64 i ∧ IntBlk wr w.heap.size .u8 28 (mk 16 f) ∧ IntBlk wr (w.heap.size + 1) .u8 28 (mk 16 zeroK) ∧ IntBlk wr (w.heap.size + 1 + 1) .i64 42 (mk 129 (pTo f i)) ∧ Below w.heap.size w wr) (fun v4 _ => 128 - (intOf v4).toNat)
  case atStart => exact ⟨0, by omega, rfl, blk_first w .u8 _ (mk 16 f) _ _, blk_second w .u8 _ (mk 16 zeroK) _ _, by rw [pTo_start]; exact blk_third w .i64 _ (mk 129 zeroK) _ _, below_three w _ _ _⟩
  case round =>
    obtain ⟨i, hi, rfl, hk, hz, hp, hw⟩ := hrel
    by_cases hlt : i < 128
    · have i8 : i / 8 < 16 := by omega
      have hx := hf (i / 8) i8
      have c1 := hk.cell (i := i / 8) (by rw [mk_len]; exact i8)
      have c2 := hp.cell (i := i + 1) (by rw [mk_len]; omega)
      rw [mk_get (by omega)] at c1 c2
      have f2 := hp.free (i + 1)
      have HK := Lib.hid hk
      have HZ := Lib.hid hz
      have HP := Lib.hid hp
      have HW := Lib.hid hw
      have HV : Hid (bitI (f (i / 8) : Nat) ((i : Int) % 8) = (pv f (i + 1) : Nat)) := by
        unfold Hid bitI; rw [← pv_bit, Int.toNat_natCast, show ((i : Int) % 8).toNat = i % 8 by omega]; rfl
      clear hk hz hp hw
      go_wp2_with (go_at_call 25; refine (bit_any _ _ (by omega) (by omega) (by omega) (by omega) _).mono ?_; rintro e w' ⟨rfl, rfl⟩)
      go_roundw
      case rel => exact ⟨i + 1, by omega, by go_num, HK.out.other (by show w.heap.size + 1 + 1 ≠ w.heap.size; omega) _, HZ.out.other (by show w.heap.size + 1 + 1 ≠ w.heap.size + 1; omega) _, by rw [HV.out, ← pTo_step]; exact HP.out.set (i + 1) _, HW.out.setCell (by show w.heap.size ≤ w.heap.size + 1 + 1; omega) _⟩
      case measure => simp [intOf]; omega
    · obtain ⟨wo, rfl⟩ : ∃ wo : World, wo = wr := ⟨_, rfl⟩
      have ei : i = 128 := by omega
      rw [ei, pTo_end] at hp
      clear ei
      have hdi : decide ((i : Int) < 128) = false := by simp; omega
      have c0 := hp.cell (i := 128) (by rw [mk_len]; omega)
      rw [mk_get (by omega), pv_top hf] at c0
      have HZ := Lib.hid hz
      have HP := Lib.hid hp
      have HW := Lib.hid hw
      clear hk hz hp hw
      rcases top_cases hf with ht | ht
      · have hE := horn_top hf ht
        rw [ht] at c0
        replace c0 : wo.cell? ⟨w.heap.size + 1 + 1, 128, none⟩ = some (.int .i64 1) := c0
        clear ht
        have HE := Lib.hid hE; clear hE
        have hPb := fun j => turned_lt f 4 j
        go_wp2
        clear c0
        have hB0 : w.heap.size + 1 + 1 < wo.heap.size := HP.out.lt
        go_loopw [28] (fun v28 wk => ∃ n : Nat, n ≤ 4 ∧ v28 = .int .i64 n ∧ IntBlk wk (w.heap.size + 1) .u8 28 (mk 16 zeroK) ∧ IntBlk wk (w.heap.size + 1 + 1) .i64 42 (mk 129 (turned f n)) ∧ IntBlk wk wo.heap.size .i64 3 [0, 1, 2, 7] ∧ Below w.heap.size w wk) (fun v28 _ => 4 - (intOf v28).toNat)
        case atStart => exact ⟨0, by omega, rfl, HZ.out.alloc _, by rw [turned_start]; exact HP.out.alloc _, IntBlk.new wo .i64 3 [0, 1, 2, 7], HW.out.alloc HW.out.size _⟩
        case round =>
          clear HZ HP HW
          obtain ⟨n, hn, rfl, hz, hp, hs, hw⟩ := hrel
          have HZ := Lib.hid hz
          have HP := Lib.hid hp
          have HS := Lib.hid hs
          have HW := Lib.hid hw
          by_cases hlt4 : n < 4
          · have c1 := hs.cell (i := n) (by show n < 4; omega)
            rw [four_at hlt4] at c1
            have fb := four_le n
            have c2 := hp.cell (i := four n) (by rw [mk_len]; omega)
            rw [mk_get (by omega), turned_at f hlt4] at c2
            have f2 := hp.free (four n)
            have HT := Lib.hid (turned_step f hlt4)
            have pb := pv_lt f (four n)
            generalize pv f (four n) = x at *
            clear hz hp hs hw
            go_wp2
            go_roundw
            case rel => exact ⟨n + 1, by omega, by go_num, HZ.out.other (by show w.heap.size + 1 + 1 ≠ w.heap.size + 1; omega) _, by rw [← HT.out]; exact HP.out.set (four n) _, HS.out.other (by show w.heap.size + 1 + 1 ≠ wo.heap.size; omega) _, HW.out.setCell (by show w.heap.size ≤ w.heap.size + 1 + 1; omega) _⟩
            case measure => simp [intOf]; omega
          · have en : n = 4 := by omega
            rw [en] at hp
            have HP := Lib.hid hp
            clear hz hp hs hw HS hB0 en
            have hdn : decide ((n : Int) < 4) = false := by simp; omega
            generalize wo.heap.size = bo
            clear wo
            obtain ⟨wo, rfl⟩ : ∃ wo : World, wo = wr := ⟨_, rfl⟩
            go_wp2
            have hB1 : w.heap.size + 1 + 1 < wo.heap.size := HP.out.lt
            go_loopw [8] (fun v8 wk => ∃ (m : Nat) (z : Int), m ≤ 128 ∧ z + 1 = m ∧ v8 = .int .i64 z ∧ IntBlk wk (w.heap.size + 1 + 1) .i64 42 (mk 129 (turned f 4)) ∧ IntBlk wk wo.heap.size .u8 28 (mk 16 (outTo (turned f 4) m)) ∧ IntBlk wk (w.heap.size + 1) .u8 28 (mk 16 zeroK) ∧ Below w.heap.size w wk) (fun v8 _ => (intOf v8 + 1).toNat)
            case atStart => exact ⟨128, 127, by omega, by omega, rfl, HP.out.alloc _, by rw [outTo_start]; exact IntBlk.new _ .u8 _ (mk 16 zeroK), HZ.out.alloc _, HW.out.alloc HW.out.size _⟩
            case round =>
              clear HP HZ HW
              obtain ⟨m, z, hm, hz, rfl, hp, ho, hzz, hw⟩ := hrel
              have HP := Lib.hid hp
              have HO := Lib.hid ho
              have HZ := Lib.hid hzz
              have HW := Lib.hid hw
              cases m with
              | zero =>
                obtain rfl : z = -1 := by omega
                have HX : Hid (IntBlk wr wo.heap.size .u8 28 (mk 16 (dbl f))) := by unfold Hid; rw [← HE.out, ← outTo_end]; exact HO.out
                clear hp ho hzz hw hz hm
                go_wp2_with (first
                  | (refine wpList_load_row rfl 28 _ rfl wo.heap.size rfl 28 (cellsOf .u8 (mk 16 (dbl f))) (0, 0) _ HX.out keyUnder rfl (keySize _) ?_)
                  | (refine wpList_store_row rfl 28 _ _ rfl (w.heap.size + 1) _ rfl rfl 28 (cellsOf .u8 (mk 16 zeroK)) HZ.out (keySize _) (by rw [cellsOf_size, cellsOf_size, mk_len, mk_len]) (cellsOf_one _ _) ?_))
                refine bodyPost_ret (results_cell_row rfl _ _ (w.heap.size + 1) 28 (cellsOf .u8 (mk 16 (dbl f))) (0, 0) _ rfl (HZ.out.setRow .u8 (mk 16 (dbl f))) keyUnder rfl (keySize _)) rfl ⟨rfl, below_setRow HW.out (by omega) _⟩
              | succ k =>
                obtain rfl : z = k := by omega
                have k1 : k / 8 < 16 := by omega
                have c1 := ho.cell (i := k / 8) (by rw [mk_len]; exact k1)
                have c2 := hp.cell (i := k) (by rw [mk_len]; omega)
                rw [mk_get (by omega)] at c1 c2
                have f1 := ho.free (k / 8)
                have qb := outTo_at hPb k
                have xb := hPb k
                have HS := Lib.hid (outTo_step (turned f 4) k)
                generalize outTo (turned f 4) (k + 1) (k / 8) = q at *
                generalize (turned f 4) k = x at *
                clear hp ho hzz hw hz
                have e1 : IntKind.i64.wrap ((k : Int) / 8) = (k : Int) / 8 := IntWalk.i64_in _ (by omega)
                have e2 : (0 : Int) ≤ (k : Int) / 8 := by omega
                have e3 : ((k : Int) / 8).toNat = k / 8 := by omega
                have e4 : (k : Int) / 8 < 16 := by omega
                have e5 : (0 : Int) ≤ k := by omega
                have e6 : (k : Int) < 129 := by omega
                have e7 : IntKind.u8.wrap (x : Int) = x := IntWalk.u8_in _ (by omega)
                have e8 : IntKind.u8.wrap ((q : Int) * 2) = (q : Int) * 2 := IntWalk.u8_in _ (by omega)
                have e9 : IntKind.u8.wrap ((q : Int) * 2 + (x : Int)) = (q : Int) * 2 + (x : Int) := IntWalk.u8_in _ (by omega)
                go_wp2
                refine wp_region_still_tail 13 (by kernel_rfl) (by kernel_rfl) ?_
                simp only [List.take_succ_cons, List.take_zero, List.drop_succ_cons, List.drop_zero]
                change wpStill _ _ wr.drew (fun a' => wpList _ _ _ _ a' wr.drew) _ _
                iterate 13 still_step
                refine wpStill_nil ?_
                go_wp2
                go_roundw
                case rel => exact ⟨k, (k : Int) - 1, by omega, by omega, rfl, (HP.out.other (by show wo.heap.size ≠ w.heap.size + 1 + 1; omega) _).drew, by rw [← HS.out]; exact (HO.out.set (k / 8) _).drew, (HZ.out.other (by show wo.heap.size ≠ w.heap.size + 1; omega) _).drew, (HW.out.setCell (by show w.heap.size ≤ wo.heap.size; omega) _).drew⟩
                case measure => simp [intOf]
      · have hE := horn_low hf ht
        rw [ht] at c0
        replace c0 : wo.cell? ⟨w.heap.size + 1 + 1, 128, none⟩ = some (.int .i64 0) := c0
        clear ht
        have HE := Lib.hid hE; clear hE
        have hPb := pv_lt f
        go_wp2
        clear c0
        have hB1 : w.heap.size + 1 + 1 < wo.heap.size := HP.out.lt
        go_loopw [8] (fun v8 wk => ∃ (m : Nat) (z : Int), m ≤ 128 ∧ z + 1 = m ∧ v8 = .int .i64 z ∧ IntBlk wk (w.heap.size + 1 + 1) .i64 42 (mk 129 (pv f)) ∧ IntBlk wk wo.heap.size .u8 28 (mk 16 (outTo (pv f) m)) ∧ IntBlk wk (w.heap.size + 1) .u8 28 (mk 16 zeroK) ∧ Below w.heap.size w wk) (fun v8 _ => (intOf v8 + 1).toNat)
        case atStart => exact ⟨128, 127, by omega, by omega, rfl, HP.out.alloc _, by rw [outTo_start]; exact IntBlk.new _ .u8 _ (mk 16 zeroK), HZ.out.alloc _, HW.out.alloc HW.out.size _⟩
        case round =>
          clear HP HZ HW
          obtain ⟨m, z, hm, hz, rfl, hp, ho, hzz, hw⟩ := hrel
          have HP := Lib.hid hp
          have HO := Lib.hid ho
          have HZ := Lib.hid hzz
          have HW := Lib.hid hw
          cases m with
          | zero =>
            obtain rfl : z = -1 := by omega
            have HX : Hid (IntBlk wr wo.heap.size .u8 28 (mk 16 (dbl f))) := by unfold Hid; rw [← HE.out, ← outTo_end]; exact HO.out
            clear hp ho hzz hw hz hm
            go_wp2_with (first
              | (refine wpList_load_row rfl 28 _ rfl wo.heap.size rfl 28 (cellsOf .u8 (mk 16 (dbl f))) (0, 0) _ HX.out keyUnder rfl (keySize _) ?_)
              | (refine wpList_store_row rfl 28 _ _ rfl (w.heap.size + 1) _ rfl rfl 28 (cellsOf .u8 (mk 16 zeroK)) HZ.out (keySize _) (by rw [cellsOf_size, cellsOf_size, mk_len, mk_len]) (cellsOf_one _ _) ?_))
            refine bodyPost_ret (results_cell_row rfl _ _ (w.heap.size + 1) 28 (cellsOf .u8 (mk 16 (dbl f))) (0, 0) _ rfl (HZ.out.setRow .u8 (mk 16 (dbl f))) keyUnder rfl (keySize _)) rfl ⟨rfl, below_setRow HW.out (by omega) _⟩
          | succ k =>
            obtain rfl : z = k := by omega
            have k1 : k / 8 < 16 := by omega
            have c1 := ho.cell (i := k / 8) (by rw [mk_len]; exact k1)
            have c2 := hp.cell (i := k) (by rw [mk_len]; omega)
            rw [mk_get (by omega)] at c1 c2
            have f1 := ho.free (k / 8)
            have qb := outTo_at hPb k
            have xb := hPb k
            have HS := Lib.hid (outTo_step (pv f) k)
            generalize outTo (pv f) (k + 1) (k / 8) = q at *
            generalize (pv f) k = x at *
            clear hp ho hzz hw hz
            have e1 : IntKind.i64.wrap ((k : Int) / 8) = (k : Int) / 8 := IntWalk.i64_in _ (by omega)
            have e2 : (0 : Int) ≤ (k : Int) / 8 := by omega
            have e3 : ((k : Int) / 8).toNat = k / 8 := by omega
            have e4 : (k : Int) / 8 < 16 := by omega
            have e5 : (0 : Int) ≤ k := by omega
            have e6 : (k : Int) < 129 := by omega
            have e7 : IntKind.u8.wrap (x : Int) = x := IntWalk.u8_in _ (by omega)
            have e8 : IntKind.u8.wrap ((q : Int) * 2) = (q : Int) * 2 := IntWalk.u8_in _ (by omega)
            have e9 : IntKind.u8.wrap ((q : Int) * 2 + (x : Int)) = (q : Int) * 2 + (x : Int) := IntWalk.u8_in _ (by omega)
            go_wp2
            refine wp_region_still_tail 13 (by kernel_rfl) (by kernel_rfl) ?_
            simp only [List.take_succ_cons, List.take_zero, List.drop_succ_cons, List.drop_zero]
            change wpStill _ _ wr.drew (fun a' => wpList _ _ _ _ a' wr.drew) _ _
            iterate 13 still_step
            refine wpStill_nil ?_
            go_wp2
            go_roundw
            case rel => exact ⟨k, (k : Int) - 1, by omega, by omega, rfl, (HP.out.other (by show wo.heap.size ≠ w.heap.size + 1 + 1; omega) _).drew, by rw [← HS.out]; exact (HO.out.set (k / 8) _).drew, (HZ.out.other (by show wo.heap.size ≠ w.heap.size + 1; omega) _).drew, (HW.out.setCell (by show w.heap.size ≤ wo.heap.size; omega) _).drew⟩
            case measure => simp [intOf]
end Go.Proofs.Ytccjpofngannhaa
