/- The contract of package citadelref01's Xor: it answers the sum that the code reckons, and writes nothing that was there. Condition: the keys' bytes are bytes. -/
import Derived.Test.YtccjpofngannhaaRef1
import Derived.Test.YtccjpofngannhaaKeyC
import Derived.Test.YtccjpofngannhaaKeyB
namespace Go.Proofs.Ytccjpofngannhaa
open Go.ChangeShapes Go.WideShapes Go.ChangeAt Go.RowKit

theorem bit_nat (b k : Nat) (hb : b < 256) (hk : k ≤ 100) (w : World) :
    Calls Try.prog 25 #[.int .u8 b, .int .i64 k] w fun e w' => e = .returned (.int .i64 (bt b k : Nat)) ∧ w' = w :=
  bit_same b k (by omega) (by omega) (by omega) (by omega) w

set_option maxRecDepth 100000 in
set_option maxHeartbeats 2000000 in
theorem refXor_any (f g : Nat → Nat) (hf : IsKey f) (hg : IsKey g) (w : World) :
    Calls Try.prog 23 #[.agg (cellsOf .u8 (mk 16 f)), .agg (cellsOf .u8 (mk 16 g))] w fun e w' => e = .returned (.agg (cellsOf .u8 (mk 16 (xorK f g)))) ∧ Below w.heap.size w w' := by
  go_enter Try.func23, Try.ntmps23
  go_wp2
  go_loopw [6] (fun v6 wr => ∃ i : Nat, i ≤ 16 ∧ v6 = .int .i64 i ∧ IntBlk wr w.heap.size .u8 28 (mk 16 f) ∧ IntBlk wr (w.heap.size + 1) .u8 28 (mk 16 g) ∧ IntBlk wr (w.heap.size + 1 + 1) .u8 28 (mk 16 zeroK) ∧ IntBlk wr (w.heap.size + 1 + 1 + 1) .u8 28 (mk 16 (xorTo f g i)) ∧ Below w.heap.size w wr) (fun v6 _ => 16 - (intOf v6).toNat)
  case atStart => exact ⟨0, by omega, rfl, (blk_first w .u8 _ (mk 16 f) _ _).alloc _, (blk_second w .u8 _ (mk 16 g) _ _).alloc _, (blk_third w .u8 _ (mk 16 zeroK) _ _).alloc _, by rw [xorTo_start]; exact blk_fourth w .u8 _ (mk 16 zeroK) _ _ _, below_four w _ _ _ _⟩
  case round =>
    obtain ⟨i, hi, rfl, ha, hb, hz, hd, hw⟩ := hrel
    by_cases hlt : i < 16
    · have hx := hf i hlt
      have hy := hg i hlt
      rw [← xorBit_start hx hy] at hd
      have HA := Lib.hid ha
      have HB := Lib.hid hb
      have HZ := Lib.hid hz
      have HD := Lib.hid hd
      have HW := Lib.hid hw
      clear ha hb hz hd hw
      have hdec : decide ((i : Int) < 16) = true := by simp; omega
      go_wp2
      go_loopw [7] (fun v7 wk => ∃ (m : Nat) (z : Int), m ≤ 8 ∧ z + 1 = m ∧ v7 = .int .i64 z ∧ IntBlk wk w.heap.size .u8 28 (mk 16 f) ∧ IntBlk wk (w.heap.size + 1) .u8 28 (mk 16 g) ∧ IntBlk wk (w.heap.size + 1 + 1) .u8 28 (mk 16 zeroK) ∧ IntBlk wk (w.heap.size + 1 + 1 + 1) .u8 28 (mk 16 (xorBit f g i m)) ∧ Below w.heap.size w wk) (fun v7 _ => (intOf v7 + 1).toNat)
      case atStart => exact ⟨8, 7, by omega, by omega, rfl, HA.out, HB.out, HZ.out, HD.out, HW.out⟩
      case round =>
        clear HA HB HZ HD HW
        obtain ⟨m, z, hm, hz, rfl, ha, hb, hzz, hd, hw⟩ := hrel
        have HA := Lib.hid ha
        have HB := Lib.hid hb
        have HZ := Lib.hid hzz
        have HD := Lib.hid hd
        have HW := Lib.hid hw
        cases m with
        | zero =>
          obtain rfl : z = -1 := by omega
          clear ha hb hzz hd hw hz hm
          go_wp2
          go_roundw
          case rel => exact ⟨i + 1, by omega, by go_num, HA.out, HB.out, HZ.out, by rw [← xorBit_end]; exact HD.out, HW.out⟩
          case measure => simp [intOf]; omega
        | succ k =>
          obtain rfl : z = k := by omega
          have c1 := ha.cell (i := i) (by rw [mk_len]; exact hlt)
          have c2 := hb.cell (i := i) (by rw [mk_len]; exact hlt)
          have c3 := hd.cell (i := i) (by rw [mk_len]; exact hlt)
          rw [mk_get hlt] at c1 c2 c3
          rw [xorBit_at] at c3
          have f3 := hd.free i
          have qb := half_lt (x := xorK f g i) (k := k) (xor_lt hx hy)
          have xb := bt_lt (f i) k
          have yb := bt_lt (g i) k
          have BS := fun W => bit_nat (f i) k hx (by omega) W
          have BT := fun W => bit_nat (g i) k hy (by omega) W
          generalize hq : xorK f g i / 2 ^ (k + 1) = q at *
          generalize hxx : bt (f i) k = x at *
          generalize hyy : bt (g i) k = y at *
          have HS := Lib.hid (xorBit_step f g i k hq hxx hyy)
          clear hq hxx hyy ha hb hzz hd hw hz
          have HBS := Lib.hid BS; clear BS
          have HBT := Lib.hid BT; clear BT
          have e1 : (i : Int) < 16 := by omega
          have e2 : (0 : Int) ≤ i := by omega
          have e3 : IntKind.u8.wrap ((q : Int) * 2) = (q : Int) * 2 := IntWalk.u8_in _ (by omega)
          have e4 : IntKind.i64.wrap ((x : Int) + (y : Int)) = (x : Int) + (y : Int) := IntWalk.i64_in _ (by omega)
          have e5 : ((x : Int) + (y : Int)).tmod 2 = ((x : Int) + (y : Int)) % 2 := IntWalk.rem_in _ _ (by omega)
          have e6 : IntKind.u8.wrap (((x : Int) + (y : Int)) % 2) = ((x : Int) + (y : Int)) % 2 := IntWalk.u8_in _ (by omega)
          have e7 : IntKind.u8.wrap ((q : Int) * 2 + ((x : Int) + (y : Int)) % 2) = (q : Int) * 2 + ((x : Int) + (y : Int)) % 2 := IntWalk.u8_in _ (by omega)
          go_wp2
          refine wp_region_still_tail 20 (by kernel_rfl) (by kernel_rfl) ?_
          simp only [List.take_succ_cons, List.take_zero, List.drop_succ_cons, List.drop_zero]
          change wpStill _ _ wr.drew (fun a' => wpList _ _ _ _ a' wr.drew) _ _
          iterate 9 still_step
          refine wpStill_step (fun K hK => ?_)
          go_simp
          refine ⟨_, HBS.out _, hK _ ?_⟩
          clear hK K
          iterate 4 still_step
          refine wpStill_step (fun K hK => ?_)
          go_simp
          refine ⟨_, HBT.out _, hK _ ?_⟩
          clear hK K
          iterate 5 still_step
          refine wpStill_nil ?_
          go_wp2
          go_roundw
          case rel => exact ⟨k, (k : Int) - 1, by omega, by omega, rfl, (HA.out.other (by show w.heap.size + 1 + 1 + 1 ≠ w.heap.size; omega) _).drew, (HB.out.other (by show w.heap.size + 1 + 1 + 1 ≠ w.heap.size + 1; omega) _).drew, (HZ.out.other (by show w.heap.size + 1 + 1 + 1 ≠ w.heap.size + 1 + 1; omega) _).drew, by rw [← HS.out]; exact (HD.out.set i _).drew, (HW.out.setCell (by show w.heap.size ≤ w.heap.size + 1 + 1 + 1; omega) _).drew⟩
          case measure => simp [intOf]
    · obtain rfl : i = 16 := by omega
      have HZ := Lib.hid hz
      have HD := Lib.hid hd
      have HW := Lib.hid hw
      clear ha hb hz hd hw
      go_wp2_with (first
        | (refine wpList_load_row rfl 28 _ rfl (w.heap.size + 1 + 1 + 1) rfl 28 (cellsOf .u8 (mk 16 (xorK f g))) (0, 0) _ (by rw [← xorTo_end]; exact HD.out) keyUnder rfl (keySize _) ?_)
        | (refine wpList_store_row rfl 28 _ _ rfl (w.heap.size + 1 + 1) _ rfl rfl 28 (cellsOf .u8 (mk 16 zeroK)) HZ.out (keySize _) (by rw [cellsOf_size, cellsOf_size, mk_len, mk_len]) (cellsOf_one _ _) ?_))
      refine bodyPost_ret (results_cell_row rfl _ _ (w.heap.size + 1 + 1) 28 (cellsOf .u8 (mk 16 (xorK f g))) (0, 0) _ rfl (HZ.out.setRow .u8 (mk 16 (xorK f g))) keyUnder rfl (keySize _)) rfl ⟨rfl, below_setRow HW.out (by omega) _⟩
end Go.Proofs.Ytccjpofngannhaa
