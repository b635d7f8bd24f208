/- The contract of package field's Xor: it answers the exclusive or of two keys, and writes nothing that was there. Condition: the keys' bytes are bytes. -/
import Derived.Test.YtilfjmpoiiepkaaRows
import Derived.Test.YtilfjmpoiiepkaaKeyS
import Derived.Test.YtilfjmpoiiepkaaKeyB
import Derived.WalkKit
import Derived.ProofKit
import Derived.OpenShut
import Derived.Lib.Hide
import Derived.StillTailTactics
import Derived.Outline
namespace Go.Proofs.Ytilfjmpoiiepkaa
open Go.ChangeShapes Go.WideShapes Go.ChangeAt Go.RowKit

set_option maxRecDepth 100000 in
set_option maxHeartbeats 1000000 in
theorem Xor_any (f g : Nat → Nat) (hf : IsKey f) (hg : IsKey g) (w : World) :
    Calls Try.prog 40 #[.agg (cellsOf .u8 (mk 16 f)), .agg (cellsOf .u8 (mk 16 g))] w fun e w' => e = .returned (.agg (cellsOf .u8 (mk 16 (xorK f g)))) ∧ Below w.heap.size w w' := by
  go_enter Try.func40, Try.ntmps40
  go_wp2
  go_loopw [7] (fun v7 wr => ∃ k : Nat, k ≤ 16 ∧ v7 = .int .i64 k ∧ IntBlk wr w.heap.size .u8 23 (mk 16 f) ∧ IntBlk wr (w.heap.size + 1) .u8 23 (mk 16 g) ∧ IntBlk wr (w.heap.size + 1 + 1) .u8 23 (mk 16 zeroK) ∧ IntBlk wr (w.heap.size + 1 + 1 + 1) .u8 23 (mk 16 (xorTo f g k)) ∧ Below w.heap.size w wr) (fun v7 _ => 16 - (intOf v7).toNat)
  case atStart => exact ⟨0, by omega, rfl, (blk_first w .u8 _ (mk 16 f) _ _).alloc _, (blk_second w .u8 _ (mk 16 g) _ _).alloc _, (blk_third w .u8 _ (mk 16 zeroK) _ _).alloc _, by rw [xorTo_start]; exact blk_fourth w .u8 _ (mk 16 zeroK) _ _ _, below_four w _ _ _ _⟩
  case round =>
    obtain ⟨k, hk, rfl, ha, hb, hz, hd, hw⟩ := hrel
    have HA := Lib.hid ha
    have HB := Lib.hid hb
    have HZ := Lib.hid hz
    have HD := Lib.hid hd
    have HW := Lib.hid hw
    by_cases hlt : k < 16
    · have c1 := ha.cell (i := k) (by rw [mk_len]; exact hlt)
      have c2 := hb.cell (i := k) (by rw [mk_len]; exact hlt)
      have c3 := hd.cell (i := k) (by rw [mk_len]; exact hlt)
      rw [mk_get hlt] at c1 c2
      have f1 := ha.free k
      have f2 := hb.free k
      have f3 := hd.free k
      have hx := hf k hlt
      have hy := hg k hlt
      have HV := Lib.hid (xorK_bits (f := f) (g := g) hx hy)
      clear ha hb hz hd hw
      go_wp2
      have e1 : (k : Int) < 16 := by omega
      have e2 : (0 : Int) ≤ k := by omega
      refine wp_region_still_tail 9 (by kernel_rfl) (by kernel_rfl) ?_
      simp only [List.take_succ_cons, List.take_zero, List.drop_succ_cons, List.drop_zero]
      change wpStill _ _ wr.drew (fun a' => wpList _ _ _ _ a' wr.drew) _ _
      iterate 9 still_step
      refine wpStill_nil ?_
      go_wp2
      go_roundw
      case rel => exact ⟨k + 1, by omega, by go_num, (HA.out.other (by show w.heap.size + 1 + 1 + 1 ≠ w.heap.size; omega) _).drew, (HB.out.other (by show w.heap.size + 1 + 1 + 1 ≠ w.heap.size + 1; omega) _).drew, (HZ.out.other (by show w.heap.size + 1 + 1 + 1 ≠ w.heap.size + 1 + 1; omega) _).drew, by rw [HV.out, ← xorTo_step]; exact (HD.out.set k _).drew, (HW.out.setCell (by show w.heap.size ≤ w.heap.size + 1 + 1 + 1; omega) _).drew⟩
      case measure => simp [intOf]; omega
    · obtain rfl : k = 16 := by omega
      clear ha hb hz hd hw
      go_wp2_with (first
        | (refine wpList_load_row rfl 23 _ rfl (w.heap.size + 1 + 1 + 1) rfl 23 (cellsOf .u8 (mk 16 (xorK f g))) (0, 0) _ (by rw [← xorTo_end]; exact HD.out) keyUnder rfl (keySize _) ?_)
        | (refine wpList_store_row rfl 23 _ _ rfl (w.heap.size + 1 + 1) _ rfl rfl 23 (cellsOf .u8 (mk 16 zeroK)) HZ.out (keySize _) (by rw [cellsOf_size, cellsOf_size, mk_len, mk_len]) (cellsOf_one _ _) ?_))
      refine bodyPost_ret (results_cell_row rfl _ _ (w.heap.size + 1 + 1) 23 (cellsOf .u8 (mk 16 (xorK f g))) (0, 0) _ rfl (HZ.out.setRow .u8 (mk 16 (xorK f g))) keyUnder rfl (keySize _)) rfl ⟨rfl, below_setRow HW.out (by omega) _⟩
end Go.Proofs.Ytilfjmpoiiepkaa
