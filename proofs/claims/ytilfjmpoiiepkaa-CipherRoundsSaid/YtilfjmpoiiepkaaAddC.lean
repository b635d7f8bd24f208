/- The contracts of package cipher's add: each answers the exclusive or of its two arguments, and writes nothing that was there. Condition: the arguments' bytes are bytes. -/
import Derived.Test.YtilfjmpoiiepkaaXorC
import Derived.Test.YtilfjmpoiiepkaaMixC
namespace Go.Proofs.Ytilfjmpoiiepkaa
open Go.ChangeShapes Go.WideShapes Go.ChangeAt Go.RowKit

/-- The first k bytes are summed. -/
def xsTo (f g : Nat → Nat) (k : Nat) : Nat → Nat := fun j => if j < k then xorK f g j else f j
theorem xsTo_start (n : Nat) (f g : Nat → Nat) : mk n (xsTo f g 0) = mk n f := mk_ext fun j _ => by unfold xsTo; rw [if_neg (by omega)]
theorem xsTo_end (n : Nat) (f g : Nat → Nat) : mk n (xsTo f g n) = mk n (xorK f g) := mk_ext fun j hj => by unfold xsTo; rw [if_pos hj]
theorem xsTo_at (f g : Nat → Nat) (k : Nat) : xsTo f g k k = f k := by unfold xsTo; rw [if_neg (by omega)]
theorem xsTo_step (n : Nat) (f g : Nat → Nat) (k : Nat) : (mk n (xsTo f g k)).set k (xorK f g k : Nat) = mk n (xsTo f g (k + 1)) := by
  refine mk_set_is rfl fun j _ => ?_
  unfold xsTo
  by_cases e : j = k
  · subst e; rw [if_pos rfl, if_pos (by omega)]
  · rw [if_neg e]
    by_cases l : j < k
    · rw [if_pos l, if_pos (by omega)]
    · rw [if_neg l, if_neg (by omega)]

set_option maxRecDepth 100000 in
set_option maxHeartbeats 1000000 in
theorem add_any (f g : Nat → Nat) (hf : IsWord f) (hg : IsWord g) (w : World) :
    Calls Try.prog 47 #[.agg (cellsOf .u8 (mk 4 f)), .agg (cellsOf .u8 (mk 4 g))] w fun e w' => e = .returned (.agg (cellsOf .u8 (mk 4 (xorK f g)))) ∧ Below w.heap.size w w' := by
  go_enter Try.func47, Try.ntmps47
  go_wp2
  go_loopw [6] (fun v6 wr => ∃ k : Nat, k ≤ 4 ∧ v6 = .int .i64 k ∧ IntBlk wr w.heap.size .u8 26 (mk 4 (xsTo f g k)) ∧ IntBlk wr (w.heap.size + 1) .u8 26 (mk 4 g) ∧ IntBlk wr (w.heap.size + 1 + 1) .u8 26 (mk 4 zeroK) ∧ Below w.heap.size w wr) (fun v6 _ => 4 - (intOf v6).toNat)
  case atStart => exact ⟨0, by omega, rfl, by rw [xsTo_start]; exact blk_first w .u8 _ (mk 4 f) _ _, blk_second w .u8 _ (mk 4 g) _ _, blk_third w .u8 _ (mk 4 zeroK) _ _, below_three w _ _ _⟩
  case round =>
    obtain ⟨k, hk, rfl, ha, hb, hz, hw⟩ := hrel
    have HA := Lib.hid ha
    have HB := Lib.hid hb
    have HZ := Lib.hid hz
    have HW := Lib.hid hw
    by_cases hlt : k < 4
    · have c1 := ha.cell (i := k) (by rw [mk_len]; exact hlt)
      have c2 := hb.cell (i := k) (by rw [mk_len]; exact hlt)
      rw [mk_get hlt] at c1 c2
      rw [xsTo_at] at c1
      have f1 := ha.free k
      have f2 := hb.free k
      have hx := hf k hlt
      have hy := hg k hlt
      have HV := Lib.hid (xorK_bits (f := f) (g := g) hx hy)
      clear ha hb hz hw
      go_wp2
      have e1 : (k : Int) < 4 := by omega
      have e2 : (0 : Int) ≤ k := by omega
      refine wp_region_still_tail 8 (by kernel_rfl) (by kernel_rfl) ?_
      simp only [List.take_succ_cons, List.take_zero, List.drop_succ_cons, List.drop_zero]
      change wpStill _ _ wr.drew (fun a' => wpList _ _ _ _ a' wr.drew) _ _
      iterate 8 still_step
      refine wpStill_nil ?_
      go_wp2
      go_roundw
      case rel => exact ⟨k + 1, by omega, by go_num, by rw [HV.out, ← xsTo_step]; exact (HA.out.set k _).drew, (HB.out.other (by show w.heap.size ≠ w.heap.size + 1; omega) _).drew, (HZ.out.other (by show w.heap.size ≠ w.heap.size + 1 + 1; omega) _).drew, (HW.out.setCell (by show w.heap.size ≤ w.heap.size; omega) _).drew⟩
      case measure => simp [intOf]; omega
    · obtain rfl : k = 4 := by omega
      clear ha hb hz hw
      go_wp2_with (first
        | (refine wpList_load_row rfl 26 _ rfl w.heap.size rfl 26 (cellsOf .u8 (mk 4 (xorK f g))) (0, 0) _ (by rw [← xsTo_end]; exact HA.out) wordUnder rfl (wordSize _) ?_)
        | (refine wpList_store_row rfl 26 _ _ rfl (w.heap.size + 1 + 1) _ rfl rfl 26 (cellsOf .u8 (mk 4 zeroK)) HZ.out (wordSize _) (by rw [cellsOf_size, cellsOf_size, mk_len, mk_len]) (cellsOf_one _ _) ?_))
      refine bodyPost_ret (results_cell_row rfl _ _ (w.heap.size + 1 + 1) 26 (cellsOf .u8 (mk 4 (xorK f g))) (0, 0) _ rfl (HZ.out.setRow .u8 (mk 4 (xorK f g))) wordUnder rfl (wordSize _)) rfl ⟨rfl, below_setRow HW.out (by omega) _⟩
end Go.Proofs.Ytilfjmpoiiepkaa
