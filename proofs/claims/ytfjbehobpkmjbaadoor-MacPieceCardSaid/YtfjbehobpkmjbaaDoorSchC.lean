/- The contract of package digest's Schedule: a piece's sixty-four words. It writes nothing that was there. Condition: the piece's bytes are bytes. -/
import Derived.Test.YtfjbehobpkmjbaaDoorWordC
namespace Go.Proofs.YtfjbehobpkmjbaaDoor
open Go.ChangeShapes Go.WideShapes Go.ChangeAt Go.RowKit
attribute [local irreducible] schT beW latW earW add32

theorem nextW_first (f T : Nat → Nat) {k : Nat} (h : k < 16) : nextW f T k = beW f k := if_pos h
theorem nextW_on (f T : Nat → Nat) {k : Nat} (h : ¬ k < 16) : nextW f T k = add32 (add32 (add32 (latW (T (k - 2))) (T (k - 7))) (earW (T (k - 15)))) (T (k - 16)) := if_neg h

set_option maxRecDepth 100000 in
set_option maxHeartbeats 2000000 in
theorem Schedule_any (f : Nat → Nat) (hf : ∀ i, i < 64 → f i < 256) (w : World) :
    Calls Tryd.prog 39 #[.agg (cellsOf .u8 (mk 64 f))] w fun e w' => e = .returned (.agg (cellsOf .u32 (mk 64 (schT f 64)))) ∧ Below w.heap.size w w' := by
  have h0 : mk 64 (schT f 0) = mk 64 zeroK := by unfold schT; rfl
  go_enter Tryd.func39, Tryd.ntmps39
  go_wp2
  go_loopw [5] (fun v wr => ∃ k : Nat, k ≤ 64 ∧ v = .int .i64 k ∧ IntBlk wr w.heap.size .u8 25 (mk 64 f) ∧ IntBlk wr (w.heap.size + 1) .u32 57 (mk 64 zeroK) ∧ IntBlk wr (w.heap.size + 1 + 1) .u32 57 (mk 64 (schT f k)) ∧ Below w.heap.size w wr) (fun v _ => 64 - (intOf v).toNat)
  case atStart => exact ⟨0, by omega, rfl, blk_first w .u8 _ (mk 64 f) _ _, blk_second w .u32 _ (mk 64 zeroK) _ _, by rw [h0]; exact (blk_third w .u32 57 (mk 64 zeroK) _ _), below_three w _ _ _⟩
  case round =>
    clear h0
    obtain ⟨k, hk, rfl, ha, hz, hd, hw⟩ := hrel
    have HA := Lib.hid ha
    have HZ := Lib.hid hz
    have HD := Lib.hid hd
    have HW := Lib.hid hw
    have HS := Lib.hid (schT_step f k (v := ((nextW f (schT f k) k : Nat) : Int)) rfl)
    by_cases hlt : k < 64
    · by_cases h16 : k < 16
      · rw [nextW_first f _ h16] at HS
        clear ha hz hd hw
        have e1 : (k : Int) < 16 := by omega
        have WA := fun W => wordAt_any f hf k h16 W
        go_wp2_with (first
          | (refine wpList_load_row rfl 25 _ rfl w.heap.size rfl 25 (cellsOf .u8 (mk 64 f)) (0, 0) _ HA.out pieceUnder rfl (pieceSize f) ?_)
          | (go_at_call 44; refine (WA _).mono ?_; rintro e w1 ⟨rfl, hb⟩; have f1 := (HD.out.below hb HD.out.lt).free k; have g1 := (HD.out.below hb HD.out.lt).cell (i := k) (by rw [mk_len]; exact hlt)))
        go_roundw
        case rel => exact ⟨k + 1, by omega, by go_num, (HA.out.below hb HA.out.lt).other (by show w.heap.size + 1 + 1 ≠ w.heap.size; omega) _, (HZ.out.below hb HZ.out.lt).other (by show w.heap.size + 1 + 1 ≠ w.heap.size + 1; omega) _, by rw [← HS.out]; exact (HD.out.below hb HD.out.lt).set k _, (HW.out.trans (hb.mono HW.out.size)).setCell (by show w.heap.size ≤ w.heap.size + 1 + 1; omega) _⟩
        case measure => simp [intOf]; omega
      · rw [nextW_on f _ h16] at HS
        obtain ⟨a, ha2⟩ : ∃ a, k - 2 = a := ⟨_, rfl⟩
        obtain ⟨b, hb7⟩ : ∃ b, k - 7 = b := ⟨_, rfl⟩
        obtain ⟨c, hc15⟩ : ∃ c, k - 15 = c := ⟨_, rfl⟩
        obtain ⟨d, hd16⟩ : ∃ d, k - 16 = d := ⟨_, rfl⟩
        rw [ha2, hb7, hc15, hd16] at HS
        have c1 := hd.cell (i := a) (by rw [mk_len]; omega)
        have c2 := hd.cell (i := b) (by rw [mk_len]; omega)
        have c3 := hd.cell (i := c) (by rw [mk_len]; omega)
        have c4 := hd.cell (i := d) (by rw [mk_len]; omega)
        rw [mk_get (by omega)] at c1 c2 c3 c4
        have f1 := hd.free k
        have c5 := hd.cell (i := k) (by rw [mk_len]; omega)
        have L := Lib.hid (fun W => (late_any _ (schT_lt hf k a) W).mono fun e w' h => And.intro h.1 h.2.symm)
        have E := Lib.hid (fun W => (early_any _ (schT_lt hf k c) W).mono fun e w' h => And.intro h.1 h.2.symm)
        have s1 := add32_int (latW (schT f k a)) (schT f k b)
        have s2 := add32_int (add32 (latW (schT f k a)) (schT f k b)) (earW (schT f k c))
        have s3 := add32_int (add32 (add32 (latW (schT f k a)) (schT f k b)) (earW (schT f k c))) (schT f k d)
        have q1 : IntKind.i64.wrap ((k : Int) - 2) = (a : Int) := by rw [IntWalk.i64_in _ (by omega)]; omega
        have q2 : IntKind.i64.wrap ((k : Int) - 7) = (b : Int) := by rw [IntWalk.i64_in _ (by omega)]; omega
        have q3 : IntKind.i64.wrap ((k : Int) - 15) = (c : Int) := by rw [IntWalk.i64_in _ (by omega)]; omega
        have q4 : IntKind.i64.wrap ((k : Int) - 16) = (d : Int) := by rw [IntWalk.i64_in _ (by omega)]; omega
        have l0 : (0 : Int) ≤ k := by omega
        have l1 : (0 : Int) ≤ a := by omega
        have l2 : (0 : Int) ≤ b := by omega
        have l3 : (0 : Int) ≤ c := by omega
        have l4 : (0 : Int) ≤ d := by omega
        have u0 : (k : Int) < 64 := by omega
        have u1 : (a : Int) < 64 := by omega
        have u2 : (b : Int) < 64 := by omega
        have u3 : (c : Int) < 64 := by omega
        have u4 : (d : Int) < 64 := by omega
        have e1 : decide ((k : Int) < 16) = false := by simp; omega
        clear ha hz hd hw ha2 hb7 hc15 hd16 h16
        go_wp2
        refine wp_region_still_tail 23 (by kernel_rfl) (by kernel_rfl) ?_
        simp only [List.take_succ_cons, List.take_zero, List.drop_succ_cons, List.drop_zero]
        change wpStill _ _ wr.drew (fun a' => wpList _ _ _ _ a' wr.drew) _ _
        iterate 5 still_step
        refine wpStill_step (fun K hK => ?_)
        go_simp
        refine ⟨_, L.out _, hK _ ?_⟩
        clear hK K
        iterate 9 still_step
        refine wpStill_step (fun K hK => ?_)
        go_simp
        refine ⟨_, E.out _, hK _ ?_⟩
        clear hK K
        iterate 7 still_step
        refine wpStill_nil ?_
        go_wp2
        go_roundw
        case rel => exact ⟨k + 1, by omega, by go_num, (HA.out.other (by show w.heap.size + 1 + 1 ≠ w.heap.size; omega) _).drew, (HZ.out.other (by show w.heap.size + 1 + 1 ≠ w.heap.size + 1; omega) _).drew, by rw [← HS.out]; exact (HD.out.set k _).drew, (HW.out.setCell (by show w.heap.size ≤ w.heap.size + 1 + 1; omega) _).drew⟩
        case measure => simp [intOf]; omega
    · obtain rfl : k = 64 := by omega
      have hd1 : decide (((64 : Nat) : Int) < 64) = false := rfl
      clear ha hz hd hw
      go_wp2_with (first
        | (refine wpList_load_row rfl 57 _ rfl (w.heap.size + 1 + 1) rfl 57 (cellsOf .u32 (mk 64 (schT f 64))) (0, 0) _ HD.out schedUnder rfl (schedSize _) ?_)
        | (refine wpList_store_row rfl 57 _ _ rfl (w.heap.size + 1) _ rfl rfl 57 (cellsOf .u32 (mk 64 zeroK)) HZ.out (schedSize _) (by rw [cellsOf_size, cellsOf_size, mk_len, mk_len]) (cellsOf_one _ _) ?_))
      refine bodyPost_ret (results_cell_row rfl _ _ (w.heap.size + 1) 57 (cellsOf .u32 (mk 64 (schT f 64))) (0, 0) _ rfl (HZ.out.setRow .u32 (mk 64 (schT f 64))) schedUnder rfl (schedSize _)) rfl ⟨rfl, below_setRow HW.out (by omega) _⟩
end Go.Proofs.YtfjbehobpkmjbaaDoor
