/- DigProg: merged by merge.py out of SchC TakeC PadC PaddedC PiecesC OfC. Conditions: as each part says. -/
import Derived.Test.YtccpecajbfpjdaaDoorDigBase
import Derived.Great.BuildSlice
import Derived.RangeFuncNested
import Derived.RangeFuncBound
import Derived.RangeFuncCalls
import Derived.RangeFuncLeaves
import Derived.Shelf.Abstract
import Derived.Shelf.RegionOpen
import Derived.WalkKit
import Derived.OwnWalkIn
import Derived.TacticsInMore
import Derived.LoopNIn
import Derived.LoopIn
import Derived.WalkMore
/- The contract of package digest's Schedule: a piece's sixty-four words. It writes nothing that was there. Condition: the piece's bytes are bytes. -/
namespace Go.Proofs.YtccpecajbfpjdaaDoor
open Go.ChangeShapes Go.WideShapes Go.ChangeAt Go.RowKit
attribute [local irreducible] schT beW latW earW add32

theorem nextW_first (f T : Nat → Nat) {k : Nat} (h : k < 16) : nextW f T k = beW f k := if_pos h
theorem nextW_on (f T : Nat → Nat) {k : Nat} (h : ¬ k < 16) : nextW f T k = add32 (add32 (add32 (latW (T (k - 2))) (T (k - 7))) (earW (T (k - 15)))) (T (k - 16)) := if_neg h

set_option maxRecDepth 100000 in
set_option maxHeartbeats 2000000 in
theorem Schedule_any (f : Nat → Nat) (hf : ∀ i, i < 64 → f i < 256) (w : World) :
    Calls Tryd.prog 33 #[.agg (cellsOf .u8 (mk 64 f))] w fun e w' => e = .returned (.agg (cellsOf .u32 (mk 64 (schT f 64)))) ∧ Below w.heap.size w w' := by
  have h0 : mk 64 (schT f 0) = mk 64 zeroK := by unfold schT; rfl
  go_enter Tryd.func33, Tryd.ntmps33
  go_wp2
  go_loopw [5] (fun v wr => ∃ k : Nat, k ≤ 64 ∧ v = .int .i64 k ∧ IntBlk wr w.heap.size .u8 61 (mk 64 f) ∧ IntBlk wr (w.heap.size + 1) .u32 63 (mk 64 zeroK) ∧ IntBlk wr (w.heap.size + 1 + 1) .u32 63 (mk 64 (schT f k)) ∧ Below w.heap.size w wr) (fun v _ => 64 - (intOf v).toNat)
  case atStart => exact ⟨0, by omega, rfl, blk_first w .u8 _ (mk 64 f) _ _, blk_second w .u32 _ (mk 64 zeroK) _ _, by rw [h0]; exact (blk_third w .u32 63 (mk 64 zeroK) _ _), below_three w _ _ _⟩
  case round =>
    clear h0
    obtain ⟨k, hk, rfl, ha, hz, hd, hw⟩ := hrel
    have HA := Lib.hid ha
    have HZ := Lib.hid hz
    have HD := Lib.hid hd
    have HW := Lib.hid hw
    have HS := Lib.hid (schT_step f k (v := ((nextW f (schT f k) k : Nat) : Int)) rfl)
    by_cases hlt : k < 64
    · by_cases h16 : k < 16
      · rw [nextW_first f _ h16] at HS
        clear ha hz hd hw
        have e1 : (k : Int) < 16 := by omega
        have WA := fun W => wordAt_any f hf k h16 W
        go_wp2_with (first
          | (refine wpList_load_row rfl 61 _ rfl w.heap.size rfl 61 (cellsOf .u8 (mk 64 f)) (0, 0) _ HA.out pieceUnder rfl (pieceSize f) ?_)
          | (go_at_call 46; refine (WA _).mono ?_; rintro e w1 ⟨rfl, hb⟩; have f1 := (HD.out.below hb HD.out.lt).free k; have g1 := (HD.out.below hb HD.out.lt).cell (i := k) (by rw [mk_len]; exact hlt)))
        go_roundw
        case rel => exact ⟨k + 1, by omega, by go_num, (HA.out.below hb HA.out.lt).other (by show w.heap.size + 1 + 1 ≠ w.heap.size; omega) _, (HZ.out.below hb HZ.out.lt).other (by show w.heap.size + 1 + 1 ≠ w.heap.size + 1; omega) _, by rw [← HS.out]; exact (HD.out.below hb HD.out.lt).set k _, (HW.out.trans (hb.mono HW.out.size)).setCell (by show w.heap.size ≤ w.heap.size + 1 + 1; omega) _⟩
        case measure => simp [intOf]; omega
      · rw [nextW_on f _ h16] at HS
        obtain ⟨a, ha2⟩ : ∃ a, k - 2 = a := ⟨_, rfl⟩
        obtain ⟨b, hb7⟩ : ∃ b, k - 7 = b := ⟨_, rfl⟩
        obtain ⟨c, hc15⟩ : ∃ c, k - 15 = c := ⟨_, rfl⟩
        obtain ⟨d, hd16⟩ : ∃ d, k - 16 = d := ⟨_, rfl⟩
        rw [ha2, hb7, hc15, hd16] at HS
        have c1 := hd.cell (i := a) (by rw [mk_len]; omega)
        have c2 := hd.cell (i := b) (by rw [mk_len]; omega)
        have c3 := hd.cell (i := c) (by rw [mk_len]; omega)
        have c4 := hd.cell (i := d) (by rw [mk_len]; omega)
        rw [mk_get (by omega)] at c1 c2 c3 c4
        have f1 := hd.free k
        have c5 := hd.cell (i := k) (by rw [mk_len]; omega)
        have L := Lib.hid (fun W => (late_any _ (schT_lt hf k a) W).mono fun e w' h => And.intro h.1 h.2.symm)
        have E := Lib.hid (fun W => (early_any _ (schT_lt hf k c) W).mono fun e w' h => And.intro h.1 h.2.symm)
        have s1 := add32_int (latW (schT f k a)) (schT f k b)
        have s2 := add32_int (add32 (latW (schT f k a)) (schT f k b)) (earW (schT f k c))
        have s3 := add32_int (add32 (add32 (latW (schT f k a)) (schT f k b)) (earW (schT f k c))) (schT f k d)
        have q1 : IntKind.i64.wrap ((k : Int) - 2) = (a : Int) := by rw [IntWalk.i64_in _ (by omega)]; omega
        have q2 : IntKind.i64.wrap ((k : Int) - 7) = (b : Int) := by rw [IntWalk.i64_in _ (by omega)]; omega
        have q3 : IntKind.i64.wrap ((k : Int) - 15) = (c : Int) := by rw [IntWalk.i64_in _ (by omega)]; omega
        have q4 : IntKind.i64.wrap ((k : Int) - 16) = (d : Int) := by rw [IntWalk.i64_in _ (by omega)]; omega
        have l0 : (0 : Int) ≤ k := by omega
        have l1 : (0 : Int) ≤ a := by omega
        have l2 : (0 : Int) ≤ b := by omega
        have l3 : (0 : Int) ≤ c := by omega
        have l4 : (0 : Int) ≤ d := by omega
        have u0 : (k : Int) < 64 := by omega
        have u1 : (a : Int) < 64 := by omega
        have u2 : (b : Int) < 64 := by omega
        have u3 : (c : Int) < 64 := by omega
        have u4 : (d : Int) < 64 := by omega
        have e1 : decide ((k : Int) < 16) = false := by simp; omega
        clear ha hz hd hw ha2 hb7 hc15 hd16 h16
        go_wp2
        refine wp_region_still_tail 23 (by kernel_rfl) (by kernel_rfl) ?_
        simp only [List.take_succ_cons, List.take_zero, List.drop_succ_cons, List.drop_zero]
        change wpStill _ _ wr.drew (fun a' => wpList _ _ _ _ a' wr.drew) _ _
        iterate 5 still_step
        refine wpStill_step (fun K hK => ?_)
        go_simp
        refine ⟨_, L.out _, hK _ ?_⟩
        clear hK K
        iterate 9 still_step
        refine wpStill_step (fun K hK => ?_)
        go_simp
        refine ⟨_, E.out _, hK _ ?_⟩
        clear hK K
        iterate 7 still_step
        refine wpStill_nil ?_
        go_wp2
        go_roundw
        case rel => exact ⟨k + 1, by omega, by go_num, (HA.out.other (by show w.heap.size + 1 + 1 ≠ w.heap.size; omega) _).drew, (HZ.out.other (by show w.heap.size + 1 + 1 ≠ w.heap.size + 1; omega) _).drew, by rw [← HS.out]; exact (HD.out.set k _).drew, (HW.out.setCell (by show w.heap.size ≤ w.heap.size + 1 + 1; omega) _).drew⟩
        case measure => simp [intOf]; omega
    · obtain rfl : k = 64 := by omega
      have hd1 : decide (((64 : Nat) : Int) < 64) = false := rfl
      clear ha hz hd hw
      go_wp2_with (first
        | (refine wpList_load_row rfl 63 _ rfl (w.heap.size + 1 + 1) rfl 63 (cellsOf .u32 (mk 64 (schT f 64))) (0, 0) _ HD.out schedUnder rfl (schedSize _) ?_)
        | (refine wpList_store_row rfl 63 _ _ rfl (w.heap.size + 1) _ rfl rfl 63 (cellsOf .u32 (mk 64 zeroK)) HZ.out (schedSize _) (by rw [cellsOf_size, cellsOf_size, mk_len, mk_len]) (cellsOf_one _ _) ?_))
      refine bodyPost_ret (results_cell_row rfl _ _ (w.heap.size + 1) 63 (cellsOf .u32 (mk 64 (schT f 64))) (0, 0) _ rfl (HZ.out.setRow .u32 (mk 64 (schT f 64))) schedUnder rfl (schedSize _)) rfl ⟨rfl, below_setRow HW.out (by omega) _⟩
end Go.Proofs.YtccpecajbfpjdaaDoor

/- The contract of package digest's Take: what eight words become with a schedule. It writes nothing that was there. Condition: the eight words are below 2^32; the package's variable holds the constants. -/
namespace Go.Proofs.YtccpecajbfpjdaaDoor
open Go.ChangeShapes Go.WideShapes Go.ChangeAt Go.RowKit
attribute [local irreducible] rrZ rr runH stepH takH tabK

set_option maxRecDepth 100000 in
set_option maxHeartbeats 4000000 in
theorem Take_any (hh ww : Nat → Nat) (hb : ∀ j, j < 8 → hh j < 4294967296) (w : World) (hT : TabAt w) :
    Calls Tryd.prog 32 #[.agg (cellsOf .u32 (mk 8 hh)), .agg (cellsOf .u32 (mk 64 ww))] w fun e w' => e = .returned (.agg (cellsOf .u32 (mk 8 (takH hh ww tabK)))) ∧ Below w.heap.size w w' := by
  obtain ⟨hA, hW, hZ, hB⟩ := three_boxes w (mk 8 hh) (mk 64 ww) (mk 8 zeroK) 56 63 56
  have r0 : runH hh ww tabK 0 = hh := by unfold runH; rfl
  have c0 := hA.cell (i := 0) (by rw [mk_len]; omega)
  have c1 := hA.cell (i := 1) (by rw [mk_len]; omega)
  have c2 := hA.cell (i := 2) (by rw [mk_len]; omega)
  have c3 := hA.cell (i := 3) (by rw [mk_len]; omega)
  have c4 := hA.cell (i := 4) (by rw [mk_len]; omega)
  have c5 := hA.cell (i := 5) (by rw [mk_len]; omega)
  have c6 := hA.cell (i := 6) (by rw [mk_len]; omega)
  have c7 := hA.cell (i := 7) (by rw [mk_len]; omega)
  rw [mk_get (by omega)] at c0 c1 c2 c3 c4 c5 c6 c7
  have HA := Lib.hid hA
  have HW := Lib.hid hW
  have HZ := Lib.hid hZ
  have HB := Lib.hid hB
  clear hA hW hZ hB
  go_enter Tryd.func32, Tryd.ntmps32
  go_wp2
  change Code.wp _ _ _ _ (((w.alloc (.cells (cellsOf .u32 (mk 8 hh)) 56)).alloc (.cells (cellsOf .u32 (mk 64 ww)) 63)).alloc (.cells (cellsOf .u32 (mk 8 zeroK)) 56))
  generalize hV : (((w.alloc (.cells (cellsOf .u32 (mk 8 hh)) 56)).alloc (.cells (cellsOf .u32 (mk 64 ww)) 63)).alloc (.cells (cellsOf .u32 (mk 8 zeroK)) 56)) = V at *
  have s3 : w.heap.size + 3 ≤ V.heap.size := by rw [← hV]; simp
  clear hV
  refine wp_region_still (by kernel_rfl) (by kernel_rfl) ?_
  change wpStill _ _ V.drew _ _ _
  iterate 24 still_step
  refine wpStill_nil ?_
  clear c0 c1 c2 c3 c4 c5 c6 c7
  go_wp2_with (refine wpList_load_row rfl 63 _ rfl (w.heap.size + 1) rfl 63 (cellsOf .u32 (mk 64 ww)) (0, 0) _ HW.out.drew schedUnder rfl (schedSize ww) ?_)
  go_loopw [5, 6, 7, 8, 9, 10, 11, 12, 34] (fun v5 v6 v7 v8 v9 v10 v11 v12 v34 wr => ∃ i : Nat, i ≤ 64 ∧ v5 = .int .u32 (runH hh ww tabK i 0 : Nat) ∧ v6 = .int .u32 (runH hh ww tabK i 1 : Nat) ∧ v7 = .int .u32 (runH hh ww tabK i 2 : Nat) ∧ v8 = .int .u32 (runH hh ww tabK i 3 : Nat) ∧ v9 = .int .u32 (runH hh ww tabK i 4 : Nat) ∧ v10 = .int .u32 (runH hh ww tabK i 5 : Nat) ∧ v11 = .int .u32 (runH hh ww tabK i 6 : Nat) ∧ v12 = .int .u32 (runH hh ww tabK i 7 : Nat) ∧ v34 = .int .i64 i ∧ IntBlk wr (w.heap.size) .u32 56 (mk 8 hh) ∧ IntBlk wr (w.heap.size + 1) .u32 63 (mk 64 ww) ∧ IntBlk wr (w.heap.size + 1 + 1) .u32 56 (mk 8 zeroK) ∧ Below w.heap.size w wr) (fun _ _ _ _ _ _ _ _ v34 _ => 64 - (intOf v34).toNat)
  case atStart => exact ⟨0, by omega, by rw [r0], by rw [r0], by rw [r0], by rw [r0], by rw [r0], by rw [r0], by rw [r0], by rw [r0], rfl, HA.out.drew, HW.out.drew, HZ.out.drew, HB.out.drew⟩
  case round =>
    clear HA HW HZ HB s3
    obtain ⟨i, hi, rfl, rfl, rfl, rfl, rfl, rfl, rfl, rfl, rfl, hA, hW, hZ, hB⟩ := hrel
    have HA := Lib.hid hA
    have HW := Lib.hid hW
    have HZ := Lib.hid hZ
    have HB := Lib.hid hB
    have hs := runH_lt ww tabK hb i
    by_cases hlt : i < 64
    · have e1 : (i : Int) < 64 := by omega
      have e2 : (0 : Int) ≤ i := by omega
      have n0 := congrFun (runH_step hh ww tabK i) 0
      have n4 := congrFun (runH_step hh ww tabK i) 4
      have n1 := (congrFun (runH_step hh ww tabK i) 1).trans (stepH_on _ _ _ (j := 0) (by decide))
      have n2 := (congrFun (runH_step hh ww tabK i) 2).trans (stepH_on _ _ _ (j := 1) (by decide))
      have n3 := (congrFun (runH_step hh ww tabK i) 3).trans (stepH_on _ _ _ (j := 2) (by decide))
      have n5 := (congrFun (runH_step hh ww tabK i) 5).trans (stepH_on _ _ _ (j := 4) (by decide))
      have n6 := (congrFun (runH_step hh ww tabK i) 6).trans (stepH_on _ _ _ (j := 5) (by decide))
      have n7 := (congrFun (runH_step hh ww tabK i) 7).trans (stepH_on _ _ _ (j := 6) (by decide))
      obtain ⟨x1, E, s1, p, ne, q, c, s2, s3, T1, x2, A, p1, p2, p3, p4, m, T2, F1, F2, F3, F4, F5, F6, F7, F8, F9, F10, G1, G2, G3, G4, G5, G6, G7, G8, H1, H2⟩ := take_nums _ hs (tabK i) (ww i)
      rw [← n0] at H2
      rw [← n4] at H1
      have b0 := hs 0 (by omega)
      have b4 := hs 4 (by omega)
      have ck := hT.on hB i hlt
      have iw := run_index_at 63 64 ww schedUnder wdElem hlt
      clear hA hW hZ hB hs n0 n4
      have N1 := Lib.hid n1; have N2 := Lib.hid n2; have N3 := Lib.hid n3; have N5 := Lib.hid n5; have N6 := Lib.hid n6; have N7 := Lib.hid n7
      clear n1 n2 n3 n5 n6 n7
      generalize hw0 : runH hh ww tabK i 0 = g0 at *
      generalize hw1 : runH hh ww tabK i 1 = g1 at *
      generalize hw2 : runH hh ww tabK i 2 = g2 at *
      generalize hw3 : runH hh ww tabK i 3 = g3 at *
      generalize hw4 : runH hh ww tabK i 4 = g4 at *
      generalize hw5 : runH hh ww tabK i 5 = g5 at *
      generalize hw6 : runH hh ww tabK i 6 = g6 at *
      generalize hw7 : runH hh ww tabK i 7 = g7 at *
      generalize hv0 : runH hh ww tabK (i + 1) 0 = A1 at *
      generalize hv4 : runH hh ww tabK (i + 1) 4 = D1 at *
      have V0 := Lib.hid hv0; have V4 := Lib.hid hv4
      clear hv0 hv4 hw0 hw1 hw2 hw3 hw4 hw5 hw6 hw7
      have C4 : ∀ k : Int, 1 ≤ k → k ≤ 31 → ∀ W, Calls Tryd.prog 45 #[.int .u32 g4, .int .i64 k] W fun e w' => e = .returned (.int .u32 (rrZ g4 k)) ∧ w' = W := fun k h0 hn W => (right_any g4 k b4 h0 hn W).mono fun e w' h => And.intro h.1 h.2.symm
      have C0 : ∀ k : Int, 1 ≤ k → k ≤ 31 → ∀ W, Calls Tryd.prog 45 #[.int .u32 g0, .int .i64 k] W fun e w' => e = .returned (.int .u32 (rrZ g0 k)) ∧ W = w' := fun k h0 hn W => right_any g0 k b0 h0 hn W
      have HC4 := Lib.hid C4; have HC0 := Lib.hid C0
      clear C4 C0
      go_wp2
      refine wp_region_still_tail 25 (by kernel_rfl) (by kernel_rfl) ?_
      simp only [List.take_succ_cons, List.take_zero, List.drop_succ_cons, List.drop_zero]
      change wpStill _ _ wr.drew (fun a' => wpList _ _ _ _ a' wr.drew) _ _
      iterate 2 still_step
      refine wpStill_step (fun K hK => ?_)
      go_simp
      refine ⟨_, HC4.out 6 (by decide) (by decide) _, hK _ ?_⟩
      clear hK K
      iterate 1 still_step
      refine wpStill_step (fun K hK => ?_)
      go_simp
      refine ⟨_, HC4.out 11 (by decide) (by decide) _, hK _ ?_⟩
      clear hK K
      iterate 2 still_step
      refine wpStill_step (fun K hK => ?_)
      go_simp
      refine ⟨_, HC4.out 25 (by decide) (by decide) _, hK _ ?_⟩
      clear hK K
      iterate 17 still_step
      refine wpStill_nil ?_
      go_wp2_with (go_at_call 45; refine (HC0.out _ (by decide) (by decide) _).mono ?_; rintro e w' ⟨rfl, rfl⟩)
      go_roundw
      case rel => exact ⟨i + 1, by omega, by rw [V0.out], by rw [N1.out], by rw [N2.out], by rw [N3.out], by rw [V4.out], by rw [N5.out], by rw [N6.out], by rw [N7.out], by go_num, HA.out.drew, HW.out.drew, HZ.out.drew, HB.out.drew⟩
      case measure => simp [intOf]; omega
    · have e64 : i = 64 := by omega
      have hd1 : decide ((i : Int) < 64) = false := by simp; omega
      have c0 := hA.cell (i := 0) (by rw [mk_len]; omega)
      have c1 := hA.cell (i := 1) (by rw [mk_len]; omega)
      have c2 := hA.cell (i := 2) (by rw [mk_len]; omega)
      have c3 := hA.cell (i := 3) (by rw [mk_len]; omega)
      have c4 := hA.cell (i := 4) (by rw [mk_len]; omega)
      have c5 := hA.cell (i := 5) (by rw [mk_len]; omega)
      have c6 := hA.cell (i := 6) (by rw [mk_len]; omega)
      have c7 := hA.cell (i := 7) (by rw [mk_len]; omega)
      rw [mk_get (by omega)] at c0 c1 c2 c3 c4 c5 c6 c7
      have t0 : IntKind.u32.wrap ((hh 0 : Int) + (runH hh ww tabK i 0 : Nat)) = (takH hh ww tabK 0 : Nat) := by rw [e64]; unfold takH; exact add32_int _ _
      have t1 : IntKind.u32.wrap ((hh 1 : Int) + (runH hh ww tabK i 1 : Nat)) = (takH hh ww tabK 1 : Nat) := by rw [e64]; unfold takH; exact add32_int _ _
      have t2 : IntKind.u32.wrap ((hh 2 : Int) + (runH hh ww tabK i 2 : Nat)) = (takH hh ww tabK 2 : Nat) := by rw [e64]; unfold takH; exact add32_int _ _
      have t3 : IntKind.u32.wrap ((hh 3 : Int) + (runH hh ww tabK i 3 : Nat)) = (takH hh ww tabK 3 : Nat) := by rw [e64]; unfold takH; exact add32_int _ _
      have t4 : IntKind.u32.wrap ((hh 4 : Int) + (runH hh ww tabK i 4 : Nat)) = (takH hh ww tabK 4 : Nat) := by rw [e64]; unfold takH; exact add32_int _ _
      have t5 : IntKind.u32.wrap ((hh 5 : Int) + (runH hh ww tabK i 5 : Nat)) = (takH hh ww tabK 5 : Nat) := by rw [e64]; unfold takH; exact add32_int _ _
      have t6 : IntKind.u32.wrap ((hh 6 : Int) + (runH hh ww tabK i 6 : Nat)) = (takH hh ww tabK 6 : Nat) := by rw [e64]; unfold takH; exact add32_int _ _
      have t7 : IntKind.u32.wrap ((hh 7 : Int) + (runH hh ww tabK i 7 : Nat)) = (takH hh ww tabK 7 : Nat) := by rw [e64]; unfold takH; exact add32_int _ _
      clear hA hW hZ hB hs e64 hlt
      generalize runH hh ww tabK i 0 = g0 at *
      generalize runH hh ww tabK i 1 = g1 at *
      generalize runH hh ww tabK i 2 = g2 at *
      generalize runH hh ww tabK i 3 = g3 at *
      generalize runH hh ww tabK i 4 = g4 at *
      generalize runH hh ww tabK i 5 = g5 at *
      generalize runH hh ww tabK i 6 = g6 at *
      generalize runH hh ww tabK i 7 = g7 at *
      go_wp2_with (first
        | (refine wpList_buildTo rfl 56 _ rfl (some 128) rfl (cellsOf .u32 (mk 8 (takH hh ww tabK))) (by simp only [List.map_toArray, List.map_cons, List.map_nil]; kernel_rfl) ?_)
        | (refine wpList_store_row rfl 56 _ _ rfl (w.heap.size + 1 + 1) _ rfl rfl 56 (cellsOf .u32 (mk 8 zeroK)) HZ.out (eightSize _) (by rw [cellsOf_size, cellsOf_size, mk_len, mk_len]) (cellsOf_one _ _) ?_))
      refine bodyPost_ret (results_cell_row rfl _ _ (w.heap.size + 1 + 1) 56 (cellsOf .u32 (mk 8 (takH hh ww tabK))) (0, 0) _ rfl (HZ.out.setRow .u32 (mk 8 (takH hh ww tabK))) eightUnder rfl (eightSize _)) rfl ⟨rfl, below_setRow HB.out (by omega) _⟩
end Go.Proofs.YtccpecajbfpjdaaDoor

/- The contract of package digest's Pad: what is put behind a text, in memory of its own. It writes nothing that was there. No condition. -/
namespace Go.Proofs.YtccpecajbfpjdaaDoor
open Go.ChangeShapes Go.WideShapes Go.ChangeAt Go.RowKit

/-- The length that Pad goes by. -/
def effN (n : Int) : Nat := if n < 0 ∨ 1099511627776 < n then 0 else n.toNat
theorem effN_le (n : Int) : effN n ≤ 1099511627776 := by unfold effN; split <;> omega
/-- With so many of the eight bytes laid. -/
def padT (n i : Nat) : Nat → Nat := fun j => if j = 0 then 128 else if padL n - i ≤ j then n * 8 / 256 ^ (padL n - 1 - j) % 256 else 0
theorem padT_start (n : Nat) : upd zeroK 0 128 = padT n 0 ∨ mk (padL n) (upd zeroK 0 128) = mk (padL n) (padT n 0) := .inr (mk_ext fun j hj => by
  unfold upd padT zeroK
  split
  · rfl
  · rw [if_neg (by omega)])
theorem padT_first (n : Nat) : (mk (padL n) zeroK).set 0 128 = mk (padL n) (padT n 0) :=
  mk_set_is (v := 128) rfl fun j hj => by
    unfold padT zeroK
    split
    · rfl
    · rw [if_neg (by omega)]
theorem padT_step (n i : Nat) (hi : i < 8) {v : Int} (hv : v = (n * 8 / 256 ^ i % 256 : Nat)) : (mk (padL n) (padT n i)).set (padL n - 1 - i) v = mk (padL n) (padT n (i + 1)) :=
  mk_set_is hv fun j hj => by
    have := padL_bd n
    unfold padT
    by_cases h0 : j = 0
    · subst h0; rw [if_neg (by omega)]; rfl
    · by_cases e : j = padL n - 1 - i
      · rw [if_pos e, if_neg h0, if_pos (by omega), show padL n - 1 - j = i by omega]
      · rw [if_neg e, if_neg h0, if_neg h0]
        by_cases h1 : padL n - i ≤ j
        · rw [if_pos h1, if_pos (by omega)]
        · rw [if_neg h1, if_neg (by omega)]
theorem padT_end (n : Nat) : mk (padL n) (padT n 8) = mk (padL n) (padB n) := mk_ext fun j hj => by
  have := padL_bd n
  unfold padT padB
  split
  · rfl
  · by_cases h : j < padL n - 8
    · rw [if_neg (by omega), if_pos h]
    · rw [if_pos (by omega), if_neg h]
theorem padL_zero : padL 0 = 64 := by decide
attribute [local irreducible] padT padB padL

theorem shr_byte {c i y : Nat} (hy : 8 * i = y) : IntKind.u8.wrap ((c : Int) / 2 ^ y) = (c / 256 ^ i % 256 : Nat) := by
  have p : ((2 : Int) ^ y) = ((2 ^ y : Nat) : Int) := by rw [Int.natCast_pow]; rfl
  rw [IntKind.wrap_u8', p, ← Int.natCast_ediv, ← hy, Nat.pow_mul]
  show _ = ((c / (2 ^ 8) ^ i % 256 : Nat) : Int)
  omega

set_option maxRecDepth 100000 in
set_option maxHeartbeats 2000000 in
theorem Pad_low (n : Int) (L M : Nat) (hn : n < 0) (hM : M = 0) (hLe : padL M = L) (w : World) :
    Calls Tryd.prog 51 #[.int .i64 n] w fun e w' => e = .returned (.slice (some ⟨w.heap.size, 0, none⟩) L L) ∧ IntBlk w' w.heap.size .u8 5 (mk L (padB M)) ∧ Below w.heap.size w w' := by
  have hL := padL_bd M
  have HF := Lib.hid (padT_first M)
  have HS := Lib.hid (padT_step M)
  have HE := Lib.hid (padT_end M)
  have hX : (64 : Int) = (L : Int) := by rw [← hLe, hM, padL_zero]; rfl
  subst hM
  have e0 : n < 0 := hn
  rw [hLe] at HF HS HE hL
  have HX := Lib.hid hX
  clear hX hLe
  have hb0 := (IntBlk.new w .u8 5 (mk L zeroK))
  have hbel : Below w.heap.size w (w.alloc (.cells (cellsOf .u8 (mk L zeroK)) 5)) := (Below.refl _ w).alloc (Nat.le_refl _) _
  have c0 := hb0.cell (i := 0) (by rw [mk_len]; omega)
  have f0 := hb0.free 0
  have HB0 := Lib.hid hb0
  have HBL := Lib.hid hbel
  have l0 : (0 : Int) < L := by omega
  have l1 : L ≤ 100000 := by omega
  clear hb0 hbel
  go_enter Tryd.func51, Tryd.ntmps51
  go_wp2_with (refine wpList_make_noughts rfl _ _ rfl L l1 (congrArg (Value.int .i64) HX.out) (congrArg (Value.int .i64) HX.out) ?_)
  go_loopw [29] (fun v wr => ∃ i : Nat, i ≤ 8 ∧ v = .int .i64 i ∧ IntBlk wr w.heap.size .u8 5 (mk L (padT 0 i)) ∧ Below w.heap.size w wr) (fun v _ => 8 - (intOf v).toNat)
  case atStart => exact ⟨0, by omega, rfl, by rw [cellsOf_set, HF.out]; exact IntBlk.new w .u8 5 _, (Below.refl _ w).alloc (Nat.le_refl _) _⟩
  case round =>
    clear HB0 HBL c0 f0 HX
    obtain ⟨i, hi, rfl, hb, hw⟩ := hrel
    have HB := Lib.hid hb
    have HW := Lib.hid hw
    by_cases h8 : i < 8
    · have e1 : (i : Int) < 8 := by omega
      have HV := Lib.hid (HS.out i h8 rfl)
      obtain ⟨j, hj⟩ : ∃ j, L - 1 - i = j := ⟨_, rfl⟩
      obtain ⟨y, hy⟩ : ∃ y, 8 * i = y := ⟨_, rfl⟩
      rw [hj] at HV
      have cj := hb.cell (i := j) (by rw [mk_len]; omega)
      have fj := hb.free j
      have sv : 0 * 8 / 256 ^ i % 256 = 0 := by rw [Nat.zero_mul, Nat.zero_div]
      rw [sv] at HV
      clear sv
      have p1 : IntKind.i64.wrap ((L : Int) - 1) = (L : Int) - 1 := IntWalk.i64_in _ (by omega)
      have p2 : IntKind.i64.wrap ((L : Int) - 1 - (i : Int)) = (j : Int) := by rw [IntWalk.i64_in _ (by omega)]; omega
      have p3 : IntKind.i64.wrap (8 * (i : Int)) = (y : Int) := by rw [IntWalk.i64_in _ (by omega)]; omega
      have l2 : (0 : Int) ≤ j := by omega
      have l3 : (j : Int) < L := by omega
      have l4 : (0 : Int) ≤ y := by omega
      have l5 : (y : Int) ≤ 64 := by omega
      clear hb hw hj hy
      go_wp2
      go_roundw
      case rel => exact ⟨i + 1, by omega, by go_num, by rw [← HV.out]; exact HB.out.set j _, HW.out.setCell (Nat.le_refl _) _⟩
      case measure => simp [intOf]; omega
    · obtain rfl : i = 8 := by omega
      have hd1 : decide (((8 : Nat) : Int) < 8) = false := rfl
      clear hb hw
      go_wp2
      go_ret
      exact ⟨rfl, by rw [← HE.out]; exact HB.out, HW.out⟩

set_option maxRecDepth 100000 in
set_option maxHeartbeats 2000000 in
theorem Pad_high (n : Int) (L M : Nat) (hn : 1099511627776 < n) (hM : M = 0) (hLe : padL M = L) (w : World) :
    Calls Tryd.prog 51 #[.int .i64 n] w fun e w' => e = .returned (.slice (some ⟨w.heap.size, 0, none⟩) L L) ∧ IntBlk w' w.heap.size .u8 5 (mk L (padB M)) ∧ Below w.heap.size w w' := by
  have hL := padL_bd M
  have HF := Lib.hid (padT_first M)
  have HS := Lib.hid (padT_step M)
  have HE := Lib.hid (padT_end M)
  have hX : (64 : Int) = (L : Int) := by rw [← hLe, hM, padL_zero]; rfl
  subst hM
  have e0 : ¬ n < 0 := by omega
  rw [hLe] at HF HS HE hL
  have HX := Lib.hid hX
  clear hX hLe
  have hb0 := (IntBlk.new w .u8 5 (mk L zeroK))
  have hbel : Below w.heap.size w (w.alloc (.cells (cellsOf .u8 (mk L zeroK)) 5)) := (Below.refl _ w).alloc (Nat.le_refl _) _
  have c0 := hb0.cell (i := 0) (by rw [mk_len]; omega)
  have f0 := hb0.free 0
  have HB0 := Lib.hid hb0
  have HBL := Lib.hid hbel
  have l0 : (0 : Int) < L := by omega
  have l1 : L ≤ 100000 := by omega
  clear hb0 hbel
  go_enter Tryd.func51, Tryd.ntmps51
  go_wp2_with (refine wpList_make_noughts rfl _ _ rfl L l1 (congrArg (Value.int .i64) HX.out) (congrArg (Value.int .i64) HX.out) ?_)
  go_loopw [29] (fun v wr => ∃ i : Nat, i ≤ 8 ∧ v = .int .i64 i ∧ IntBlk wr w.heap.size .u8 5 (mk L (padT 0 i)) ∧ Below w.heap.size w wr) (fun v _ => 8 - (intOf v).toNat)
  case atStart => exact ⟨0, by omega, rfl, by rw [cellsOf_set, HF.out]; exact IntBlk.new w .u8 5 _, (Below.refl _ w).alloc (Nat.le_refl _) _⟩
  case round =>
    clear HB0 HBL c0 f0 HX
    obtain ⟨i, hi, rfl, hb, hw⟩ := hrel
    have HB := Lib.hid hb
    have HW := Lib.hid hw
    by_cases h8 : i < 8
    · have e1 : (i : Int) < 8 := by omega
      have HV := Lib.hid (HS.out i h8 rfl)
      obtain ⟨j, hj⟩ : ∃ j, L - 1 - i = j := ⟨_, rfl⟩
      obtain ⟨y, hy⟩ : ∃ y, 8 * i = y := ⟨_, rfl⟩
      rw [hj] at HV
      have cj := hb.cell (i := j) (by rw [mk_len]; omega)
      have fj := hb.free j
      have sv : 0 * 8 / 256 ^ i % 256 = 0 := by rw [Nat.zero_mul, Nat.zero_div]
      rw [sv] at HV
      clear sv
      have p1 : IntKind.i64.wrap ((L : Int) - 1) = (L : Int) - 1 := IntWalk.i64_in _ (by omega)
      have p2 : IntKind.i64.wrap ((L : Int) - 1 - (i : Int)) = (j : Int) := by rw [IntWalk.i64_in _ (by omega)]; omega
      have p3 : IntKind.i64.wrap (8 * (i : Int)) = (y : Int) := by rw [IntWalk.i64_in _ (by omega)]; omega
      have l2 : (0 : Int) ≤ j := by omega
      have l3 : (j : Int) < L := by omega
      have l4 : (0 : Int) ≤ y := by omega
      have l5 : (y : Int) ≤ 64 := by omega
      clear hb hw hj hy
      go_wp2
      go_roundw
      case rel => exact ⟨i + 1, by omega, by go_num, by rw [← HV.out]; exact HB.out.set j _, HW.out.setCell (Nat.le_refl _) _⟩
      case measure => simp [intOf]; omega
    · obtain rfl : i = 8 := by omega
      have hd1 : decide (((8 : Nat) : Int) < 8) = false := rfl
      clear hb hw
      go_wp2
      go_ret
      exact ⟨rfl, by rw [← HE.out]; exact HB.out, HW.out⟩

set_option maxRecDepth 100000 in
set_option maxHeartbeats 2000000 in
theorem Pad_on (n : Int) (L M : Nat) (hn0 : 0 ≤ n) (hn : n ≤ 1099511627776) (hM : n = M) (hLe : padL M = L) (w : World) :
    Calls Tryd.prog 51 #[.int .i64 n] w fun e w' => e = .returned (.slice (some ⟨w.heap.size, 0, none⟩) L L) ∧ IntBlk w' w.heap.size .u8 5 (mk L (padB M)) ∧ Below w.heap.size w w' := by
  have hL := padL_bd M
  have HF := Lib.hid (padT_first M)
  have HS := Lib.hid (padT_step M)
  have HE := Lib.hid (padT_end M)
  have hX : 1 + -((n + 1 + 8) % 64) % 64 + 8 = (L : Int) := by rw [← hLe]; unfold padL; omega
  obtain ⟨c, hc⟩ : ∃ c, M * 8 = c := ⟨_, rfl⟩
  have q7 : IntKind.i64.wrap (n * 8) = (c : Int) := by rw [IntWalk.i64_in _ (by omega)]; omega
  rw [hc] at HS
  have e0 : ¬ n < 0 := by omega
  have e1 : ¬ 1099511627776 < n := by omega
  clear hc
  rw [hLe] at HF HS HE hL
  have HX := Lib.hid hX
  clear hX hLe hM
  have hb0 := (IntBlk.new w .u8 5 (mk L zeroK))
  have hbel : Below w.heap.size w (w.alloc (.cells (cellsOf .u8 (mk L zeroK)) 5)) := (Below.refl _ w).alloc (Nat.le_refl _) _
  have c0 := hb0.cell (i := 0) (by rw [mk_len]; omega)
  have f0 := hb0.free 0
  have HB0 := Lib.hid hb0
  have HBL := Lib.hid hbel
  have l0 : (0 : Int) < L := by omega
  have l1 : L ≤ 100000 := by omega
  clear hb0 hbel
  go_enter Tryd.func51, Tryd.ntmps51
  go_wp2_with (refine wpList_make_noughts rfl _ _ rfl L l1 (congrArg (Value.int .i64) HX.out) (congrArg (Value.int .i64) HX.out) ?_)
  go_loopw [29] (fun v wr => ∃ i : Nat, i ≤ 8 ∧ v = .int .i64 i ∧ IntBlk wr w.heap.size .u8 5 (mk L (padT M i)) ∧ Below w.heap.size w wr) (fun v _ => 8 - (intOf v).toNat)
  case atStart => exact ⟨0, by omega, rfl, by rw [cellsOf_set, HF.out]; exact IntBlk.new w .u8 5 _, (Below.refl _ w).alloc (Nat.le_refl _) _⟩
  case round =>
    clear HB0 HBL c0 f0 HX
    obtain ⟨i, hi, rfl, hb, hw⟩ := hrel
    have HB := Lib.hid hb
    have HW := Lib.hid hw
    by_cases h8 : i < 8
    · have e1 : (i : Int) < 8 := by omega
      have HV := Lib.hid (HS.out i h8 rfl)
      obtain ⟨j, hj⟩ : ∃ j, L - 1 - i = j := ⟨_, rfl⟩
      obtain ⟨y, hy⟩ : ∃ y, 8 * i = y := ⟨_, rfl⟩
      rw [hj] at HV
      have cj := hb.cell (i := j) (by rw [mk_len]; omega)
      have fj := hb.free j
      have sv := shr_byte (c := c) hy
      generalize c / 256 ^ i % 256 = v at *
      have p1 : IntKind.i64.wrap ((L : Int) - 1) = (L : Int) - 1 := IntWalk.i64_in _ (by omega)
      have p2 : IntKind.i64.wrap ((L : Int) - 1 - (i : Int)) = (j : Int) := by rw [IntWalk.i64_in _ (by omega)]; omega
      have p3 : IntKind.i64.wrap (8 * (i : Int)) = (y : Int) := by rw [IntWalk.i64_in _ (by omega)]; omega
      have l2 : (0 : Int) ≤ j := by omega
      have l3 : (j : Int) < L := by omega
      have l4 : (0 : Int) ≤ y := by omega
      have l5 : (y : Int) ≤ 64 := by omega
      clear hb hw hj hy
      go_wp2
      go_roundw
      case rel => exact ⟨i + 1, by omega, by go_num, by rw [← HV.out]; exact HB.out.set j _, HW.out.setCell (Nat.le_refl _) _⟩
      case measure => simp [intOf]; omega
    · obtain rfl : i = 8 := by omega
      have hd1 : decide (((8 : Nat) : Int) < 8) = false := rfl
      clear hb hw
      go_wp2
      go_ret
      exact ⟨rfl, by rw [← HE.out]; exact HB.out, HW.out⟩

theorem Pad_any (n : Int) (w : World) :
    Calls Tryd.prog 51 #[.int .i64 n] w fun e w' => e = .returned (.slice (some ⟨w.heap.size, 0, none⟩) (padL (effN n)) (padL (effN n))) ∧ IntBlk w' w.heap.size .u8 5 (mk (padL (effN n)) (padB (effN n))) ∧ Below w.heap.size w w' := by
  by_cases h0 : n < 0
  · exact Pad_low n _ _ h0 (by unfold effN; rw [if_pos (.inl h0)]) rfl w
  · by_cases h1 : 1099511627776 < n
    · exact Pad_high n _ _ h1 (by unfold effN; rw [if_pos (.inr h1)]) rfl w
    · exact Pad_on n _ _ (by omega) (by omega) (by unfold effN; rw [if_neg (by omega)]; omega) rfl w
end Go.Proofs.YtccpecajbfpjdaaDoor

/- The iterator of package digest's padded: it hands yield the text's parts one behind the other, then what is put behind the text. Condition: the parts' box and the parts' addresses stand while the caller goes with it. -/
namespace Go.Proofs.YtccpecajbfpjdaaDoor
open Go.RowKit Go.Shelf
attribute [local go_sem] Oper.semAt_some

/-- How long the first parts are, together. -/
def lenTo (P : Nat → Option Addr × Nat × Nat) : Nat → Nat
  | 0 => 0
  | i + 1 => lenTo P i + (P i).2.1
theorem lenTo_mono (P : Nat → Option Addr × Nat × Nat) {i j : Nat} (h : i ≤ j) : lenTo P i ≤ lenTo P j := by
  induction j with
  | zero => rw [show i = 0 by omega]; exact Nat.le_refl _
  | succ j ih =>
    by_cases e : i = j + 1
    · rw [e]; exact Nat.le_refl _
    · exact Nat.le_trans (ih (by omega)) (Nat.le_add_right _ _)
/-- The parts' addresses lie behind a pointer. -/
def PartsAt (V : World) (q : Option Addr) (np : Nat) (P : Nat → Option Addr × Nat × Nat) : Prop := np = 0 ∨ ∃ B o, q = some ⟨B, o, none⟩ ∧ ∀ i, i < np → V.cell? ⟨B, o + i, none⟩ = some (.slice (P i).1 (P i).2.1 (P i).2.2)
/-- What is handed out in each round. -/
def handed (np : Nat) (P : Nat → Option Addr × Nat × Nat) (base i : Nat) (V : World) (x : Option Addr × Nat × Nat) : Prop :=
  (i < np ∧ x = P i) ∨ (i = np ∧ ∃ D, x = (some ⟨D, 0, none⟩, padL (lenTo P np), padL (lenTo P np)) ∧ base ≤ D ∧ IntBlk V D .u8 5 (mk (padL (lenTo P np)) (padB (lenTo P np))))
theorem effN_nat {n : Nat} (h : n ≤ 1099511627776) : effN (n : Int) = n := by unfold effN; rw [if_neg (by omega)]; omega
attribute [local irreducible] padL padB

set_option maxRecDepth 100000 in
set_option maxHeartbeats 1000000 in
theorem padded_gives (m Bp np cap : Nat) (q : Option Addr) (P : Nat → Option Addr × Nat × Nat) (hnp : np ≤ 1000) (hN : lenTo P np ≤ 1000000) :
    GivesTo Fence.wide m Tryd.prog 50 #[.pointer (some ⟨Bp, 0, none⟩)] (fun x : Option Addr × Nat × Nat => #[.slice x.1 x.2.1 x.2.2]) (handed np P) (np + 1)
      (fun V => V.cell? ⟨Bp, 0, none⟩ = some (.slice q np cap) ∧ PartsAt V q np P) := fun l J Jx W hR hJ hJx hY h0 => by
  refine callsIn_of_wp Tryd.func50 rfl trivial ?_ rfl
  simp only [Tryd.ntmps50, List.size_toArray, List.length_cons, List.length_nil, Nat.reduceAdd, Nat.reduceSub, Array.replicate_succ, Array.replicate_zero, List.push_toArray, List.append_toArray, List.nil_append, List.cons_append]
  obtain ⟨hb0, _⟩ := hR 0 W h0
  have HR := Lib.hid hR
  have HJ := Lib.hid hJ
  have HY := Lib.hid hY
  have H0 := Lib.hid h0
  have HW : Hid (W.heap.size = W.heap.size) := Lib.hid rfl
  clear hR hJ hJx hY h0
  gi_wp2
  gi_loopw [3, 8] (fun v3 v8 wr => ∃ i : Nat, i ≤ np ∧ v3 = .int .i64 (lenTo P i : Nat) ∧ v8 = .int .i64 i ∧ W.heap.size ≤ wr.heap.size ∧ J i wr) (fun _ v8 _ => np - (intOf v8).toNat)
  case atStart => exact ⟨0, by omega, rfl, rfl, Nat.le_refl _, H0.out⟩
  case round =>
    clear H0 hb0
    obtain ⟨i, hi, rfl, rfl, hsz, hj⟩ := hrel
    obtain ⟨_, hpa⟩ := HR.out i wr hj
    have hle := lenTo_mono P hi
    by_cases hlt : i < np
    · have e1 : (i : Int) < np := by omega
      rcases hpa with h0 | ⟨B, o, rfl, hpa⟩
      · omega
      have cP := hpa i hlt
      have hle' := lenTo_mono P (show i + 1 ≤ np by omega)
      have hs : lenTo P (i + 1) = lenTo P i + (P i).2.1 := rfl
      obtain ⟨fn, tmps, assign, body, hy, hRr⟩ := HY.out i wr (P i) (by omega) hsz hj (.inl ⟨hlt, rfl⟩)
      generalize P i = x at *
      obtain ⟨pa, pn, pc⟩ := x
      simp only [] at cP hs hy
      have q1 : wrap64 ((lenTo P i : Nat) + (pn : Int)) = (lenTo P (i + 1) : Nat) := by rw [IntWalk.wrap64_in _ (by omega)]; omega
      have HQ := Lib.hid q1
      have HS := Lib.hid hsz
      clear hpa hj hle hle' hs q1 hsz
      gi_wp2
      refine ⟨(fun h => by cases h), hRr.mono ?_⟩
      rintro e W3 (⟨rfl, hj3, ha3⟩ | ⟨rfl, hx3, _⟩)
      · have H3 := Lib.hid hj3
        have HA := Lib.hid ha3.size
        clear hRr hy hj3 ha3
        gi_wp2
        go_roundw
        case rel => exact ⟨i + 1, by omega, by rw [HQ.out], by go_num, Nat.le_trans HS.out HA.out, H3.out⟩
        case measure => simp [intOf]; omega
      · gi_wp2
        refine bodyPost_ret (results_none rfl _ _ _) rfl ?_
        exact ⟨⟨_, rfl⟩, .inr hx3⟩
    · have e : i = np := by omega
      have e1 : ¬ (i : Int) < np := by omega
      have he : Hid (effN (lenTo P i : Nat) = lenTo P np) := Lib.hid (by rw [effN_nat (by omega), e])
      have HS := Lib.hid hsz
      have H0 := Lib.hid hj
      have HE := Lib.hid e
      clear hpa hj hle hsz e hlt
      gi_wp2
      refine ⟨trivial, (fun h => by cases h), ?_⟩
      refine (callsIn_wide.2 (Pad_any _ _)).mono ?_
      rintro e w2 ⟨rfl, hblk, hb⟩
      rw [he.out] at hblk
      have J2 := HJ.out i wr w2 H0.out (hb.mono HS.out)
      obtain ⟨fn, tmps, assign, body, hy, hRr⟩ := HY.out i w2 (some ⟨wr.heap.size, 0, none⟩, padL (lenTo P np), padL (lenTo P np)) (by have := HE.out; omega) (Nat.le_trans HS.out hb.size) J2 (.inr ⟨HE.out, _, rfl, HS.out, hblk⟩)
      simp only [] at hy
      rw [he.out]
      have hle : i + 1 = np + 1 := by rw [HE.out]
      rw [hle] at hRr
      have HJ2 := Lib.hid J2
      clear hblk hb J2 hle
      gi_wp2
      refine ⟨(fun h => by cases h), hRr.mono ?_⟩
      rintro e W3 (⟨rfl, hj3, ha3⟩ | ⟨rfl, hx3, _⟩)
      · gi_wp2
        go_end0
        exact ⟨⟨_, rfl⟩, .inl hj3⟩
      · gi_wp2
        go_end0
        exact ⟨⟨_, rfl⟩, .inr hx3⟩
end Go.Proofs.YtccpecajbfpjdaaDoor

/- The iterator of package digest's pieces: it hands yield the padded text's pieces, one behind the other. Condition: the parts' box, the parts' addresses and bytes stand while the caller goes with it. -/
namespace Go.Proofs.YtccpecajbfpjdaaDoor
open Go.RowKit Go.Shelf
attribute [local go_sem] Oper.semAt_some

theorem padded_any (q : Option Addr) (np cap : Nat) (w : World) : Calls Tryd.prog 44 #[.slice q np cap] w fun e w' => e = .returned (.func (.func 50) #[] #[.pointer (some ⟨w.heap.size, 0, none⟩)]) ∧ w.alloc (.cells #[.slice q np cap] 43) = w' := by
  go_enter Tryd.func44, Tryd.ntmps44
  go_wp2
  go_ret
  exact ⟨rfl, rfl⟩

theorem pieceZero_run (W : World) : (zeroValue 61).run Tryd.prog W = .ok (.agg (cellsOf .u8 (mk 64 zeroK))) W := by
  have h : (Tryd.prog.info? 61).bind (·.zero) = some (.agg (cellsOf .u8 (mk 64 zeroK))) := by kernel_rfl
  cases hq : Tryd.prog.info? 61 with
  | none => rw [hq] at h; simp at h
  | some i =>
    rw [hq] at h
    simp only [Option.bind_some] at h
    simp [zeroValue, typeInfo, hq, h]
/-- n bytes lie behind a pointer. -/
def TextAt (V : World) (p : Option Addr) (n : Nat) (g : Nat → Nat) : Prop := n = 0 ∨ ∃ B o, p = some ⟨B, o, none⟩ ∧ Cells V B o n g
/-- Where the text's parts begin and end; the last one is what is put behind it. -/
def offA (np : Nat) (P : Nat → Option Addr × Nat × Nat) (i : Nat) : Nat := if i ≤ np then lenTo P i else lenTo P np + padL (lenTo P np)
theorem offA_in {np : Nat} {P : Nat → Option Addr × Nat × Nat} {i : Nat} (h : i ≤ np) : offA np P i = lenTo P i := if_pos h
theorem offA_end (np : Nat) (P : Nat → Option Addr × Nat × Nat) : offA np P (np + 1) = 64 * cntP (lenTo P np) := by unfold offA; rw [if_neg (by omega), cntP_mul]
/-- What the program reads of its caller's: the parts' box, addresses and bytes. -/
def Reads (Bq np cap : Nat) (q : Option Addr) (P : Nat → Option Addr × Nat × Nat) (g : Nat → Nat) (V : World) : Prop :=
  V.cell? ⟨Bq, 0, none⟩ = some (.slice q np cap) ∧ PartsAt V q np P ∧ ∀ i, i < np → TextAt V (P i).1 (P i).2.1 (fun j => g (lenTo P i + j))
/-- The buffer holds what came behind the last whole piece. -/
def Fill (all : Nat → Nat) (T Sb : Nat) (V : World) : Prop :=
  ∃ F, IntBlk V Sb .u8 61 (mk 64 F) ∧ (∀ j, j < T % 64 → F j = all (64 * (T / 64) + j)) ∧ IntBlk V (Sb + 1) .i64 3 [((T % 64 : Nat) : Int)]
theorem Fill.below {all : Nat → Nat} {T Sb M : Nat} {V V' : World} (h : Fill all T Sb V) (hb : Below M V V') (hM : Sb + 1 < M) : Fill all T Sb V' :=
  let ⟨F, h1, h2, h3⟩ := h; ⟨F, h1.below hb (by omega), h2, h3.below hb hM⟩
theorem Fill.aft {all : Nat → Nat} {T Sb M : Nat} {V V' : World} (h : Fill all T Sb V) (hb : Aft M V V') (hM : M ≤ Sb) : Fill all T Sb V' :=
  let ⟨F, h1, h2, h3⟩ := h; ⟨F, (hb.same _ hM h1.lt).trans h1, h2, (hb.same _ (by omega) h3.lt).trans h3⟩
/-- Between two parts. -/
def PcI (S0 np cap l : Nat) (q : Option Addr) (P : Nat → Option Addr × Nat × Nat) (all : Nat → Nat) (J : Nat → World → Prop) (i : Nat) (V : World) : Prop :=
  J (offA np P i / 64) V ∧ Fill all (offA np P i) (S0 + 1) V ∧ V.heap[S0]? = some (.cells #[.func (.yield l) #[] #[]] 74 (0, 0)) ∧ V.heap[S0 + 3]? = some (.cells #[.slice q np cap] 43 (0, 0)) ∧ S0 + 4 ≤ V.heap.size
theorem offA_step {np i pn pc : Nat} {pa : Option Addr} {P : Nat → Option Addr × Nat × Nat} {base : Nat} {V : World} (h : handed np P base i V (pa, pn, pc)) : offA np P (i + 1) = offA np P i + pn := by
  rcases h with ⟨hi, hx⟩ | ⟨hi, D, hx, _⟩
  · rw [offA_in (by omega), offA_in (by omega)]
    show lenTo P i + (P i).2.1 = _
    rw [← hx]
  · subst hi
    have e : pn = padL (lenTo P i) := by simpa using congrArg (fun x => x.2.1) hx
    unfold offA; rw [if_neg (by omega), if_pos (Nat.le_refl _), e]
theorem part_key {S0 Bq np cap i pn pc : Nat} {q pa : Option Addr} {P : Nat → Option Addr × Nat × Nat} {g : Nat → Nat} {J : Nat → World → Prop} {U U2 : World} (hx : handed np P (S0 + 4 + 2) i U (pa, pn, pc)) (hk2 : ∀ k, k ≠ S0 + 4 + 1 → U2.heap[k]? = U.heap[k]?)
    (hPB : ∀ i, i < np → (P i).2.1 ≠ 0 → ∃ B o, (P i).1 = some ⟨B, o, none⟩ ∧ B < S0) (hPc : ∀ i, i < np → (P i).2.1 ≤ (P i).2.2) (hRd : ∀ k V, J k V → Reads Bq np cap q P g V) :
    pn ≤ pc ∧ ∃ B o, (pn ≠ 0 → pa = some ⟨B, o, none⟩) ∧ B ≠ S0 + 1 ∧ B ≠ S0 + 1 + 1 ∧ ∀ k U3, J k U3 → Aft (S0 + 4) U2 U3 → Cells U3 B o pn (fun j => allB (lenTo P np) g (offA np P i + j)) := by
  rcases hx with ⟨hi, hx⟩ | ⟨hi, D, hx, hD, hblk⟩
  · have ea : pa = (P i).1 := congrArg (fun x => x.1) hx
    have en : pn = (P i).2.1 := congrArg (fun x => x.2.1) hx
    have ec : pc = (P i).2.2 := congrArg (fun x => x.2.2) hx
    refine ⟨by rw [en, ec]; exact hPc i hi, ?_⟩
    by_cases h0 : pn = 0
    · exact ⟨S0, 0, fun h => absurd h0 h, by omega, by omega, fun k U3 _ _ j hj => by omega⟩
    · obtain ⟨B, o, hB, hlt⟩ := hPB i hi (by rw [← en]; exact h0)
      refine ⟨B, o, fun _ => by rw [ea, hB], by omega, by omega, fun k U3 hj _ j hjn => ?_⟩
      rcases (hRd k U3 hj).2.2 i hi with h | ⟨B', o', hB', hc⟩
      · omega
      · rw [hB] at hB'
        simp only [Option.some.injEq, Addr.mk.injEq, and_true] at hB'
        obtain ⟨rfl, rfl⟩ := hB'
        have hle := lenTo_mono P (show i + 1 ≤ np by omega)
        have hs : lenTo P (i + 1) = lenTo P i + (P i).2.1 := rfl
        have e : allB (lenTo P np) g (offA np P i + j) = g (lenTo P i + j) := by rw [offA_in (by omega)]; unfold allB; rw [if_pos (by omega)]
        show U3.cell? _ = some (.int .u8 (allB (lenTo P np) g (offA np P i + j) : Nat))
        rw [e]; exact hc j (by omega)
  · subst hi
    simp only [Prod.mk.injEq] at hx
    obtain ⟨rfl, rfl, rfl⟩ := hx
    refine ⟨Nat.le_refl _, D, 0, fun _ => rfl, by omega, by omega, fun k U3 _ hA j hjn => ?_⟩
    have e : allB (lenTo P i) g (offA i P i + j) = padB (lenTo P i) j := by rw [offA_in (Nat.le_refl _)]; unfold allB; rw [if_neg (by omega), Nat.add_sub_cancel_left]
    have b2 : IntBlk U2 D .u8 5 (mk (padL (lenTo P i)) (padB (lenTo P i))) := (hk2 D (by omega)).trans hblk
    have b3 : IntBlk U3 D .u8 5 (mk (padL (lenTo P i)) (padB (lenTo P i))) := (hA.same D (by omega) b2.lt).trans b2
    have := b3.cells (o := 0) (n := padL (lenTo P i)) (by omega) j hjn
    simp only [Nat.zero_add] at this
    show U3.cell? _ = some (.int .u8 (allB (lenTo P i) g (offA i P i + j) : Nat))
    rw [e, Nat.zero_add]; exact this
theorem wpListIn_load_piece {F : Fence} {l n : Nat} {ops : Array Oper} {rest : List Oper} {o : Oper} {a : Act} {w : World} {Q : Exit → Act → World → Prop} (hF : F = Fence.wide.inRound l) (hw : Region.wanted o (yielded ops a.tmps) = true) (x : Operand) (ho : o.op = .load 61 x) (B : Nat) (f : Nat → Nat)
    (hx : a.eval x = .pointer (some ⟨B, 0, none⟩)) (hB : IntBlk w B .u8 61 (mk 64 f)) (h : wpListIn F n Tryd.prog ops Q rest (a.put o.dst (.agg (cellsOf .u8 (mk 64 f)))) w) : wpListIn F n Tryd.prog ops Q (o :: rest) a w := by
  subst hF
  refine wpListIn_step fun K hK => ?_
  rw [if_pos hw]
  exact oper_round (by unfold noDefer; rw [ho]) (wp_load_row 61 x ho B hx 61 (cellsOf .u8 (mk 64 f)) (0, 0) _ hB pieceUnder rfl (pieceSize f) (hK _ _ h))
theorem Cells.part {w : World} {B o n0 : Nat} {f : Nat → Nat} (h : Cells w B o n0 f) {d n : Nat} (hd : d + n ≤ n0) : Cells w B (o + d) n (fun j => f (d + j)) := fun j hj => by
  rw [Nat.add_assoc]; exact h (d + j) (by omega)
theorem wpListIn_from {F : Fence} {l n : Nat} {ops : Array Oper} {rest : List Oper} {o : Oper} {a : Act} {w : World} {Q : Exit → Act → World → Prop} (hF : F = Fence.wide.inRound l) (hg : o.guard = none) (x y : Operand) (ho : o.op = .slice 22 x (some y) none none) (B off n1 c1 nn : Nat)
    (hx : a.eval x = .slice (some ⟨B, off, none⟩) n1 c1) (hy : a.eval y = .int .i64 nn) (h0 : nn ≤ n1) (h1 : n1 ≤ c1)
    (h : ∀ a' c', n1 - nn ≤ c' → (nn < n1 → a' = some ⟨B, off + nn, none⟩) → wpListIn F n Tryd.prog ops Q rest (a.put o.dst (.slice a' (n1 - nn) c')) w) : wpListIn F n Tryd.prog ops Q (o :: rest) a w := by
  subst hF
  refine wpListIn_plain hg fun K hK => ?_
  refine oper_round (by unfold noDefer; rw [ho]) ?_
  have e1 : (0 : Int) ≤ nn := by omega
  have e2 : (nn : Int) ≤ n1 := by omega
  have hs := byteElem.run_size (P := Tryd.prog) w
  have hr : (Instr.sliceAt 22 (.slice (some ⟨B, off, none⟩) n1 c1) (some (.int .i64 nn)) none none).run Tryd.prog w = .ok (.slice (if c1 = nn then some ⟨B, off, none⟩ else some ⟨B, off + nn, none⟩) (n1 - nn) (c1 - nn)) w := by
    simp [go_sem, e1, e2, hs, addr_add, Program.elem]
  have := hK _ _ (h (if c1 = nn then some ⟨B, off, none⟩ else some ⟨B, off + nn, none⟩) (c1 - nn) (by omega) (fun h => if_neg (by omega)))
  unfold Oper.wp execOp
  simp only [ho, hx]
  simp [hy, hr]
  exact this
theorem roundIn_any {n n' l lr : Nat} {f : FuncId} {tmps : Array Value} {asg bd : Code} {w : World} {R : Ending → World → Prop} (h : RoundIn Fence.wide n Tryd.prog lr f tmps asg bd w R) : RoundIn (Fence.wide.inRound l) n' Tryd.prog lr f tmps asg bd w R := ⟨h.1, fun c cs _ => h.2 c cs (room_wide _)⟩
theorem bytesInfo1 : (Tryd.prog.info? 5).map (·.size) = some 1 := by kernel_rfl
attribute [local irreducible] padL padB offA cntP

set_option maxRecDepth 100000 in
set_option maxHeartbeats 1000000 in
theorem pieces_gives (m Bq np cap : Nat) (q : Option Addr) (P : Nat → Option Addr × Nat × Nat) (g : Nat → Nat) (hnp : np ≤ 1000) (hN : lenTo P np ≤ 1000000) (hPc : ∀ i, i < np → (P i).2.1 ≤ (P i).2.2) :
    GivesTo Fence.wide m Tryd.prog 43 #[.pointer (some ⟨Bq, 0, none⟩)] (fun x : Nat => #[.agg (cellsOf .u8 (mk 64 (pieceB (allB (lenTo P np) g) x)))]) (fun _ i _ x => x = i) (cntP (lenTo P np))
      (Reads Bq np cap q P g) := fun l J Jx W hR hJ hJx hY h0 => by
  refine callsIn_of_wp_marks Tryd.func43 rfl trivial ?_ rfl
  simp only [Tryd.ntmps43, List.size_toArray, List.length_cons, List.length_nil, Nat.reduceAdd, Nat.reduceSub, Array.replicate_succ, Array.replicate_zero, List.push_toArray, List.append_toArray, List.nil_append, List.cons_append]
  obtain ⟨hb0, hpa0, htx0⟩ := hR 0 W h0
  have hBq := block_lt_of_cell hb0
  refine wpIn_wide.2 ?_
  go_wp2
  go_step3
  go_wp2
  go_step3
  change Exit.then _ _ _ _ (((W.alloc (.cells #[.func (.yield l) #[] #[]] 74)).alloc (.cells (cellsOf .u8 (mk 64 zeroK)) 61)).alloc (.cells #[.int .i64 0] 3))
  have A0 : (((W.alloc (.cells #[.func (.yield l) #[] #[]] 74)).alloc (.cells (cellsOf .u8 (mk 64 zeroK)) 61)).alloc (.cells #[.int .i64 0] 3)).heap[W.heap.size]? = some (.cells #[.func (.yield l) #[] #[]] 74 (0, 0)) := by
    rw [Below.heap_alloc _ _ _ (by simp; omega), Below.heap_alloc _ _ _ (by simp)]; exact heap_alloc_new _ _
  have A1 : IntBlk (((W.alloc (.cells #[.func (.yield l) #[] #[]] 74)).alloc (.cells (cellsOf .u8 (mk 64 zeroK)) 61)).alloc (.cells #[.int .i64 0] 3)) (W.heap.size + 1) .u8 61 (mk 64 zeroK) := blk_second W .u8 _ (mk 64 zeroK) _ _
  have A2 : IntBlk (((W.alloc (.cells #[.func (.yield l) #[] #[]] 74)).alloc (.cells (cellsOf .u8 (mk 64 zeroK)) 61)).alloc (.cells #[.int .i64 0] 3)) (W.heap.size + 1 + 1) .i64 3 [0] := blk_third W .i64 _ [0] _ _
  have A3 : Below W.heap.size W (((W.alloc (.cells #[.func (.yield l) #[] #[]] 74)).alloc (.cells (cellsOf .u8 (mk 64 zeroK)) 61)).alloc (.cells #[.int .i64 0] 3)) := below_three W _ _ _
  have A4 : (((W.alloc (.cells #[.func (.yield l) #[] #[]] 74)).alloc (.cells (cellsOf .u8 (mk 64 zeroK)) 61)).alloc (.cells #[.int .i64 0] 3)).heap.size = W.heap.size + 3 := by simp
  generalize (((W.alloc (.cells #[.func (.yield l) #[] #[]] 74)).alloc (.cells (cellsOf .u8 (mk 64 zeroK)) 61)).alloc (.cells #[.int .i64 0] 3)) = V at *
  have hb1 := (A3.cell (p := ⟨Bq, 0, none⟩) hBq).trans hb0
  have HR := Lib.hid hR
  have HJ := Lib.hid hJ
  have HJX := Lib.hid hJx
  have HY := Lib.hid hY
  have hI0 : PcI W.heap.size np cap l q P (allB (lenTo P np) g) J 0 (V.alloc (.cells #[.slice q np cap] 43)) := by
    have e0 : offA np P 0 = 0 := by rw [offA_in (Nat.zero_le _)]; rfl
    unfold PcI
    rw [e0]
    have hbv : Below W.heap.size W (V.alloc (.cells #[.slice q np cap] 43)) := A3.alloc (by omega) _
    refine ⟨hJ 0 _ _ h0 hbv, ⟨zeroK, A1.alloc _, fun j hj => absurd hj (by simp), A2.alloc _⟩, ?_, ?_, ?_⟩
    · rw [Below.heap_alloc _ _ _ (by omega)]; exact A0
    · rw [← A4]; exact heap_alloc_new _ _
    · simp; omega
  have HI0 := Lib.hid hI0
  have H4 := Lib.hid A4
  have hPB : ∀ i, i < np → (P i).2.1 ≠ 0 → ∃ B o, (P i).1 = some ⟨B, o, none⟩ ∧ B < W.heap.size := fun i hi h0 => by
    rcases htx0 i hi with h | ⟨B, o, hp, hc⟩
    · exact absurd h h0
    · exact ⟨B, o, hp, block_lt_of_cell (hc 0 (by omega))⟩
  have HPB := Lib.hid hPB
  clear hR hJ hJx hY h0 hI0 A0 A1 A2 A3 htx0 hpa0 hb0 hPB
  generalize W.heap.size = S0 at *
  go_wp2_with (go_at_call 44; refine (padded_any _ _ _ _).mono ?_; rintro e w1 ⟨rfl, rfl⟩)
  have hsz : (V.alloc (.cells #[.slice q np cap] 43)).heap.size = S0 + 4 := by rw [World.size_alloc, H4.out]
  generalize V.alloc (.cells #[.slice q np cap] 43) = V0 at *
  clear hb1 H4 hBq
  refine (wpIn_wide (n := 3)).1 ?_
  refine range_ends rfl (by omega) (gf := 50) (lb := #[.pointer (some ⟨S0 + 3, 0, none⟩)]) rfl trivial (enters_of Tryd.func50 (by kernel_rfl) rfl)
    (fun x : Option Addr × Nat × Nat => #[.slice x.1 x.2.1 x.2.2]) (handed np P) (np + 1) (fun V => V.cell? ⟨S0 + 3, 0, none⟩ = some (.slice q np cap) ∧ PartsAt V q np P) (fun _ => rfl)
    (PcI S0 np cap l q P (allB (lenTo P np) g) J) (fun c V => c = .exit 0 ∧ Jx V ∧ S0 + 4 ≤ V.heap.size) ?rd ?st ?stx HI0.out (padded_gives _ _ np cap q P hnp hN) ?round ?done ?stop
  case rd =>
    rintro i U ⟨h1, h2, h3, h4, h5⟩
    exact ⟨cell_of_one h4, (HR.out _ _ h1).2.1⟩
  case st =>
    rintro i U U' ⟨h1, h2, h3, h4, h5⟩ hb
    rw [hsz] at hb
    exact ⟨HJ.out _ _ _ h1 (hb.mono (by omega)), h2.below hb (by omega), (hb.block _ (by omega)).trans h3, (hb.block _ (by omega)).trans h4, Nat.le_trans h5 hb.size⟩
  case stx =>
    rintro c U U' ⟨h1, h2, h3⟩ hb
    rw [hsz] at hb
    exact ⟨h1, HJX.out _ _ h2 (hb.mono (by omega)), Nat.le_trans h3 hb.size⟩
  case done =>
    rintro D U hD ⟨h1, h2, h3, h4, h5⟩ hd
    rw [offA_end, Nat.mul_div_cancel_left _ (by omega)] at h1
    rw [hsz] at hD
    go_wp2
    refine ⟨by simp, .inl ⟨_, _, rfl, run_takeDeferred hd, ?_⟩⟩
    exact ⟨_, results_none rfl _ _ _, ⟨_, rfl⟩, .inl (HJ.out _ _ _ h1 (below_put _ (by omega)))⟩
  case stop =>
    rintro D c U hD ⟨rfl, hx, h5⟩ hd
    rw [hsz] at hD
    gi_wp2
    refine ⟨by simp, .inl ⟨_, _, rfl, run_takeDeferred hd, ?_⟩⟩
    exact ⟨_, results_none rfl _ _ _, ⟨_, rfl⟩, .inr (HJX.out _ _ hx (below_put _ (by omega)))⟩
  case round =>
    rintro l2 i ⟨pa, pn, pc⟩ U hl hi hus hI hx
    gi_wp2
    refine ⟨Aft.refl _ _, fun U2 hs2 hk2 hb2 => ?_⟩
    rw [hsz] at hk2 hb2 hus hx
    obtain ⟨h1, h2, h3, h4, h5⟩ := hI
    have g1 := HJ.out _ _ _ h1 (hb2.mono (by omega))
    have g2 := h2.below hb2 (by omega)
    have g3 := (hb2.block S0 (by omega)).trans h3
    have g4 := (hb2.block (S0 + 3) (by omega)).trans h4
    obtain ⟨hpc, B, o, hpa, hB1, hB2, hcl⟩ := part_key hx hk2 HPB.out hPc HR.out
    have hst := offA_step hx
    have hend : offA np P (i + 1) ≤ 64 * cntP (lenTo P np) := by
      rcases hx with ⟨hi, _⟩ | ⟨hi, _⟩
      · rw [offA_in (by omega), cntP_mul]; exact Nat.le_trans (lenTo_mono P (by omega)) (Nat.le_add_right _ _)
      · rw [hi, offA_end]; exact Nat.le_refl _
    have HCL := Lib.hid hcl
    have HZ := Lib.hid hsz
    have HST := Lib.hid hst
    rw [hst] at hend
    have hpcb : pc ≤ pc := Nat.le_refl _
    clear h1 h2 h3 h4 hx hk2 hcl HI0 hsz hb2 hst
    generalize allB (lenTo P np) g = all at *
    generalize hT0 : offA np P i = T0 at *
    generalize cntP (lenTo P np) = M at *
    gi_wp2
    gi_loopw [5] (fun v5 wr => ∃ d, d ≤ pn ∧ (∃ a' c', v5 = .slice a' (pn - d) c' ∧ pn - d ≤ c' ∧ (d < pn → a' = some ⟨B, o + d, none⟩)) ∧ J ((T0 + d) / 64) wr ∧ Fill all (T0 + d) (S0 + 1) wr ∧ wr.heap[S0]? = some (.cells #[.func (.yield l) #[] #[]] 74 (0, 0)) ∧
      wr.heap[S0 + 3]? = some (.cells #[.slice q np cap] 43 (0, 0)) ∧ Aft (S0 + 4) U2 wr) (fun v5 _ => match v5 with | .slice _ n _ => n | _ => 0)
    case atStart => exact ⟨0, by omega, ⟨pa, pc, rfl, by omega, fun h => by rw [Nat.add_zero]; exact hpa (by omega)⟩, g1, g2, g3, g4, Aft.refl _ _⟩
    case round =>
      clear g1 g2 g3 g4 hpa
      obtain ⟨d, hd, ⟨a', c', rfl, hc', ha'⟩, j1, j2, j3, j4, j5⟩ := hrel
      have hws := j5.size
      by_cases hlt : d < pn
      · have ha := ha' hlt
        subst ha
        have hcl := (HCL.out _ wr j1 j5).part (d := d) (n := pn - d) (by omega)
        obtain ⟨F, f1, f2, f3⟩ := j2
        obtain ⟨n1, hn1⟩ : ∃ n1, pn - d = n1 := ⟨_, rfl⟩
        obtain ⟨c, hc⟩ : ∃ c, (T0 + d) % 64 = c := ⟨_, rfl⟩
        obtain ⟨k, hk⟩ : ∃ k, (T0 + d) / 64 = k := ⟨_, rfl⟩
        rw [hn1] at hcl hc'
        rw [hc, hk] at f2
        rw [hc] at f3
        rw [hk] at j1
        obtain ⟨nn, hnn⟩ : ∃ nn, Nat.min n1 (64 - c) = nn := ⟨_, rfl⟩
        have hnn1 : nn ≤ n1 := by rw [← hnn]; exact Nat.min_le_left _ _
        have hnn2 : nn ≤ 64 - c := by rw [← hnn]; exact Nat.min_le_right _ _
        have hnn3 : nn = n1 ∨ nn = 64 - c := by
          rw [← hnn]; rcases Nat.le_total n1 (64 - c) with h | h
          · exact .inl (Nat.min_eq_left h)
          · exact .inr (Nat.min_eq_right h)
        have hc64 : c < 64 := by omega
        have hTc : T0 + d = 64 * k + c := by omega
        have hF' : ∀ j, j < c + nn → put F c nn (fun j => all (T0 + (d + j))) j = all (64 * k + j) := fun j hj => by
          unfold put
          by_cases h : c ≤ j ∧ j < c + nn
          · rw [if_pos h]; show all (T0 + (d + (j - c))) = _; rw [show T0 + (d + (j - c)) = 64 * k + j by omega]
          · rw [if_neg h]; exact f2 j (by omega)
        have cf := f3.cell (i := 0) (by simp)
        have ff := f3.free 0
        simp only [List.getD_cons_zero] at cf
        have HF1 := Lib.hid f1
        have HF3 := Lib.hid f3
        have HFF := Lib.hid hF'
        have HC : Hid (Cells wr B (o + d) nn (fun j => all (T0 + (d + j)))) := Lib.hid (fun j hj => hcl j (by omega))
        have HN := Lib.hid hnn.symm
        have H3 := Lib.hid j3
        have H4 := Lib.hid j4
        have H5 := Lib.hid j5
        have HJ1 := Lib.hid j1
        have l1 : (0 : Int) < n1 := by omega
        have l2' : (0 : Int) ≤ c := by omega
        have l3 : (c : Int) ≤ 64 := by omega
        have l4 : (0 : Int) ≤ nn := by omega
        have l5 : (nn : Int) ≤ n1 := by omega
        have l6 : n1 ≤ c' := hc'
        have hc0 : ¬ (64 = c) := by omega
        clear f1 f2 f3 hcl hnn j3 j4 j5 j1 ha' hc'
        rw [hn1]
        have hd2 : d + nn ≤ pn := by omega
        by_cases hfull : c + nn = 64
        · have t1 : (((c : Int) + nn) == 64) = true := by simp; omega
          have t2 : ((c : Int) + nn) % 64 = 0 := by omega
          have hpce : mk 64 (put F c nn (fun j => all (T0 + (d + j)))) = mk 64 (pieceB all k) := mk_ext fun j hj => hF' j (by omega)
          have HPC := Lib.hid hpce
          clear hpce hF'
          gi_wp2_with (first
            | (refine wpListIn_of_list rfl rfl rfl (wpList_copy_part rfl _ _ 22 22 rfl 5 bytesUnder bytesInfo1 (S0 + 1) c (64 - c) (64 - c) B (o + d) n1 c' nn 64 F (fun j => all (T0 + (d + j))) rfl rfl 61 HF1.out (by omega) HN.out HC.out ⟨rfl, rfl, rfl⟩) ?_
               have G1 := HF1.out.setRow .u8 (mk 64 (put F c nn (fun j => all (T0 + (d + j)))))
               have G3 := HF3.out.otherRow (C := S0 + 1) (by omega) (cellsOf .u8 (mk 64 (put F c nn (fun j => all (T0 + (d + j))))))
               have GA : Aft (S0 + 4) wr (wr.setRow (S0 + 1) (cellsOf .u8 (mk 64 (put F c nn (fun j => all (T0 + (d + j))))))) := ⟨by simp, fun k hk _ => setRow_other wr _ k _ (by omega)⟩
               have GB : Below S0 wr (wr.setRow (S0 + 1) (cellsOf .u8 (mk 64 (put F c nn (fun j => all (T0 + (d + j))))))) := below_setRow (Below.refl _ _) (by omega) _
               have K3 := (setRow_other wr (S0 + 1) S0 (cellsOf .u8 (mk 64 (put F c nn (fun j => all (T0 + (d + j)))))) (by omega)).trans H3.out
               have K4 := (setRow_other wr (S0 + 1) (S0 + 3) (cellsOf .u8 (mk 64 (put F c nn (fun j => all (T0 + (d + j)))))) (by omega)).trans H4.out
               generalize wr.setRow (S0 + 1) (cellsOf .u8 (mk 64 (put F c nn (fun j => all (T0 + (d + j)))))) = w6 at *
               have cf6 := G3.cell (i := 0) (by simp)
               have ff6 := G3.free 0
               simp only [List.getD_cons_zero] at cf6
               have HG1 := Lib.hid G1; have HG3 := Lib.hid G3; have HGA := Lib.hid GA; have HGB := Lib.hid GB; have HK3 := Lib.hid K3; have HK4 := Lib.hid K4
               have K3c : w6.cell? ⟨S0, 0, none⟩ = some (.func (.yield l) #[] #[]) := cell_of_one K3
               clear cf ff G1 G3 GA GB K3 K4)
            | (refine wpListIn_from rfl rfl _ _ rfl B (o + d) n1 c' nn rfl rfl hnn1 l6 ?_; intro a2 c2 hc2 ha2)
            | (refine wpListIn_load_piece rfl rfl _ rfl (S0 + 1) (pieceB all k) rfl (by rw [← HPC.out]; exact HG1.out.other (by show S0 + 1 + 1 ≠ S0 + 1; omega) _) ?_
               obtain ⟨fn, tmps, assign, body, hy, hRr⟩ := HY.out k (w6.setCell ⟨S0 + 1 + 1, 0, none⟩ (.int .i64 ((c : Int) + nn))) k (by omega) (by have := HGA.out.size; have := H5.out.size; simp [World.setCell]; omega) (HJ.out _ _ _ HJ1.out (HGB.out.setCell (by show S0 ≤ S0 + 1 + 1; omega) _)) rfl
               have hGB7 : Aft (S0 + 4) wr (w6.setCell ⟨S0 + 1 + 1, 0, none⟩ (.int .i64 ((c : Int) + nn))) := HGA.out.setCell (by show S0 + 1 + 1 < S0 + 4; omega) _
               have hB1 : IntBlk (w6.setCell ⟨S0 + 1 + 1, 0, none⟩ (.int .i64 ((c : Int) + nn))) (S0 + 1) .u8 61 (mk 64 (pieceB all k)) := by rw [← HPC.out]; exact HG1.out.other (by show S0 + 1 + 1 ≠ S0 + 1; omega) _
               have hB3 : IntBlk (w6.setCell ⟨S0 + 1 + 1, 0, none⟩ (.int .i64 ((c : Int) + nn))) (S0 + 1 + 1) .i64 3 [(c : Int) + nn] := HG3.out.set 0 _
               have hK3 := (Below.heap_setCell w6 ⟨S0 + 1 + 1, 0, none⟩ (.int .i64 ((c : Int) + nn)) S0 (by show S0 ≠ S0 + 1 + 1; omega)).trans HK3.out
               have hK4 := (Below.heap_setCell w6 ⟨S0 + 1 + 1, 0, none⟩ (.int .i64 ((c : Int) + nn)) (S0 + 3) (by show S0 + 3 ≠ S0 + 1 + 1; omega)).trans HK4.out
               have L7 := Lib.hid hGB7; have LB1 := Lib.hid hB1; have LB3 := Lib.hid hB3; have LK3 := Lib.hid hK3; have LK4 := Lib.hid hK4
               clear hGB7 hB1 hB3 hK3 hK4 HGA HGB HG1 HG3 HK3 HK4))
          refine RoundIn.mono (roundIn_any hRr) ?_
          rintro e W3 (⟨rfl, hj3, ha3⟩ | ⟨rfl, hx3, ha3⟩)
          · have M1 : IntBlk W3 (S0 + 1) .u8 61 (mk 64 (pieceB all k)) := (ha3.same _ (by omega) LB1.out.lt).trans LB1.out
            have M3 : IntBlk W3 (S0 + 1 + 1) .i64 3 [(c : Int) + nn] := (ha3.same _ (by omega) LB3.out.lt).trans LB3.out
            have MK3 := (ha3.same S0 (Nat.le_refl _) (Array.getElem?_eq_some_iff.1 LK3.out).1).trans LK3.out
            have MK4 := (ha3.same (S0 + 3) (by omega) (Array.getElem?_eq_some_iff.1 LK4.out).1).trans LK4.out
            have MA := H5.out.trans (L7.out.trans (ha3.mono (by omega)))
            have cf := M3.cell (i := 0) (by simp)
            have ff := M3.free 0
            simp only [List.getD_cons_zero] at cf
            have N1 := Lib.hid M1; have N3 := Lib.hid M3; have NK3 := Lib.hid MK3; have NK4 := Lib.hid MK4; have NA := Lib.hid MA; have NJ := Lib.hid hj3
            clear M1 M3 MK3 MK4 MA hj3 ha3 hRr hy K3c LB1 LB3 LK3 LK4 L7
            gi_wp2
            go_roundw
            case rel =>
              refine ⟨d + nn, hd2, ⟨a2, c2, by rw [show pn - (d + nn) = n1 - nn by omega], by omega, fun h => by rw [ha2 (by omega), Nat.add_assoc]⟩, ?_, ⟨pieceB all k, ?_, fun j hj => absurd hj (by omega), ?_⟩, ?_, ?_, NA.out.setCell (by show S0 + 1 + 1 < S0 + 4; omega) _⟩
              · rw [show (T0 + (d + nn)) / 64 = k + 1 by omega]
                exact HJ.out _ _ _ NJ.out ((Below.refl _ _).setCell (by show S0 ≤ S0 + 1 + 1; omega) _)
              · exact N1.out.other (by show S0 + 1 + 1 ≠ S0 + 1; omega) _
              · rw [show (T0 + (d + nn)) % 64 = 0 by omega]
                exact N3.out.set 0 _
              · exact (Below.heap_setCell W3 _ _ S0 (by show S0 ≠ S0 + 1 + 1; omega)).trans NK3.out
              · exact (Below.heap_setCell W3 _ _ (S0 + 3) (by show S0 + 3 ≠ S0 + 1 + 1; omega)).trans NK4.out
            case measure => show n1 - nn < n1; omega
          · gi_wp2
            exact ⟨by rw [HZ.out]; exact H5.out.trans (L7.out.trans (ha3.mono (by omega))), rfl, hx3, by have := ha3.size; have := L7.out.size; have := H5.out.size; omega⟩
        · have t1 : (((c : Int) + nn) == 64) = false := by simp; omega
          have t2 : ((c : Int) + nn) % 64 = (c : Int) + nn := by omega
          clear hF'
          gi_wp2_with (first
            | (refine wpListIn_of_list rfl rfl rfl (wpList_copy_part rfl _ _ 22 22 rfl 5 bytesUnder bytesInfo1 (S0 + 1) c (64 - c) (64 - c) B (o + d) n1 c' nn 64 F (fun j => all (T0 + (d + j))) rfl rfl 61 HF1.out (by omega) HN.out HC.out ⟨rfl, rfl, rfl⟩) ?_
               have G1 := HF1.out.setRow .u8 (mk 64 (put F c nn (fun j => all (T0 + (d + j)))))
               have G3 := HF3.out.otherRow (C := S0 + 1) (by omega) (cellsOf .u8 (mk 64 (put F c nn (fun j => all (T0 + (d + j))))))
               have GA : Aft (S0 + 4) wr (wr.setRow (S0 + 1) (cellsOf .u8 (mk 64 (put F c nn (fun j => all (T0 + (d + j))))))) := ⟨by simp, fun k hk _ => setRow_other wr _ k _ (by omega)⟩
               have GB : Below S0 wr (wr.setRow (S0 + 1) (cellsOf .u8 (mk 64 (put F c nn (fun j => all (T0 + (d + j))))))) := below_setRow (Below.refl _ _) (by omega) _
               have K3 := (setRow_other wr (S0 + 1) S0 (cellsOf .u8 (mk 64 (put F c nn (fun j => all (T0 + (d + j)))))) (by omega)).trans H3.out
               have K4 := (setRow_other wr (S0 + 1) (S0 + 3) (cellsOf .u8 (mk 64 (put F c nn (fun j => all (T0 + (d + j)))))) (by omega)).trans H4.out
               generalize wr.setRow (S0 + 1) (cellsOf .u8 (mk 64 (put F c nn (fun j => all (T0 + (d + j)))))) = w6 at *
               have cf6 := G3.cell (i := 0) (by simp)
               have ff6 := G3.free 0
               simp only [List.getD_cons_zero] at cf6
               have HG1 := Lib.hid G1; have HG3 := Lib.hid G3; have HGA := Lib.hid GA; have HGB := Lib.hid GB; have HK3 := Lib.hid K3; have HK4 := Lib.hid K4
               have K3c : w6.cell? ⟨S0, 0, none⟩ = some (.func (.yield l) #[] #[]) := cell_of_one K3
               clear cf ff G1 G3 GA GB K3 K4)
            | (refine wpListIn_from rfl rfl _ _ rfl B (o + d) n1 c' nn rfl rfl hnn1 l6 ?_; intro a2 c2 hc2 ha2))
          refine ⟨fun _ h => (by cases h), ?_⟩
          gi_wp2
          go_roundw
          case rel =>
            have eT : (((T0 + (d + nn)) % 64 : Nat) : Int) = (c : Int) + nn := by omega
            refine ⟨d + nn, hd2, ⟨a2, c2, by rw [show pn - (d + nn) = n1 - nn by omega], by omega, fun h => by rw [ha2 (by omega), Nat.add_assoc]⟩, ?_, ⟨put F c nn (fun j => all (T0 + (d + j))), ?_, ?_, ?_⟩, ?_, ?_, ?_⟩
            · rw [show (T0 + (d + nn)) / 64 = k by omega]
              exact HJ.out _ _ _ HJ1.out ((HGB.out.setCell (by show S0 ≤ S0 + 1 + 1; omega) _).setCell (by show S0 ≤ S0 + 1 + 1; omega) _)
            · exact (HG1.out.other (by show S0 + 1 + 1 ≠ S0 + 1; omega) _).other (by show S0 + 1 + 1 ≠ S0 + 1; omega) _
            · rw [show (T0 + (d + nn)) / 64 = k by omega]
              exact fun j hj => HFF.out j (by omega)
            · rw [eT]
              exact (HG3.out.set 0 _).set 0 _
            · exact (Below.heap_setCell _ _ _ S0 (by show S0 ≠ S0 + 1 + 1; omega)).trans ((Below.heap_setCell _ _ _ S0 (by show S0 ≠ S0 + 1 + 1; omega)).trans HK3.out)
            · exact (Below.heap_setCell _ _ _ (S0 + 3) (by show S0 + 3 ≠ S0 + 1 + 1; omega)).trans ((Below.heap_setCell _ _ _ (S0 + 3) (by show S0 + 3 ≠ S0 + 1 + 1; omega)).trans HK4.out)
            · exact H5.out.trans ((HGA.out.setCell (by show S0 + 1 + 1 < S0 + 4; omega) _).setCell (by show S0 + 1 + 1 < S0 + 4; omega) _)
          case measure => show n1 - nn < n1; omega
      · have e : d = pn := by omega
        subst e
        have ht : T0 + d = offA np P (i + 1) := HST.out.symm
        rw [ht] at j1 j2
        have e1 : d - d = 0 := Nat.sub_self d
        have HJ1 := Lib.hid j1; have HJ2 := Lib.hid j2; have HJ3 := Lib.hid j3; have HJ4 := Lib.hid j4; have HJ5 := Lib.hid j5
        clear j1 j2 j3 j4 j5 ha' hc'
        rw [e1]
        gi_wp2
        exact ⟨by rw [HZ.out]; exact HJ5.out, HJ1.out, HJ2.out, HJ3.out, HJ4.out, by omega⟩
end Go.Proofs.YtccpecajbfpjdaaDoor

/- The contracts of package digest's Begin and Of. Conditions: the package's variable holds the constants; the parts are no more than 1000, and together no longer than 1000000 bytes. -/
namespace Go.Proofs.YtccpecajbfpjdaaDoor
open Go.ChangeShapes Go.WideShapes Go.ChangeAt Go.RowKit Go.Shelf
attribute [local go_sem] Oper.semAt_some

theorem sumUnder : Tryd.prog.underlying 25 = some (.array 32 5) := Tryd.underlying25
theorem sumSize (f : Nat → Nat) : (Tryd.prog.info? 25).map (·.size) = some (cellsOf .u8 (mk 32 f)).size := by
  rw [cellsOf_size, mk_len]; kernel_rfl
set_option maxRecDepth 100000 in
theorem Begin_any (w : World) : Calls Tryd.prog 30 #[] w fun e w' => e = .returned (.agg (cellsOf .u32 (mk 8 begK))) ∧ Below w.heap.size w w' := by
  have hZ := IntBlk.new w .u32 56 (mk 8 zeroK)
  have hB : Below w.heap.size w (w.alloc (.cells (cellsOf .u32 (mk 8 zeroK)) 56)) := (Below.refl _ w).alloc (Nat.le_refl _) _
  have HZ := Lib.hid hZ
  have HB := Lib.hid hB
  clear hZ hB
  go_enter Tryd.func30, Tryd.ntmps30
  go_wp2_with (first
    | (refine wpList_buildTo rfl 56 _ rfl (some 1) rfl (cellsOf .u32 (mk 8 begK)) (by kernel_rfl) ?_)
    | (refine wpList_store_row rfl 56 _ _ rfl w.heap.size (cellsOf .u32 (mk 8 begK)) rfl rfl 56 (cellsOf .u32 (mk 8 zeroK)) HZ.out (eightSize _) (by rw [cellsOf_size, cellsOf_size, mk_len, mk_len]) (cellsOf_one _ _) ?_))
  refine bodyPost_ret (results_cell_row rfl _ _ w.heap.size 56 (cellsOf .u32 (mk 8 begK)) (0, 0) _ rfl (HZ.out.setRow .u32 (mk 8 begK)) eightUnder rfl (eightSize _)) rfl ⟨rfl, below_setRow HB.out (by omega) _⟩
theorem pieces_any (q : Option Addr) (np cap : Nat) (w : World) : Calls Tryd.prog 31 #[.slice q np cap] w fun e w' => e = .returned (.func (.func 43) #[] #[.pointer (some ⟨w.heap.size, 0, none⟩)]) ∧ w.alloc (.cells #[.slice q np cap] 43) = w' := by
  go_enter Tryd.func31, Tryd.ntmps31
  go_wp2
  go_ret
  exact ⟨rfl, rfl⟩
/-- The sum's first bytes. -/
def outTo (h : Nat → Nat) (m : Nat) : Nat → Nat := fun j => if j < m then outB h j else 0
theorem outTo_zero (h : Nat → Nat) : outTo h 0 = zeroK := by funext j; unfold outTo zeroK; rw [if_neg (by omega)]
theorem outTo_end (h : Nat → Nat) : mk 32 (outTo h 32) = mk 32 (outB h) := mk_ext fun _ hj => if_pos hj
theorem outTo_step (h : Nat → Nat) (m : Nat) {v : Int} (hv : v = (outB h m : Nat)) : (mk 32 (outTo h m)).set m v = mk 32 (outTo h (m + 1)) :=
  mk_set_is hv fun j _ => by
    unfold outTo
    by_cases e : j = m
    · subst e; rw [if_pos rfl, if_pos (by omega)]
    · rw [if_neg e]
      by_cases h2 : j < m
      · rw [if_pos h2, if_pos (by omega)]
      · rw [if_neg h2, if_neg (by omega)]
theorem outB_shift (h : Nat → Nat) {i k y : Nat} (hk : k < 4) (hy : 8 * (3 - k) = y) : IntKind.u8.wrap ((h i : Int) / 2 ^ y) = (outB h (4 * i + k) : Nat) := by
  have p : ((2 : Int) ^ y) = ((2 ^ y : Nat) : Int) := by rw [Int.natCast_pow]; rfl
  rw [IntKind.wrap_u8', p, ← Int.natCast_ediv]
  unfold outB
  rw [show (4 * i + k) / 4 = i by omega, show 24 - 8 * ((4 * i + k) % 4) = y by omega]
  omega
/-- What a text's digest is. -/
def digF (n : Nat) (g : Nat → Nat) : Nat → Nat := outB (chain begK tabK (allB n g) (cntP n))
theorem digF_lt (n : Nat) (g : Nat → Nat) (i : Nat) : digF n g i < 256 := outB_lt _ _

/-- What the caller of Of holds: the parts' addresses and bytes, all below a block's number. -/
def PartsIn (M : Nat) (w : World) (q : Option Addr) (np : Nat) (P : Nat → Option Addr × Nat × Nat) (g : Nat → Nat) : Prop :=
  (np = 0 ∨ ∃ B o, q = some ⟨B, o, none⟩ ∧ B < M ∧ ∀ i, i < np → w.cell? ⟨B, o + i, none⟩ = some (.slice (P i).1 (P i).2.1 (P i).2.2)) ∧
  ∀ i, i < np → (P i).2.1 = 0 ∨ ∃ B o, (P i).1 = some ⟨B, o, none⟩ ∧ B < M ∧ Cells w B o (P i).2.1 (fun j => g (lenTo P i + j))
theorem PartsIn.below {M : Nat} {w w' : World} {q : Option Addr} {np : Nat} {P : Nat → Option Addr × Nat × Nat} {g : Nat → Nat} (h : PartsIn M w q np P g) (hb : Below M w w') : PartsIn M w' q np P g := by
  refine ⟨?_, fun i hi => ?_⟩
  · rcases h.1 with h | ⟨B, o, h1, h2, h3⟩
    · exact .inl h
    · exact .inr ⟨B, o, h1, h2, fun i hi => (hb.cell (p := ⟨B, o + i, none⟩) h2).trans (h3 i hi)⟩
  · rcases h.2 i hi with h | ⟨B, o, h1, h2, h3⟩
    · exact .inl h
    · exact .inr ⟨B, o, h1, h2, h3.below hb h2⟩
theorem PartsIn.reads {M Bq cap : Nat} {w : World} {q : Option Addr} {np : Nat} {P : Nat → Option Addr × Nat × Nat} {g : Nat → Nat} (h : PartsIn M w q np P g) (hq : w.cell? ⟨Bq, 0, none⟩ = some (.slice q np cap)) : Reads Bq np cap q P g w := by
  refine ⟨hq, ?_, fun i hi => ?_⟩
  · rcases h.1 with h | ⟨B, o, h1, _, h3⟩
    · exact .inl h
    · exact .inr ⟨B, o, h1, h3⟩
  · rcases h.2 i hi with h | ⟨B, o, h1, _, h3⟩
    · exact .inl h
    · exact .inr ⟨B, o, h1, h3⟩
/-- Between two pieces. -/
def OfI (w : World) (N : Nat) (np cap : Nat) (q : Option Addr) (t : Nat → Nat) (i : Nat) (W : World) : Prop :=
  IntBlk W w.heap.size .u8 25 (mk 32 zeroK) ∧ IntBlk W N .u32 56 (mk 8 (chain begK tabK t i)) ∧ W.heap[N + 1]? = some (.cells #[.slice q np cap] 43 (0, 0)) ∧ Below w.heap.size w W
theorem chain_step (h k t : Nat → Nat) (i : Nat) : chain h k t (i + 1) = takH (chain h k t i) (schT (pieceB t i) 64) k := rfl
attribute [local irreducible] padL padB cntP chain schT takH begK tabK pieceB allB

set_option maxRecDepth 100000 in
set_option maxHeartbeats 2000000 in
theorem Of_any (np cap : Nat) (q : Option Addr) (P : Nat → Option Addr × Nat × Nat) (g : Nat → Nat) (hnp : np ≤ 1000) (hN : lenTo P np ≤ 1000000) (hPc : ∀ i, i < np → (P i).2.1 ≤ (P i).2.2) (hg : ∀ i, i < lenTo P np → g i < 256) (w : World) (hT : TabAt w) (hp : PartsIn w.heap.size w q np P g) :
    Calls Tryd.prog 22 #[.slice q np cap] w fun e w' => e = .returned (.agg (cellsOf .u8 (mk 32 (digF (lenTo P np) g)))) ∧ Below w.heap.size w w' := by
  refine (callsIn_wide (n := 3)).1 ?_
  refine callsIn_of_wp_marks Tryd.func22 rfl trivial ?_ rfl
  simp only [Tryd.ntmps22, List.size_toArray, List.length_cons, List.length_nil, Nat.reduceAdd, Nat.reduceSub, Array.replicate_succ, Array.replicate_zero, List.push_toArray, List.append_toArray, List.nil_append, List.cons_append]
  refine wpIn_wide.2 ?_
  have hz0 := IntBlk.new w .u8 25 (mk 32 zeroK)
  have hbz : Below w.heap.size w (w.alloc (.cells (cellsOf .u8 (mk 32 zeroK)) 25)) := (Below.refl _ w).alloc (Nat.le_refl _) _
  have HZ0 := Lib.hid hz0; have HBZ := Lib.hid hbz
  clear hz0 hbz
  go_wp2_with (first
    | (go_at_call 30; refine (Begin_any _).mono ?_; rintro e w1 ⟨rfl, hb1⟩
       have HB1 := Lib.hid hb1
       clear hb1)
    | (refine store_row_on rfl 56 _ _ rfl rfl w1.heap.size (cellsOf .u32 (mk 8 begK)) rfl rfl 56 (cellsOf .u32 (mk 8 zeroK)) (IntBlk.new w1 .u32 _ (mk 8 zeroK)) (eightSize _) (by rw [cellsOf_size, cellsOf_size, mk_len, mk_len]) (cellsOf_one _ _) ?_)
    | (go_at_call 31; refine (pieces_any _ _ _ _).mono ?_; rintro e w2 ⟨rfl, hw2⟩))
  have hb1 : Below (w.alloc (.cells (cellsOf .u8 (mk 32 zeroK)) 25)).heap.size (w.alloc (.cells (cellsOf .u8 (mk 32 zeroK)) 25)) w1 := HB1.out
  have hs1 : w.heap.size + 1 ≤ w1.heap.size := by have := hb1.size; rw [World.size_alloc] at this; exact this
  have hI0 : OfI w w1.heap.size np cap q (allB (lenTo P np) g) 0 w2 := by
    subst hw2
    have b1 : Below w.heap.size w w1 := HBZ.out.trans (hb1.mono (by rw [World.size_alloc]; omega))
    have e0 : chain begK tabK (allB (lenTo P np) g) 0 = begK := by unfold chain; rfl
    unfold OfI
    rw [e0]
    refine ⟨(((HZ0.out.below hb1 (by rw [World.size_alloc]; omega)).alloc _).otherRow (by omega) _).alloc _, ((IntBlk.new w1 .u32 56 (mk 8 zeroK)).setRow .u32 (mk 8 begK)).alloc _, ?_, ((below_setRow (b1.alloc (by omega) _) (by omega) _).alloc (by simp; omega) _)⟩
    have := heap_alloc_new ((w1.alloc (.cells (cellsOf .u32 (mk 8 zeroK)) 56)).setRow w1.heap.size (cellsOf .u32 (mk 8 begK))) (.cells #[.slice q np cap] 43)
    have es : ((w1.alloc (.cells (cellsOf .u32 (mk 8 zeroK)) 56)).setRow w1.heap.size (cellsOf .u32 (mk 8 begK))).heap.size = w1.heap.size + 1 := by simp
    rw [es] at this
    exact this
  have hs2 : w2.heap.size = w1.heap.size + 2 := by subst hw2; simp
  have HI0 := Lib.hid hI0
  have HP := Lib.hid hp
  have HT := Lib.hid hT
  have HG := Lib.hid hg
  clear hw2 hI0 hp hT hg hb1 HB1 HZ0 HBZ
  generalize w1.heap.size = N at *
  refine (wpIn_wide (n := 3)).1 ?_
  refine range_ends rfl (by omega) (gf := 43) (lb := #[.pointer (some ⟨N + 1, 0, none⟩)]) rfl trivial (enters_of Tryd.func43 (by kernel_rfl) rfl)
    (fun x : Nat => #[.agg (cellsOf .u8 (mk 64 (pieceB (allB (lenTo P np) g) x)))]) (fun _ i _ x => x = i) (cntP (lenTo P np)) (Reads (N + 1) np cap q P g) (fun _ => rfl)
    (OfI w N np cap q (allB (lenTo P np) g)) (fun _ _ => False) ?rd ?st ?stx HI0.out (pieces_gives _ _ np cap q P g hnp hN hPc) ?round ?done ?stop
  case rd =>
    rintro i U ⟨h1, h2, h3, h4⟩
    exact (HP.out.below h4).reads (cell_of_one h3)
  case st =>
    rintro i U U' ⟨h1, h2, h3, h4⟩ hb
    rw [hs2] at hb
    exact ⟨h1.below hb (by omega), h2.below hb (by omega), (hb.block _ (by omega)).trans h3, h4.trans (hb.mono (by omega))⟩
  case stx => exact fun _ _ _ h _ => h
  case stop => exact fun _ _ _ _ h _ => h.elim
  case done =>
    rintro D U hD ⟨h1, h2, h3, h4⟩ hd
    rw [hs2] at hD
    have H1 := Lib.hid h1; have H2 := Lib.hid h2; have H4 := Lib.hid h4; have HD := Lib.hid hd
    clear h1 h2 h3 h4 hd
    have hcb : ∀ j, j < 8 → chain begK tabK (allB (lenTo P np) g) (cntP (lenTo P np)) j < 4294967296 := chain_lt _ _ (fun j _ => begK_lt j) _
    have hdig : outB (chain begK tabK (allB (lenTo P np) g) (cntP (lenTo P np))) = digF (lenTo P np) g := rfl
    have HDG := Lib.hid hdig
    clear hdig
    generalize chain begK tabK (allB (lenTo P np) g) (cntP (lenTo P np)) = ch at *
    have hDU := (Array.getElem?_eq_some_iff.1 HD.out).1
    have hiN := H2.out.lt
    go_wp2_with (refine wpList_load_row rfl 56 _ rfl N rfl 56 (cellsOf .u32 (mk 8 ch)) (0, 0) _ (H2.out.alloc _) eightUnder rfl (eightSize ch) ?_)
    have hz0 : IntBlk (U.alloc (.cells (cellsOf .u8 (mk 32 zeroK)) 25)) U.heap.size .u8 25 (mk 32 (outTo ch 0)) := by rw [outTo_zero]; exact IntBlk.new U .u8 _ (mk 32 zeroK)
    have HZ := Lib.hid hz0
    clear hz0
    go_loopw [18] (fun v wr => ∃ i : Nat, i ≤ 8 ∧ v = .int .i64 i ∧ IntBlk wr U.heap.size .u8 25 (mk 32 (outTo ch (4 * i))) ∧ Below U.heap.size U wr) (fun v _ => 8 - (intOf v).toNat)
    case atStart => exact ⟨0, by omega, rfl, HZ.out, (Below.refl _ U).alloc (Nat.le_refl _) _⟩
    case round =>
      clear HZ
      obtain ⟨i, hi, rfl, hz, hb⟩ := hrel
      have HZ := Lib.hid hz; have HB := Lib.hid hb
      clear hz hb
      by_cases h8 : i < 8
      · have e1 : (i : Int) < 8 := by omega
        have ix := run_index_at 56 8 ch eightUnder wdElem h8
        go_wp2
        go_loopw [22] (fun v wk => ∃ k : Nat, k ≤ 4 ∧ v = .int .i64 k ∧ IntBlk wk U.heap.size .u8 25 (mk 32 (outTo ch (4 * i + k))) ∧ Below U.heap.size U wk) (fun v _ => 4 - (intOf v).toNat)
        case atStart => exact ⟨0, by omega, rfl, HZ.out, HB.out⟩
        case round =>
          clear HZ HB
          obtain ⟨k, hk, rfl, hz, hb⟩ := hrel
          have HZ := Lib.hid hz; have HB := Lib.hid hb
          by_cases h4 : k < 4
          · have e2 : (k : Int) < 4 := by omega
            have HS := Lib.hid (outTo_step ch (4 * i + k) rfl)
            obtain ⟨y, hy⟩ : ∃ y, 8 * (3 - k) = y := ⟨_, rfl⟩
            obtain ⟨z, hzz⟩ : ∃ z, 4 * i = z := ⟨_, rfl⟩
            obtain ⟨s, hs⟩ : ∃ s, z + k = s := ⟨_, rfl⟩
            have sv := outB_shift ch (i := i) h4 hy
            rw [hzz, hs] at HS sv HZ
            have cs := hz.cell (i := s) (by rw [mk_len]; omega)
            have fs := hz.free s
            have p1 : IntKind.i64.wrap (4 * (i : Int)) = (z : Int) := by rw [IntWalk.i64_in _ (by omega)]; omega
            have p2 : IntKind.i64.wrap ((z : Int) + (k : Int)) = (s : Int) := by rw [IntWalk.i64_in _ (by omega)]; omega
            have p3 : IntKind.i64.wrap (3 - (k : Int)) = 3 - (k : Int) := IntWalk.i64_in _ (by omega)
            have p4 : IntKind.i64.wrap (8 * (3 - (k : Int))) = (y : Int) := by rw [IntWalk.i64_in _ (by omega)]; omega
            have l0 : (0 : Int) ≤ s := by omega
            have l1 : (s : Int) < 32 := by omega
            have l2 : (0 : Int) ≤ y := by omega
            have l3 : (y : Int) ≤ 32 := by omega
            have HE := Lib.hid (show 4 * i + (k + 1) = s + 1 by omega)
            clear hz hb hy hzz hs
            generalize outB ch s = ov at *
            go_wp2
            go_roundw
            case rel => exact ⟨k + 1, by omega, by go_num, by rw [HE.out, ← HS.out]; exact HZ.out.set s _, HB.out.setCell (Nat.le_refl _) _⟩
            case measure => simp [intOf]; omega
          · have e4 : k = 4 := by omega
            have hd1 : decide ((k : Int) < 4) = false := by simp; omega
            rw [e4, show 4 * i + 4 = 4 * (i + 1) by omega] at HZ
            clear hz hb e4 h4
            go_wp2
            go_roundw
            case rel => exact ⟨i + 1, by omega, by go_num, HZ.out, HB.out⟩
            case measure => simp [intOf]; omega
      · have e8 : i = 8 := by omega
        have hd1 : decide ((i : Int) < 8) = false := by simp; omega
        rw [e8] at HZ
        have hz2 : IntBlk wr U.heap.size .u8 25 (mk 32 (outB ch)) := by rw [← outTo_end]; exact HZ.out
        have HZ2 := Lib.hid hz2
        have HR2 := Lib.hid (H1.out.below HB.out H1.out.lt)
        clear hz2 e8 h8 HZ
        go_wp2_with (first
          | (refine wpList_load_row rfl 25 _ rfl U.heap.size rfl 25 (cellsOf .u8 (mk 32 (outB ch))) (0, 0) _ HZ2.out sumUnder rfl (sumSize _) ?_)
          | (refine wpList_store_row rfl 25 _ _ rfl w.heap.size _ rfl rfl 25 (cellsOf .u8 (mk 32 zeroK)) HR2.out (sumSize _) (by rw [cellsOf_size, cellsOf_size, mk_len, mk_len]) (cellsOf_one _ _) ?_))
        have hd3 : (wr.setRow w.heap.size (cellsOf .u8 (mk 32 (outB ch)))).heap[D]? = some (.deferred (some [])) := (setRow_other wr w.heap.size D _ (by have := H1.out.lt; have := H4.out.size; omega)).trans ((HB.out.block D hDU).trans HD.out)
        refine ⟨by simp, .inl ⟨_, _, rfl, run_takeDeferred hd3, ?_⟩⟩
        exact ⟨_, results_cell_row rfl _ _ w.heap.size 25 (cellsOf .u8 (mk 32 (outB ch))) (0, 0) _ rfl (cells_turn (HR2.out.setRow .u8 (mk 32 (outB ch))) hd3 rfl) sumUnder rfl (sumSize _), by rw [HDG.out], below_turn _ (below_setRow (H4.out.trans (HB.out.mono H4.out.size)) (Nat.le_refl _) _) (by omega)⟩
  case round =>
    rintro l i0 i U hl hi hus hI rfl
    rw [hs2] at hus
    obtain ⟨h1, h2, h3, h4⟩ := hI
    have hlw := h1.lt
    have hlN := h2.lt
    have hTU := HT.out.on h4
    have HC := Lib.hid (chain_step begK tabK (allB (lenTo P np) g) i)
    have hpb : ∀ j, j < 64 → pieceB (allB (lenTo P np) g) i j < 256 := fun j _ => by unfold pieceB; exact allB_lt HG.out _
    have hcb : ∀ j, j < 8 → chain begK tabK (allB (lenTo P np) g) i j < 4294967296 := chain_lt _ _ (fun j _ => begK_lt j) i
    have SC := Lib.hid (fun W => Schedule_any _ hpb W)
    have TC := Lib.hid (fun W hW => Take_any _ (schT (pieceB (allB (lenTo P np) g) i) 64) hcb W hW)
    have H1 := Lib.hid h1; have H2 := Lib.hid h2; have H3 := Lib.hid h3; have H4 := Lib.hid h4; have HTU := Lib.hid hTU
    clear h1 h2 h3 h4 hTU hpb hcb
    generalize pieceB (allB (lenTo P np) g) i = pc at *
    generalize hch : chain begK tabK (allB (lenTo P np) g) i = ch at *
    clear hch
    refine region_round rfl (by rintro ⟨_, _, h⟩; exact h) ?_
    go_wp2_with (refine store_row_on rfl 61 _ _ rfl rfl U.heap.size (cellsOf .u8 (mk 64 pc)) rfl rfl 61 (cellsOf .u8 (mk 64 zeroK)) (IntBlk.new U .u8 _ (mk 64 zeroK)) (pieceSize _) (by rw [cellsOf_size, cellsOf_size, mk_len, mk_len]) (cellsOf_one _ _) ?_)
    have P1 : IntBlk ((U.alloc (.cells (cellsOf .u8 (mk 64 zeroK)) 61)).setRow U.heap.size (cellsOf .u8 (mk 64 pc))) U.heap.size .u8 61 (mk 64 pc) := (IntBlk.new U .u8 _ (mk 64 zeroK)).setRow .u8 _
    have P2 : Below U.heap.size U ((U.alloc (.cells (cellsOf .u8 (mk 64 zeroK)) 61)).setRow U.heap.size (cellsOf .u8 (mk 64 pc))) := below_setRow ((Below.refl _ _).alloc (Nat.le_refl _) _) (Nat.le_refl _) _
    refine ⟨Aft.of_below _ P2, fun V hVs hVk0 hVb0 => ?_⟩
    have hVk : ∀ k, k ≠ w2.heap.size + 1 → V.heap[k]? = ((U.alloc (.cells (cellsOf .u8 (mk 64 zeroK)) 61)).setRow U.heap.size (cellsOf .u8 (mk 64 pc))).heap[k]? := hVk0
    have hVb : Below w2.heap.size ((U.alloc (.cells (cellsOf .u8 (mk 64 zeroK)) 61)).setRow U.heap.size (cellsOf .u8 (mk 64 pc))) V := hVb0
    clear hVk0 hVb0 hVs
    rw [hs2] at hVk hVb
    generalize ((U.alloc (.cells (cellsOf .u8 (mk 64 zeroK)) 61)).setRow U.heap.size (cellsOf .u8 (mk 64 pc))) = U1 at *
    have Q1 : IntBlk V U.heap.size .u8 61 (mk 64 pc) := (hVk _ (by omega)).trans P1
    have hb2 : Below w.heap.size w V := (H4.out.trans (P2.mono (by omega))).trans (hVb.mono (by omega))
    have Q2 : IntBlk V N .u32 56 (mk 8 ch) := (H2.out.below P2 hlN).below hVb (by omega)
    have Q3 : IntBlk V w.heap.size .u8 25 (mk 32 zeroK) := (H1.out.below P2 hlw).below hVb (by omega)
    have Q4 := (hVb.block (N + 1) (by omega)).trans ((P2.block (N + 1) (by omega)).trans H3.out)
    have Q5 := HT.out.on hb2
    have hlV := Q1.lt
    have K1 : ∀ W, Below V.heap.size V W → IntBlk W U.heap.size .u8 61 (mk 64 pc) := fun W h => Q1.below h Q1.lt
    have K2 : ∀ W, Below V.heap.size V W → IntBlk W N .u32 56 (mk 8 ch) := fun W h => Q2.below h Q2.lt
    have K3 : ∀ W, Below V.heap.size V W → Calls Tryd.prog 32 #[.agg (cellsOf .u32 (mk 8 ch)), .agg (cellsOf .u32 (mk 64 (schT pc 64)))] W fun e w' => e = .returned (.agg (cellsOf .u32 (mk 8 (takH ch (schT pc 64) tabK)))) ∧ Below V.heap.size V w' := fun W h => (TC.out W (Q5.on h)).mono fun e w' hh => ⟨hh.1, h.trans (hh.2.mono h.size)⟩
    have K4 : ∀ W, Below V.heap.size V W → Calls Tryd.prog 33 #[.agg (cellsOf .u8 (mk 64 pc))] W fun e w' => e = .returned (.agg (cellsOf .u32 (mk 64 (schT pc 64)))) ∧ Below V.heap.size V w' := class_of (fun W => SC.out W)
    have HK1 := Lib.hid K1; have HK2 := Lib.hid K2; have HK3 := Lib.hid K3; have HK4 := Lib.hid K4; have HQ2 := Lib.hid Q2; have HQ3 := Lib.hid Q3; have HQ4 := Lib.hid Q4; have HB2 := Lib.hid hb2
    clear P1 P2 Q1 Q2 Q3 Q4 Q5 hb2 K1 K2 K3 K4 hVk hVb H1 H2 H3 H4 TC SC HTU
    gi_wp2
    refine round_class_tail 4 (fun w' => Below V.heap.size V w') (by kernel_rfl) (by kernel_rfl) rfl (by rintro ⟨_, _, h⟩; exact h) ((Below.refl _ _).drew) ?_
    simp only [List.take_succ_cons, List.take_zero, List.drop_succ_cons, List.drop_zero]
    iterate 4 (first
      | go_big_quiet_skip
      | (go_big_quiet_want
         first
           | (go_big_quiet_op; go_big_quiet_on)
           | ((first
               | (refine quiet_load_row 56 _ rfl N .u32 (mk 8 ch) rfl 8 55 eightUnder (eightSize _) HK2.out ?_)
               | (refine quiet_load_row 61 _ rfl U.heap.size .u8 (mk 64 pc) rfl 64 5 pieceUnder (pieceSize _) HK1.out ?_)
               | (refine quiet_call1 _ _ _ rfl 33 rfl (.agg (cellsOf .u8 (mk 64 pc))) (.agg (cellsOf .u32 (mk 64 (schT pc 64)))) rfl (fun _ w => by simp [go_sem]) HK4.out ?_)
               | (refine quiet_call2 _ _ _ _ rfl 32 rfl (.agg (cellsOf .u32 (mk 8 ch))) (.agg (cellsOf .u32 (mk 64 (schT pc 64)))) (.agg (cellsOf .u32 (mk 8 (takH ch (schT pc 64) tabK)))) rfl rfl (fun _ w => by simp [go_sem]) HK3.out ?_)); go_simp; go_big_quiet_on)))
    refine wpQuiet_nil ?_
    intro wx hwx
    have hsx := hwx.size
    refine store_row_on rfl 56 _ _ rfl rfl N (cellsOf .u32 (mk 8 (takH ch (schT pc 64) tabK))) rfl rfl 56 (cellsOf .u32 (mk 8 ch)) (HK2.out _ hwx) (eightSize _) (by rw [cellsOf_size, cellsOf_size, mk_len, mk_len]) (cellsOf_one _ _) ?_
    show Aft w2.heap.size V _ ∧ OfI w N np cap q (allB (lenTo P np) g) (i + 1) _
    rw [hs2]
    refine ⟨⟨by simp; exact hsx, fun k hk1 hk2 => ?_⟩, ?_, ?_, ?_, ?_⟩
    · rw [setRow_other wx N k _ (by omega)]; exact hwx.block k hk2
    · exact (HQ3.out.below hwx HQ3.out.lt).otherRow (by omega) _
    · rw [HC.out]; exact (HK2.out _ hwx).setRow .u32 _
    · exact (setRow_other wx N (N + 1) _ (by omega)).trans ((hwx.block (N + 1) (Array.getElem?_eq_some_iff.1 HQ4.out).1).trans HQ4.out)
    · exact below_setRow (HB2.out.trans (hwx.mono HB2.out.size)) (by omega) _
end Go.Proofs.YtccpecajbfpjdaaDoor
