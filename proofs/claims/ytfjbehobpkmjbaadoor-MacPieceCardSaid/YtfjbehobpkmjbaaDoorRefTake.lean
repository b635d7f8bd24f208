/- The contract of package citadelref04's Take: what eight words become with a schedule. It writes nothing that was there. Condition: the eight words are below 2^32. -/
import Derived.Test.YtfjbehobpkmjbaaDoorTakeNum
import Derived.Test.YtfjbehobpkmjbaaDoorEightS
import Derived.Test.YtfjbehobpkmjbaaDoorRefSch
import Derived.Great.BuildSlice
namespace Go.Proofs.YtfjbehobpkmjbaaDoor
open Go.ChangeShapes Go.WideShapes Go.ChangeAt Go.RowKit
theorem roZ_eq (x : Nat) (k : Int) : roZ x k = rrZ x k := rfl
attribute [local irreducible] rrZ rr runH stepH takH tabK roZ

set_option maxRecDepth 100000 in
set_option maxHeartbeats 4000000 in
theorem refTake_any (hh ww kk : Nat → Nat) (hb : ∀ j, j < 8 → hh j < 4294967296) (w : World) :
    Calls Tryd.prog 33 #[.agg (cellsOf .u32 (mk 8 hh)), .agg (cellsOf .u32 (mk 64 ww)), .agg (cellsOf .u32 (mk 64 kk))] w fun e w' => e = .returned (.agg (cellsOf .u32 (mk 8 (takH hh ww kk)))) ∧ Below w.heap.size w w' := by
  obtain ⟨hA, hW, hK, hZ, hB⟩ := four_boxes w (mk 8 hh) (mk 64 ww) (mk 64 kk) (mk 8 zeroK) 58 57 57 58
  have r0 : runH hh ww kk 0 = hh := by unfold runH; rfl
  have c0 := hA.cell (i := 0) (by rw [mk_len]; omega)
  have c1 := hA.cell (i := 1) (by rw [mk_len]; omega)
  have c2 := hA.cell (i := 2) (by rw [mk_len]; omega)
  have c3 := hA.cell (i := 3) (by rw [mk_len]; omega)
  have c4 := hA.cell (i := 4) (by rw [mk_len]; omega)
  have c5 := hA.cell (i := 5) (by rw [mk_len]; omega)
  have c6 := hA.cell (i := 6) (by rw [mk_len]; omega)
  have c7 := hA.cell (i := 7) (by rw [mk_len]; omega)
  rw [mk_get (by omega)] at c0 c1 c2 c3 c4 c5 c6 c7
  have HA := Lib.hid hA
  have HW := Lib.hid hW
  have HK := Lib.hid hK
  have HZ := Lib.hid hZ
  have HB := Lib.hid hB
  clear hA hW hZ hB hK
  go_enter Tryd.func33, Tryd.ntmps33
  go_wp2
  change Code.wp _ _ _ _ ((((w.alloc (.cells (cellsOf .u32 (mk 8 hh)) 58)).alloc (.cells (cellsOf .u32 (mk 64 ww)) 57)).alloc (.cells (cellsOf .u32 (mk 64 kk)) 57)).alloc (.cells (cellsOf .u32 (mk 8 zeroK)) 58))
  generalize hV : ((((w.alloc (.cells (cellsOf .u32 (mk 8 hh)) 58)).alloc (.cells (cellsOf .u32 (mk 64 ww)) 57)).alloc (.cells (cellsOf .u32 (mk 64 kk)) 57)).alloc (.cells (cellsOf .u32 (mk 8 zeroK)) 58)) = V at *
  have s3 : w.heap.size + 4 ≤ V.heap.size := by rw [← hV]; simp
  clear hV
  refine wp_region_still (by kernel_rfl) (by kernel_rfl) ?_
  change wpStill _ _ V.drew _ _ _
  iterate 24 still_step
  refine wpStill_nil ?_
  clear c0 c1 c2 c3 c4 c5 c6 c7
  go_wp2
  go_loopw [7, 8, 9, 10, 11, 12, 13, 14, 15] (fun v7 v8 v9 v10 v11 v12 v13 v14 v15 wr => ∃ i : Nat, i ≤ 64 ∧ v7 = .int .u32 (runH hh ww kk i 0 : Nat) ∧ v8 = .int .u32 (runH hh ww kk i 1 : Nat) ∧ v9 = .int .u32 (runH hh ww kk i 2 : Nat) ∧ v10 = .int .u32 (runH hh ww kk i 3 : Nat) ∧ v11 = .int .u32 (runH hh ww kk i 4 : Nat) ∧ v12 = .int .u32 (runH hh ww kk i 5 : Nat) ∧ v13 = .int .u32 (runH hh ww kk i 6 : Nat) ∧ v14 = .int .u32 (runH hh ww kk i 7 : Nat) ∧ v15 = .int .i64 i ∧ IntBlk wr (w.heap.size) .u32 58 (mk 8 hh) ∧ IntBlk wr (w.heap.size + 1) .u32 57 (mk 64 ww) ∧ IntBlk wr (w.heap.size + 1 + 1) .u32 57 (mk 64 kk) ∧ IntBlk wr (w.heap.size + 1 + 1 + 1) .u32 58 (mk 8 zeroK) ∧ Below w.heap.size w wr) (fun _ _ _ _ _ _ _ _ v15 _ => 64 - (intOf v15).toNat)
  case atStart => exact ⟨0, by omega, by rw [r0], by rw [r0], by rw [r0], by rw [r0], by rw [r0], by rw [r0], by rw [r0], by rw [r0], rfl, HA.out.drew, HW.out.drew, HK.out.drew, HZ.out.drew, HB.out.drew⟩
  case round =>
    clear HA HW HZ HB s3 HK
    obtain ⟨i, hi, rfl, rfl, rfl, rfl, rfl, rfl, rfl, rfl, rfl, hA, hW, hK, hZ, hB⟩ := hrel
    have HA := Lib.hid hA
    have HW := Lib.hid hW
    have HZ := Lib.hid hZ
    have HB := Lib.hid hB
    have HK := Lib.hid hK
    have hs := runH_lt ww kk hb i
    by_cases hlt : i < 64
    · have e1 : (i : Int) < 64 := by omega
      have e2 : (0 : Int) ≤ i := by omega
      have n0 := congrFun (runH_step hh ww kk i) 0
      have n4 := congrFun (runH_step hh ww kk i) 4
      have n1 := (congrFun (runH_step hh ww kk i) 1).trans (stepH_on _ _ _ (j := 0) (by decide))
      have n2 := (congrFun (runH_step hh ww kk i) 2).trans (stepH_on _ _ _ (j := 1) (by decide))
      have n3 := (congrFun (runH_step hh ww kk i) 3).trans (stepH_on _ _ _ (j := 2) (by decide))
      have n5 := (congrFun (runH_step hh ww kk i) 5).trans (stepH_on _ _ _ (j := 4) (by decide))
      have n6 := (congrFun (runH_step hh ww kk i) 6).trans (stepH_on _ _ _ (j := 5) (by decide))
      have n7 := (congrFun (runH_step hh ww kk i) 7).trans (stepH_on _ _ _ (j := 6) (by decide))
      obtain ⟨x1, E, s1, p, ne, q, c, s2, s3, T1, x2, A, p1, p2, p3, p4, m, T2, F1, F2, F3, F4, F5, F6, F7, F8, F9, F10, G1, G2, G3, G4, G5, G6, G7, G8, H1, H2⟩ := take_nums _ hs (kk i) (ww i)
      rw [← n0] at H2
      rw [← n4] at H1
      have b0 := hs 0 (by omega)
      have b4 := hs 4 (by omega)
      have ck := hK.cell (i := i) (by rw [mk_len]; exact hlt)
      rw [mk_get hlt] at ck
      have cw := hW.cell (i := i) (by rw [mk_len]; exact hlt)
      rw [mk_get hlt] at cw
      clear hA hW hZ hB hs n0 n4 hK
      have N1 := Lib.hid n1; have N2 := Lib.hid n2; have N3 := Lib.hid n3; have N5 := Lib.hid n5; have N6 := Lib.hid n6; have N7 := Lib.hid n7
      clear n1 n2 n3 n5 n6 n7
      generalize hw0 : runH hh ww kk i 0 = g0 at *
      generalize hw1 : runH hh ww kk i 1 = g1 at *
      generalize hw2 : runH hh ww kk i 2 = g2 at *
      generalize hw3 : runH hh ww kk i 3 = g3 at *
      generalize hw4 : runH hh ww kk i 4 = g4 at *
      generalize hw5 : runH hh ww kk i 5 = g5 at *
      generalize hw6 : runH hh ww kk i 6 = g6 at *
      generalize hw7 : runH hh ww kk i 7 = g7 at *
      generalize hv0 : runH hh ww kk (i + 1) 0 = A1 at *
      generalize hv4 : runH hh ww kk (i + 1) 4 = D1 at *
      have V0 := Lib.hid hv0; have V4 := Lib.hid hv4
      clear hv0 hv4 hw0 hw1 hw2 hw3 hw4 hw5 hw6 hw7
      have C4 : ∀ k : Int, 1 ≤ k → k ≤ 31 → ∀ W, Calls Tryd.prog 40 #[.int .u32 g4, .int .i64 k] W fun e w' => e = .returned (.int .u32 (rrZ g4 k)) ∧ w' = W := fun k h0 hn W => by rw [← roZ_eq]; exact (refRot_any g4 k b4 (by omega) (by omega) W).mono fun e w' h => And.intro h.1 h.2.symm
      have C0 : ∀ k : Int, 1 ≤ k → k ≤ 31 → ∀ W, Calls Tryd.prog 40 #[.int .u32 g0, .int .i64 k] W fun e w' => e = .returned (.int .u32 (rrZ g0 k)) ∧ W = w' := fun k h0 hn W => by rw [← roZ_eq]; exact refRot_any g0 k b0 (by omega) (by omega) W
      have HC4 := Lib.hid C4; have HC0 := Lib.hid C0
      clear C4 C0
      go_wp2
      refine wp_region_still_tail 27 (by kernel_rfl) (by kernel_rfl) ?_
      simp only [List.take_succ_cons, List.take_zero, List.drop_succ_cons, List.drop_zero]
      change wpStill _ _ wr.drew (fun a' => wpList _ _ _ _ a' wr.drew) _ _
      iterate 2 still_step
      refine wpStill_step (fun K hK => ?_)
      go_simp
      refine ⟨_, HC4.out 6 (by decide) (by decide) _, hK _ ?_⟩
      clear hK K
      iterate 1 still_step
      refine wpStill_step (fun K hK => ?_)
      go_simp
      refine ⟨_, HC4.out 11 (by decide) (by decide) _, hK _ ?_⟩
      clear hK K
      iterate 2 still_step
      refine wpStill_step (fun K hK => ?_)
      go_simp
      refine ⟨_, HC4.out 25 (by decide) (by decide) _, hK _ ?_⟩
      clear hK K
      iterate 19 still_step
      refine wpStill_nil ?_
      go_wp2_with (go_at_call 40; refine (HC0.out _ (by decide) (by decide) _).mono ?_; rintro e w' ⟨rfl, rfl⟩)
      go_roundw
      case rel => exact ⟨i + 1, by omega, by rw [V0.out], by rw [N1.out], by rw [N2.out], by rw [N3.out], by rw [V4.out], by rw [N5.out], by rw [N6.out], by rw [N7.out], by go_num, HA.out.drew, HW.out.drew, HK.out.drew, HZ.out.drew, HB.out.drew⟩
      case measure => simp [intOf]; omega
    · have e64 : i = 64 := by omega
      have hd1 : decide ((i : Int) < 64) = false := by simp; omega
      have c0 := hA.cell (i := 0) (by rw [mk_len]; omega)
      have c1 := hA.cell (i := 1) (by rw [mk_len]; omega)
      have c2 := hA.cell (i := 2) (by rw [mk_len]; omega)
      have c3 := hA.cell (i := 3) (by rw [mk_len]; omega)
      have c4 := hA.cell (i := 4) (by rw [mk_len]; omega)
      have c5 := hA.cell (i := 5) (by rw [mk_len]; omega)
      have c6 := hA.cell (i := 6) (by rw [mk_len]; omega)
      have c7 := hA.cell (i := 7) (by rw [mk_len]; omega)
      rw [mk_get (by omega)] at c0 c1 c2 c3 c4 c5 c6 c7
      have t0 : IntKind.u32.wrap ((hh 0 : Int) + (runH hh ww kk i 0 : Nat)) = (takH hh ww kk 0 : Nat) := by rw [e64]; unfold takH; exact add32_int _ _
      have t1 : IntKind.u32.wrap ((hh 1 : Int) + (runH hh ww kk i 1 : Nat)) = (takH hh ww kk 1 : Nat) := by rw [e64]; unfold takH; exact add32_int _ _
      have t2 : IntKind.u32.wrap ((hh 2 : Int) + (runH hh ww kk i 2 : Nat)) = (takH hh ww kk 2 : Nat) := by rw [e64]; unfold takH; exact add32_int _ _
      have t3 : IntKind.u32.wrap ((hh 3 : Int) + (runH hh ww kk i 3 : Nat)) = (takH hh ww kk 3 : Nat) := by rw [e64]; unfold takH; exact add32_int _ _
      have t4 : IntKind.u32.wrap ((hh 4 : Int) + (runH hh ww kk i 4 : Nat)) = (takH hh ww kk 4 : Nat) := by rw [e64]; unfold takH; exact add32_int _ _
      have t5 : IntKind.u32.wrap ((hh 5 : Int) + (runH hh ww kk i 5 : Nat)) = (takH hh ww kk 5 : Nat) := by rw [e64]; unfold takH; exact add32_int _ _
      have t6 : IntKind.u32.wrap ((hh 6 : Int) + (runH hh ww kk i 6 : Nat)) = (takH hh ww kk 6 : Nat) := by rw [e64]; unfold takH; exact add32_int _ _
      have t7 : IntKind.u32.wrap ((hh 7 : Int) + (runH hh ww kk i 7 : Nat)) = (takH hh ww kk 7 : Nat) := by rw [e64]; unfold takH; exact add32_int _ _
      clear hA hW hZ hB hs e64 hlt hK
      generalize runH hh ww kk i 0 = g0 at *
      generalize runH hh ww kk i 1 = g1 at *
      generalize runH hh ww kk i 2 = g2 at *
      generalize runH hh ww kk i 3 = g3 at *
      generalize runH hh ww kk i 4 = g4 at *
      generalize runH hh ww kk i 5 = g5 at *
      generalize runH hh ww kk i 6 = g6 at *
      generalize runH hh ww kk i 7 = g7 at *
      go_wp2_with (first
        | (refine wpList_buildTo rfl 58 _ rfl (some 129) rfl (cellsOf .u32 (mk 8 (takH hh ww kk))) (by simp only [List.map_toArray, List.map_cons, List.map_nil]; kernel_rfl) ?_)
        | (refine wpList_store_row rfl 58 _ _ rfl (w.heap.size + 1 + 1 + 1) _ rfl rfl 58 (cellsOf .u32 (mk 8 zeroK)) HZ.out (eightSize _) (by rw [cellsOf_size, cellsOf_size, mk_len, mk_len]) (cellsOf_one _ _) ?_))
      refine bodyPost_ret (results_cell_row rfl _ _ (w.heap.size + 1 + 1 + 1) 58 (cellsOf .u32 (mk 8 (takH hh ww kk))) (0, 0) _ rfl (HZ.out.setRow .u32 (mk 8 (takH hh ww kk))) eightUnder rfl (eightSize _)) rfl ⟨rfl, below_setRow HB.out (by omega) _⟩
end Go.Proofs.YtfjbehobpkmjbaaDoor
