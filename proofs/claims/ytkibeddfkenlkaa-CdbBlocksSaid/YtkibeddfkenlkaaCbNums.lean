/- The contract of the program's numbers: what a command's bytes say ahead of its Data. No condition. -/
import Derived.Test.YtkibeddfkenlkaaCbNb
namespace Go.Proofs.Ytkibeddfkenlkaa
open Go.ChangeShapes Go.WideShapes Go.ChangeAt Go.RowKit
set_option linter.unusedVariables false
set_option linter.unusedSimpArgs false
attribute [local irreducible] regC intC
attribute [local go_sem] Oper.semAt_some
set_option maxRecDepth 100000 in
set_option maxHeartbeats 8000000 in
theorem numbers_not {w : World} {q : Option Addr} {n c : Nat} {x : CmdOf} (h6 : x.k ≠ 6) :
    Calls Try.prog 27 #[.agg (cmA q n c x)] w fun e w' => ∃ q' m c', e = .returned (.slice q' m c') ∧ OwnL nmT 2 regC w' w.heap.size w'.heap.size (.slice q' m c') (numsC x) ∧ Below w.heap.size w w' := by
  have e1 : (x.k != 6) = true := by simp [h6]
  have HNU := Lib.hid (nums_not h6)
  clear h6
  go_enter Try.func27, Try.ntmps27
  go_wp2_with (first
  | (with_reducible show wpList _ _ _ (⟨some 1, Op.box cmT _, _, _, _, none⟩ :: _) _ _
     refine wpList_boxA_of rfl _ rfl (cmA q n c x) rfl ?_
     intro w1 x1 l1 s1
     have X1 := Lib.hid x1
     have L1 := Lib.hid l1
     obtain ⟨c0, c1, c2, c3, c4, c10⟩ := boxCm x1
     clear x1 l1 s1)
  | (with_reducible show wpList _ _ _ (⟨some 8, Op.build nmT _, _, _, _, _⟩ :: _) _ _
     refine wpList_build_any rfl nmT _ #[(0, .int .i64 1), (1, .int .i64 x.k)] _ rfl rfl (fun w => run_build w nmT #[(0, .int .i64 1), (1, .int .i64 x.k)] _ (nm_built 1 x.k)) ?_)
  | (with_reducible show wpList _ _ _ (⟨some 11, Op.build nmT _, _, _, _, _⟩ :: _) _ _
     refine wpList_build_any rfl nmT _ #[(0, .int .i64 1), (1, .int .i64 x.u)] _ rfl rfl (fun w => run_build w nmT #[(0, .int .i64 1), (1, .int .i64 x.u)] _ (nm_built 1 x.u)) ?_)
  | (with_reducible show wpList _ _ _ (⟨some 14, Op.build nmT _, _, _, _, _⟩ :: _) _ _
     refine wpList_build_any rfl nmT _ #[(0, .int .i64 2), (1, .int .i64 x.b)] _ rfl rfl (fun w => run_build w nmT #[(0, .int .i64 2), (1, .int .i64 x.b)] _ (nm_built 2 x.b)) ?_)
  | (with_reducible show wpList _ _ _ (⟨some 17, Op.build nmT _, _, _, _, _⟩ :: _) _ _
     refine wpList_build_any rfl nmT _ #[(0, .int .i64 2), (1, .int .i64 x.m)] _ rfl rfl (fun w => run_build w nmT #[(0, .int .i64 2), (1, .int .i64 x.m)] _ (nm_built 2 x.m)) ?_)
  | (with_reducible show wpList _ _ _ (⟨some 18, Op.buildSlice nmS _ _, _, _, _, none⟩ :: _) _ _
     refine wpList_nmsL rfl 4 _ rfl [(0, .agg (regA (1, x.k))), (1, .agg (regA (1, x.u))), (2, .agg (regA (2, x.b))), (3, .agg (regA (2, x.m)))] rfl [(1, x.k), (1, x.u), (2, x.b), (2, x.m)] rfl (by decide) (by decide) (fill_nm4 (1, x.k) (1, x.u) (2, x.b) (2, x.m)) ?_
     intro w2 o2 l2 s2
     have O2 := Lib.hid (o2.lower L1.out.size)
     have X2 := Lib.hid (X1.out.keep (l2.block _ X1.out.lt))
     have L2 := Lib.hid (L1.out.trans (l2.mono L1.out.size))
     clear o2 l2 s2 X1 L1 c0 c1 c2 c3 c4 c10
     obtain ⟨c0, c1, c2, c3, c4, c10⟩ := boxCm X2.out
     have RG := Lib.hid (opRange X2.out)))
  go_ret
  exact ⟨_, _, _, rfl, by rw [HNU.out]; exact O2.out.raise (Nat.le_refl _), L2.out⟩
set_option maxRecDepth 100000 in
set_option maxHeartbeats 8000000 in
theorem numbers_sit {w : World} {q : Option Addr} {n c : Nat} {x : CmdOf} (h6 : x.k = 6) (hs : x.o.s = true) :
    Calls Try.prog 27 #[.agg (cmA q n c x)] w fun e w' => ∃ q' m c', e = .returned (.slice q' m c') ∧ OwnL nmT 2 regC w' w.heap.size w'.heap.size (.slice q' m c') (numsC x) ∧ Below w.heap.size w w' := by
  have e1 : (x.k != 6) = false := by simp [h6]
  have HNU := Lib.hid (show numsC x = [(1, x.k), (1, x.u), (2, x.b), (2, x.m)] ++ [(1, x.o.op), (8, x.o.key), (8, x.o.new), (1, x.o.ty), (1, 1)] by rw [nums_six h6]; unfold headC tailC; rw [hs]; rfl)
  have HS := Lib.hid hs
  clear h6 hs
  go_enter Try.func27, Try.ntmps27
  go_wp2_with (first
  | (with_reducible show wpList _ _ _ (⟨some 1, Op.box cmT _, _, _, _, none⟩ :: _) _ _
     refine wpList_boxA_of rfl _ rfl (cmA q n c x) rfl ?_
     intro w1 x1 l1 s1
     have X1 := Lib.hid x1
     have L1 := Lib.hid l1
     obtain ⟨c0, c1, c2, c3, c4, c10⟩ := boxCm x1
     clear x1 l1 s1)
  | (with_reducible show wpList _ _ _ (⟨some 8, Op.build nmT _, _, _, _, _⟩ :: _) _ _
     refine wpList_build_any rfl nmT _ #[(0, .int .i64 1), (1, .int .i64 x.k)] _ rfl rfl (fun w => run_build w nmT #[(0, .int .i64 1), (1, .int .i64 x.k)] _ (nm_built 1 x.k)) ?_)
  | (with_reducible show wpList _ _ _ (⟨some 11, Op.build nmT _, _, _, _, _⟩ :: _) _ _
     refine wpList_build_any rfl nmT _ #[(0, .int .i64 1), (1, .int .i64 x.u)] _ rfl rfl (fun w => run_build w nmT #[(0, .int .i64 1), (1, .int .i64 x.u)] _ (nm_built 1 x.u)) ?_)
  | (with_reducible show wpList _ _ _ (⟨some 14, Op.build nmT _, _, _, _, _⟩ :: _) _ _
     refine wpList_build_any rfl nmT _ #[(0, .int .i64 2), (1, .int .i64 x.b)] _ rfl rfl (fun w => run_build w nmT #[(0, .int .i64 2), (1, .int .i64 x.b)] _ (nm_built 2 x.b)) ?_)
  | (with_reducible show wpList _ _ _ (⟨some 17, Op.build nmT _, _, _, _, _⟩ :: _) _ _
     refine wpList_build_any rfl nmT _ #[(0, .int .i64 2), (1, .int .i64 x.m)] _ rfl rfl (fun w => run_build w nmT #[(0, .int .i64 2), (1, .int .i64 x.m)] _ (nm_built 2 x.m)) ?_)
  | (with_reducible show wpList _ _ _ (⟨some 18, Op.buildSlice nmS _ _, _, _, _, none⟩ :: _) _ _
     refine wpList_nmsL rfl 4 _ rfl [(0, .agg (regA (1, x.k))), (1, .agg (regA (1, x.u))), (2, .agg (regA (2, x.b))), (3, .agg (regA (2, x.m)))] rfl [(1, x.k), (1, x.u), (2, x.b), (2, x.m)] rfl (by decide) (by decide) (fill_nm4 (1, x.k) (1, x.u) (2, x.b) (2, x.m)) ?_
     intro w2 o2 l2 s2
     have O2 := Lib.hid (o2.lower L1.out.size)
     have X2 := Lib.hid (X1.out.keep (l2.block _ X1.out.lt))
     have L2 := Lib.hid (L1.out.trans (l2.mono L1.out.size))
     clear o2 l2 s2 X1 L1 c0 c1 c2 c3 c4 c10
     obtain ⟨c0, c1, c2, c3, c4, c10⟩ := boxCm X2.out
     have RG := Lib.hid (opRange X2.out))
  | (with_reducible show wpList _ _ _ (⟨_, Op.load roT _, _, _, _, none⟩ :: _) _ _
     refine wpList_cmop_load rfl _ rfl w.heap.size rfl x.o RG.out ?_)
  | (with_reducible show wpList _ _ _ (⟨_, Op.alloc roT, _, _, _, _⟩ :: _) _ _
     refine wpList_boxA_new rowOp rfl rfl w2.heap.size rfl ?_
     intro w3 x3 l3 s3
     have Y3 := Lib.hid x3
     have L3 := Lib.hid l3
     clear x3 l3 s3)
  | (with_reducible show wpList _ _ _ (⟨_, Op.store roT _ _, _, _, _, none⟩ :: _) _ _
     refine wpList_boxA_put rowOp rfl _ _ rfl rfl w2.heap.size (ropA x.o) _ (ropA_size _) (ropA_one _) rfl rfl rfl Y3.out ?_
     intro w4 x4 k4 s4
     have L4 := Lib.hid (low_put L3.out (Nat.le_refl _) k4)
     have O4 := Lib.hid (O2.out.below (Nat.le_refl _) L4.out)
     have LW4 := Lib.hid (L2.out.trans (L4.out.mono L2.out.size))
     obtain ⟨d0, d1, d2, d3, d4, d5⟩ := boxRo x4
     have Y4 := Lib.hid x4
     rw [HS.out] at d5
     clear x4 k4 s4 L3 Y3 O2 X2 L2)
  | (with_reducible show wpList _ _ _ (⟨some 30, Op.build nmT _, _, _, _, _⟩ :: _) _ _
     refine wpList_build_any rfl nmT _ #[(0, .int .i64 1), (1, .int .i64 x.o.op)] _ rfl rfl (fun w => run_build w nmT #[(0, .int .i64 1), (1, .int .i64 x.o.op)] _ (nm_built 1 x.o.op)) ?_)
  | (with_reducible show wpList _ _ _ (⟨some 33, Op.build nmT _, _, _, _, _⟩ :: _) _ _
     refine wpList_build_any rfl nmT _ #[(0, .int .i64 8), (1, .int .i64 x.o.key)] _ rfl rfl (fun w => run_build w nmT #[(0, .int .i64 8), (1, .int .i64 x.o.key)] _ (nm_built 8 x.o.key)) ?_)
  | (with_reducible show wpList _ _ _ (⟨some 36, Op.build nmT _, _, _, _, _⟩ :: _) _ _
     refine wpList_build_any rfl nmT _ #[(0, .int .i64 8), (1, .int .i64 x.o.new)] _ rfl rfl (fun w => run_build w nmT #[(0, .int .i64 8), (1, .int .i64 x.o.new)] _ (nm_built 8 x.o.new)) ?_)
  | (with_reducible show wpList _ _ _ (⟨some 39, Op.build nmT _, _, _, _, _⟩ :: _) _ _
     refine wpList_build_any rfl nmT _ #[(0, .int .i64 1), (1, .int .i64 x.o.ty)] _ rfl rfl (fun w => run_build w nmT #[(0, .int .i64 1), (1, .int .i64 x.o.ty)] _ (nm_built 1 x.o.ty)) ?_)
  | (with_reducible show wpList _ _ _ (⟨some 41, Op.build nmT _, _, _, _, _⟩ :: _) _ _
     refine wpList_build_any rfl nmT _ #[(0, .int .i64 1), (1, .int .i64 1)] _ rfl rfl (fun w => run_build w nmT #[(0, .int .i64 1), (1, .int .i64 1)] _ (nm_built 1 1)) ?_)
  | (with_reducible show wpList _ _ _ (⟨some 42, Op.buildSlice nmS _ _, _, _, _, none⟩ :: _) _ _
     refine wpList_nmsL rfl 5 _ rfl [(0, .agg (regA (1, x.o.op))), (1, .agg (regA (8, x.o.key))), (2, .agg (regA (8, x.o.new))), (3, .agg (regA (1, x.o.ty))), (4, .agg (regA (1, 1)))] rfl [(1, x.o.op), (8, x.o.key), (8, x.o.new), (1, x.o.ty), (1, 1)] rfl (by decide) (by decide) (fill_nm5 (1, x.o.op) (8, x.o.key) (8, x.o.new) (1, x.o.ty) (1, 1)) ?_
     intro w5 o5 l5 s5
     have T5 := Lib.hid (OwnL.rows2 elemNm.len o5)
     have O5 := Lib.hid (O4.out.below (Nat.le_trans L4.out.size (Nat.le_refl _)) l5)
     have L5 := Lib.hid (LW4.out.trans (l5.mono LW4.out.size))
     clear o5 l5 s5 O4 LW4)
  | (at_builtin
     refine wpList_nms_grow rfl _ _ rfl w.heap.size w2.heap.size _ [(1, x.k), (1, x.u), (2, x.b), (2, x.m)] [(1, x.o.op), (8, x.o.key), (8, x.o.new), (1, x.o.ty), (1, 1)] _ 5 5 rfl rfl rfl O5.out T5.out (by simp) L5.out.size ?_
     intro v6 w6 o6 l6
     have O6 := Lib.hid o6
     have L6 := Lib.hid (L5.out.trans l6)
     clear o6 l6 O5 T5 L5))
  rw [← HNU.out] at O6
  obtain ⟨q2, cc, hv, -⟩ := O6.out.rows elemNm.len
  generalize (numsC x).length = nn at hv
  subst hv
  go_ret
  exact ⟨_, _, _, rfl, O6.out, L6.out⟩
set_option maxRecDepth 100000 in
set_option maxHeartbeats 8000000 in
theorem numbers_off {w : World} {q : Option Addr} {n c : Nat} {x : CmdOf} (h6 : x.k = 6) (hs : x.o.s = false) :
    Calls Try.prog 27 #[.agg (cmA q n c x)] w fun e w' => ∃ q' m c', e = .returned (.slice q' m c') ∧ OwnL nmT 2 regC w' w.heap.size w'.heap.size (.slice q' m c') (numsC x) ∧ Below w.heap.size w w' := by
  have e1 : (x.k != 6) = false := by simp [h6]
  have HNU := Lib.hid (show numsC x = [(1, x.k), (1, x.u), (2, x.b), (2, x.m)] ++ [(1, x.o.op), (8, x.o.key), (8, x.o.new), (1, x.o.ty), (1, 0)] by rw [nums_six h6]; unfold headC tailC; rw [hs]; rfl)
  have HS := Lib.hid hs
  clear h6 hs
  go_enter Try.func27, Try.ntmps27
  go_wp2_with (first
  | (with_reducible show wpList _ _ _ (⟨some 1, Op.box cmT _, _, _, _, none⟩ :: _) _ _
     refine wpList_boxA_of rfl _ rfl (cmA q n c x) rfl ?_
     intro w1 x1 l1 s1
     have X1 := Lib.hid x1
     have L1 := Lib.hid l1
     obtain ⟨c0, c1, c2, c3, c4, c10⟩ := boxCm x1
     clear x1 l1 s1)
  | (with_reducible show wpList _ _ _ (⟨some 8, Op.build nmT _, _, _, _, _⟩ :: _) _ _
     refine wpList_build_any rfl nmT _ #[(0, .int .i64 1), (1, .int .i64 x.k)] _ rfl rfl (fun w => run_build w nmT #[(0, .int .i64 1), (1, .int .i64 x.k)] _ (nm_built 1 x.k)) ?_)
  | (with_reducible show wpList _ _ _ (⟨some 11, Op.build nmT _, _, _, _, _⟩ :: _) _ _
     refine wpList_build_any rfl nmT _ #[(0, .int .i64 1), (1, .int .i64 x.u)] _ rfl rfl (fun w => run_build w nmT #[(0, .int .i64 1), (1, .int .i64 x.u)] _ (nm_built 1 x.u)) ?_)
  | (with_reducible show wpList _ _ _ (⟨some 14, Op.build nmT _, _, _, _, _⟩ :: _) _ _
     refine wpList_build_any rfl nmT _ #[(0, .int .i64 2), (1, .int .i64 x.b)] _ rfl rfl (fun w => run_build w nmT #[(0, .int .i64 2), (1, .int .i64 x.b)] _ (nm_built 2 x.b)) ?_)
  | (with_reducible show wpList _ _ _ (⟨some 17, Op.build nmT _, _, _, _, _⟩ :: _) _ _
     refine wpList_build_any rfl nmT _ #[(0, .int .i64 2), (1, .int .i64 x.m)] _ rfl rfl (fun w => run_build w nmT #[(0, .int .i64 2), (1, .int .i64 x.m)] _ (nm_built 2 x.m)) ?_)
  | (with_reducible show wpList _ _ _ (⟨some 18, Op.buildSlice nmS _ _, _, _, _, none⟩ :: _) _ _
     refine wpList_nmsL rfl 4 _ rfl [(0, .agg (regA (1, x.k))), (1, .agg (regA (1, x.u))), (2, .agg (regA (2, x.b))), (3, .agg (regA (2, x.m)))] rfl [(1, x.k), (1, x.u), (2, x.b), (2, x.m)] rfl (by decide) (by decide) (fill_nm4 (1, x.k) (1, x.u) (2, x.b) (2, x.m)) ?_
     intro w2 o2 l2 s2
     have O2 := Lib.hid (o2.lower L1.out.size)
     have X2 := Lib.hid (X1.out.keep (l2.block _ X1.out.lt))
     have L2 := Lib.hid (L1.out.trans (l2.mono L1.out.size))
     clear o2 l2 s2 X1 L1 c0 c1 c2 c3 c4 c10
     obtain ⟨c0, c1, c2, c3, c4, c10⟩ := boxCm X2.out
     have RG := Lib.hid (opRange X2.out))
  | (with_reducible show wpList _ _ _ (⟨_, Op.load roT _, _, _, _, none⟩ :: _) _ _
     refine wpList_cmop_load rfl _ rfl w.heap.size rfl x.o RG.out ?_)
  | (with_reducible show wpList _ _ _ (⟨_, Op.alloc roT, _, _, _, _⟩ :: _) _ _
     refine wpList_boxA_new rowOp rfl rfl w2.heap.size rfl ?_
     intro w3 x3 l3 s3
     have Y3 := Lib.hid x3
     have L3 := Lib.hid l3
     clear x3 l3 s3)
  | (with_reducible show wpList _ _ _ (⟨_, Op.store roT _ _, _, _, _, none⟩ :: _) _ _
     refine wpList_boxA_put rowOp rfl _ _ rfl rfl w2.heap.size (ropA x.o) _ (ropA_size _) (ropA_one _) rfl rfl rfl Y3.out ?_
     intro w4 x4 k4 s4
     have L4 := Lib.hid (low_put L3.out (Nat.le_refl _) k4)
     have O4 := Lib.hid (O2.out.below (Nat.le_refl _) L4.out)
     have LW4 := Lib.hid (L2.out.trans (L4.out.mono L2.out.size))
     obtain ⟨d0, d1, d2, d3, d4, d5⟩ := boxRo x4
     have Y4 := Lib.hid x4
     rw [HS.out] at d5
     clear x4 k4 s4 L3 Y3 O2 X2 L2)
  | (with_reducible show wpList _ _ _ (⟨some 30, Op.build nmT _, _, _, _, _⟩ :: _) _ _
     refine wpList_build_any rfl nmT _ #[(0, .int .i64 1), (1, .int .i64 x.o.op)] _ rfl rfl (fun w => run_build w nmT #[(0, .int .i64 1), (1, .int .i64 x.o.op)] _ (nm_built 1 x.o.op)) ?_)
  | (with_reducible show wpList _ _ _ (⟨some 33, Op.build nmT _, _, _, _, _⟩ :: _) _ _
     refine wpList_build_any rfl nmT _ #[(0, .int .i64 8), (1, .int .i64 x.o.key)] _ rfl rfl (fun w => run_build w nmT #[(0, .int .i64 8), (1, .int .i64 x.o.key)] _ (nm_built 8 x.o.key)) ?_)
  | (with_reducible show wpList _ _ _ (⟨some 36, Op.build nmT _, _, _, _, _⟩ :: _) _ _
     refine wpList_build_any rfl nmT _ #[(0, .int .i64 8), (1, .int .i64 x.o.new)] _ rfl rfl (fun w => run_build w nmT #[(0, .int .i64 8), (1, .int .i64 x.o.new)] _ (nm_built 8 x.o.new)) ?_)
  | (with_reducible show wpList _ _ _ (⟨some 39, Op.build nmT _, _, _, _, _⟩ :: _) _ _
     refine wpList_build_any rfl nmT _ #[(0, .int .i64 1), (1, .int .i64 x.o.ty)] _ rfl rfl (fun w => run_build w nmT #[(0, .int .i64 1), (1, .int .i64 x.o.ty)] _ (nm_built 1 x.o.ty)) ?_)
  | (with_reducible show wpList _ _ _ (⟨some 41, Op.build nmT _, _, _, _, _⟩ :: _) _ _
     refine wpList_build_any rfl nmT _ #[(0, .int .i64 1), (1, .int .i64 0)] _ rfl rfl (fun w => run_build w nmT #[(0, .int .i64 1), (1, .int .i64 0)] _ (nm_built 1 0)) ?_)
  | (with_reducible show wpList _ _ _ (⟨some 42, Op.buildSlice nmS _ _, _, _, _, none⟩ :: _) _ _
     refine wpList_nmsL rfl 5 _ rfl [(0, .agg (regA (1, x.o.op))), (1, .agg (regA (8, x.o.key))), (2, .agg (regA (8, x.o.new))), (3, .agg (regA (1, x.o.ty))), (4, .agg (regA (1, 0)))] rfl [(1, x.o.op), (8, x.o.key), (8, x.o.new), (1, x.o.ty), (1, 0)] rfl (by decide) (by decide) (fill_nm5 (1, x.o.op) (8, x.o.key) (8, x.o.new) (1, x.o.ty) (1, 0)) ?_
     intro w5 o5 l5 s5
     have T5 := Lib.hid (OwnL.rows2 elemNm.len o5)
     have O5 := Lib.hid (O4.out.below (Nat.le_trans L4.out.size (Nat.le_refl _)) l5)
     have L5 := Lib.hid (LW4.out.trans (l5.mono LW4.out.size))
     clear o5 l5 s5 O4 LW4)
  | (at_builtin
     refine wpList_nms_grow rfl _ _ rfl w.heap.size w2.heap.size _ [(1, x.k), (1, x.u), (2, x.b), (2, x.m)] [(1, x.o.op), (8, x.o.key), (8, x.o.new), (1, x.o.ty), (1, 0)] _ 5 5 rfl rfl rfl O5.out T5.out (by simp) L5.out.size ?_
     intro v6 w6 o6 l6
     have O6 := Lib.hid o6
     have L6 := Lib.hid (L5.out.trans l6)
     clear o6 l6 O5 T5 L5))
  rw [← HNU.out] at O6
  obtain ⟨q2, cc, hv, -⟩ := O6.out.rows elemNm.len
  generalize (numsC x).length = nn at hv
  subst hv
  go_ret
  exact ⟨_, _, _, rfl, O6.out, L6.out⟩
theorem numbers_any {w : World} {q : Option Addr} {n c : Nat} {x : CmdOf} :
    Calls Try.prog 27 #[.agg (cmA q n c x)] w fun e w' => ∃ q' m c', e = .returned (.slice q' m c') ∧ OwnL nmT 2 regC w' w.heap.size w'.heap.size (.slice q' m c') (numsC x) ∧ Below w.heap.size w w' := by
  by_cases h : x.k = 6
  · cases hs : x.o.s
    · exact numbers_off h hs
    · exact numbers_sit h hs
  · exact numbers_not h
end Go.Proofs.Ytkibeddfkenlkaa
