/- The contracts of the program's tests of form, of Check and of Access, and of the document's Good and Check. No condition. -/
import Derived.Test.YtkibeddfkenlkaaCbVal
namespace Go.Proofs.Ytkibeddfkenlkaa
open Go.ChangeShapes Go.WideShapes Go.ChangeAt Go.RowKit
set_option linter.unusedVariables false
set_option linter.unusedSimpArgs false
theorem low_put {w V V' : World} {O : Nat} (h : Below w.heap.size w V) (hO : w.heap.size ≤ O) (k : Keeps (fun j => j = O) V V') : Below w.heap.size w V' := h.trans (k.below h.size (fun j hj e => by omega))
attribute [local go_sem] Oper.semAt_some
set_option maxRecDepth 100000 in
set_option maxHeartbeats 4000000 in
theorem hasBlocks_any {w : World} {q : Option Addr} {n c : Nat} {x : CmdOf} :
    Calls Try.prog 34 #[.agg (cmA q n c x)] w fun e w' => e = .returned (.bool (x.k == 1 || x.k == 2)) ∧ Below w.heap.size w w' := by
  by_cases h1 : x.k = 1
  · have e1 : (x.k == 1) = true := by simp [h1]
    rw [e1, Bool.true_or]
    clear h1
    go_enter Try.func34, Try.ntmps34
    go_wp2_with (first
    | (with_reducible show wpList _ _ _ (⟨some 1, Op.box cmT _, _, _, _, none⟩ :: _) _ _
       refine wpList_boxA_of rfl _ rfl (cmA q n c x) rfl ?_
       intro w1 x1 l1 s1
       have X1 := Lib.hid x1
       have L1 := Lib.hid l1
       obtain ⟨c0, c1, c2, c3, c4, c10⟩ := boxCm x1
       have RG := Lib.hid (opRange x1)
       clear x1 l1 s1))
    go_ret
    exact ⟨by first | rfl | trivial | (simp; done) | (simp_all; done), L1.out⟩
  · have e1 : (x.k == 1) = false := by simp [h1]
    rw [e1, Bool.false_or]
    clear h1
    go_enter Try.func34, Try.ntmps34
    go_wp2_with (first
    | (with_reducible show wpList _ _ _ (⟨some 1, Op.box cmT _, _, _, _, none⟩ :: _) _ _
       refine wpList_boxA_of rfl _ rfl (cmA q n c x) rfl ?_
       intro w1 x1 l1 s1
       have X1 := Lib.hid x1
       have L1 := Lib.hid l1
       obtain ⟨c0, c1, c2, c3, c4, c10⟩ := boxCm x1
       have RG := Lib.hid (opRange x1)
       clear x1 l1 s1))
    go_ret
    exact ⟨by first | rfl | trivial | (simp; done) | (simp_all; done), L1.out⟩
set_option maxRecDepth 100000 in
set_option maxHeartbeats 4000000 in
theorem inUnit_any {w : World} {q : Option Addr} {n c : Nat} {x : CmdOf} (hb : 0 ≤ x.b ∧ x.b ≤ 65535) (hm : 0 ≤ x.m ∧ x.m ≤ 65535) :
    Calls Try.prog 35 #[.agg (cmA q n c x)] w fun e w' => e = .returned (.bool (decide (0 < x.m) && decide (x.b + x.m ≤ 16))) ∧ Below w.heap.size w w' := by
  have e2 : IntKind.i64.wrap (x.b + x.m) = x.b + x.m := IntWalk.i64_in _ (by omega)
  by_cases h1 : 0 < x.m
  · have e1 : decide (0 < x.m) = true := by simp [h1]
    rw [e1, Bool.true_and]
    go_enter Try.func35, Try.ntmps35
    go_wp2_with (first
    | (with_reducible show wpList _ _ _ (⟨some 1, Op.box cmT _, _, _, _, none⟩ :: _) _ _
       refine wpList_boxA_of rfl _ rfl (cmA q n c x) rfl ?_
       intro w1 x1 l1 s1
       have X1 := Lib.hid x1
       have L1 := Lib.hid l1
       obtain ⟨c0, c1, c2, c3, c4, c10⟩ := boxCm x1
       have RG := Lib.hid (opRange x1)
       clear x1 l1 s1))
    go_ret
    exact ⟨by first | rfl | trivial | (simp; done) | (simp_all; done), L1.out⟩
  · have e1 : decide (0 < x.m) = false := by simpa using h1
    rw [e1, Bool.false_and]
    go_enter Try.func35, Try.ntmps35
    go_wp2_with (first
    | (with_reducible show wpList _ _ _ (⟨some 1, Op.box cmT _, _, _, _, none⟩ :: _) _ _
       refine wpList_boxA_of rfl _ rfl (cmA q n c x) rfl ?_
       intro w1 x1 l1 s1
       have X1 := Lib.hid x1
       have L1 := Lib.hid l1
       obtain ⟨c0, c1, c2, c3, c4, c10⟩ := boxCm x1
       have RG := Lib.hid (opRange x1)
       clear x1 l1 s1))
    go_ret
    exact ⟨by first | rfl | trivial | (simp; done) | (simp_all; done), L1.out⟩
set_option maxRecDepth 100000 in
set_option maxHeartbeats 4000000 in
theorem dataInForm_any {w : World} {q : Option Addr} {n c : Nat} {x : CmdOf} (hm : 0 ≤ x.m ∧ x.m ≤ 65535) :
    Calls Try.prog 39 #[.agg (cmA q n c x)] w fun e w' => e = .returned (.bool (dataG x n)) ∧ Below w.heap.size w w' := by
  unfold dataG
  by_cases h1 : x.k = 2
  case' pos => by_cases h2 : x.m ≤ 16
  · have e1 : (x.k != 2) = false := by simp [h1]
    have e1' : (x.k == 2) = true := by simp [h1]
    have e2 : decide (x.m ≤ 16) = true := by simp [h2]
    have e3 : IntKind.i64.wrap (128 * x.m) = 128 * x.m := IntWalk.i64_in _ (by omega)
    rw [e1', if_pos rfl, e2, Bool.true_and]
    clear h1
    go_enter Try.func39, Try.ntmps39
    go_wp2_with (first
    | (with_reducible show wpList _ _ _ (⟨some 1, Op.box cmT _, _, _, _, none⟩ :: _) _ _
       refine wpList_boxA_of rfl _ rfl (cmA q n c x) rfl ?_
       intro w1 x1 l1 s1
       have X1 := Lib.hid x1
       have L1 := Lib.hid l1
       obtain ⟨c0, c1, c2, c3, c4, c10⟩ := boxCm x1
       have RG := Lib.hid (opRange x1)
       clear x1 l1 s1))
    go_ret
    exact ⟨by first | rfl | trivial | (simp; done) | (simp_all; done), L1.out⟩
  · have e1 : (x.k != 2) = false := by simp [h1]
    have e1' : (x.k == 2) = true := by simp [h1]
    have e2 : decide (x.m ≤ 16) = false := by simpa using h2
    rw [e1', if_pos rfl, e2, Bool.false_and]
    clear h1
    go_enter Try.func39, Try.ntmps39
    go_wp2_with (first
    | (with_reducible show wpList _ _ _ (⟨some 1, Op.box cmT _, _, _, _, none⟩ :: _) _ _
       refine wpList_boxA_of rfl _ rfl (cmA q n c x) rfl ?_
       intro w1 x1 l1 s1
       have X1 := Lib.hid x1
       have L1 := Lib.hid l1
       obtain ⟨c0, c1, c2, c3, c4, c10⟩ := boxCm x1
       have RG := Lib.hid (opRange x1)
       clear x1 l1 s1))
    go_ret
    exact ⟨by first | rfl | trivial | (simp; done) | (simp_all; done), L1.out⟩
  · have e1 : (x.k != 2) = true := by simp [h1]
    have e1' : (x.k == 2) = false := by simp [h1]
    rw [e1', if_neg (by decide)]
    clear h1
    go_enter Try.func39, Try.ntmps39
    go_wp2_with (first
    | (with_reducible show wpList _ _ _ (⟨some 1, Op.box cmT _, _, _, _, none⟩ :: _) _ _
       refine wpList_boxA_of rfl _ rfl (cmA q n c x) rfl ?_
       intro w1 x1 l1 s1
       have X1 := Lib.hid x1
       have L1 := Lib.hid l1
       obtain ⟨c0, c1, c2, c3, c4, c10⟩ := boxCm x1
       have RG := Lib.hid (opRange x1)
       clear x1 l1 s1))
    go_ret
    exact ⟨by first | rfl | trivial | (simp; done) | (simp_all; done), L1.out⟩
attribute [local irreducible] inB
set_option maxRecDepth 100000 in
set_option maxHeartbeats 4000000 in
theorem operationInForm_not {w : World} {q : Option Addr} {n c : Nat} {x : CmdOf} (h6 : x.k ≠ 6) :
    Calls Try.prog 40 #[.agg (cmA q n c x)] w fun e w' => e = .returned (.bool (resG x)) ∧ Below w.heap.size w w' := by
  have e1 : (x.k != 6) = true := by simp [h6]
  have e1' : (x.k == 6) = false := by simp [h6]
  unfold resG
  rw [e1', if_neg (by decide)]
  clear h6
  · skip
    go_enter Try.func40, Try.ntmps40
    go_wp2_with (first
    | (with_reducible show wpList _ _ _ (⟨some 1, Op.box cmT _, _, _, _, none⟩ :: _) _ _
       refine wpList_boxA_of rfl _ rfl (cmA q n c x) rfl ?_
       intro w1 x1 l1 s1
       have X1 := Lib.hid x1
       have L1 := Lib.hid l1
       obtain ⟨c0, c1, c2, c3, c4, c10⟩ := boxCm x1
       have RG := Lib.hid (opRange x1)
       clear x1 l1 s1)
    | (with_reducible show wpList _ _ _ (⟨_, Op.load roT _, _, _, _, none⟩ :: _) _ _
       refine wpList_cmop_load rfl _ rfl w.heap.size rfl x.o RG.out ?_)
    | (with_reducible show wpList _ _ _ (⟨_, Op.build roT _, _, _, _, none⟩ :: _) _ _
       refine wpList_build_any rfl roT _ #[] (.agg (ropA zeroOp)) rfl rfl (fun w => run_build w roT #[] _ (by kernel_rfl)) ?_)
    | (with_reducible show wpList _ _ _ (⟨_, Op.binOp .eql roT _ _ _, _, _, _, none⟩ :: _) _ _
       refine wpList_rop_eql rfl _ _ rfl x.o zeroOp rfl rfl ?_
       rw [eqOp_zero])
    | (with_reducible show wpList _ _ _ (⟨_, Op.alloc roT, _, _, _, _⟩ :: _) _ _
       refine wpList_boxA_new rowOp rfl rfl w1.heap.size rfl ?_
       intro w2 x2 l2 s2
       have S1 := Lib.hid L1.out.size
       have N1 := Lib.hid X1.out.lt
       have Y2 := Lib.hid (X1.out.keep (l2.block _ X1.out.lt))
       clear c0 c1 c2 c3 c4 c10 X1
       have X2 := Lib.hid x2
       have L2 := Lib.hid (L1.out.trans (l2.mono L1.out.size))
       clear x2 l2 s2 L1)
    | (with_reducible show wpList _ _ _ (⟨_, Op.store roT _ _, _, _, _, none⟩ :: _) _ _
       refine wpList_boxA_put rowOp rfl _ _ rfl rfl w1.heap.size (ropA x.o) _ (ropA_size _) (ropA_one _) rfl rfl rfl X2.out ?_
       intro w3 x3 k3 s3
       have L1 := Lib.hid (low_put L2.out S1.out k3)
       have X1 := Lib.hid (Y2.out.keep (k3.block _ Y2.out.lt (Nat.ne_of_lt N1.out)))
       obtain ⟨c0, c1, c2, c3, c4, c10⟩ := boxCm X1.out
       obtain ⟨d0, d1, d2, d3, d4, d5⟩ := boxRo x3
       clear x3 k3 s3 X2 L2)
    | (go_at_call 38
       refine (within_any _ _ _ _).mono ?_; rintro e w4 ⟨rfl, rfl⟩))
    go_ret
    exact ⟨by first | rfl | trivial | (simp; done) | (simp_all; done), L1.out⟩
set_option maxRecDepth 100000 in
set_option maxHeartbeats 4000000 in
theorem operationInForm_six {w : World} {q : Option Addr} {n c : Nat} {x : CmdOf} (h6 : x.k = 6) :
    Calls Try.prog 40 #[.agg (cmA q n c x)] w fun e w' => e = .returned (.bool (resG x)) ∧ Below w.heap.size w w' := by
  have e1 : (x.k != 6) = false := by simp [h6]
  have e1' : (x.k == 6) = true := by simp [h6]
  unfold resG
  rw [e1', if_pos rfl]
  unfold opG
  clear h6
  cases h0 : inB x.o.op 0 255
  · skip
    go_enter Try.func40, Try.ntmps40
    go_wp2_with (first
      | (with_reducible show wpList _ _ _ (⟨some 1, Op.box cmT _, _, _, _, none⟩ :: _) _ _
         refine wpList_boxA_of rfl _ rfl (cmA q n c x) rfl ?_
         intro w1 x1 l1 s1
         have X1 := Lib.hid x1
         have L1 := Lib.hid l1
         obtain ⟨c0, c1, c2, c3, c4, c10⟩ := boxCm x1
         have RG := Lib.hid (opRange x1)
         clear x1 l1 s1)
      | (with_reducible show wpList _ _ _ (⟨_, Op.load roT _, _, _, _, none⟩ :: _) _ _
         refine wpList_cmop_load rfl _ rfl w.heap.size rfl x.o RG.out ?_)
      | (with_reducible show wpList _ _ _ (⟨_, Op.build roT _, _, _, _, none⟩ :: _) _ _
         refine wpList_build_any rfl roT _ #[] (.agg (ropA zeroOp)) rfl rfl (fun w => run_build w roT #[] _ (by kernel_rfl)) ?_)
      | (with_reducible show wpList _ _ _ (⟨_, Op.binOp .eql roT _ _ _, _, _, _, none⟩ :: _) _ _
         refine wpList_rop_eql rfl _ _ rfl x.o zeroOp rfl rfl ?_
         rw [eqOp_zero])
      | (with_reducible show wpList _ _ _ (⟨_, Op.alloc roT, _, _, _, _⟩ :: _) _ _
         refine wpList_boxA_new rowOp rfl rfl w1.heap.size rfl ?_
         intro w2 x2 l2 s2
         have S1 := Lib.hid L1.out.size
         have N1 := Lib.hid X1.out.lt
         have Y2 := Lib.hid (X1.out.keep (l2.block _ X1.out.lt))
         clear c0 c1 c2 c3 c4 c10 X1
         have X2 := Lib.hid x2
         have L2 := Lib.hid (L1.out.trans (l2.mono L1.out.size))
         clear x2 l2 s2 L1)
      | (with_reducible show wpList _ _ _ (⟨_, Op.store roT _ _, _, _, _, none⟩ :: _) _ _
         refine wpList_boxA_put rowOp rfl _ _ rfl rfl w1.heap.size (ropA x.o) _ (ropA_size _) (ropA_one _) rfl rfl rfl X2.out ?_
         intro w3 x3 k3 s3
         have L1 := Lib.hid (low_put L2.out S1.out k3)
         have X1 := Lib.hid (Y2.out.keep (k3.block _ Y2.out.lt (Nat.ne_of_lt N1.out)))
         obtain ⟨c0, c1, c2, c3, c4, c10⟩ := boxCm X1.out
         obtain ⟨d0, d1, d2, d3, d4, d5⟩ := boxRo x3
         clear x3 k3 s3 X2 L2)
      | (go_at_call 38
         refine (within_any _ _ _ _).mono ?_; rintro e w4 ⟨rfl, rfl⟩))
    go_ret
    exact ⟨by first | rfl | trivial | (simp; done) | (simp_all; done), L1.out⟩
  · skip
    cases h1 : decide (0 ≤ x.o.key)
    · skip
      go_enter Try.func40, Try.ntmps40
      go_wp2_with (first
        | (with_reducible show wpList _ _ _ (⟨some 1, Op.box cmT _, _, _, _, none⟩ :: _) _ _
           refine wpList_boxA_of rfl _ rfl (cmA q n c x) rfl ?_
           intro w1 x1 l1 s1
           have X1 := Lib.hid x1
           have L1 := Lib.hid l1
           obtain ⟨c0, c1, c2, c3, c4, c10⟩ := boxCm x1
           have RG := Lib.hid (opRange x1)
           clear x1 l1 s1)
        | (with_reducible show wpList _ _ _ (⟨_, Op.load roT _, _, _, _, none⟩ :: _) _ _
           refine wpList_cmop_load rfl _ rfl w.heap.size rfl x.o RG.out ?_)
        | (with_reducible show wpList _ _ _ (⟨_, Op.build roT _, _, _, _, none⟩ :: _) _ _
           refine wpList_build_any rfl roT _ #[] (.agg (ropA zeroOp)) rfl rfl (fun w => run_build w roT #[] _ (by kernel_rfl)) ?_)
        | (with_reducible show wpList _ _ _ (⟨_, Op.binOp .eql roT _ _ _, _, _, _, none⟩ :: _) _ _
           refine wpList_rop_eql rfl _ _ rfl x.o zeroOp rfl rfl ?_
           rw [eqOp_zero])
        | (with_reducible show wpList _ _ _ (⟨_, Op.alloc roT, _, _, _, _⟩ :: _) _ _
           refine wpList_boxA_new rowOp rfl rfl w1.heap.size rfl ?_
           intro w2 x2 l2 s2
           have S1 := Lib.hid L1.out.size
           have N1 := Lib.hid X1.out.lt
           have Y2 := Lib.hid (X1.out.keep (l2.block _ X1.out.lt))
           clear c0 c1 c2 c3 c4 c10 X1
           have X2 := Lib.hid x2
           have L2 := Lib.hid (L1.out.trans (l2.mono L1.out.size))
           clear x2 l2 s2 L1)
        | (with_reducible show wpList _ _ _ (⟨_, Op.store roT _ _, _, _, _, none⟩ :: _) _ _
           refine wpList_boxA_put rowOp rfl _ _ rfl rfl w1.heap.size (ropA x.o) _ (ropA_size _) (ropA_one _) rfl rfl rfl X2.out ?_
           intro w3 x3 k3 s3
           have L1 := Lib.hid (low_put L2.out S1.out k3)
           have X1 := Lib.hid (Y2.out.keep (k3.block _ Y2.out.lt (Nat.ne_of_lt N1.out)))
           obtain ⟨c0, c1, c2, c3, c4, c10⟩ := boxCm X1.out
           obtain ⟨d0, d1, d2, d3, d4, d5⟩ := boxRo x3
           clear x3 k3 s3 X2 L2)
        | (go_at_call 38
           refine (within_any _ _ _ _).mono ?_; rintro e w4 ⟨rfl, rfl⟩))
      go_ret
      exact ⟨by first | rfl | trivial | (simp; done) | (simp_all; done), L1.out⟩
    · skip
      cases h2 : decide (0 ≤ x.o.new)
      · skip
        go_enter Try.func40, Try.ntmps40
        go_wp2_with (first
          | (with_reducible show wpList _ _ _ (⟨some 1, Op.box cmT _, _, _, _, none⟩ :: _) _ _
             refine wpList_boxA_of rfl _ rfl (cmA q n c x) rfl ?_
             intro w1 x1 l1 s1
             have X1 := Lib.hid x1
             have L1 := Lib.hid l1
             obtain ⟨c0, c1, c2, c3, c4, c10⟩ := boxCm x1
             have RG := Lib.hid (opRange x1)
             clear x1 l1 s1)
          | (with_reducible show wpList _ _ _ (⟨_, Op.load roT _, _, _, _, none⟩ :: _) _ _
             refine wpList_cmop_load rfl _ rfl w.heap.size rfl x.o RG.out ?_)
          | (with_reducible show wpList _ _ _ (⟨_, Op.build roT _, _, _, _, none⟩ :: _) _ _
             refine wpList_build_any rfl roT _ #[] (.agg (ropA zeroOp)) rfl rfl (fun w => run_build w roT #[] _ (by kernel_rfl)) ?_)
          | (with_reducible show wpList _ _ _ (⟨_, Op.binOp .eql roT _ _ _, _, _, _, none⟩ :: _) _ _
             refine wpList_rop_eql rfl _ _ rfl x.o zeroOp rfl rfl ?_
             rw [eqOp_zero])
          | (with_reducible show wpList _ _ _ (⟨_, Op.alloc roT, _, _, _, _⟩ :: _) _ _
             refine wpList_boxA_new rowOp rfl rfl w1.heap.size rfl ?_
             intro w2 x2 l2 s2
             have S1 := Lib.hid L1.out.size
             have N1 := Lib.hid X1.out.lt
             have Y2 := Lib.hid (X1.out.keep (l2.block _ X1.out.lt))
             clear c0 c1 c2 c3 c4 c10 X1
             have X2 := Lib.hid x2
             have L2 := Lib.hid (L1.out.trans (l2.mono L1.out.size))
             clear x2 l2 s2 L1)
          | (with_reducible show wpList _ _ _ (⟨_, Op.store roT _ _, _, _, _, none⟩ :: _) _ _
             refine wpList_boxA_put rowOp rfl _ _ rfl rfl w1.heap.size (ropA x.o) _ (ropA_size _) (ropA_one _) rfl rfl rfl X2.out ?_
             intro w3 x3 k3 s3
             have L1 := Lib.hid (low_put L2.out S1.out k3)
             have X1 := Lib.hid (Y2.out.keep (k3.block _ Y2.out.lt (Nat.ne_of_lt N1.out)))
             obtain ⟨c0, c1, c2, c3, c4, c10⟩ := boxCm X1.out
             obtain ⟨d0, d1, d2, d3, d4, d5⟩ := boxRo x3
             clear x3 k3 s3 X2 L2)
          | (go_at_call 38
             refine (within_any _ _ _ _).mono ?_; rintro e w4 ⟨rfl, rfl⟩))
        go_ret
        exact ⟨by first | rfl | trivial | (simp; done) | (simp_all; done), L1.out⟩
      · skip
        cases h3 : inB x.o.ty 0 255
        · skip
          go_enter Try.func40, Try.ntmps40
          go_wp2_with (first
            | (with_reducible show wpList _ _ _ (⟨some 1, Op.box cmT _, _, _, _, none⟩ :: _) _ _
               refine wpList_boxA_of rfl _ rfl (cmA q n c x) rfl ?_
               intro w1 x1 l1 s1
               have X1 := Lib.hid x1
               have L1 := Lib.hid l1
               obtain ⟨c0, c1, c2, c3, c4, c10⟩ := boxCm x1
               have RG := Lib.hid (opRange x1)
               clear x1 l1 s1)
            | (with_reducible show wpList _ _ _ (⟨_, Op.load roT _, _, _, _, none⟩ :: _) _ _
               refine wpList_cmop_load rfl _ rfl w.heap.size rfl x.o RG.out ?_)
            | (with_reducible show wpList _ _ _ (⟨_, Op.build roT _, _, _, _, none⟩ :: _) _ _
               refine wpList_build_any rfl roT _ #[] (.agg (ropA zeroOp)) rfl rfl (fun w => run_build w roT #[] _ (by kernel_rfl)) ?_)
            | (with_reducible show wpList _ _ _ (⟨_, Op.binOp .eql roT _ _ _, _, _, _, none⟩ :: _) _ _
               refine wpList_rop_eql rfl _ _ rfl x.o zeroOp rfl rfl ?_
               rw [eqOp_zero])
            | (with_reducible show wpList _ _ _ (⟨_, Op.alloc roT, _, _, _, _⟩ :: _) _ _
               refine wpList_boxA_new rowOp rfl rfl w1.heap.size rfl ?_
               intro w2 x2 l2 s2
               have S1 := Lib.hid L1.out.size
               have N1 := Lib.hid X1.out.lt
               have Y2 := Lib.hid (X1.out.keep (l2.block _ X1.out.lt))
               clear c0 c1 c2 c3 c4 c10 X1
               have X2 := Lib.hid x2
               have L2 := Lib.hid (L1.out.trans (l2.mono L1.out.size))
               clear x2 l2 s2 L1)
            | (with_reducible show wpList _ _ _ (⟨_, Op.store roT _ _, _, _, _, none⟩ :: _) _ _
               refine wpList_boxA_put rowOp rfl _ _ rfl rfl w1.heap.size (ropA x.o) _ (ropA_size _) (ropA_one _) rfl rfl rfl X2.out ?_
               intro w3 x3 k3 s3
               have L1 := Lib.hid (low_put L2.out S1.out k3)
               have X1 := Lib.hid (Y2.out.keep (k3.block _ Y2.out.lt (Nat.ne_of_lt N1.out)))
               obtain ⟨c0, c1, c2, c3, c4, c10⟩ := boxCm X1.out
               obtain ⟨d0, d1, d2, d3, d4, d5⟩ := boxRo x3
               clear x3 k3 s3 X2 L2)
            | (go_at_call 38
               refine (within_any _ _ _ _).mono ?_; rintro e w4 ⟨rfl, rfl⟩))
          go_ret
          exact ⟨by first | rfl | trivial | (simp; done) | (simp_all; done), L1.out⟩
        · skip
          go_enter Try.func40, Try.ntmps40
          go_wp2_with (first
            | (with_reducible show wpList _ _ _ (⟨some 1, Op.box cmT _, _, _, _, none⟩ :: _) _ _
               refine wpList_boxA_of rfl _ rfl (cmA q n c x) rfl ?_
               intro w1 x1 l1 s1
               have X1 := Lib.hid x1
               have L1 := Lib.hid l1
               obtain ⟨c0, c1, c2, c3, c4, c10⟩ := boxCm x1
               have RG := Lib.hid (opRange x1)
               clear x1 l1 s1)
            | (with_reducible show wpList _ _ _ (⟨_, Op.load roT _, _, _, _, none⟩ :: _) _ _
               refine wpList_cmop_load rfl _ rfl w.heap.size rfl x.o RG.out ?_)
            | (with_reducible show wpList _ _ _ (⟨_, Op.build roT _, _, _, _, none⟩ :: _) _ _
               refine wpList_build_any rfl roT _ #[] (.agg (ropA zeroOp)) rfl rfl (fun w => run_build w roT #[] _ (by kernel_rfl)) ?_)
            | (with_reducible show wpList _ _ _ (⟨_, Op.binOp .eql roT _ _ _, _, _, _, none⟩ :: _) _ _
               refine wpList_rop_eql rfl _ _ rfl x.o zeroOp rfl rfl ?_
               rw [eqOp_zero])
            | (with_reducible show wpList _ _ _ (⟨_, Op.alloc roT, _, _, _, _⟩ :: _) _ _
               refine wpList_boxA_new rowOp rfl rfl w1.heap.size rfl ?_
               intro w2 x2 l2 s2
               have S1 := Lib.hid L1.out.size
               have N1 := Lib.hid X1.out.lt
               have Y2 := Lib.hid (X1.out.keep (l2.block _ X1.out.lt))
               clear c0 c1 c2 c3 c4 c10 X1
               have X2 := Lib.hid x2
               have L2 := Lib.hid (L1.out.trans (l2.mono L1.out.size))
               clear x2 l2 s2 L1)
            | (with_reducible show wpList _ _ _ (⟨_, Op.store roT _ _, _, _, _, none⟩ :: _) _ _
               refine wpList_boxA_put rowOp rfl _ _ rfl rfl w1.heap.size (ropA x.o) _ (ropA_size _) (ropA_one _) rfl rfl rfl X2.out ?_
               intro w3 x3 k3 s3
               have L1 := Lib.hid (low_put L2.out S1.out k3)
               have X1 := Lib.hid (Y2.out.keep (k3.block _ Y2.out.lt (Nat.ne_of_lt N1.out)))
               obtain ⟨c0, c1, c2, c3, c4, c10⟩ := boxCm X1.out
               obtain ⟨d0, d1, d2, d3, d4, d5⟩ := boxRo x3
               clear x3 k3 s3 X2 L2)
            | (go_at_call 38
               refine (within_any _ _ _ _).mono ?_; rintro e w4 ⟨rfl, rfl⟩))
          go_ret
          exact ⟨by first | rfl | trivial | (simp; done) | (simp_all; done), L1.out⟩
end Go.Proofs.Ytkibeddfkenlkaa
