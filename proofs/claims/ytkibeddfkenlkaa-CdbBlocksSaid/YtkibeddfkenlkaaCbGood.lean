/- The contracts of the program's inForm, and of the document's Good. No condition. -/
import Derived.Test.YtkibeddfkenlkaaCbForm
namespace Go.Proofs.Ytkibeddfkenlkaa
open Go.ChangeShapes Go.WideShapes Go.ChangeAt Go.RowKit
set_option linter.unusedVariables false
set_option linter.unusedSimpArgs false
attribute [local go_sem] Oper.semAt_some
theorem good_bad {x : CmdOf} {n : Nat} (h : ¬ GoodC x n) : goodC x n = false := by
  cases e : goodC x n
  · rfl
  · exact absurd (good_iff.1 e) h
theorem inB_is {z a b : Int} : inB z a b = true ↔ a ≤ z ∧ z ≤ b := by unfold inB; simp
theorem inB_no {z a b : Int} : inB z a b = false ↔ ¬ (a ≤ z ∧ z ≤ b) := by rw [← inB_is]; simp
theorem good_res {x : CmdOf} {n : Nat} (h1 : 1 ≤ x.k ∧ x.k ≤ 7) (h2 : 0 ≤ x.u ∧ x.u ≤ 255) (h3 : 0 ≤ x.b ∧ x.b ≤ 65535) (h4 : 0 ≤ x.m ∧ x.m ≤ 65535) (h5 : dataG x n = true) : goodC x n = resG x := by
  unfold goodC
  rw [inB_is.2 h1, inB_is.2 h2, inB_is.2 h3, inB_is.2 h4, h5]; rfl
theorem res_not {x : CmdOf} (h : (x.k == 6) = false) : resG x = noOp x.o := by unfold resG; rw [h]; rfl
theorem res_six {x : CmdOf} (h : (x.k == 6) = true) : resG x = opG x.o := by unfold resG; rw [h]; rfl
theorem data_two {x : CmdOf} {n : Nat} (h : (x.k == 2) = true) (h1 : x.m ≤ 16) (h2 : (n : Int) = 128 * x.m) : dataG x n = true := by unfold dataG; rw [h]; simp [h1, h2]
theorem data_not {x : CmdOf} {n : Nat} (h : (x.k == 2) = false) (h1 : n = 0) : dataG x n = true := by unfold dataG; rw [h]; simp [h1]
theorem operationInForm_any {w : World} {q : Option Addr} {n c : Nat} {x : CmdOf} : Calls Try.prog 40 #[.agg (cmA q n c x)] w fun e w' => e = .returned (.bool (resG x)) ∧ Below w.heap.size w w' := by
  by_cases h : x.k = 6
  · exact operationInForm_six h
  · exact operationInForm_not h
attribute [local irreducible] inB dataG resG opG noOp goodC
set_option maxRecDepth 100000 in
set_option maxHeartbeats 4000000 in
theorem inForm_any {w : World} {q : Option Addr} {n c : Nat} {x : CmdOf} :
    Calls Try.prog 26 #[.agg (cmA q n c x)] w fun e w' => e = .returned (.bool (goodC x n)) ∧ Below w.heap.size w w' := by
  unfold goodC
  cases h0 : inB x.k 1 7
  · skip
    go_enter Try.func26, Try.ntmps26
    go_wp2_with (first
      | (with_reducible show wpList _ _ _ (⟨some 1, Op.box cmT _, _, _, _, none⟩ :: _) _ _
         refine wpList_boxA_of rfl _ rfl (cmA q n c x) rfl ?_
         intro w1 x1 l1 s1
         have X1 := Lib.hid x1
         have L1 := Lib.hid l1
         obtain ⟨c0, c1, c2, c3, c4, c10⟩ := boxCm x1
         have RG := Lib.hid (opRange x1)
         clear x1 l1 s1)
      | (with_reducible show wpList _ _ _ (⟨_, Op.load cmT _, _, _, _, _⟩ :: _) _ _
         refine wpList_boxA_loadw rowCm _ rfl rfl w.heap.size (cmA q n c x) rfl rfl X1.out ?_)
      | (go_at_call 38
         refine (within_any _ _ _ _).mono ?_; rintro e w4 ⟨rfl, rfl⟩)
      | (go_at_call 39
         refine (dataInForm_any (inB_is.1 h3)).mono ?_; rintro e w5 ⟨rfl, l5⟩
         replace X1 := Lib.hid (X1.out.keep (l5.block _ X1.out.lt))
         replace L1 := Lib.hid (L1.out.trans (l5.mono L1.out.size))
         clear l5)
      | (go_at_call 40
         refine operationInForm_any.mono ?_; rintro e w6 ⟨rfl, l6⟩
         replace L1 := Lib.hid (L1.out.trans (l6.mono L1.out.size))
         clear l6))
    go_ret
    exact ⟨by first | rfl | trivial | (simp; done) | (simp_all; done), L1.out⟩
  · skip
    cases h1 : inB x.u 0 255
    · skip
      go_enter Try.func26, Try.ntmps26
      go_wp2_with (first
        | (with_reducible show wpList _ _ _ (⟨some 1, Op.box cmT _, _, _, _, none⟩ :: _) _ _
           refine wpList_boxA_of rfl _ rfl (cmA q n c x) rfl ?_
           intro w1 x1 l1 s1
           have X1 := Lib.hid x1
           have L1 := Lib.hid l1
           obtain ⟨c0, c1, c2, c3, c4, c10⟩ := boxCm x1
           have RG := Lib.hid (opRange x1)
           clear x1 l1 s1)
        | (with_reducible show wpList _ _ _ (⟨_, Op.load cmT _, _, _, _, _⟩ :: _) _ _
           refine wpList_boxA_loadw rowCm _ rfl rfl w.heap.size (cmA q n c x) rfl rfl X1.out ?_)
        | (go_at_call 38
           refine (within_any _ _ _ _).mono ?_; rintro e w4 ⟨rfl, rfl⟩)
        | (go_at_call 39
           refine (dataInForm_any (inB_is.1 h3)).mono ?_; rintro e w5 ⟨rfl, l5⟩
           replace X1 := Lib.hid (X1.out.keep (l5.block _ X1.out.lt))
           replace L1 := Lib.hid (L1.out.trans (l5.mono L1.out.size))
           clear l5)
        | (go_at_call 40
           refine operationInForm_any.mono ?_; rintro e w6 ⟨rfl, l6⟩
           replace L1 := Lib.hid (L1.out.trans (l6.mono L1.out.size))
           clear l6))
      go_ret
      exact ⟨by first | rfl | trivial | (simp; done) | (simp_all; done), L1.out⟩
    · skip
      cases h2 : inB x.b 0 65535
      · skip
        go_enter Try.func26, Try.ntmps26
        go_wp2_with (first
          | (with_reducible show wpList _ _ _ (⟨some 1, Op.box cmT _, _, _, _, none⟩ :: _) _ _
             refine wpList_boxA_of rfl _ rfl (cmA q n c x) rfl ?_
             intro w1 x1 l1 s1
             have X1 := Lib.hid x1
             have L1 := Lib.hid l1
             obtain ⟨c0, c1, c2, c3, c4, c10⟩ := boxCm x1
             have RG := Lib.hid (opRange x1)
             clear x1 l1 s1)
          | (with_reducible show wpList _ _ _ (⟨_, Op.load cmT _, _, _, _, _⟩ :: _) _ _
             refine wpList_boxA_loadw rowCm _ rfl rfl w.heap.size (cmA q n c x) rfl rfl X1.out ?_)
          | (go_at_call 38
             refine (within_any _ _ _ _).mono ?_; rintro e w4 ⟨rfl, rfl⟩)
          | (go_at_call 39
             refine (dataInForm_any (inB_is.1 h3)).mono ?_; rintro e w5 ⟨rfl, l5⟩
             replace X1 := Lib.hid (X1.out.keep (l5.block _ X1.out.lt))
             replace L1 := Lib.hid (L1.out.trans (l5.mono L1.out.size))
             clear l5)
          | (go_at_call 40
             refine operationInForm_any.mono ?_; rintro e w6 ⟨rfl, l6⟩
             replace L1 := Lib.hid (L1.out.trans (l6.mono L1.out.size))
             clear l6))
        go_ret
        exact ⟨by first | rfl | trivial | (simp; done) | (simp_all; done), L1.out⟩
      · skip
        cases h3 : inB x.m 0 65535
        · skip
          go_enter Try.func26, Try.ntmps26
          go_wp2_with (first
            | (with_reducible show wpList _ _ _ (⟨some 1, Op.box cmT _, _, _, _, none⟩ :: _) _ _
               refine wpList_boxA_of rfl _ rfl (cmA q n c x) rfl ?_
               intro w1 x1 l1 s1
               have X1 := Lib.hid x1
               have L1 := Lib.hid l1
               obtain ⟨c0, c1, c2, c3, c4, c10⟩ := boxCm x1
               have RG := Lib.hid (opRange x1)
               clear x1 l1 s1)
            | (with_reducible show wpList _ _ _ (⟨_, Op.load cmT _, _, _, _, _⟩ :: _) _ _
               refine wpList_boxA_loadw rowCm _ rfl rfl w.heap.size (cmA q n c x) rfl rfl X1.out ?_)
            | (go_at_call 38
               refine (within_any _ _ _ _).mono ?_; rintro e w4 ⟨rfl, rfl⟩)
            | (go_at_call 39
               refine (dataInForm_any (inB_is.1 h3)).mono ?_; rintro e w5 ⟨rfl, l5⟩
               replace X1 := Lib.hid (X1.out.keep (l5.block _ X1.out.lt))
               replace L1 := Lib.hid (L1.out.trans (l5.mono L1.out.size))
               clear l5)
            | (go_at_call 40
               refine operationInForm_any.mono ?_; rintro e w6 ⟨rfl, l6⟩
               replace L1 := Lib.hid (L1.out.trans (l6.mono L1.out.size))
               clear l6))
          go_ret
          exact ⟨by first | rfl | trivial | (simp; done) | (simp_all; done), L1.out⟩
        · skip
          cases h4 : dataG x n
          · skip
            go_enter Try.func26, Try.ntmps26
            go_wp2_with (first
              | (with_reducible show wpList _ _ _ (⟨some 1, Op.box cmT _, _, _, _, none⟩ :: _) _ _
                 refine wpList_boxA_of rfl _ rfl (cmA q n c x) rfl ?_
                 intro w1 x1 l1 s1
                 have X1 := Lib.hid x1
                 have L1 := Lib.hid l1
                 obtain ⟨c0, c1, c2, c3, c4, c10⟩ := boxCm x1
                 have RG := Lib.hid (opRange x1)
                 clear x1 l1 s1)
              | (with_reducible show wpList _ _ _ (⟨_, Op.load cmT _, _, _, _, _⟩ :: _) _ _
                 refine wpList_boxA_loadw rowCm _ rfl rfl w.heap.size (cmA q n c x) rfl rfl X1.out ?_)
              | (go_at_call 38
                 refine (within_any _ _ _ _).mono ?_; rintro e w4 ⟨rfl, rfl⟩)
              | (go_at_call 39
                 refine (dataInForm_any (inB_is.1 h3)).mono ?_; rintro e w5 ⟨rfl, l5⟩
                 replace X1 := Lib.hid (X1.out.keep (l5.block _ X1.out.lt))
                 replace L1 := Lib.hid (L1.out.trans (l5.mono L1.out.size))
                 clear l5)
              | (go_at_call 40
                 refine operationInForm_any.mono ?_; rintro e w6 ⟨rfl, l6⟩
                 replace L1 := Lib.hid (L1.out.trans (l6.mono L1.out.size))
                 clear l6))
            go_ret
            exact ⟨by first | rfl | trivial | (simp; done) | (simp_all; done), L1.out⟩
          · skip
            go_enter Try.func26, Try.ntmps26
            go_wp2_with (first
              | (with_reducible show wpList _ _ _ (⟨some 1, Op.box cmT _, _, _, _, none⟩ :: _) _ _
                 refine wpList_boxA_of rfl _ rfl (cmA q n c x) rfl ?_
                 intro w1 x1 l1 s1
                 have X1 := Lib.hid x1
                 have L1 := Lib.hid l1
                 obtain ⟨c0, c1, c2, c3, c4, c10⟩ := boxCm x1
                 have RG := Lib.hid (opRange x1)
                 clear x1 l1 s1)
              | (with_reducible show wpList _ _ _ (⟨_, Op.load cmT _, _, _, _, _⟩ :: _) _ _
                 refine wpList_boxA_loadw rowCm _ rfl rfl w.heap.size (cmA q n c x) rfl rfl X1.out ?_)
              | (go_at_call 38
                 refine (within_any _ _ _ _).mono ?_; rintro e w4 ⟨rfl, rfl⟩)
              | (go_at_call 39
                 refine (dataInForm_any (inB_is.1 h3)).mono ?_; rintro e w5 ⟨rfl, l5⟩
                 replace X1 := Lib.hid (X1.out.keep (l5.block _ X1.out.lt))
                 replace L1 := Lib.hid (L1.out.trans (l5.mono L1.out.size))
                 clear l5)
              | (go_at_call 40
                 refine operationInForm_any.mono ?_; rintro e w6 ⟨rfl, l6⟩
                 replace L1 := Lib.hid (L1.out.trans (l6.mono L1.out.size))
                 clear l6))
            go_ret
            exact ⟨by first | rfl | trivial | (simp; done) | (simp_all; done), L1.out⟩
set_option maxRecDepth 100000 in
set_option maxHeartbeats 4000000 in
theorem refGood_any {w : World} {q : Option Addr} {n c : Nat} {x : CmdOf} : Calls Try.prog 29 #[.agg (cmA q n c x)] w fun e w' => e = .returned (.bool (goodC x n)) ∧ Below w.heap.size w w' := by
  cases h1 : decide (x.k < 1)
  · skip
    cases h2 : decide (7 < x.k)
    · skip
      cases h3 : decide (x.u < 0)
      · skip
        cases h4 : decide (255 < x.u)
        · skip
          cases h5 : decide (x.b < 0)
          · skip
            cases h6 : decide (65535 < x.b)
            · skip
              cases h7 : decide (x.m < 0)
              · skip
                cases h8 : decide (65535 < x.m)
                · skip
                  have g1 : 1 ≤ x.k ∧ x.k ≤ 7 := by simp only [decide_eq_false_iff_not] at h1 h2; omega
                  have g2 : 0 ≤ x.u ∧ x.u ≤ 255 := by simp only [decide_eq_false_iff_not] at h3 h4; omega
                  have g3 : 0 ≤ x.b ∧ x.b ≤ 65535 := by simp only [decide_eq_false_iff_not] at h5 h6; omega
                  have g4 : 0 ≤ x.m ∧ x.m ≤ 65535 := by simp only [decide_eq_false_iff_not] at h7 h8; omega
                  cases h10 : x.k == 2
                  · skip
                    cases h11 : decide ((0 : Int) < (n : Int))
                    · skip
                      have h11z : n = 0 := by simp only [decide_eq_false_iff_not] at h11; omega
                      have h11n : decide (0 < n) = false := by rw [h11z]; rfl
                      have HR := Lib.hid (good_res (n := n) g1 g2 g3 g4 (data_not h10 h11z))
                      cases h9 : x.k == 6
                      · skip
                        have h9n : (x.k != 6) = true := by simp only [beq_eq_false_iff_ne] at h9; simpa using h9
                        go_enter Try.func29, Try.ntmps29
                        go_wp2_with (first
                          | (with_reducible show wpList _ _ _ (⟨some 1, Op.box cmT _, _, _, _, none⟩ :: _) _ _
                             refine wpList_boxA_of rfl _ rfl (cmA q n c x) rfl ?_
                             intro w1 x1 l1 s1
                             have X1 := Lib.hid x1
                             have L1 := Lib.hid l1
                             obtain ⟨c0, c1, c2, c3, c4, c10⟩ := boxCm x1
                             have RG := Lib.hid (opRange x1)
                             clear x1 l1 s1)
                          | (with_reducible show wpList _ _ _ (⟨_, Op.load roT _, _, _, _, none⟩ :: _) _ _
                             refine wpList_cmop_load rfl _ rfl w.heap.size rfl x.o RG.out ?_)
                          | (with_reducible show wpList _ _ _ (⟨_, Op.build roT _, _, _, _, none⟩ :: _) _ _
                             refine wpList_build_any rfl roT _ #[] (.agg (ropA zeroOp)) rfl rfl (fun w => run_build w roT #[] _ (by kernel_rfl)) ?_)
                          | (with_reducible show wpList _ _ _ (⟨_, Op.binOp .eql roT _ _ _, _, _, _, none⟩ :: _) _ _
                             refine wpList_rop_eql rfl _ _ rfl x.o zeroOp rfl rfl ?_
                             rw [eqOp_zero])
                          | (with_reducible show wpList _ _ _ (⟨_, Op.alloc roT, _, _, _, _⟩ :: _) _ _
                             refine wpList_boxA_new rowOp rfl rfl w1.heap.size rfl ?_
                             intro w2 x2 l2 s2
                             have S1 := Lib.hid L1.out.size
                             have N1 := Lib.hid X1.out.lt
                             have Y2 := Lib.hid (X1.out.keep (l2.block _ X1.out.lt))
                             clear c0 c1 c2 c3 c4 c10 X1
                             have X2 := Lib.hid x2
                             have L2 := Lib.hid (L1.out.trans (l2.mono L1.out.size))
                             clear x2 l2 s2 L1)
                          | (with_reducible show wpList _ _ _ (⟨_, Op.store roT _ _, _, _, _, none⟩ :: _) _ _
                             refine wpList_boxA_put rowOp rfl _ _ rfl rfl w1.heap.size (ropA x.o) _ (ropA_size _) (ropA_one _) rfl rfl rfl X2.out ?_
                             intro w3 x3 k3 s3
                             have L1 := Lib.hid (low_put L2.out S1.out k3)
                             have X1 := Lib.hid (Y2.out.keep (k3.block _ Y2.out.lt (Nat.ne_of_lt N1.out)))
                             obtain ⟨c0, c1, c2, c3, c4, c10⟩ := boxCm X1.out
                             obtain ⟨d0, d1, d2, d3, d4, d5⟩ := boxRo x3
                             clear x3 k3 s3 X2 L2)
                          | (go_at_call 38
                             refine (within_any _ _ _ _).mono ?_; rintro e w4 ⟨rfl, rfl⟩))
                        go_ret
                        exact ⟨by rw [HR.out, res_not h9]; rfl, L1.out⟩
                      · skip
                        have h9n : (x.k != 6) = false := by simp only [beq_iff_eq] at h9; rw [h9]; rfl
                        cases k1 : x.o.who == 0
                        · skip
                          go_enter Try.func29, Try.ntmps29
                          go_wp2_with (first
                            | (with_reducible show wpList _ _ _ (⟨some 1, Op.box cmT _, _, _, _, none⟩ :: _) _ _
                               refine wpList_boxA_of rfl _ rfl (cmA q n c x) rfl ?_
                               intro w1 x1 l1 s1
                               have X1 := Lib.hid x1
                               have L1 := Lib.hid l1
                               obtain ⟨c0, c1, c2, c3, c4, c10⟩ := boxCm x1
                               have RG := Lib.hid (opRange x1)
                               clear x1 l1 s1)
                            | (with_reducible show wpList _ _ _ (⟨_, Op.load roT _, _, _, _, none⟩ :: _) _ _
                               refine wpList_cmop_load rfl _ rfl w.heap.size rfl x.o RG.out ?_)
                            | (with_reducible show wpList _ _ _ (⟨_, Op.build roT _, _, _, _, none⟩ :: _) _ _
                               refine wpList_build_any rfl roT _ #[] (.agg (ropA zeroOp)) rfl rfl (fun w => run_build w roT #[] _ (by kernel_rfl)) ?_)
                            | (with_reducible show wpList _ _ _ (⟨_, Op.binOp .eql roT _ _ _, _, _, _, none⟩ :: _) _ _
                               refine wpList_rop_eql rfl _ _ rfl x.o zeroOp rfl rfl ?_
                               rw [eqOp_zero])
                            | (with_reducible show wpList _ _ _ (⟨_, Op.alloc roT, _, _, _, _⟩ :: _) _ _
                               refine wpList_boxA_new rowOp rfl rfl w1.heap.size rfl ?_
                               intro w2 x2 l2 s2
                               have S1 := Lib.hid L1.out.size
                               have N1 := Lib.hid X1.out.lt
                               have Y2 := Lib.hid (X1.out.keep (l2.block _ X1.out.lt))
                               clear c0 c1 c2 c3 c4 c10 X1
                               have X2 := Lib.hid x2
                               have L2 := Lib.hid (L1.out.trans (l2.mono L1.out.size))
                               clear x2 l2 s2 L1)
                            | (with_reducible show wpList _ _ _ (⟨_, Op.store roT _ _, _, _, _, none⟩ :: _) _ _
                               refine wpList_boxA_put rowOp rfl _ _ rfl rfl w1.heap.size (ropA x.o) _ (ropA_size _) (ropA_one _) rfl rfl rfl X2.out ?_
                               intro w3 x3 k3 s3
                               have L1 := Lib.hid (low_put L2.out S1.out k3)
                               have X1 := Lib.hid (Y2.out.keep (k3.block _ Y2.out.lt (Nat.ne_of_lt N1.out)))
                               obtain ⟨c0, c1, c2, c3, c4, c10⟩ := boxCm X1.out
                               obtain ⟨d0, d1, d2, d3, d4, d5⟩ := boxRo x3
                               clear x3 k3 s3 X2 L2)
                            | (go_at_call 38
                               refine (within_any _ _ _ _).mono ?_; rintro e w4 ⟨rfl, rfl⟩))
                          go_ret
                          exact ⟨by rw [HR.out, res_six h9]; unfold opG inB; rw [k1]; simp, L1.out⟩
                        · skip
                          cases k2 : decide (0 ≤ x.o.op)
                          · skip
                            go_enter Try.func29, Try.ntmps29
                            go_wp2_with (first
                              | (with_reducible show wpList _ _ _ (⟨some 1, Op.box cmT _, _, _, _, none⟩ :: _) _ _
                                 refine wpList_boxA_of rfl _ rfl (cmA q n c x) rfl ?_
                                 intro w1 x1 l1 s1
                                 have X1 := Lib.hid x1
                                 have L1 := Lib.hid l1
                                 obtain ⟨c0, c1, c2, c3, c4, c10⟩ := boxCm x1
                                 have RG := Lib.hid (opRange x1)
                                 clear x1 l1 s1)
                              | (with_reducible show wpList _ _ _ (⟨_, Op.load roT _, _, _, _, none⟩ :: _) _ _
                                 refine wpList_cmop_load rfl _ rfl w.heap.size rfl x.o RG.out ?_)
                              | (with_reducible show wpList _ _ _ (⟨_, Op.build roT _, _, _, _, none⟩ :: _) _ _
                                 refine wpList_build_any rfl roT _ #[] (.agg (ropA zeroOp)) rfl rfl (fun w => run_build w roT #[] _ (by kernel_rfl)) ?_)
                              | (with_reducible show wpList _ _ _ (⟨_, Op.binOp .eql roT _ _ _, _, _, _, none⟩ :: _) _ _
                                 refine wpList_rop_eql rfl _ _ rfl x.o zeroOp rfl rfl ?_
                                 rw [eqOp_zero])
                              | (with_reducible show wpList _ _ _ (⟨_, Op.alloc roT, _, _, _, _⟩ :: _) _ _
                                 refine wpList_boxA_new rowOp rfl rfl w1.heap.size rfl ?_
                                 intro w2 x2 l2 s2
                                 have S1 := Lib.hid L1.out.size
                                 have N1 := Lib.hid X1.out.lt
                                 have Y2 := Lib.hid (X1.out.keep (l2.block _ X1.out.lt))
                                 clear c0 c1 c2 c3 c4 c10 X1
                                 have X2 := Lib.hid x2
                                 have L2 := Lib.hid (L1.out.trans (l2.mono L1.out.size))
                                 clear x2 l2 s2 L1)
                              | (with_reducible show wpList _ _ _ (⟨_, Op.store roT _ _, _, _, _, none⟩ :: _) _ _
                                 refine wpList_boxA_put rowOp rfl _ _ rfl rfl w1.heap.size (ropA x.o) _ (ropA_size _) (ropA_one _) rfl rfl rfl X2.out ?_
                                 intro w3 x3 k3 s3
                                 have L1 := Lib.hid (low_put L2.out S1.out k3)
                                 have X1 := Lib.hid (Y2.out.keep (k3.block _ Y2.out.lt (Nat.ne_of_lt N1.out)))
                                 obtain ⟨c0, c1, c2, c3, c4, c10⟩ := boxCm X1.out
                                 obtain ⟨d0, d1, d2, d3, d4, d5⟩ := boxRo x3
                                 clear x3 k3 s3 X2 L2)
                              | (go_at_call 38
                                 refine (within_any _ _ _ _).mono ?_; rintro e w4 ⟨rfl, rfl⟩))
                            go_ret
                            exact ⟨by rw [HR.out, res_six h9]; unfold opG inB; rw [k2]; simp, L1.out⟩
                          · skip
                            cases k3 : decide (x.o.op ≤ 255)
                            · skip
                              go_enter Try.func29, Try.ntmps29
                              go_wp2_with (first
                                | (with_reducible show wpList _ _ _ (⟨some 1, Op.box cmT _, _, _, _, none⟩ :: _) _ _
                                   refine wpList_boxA_of rfl _ rfl (cmA q n c x) rfl ?_
                                   intro w1 x1 l1 s1
                                   have X1 := Lib.hid x1
                                   have L1 := Lib.hid l1
                                   obtain ⟨c0, c1, c2, c3, c4, c10⟩ := boxCm x1
                                   have RG := Lib.hid (opRange x1)
                                   clear x1 l1 s1)
                                | (with_reducible show wpList _ _ _ (⟨_, Op.load roT _, _, _, _, none⟩ :: _) _ _
                                   refine wpList_cmop_load rfl _ rfl w.heap.size rfl x.o RG.out ?_)
                                | (with_reducible show wpList _ _ _ (⟨_, Op.build roT _, _, _, _, none⟩ :: _) _ _
                                   refine wpList_build_any rfl roT _ #[] (.agg (ropA zeroOp)) rfl rfl (fun w => run_build w roT #[] _ (by kernel_rfl)) ?_)
                                | (with_reducible show wpList _ _ _ (⟨_, Op.binOp .eql roT _ _ _, _, _, _, none⟩ :: _) _ _
                                   refine wpList_rop_eql rfl _ _ rfl x.o zeroOp rfl rfl ?_
                                   rw [eqOp_zero])
                                | (with_reducible show wpList _ _ _ (⟨_, Op.alloc roT, _, _, _, _⟩ :: _) _ _
                                   refine wpList_boxA_new rowOp rfl rfl w1.heap.size rfl ?_
                                   intro w2 x2 l2 s2
                                   have S1 := Lib.hid L1.out.size
                                   have N1 := Lib.hid X1.out.lt
                                   have Y2 := Lib.hid (X1.out.keep (l2.block _ X1.out.lt))
                                   clear c0 c1 c2 c3 c4 c10 X1
                                   have X2 := Lib.hid x2
                                   have L2 := Lib.hid (L1.out.trans (l2.mono L1.out.size))
                                   clear x2 l2 s2 L1)
                                | (with_reducible show wpList _ _ _ (⟨_, Op.store roT _ _, _, _, _, none⟩ :: _) _ _
                                   refine wpList_boxA_put rowOp rfl _ _ rfl rfl w1.heap.size (ropA x.o) _ (ropA_size _) (ropA_one _) rfl rfl rfl X2.out ?_
                                   intro w3 x3 k3 s3
                                   have L1 := Lib.hid (low_put L2.out S1.out k3)
                                   have X1 := Lib.hid (Y2.out.keep (k3.block _ Y2.out.lt (Nat.ne_of_lt N1.out)))
                                   obtain ⟨c0, c1, c2, c3, c4, c10⟩ := boxCm X1.out
                                   obtain ⟨d0, d1, d2, d3, d4, d5⟩ := boxRo x3
                                   clear x3 k3 s3 X2 L2)
                                | (go_at_call 38
                                   refine (within_any _ _ _ _).mono ?_; rintro e w4 ⟨rfl, rfl⟩))
                              go_ret
                              exact ⟨by rw [HR.out, res_six h9]; unfold opG inB; rw [k3]; simp, L1.out⟩
                            · skip
                              cases k4 : decide (0 ≤ x.o.key)
                              · skip
                                go_enter Try.func29, Try.ntmps29
                                go_wp2_with (first
                                  | (with_reducible show wpList _ _ _ (⟨some 1, Op.box cmT _, _, _, _, none⟩ :: _) _ _
                                     refine wpList_boxA_of rfl _ rfl (cmA q n c x) rfl ?_
                                     intro w1 x1 l1 s1
                                     have X1 := Lib.hid x1
                                     have L1 := Lib.hid l1
                                     obtain ⟨c0, c1, c2, c3, c4, c10⟩ := boxCm x1
                                     have RG := Lib.hid (opRange x1)
                                     clear x1 l1 s1)
                                  | (with_reducible show wpList _ _ _ (⟨_, Op.load roT _, _, _, _, none⟩ :: _) _ _
                                     refine wpList_cmop_load rfl _ rfl w.heap.size rfl x.o RG.out ?_)
                                  | (with_reducible show wpList _ _ _ (⟨_, Op.build roT _, _, _, _, none⟩ :: _) _ _
                                     refine wpList_build_any rfl roT _ #[] (.agg (ropA zeroOp)) rfl rfl (fun w => run_build w roT #[] _ (by kernel_rfl)) ?_)
                                  | (with_reducible show wpList _ _ _ (⟨_, Op.binOp .eql roT _ _ _, _, _, _, none⟩ :: _) _ _
                                     refine wpList_rop_eql rfl _ _ rfl x.o zeroOp rfl rfl ?_
                                     rw [eqOp_zero])
                                  | (with_reducible show wpList _ _ _ (⟨_, Op.alloc roT, _, _, _, _⟩ :: _) _ _
                                     refine wpList_boxA_new rowOp rfl rfl w1.heap.size rfl ?_
                                     intro w2 x2 l2 s2
                                     have S1 := Lib.hid L1.out.size
                                     have N1 := Lib.hid X1.out.lt
                                     have Y2 := Lib.hid (X1.out.keep (l2.block _ X1.out.lt))
                                     clear c0 c1 c2 c3 c4 c10 X1
                                     have X2 := Lib.hid x2
                                     have L2 := Lib.hid (L1.out.trans (l2.mono L1.out.size))
                                     clear x2 l2 s2 L1)
                                  | (with_reducible show wpList _ _ _ (⟨_, Op.store roT _ _, _, _, _, none⟩ :: _) _ _
                                     refine wpList_boxA_put rowOp rfl _ _ rfl rfl w1.heap.size (ropA x.o) _ (ropA_size _) (ropA_one _) rfl rfl rfl X2.out ?_
                                     intro w3 x3 k3 s3
                                     have L1 := Lib.hid (low_put L2.out S1.out k3)
                                     have X1 := Lib.hid (Y2.out.keep (k3.block _ Y2.out.lt (Nat.ne_of_lt N1.out)))
                                     obtain ⟨c0, c1, c2, c3, c4, c10⟩ := boxCm X1.out
                                     obtain ⟨d0, d1, d2, d3, d4, d5⟩ := boxRo x3
                                     clear x3 k3 s3 X2 L2)
                                  | (go_at_call 38
                                     refine (within_any _ _ _ _).mono ?_; rintro e w4 ⟨rfl, rfl⟩))
                                go_ret
                                exact ⟨by rw [HR.out, res_six h9]; unfold opG inB; rw [k4]; simp, L1.out⟩
                              · skip
                                cases k5 : decide (0 ≤ x.o.new)
                                · skip
                                  go_enter Try.func29, Try.ntmps29
                                  go_wp2_with (first
                                    | (with_reducible show wpList _ _ _ (⟨some 1, Op.box cmT _, _, _, _, none⟩ :: _) _ _
                                       refine wpList_boxA_of rfl _ rfl (cmA q n c x) rfl ?_
                                       intro w1 x1 l1 s1
                                       have X1 := Lib.hid x1
                                       have L1 := Lib.hid l1
                                       obtain ⟨c0, c1, c2, c3, c4, c10⟩ := boxCm x1
                                       have RG := Lib.hid (opRange x1)
                                       clear x1 l1 s1)
                                    | (with_reducible show wpList _ _ _ (⟨_, Op.load roT _, _, _, _, none⟩ :: _) _ _
                                       refine wpList_cmop_load rfl _ rfl w.heap.size rfl x.o RG.out ?_)
                                    | (with_reducible show wpList _ _ _ (⟨_, Op.build roT _, _, _, _, none⟩ :: _) _ _
                                       refine wpList_build_any rfl roT _ #[] (.agg (ropA zeroOp)) rfl rfl (fun w => run_build w roT #[] _ (by kernel_rfl)) ?_)
                                    | (with_reducible show wpList _ _ _ (⟨_, Op.binOp .eql roT _ _ _, _, _, _, none⟩ :: _) _ _
                                       refine wpList_rop_eql rfl _ _ rfl x.o zeroOp rfl rfl ?_
                                       rw [eqOp_zero])
                                    | (with_reducible show wpList _ _ _ (⟨_, Op.alloc roT, _, _, _, _⟩ :: _) _ _
                                       refine wpList_boxA_new rowOp rfl rfl w1.heap.size rfl ?_
                                       intro w2 x2 l2 s2
                                       have S1 := Lib.hid L1.out.size
                                       have N1 := Lib.hid X1.out.lt
                                       have Y2 := Lib.hid (X1.out.keep (l2.block _ X1.out.lt))
                                       clear c0 c1 c2 c3 c4 c10 X1
                                       have X2 := Lib.hid x2
                                       have L2 := Lib.hid (L1.out.trans (l2.mono L1.out.size))
                                       clear x2 l2 s2 L1)
                                    | (with_reducible show wpList _ _ _ (⟨_, Op.store roT _ _, _, _, _, none⟩ :: _) _ _
                                       refine wpList_boxA_put rowOp rfl _ _ rfl rfl w1.heap.size (ropA x.o) _ (ropA_size _) (ropA_one _) rfl rfl rfl X2.out ?_
                                       intro w3 x3 k3 s3
                                       have L1 := Lib.hid (low_put L2.out S1.out k3)
                                       have X1 := Lib.hid (Y2.out.keep (k3.block _ Y2.out.lt (Nat.ne_of_lt N1.out)))
                                       obtain ⟨c0, c1, c2, c3, c4, c10⟩ := boxCm X1.out
                                       obtain ⟨d0, d1, d2, d3, d4, d5⟩ := boxRo x3
                                       clear x3 k3 s3 X2 L2)
                                    | (go_at_call 38
                                       refine (within_any _ _ _ _).mono ?_; rintro e w4 ⟨rfl, rfl⟩))
                                  go_ret
                                  exact ⟨by rw [HR.out, res_six h9]; unfold opG inB; rw [k5]; simp, L1.out⟩
                                · skip
                                  cases k6 : decide (0 ≤ x.o.ty)
                                  · skip
                                    go_enter Try.func29, Try.ntmps29
                                    go_wp2_with (first
                                      | (with_reducible show wpList _ _ _ (⟨some 1, Op.box cmT _, _, _, _, none⟩ :: _) _ _
                                         refine wpList_boxA_of rfl _ rfl (cmA q n c x) rfl ?_
                                         intro w1 x1 l1 s1
                                         have X1 := Lib.hid x1
                                         have L1 := Lib.hid l1
                                         obtain ⟨c0, c1, c2, c3, c4, c10⟩ := boxCm x1
                                         have RG := Lib.hid (opRange x1)
                                         clear x1 l1 s1)
                                      | (with_reducible show wpList _ _ _ (⟨_, Op.load roT _, _, _, _, none⟩ :: _) _ _
                                         refine wpList_cmop_load rfl _ rfl w.heap.size rfl x.o RG.out ?_)
                                      | (with_reducible show wpList _ _ _ (⟨_, Op.build roT _, _, _, _, none⟩ :: _) _ _
                                         refine wpList_build_any rfl roT _ #[] (.agg (ropA zeroOp)) rfl rfl (fun w => run_build w roT #[] _ (by kernel_rfl)) ?_)
                                      | (with_reducible show wpList _ _ _ (⟨_, Op.binOp .eql roT _ _ _, _, _, _, none⟩ :: _) _ _
                                         refine wpList_rop_eql rfl _ _ rfl x.o zeroOp rfl rfl ?_
                                         rw [eqOp_zero])
                                      | (with_reducible show wpList _ _ _ (⟨_, Op.alloc roT, _, _, _, _⟩ :: _) _ _
                                         refine wpList_boxA_new rowOp rfl rfl w1.heap.size rfl ?_
                                         intro w2 x2 l2 s2
                                         have S1 := Lib.hid L1.out.size
                                         have N1 := Lib.hid X1.out.lt
                                         have Y2 := Lib.hid (X1.out.keep (l2.block _ X1.out.lt))
                                         clear c0 c1 c2 c3 c4 c10 X1
                                         have X2 := Lib.hid x2
                                         have L2 := Lib.hid (L1.out.trans (l2.mono L1.out.size))
                                         clear x2 l2 s2 L1)
                                      | (with_reducible show wpList _ _ _ (⟨_, Op.store roT _ _, _, _, _, none⟩ :: _) _ _
                                         refine wpList_boxA_put rowOp rfl _ _ rfl rfl w1.heap.size (ropA x.o) _ (ropA_size _) (ropA_one _) rfl rfl rfl X2.out ?_
                                         intro w3 x3 k3 s3
                                         have L1 := Lib.hid (low_put L2.out S1.out k3)
                                         have X1 := Lib.hid (Y2.out.keep (k3.block _ Y2.out.lt (Nat.ne_of_lt N1.out)))
                                         obtain ⟨c0, c1, c2, c3, c4, c10⟩ := boxCm X1.out
                                         obtain ⟨d0, d1, d2, d3, d4, d5⟩ := boxRo x3
                                         clear x3 k3 s3 X2 L2)
                                      | (go_at_call 38
                                         refine (within_any _ _ _ _).mono ?_; rintro e w4 ⟨rfl, rfl⟩))
                                    go_ret
                                    exact ⟨by rw [HR.out, res_six h9]; unfold opG inB; rw [k6]; simp, L1.out⟩
                                  · skip
                                    cases k7 : decide (x.o.ty ≤ 255)
                                    · skip
                                      go_enter Try.func29, Try.ntmps29
                                      go_wp2_with (first
                                        | (with_reducible show wpList _ _ _ (⟨some 1, Op.box cmT _, _, _, _, none⟩ :: _) _ _
                                           refine wpList_boxA_of rfl _ rfl (cmA q n c x) rfl ?_
                                           intro w1 x1 l1 s1
                                           have X1 := Lib.hid x1
                                           have L1 := Lib.hid l1
                                           obtain ⟨c0, c1, c2, c3, c4, c10⟩ := boxCm x1
                                           have RG := Lib.hid (opRange x1)
                                           clear x1 l1 s1)
                                        | (with_reducible show wpList _ _ _ (⟨_, Op.load roT _, _, _, _, none⟩ :: _) _ _
                                           refine wpList_cmop_load rfl _ rfl w.heap.size rfl x.o RG.out ?_)
                                        | (with_reducible show wpList _ _ _ (⟨_, Op.build roT _, _, _, _, none⟩ :: _) _ _
                                           refine wpList_build_any rfl roT _ #[] (.agg (ropA zeroOp)) rfl rfl (fun w => run_build w roT #[] _ (by kernel_rfl)) ?_)
                                        | (with_reducible show wpList _ _ _ (⟨_, Op.binOp .eql roT _ _ _, _, _, _, none⟩ :: _) _ _
                                           refine wpList_rop_eql rfl _ _ rfl x.o zeroOp rfl rfl ?_
                                           rw [eqOp_zero])
                                        | (with_reducible show wpList _ _ _ (⟨_, Op.alloc roT, _, _, _, _⟩ :: _) _ _
                                           refine wpList_boxA_new rowOp rfl rfl w1.heap.size rfl ?_
                                           intro w2 x2 l2 s2
                                           have S1 := Lib.hid L1.out.size
                                           have N1 := Lib.hid X1.out.lt
                                           have Y2 := Lib.hid (X1.out.keep (l2.block _ X1.out.lt))
                                           clear c0 c1 c2 c3 c4 c10 X1
                                           have X2 := Lib.hid x2
                                           have L2 := Lib.hid (L1.out.trans (l2.mono L1.out.size))
                                           clear x2 l2 s2 L1)
                                        | (with_reducible show wpList _ _ _ (⟨_, Op.store roT _ _, _, _, _, none⟩ :: _) _ _
                                           refine wpList_boxA_put rowOp rfl _ _ rfl rfl w1.heap.size (ropA x.o) _ (ropA_size _) (ropA_one _) rfl rfl rfl X2.out ?_
                                           intro w3 x3 k3 s3
                                           have L1 := Lib.hid (low_put L2.out S1.out k3)
                                           have X1 := Lib.hid (Y2.out.keep (k3.block _ Y2.out.lt (Nat.ne_of_lt N1.out)))
                                           obtain ⟨c0, c1, c2, c3, c4, c10⟩ := boxCm X1.out
                                           obtain ⟨d0, d1, d2, d3, d4, d5⟩ := boxRo x3
                                           clear x3 k3 s3 X2 L2)
                                        | (go_at_call 38
                                           refine (within_any _ _ _ _).mono ?_; rintro e w4 ⟨rfl, rfl⟩))
                                      go_ret
                                      exact ⟨by rw [HR.out, res_six h9]; unfold opG inB; rw [k7]; simp, L1.out⟩
                                    · skip
                                      go_enter Try.func29, Try.ntmps29
                                      go_wp2_with (first
                                        | (with_reducible show wpList _ _ _ (⟨some 1, Op.box cmT _, _, _, _, none⟩ :: _) _ _
                                           refine wpList_boxA_of rfl _ rfl (cmA q n c x) rfl ?_
                                           intro w1 x1 l1 s1
                                           have X1 := Lib.hid x1
                                           have L1 := Lib.hid l1
                                           obtain ⟨c0, c1, c2, c3, c4, c10⟩ := boxCm x1
                                           have RG := Lib.hid (opRange x1)
                                           clear x1 l1 s1)
                                        | (with_reducible show wpList _ _ _ (⟨_, Op.load roT _, _, _, _, none⟩ :: _) _ _
                                           refine wpList_cmop_load rfl _ rfl w.heap.size rfl x.o RG.out ?_)
                                        | (with_reducible show wpList _ _ _ (⟨_, Op.build roT _, _, _, _, none⟩ :: _) _ _
                                           refine wpList_build_any rfl roT _ #[] (.agg (ropA zeroOp)) rfl rfl (fun w => run_build w roT #[] _ (by kernel_rfl)) ?_)
                                        | (with_reducible show wpList _ _ _ (⟨_, Op.binOp .eql roT _ _ _, _, _, _, none⟩ :: _) _ _
                                           refine wpList_rop_eql rfl _ _ rfl x.o zeroOp rfl rfl ?_
                                           rw [eqOp_zero])
                                        | (with_reducible show wpList _ _ _ (⟨_, Op.alloc roT, _, _, _, _⟩ :: _) _ _
                                           refine wpList_boxA_new rowOp rfl rfl w1.heap.size rfl ?_
                                           intro w2 x2 l2 s2
                                           have S1 := Lib.hid L1.out.size
                                           have N1 := Lib.hid X1.out.lt
                                           have Y2 := Lib.hid (X1.out.keep (l2.block _ X1.out.lt))
                                           clear c0 c1 c2 c3 c4 c10 X1
                                           have X2 := Lib.hid x2
                                           have L2 := Lib.hid (L1.out.trans (l2.mono L1.out.size))
                                           clear x2 l2 s2 L1)
                                        | (with_reducible show wpList _ _ _ (⟨_, Op.store roT _ _, _, _, _, none⟩ :: _) _ _
                                           refine wpList_boxA_put rowOp rfl _ _ rfl rfl w1.heap.size (ropA x.o) _ (ropA_size _) (ropA_one _) rfl rfl rfl X2.out ?_
                                           intro w3 x3 k3 s3
                                           have L1 := Lib.hid (low_put L2.out S1.out k3)
                                           have X1 := Lib.hid (Y2.out.keep (k3.block _ Y2.out.lt (Nat.ne_of_lt N1.out)))
                                           obtain ⟨c0, c1, c2, c3, c4, c10⟩ := boxCm X1.out
                                           obtain ⟨d0, d1, d2, d3, d4, d5⟩ := boxRo x3
                                           clear x3 k3 s3 X2 L2)
                                        | (go_at_call 38
                                           refine (within_any _ _ _ _).mono ?_; rintro e w4 ⟨rfl, rfl⟩))
                                      go_ret
                                      exact ⟨by rw [HR.out, res_six h9]; unfold opG inB; rw [k1, k2, k3, k4, k5, k6, k7]; rfl, L1.out⟩
                    · skip
                      have h11n : 0 < n := by have a := of_decide_eq_true h11; omega
                      have h11d : decide (0 < n) = true := by simp [h11n]
                      go_enter Try.func29, Try.ntmps29
                      go_wp2_with (first
                        | (with_reducible show wpList _ _ _ (⟨some 1, Op.box cmT _, _, _, _, none⟩ :: _) _ _
                           refine wpList_boxA_of rfl _ rfl (cmA q n c x) rfl ?_
                           intro w1 x1 l1 s1
                           have X1 := Lib.hid x1
                           have L1 := Lib.hid l1
                           obtain ⟨c0, c1, c2, c3, c4, c10⟩ := boxCm x1
                           have RG := Lib.hid (opRange x1)
                           clear x1 l1 s1)
                        | (with_reducible show wpList _ _ _ (⟨_, Op.load roT _, _, _, _, none⟩ :: _) _ _
                           refine wpList_cmop_load rfl _ rfl w.heap.size rfl x.o RG.out ?_)
                        | (with_reducible show wpList _ _ _ (⟨_, Op.build roT _, _, _, _, none⟩ :: _) _ _
                           refine wpList_build_any rfl roT _ #[] (.agg (ropA zeroOp)) rfl rfl (fun w => run_build w roT #[] _ (by kernel_rfl)) ?_)
                        | (with_reducible show wpList _ _ _ (⟨_, Op.binOp .eql roT _ _ _, _, _, _, none⟩ :: _) _ _
                           refine wpList_rop_eql rfl _ _ rfl x.o zeroOp rfl rfl ?_
                           rw [eqOp_zero])
                        | (with_reducible show wpList _ _ _ (⟨_, Op.alloc roT, _, _, _, _⟩ :: _) _ _
                           refine wpList_boxA_new rowOp rfl rfl w1.heap.size rfl ?_
                           intro w2 x2 l2 s2
                           have S1 := Lib.hid L1.out.size
                           have N1 := Lib.hid X1.out.lt
                           have Y2 := Lib.hid (X1.out.keep (l2.block _ X1.out.lt))
                           clear c0 c1 c2 c3 c4 c10 X1
                           have X2 := Lib.hid x2
                           have L2 := Lib.hid (L1.out.trans (l2.mono L1.out.size))
                           clear x2 l2 s2 L1)
                        | (with_reducible show wpList _ _ _ (⟨_, Op.store roT _ _, _, _, _, none⟩ :: _) _ _
                           refine wpList_boxA_put rowOp rfl _ _ rfl rfl w1.heap.size (ropA x.o) _ (ropA_size _) (ropA_one _) rfl rfl rfl X2.out ?_
                           intro w3 x3 k3 s3
                           have L1 := Lib.hid (low_put L2.out S1.out k3)
                           have X1 := Lib.hid (Y2.out.keep (k3.block _ Y2.out.lt (Nat.ne_of_lt N1.out)))
                           obtain ⟨c0, c1, c2, c3, c4, c10⟩ := boxCm X1.out
                           obtain ⟨d0, d1, d2, d3, d4, d5⟩ := boxRo x3
                           clear x3 k3 s3 X2 L2)
                        | (go_at_call 38
                           refine (within_any _ _ _ _).mono ?_; rintro e w4 ⟨rfl, rfl⟩))
                      go_ret
                      exact ⟨by rw [good_bad (fun g => by have a := of_decide_eq_true h11; have b := g.data.2 (by simpa using h10); omega)]; rfl, L1.out⟩
                  · skip
                    have e3 : IntKind.i64.wrap (128 * x.m) = 128 * x.m := IntWalk.i64_in _ (by omega)
                    cases h11 : decide (16 < x.m)
                    · skip
                      cases h12 : (n : Int) != 128 * x.m
                      · skip
                        have HR := Lib.hid (good_res (n := n) g1 g2 g3 g4 (data_two h10 (by simp only [decide_eq_false_iff_not] at h11; omega) (by have := h12; simp only [bne_eq_false_iff_eq] at this; exact this)))
                        have h9 : (x.k == 6) = false := by simp only [beq_iff_eq] at h10; rw [h10]; rfl
                        have h9n : (x.k != 6) = true := by simp only [beq_iff_eq] at h10; rw [h10]; rfl
                        go_enter Try.func29, Try.ntmps29
                        go_wp2_with (first
                          | (with_reducible show wpList _ _ _ (⟨some 1, Op.box cmT _, _, _, _, none⟩ :: _) _ _
                             refine wpList_boxA_of rfl _ rfl (cmA q n c x) rfl ?_
                             intro w1 x1 l1 s1
                             have X1 := Lib.hid x1
                             have L1 := Lib.hid l1
                             obtain ⟨c0, c1, c2, c3, c4, c10⟩ := boxCm x1
                             have RG := Lib.hid (opRange x1)
                             clear x1 l1 s1)
                          | (with_reducible show wpList _ _ _ (⟨_, Op.load roT _, _, _, _, none⟩ :: _) _ _
                             refine wpList_cmop_load rfl _ rfl w.heap.size rfl x.o RG.out ?_)
                          | (with_reducible show wpList _ _ _ (⟨_, Op.build roT _, _, _, _, none⟩ :: _) _ _
                             refine wpList_build_any rfl roT _ #[] (.agg (ropA zeroOp)) rfl rfl (fun w => run_build w roT #[] _ (by kernel_rfl)) ?_)
                          | (with_reducible show wpList _ _ _ (⟨_, Op.binOp .eql roT _ _ _, _, _, _, none⟩ :: _) _ _
                             refine wpList_rop_eql rfl _ _ rfl x.o zeroOp rfl rfl ?_
                             rw [eqOp_zero])
                          | (with_reducible show wpList _ _ _ (⟨_, Op.alloc roT, _, _, _, _⟩ :: _) _ _
                             refine wpList_boxA_new rowOp rfl rfl w1.heap.size rfl ?_
                             intro w2 x2 l2 s2
                             have S1 := Lib.hid L1.out.size
                             have N1 := Lib.hid X1.out.lt
                             have Y2 := Lib.hid (X1.out.keep (l2.block _ X1.out.lt))
                             clear c0 c1 c2 c3 c4 c10 X1
                             have X2 := Lib.hid x2
                             have L2 := Lib.hid (L1.out.trans (l2.mono L1.out.size))
                             clear x2 l2 s2 L1)
                          | (with_reducible show wpList _ _ _ (⟨_, Op.store roT _ _, _, _, _, none⟩ :: _) _ _
                             refine wpList_boxA_put rowOp rfl _ _ rfl rfl w1.heap.size (ropA x.o) _ (ropA_size _) (ropA_one _) rfl rfl rfl X2.out ?_
                             intro w3 x3 k3 s3
                             have L1 := Lib.hid (low_put L2.out S1.out k3)
                             have X1 := Lib.hid (Y2.out.keep (k3.block _ Y2.out.lt (Nat.ne_of_lt N1.out)))
                             obtain ⟨c0, c1, c2, c3, c4, c10⟩ := boxCm X1.out
                             obtain ⟨d0, d1, d2, d3, d4, d5⟩ := boxRo x3
                             clear x3 k3 s3 X2 L2)
                          | (go_at_call 38
                             refine (within_any _ _ _ _).mono ?_; rintro e w4 ⟨rfl, rfl⟩))
                        go_ret
                        exact ⟨by rw [HR.out, res_not h9]; rfl, L1.out⟩
                      · skip
                        go_enter Try.func29, Try.ntmps29
                        go_wp2_with (first
                          | (with_reducible show wpList _ _ _ (⟨some 1, Op.box cmT _, _, _, _, none⟩ :: _) _ _
                             refine wpList_boxA_of rfl _ rfl (cmA q n c x) rfl ?_
                             intro w1 x1 l1 s1
                             have X1 := Lib.hid x1
                             have L1 := Lib.hid l1
                             obtain ⟨c0, c1, c2, c3, c4, c10⟩ := boxCm x1
                             have RG := Lib.hid (opRange x1)
                             clear x1 l1 s1)
                          | (with_reducible show wpList _ _ _ (⟨_, Op.load roT _, _, _, _, none⟩ :: _) _ _
                             refine wpList_cmop_load rfl _ rfl w.heap.size rfl x.o RG.out ?_)
                          | (with_reducible show wpList _ _ _ (⟨_, Op.build roT _, _, _, _, none⟩ :: _) _ _
                             refine wpList_build_any rfl roT _ #[] (.agg (ropA zeroOp)) rfl rfl (fun w => run_build w roT #[] _ (by kernel_rfl)) ?_)
                          | (with_reducible show wpList _ _ _ (⟨_, Op.binOp .eql roT _ _ _, _, _, _, none⟩ :: _) _ _
                             refine wpList_rop_eql rfl _ _ rfl x.o zeroOp rfl rfl ?_
                             rw [eqOp_zero])
                          | (with_reducible show wpList _ _ _ (⟨_, Op.alloc roT, _, _, _, _⟩ :: _) _ _
                             refine wpList_boxA_new rowOp rfl rfl w1.heap.size rfl ?_
                             intro w2 x2 l2 s2
                             have S1 := Lib.hid L1.out.size
                             have N1 := Lib.hid X1.out.lt
                             have Y2 := Lib.hid (X1.out.keep (l2.block _ X1.out.lt))
                             clear c0 c1 c2 c3 c4 c10 X1
                             have X2 := Lib.hid x2
                             have L2 := Lib.hid (L1.out.trans (l2.mono L1.out.size))
                             clear x2 l2 s2 L1)
                          | (with_reducible show wpList _ _ _ (⟨_, Op.store roT _ _, _, _, _, none⟩ :: _) _ _
                             refine wpList_boxA_put rowOp rfl _ _ rfl rfl w1.heap.size (ropA x.o) _ (ropA_size _) (ropA_one _) rfl rfl rfl X2.out ?_
                             intro w3 x3 k3 s3
                             have L1 := Lib.hid (low_put L2.out S1.out k3)
                             have X1 := Lib.hid (Y2.out.keep (k3.block _ Y2.out.lt (Nat.ne_of_lt N1.out)))
                             obtain ⟨c0, c1, c2, c3, c4, c10⟩ := boxCm X1.out
                             obtain ⟨d0, d1, d2, d3, d4, d5⟩ := boxRo x3
                             clear x3 k3 s3 X2 L2)
                          | (go_at_call 38
                             refine (within_any _ _ _ _).mono ?_; rintro e w4 ⟨rfl, rfl⟩))
                        go_ret
                        exact ⟨by rw [good_bad (fun g => by have b := (g.data.1 (by simpa using h10)).2; simp only [bne_iff_ne] at h12; exact h12 b)]; rfl, L1.out⟩
                    · skip
                      go_enter Try.func29, Try.ntmps29
                      go_wp2_with (first
                        | (with_reducible show wpList _ _ _ (⟨some 1, Op.box cmT _, _, _, _, none⟩ :: _) _ _
                           refine wpList_boxA_of rfl _ rfl (cmA q n c x) rfl ?_
                           intro w1 x1 l1 s1
                           have X1 := Lib.hid x1
                           have L1 := Lib.hid l1
                           obtain ⟨c0, c1, c2, c3, c4, c10⟩ := boxCm x1
                           have RG := Lib.hid (opRange x1)
                           clear x1 l1 s1)
                        | (with_reducible show wpList _ _ _ (⟨_, Op.load roT _, _, _, _, none⟩ :: _) _ _
                           refine wpList_cmop_load rfl _ rfl w.heap.size rfl x.o RG.out ?_)
                        | (with_reducible show wpList _ _ _ (⟨_, Op.build roT _, _, _, _, none⟩ :: _) _ _
                           refine wpList_build_any rfl roT _ #[] (.agg (ropA zeroOp)) rfl rfl (fun w => run_build w roT #[] _ (by kernel_rfl)) ?_)
                        | (with_reducible show wpList _ _ _ (⟨_, Op.binOp .eql roT _ _ _, _, _, _, none⟩ :: _) _ _
                           refine wpList_rop_eql rfl _ _ rfl x.o zeroOp rfl rfl ?_
                           rw [eqOp_zero])
                        | (with_reducible show wpList _ _ _ (⟨_, Op.alloc roT, _, _, _, _⟩ :: _) _ _
                           refine wpList_boxA_new rowOp rfl rfl w1.heap.size rfl ?_
                           intro w2 x2 l2 s2
                           have S1 := Lib.hid L1.out.size
                           have N1 := Lib.hid X1.out.lt
                           have Y2 := Lib.hid (X1.out.keep (l2.block _ X1.out.lt))
                           clear c0 c1 c2 c3 c4 c10 X1
                           have X2 := Lib.hid x2
                           have L2 := Lib.hid (L1.out.trans (l2.mono L1.out.size))
                           clear x2 l2 s2 L1)
                        | (with_reducible show wpList _ _ _ (⟨_, Op.store roT _ _, _, _, _, none⟩ :: _) _ _
                           refine wpList_boxA_put rowOp rfl _ _ rfl rfl w1.heap.size (ropA x.o) _ (ropA_size _) (ropA_one _) rfl rfl rfl X2.out ?_
                           intro w3 x3 k3 s3
                           have L1 := Lib.hid (low_put L2.out S1.out k3)
                           have X1 := Lib.hid (Y2.out.keep (k3.block _ Y2.out.lt (Nat.ne_of_lt N1.out)))
                           obtain ⟨c0, c1, c2, c3, c4, c10⟩ := boxCm X1.out
                           obtain ⟨d0, d1, d2, d3, d4, d5⟩ := boxRo x3
                           clear x3 k3 s3 X2 L2)
                        | (go_at_call 38
                           refine (within_any _ _ _ _).mono ?_; rintro e w4 ⟨rfl, rfl⟩))
                      go_ret
                      exact ⟨by rw [good_bad (fun g => by have a := of_decide_eq_true h11; have b := (g.data.1 (by simpa using h10)).1; omega)]; rfl, L1.out⟩
                · skip
                  go_enter Try.func29, Try.ntmps29
                  go_wp2_with (first
                    | (with_reducible show wpList _ _ _ (⟨some 1, Op.box cmT _, _, _, _, none⟩ :: _) _ _
                       refine wpList_boxA_of rfl _ rfl (cmA q n c x) rfl ?_
                       intro w1 x1 l1 s1
                       have X1 := Lib.hid x1
                       have L1 := Lib.hid l1
                       obtain ⟨c0, c1, c2, c3, c4, c10⟩ := boxCm x1
                       have RG := Lib.hid (opRange x1)
                       clear x1 l1 s1)
                    | (with_reducible show wpList _ _ _ (⟨_, Op.load roT _, _, _, _, none⟩ :: _) _ _
                       refine wpList_cmop_load rfl _ rfl w.heap.size rfl x.o RG.out ?_)
                    | (with_reducible show wpList _ _ _ (⟨_, Op.build roT _, _, _, _, none⟩ :: _) _ _
                       refine wpList_build_any rfl roT _ #[] (.agg (ropA zeroOp)) rfl rfl (fun w => run_build w roT #[] _ (by kernel_rfl)) ?_)
                    | (with_reducible show wpList _ _ _ (⟨_, Op.binOp .eql roT _ _ _, _, _, _, none⟩ :: _) _ _
                       refine wpList_rop_eql rfl _ _ rfl x.o zeroOp rfl rfl ?_
                       rw [eqOp_zero])
                    | (with_reducible show wpList _ _ _ (⟨_, Op.alloc roT, _, _, _, _⟩ :: _) _ _
                       refine wpList_boxA_new rowOp rfl rfl w1.heap.size rfl ?_
                       intro w2 x2 l2 s2
                       have S1 := Lib.hid L1.out.size
                       have N1 := Lib.hid X1.out.lt
                       have Y2 := Lib.hid (X1.out.keep (l2.block _ X1.out.lt))
                       clear c0 c1 c2 c3 c4 c10 X1
                       have X2 := Lib.hid x2
                       have L2 := Lib.hid (L1.out.trans (l2.mono L1.out.size))
                       clear x2 l2 s2 L1)
                    | (with_reducible show wpList _ _ _ (⟨_, Op.store roT _ _, _, _, _, none⟩ :: _) _ _
                       refine wpList_boxA_put rowOp rfl _ _ rfl rfl w1.heap.size (ropA x.o) _ (ropA_size _) (ropA_one _) rfl rfl rfl X2.out ?_
                       intro w3 x3 k3 s3
                       have L1 := Lib.hid (low_put L2.out S1.out k3)
                       have X1 := Lib.hid (Y2.out.keep (k3.block _ Y2.out.lt (Nat.ne_of_lt N1.out)))
                       obtain ⟨c0, c1, c2, c3, c4, c10⟩ := boxCm X1.out
                       obtain ⟨d0, d1, d2, d3, d4, d5⟩ := boxRo x3
                       clear x3 k3 s3 X2 L2)
                    | (go_at_call 38
                       refine (within_any _ _ _ _).mono ?_; rintro e w4 ⟨rfl, rfl⟩))
                  go_ret
                  exact ⟨by rw [good_bad (fun g => by have a := of_decide_eq_true h8; have := g.m; omega)]; rfl, L1.out⟩
              · skip
                go_enter Try.func29, Try.ntmps29
                go_wp2_with (first
                  | (with_reducible show wpList _ _ _ (⟨some 1, Op.box cmT _, _, _, _, none⟩ :: _) _ _
                     refine wpList_boxA_of rfl _ rfl (cmA q n c x) rfl ?_
                     intro w1 x1 l1 s1
                     have X1 := Lib.hid x1
                     have L1 := Lib.hid l1
                     obtain ⟨c0, c1, c2, c3, c4, c10⟩ := boxCm x1
                     have RG := Lib.hid (opRange x1)
                     clear x1 l1 s1)
                  | (with_reducible show wpList _ _ _ (⟨_, Op.load roT _, _, _, _, none⟩ :: _) _ _
                     refine wpList_cmop_load rfl _ rfl w.heap.size rfl x.o RG.out ?_)
                  | (with_reducible show wpList _ _ _ (⟨_, Op.build roT _, _, _, _, none⟩ :: _) _ _
                     refine wpList_build_any rfl roT _ #[] (.agg (ropA zeroOp)) rfl rfl (fun w => run_build w roT #[] _ (by kernel_rfl)) ?_)
                  | (with_reducible show wpList _ _ _ (⟨_, Op.binOp .eql roT _ _ _, _, _, _, none⟩ :: _) _ _
                     refine wpList_rop_eql rfl _ _ rfl x.o zeroOp rfl rfl ?_
                     rw [eqOp_zero])
                  | (with_reducible show wpList _ _ _ (⟨_, Op.alloc roT, _, _, _, _⟩ :: _) _ _
                     refine wpList_boxA_new rowOp rfl rfl w1.heap.size rfl ?_
                     intro w2 x2 l2 s2
                     have S1 := Lib.hid L1.out.size
                     have N1 := Lib.hid X1.out.lt
                     have Y2 := Lib.hid (X1.out.keep (l2.block _ X1.out.lt))
                     clear c0 c1 c2 c3 c4 c10 X1
                     have X2 := Lib.hid x2
                     have L2 := Lib.hid (L1.out.trans (l2.mono L1.out.size))
                     clear x2 l2 s2 L1)
                  | (with_reducible show wpList _ _ _ (⟨_, Op.store roT _ _, _, _, _, none⟩ :: _) _ _
                     refine wpList_boxA_put rowOp rfl _ _ rfl rfl w1.heap.size (ropA x.o) _ (ropA_size _) (ropA_one _) rfl rfl rfl X2.out ?_
                     intro w3 x3 k3 s3
                     have L1 := Lib.hid (low_put L2.out S1.out k3)
                     have X1 := Lib.hid (Y2.out.keep (k3.block _ Y2.out.lt (Nat.ne_of_lt N1.out)))
                     obtain ⟨c0, c1, c2, c3, c4, c10⟩ := boxCm X1.out
                     obtain ⟨d0, d1, d2, d3, d4, d5⟩ := boxRo x3
                     clear x3 k3 s3 X2 L2)
                  | (go_at_call 38
                     refine (within_any _ _ _ _).mono ?_; rintro e w4 ⟨rfl, rfl⟩))
                go_ret
                exact ⟨by rw [good_bad (fun g => by have a := of_decide_eq_true h7; have := g.m; omega)]; rfl, L1.out⟩
            · skip
              go_enter Try.func29, Try.ntmps29
              go_wp2_with (first
                | (with_reducible show wpList _ _ _ (⟨some 1, Op.box cmT _, _, _, _, none⟩ :: _) _ _
                   refine wpList_boxA_of rfl _ rfl (cmA q n c x) rfl ?_
                   intro w1 x1 l1 s1
                   have X1 := Lib.hid x1
                   have L1 := Lib.hid l1
                   obtain ⟨c0, c1, c2, c3, c4, c10⟩ := boxCm x1
                   have RG := Lib.hid (opRange x1)
                   clear x1 l1 s1)
                | (with_reducible show wpList _ _ _ (⟨_, Op.load roT _, _, _, _, none⟩ :: _) _ _
                   refine wpList_cmop_load rfl _ rfl w.heap.size rfl x.o RG.out ?_)
                | (with_reducible show wpList _ _ _ (⟨_, Op.build roT _, _, _, _, none⟩ :: _) _ _
                   refine wpList_build_any rfl roT _ #[] (.agg (ropA zeroOp)) rfl rfl (fun w => run_build w roT #[] _ (by kernel_rfl)) ?_)
                | (with_reducible show wpList _ _ _ (⟨_, Op.binOp .eql roT _ _ _, _, _, _, none⟩ :: _) _ _
                   refine wpList_rop_eql rfl _ _ rfl x.o zeroOp rfl rfl ?_
                   rw [eqOp_zero])
                | (with_reducible show wpList _ _ _ (⟨_, Op.alloc roT, _, _, _, _⟩ :: _) _ _
                   refine wpList_boxA_new rowOp rfl rfl w1.heap.size rfl ?_
                   intro w2 x2 l2 s2
                   have S1 := Lib.hid L1.out.size
                   have N1 := Lib.hid X1.out.lt
                   have Y2 := Lib.hid (X1.out.keep (l2.block _ X1.out.lt))
                   clear c0 c1 c2 c3 c4 c10 X1
                   have X2 := Lib.hid x2
                   have L2 := Lib.hid (L1.out.trans (l2.mono L1.out.size))
                   clear x2 l2 s2 L1)
                | (with_reducible show wpList _ _ _ (⟨_, Op.store roT _ _, _, _, _, none⟩ :: _) _ _
                   refine wpList_boxA_put rowOp rfl _ _ rfl rfl w1.heap.size (ropA x.o) _ (ropA_size _) (ropA_one _) rfl rfl rfl X2.out ?_
                   intro w3 x3 k3 s3
                   have L1 := Lib.hid (low_put L2.out S1.out k3)
                   have X1 := Lib.hid (Y2.out.keep (k3.block _ Y2.out.lt (Nat.ne_of_lt N1.out)))
                   obtain ⟨c0, c1, c2, c3, c4, c10⟩ := boxCm X1.out
                   obtain ⟨d0, d1, d2, d3, d4, d5⟩ := boxRo x3
                   clear x3 k3 s3 X2 L2)
                | (go_at_call 38
                   refine (within_any _ _ _ _).mono ?_; rintro e w4 ⟨rfl, rfl⟩))
              go_ret
              exact ⟨by rw [good_bad (fun g => by have a := of_decide_eq_true h6; have := g.b; omega)]; rfl, L1.out⟩
          · skip
            go_enter Try.func29, Try.ntmps29
            go_wp2_with (first
              | (with_reducible show wpList _ _ _ (⟨some 1, Op.box cmT _, _, _, _, none⟩ :: _) _ _
                 refine wpList_boxA_of rfl _ rfl (cmA q n c x) rfl ?_
                 intro w1 x1 l1 s1
                 have X1 := Lib.hid x1
                 have L1 := Lib.hid l1
                 obtain ⟨c0, c1, c2, c3, c4, c10⟩ := boxCm x1
                 have RG := Lib.hid (opRange x1)
                 clear x1 l1 s1)
              | (with_reducible show wpList _ _ _ (⟨_, Op.load roT _, _, _, _, none⟩ :: _) _ _
                 refine wpList_cmop_load rfl _ rfl w.heap.size rfl x.o RG.out ?_)
              | (with_reducible show wpList _ _ _ (⟨_, Op.build roT _, _, _, _, none⟩ :: _) _ _
                 refine wpList_build_any rfl roT _ #[] (.agg (ropA zeroOp)) rfl rfl (fun w => run_build w roT #[] _ (by kernel_rfl)) ?_)
              | (with_reducible show wpList _ _ _ (⟨_, Op.binOp .eql roT _ _ _, _, _, _, none⟩ :: _) _ _
                 refine wpList_rop_eql rfl _ _ rfl x.o zeroOp rfl rfl ?_
                 rw [eqOp_zero])
              | (with_reducible show wpList _ _ _ (⟨_, Op.alloc roT, _, _, _, _⟩ :: _) _ _
                 refine wpList_boxA_new rowOp rfl rfl w1.heap.size rfl ?_
                 intro w2 x2 l2 s2
                 have S1 := Lib.hid L1.out.size
                 have N1 := Lib.hid X1.out.lt
                 have Y2 := Lib.hid (X1.out.keep (l2.block _ X1.out.lt))
                 clear c0 c1 c2 c3 c4 c10 X1
                 have X2 := Lib.hid x2
                 have L2 := Lib.hid (L1.out.trans (l2.mono L1.out.size))
                 clear x2 l2 s2 L1)
              | (with_reducible show wpList _ _ _ (⟨_, Op.store roT _ _, _, _, _, none⟩ :: _) _ _
                 refine wpList_boxA_put rowOp rfl _ _ rfl rfl w1.heap.size (ropA x.o) _ (ropA_size _) (ropA_one _) rfl rfl rfl X2.out ?_
                 intro w3 x3 k3 s3
                 have L1 := Lib.hid (low_put L2.out S1.out k3)
                 have X1 := Lib.hid (Y2.out.keep (k3.block _ Y2.out.lt (Nat.ne_of_lt N1.out)))
                 obtain ⟨c0, c1, c2, c3, c4, c10⟩ := boxCm X1.out
                 obtain ⟨d0, d1, d2, d3, d4, d5⟩ := boxRo x3
                 clear x3 k3 s3 X2 L2)
              | (go_at_call 38
                 refine (within_any _ _ _ _).mono ?_; rintro e w4 ⟨rfl, rfl⟩))
            go_ret
            exact ⟨by rw [good_bad (fun g => by have a := of_decide_eq_true h5; have := g.b; omega)]; rfl, L1.out⟩
        · skip
          go_enter Try.func29, Try.ntmps29
          go_wp2_with (first
            | (with_reducible show wpList _ _ _ (⟨some 1, Op.box cmT _, _, _, _, none⟩ :: _) _ _
               refine wpList_boxA_of rfl _ rfl (cmA q n c x) rfl ?_
               intro w1 x1 l1 s1
               have X1 := Lib.hid x1
               have L1 := Lib.hid l1
               obtain ⟨c0, c1, c2, c3, c4, c10⟩ := boxCm x1
               have RG := Lib.hid (opRange x1)
               clear x1 l1 s1)
            | (with_reducible show wpList _ _ _ (⟨_, Op.load roT _, _, _, _, none⟩ :: _) _ _
               refine wpList_cmop_load rfl _ rfl w.heap.size rfl x.o RG.out ?_)
            | (with_reducible show wpList _ _ _ (⟨_, Op.build roT _, _, _, _, none⟩ :: _) _ _
               refine wpList_build_any rfl roT _ #[] (.agg (ropA zeroOp)) rfl rfl (fun w => run_build w roT #[] _ (by kernel_rfl)) ?_)
            | (with_reducible show wpList _ _ _ (⟨_, Op.binOp .eql roT _ _ _, _, _, _, none⟩ :: _) _ _
               refine wpList_rop_eql rfl _ _ rfl x.o zeroOp rfl rfl ?_
               rw [eqOp_zero])
            | (with_reducible show wpList _ _ _ (⟨_, Op.alloc roT, _, _, _, _⟩ :: _) _ _
               refine wpList_boxA_new rowOp rfl rfl w1.heap.size rfl ?_
               intro w2 x2 l2 s2
               have S1 := Lib.hid L1.out.size
               have N1 := Lib.hid X1.out.lt
               have Y2 := Lib.hid (X1.out.keep (l2.block _ X1.out.lt))
               clear c0 c1 c2 c3 c4 c10 X1
               have X2 := Lib.hid x2
               have L2 := Lib.hid (L1.out.trans (l2.mono L1.out.size))
               clear x2 l2 s2 L1)
            | (with_reducible show wpList _ _ _ (⟨_, Op.store roT _ _, _, _, _, none⟩ :: _) _ _
               refine wpList_boxA_put rowOp rfl _ _ rfl rfl w1.heap.size (ropA x.o) _ (ropA_size _) (ropA_one _) rfl rfl rfl X2.out ?_
               intro w3 x3 k3 s3
               have L1 := Lib.hid (low_put L2.out S1.out k3)
               have X1 := Lib.hid (Y2.out.keep (k3.block _ Y2.out.lt (Nat.ne_of_lt N1.out)))
               obtain ⟨c0, c1, c2, c3, c4, c10⟩ := boxCm X1.out
               obtain ⟨d0, d1, d2, d3, d4, d5⟩ := boxRo x3
               clear x3 k3 s3 X2 L2)
            | (go_at_call 38
               refine (within_any _ _ _ _).mono ?_; rintro e w4 ⟨rfl, rfl⟩))
          go_ret
          exact ⟨by rw [good_bad (fun g => by have a := of_decide_eq_true h4; have := g.u; omega)]; rfl, L1.out⟩
      · skip
        go_enter Try.func29, Try.ntmps29
        go_wp2_with (first
          | (with_reducible show wpList _ _ _ (⟨some 1, Op.box cmT _, _, _, _, none⟩ :: _) _ _
             refine wpList_boxA_of rfl _ rfl (cmA q n c x) rfl ?_
             intro w1 x1 l1 s1
             have X1 := Lib.hid x1
             have L1 := Lib.hid l1
             obtain ⟨c0, c1, c2, c3, c4, c10⟩ := boxCm x1
             have RG := Lib.hid (opRange x1)
             clear x1 l1 s1)
          | (with_reducible show wpList _ _ _ (⟨_, Op.load roT _, _, _, _, none⟩ :: _) _ _
             refine wpList_cmop_load rfl _ rfl w.heap.size rfl x.o RG.out ?_)
          | (with_reducible show wpList _ _ _ (⟨_, Op.build roT _, _, _, _, none⟩ :: _) _ _
             refine wpList_build_any rfl roT _ #[] (.agg (ropA zeroOp)) rfl rfl (fun w => run_build w roT #[] _ (by kernel_rfl)) ?_)
          | (with_reducible show wpList _ _ _ (⟨_, Op.binOp .eql roT _ _ _, _, _, _, none⟩ :: _) _ _
             refine wpList_rop_eql rfl _ _ rfl x.o zeroOp rfl rfl ?_
             rw [eqOp_zero])
          | (with_reducible show wpList _ _ _ (⟨_, Op.alloc roT, _, _, _, _⟩ :: _) _ _
             refine wpList_boxA_new rowOp rfl rfl w1.heap.size rfl ?_
             intro w2 x2 l2 s2
             have S1 := Lib.hid L1.out.size
             have N1 := Lib.hid X1.out.lt
             have Y2 := Lib.hid (X1.out.keep (l2.block _ X1.out.lt))
             clear c0 c1 c2 c3 c4 c10 X1
             have X2 := Lib.hid x2
             have L2 := Lib.hid (L1.out.trans (l2.mono L1.out.size))
             clear x2 l2 s2 L1)
          | (with_reducible show wpList _ _ _ (⟨_, Op.store roT _ _, _, _, _, none⟩ :: _) _ _
             refine wpList_boxA_put rowOp rfl _ _ rfl rfl w1.heap.size (ropA x.o) _ (ropA_size _) (ropA_one _) rfl rfl rfl X2.out ?_
             intro w3 x3 k3 s3
             have L1 := Lib.hid (low_put L2.out S1.out k3)
             have X1 := Lib.hid (Y2.out.keep (k3.block _ Y2.out.lt (Nat.ne_of_lt N1.out)))
             obtain ⟨c0, c1, c2, c3, c4, c10⟩ := boxCm X1.out
             obtain ⟨d0, d1, d2, d3, d4, d5⟩ := boxRo x3
             clear x3 k3 s3 X2 L2)
          | (go_at_call 38
             refine (within_any _ _ _ _).mono ?_; rintro e w4 ⟨rfl, rfl⟩))
        go_ret
        exact ⟨by rw [good_bad (fun g => by have a := of_decide_eq_true h3; have := g.u; omega)]; rfl, L1.out⟩
    · skip
      go_enter Try.func29, Try.ntmps29
      go_wp2_with (first
        | (with_reducible show wpList _ _ _ (⟨some 1, Op.box cmT _, _, _, _, none⟩ :: _) _ _
           refine wpList_boxA_of rfl _ rfl (cmA q n c x) rfl ?_
           intro w1 x1 l1 s1
           have X1 := Lib.hid x1
           have L1 := Lib.hid l1
           obtain ⟨c0, c1, c2, c3, c4, c10⟩ := boxCm x1
           have RG := Lib.hid (opRange x1)
           clear x1 l1 s1)
        | (with_reducible show wpList _ _ _ (⟨_, Op.load roT _, _, _, _, none⟩ :: _) _ _
           refine wpList_cmop_load rfl _ rfl w.heap.size rfl x.o RG.out ?_)
        | (with_reducible show wpList _ _ _ (⟨_, Op.build roT _, _, _, _, none⟩ :: _) _ _
           refine wpList_build_any rfl roT _ #[] (.agg (ropA zeroOp)) rfl rfl (fun w => run_build w roT #[] _ (by kernel_rfl)) ?_)
        | (with_reducible show wpList _ _ _ (⟨_, Op.binOp .eql roT _ _ _, _, _, _, none⟩ :: _) _ _
           refine wpList_rop_eql rfl _ _ rfl x.o zeroOp rfl rfl ?_
           rw [eqOp_zero])
        | (with_reducible show wpList _ _ _ (⟨_, Op.alloc roT, _, _, _, _⟩ :: _) _ _
           refine wpList_boxA_new rowOp rfl rfl w1.heap.size rfl ?_
           intro w2 x2 l2 s2
           have S1 := Lib.hid L1.out.size
           have N1 := Lib.hid X1.out.lt
           have Y2 := Lib.hid (X1.out.keep (l2.block _ X1.out.lt))
           clear c0 c1 c2 c3 c4 c10 X1
           have X2 := Lib.hid x2
           have L2 := Lib.hid (L1.out.trans (l2.mono L1.out.size))
           clear x2 l2 s2 L1)
        | (with_reducible show wpList _ _ _ (⟨_, Op.store roT _ _, _, _, _, none⟩ :: _) _ _
           refine wpList_boxA_put rowOp rfl _ _ rfl rfl w1.heap.size (ropA x.o) _ (ropA_size _) (ropA_one _) rfl rfl rfl X2.out ?_
           intro w3 x3 k3 s3
           have L1 := Lib.hid (low_put L2.out S1.out k3)
           have X1 := Lib.hid (Y2.out.keep (k3.block _ Y2.out.lt (Nat.ne_of_lt N1.out)))
           obtain ⟨c0, c1, c2, c3, c4, c10⟩ := boxCm X1.out
           obtain ⟨d0, d1, d2, d3, d4, d5⟩ := boxRo x3
           clear x3 k3 s3 X2 L2)
        | (go_at_call 38
           refine (within_any _ _ _ _).mono ?_; rintro e w4 ⟨rfl, rfl⟩))
      go_ret
      exact ⟨by rw [good_bad (fun g => by have a := of_decide_eq_true h2; have := g.k; omega)]; rfl, L1.out⟩
  · skip
    go_enter Try.func29, Try.ntmps29
    go_wp2_with (first
      | (with_reducible show wpList _ _ _ (⟨some 1, Op.box cmT _, _, _, _, none⟩ :: _) _ _
         refine wpList_boxA_of rfl _ rfl (cmA q n c x) rfl ?_
         intro w1 x1 l1 s1
         have X1 := Lib.hid x1
         have L1 := Lib.hid l1
         obtain ⟨c0, c1, c2, c3, c4, c10⟩ := boxCm x1
         have RG := Lib.hid (opRange x1)
         clear x1 l1 s1)
      | (with_reducible show wpList _ _ _ (⟨_, Op.load roT _, _, _, _, none⟩ :: _) _ _
         refine wpList_cmop_load rfl _ rfl w.heap.size rfl x.o RG.out ?_)
      | (with_reducible show wpList _ _ _ (⟨_, Op.build roT _, _, _, _, none⟩ :: _) _ _
         refine wpList_build_any rfl roT _ #[] (.agg (ropA zeroOp)) rfl rfl (fun w => run_build w roT #[] _ (by kernel_rfl)) ?_)
      | (with_reducible show wpList _ _ _ (⟨_, Op.binOp .eql roT _ _ _, _, _, _, none⟩ :: _) _ _
         refine wpList_rop_eql rfl _ _ rfl x.o zeroOp rfl rfl ?_
         rw [eqOp_zero])
      | (with_reducible show wpList _ _ _ (⟨_, Op.alloc roT, _, _, _, _⟩ :: _) _ _
         refine wpList_boxA_new rowOp rfl rfl w1.heap.size rfl ?_
         intro w2 x2 l2 s2
         have S1 := Lib.hid L1.out.size
         have N1 := Lib.hid X1.out.lt
         have Y2 := Lib.hid (X1.out.keep (l2.block _ X1.out.lt))
         clear c0 c1 c2 c3 c4 c10 X1
         have X2 := Lib.hid x2
         have L2 := Lib.hid (L1.out.trans (l2.mono L1.out.size))
         clear x2 l2 s2 L1)
      | (with_reducible show wpList _ _ _ (⟨_, Op.store roT _ _, _, _, _, none⟩ :: _) _ _
         refine wpList_boxA_put rowOp rfl _ _ rfl rfl w1.heap.size (ropA x.o) _ (ropA_size _) (ropA_one _) rfl rfl rfl X2.out ?_
         intro w3 x3 k3 s3
         have L1 := Lib.hid (low_put L2.out S1.out k3)
         have X1 := Lib.hid (Y2.out.keep (k3.block _ Y2.out.lt (Nat.ne_of_lt N1.out)))
         obtain ⟨c0, c1, c2, c3, c4, c10⟩ := boxCm X1.out
         obtain ⟨d0, d1, d2, d3, d4, d5⟩ := boxRo x3
         clear x3 k3 s3 X2 L2)
      | (go_at_call 38
         refine (within_any _ _ _ _).mono ?_; rintro e w4 ⟨rfl, rfl⟩))
    go_ret
    exact ⟨by rw [good_bad (fun g => by have a := of_decide_eq_true h1; have := g.k; omega)]; rfl, L1.out⟩
end Go.Proofs.Ytkibeddfkenlkaa
