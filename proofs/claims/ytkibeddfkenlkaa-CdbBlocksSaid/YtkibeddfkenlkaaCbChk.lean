/- The contracts of the program's Check and Access, of the document's Check, and of the law's example and large. No condition. -/
import Derived.Test.YtkibeddfkenlkaaCbGood
namespace Go.Proofs.Ytkibeddfkenlkaa
open Go.ChangeShapes Go.WideShapes Go.ChangeAt Go.RowKit
set_option linter.unusedVariables false
set_option linter.unusedSimpArgs false
attribute [local go_sem] Oper.semAt_some
def exC : CmdOf := ⟨1, 1, 2, 3, zeroOp⟩
theorem good_b {x : CmdOf} {n : Nat} (h : goodC x n = true) : (0 ≤ x.b ∧ x.b ≤ 65535) ∧ 0 ≤ x.m ∧ x.m ≤ 65535 := ⟨(good_iff.1 h).b, (good_iff.1 h).m⟩
theorem good_u {x : CmdOf} {n : Nat} (h : goodC x n = true) : 0 ≤ x.u ∧ x.u ≤ 255 := (good_iff.1 h).u
attribute [local irreducible] inB dataG resG opG noOp goodC checkN accN errN
set_option maxRecDepth 100000 in
set_option maxHeartbeats 4000000 in
theorem Check_any {w : World} {q : Option Addr} {n c : Nat} {x : CmdOf} : Calls Try.prog 21 #[.agg (cmA q n c x)] w fun e w' => e = .returned (errN (checkN x n)) ∧ Below w.heap.size w w' := by
  cases hg : goodC x n
  · skip
    go_enter Try.func21, Try.ntmps21
    go_wp2_with (first
      | (with_reducible show wpList _ _ _ (⟨some 1, Op.box cmT _, _, _, _, none⟩ :: _) _ _
         refine wpList_boxA_of rfl _ rfl (cmA q n c x) rfl ?_
         intro w1 x1 l1 s1
         have X1 := Lib.hid x1
         have L1 := Lib.hid l1
         obtain ⟨c0, c1, c2, c3, c4, c10⟩ := boxCm x1
         have RG := Lib.hid (opRange x1)
         clear x1 l1 s1)
      | (with_reducible show wpList _ _ _ (⟨_, Op.load cmT _, _, _, _, _⟩ :: _) _ _
         refine wpList_boxA_loadw rowCm _ rfl rfl w.heap.size (cmA q n c x) rfl rfl X1.out ?_)
      | (go_at_call 26
         refine (inForm_any).mono ?_; rintro e w4 ⟨rfl, l4⟩
         replace X1 := Lib.hid (X1.out.keep (l4.block _ X1.out.lt))
         obtain ⟨c0, c1, c2, c3, c4, c10⟩ := boxCm X1.out
         replace L1 := Lib.hid (L1.out.trans (l4.mono L1.out.size))
         clear l4)
      | (go_at_call 34
         refine (hasBlocks_any).mono ?_; rintro e w5 ⟨rfl, l5⟩
         replace X1 := Lib.hid (X1.out.keep (l5.block _ X1.out.lt))
         obtain ⟨c0, c1, c2, c3, c4, c10⟩ := boxCm X1.out
         replace L1 := Lib.hid (L1.out.trans (l5.mono L1.out.size))
         clear l5)
      | (go_at_call 35
         refine (inUnit_any (good_b hg).1 (good_b hg).2).mono ?_; rintro e w6 ⟨rfl, l6⟩
         replace X1 := Lib.hid (X1.out.keep (l6.block _ X1.out.lt))
         obtain ⟨c0, c1, c2, c3, c4, c10⟩ := boxCm X1.out
         replace L1 := Lib.hid (L1.out.trans (l6.mono L1.out.size))
         clear l6))
    go_ret
    exact ⟨by first | rfl | (simp [errN, checkN, accN, -beq_eq_false_iff_ne, -beq_iff_eq, hg]; done) | (unfold checkN errN; simp only [Bool.false_eq_true, if_true, if_false, hg]; rfl), L1.out⟩
  · skip
    cases h2 : decide (2 ≤ x.u)
    · skip
      cases h3 : (x.k == 1 || x.k == 2)
      · skip
        go_enter Try.func21, Try.ntmps21
        go_wp2_with (first
          | (with_reducible show wpList _ _ _ (⟨some 1, Op.box cmT _, _, _, _, none⟩ :: _) _ _
             refine wpList_boxA_of rfl _ rfl (cmA q n c x) rfl ?_
             intro w1 x1 l1 s1
             have X1 := Lib.hid x1
             have L1 := Lib.hid l1
             obtain ⟨c0, c1, c2, c3, c4, c10⟩ := boxCm x1
             have RG := Lib.hid (opRange x1)
             clear x1 l1 s1)
          | (with_reducible show wpList _ _ _ (⟨_, Op.load cmT _, _, _, _, _⟩ :: _) _ _
             refine wpList_boxA_loadw rowCm _ rfl rfl w.heap.size (cmA q n c x) rfl rfl X1.out ?_)
          | (go_at_call 26
             refine (inForm_any).mono ?_; rintro e w4 ⟨rfl, l4⟩
             replace X1 := Lib.hid (X1.out.keep (l4.block _ X1.out.lt))
             obtain ⟨c0, c1, c2, c3, c4, c10⟩ := boxCm X1.out
             replace L1 := Lib.hid (L1.out.trans (l4.mono L1.out.size))
             clear l4)
          | (go_at_call 34
             refine (hasBlocks_any).mono ?_; rintro e w5 ⟨rfl, l5⟩
             replace X1 := Lib.hid (X1.out.keep (l5.block _ X1.out.lt))
             obtain ⟨c0, c1, c2, c3, c4, c10⟩ := boxCm X1.out
             replace L1 := Lib.hid (L1.out.trans (l5.mono L1.out.size))
             clear l5)
          | (go_at_call 35
             refine (inUnit_any (good_b hg).1 (good_b hg).2).mono ?_; rintro e w6 ⟨rfl, l6⟩
             replace X1 := Lib.hid (X1.out.keep (l6.block _ X1.out.lt))
             obtain ⟨c0, c1, c2, c3, c4, c10⟩ := boxCm X1.out
             replace L1 := Lib.hid (L1.out.trans (l6.mono L1.out.size))
             clear l6))
        go_ret
        exact ⟨by first | rfl | (simp [errN, checkN, accN, -beq_eq_false_iff_ne, -beq_iff_eq, hg, h2, h3]; done) | (unfold checkN errN; simp only [Bool.false_eq_true, if_true, if_false, hg, h2, h3]; rfl), L1.out⟩
      · skip
        cases h4 : (decide (0 < x.m) && decide (x.b + x.m ≤ 16))
        · skip
          go_enter Try.func21, Try.ntmps21
          go_wp2_with (first
            | (with_reducible show wpList _ _ _ (⟨some 1, Op.box cmT _, _, _, _, none⟩ :: _) _ _
               refine wpList_boxA_of rfl _ rfl (cmA q n c x) rfl ?_
               intro w1 x1 l1 s1
               have X1 := Lib.hid x1
               have L1 := Lib.hid l1
               obtain ⟨c0, c1, c2, c3, c4, c10⟩ := boxCm x1
               have RG := Lib.hid (opRange x1)
               clear x1 l1 s1)
            | (with_reducible show wpList _ _ _ (⟨_, Op.load cmT _, _, _, _, _⟩ :: _) _ _
               refine wpList_boxA_loadw rowCm _ rfl rfl w.heap.size (cmA q n c x) rfl rfl X1.out ?_)
            | (go_at_call 26
               refine (inForm_any).mono ?_; rintro e w4 ⟨rfl, l4⟩
               replace X1 := Lib.hid (X1.out.keep (l4.block _ X1.out.lt))
               obtain ⟨c0, c1, c2, c3, c4, c10⟩ := boxCm X1.out
               replace L1 := Lib.hid (L1.out.trans (l4.mono L1.out.size))
               clear l4)
            | (go_at_call 34
               refine (hasBlocks_any).mono ?_; rintro e w5 ⟨rfl, l5⟩
               replace X1 := Lib.hid (X1.out.keep (l5.block _ X1.out.lt))
               obtain ⟨c0, c1, c2, c3, c4, c10⟩ := boxCm X1.out
               replace L1 := Lib.hid (L1.out.trans (l5.mono L1.out.size))
               clear l5)
            | (go_at_call 35
               refine (inUnit_any (good_b hg).1 (good_b hg).2).mono ?_; rintro e w6 ⟨rfl, l6⟩
               replace X1 := Lib.hid (X1.out.keep (l6.block _ X1.out.lt))
               obtain ⟨c0, c1, c2, c3, c4, c10⟩ := boxCm X1.out
               replace L1 := Lib.hid (L1.out.trans (l6.mono L1.out.size))
               clear l6))
          go_ret
          exact ⟨by first | rfl | (simp [errN, checkN, accN, -beq_eq_false_iff_ne, -beq_iff_eq, hg, h2, h3, h4]; done) | (unfold checkN errN; simp only [Bool.false_eq_true, if_true, if_false, hg, h2, h3, h4]; rfl), L1.out⟩
        · skip
          go_enter Try.func21, Try.ntmps21
          go_wp2_with (first
            | (with_reducible show wpList _ _ _ (⟨some 1, Op.box cmT _, _, _, _, none⟩ :: _) _ _
               refine wpList_boxA_of rfl _ rfl (cmA q n c x) rfl ?_
               intro w1 x1 l1 s1
               have X1 := Lib.hid x1
               have L1 := Lib.hid l1
               obtain ⟨c0, c1, c2, c3, c4, c10⟩ := boxCm x1
               have RG := Lib.hid (opRange x1)
               clear x1 l1 s1)
            | (with_reducible show wpList _ _ _ (⟨_, Op.load cmT _, _, _, _, _⟩ :: _) _ _
               refine wpList_boxA_loadw rowCm _ rfl rfl w.heap.size (cmA q n c x) rfl rfl X1.out ?_)
            | (go_at_call 26
               refine (inForm_any).mono ?_; rintro e w4 ⟨rfl, l4⟩
               replace X1 := Lib.hid (X1.out.keep (l4.block _ X1.out.lt))
               obtain ⟨c0, c1, c2, c3, c4, c10⟩ := boxCm X1.out
               replace L1 := Lib.hid (L1.out.trans (l4.mono L1.out.size))
               clear l4)
            | (go_at_call 34
               refine (hasBlocks_any).mono ?_; rintro e w5 ⟨rfl, l5⟩
               replace X1 := Lib.hid (X1.out.keep (l5.block _ X1.out.lt))
               obtain ⟨c0, c1, c2, c3, c4, c10⟩ := boxCm X1.out
               replace L1 := Lib.hid (L1.out.trans (l5.mono L1.out.size))
               clear l5)
            | (go_at_call 35
               refine (inUnit_any (good_b hg).1 (good_b hg).2).mono ?_; rintro e w6 ⟨rfl, l6⟩
               replace X1 := Lib.hid (X1.out.keep (l6.block _ X1.out.lt))
               obtain ⟨c0, c1, c2, c3, c4, c10⟩ := boxCm X1.out
               replace L1 := Lib.hid (L1.out.trans (l6.mono L1.out.size))
               clear l6))
          go_ret
          exact ⟨by first | rfl | (simp [errN, checkN, accN, -beq_eq_false_iff_ne, -beq_iff_eq, hg, h2, h3, h4]; done) | (unfold checkN errN; simp only [Bool.false_eq_true, if_true, if_false, hg, h2, h3, h4]; rfl), L1.out⟩
    · skip
      go_enter Try.func21, Try.ntmps21
      go_wp2_with (first
        | (with_reducible show wpList _ _ _ (⟨some 1, Op.box cmT _, _, _, _, none⟩ :: _) _ _
           refine wpList_boxA_of rfl _ rfl (cmA q n c x) rfl ?_
           intro w1 x1 l1 s1
           have X1 := Lib.hid x1
           have L1 := Lib.hid l1
           obtain ⟨c0, c1, c2, c3, c4, c10⟩ := boxCm x1
           have RG := Lib.hid (opRange x1)
           clear x1 l1 s1)
        | (with_reducible show wpList _ _ _ (⟨_, Op.load cmT _, _, _, _, _⟩ :: _) _ _
           refine wpList_boxA_loadw rowCm _ rfl rfl w.heap.size (cmA q n c x) rfl rfl X1.out ?_)
        | (go_at_call 26
           refine (inForm_any).mono ?_; rintro e w4 ⟨rfl, l4⟩
           replace X1 := Lib.hid (X1.out.keep (l4.block _ X1.out.lt))
           obtain ⟨c0, c1, c2, c3, c4, c10⟩ := boxCm X1.out
           replace L1 := Lib.hid (L1.out.trans (l4.mono L1.out.size))
           clear l4)
        | (go_at_call 34
           refine (hasBlocks_any).mono ?_; rintro e w5 ⟨rfl, l5⟩
           replace X1 := Lib.hid (X1.out.keep (l5.block _ X1.out.lt))
           obtain ⟨c0, c1, c2, c3, c4, c10⟩ := boxCm X1.out
           replace L1 := Lib.hid (L1.out.trans (l5.mono L1.out.size))
           clear l5)
        | (go_at_call 35
           refine (inUnit_any (good_b hg).1 (good_b hg).2).mono ?_; rintro e w6 ⟨rfl, l6⟩
           replace X1 := Lib.hid (X1.out.keep (l6.block _ X1.out.lt))
           obtain ⟨c0, c1, c2, c3, c4, c10⟩ := boxCm X1.out
           replace L1 := Lib.hid (L1.out.trans (l6.mono L1.out.size))
           clear l6))
      go_ret
      exact ⟨by first | rfl | (simp [errN, checkN, accN, -beq_eq_false_iff_ne, -beq_iff_eq, hg, h2]; done) | (unfold checkN errN; simp only [Bool.false_eq_true, if_true, if_false, hg, h2]; rfl), L1.out⟩
set_option maxRecDepth 100000 in
set_option maxHeartbeats 4000000 in
theorem Access_any {w : World} {q : Option Addr} {n c : Nat} {x : CmdOf} : Calls Try.prog 22 #[.agg (cmA q n c x)] w fun e w' => e = .returned (.int .i64 (accN x)) ∧ Below w.heap.size w w' := by
  cases h1 : x.k == 1
  · skip
    cases h2 : x.k == 2
    · skip
      cases h3 : x.k == 3
      · skip
        cases h4 : x.k == 4
        · skip
          go_enter Try.func22, Try.ntmps22
          go_wp2_with (first
            | (with_reducible show wpList _ _ _ (⟨some 1, Op.box cmT _, _, _, _, none⟩ :: _) _ _
               refine wpList_boxA_of rfl _ rfl (cmA q n c x) rfl ?_
               intro w1 x1 l1 s1
               have X1 := Lib.hid x1
               have L1 := Lib.hid l1
               obtain ⟨c0, c1, c2, c3, c4, c10⟩ := boxCm x1
               have RG := Lib.hid (opRange x1)
               clear x1 l1 s1))
          go_ret
          exact ⟨by first | rfl | (simp [errN, checkN, accN, -beq_eq_false_iff_ne, -beq_iff_eq, h1, h2, h3, h4]; done) | (unfold checkN errN; simp only [Bool.false_eq_true, if_true, if_false, h1, h2, h3, h4]; rfl), L1.out⟩
        · skip
          go_enter Try.func22, Try.ntmps22
          go_wp2_with (first
            | (with_reducible show wpList _ _ _ (⟨some 1, Op.box cmT _, _, _, _, none⟩ :: _) _ _
               refine wpList_boxA_of rfl _ rfl (cmA q n c x) rfl ?_
               intro w1 x1 l1 s1
               have X1 := Lib.hid x1
               have L1 := Lib.hid l1
               obtain ⟨c0, c1, c2, c3, c4, c10⟩ := boxCm x1
               have RG := Lib.hid (opRange x1)
               clear x1 l1 s1))
          go_ret
          exact ⟨by first | rfl | (simp [errN, checkN, accN, -beq_eq_false_iff_ne, -beq_iff_eq, h1, h2, h3, h4]; done) | (unfold checkN errN; simp only [Bool.false_eq_true, if_true, if_false, h1, h2, h3, h4]; rfl), L1.out⟩
      · skip
        go_enter Try.func22, Try.ntmps22
        go_wp2_with (first
          | (with_reducible show wpList _ _ _ (⟨some 1, Op.box cmT _, _, _, _, none⟩ :: _) _ _
             refine wpList_boxA_of rfl _ rfl (cmA q n c x) rfl ?_
             intro w1 x1 l1 s1
             have X1 := Lib.hid x1
             have L1 := Lib.hid l1
             obtain ⟨c0, c1, c2, c3, c4, c10⟩ := boxCm x1
             have RG := Lib.hid (opRange x1)
             clear x1 l1 s1))
        go_ret
        exact ⟨by first | rfl | (simp [errN, checkN, accN, -beq_eq_false_iff_ne, -beq_iff_eq, h1, h2, h3]; done) | (unfold checkN errN; simp only [Bool.false_eq_true, if_true, if_false, h1, h2, h3]; rfl), L1.out⟩
    · skip
      go_enter Try.func22, Try.ntmps22
      go_wp2_with (first
        | (with_reducible show wpList _ _ _ (⟨some 1, Op.box cmT _, _, _, _, none⟩ :: _) _ _
           refine wpList_boxA_of rfl _ rfl (cmA q n c x) rfl ?_
           intro w1 x1 l1 s1
           have X1 := Lib.hid x1
           have L1 := Lib.hid l1
           obtain ⟨c0, c1, c2, c3, c4, c10⟩ := boxCm x1
           have RG := Lib.hid (opRange x1)
           clear x1 l1 s1))
      go_ret
      exact ⟨by first | rfl | (simp [errN, checkN, accN, -beq_eq_false_iff_ne, -beq_iff_eq, h1, h2]; done) | (unfold checkN errN; simp only [Bool.false_eq_true, if_true, if_false, h1, h2]; rfl), L1.out⟩
  · skip
    go_enter Try.func22, Try.ntmps22
    go_wp2_with (first
      | (with_reducible show wpList _ _ _ (⟨some 1, Op.box cmT _, _, _, _, none⟩ :: _) _ _
         refine wpList_boxA_of rfl _ rfl (cmA q n c x) rfl ?_
         intro w1 x1 l1 s1
         have X1 := Lib.hid x1
         have L1 := Lib.hid l1
         obtain ⟨c0, c1, c2, c3, c4, c10⟩ := boxCm x1
         have RG := Lib.hid (opRange x1)
         clear x1 l1 s1))
    go_ret
    exact ⟨by first | rfl | (simp [errN, checkN, accN, -beq_eq_false_iff_ne, -beq_iff_eq, h1]; done) | (unfold checkN errN; simp only [Bool.false_eq_true, if_true, if_false, h1]; rfl), L1.out⟩
set_option maxRecDepth 100000 in
set_option maxHeartbeats 4000000 in
theorem refCheck_any {w : World} {q : Option Addr} {n c : Nat} {x : CmdOf} : Calls Try.prog 24 #[.agg (cmA q n c x)] w fun e w' => e = .returned (.int .i64 (checkN x n)) ∧ Below w.heap.size w w' := by
  cases hg : goodC x n
  · skip
    go_enter Try.func24, Try.ntmps24
    go_wp2_with (first
      | (with_reducible show wpList _ _ _ (⟨some 1, Op.box cmT _, _, _, _, none⟩ :: _) _ _
         refine wpList_boxA_of rfl _ rfl (cmA q n c x) rfl ?_
         intro w1 x1 l1 s1
         have X1 := Lib.hid x1
         have L1 := Lib.hid l1
         obtain ⟨c0, c1, c2, c3, c4, c10⟩ := boxCm x1
         have RG := Lib.hid (opRange x1)
         clear x1 l1 s1)
      | (with_reducible show wpList _ _ _ (⟨_, Op.load cmT _, _, _, _, _⟩ :: _) _ _
         refine wpList_boxA_loadw rowCm _ rfl rfl w.heap.size (cmA q n c x) rfl rfl X1.out ?_)
      | (go_at_call 29
         refine (refGood_any).mono ?_; rintro e w4 ⟨rfl, l4⟩
         replace X1 := Lib.hid (X1.out.keep (l4.block _ X1.out.lt))
         obtain ⟨c0, c1, c2, c3, c4, c10⟩ := boxCm X1.out
         replace L1 := Lib.hid (L1.out.trans (l4.mono L1.out.size))
         clear l4))
    go_ret
    exact ⟨by first | (unfold checkN; simp only [hg, if_true, if_false, Bool.false_eq_true]; rfl) | (unfold checkN; rw [EU.out, EV.out]; simp only [Bool.false_eq_true, if_true, if_false, Bool.true_or, Bool.false_or, Bool.or_true, Bool.true_and, Bool.false_and, hg]; rfl), L1.out⟩
  · skip
    obtain ⟨hu0, hu1⟩ := good_u hg
    obtain ⟨⟨hb0, hb1⟩, hm0, hm1⟩ := good_b hg
    have e2 : IntKind.i64.wrap (x.b + x.m) = x.b + x.m := IntWalk.i64_in _ (by omega)
    have eu : decide (2 ≤ x.u) = decide (1 < x.u) := by rw [decide_eq_decide]; omega
    have ev : (!(decide (0 < x.m) && decide (x.b + x.m ≤ 16))) = (x.m == 0 || decide (15 < x.b) || decide (16 < x.b + x.m)) := by rw [Bool.eq_iff_iff]; simp; omega
    have EU := Lib.hid eu
    have EV := Lib.hid ev
    clear eu ev hu0 hu1 hb0 hb1 hm0 hm1
    cases h2 : decide (1 < x.u)
    · skip
      cases h3 : x.k == 1
      · skip
        cases h3b : x.k == 2
        · skip
          go_enter Try.func24, Try.ntmps24
          go_wp2_with (first
            | (with_reducible show wpList _ _ _ (⟨some 1, Op.box cmT _, _, _, _, none⟩ :: _) _ _
               refine wpList_boxA_of rfl _ rfl (cmA q n c x) rfl ?_
               intro w1 x1 l1 s1
               have X1 := Lib.hid x1
               have L1 := Lib.hid l1
               obtain ⟨c0, c1, c2, c3, c4, c10⟩ := boxCm x1
               have RG := Lib.hid (opRange x1)
               clear x1 l1 s1)
            | (with_reducible show wpList _ _ _ (⟨_, Op.load cmT _, _, _, _, _⟩ :: _) _ _
               refine wpList_boxA_loadw rowCm _ rfl rfl w.heap.size (cmA q n c x) rfl rfl X1.out ?_)
            | (go_at_call 29
               refine (refGood_any).mono ?_; rintro e w4 ⟨rfl, l4⟩
               replace X1 := Lib.hid (X1.out.keep (l4.block _ X1.out.lt))
               obtain ⟨c0, c1, c2, c3, c4, c10⟩ := boxCm X1.out
               replace L1 := Lib.hid (L1.out.trans (l4.mono L1.out.size))
               clear l4))
          go_ret
          exact ⟨by first | (unfold checkN; simp only [hg, if_true, if_false, Bool.false_eq_true]; rfl) | (unfold checkN; rw [EU.out, EV.out]; simp only [Bool.false_eq_true, if_true, if_false, Bool.true_or, Bool.false_or, Bool.or_true, Bool.true_and, Bool.false_and, hg, h2, h3, h3b]; rfl), L1.out⟩
        · skip
          cases h4 : x.m == 0
          · skip
            cases h5 : decide (15 < x.b)
            · skip
              cases h6 : decide (16 < x.b + x.m)
              · skip
                go_enter Try.func24, Try.ntmps24
                go_wp2_with (first
                  | (with_reducible show wpList _ _ _ (⟨some 1, Op.box cmT _, _, _, _, none⟩ :: _) _ _
                     refine wpList_boxA_of rfl _ rfl (cmA q n c x) rfl ?_
                     intro w1 x1 l1 s1
                     have X1 := Lib.hid x1
                     have L1 := Lib.hid l1
                     obtain ⟨c0, c1, c2, c3, c4, c10⟩ := boxCm x1
                     have RG := Lib.hid (opRange x1)
                     clear x1 l1 s1)
                  | (with_reducible show wpList _ _ _ (⟨_, Op.load cmT _, _, _, _, _⟩ :: _) _ _
                     refine wpList_boxA_loadw rowCm _ rfl rfl w.heap.size (cmA q n c x) rfl rfl X1.out ?_)
                  | (go_at_call 29
                     refine (refGood_any).mono ?_; rintro e w4 ⟨rfl, l4⟩
                     replace X1 := Lib.hid (X1.out.keep (l4.block _ X1.out.lt))
                     obtain ⟨c0, c1, c2, c3, c4, c10⟩ := boxCm X1.out
                     replace L1 := Lib.hid (L1.out.trans (l4.mono L1.out.size))
                     clear l4))
                go_ret
                exact ⟨by first | (unfold checkN; simp only [hg, if_true, if_false, Bool.false_eq_true]; rfl) | (unfold checkN; rw [EU.out, EV.out]; simp only [Bool.false_eq_true, if_true, if_false, Bool.true_or, Bool.false_or, Bool.or_true, Bool.true_and, Bool.false_and, hg, h2, h3, h3b, h4, h5, h6]; rfl), L1.out⟩
              · skip
                go_enter Try.func24, Try.ntmps24
                go_wp2_with (first
                  | (with_reducible show wpList _ _ _ (⟨some 1, Op.box cmT _, _, _, _, none⟩ :: _) _ _
                     refine wpList_boxA_of rfl _ rfl (cmA q n c x) rfl ?_
                     intro w1 x1 l1 s1
                     have X1 := Lib.hid x1
                     have L1 := Lib.hid l1
                     obtain ⟨c0, c1, c2, c3, c4, c10⟩ := boxCm x1
                     have RG := Lib.hid (opRange x1)
                     clear x1 l1 s1)
                  | (with_reducible show wpList _ _ _ (⟨_, Op.load cmT _, _, _, _, _⟩ :: _) _ _
                     refine wpList_boxA_loadw rowCm _ rfl rfl w.heap.size (cmA q n c x) rfl rfl X1.out ?_)
                  | (go_at_call 29
                     refine (refGood_any).mono ?_; rintro e w4 ⟨rfl, l4⟩
                     replace X1 := Lib.hid (X1.out.keep (l4.block _ X1.out.lt))
                     obtain ⟨c0, c1, c2, c3, c4, c10⟩ := boxCm X1.out
                     replace L1 := Lib.hid (L1.out.trans (l4.mono L1.out.size))
                     clear l4))
                go_ret
                exact ⟨by first | (unfold checkN; simp only [hg, if_true, if_false, Bool.false_eq_true]; rfl) | (unfold checkN; rw [EU.out, EV.out]; simp only [Bool.false_eq_true, if_true, if_false, Bool.true_or, Bool.false_or, Bool.or_true, Bool.true_and, Bool.false_and, hg, h2, h3, h3b, h4, h5, h6]; rfl), L1.out⟩
            · skip
              go_enter Try.func24, Try.ntmps24
              go_wp2_with (first
                | (with_reducible show wpList _ _ _ (⟨some 1, Op.box cmT _, _, _, _, none⟩ :: _) _ _
                   refine wpList_boxA_of rfl _ rfl (cmA q n c x) rfl ?_
                   intro w1 x1 l1 s1
                   have X1 := Lib.hid x1
                   have L1 := Lib.hid l1
                   obtain ⟨c0, c1, c2, c3, c4, c10⟩ := boxCm x1
                   have RG := Lib.hid (opRange x1)
                   clear x1 l1 s1)
                | (with_reducible show wpList _ _ _ (⟨_, Op.load cmT _, _, _, _, _⟩ :: _) _ _
                   refine wpList_boxA_loadw rowCm _ rfl rfl w.heap.size (cmA q n c x) rfl rfl X1.out ?_)
                | (go_at_call 29
                   refine (refGood_any).mono ?_; rintro e w4 ⟨rfl, l4⟩
                   replace X1 := Lib.hid (X1.out.keep (l4.block _ X1.out.lt))
                   obtain ⟨c0, c1, c2, c3, c4, c10⟩ := boxCm X1.out
                   replace L1 := Lib.hid (L1.out.trans (l4.mono L1.out.size))
                   clear l4))
              go_ret
              exact ⟨by first | (unfold checkN; simp only [hg, if_true, if_false, Bool.false_eq_true]; rfl) | (unfold checkN; rw [EU.out, EV.out]; simp only [Bool.false_eq_true, if_true, if_false, Bool.true_or, Bool.false_or, Bool.or_true, Bool.true_and, Bool.false_and, hg, h2, h3, h3b, h4, h5]; rfl), L1.out⟩
          · skip
            go_enter Try.func24, Try.ntmps24
            go_wp2_with (first
              | (with_reducible show wpList _ _ _ (⟨some 1, Op.box cmT _, _, _, _, none⟩ :: _) _ _
                 refine wpList_boxA_of rfl _ rfl (cmA q n c x) rfl ?_
                 intro w1 x1 l1 s1
                 have X1 := Lib.hid x1
                 have L1 := Lib.hid l1
                 obtain ⟨c0, c1, c2, c3, c4, c10⟩ := boxCm x1
                 have RG := Lib.hid (opRange x1)
                 clear x1 l1 s1)
              | (with_reducible show wpList _ _ _ (⟨_, Op.load cmT _, _, _, _, _⟩ :: _) _ _
                 refine wpList_boxA_loadw rowCm _ rfl rfl w.heap.size (cmA q n c x) rfl rfl X1.out ?_)
              | (go_at_call 29
                 refine (refGood_any).mono ?_; rintro e w4 ⟨rfl, l4⟩
                 replace X1 := Lib.hid (X1.out.keep (l4.block _ X1.out.lt))
                 obtain ⟨c0, c1, c2, c3, c4, c10⟩ := boxCm X1.out
                 replace L1 := Lib.hid (L1.out.trans (l4.mono L1.out.size))
                 clear l4))
            go_ret
            exact ⟨by first | (unfold checkN; simp only [hg, if_true, if_false, Bool.false_eq_true]; rfl) | (unfold checkN; rw [EU.out, EV.out]; simp only [Bool.false_eq_true, if_true, if_false, Bool.true_or, Bool.false_or, Bool.or_true, Bool.true_and, Bool.false_and, hg, h2, h3, h3b, h4]; rfl), L1.out⟩
      · skip
        cases h4 : x.m == 0
        · skip
          cases h5 : decide (15 < x.b)
          · skip
            cases h6 : decide (16 < x.b + x.m)
            · skip
              go_enter Try.func24, Try.ntmps24
              go_wp2_with (first
                | (with_reducible show wpList _ _ _ (⟨some 1, Op.box cmT _, _, _, _, none⟩ :: _) _ _
                   refine wpList_boxA_of rfl _ rfl (cmA q n c x) rfl ?_
                   intro w1 x1 l1 s1
                   have X1 := Lib.hid x1
                   have L1 := Lib.hid l1
                   obtain ⟨c0, c1, c2, c3, c4, c10⟩ := boxCm x1
                   have RG := Lib.hid (opRange x1)
                   clear x1 l1 s1)
                | (with_reducible show wpList _ _ _ (⟨_, Op.load cmT _, _, _, _, _⟩ :: _) _ _
                   refine wpList_boxA_loadw rowCm _ rfl rfl w.heap.size (cmA q n c x) rfl rfl X1.out ?_)
                | (go_at_call 29
                   refine (refGood_any).mono ?_; rintro e w4 ⟨rfl, l4⟩
                   replace X1 := Lib.hid (X1.out.keep (l4.block _ X1.out.lt))
                   obtain ⟨c0, c1, c2, c3, c4, c10⟩ := boxCm X1.out
                   replace L1 := Lib.hid (L1.out.trans (l4.mono L1.out.size))
                   clear l4))
              go_ret
              exact ⟨by first | (unfold checkN; simp only [hg, if_true, if_false, Bool.false_eq_true]; rfl) | (unfold checkN; rw [EU.out, EV.out]; simp only [Bool.false_eq_true, if_true, if_false, Bool.true_or, Bool.false_or, Bool.or_true, Bool.true_and, Bool.false_and, hg, h2, h3, h4, h5, h6]; rfl), L1.out⟩
            · skip
              go_enter Try.func24, Try.ntmps24
              go_wp2_with (first
                | (with_reducible show wpList _ _ _ (⟨some 1, Op.box cmT _, _, _, _, none⟩ :: _) _ _
                   refine wpList_boxA_of rfl _ rfl (cmA q n c x) rfl ?_
                   intro w1 x1 l1 s1
                   have X1 := Lib.hid x1
                   have L1 := Lib.hid l1
                   obtain ⟨c0, c1, c2, c3, c4, c10⟩ := boxCm x1
                   have RG := Lib.hid (opRange x1)
                   clear x1 l1 s1)
                | (with_reducible show wpList _ _ _ (⟨_, Op.load cmT _, _, _, _, _⟩ :: _) _ _
                   refine wpList_boxA_loadw rowCm _ rfl rfl w.heap.size (cmA q n c x) rfl rfl X1.out ?_)
                | (go_at_call 29
                   refine (refGood_any).mono ?_; rintro e w4 ⟨rfl, l4⟩
                   replace X1 := Lib.hid (X1.out.keep (l4.block _ X1.out.lt))
                   obtain ⟨c0, c1, c2, c3, c4, c10⟩ := boxCm X1.out
                   replace L1 := Lib.hid (L1.out.trans (l4.mono L1.out.size))
                   clear l4))
              go_ret
              exact ⟨by first | (unfold checkN; simp only [hg, if_true, if_false, Bool.false_eq_true]; rfl) | (unfold checkN; rw [EU.out, EV.out]; simp only [Bool.false_eq_true, if_true, if_false, Bool.true_or, Bool.false_or, Bool.or_true, Bool.true_and, Bool.false_and, hg, h2, h3, h4, h5, h6]; rfl), L1.out⟩
          · skip
            go_enter Try.func24, Try.ntmps24
            go_wp2_with (first
              | (with_reducible show wpList _ _ _ (⟨some 1, Op.box cmT _, _, _, _, none⟩ :: _) _ _
                 refine wpList_boxA_of rfl _ rfl (cmA q n c x) rfl ?_
                 intro w1 x1 l1 s1
                 have X1 := Lib.hid x1
                 have L1 := Lib.hid l1
                 obtain ⟨c0, c1, c2, c3, c4, c10⟩ := boxCm x1
                 have RG := Lib.hid (opRange x1)
                 clear x1 l1 s1)
              | (with_reducible show wpList _ _ _ (⟨_, Op.load cmT _, _, _, _, _⟩ :: _) _ _
                 refine wpList_boxA_loadw rowCm _ rfl rfl w.heap.size (cmA q n c x) rfl rfl X1.out ?_)
              | (go_at_call 29
                 refine (refGood_any).mono ?_; rintro e w4 ⟨rfl, l4⟩
                 replace X1 := Lib.hid (X1.out.keep (l4.block _ X1.out.lt))
                 obtain ⟨c0, c1, c2, c3, c4, c10⟩ := boxCm X1.out
                 replace L1 := Lib.hid (L1.out.trans (l4.mono L1.out.size))
                 clear l4))
            go_ret
            exact ⟨by first | (unfold checkN; simp only [hg, if_true, if_false, Bool.false_eq_true]; rfl) | (unfold checkN; rw [EU.out, EV.out]; simp only [Bool.false_eq_true, if_true, if_false, Bool.true_or, Bool.false_or, Bool.or_true, Bool.true_and, Bool.false_and, hg, h2, h3, h4, h5]; rfl), L1.out⟩
        · skip
          go_enter Try.func24, Try.ntmps24
          go_wp2_with (first
            | (with_reducible show wpList _ _ _ (⟨some 1, Op.box cmT _, _, _, _, none⟩ :: _) _ _
               refine wpList_boxA_of rfl _ rfl (cmA q n c x) rfl ?_
               intro w1 x1 l1 s1
               have X1 := Lib.hid x1
               have L1 := Lib.hid l1
               obtain ⟨c0, c1, c2, c3, c4, c10⟩ := boxCm x1
               have RG := Lib.hid (opRange x1)
               clear x1 l1 s1)
            | (with_reducible show wpList _ _ _ (⟨_, Op.load cmT _, _, _, _, _⟩ :: _) _ _
               refine wpList_boxA_loadw rowCm _ rfl rfl w.heap.size (cmA q n c x) rfl rfl X1.out ?_)
            | (go_at_call 29
               refine (refGood_any).mono ?_; rintro e w4 ⟨rfl, l4⟩
               replace X1 := Lib.hid (X1.out.keep (l4.block _ X1.out.lt))
               obtain ⟨c0, c1, c2, c3, c4, c10⟩ := boxCm X1.out
               replace L1 := Lib.hid (L1.out.trans (l4.mono L1.out.size))
               clear l4))
          go_ret
          exact ⟨by first | (unfold checkN; simp only [hg, if_true, if_false, Bool.false_eq_true]; rfl) | (unfold checkN; rw [EU.out, EV.out]; simp only [Bool.false_eq_true, if_true, if_false, Bool.true_or, Bool.false_or, Bool.or_true, Bool.true_and, Bool.false_and, hg, h2, h3, h4]; rfl), L1.out⟩
    · skip
      go_enter Try.func24, Try.ntmps24
      go_wp2_with (first
        | (with_reducible show wpList _ _ _ (⟨some 1, Op.box cmT _, _, _, _, none⟩ :: _) _ _
           refine wpList_boxA_of rfl _ rfl (cmA q n c x) rfl ?_
           intro w1 x1 l1 s1
           have X1 := Lib.hid x1
           have L1 := Lib.hid l1
           obtain ⟨c0, c1, c2, c3, c4, c10⟩ := boxCm x1
           have RG := Lib.hid (opRange x1)
           clear x1 l1 s1)
        | (with_reducible show wpList _ _ _ (⟨_, Op.load cmT _, _, _, _, _⟩ :: _) _ _
           refine wpList_boxA_loadw rowCm _ rfl rfl w.heap.size (cmA q n c x) rfl rfl X1.out ?_)
        | (go_at_call 29
           refine (refGood_any).mono ?_; rintro e w4 ⟨rfl, l4⟩
           replace X1 := Lib.hid (X1.out.keep (l4.block _ X1.out.lt))
           obtain ⟨c0, c1, c2, c3, c4, c10⟩ := boxCm X1.out
           replace L1 := Lib.hid (L1.out.trans (l4.mono L1.out.size))
           clear l4))
      go_ret
      exact ⟨by first | (unfold checkN; simp only [hg, if_true, if_false, Bool.false_eq_true]; rfl) | (unfold checkN; rw [EU.out, EV.out]; simp only [Bool.false_eq_true, if_true, if_false, Bool.true_or, Bool.false_or, Bool.or_true, Bool.true_and, Bool.false_and, hg, h2]; rfl), L1.out⟩
set_option maxRecDepth 100000 in
set_option maxHeartbeats 4000000 in
theorem large_any {w : World} {q : Option Addr} {n c : Nat} {x : CmdOf} : Calls Try.prog 10 #[.agg (cmA q n c x)] w fun e w' => e = .returned (.bool (decide ((16384 : Int) < (n : Int)))) ∧ Below w.heap.size w w' := by
  go_enter Try.func10, Try.ntmps10
  go_wp2_with (first
    | (with_reducible show wpList _ _ _ (⟨some 1, Op.box cmT _, _, _, _, none⟩ :: _) _ _
       refine wpList_boxA_of rfl _ rfl (cmA q n c x) rfl ?_
       intro w1 x1 l1 s1
       have X1 := Lib.hid x1
       have L1 := Lib.hid l1
       obtain ⟨c0, c1, c2, c3, c4, c10⟩ := boxCm x1
       have RG := Lib.hid (opRange x1)
       clear x1 l1 s1))
  go_ret
  exact ⟨by first | rfl | (simp; done), L1.out⟩
set_option maxRecDepth 100000 in
theorem cm_built4 (k u b m : Int) : Try.prog.built cmT [(0, .int .i64 k), (1, .int .i64 u), (2, .int .i64 b), (3, .int .i64 m)] = some (cmA none 0 0 ⟨k, u, b, m, zeroOp⟩) := by kernel_rfl
set_option maxRecDepth 100000 in
set_option maxHeartbeats 4000000 in
theorem example_any (w : World) : Calls Try.prog 9 #[] w fun e w' => e = .returned (.agg (cmA none 0 0 exC)) ∧ Below w.heap.size w w' := by
  go_enter Try.func9, Try.ntmps9
  go_wp2_with (first
  | (with_reducible show wpList _ _ _ (⟨_, Op.alloc cmT, _, _, _, _⟩ :: _) _ _
     refine wpList_boxA_new rowCm rfl rfl w.heap.size rfl ?_
     intro w2 x2 l2 s2
     have X2 := Lib.hid x2
     have L2 := Lib.hid l2
     clear x2 l2 s2)
  | (with_reducible show wpList _ _ _ (⟨_, Op.build cmT _, _, _, _, none⟩ :: _) _ _
     refine wpList_build_any rfl cmT _ #[(0, .int .i64 1), (1, .int .i64 1), (2, .int .i64 2), (3, .int .i64 3)] (.agg (cmA none 0 0 exC)) rfl rfl (fun w => run_build w cmT #[(0, .int .i64 1), (1, .int .i64 1), (2, .int .i64 2), (3, .int .i64 3)] _ (cm_built4 1 1 2 3)) ?_)
  | (with_reducible show wpList _ _ _ (⟨_, Op.store cmT _ _, _, _, _, none⟩ :: _) _ _
     refine wpList_boxA_put rowCm rfl _ _ rfl rfl w.heap.size (cmA none 0 0 exC) _ (cmA_size _ _ _ _) (cmA_one _ _ _ _) rfl rfl rfl X2.out ?_
     intro w3 x3 k3 s3
     have X3 := Lib.hid x3
     have L3 := Lib.hid (low_put L2.out (Nat.le_refl _) k3)
     clear x3 k3 s3 X2 L2))
  exact bodyPost_ret (results_cell_row rfl _ _ w.heap.size cmT (cmA none 0 0 exC) (0, 0) _ rfl X3.out Try.underlying26 rfl rowCm.size) rfl ⟨rfl, L3.out⟩
end Go.Proofs.Ytkibeddfkenlkaa
