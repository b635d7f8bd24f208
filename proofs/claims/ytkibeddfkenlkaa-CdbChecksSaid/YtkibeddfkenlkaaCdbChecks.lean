/- CdbChecks: which commands are in range, and what they do. No condition but the arguments' own forms. -/
import Derived.Test.YtkibeddfkenlkaaCbLaw
import Derived.Test.YtkibeddfkenlkaaCbOpen
namespace Go.Proofs.Ytkibeddfkenlkaa
open Go.ChangeShapes Go.WideShapes Go.ChangeAt Go.RowKit
namespace cdbChecks
set_option linter.unusedVariables false
set_option linter.unusedSimpArgs false
theorem own : ownKnob Try.prog.godebug = none := by kernel_rfl
theorem Check_ex (W : World) : Calls Try.prog 21 #[.agg (cmA none 0 0 exC)] W fun e w' => e = .returned .nilIface ∧ Below W.heap.size W w' := by
  have h := Check_any (w := W) (q := none) (n := 0) (c := 0) (x := exC)
  rw [show checkN exC 0 = 0 by decide, errN_zero] at h; exact h
theorem Access_ex (W : World) : Calls Try.prog 22 #[.agg (cmA none 0 0 exC)] W fun e w' => e = .returned (.int .i64 1) ∧ Below W.heap.size W w' := by
  have h := Access_any (w := W) (q := none) (n := 0) (c := 0) (x := exC)
  rw [show accN exC = 1 by decide] at h; exact h
attribute [local irreducible] checkN accN errN
attribute [local go_sem] Oper.semAt_some
set_option maxRecDepth 100000 in
set_option maxHeartbeats 8000000 in
theorem walk {w : World} (q : Option Addr) (n c : Nat) (x : CmdOf) : Calls Try.prog 6 #[.agg (cmA q n c x)] w fun e w' => e = .returned (.bool true) ∧ Below w.heap.size w w' := by
  by_cases hl : (16384 : Int) < (n : Int)
  · have f1 : decide ((16384 : Int) < (n : Int)) = true := by simp [hl]
    have f2 : decide (16384 < n) = true := by simp; omega
    clear hl
    go_enter Try.func6, Try.ntmps6
    go_wp2_with (first
      | (with_reducible show wpList _ _ _ (⟨some 1, Op.box cmT _, _, _, _, none⟩ :: _) _ _
         refine wpList_boxA_of rfl _ rfl (cmA q n c x) rfl ?_
         intro w1 x1 l1 s1
         have X1 := Lib.hid x1
         have L1 := Lib.hid l1
         clear x1 l1 s1)
      | (go_at_call 9
         refine (example_any _).mono ?_; rintro e w2 ⟨rfl, l2⟩
         replace X1 := Lib.hid (X1.out.keep (l2.block _ X1.out.lt))
         replace L1 := Lib.hid (L1.out.trans (l2.mono L1.out.size))
         clear l2)
      | (go_at_call 21
         refine (Check_ex _).mono ?_; rintro e w3 ⟨rfl, l3⟩
         replace X1 := Lib.hid (X1.out.keep (l3.block _ X1.out.lt))
         replace L1 := Lib.hid (L1.out.trans (l3.mono L1.out.size))
         clear l3)
      | (go_at_call 22
         refine (Access_ex _).mono ?_; rintro e w4 ⟨rfl, l4⟩
         replace X1 := Lib.hid (X1.out.keep (l4.block _ X1.out.lt))
         replace L1 := Lib.hid (L1.out.trans (l4.mono L1.out.size))
         clear l4)
      | (with_reducible show wpList _ _ _ (⟨_, Op.load cmT _, _, _, _, _⟩ :: _) _ _
         refine wpList_boxA_loadw rowCm _ rfl rfl w.heap.size (cmA q n c x) rfl rfl X1.out ?_)
      | (go_at_call 10
         refine large_any.mono ?_; rintro e w5 ⟨rfl, l5⟩
         replace X1 := Lib.hid (X1.out.keep (l5.block _ X1.out.lt))
         replace L1 := Lib.hid (L1.out.trans (l5.mono L1.out.size))
         obtain ⟨c0, c1, c2, c3, c4, c10⟩ := boxCm X1.out
         clear l5))
    go_ret
    exact ⟨rfl, L1.out⟩
  have f1 : decide ((16384 : Int) < (n : Int)) = false := by simpa using hl
  have f2 : decide (16384 < n) = false := by simp; omega
  clear hl
  by_cases h1 : x.k = 1
  · have k1 : (x.k == 1) = true := by simp [h1]
    have k2 : (x.k == 2) = false := by simp [h1]
    have k3 : (x.k == 3) = false := by simp [h1]
    have k4 : (x.k == 4) = false := by simp [h1]
    have HAC := Lib.hid (show accN x = 1 by unfold accN; simp [h1])
    clear h1

    go_enter Try.func6, Try.ntmps6
    go_wp2_with (first
      | (with_reducible show wpList _ _ _ (⟨some 1, Op.box cmT _, _, _, _, none⟩ :: _) _ _
         refine wpList_boxA_of rfl _ rfl (cmA q n c x) rfl ?_
         intro w1 x1 l1 s1
         have X1 := Lib.hid x1
         have L1 := Lib.hid l1
         clear x1 l1 s1)
      | (go_at_call 9
         refine (example_any _).mono ?_; rintro e w2 ⟨rfl, l2⟩
         replace X1 := Lib.hid (X1.out.keep (l2.block _ X1.out.lt))
         replace L1 := Lib.hid (L1.out.trans (l2.mono L1.out.size))
         clear l2)
      | (go_at_call 21
         refine (Check_ex _).mono ?_; rintro e w3 ⟨rfl, l3⟩
         replace X1 := Lib.hid (X1.out.keep (l3.block _ X1.out.lt))
         replace L1 := Lib.hid (L1.out.trans (l3.mono L1.out.size))
         clear l3)
      | (go_at_call 22
         refine (Access_ex _).mono ?_; rintro e w4 ⟨rfl, l4⟩
         replace X1 := Lib.hid (X1.out.keep (l4.block _ X1.out.lt))
         replace L1 := Lib.hid (L1.out.trans (l4.mono L1.out.size))
         clear l4)
      | (with_reducible show wpList _ _ _ (⟨_, Op.load cmT _, _, _, _, _⟩ :: _) _ _
         refine wpList_boxA_loadw rowCm _ rfl rfl w.heap.size (cmA q n c x) rfl rfl X1.out ?_)
      | (go_at_call 10
         refine large_any.mono ?_; rintro e w5 ⟨rfl, l5⟩
         replace X1 := Lib.hid (X1.out.keep (l5.block _ X1.out.lt))
         replace L1 := Lib.hid (L1.out.trans (l5.mono L1.out.size))
         obtain ⟨c0, c1, c2, c3, c4, c10⟩ := boxCm X1.out
         clear l5))
    refine wp_region_sched [(0, true), (3, true), (1, false), (2, false), (4, false), (5, true), (6, true), (7, true), (9, true), (8, false), (10, true), (11, true), (12, true)] (fun V => BoxA V w.heap.size cmT (cmA q n c x)) (by kernel_rfl) (by kernel_rfl) (show BoxA _ w.heap.size cmT (cmA q n c x) from X1.out) ?_
    have XB := Lib.hid (show BoxA _ w.heap.size cmT (cmA q n c x) from X1.out.keep (Below.drew (Below.refl _ _) |>.block _ X1.out.lt))
    have LB := Lib.hid L1.out.drew
    refine walk_float rfl rfl (fun K hK => ?_)
    refine gives_boxA_load rowCm _ rfl w.heap.size (cmA q n c x) rfl rfl (fun V hV => hV) ?_
    go_simp
    refine hK _ ?_
    clear hK K
    refine walk_float rfl rfl (fun K hK => ?_)
    refine gives_boxA_load rowCm _ rfl w.heap.size (cmA q n c x) rfl rfl (fun V hV => hV) ?_
    go_simp
    refine hK _ ?_
    clear hK K
    refine walk_done rfl rfl (fun K hK => ?_)
    refine done_enter1 _ _ _ rfl 21 rfl (enters_of Try.func21 (by kernel_rfl) rfl) _ rfl _ (Check_any) ?_
    rintro e z1 ⟨rfl, l1⟩
    have hb1 := l1.block _ XB.out.lt
    replace XB := Lib.hid (XB.out.keep hb1)
    replace LB := Lib.hid (LB.out.trans (l1.mono LB.out.size))
    refine ⟨_, rfl, XB.out, ?_⟩
    clear l1 hb1
    go_simp
    refine hK _ _ ?_
    clear hK K
    refine walk_done rfl rfl (fun K hK => ?_)
    refine done_enter1 _ _ _ rfl 23 rfl (enters_of Try.func23 (by kernel_rfl) rfl) _ rfl _ (Num_any (checkN x n) _) ?_
    rintro e z2 ⟨rfl, rfl⟩
    refine ⟨_, rfl, XB.out, ?_⟩
    go_simp
    refine hK _ _ ?_
    clear hK K
    refine walk_done rfl rfl (fun K hK => ?_)
    refine done_enter1 _ _ _ rfl 24 rfl (enters_of Try.func24 (by kernel_rfl) rfl) _ rfl _ (refCheck_any) ?_
    rintro e z3 ⟨rfl, l3⟩
    have hb3 := l3.block _ XB.out.lt
    replace XB := Lib.hid (XB.out.keep hb3)
    replace LB := Lib.hid (LB.out.trans (l3.mono LB.out.size))
    refine ⟨_, rfl, XB.out, ?_⟩
    clear l3 hb3
    go_simp
    refine hK _ _ ?_
    clear hK K
    refine walk_float rfl rfl (fun K hK => ?_)
    refine gives_int_is _ _ rfl (checkN x n) (checkN x n) rfl rfl true (by simp) ?_
    go_simp
    refine hK _ ?_
    clear hK K
    refine walk_float rfl rfl (fun K hK => ?_)
    refine gives_move _ rfl ?_
    go_simp
    refine hK _ ?_
    clear hK K
    refine walk_float rfl rfl (fun K hK => ?_)
    refine gives_boxA_load rowCm _ rfl w.heap.size (cmA q n c x) rfl rfl (fun V hV => hV) ?_
    go_simp
    refine hK _ ?_
    clear hK K
    refine walk_float rfl rfl (fun K hK => ?_)
    refine gives_move _ rfl ?_
    go_simp
    refine hK _ ?_
    clear hK K
    refine walk_done rfl rfl (fun K hK => ?_)
    refine done_enter1 _ _ _ rfl 22 rfl (enters_of Try.func22 (by kernel_rfl) rfl) _ rfl _ (Access_any) ?_
    rintro e z4 ⟨rfl, l4⟩
    have hb4 := l4.block _ XB.out.lt
    replace XB := Lib.hid (XB.out.keep hb4)
    replace LB := Lib.hid (LB.out.trans (l4.mono LB.out.size))
    refine ⟨_, rfl, XB.out, ?_⟩
    clear l4 hb4
    go_simp
    refine hK _ _ ?_
    clear hK K
    refine walk_float rfl rfl (fun K hK => ?_)
    refine gives_int_is _ _ rfl (accN x) 1 rfl rfl true (by rw [HAC.out]; rfl) ?_
    go_simp
    refine hK _ ?_
    clear hK K
    refine walk_float rfl rfl (fun K hK => ?_)
    refine gives_pickT _ _ _ rfl rfl (.bool true) rfl ?_
    go_simp
    refine hK _ ?_
    clear hK K
    refine walk_float rfl rfl (fun K hK => ?_)
    refine gives_assign _ rfl ?_
    go_simp
    refine hK _ ?_
    clear hK K
    refine walk_nil ?_
    go_wp2
    go_ret
    exact ⟨rfl, LB.out⟩

  by_cases h2 : x.k = 2
  · have k1 : (x.k == 1) = false := by simp [h2]
    have k2 : (x.k == 2) = true := by simp [h2]
    have k3 : (x.k == 3) = false := by simp [h2]
    have k4 : (x.k == 4) = false := by simp [h2]
    have HAC := Lib.hid (show accN x = 2 by unfold accN; simp [h2])
    clear h1 h2

    go_enter Try.func6, Try.ntmps6
    go_wp2_with (first
      | (with_reducible show wpList _ _ _ (⟨some 1, Op.box cmT _, _, _, _, none⟩ :: _) _ _
         refine wpList_boxA_of rfl _ rfl (cmA q n c x) rfl ?_
         intro w1 x1 l1 s1
         have X1 := Lib.hid x1
         have L1 := Lib.hid l1
         clear x1 l1 s1)
      | (go_at_call 9
         refine (example_any _).mono ?_; rintro e w2 ⟨rfl, l2⟩
         replace X1 := Lib.hid (X1.out.keep (l2.block _ X1.out.lt))
         replace L1 := Lib.hid (L1.out.trans (l2.mono L1.out.size))
         clear l2)
      | (go_at_call 21
         refine (Check_ex _).mono ?_; rintro e w3 ⟨rfl, l3⟩
         replace X1 := Lib.hid (X1.out.keep (l3.block _ X1.out.lt))
         replace L1 := Lib.hid (L1.out.trans (l3.mono L1.out.size))
         clear l3)
      | (go_at_call 22
         refine (Access_ex _).mono ?_; rintro e w4 ⟨rfl, l4⟩
         replace X1 := Lib.hid (X1.out.keep (l4.block _ X1.out.lt))
         replace L1 := Lib.hid (L1.out.trans (l4.mono L1.out.size))
         clear l4)
      | (with_reducible show wpList _ _ _ (⟨_, Op.load cmT _, _, _, _, _⟩ :: _) _ _
         refine wpList_boxA_loadw rowCm _ rfl rfl w.heap.size (cmA q n c x) rfl rfl X1.out ?_)
      | (go_at_call 10
         refine large_any.mono ?_; rintro e w5 ⟨rfl, l5⟩
         replace X1 := Lib.hid (X1.out.keep (l5.block _ X1.out.lt))
         replace L1 := Lib.hid (L1.out.trans (l5.mono L1.out.size))
         obtain ⟨c0, c1, c2, c3, c4, c10⟩ := boxCm X1.out
         clear l5))
    refine wp_region_sched [(0, true), (3, true), (1, false), (2, false), (4, false), (5, true), (6, true), (7, true), (9, true), (8, false), (10, true), (11, true), (12, true)] (fun V => BoxA V w.heap.size cmT (cmA q n c x)) (by kernel_rfl) (by kernel_rfl) (show BoxA _ w.heap.size cmT (cmA q n c x) from X1.out) ?_
    have XB := Lib.hid (show BoxA _ w.heap.size cmT (cmA q n c x) from X1.out.keep (Below.drew (Below.refl _ _) |>.block _ X1.out.lt))
    have LB := Lib.hid L1.out.drew
    refine walk_float rfl rfl (fun K hK => ?_)
    refine gives_boxA_load rowCm _ rfl w.heap.size (cmA q n c x) rfl rfl (fun V hV => hV) ?_
    go_simp
    refine hK _ ?_
    clear hK K
    refine walk_float rfl rfl (fun K hK => ?_)
    refine gives_boxA_load rowCm _ rfl w.heap.size (cmA q n c x) rfl rfl (fun V hV => hV) ?_
    go_simp
    refine hK _ ?_
    clear hK K
    refine walk_done rfl rfl (fun K hK => ?_)
    refine done_enter1 _ _ _ rfl 21 rfl (enters_of Try.func21 (by kernel_rfl) rfl) _ rfl _ (Check_any) ?_
    rintro e z1 ⟨rfl, l1⟩
    have hb1 := l1.block _ XB.out.lt
    replace XB := Lib.hid (XB.out.keep hb1)
    replace LB := Lib.hid (LB.out.trans (l1.mono LB.out.size))
    refine ⟨_, rfl, XB.out, ?_⟩
    clear l1 hb1
    go_simp
    refine hK _ _ ?_
    clear hK K
    refine walk_done rfl rfl (fun K hK => ?_)
    refine done_enter1 _ _ _ rfl 23 rfl (enters_of Try.func23 (by kernel_rfl) rfl) _ rfl _ (Num_any (checkN x n) _) ?_
    rintro e z2 ⟨rfl, rfl⟩
    refine ⟨_, rfl, XB.out, ?_⟩
    go_simp
    refine hK _ _ ?_
    clear hK K
    refine walk_done rfl rfl (fun K hK => ?_)
    refine done_enter1 _ _ _ rfl 24 rfl (enters_of Try.func24 (by kernel_rfl) rfl) _ rfl _ (refCheck_any) ?_
    rintro e z3 ⟨rfl, l3⟩
    have hb3 := l3.block _ XB.out.lt
    replace XB := Lib.hid (XB.out.keep hb3)
    replace LB := Lib.hid (LB.out.trans (l3.mono LB.out.size))
    refine ⟨_, rfl, XB.out, ?_⟩
    clear l3 hb3
    go_simp
    refine hK _ _ ?_
    clear hK K
    refine walk_float rfl rfl (fun K hK => ?_)
    refine gives_int_is _ _ rfl (checkN x n) (checkN x n) rfl rfl true (by simp) ?_
    go_simp
    refine hK _ ?_
    clear hK K
    refine walk_float rfl rfl (fun K hK => ?_)
    refine gives_move _ rfl ?_
    go_simp
    refine hK _ ?_
    clear hK K
    refine walk_float rfl rfl (fun K hK => ?_)
    refine gives_boxA_load rowCm _ rfl w.heap.size (cmA q n c x) rfl rfl (fun V hV => hV) ?_
    go_simp
    refine hK _ ?_
    clear hK K
    refine walk_float rfl rfl (fun K hK => ?_)
    refine gives_move _ rfl ?_
    go_simp
    refine hK _ ?_
    clear hK K
    refine walk_done rfl rfl (fun K hK => ?_)
    refine done_enter1 _ _ _ rfl 22 rfl (enters_of Try.func22 (by kernel_rfl) rfl) _ rfl _ (Access_any) ?_
    rintro e z4 ⟨rfl, l4⟩
    have hb4 := l4.block _ XB.out.lt
    replace XB := Lib.hid (XB.out.keep hb4)
    replace LB := Lib.hid (LB.out.trans (l4.mono LB.out.size))
    refine ⟨_, rfl, XB.out, ?_⟩
    clear l4 hb4
    go_simp
    refine hK _ _ ?_
    clear hK K
    refine walk_float rfl rfl (fun K hK => ?_)
    refine gives_int_is _ _ rfl (accN x) 2 rfl rfl true (by rw [HAC.out]; rfl) ?_
    go_simp
    refine hK _ ?_
    clear hK K
    refine walk_float rfl rfl (fun K hK => ?_)
    refine gives_pickT _ _ _ rfl rfl (.bool true) rfl ?_
    go_simp
    refine hK _ ?_
    clear hK K
    refine walk_float rfl rfl (fun K hK => ?_)
    refine gives_assign _ rfl ?_
    go_simp
    refine hK _ ?_
    clear hK K
    refine walk_nil ?_
    go_wp2
    go_ret
    exact ⟨rfl, LB.out⟩

  by_cases h3 : x.k = 3
  · have k1 : (x.k == 1) = false := by simp [h3]
    have k2 : (x.k == 2) = false := by simp [h3]
    have k3 : (x.k == 3) = true := by simp [h3]
    have k4 : (x.k == 4) = false := by simp [h3]
    have HAC := Lib.hid (show accN x = 2 by unfold accN; simp [h3])
    clear h1 h2 h3

    go_enter Try.func6, Try.ntmps6
    go_wp2_with (first
      | (with_reducible show wpList _ _ _ (⟨some 1, Op.box cmT _, _, _, _, none⟩ :: _) _ _
         refine wpList_boxA_of rfl _ rfl (cmA q n c x) rfl ?_
         intro w1 x1 l1 s1
         have X1 := Lib.hid x1
         have L1 := Lib.hid l1
         clear x1 l1 s1)
      | (go_at_call 9
         refine (example_any _).mono ?_; rintro e w2 ⟨rfl, l2⟩
         replace X1 := Lib.hid (X1.out.keep (l2.block _ X1.out.lt))
         replace L1 := Lib.hid (L1.out.trans (l2.mono L1.out.size))
         clear l2)
      | (go_at_call 21
         refine (Check_ex _).mono ?_; rintro e w3 ⟨rfl, l3⟩
         replace X1 := Lib.hid (X1.out.keep (l3.block _ X1.out.lt))
         replace L1 := Lib.hid (L1.out.trans (l3.mono L1.out.size))
         clear l3)
      | (go_at_call 22
         refine (Access_ex _).mono ?_; rintro e w4 ⟨rfl, l4⟩
         replace X1 := Lib.hid (X1.out.keep (l4.block _ X1.out.lt))
         replace L1 := Lib.hid (L1.out.trans (l4.mono L1.out.size))
         clear l4)
      | (with_reducible show wpList _ _ _ (⟨_, Op.load cmT _, _, _, _, _⟩ :: _) _ _
         refine wpList_boxA_loadw rowCm _ rfl rfl w.heap.size (cmA q n c x) rfl rfl X1.out ?_)
      | (go_at_call 10
         refine large_any.mono ?_; rintro e w5 ⟨rfl, l5⟩
         replace X1 := Lib.hid (X1.out.keep (l5.block _ X1.out.lt))
         replace L1 := Lib.hid (L1.out.trans (l5.mono L1.out.size))
         obtain ⟨c0, c1, c2, c3, c4, c10⟩ := boxCm X1.out
         clear l5))
    refine wp_region_sched [(0, true), (3, true), (1, false), (2, false), (4, false), (5, true), (6, true), (7, true), (9, true), (8, false), (10, true), (11, true), (12, true)] (fun V => BoxA V w.heap.size cmT (cmA q n c x)) (by kernel_rfl) (by kernel_rfl) (show BoxA _ w.heap.size cmT (cmA q n c x) from X1.out) ?_
    have XB := Lib.hid (show BoxA _ w.heap.size cmT (cmA q n c x) from X1.out.keep (Below.drew (Below.refl _ _) |>.block _ X1.out.lt))
    have LB := Lib.hid L1.out.drew
    refine walk_float rfl rfl (fun K hK => ?_)
    refine gives_boxA_load rowCm _ rfl w.heap.size (cmA q n c x) rfl rfl (fun V hV => hV) ?_
    go_simp
    refine hK _ ?_
    clear hK K
    refine walk_float rfl rfl (fun K hK => ?_)
    refine gives_boxA_load rowCm _ rfl w.heap.size (cmA q n c x) rfl rfl (fun V hV => hV) ?_
    go_simp
    refine hK _ ?_
    clear hK K
    refine walk_done rfl rfl (fun K hK => ?_)
    refine done_enter1 _ _ _ rfl 21 rfl (enters_of Try.func21 (by kernel_rfl) rfl) _ rfl _ (Check_any) ?_
    rintro e z1 ⟨rfl, l1⟩
    have hb1 := l1.block _ XB.out.lt
    replace XB := Lib.hid (XB.out.keep hb1)
    replace LB := Lib.hid (LB.out.trans (l1.mono LB.out.size))
    refine ⟨_, rfl, XB.out, ?_⟩
    clear l1 hb1
    go_simp
    refine hK _ _ ?_
    clear hK K
    refine walk_done rfl rfl (fun K hK => ?_)
    refine done_enter1 _ _ _ rfl 23 rfl (enters_of Try.func23 (by kernel_rfl) rfl) _ rfl _ (Num_any (checkN x n) _) ?_
    rintro e z2 ⟨rfl, rfl⟩
    refine ⟨_, rfl, XB.out, ?_⟩
    go_simp
    refine hK _ _ ?_
    clear hK K
    refine walk_done rfl rfl (fun K hK => ?_)
    refine done_enter1 _ _ _ rfl 24 rfl (enters_of Try.func24 (by kernel_rfl) rfl) _ rfl _ (refCheck_any) ?_
    rintro e z3 ⟨rfl, l3⟩
    have hb3 := l3.block _ XB.out.lt
    replace XB := Lib.hid (XB.out.keep hb3)
    replace LB := Lib.hid (LB.out.trans (l3.mono LB.out.size))
    refine ⟨_, rfl, XB.out, ?_⟩
    clear l3 hb3
    go_simp
    refine hK _ _ ?_
    clear hK K
    refine walk_float rfl rfl (fun K hK => ?_)
    refine gives_int_is _ _ rfl (checkN x n) (checkN x n) rfl rfl true (by simp) ?_
    go_simp
    refine hK _ ?_
    clear hK K
    refine walk_float rfl rfl (fun K hK => ?_)
    refine gives_move _ rfl ?_
    go_simp
    refine hK _ ?_
    clear hK K
    refine walk_float rfl rfl (fun K hK => ?_)
    refine gives_boxA_load rowCm _ rfl w.heap.size (cmA q n c x) rfl rfl (fun V hV => hV) ?_
    go_simp
    refine hK _ ?_
    clear hK K
    refine walk_float rfl rfl (fun K hK => ?_)
    refine gives_move _ rfl ?_
    go_simp
    refine hK _ ?_
    clear hK K
    refine walk_done rfl rfl (fun K hK => ?_)
    refine done_enter1 _ _ _ rfl 22 rfl (enters_of Try.func22 (by kernel_rfl) rfl) _ rfl _ (Access_any) ?_
    rintro e z4 ⟨rfl, l4⟩
    have hb4 := l4.block _ XB.out.lt
    replace XB := Lib.hid (XB.out.keep hb4)
    replace LB := Lib.hid (LB.out.trans (l4.mono LB.out.size))
    refine ⟨_, rfl, XB.out, ?_⟩
    clear l4 hb4
    go_simp
    refine hK _ _ ?_
    clear hK K
    refine walk_float rfl rfl (fun K hK => ?_)
    refine gives_int_is _ _ rfl (accN x) 2 rfl rfl true (by rw [HAC.out]; rfl) ?_
    go_simp
    refine hK _ ?_
    clear hK K
    refine walk_float rfl rfl (fun K hK => ?_)
    refine gives_pickT _ _ _ rfl rfl (.bool true) rfl ?_
    go_simp
    refine hK _ ?_
    clear hK K
    refine walk_float rfl rfl (fun K hK => ?_)
    refine gives_assign _ rfl ?_
    go_simp
    refine hK _ ?_
    clear hK K
    refine walk_nil ?_
    go_wp2
    go_ret
    exact ⟨rfl, LB.out⟩

  by_cases h4 : x.k = 4
  · have k1 : (x.k == 1) = false := by simp [h4]
    have k2 : (x.k == 2) = false := by simp [h4]
    have k3 : (x.k == 3) = false := by simp [h4]
    have k4 : (x.k == 4) = true := by simp [h4]
    have HAC := Lib.hid (show accN x = 2 by unfold accN; simp [h4])
    clear h1 h2 h3 h4

    go_enter Try.func6, Try.ntmps6
    go_wp2_with (first
      | (with_reducible show wpList _ _ _ (⟨some 1, Op.box cmT _, _, _, _, none⟩ :: _) _ _
         refine wpList_boxA_of rfl _ rfl (cmA q n c x) rfl ?_
         intro w1 x1 l1 s1
         have X1 := Lib.hid x1
         have L1 := Lib.hid l1
         clear x1 l1 s1)
      | (go_at_call 9
         refine (example_any _).mono ?_; rintro e w2 ⟨rfl, l2⟩
         replace X1 := Lib.hid (X1.out.keep (l2.block _ X1.out.lt))
         replace L1 := Lib.hid (L1.out.trans (l2.mono L1.out.size))
         clear l2)
      | (go_at_call 21
         refine (Check_ex _).mono ?_; rintro e w3 ⟨rfl, l3⟩
         replace X1 := Lib.hid (X1.out.keep (l3.block _ X1.out.lt))
         replace L1 := Lib.hid (L1.out.trans (l3.mono L1.out.size))
         clear l3)
      | (go_at_call 22
         refine (Access_ex _).mono ?_; rintro e w4 ⟨rfl, l4⟩
         replace X1 := Lib.hid (X1.out.keep (l4.block _ X1.out.lt))
         replace L1 := Lib.hid (L1.out.trans (l4.mono L1.out.size))
         clear l4)
      | (with_reducible show wpList _ _ _ (⟨_, Op.load cmT _, _, _, _, _⟩ :: _) _ _
         refine wpList_boxA_loadw rowCm _ rfl rfl w.heap.size (cmA q n c x) rfl rfl X1.out ?_)
      | (go_at_call 10
         refine large_any.mono ?_; rintro e w5 ⟨rfl, l5⟩
         replace X1 := Lib.hid (X1.out.keep (l5.block _ X1.out.lt))
         replace L1 := Lib.hid (L1.out.trans (l5.mono L1.out.size))
         obtain ⟨c0, c1, c2, c3, c4, c10⟩ := boxCm X1.out
         clear l5))
    refine wp_region_sched [(0, true), (3, true), (1, false), (2, false), (4, false), (5, true), (6, true), (7, true), (9, true), (8, false), (10, true), (11, true), (12, true)] (fun V => BoxA V w.heap.size cmT (cmA q n c x)) (by kernel_rfl) (by kernel_rfl) (show BoxA _ w.heap.size cmT (cmA q n c x) from X1.out) ?_
    have XB := Lib.hid (show BoxA _ w.heap.size cmT (cmA q n c x) from X1.out.keep (Below.drew (Below.refl _ _) |>.block _ X1.out.lt))
    have LB := Lib.hid L1.out.drew
    refine walk_float rfl rfl (fun K hK => ?_)
    refine gives_boxA_load rowCm _ rfl w.heap.size (cmA q n c x) rfl rfl (fun V hV => hV) ?_
    go_simp
    refine hK _ ?_
    clear hK K
    refine walk_float rfl rfl (fun K hK => ?_)
    refine gives_boxA_load rowCm _ rfl w.heap.size (cmA q n c x) rfl rfl (fun V hV => hV) ?_
    go_simp
    refine hK _ ?_
    clear hK K
    refine walk_done rfl rfl (fun K hK => ?_)
    refine done_enter1 _ _ _ rfl 21 rfl (enters_of Try.func21 (by kernel_rfl) rfl) _ rfl _ (Check_any) ?_
    rintro e z1 ⟨rfl, l1⟩
    have hb1 := l1.block _ XB.out.lt
    replace XB := Lib.hid (XB.out.keep hb1)
    replace LB := Lib.hid (LB.out.trans (l1.mono LB.out.size))
    refine ⟨_, rfl, XB.out, ?_⟩
    clear l1 hb1
    go_simp
    refine hK _ _ ?_
    clear hK K
    refine walk_done rfl rfl (fun K hK => ?_)
    refine done_enter1 _ _ _ rfl 23 rfl (enters_of Try.func23 (by kernel_rfl) rfl) _ rfl _ (Num_any (checkN x n) _) ?_
    rintro e z2 ⟨rfl, rfl⟩
    refine ⟨_, rfl, XB.out, ?_⟩
    go_simp
    refine hK _ _ ?_
    clear hK K
    refine walk_done rfl rfl (fun K hK => ?_)
    refine done_enter1 _ _ _ rfl 24 rfl (enters_of Try.func24 (by kernel_rfl) rfl) _ rfl _ (refCheck_any) ?_
    rintro e z3 ⟨rfl, l3⟩
    have hb3 := l3.block _ XB.out.lt
    replace XB := Lib.hid (XB.out.keep hb3)
    replace LB := Lib.hid (LB.out.trans (l3.mono LB.out.size))
    refine ⟨_, rfl, XB.out, ?_⟩
    clear l3 hb3
    go_simp
    refine hK _ _ ?_
    clear hK K
    refine walk_float rfl rfl (fun K hK => ?_)
    refine gives_int_is _ _ rfl (checkN x n) (checkN x n) rfl rfl true (by simp) ?_
    go_simp
    refine hK _ ?_
    clear hK K
    refine walk_float rfl rfl (fun K hK => ?_)
    refine gives_move _ rfl ?_
    go_simp
    refine hK _ ?_
    clear hK K
    refine walk_float rfl rfl (fun K hK => ?_)
    refine gives_boxA_load rowCm _ rfl w.heap.size (cmA q n c x) rfl rfl (fun V hV => hV) ?_
    go_simp
    refine hK _ ?_
    clear hK K
    refine walk_float rfl rfl (fun K hK => ?_)
    refine gives_move _ rfl ?_
    go_simp
    refine hK _ ?_
    clear hK K
    refine walk_done rfl rfl (fun K hK => ?_)
    refine done_enter1 _ _ _ rfl 22 rfl (enters_of Try.func22 (by kernel_rfl) rfl) _ rfl _ (Access_any) ?_
    rintro e z4 ⟨rfl, l4⟩
    have hb4 := l4.block _ XB.out.lt
    replace XB := Lib.hid (XB.out.keep hb4)
    replace LB := Lib.hid (LB.out.trans (l4.mono LB.out.size))
    refine ⟨_, rfl, XB.out, ?_⟩
    clear l4 hb4
    go_simp
    refine hK _ _ ?_
    clear hK K
    refine walk_float rfl rfl (fun K hK => ?_)
    refine gives_int_is _ _ rfl (accN x) 2 rfl rfl true (by rw [HAC.out]; rfl) ?_
    go_simp
    refine hK _ ?_
    clear hK K
    refine walk_float rfl rfl (fun K hK => ?_)
    refine gives_pickT _ _ _ rfl rfl (.bool true) rfl ?_
    go_simp
    refine hK _ ?_
    clear hK K
    refine walk_float rfl rfl (fun K hK => ?_)
    refine gives_assign _ rfl ?_
    go_simp
    refine hK _ ?_
    clear hK K
    refine walk_nil ?_
    go_wp2
    go_ret
    exact ⟨rfl, LB.out⟩

  have k1 : (x.k == 1) = false := by simp [h1]
  have k2 : (x.k == 2) = false := by simp [h2]
  have k3 : (x.k == 3) = false := by simp [h3]
  have k4 : (x.k == 4) = false := by simp [h4]
  have HAC := Lib.hid (show accN x = 0 by unfold accN; simp [h1, h2, h3, h4])
  clear h1 h2 h3 h4

  go_enter Try.func6, Try.ntmps6
  go_wp2_with (first
    | (with_reducible show wpList _ _ _ (⟨some 1, Op.box cmT _, _, _, _, none⟩ :: _) _ _
       refine wpList_boxA_of rfl _ rfl (cmA q n c x) rfl ?_
       intro w1 x1 l1 s1
       have X1 := Lib.hid x1
       have L1 := Lib.hid l1
       clear x1 l1 s1)
    | (go_at_call 9
       refine (example_any _).mono ?_; rintro e w2 ⟨rfl, l2⟩
       replace X1 := Lib.hid (X1.out.keep (l2.block _ X1.out.lt))
       replace L1 := Lib.hid (L1.out.trans (l2.mono L1.out.size))
       clear l2)
    | (go_at_call 21
       refine (Check_ex _).mono ?_; rintro e w3 ⟨rfl, l3⟩
       replace X1 := Lib.hid (X1.out.keep (l3.block _ X1.out.lt))
       replace L1 := Lib.hid (L1.out.trans (l3.mono L1.out.size))
       clear l3)
    | (go_at_call 22
       refine (Access_ex _).mono ?_; rintro e w4 ⟨rfl, l4⟩
       replace X1 := Lib.hid (X1.out.keep (l4.block _ X1.out.lt))
       replace L1 := Lib.hid (L1.out.trans (l4.mono L1.out.size))
       clear l4)
    | (with_reducible show wpList _ _ _ (⟨_, Op.load cmT _, _, _, _, _⟩ :: _) _ _
       refine wpList_boxA_loadw rowCm _ rfl rfl w.heap.size (cmA q n c x) rfl rfl X1.out ?_)
    | (go_at_call 10
       refine large_any.mono ?_; rintro e w5 ⟨rfl, l5⟩
       replace X1 := Lib.hid (X1.out.keep (l5.block _ X1.out.lt))
       replace L1 := Lib.hid (L1.out.trans (l5.mono L1.out.size))
       obtain ⟨c0, c1, c2, c3, c4, c10⟩ := boxCm X1.out
       clear l5))
  refine wp_region_sched [(0, true), (3, true), (1, false), (2, false), (4, false), (5, true), (6, true), (7, true), (9, true), (8, false), (10, true), (11, true), (12, true)] (fun V => BoxA V w.heap.size cmT (cmA q n c x)) (by kernel_rfl) (by kernel_rfl) (show BoxA _ w.heap.size cmT (cmA q n c x) from X1.out) ?_
  have XB := Lib.hid (show BoxA _ w.heap.size cmT (cmA q n c x) from X1.out.keep (Below.drew (Below.refl _ _) |>.block _ X1.out.lt))
  have LB := Lib.hid L1.out.drew
  refine walk_float rfl rfl (fun K hK => ?_)
  refine gives_boxA_load rowCm _ rfl w.heap.size (cmA q n c x) rfl rfl (fun V hV => hV) ?_
  go_simp
  refine hK _ ?_
  clear hK K
  refine walk_float rfl rfl (fun K hK => ?_)
  refine gives_boxA_load rowCm _ rfl w.heap.size (cmA q n c x) rfl rfl (fun V hV => hV) ?_
  go_simp
  refine hK _ ?_
  clear hK K
  refine walk_done rfl rfl (fun K hK => ?_)
  refine done_enter1 _ _ _ rfl 21 rfl (enters_of Try.func21 (by kernel_rfl) rfl) _ rfl _ (Check_any) ?_
  rintro e z1 ⟨rfl, l1⟩
  have hb1 := l1.block _ XB.out.lt
  replace XB := Lib.hid (XB.out.keep hb1)
  replace LB := Lib.hid (LB.out.trans (l1.mono LB.out.size))
  refine ⟨_, rfl, XB.out, ?_⟩
  clear l1 hb1
  go_simp
  refine hK _ _ ?_
  clear hK K
  refine walk_done rfl rfl (fun K hK => ?_)
  refine done_enter1 _ _ _ rfl 23 rfl (enters_of Try.func23 (by kernel_rfl) rfl) _ rfl _ (Num_any (checkN x n) _) ?_
  rintro e z2 ⟨rfl, rfl⟩
  refine ⟨_, rfl, XB.out, ?_⟩
  go_simp
  refine hK _ _ ?_
  clear hK K
  refine walk_done rfl rfl (fun K hK => ?_)
  refine done_enter1 _ _ _ rfl 24 rfl (enters_of Try.func24 (by kernel_rfl) rfl) _ rfl _ (refCheck_any) ?_
  rintro e z3 ⟨rfl, l3⟩
  have hb3 := l3.block _ XB.out.lt
  replace XB := Lib.hid (XB.out.keep hb3)
  replace LB := Lib.hid (LB.out.trans (l3.mono LB.out.size))
  refine ⟨_, rfl, XB.out, ?_⟩
  clear l3 hb3
  go_simp
  refine hK _ _ ?_
  clear hK K
  refine walk_float rfl rfl (fun K hK => ?_)
  refine gives_int_is _ _ rfl (checkN x n) (checkN x n) rfl rfl true (by simp) ?_
  go_simp
  refine hK _ ?_
  clear hK K
  refine walk_float rfl rfl (fun K hK => ?_)
  refine gives_move _ rfl ?_
  go_simp
  refine hK _ ?_
  clear hK K
  refine walk_float rfl rfl (fun K hK => ?_)
  refine gives_boxA_load rowCm _ rfl w.heap.size (cmA q n c x) rfl rfl (fun V hV => hV) ?_
  go_simp
  refine hK _ ?_
  clear hK K
  refine walk_float rfl rfl (fun K hK => ?_)
  refine gives_move _ rfl ?_
  go_simp
  refine hK _ ?_
  clear hK K
  refine walk_done rfl rfl (fun K hK => ?_)
  refine done_enter1 _ _ _ rfl 22 rfl (enters_of Try.func22 (by kernel_rfl) rfl) _ rfl _ (Access_any) ?_
  rintro e z4 ⟨rfl, l4⟩
  have hb4 := l4.block _ XB.out.lt
  replace XB := Lib.hid (XB.out.keep hb4)
  replace LB := Lib.hid (LB.out.trans (l4.mono LB.out.size))
  refine ⟨_, rfl, XB.out, ?_⟩
  clear l4 hb4
  go_simp
  refine hK _ _ ?_
  clear hK K
  refine walk_float rfl rfl (fun K hK => ?_)
  refine gives_int_is _ _ rfl (accN x) 0 rfl rfl true (by rw [HAC.out]; rfl) ?_
  go_simp
  refine hK _ ?_
  clear hK K
  refine walk_float rfl rfl (fun K hK => ?_)
  refine gives_pickT _ _ _ rfl rfl (.bool true) rfl ?_
  go_simp
  refine hK _ ?_
  clear hK K
  refine walk_float rfl rfl (fun K hK => ?_)
  refine gives_assign _ rfl ?_
  go_simp
  refine hK _ ?_
  clear hK K
  refine walk_nil ?_
  go_wp2
  go_ret
  exact ⟨rfl, LB.out⟩

theorem laidOut : laidOutB Try.prog = true := by kernel_rfl
set_option maxRecDepth 100000 in
theorem lifted (os : Os) (started : os.Started) (H : Type) (enc : TypeId × Value → H) :
    ReturnsInHanded {} Try.checked os 6 .any (Rows.cdbChecksSpec.pre6 enc Try.prog Try.f6 Rows.cdbChecksRow.domain false) (Rows.cdbChecksSpec.post enc Try.prog Try.f6 false true false false) := by
  refine returnsInHanded_of_change (C := Try.checked) own started (by kernel_rfl) Try.func6
    (ChangeSpec.witness6 (enc := enc) (C := Try.checked) false ⟨#[], #[.agg #[.int .i64 0, .int .i64 0, .int .i64 0, .int .i64 0, .slice none 0 0, .int .i64 0, .int .i64 0, .int .i64 0, .int .i64 0, .int .i64 0, .bool false]], []⟩ 8 (by kernel_rfl) (by kernel_rfl) (by kernel_rfl) (by kernel_rfl)) ?_
  intro W base args ds gs before hval0 hW hcnd _
  have hval : ∀ (j : Nat) t v, Try.f6.params[j]? = some t → args[j]? = some v → Value.okWide Try.prog W .any base t v := hval0
  have hW' := hW
  obtain ⟨p, q, hA0, hV, rfl, hfz, hnd⟩ := hW
  have hA : DataW.TrodAll enc Try.prog W 0 (fun _ => true) true Try.f6.params.toList args.toList ds p := hA0
  rw [Try.params6] at hA hval
  obtain ⟨v0, vs0, d0, ds0, p0, q0, hargs, rfl, rfl, h0, r0⟩ := trodAll_cons hA
  obtain ⟨rfl, rfl, rfl⟩ := trodAll_nil r0
  obtain rfl : args = #[v0] := by cases args; simp_all
  obtain ⟨rfl, rfl⟩ := trodVars_none hV
  have k0 := h0
  have lt0 : ∀ x ∈ p0, x.block < W.heap.size := by obtain ⟨m, hm⟩ := k0; exact DataW.trod_lt m _ _ _ hm
  obtain ⟨q0, n0, c0, g0, x0, rfl, w0, u0, y0, b0, m0⟩ := open_cmd (hval 0 26 v0 rfl rfl) h0
  clear hA0 hval0
  refine (walk q0 n0 c0 x0).mono fun e W' ⟨he, bel⟩ => ?_
  subst he
  exact ⟨_, rfl, _, _, _, [], _, [], hW', trodAll_mk1 (shut_bool Try.underlying4 _), (trodAll_cons_mk (Below.trod laidOut (by kernel_rfl) (of_decide_eq_true (by kernel_rfl)) k0 bel lt0) trodAll_mk0), rfl, bel.frame _, fun h => by cases h⟩

theorem over : Rows.cdbChecksRow.holds Try.pinned (OpenSpec.ofChange Rows.cdbChecksSpec) :=
  OpenClaim.holds_of_wide 6 Try.f6 rfl rfl rfl rfl rfl rfl rfl ⟨rfl, rfl, rfl, rfl, rfl⟩ rfl rfl rfl rfl rfl (by kernel_rfl) Try.func6 (by kernel_rfl)
    (of_decide_eq_true (by kernel_rfl)) (by unfold Func.isWrapper; first | (rw [if_pos (by decide +kernel)]; kernel_rfl) | (rw [if_neg (by decide +kernel)]; exact ⟨rfl, rfl⟩))
    (fun os started H enc _ => lifted os started H enc)

theorem proved : Rows.CdbChecksSaid := over
end cdbChecks
end Go.Proofs.Ytkibeddfkenlkaa
