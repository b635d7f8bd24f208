/- What TweakHides and TweakShows share: errors as numbers, large texts, lists of two and three slices, and that these share no memory. Conditions: rows of no more than 2^47 - 4096 bytes. -/
import Derived.Test.YtklnnmlegagfoaaApartW
import Derived.Test.YtklnnmlegagfoaaCopyW
import Derived.Test.YtklnnmlegagfoaaSameC
import Derived.Test.YtklnnmlegagfoaaRefHd
namespace Go.Proofs.Ytklnnmlegagfoaa
open Go.ChangeShapes Go.WideShapes Go.ChangeAt Go.RowKit
set_option linter.unusedVariables false

theorem Num_nil (w : World) : Calls Try.prog 27 #[.nilIface] w fun e w' => e = .returned (.int .i64 0) ∧ w = w' := by
  go_enter Try.func27, Try.ntmps27
  go_wp2
  go_ret
  exact ⟨rfl, rfl⟩
theorem Num_err (z : Int) (hz : (z == 0) = false) (w : World) : Calls Try.prog 27 #[.iface 34 (.int .i64 z)] w fun e w' => e = .returned (.int .i64 z) ∧ w = w' := by
  have ta := fun W => assert_key (.int .i64 z) W
  go_enter Try.func27, Try.ntmps27
  go_wp2
  go_ret
  exact ⟨rfl, rfl⟩
theorem large_yes (q : Option Addr) (tn tcap : Nat) (h1 : 600 < tn) (h2 : tn ≤ 65536) (w : World) : Calls Try.prog 23 #[.slice q tn tcap] w fun e w' => e = .returned (.bool true) ∧ w = w' := by
  have d1 : decide ((600 : Int) < (tn : Int)) = true := by simp; omega
  have d2 : decide ((tn : Int) ≤ 65536) = true := by simp; omega
  have d3 : decide (600 < tn) = true := by simp; omega
  have d4 : decide (tn ≤ 65536) = true := by simp; omega
  clear h1 h2
  go_enter Try.func23, Try.ntmps23
  go_wp2
  go_ret
  exact ⟨rfl, rfl⟩
theorem large_no (q : Option Addr) (tn tcap : Nat) (h : tn ≤ 600 ∨ 65536 < tn) (w : World) : Calls Try.prog 23 #[.slice q tn tcap] w fun e w' => e = .returned (.bool false) ∧ w = w' := by
  rcases h with h | h
  · have d1 : decide ((600 : Int) < (tn : Int)) = false := by simp; omega
    have d3 : decide (600 < tn) = false := by simp; omega
    clear h
    go_enter Try.func23, Try.ntmps23
    go_wp2
    go_ret
    exact ⟨rfl, rfl⟩
  · have d1 : decide ((600 : Int) < (tn : Int)) = true := by simp; omega
    have d2 : decide ((tn : Int) ≤ 65536) = false := by simp; omega
    have d3 : decide (600 < tn) = true := by simp; omega
    have d4 : decide (tn ≤ 65536) = false := by simp; omega
    clear h
    go_enter Try.func23, Try.ntmps23
    go_wp2
    go_ret
    exact ⟨rfl, rfl⟩

section
variable {ops : Array Oper} {rest : List Oper} {o : Oper} {a : Act} {w : World} {Q : Exit → Act → World → Prop}
theorem run_lists2 (p q : Option Addr) (n m cp cq : Nat) (w : World) : (Instr.buildSlice 56 2 #[(0, .slice p n cp), (1, .slice q m cq)]).run Try.prog w = .ok (.slice (some ⟨w.heap.size, 0, none⟩) 2 2) (w.alloc (.cells #[.slice p n cp, .slice q m cq] 22)) := by
  simp [go_sem]
theorem run_lists3 (p q r : Option Addr) (n m l cp cq cr : Nat) (w : World) : (Instr.buildSlice 56 3 #[(0, .slice p n cp), (1, .slice q m cq), (2, .slice r l cr)]).run Try.prog w = .ok (.slice (some ⟨w.heap.size, 0, none⟩) 3 3) (w.alloc (.cells #[.slice p n cp, .slice q m cq, .slice r l cr] 22)) := by
  simp [go_sem]
theorem wpList_lists2 (hw : Region.wanted o (yielded ops a.tmps) = true) (x y : Operand) (ho : o.op = .buildSlice 56 2 #[(0, x), (1, y)]) (p q : Option Addr) (n m cp cq : Nat) (hx : a.eval x = .slice p n cp) (hy : a.eval y = .slice q m cq)
    (h : wpList Try.prog ops Q rest (a.put o.dst (.slice (some ⟨w.heap.size, 0, none⟩) 2 2)) (w.alloc (.cells #[.slice p n cp, .slice q m cq] 22))) : wpList Try.prog ops Q (o :: rest) a w :=
  wanted_step hw fun _ hK => by
    have e := run_lists2 p q n m cp cq w
    unfold Oper.wp execOp
    simp only [ho]
    simp [hx, hy, e]
    exact hK _ _ h
theorem wpList_lists3 (hw : Region.wanted o (yielded ops a.tmps) = true) (x y v : Operand) (ho : o.op = .buildSlice 56 3 #[(0, x), (1, y), (2, v)]) (p q r : Option Addr) (n m l cp cq cr : Nat) (hx : a.eval x = .slice p n cp) (hy : a.eval y = .slice q m cq) (hv : a.eval v = .slice r l cr)
    (h : wpList Try.prog ops Q rest (a.put o.dst (.slice (some ⟨w.heap.size, 0, none⟩) 3 3)) (w.alloc (.cells #[.slice p n cp, .slice q m cq, .slice r l cr] 22))) : wpList Try.prog ops Q (o :: rest) a w :=
  wanted_step hw fun _ hK => by
    have e := run_lists3 p q r n m l cp cq cr w
    unfold Oper.wp execOp
    simp only [ho]
    simp [hx, hy, hv, e]
    exact hK _ _ h
end
open apart in
theorem Apart_three (p0 : Option Addr) (N0 D1 D2 N1 N2 : Nat) (F0 F1 F2 : Nat → Nat) (T LB : Nat) (w : World)
    (h0 : (p0 = none ∧ N0 = 0) ∨ ∃ D0, p0 = some ⟨D0, 0, none⟩ ∧ D0 ≠ D1 ∧ D0 ≠ D2 ∧ T ≤ D0 ∧ IntBlk w D0 .u8 5 (mk N0 F0)) (hn0 : N0 ≤ 140737488351232) (hn1 : N1 ≤ 140737488351232) (hn2 : N2 ≤ 140737488351232)
    (h1 : IntBlk w D1 .u8 5 (mk (N1 + 2) F1)) (h2 : IntBlk w D2 .u8 5 (mk (N2 + 2) F2)) (h12 : D1 ≠ D2) (t1 : T ≤ D1) (t2 : T ≤ D2) (hT : T ≤ w.heap.size)
    (hL : w.heap[LB]? = some (.cells #[.slice p0 N0 N0, .slice (some ⟨D1, 0, none⟩) N1 (N1 + 2), .slice (some ⟨D2, 0, none⟩) N2 (N2 + 2)] 22 (0, 0))) :
    Calls Try.prog 28 #[.slice (some ⟨LB, 0, none⟩) 3 3] w fun e w' => e = .returned (.bool true) ∧ Below T w w' := by
  have three : ∀ i, i < 3 → i = 0 ∨ i = 1 ∨ i = 2 := fun i hi => by omega
  rcases h0 with ⟨rfl, rfl⟩ | ⟨D0, rfl, n1, n2, t0, hr0⟩
  · refine Apart_any ⟨3, fun i => if i = 1 then D1 else D2, fun i => if i = 0 then 0 else if i = 1 then N1 else N2, fun i => if i = 0 then 0 else if i = 1 then N1 + 2 else N2 + 2, fun i => decide (i = 0)⟩ T LB _ (fun i => if i = 1 then F1 else F2) w ?_ hL ?_
    · refine ⟨(show 1 ≤ 3 by omega), (show 3 ≤ 3 by omega), ?_, ?_, ?_, ?_, ?_, lt_of_block hL, hT⟩
      · intro i hi; rcases three i hi with rfl | rfl | rfl <;> simp <;> omega
      · intro i hi hn; rcases three i hi with rfl | rfl | rfl <;> simp_all
      · intro i j hi hj a b c
        rcases three i hi with rfl | rfl | rfl <;> rcases three j hj with rfl | rfl | rfl <;> simp_all
        exact fun e => h12 e.symm
      · intro i hi hn
        rcases three i hi with rfl | rfl | rfl
        · simp at hn
        · exact ⟨t1, h1.lt⟩
        · exact ⟨t2, h2.lt⟩
      · intro i hi; rcases three i hi with rfl | rfl | rfl <;> simp [Lists.v, Lists.p]
    · intro i hi hn
      rcases three i hi with rfl | rfl | rfl
      · simp at hn
      · exact h1
      · exact h2
  · refine Apart_any ⟨3, fun i => if i = 0 then D0 else if i = 1 then D1 else D2, fun i => if i = 0 then N0 else if i = 1 then N1 else N2, fun i => if i = 0 then N0 else if i = 1 then N1 + 2 else N2 + 2, fun _ => false⟩ T LB _ (fun i => if i = 0 then F0 else if i = 1 then F1 else F2) w ?_ hL ?_
    · refine ⟨(show 1 ≤ 3 by omega), (show 3 ≤ 3 by omega), ?_, ?_, ?_, ?_, ?_, lt_of_block hL, hT⟩
      · intro i hi; rcases three i hi with rfl | rfl | rfl <;> simp <;> omega
      · intro i hi hn; cases hn
      · intro i j hi hj _ _ c
        rcases three i hi with rfl | rfl | rfl <;> rcases three j hj with rfl | rfl | rfl <;> simp_all
        · exact fun e => n1 e.symm
        · exact fun e => n2 e.symm
        · exact fun e => h12 e.symm
      · intro i hi hn
        rcases three i hi with rfl | rfl | rfl
        · exact ⟨t0, hr0.lt⟩
        · exact ⟨t1, h1.lt⟩
        · exact ⟨t2, h2.lt⟩
      · intro i hi; rcases three i hi with rfl | rfl | rfl <;> simp [Lists.v, Lists.p]
    · intro i hi hn
      rcases three i hi with rfl | rfl | rfl
      · exact hr0
      · exact h1
      · exact h2
open apart in
theorem Apart_two (N0 D0 D1 N1 : Nat) (F0 F1 : Nat → Nat) (T LB : Nat) (w : World) (n1 : D0 ≠ D1) (hn0 : N0 ≤ 140737488351232) (hn1 : N1 ≤ 140737488351232)
    (h0 : IntBlk w D0 .u8 5 (mk N0 F0)) (h1 : IntBlk w D1 .u8 5 (mk (N1 + 2) F1)) (t0 : T ≤ D0) (t1 : T ≤ D1) (hT : T ≤ w.heap.size)
    (hL : w.heap[LB]? = some (.cells #[.slice (some ⟨D0, 0, none⟩) N0 N0, .slice (some ⟨D1, 0, none⟩) N1 (N1 + 2)] 22 (0, 0))) :
    Calls Try.prog 28 #[.slice (some ⟨LB, 0, none⟩) 2 2] w fun e w' => e = .returned (.bool true) ∧ Below T w w' := by
  have two : ∀ i, i < 2 → i = 0 ∨ i = 1 := fun i hi => by omega
  refine Apart_any ⟨2, fun i => if i = 0 then D0 else D1, fun i => if i = 0 then N0 else N1, fun i => if i = 0 then N0 else N1 + 2, fun _ => false⟩ T LB _ (fun i => if i = 0 then F0 else F1) w ?_ hL ?_
  · refine ⟨(show 1 ≤ 2 by omega), (show 2 ≤ 3 by omega), ?_, ?_, ?_, ?_, ?_, lt_of_block hL, hT⟩
    · intro i hi; rcases two i hi with rfl | rfl <;> simp <;> omega
    · intro i hi hn; cases hn
    · intro i j hi hj _ _ c
      rcases two i hi with rfl | rfl <;> rcases two j hj with rfl | rfl <;> simp_all
      exact fun e => n1 e.symm
    · intro i hi hn
      rcases two i hi with rfl | rfl
      · exact ⟨t0, h0.lt⟩
      · exact ⟨t1, h1.lt⟩
    · intro i hi; rcases two i hi with rfl | rfl <;> simp [Lists.v, Lists.p]
  · intro i hi hn
    rcases two i hi with rfl | rfl
    · exact h0
    · exact h1
end Go.Proofs.Ytklnnmlegagfoaa
