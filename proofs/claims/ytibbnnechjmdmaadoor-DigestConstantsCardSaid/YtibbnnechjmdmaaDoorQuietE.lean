/- Regions whose order Go leaves open: operations on eight words and on schedules. Condition: what the class keeps. -/
import Derived.Test.YtibbnnechjmdmaaDoorQuietG
import Derived.Test.YtibbnnechjmdmaaDoorEightS
import Derived.Great.BuildSlice
namespace Go.Proofs.YtibbnnechjmdmaaDoor
open Go.ChangeShapes Go.WideShapes Go.ChangeAt Go.RowKit

theorem eight_eq (f g : Nat → Nat) (w : World) : (Op.equalIn 10000 23 (.agg (cellsOf .u32 (mk 8 f))) (.agg (cellsOf .u32 (mk 8 g)))).run Tryd.prog w = .ok (mk 8 f == mk 8 g) w :=
  run_equalIn_ints w 9998 (mk 8 f) (mk 8 g) (by rw [mk_len]; exact eightUnder) wdElem (by rw [mk_len, mk_len])
theorem sched_eq (f g : Nat → Nat) (w : World) : (Op.equalIn 10000 24 (.agg (cellsOf .u32 (mk 64 f))) (.agg (cellsOf .u32 (mk 64 g)))).run Tryd.prog w = .ok (mk 64 f == mk 64 g) w :=
  run_equalIn_ints w 9998 (mk 64 f) (mk 64 g) (by rw [mk_len]; exact schedUnder) wdElem (by rw [mk_len, mk_len])
section
variable {o : Oper} {a : Act} {C : World → Prop} {K : Act → Prop}
theorem quiet_eight_eql (x y : Operand) (ho : o.op = .binOp .eql 23 x y 23) (f g : Nat → Nat) (hx : a.eval x = .agg (cellsOf .u32 (mk 8 f))) (hy : a.eval y = .agg (cellsOf .u32 (mk 8 g))) (h : (mk 8 f == mk 8 g) = true) (hk : K (a.put o.dst (.bool true))) : o.quiet Tryd.prog a C K := by
  refine quiet_value (.bool true) (fun w _ => ?_) hk
  have e := eight_eq f g w
  unfold execOp
  simp only [ho, hx, hy]
  simp [go_sem, e, h]
theorem quiet_eight_neq (x y : Operand) (ho : o.op = .binOp .neq 23 x y 23) (f g : Nat → Nat) (hx : a.eval x = .agg (cellsOf .u32 (mk 8 f))) (hy : a.eval y = .agg (cellsOf .u32 (mk 8 g))) (h : (mk 8 f != mk 8 g) = true) (hk : K (a.put o.dst (.bool true))) : o.quiet Tryd.prog a C K := by
  refine quiet_value (.bool true) (fun w _ => ?_) hk
  have e := eight_eq f g w
  have h' : (mk 8 f == mk 8 g) = false := by simpa [bne] using h
  unfold execOp
  simp only [ho, hx, hy]
  simp [go_sem, e, h']
theorem quiet_sched_eql (x y : Operand) (ho : o.op = .binOp .eql 24 x y 24) (f g : Nat → Nat) (hx : a.eval x = .agg (cellsOf .u32 (mk 64 f))) (hy : a.eval y = .agg (cellsOf .u32 (mk 64 g))) (h : (mk 64 f == mk 64 g) = true) (hk : K (a.put o.dst (.bool true))) : o.quiet Tryd.prog a C K := by
  refine quiet_value (.bool true) (fun w _ => ?_) hk
  have e := sched_eq f g w
  unfold execOp
  simp only [ho, hx, hy]
  simp [go_sem, e, h]
theorem sched_zero : Tryd.prog.built 24 [] = some (cellsOf .u32 (mk 64 zeroK)) := by kernel_rfl
theorem quiet_sched_zero (ho : o.op = .build 24 #[]) (hk : K (a.put o.dst (.agg (cellsOf .u32 (mk 64 zeroK))))) : o.quiet Tryd.prog a C K := by
  refine quiet_value _ (fun w _ => ?_) hk
  have e := run_build w 24 #[] _ sched_zero
  unfold execOp
  simp only [ho]
  simp [e]
end
end Go.Proofs.YtibbnnechjmdmaaDoor
