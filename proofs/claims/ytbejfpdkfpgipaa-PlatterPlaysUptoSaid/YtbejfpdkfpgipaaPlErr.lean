/- Small laws: max and min of integers; what bytes a list of numbers is read from. No condition. -/
import Derived.Test.YtbejfpdkfpgipaaPlBase
namespace Go.Proofs.Ytbejfpdkfpgipaa
open Go.ChangeShapes Go.WideShapes Go.ChangeAt Go.RowKit
set_option linter.unusedVariables false
section
variable {ops : Array Oper} {rest : List Oper} {o : Oper} {a : Act} {w : World} {Q : Exit → Act → World → Prop}
theorem wpList_max_ints (hw : Region.wanted o (yielded ops a.tmps) = true) (x y : Operand) (ho : o.op = .call { callee := .builtin .max, args := #[x, y], argTypes := #[3, 3] }) (i j : Int) (hx : a.eval x = .int .i64 i) (hy : a.eval y = .int .i64 j)
    (h : wpList Try.prog ops Q rest (a.put o.dst (.int .i64 (max i j))) w) : wpList Try.prog ops Q (o :: rest) a w :=
  wanted_step hw fun K hK => by
    have hm : (Builtin.max_ #[3, 3] o.type #[.int .i64 i, .int .i64 j]).run Try.prog w = .ok (.int .i64 (max i j)) w := by
      by_cases hij : i < j
      · have e : max i j = j := Int.max_eq_right (by omega)
        rw [e]
        simp [go_sem, hij]
      · have e : max i j = i := Int.max_eq_left (by omega)
        rw [e]
        simp [go_sem, hij]
    have hrun : (execOp a.eval o).run Try.prog w = .ok (.value (.int .i64 (max i j))) w := by
      simp [execOp, ho, resolve, invoke, builtin, hx, hy, hm, Result.andThen]
    unfold Oper.wp
    rw [hrun]
    exact hK _ _ h
end
end Go.Proofs.Ytbejfpdkfpgipaa
